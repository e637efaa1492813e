/- What the walk of finer wants: lists of looks; the different ones; the search among them. -/
import Derived.Test.YtnnobbbljpaieaaDoorLookFn
import Derived.Test.YtnnobbbljpaieaaDoorFinerMath
import Derived.Test.YtnnobbbljpaieaaDoorCompactF
import Derived.Test.YtnnobbbljpaieaaDoorRegionInv
namespace Go.Proofs.YtnnobbbljpaieaaDoor
open Go Go.RowKit Go.Shelf Go.Sort
attribute [local go_sem] Oper.semAt_some
set_option linter.unusedVariables false
set_option maxRecDepth 100000

/-! ### make of a list of slices -/
def madeS (w : World) (n : Nat) : World := w.alloc (.cells (madeCells #[.slice none 0 0] (n * 1)) 22)
theorem run_makeS (n : Nat) (hn : n ≤ 1048576) (w : World) :
    (Instr.makeSlice 28 (.int .i64 (n : Int)) (.int .i64 (n : Int))).run Tryd.prog w = .ok (.slice (some ⟨w.heap.size, 0, none⟩) n n) (madeS w n) := by
  obtain ⟨i0, hi, hz0, hz1, hz2⟩ := info_parts infoSlice
  have hr := run_make (P := Tryd.prog) w 28 22 i0 (.slice none 0 0) Tryd.underlying28 hi hz0 .i64 .i64 n n (by omega) (Int.le_refl _) (by rw [hz2]; omega) (by omega)
  simp only [Int.toNat_natCast, hz1] at hr
  exact hr
theorem madeS_row (w : World) (n : Nat) (hn : n ≤ 1048576) : (madeS w n).ownsRow w.heap.size 22 1 (.slice (some ⟨w.heap.size, 0, none⟩) n n) n (List.replicate n (.slice none 0 0)) := by
  have h := World.ownsRow_lit (base := w.heap.size) (e := 22) (size := 1) w (madeCells #[.slice none 0 0] (n * 1)) n (Nat.le_refl _) (by unfold maxLen; omega) (size_madeCells _ _)
  have e : (madeCells #[Value.slice none 0 0] (n * 1)).toList = List.replicate n (Value.slice none 0 0) := by
    rw [Nat.mul_one, toList_madeCells_one]
  rw [e] at h
  exact h
theorem madeS_below (w : World) (n : Nat) : Below w.heap.size w (madeS w n) := (Below.refl _ _).alloc (Nat.le_refl _) _
theorem madeS_size (w : World) (n : Nat) : (madeS w n).heap.size = w.heap.size + 1 := by simp [madeS]

/-- A look's slice, in blocks from B on. -/
def LookV (W : World) (B : Nat) (u : Value) (K : List Int) : Prop := ∃ g, u = .slice (some ⟨g, 0, none⟩) K.length K.length ∧ B ≤ g ∧ SeenB W.heap.size W (some ⟨g, 0, none⟩) K
theorem LookV.below {W W' : World} {B : Nat} {u : Value} {K : List Int} (h : LookV W B u K) (hb : Below W.heap.size W W') : LookV W' B u K := by
  obtain ⟨g, hu, hg, hs⟩ := h
  refine ⟨g, hu, hg, fun k hk => ?_⟩
  obtain ⟨b, off, hA, hlt, hc⟩ := hs k hk
  exact ⟨b, off, hA, Nat.lt_of_lt_of_le hlt hb.size, (hb.cell (p := ⟨b, off + k, none⟩) hlt).trans hc⟩
theorem LookV.kept {W W' : World} {B : Nat} {u : Value} {K : List Int} {row : Option Nat} (h : LookV W B u K) (hg : W.grownBy W' row) (hr : ∀ r, row = some r → r < B ∨ ∃ o : Obj, W.heap[r]? = some o ∧ o.isCells = false) : LookV W' B u K := by
  obtain ⟨g, hu, hgB, hs⟩ := h
  refine ⟨g, hu, hgB, fun k hk => ?_⟩
  obtain ⟨b, off, hA, hlt, hc⟩ := hs k hk
  have hbg : g = b ∧ 0 = off := by injection hA with e; injection e with e1 e2; exact ⟨e1, e2⟩
  obtain ⟨rfl, rfl⟩ := hbg
  refine ⟨g, 0, rfl, Nat.lt_of_lt_of_le hlt hg.size, ?_⟩
  have hne : some g ≠ row := fun e => by
    rcases hr g e.symm with h1 | ⟨o, ho, hoc⟩
    · omega
    · obtain ⟨c, e', fr, h2, _⟩ := cells_of_cell? hc
      rw [h2] at ho
      cases ho
      cases hoc
  have h3 := hg.block g hlt hne
  unfold World.cell? at hc ⊢
  rw [h3]
  exact hc

/-- Between two rounds of the first loop. -/
def FinI (n₀ gl bl n m s : Nat) (S S' : Value) (L C : List Int) (pre : List (Nd m s)) (W : World) : Prop :=
  Boxed W n₀ 31 S ∧ Boxed W (n₀ + 1) 22 S' ∧ Boxed W bl 28 (.slice (some ⟨gl, 0, none⟩) n n) ∧
    ∃ vs : List Value, W.ownsRow n₀ 22 1 (.slice (some ⟨gl, 0, none⟩) n n) n vs ∧ ∀ i ∈ valsN pre, ∃ u, vs[i]? = some u ∧ LookV W bl u (lookOf L C i)
theorem ownsRow_kept {W W' : World} {B k : Nat} {v : Value} {e : TypeId} {vs : List Value} {row : Option Nat} (h : W.ownsRow B e 1 v k vs) (hg : W.grownBy W' row) (hr : ∀ r, row = some r → ∃ o : Obj, W.heap[r]? = some o ∧ o.isCells = false) : W'.ownsRow B e 1 v k vs := by
  refine World.ownsRow.kept h hg ?_
  rcases h.2 with ⟨rfl, _⟩ | ⟨g, cap, cur, rfl, _, hgb, _⟩
  · exact .inl rfl
  · refine .inr fun e' => ?_
    obtain ⟨o, ho, hc⟩ := hr g (by simpa [Value.ownBlock] using e'.symm)
    rw [hgb] at ho
    cases ho
    cases hc
theorem finI_own (n₀ gl bl n m s : Nat) (S S' : Value) (L C : List Int) : Own (FinI n₀ gl bl n m s S S' L C) := fun pre X Y row hs hg hr =>
  ⟨boxed_own _ _ (fun _ : Unit => _) () X Y row hs.1 hg hr, boxed_own _ _ (fun _ : Unit => _) () X Y row hs.2.1 hg hr, boxed_own _ _ (fun _ : Unit => _) () X Y row hs.2.2.1 hg hr, by
    obtain ⟨vs, hv, hl⟩ := hs.2.2.2
    refine ⟨vs, ownsRow_kept hv hg hr, fun i hi => ?_⟩
    obtain ⟨u, hu, hk⟩ := hl i hi
    exact ⟨u, hu, hk.kept hg (fun r e => .inr (hr r e))⟩⟩

theorem nodesT_full {n Q i : Nat} (hn : n ≤ 12) (hQ : Q + 1 = 2 ^ n) (hi : i < n) : i ∈ nodesT Q := by
  rw [nodesT_mem]
  refine ⟨by omega, ?_⟩
  have e : Q = 2 ^ n - 1 := by omega
  have h : Q.testBit i = true := by rw [e, Nat.testBit_two_pow_sub_one]; simpa using hi
  rw [Nat.testBit_eq_decide_div_mod_eq, decide_eq_true_eq] at h
  exact h
theorem build_list {α β γ : Type} (f : α → β) (g : α → γ) : ∀ (xs : List β) (ys : List γ), xs.length = ys.length → (∀ i (h1 : i < xs.length) (h2 : i < ys.length), ∃ a, f a = xs[i] ∧ g a = ys[i]) → ∃ l : List α, l.map f = xs ∧ l.map g = ys
  | [], [], _, _ => ⟨[], rfl, rfl⟩
  | [], _ :: _, h, _ => by simp at h
  | _ :: _, [], h, _ => by simp at h
  | x :: xs, y :: ys, h, hh => by
    obtain ⟨l, h1, h2⟩ := build_list f g xs ys (by simpa using h) (fun i a b => by
      have := hh (i + 1) (by simpa using a) (by simpa using b)
      simpa using this)
    obtain ⟨a, e1, e2⟩ := hh 0 (by simp) (by simp)
    exact ⟨a :: l, by rw [List.map_cons, h1, e1]; rfl, by rw [List.map_cons, h2, e2]; rfl⟩
/-- A list that is filled from the front. -/
theorem fill_step (F : List Int) {j : Nat} (hj : j < F.length) : (F.take j ++ List.replicate (F.length - j) 0).set j (F[j]?.getD 0) = F.take (j + 1) ++ List.replicate (F.length - (j + 1)) 0 := by
  have hl : (F.take j).length = j := by rw [List.length_take]; omega
  have e : F.length - j = (F.length - (j + 1)) + 1 := by omega
  rw [List.set_append_right _ _ (by omega), hl, Nat.sub_self, e, List.replicate_succ, List.set_cons_zero, List.take_succ_eq_append_getElem hj, List.getElem?_eq_getElem hj, List.append_assoc]
  rfl
theorem fill_length (F : List Int) {j : Nat} (hj : j ≤ F.length) : (F.take j ++ List.replicate (F.length - j) 0).length = F.length := by
  rw [List.length_append, List.length_take, List.length_replicate]; omega
theorem holds_below {α : Type} [Inhabited α] {enc : α → Value} {W W' : World} {g : Nat} {d : Array α} (h : Holds enc W g 0 d) (hb : Below W.heap.size W W') (hg : g < W.heap.size) : Holds enc W' g 0 d := fun j hj => by
  obtain ⟨h1, h2⟩ := h j hj
  refine ⟨(hb.cell (p := ⟨g, 0 + j, none⟩) hg).trans h1, ?_⟩
  have h3 := hb.block g hg
  unfold World.frozen? at h2 ⊢
  rw [h3]
  exact h2
variable {m₀ : Nat} {w₀ : World}
theorem asc_of {D : List (Sl m₀ w₀)} (h : Ordered D) : Asc D.toArray := fun i j hij hj => by
  have hj' : j < D.length := by simpa using hj
  unfold con
  rw [getElem!_pos D.toArray i (by simp; omega), getElem!_pos D.toArray j hj]
  by_cases e : i = j
  · subst e; rw [cmpL_self]; exact Int.le_refl _
  · have h1 := List.pairwise_iff_getElem.1 h i j (by omega) hj' (by omega)
    have h2 := cmpL_swap (lst D[i]) (lst D[j])
    simp only [List.getElem_toArray]
    omega
/-- The different ones that are left. -/
structure Diff (Ls : List (List Int)) (d : Array (Sl m₀ w₀)) : Prop where
  strict : ∀ i j, i < j → j < d.size → cmpL (con d i) (con d j) < 0
  mem : ∀ x, x ∈ d.toList.map lst ↔ x ∈ Ls
theorem diff_of {D Ls : List (Sl m₀ w₀)} {k : Nat} {dk dz : Array (Sl m₀ w₀)} (hp : D.Perm Ls) (hc : Cmp D.toArray D.toArray.size k dk) (hz : dz.size = D.toArray.size) (he : ∀ j, j < k → dz[j]! = dk[j]!) :
    (dz.extract 0 k).size = k ∧ Diff (Ls.map lst) (dz.extract 0 k) := by
  have hk := hc.le
  have hsz : (dz.extract 0 k).size = k := by rw [Array.size_extract]; omega
  have hget : ∀ j, j < k → (dz.extract 0 k)[j]! = dk[j]! := fun j hj => by
    rw [← he j hj, getElem!_pos _ j (by omega), getElem!_pos dz j (by omega)]
    simp
  refine ⟨hsz, ⟨fun i j hij hj => ?_, fun x => ?_⟩⟩
  · rw [hsz] at hj
    unfold con
    rw [hget i (by omega), hget j hj]
    exact hc.strict i j hij hj
  · rw [List.mem_map, List.mem_map]
    constructor
    · rintro ⟨y, hy, rfl⟩
      obtain ⟨i, hi, rfl⟩ := List.mem_iff_getElem.1 hy
      rw [Array.length_toList, hsz] at hi
      obtain ⟨j, hj, e⟩ := hc.some i hi
      have e1 : (dz.extract 0 k).toList[i] = dk[i]! := by rw [← hget i hi, getElem!_pos _ i (by omega)]; simp
      rw [e1, e]
      have hj' : j < D.length := by simpa using hj
      refine ⟨D[j], hp.mem_iff.1 (List.getElem_mem _), ?_⟩
      rw [getElem!_pos _ j hj]
      simp
    · rintro ⟨y, hy, rfl⟩
      obtain ⟨j, hj, rfl⟩ := List.mem_iff_getElem.1 (hp.mem_iff.2 hy)
      obtain ⟨i, hi, e⟩ := hc.all j (by simpa using hj)
      refine ⟨(dz.extract 0 k).toList[i]'(by rw [Array.length_toList]; omega), List.getElem_mem _, ?_⟩
      have e1 : (dz.extract 0 k).toList[i]'(by rw [Array.length_toList]; omega) = dk[i]! := by rw [← hget i hi, getElem!_pos _ i (by omega)]; simp
      rw [e1]
      unfold con at e
      rw [e, getElem!_pos D.toArray j (by simpa using hj)]
      simp
theorem Diff.rank {Ls : List (List Int)} {d : Array (Sl m₀ w₀)} (h : Diff Ls d) (K : List Int) : d.toList.countP (fun x => decide (cmpL (lst x) K < 0)) = rankOf Ls K := by
  rw [← rank_of_nodup (D := d.toList.map lst) (Ls := Ls) ?_ h.mem K, List.countP_map]
  · rfl
  · refine List.pairwise_iff_getElem.2 fun i j hi hj hij e => ?_
    rw [List.length_map, Array.length_toList] at hi hj
    have h1 := h.strict i j hij hj
    unfold con at h1
    rw [getElem!_pos d i hi, getElem!_pos d j hj] at h1
    rw [List.getElem_map, List.getElem_map, Array.getElem_toList, Array.getElem_toList] at e
    rw [e, cmpL_self] at h1
    omega
theorem Diff.mono {Ls : List (List Int)} {d : Array (Sl m₀ w₀)} (h : Diff Ls d) (K : List Int) : ∀ a b, a ≤ b → b < d.size → cmpL (lst d[b]!) K < 0 → cmpL (lst d[a]!) K < 0 := fun a b hab hb hlt => by
  by_cases e : a = b
  · rw [e]; exact hlt
  · exact cmpL_trans (h.strict a b (by omega) hb) hlt
theorem sw_below {W W' : World} {blk : Nat} {d : Array (Sl m₀ w₀)} (hH : Holds encS W blk 0 d) (h : SW encS W blk 0 d W') : Below W.heap.size W W' := by
  obtain ⟨n, os, rfl⟩ := h
  unfold sortWorld
  rw [putRow_self encS (Sort.ahead W n) blk 0 d (holds_ahead encS W n blk 0 d hH)]
  refine ⟨rfl, rfl, rfl, by rw [size_grow]; exact Nat.le_add_right _ _, fun k hk => ?_⟩
  rw [heap_grow_old _ _ (by exact hk)]
  rfl
/-- slices.BinarySearchFunc among the different ones: how many are less. -/
theorem search_any {W : World} (hb : Below m₀ w₀ W) (hn : m₀ ≤ W.heap.size) (g cap : Nat) (d : Array (Sl m₀ w₀)) (Ls : List (List Int)) (hd : Diff Ls d) (hH : Holds encS W g 0 d) (hg : m₀ ≤ g) (hgl : g < W.heap.size) (hs : d.size ≤ 100000) (x : Sl m₀ w₀) :
    Calls Tryd.prog 56 #[.slice (some ⟨g, 0, none⟩) d.size cap, encS x, .func (.func 54) #[] #[]] W fun e w' =>
      (∃ b, e = .returned (.tuple #[.int .i64 ((rankOf Ls (lst x) : Nat) : Int), .bool b])) ∧ Below W.heap.size W w' := by
  have eg : ∀ args w, (callFunc 54 args).run Tryd.prog w = .ok (.enter 54 args) w := enters_of Tryd.func54 (by kernel_rfl) rfl
  have hcmp : CmpLaysT Tryd.prog 54 #[] encS (encS x) (fun y : Sl m₀ w₀ => cmpL (lst y) (lst x)) g 0 d.size W := fun m os dk _ y =>
    (cmpLists_any y.1.1.1 x.1.1.1 y.1.1.2 x.1.1.2 y.1.2 x.1.2 y.2.1 x.2.1 _ (y.inSort hb hn g 0 m hg encS dk os) (x.inSort hb hn g 0 m hg encS dk os)).mono fun e w' ⟨he, hw⟩ => ⟨he, 0, #[], by rw [← hw, grow_empty]; rfl⟩
  have h := Any.slices_BinarySearchFunc Tryd.searchS encS encS_one (encS x) (fun y : Sl m₀ w₀ => cmpL (lst y) (lst x)) 54 #[] g 0 cap d W eg hcmp hH hgl (by omega) (hd.mono (lst x))
  rw [hd.rank] at h
  exact h.mono fun e w' ⟨he, hw⟩ => ⟨⟨_, he⟩, sw_below hH hw⟩

end Go.Proofs.YtnnobbbljpaieaaDoor
