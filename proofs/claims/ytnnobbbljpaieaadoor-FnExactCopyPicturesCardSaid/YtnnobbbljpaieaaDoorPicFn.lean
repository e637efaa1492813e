/- The program's pictures: by a range over the nodes that fit, and a call of itself for each. -/
import Derived.Test.YtnnobbbljpaieaaDoorPicMath
import Derived.Test.YtnnobbbljpaieaaDoorMarks
import Derived.Test.YtnnobbbljpaieaaDoorBaseA
import Derived.Test.YtnnobbbljpaieaaDoorHeldRound
import Derived.Test.YtnnobbbljpaieaaDoorValKit
namespace Go.Proofs.YtnnobbbljpaieaaDoor
open Go Go.RowKit Go.Shelf
attribute [local go_sem] Oper.semAt_some
set_option linter.unusedVariables false
set_option maxRecDepth 100000

/-- append of one number where there is room: in place. -/
theorem append_fits {ops : Array Oper} {rest : List Oper} {o : Oper} {a : Act} {Q : Exit → Act → World → Prop} (hgd : o.guard = none) (s x : Operand)
    (ho : o.op = .call { callee := .builtin .append, args := #[s, x], argTypes := #[22, 22] }) (w : World) (B b n cap : Nat) (xs : List Int) (y : Int) (hn : xs.length = n)
    (hs : a.eval s = .slice (some ⟨b, 0, none⟩) n cap) (hx : a.eval x = .slice (some ⟨w.heap.size, 0, none⟩) 1 1) (hr : Row w B (.slice (some ⟨b, 0, none⟩) n cap) xs) (hcap : n + 1 ≤ cap)
    (h : ∀ w', Row w' B (.slice (some ⟨b, 0, none⟩) (n + 1) cap) (xs ++ [y]) → (w.alloc (.cells #[.int .i64 y] 3)).grownBy w' (some b) → wpList Tryd.prog ops Q rest (a.put o.dst (.slice (some ⟨b, 0, none⟩) (n + 1) cap)) w') :
    wpList Tryd.prog ops Q (o :: rest) a (w.alloc (.cells #[.int .i64 y] 3)) := by
  obtain ⟨i0, hi, hz0, hz1, hz2⟩ := info_parts infoInt
  have h0 := World.ownsRow.alloc hr (.cells #[.int .i64 y] 3)
  rw [hn] at h0
  obtain ⟨w', hrun, h1, h2⟩ := run_append_fits (P := Tryd.prog) (w.alloc (.cells #[.int .i64 y] 3)) B 22 o.type 3 i0 1 Tryd.underlying22 hi hz1 b n cap (xs.map (Value.int .i64)) h0
    ⟨w.heap.size, 0, none⟩ 1 1 [.int .i64 y] (by simp) (cell_one_new w _ _) (by simp [Value.oneCell']) hcap
  refine wpList_plain hgd fun K hK => ?_
  unfold Oper.wp
  simp [execOp, ho, resolve, invoke, builtin, hs, hx, hrun, Result.andThen]
  refine hK _ _ (h w' ?_ h2)
  unfold Row
  rw [List.length_append, hn, List.map_append]
  exact h1
/-- The beginning of a list stands where the list stands. -/
theorem row_front {w : World} {B b n cap : Nat} {xs ys : List Int} (hn : xs.length = n) (h : Row w B (.slice (some ⟨b, 0, none⟩) (n + ys.length) cap) (xs ++ ys)) : Row w B (.slice (some ⟨b, 0, none⟩) n cap) xs := by
  unfold Row at h ⊢
  obtain ⟨h0, h1⟩ := h
  refine ⟨by simp, ?_⟩
  rcases h1 with ⟨e, _⟩ | ⟨g, cap', cur, e, hb, hg, h1, h2, h3, h4⟩
  · cases e
  · injection e with e1 e2 e3
    injection e1 with e1
    injection e1 with e1
    subst e1
    subst e3
    refine .inr ⟨b, cap, cur, by rw [hn], hb, hg, by omega, h2, h3, ?_⟩
    rw [hn]
    have h5 : cur.toList.take (n * 1) = ((xs ++ ys).map (Value.int .i64)).take n := by
      rw [← h4, List.take_take]
      congr 1
      rw [List.length_append]
      omega
    rw [h5, List.map_append]
    exact List.take_left' (by rw [List.length_map, hn])

/-- How a call that counts, and writes behind a list alone, ends. -/
def PicE (w : World) (B b : Nat) (v : Value) (P : List Nat) (x : Nat) (e : Ending) (w' : World) : Prop :=
  e = .returned (.int .i64 (x : Nat)) ∧ Row w' B v (ints P) ∧ w.grownBy w' (some b)
/-- The sum over some nodes. -/
def sumP (H G : List Int) (r : Nat) (P : List Nat) (vs : List Nat) : Nat := (vs.map fun x => pics H G r (P ++ [x])).sum
theorem sumP_snoc (H G : List Int) (r : Nat) (P vs : List Nat) (v : Nat) : sumP H G r P (vs ++ [v]) = sumP H G r P vs + pics H G r (P ++ [v]) := by simp [sumP]
theorem sumP_le (H : List Int) {G : List Int} (h6 : G.length ≤ 6) (r : Nat) (P vs : List Nat) : sumP H G r P vs ≤ vs.length * 6 ^ r := sum_le _ (6 ^ r) (fun x => pics_le H h6 r (P ++ [x])) _
/-- Between two rounds: the boxes; the number so far; the list. -/
def PcI (H G : List Int) (r : Nat) (P : List Nat) (N0 n₀ m s b cap : Nat) (S S' : Value) (pre : List (Nd m s)) (W : World) : Prop :=
  Boxed W n₀ 31 S ∧ Boxed W (n₀ + 1) 31 S' ∧ Boxed W (n₀ + 1 + 1) 22 (.slice (some ⟨b, 0, none⟩) P.length cap) ∧ Boxed W (n₀ + 1 + 1 + 1) 3 (.int .i64 ((sumP H G r P (valsN pre) : Nat) : Int)) ∧ Row W N0 (.slice (some ⟨b, 0, none⟩) P.length cap) (ints P)
theorem pcI_own (H G : List Int) (r : Nat) (P : List Nat) (N0 n₀ m s b cap : Nat) (S S' : Value) : Own (PcI H G r P N0 n₀ m s b cap S S') := fun pre X Y row ⟨h0, h1, h2, h3, hr⟩ hg hrow =>
  ⟨boxed_own _ _ (fun _ : Unit => _) () X Y row h0 hg hrow, boxed_own _ _ (fun _ : Unit => _) () X Y row h1 hg hrow, boxed_own _ _ (fun _ : Unit => _) () X Y row h2 hg hrow, boxed_own _ _ (fun _ : Unit => _) () X Y row h3 hg hrow, row_kept hr hg hrow⟩

theorem grown_above {w W : World} {row : Option Nat} (h : w.grownBy W row) {p : Nat} (hp : w.heap.size ≤ p) (u : Value) : w.grownBy (W.setCell ⟨p, 0, none⟩ u) row :=
  ⟨h.os, h.tape, h.output, Nat.le_trans h.size (by simp), fun k hk hne => (Below.heap_setCell _ _ _ _ (by show k ≠ p; omega)).trans (h.block k hk hne)⟩
theorem row_cells {w : World} {B b n cap : Nat} {xs : List Int} (h : Row w B (.slice (some ⟨b, 0, none⟩) n cap) xs) : ∀ (j : Nat) (o : Obj), some b = some j → w.heap[j]? = some o → o.isCells = true := fun j o e ho => by
  injection e with e
  subst e
  rcases h.2 with ⟨e, _⟩ | ⟨g, cap', cur, e, _, hg, _⟩
  · cases e
  · injection e with e1 e2 e3
    injection e1 with e1
    injection e1 with e1
    subst e1
    rw [hg] at ho
    cases ho
    rfl
theorem Row.keptSet {w : World} {B b n cap : Nat} {xs : List Int} (h : Row w B (.slice (some ⟨b, 0, none⟩) n cap) xs) {p : Nat} (hp : b ≠ p) (u : Value) : Row (w.setCell ⟨p, 0, none⟩ u) B (.slice (some ⟨b, 0, none⟩) n cap) xs :=
  World.ownsRow.kept h (grownBy_setCell' w p u) (.inr (by show some b ≠ some p; exact ne_some hp))
theorem grown_put {w W : World} {row : Option Nat} (h : w.grownBy W row) {p : Nat} (hp : w.heap.size ≤ p) (o : Obj) : w.grownBy (W.putObj p o) row :=
  ⟨h.os, h.tape, h.output, by rw [World.putObj_size]; exact h.size, fun k hk hne => (World.putObj_heap_other (by omega)).trans (h.block k hk hne)⟩
theorem ownFrom_grown {β : Type} {B : Nat} {w₀ : World} {row : Option Nat} (hB : w₀.heap.size ≤ B) : OwnFrom B (fun (_ : β) W => w₀.grownBy W row) := fun _ X Y row2 hs hg hr =>
  ⟨hg.os.trans hs.os, hg.tape.trans hs.tape, hg.output.trans hs.output, Nat.le_trans hs.size hg.size, fun k hk hne => (hg.block k (Nat.lt_of_lt_of_le hk hs.size) (fun e => by have := (hr k e.symm).1; omega)).trans (hs.block k hk hne)⟩

set_option maxHeartbeats 4000000 in
theorem implPics_zero (H G : List Int) (A A' : Option Addr) (c c' b cap N0 : Nat) (P : List Nat) (w : World) (hr : P.length = H.length) (hv : Row w N0 (.slice (some ⟨b, 0, none⟩) P.length cap) (ints P)) :
    CallsIn Fence.wide 12 Tryd.prog 30 #[.slice A H.length c, .slice A' G.length c', .slice (some ⟨b, 0, none⟩) P.length cap] w (PicE w N0 b (.slice (some ⟨b, 0, none⟩) P.length cap) P 1) := by
  have HV := Lib.hid hv
  have hb : b < w.heap.size := (hv.lt b rfl).2
  obtain ⟨k, hk⟩ : ∃ k, k = P.length := ⟨_, rfl⟩
  rw [← hk] at hr HV ⊢
  rw [← hr]
  clear hk hv hr
  refine callsIn_of_wp_marks Tryd.func30 rfl trivial ?_ rfl
  simp only [Tryd.ntmps30, List.size_toArray, List.length_cons, List.length_nil, Nat.reduceAdd, Nat.reduceSub, Array.replicate_succ, Array.replicate_zero, List.push_toArray, List.append_toArray, List.nil_append, List.cons_append]
  gi_wp2
  refine ⟨_, results_tmp rfl _ _ _, ?_⟩
  exact ⟨rfl, (((HV.out.alloc _).alloc _).alloc _), ((World.grownBy_alloc w _ (some b)).trans (World.grownBy_alloc _ _ (some b))).trans (World.grownBy_alloc _ _ (some b))⟩

set_option maxHeartbeats 8000000 in
theorem implPics_in (H G : List Int) (hH : IsGraph H) (hG : IsGraph G) (A A' : Option Addr) (c c' cap N0 : Nat) (hN0 : 2 ≤ N0) (hcap : H.length ≤ cap) (r : Nat)
    (ih : ∀ (b : Nat) (P : List Nat) (w : World), P.length + r = H.length → (∀ p ∈ P, p < G.length) → SeenB N0 w A H → SeenB N0 w A' G → Row w N0 (.slice (some ⟨b, 0, none⟩) P.length cap) (ints P) → Tab w → N0 ≤ w.heap.size →
      Calls Tryd.prog 30 #[.slice A H.length c, .slice A' G.length c', .slice (some ⟨b, 0, none⟩) P.length cap] w (PicE w N0 b (.slice (some ⟨b, 0, none⟩) P.length cap) P (pics H G r P)))
    (b : Nat) (P : List Nat) (w : World) (hr : P.length + (r + 1) = H.length) (hp : ∀ p ∈ P, p < G.length) (hA : SeenB N0 w A H) (hA' : SeenB N0 w A' G) (hv : Row w N0 (.slice (some ⟨b, 0, none⟩) P.length cap) (ints P)) (hT : Tab w) (hNw : N0 ≤ w.heap.size) :
    CallsIn Fence.wide 12 Tryd.prog 30 #[.slice A H.length c, .slice A' G.length c', .slice (some ⟨b, 0, none⟩) P.length cap] w (PicE w N0 b (.slice (some ⟨b, 0, none⟩) P.length cap) P (pics H G (r + 1) P)) := by
  have h6 := hH.2.1
  have g6 := hG.2.1
  have g1 := hG.1
  have hblt := (hv.lt b rfl)
  obtain ⟨Q, hQ⟩ : ∃ Q, Q + 1 = 2 ^ G.length := ⟨2 ^ G.length - 1, by have := two_pos G.length; omega⟩
  have hPl : P.length < H.length := by omega
  have HSUM := Lib.hid (sum_fit hH hG hPl hp r)
  have HFL := Lib.hid (fun j => fitS_lt H G P j)
  have HF0 := Lib.hid (show fitS H G P 0 = Q by unfold fitS; omega)
  have HFS := Lib.hid (fun j => fitS_succ H G P j)
  have HSL := Lib.hid (fun vs => sumP_le H g6 r P vs)
  have hpow : 6 ^ r ≤ 46656 := Nat.le_trans (Nat.pow_le_pow_right (by omega) (show r ≤ 6 by omega)) (by decide)
  have HPW := Lib.hid hpow
  have HPC := Lib.hid (fun x => Nat.le_trans (pics_le H g6 r (P ++ [x])) hpow)
  obtain ⟨bh, oh, rfl, hbh, _⟩ := hA 0 (by omega)
  obtain ⟨bg, og, rfl, hbg, _⟩ := hA' 0 (by omega)
  obtain ⟨k, hk⟩ : ∃ k, k = P.length := ⟨_, rfl⟩
  obtain ⟨h, hh⟩ : ∃ h, h = H.length := ⟨_, rfl⟩
  obtain ⟨g, hg⟩ : ∃ g, g = G.length := ⟨_, rfl⟩
  have IH := Lib.hid (fun (y : Nat) (hy : y < g) (w' : World) (h1 : SeenB N0 w' (some ⟨bh, oh, none⟩) H) (h2 : SeenB N0 w' (some ⟨bg, og, none⟩) G) (h3 : Row w' N0 (.slice (some ⟨b, 0, none⟩) (P ++ [y]).length cap) (ints (P ++ [y]))) (h4 : Tab w') (h5 : N0 ≤ w'.heap.size) =>
    ih b (P ++ [y]) w' (by rw [List.length_append]; simp; omega) (fun p hp' => by
      rcases List.mem_append.1 hp' with h | h
      · exact hp p h
      · simp at h; omega) h1 h2 h3 h4 h5)
  simp only [List.length_append, List.length_singleton, ← hk, ← hh, ← hg] at IH
  rw [← hk] at hv hr hPl ⊢
  rw [← hh] at hcap h6 hr hPl ⊢
  rw [← hg] at g6 g1 hQ ⊢
  have HV := Lib.hid hv
  have HA := Lib.hid hA
  have HA' := Lib.hid hA'
  have HT := Lib.hid hT
  have HHG := Lib.hid hH
  have HGG := Lib.hid hG
  have HP := Lib.hid hp
  have HK := Lib.hid hk
  have HH := Lib.hid hh
  have HG := Lib.hid hg
  have HQ := Lib.hid hQ
  have hb : ((k : Int) == (h : Int)) = false := by simp; omega
  clear ih hv hA hA' hT hH hG hp hk hh hg hpow hQ
  refine callsIn_of_wp_marks Tryd.func30 rfl trivial ?_ rfl
  simp only [Tryd.ntmps30, List.size_toArray, List.length_cons, List.length_nil, Nat.reduceAdd, Nat.reduceSub, Array.replicate_succ, Array.replicate_zero, List.push_toArray, List.append_toArray, List.nil_append, List.cons_append]
  gi_wp2_with (refine ⟨trivial, ?_⟩; gi_at_call 41; refine (callsIn_wide.2 (all_any (some ⟨bg, og, none⟩) g c' Q g6 HQ.out _)).mono ?_; rintro e w' ⟨rfl, rfl⟩)
  obtain ⟨W0, eW0⟩ : ∃ W0, W0 = ((w.alloc (.cells #[.slice (some ⟨bh, oh, none⟩) h c] 31)).alloc (.cells #[.slice (some ⟨bg, og, none⟩) g c'] 31)).alloc (.cells #[.slice (some ⟨b, 0, none⟩) k cap] 22) := ⟨_, rfl⟩
  rw [← eW0]
  have hgr : w.grownBy W0 (some b) := by
    rw [eW0]
    exact ((World.grownBy_alloc w _ (some b)).trans (World.grownBy_alloc _ _ (some b))).trans (World.grownBy_alloc _ _ (some b))
  have rv : Row W0 N0 (.slice (some ⟨b, 0, none⟩) k cap) (ints P) := by
    rw [eW0]
    exact ((HV.out.alloc _).alloc _).alloc _
  have sW : W0.heap.size = w.heap.size + 1 + 1 + 1 := by rw [eW0]; simp
  have b0 : Boxed W0 w.heap.size 31 (.slice (some ⟨bh, oh, none⟩) h c) := by rw [eW0]; exact ((Boxed.new w _ _).alloc _).alloc _
  have b1 : Boxed W0 (w.heap.size + 1) 31 (.slice (some ⟨bg, og, none⟩) g c') := by
    rw [eW0]; have h := Boxed.new (w.alloc (.cells #[.slice (some ⟨bh, oh, none⟩) h c] 31)) 31 (.slice (some ⟨bg, og, none⟩) g c'); rw [World.size_alloc] at h; exact h.alloc _
  have b2 : Boxed W0 (w.heap.size + 1 + 1) 22 (.slice (some ⟨b, 0, none⟩) k cap) := by
    rw [eW0]; have h := Boxed.new ((w.alloc (.cells #[.slice (some ⟨bh, oh, none⟩) h c] 31)).alloc (.cells #[.slice (some ⟨bg, og, none⟩) g c'] 31)) 22 (.slice (some ⟨b, 0, none⟩) k cap); rw [World.size_alloc, World.size_alloc] at h; exact h
  obtain ⟨n₀, en⟩ : ∃ n₀, n₀ = w.heap.size := ⟨_, rfl⟩
  rw [← en] at sW b0 b1 b2 hNw hblt ⊢
  have EN := Lib.hid en
  have hB0 : Below N0 w W0 := (Below.refl N0 w).grown hgr (by omega) (fun k hk => by cases hk; exact hblt.1)
  have SA := Lib.hid (HA.out.below hB0)
  have SA' := Lib.hid (HA'.out.below hB0)
  have HGR := Lib.hid hgr
  have HB0 := Lib.hid hB0
  have RV := Lib.hid rv
  have B0 := Lib.hid b0
  have B1 := Lib.hid b1
  have B2 := Lib.hid b2
  have z0 := b0.cell
  have z1 := b1.cell
  have z2 := b2.cell
  have TW := Lib.hid (HT.out.below hB0 hN0)
  clear eW0 hgr rv b0 b1 b2 hB0 en
  gi_loopw [8, 23] (fun f i wr => ∃ j : Nat, j ≤ k ∧ i = .int .i64 j ∧ f = .int .i64 ((fitS H G P j : Nat) : Int) ∧ wr = W0) (fun _ i _ => k - (intOf i).toNat)
  case atStart => exact ⟨0, Nat.zero_le _, rfl, by rw [HF0.out], rfl⟩
  case round =>
    obtain ⟨j, hj, rfl, rfl, ew⟩ := hrel
    subst ew
    by_cases hjk : j < k
    · have hst := HFS.out j
      have hfl := HFL.out j
      have hXr := (HHG.out.2.2 j (by have := HH.out; omega)).1
      have hX := ent_int hXr
      have hXl := ent_lt hXr
      have h64 := two_le (n := H.length) (by have := HH.out; omega)
      obtain ⟨X, eX⟩ : ∃ X, X = ent H j := ⟨_, rfl⟩
      rw [← eX] at hX hXl
      obtain ⟨bh1, oh1, hA1, _, hch⟩ := SA.out j (by have := HH.out; omega)
      obtain ⟨rfl, rfl⟩ : bh = bh1 ∧ oh = oh1 := by injection hA1 with e; injection e with e1 e2; exact ⟨e1, e2⟩
      rw [hX] at hch
      have hX64 : X < 64 := by omega
      have hqe : (ints P)[j]?.getD 0 = ((P[j]?.getD 0 : Nat) : Int) := by
        have hjl : j < P.length := by rw [← HK.out]; exact hjk
        simp [ints, hjl]
      have hcb : wr.cell? ⟨b, j, none⟩ = some (.int .i64 ((ints P)[j]?.getD 0)) := RV.out.cellAt j (by rw [ints_length, ← HK.out]; exact hjk)
      rw [hqe] at hcb
      have hql : P[j]?.getD 0 < G.length := by
        rw [List.getElem?_eq_getElem (by rw [← HK.out]; exact hjk)]
        exact HP.out _ (List.getElem_mem _)
      obtain ⟨q, eq⟩ : ∃ q, q = P[j]?.getD 0 := ⟨_, rfl⟩
      rw [← eq] at hcb hql hst
      have hYr := (HGG.out.2.2 q hql).1
      have hY := ent_int hYr
      have hYl := ent_lt hYr
      have h64g := two_le (n := G.length) (by have := HG.out; omega)
      obtain ⟨Y, eY⟩ : ∃ Y, Y = ent G q := ⟨_, rfl⟩
      rw [← eY] at hY hYl hst
      obtain ⟨bg1, og1, hA2, _, hcg⟩ := SA'.out q hql
      obtain ⟨rfl, rfl⟩ : bg = bg1 ∧ og = og1 := by injection hA2 with e; injection e with e1 e2; exact ⟨e1, e2⟩
      rw [hY] at hcg
      obtain ⟨F, eF⟩ : ∃ F, F = fitS H G P j := ⟨_, rfl⟩
      rw [← eF] at hst hfl ⊢
      have hF64 : F < 64 := by omega
      have hY64 : Y < 64 := by omega
      have f1 := i64_and_nat F Y (by omega) (by omega)
      rw [show bt H j P.length = X / 2 ^ k % 2 by unfold bt; rw [← HK.out, ← eX]] at hst
      have hqg : q < g := by have := HG.out; omega
      have hE := Lib.hid (fun W hc => edge_any bh oh h c j k X W (by omega) (by omega) (by omega) hc)
      have HST := Lib.hid hst
      have hj1 : (0 : Int) ≤ (j : Int) ∧ (j : Int) < (k : Int) := by omega
      have hq1 : (0 : Int) ≤ (q : Int) ∧ (q : Int) < (g : Int) := by omega
      have hbx : ∃ bx : Bool, bx = (X / 2 ^ k % 2 == 1) := ⟨_, rfl⟩
      obtain ⟨bx, ebx⟩ := hbx
      rw [← ebx] at hE
      have EBX := Lib.hid ebx
      have HCH := Lib.hid hch
      clear hst hfl hXr hX hXl h64 eX hA1 hqe eq hYr hY hYl h64g eY hA2 eF hql ebx
      cases bx with
      | true =>
        gi_wp2_with (refine ⟨trivial, ?_⟩; gi_at_call 35; refine (callsIn_wide.2 (hE.out _ HCH.out)).mono ?_; rintro e w' ⟨rfl, rfl⟩)
        go_roundw
        case rel => exact ⟨j + 1, by omega, by go_num, by rw [HST.out, if_pos (by have := EBX.out; simpa using this.symm)], by trivial⟩
        case measure => simp [intOf]; omega
      | false =>
        gi_wp2_with (refine ⟨trivial, ?_⟩; gi_at_call 35; refine (callsIn_wide.2 (hE.out _ HCH.out)).mono ?_; rintro e w' ⟨rfl, rfl⟩)
        go_roundw
        case rel => exact ⟨j + 1, by omega, by go_num, by rw [HST.out, if_neg (by have := EBX.out; simpa using this.symm)], by trivial⟩
        case measure => simp [intOf]; omega
    · have hjk2 : k = j := by omega
      subst hjk2
      have hsum := HSUM.out
      have hfl := HFL.out k
      rw [← HK.out] at hsum
      obtain ⟨F, eF⟩ : ∃ F, F = fitS H G P k := ⟨_, rfl⟩
      rw [← eF] at hsum hfl ⊢
      rw [← HG.out] at hfl
      have HS := Lib.hid hsum
      clear hsum eF
      gi_wp2_with (refine ⟨trivial, ?_⟩; gi_at_call 34; refine (callsIn_wide.2 (nodesIn_any F _)).mono ?_; rintro e w' ⟨rfl, rfl⟩)
      obtain ⟨W, eW⟩ : ∃ W, W = (wr.alloc (.cells #[.int .i64 0] 3)).alloc (.cells #[.int .i64 (F : Int)] 3) := ⟨_, rfl⟩
      have sWq : W.heap.size = n₀ + 1 + 1 + 1 + 1 + 1 := by rw [eW]; simp [sW]
      have hgW : w.grownBy W (some b) := by rw [eW]; exact (HGR.out.trans (World.grownBy_alloc _ _ (some b))).trans (World.grownBy_alloc _ _ (some b))
      have rW : Row W N0 (.slice (some ⟨b, 0, none⟩) P.length cap) (ints P) := by rw [eW, ← HK.out]; exact ((RV.out.alloc _).alloc _)
      have c0 : Boxed W n₀ 31 (.slice (some ⟨bh, oh, none⟩) h c) := by rw [eW]; exact (B0.out.alloc _).alloc _
      have c1 : Boxed W (n₀ + 1) 31 (.slice (some ⟨bg, og, none⟩) g c') := by rw [eW]; exact (B1.out.alloc _).alloc _
      have c2 : Boxed W (n₀ + 1 + 1) 22 (.slice (some ⟨b, 0, none⟩) P.length cap) := by rw [eW, ← HK.out]; exact (B2.out.alloc _).alloc _
      have c3 : Boxed W (n₀ + 1 + 1 + 1) 3 (.int .i64 ((sumP H G r P (valsN ([] : List (Nd g F))) : Nat) : Int)) := by rw [eW, ← sW]; exact (Boxed.new wr _ _).alloc _
      have c4 : W.cell? ⟨n₀ + 1 + 1 + 1 + 1, 0, none⟩ = some (.int .i64 F) := by
        rw [eW]; have h := Boxed.new (wr.alloc (.cells #[.int .i64 0] 3)) 3 (.int .i64 F); rw [World.size_alloc, sW] at h; exact h.cell
      have hBW : Below N0 w W := by rw [eW]; exact (HB0.out.alloc (by have := hNw; omega) _).alloc (by simp; omega) _
      have hTW : Tab W := HT.out.below hBW hN0
      rw [← eW]
      clear eW
      have SW := Lib.hid sWq
      have hle : N0 ≤ w.heap.size := by have := EN.out; omega
      clear z0 z1 z2
      refine wpIn_rangeFunc_ownF (α := Nd g F) rfl (by omega) (gf := 42) (lb := #[.pointer (some ⟨n₀ + 1 + 1 + 1 + 1, 0, none⟩)]) rfl trivial (enters_of Tryd.func42 (by kernel_rfl) rfl)
        (nodes_stops _ (n₀ + 1 + 1 + 1 + 1) g F N0 (by omega) g6 hfl W (by omega) c4 hTW hN0 (by omega)) belowK_t (belowK_b (by omega)) (Below.refl _ _) (fun _ => rfl)
        (fun pre Z => PcI H G r P N0 n₀ g F b cap (.slice (some ⟨bh, oh, none⟩) h c) (.slice (some ⟨bg, og, none⟩) g c') pre Z ∧ (Below N0 w Z ∧ w.grownBy Z (some b))) (fun _ _ _ => False)
        (OwnFrom.and (Own.from (pcI_own H G r P N0 n₀ g F b cap _ _) _) (OwnFrom.and (ownFrom_below hle (by omega)) (ownFrom_grown (by have := EN.out; omega)))) (fun _ _ _ _ _ hs _ _ => hs)
        ⟨⟨c0, c1, c2, c3, rW⟩, hBW, hgW⟩
        (fun x => { tmps := #[.slice (some ⟨bh, oh, none⟩) h c, .slice (some ⟨bg, og, none⟩) g c', .slice (some ⟨b, 0, none⟩) k cap, .pointer (some ⟨n₀, 0, none⟩), .pointer (some ⟨n₀ + 1, 0, none⟩), .pointer (some ⟨n₀ + 1 + 1, 0, none⟩), .int .i64 0, .int .i64 (k : Int), .int .i64 (F : Int), u9, u10,
          .pointer (some ⟨n₀ + 1 + 1 + 1, 0, none⟩), .int .i64 (x.1 : Int), .slice (some ⟨b, 0, none⟩) k cap, .int .i64 (k : Int), .int .i64 (k : Int), .slice (some ⟨bh, oh, none⟩) h c, .int .i64 (h : Int), .bool false, .slice (some ⟨bg, og, none⟩) g c', .int .i64 (Q : Int), .slice (some ⟨b, 0, none⟩) k cap, .int .i64 (k : Int), .int .i64 (k : Int),
          .bool false, u25, u26, u27, u28, u29, u30, u31, u32, u33, u34, u35, u36, u37, u38, .int .i64 (F : Int), .func (.func 42) #[] #[.pointer (some ⟨n₀ + 1 + 1 + 1 + 1, 0, none⟩)], .int .i64 (x.1 : Int), undef, undef, undef, undef, undef, undef, undef, undef, undef, undef], defers := [] }) ?assign ?body ?done ?stop
      case assign =>
        intro l x Z K hK
        gi_wp2
        exact hK
      case body =>
        rintro l pre x Z ⟨⟨d0, d1, d2, d3, hr⟩, hB, hgz⟩ hlen
        have hvs : sumP H G r P (valsN (pre ++ [x])) = sumP H G r P (valsN pre) + pics H G r (P ++ [x.1]) := by rw [valsN_snoc, sumP_snoc]
        have hc6 := HSL.out (valsN pre)
        rw [valsN_length] at hc6
        have hxn := x.2.1
        obtain ⟨y, ey⟩ : ∃ y : Nat, y = x.1 := ⟨_, rfl⟩
        rw [← ey] at hvs hxn
        rw [← ey]
        obtain ⟨cn, ecn⟩ : ∃ cn, cn = sumP H G r P (valsN pre) := ⟨_, rfl⟩
        rw [← ecn] at hvs hc6 d3
        have hpy := HPC.out y
        have IHY := Lib.hid (IH.out y hxn)
        obtain ⟨py, epy⟩ : ∃ py, py = pics H G r (P ++ [y]) := ⟨_, rfl⟩
        rw [← epy] at hvs hpy IHY
        have hcn : cn ≤ 279936 := Nat.le_trans hc6 (Nat.le_trans (Nat.mul_le_mul (show pre.length ≤ 6 by omega) HPW.out) (by decide))
        have hsZ := HA.out.below hB
        have hsZ' := HA'.out.below hB
        have hTZ : Tab Z := HT.out.below hB hN0
        rw [← HK.out] at d2 hr
        have hNZ : N0 ≤ Z.heap.size := Nat.le_trans hle hB.size
        have hbn : b < n₀ := hblt.2
        have F3 : Hid (wrap64 ((cn : Int) + (py : Int)) = ((cn + py : Nat) : Int)) := Lib.hid (by unfold wrap64; omega)
        have HVS := Lib.hid hvs
        have D0 := Lib.hid d0
        have D1 := Lib.hid d1
        have D2 := Lib.hid d2
        have D3 := Lib.hid d3
        have HR := Lib.hid hr
        have HBZ := Lib.hid hB
        have HGZ := Lib.hid hgz
        have HSZ := Lib.hid hsZ
        have HSZ' := Lib.hid hsZ'
        have HTZ := Lib.hid hTZ
        have hS0 : Z.drew.cell? ⟨n₀, 0, none⟩ = some (.slice (some ⟨bh, oh, none⟩) h c) ∧ Z.drew.cell? ⟨n₀ + 1, 0, none⟩ = some (.slice (some ⟨bg, og, none⟩) g c') ∧ Z.drew.cell? ⟨n₀ + 1 + 1, 0, none⟩ = some (.slice (some ⟨b, 0, none⟩) k cap) ∧ Z.drew.cell? ⟨n₀ + 1 + 1 + 1, 0, none⟩ = some (.int .i64 (cn : Int)) := ⟨d0.cell, d1.cell, d2.cell, d3.cell⟩
        clear hvs hc6 ey ecn epy hsZ hsZ' hTZ d0 d1 d2 d3 hr hB hgz c0 c1 c2 c3 c4 rW hBW hTW hgW
        gi_wp2
        refine wpIn_held_round 9 (fun W' => W'.cell? ⟨n₀, 0, none⟩ = some (.slice (some ⟨bh, oh, none⟩) h c) ∧ W'.cell? ⟨n₀ + 1, 0, none⟩ = some (.slice (some ⟨bg, og, none⟩) g c') ∧ W'.cell? ⟨n₀ + 1 + 1, 0, none⟩ = some (.slice (some ⟨b, 0, none⟩) k cap) ∧ W'.cell? ⟨n₀ + 1 + 1 + 1, 0, none⟩ = some (.int .i64 (cn : Int))) (by kernel_rfl) (by rfl) (by kernel_rfl) (by kernel_rfl) (by kernel_rfl) (by kernel_rfl) ?_
        simp only [List.take_succ_cons, List.take_zero, List.drop_succ_cons, List.drop_zero]
        refine wpAnyH_take (i := 0) (v := .int .i64 (cn : Int)) rfl (by kernel_rfl) (by kernel_rfl) (by kernel_rfl) (fun _ _ _ h => h) (Or.inl ⟨by rfl, ?_⟩) hS0 ?_
        · rintro w' ⟨q0, q1, q2, q3⟩
          go_simp
        simp only [Act.put, List.setIfInBounds_toArray]
        refine wpAnyH_take (i := 1) (v := .slice (some ⟨bh, oh, none⟩) h c) rfl (by kernel_rfl) (by kernel_rfl) (by kernel_rfl) (fun _ _ _ h => h) (Or.inl ⟨by rfl, ?_⟩) hS0 ?_
        · rintro w' ⟨q0, q1, q2, q3⟩
          go_simp
        simp only [Act.put, List.setIfInBounds_toArray]
        refine wpAnyH_take (i := 2) (v := .slice (some ⟨bg, og, none⟩) g c') rfl (by kernel_rfl) (by kernel_rfl) (by kernel_rfl) (fun _ _ _ h => h) (Or.inl ⟨by rfl, ?_⟩) hS0 ?_
        · rintro w' ⟨q0, q1, q2, q3⟩
          go_simp
        simp only [Act.put, List.setIfInBounds_toArray]
        refine wpAnyH_take (i := 3) (v := .slice (some ⟨b, 0, none⟩) k cap) rfl (by kernel_rfl) (by kernel_rfl) (by kernel_rfl) (fun _ _ _ h => h) (Or.inl ⟨by rfl, ?_⟩) hS0 ?_
        · rintro w' ⟨q0, q1, q2, q3⟩
          go_simp
        simp only [Act.put, List.setIfInBounds_toArray]
        refine wpAnyH_take (i := 4) (v := .int .i64 (y : Int)) rfl (by kernel_rfl) (by kernel_rfl) (by kernel_rfl) (fun _ _ _ h => h) (Or.inl ⟨by rfl, ?_⟩) hS0 ?_
        · rintro w' ⟨q0, q1, q2, q3⟩
          go_simp
        simp only [Act.put, List.setIfInBounds_toArray]
        refine wpAnyH_rest 5 4 (by rfl) (by kernel_rfl) ?_
        simp only [List.drop_succ_cons, List.drop_zero]
        refine tailH_cons ?_
        clear hS0
        go_wp2
        refine ⟨⟨(Boxed.alloc (W := Z.drew) (t := 31) D0.out _).cell, (Boxed.alloc (W := Z.drew) (t := 31) D1.out _).cell, (Boxed.alloc (W := Z.drew) (t := 22) D2.out _).cell, (Boxed.alloc (W := Z.drew) (t := 3) D3.out _).cell⟩, ?_⟩
        refine tailH_cons ?_
        have hrd : Row Z.drew N0 (.slice (some ⟨b, 0, none⟩) k cap) (ints P) := HR.out
        have HRD := Lib.hid hrd
        have hpl : (ints P).length = k := by rw [ints_length, ← HK.out]
        have HPLN := Lib.hid hpl
        clear hrd hpl
        go_wp2_with (at_builtin; refine append_fits rfl (.tmp 45) (.tmp 47) rfl Z.drew N0 b k cap (ints P) (y : Int) HPLN.out rfl rfl HRD.out (by omega) ?_; intro w1 hr1 hg1; have HR1 := Lib.hid hr1; have HG1 := Lib.hid hg1; clear hr1 hg1)
        have e0 := (Boxed.alloc (W := Z.drew) (t := 31) D0.out (.cells #[.int .i64 (y : Int)] 3)).kept HG1.out (ne_some (by omega))
        have e1 := (Boxed.alloc (W := Z.drew) (t := 31) D1.out (.cells #[.int .i64 (y : Int)] 3)).kept HG1.out (ne_some (by omega))
        have e2 := (Boxed.alloc (W := Z.drew) (t := 22) D2.out (.cells #[.int .i64 (y : Int)] 3)).kept HG1.out (ne_some (by omega))
        have e3 := (Boxed.alloc (W := Z.drew) (t := 3) D3.out (.cells #[.int .i64 (y : Int)] 3)).kept HG1.out (ne_some (by omega))
        refine ⟨⟨e0.cell, e1.cell, e2.cell, e3.cell⟩, ?_⟩
        have hz1 : Z.grownBy w1 (some b) := (grown_drew (World.grownBy.refl Z (some b))).trans ((World.grownBy_alloc Z.drew _ (some b)).trans HG1.out)
        have hw1 : w.grownBy w1 (some b) := HGZ.out.trans hz1
        have hb1 : Below N0 w w1 := (Below.refl N0 w).grown hw1 hle (fun k hk => by cases hk; exact hblt.1)
        have hr1 := HR1.out
        rw [show ints P ++ [(y : Int)] = ints (P ++ [y]) by simp [ints]] at hr1
        have HCALL := Lib.hid (IHY.out w1 (HA.out.below hb1) (HA'.out.below hb1) hr1 (HT.out.below hb1 hN0) (Nat.le_trans hle hb1.size))
        have HZ1 := Lib.hid hz1
        have E0 := Lib.hid e0
        have E1 := Lib.hid e1
        have E2 := Lib.hid e2
        have E3 := Lib.hid e3
        clear e0 e1 e2 e3 hz1 hw1 hb1 hr1
        refine tailH_cons ?_
        go_wp2_with fail
        refine HCALL.out.mono ?_
        rintro e w2 ⟨rfl, hr2, hg2⟩
        have e0 := E0.out.kept hg2 (ne_some (by omega))
        have e1 := E1.out.kept hg2 (ne_some (by omega))
        have e2 := E2.out.kept hg2 (ne_some (by omega))
        have e3 := E3.out.kept hg2 (ne_some (by omega))
        have HZ2 := Lib.hid (HZ1.out.trans hg2)
        have hr2' : Row w2 N0 (.slice (some ⟨b, 0, none⟩) (k + 1) cap) (ints P ++ [(y : Int)]) := by
          have h0 := hr2
          rw [show ints (P ++ [y]) = ints P ++ [(y : Int)] by simp [ints]] at h0
          exact h0
        have HR2 := Lib.hid (row_front (ys := [(y : Int)]) HPLN.out hr2')
        have G0 := Lib.hid e0
        have G1 := Lib.hid e1
        have G2 := Lib.hid e2
        have G3 := Lib.hid e3
        clear hr2 hr2' hg2 e0 e1 e2 e3
        go_wp2
        refine ⟨⟨G0.out.cell, G1.out.cell, G2.out.cell, G3.out.cell⟩, ?_⟩
        refine tailH_cons ?_
        go_wp2
        refine ⟨⟨G0.out.cell, G1.out.cell, G2.out.cell, G3.out.cell⟩, ?_⟩
        change wpListIn _ _ _ _ _ _ _ _
        have y3 := G3.out.cell
        have y4 := G3.out.frozen
        gi_wp2
        have hzf : Z.grownBy w2 (some b) := HZ2.out
        have hbf : Below N0 Z w2 := (Below.refl N0 Z).grown hzf hNZ (fun k hk => by cases hk; exact hblt.1)
        refine ⟨(KeepsOthers.of_grownBy hzf (row_cells HR.out)).trans (KeepsOthers.setCell _ _ _), hbf.setCell (p := ⟨n₀ + 1 + 1 + 1, 0, none⟩) (by show N0 ≤ n₀ + 1 + 1 + 1; omega) _, ⟨G0.out.other (by omega) _, G1.out.other (by omega) _, ?_, ?_, ?_⟩, (HBZ.out.trans hbf).setCell (p := ⟨n₀ + 1 + 1 + 1, 0, none⟩) (by show N0 ≤ n₀ + 1 + 1 + 1; omega) _, grown_above (HGZ.out.trans hzf) (by have := EN.out; omega) _⟩
        · rw [← HK.out]; exact G2.out.other (by omega) _
        · rw [HVS.out, Int.natCast_add]; exact G3.out.set _
        · rw [← HK.out]
          exact Row.keptSet HR2.out (by have := hblt.2; omega) _
      case done =>
        rintro D xs Z hD hS ⟨⟨d0, d1, d2, d3, hr⟩, hB, hgz⟩ hK
        have hsum : sumP H G r P (valsN xs) = pics H G (r + 1) P := by rw [hS]; exact HS.out
        rw [hsum] at d3
        have z3 := d3.cell
        have HGZ := Lib.hid hgz
        have HR := Lib.hid hr
        clear hsum hS hgz hr
        gi_wp2
        refine ⟨by simp, .inl ⟨_, _, rfl, run_takeDeferred hK, ?_⟩⟩
        refine ⟨_, results_tmp rfl _ _ _, ?_⟩
        refine ⟨rfl, ?_, ?_⟩
        · rw [HK.out]
          exact ownsRow_putObj HR.out (.deferred none) hK rfl
        · exact grown_put HGZ.out (by have := SW.out; have := EN.out; omega) _
      case stop =>
        rintro D cd pre W _ _ h _
        exact h.elim

theorem implPics_any (H G : List Int) (hH : IsGraph H) (hG : IsGraph G) (A A' : Option Addr) (c c' cap N0 : Nat) (hN0 : 2 ≤ N0) (hcap : H.length ≤ cap) : ∀ (r b : Nat) (P : List Nat) (w : World), P.length + r = H.length → (∀ p ∈ P, p < G.length) → SeenB N0 w A H → SeenB N0 w A' G → Row w N0 (.slice (some ⟨b, 0, none⟩) P.length cap) (ints P) → Tab w → N0 ≤ w.heap.size →
    Calls Tryd.prog 30 #[.slice A H.length c, .slice A' G.length c', .slice (some ⟨b, 0, none⟩) P.length cap] w (PicE w N0 b (.slice (some ⟨b, 0, none⟩) P.length cap) P (pics H G r P))
  | 0, b, P, w, hr, hp, hA, hA', hv, hT, hN => callsIn_wide.1 (implPics_zero H G A A' c c' b cap N0 P w hr hv)
  | r + 1, b, P, w, hr, hp, hA, hA', hv, hT, hN => callsIn_wide.1 (implPics_in H G hH hG A A' c c' cap N0 hN0 hcap r (fun b P w => implPics_any H G hH hG A A' c c' cap N0 hN0 hcap r b P w) b P w hr hp hA hA' hv hT hN)

set_option maxHeartbeats 1000000 in
theorem picturesIn_any (B B' : Nat) (v v' : Value) (H G : List Int) (hH : IsGraph H) (hG : IsGraph G) (w : World) (h : Row w B v H) (h' : Row w B' v' G) (hT : Tab w) :
    Calls Tryd.prog 20 #[v, v'] w (NumA w (pics H G H.length [])) := by
  have h2 := hT.lt
  have h6 := hH.2.1
  obtain ⟨A, c, rfl, s1⟩ := h.seen
  obtain ⟨A', c', rfl, s2⟩ := h'.seen
  obtain ⟨i0, hi, hz0, hz1, hz2⟩ := info_parts infoInt
  have hmk := run_make (P := Tryd.prog) w 22 3 i0 (.int .i64 0) Tryd.underlying22 hi hz0 .i64 .i64 0 (H.length : Int) (Int.le_refl _) (by omega) (by rw [hz2]; omega) (by omega)
  simp only [Int.toNat_natCast, Int.toNat_zero, hz1] at hmk
  have hmk2 : (Instr.makeSlice 22 (.int .i64 0) (.int .i64 (H.length : Int))).run Tryd.prog w = .ok (.slice (some ⟨w.heap.size, 0, none⟩) 0 H.length) (madeW w H.length) := hmk
  have hB := madeW_below w H.length
  have hr0 : Row (madeW w H.length) w.heap.size (.slice (some ⟨w.heap.size, 0, none⟩) 0 H.length) (ints []) := by
    have hm := madeW_row w H.length (by omega)
    refine row_front (xs := []) (ys := ints (List.replicate H.length 0)) rfl ?_
    rw [ints_length, List.length_replicate, Nat.zero_add, List.nil_append]
    exact hm
  have H1 := Lib.hid (implPics_any H G hH hG A A' c c' H.length w.heap.size h2 (Nat.le_refl _) H.length w.heap.size [] (madeW w H.length) (by simp) (fun p hp => by cases hp) (Seen.seenB s1 |>.below hB) (Seen.seenB s2 |>.below hB) hr0 (hT.below hB h2) hB.size)
  have HB := Lib.hid hB
  obtain ⟨W, eW⟩ : ∃ W, W = madeW w H.length := ⟨_, rfl⟩
  rw [← eW] at hmk2 H1 HB
  obtain ⟨x, ex⟩ : ∃ x, x = pics H G H.length [] := ⟨_, rfl⟩
  rw [← ex] at H1 ⊢
  obtain ⟨n, en⟩ : ∃ n, n = H.length := ⟨_, rfl⟩
  rw [← en] at hmk2 H1 ⊢
  clear hmk hH hG h h' hT s1 s2 hB hr0 eW ex en h6
  go_enter Tryd.func20, Tryd.ntmps20
  go_wp2_with fail
  refine H1.out.mono ?_
  rintro e w2 ⟨rfl, hr2, hg2⟩
  go_wp2
  go_ret
  exact ⟨rfl, HB.out.grown hg2 HB.out.size (fun k hk => by cases hk; exact Nat.le_refl _)⟩
end Go.Proofs.YtnnobbbljpaieaaDoor
