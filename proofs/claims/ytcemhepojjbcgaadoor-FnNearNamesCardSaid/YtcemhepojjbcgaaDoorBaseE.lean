/- Texts in one: Rows2, Perms, NumA, SpecLeast, SizeCode, SpecSize, SpecAlike, ImplAlike, AlikeInLaw, LeastMath, CodeDown, Lesser, CodeIn, ImplLeast, ImplCode, CodeLaw, IsCode, OfSaid, Link, GraphOfIn, GraphOf, UpN, SortL, PartGraph, CodeBits, OtherList, Bits, OtherGraph, PromCode, LeastFn, LeastLaw. -/
import Derived.Test.YtcemhepojjbcgaaDoorBaseA
import Derived.StillTailTactics
import Derived.Test.YtcemhepojjbcgaaDoorBaseL
import Derived.RangeFuncBox

/- Lists of lists of the call's own: what they hold, and append to them. -/



namespace Go.Proofs.YtcemhepojjbcgaaDoor
open Go.RowKit
set_option linter.unusedVariables false

/-- A list that is not nil, in a block of its own. -/
def RowS (w : World) (B : Nat) (v : Value) (xs : List Int) : Prop := Row w B v xs ∧ v ≠ .slice none 0 0
theorem RowS.shape {w : World} {B : Nat} {v : Value} {xs : List Int} (h : RowS w B v xs) : ∃ b cap, v = .slice (some ⟨b, 0, none⟩) xs.length cap := by
  rcases h.1.2 with ⟨h1, _⟩ | ⟨g, cap, cur, h1, _⟩
  · exact absurd h1 h.2
  · exact ⟨g, cap, h1⟩
theorem RowS.below {w w' : World} {B : Nat} {v : Value} {xs : List Int} (h : RowS w B v xs) (hb : Below w.heap.size w w') : RowS w' B v xs := ⟨h.1.below hb, h.2⟩
theorem RowS.mono {w : World} {B B' : Nat} {v : Value} {xs : List Int} (h : RowS w B v xs) (hb : B' ≤ B) : RowS w B' v xs := ⟨h.1.mono hb, h.2⟩

def Row2 (w : World) (B : Nat) (v : Value) (Ls : List (List Nat)) : Prop := ∃ vs : List Value, w.ownsRow B 23 1 v Ls.length vs ∧ v ≠ .slice none 0 0 ∧ ∀ k, k < Ls.length → RowS w B (vs[k]?.getD undef) (ints (Ls[k]?.getD []))
theorem Row2.shape {w : World} {B : Nat} {v : Value} {Ls : List (List Nat)} (h : Row2 w B v Ls) : ∃ b cap, v = .slice (some ⟨b, 0, none⟩) Ls.length cap ∧ b < w.heap.size := by
  obtain ⟨vs, h1, h2, _⟩ := h
  rcases h1.2 with ⟨h3, _⟩ | ⟨g, cap, cur, h3, _, h4, _⟩
  · exact absurd h3 h2
  · exact ⟨g, cap, h3, (Array.getElem?_eq_some_iff.1 h4).1⟩
theorem Row2.below {w w' : World} {B : Nat} {v : Value} {Ls : List (List Nat)} (h : Row2 w B v Ls) (hb : Below w.heap.size w w') : Row2 w' B v Ls := by
  obtain ⟨vs, ⟨h0, h1⟩, h2, h3⟩ := h
  refine ⟨vs, ⟨h0, ?_⟩, h2, fun k hk => (h3 k hk).below hb⟩
  rcases h1 with h1 | ⟨g, cap, cur, a1, a2, a3, a4⟩
  · exact .inl h1
  · exact .inr ⟨g, cap, cur, a1, a2, (hb.block g (Array.getElem?_eq_some_iff.1 a3).1).trans a3, a4⟩
theorem Row2.mono {w : World} {B B' : Nat} {v : Value} {Ls : List (List Nat)} (h : Row2 w B v Ls) (hb : B' ≤ B) : Row2 w B' v Ls := by
  obtain ⟨vs, ⟨h0, h1⟩, h2, h3⟩ := h
  refine ⟨vs, ⟨h0, ?_⟩, h2, fun k hk => (h3 k hk).mono hb⟩
  rcases h1 with h1 | ⟨g, cap, cur, a1, a2, a3, a4⟩
  · exact .inl h1
  · exact .inr ⟨g, cap, cur, a1, Nat.le_trans hb a2, a3, a4⟩
/-- What lies at a place: a list, and its numbers. -/
theorem Row2.at {w : World} {B : Nat} {b cap : Nat} {Ls : List (List Nat)} (h : Row2 w B (.slice (some ⟨b, 0, none⟩) Ls.length cap) Ls) {k : Nat} (hk : k < Ls.length) :
    ∃ v, w.cell? ⟨b, k, none⟩ = some v ∧ RowS w B v (ints (Ls[k]?.getD [])) := by
  obtain ⟨vs, ⟨h0, h1⟩, h2, h3⟩ := h
  rcases h1 with ⟨h1, _⟩ | ⟨g, cap', cur, a1, a2, a3, a4, a5, a6, a7⟩
  · cases h1
  · injection a1 with e1 e2 e3
    injection e1 with e1
    injection e1 with e1
    subst e1
    refine ⟨vs[k]?.getD undef, ?_, h3 k hk⟩
    have hl : vs.length = Ls.length := by rw [h0]; omega
    have h8 : vs[k]? = some (vs[k]'(by omega)) := List.getElem?_eq_getElem (by omega)
    rw [h8]
    simp only [Option.getD_some]
    have h9 : cur.toList[k]? = some (vs[k]'(by omega)) := by
      rw [← h8, ← a7, List.getElem?_take_of_lt (by omega)]
    simp [World.cell?, a3]
    rw [Array.getElem?_toList] at h9
    exact h9

theorem infoSlice : (Tryd.prog.info? 23).map (fun i => (i.zero, i.size, i.bytes)) = some (some (.slice none 0 0), 1, 24) := by kernel_rfl
/-- The own block of a list of numbers holds numbers. -/
theorem apart_t {w : World} {B g : Nat} {v : Value} {xs : List Int} {t : TypeId} {cur : Array Value} (h : Row w B v xs) (hg : w.heap[g]? = some (.cells cur t)) (ht : t ≠ 3) : v.ownBlock = none ∨ v.ownBlock ≠ some g := by
  rcases h.2 with ⟨rfl, _⟩ | ⟨g', cap, cur', rfl, _, h3, _⟩
  · exact .inl rfl
  · refine .inr fun e => ?_
    have e2 : g' = g := by have e3 : some g' = some g := e; injection e3
    subst e2
    rw [hg] at h3
    injection h3 with h3
    injection h3 with _ h4
    exact ht h4

/-- append of one list to another one. -/
theorem app_list {ops : Array Oper} {rest : List Oper} {o : Oper} {a : Act} {Q : Exit → Act → World → Prop} (hgd : o.guard = none) (s x : Operand)
    (ho : o.op = .call { callee := .builtin .append, args := #[s, x], argTypes := #[23, 23] }) (w : World) (B : Nat) (v : Value) (xs ys : List Int) (b c m : Nat) (hm : ys.length = m)
    (hs : a.eval s = v) (hx : a.eval x = .slice (some ⟨b, 0, none⟩) m c) (hr : RowS w B v xs) (hy : ∀ k, k < ys.length → w.cell? ⟨b, k, none⟩ = some (.int .i64 (ys[k]?.getD 0))) (hB : B ≤ w.heap.size) (hlen : xs.length + ys.length ≤ 100000)
    (h : ∀ v' w', RowS w' B v' (xs ++ ys) → w.grownBy w' v.ownBlock → wpList Tryd.prog ops Q rest (a.put o.dst v') w') :
    wpList Tryd.prog ops Q (o :: rest) a w := by
  subst hm
  obtain ⟨i0, hi, hz0, hz1, hz2⟩ := info_parts infoInt
  refine wpList_append_own w hgd s x 23 ho B 3 i0 (.int .i64 0) 1 8 Tryd.underlying23 hi hz0 hz1 hz2 rfl (by decide) v xs.length (xs.map (Value.int .i64)) hs hr.1
    ⟨b, 0, none⟩ ys.length c (ys.map (Value.int .i64)) hx (by simp) (fun j u hu => ?_) (by simp [Value.oneCell']) (by unfold maxLen; omega) (by omega) hB ?_
  · rw [List.getElem?_map] at hu
    have hj : j < ys.length := by
      refine Nat.lt_of_not_le fun hle => ?_
      rw [List.getElem?_eq_none hle] at hu
      simp at hu
    rw [List.getElem?_eq_getElem hj] at hu
    simp at hu
    subst hu
    have h5 := hy j hj
    rw [List.getElem?_eq_getElem hj] at h5
    have e : (Addr.add ⟨b, 0, none⟩ j : Addr) = ⟨b, j, none⟩ := by simp [Addr.add]; intro h; exact h.symm
    rw [e, h5]
    rfl
  · intro v' w' hown hg hnil
    refine h v' w' ⟨?_, fun e => hr.2 (hnil.1 e).1⟩ hg
    unfold Row
    rw [List.length_append, List.map_append]
    exact hown
/-- append of one list to a list of lists. -/
theorem app_rows {ops : Array Oper} {rest : List Oper} {o : Oper} {a : Act} {Q : Exit → Act → World → Prop} (hgd : o.guard = none) (s x : Operand)
    (ho : o.op = .call { callee := .builtin .append, args := #[s, x], argTypes := #[51, 51] }) (w : World) (B : Nat) (v y : Value) (Ls : List (List Nat)) (P : List Nat)
    (hs : a.eval s = v) (hx : a.eval x = .slice (some ⟨w.heap.size, 0, none⟩) 1 1) (hr : Row2 w B v Ls) (hy : RowS w B y (ints P)) (hB : B ≤ w.heap.size) (hlen : Ls.length ≤ 1000000)
    (h : ∀ v' w', Row2 w' B v' (Ls ++ [P]) → Below B w w' → wpList Tryd.prog ops Q rest (a.put o.dst v') w') :
    wpList Tryd.prog ops Q (o :: rest) a (w.alloc (.cells #[y] 23)) := by
  obtain ⟨i0, hi, hz0, hz1, hz2⟩ := info_parts infoSlice
  obtain ⟨vs, h1, h2, h3⟩ := hr
  obtain ⟨yb, yc, ey⟩ := hy.shape
  have h1' := World.ownsRow.alloc h1 (.cells #[y] 23)
  refine wpList_append_own (w.alloc (.cells #[y] 23)) hgd s x 51 ho B 23 i0 (.slice none 0 0) 1 24 Tryd.underlying51 hi hz0 hz1 hz2 rfl (by decide) v Ls.length vs hs h1'
    ⟨w.heap.size, 0, none⟩ 1 1 [y] hx rfl (cell_one_new w _ _) (by rw [ey]; simp [Value.oneCell']) (by unfold maxLen; omega) (by omega) (by simp; omega) ?_
  intro v' w' hown hg hnil
  have hvl : vs.length = Ls.length := by have := h1.1; omega
  have keep : ∀ u xs, RowS w B u xs → RowS w' B u xs := fun u xs hu => by
    have hu' := Row.alloc hu.1 (.cells #[y] 23)
    refine ⟨World.ownsRow.kept hu' hg ?_, hu.2⟩
    rcases h1'.2 with ⟨e, _⟩ | ⟨g, cap, cur, e, _, hgb, _⟩
    · exact absurd e h2
    · rw [e]
      exact apart_t hu' hgb (by decide)
  refine h v' w' ⟨vs ++ [y], ?_, fun e => h2 (hnil.1 e).1, fun k hk => ?_⟩ (((Below.refl B w).alloc hB _).grown hg (by simp; omega) (fun r e => (World.ownsRow.lt h1 r e).1))
  · rw [List.length_append]; exact hown
  · rw [List.length_append, List.length_singleton] at hk
    by_cases hkl : k < Ls.length
    · rw [List.getElem?_append_left (by omega), List.getElem?_append_left hkl]
      exact keep _ _ (h3 k hkl)
    · have hkk : k = Ls.length := by omega
      subst hkk
      rw [List.getElem?_append_right (by omega), List.getElem?_append_right (Nat.le_refl _), hvl, Nat.sub_self]
      exact keep _ _ hy
end Go.Proofs.YtcemhepojjbcgaaDoor

/- The model's l2Perms: all names, in order. -/



namespace Go.Proofs.YtcemhepojjbcgaaDoor
open Go.RowKit
set_option linter.unusedVariables false
set_option maxRecDepth 100000

/-- The names that go on from P by less than y. -/
def extTo (P : List Nat) (y : Nat) : List (List Nat) := ((List.range y).filter fun x => !P.contains x).map fun v => P ++ [v]
theorem extTo_zero (P : List Nat) : extTo P 0 = [] := rfl
theorem extTo_end (P : List Nat) (n : Nat) : extTo P n = ext n P := rfl
theorem extTo_succ (P : List Nat) (y : Nat) : extTo P (y + 1) = extTo P y ++ (if P.contains y = true then [] else [P ++ [y]]) := by
  unfold extTo
  rw [List.range_succ, List.filter_append, List.map_append]
  by_cases h : y ∈ P <;> simp [h]
theorem extTo_length (P : List Nat) (y : Nat) : (extTo P y).length ≤ y := by
  have := List.length_filter_le (fun x => !P.contains x) (List.range y)
  simpa [extTo] using this
theorem take_contains {P : List Nat} {q : Nat} (hq : q < P.length) (y : Nat) : (P.take (q + 1)).contains y = ((P.take q).contains y || (at_ P q == y)) := by
  rw [List.take_succ_eq_append_getElem hq]
  have e : at_ P q = P[q] := by unfold at_; rw [List.getElem?_eq_getElem hq]; rfl
  rw [e, Bool.eq_iff_iff, Bool.or_eq_true, List.contains_iff_mem, List.contains_iff_mem, List.mem_append, List.mem_singleton, beq_iff_eq]
  exact or_congr Iff.rfl ⟨Eq.symm, Eq.symm⟩
/-- The next ones, of the first j. -/
def nextTo (n : Nat) (Ls : List (List Nat)) (j : Nat) : List (List Nat) := (Ls.take j).flatMap (ext n)
theorem nextTo_zero (n : Nat) (Ls : List (List Nat)) : nextTo n Ls 0 = [] := by simp [nextTo]
theorem nextTo_succ (n : Nat) (Ls : List (List Nat)) (j : Nat) (h : j < Ls.length) : nextTo n Ls (j + 1) = nextTo n Ls j ++ ext n (Ls[j]?.getD []) := by
  unfold nextTo
  rw [List.take_succ_eq_append_getElem h, List.flatMap_append, List.getElem?_eq_getElem h]
  simp
theorem nextTo_all (n : Nat) (Ls : List (List Nat)) : nextTo n Ls Ls.length = Ls.flatMap (ext n) := by simp [nextTo]
theorem nextTo_length (n : Nat) (Ls : List (List Nat)) (j : Nat) : (nextTo n Ls j).length ≤ Ls.length * n := by
  have h1 := flat_length n (Ls.take j)
  have h2 : (Ls.take j).length ≤ Ls.length := by simp; omega
  exact Nat.le_trans h1 (Nat.mul_le_mul_right n h2)

set_option maxHeartbeats 4000000 in
theorem perms_any (n : Nat) (h1 : 1 ≤ n) (h6 : n ≤ 6) (w : World) :
    Calls Tryd.prog 68 #[.int .i64 n] w fun e w' => ∃ v, e = .returned v ∧ Row2 w' w.heap.size v (permsTo n n) ∧ Below w.heap.size w w' := by
  obtain ⟨B, eB⟩ : ∃ B, B = w.heap.size := ⟨_, rfl⟩
  have EB := Lib.hid eB
  have hrow : RowS (w.alloc (.cells #[] 3)) w.heap.size (.slice (some ⟨w.heap.size, 0, none⟩) 0 0) (ints []) := by
    exact ⟨World.ownsRow_lit (base := w.heap.size) (e := 3) (size := 1) w #[] 0 (Nat.le_refl _) (by unfold maxLen; omega) rfl, by simp⟩
  have hr2 : Row2 ((w.alloc (.cells #[] 3)).alloc (.cells #[.slice (some ⟨w.heap.size, 0, none⟩) 0 0] 23)) w.heap.size (.slice (some ⟨w.heap.size + 1, 0, none⟩) 1 1) (permsTo n 0) := by
    have h := World.ownsRow_lit (base := w.heap.size) (e := 23) (size := 1) (w.alloc (.cells #[] 3)) #[.slice (some ⟨w.heap.size, 0, none⟩) 0 0] 1 (by simp) (by unfold maxLen; omega) rfl
    rw [World.size_alloc] at h
    refine ⟨[.slice (some ⟨w.heap.size, 0, none⟩) 0 0], h, by simp, fun k hk => ?_⟩
    have hk0 : k = 0 := by simp [permsTo, extK] at hk; exact hk
    subst hk0
    exact ⟨Row.alloc hrow.1 _, by simp⟩
  have HR2 := Lib.hid hr2
  have B0 := Lib.hid (((Below.refl w.heap.size w).alloc (Nat.le_refl _) (.cells #[] 3)).alloc (by simp) (.cells #[.slice (some ⟨w.heap.size, 0, none⟩) 0 0] 23))
  clear hrow hr2 eB
  go_enter Tryd.func68, Tryd.ntmps68
  go_wp2
  rw [← EB.out] at HR2 B0 ⊢
  go_loopw [3, 4] (fun o i wr => ∃ k : Nat, k ≤ n ∧ i = .int .i64 k ∧ Hid (Row2 wr B o (permsTo n k)) ∧ Hid (Below B w wr)) (fun _ i _ => n - (intOf i).toNat)
  case atStart => exact ⟨0, Nat.zero_le _, rfl, HR2, B0⟩
  case round =>
    obtain ⟨k, hk, rfl, hr, hb⟩ := hrel
    by_cases hlt : k < n
    · have hlen := perms_length n k h6 (by omega)
      obtain ⟨ob, oc, eo, hob⟩ := hr.out.shape
      obtain ⟨Ls, eLs⟩ : ∃ Ls, Ls = permsTo n k := ⟨_, rfl⟩
      rw [← eLs] at eo hr hlen
      have hnx := permsTo_succ n k
      rw [← eLs] at hnx
      have HNX := Lib.hid hnx
      have hnames := perms_names n k
      rw [← eLs] at hnames
      have HNM := Lib.hid hnames
      obtain ⟨m, em⟩ : ∃ m, m = Ls.length := ⟨_, rfl⟩
      rw [← em] at eo hlen
      subst eo
      have EM := Lib.hid em
      have HR := Lib.hid hr.out
      have HB := Lib.hid hb.out
      obtain ⟨Wi, eWi⟩ : ∃ Wi : World, Wi = wr := ⟨_, rfl⟩
      rw [← eWi] at HR HB hob ⊢
      have R1 : Hid (Row2 (Wi.alloc (.cells #[] 23)) Wi.heap.size (.slice (some ⟨Wi.heap.size, 0, none⟩) 0 0) (nextTo n Ls 0)) := Lib.hid (by
        rw [nextTo_zero]
        exact ⟨[], World.ownsRow_lit (base := Wi.heap.size) (e := 23) (size := 1) Wi #[] 0 (Nat.le_refl _) (by unfold maxLen; omega) rfl, by simp, fun k hk => absurd hk (by simp)⟩)
      have B1 := Lib.hid ((Below.refl Wi.heap.size Wi).alloc (Nat.le_refl _) (.cells #[] 23))
      clear hr hb eLs em hnx hnames eWi HR2 B0
      go_wp2
      go_loopw [5, 6] (fun o i wr => ∃ j : Nat, j ≤ m ∧ i = .int .i64 j ∧ Hid (Row2 wr Wi.heap.size o (nextTo n Ls j)) ∧ Hid (Below Wi.heap.size Wi wr)) (fun _ i _ => m - (intOf i).toNat)
      case atStart => exact ⟨0, Nat.zero_le _, rfl, R1, B1⟩
      case round =>
        obtain ⟨j, hj, rfl, hr, hb⟩ := hrel
        by_cases hlj : j < m
        · have hjL : j < Ls.length := by have := EM.out; omega
          obtain ⟨pv, hpc, hpr⟩ := Row2.at (by have h0 := HR.out; rw [EM.out] at h0; exact h0) hjL
          obtain ⟨P, eP⟩ : ∃ P, P = Ls[j]?.getD [] := ⟨_, rfl⟩
          have hPm : P ∈ Ls := by rw [eP, List.getElem?_eq_getElem hjL]; exact List.getElem_mem _
          have hPk := HNM.out P hPm
          rw [← eP] at hpr
          obtain ⟨pb, pc, epv⟩ := hpr.shape
          rw [ints_length, hPk.1] at epv
          subst epv
          have hPl := hPk.1
          have hpb : pb < Wi.heap.size := by
            rcases hpr.1.2 with ⟨h0, _⟩ | ⟨g, cap, cur, h0, _, h3, _⟩
            · cases h0
            · injection h0 with e1; injection e1 with e1; injection e1 with e1; subst e1; exact (Array.getElem?_eq_some_iff.1 h3).1
          have hcells : ∀ q, q < k → Wi.cell? ⟨pb, q, none⟩ = some (.int .i64 (at_ P q : Nat)) := fun q hq => by
            have h0 := hpr.1.cellAt q (by rw [ints_length]; omega)
            rw [h0, ints_at (by omega)]
          have HPL := Lib.hid hPl
          have HCL := Lib.hid hcells
          have HPC := Lib.hid hpc
          have EP := Lib.hid eP
          have hjm : (0 : Int) ≤ (j : Int) ∧ (j : Int) < (m : Int) := by omega
          clear hpr hPk hPm hPl hcells hpc eP
          go_wp2
          go_loopw [5, 7] (fun o i wr => ∃ y : Nat, y ≤ n ∧ i = .int .i64 y ∧ Hid (Row2 wr Wi.heap.size o (nextTo n Ls j ++ extTo P y)) ∧ Hid (Below Wi.heap.size Wi wr)) (fun _ i _ => n - (intOf i).toNat)
          case atStart => exact ⟨0, Nat.zero_le _, rfl, Lib.hid (by rw [extTo_zero, List.append_nil]; exact hr.out), hb⟩
          case round =>
            obtain ⟨y, hy, rfl, hr, hb⟩ := hrel
            by_cases hly : y < n
            · have rC : wr.cell? ⟨ob, j, none⟩ = some (.slice (some ⟨pb, 0, none⟩) k pc) := (hb.out.cell (p := ⟨ob, j, none⟩) hob).trans HPC.out
              go_wp2
              go_loop [8, 9] (fun b t => ∃ q : Nat, q ≤ k ∧ t = .int .i64 q ∧ b = .bool ((P.take q).contains y)) (fun _ t => k - (intOf t).toNat)
              case atStart => exact ⟨0, Nat.zero_le _, rfl, by simp⟩
              case round =>
                obtain ⟨q, hq, rfl, rfl⟩ := hrel
                by_cases hlq : q < k
                · have rP : wr.cell? ⟨pb, q, none⟩ = some (.int .i64 (at_ P q : Nat)) := (hb.out.cell (p := ⟨pb, q, none⟩) hpb).trans (HCL.out q hlq)
                  have hqk : (0 : Int) ≤ (q : Int) ∧ (q : Int) < (k : Int) := by omega
                  have htc := take_contains (P := P) (q := q) (by rw [HPL.out]; exact hlq) y
                  obtain ⟨z, ez⟩ : ∃ z, z = at_ P q := ⟨_, rfl⟩
                  rw [← ez] at rP htc
                  obtain ⟨b0, eb0⟩ : ∃ b0, b0 = (P.take q).contains y := ⟨_, rfl⟩
                  rw [← eb0] at htc
                  rw [← eb0]
                  have HTC := Lib.hid htc
                  clear htc eb0 ez
                  cases b0
                  · have hzy : ((z : Int) == (y : Int)) = (z == y) := by rw [Bool.eq_iff_iff]; simp; omega
                    go_wp2
                    go_round
                    case rel => exact ⟨q + 1, by omega, by go_num, by rw [HTC.out]; simp⟩
                    case measure => simp [intOf]; omega
                  · go_wp2
                    go_round
                    case rel => exact ⟨q + 1, by omega, by go_num, by rw [HTC.out]; simp⟩
                    case measure => simp [intOf]; omega
                · have hqe : q = k := by omega
                  subst hqe
                  have hct : (P.take q).contains y = P.contains y := by rw [show P.take q = P by rw [← HPL.out]; exact List.take_length]
                  rw [hct]
                  have hxs := extTo_succ P y
                  obtain ⟨b0, eb0⟩ : ∃ b0, b0 = P.contains y := ⟨_, rfl⟩
                  rw [← eb0] at hxs
                  rw [← eb0]
                  have HXS := Lib.hid hxs
                  clear hxs eb0 hct
                  cases b0
                  · have hcp : ∀ t, t < (ints P).length → (wr.alloc (.cells #[] 3)).cell? ⟨pb, t, none⟩ = some (.int .i64 ((ints P)[t]?.getD 0)) := fun t ht => by
                      rw [ints_length] at ht
                      rw [ints_at ht, ← HCL.out t (by rw [← HPL.out]; exact ht)]
                      exact ((hb.out.alloc hb.out.size (.cells #[] 3)).cell (p := ⟨pb, t, none⟩) hpb)
                    have HCP := Lib.hid hcp
                    have RE : Hid (RowS (wr.alloc (.cells #[] 3)) wr.heap.size (.slice (some ⟨wr.heap.size, 0, none⟩) 0 0) []) := Lib.hid ⟨World.ownsRow_lit (base := wr.heap.size) (e := 3) (size := 1) wr #[] 0 (Nat.le_refl _) (by unfold maxLen; omega) rfl, by simp⟩
                    have BE := Lib.hid ((Below.refl wr.heap.size wr).alloc (Nat.le_refl _) (.cells #[] 3))
                    have HIP : Hid ((ints P).length = q) := Lib.hid (by rw [ints_length]; exact HPL.out)
                    have hsz : (wr.alloc (.cells #[] 3)).heap.size = wr.heap.size + 1 := by simp
                    have HSZ := Lib.hid hsz
                    have hLn := Lib.hid (Nat.mul_le_mul (show Ls.length ≤ 46656 by have := EM.out; omega) h6)
                    have rC2 : (wr.alloc (.cells #[] 3)).cell? ⟨ob, j, none⟩ = some (.slice (some ⟨pb, 0, none⟩) q pc) := (hb.out.alloc hb.out.size (.cells #[] 3)).cell (p := ⟨ob, j, none⟩) hob |>.trans HPC.out
                    clear hcp hsz
                    go_wp2_with (first
                      | (at_builtin; refine app_list rfl (.tmp 53) (.tmp 57) rfl (wr.alloc (.cells #[] 3)) wr.heap.size (.slice (some ⟨wr.heap.size, 0, none⟩) 0 0) [] (ints P) pb pc q HIP.out rfl rfl RE.out HCP.out (by rw [HSZ.out]; omega) (by rw [HIP.out]; simp; omega) ?_; intro v1 w1 hv1 hg1
                         rw [List.nil_append] at hv1
                         obtain ⟨vb, vc, e1⟩ := hv1.shape
                         rw [HIP.out] at e1
                         subst e1
                         have HV1 := Lib.hid hv1
                         have BW1 := Lib.hid (BE.out.grown hg1 (by rw [HSZ.out]; omega) (fun r e => by have e2 : some wr.heap.size = some r := e; injection e2; omega))
                         clear hv1 hg1)
                      | (at_builtin; refine app_list rfl (.tmp 58) (.tmp 60) rfl (w1.alloc (.cells #[.int .i64 (y : Int)] 3)) wr.heap.size (.slice (some ⟨vb, 0, none⟩) q vc) (ints P) [(y : Int)] w1.heap.size 1 1 rfl rfl rfl ⟨Row.alloc HV1.out.1 _, by simp⟩ (fun t ht => by
                           have ht0 : t = 0 := by simpa using ht
                           subst ht0
                           exact (Boxed.new w1 3 (.int .i64 (y : Int))).cell) (by have := BW1.out.size; simp; omega) (by rw [HIP.out]; simp; omega) ?_; intro v2 w2 hv2 hg2
                         have BW2 := Lib.hid ((BW1.out.alloc BW1.out.size (.cells #[.int .i64 (y : Int)] 3)).grown hg2 (by have := BW1.out.size; simp; omega) (fun r e => (World.ownsRow.lt HV1.out.1 r e).1))
                         obtain ⟨ub, uc, e2⟩ := hv2.shape
                         rw [List.length_append, HIP.out, List.length_singleton] at e2
                         subst e2
                         rw [show ints P ++ [(y : Int)] = ints (P ++ [y]) by simp [ints]] at hv2
                         have HV2 := Lib.hid hv2
                         clear hv2 hg2)
                      | (at_builtin; refine app_rows rfl (.tmp 52) (.tmp 62) rfl w2 Wi.heap.size u5 (.slice (some ⟨ub, 0, none⟩) (q + 1) uc) (nextTo n Ls j ++ extTo P y) (P ++ [y]) rfl rfl (hr.out.below BW2.out) ⟨Row.mono HV2.out.1 hb.out.size, by simp⟩ (by have := BW2.out.size; have := hb.out.size; omega) (by rw [List.length_append]; have := nextTo_length n Ls j; have := extTo_length P y; have := hLn.out; omega) ?_; intro v3 w3 hv3 hb3
                         have HV3 := Lib.hid hv3
                         have BV3 := Lib.hid ((hb.out.trans (BW2.out.mono hb.out.size)).trans hb3)
                         clear hv3 hb3))
                    go_roundw
                    case rel => exact ⟨y + 1, by omega, by go_num, Lib.hid (by rw [HXS.out]; simpa using HV3.out), BV3⟩
                    case measure => simp [intOf]; omega
                  · go_wp2
                    go_roundw
                    case rel => exact ⟨y + 1, by omega, by go_num, Lib.hid (by rw [HXS.out]; simpa using hr.out), hb⟩
                    case measure => simp [intOf]; omega
            · have hye : y = n := by omega
              subst hye
              go_wp2
              go_roundw
              case rel => exact ⟨j + 1, by omega, by go_num, Lib.hid (by rw [nextTo_succ _ _ _ hjL, ← EP.out, ← extTo_end]; exact hr.out), hb⟩
              case measure => simp [intOf]; omega
        · have hje : j = m := by omega
          subst hje
          go_wp2
          go_roundw
          case rel => exact ⟨k + 1, by omega, by go_num, Lib.hid (by rw [HNX.out, ← nextTo_all, ← EM.out]; exact hr.out.mono (by have := HB.out.size; have := EB.out; omega)), Lib.hid (HB.out.trans (hb.out.mono (by have := HB.out.size; have := EB.out; omega)))⟩
          case measure => simp [intOf]; omega
    · have hke : k = n := by omega
      subst hke
      go_wp2
      go_ret
      exact ⟨_, rfl, by rw [← EB.out]; exact hr.out, by rw [← EB.out]; exact hb.out⟩

end Go.Proofs.YtcemhepojjbcgaaDoor

/- How calls that tell a number end. -/

namespace Go.Proofs.YtcemhepojjbcgaaDoor
open Go.RowKit
set_option linter.unusedVariables false

/-- How a call that tells a number ends. -/
def NumA (w : World) (x : Nat) (e : Ending) (w' : World) : Prop := e = .returned (.int .i64 (x : Nat)) ∧ Below w.heap.size w w'
theorem wrap_next (x : Int) : wrap64 (wrap64 x + 1) = wrap64 (x + 1) := by unfold wrap64; omega
theorem wrap_small (k : Nat) (h : k ≤ 1000000) : wrap64 (k : Int) = (k : Int) := by unfold wrap64; omega

/-- How a call that tells a number and a bool ends. -/
def NumOkA (w : World) (x : Nat) (ok : Bool) (e : Ending) (w' : World) : Prop := e = .returned (.tuple #[.int .i64 (x : Nat), .bool ok]) ∧ Below w.heap.size w w'
end Go.Proofs.YtcemhepojjbcgaaDoor

/- The model's least code. -/




namespace Go.Proofs.YtcemhepojjbcgaaDoor
open Go Go.RowKit
set_option linter.unusedVariables false
set_option maxRecDepth 100000

theorem min_int (y x : Nat) : (if x < y then (x : Int) else (y : Int)) = ((min y x : Nat) : Int) := by
  by_cases h : x < y
  · rw [if_pos h]; omega
  · rw [if_neg h]; omega
set_option maxHeartbeats 4000000 in
theorem specLeast_seen (A : Option Addr) (c : Nat) (L : List Int) (hL : IsGraph L) (w : World) (s1 : Seen w A L) :
    Calls Tryd.prog 64 #[.slice A L.length c] w (NumA w (leastL L)) := by
  unfold leastL
  have h1 := hL.1
  have h6 := hL.2.1
  have HC0 := Lib.hid (specCode_seen A c L hL w s1)
  obtain ⟨n, hn⟩ : ∃ n, n = L.length := ⟨_, rfl⟩
  rw [← hn] at h1 h6 HC0 ⊢
  have HN := Lib.hid hn
  have HL := Lib.hid hL
  have S1 := Lib.hid s1
  obtain ⟨R, eR⟩ : ∃ R, R = permsTo n n := ⟨_, rfl⟩
  have hRn := perms_names n n
  have hPA := perms_any n h1 h6
  have hRl := perms_length n n h6 h6
  rw [← eR] at hRn hPA hRl ⊢
  have HRN := Lib.hid hRn
  have HPA := Lib.hid hPA
  clear hL hn s1 eR hRn hPA
  go_enter Tryd.func64, Tryd.ntmps64
  go_wp2_with fail
  refine HC0.out.mono ?_
  rintro e w0 ⟨rfl, rfl⟩
  go_wp2_with fail
  refine (HPA.out _).mono ?_
  rintro e w1 ⟨u, rfl, hu, hb⟩
  obtain ⟨ob, oc, rfl, hob⟩ := hu.shape
  obtain ⟨m, em⟩ : ∃ m, m = R.length := ⟨_, rfl⟩
  rw [← em] at hu ⊢
  have hml : m ≤ 46656 := by omega
  have EM := Lib.hid em
  have HU := Lib.hid hu
  have HB := Lib.hid hb
  obtain ⟨s, es⟩ : ∃ s, s = w.heap.size := ⟨_, rfl⟩
  rw [← es] at HU HB
  have ES := Lib.hid es
  clear hu hb em es HPA hRl HC0
  go_wp2
  go_loopw [3, 5] (fun q i wr => ∃ k : Nat, k ≤ m ∧ i = .int .i64 k ∧ q = .int .i64 (minTo L (R.take k) : Nat) ∧ Hid (Below s w wr) ∧ Hid (Row2 wr s (.slice (some ⟨ob, 0, none⟩) m oc) R)) (fun _ i _ => m - (intOf i).toNat)
  case atStart => exact ⟨0, Nat.zero_le _, rfl, rfl, HB, HU⟩
  case round =>
    obtain ⟨k, hk, rfl, rfl, hb, hu⟩ := hrel
    by_cases hlt : k < m
    · have hkR : k < R.length := by have := EM.out; omega
      obtain ⟨pv, hpc, hpr⟩ := Row2.at (by have h0 := hu.out; rw [EM.out] at h0; exact h0) hkR
      obtain ⟨P, eP⟩ : ∃ P, P = R[k]?.getD [] := ⟨_, rfl⟩
      have hPm : P ∈ R := by rw [eP, List.getElem?_eq_getElem hkR]; exact List.getElem_mem _
      have hPn := HRN.out P hPm
      have hst : minTo L (R.take (k + 1)) = min (minTo L (R.take k)) (codeOf (namedL L P)) := by
        rw [List.take_succ_eq_append_getElem hkR, minTo_snoc, eP, List.getElem?_eq_getElem hkR]; rfl
      rw [← eP] at hpr
      obtain ⟨AP, cP, rfl, sP⟩ := hpr.1.seen
      have hPl : (ints P).length = n := by rw [ints_length]; exact hPn.1
      have hPL : Names L.length L.length P := by rw [← HN.out]; exact hPn
      have HNM := Lib.hid (specNamed_seen A AP c cP L (ints P) HL.out (names_is hPL) wr (S1.out.below (hb.out.mono (by have := ES.out; omega))) sP)
      rw [← HN.out, hPl] at HNM
      rw [hPl] at hpc
      have HPL := Lib.hid hPL
      have HST := Lib.hid hst
      have hjm : (0 : Int) ≤ (k : Int) ∧ (k : Int) < (m : Int) := by omega
      clear hPm hPn hPL sP eP hpr hPl hst
      go_wp2_with fail
      refine HNM.out.mono ?_
      rintro e w2 ⟨nv, rfl, nr, nb⟩
      have hnb : Below s w w2 := hb.out.trans (nb.mono (by rw [ES.out]; exact hb.out.size))
      have nr : Row w2 wr.heap.size nv (namedL L P) := by unfold namedL; rw [← HN.out]; exact nr
      obtain ⟨A2, c2, rfl, ns⟩ := nr.seen
      have hnl : (namedL L P).length = n := by rw [namedL_length]; exact HN.out.symm
      have HC1 := Lib.hid (specCode_seen A2 c2 (namedL L P) (named_graph HL.out HPL.out) w2 ns)
      rw [hnl] at HC1 ⊢
      have HNB := Lib.hid hnb
      have HU2 := Lib.hid (hu.out.below nb)
      clear nr nb hnb ns hnl
      obtain ⟨x, ex⟩ : ∃ x, x = codeOf (namedL L P) := ⟨_, rfl⟩
      obtain ⟨y, ey⟩ : ∃ y, y = minTo L (R.take k) := ⟨_, rfl⟩
      rw [← ex] at HC1 HST
      rw [← ey] at HST
      rw [← ey]
      clear ex ey
      go_wp2_with fail
      refine HC1.out.mono ?_
      rintro e w3 ⟨rfl, rfl⟩
      go_wp2
      go_roundw
      case rel => exact ⟨k + 1, by omega, by go_num, by rw [HST.out, min_int], HNB, HU2⟩
      case measure => simp [intOf]; omega
    · have hke : k = m := by omega
      subst hke
      have HT : Hid (R.take k = R) := Lib.hid (by rw [EM.out]; exact List.take_length)
      rw [HT.out]
      go_wp2
      go_ret
      exact ⟨rfl, by rw [← ES.out]; exact hb.out⟩

end Go.Proofs.YtcemhepojjbcgaaDoor

/- The model's number of edges of a code. -/



namespace Go.Proofs.YtcemhepojjbcgaaDoor
open Go.RowKit
set_option linter.unusedVariables false
set_option maxRecDepth 100000

set_option maxHeartbeats 400000 in
theorem size_code (x : Nat) (hx : x < 32768) (w : World) : Calls Tryd.prog 101 #[.int .i64 x] w (Num w (pcf 15 x)) := by
  go_enter Tryd.func101, Tryd.ntmps101
  go_wp2
  go_loop [0, 3] (fun s r => ∃ y q f : Nat, y < 32768 ∧ q + f ≤ 15 ∧ s = .int .i64 y ∧ r = .int .i64 q ∧ Hid (y < 2 ^ f ∧ q + pcf f y = pcf 15 x)) (fun s _ => (intOf s).toNat)
  case atStart => exact ⟨x, 0, 15, hx, by omega, rfl, rfl, Lib.hid ⟨hx, by omega⟩⟩
  case round =>
    obtain ⟨y, q, f, hy, hq, rfl, rfl, hs⟩ := hrel
    by_cases h0 : 0 < y
    · have hz : decide ((0 : Int) < (y : Int)) = true := by simpa using h0
      have hb := bit_of y 0 (by omega)
      simp only [Nat.pow_zero, Nat.div_one, Int.pow_zero, Int.ediv_one] at hb
      obtain ⟨g, eg⟩ : ∃ g, f = g + 1 := by
        cases f with
        | zero => have := hs.out.1; omega
        | succ g => exact ⟨g, rfl⟩
      subst eg
      obtain ⟨bit, eb⟩ : ∃ bit, bit = y % 2 := ⟨_, rfl⟩
      rw [← eb] at hb
      have hbit : bit ≤ 1 := by omega
      obtain ⟨z, ez⟩ : ∃ z, z = y / 2 := ⟨_, rfl⟩
      have hzy : z < y := by omega
      have hd : (y : Int) / 2 = (z : Int) := by omega
      have st : z < 2 ^ g ∧ (q + bit) + pcf g z = pcf 15 x := by
        obtain ⟨s1, s2⟩ := hs.out
        rw [Nat.pow_succ] at s1
        refine ⟨by omega, ?_⟩
        rw [← s2]
        show _ = q + (y % 2 + pcf g (y / 2))
        rw [← eb, ← ez]
        omega
      have ST := Lib.hid st
      clear st eb ez hs
      go_wp2
      go_round
      case rel => exact ⟨z, q + bit, g, by omega, by omega, rfl, by go_num, ST⟩
      case measure => simp [intOf]; omega
    · have hz : decide ((0 : Int) < (y : Int)) = false := by simp; omega
      have hy0 : y = 0 := by omega
      subst hy0
      go_wp2
      go_ret
      exact ⟨ret_int (by have h1 := hs.out.2; rw [pcf_zero] at h1; omega), rfl⟩

end Go.Proofs.YtcemhepojjbcgaaDoor

/- The model's number of edges of a list that is a graph. -/



namespace Go.Proofs.YtcemhepojjbcgaaDoor
open Go.RowKit
set_option linter.unusedVariables false
set_option maxRecDepth 100000

theorem specEdges_seen (A : Option Addr) (c : Nat) (L : List Int) (hg : IsGraph L) (w : World) (h : Seen w A L) :
    Calls Tryd.prog 63 #[.slice A L.length c] w (Num w (edgesN L)) := by
  have H := Lib.hid (specCode_seen A c L hg w h)
  have hx : codeOf L < 32768 := crun_small L _ (rows_length L.length hg.2.1)
  have hu : edgesN L = pcf 15 (codeOf L) := rfl
  rw [hu]
  obtain ⟨x, ex⟩ : ∃ x, x = codeOf L := ⟨_, rfl⟩
  rw [← ex] at H hx ⊢
  clear hg h ex hu
  go_enter Tryd.func63, Tryd.ntmps63
  go_wp2_with fail
  refine H.out.mono ?_
  rintro e w1 ⟨rfl, rfl⟩
  go_wp2_with fail
  refine (size_code x hx _).mono ?_
  rintro e w2 ⟨rfl, rfl⟩
  go_wp2
  go_ret
  exact ⟨rfl, rfl⟩

end Go.Proofs.YtcemhepojjbcgaaDoor

/- The model's AlikeIn: edges and least codes. -/


namespace Go.Proofs.YtcemhepojjbcgaaDoor
open Go Go.RowKit
set_option linter.unusedVariables false
set_option maxRecDepth 100000

def IsAlike (L M : List Int) : Prop := IsGraph L ∧ IsGraph M ∧ L.length = M.length ∧ edgesN L = edgesN M ∧ leastL L = leastL M
set_option maxHeartbeats 2000000 in
theorem specAlike_graphs (B B' : Nat) (v v' : Value) (L M : List Int) (hL : IsGraph L) (hM : IsGraph M) (hlm : L.length = M.length) (w : World) (h : Row w B v L) (h' : Row w B' v' M) :
    Calls Tryd.prog 17 #[v, v'] w (Said1 w (decide (edgesN L = edgesN M ∧ leastL L = leastL M))) := by
  have H1 := Lib.hid (specIn_any B v L true ⟨fun _ => hL, fun _ => rfl⟩ w h)
  have H2 := Lib.hid (fun w h => specIn_any B' v' M true ⟨fun _ => hM, fun _ => rfl⟩ w h)
  obtain ⟨A, c, rfl, s1⟩ := h.seen
  have HR' := Lib.hid h'
  obtain ⟨A', c', rfl, s2⟩ := h'.seen
  have HE1 := Lib.hid (fun w1 (b : Below w.heap.size w w1) => specEdges_seen A c L hL w1 (s1.below b))
  have HE2 := Lib.hid (fun w1 (b : Below w.heap.size w w1) => specEdges_seen A' c' M hM w1 (s2.below b))
  have HL1 := Lib.hid (fun w1 (b : Below w.heap.size w w1) => specLeast_seen A c L hL w1 (s1.below b))
  have HL2 := Lib.hid (fun w1 (b : Below w.heap.size w w1) => specLeast_seen A' c' M hM w1 (s2.below b))
  obtain ⟨x, ex⟩ : ∃ x, x = edgesN L := ⟨_, rfl⟩
  obtain ⟨y, ey⟩ : ∃ y, y = edgesN M := ⟨_, rfl⟩
  obtain ⟨p, ep⟩ : ∃ p, p = leastL L := ⟨_, rfl⟩
  obtain ⟨q, eq⟩ : ∃ q, q = leastL M := ⟨_, rfl⟩
  rw [← ex] at HE1 ⊢
  rw [← ey] at HE2 ⊢
  rw [← ep] at HL1 ⊢
  rw [← eq] at HL2 ⊢
  obtain ⟨n, hn⟩ : ∃ n, n = L.length := ⟨_, rfl⟩
  have hm : n = M.length := hn.trans hlm
  rw [← hn] at H1 HE1 HL1 ⊢
  rw [← hm] at H2 HR' HE2 HL2 ⊢
  clear hL hM hlm h h' hn hm s1 s2 ex ey ep eq
  by_cases hxy : x = y
  · have hxy2 : ((x : Int) == (y : Int)) = true := by simp [hxy]
    have e : decide (x = y ∧ p = q) = ((p : Int) == (q : Int)) := by rw [Bool.eq_iff_iff]; simp [hxy]; omega
    rw [e]
    clear hxy e
    go_enter Tryd.func17, Tryd.ntmps17
    go_wp2_with fail
    refine H1.out.mono ?_
    rintro e w1 ⟨rfl, d, rfl⟩
    go_wp2_with fail
    refine (H2.out (w.drewN d) HR'.out).mono ?_
    rintro e w2 ⟨rfl, d2, rfl⟩
    have B0 := Lib.hid (below_drewN (Below.refl w.heap.size w) (d + d2))
    go_wp2_with fail
    refine (HE1.out _ B0.out).mono ?_
    rintro e w3 ⟨rfl, rfl⟩
    go_wp2_with fail
    refine (HE2.out _ B0.out).mono ?_
    rintro e w3 ⟨rfl, rfl⟩
    go_wp2_with fail
    refine (HL1.out _ B0.out).mono ?_
    rintro e w3 ⟨rfl, b3⟩
    have B3 := Lib.hid (B0.out.trans b3)
    clear b3
    go_wp2_with fail
    refine (HL2.out _ B3.out).mono ?_
    rintro e w4 ⟨rfl, b4⟩
    have B4 := Lib.hid (B3.out.trans (b4.mono B3.out.size))
    clear b4
    go_wp2
    go_ret
    exact ⟨rfl, B4.out⟩
  · have hxy2 : ((x : Int) == (y : Int)) = false := by simp; omega
    have e : decide (x = y ∧ p = q) = false := by simp [hxy]
    rw [e]
    clear hxy e
    go_enter Tryd.func17, Tryd.ntmps17
    go_wp2_with fail
    refine H1.out.mono ?_
    rintro e w1 ⟨rfl, d, rfl⟩
    go_wp2_with fail
    refine (H2.out (w.drewN d) HR'.out).mono ?_
    rintro e w2 ⟨rfl, d2, rfl⟩
    have B0 := Lib.hid (below_drewN (Below.refl w.heap.size w) (d + d2))
    go_wp2_with fail
    refine (HE1.out _ B0.out).mono ?_
    rintro e w3 ⟨rfl, rfl⟩
    go_wp2_with fail
    refine (HE2.out _ B0.out).mono ?_
    rintro e w3 ⟨rfl, rfl⟩
    go_wp2
    go_ret
    exact ⟨rfl, B0.out⟩

end Go.Proofs.YtcemhepojjbcgaaDoor

/- Whether names make one graph another one, by the program. -/


namespace Go.Proofs.YtcemhepojjbcgaaDoor
open Go Go.RowKit
set_option linter.unusedVariables false
set_option maxRecDepth 100000

theorem alike_of (A A' : Option Addr) (n n' c c' : Nat) (R : List Int) (ok : Bool) (w : World)
    (h : Calls Tryd.prog 65 #[.slice A n c, .slice A' n' c'] w (Told w R ok)) :
    Calls Tryd.prog 61 #[.slice A n c, .slice A' n' c'] w (Said1 w ok) := by
  have H := Lib.hid h
  clear h
  go_enter Tryd.func61, Tryd.ntmps61
  go_wp2_with fail
  refine H.out.mono ?_
  rintro e w1 ⟨u, rfl, _, b1⟩
  go_wp2
  go_ret
  exact ⟨rfl, b1⟩
theorem alike_any (A A' : Option Addr) (c c' : Nat) (L M : List Int) (hL : IsGraph L) (hM : IsGraph M) (hl : L.length = M.length) (w : World) (sL : Seen w A L) (sM : Seen w A' M) (hT : Tab w) :
    Calls Tryd.prog 61 #[.slice A L.length c, .slice A' M.length c'] w (Said1 w (decide (edgesN L = edgesN M ∧ leastL L = leastL M))) := by
  have e : (!(likeL L M).isEmpty) = decide (edgesN L = edgesN M ∧ leastL L = leastL M) := by
    have h := alike_iff hL hM hl
    rw [Bool.eq_iff_iff, decide_eq_true_eq, ← h]
    cases likeL L M <;> simp
  rw [← e]
  exact alike_of A A' _ _ c c' _ _ w ((callsIn_wide.1 (firstLike_in A A' c c' L M hL hM hl w sL sM hT)).mono fun e w' => firstR_is)
end Go.Proofs.YtcemhepojjbcgaaDoor

/- The law FnExactAlikeIn returns true at each two lists, and leaves all that was there as it was. -/



namespace Go.Proofs.YtcemhepojjbcgaaDoor
open Go Go.RowKit
set_option linter.unusedVariables false
set_option maxRecDepth 100000


theorem specAlike_first (B B' : Nat) (v v' : Value) (L M : List Int) (hL : ¬ IsGraph L) (w : World) (h : Row w B v L) (h' : Row w B' v' M) :
    Calls Tryd.prog 17 #[v, v'] w (Said1 w false) := by
  have H1 := Lib.hid (specIn_any B v L false ⟨fun h => (by cases h), fun h => absurd h hL⟩ w h)
  clear hL h h'
  go_enter Tryd.func17, Tryd.ntmps17
  go_wp2_with fail
  refine H1.out.mono ?_
  rintro e w1 ⟨rfl, d, rfl⟩
  go_wp2
  go_ret
  exact ⟨rfl, below_drewN (Below.refl _ w) d⟩
theorem specAlike_second (B B' : Nat) (v v' : Value) (L M : List Int) (hL : IsGraph L) (hM : ¬ IsGraph M) (w : World) (h : Row w B v L) (h' : Row w B' v' M) :
    Calls Tryd.prog 17 #[v, v'] w (Said1 w false) := by
  have H1 := Lib.hid (specIn_any B v L true ⟨fun _ => hL, fun _ => rfl⟩ w h)
  have H2 := Lib.hid (fun w h => specIn_any B' v' M false ⟨fun h => (by cases h), fun h => absurd h hM⟩ w h)
  clear hL hM h
  go_enter Tryd.func17, Tryd.ntmps17
  go_wp2_with fail
  refine H1.out.mono ?_
  rintro e w1 ⟨rfl, d, rfl⟩
  go_wp2_with fail
  refine (H2.out (w.drewN d) h').mono ?_
  rintro e w2 ⟨rfl, d2, rfl⟩
  go_wp2
  go_ret
  exact ⟨rfl, below_drewN (Below.refl _ w) (d + d2)⟩
theorem specAlike_len (B B' : Nat) (v v' : Value) (L M : List Int) (hL : IsGraph L) (hM : IsGraph M) (hlm : L.length ≠ M.length) (w : World) (h : Row w B v L) (h' : Row w B' v' M) :
    Calls Tryd.prog 17 #[v, v'] w (Said1 w false) := by
  have H1 := Lib.hid (specIn_any B v L true ⟨fun _ => hL, fun _ => rfl⟩ w h)
  have H2 := Lib.hid (fun w h => specIn_any B' v' M true ⟨fun _ => hM, fun _ => rfl⟩ w h)
  obtain ⟨A, c, rfl, _⟩ := h.seen
  have h2 := h'
  obtain ⟨A', c', rfl, _⟩ := h'.seen
  have hd : ((L.length : Int) == (M.length : Int)) = false := by simp; omega
  clear hL hM h h' hlm
  go_enter Tryd.func17, Tryd.ntmps17
  go_wp2_with fail
  refine H1.out.mono ?_
  rintro e w1 ⟨rfl, d, rfl⟩
  go_wp2_with fail
  refine (H2.out (w.drewN d) h2).mono ?_
  rintro e w2 ⟨rfl, d2, rfl⟩
  go_wp2
  go_ret
  exact ⟨rfl, below_drewN (Below.refl _ w) (d + d2)⟩

theorem implAlike_none (v v' : Value) (w : World) (h : Calls Tryd.prog 60 #[v, v'] w (GsNo w)) :
    Calls Tryd.prog 16 #[v, v'] w (Said1 w false) := by
  have H1 := Lib.hid h
  clear h
  go_enter Tryd.func16, Tryd.ntmps16
  go_wp2_with fail
  refine H1.out.mono ?_
  rintro e w1 ⟨rfl, b1⟩
  go_wp2
  go_ret
  exact ⟨rfl, b1⟩
theorem implAlike_graphs (B B' : Nat) (v v' : Value) (L M : List Int) (b : Bool) (hL : IsGraph L) (hM : IsGraph M) (w : World) (h : Row w B v L) (h' : Row w B' v' M) (hT : Tab w)
    (hF : ∀ A A' c c' w, Seen w A L → Seen w A' M → Tab w → Calls Tryd.prog 61 #[.slice A L.length c, .slice A' M.length c'] w (Said1 w b)) :
    Calls Tryd.prog 16 #[v, v'] w (Said1 w b) := by
  have h2 := hT.lt
  have H1 := Lib.hid (asGs_yes B B' v v' L M hL hM w h h' hT)
  obtain ⟨A, c, rfl, s1⟩ := h.seen
  obtain ⟨A', c', rfl, s2⟩ := h'.seen
  have H2 := Lib.hid (fun w1 (b : Below w.heap.size w w1) => hF A A' c c' w1 (s1.below b) (s2.below b) (hT.below b (by omega)))
  clear hL hM h h' s1 s2 hF hT
  go_enter Tryd.func16, Tryd.ntmps16
  go_wp2_with fail
  refine H1.out.mono ?_
  rintro e w1 ⟨rfl, b1⟩
  go_wp2_with fail
  refine (H2.out w1 b1).mono ?_
  rintro e w2 ⟨rfl, b2⟩
  go_wp2
  go_ret
  exact ⟨rfl, b1.trans (b2.mono b1.size)⟩
end Go.Proofs.YtcemhepojjbcgaaDoor

/- The least code by beginnings: what is not gone on with has no lesser code. Plain mathematics, no condition. -/

namespace Go.Proofs.YtcemhepojjbcgaaDoor
open Go Go.RowKit
set_option linter.unusedVariables false
set_option maxRecDepth 100000

/-- The place of a pair of a list's places, counted from above. -/
def plD (n i j : Nat) : Nat := (n - 1 - i) * (n - 1 - i - 1) / 2 + (n - 1 - j)
def downTo (L : List Int) (P : List Nat) (ps : List (Nat × Nat)) : Nat := ps.foldl (fun c x => c ||| bt L (at_ P x.1) (at_ P x.2) * 2 ^ plD L.length x.1 x.2) 0
theorem downTo_nil (L : List Int) (P : List Nat) : downTo L P [] = 0 := rfl
theorem downTo_snoc (L : List Int) (P : List Nat) (ps : List (Nat × Nat)) (x : Nat × Nat) : downTo L P (ps ++ [x]) = downTo L P ps ||| bt L (at_ P x.1) (at_ P x.2) * 2 ^ plD L.length x.1 x.2 := by simp [downTo]
def downC (L : List Int) (P : List Nat) : Nat := downTo L P (rows P.length)
theorem downTo_mono (L : List Int) (P : List Nat) (ps qs : List (Nat × Nat)) : downTo L P ps ≤ downTo L P (ps ++ qs) := by
  induction qs using snoc_ind with
  | h0 => rw [List.append_nil]; exact Nat.le_refl _
  | h1 l x ih =>
    rw [← List.append_assoc, downTo_snoc]
    exact Nat.le_trans ih Nat.left_le_or
theorem downTo_congr (L : List Int) {P Q : List Nat} (ps : List (Nat × Nat)) (h : ∀ x ∈ ps, at_ P x.1 = at_ Q x.1 ∧ at_ P x.2 = at_ Q x.2) : downTo L P ps = downTo L Q ps := by
  induction ps using snoc_ind with
  | h0 => rfl
  | h1 l x ih =>
    have hx := h x (by simp)
    rw [downTo_snoc, downTo_snoc, ih (fun y hy => h y (by simp [hy])), hx.1, hx.2]
theorem rows_pref (a : Nat) : ∀ b, a ≤ b → rows a <+: rows b := by
  intro b hb
  obtain ⟨d, rfl⟩ : ∃ d, b = a + d := ⟨b - a, by omega⟩
  clear hb
  induction d with
  | zero => exact List.prefix_refl _
  | succ d ih =>
    refine ih.trans ?_
    unfold rows
    rw [show a + (d + 1) = (a + d) + 1 by omega, List.range_succ, List.flatMap_append]
    exact List.prefix_append _ _
/-- **What begins with a list has no lesser code.** -/
theorem down_le (L : List Int) {P Q : List Nat} (h : Q.take P.length = P) : downC L P ≤ downC L Q := by
  have hl : P.length ≤ Q.length := by
    have := congrArg List.length h
    rw [List.length_take] at this
    omega
  obtain ⟨t, ht⟩ := rows_pref P.length Q.length hl
  unfold downC
  rw [← ht]
  refine Nat.le_trans (Nat.le_of_eq ?_) (downTo_mono L Q (rows P.length) t)
  refine downTo_congr L _ fun x hx => ?_
  obtain ⟨h1, h2⟩ := (rows_all P.length x.1 x.2).1 hx
  have e : ∀ v, v < P.length → at_ P v = at_ Q v := fun v hv => by
    have := take_at (P := Q) (i := P.length) hv
    rw [h] at this
    exact this
  exact ⟨e _ (by omega), e _ h2⟩

theorem pl_row : ∀ (n : Fin 7) (j : Fin 6) (i : Fin 6), i.val < j.val → j.val < n.val → (rows n.val)[plD n.val i.val j.val]? = some (n.val - 1 - j.val, n.val - 1 - i.val) := by decide
theorem row_pl : ∀ (n : Fin 7) (t : Fin 15), t.val < (rows n.val).length → plD n.val (n.val - 1 - ((rows n.val)[t.val]?.getD (0, 0)).2) (n.val - 1 - ((rows n.val)[t.val]?.getD (0, 0)).1) = t.val := by decide
theorem down_bit (L : List Int) (P : List Nat) (ps : List (Nat × Nat)) (t : Nat) : (downTo L P ps).testBit t = true ↔ ∃ x ∈ ps, plD L.length x.1 x.2 = t ∧ bt L (at_ P x.1) (at_ P x.2) = 1 := by
  induction ps using snoc_ind with
  | h0 => simp [downTo]
  | h1 l x ih =>
    rw [downTo_snoc, Nat.testBit_or, Bool.or_eq_true, ih, bit_test _ _ _ (bt_le _ _ _)]
    simp only [Bool.and_eq_true, decide_eq_true_eq, List.mem_append, List.mem_singleton]
    constructor
    · rintro (⟨y, h1, h2⟩ | ⟨h1, h2⟩)
      · exact ⟨y, .inl h1, h2⟩
      · exact ⟨x, .inr rfl, h2.symm, h1⟩
    · rintro ⟨y, (h1 | h1), h2, h3⟩
      · exact .inl ⟨y, h1, h2, h3⟩
      · subst h1; exact .inr ⟨h3, h2.symm⟩
/-- **The code of a whole list is that of the graph with its nodes named from above.** -/
theorem down_code {L : List Int} (hL : IsGraph L) {P R : List Nat} (hP : Names L.length L.length P) (hR : Names L.length L.length R) (h : ∀ i, i < L.length → at_ R (at_ P i) = L.length - 1 - i) : downC L P = codeOf (namedL L R) := by
  have h6 := hL.2.1
  have hl := namedL_length L R
  have hbt : ∀ i j, i < L.length → j < L.length → bt (namedL L R) (L.length - 1 - i) (L.length - 1 - j) = bt L (at_ P i) (at_ P j) := fun i j hi hj => by
    rw [← h i hi, ← h j hj]
    exact named_at hR (at_name hP hi) (at_name hP hj)
  have hN := named_graph hL hR
  unfold downC codeOf
  rw [hP.1, hl]
  refine Nat.eq_of_testBit_eq fun t => ?_
  rw [Bool.eq_iff_iff, down_bit]
  constructor
  · rintro ⟨x, hx, h1, h2⟩
    obtain ⟨x1, x2⟩ := (rows_all _ _ _).1 hx
    have h3 := pl_row ⟨L.length, by omega⟩ ⟨x.2, by omega⟩ ⟨x.1, by omega⟩ x1 x2
    dsimp only at h3
    rw [h1] at h3
    obtain ⟨hk, e⟩ := List.getElem?_eq_some_iff.1 h3
    rw [crun_bit _ _ t hk, e]
    show bt (namedL L R) (L.length - 1 - x.2) (L.length - 1 - x.1) = 1
    rw [hbt _ _ (by omega) (by omega), bt_sym hL (at_name hP (by omega)) (at_name hP (by omega))]
    exact h2
  · intro ht
    by_cases hk : t < (rows L.length).length
    · rw [crun_bit _ _ t hk] at ht
      have h15 := rows_length L.length h6
      have h3 := row_pl ⟨L.length, by omega⟩ ⟨t, by omega⟩ hk
      dsimp only at h3
      rw [List.getElem?_eq_getElem hk] at h3
      simp only [Option.getD_some] at h3
      obtain ⟨x, ex⟩ : ∃ x, x = (rows L.length)[t] := ⟨_, rfl⟩
      have hx : x ∈ rows L.length := by rw [ex]; exact List.getElem_mem _
      obtain ⟨x1, x2⟩ := (rows_all _ _ _).1 hx
      rw [← ex] at ht h3
      refine ⟨(L.length - 1 - x.2, L.length - 1 - x.1), (rows_all _ _ _).2 ⟨by omega, by omega⟩, h3, ?_⟩
      have e := hbt (L.length - 1 - x.2) (L.length - 1 - x.1) (by omega) (by omega)
      rw [show L.length - 1 - (L.length - 1 - x.2) = x.2 by omega, show L.length - 1 - (L.length - 1 - x.1) = x.1 by omega] at e
      show bt L (at_ P (L.length - 1 - x.2)) (at_ P (L.length - 1 - x.1)) = 1
      rw [← e, bt_sym hN (by rw [hl]; omega) (by rw [hl]; omega)]
      exact ht
    · have h1 := crun_lt (namedL L R) (rows L.length)
      have h2 : (crun (namedL L R) (rows L.length)).1 < 2 ^ t := Nat.lt_of_lt_of_le h1 (Nat.pow_le_pow_right (by omega) (by omega))
      rw [Nat.testBit_lt_two_pow h2] at ht
      cases ht

/-! ### the search -/
def bestOf (L : List Int) (acc : List (List Nat)) : Nat := match acc.getLast? with
  | none => codeOf L
  | some P => downC L P
theorem bestOf_nil (L : List Int) : bestOf L [] = codeOf L := rfl
theorem bestOf_snoc (L : List Int) (acc : List (List Nat)) (P : List Nat) : bestOf L (acc ++ [P]) = downC L P := by simp [bestOf]
def fitD (L : List Int) (acc : List (List Nat)) (P : List Nat) : Bool := decide (downC L P < bestOf L acc)
def minD (L : List Int) (b : Nat) (R : List (List Nat)) : Nat := R.foldl (fun b P => min b (downC L P)) b
theorem minD_append (L : List Int) (b : Nat) (R S : List (List Nat)) : minD L b (R ++ S) = minD L (minD L b R) S := by simp [minD]
theorem minD_none (L : List Int) (b : Nat) (R : List (List Nat)) (h : ∀ P ∈ R, b ≤ downC L P) : minD L b R = b := by
  induction R using snoc_ind with
  | h0 => rfl
  | h1 l x ih =>
    rw [minD_append, ih (fun P hP => h P (by simp [hP]))]
    exact Nat.min_eq_left (h x (by simp))
theorem search (L : List Int) (n : Nat) : ∀ (k : Nat) (acc : List (List Nat)) (P : List Nat) (s : Nat), s < 64 → Comp n P s → (k = 0 → downC L P < bestOf L acc) → bestOf L (dfs (fitD L) k acc P s) = minD L (bestOf L acc) (extK n k [P]) := by
  intro k
  induction k with
  | zero =>
    intro acc P s hs hc h
    rw [dfs_zero, bestOf_snoc]
    have := h rfl
    show _ = min (bestOf L acc) (downC L P)
    omega
  | succ k ih =>
    intro acc P s hs hc _
    rw [dfs_succ]
    have e : extK n (k + 1) [P] = (nodesL s).flatMap fun v => extK n k [P ++ [v]] := by
      show extK n k ([P].flatMap (ext n)) = _
      rw [extK_flat]
      unfold ext
      rw [hc]
      simp [List.flatMap_map]
    rw [e]
    have hall : ∀ vs : List Nat, (∀ v ∈ vs, v ∈ nodesL s) → bestOf L (runF (fitD L) k P s acc vs) = minD L (bestOf L acc) (vs.flatMap fun v => extK n k [P ++ [v]]) := by
      intro vs
      induction vs using snoc_ind with
      | h0 => intro _; rfl
      | h1 l v ihl =>
        intro hv
        rw [runF_snoc, List.flatMap_append, minD_append, ← ihl (fun x hx => hv x (by simp [hx]))]
        obtain ⟨a, ea⟩ : ∃ a, a = runF (fitD L) k P s acc l := ⟨_, rfl⟩
        rw [← ea]
        have hvs := hv v (by simp)
        have e1 : (([v] : List Nat).flatMap fun v => extK n k [P ++ [v]]) = extK n k [P ++ [v]] := by simp
        rw [e1]
        unfold stepF
        by_cases hf : fitD L a (P ++ [v]) = true
        · rw [if_pos hf]
          have hlt : downC L (P ++ [v]) < bestOf L a := of_decide_eq_true hf
          exact ih a (P ++ [v]) _ (Nat.lt_of_le_of_lt (less_le _ _) hs) (comp_next hs hc hvs) (fun _ => hlt)
        · rw [if_neg hf]
          have hge : bestOf L a ≤ downC L (P ++ [v]) := Nat.le_of_not_lt fun h => hf (decide_eq_true h)
          exact (minD_none L _ _ fun Q hQ => Nat.le_trans hge (down_le L (extK_take n k _ Q hQ).1)).symm
    exact hall _ (fun v hv => hv)
theorem minD_le (L : List Int) (b : Nat) (R : List (List Nat)) : minD L b R ≤ b ∧ ∀ P ∈ R, minD L b R ≤ downC L P := by
  induction R using snoc_ind with
  | h0 => exact ⟨Nat.le_refl _, fun P hP => by cases hP⟩
  | h1 l x ih =>
    rw [minD_append]
    refine ⟨Nat.le_trans (Nat.min_le_left _ _) ih.1, fun P hP => ?_⟩
    rcases List.mem_append.1 hP with h | h
    · exact Nat.le_trans (Nat.min_le_left _ _) (ih.2 P h)
    · rw [List.mem_singleton.1 h]; exact Nat.min_le_right _ _
theorem minD_ge (L : List Int) (b m : Nat) (R : List (List Nat)) (hb : m ≤ b) (h : ∀ P ∈ R, m ≤ downC L P) : m ≤ minD L b R := by
  induction R using snoc_ind with
  | h0 => exact hb
  | h1 l x ih =>
    rw [minD_append]
    exact Nat.le_min.2 ⟨ih (fun P hP => h P (by simp [hP])), h x (by simp)⟩
/-- **The search finds the least code.** -/
theorem search_least {L : List Int} (hL : IsGraph L) : bestOf L (allNames (fitD L) L.length) = leastL L := by
  have h1 := hL.1
  have h6 := hL.2.1
  have hc : Comp L.length [] (2 ^ L.length - 1) := by
    have := full_comp ⟨L.length, by omega⟩
    unfold Comp left
    rw [List.filter_eq_self.2 (fun a _ => by simp)]
    exact this
  unfold allNames
  have hs := search L L.length L.length [] [] (2 ^ L.length - 1) (by have := two_le h6; have := two_pos L.length; omega) hc (fun h => by omega)
  rw [hs]
  show minD L (codeOf L) (permsTo L.length L.length) = leastL L
  have hidn := perms_names _ _ _ (range_perms L.length L.length (Nat.le_refl _))
  refine Nat.le_antisymm ?_ (minD_ge L _ _ _ ?_ fun P hP => ?_)
  · obtain ⟨R, hR, e⟩ := least_is hL
    have hPn : Names L.length L.length ((List.range L.length).map fun i => invF L.length R (L.length - 1 - i)) :=
      map_range_names (fun v hv => (invF_spec hR (show L.length - 1 - v < L.length by omega)).1) (fun a b ha hb he => by
        have e1 := (invF_spec hR (show L.length - 1 - a < L.length by omega)).2
        have e2 := (invF_spec hR (show L.length - 1 - b < L.length by omega)).2
        rw [he] at e1
        omega)
    have hd := down_code hL hPn hR (fun i hi => by rw [map_range_at _ _ hi]; exact (invF_spec hR (by omega)).2)
    rw [e, ← hd]
    exact (minD_le L _ _).2 _ (perms_all _ _ _ hPn)
  · have := least_le hidn
    rwa [named_id hL] at this
  · have hPn := perms_names _ _ _ hP
    have hRn : Names L.length L.length ((List.range L.length).map fun v => L.length - 1 - invF L.length P v) :=
      map_range_names (fun v hv => by omega) (fun a b ha hb he => by
        have e1 := invF_spec hPn ha
        have e2 := invF_spec hPn hb
        have e3 : invF L.length P a = invF L.length P b := by omega
        rw [← e1.2, ← e2.2, e3])
    have hd := down_code hL hPn hRn (fun i hi => by
      rw [map_range_at _ _ (at_name hPn hi)]
      have e1 := invF_spec hPn (at_name hPn hi)
      have e2 := at_inj hPn e1.1 hi e1.2
      rw [e2])
    rw [hd]
    exact least_le hRn

end Go.Proofs.YtcemhepojjbcgaaDoor

/- The code of a beginning, counted from above: place and codeDown. -/






namespace Go.Proofs.YtcemhepojjbcgaaDoor
open Go Go.RowKit Go.Shelf
attribute [local go_sem] Oper.semAt_some
set_option linter.unusedVariables false
set_option maxRecDepth 100000

set_option maxHeartbeats 1000000 in
theorem place_any (a b : Nat) (ha : a ≤ 6) (h1 : 1 ≤ b) (hb : b ≤ 5) (w : World) : Calls Tryd.prog 129 #[.int .i64 a, .int .i64 b] w fun e w' => e = .returned (.int .i64 ((b * (b - 1) / 2 + a : Nat) : Int)) ∧ w = w' := by
  have hc : b = 1 ∨ b = 2 ∨ b = 3 ∨ b = 4 ∨ b = 5 := by omega
  clear h1 hb
  rcases hc with rfl | rfl | rfl | rfl | rfl
  all_goals
    go_enter Tryd.func129, Tryd.ntmps129
    go_wp2
    go_ret
    refine ⟨ret_int ?_, rfl⟩
    try simp
    try (unfold wrap64; omega)

theorem pl_small (n i j : Nat) (h : i < j) (hj : j < n) (h6 : n ≤ 6) : plD n i j ≤ 15 := by
  unfold plD
  have h1 : (n - 1 - i) * (n - 1 - i - 1) ≤ 5 * 4 := Nat.mul_le_mul (by omega) (by omega)
  omega
/-- Between two rounds of codeDown. -/
def DoI (n₀ p q : Nat) (S V : Value) (L : List Int) (P : List Nat) (m : Nat) (pre : List (Pr m)) (W : World) : Prop :=
  Boxed W n₀ 41 S ∧ Boxed W (n₀ + 1) 23 V ∧ Boxed W p 3 (.int .i64 (downTo L P (vals pre) : Nat)) ∧ Boxed W q 3 (.int .i64 ((L.length - 1 : Nat) : Int))
theorem doI_own (n₀ p q : Nat) (S V : Value) (L : List Int) (P : List Nat) (m : Nat) : Own (DoI n₀ p q S V L P m) := fun s X Y row hs hg hr =>
  ⟨boxed_own _ _ (fun _ : Unit => _) () X Y row hs.1 hg hr, boxed_own _ _ (fun _ : Unit => _) () X Y row hs.2.1 hg hr, boxed_own _ _ (fun _ : Unit => _) () X Y row hs.2.2.1 hg hr, boxed_own _ _ (fun _ : Unit => _) () X Y row hs.2.2.2 hg hr⟩
theorem downTo_lt (L : List Int) (P : List Nat) (h6 : L.length ≤ 6) (ps : List (Nat × Nat)) (h : ∀ x ∈ ps, x.1 < x.2 ∧ x.2 < L.length) : downTo L P ps < 65536 := by
  induction ps using snoc_ind with
  | h0 => show 0 < 65536; decide
  | h1 l x ih =>
    rw [downTo_snoc]
    have hx := h x (by simp)
    have h1 := pl_small L.length x.1 x.2 hx.1 hx.2 h6
    have h2 : 2 ^ plD L.length x.1 x.2 ≤ 2 ^ 15 := Nat.pow_le_pow_right (by omega) h1
    have h3 := bt_le L (at_ P x.1) (at_ P x.2)
    have h4 : bt L (at_ P x.1) (at_ P x.2) * 2 ^ plD L.length x.1 x.2 ≤ 1 * 2 ^ 15 := Nat.mul_le_mul h3 h2
    exact Nat.or_lt_two_pow (n := 16) (ih fun y hy => h y (by simp [hy])) (by omega)

set_option maxHeartbeats 4000000 in
theorem codeDown_in (A A' : Option Addr) (c c' : Nat) (L : List Int) (P : List Nat) (hg : IsGraph L) (h1P : 1 ≤ P.length) (hP : P.length ≤ L.length) (hPn : ∀ x ∈ P, x < L.length) (w : World) (h : Seen w A L) (h' : Seen w A' (ints P)) :
    CallsIn Fence.wide 8 Tryd.prog 112 #[.slice A L.length c, .slice A' P.length c'] w (NumA w (downC L P)) := by
  have h1 := hg.1
  have h6 := hg.2.1
  obtain ⟨blk, off, hA0, hbl0, _⟩ := h 0 (by omega)
  obtain ⟨blk', off', hA0', hbl0', _⟩ := h' 0 (by rw [ints_length]; omega)
  obtain ⟨n, hn⟩ : ∃ n, n = L.length := ⟨_, rfl⟩
  obtain ⟨m, hm⟩ : ∃ m, m = P.length := ⟨_, rfl⟩
  rw [← hn] at h1 h6 hP hPn ⊢
  rw [← hm] at h1P hP ⊢
  subst hA0
  subst hA0'
  have HN := Lib.hid hn
  have HM := Lib.hid hm
  have H := Lib.hid h
  have H' := Lib.hid h'
  have HG := Lib.hid hg
  have HPN := Lib.hid hPn
  have hn1 : (n : Int) - 1 = ((n - 1 : Nat) : Int) := by omega
  clear h h' hg hn hm hPn
  refine callsIn_of_wp_marks Tryd.func112 rfl trivial ?_ rfl
  simp only [Tryd.ntmps112, List.size_toArray, List.length_cons, List.length_nil, Nat.reduceAdd, Nat.reduceSub, Array.replicate_succ, Array.replicate_zero, List.push_toArray, List.append_toArray, List.nil_append, List.cons_append]
  gi_wp2
  rename_i K hK
  have hmx : Tryd.prog.follows .mixedOrders = true := by kernel_rfl
  obtain ⟨n₀, en⟩ : ∃ n₀, n₀ = w.heap.size := ⟨_, rfl⟩
  obtain ⟨Z, eZ⟩ : ∃ Z, Z = (w.alloc (.cells #[.slice (some ⟨blk, off, none⟩) n c] 41)).alloc (.cells #[.slice (some ⟨blk', off', none⟩) m c'] 23) := ⟨_, rfl⟩
  have sZ : Z.heap.size = n₀ + 1 + 1 := by rw [eZ, en]; simp
  have x0 : Boxed Z n₀ 41 (.slice (some ⟨blk, off, none⟩) n c) := by rw [eZ, en]; exact (Boxed.new w _ _).alloc _
  have x1 : Boxed Z (n₀ + 1) 23 (.slice (some ⟨blk', off', none⟩) m c') := by
    rw [eZ, en]; have h := Boxed.new (w.alloc (.cells #[.slice (some ⟨blk, off, none⟩) n c] 41)) 23 (.slice (some ⟨blk', off', none⟩) m c'); rw [World.size_alloc] at h; exact h
  have bZ : Below n₀ w Z := by rw [eZ, en]; exact ((Below.refl _ w).alloc (Nat.le_refl _) _).alloc (by simp) _
  rw [← eZ, ← en]
  rw [← en] at hbl0 hbl0'
  have y0 := x0.cell
  have y1 : ∀ o, (Z.alloc o).cell? ⟨n₀, 0, none⟩ = some (.slice (some ⟨blk, off, none⟩) n c) := fun o => (x0.alloc o).cell
  have y2 : ∀ o o', ((Z.alloc o).alloc o').cell? ⟨n₀, 0, none⟩ = some (.slice (some ⟨blk, off, none⟩) n c) := fun o o' => ((x0.alloc o).alloc o').cell
  have y3 : ∀ o o' v, (((Z.alloc o).alloc o').setCell ⟨Z.heap.size, 0, none⟩ v).cell? ⟨n₀, 0, none⟩ = some (.slice (some ⟨blk, off, none⟩) n c) := fun o o' v => (((x0.alloc o).alloc o').other (by omega) _).cell
  have y4 : ∀ o o' v, (((Z.alloc o).alloc o').setCell ⟨Z.heap.size + 1, 0, none⟩ v).cell? ⟨n₀, 0, none⟩ = some (.slice (some ⟨blk, off, none⟩) n c) := fun o o' v => (((x0.alloc o).alloc o').other (by omega) _).cell
  have hw1 : IntKind.i64.wrap ((n - 1 : Nat) : Int) = ((n - 1 : Nat) : Int) := by rw [IntKind.wrap_i64]; omega
  have EN := Lib.hid en
  have SZ := Lib.hid sZ
  have X0 := Lib.hid x0
  have X1 := Lib.hid x1
  have BZ := Lib.hid bZ
  clear eZ en x0 x1 bZ sZ
  have REST : ∀ (p q : Nat) (W : World), p ≠ q → n₀ + 1 < p → n₀ + 1 < q → p < W.heap.size → q < W.heap.size → Boxed W n₀ 41 (.slice (some ⟨blk, off, none⟩) n c) → Boxed W (n₀ + 1) 23 (.slice (some ⟨blk', off', none⟩) m c') → Boxed W p 3 (.int .i64 0) → Boxed W q 3 (.int .i64 ((n - 1 : Nat) : Int)) → Below n₀ w W →
      K { tmps := #[.slice (some ⟨blk, off, none⟩) n c, .slice (some ⟨blk', off', none⟩) m c', .pointer (some ⟨n₀, 0, none⟩), .pointer (some ⟨n₀ + 1, 0, none⟩), .int .i64 0, .pointer (some ⟨p, 0, none⟩), .pointer (some ⟨q, 0, none⟩), undef, undef, .slice (some ⟨blk, off, none⟩) n c, .int .i64 n, .int .i64 ((n - 1 : Nat) : Int), undef, undef, undef, undef, undef, undef, undef, undef, undef, undef, undef, undef, undef, undef, undef, undef, undef, undef, undef, undef, undef, undef, undef, undef, undef, undef], defers := [] } W := by
    intro p q W hpq hp hq hpl hql b0 b1 b2 b3 hB
    clear y0 y1 y2 y3 y4 X0 X1 BZ SZ
    refine hK _ _ ?_
    have v1 := b1.cell
    gi_wp2_with (refine ⟨trivial, ?_⟩; gi_at_call 114; refine (callsIn_wide.2 (pairs_any m _)).mono ?_; rintro e w' ⟨rfl, rfl⟩)
    obtain ⟨nb, enb⟩ : ∃ nb, nb = W.heap.size := ⟨_, rfl⟩
    have c0 := b0.alloc (.cells #[.int .i64 m] 3)
    have c1 := b1.alloc (.cells #[.int .i64 m] 3)
    have c2 := b2.alloc (.cells #[.int .i64 m] 3)
    have c3 := b3.alloc (.cells #[.int .i64 m] 3)
    have c4 := (Boxed.new W 3 (.int .i64 m)).cell
    have cB : Below n₀ w (W.alloc (.cells #[.int .i64 m] 3)) := hB.alloc (by omega) _
    have cS : (W.alloc (.cells #[.int .i64 m] 3)).heap.size = nb + 1 := by rw [enb]; simp
    obtain ⟨U, eU⟩ : ∃ U, U = W.alloc (.cells #[.int .i64 m] 3) := ⟨_, rfl⟩
    rw [← eU] at c0 c1 c2 c3 c4 cB cS ⊢
    rw [← enb] at hpl hql c4 ⊢
    have EU := Lib.hid eU
    have CS := Lib.hid cS
    have hle : n₀ ≤ w.heap.size := by have := EN.out; omega
    have hnbU : nb < U.heap.size := by omega
    clear eU enb b0 b1 b2 b3 hB v1 cS
    refine wpIn_rangeFunc_ownF (α := Pr m) rfl (by omega) (gf := 132) (lb := #[.pointer (some ⟨nb, 0, none⟩)]) rfl trivial (enters_of Tryd.func132 (by kernel_rfl) rfl)
      (pairs_stops Fence.wide _ trivial rfl (by omega) nb m (by omega) U hnbU c4) (fun _ _ => trivial) (fun _ _ _ _ _ _ _ _ => trivial) (Below.refl _ _) (fun _ => rfl)
      (fun pre X => DoI n₀ p q (.slice (some ⟨blk, off, none⟩) n c) (.slice (some ⟨blk', off', none⟩) m c') L P m pre X ∧ Below n₀ w X) (fun _ _ _ => False)
      (OwnFrom.and (Own.from (doI_own _ _ _ _ _ _ _ _) _) (ownFrom_below hle (by omega))) (fun _ _ _ _ _ hs _ _ => hs)
      ⟨⟨c0, c1, c2, by rw [← HN.out]; exact c3⟩, cB⟩
      (fun x => { tmps := #[.slice (some ⟨blk, off, none⟩) n c, .slice (some ⟨blk', off', none⟩) m c', .pointer (some ⟨n₀, 0, none⟩), .pointer (some ⟨n₀ + 1, 0, none⟩), .int .i64 0, .pointer (some ⟨p, 0, none⟩), .pointer (some ⟨q, 0, none⟩), .int .i64 (x.1.1 : Int), .int .i64 (x.1.2 : Int), .slice (some ⟨blk, off, none⟩) n c, .int .i64 n, .int .i64 ((n - 1 : Nat) : Int), .slice (some ⟨blk', off', none⟩) m c', .int .i64 m,
        .func (.func 132) #[] #[.pointer (some ⟨nb, 0, none⟩)], .int .i64 (x.1.1 : Int), .int .i64 (x.1.2 : Int), undef, undef, undef, undef, undef, undef, undef, undef, undef, undef, undef, undef, undef, undef, undef, undef, undef, undef, undef, undef, undef], defers := [] }) ?assign ?body ?done ?stop
    case assign =>
      intro l x X K hK
      gi_wp2
      exact hK
    case body =>
      rintro l pre x Wr ⟨⟨c0, c1, c2, c3⟩, hB⟩ hlen
      obtain ⟨⟨u, v⟩, hu, hv⟩ := x
      dsimp only at hu hv ⊢
      rw [← HN.out] at c3
      have hst := downTo_snoc L P (vals pre) (u, v)
      have hvs := vals_snoc pre (⟨(u, v), hu, hv⟩ : Pr m)
      dsimp only at hvs
      rw [← hvs] at hst
      have hun : u < n := by omega
      have hvn : v < n := by omega
      have hau : at_ P u < n := at_lt HPN.out (by rw [← HM.out]; omega)
      have hav : at_ P v < n := at_lt HPN.out (by rw [← HM.out]; omega)
      have hmem : ∀ y ∈ vals pre, y.1 < y.2 ∧ y.2 < L.length := fun y hy => by
        unfold vals at hy
        obtain ⟨z, _, rfl⟩ := List.mem_map.1 hy
        obtain ⟨z, hz1, hz2⟩ := z
        exact ⟨hz1, by have := HN.out; show z.2 < _; omega⟩
      have hdl := downTo_lt L P (by rw [← HN.out]; exact h6) (vals pre) hmem
      obtain ⟨bk2, of2, hA2, hbl2, hcu⟩ := H'.out u (by rw [ints_length, ← HM.out]; omega)
      have e2 : blk' = bk2 ∧ off' = of2 := by injection hA2 with e; injection e with e1 e2; exact ⟨e1, e2⟩
      obtain ⟨rfl, rfl⟩ := e2
      obtain ⟨bk3, of3, hA3, hbl3, hcv⟩ := H'.out v (by rw [ints_length, ← HM.out]; omega)
      have e3 : blk' = bk3 ∧ off' = of3 := by injection hA3 with e; injection e with e1 e2; exact ⟨e1, e2⟩
      obtain ⟨rfl, rfl⟩ := e3
      rw [ints_at (by rw [← HM.out]; omega)] at hcu hcv
      obtain ⟨bk1, of1, hA1, hbl1, hc1⟩ := H.out (at_ P u) (by rw [← HN.out]; exact hau)
      have e1 : blk = bk1 ∧ off = of1 := by injection hA1 with e; injection e with e1 e2; exact ⟨e1, e2⟩
      obtain ⟨rfl, rfl⟩ := e1
      have hin := (HG.out.2.2 (at_ P u) (by rw [← HN.out]; exact hau)).1
      have hX := ent_int hin
      have hXl := ent_lt hin
      have h64 := two_le (n := L.length) (by rw [← HN.out]; exact h6)
      have hbt : bt L (at_ P u) (at_ P v) = ent L (at_ P u) / 2 ^ at_ P v % 2 := rfl
      rw [hX] at hc1
      have hst' : downTo L P (vals (pre ++ [(⟨(u, v), hu, hv⟩ : Pr m)])) = downTo L P (vals pre) ||| bt L (at_ P u) (at_ P v) * 2 ^ plD n u v := by rw [hst, HN.out]
      rw [hbt] at hst'
      obtain ⟨X, eX⟩ : ∃ X, X = ent L (at_ P u) := ⟨_, rfl⟩
      obtain ⟨a, ea⟩ : ∃ a, a = at_ P u := ⟨_, rfl⟩
      obtain ⟨b, eb⟩ : ∃ b, b = at_ P v := ⟨_, rfl⟩
      obtain ⟨d, ed⟩ : ∃ d, d = downTo L P (vals pre) := ⟨_, rfl⟩
      rw [← eX] at hc1 hXl hst'
      rw [← ea] at hcu hau hc1
      rw [← eb] at hcv hav hst'
      rw [← ed] at hst' hdl c2
      have hXs : X < 1048576 := by omega
      have rU : Wr.cell? ⟨blk', off' + u, none⟩ = some (.int .i64 a) := (hB.cell (p := ⟨blk', off' + u, none⟩) hbl0').trans hcu
      have rV : Wr.cell? ⟨blk', off' + v, none⟩ = some (.int .i64 b) := (hB.cell (p := ⟨blk', off' + v, none⟩) hbl0').trans hcv
      have rX : Wr.cell? ⟨blk, off + a, none⟩ = some (.int .i64 X) := (hB.cell (p := ⟨blk, off + a, none⟩) hbl0).trans hc1
      have C0 := Lib.hid c0
      have C1 := Lib.hid c1
      have C2 := Lib.hid c2
      have C3 := Lib.hid c3
      have HB := Lib.hid hB
      have HST := Lib.hid hst'
      have z0 := c0.cell
      have z1 := c1.cell
      have z2 := c2.cell
      have z3 := c3.cell
      have hiu : (0 : Int) ≤ (u : Int) ∧ (u : Int) < (m : Int) := by omega
      have hiv : (0 : Int) ≤ (v : Int) ∧ (v : Int) < (m : Int) := by omega
      have hb40 : b < 40 := by omega
      have HE := Lib.hid (fun w hc => edge_any blk off n c a b X w hXs hau hb40 hc)
      have hmx2 : Tryd.prog.follows .mixedOrders = true := hmx
      clear c0 c1 c2 c3 hB hst hst' hvs hmem hcu hcv hc1 hA1 hA2 hA3 hbl1 hbl2 hbl3 hin hX hXl h64 hbt eX ea eb ed
      by_cases hbit : X / 2 ^ b % 2 = 1
      · have hbb : (X / 2 ^ b % 2 == 1) = true := by simp [hbit]
        have HBT := Lib.hid hbit
        clear hbit
        rw [hbb] at HE
        obtain ⟨ta, eta⟩ : ∃ ta, ta = n - 1 - v := ⟨_, rfl⟩
        obtain ⟨tb, etb⟩ : ∃ tb, tb = n - 1 - u := ⟨_, rfl⟩
        have f1 : ((n - 1 : Nat) : Int) - (v : Int) = (ta : Int) := by omega
        have f2 : ((n - 1 : Nat) : Int) - (u : Int) = (tb : Int) := by omega
        have f3 : IntKind.i64.wrap (ta : Int) = (ta : Int) := by rw [IntKind.wrap_i64]; omega
        have f4 : IntKind.i64.wrap (tb : Int) = (tb : Int) := by rw [IntKind.wrap_i64]; omega
        have hpl := place_any ta tb (by omega) (by omega) (by omega)
        have hkk : tb * (tb - 1) / 2 + ta = plD n u v := by rw [eta, etb]; rfl
        have hk15 := pl_small n u v hu hvn h6
        rw [hkk] at hpl
        obtain ⟨k, ek⟩ : ∃ k, k = plD n u v := ⟨_, rfl⟩
        rw [← ek] at hpl hk15
        have HPL := Lib.hid hpl
        have wp1 := wrap_pow k (Nat.le_trans hk15 (by decide))
        obtain ⟨t, et⟩ : ∃ t, t = 2 ^ k := ⟨_, rfl⟩
        have ht : t ≤ 2 ^ 15 := by rw [et]; exact Nat.pow_le_pow_right (by decide) hk15
        rw [← et] at wp1
        have wp2 : IntKind.i64.wrap ((2 : Int) ^ k) = (t : Int) := by rw [IntKind.wrap_i64]; unfold wrap64 at wp1; exact wp1
        have wor := i64_or_nat d t (Nat.lt_trans hdl (by decide)) (Nat.lt_of_le_of_lt ht (by decide))
        have EK := Lib.hid ek
        have ET := Lib.hid et
        obtain ⟨w3, ew3⟩ : ∃ w3, w3 = Wr.drew.drew := ⟨_, rfl⟩
        have y2 : w3.cell? ⟨p, 0, none⟩ = some (.int .i64 d) := by rw [ew3]; exact z2
        have y3 : w3.frozen? ⟨p, 0, none⟩ = false := by rw [ew3]; exact C2.out.frozen
        have EW3 := Lib.hid ew3
        clear eta etb hpl hkk ek et ht ew3
        gi_wp2
        refine wpIn_tail_round 9 (by kernel_rfl) (by kernel_rfl) (by kernel_rfl) ?_
        simp only [List.take_succ_cons, List.take_zero, List.drop_succ_cons, List.drop_zero]
        repeat still_step
        refine wpStill_nil ?_
        gi_wp2_with (refine ⟨trivial, ?_⟩; gi_at_call 108; refine (CallsIn.inRound l (callsIn_wide.2 (HE.out Wr.drew rX))).mono ?_; rintro e w' ⟨rfl, rfl⟩)
        refine wpIn_tail_round 10 (by kernel_rfl) (by kernel_rfl) (by kernel_rfl) ?_
        simp only [List.take_succ_cons, List.take_zero, List.drop_succ_cons, List.drop_zero]
        repeat still_step
        still_call ((HPL.out _).mono fun e w' ⟨he, hw⟩ => ⟨he, hw.symm⟩)
        repeat still_step
        refine wpStill_nil ?_
        rw [← EW3.out]
        gi_wp2
        rw [EW3.out]
        have gk := grown_set (grown_drew (grown_drew (World.grownBy.refl Wr (some p)))) 0 (.int .i64 ((d ||| t : Nat) : Int))
        refine ⟨((KeepsOthers.drew _).trans (KeepsOthers.drew _)).trans (KeepsOthers.setCell _ _ _), trivial, ⟨C0.out.kept gk (fun e => by injection e; omega), C1.out.kept gk (fun e => by injection e; omega), ?_, ?_⟩, HB.out.grown gk (by have := HB.out.size; omega) (fun r e => by injection e; omega)⟩
        · rw [HST.out, HBT.out, Nat.one_mul, ← EK.out, ← ET.out]
          exact (show Boxed Wr.drew.drew p 3 (.int .i64 (d : Nat)) from C2.out).set _
        · rw [← HN.out]; exact C3.out.kept gk (fun e => by injection e; omega)
      · have hb0 : X / 2 ^ b % 2 = 0 := by omega
        have hbb : (X / 2 ^ b % 2 == 1) = false := by simp [hb0]
        have HBT := Lib.hid hb0
        clear hbit hb0
        rw [hbb] at HE
        gi_wp2
        refine wpIn_tail_round 9 (by kernel_rfl) (by kernel_rfl) (by kernel_rfl) ?_
        simp only [List.take_succ_cons, List.take_zero, List.drop_succ_cons, List.drop_zero]
        repeat still_step
        refine wpStill_nil ?_
        gi_wp2_with (refine ⟨trivial, ?_⟩; gi_at_call 108; refine (CallsIn.inRound l (callsIn_wide.2 (HE.out Wr.drew rX))).mono ?_; rintro e w' ⟨rfl, rfl⟩)
        refine ⟨KeepsOthers.drew _, trivial, ⟨C0.out, C1.out, ?_, ?_⟩, HB.out.drew⟩
        · rw [HST.out, HBT.out, Nat.zero_mul, Nat.or_zero]; exact C2.out
        · rw [← HN.out]; exact C3.out
    case done =>
      rintro D xs Wr hD hS ⟨⟨c0, c1, c2, c3⟩, hB⟩ hKd
      have z1 := c2.cell
      have HS := Lib.hid hS
      clear hS
      gi_wp2
      refine ⟨by simp, .inl ⟨_, _, rfl, run_takeDeferred hKd, ?_⟩⟩
      refine ⟨_, results_tmp rfl _ _ _, ?_⟩
      refine ⟨?_, ?_⟩
      · unfold downC
        rw [← HM.out, ← HS.out]
        rfl
      · rw [← EN.out]
        exact hB.trans (belowK_b (w := w) hle Wr D _ _ (by have := EN.out; omega) hKd rfl rfl)
    case stop =>
      rintro D cd pre X _ _ h _
      exact h.elim
  have hdz : ∀ a b : Obj, ((Z.alloc a).alloc b).drew.heap.size = Z.heap.size + 1 + 1 := fun a b => by show ((Z.alloc a).alloc b).heap.size = _; simp
  have HDZ := Lib.hid hdz
  clear hdz
  have REST' := Lib.hid REST
  clear REST
  refine wpIn_wide.2 ?_
  go_region
  · exact REST'.out (Z.heap.size) (Z.heap.size + 1) ((Z.alloc (.cells #[.int .i64 0] 3)).alloc (.cells #[.int .i64 ((n - 1 : Nat) : Int)] 3)).drew (by omega) (by rw [SZ.out]; omega) (by rw [SZ.out]; omega) (by rw [HDZ.out]; omega) (by rw [HDZ.out]; omega)
      (X0.out.alloc _ |>.alloc _) (X1.out.alloc _ |>.alloc _) ((Boxed.new Z _ _).alloc _) (by have h := Boxed.new (Z.alloc (.cells #[.int .i64 0] 3)) 3 (.int .i64 ((n - 1 : Nat) : Int)); rw [World.size_alloc] at h; exact h)
      (((BZ.out.alloc (by rw [SZ.out]; omega) _).alloc (by simp [SZ.out]; omega) _).drew)
  · exact REST'.out (Z.heap.size + 1) (Z.heap.size) ((Z.alloc (.cells #[.int .i64 ((n - 1 : Nat) : Int)] 3)).alloc (.cells #[.int .i64 0] 3)).drew (by omega) (by rw [SZ.out]; omega) (by rw [SZ.out]; omega) (by rw [HDZ.out]; omega) (by rw [HDZ.out]; omega)
      (X0.out.alloc _ |>.alloc _) (X1.out.alloc _ |>.alloc _) (by have h := Boxed.new (Z.alloc (.cells #[.int .i64 ((n - 1 : Nat) : Int)] 3)) 3 (.int .i64 0); rw [World.size_alloc] at h; exact h) ((Boxed.new Z _ _).alloc _)
      (((BZ.out.alloc (by rw [SZ.out]; omega) _).alloc (by simp [SZ.out]; omega) _).drew)

end Go.Proofs.YtcemhepojjbcgaaDoor

/- Whether a beginning may lead to a lesser code: the closure of least. -/


namespace Go.Proofs.YtcemhepojjbcgaaDoor
open Go Go.RowKit Go.Shelf
set_option linter.unusedVariables false
set_option maxRecDepth 100000

theorem codeDown_row (A : Option Addr) (c : Nat) (L : List Int) (hg : IsGraph L) (B : Nat) (v : Value) (P : List Nat) (h1P : 1 ≤ P.length) (hP : P.length ≤ L.length) (hPn : ∀ x ∈ P, x < L.length) (w : World) (h : Seen w A L) (hr : Row w B v (ints P)) :
    Calls Tryd.prog 112 #[.slice A L.length c, v] w (NumA w (downC L P)) := by
  obtain ⟨A', c', rfl, s'⟩ := hr.seen
  rw [ints_length]
  exact callsIn_wide.1 (codeDown_in A A' c c' L P hg h1P hP hPn w h s')

set_option maxHeartbeats 2000000 in
theorem lesser_any (A : Option Addr) (c s1 s2 m best : Nat) (L : List Int) (hg : IsGraph L) (P : List Nat) (v : Value) (W : World) (hr : Row W m v (ints P)) (h1P : 1 ≤ P.length) (hP : P.length ≤ L.length) (hPn : ∀ x ∈ P, x < L.length)
    (b1 : Boxed W s1 41 (.slice A L.length c)) (b2 : Boxed W s2 3 (.int .i64 (best : Nat))) (hL : Seen W A L) :
    Calls Tryd.prog 111 (#[v] ++ #[.pointer (some ⟨s1, 0, none⟩), .pointer (some ⟨s2, 0, none⟩)]) W fun e W' => e = .returned (.bool (decide (downC L P < best))) ∧ Below W.heap.size W W' := by
  show Calls Tryd.prog 111 #[v, .pointer (some ⟨s1, 0, none⟩), .pointer (some ⟨s2, 0, none⟩)] W _
  have HC := Lib.hid (codeDown_row A c L hg m v P h1P hP hPn W.drew hL hr)
  have z1 := b1.cell
  have z2 := b2.cell
  have B2 := Lib.hid b2
  obtain ⟨x, ex⟩ : ∃ x, x = downC L P := ⟨_, rfl⟩
  rw [← ex] at HC ⊢
  obtain ⟨n, hn⟩ : ∃ n, n = L.length := ⟨_, rfl⟩
  rw [← hn] at HC z1
  clear hg hr h1P hP hPn b1 b2 hL ex hn
  go_enter Tryd.func111, Tryd.ntmps111
  go_wp2
  go_region_with (go_at_call 112; refine HC.out.mono ?_; rintro e w1 ⟨rfl, hb1⟩; have z3 : w1.cell? ⟨s2, 0, none⟩ = some (.int .i64 (best : Nat)) := (hb1.cell (p := ⟨s2, 0, none⟩) B2.out.lt).trans z2)
  all_goals go_wp2
  all_goals go_ret
  all_goals exact ⟨by first | rfl | simp, ((Below.refl W.heap.size W).drew).trans (show Below W.heap.size W.drew w1 from hb1)⟩
end Go.Proofs.YtcemhepojjbcgaaDoor

/- The program's code of a graph, by a range over the pairs. -/




namespace Go.Proofs.YtcemhepojjbcgaaDoor
open Go.RowKit Go.Shelf
attribute [local go_sem] Oper.semAt_some
set_option linter.unusedVariables false
set_option maxRecDepth 100000

/-- How a call that tells a number ends. -/
def NumB (w : World) (x : Nat) (e : Ending) (w' : World) : Prop := e = .returned (.int .i64 (x : Nat)) ∧ Below w.heap.size w w'

/-- Between two rounds of code: the graph's box, the number so far, the place. -/
def CodeI (n₀ : Nat) (S : Value) (L : List Int) (m : Nat) (pre : List (Pr m)) (W : World) : Prop :=
  Boxed W n₀ 41 S ∧ Boxed W (n₀ + 1) 3 (.int .i64 ((crun L (vals pre)).1 : Nat)) ∧ Boxed W (n₀ + 1 + 1) 3 (.int .i64 (pre.length : Nat))
theorem codeI_own (n₀ : Nat) (S : Value) (L : List Int) (m : Nat) : Own (CodeI n₀ S L m) := fun s X Y row hs hg hr =>
  ⟨boxed_own _ _ (fun _ : Unit => _) () X Y row hs.1 hg hr, boxed_own _ _ (fun _ : Unit => _) () X Y row hs.2.1 hg hr, boxed_own _ _ (fun _ : Unit => _) () X Y row hs.2.2 hg hr⟩

set_option maxRecDepth 100000 in
set_option maxHeartbeats 2000000 in
theorem implCode_in (A : Option Addr) (c : Nat) (L : List Int) (hg : IsGraph L) (w : World) (h : Seen w A L) :
    CallsIn Fence.wide 5 Tryd.prog 79 #[.slice A L.length c] w (NumB w (codeOf L)) := by
  have h1 := hg.1
  have h6 := hg.2.1
  obtain ⟨blk, off, hA0, hbl0, _⟩ := h 0 (by omega)
  obtain ⟨n, hn⟩ : ∃ n, n = L.length := ⟨_, rfl⟩
  rw [← hn] at h1 h6 ⊢
  subst hA0
  have HN := Lib.hid hn
  have H := Lib.hid h
  have HG := Lib.hid hg
  clear h hg hn
  refine callsIn_of_wp_marks Tryd.func79 rfl trivial ?_ rfl
  simp only [Tryd.ntmps79, List.size_toArray, List.length_cons, List.length_nil, Nat.reduceAdd, Nat.reduceSub, Array.replicate_succ, Array.replicate_zero, List.push_toArray, List.append_toArray, List.nil_append, List.cons_append]
  gi_wp2_with (refine ⟨trivial, ?_⟩; gi_at_call 114; refine (callsIn_wide.2 (pairs_any n _)).mono ?_; rintro e w' ⟨rfl, rfl⟩)
  obtain ⟨W, eW⟩ : ∃ W, W = (((w.alloc (.cells #[.slice (some ⟨blk, off, none⟩) n c] 41)).alloc (.cells #[.int .i64 0] 3)).alloc (.cells #[.int .i64 0] 3)).alloc (.cells #[.int .i64 n] 3) := ⟨_, rfl⟩
  have sW : W.heap.size = w.heap.size + 1 + 1 + 1 + 1 := by rw [eW]; simp
  have hBW : Below w.heap.size w W := by rw [eW]; exact ((((Below.refl _ w).alloc (Nat.le_refl _) _).alloc (by simp) _).alloc (by simp; omega) _).alloc (by simp; omega) _
  have b0 : Boxed W w.heap.size 41 (.slice (some ⟨blk, off, none⟩) n c) := by rw [eW]; exact (((Boxed.new w _ _).alloc _).alloc _).alloc _
  have b1 : Boxed W (w.heap.size + 1) 3 (.int .i64 0) := by
    rw [eW]; have h := Boxed.new (w.alloc (.cells #[.slice (some ⟨blk, off, none⟩) n c] 41)) 3 (.int .i64 0); rw [World.size_alloc] at h; exact (h.alloc _).alloc _
  have b2 : Boxed W (w.heap.size + 1 + 1) 3 (.int .i64 0) := by
    rw [eW]; have h := Boxed.new ((w.alloc (.cells #[.slice (some ⟨blk, off, none⟩) n c] 41)).alloc (.cells #[.int .i64 0] 3)) 3 (.int .i64 0); rw [World.size_alloc, World.size_alloc] at h; exact h.alloc _
  have b3 : W.cell? ⟨w.heap.size + 1 + 1 + 1, 0, none⟩ = some (.int .i64 n) := by
    rw [eW]; have h := Boxed.new (((w.alloc (.cells #[.slice (some ⟨blk, off, none⟩) n c] 41)).alloc (.cells #[.int .i64 0] 3)).alloc (.cells #[.int .i64 0] 3)) 3 (.int .i64 n); rw [World.size_alloc, World.size_alloc, World.size_alloc] at h; exact h.cell
  rw [← eW]
  clear eW
  obtain ⟨n₀, en⟩ : ∃ n₀, n₀ = w.heap.size := ⟨_, rfl⟩
  rw [← en] at sW hBW b0 b1 b2 b3 hbl0 ⊢
  have EN := Lib.hid en
  have SW := Lib.hid sW
  have hle : n₀ ≤ w.heap.size := by omega
  have hleW : n₀ + 1 + 1 + 1 < W.heap.size := by omega
  clear en sW
  refine wpIn_rangeFunc_ownF (α := Pr n) rfl (by omega) (gf := 132) (lb := #[.pointer (some ⟨n₀ + 1 + 1 + 1, 0, none⟩)]) rfl trivial (enters_of Tryd.func132 (by kernel_rfl) rfl)
    (pairs_stops Fence.wide _ trivial rfl (by omega) (n₀ + 1 + 1 + 1) n h6 W (by omega) b3) (fun _ _ => trivial) (fun _ _ _ _ _ _ _ _ => trivial) (Below.refl _ _) (fun _ => rfl)
    (fun pre W => CodeI n₀ (.slice (some ⟨blk, off, none⟩) n c) L n pre W ∧ Below n₀ w W) (fun _ _ _ => False)
    (OwnFrom.and (Own.from (codeI_own _ _ _ _) _) (ownFrom_below hle (by omega))) (fun _ _ _ _ _ hs _ _ => hs)
    ⟨⟨b0, b1, b2⟩, hBW⟩
    (fun x => { tmps := #[.slice (some ⟨blk, off, none⟩) n c, .pointer (some ⟨n₀, 0, none⟩), .int .i64 0, .pointer (some ⟨n₀ + 1, 0, none⟩), .pointer (some ⟨n₀ + 1 + 1, 0, none⟩), .int .i64 (x.1.1 : Int), .int .i64 (x.1.2 : Int), .slice (some ⟨blk, off, none⟩) n c, .int .i64 n,
      .func (.func 132) #[] #[.pointer (some ⟨n₀ + 1 + 1 + 1, 0, none⟩)], .int .i64 (x.1.1 : Int), .int .i64 (x.1.2 : Int), undef, undef, undef, undef, undef, undef, undef, undef, undef, undef, undef], defers := [] }) ?assign ?body ?done ?stop
  case assign =>
    intro l x W K hK
    gi_wp2
    exact hK
  case body =>
    rintro l pre x Wr ⟨⟨c0, c1, c2⟩, hB⟩ hlen
    obtain ⟨⟨u, v⟩, hu, hv⟩ := x
    dsimp only at hu hv ⊢
    obtain ⟨k, ek⟩ : ∃ k, k = pre.length := ⟨_, rfl⟩
    have hk1 : (pre ++ [(⟨(u, v), hu, hv⟩ : Pr n)]).length = k + 1 := by rw [List.length_append, ek]; rfl
    have hst := crun_snoc L (vals pre) (u, v)
    have hat := crun_at L (vals pre)
    have hsm := crun_small L (vals pre) (by rw [vals_length]; omega)
    have hvs := vals_snoc pre (⟨(u, v), hu, hv⟩ : Pr n)
    dsimp only at hvs
    rw [← hvs] at hst
    rw [vals_length, ← ek] at hat
    rw [← ek] at c2 hlen
    obtain ⟨q, eq⟩ : ∃ q, q = (crun L (vals pre)).1 := ⟨_, rfl⟩
    rw [← eq] at c1 hsm
    obtain ⟨blk1, off1, hA1, hbl1, hc1⟩ := H.out u (by have := HN.out; omega)
    have e1 : blk = blk1 ∧ off = off1 := by injection hA1 with e; injection e with e1 e2; exact ⟨e1, e2⟩
    obtain ⟨rfl, rfl⟩ := e1
    have hin := (HG.out.2.2 u (by have := HN.out; omega)).1
    have hX := ent_int hin
    have hXl := ent_lt hin
    have h64 := two_le (n := L.length) (by have := HN.out; omega)
    obtain ⟨X, eX⟩ : ∃ X, X = ent L u := ⟨_, rfl⟩
    rw [← eX] at hX hXl
    rw [hX] at hc1
    have hcu : Wr.cell? ⟨blk, off + u, none⟩ = some (.int .i64 X) := (hB.cell (p := ⟨blk, off + u, none⟩) hbl0).trans hc1
    have hXs : X < 1048576 := by omega
    have hvs40 : v < 40 := by omega
    have hun : u < n := by omega
    have hq2 : (crun L (vals (pre ++ [(⟨(u, v), hu, hv⟩ : Pr n)]))).1 = q ||| (X / 2 ^ v % 2) * 2 ^ k := by
      rw [hst]
      show (crun L (vals pre)).1 ||| bt L u v * 2 ^ (crun L (vals pre)).2 = _
      rw [hat, ← eq]
      unfold bt
      rw [← eX]
    have HK := Lib.hid hk1
    have HQ := Lib.hid hq2
    have C0 := Lib.hid c0
    have C1 := Lib.hid c1
    have C2 := Lib.hid c2
    have z0 := c0.cell
    have z1 := c1.cell
    have z2 := c2.cell
    have y1 := c1.frozen
    have y2 := c2.frozen
    have w1 := wrap_pow k (by omega)
    obtain ⟨p, ep⟩ : ∃ p, p = 2 ^ k := ⟨_, rfl⟩
    have hp : p < 2 ^ 15 := by rw [ep]; exact Nat.pow_lt_pow_right (by omega) hlen
    rw [← ep] at w1
    have w2 : IntKind.i64.wrap ((2 : Int) ^ k) = (p : Int) := by rw [IntKind.wrap_i64]; unfold wrap64 at w1; exact w1
    have w3 := i64_or_nat q p (Nat.lt_trans hsm (by decide)) (Nat.lt_trans hp (by decide))
    have EP := Lib.hid ep
    clear hk1 hq2 c0 c1 c2 hst hat hvs ek eq hA1 hbl1 hc1 hin hX hXl h64 eX ep hp hsm
    by_cases hbit : X / 2 ^ v % 2 = 1
    · have hbb : (X / 2 ^ v % 2 == 1) = true := by simp [hbit]
      have HBT := Lib.hid hbit
      clear hbit
      have hmx : Tryd.prog.follows .mixedOrders = true := by kernel_rfl
      gi_wp2_with (refine ⟨trivial, ?_⟩; gi_at_call 108; refine (CallsIn.inRound l (callsIn_wide.2 (edge_any blk off n c u v X _ hXs hun hvs40 hcu))).mono ?_; rw [hbb]; rintro e w' ⟨rfl, rfl⟩)
      gi_region_with_o (fail)
      all_goals gi_wp2
      all_goals (try go_bits)
      all_goals
        refine ⟨((KeepsOthers.setCell _ _ _).trans (KeepsOthers.setCell _ _ _)).trans (KeepsOthers.drew _), trivial, ⟨(C0.out.other (by omega) _).other (by omega) _, ?_, ?_⟩, ((hB.setCell (p := ⟨n₀ + 1, 0, none⟩) (by show n₀ ≤ n₀ + 1; omega) _).setCell (p := ⟨n₀ + 1 + 1, 0, none⟩) (by show n₀ ≤ n₀ + 1 + 1; omega) _).drew⟩
        · rw [HQ.out, HBT.out, Nat.one_mul, ← EP.out]; exact (C1.out.set _).other (by omega) _
        · rw [HK.out]; exact (C2.out.other (by omega) _).set _
    · have hb0 : X / 2 ^ v % 2 = 0 := by omega
      have hbb : (X / 2 ^ v % 2 == 1) = false := by simp [hb0]
      have HBT := Lib.hid hb0
      clear hbit hb0
      gi_wp2_with (refine ⟨trivial, ?_⟩; gi_at_call 108; refine (CallsIn.inRound l (callsIn_wide.2 (edge_any blk off n c u v X _ hXs hun hvs40 hcu))).mono ?_; rw [hbb]; rintro e w' ⟨rfl, rfl⟩)
      refine ⟨KeepsOthers.setCell _ _ _, trivial, ⟨C0.out.other (by omega) _, ?_, ?_⟩, hB.setCell (p := ⟨n₀ + 1 + 1, 0, none⟩) (by show n₀ ≤ n₀ + 1 + 1; omega) _⟩
      · rw [HQ.out, HBT.out, Nat.zero_mul, Nat.or_zero]; exact C1.out.other (by omega) _
      · rw [HK.out]; exact C2.out.set _
  case done =>
    rintro D xs Wr hD hS ⟨⟨c0, c1, c2⟩, hB⟩ hK
    have z1 := c1.cell
    have HS := Lib.hid hS
    clear hS
    gi_wp2
    refine ⟨by simp, .inl ⟨_, _, rfl, run_takeDeferred hK, ?_⟩⟩
    refine ⟨_, results_tmp rfl _ _ _, ?_⟩
    refine ⟨?_, ?_⟩
    · unfold codeOf
      rw [← HN.out, ← HS.out]
      rfl
    · rw [← EN.out]
      exact hB.trans (belowK_b (w := w) hle Wr D _ _ (by have := EN.out; omega) hK rfl rfl)
  case stop =>
    rintro D cd pre W _ _ h _
    exact h.elim
end Go.Proofs.YtcemhepojjbcgaaDoor

/- The program's least code, by a search over the names. -/





namespace Go.Proofs.YtcemhepojjbcgaaDoor
open Go Go.RowKit Go.Shelf
attribute [local go_sem] Oper.semAt_some
set_option linter.unusedVariables false
set_option maxRecDepth 100000

def LeI (n s0 p : Nat) (A : Option Addr) (c : Nat) (L : List Int) (w : World) (acc : List (List Nat)) (Z : World) : Prop :=
  Boxed Z s0 41 (.slice A n c) ∧ Boxed Z p 3 (.int .i64 (bestOf L acc : Nat)) ∧ Boxed Z (p + 1 + 1) 38 (.func (.func 111) #[] #[.pointer (some ⟨s0, 0, none⟩), .pointer (some ⟨p, 0, none⟩)]) ∧ Below s0 w Z

set_option maxHeartbeats 4000000 in
theorem implLeast_big (A : Option Addr) (c : Nat) (L : List Int) (hL : IsGraph L) (w : World) (sL : Seen w A L) (hT : Tab w) :
    CallsIn Fence.wide 12 Tryd.prog 76 #[.slice A L.length c] w (fun e w' => NumA w (leastL L) e w' ∧ w.heap.size + 4 ≤ w'.heap.size) := by
  have h1 := hL.1
  have h6 := hL.2.1
  have h2 := hT.lt
  have hsl := search_least hL
  obtain ⟨s0, es0⟩ : ∃ s0, s0 = w.heap.size := ⟨_, rfl⟩
  have g0 : Boxed (w.alloc (.cells #[.slice A L.length c] 41)) s0 41 (.slice A L.length c) := by rw [es0]; exact Boxed.new w _ _
  have gB : Below s0 w (w.alloc (.cells #[.slice A L.length c] 41)) := by rw [es0]; exact (Below.refl _ w).alloc (Nat.le_refl _) _
  have HC0 := Lib.hid (callsIn_wide.1 (implCode_in A c L hL (w.alloc (.cells #[.slice A L.length c] 41)) (sL.below (by rw [← es0]; exact gB))))
  obtain ⟨x0, ex0⟩ : ∃ x0, x0 = codeOf L := ⟨_, rfl⟩
  rw [← ex0] at HC0
  have EX0 := Lib.hid ex0
  obtain ⟨n, hn⟩ : ∃ n, n = L.length := ⟨_, rfl⟩
  rw [← hn] at h1 h6 hsl g0 gB HC0 ⊢
  have HL := Lib.hid hL
  have HN := Lib.hid hn
  have SL := Lib.hid sL
  have HT := Lib.hid hT
  have HSL := Lib.hid hsl
  have G0 := Lib.hid g0
  have GB := Lib.hid gB
  have y0 := g0.cell
  rw [es0] at y0
  clear hL hn sL hT hsl ex0 g0 gB
  refine callsIn_of_wp_marks Tryd.func76 rfl trivial ?_ rfl
  simp only [Tryd.ntmps76, List.size_toArray, List.length_cons, List.length_nil, Nat.reduceAdd, Nat.reduceSub, Array.replicate_succ, Array.replicate_zero, List.push_toArray, List.append_toArray, List.nil_append, List.cons_append]
  have hmf : ∀ (fn : Fn) (first cap : Array Value) (w : World), (Instr.makeFunc fn first cap).run Tryd.prog w = .ok (.func fn first cap) w := fun _ _ _ _ => rfl
  gi_wp2_with (first
    | (refine ⟨trivial, ?_⟩; gi_at_call 79; refine (callsIn_wide.2 HC0.out).mono ?_; rintro e w1 ⟨rfl, hb1⟩
       have g1 : Boxed w1 s0 41 (.slice A n c) := (hb1.block s0 G0.out.lt).trans G0.out
       have k1 : w1.cell? ⟨w.heap.size, 0, none⟩ = some (.slice A n c) := by rw [← es0]; exact g1.cell
       have k2 : ∀ o, (w1.alloc o).cell? ⟨w.heap.size, 0, none⟩ = some (.slice A n c) := fun o => by rw [← es0]; exact (g1.alloc o).cell
       have G1 := Lib.hid g1
       have GB1 := Lib.hid (GB.out.trans (hb1.mono (by have := G0.out.lt; omega))))
    | (refine ⟨trivial, ?_⟩; gi_at_call 113; refine (callsIn_wide.2 (namings_any _ _ _ _)).mono ?_; rintro e w' ⟨rfl, rfl⟩))
  obtain ⟨p, ep⟩ : ∃ p, p = w1.heap.size := ⟨_, rfl⟩
  rw [← es0, ← ep]
  have hp : s0 < p := by rw [ep]; exact G1.out.lt
  obtain ⟨W, eW⟩ : ∃ W, W = ((w1.alloc (.cells #[.int .i64 (x0 : Nat)] 3)).alloc (.cells #[.int .i64 n] 3)).alloc (.cells #[(.func (.func 111) #[] #[.pointer (some ⟨s0, 0, none⟩), .pointer (some ⟨p, 0, none⟩)])] 38) := ⟨_, rfl⟩
  have sW : W.heap.size = p + 3 := by rw [eW, ep]; simp
  have hBW : Below s0 w W := by
    rw [eW]
    refine Below.alloc (Below.alloc (Below.alloc GB1.out ?_ _) ?_ _) ?_ _ <;> (first | omega | (simp <;> omega))
  have b0 : Boxed W s0 41 (.slice A n c) := by rw [eW]; exact ((G1.out.alloc _).alloc _).alloc _
  have b1 : Boxed W p 3 (.int .i64 (bestOf L [] : Nat)) := by
    rw [eW, ep, bestOf_nil, ← EX0.out]; exact ((Boxed.new w1 _ _).alloc _).alloc _
  have b2 : Boxed W (p + 1) 3 (.int .i64 n) := by
    rw [eW, ep]; have h := Boxed.new (w1.alloc (.cells #[.int .i64 (x0 : Nat)] 3)) 3 (.int .i64 n); rw [World.size_alloc] at h; exact h.alloc _
  have b3 : Boxed W (p + 1 + 1) 38 (.func (.func 111) #[] #[.pointer (some ⟨s0, 0, none⟩), .pointer (some ⟨p, 0, none⟩)]) := by
    rw [eW, ep]; have h := Boxed.new ((w1.alloc (.cells #[.int .i64 (x0 : Nat)] 3)).alloc (.cells #[.int .i64 n] 3)) 38 (.func (.func 111) #[] #[.pointer (some ⟨s0, 0, none⟩), .pointer (some ⟨w1.heap.size, 0, none⟩)]); rw [World.size_alloc, World.size_alloc] at h; exact h
  rw [← eW]
  have ES := Lib.hid es0
  have SW := Lib.hid sW
  have hle : s0 ≤ w.heap.size := by omega
  have h2s : 2 ≤ s0 := by omega
  clear eW es0 sW h2 ep g1 k1 k2 hb1 y0 G0 GB HC0
  refine wpIn_names (n := n) (nb := p + 1) (fx := p + 1 + 1) (fid := 111) (fcap := #[.pointer (some ⟨s0, 0, none⟩), .pointer (some ⟨p, 0, none⟩)]) (fit := fitD L)
    h1 h6 (by have := SW.out; omega) rfl (by have := SW.out; omega) b2.cell b2.lt rfl (LeI n s0 p A c L w) (fun _ _ _ => False) ?far ?farx (fun s X h => h.2.2.1) (fun s X h => HT.out.below h.2.2.2 (by omega)) (enters_of Tryd.func111 (by kernel_rfl) rfl)
    ?asks ⟨b0, b1, b3, hBW⟩
    (fun v => { tmps := #[.slice A n c, .pointer (some ⟨s0, 0, none⟩), .int .i64 0, .pointer (some ⟨p, 0, none⟩), .func (.func 111) #[] #[.pointer (some ⟨s0, 0, none⟩), .pointer (some ⟨p, 0, none⟩)], v, .slice A n c, .int .i64 (x0 : Nat),
      .func (.func 111) #[] #[.pointer (some ⟨s0, 0, none⟩), .pointer (some ⟨p, 0, none⟩)], .slice A n c, .int .i64 n, .func (.func 111) #[] #[.pointer (some ⟨s0, 0, none⟩), .pointer (some ⟨p, 0, none⟩)],
      .func (.func 130) #[] #[.pointer (some ⟨p + 1, 0, none⟩), .pointer (some ⟨p + 1 + 1, 0, none⟩)], v, undef, undef, undef, undef], defers := [] }) ?assign ?body ?done ?stop
  case far =>
    rintro acc X Y ⟨q0, q1, q2, q3⟩ hb
    have hs := SW.out
    exact ⟨(hb.block _ (by omega)).trans q0, (hb.block _ (by omega)).trans q1, (hb.block _ (by omega)).trans q2, q3.trans (hb.mono (by omega))⟩
  case farx =>
    rintro cd xs X Y row h hg hr
    exact h
  case asks =>
    rintro acc P v Z ⟨q0, q1, q2, q3⟩ hr p1 p2 p3
    rw [HN.out] at q0 p2 p3
    exact (lesser_any A c s0 p W.heap.size (bestOf L acc) L HL.out P v Z hr p1 p2 p3 q0 q1 (SL.out.below (by rw [← ES.out]; exact q3))).mono fun e w' ⟨he, hb⟩ => ⟨he, hb.mono (by have := q2.lt; have := SW.out; omega)⟩
  case assign =>
    intro l v Z K hK
    gi_wp2
    exact hK
  case body =>
    rintro l acc P v Z ⟨q0, q1, q2, q3⟩ hr p1 p2
    have hs := SW.out
    have hZ := q3.size
    have hZW : W.heap.size ≤ Z.heap.size := by have := q2.lt; omega
    have hcd := codeDown_row A c L HL.out W.heap.size v P (by omega) (by rw [← HN.out]; omega) (by rw [← HN.out]; exact p2) Z (SL.out.below (by rw [← ES.out]; exact q3)) hr
    rw [← HN.out] at hcd
    obtain ⟨x, ex⟩ : ∃ x, x = downC L P := ⟨_, rfl⟩
    rw [← ex] at hcd
    have EX := Lib.hid ex
    have HCD := Lib.hid hcd
    have y0 := q0.cell
    have Q0 := Lib.hid q0
    have Q1 := Lib.hid q1
    have Q2 := Lib.hid q2
    have Q3 := Lib.hid q3
    clear hcd ex q0 q1 q2 q3 hr p1 p2 b0 b1 b2 b3 hBW
    gi_wp2_with (refine ⟨trivial, ?_⟩; gi_at_call 112; refine (CallsIn.inRound l (callsIn_wide.2 HCD.out)).mono ?_; rintro e Z1 ⟨rfl, hb⟩
                 have r1 : Boxed Z1 p 3 (.int .i64 (bestOf L acc : Nat)) := (hb.block p Q1.out.lt).trans Q1.out
                 have y1 := r1.cell
                 have y2 := r1.frozen
                 have R1 := Lib.hid r1
                 have HB := Lib.hid hb
                 clear r1 hb)
    have g2 := grownBy_setCell' Z1 p (.int .i64 (x : Nat))
    have hB2 : Below 2 Z (Z1.setCell ⟨p, 0, none⟩ (.int .i64 (x : Nat))) := (HB.out.mono (by omega)).setCell (p := ⟨p, 0, none⟩) (by show 2 ≤ p; omega) _
    refine ⟨?_, ?_, hB2, ?_⟩
    · exact (KeepsFrom.mk (HB.out.size) (fun k o _ h4 _ => (HB.out.block k (Array.getElem?_eq_some_iff.1 h4).1).trans h4)).trans ((KeepsOthers.setCell _ _ _).from _)
    · refine ⟨Nat.le_trans HB.out.size g2.size, fun k o hk h4 => ?_⟩
      have h5 := (HB.out.block k (Array.getElem?_eq_some_iff.1 h4).1).trans h4
      exact (g2.block k (Array.getElem?_eq_some_iff.1 h5).1 (fun e => by injection e; omega)).trans h5
    · refine ⟨(show Boxed Z1 s0 41 (.slice A n c) from (HB.out.block _ Q0.out.lt).trans Q0.out).kept g2 (fun e => by injection e; omega), ?_, (show Boxed Z1 (p + 1 + 1) 38 (.func (.func 111) #[] #[.pointer (some ⟨s0, 0, none⟩), .pointer (some ⟨p, 0, none⟩)]) from (HB.out.block _ Q2.out.lt).trans Q2.out).kept g2 (fun e => by injection e; omega), (Q3.out.trans (HB.out.mono (by omega))).setCell (p := ⟨p, 0, none⟩) (by show s0 ≤ p; omega) _⟩
      rw [bestOf_snoc, ← EX.out]
      exact R1.out.set _
  case done =>
    rintro D Z hD ⟨q0, q1, q2, q3⟩ hK
    rw [HSL.out] at q1
    have y1 := q1.cell
    have hs := SW.out
    have gD := grownBy_putObj' Z D (.deferred none)
    have hB : Below s0 w (Z.putObj D (.deferred none)) := q3.grown gD (by have := q3.size; omega) (fun r e => by cases e; omega)
    have HB := Lib.hid hB
    have KK := Lib.hid hK
    have hbig : w.heap.size + 4 ≤ (Z.putObj D (.deferred none)).heap.size := by
      have hk1 := (Array.getElem?_eq_some_iff.1 hK).1
      have hk2 := gD.size
      have hk3 := ES.out
      omega
    have HBIG := Lib.hid hbig
    clear hbig
    obtain ⟨x, ex⟩ : ∃ x, x = leastL L := ⟨_, rfl⟩
    rw [← ex] at y1
    have EX := Lib.hid ex
    clear ex q0 q1 q2 q3 hK hB gD hs b0 b1 b2 b3 hBW
    gi_wp2
    refine ⟨by simp, .inl ⟨_, _, rfl, run_takeDeferred KK.out, ?_⟩⟩
    refine ⟨_, results_tmp rfl _ _ _, ?_⟩
    exact ⟨⟨by rw [← EX.out]; rfl, by rw [← ES.out]; exact HB.out⟩, HBIG.out⟩
  case stop =>
    rintro D xs Z hD _ h hK
    exact h.elim
theorem implLeast_in (A : Option Addr) (c : Nat) (L : List Int) (hL : IsGraph L) (w : World) (sL : Seen w A L) (hT : Tab w) :
    CallsIn Fence.wide 12 Tryd.prog 76 #[.slice A L.length c] w (NumA w (leastL L)) := (implLeast_big A c L hL w sL hT).mono fun _ _ h => h.1
end Go.Proofs.YtcemhepojjbcgaaDoor

/- The program's code of a graph, by a range over the pairs. -/





namespace Go.Proofs.YtcemhepojjbcgaaDoor
open Go.RowKit Go.Shelf
attribute [local go_sem] Oper.semAt_some
set_option linter.unusedVariables false

/-- How a call that tells a number and true ends. -/
def NumOk (w : World) (x : Nat) (ok : Bool) (e : Ending) (w' : World) : Prop := e = .returned (.tuple #[.int .i64 (x : Nat), .bool ok]) ∧ Below w.heap.size w w'
end Go.Proofs.YtcemhepojjbcgaaDoor

/- The law FnExactGraphCode returns true at each list, and leaves all that was there as it was. -/


namespace Go.Proofs.YtcemhepojjbcgaaDoor
open Go.RowKit
set_option linter.unusedVariables false


theorem implGraphCode_yes (B : Nat) (v : Value) (L : List Int) (hg : IsGraph L) (w : World) (h : Row w B v L) (hT : Tab w) :
    Calls Tryd.prog 28 #[v] w (NumOk w (codeOf L) true) := by
  have H1 := Lib.hid (asG_graph B v L hg w h hT)
  obtain ⟨A, c, rfl, hs⟩ := h.seen
  have H2 := Lib.hid (fun w hs => callsIn_wide.1 (implCode_in A c L hg w hs))
  clear hg h
  go_enter Tryd.func28, Tryd.ntmps28
  go_wp2_with fail
  go_enter Tryd.func75, Tryd.ntmps75
  go_wp2_with fail
  refine H1.out.mono ?_
  rintro e w1 ⟨rfl, b1⟩
  go_wp2_with fail
  refine (H2.out _ (hs.below b1)).mono ?_
  rintro e w2 ⟨rfl, b2⟩
  go_wp2
  go_ret2
  exact ⟨rfl, b1.trans (b2.mono b1.size)⟩
theorem implGraphCode_no (B : Nat) (v : Value) (L : List Int) (hg : ¬ IsGraph L) (w : World) (h : Row w B v L) (hT : Tab w) :
    Calls Tryd.prog 28 #[v] w (NumOk w 0 false) := by
  have H1 := Lib.hid (asG_none B v L hg w h hT)
  clear hg h
  go_enter Tryd.func28, Tryd.ntmps28
  go_wp2_with fail
  go_enter Tryd.func75, Tryd.ntmps75
  go_wp2_with fail
  refine H1.out.mono ?_
  rintro e w1 ⟨rfl, b1⟩
  go_wp2
  go_ret2
  exact ⟨rfl, b1⟩
end Go.Proofs.YtcemhepojjbcgaaDoor

/- isCode: whether a number is the code of a graph of n nodes. -/

namespace Go.Proofs.YtcemhepojjbcgaaDoor
open Go.RowKit
set_option linter.unusedVariables false

/-- The number of codes of n nodes. -/
def codes (n : Nat) : Nat := 2 ^ (n * (n - 1) / 2)
theorem codes_le (n : Nat) (hn : n ≤ 6) : codes n ≤ 32768 := by
  have : ∀ n ≤ 6, codes n ≤ 32768 := by decide
  exact this n hn

/-- How a call that answers one bool and makes nothing ends. -/
def Answ (w : World) (b : Bool) (e : Ending) (w' : World) : Prop := e = .returned (.bool b) ∧ w' = w

set_option maxRecDepth 100000 in
set_option maxHeartbeats 2000000 in
theorem isCode_any (n : Nat) (c : Int) (w : World) (h1 : 1 ≤ n) (h6 : n ≤ 6) :
    Calls Tryd.prog 77 #[.int .i64 n, .int .i64 c] w (Answ w (decide (0 ≤ c ∧ c < (codes n : Int)))) := by
  have hn : n = 1 ∨ n = 2 ∨ n = 3 ∨ n = 4 ∨ n = 5 ∨ n = 6 := by omega
  by_cases h0 : 0 ≤ c
  · by_cases hc : c < (codes n : Int)
    · have e : decide (0 ≤ c ∧ c < (codes n : Int)) = true := decide_eq_true ⟨h0, hc⟩
      have hd0 : decide ((0 : Int) ≤ c) = true := decide_eq_true h0
      have HC := Lib.hid hc
      have E := Lib.hid e
      clear e h0 hc h1 h6
      rcases hn with rfl | rfl | rfl | rfl | rfl | rfl
      all_goals
        have hd := HC.out
        simp [codes] at hd
        have hdd := decide_eq_true hd
        clear hd
        go_enter Tryd.func77, Tryd.ntmps77
        go_wp2
        go_ret
        exact ⟨ret_bool (by first | rw [E.out] | exact (decide_eq_false (Int.not_lt.2 HC.out)).symm), rfl⟩
    · have e : decide (0 ≤ c ∧ c < (codes n : Int)) = false := decide_eq_false (fun h => hc h.2)
      have hd0 : decide ((0 : Int) ≤ c) = true := decide_eq_true h0
      have HC := Lib.hid hc
      have E := Lib.hid e
      clear e h0 hc h1 h6
      rcases hn with rfl | rfl | rfl | rfl | rfl | rfl
      all_goals
        have hd := HC.out
        simp [codes] at hd
        have hdd := decide_eq_false (Int.not_lt.2 hd)
        clear hd
        go_enter Tryd.func77, Tryd.ntmps77
        go_wp2
        go_ret
        exact ⟨ret_bool (by first | rw [E.out] | exact (decide_eq_false (Int.not_lt.2 HC.out)).symm), rfl⟩
  · have e : decide (0 ≤ c ∧ c < (codes n : Int)) = false := decide_eq_false (fun h => h0 h.1)
    have hd0 : decide ((0 : Int) ≤ c) = false := decide_eq_false h0
    have E := Lib.hid e
    clear e h0 h1 h6
    go_enter Tryd.func77, Tryd.ntmps77
    go_wp2
    go_ret
    exact ⟨ret_bool (by rw [E.out]), rfl⟩
end Go.Proofs.YtcemhepojjbcgaaDoor

/- What GraphOf answers. -/

namespace Go.Proofs.YtcemhepojjbcgaaDoor
open Go.RowKit
set_option linter.unusedVariables false

/-- The two arguments as the model reads them: a graph, or none. -/
def ofSaid (n c : Int) : List Int × Bool := if 1 ≤ n ∧ n ≤ 6 ∧ 0 ≤ c ∧ c < (codes n.toNat : Int) then (ints (ofCode n.toNat c.toNat), true) else ([], false)
end Go.Proofs.YtcemhepojjbcgaaDoor

/- link: a pair is made an edge. -/

namespace Go.Proofs.YtcemhepojjbcgaaDoor
open Go.RowKit
set_option linter.unusedVariables false

set_option maxHeartbeats 400000 in
theorem link_any (B g cap n : Nat) (L : List Nat) (a b : Nat) (w : World) (hn : n ≤ 6) (hL : L.length = n) (ha : a < n) (hb : b < n) (hab : a ≠ b) (hx : ∀ x ∈ L, x < 1048576) (h : Row w B (.slice (some ⟨g, 0, none⟩) n cap) (ints L)) :
    Calls Tryd.prog 110 #[.slice (some ⟨g, 0, none⟩) n cap, .int .i64 a, .int .i64 b] w (Wrote w B g (.slice (some ⟨g, 0, none⟩) n cap) (lnk L a b 1)) := by
  have h1 : (0 : Int) ≤ (a : Int) ∧ (a : Int) < (n : Int) := by omega
  have h2 : (0 : Int) ≤ (b : Int) ∧ (b : Int) < (n : Int) := by omega
  obtain ⟨x, ex⟩ : ∃ x : Nat, x = L[a]?.getD 0 := ⟨_, rfl⟩
  obtain ⟨y, ey⟩ : ∃ y : Nat, y = L[b]?.getD 0 := ⟨_, rfl⟩
  have hxa : x < 1048576 := by rw [ex, List.getElem?_eq_getElem (by omega)]; exact hx _ (List.getElem_mem _)
  have hya : y < 1048576 := by rw [ey, List.getElem?_eq_getElem (by omega)]; exact hx _ (List.getElem_mem _)
  have hca : w.cell? ⟨g, a, none⟩ = some (.int .i64 x) := by
    rw [h.cellAt a (by rw [ints_length]; omega), ints_get, ← ex]
  have hcb : w.cell? ⟨g, b, none⟩ = some (.int .i64 y) := by
    rw [h.cellAt b (by rw [ints_length]; omega), ints_get, ← ey]
  have hfa : w.frozen? ⟨g, a, none⟩ = false := h.frozenAt a (by rw [ints_length]; omega)
  have hfb : w.frozen? ⟨g, b, none⟩ = false := h.frozenAt b (by rw [ints_length]; omega)
  have hcb2 : ∀ z, (w.setCell ⟨g, a, none⟩ z).cell? ⟨g, b, none⟩ = some (.int .i64 y) := fun z => (World.cell?_setCell_other _ _ _ _ (by simp)).trans hcb
  have o1 := or_pow x b (by omega) (by omega)
  have o2 := or_pow y a (by omega) (by omega)
  have HX := Lib.hid ex
  have HY := Lib.hid ey
  have H := Lib.hid h
  have HL := Lib.hid hL
  have hd : a ≠ b := hab
  clear h ex ey hx hcb hL
  go_enter Tryd.func110, Tryd.ntmps110
  go_wp2
  go_region
  all_goals go_wp2
  all_goals go_region
  all_goals go_wp2
  all_goals go_end0
  all_goals
    refine ⟨⟨_, rfl⟩, ?_, grown_drew (grown_drew (grown_set (grown_set (World.grownBy.refl w _) _ _) _ _))⟩
    have r1 := H.out.set a (by rw [ints_length, HL.out]; omega) ((x ||| 2 ^ b : Nat) : Int)
    have r2 := r1.set b (by rw [List.length_set, ints_length, HL.out]; omega) ((y ||| 2 ^ a : Nat) : Int)
    rw [ints_set, ints_set] at r2
    have e : lnk L a b 1 = (L.set a (x ||| 2 ^ b)).set b (y ||| 2 ^ a) := by
      unfold lnk
      rw [Nat.one_mul, Nat.one_mul, ← HX.out, List.getElem?_set_ne hd, ← HY.out]
    rw [e]
    exact r2
end Go.Proofs.YtcemhepojjbcgaaDoor

/- The program's graphOf, at a seat with the graphs' methods: the same list, by a range over the pairs. -/





namespace Go.Proofs.YtcemhepojjbcgaaDoor
open Go.RowKit Go.Shelf
attribute [local go_sem] Oper.semAt_some
set_option linter.unusedVariables false

theorem row_own {β : Type} (B : Nat) (v : Value) (f : β → List Int) : Own (fun s W => Row W B v (f s)) := fun s X Y row hs hg hr => row_kept hs hg hr

/-- Between two rounds of graphOf: the code, the list's box, the place; the list holds the pairs that have come. -/
def OfI (n₀ g n c m : Nat) (pre : List (Pr m)) (W : World) : Prop :=
  Boxed W n₀ 3 (.int .i64 c) ∧ Boxed W (n₀ + 1 + 1) 41 (.slice (some ⟨g, 0, none⟩) n n) ∧ Boxed W (n₀ + 1 + 1 + 1) 3 (.int .i64 (pre.length : Nat)) ∧ Row W n₀ (.slice (some ⟨g, 0, none⟩) n n) (ints (run c n (vals pre)).1)
theorem ofI_own (n₀ g n c m : Nat) : Own (OfI n₀ g n c m) := fun s X Y row hs hg hr =>
  ⟨boxed_own _ _ (fun _ : Unit => _) () X Y row hs.1 hg hr, boxed_own _ _ (fun _ : Unit => _) () X Y row hs.2.1 hg hr, boxed_own _ _ (fun _ : Unit => _) () X Y row hs.2.2.1 hg hr, row_kept hs.2.2.2 hg hr⟩

set_option maxRecDepth 100000 in
set_option maxHeartbeats 2000000 in
theorem implOf_in (n c : Nat) (w : World) (hn1 : 1 ≤ n) (hn : n ≤ 6) (hc : c < 1048576) :
    CallsIn Fence.wide 5 Tryd.prog 78 #[.int .i64 n, .int .i64 c] w (Gave w (ints (ofCode n c))) := by
  have hmk := run_make_graph n (by omega)
  refine callsIn_of_wp_marks Tryd.func78 rfl trivial ?_ rfl
  simp only [Tryd.ntmps78, List.size_toArray, List.length_cons, List.length_nil, Nat.reduceAdd, Nat.reduceSub, Array.replicate_succ, Array.replicate_zero, List.push_toArray, List.append_toArray, List.nil_append, List.cons_append]
  have hms : ∀ x, (madeW x n).heap.size = x.heap.size + 1 := fun x => madeW_size x n
  gi_wp2_with (refine ⟨trivial, ?_⟩; gi_at_call 114; refine (callsIn_wide.2 (pairs_any n _)).mono ?_; rintro e w' ⟨rfl, rfl⟩)
  have R0 := madeW_row (w.alloc (.cells #[.int .i64 c] 3)) n (by omega)
  have M0 := madeW_below (w.alloc (.cells #[.int .i64 c] 3)) n
  have S0 := hms (w.alloc (.cells #[.int .i64 c] 3))
  have X0 : Boxed (madeW (w.alloc (.cells #[.int .i64 c] 3)) n) w.heap.size 3 (.int .i64 c) := (Boxed.new w 3 (.int .i64 c)).alloc _
  clear hmk hms
  obtain ⟨w1, e1⟩ : ∃ w1, w1 = madeW (w.alloc (.cells #[.int .i64 c] 3)) n := ⟨_, rfl⟩
  rw [← e1] at R0 M0 S0 X0 ⊢
  rw [World.size_alloc] at R0 M0 S0
  have hB1 : Below w.heap.size w w1 := ((Below.refl _ w).alloc (Nat.le_refl _) _).trans (M0.mono (by omega))
  clear e1
  obtain ⟨W, eW⟩ : ∃ W, W = ((w1.alloc (.cells #[.slice (some ⟨w.heap.size + 1, 0, none⟩) n n] 41)).alloc (.cells #[.int .i64 0] 3)).alloc (.cells #[.int .i64 n] 3) := ⟨_, rfl⟩
  have sW : W.heap.size = w.heap.size + 1 + 1 + 1 + 1 + 1 := by rw [eW]; simp [S0]
  have hBW : Below w.heap.size w W := by rw [eW]; exact ((hB1.alloc (by omega) _).alloc (by simp; omega) _).alloc (by simp; omega) _
  have b0 : Boxed W w.heap.size 3 (.int .i64 c) := by rw [eW]; exact ((X0.alloc _).alloc _).alloc _
  have b2 : Boxed W (w.heap.size + 1 + 1) 41 (.slice (some ⟨w.heap.size + 1, 0, none⟩) n n) := by
    rw [eW]; have h := Boxed.new w1 41 (.slice (some ⟨w.heap.size + 1, 0, none⟩) n n); rw [S0] at h; exact (h.alloc _).alloc _
  have b3 : Boxed W (w.heap.size + 1 + 1 + 1) 3 (.int .i64 0) := by
    rw [eW]; have h := Boxed.new (w1.alloc (.cells #[.slice (some ⟨w.heap.size + 1, 0, none⟩) n n] 41)) 3 (.int .i64 0); rw [World.size_alloc, S0] at h; exact h.alloc _
  have b4 : W.cell? ⟨w.heap.size + 1 + 1 + 1 + 1, 0, none⟩ = some (.int .i64 n) := by
    rw [eW]; have h := Boxed.new ((w1.alloc (.cells #[.slice (some ⟨w.heap.size + 1, 0, none⟩) n n] 41)).alloc (.cells #[.int .i64 0] 3)) 3 (.int .i64 n); rw [World.size_alloc, World.size_alloc, S0] at h; exact h.cell
  have r0 : Row W w.heap.size (.slice (some ⟨w.heap.size + 1, 0, none⟩) n n) (ints (List.replicate n 0)) := by
    rw [eW]; exact ((((R0.mono (by omega)).alloc _).alloc _).alloc _)
  rw [← eW]
  clear eW S0 X0 R0 M0 hB1
  obtain ⟨n₀, en⟩ : ∃ n₀, n₀ = w.heap.size := ⟨_, rfl⟩
  rw [← en] at sW hBW b0 b2 b3 b4 r0 ⊢
  have EN := Lib.hid en
  have SW := Lib.hid sW
  have hle : n₀ ≤ w.heap.size := by omega
  have hleW : n₀ + 1 + 1 + 1 + 1 < W.heap.size := by omega
  clear en sW
  refine wpIn_rangeFunc_ownF (α := Pr n) rfl (by omega) (gf := 132) (lb := #[.pointer (some ⟨n₀ + 1 + 1 + 1 + 1, 0, none⟩)]) rfl trivial (enters_of Tryd.func132 (by kernel_rfl) rfl)
    (pairs_stops Fence.wide _ trivial rfl (by omega) (n₀ + 1 + 1 + 1 + 1) n hn W (by omega) b4) (fun _ _ => trivial) (fun _ _ _ _ _ _ _ _ => trivial) (Below.refl _ _) (fun _ => rfl)
    (fun pre W => OfI n₀ (n₀ + 1) n c n pre W ∧ Below n₀ w W) (fun _ _ _ => False)
    (OwnFrom.and (Own.from (ofI_own n₀ (n₀ + 1) n c n) _) (ownFrom_below (by omega) (by omega))) (fun _ _ _ _ _ hs _ _ => hs)
    ⟨⟨b0, b2, b3, r0⟩, hBW⟩
    (fun x => { tmps := #[.int .i64 n, .int .i64 c, undef, .pointer (some ⟨n₀, 0, none⟩), .slice none 0 0, .pointer (some ⟨n₀ + 1 + 1, 0, none⟩), .pointer (some ⟨n₀ + 1 + 1 + 1, 0, none⟩), .int .i64 (x.1.1 : Int), .int .i64 (x.1.2 : Int), .int .i64 n, .slice (some ⟨n₀ + 1, 0, none⟩) n n, .int .i64 n,
      .func (.func 132) #[] #[.pointer (some ⟨n₀ + 1 + 1 + 1 + 1, 0, none⟩)], .int .i64 (x.1.1 : Int), .int .i64 (x.1.2 : Int), undef, undef, undef, undef, undef, undef, undef, undef, undef, undef, undef, undef], defers := [] }) ?assign ?body ?done ?stop
  case assign =>
    intro l x W K hK
    gi_wp2
    exact hK
  case body =>
    rintro l pre x Wr ⟨⟨c0, c2, c3, hr⟩, hB⟩ hlen
    obtain ⟨k, ek⟩ : ∃ k, k = pre.length := ⟨_, rfl⟩
    have hk1 : (pre ++ [x]).length = k + 1 := by rw [List.length_append, ek]; rfl
    have hst := run_snoc c n (vals pre) x.1
    have hat := run_at c n (vals pre)
    rw [← vals_snoc] at hst
    rw [vals_length, ← ek] at hat
    rw [← ek] at c3 hlen
    have hL : (run c n (vals pre)).1.length = n := run_length _ _ _
    have hsm : ∀ y ∈ (run c n (vals pre)).1, y < 1048576 := fun y hy => Nat.lt_trans (run_lt c n (vals pre) (fun p hp => by
      simp only [vals, List.mem_map] at hp
      obtain ⟨q, _, rfl⟩ := hp
      have := q.2
      omega) y hy) (by decide)
    obtain ⟨L, eL⟩ : ∃ L, L = (run c n (vals pre)).1 := ⟨_, rfl⟩
    rw [← eL] at hL hsm hr
    obtain ⟨⟨u, v⟩, hu, hv⟩ := x
    dsimp only at hu hv hst ⊢
    obtain ⟨bit, ebit⟩ : ∃ bit, bit = c / 2 ^ k % 2 := ⟨_, rfl⟩
    have hbit : bit = 0 ∨ bit = 1 := by omega
    have f1 := bit_of c k hc
    rw [← ebit] at f1
    have el : (run c n (vals (pre ++ [⟨(u, v), hu, hv⟩]))).1 = lnk L u v bit := by rw [hst]; show lnk _ _ _ _ = _; rw [hat, ← eL, ← ebit]
    have HK := Lib.hid hk1
    have HE := Lib.hid el
    have HL := Lib.hid hL
    have HS := Lib.hid hsm
    have C0 := Lib.hid c0
    have C2 := Lib.hid c2
    have C3 := Lib.hid c3
    have HR := Lib.hid hr
    have hc0 := c0.cell
    have hc2 := c2.cell
    have hc3 := c3.cell
    have hf3 := c3.frozen
    clear hst hat hsm hL eL ek ebit hk1 el c0 c2 c3 hr
    rcases hbit with rfl | rfl
    · gi_wp2
      refine ⟨KeepsOthers.setCell _ _ _, trivial, ⟨C0.out.other (by omega) _, C2.out.other (by omega) _, ?_, ?_⟩, hB.setCell (p := ⟨n₀ + 1 + 1 + 1, 0, none⟩) (by show n₀ ≤ n₀ + 1 + 1 + 1; omega) _⟩
      · rw [HK.out]; exact C3.out.set _
      · rw [HE.out, lnk_zero]
        exact World.ownsRow.kept HR.out (grownBy_setCell' _ (n₀ + 1 + 1 + 1) _) (.inr (ne_some (a := n₀ + 1) (b := n₀ + 1 + 1 + 1) (by omega)))
    · gi_wp2_with (refine ⟨trivial, ?_⟩; gi_at_call 110; refine (CallsIn.inRound l (callsIn_wide.2 (link_any n₀ (n₀ + 1) n n L u v _ hn HL.out (by omega) hv (by omega) HS.out HR.out))).mono ?_; rintro e W3 ⟨⟨uu, rfl⟩, hr3, hg3⟩; have D3 := C3.out.kept hg3 (ne_some (by omega)); have hd3 := D3.cell; have hdf3 := D3.frozen; have E3 := Lib.hid D3; have G3 := Lib.hid hg3; have R3 := Lib.hid hr3; clear D3 hg3 hr3)
      refine ⟨(KeepsOthers.of_grownBy G3.out ?_).trans (KeepsOthers.setCell _ _ _), trivial, ⟨(C0.out.kept G3.out (ne_some (by omega))).other (by omega) _, (C2.out.kept G3.out (ne_some (by omega))).other (by omega) _, ?_, ?_⟩, (hB.grown G3.out ?_ ?_).setCell (p := ⟨n₀ + 1 + 1 + 1, 0, none⟩) (by show n₀ ≤ n₀ + 1 + 1 + 1; omega) _⟩
      · intro j o ej hj
        cases ej
        rcases HR.out.2 with ⟨hv0, _⟩ | ⟨g, cap, cur, hv0, _, hgb, _⟩
        · cases hv0
        · cases hv0
          rw [hgb] at hj
          cases hj
          rfl
      · rw [HK.out]; exact E3.out.set _
      · rw [HE.out]
        exact World.ownsRow.kept R3.out (grownBy_setCell' _ (n₀ + 1 + 1 + 1) _) (.inr (ne_some (a := n₀ + 1) (b := n₀ + 1 + 1 + 1) (by omega)))
      · have := C0.out.lt; omega
      · intro j ej; cases ej; omega
  case done =>
    rintro D xs Wr hD hS ⟨⟨c0, c2, c3, hr⟩, hB⟩ hK
    have hc2 := c2.cell
    have R := Lib.hid hr
    have HS := Lib.hid hS
    clear hr hS
    gi_wp2
    refine ⟨by simp, .inl ⟨_, _, rfl, run_takeDeferred hK, ?_⟩⟩
    refine ⟨_, results_tmp rfl _ _ _, ?_⟩
    refine ⟨_, rfl, ?_, ?_⟩
    · rw [← EN.out]
      have h0 := ownsRow_putObj R.out (.deferred none) hK rfl
      rw [HS.out] at h0
      exact h0
    · rw [← EN.out]
      exact hB.trans (belowK_b (w := w) hle Wr D _ _ (by have := EN.out; omega) hK rfl rfl)
  case stop =>
    rintro D c pre W _ _ h _
    exact h.elim

/-- **graphOf makes the graph of the code.** -/
theorem implOf_any (n c : Nat) (w : World) (hn1 : 1 ≤ n) (hn : n ≤ 6) (hc : c < 1048576) :
    Calls Tryd.prog 78 #[.int .i64 n, .int .i64 c] w (Gave w (ints (ofCode n c))) := callsIn_wide.1 (implOf_in n c w hn1 hn hc)
end Go.Proofs.YtcemhepojjbcgaaDoor

/- GraphOf answers as its model does, for all numbers: a list of its own memory, which later calls leave alone. -/


namespace Go.Proofs.YtcemhepojjbcgaaDoor
open Go.RowKit
set_option linter.unusedVariables false


theorem row_nil (w : World) (B : Nat) : Row w B (.slice none 0 0) [] := World.ownsRow_nil w B 3 1

theorem implGraphOf_less (n c : Int) (w : World) (h : n < 1) : Calls Tryd.prog 27 #[.int .i64 n, .int .i64 c] w (Told w [] false) := by
  have hb : decide (n < 1) = true := by simpa using h
  go_enter Tryd.func27, Tryd.ntmps27
  go_wp2
  go_ret2
  exact ⟨_, rfl, row_nil _ _, Below.refl _ _⟩
theorem implGraphOf_more (n c : Int) (w : World) (h : 6 < n) : Calls Tryd.prog 27 #[.int .i64 n, .int .i64 c] w (Told w [] false) := by
  have ha : decide (n < 1) = false := by simp; omega
  have hb : decide (6 < n) = true := by simpa using h
  go_enter Tryd.func27, Tryd.ntmps27
  go_wp2
  go_ret2
  exact ⟨_, rfl, row_nil _ _, Below.refl _ _⟩
set_option maxHeartbeats 2000000 in
theorem implGraphOf_bad (n : Nat) (c : Int) (w : World) (h1 : 1 ≤ n) (h6 : n ≤ 6) (h : ¬ (0 ≤ c ∧ c < (codes n : Int))) : Calls Tryd.prog 27 #[.int .i64 n, .int .i64 c] w (Told w [] false) := by
  have ha : decide ((n : Int) < 1) = false := by simp; omega
  have hb : decide (6 < (n : Int)) = false := by simp; omega
  have HC := fun w => isCode_any n c w h1 h6
  rw [decide_eq_false h] at HC
  have HH := Lib.hid HC
  clear HC h h1 h6
  go_enter Tryd.func27, Tryd.ntmps27
  go_wp2_with fail
  refine (HH.out _).mono ?_
  rintro e w2 ⟨rfl, rfl⟩
  go_wp2
  go_ret2
  exact ⟨_, rfl, row_nil _ _, Below.refl _ _⟩
set_option maxHeartbeats 2000000 in
theorem implGraphOf_good (n c : Nat) (w : World) (h1 : 1 ≤ n) (h6 : n ≤ 6) (h : c < codes n) :
    Calls Tryd.prog 27 #[.int .i64 n, .int .i64 c] w (Told w (ints (ofCode n c)) true) := by
  have hc : c < 1048576 := by have := codes_le n h6; omega
  have ha : decide ((n : Int) < 1) = false := by simp; omega
  have hb : decide (6 < (n : Int)) = false := by simp; omega
  have HC := fun w => isCode_any n c w h1 h6
  rw [decide_eq_true (show (0 : Int) ≤ (c : Int) ∧ (c : Int) < (codes n : Int) by omega)] at HC
  have HH := Lib.hid HC
  have HI := Lib.hid (fun w => implOf_any n c w h1 h6 hc)
  clear HC h h1 h6 hc
  go_enter Tryd.func27, Tryd.ntmps27
  go_wp2_with fail
  refine (HH.out _).mono ?_
  rintro e w2 ⟨rfl, rfl⟩
  go_wp2_with fail
  refine (HI.out _).mono ?_
  rintro e w2 ⟨v, rfl, hr, hb⟩
  go_wp2
  go_ret2
  exact ⟨_, rfl, hr, hb⟩

/-- **The program's GraphOf, at all numbers.** -/
theorem implGraphOf_any (n c : Int) (w : World) : Calls Tryd.prog 27 #[.int .i64 n, .int .i64 c] w (Told w (ofSaid n c).1 (ofSaid n c).2) := by
  by_cases hn : 1 ≤ n ∧ n ≤ 6
  · obtain ⟨m, rfl⟩ : ∃ m : Nat, n = (m : Int) := ⟨n.toNat, by omega⟩
    have h1 : 1 ≤ m := by omega
    have h6 : m ≤ 6 := by omega
    by_cases h0 : 0 ≤ c
    · obtain ⟨d, rfl⟩ : ∃ d : Nat, c = (d : Int) := ⟨c.toNat, by omega⟩
      by_cases hd : d < codes m
      · have e : ofSaid (m : Int) (d : Int) = (ints (ofCode m d), true) := by unfold ofSaid; rw [if_pos (by simp only [Int.toNat_natCast]; omega)]; simp
        rw [e]
        exact implGraphOf_good m d w h1 h6 hd
      · have e : ofSaid (m : Int) (d : Int) = ([], false) := by unfold ofSaid; rw [if_neg (by simp only [Int.toNat_natCast]; omega)]
        rw [e]
        exact implGraphOf_bad m d w h1 h6 (by omega)
    · have e : ofSaid (m : Int) c = ([], false) := by unfold ofSaid; rw [if_neg (by omega)]
      rw [e]
      exact implGraphOf_bad m c w (by omega) (by omega) (by omega)
  · have e : ofSaid n c = ([], false) := by unfold ofSaid; rw [if_neg (by omega)]
    rw [e]
    by_cases h : n < 1
    · exact implGraphOf_less n c w h
    · exact implGraphOf_more n c w (by omega)
theorem ofSaid_length (n c : Int) : (ofSaid n c).1.length ≤ 1000 := by
  unfold ofSaid
  split
  · rename_i h
    rw [ints_length, ofCode_length]
    omega
  · simp
end Go.Proofs.YtcemhepojjbcgaaDoor

/- The nodes of a set below a bound, in order. Plain mathematics, no condition. -/

namespace Go.Proofs.YtcemhepojjbcgaaDoor
open Go Go.RowKit
set_option linter.unusedVariables false
set_option maxRecDepth 100000

def upN (s k : Nat) : List Nat := (List.range k).filter fun i => s / 2 ^ i % 2 == 1
theorem upN_zero (s : Nat) : upN s 0 = [] := rfl
theorem upN_succ (s k : Nat) : upN s (k + 1) = upN s k ++ (if s / 2 ^ k % 2 = 1 then [k] else []) := by
  unfold upN
  rw [List.range_succ, List.filter_append]
  by_cases h : s / 2 ^ k % 2 = 1 <;> simp [h]
theorem upN_length (s k : Nat) : (upN s k).length ≤ k := by
  have := List.length_filter_le (fun i => s / 2 ^ i % 2 == 1) (List.range k)
  simpa [upN] using this
theorem upN_all : ∀ (n : Fin 7) (s : Fin 64), s.val < 2 ^ n.val → upN s.val n.val = nodesL s.val := by decide +kernel
theorem nodes_lt {s n : Nat} (hs : s < 2 ^ n) : ∀ x ∈ nodesL s, x < n := fun x hx => bit_lt hs (nodes_mem.1 hx).2
end Go.Proofs.YtcemhepojjbcgaaDoor

/- A list of numbers in order. Plain mathematics, no condition. -/

namespace Go.Proofs.YtcemhepojjbcgaaDoor
open Go Go.RowKit
set_option linter.unusedVariables false
set_option maxRecDepth 100000

/-- A list in order. -/
def sortL (xs : List Int) : List Int := xs.mergeSort (fun x y => decide (x ≤ y))
theorem sortL_length (xs : List Int) : (sortL xs).length = xs.length := by unfold sortL; exact List.length_mergeSort xs
theorem sortL_perm (xs : List Int) : (sortL xs).Perm xs := List.mergeSort_perm xs _
theorem sortL_nil : sortL [] = [] := by simp [sortL]
/-- A list that is in order and a permutation is the list in order. -/
theorem sortL_of {xs ys : List Int} (hp : ys.Perm xs) (hs : ys.Pairwise (· ≤ ·)) : ys = sortL xs := by
  refine List.Perm.eq_of_pairwise (le := fun x y : Int => x ≤ y) (fun a b _ _ h1 h2 => Int.le_antisymm h1 h2) hs ?_ (hp.trans (sortL_perm xs).symm)
  have h := List.pairwise_mergeSort (le := fun x y : Int => decide (x ≤ y)) (fun a b c h1 h2 => by simp at *; omega) (fun a b => by simp; omega) xs
  exact h.imp (fun h => by simpa using h)
end Go.Proofs.YtcemhepojjbcgaaDoor

/- The graph of some nodes is a graph; the cards of a deck. Plain mathematics, no condition. -/






namespace Go.Proofs.YtcemhepojjbcgaaDoor
open Go Go.RowKit
set_option linter.unusedVariables false
set_option maxRecDepth 100000

/-- The graph of the nodes of a set. -/
def partG (L : List Int) (s : Nat) : List Int := ints (lrun (nodesL s).length id (keptIn L (nodesL s) (rows (nodesL s).length)))
theorem partG_length (L : List Int) (s : Nat) : (partG L s).length = (nodesL s).length := by unfold partG; rw [ints_length, lrun_length]
theorem partG_eq {L : List Int} (hg : IsGraph L) {s : Nat} (hs : s < 2 ^ L.length) : partG L s = ints (partTo L (nodesL s) (nodesL s).length) := by
  unfold partG
  rw [part_eq L hg (nodesL s) (nodes_lt hs)]
theorem partG_bt {L : List Int} (hg : IsGraph L) {s : Nat} (hs : s < 2 ^ L.length) (i j : Nat) : bt (partG L s) i j = 1 ↔ i < (nodesL s).length ∧ j < (nodesL s).length ∧ bt L (at_ (nodesL s) i) (at_ (nodesL s) j) = 1 := by
  rw [partG_eq hg hs, bt_ints, partTo_bit]
theorem bt_zero_of {L : List Int} {i j : Nat} (h : ¬ bt L i j = 1) : bt L i j = 0 := by have := bt_le L i j; omega
theorem partG_graph {L : List Int} (hg : IsGraph L) {s : Nat} (hs : s < 2 ^ L.length) (h1 : 1 ≤ (nodesL s).length) : IsGraph (partG L s) := by
  have hl := partG_length L s
  have hn6 := nodes_length s
  have hat : ∀ i, i < (nodesL s).length → at_ (nodesL s) i < L.length := fun i hi => at_lt (nodes_lt hs) hi
  refine ⟨by rw [hl]; exact h1, by rw [hl]; exact hn6, fun v hv => ?_⟩
  rw [hl] at hv
  refine ⟨?_, ?_, fun w hw => ?_⟩
  · unfold InR
    rw [hl]
    have e : (partG L s)[v]?.getD 0 = ((partTo L (nodesL s) (nodesL s).length)[v]?.getD 0 : Nat) := by rw [partG_eq hg hs, ints_get]
    rw [e]
    refine ⟨by omega, ?_⟩
    have h1 : (partTo L (nodesL s) (nodesL s).length)[v]?.getD 0 < 2 ^ (nodesL s).length := by
      refine Nat.lt_pow_two_of_testBit _ fun j hj => ?_
      cases e : ((partTo L (nodesL s) (nodesL s).length)[v]?.getD 0).testBit j with
      | false => rfl
      | true =>
        have h2 := (partTo_bit L (nodesL s) v j).1 e
        omega
    omega
  · refine bt_zero_of fun h3 => ?_
    have h4 := (partG_bt hg hs v v).1 h3
    have := (hg.2.2 _ (hat v hv)).2.1
    omega
  · refine bt_eq ?_
    rw [partG_bt hg hs, partG_bt hg hs]
    constructor
    · rintro ⟨a, b, c⟩; exact ⟨b, a, (bt_sym hg (hat _ b) (hat _ a)).trans c⟩
    · rintro ⟨a, b, c⟩; exact ⟨b, a, (bt_sym hg (hat _ b) (hat _ a)).trans c⟩

/-- The set of all nodes but one. -/
def dropSet (n v : Nat) : Nat := less (2 ^ n - 1) (2 ^ v)
theorem dropSet_facts : ∀ n : Fin 7, ∀ v : Fin 6, v.val < n.val → dropSet n.val v.val < 2 ^ n.val ∧ (nodesL (dropSet n.val v.val)).length = n.val - 1 := by decide +kernel
theorem dropSet_lt {n v : Nat} (hn : n ≤ 6) (hv : v < n) : dropSet n v < 2 ^ n := (dropSet_facts ⟨n, by omega⟩ ⟨v, by omega⟩ hv).1
theorem dropSet_len {n v : Nat} (hn : n ≤ 6) (hv : v < n) : (nodesL (dropSet n v)).length = n - 1 := (dropSet_facts ⟨n, by omega⟩ ⟨v, by omega⟩ hv).2
/-- The graph without a node. -/
def dropG (L : List Int) (v : Nat) : List Int := partG L (dropSet L.length v)
theorem dropG_length {L : List Int} (hg : IsGraph L) {v : Nat} (hv : v < L.length) : (dropG L v).length = L.length - 1 := by
  unfold dropG; rw [partG_length, dropSet_len hg.2.1 hv]
theorem dropG_graph {L : List Int} (hg : IsGraph L) (h2 : 2 ≤ L.length) {v : Nat} (hv : v < L.length) : IsGraph (dropG L v) :=
  partG_graph hg (dropSet_lt hg.2.1 hv) (by rw [dropSet_len hg.2.1 hv]; omega)
/-- A card: the least code of the graph without a node. -/
def cardOf (L : List Int) (v : Nat) : Nat := leastL (dropG L v)
def deckTo (L : List Int) (k : Nat) : List Int := ints ((List.range k).map (cardOf L))
theorem deckTo_zero (L : List Int) : deckTo L 0 = [] := rfl
theorem deckTo_succ (L : List Int) (k : Nat) : deckTo L (k + 1) = deckTo L k ++ [((cardOf L k : Nat) : Int)] := by simp [deckTo, List.range_succ, ints]
theorem deckTo_length (L : List Int) (k : Nat) : (deckTo L k).length = k := by simp [deckTo, ints]
/-- The deck of a graph. -/
def deckL (L : List Int) : List Int := sortL (deckTo L L.length)
theorem deckL_length (L : List Int) : (deckL L).length = L.length := by unfold deckL; rw [sortL_length, deckTo_length]
/-- Codes are small. -/
theorem least_small {L : List Int} (hg : IsGraph L) : leastL L < 32768 := by
  obtain ⟨P, hP, e⟩ := least_is hg
  rw [e]
  exact crun_small _ _ (rows_length _ (by rw [namedL_length]; exact hg.2.1))
theorem least_lt {L : List Int} (hg : IsGraph L) : leastL L < 2 ^ (rows L.length).length := by
  obtain ⟨P, hP, e⟩ := least_is hg
  rw [e]
  have h := crun_lt (namedL L P) (rows (namedL L P).length)
  rw [namedL_length] at h
  unfold codeOf
  rw [namedL_length]
  exact h
end Go.Proofs.YtcemhepojjbcgaaDoor

/- Codes and graphs lead to each other, bit by bit; one edge taken away. Plain mathematics, no condition. -/

namespace Go.Proofs.YtcemhepojjbcgaaDoor
open Go Go.RowKit
set_option linter.unusedVariables false
set_option maxRecDepth 100000

theorem get_snoc {α : Type} {l : List α} {x e : α} {k : Nat} : (l ++ [x])[k]? = some e ↔ l[k]? = some e ∨ (k = l.length ∧ x = e) := by
  by_cases h : k < l.length
  · rw [List.getElem?_append_left h]
    constructor
    · exact fun h => .inl h
    · rintro (h | ⟨h, _⟩)
      · exact h
      · omega
  · rw [List.getElem?_append_right (by omega)]
    have h0 : l[k]? = none := List.getElem?_eq_none (by omega)
    rw [h0]
    by_cases h2 : k = l.length
    · subst h2; simp
    · have h3 : ([x] : List α)[k - l.length]? = none := List.getElem?_eq_none (by simp; omega)
      rw [h3]
      simp [h2]
/-- A pair in either order. -/
def Either (e : Nat × Nat) (i j : Nat) : Prop := (i = e.1 ∧ j = e.2) ∨ (i = e.2 ∧ j = e.1)
theorem run_bit (c n : Nat) (ps : List (Nat × Nat)) (hp : ∀ e ∈ ps, e.1 < n ∧ e.2 < n) (i j : Nat) :
    ((run c n ps).1[i]?.getD 0).testBit j = true ↔ ∃ k e, ps[k]? = some e ∧ c / 2 ^ k % 2 = 1 ∧ Either e i j := by
  induction ps using snoc_ind with
  | h0 =>
    have h : ((run c n []).1[i]?.getD 0) = 0 := by rw [run_nil]; by_cases h : i < n <;> simp [h]
    rw [h]; simp
  | h1 l x ih =>
    have hx := hp x (by simp)
    have ih := ih (fun e he => hp e (by simp [he]))
    rw [run_snoc]
    show ((lnk (run c n l).1 x.1 x.2 (c / 2 ^ (run c n l).2 % 2))[i]?.getD 0).testBit j = true ↔ _
    rw [run_at, lnk_or, orAt_bit _ _ _ _ _ (by rw [orAt_length, run_length]; exact hx.2), orAt_bit _ _ _ _ _ (by rw [run_length]; exact hx.1), bit_test _ _ _ (by omega), bit_test _ _ _ (by omega)]
    simp only [Bool.or_eq_true, Bool.and_eq_true, decide_eq_true_eq, ih]
    constructor
    · rintro ((⟨k, e, h1, h2, h3⟩ | ⟨h1, h2, h3⟩) | ⟨h1, h2, h3⟩)
      · exact ⟨k, e, get_snoc.2 (.inl h1), h2, h3⟩
      · exact ⟨l.length, x, get_snoc.2 (.inr ⟨rfl, rfl⟩), h2, .inl ⟨h1, h3⟩⟩
      · exact ⟨l.length, x, get_snoc.2 (.inr ⟨rfl, rfl⟩), h2, .inr ⟨h1, h3⟩⟩
    · rintro ⟨k, e, h1, h2, h3⟩
      rcases get_snoc.1 h1 with h4 | ⟨h4, h5⟩
      · exact .inl (.inl ⟨k, e, h4, h2, h3⟩)
      · subst h4; subst h5
        rcases h3 with ⟨h5, h6⟩ | ⟨h5, h6⟩
        · exact .inl (.inr ⟨h5, h2, h6⟩)
        · exact .inr ⟨h5, h2, h6⟩
theorem rows_lt {n : Nat} : ∀ e ∈ rows n, e.1 < n ∧ e.2 < n := fun e he => by have := rows_mem n e he; omega
/-- The graph of a code. -/
def codeG (n c : Nat) : List Int := ints (ofCode n c)
theorem codeG_length (n c : Nat) : (codeG n c).length = n := by unfold codeG; rw [ints_length, ofCode_length]
theorem codeG_bt (n c i j : Nat) : bt (codeG n c) i j = 1 ↔ ∃ k e, (rows n)[k]? = some e ∧ c / 2 ^ k % 2 = 1 ∧ Either e i j := by
  unfold codeG
  rw [bt_ints]
  exact run_bit c n (rows n) rows_lt i j
theorem rows_get {n k : Nat} {e : Nat × Nat} (h : (rows n)[k]? = some e) : e.1 < e.2 ∧ e.2 < n := rows_mem n e (List.mem_of_getElem? h)
theorem rows_inj {n : Nat} (hn : n ≤ 6) {k k' : Nat} {e : Nat × Nat} (h : (rows n)[k]? = some e) (h' : (rows n)[k']? = some e) : k = k' := by
  have hd := rows_nodup ⟨n, by omega⟩
  obtain ⟨h1, h2⟩ := List.getElem?_eq_some_iff.1 h
  obtain ⟨h3, h4⟩ := List.getElem?_eq_some_iff.1 h'
  have hp := List.pairwise_iff_getElem.1 hd
  rcases Nat.lt_trichotomy k k' with h5 | h5 | h5
  · exact absurd (h2.trans h4.symm) (hp k k' h1 h3 h5)
  · exact h5
  · exact absurd (h4.trans h2.symm) (hp k' k h3 h1 h5)
theorem rows_at {n a b : Nat} (h : a < b) (hb : b < n) : ∃ k : Nat, (rows n)[k]? = some (a, b) := by
  obtain ⟨k, hk, e⟩ := List.mem_iff_getElem.1 ((rows_all n a b).2 ⟨h, hb⟩)
  exact ⟨k, by rw [List.getElem?_eq_getElem hk, e]⟩
theorem codeG_at {n c k : Nat} (hn : n ≤ 6) {e : Nat × Nat} (h : (rows n)[k]? = some e) : bt (codeG n c) e.1 e.2 = c / 2 ^ k % 2 := by
  have h1 := bt_le (codeG n c) e.1 e.2
  have h2 : bt (codeG n c) e.1 e.2 = 1 ↔ c / 2 ^ k % 2 = 1 := by
    rw [codeG_bt]
    have he := rows_get h
    constructor
    · rintro ⟨k', e', h3, h4, h5⟩
      have he' := rows_get h3
      have hee : e' = e := by
        rcases h5 with ⟨h6, h7⟩ | ⟨h6, h7⟩
        · exact Prod.ext h6.symm h7.symm
        · omega
      subst hee
      rw [rows_inj hn h h3]
      exact h4
    · exact fun h3 => ⟨k, e, h, h3, .inl ⟨rfl, rfl⟩⟩
  by_cases h3 : c / 2 ^ k % 2 = 1
  · rw [h3, h2.2 h3]
  · have h4 : ¬ bt (codeG n c) e.1 e.2 = 1 := fun h => h3 (h2.1 h)
    omega
theorem codeG_graph {n : Nat} (c : Nat) (h1 : 1 ≤ n) (h6 : n ≤ 6) : IsGraph (codeG n c) := by
  have hl := codeG_length n c
  refine ⟨by rw [hl]; exact h1, by rw [hl]; exact h6, fun v hv => ?_⟩
  rw [hl] at hv
  refine ⟨?_, bt_zero_of fun h3 => ?_, fun w hw => bt_eq ?_⟩
  · unfold InR
    rw [hl]
    have e : (codeG n c)[v]?.getD 0 = ((ofCode n c)[v]?.getD 0 : Nat) := by unfold codeG; rw [ints_get]
    rw [e]
    refine ⟨by omega, ?_⟩
    have h2 : (ofCode n c)[v]?.getD 0 < 2 ^ n := by
      refine Nat.lt_pow_two_of_testBit _ fun j hj => ?_
      cases hb : ((ofCode n c)[v]?.getD 0).testBit j with
      | false => rfl
      | true =>
        obtain ⟨k, e, h3, _, h4⟩ := (run_bit c n (rows n) rows_lt v j).1 hb
        have := rows_get h3
        rcases h4 with ⟨_, h5⟩ | ⟨_, h5⟩ <;> omega
    omega
  · obtain ⟨k, e, h4, _, h5⟩ := (codeG_bt n c v v).1 h3
    have := rows_get h4
    rcases h5 with ⟨h6, h7⟩ | ⟨h6, h7⟩ <;> omega
  · rw [codeG_bt, codeG_bt]
    constructor
    · rintro ⟨k, e, h3, h4, h5⟩; exact ⟨k, e, h3, h4, h5.symm.imp (fun ⟨a, b⟩ => ⟨b, a⟩) (fun ⟨a, b⟩ => ⟨b, a⟩)⟩
    · rintro ⟨k, e, h3, h4, h5⟩; exact ⟨k, e, h3, h4, h5.symm.imp (fun ⟨a, b⟩ => ⟨b, a⟩) (fun ⟨a, b⟩ => ⟨b, a⟩)⟩

theorem crun_bitE (L : List Int) (ps : List (Nat × Nat)) (k : Nat) : (crun L ps).1.testBit k = true ↔ ∃ e, ps[k]? = some e ∧ bt L e.1 e.2 = 1 := by
  induction ps using snoc_ind with
  | h0 => show (0 : Nat).testBit k = true ↔ _; simp
  | h1 l x ih =>
    rw [crun_snoc]
    show ((crun L l).1 ||| bt L x.1 x.2 * 2 ^ (crun L l).2).testBit k = true ↔ _
    rw [crun_at, Nat.testBit_or, bit_test _ _ _ (bt_le _ _ _)]
    simp only [Bool.or_eq_true, Bool.and_eq_true, decide_eq_true_eq, ih, get_snoc]
    constructor
    · rintro (⟨e, h1, h2⟩ | ⟨h1, h2⟩)
      · exact ⟨e, .inl h1, h2⟩
      · exact ⟨x, .inr ⟨h2, rfl⟩, h1⟩
    · rintro ⟨e, (h1 | ⟨h1, h2⟩), h3⟩
      · exact .inl ⟨e, h1, h3⟩
      · subst h2; exact .inr ⟨h3, h1⟩
theorem code_bit {L : List Int} {k : Nat} {e : Nat × Nat} (h : (rows L.length)[k]? = some e) : codeOf L / 2 ^ k % 2 = bt L e.1 e.2 := by
  have h1 := crun_bitE L (rows L.length) k
  have h2 : (codeOf L).testBit k = true ↔ bt L e.1 e.2 = 1 := by
    show (crun L (rows L.length)).1.testBit k = true ↔ _
    rw [h1]
    constructor
    · rintro ⟨e', h3, h4⟩
      rw [h] at h3
      cases h3
      exact h4
    · exact fun h3 => ⟨e, h, h3⟩
  rw [Nat.testBit_eq_decide_div_mod_eq, decide_eq_true_eq] at h2
  have := bt_le L e.1 e.2
  by_cases h3 : bt L e.1 e.2 = 1
  · rw [h3, h2.2 h3]
  · have : ¬ codeOf L / 2 ^ k % 2 = 1 := fun h4 => h3 (h2.1 h4)
    omega
theorem code_lt (L : List Int) : codeOf L < 2 ^ (rows L.length).length := crun_lt L _
theorem codeG_code {n c : Nat} (hn : n ≤ 6) (hc : c < 2 ^ (rows n).length) : codeOf (codeG n c) = c := by
  refine Nat.eq_of_testBit_eq fun k => ?_
  have hl := codeG_length n c
  by_cases hk : k < (rows n).length
  · have h := List.getElem?_eq_getElem hk
    have h1 := code_bit (L := codeG n c) (k := k) (e := (rows n)[k]) (by rw [hl]; exact h)
    rw [codeG_at hn h] at h1
    rw [Nat.testBit_eq_decide_div_mod_eq, Nat.testBit_eq_decide_div_mod_eq, h1]
  · have h2 := code_lt (codeG n c)
    rw [hl] at h2
    rw [Nat.testBit_lt_two_pow (Nat.lt_of_lt_of_le h2 (Nat.pow_le_pow_right (by omega) (by omega))), Nat.testBit_lt_two_pow (Nat.lt_of_lt_of_le hc (Nat.pow_le_pow_right (by omega) (by omega)))]
theorem codeG_of {L : List Int} (hg : IsGraph L) : codeG L.length (codeOf L) = L := by
  have hG := codeG_graph (codeOf L) hg.1 hg.2.1
  have hl := codeG_length L.length (codeOf L)
  refine code_inj hG hg hl ?_
  exact codeG_code hg.2.1 (code_lt L)
end Go.Proofs.YtcemhepojjbcgaaDoor

/- The other graph, as a list. Plain mathematics, no condition. -/


namespace Go.Proofs.YtcemhepojjbcgaaDoor
open Go Go.RowKit
set_option linter.unusedVariables false
set_option maxRecDepth 100000

/-- The other neighbours of a node. -/
def oth (L : List Int) (k : Nat) : Nat := less (less (2 ^ L.length - 1) (ent L k)) (2 ^ k)
def otherL (L : List Int) (k : Nat) : List Int := (List.range k).map fun i => ((oth L i : Nat) : Int)
theorem otherL_zero (L : List Int) : otherL L 0 = [] := rfl
theorem otherL_succ (L : List Int) (k : Nat) : otherL L (k + 1) = otherL L k ++ [((oth L k : Nat) : Int)] := by simp [otherL, List.range_succ]
theorem otherL_length (L : List Int) (k : Nat) : (otherL L k).length = k := by simp [otherL]

/-- What the operations yield at one node. -/
theorem oth_step {L : List Int} (hg : IsGraph L) {k : Nat} (hk : k < L.length) : ∃ X P Q p y z : Nat, L[k]?.getD 0 = (X : Int) ∧ X < 64 ∧ Q + 1 = 2 ^ L.length ∧ (wrap64 ((2 : Int) ^ L.length) = (P : Int) ∧ IntKind.i64.wrap ((2 : Int) ^ L.length) = (P : Int) ∧ (P : Int) - 1 = (Q : Int) ∧ IntKind.i64.wrap ((P : Int) - 1) = (Q : Int) ∧ IntKind.i64.wrap (Q : Int) = (Q : Int)) ∧
    (wrap64 ((2 : Int) ^ k) = (p : Int) ∧ IntKind.i64.wrap ((2 : Int) ^ k) = (p : Int)) ∧ bits .andNot .i64 (Q : Int) (X : Int) = (y : Int) ∧ bits .andNot .i64 (y : Int) (p : Int) = (z : Int) ∧ z = oth L k := by
  have h6 := hg.2.1
  have hin := (hg.2.2 k hk).1
  have hX := ent_int hin
  have hXl := ent_lt hin
  have h64 := two_le h6
  have hX64 : ent L k < 64 := by omega
  have hk6 : k ≤ 6 := by omega
  clear hin hXl h64 hk
  obtain ⟨P, Q, hP, hQ, hP64, pf⟩ := shl_facts L.length h6
  have HPF := Lib.hid pf
  clear pf
  have hQ64 : Q < 64 := by omega
  have hQ2 : Q + 1 = 2 ^ L.length := by omega
  obtain ⟨P2, Q2, hP2, hQ22, hP264, qf⟩ := shl_facts k hk6
  have HQF := Lib.hid qf
  clear qf
  have f1 := less_op Q (ent L k) (Nat.lt_trans hQ64 (by decide)) (Nat.lt_trans hX64 (by decide))
  have hy : less Q (ent L k) < 64 := Nat.lt_of_le_of_lt (less_le Q (ent L k)) hQ64
  have f2 := less_op (less Q (ent L k)) P2 (Nat.lt_trans hy (by decide)) (Nat.lt_of_le_of_lt hP264 (by decide))
  have e : 2 ^ L.length - 1 = Q := by rw [← hQ2]; rfl
  obtain ⟨p1, p2, p3, p4, p5⟩ := HPF.out
  obtain ⟨q1, q2, _, _, _⟩ := HQF.out
  refine ⟨ent L k, P, Q, P2, less Q (ent L k), less (less Q (ent L k)) P2, hX, hX64, hQ2, ⟨p1, p2, p3, p4, p5⟩, ⟨q1, q2⟩, f1, f2, ?_⟩
  unfold oth
  rw [e, ← hP2]
end Go.Proofs.YtcemhepojjbcgaaDoor

/- Bits of sets; words turned by words. Plain mathematics, no condition. -/


namespace Go.Proofs.YtcemhepojjbcgaaDoor
open Go Go.RowKit
set_option linter.unusedVariables false
set_option maxRecDepth 100000

theorem less_tb {a b : Nat} (ha : a < 64) (hb : b ≤ 64) (j : Nat) : (less a b).testBit j = (a.testBit j && !b.testBit j) := by
  unfold less
  have e : 18446744073709551615 - b = 2 ^ 64 - (b + 1) := by
    have h64 : (2 : Nat) ^ 64 = 18446744073709551616 := by decide
    omega
  rw [Nat.testBit_and, e, Nat.testBit_two_pow_sub_succ (Nat.lt_of_le_of_lt hb (by decide))]
  by_cases h : j < 64
  · simp [h]
  · have h1 : a.testBit j = false := Nat.testBit_lt_two_pow (Nat.lt_of_lt_of_le ha (Nat.le_trans (show 64 ≤ 2 ^ 64 by decide) (Nat.pow_le_pow_right (by omega) (by omega))))
    simp [h1]
theorem bt_bit (L : List Int) (i j : Nat) : bt L i j = 1 ↔ (ent L i).testBit j = true := by
  unfold bt
  rw [Nat.testBit_eq_decide_div_mod_eq, decide_eq_true_eq]
theorem less_bits {a b : Nat} (ha : a < 1048576) (hb : b < 1048576) (j : Nat) : (less a b).testBit j = (a.testBit j && !b.testBit j) := by
  unfold less
  have e : 18446744073709551615 - b = 2 ^ 64 - (b + 1) := by
    have h64 : (2 : Nat) ^ 64 = 18446744073709551616 := by decide
    omega
  rw [Nat.testBit_and, e, Nat.testBit_two_pow_sub_succ (Nat.lt_trans hb (by decide))]
  by_cases h : j < 64
  · simp [h]
  · have h1 : a.testBit j = false := Nat.testBit_lt_two_pow (Nat.lt_of_lt_of_le ha (Nat.le_trans (show 1048576 ≤ 2 ^ 64 by decide) (Nat.pow_le_pow_right (by omega) (by omega))))
    simp [h1]
theorem mod_bit (x k : Nat) : x / 2 ^ k % 2 = 1 ↔ x.testBit k = true := by rw [Nat.testBit_eq_decide_div_mod_eq, decide_eq_true_eq]
theorem bt_tb (L : List Int) (i j : Nat) : bt L i j = 1 ↔ (ent L i).testBit j = true := by unfold bt; exact mod_bit _ _
theorem i64_xor_nat (a b : Nat) (ha : a < 9223372036854775808) (hb : b < 9223372036854775808) : bits .xor .i64 (a : Int) (b : Int) = ((a ^^^ b : Nat) : Int) :=
  unword (BitVec.ofInt 64 (a : Int) ^^^ BitVec.ofInt 64 (b : Int)) _ (by rw [BitVec.toNat_xor, word a ha, word b hb]) (Nat.xor_lt_two_pow ha hb)
theorem xor_pow (x k : Nat) (h : k ≤ 40) (hx : x < 9223372036854775808) : bits .xor .i64 (x : Int) (wrap64 ((2 : Int) ^ k)) = ((x ^^^ 2 ^ k : Nat) : Int) := by
  have h1 := pow_le k 40 h
  rw [wrap_pow k h, i64_xor_nat x _ hx (by omega)]
end Go.Proofs.YtcemhepojjbcgaaDoor

/- The other graph is a graph. Plain mathematics, no condition. -/



namespace Go.Proofs.YtcemhepojjbcgaaDoor
open Go Go.RowKit
set_option linter.unusedVariables false
set_option maxRecDepth 100000

theorem other_ent (L : List Int) {i : Nat} (hi : i < L.length) : (otherL L L.length)[i]?.getD 0 = ((oth L i : Nat) : Int) := by
  unfold otherL
  simp [hi]
theorem oth_le (L : List Int) (k : Nat) : oth L k < 2 ^ L.length := by
  unfold oth
  have h1 := less_le (less (2 ^ L.length - 1) (ent L k)) (2 ^ k)
  have h2 := less_le (2 ^ L.length - 1) (ent L k)
  have := two_pos L.length
  omega
theorem oth_bit {L : List Int} (hL : IsGraph L) {i : Nat} (hi : i < L.length) (j : Nat) : (oth L i).testBit j = (decide (j < L.length) && !(ent L i).testBit j && !decide (i = j)) := by
  have h6 := hL.2.1
  have h64 := two_le h6
  have hp := two_pos L.length
  have he := ent_lt (hL.2.2 i hi).1
  have hi64 := two_le (n := i) (by omega)
  have hl := less_le (2 ^ L.length - 1) (ent L i)
  unfold oth
  rw [less_tb (by omega) hi64, less_tb (by omega) (by omega), Nat.testBit_two_pow_sub_one, Nat.testBit_two_pow]
theorem other_bt {L : List Int} (hL : IsGraph L) {i : Nat} (hi : i < L.length) (j : Nat) : bt (otherL L L.length) i j = 1 ↔ (j < L.length ∧ ¬ bt L i j = 1 ∧ i ≠ j) := by
  rw [bt_bit, bt_bit]
  have e : ent (otherL L L.length) i = oth L i := by
    unfold ent
    rw [other_ent L hi, Int.toNat_natCast]
  rw [e, oth_bit hL hi]
  simp [and_assoc]
theorem other_graph {L : List Int} (hL : IsGraph L) : IsGraph (otherL L L.length) := by
  have hl := otherL_length L L.length
  refine ⟨by rw [hl]; exact hL.1, by rw [hl]; exact hL.2.1, fun v hv => ?_⟩
  rw [hl] at hv
  refine ⟨?_, ?_, fun w hw => ?_⟩
  · unfold InR
    rw [hl, other_ent L hv]
    have := oth_le L v
    omega
  · have h1 := bt_le (otherL L L.length) v v
    refine Nat.le_antisymm (Nat.le_of_not_lt fun h2 => ?_) (Nat.zero_le _)
    have h3 : bt (otherL L L.length) v v = 1 := by omega
    exact ((other_bt hL hv v).1 h3).2.2 rfl
  · refine bt_eq ?_
    rw [other_bt hL hv, other_bt hL (show w < L.length by omega), bt_sym hL hv (show w < L.length by omega)]
    constructor
    · rintro ⟨a, b, c⟩; exact ⟨hv, b, fun e => c e.symm⟩
    · rintro ⟨a, b, c⟩; exact ⟨by omega, b, fun e => c e.symm⟩
end Go.Proofs.YtcemhepojjbcgaaDoor

/- Codes lead back to graphs; the code of the other graph. Plain mathematics, no condition. -/



namespace Go.Proofs.YtcemhepojjbcgaaDoor
open Go Go.RowKit
set_option linter.unusedVariables false
set_option maxRecDepth 100000

theorem rows_size : ∀ n : Fin 7, (rows n.val).length = n.val * (n.val - 1) / 2 := by decide +kernel
theorem code_codes {L : List Int} (hg : IsGraph L) : codeOf L < codes L.length := by
  have h := code_lt L
  have e := rows_size ⟨L.length, by have := hg.2.1; omega⟩
  dsimp only at e
  unfold codes
  rw [← e]
  exact h
theorem ofSaid_code {L : List Int} (hg : IsGraph L) : ofSaid (L.length : Int) (codeOf L : Int) = (L, true) := by
  have h1 := hg.1
  have h6 := hg.2.1
  have hc := code_codes hg
  have hG : ints (ofCode L.length (codeOf L)) = L := codeG_of hg
  unfold ofSaid
  rw [if_pos ⟨by omega, by omega, by omega, by rw [Int.toNat_natCast]; omega⟩, Int.toNat_natCast, Int.toNat_natCast, hG]
theorem other_code {L : List Int} (hg : IsGraph L) : codeOf (otherL L L.length) + codeOf L + 1 = codes L.length := by
  have hl := otherL_length L L.length
  have hc := code_lt L
  have h6 := hg.2.1
  have e := rows_size ⟨L.length, by omega⟩
  dsimp only at e
  have key : codeOf (otherL L L.length) = 2 ^ (rows L.length).length - (codeOf L + 1) := by
    refine Nat.eq_of_testBit_eq fun k => ?_
    rw [Nat.testBit_two_pow_sub_succ hc]
    by_cases hk : k < (rows L.length).length
    · have h := List.getElem?_eq_getElem hk
      have h1 := code_bit (L := otherL L L.length) (k := k) (e := (rows L.length)[k]) (by rw [hl]; exact h)
      have h2 := code_bit (L := L) h
      have hm := rows_mem L.length _ (List.getElem_mem hk)
      have h3 := other_bt hg (i := (rows L.length)[k].1) (by omega) (rows L.length)[k].2
      have b1 := bt_le L (rows L.length)[k].1 (rows L.length)[k].2
      rw [Nat.testBit_eq_decide_div_mod_eq, Nat.testBit_eq_decide_div_mod_eq, h1, h2]
      by_cases hb : bt L (rows L.length)[k].1 (rows L.length)[k].2 = 1
      · have h4 : ¬ bt (otherL L L.length) (rows L.length)[k].1 (rows L.length)[k].2 = 1 := fun x => (h3.1 x).2.1 hb
        simp [hk, hb, h4]
      · have h4 : bt (otherL L L.length) (rows L.length)[k].1 (rows L.length)[k].2 = 1 := h3.2 ⟨hm.2, hb, by omega⟩
        simp [hk, hb, h4]
    · have h2 := code_lt (otherL L L.length)
      rw [hl] at h2
      rw [Nat.testBit_lt_two_pow (Nat.lt_of_lt_of_le h2 (Nat.pow_le_pow_right (by omega) (by omega)))]
      simp [hk]
  unfold codes
  rw [← e, key]
  omega
theorem other_other {L : List Int} (hg : IsGraph L) : otherL (otherL L L.length) (otherL L L.length).length = L := by
  have hG := other_graph hg
  have h1 := other_code hg
  have h2 := other_code hG
  have hl := otherL_length L L.length
  have hl2 := otherL_length (otherL L L.length) (otherL L L.length).length
  refine code_inj (other_graph hG) hg (by rw [hl2, hl]) ?_
  rw [hl] at h2 ⊢
  omega
end Go.Proofs.YtcemhepojjbcgaaDoor

/- AlikeLeast by the program, of a graph (at a seat without its law). -/



namespace Go.Proofs.YtcemhepojjbcgaaDoor
open Go Go.RowKit
set_option linter.unusedVariables false
set_option maxRecDepth 100000

theorem leastD_any (A : Option Addr) (c : Nat) (L : List Int) (hL : IsGraph L) (w : World) (sL : Seen w A L) (hT : Tab w) :
    Calls Tryd.prog 76 #[.slice A L.length c] w (NumA w (leastL L)) := callsIn_wide.1 (implLeast_in A c L hL w sL hT)
set_option maxHeartbeats 1000000 in
theorem implAlikeLeast_yes (B : Nat) (v : Value) (L : List Int) (hg : IsGraph L) (w : World) (h : Row w B v L) (hT : Tab w) :
    Calls Tryd.prog 25 #[v] w (NumOkA w (leastL L) true) := by
  have ht := hT.lt
  have H1 := Lib.hid (asG_graph B v L hg w h hT)
  obtain ⟨A, c, rfl, hs⟩ := h.seen
  have H2 := Lib.hid (fun w1 (b : Below w.heap.size w w1) => leastD_any A c L hg w1 (hs.below b) (hT.below b (by omega)))
  clear hg h hs hT
  go_enter Tryd.func25, Tryd.ntmps25
  go_wp2_with fail
  go_enter Tryd.func75, Tryd.ntmps75
  go_wp2_with fail
  refine H1.out.mono ?_
  rintro e w1 ⟨rfl, b1⟩
  go_wp2_with fail
  refine (H2.out _ b1).mono ?_
  rintro e w2 ⟨rfl, b2⟩
  go_wp2
  go_ret2
  exact ⟨rfl, b1.trans (b2.mono b1.size)⟩
end Go.Proofs.YtcemhepojjbcgaaDoor

/- The law FnExactAlikeLeast returns true at each list, and leaves all that was there as it was. -/




namespace Go.Proofs.YtcemhepojjbcgaaDoor
open Go.RowKit
set_option linter.unusedVariables false
set_option maxRecDepth 100000


theorem least_any (A : Option Addr) (c : Nat) (L : List Int) (hL : IsGraph L) (w : World) (sL : Seen w A L) (hT : Tab w) :
    Calls Tryd.prog 76 #[.slice A L.length c] w (NumA w (leastL L)) := callsIn_wide.1 (implLeast_in A c L hL w sL hT)
theorem implAlikeLeast_no (B : Nat) (v : Value) (L : List Int) (hg : ¬ IsGraph L) (w : World) (h : Row w B v L) (hT : Tab w) :
    Calls Tryd.prog 25 #[v] w (NumOkA w 0 false) := by
  have H1 := Lib.hid (asG_none B v L hg w h hT)
  clear hg h
  go_enter Tryd.func25, Tryd.ntmps25
  go_wp2_with fail
  go_enter Tryd.func75, Tryd.ntmps75
  go_wp2_with fail
  refine H1.out.mono ?_
  rintro e w1 ⟨rfl, b1⟩
  go_wp2
  go_ret2
  exact ⟨rfl, b1⟩
theorem specAlikeLeast_yes (B : Nat) (v : Value) (L : List Int) (hg : IsGraph L) (w : World) (h : Row w B v L) :
    Calls Tryd.prog 26 #[v] w (NumOkA w (leastL L) true) := by
  have H1 := Lib.hid (specIn_any B v L true ⟨fun _ => hg, fun _ => rfl⟩ w h)
  obtain ⟨A, c, rfl, hs⟩ := h.seen
  have H2 := Lib.hid (fun w1 (b : Below w.heap.size w w1) => specLeast_seen A c L hg w1 (hs.below b))
  clear hg h hs
  go_enter Tryd.func26, Tryd.ntmps26
  go_wp2_with fail
  refine H1.out.mono ?_
  rintro e w1 ⟨rfl, d, rfl⟩
  go_wp2_with fail
  refine (H2.out _ (below_drewN (Below.refl _ w) d)).mono ?_
  rintro e w2 ⟨rfl, b2⟩
  go_wp2
  go_ret2
  exact ⟨rfl, (below_drewN (Below.refl _ w) d).trans b2⟩
theorem specAlikeLeast_no (B : Nat) (v : Value) (L : List Int) (hg : ¬ IsGraph L) (w : World) (h : Row w B v L) :
    Calls Tryd.prog 26 #[v] w (NumOkA w 0 false) := by
  have H1 := Lib.hid (specIn_any B v L false ⟨fun h => (by cases h), fun h => absurd h hg⟩ w h)
  clear hg h
  go_enter Tryd.func26, Tryd.ntmps26
  go_wp2_with fail
  refine H1.out.mono ?_
  rintro e w1 ⟨rfl, d, rfl⟩
  go_wp2
  go_ret2
  exact ⟨rfl, below_drewN (Below.refl _ w) d⟩
end Go.Proofs.YtcemhepojjbcgaaDoor
