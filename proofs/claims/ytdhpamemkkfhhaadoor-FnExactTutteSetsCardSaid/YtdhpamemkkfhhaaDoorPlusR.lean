/- slices.Clone and plus of rows of numbers. -/
import Derived.Test.YtdhpamemkkfhhaaDoorPowKit
import Derived.Test.YtdhpamemkkfhhaaDoorBaseA
namespace Go.Proofs.YtdhpamemkkfhhaaDoor
open Go.RowKit Go.WideShapes
set_option linter.unusedVariables false
set_option maxRecDepth 100000

theorem infoWhole : (Tryd.prog.info? 70).map (fun i => (i.zero, i.size, i.bytes)) = some (some (.int .i64 0), 1, 8) := by kernel_rfl
def GaveW (w : World) (xs : List Int) (e : Ending) (w' : World) : Prop := ∃ v, e = .returned v ∧ VRow 70 w' w.heap.size v (xs.map (Value.int .i64)) ∧ Below w.heap.size w w'
theorem cloneW_any (v : Value) (xs : List Int) (hl : xs.length ≤ 1000) (w : World) (hp : PV w v xs) : Calls Tryd.prog 125 #[v] w (GaveW w xs) := by
  obtain ⟨A, c, rfl, hA, hs, _⟩ := hp
  cases A with
  | none =>
    obtain rfl := hA rfl
    have hx : xs = [] := by
      cases xs with
      | nil => rfl
      | cons x xs => obtain ⟨b, o, e, _⟩ := hs 0 (by simp); cases e
    subst hx
    have he : ∀ w : World, (binOp .eql 69 (.slice none 0 0) (.slice none 0 0)).run Tryd.prog w = .ok (.bool true) w := fun _ => rfl
    clear hs hA
    go_enter Tryd.func125, Tryd.ntmps125
    go_wp2
    go_ret
    exact ⟨_, rfl, World.ownsRow_nil w w.heap.size 70 1, Below.refl _ _⟩
  | some a =>
    have hc : ∀ j u, (xs.map (Value.int .i64))[j]? = some u → w.cell? (a.add j) = some u := fun j u hu => by
      have hj : j < xs.length := by
        have := (List.getElem?_eq_some_iff.1 hu).1
        simpa using this
      obtain ⟨b, o, e, _, hcell⟩ := hs j hj
      injection e with e
      subst e
      rw [getD_map xs j hj] at hu
      injection hu with hu
      subst hu
      rw [add_plain]; exact hcell
    have hcb : ∀ j u, (xs.map (Value.int .i64))[j]? = some u → (w.alloc (.cells #[] 70)).cell? (a.add j) = some u := fun j u hu => by
      have hj : j < xs.length := by
        have := (List.getElem?_eq_some_iff.1 hu).1
        simpa using this
      obtain ⟨b, o, e, hb, hcell⟩ := hs j hj
      injection e with e
      subst e
      have h1 := hc j u hu
      have h2 := ((Below.refl w.heap.size w).alloc (Nat.le_refl _) (.cells #[] 70)).cell (p := (⟨b, o, none⟩ : Addr).add j) (by rw [add_plain]; exact hb)
      exact h2.trans h1
    have HC := Lib.hid hcb
    have R0 := Lib.hid (World.ownsRow_lit (base := w.heap.size) (e := 70) (size := 1) w #[] 0 (Nat.le_refl _) (by unfold maxLen; omega) rfl)
    have B0 := Lib.hid ((Below.refl w.heap.size w).alloc (Nat.le_refl _) (.cells #[] 70))
    have he : ∀ w : World, (binOp .eql 69 (.slice (some a) xs.length c) (.slice none 0 0)).run Tryd.prog w = .ok (.bool false) w := fun _ => rfl
    obtain ⟨i0, hi, hz0, hz1, hz2⟩ := info_parts infoWhole
    have HI := Lib.hid (And.intro hi (And.intro hz0 (And.intro hz1 hz2)))
    clear hs hA hc hcb hi hz0 hz1 hz2
    go_enter Tryd.func125, Tryd.ntmps125
    go_wp2_with (at_builtin; refine wpList_append_own (w.alloc (.cells #[] 70)) rfl (.tmp 5) (.tmp 6) 69 rfl w.heap.size 70 i0 (.int .i64 0) 1 8 Tryd.underlying69 HI.out.1 HI.out.2.1 HI.out.2.2.1 HI.out.2.2.2 rfl (by decide) (.slice (some ⟨w.heap.size, 0, none⟩) 0 0) 0 [] rfl R0.out a xs.length c (xs.map (Value.int .i64)) rfl (by simp) HC.out (by simp [Value.oneCell']) (by unfold maxLen; omega) (by omega) B0.out.size ?_; intro v' w' hr' hg' _)
    go_ret
    refine ⟨v', rfl, ?_, B0.out.trans ((Below.refl w.heap.size _).grown hg' B0.out.size (fun k hk => (World.ownsRow.lt R0.out k hk).1))⟩
    unfold VRow
    rw [List.nil_append, Nat.zero_add] at hr'
    rw [List.length_map]
    exact hr'

theorem wplus_any (a b : Int) (w : World) : Calls Tryd.prog 126 #[.int .i64 a, .int .i64 b] w fun e w' => e = .returned (.int .i64 (wrap64 (a + b))) ∧ w = w' := by
  go_enter Tryd.func126, Tryd.ntmps126
  go_wp2
  go_ret
  exact ⟨rfl, rfl⟩
theorem wtimes_any (a b : Int) (w : World) : Calls Tryd.prog 127 #[.int .i64 a, .int .i64 b] w fun e w' => e = .returned (.int .i64 (wrap64 (a * b))) ∧ w = w' := by
  go_enter Tryd.func127, Tryd.ntmps127
  go_wp2
  go_ret
  exact ⟨rfl, rfl⟩
set_option maxHeartbeats 4000000 in
theorem plusR_lt (A A' : Option Addr) (c c' : Nat) (p q : List Int) (hp1 : p.length ≤ 500) (hq1 : q.length ≤ 500) (hlt : p.length < q.length) (w : World) (hp : PV w (.slice A p.length c) p) (hq : PV w (.slice A' q.length c') q) :
    Calls Tryd.prog 123 #[.slice A p.length c, .slice A' q.length c'] w (GaveP w (plusTo (fun a b => wrap64 (a + b)) 0 q p p.length)) := by
  have hd : decide ((p.length : Int) < (q.length : Int)) = true := by simp; omega
  have HCL := Lib.hid (cloneW_any (.slice A' q.length c') q (by omega) w hq)
  have hle : p.length ≤ q.length := by omega
  have HSS := Lib.hid hp
  obtain ⟨m, em⟩ : ∃ m, m = p.length := ⟨_, rfl⟩
  obtain ⟨k, ek⟩ : ∃ k, k = q.length := ⟨_, rfl⟩
  have hmk : m ≤ 500 ∧ k ≤ 500 := by omega
  have hle2 : m ≤ k := by omega
  have hlt2 : m < k := by rw [em, ek]; exact hlt
  rw [← em, ← ek] at hd ⊢
  rw [← ek] at HCL
  rw [← em] at HSS
  have EM := Lib.hid em
  have EK := Lib.hid ek
  clear hp hq hp1 hq1 hlt hle em ek
  go_enter Tryd.func123, Tryd.ntmps123
  go_wp2_with fail
  refine HCL.out.mono ?_
  rintro e w1 ⟨v1, rfl, r1, b1⟩
  have hss1 : Seen w A p := by
    obtain ⟨a0, c0, e0, _, h0, _⟩ := HSS.out
    injection e0 with e1 e2 e3
    rw [e1]
    exact h0
  have HS1 := Lib.hid hss1
  have hsh := r1.shape
  have R1 := Lib.hid r1
  have B1 := Lib.hid b1
  clear r1 b1 hss1 HCL HSS
  rcases hsh with ⟨rfl, h0⟩ | ⟨g, cap, rfl, hg1, hg2⟩
  · have hl0 : k = 0 := by
      have h1 : (q.map (Value.int .i64)).length = 0 := by rw [h0]; rfl
      rw [List.length_map] at h1
      have := EK.out
      omega
    have hs0 : m = 0 := by omega
    have hsl0 : p.length = 0 := by have := EM.out; omega
    have HZ := Lib.hid hsl0
    clear h0 hl0 hsl0
    subst hs0
    go_wp2
    go_loopw [19] (fun i wr => i = .int .i64 0 ∧ Hid (wr = w1)) (fun _ _ => 0)
    case atStart => exact ⟨rfl, Lib.hid rfl⟩
    case round =>
      obtain ⟨rfl, hw⟩ := hrel
      have hw := hw.out
      subst hw
      go_wp2
      go_ret
      exact ⟨_, rfl, pv_own R1.out, B1.out, fun k hk => by cases hk⟩
  · rw [List.length_map, ← EK.out]
    have hr0 : Hid (VRow 70 w1 w.heap.size (.slice (some ⟨g, 0, none⟩) k cap) ((plusTo (fun a b => wrap64 (a + b)) 0 q p 0).map (Value.int .i64))) := Lib.hid (by
      have h := R1.out
      rw [List.length_map, ← EK.out] at h
      exact h)
    clear R1
    go_wp2
    go_loopw [6, 7, 19] (fun _ _ i wr => ∃ j : Nat, j ≤ m ∧ i = .int .i64 j ∧ Hid (VRow 70 wr w.heap.size (.slice (some ⟨g, 0, none⟩) k cap) ((plusTo (fun a b => wrap64 (a + b)) 0 q p j).map (Value.int .i64))) ∧ Hid (Below w.heap.size w wr)) (fun _ _ i _ => m - (intOf i).toNat)
    case atStart => exact ⟨0, Nat.zero_le _, rfl, hr0, B1⟩
    case round =>
      obtain ⟨j, hj, rfl, hr, hb⟩ := hrel
      by_cases hjs : j < m
      · obtain ⟨b, off, rfl, hbl, hc⟩ := HS1.out j (by have := EM.out; omega)
        have hcs : wr.cell? ⟨b, off + j, none⟩ = some (.int .i64 (p[j]?.getD 0)) := (hb.out.cell (p := ⟨b, off + j, none⟩) hbl).trans hc
        have hlen : (plusTo (fun a b => wrap64 (a + b)) 0 q p j).length = k := by rw [plusTo_length]; exact EK.out.symm
        have hcl := hr.out.cellAt j (by rw [List.length_map, hlen]; omega)
        have hcf := hr.out.frozenAt j
        rw [getD_map _ _ (by rw [hlen]; omega)] at hcl
        have hst : plusTo (fun a b => wrap64 (a + b)) 0 q p (j + 1) = (plusTo (fun a b => wrap64 (a + b)) 0 q p j).set j (wrap64 ((plusTo (fun a b => wrap64 (a + b)) 0 q p j)[j]?.getD 0 + (p[j]?.getD 0))) := rfl
        obtain ⟨x, ex⟩ : ∃ x, x = (plusTo (fun a b => wrap64 (a + b)) 0 q p j)[j]?.getD 0 := ⟨_, rfl⟩
        obtain ⟨y, ey⟩ : ∃ y, y = p[j]?.getD 0 := ⟨_, rfl⟩
        rw [← ex, ← ey] at hst
        rw [← ex] at hcl
        rw [← ey] at hcs
        have hcl2 : wr.cell? ⟨g, j, none⟩ = some (.int .i64 x) := hcl
        have hi1 : (0 : Int) ≤ (j : Int) ∧ (j : Int) < (k : Int) := by omega
        have hi2 : (0 : Int) ≤ (j : Int) ∧ (j : Int) < (m : Int) := by omega
        have HW := Lib.hid (wplus_any x y wr)
        obtain ⟨z, ez⟩ : ∃ z, z = wrap64 (x + y) := ⟨_, rfl⟩
        rw [← ez] at hst HW
        have hgb : w.heap.size ≤ g := hg1
        have hb2 := Lib.hid (hb.out.setCell (p := ⟨g, j, none⟩) hgb (.int .i64 z))
        have hr2 : Hid (VRow 70 (wr.setCell ⟨g, j, none⟩ (.int .i64 z)) w.heap.size (.slice (some ⟨g, 0, none⟩) k cap) ((plusTo (fun a b => wrap64 (a + b)) 0 q p (j + 1)).map (Value.int .i64))) := Lib.hid (by
          rw [hst, ← map_set]
          exact hr.out.set j (.int .i64 z))
        clear hst ex ey ez hcl hr hb hc hlen hbl
        have hm : ∀ w : World, (method 225 70 (.int .i64 x) "loop.example/graphpieces/impl.plus").run Tryd.prog w = .ok (126, .int .i64 x) w := fun _ => by kernel_rfl
        go_wp2_with fail
        refine HW.out.mono ?_
        rintro e w3 ⟨rfl, rfl⟩
        go_wp2
        go_roundw
        case rel => exact ⟨j + 1, by omega, by go_num, hr2, hb2⟩
        case measure => simp [intOf]; omega
      · have hje : j = m := by omega
        have hfin : GaveP w (plusTo (fun a b => wrap64 (a + b)) 0 q p p.length) (.returned (.slice (some ⟨g, 0, none⟩) k cap)) wr := by
          rw [← EM.out, ← hje]
          exact ⟨_, rfl, pv_own hr.out, hb.out, fun k hk => (hr.out.lt k hk).1⟩
        have HF := Lib.hid hfin
        clear hfin hr hb
        rw [← EM.out] at HF
        go_wp2
        go_ret
        exact HF.out
set_option maxHeartbeats 4000000 in
theorem plusR_ge (A A' : Option Addr) (c c' : Nat) (p q : List Int) (hp1 : p.length ≤ 500) (hq1 : q.length ≤ 500) (hlt : ¬ p.length < q.length) (w : World) (hp : PV w (.slice A p.length c) p) (hq : PV w (.slice A' q.length c') q) :
    Calls Tryd.prog 123 #[.slice A p.length c, .slice A' q.length c'] w (GaveP w (plusTo (fun a b => wrap64 (a + b)) 0 p q q.length)) := by
  have hd : decide ((p.length : Int) < (q.length : Int)) = false := by simp; omega
  have HCL := Lib.hid (cloneW_any (.slice A p.length c) p (by omega) w hp)
  have hle : q.length ≤ p.length := by omega
  have HSS := Lib.hid hq
  obtain ⟨m, em⟩ : ∃ m, m = p.length := ⟨_, rfl⟩
  obtain ⟨k, ek⟩ : ∃ k, k = q.length := ⟨_, rfl⟩
  have hmk : m ≤ 500 ∧ k ≤ 500 := by omega
  have hle2 : k ≤ m := by omega
  have hlt2 : ¬ m < k := by rw [em, ek]; exact hlt
  rw [← em, ← ek] at hd ⊢
  rw [← em] at HCL
  rw [← ek] at HSS
  have EM := Lib.hid em
  have EK := Lib.hid ek
  clear hp hq hp1 hq1 hlt hle em ek
  go_enter Tryd.func123, Tryd.ntmps123
  go_wp2_with fail
  refine HCL.out.mono ?_
  rintro e w1 ⟨v1, rfl, r1, b1⟩
  have hss1 : Seen w A' q := by
    obtain ⟨a0, c0, e0, _, h0, _⟩ := HSS.out
    injection e0 with e1 e2 e3
    rw [e1]
    exact h0
  have HS1 := Lib.hid hss1
  have hsh := r1.shape
  have R1 := Lib.hid r1
  have B1 := Lib.hid b1
  clear r1 b1 hss1 HCL HSS
  rcases hsh with ⟨rfl, h0⟩ | ⟨g, cap, rfl, hg1, hg2⟩
  · have hl0 : m = 0 := by
      have h1 : (p.map (Value.int .i64)).length = 0 := by rw [h0]; rfl
      rw [List.length_map] at h1
      have := EM.out
      omega
    have hs0 : k = 0 := by omega
    have hsl0 : q.length = 0 := by have := EK.out; omega
    have HZ := Lib.hid hsl0
    clear h0 hl0 hsl0
    subst hs0
    go_wp2
    go_loopw [19] (fun i wr => i = .int .i64 0 ∧ Hid (wr = w1)) (fun _ _ => 0)
    case atStart => exact ⟨rfl, Lib.hid rfl⟩
    case round =>
      obtain ⟨rfl, hw⟩ := hrel
      have hw := hw.out
      subst hw
      go_wp2
      go_ret
      exact ⟨_, rfl, pv_own R1.out, B1.out, fun k hk => by cases hk⟩
  · rw [List.length_map, ← EM.out]
    have hr0 : Hid (VRow 70 w1 w.heap.size (.slice (some ⟨g, 0, none⟩) m cap) ((plusTo (fun a b => wrap64 (a + b)) 0 p q 0).map (Value.int .i64))) := Lib.hid (by
      have h := R1.out
      rw [List.length_map, ← EM.out] at h
      exact h)
    clear R1
    go_wp2
    go_loopw [6, 7, 19] (fun _ _ i wr => ∃ j : Nat, j ≤ k ∧ i = .int .i64 j ∧ Hid (VRow 70 wr w.heap.size (.slice (some ⟨g, 0, none⟩) m cap) ((plusTo (fun a b => wrap64 (a + b)) 0 p q j).map (Value.int .i64))) ∧ Hid (Below w.heap.size w wr)) (fun _ _ i _ => k - (intOf i).toNat)
    case atStart => exact ⟨0, Nat.zero_le _, rfl, hr0, B1⟩
    case round =>
      obtain ⟨j, hj, rfl, hr, hb⟩ := hrel
      by_cases hjs : j < k
      · obtain ⟨b, off, rfl, hbl, hc⟩ := HS1.out j (by have := EK.out; omega)
        have hcs : wr.cell? ⟨b, off + j, none⟩ = some (.int .i64 (q[j]?.getD 0)) := (hb.out.cell (p := ⟨b, off + j, none⟩) hbl).trans hc
        have hlen : (plusTo (fun a b => wrap64 (a + b)) 0 p q j).length = m := by rw [plusTo_length]; exact EM.out.symm
        have hcl := hr.out.cellAt j (by rw [List.length_map, hlen]; omega)
        have hcf := hr.out.frozenAt j
        rw [getD_map _ _ (by rw [hlen]; omega)] at hcl
        have hst : plusTo (fun a b => wrap64 (a + b)) 0 p q (j + 1) = (plusTo (fun a b => wrap64 (a + b)) 0 p q j).set j (wrap64 ((plusTo (fun a b => wrap64 (a + b)) 0 p q j)[j]?.getD 0 + (q[j]?.getD 0))) := rfl
        obtain ⟨x, ex⟩ : ∃ x, x = (plusTo (fun a b => wrap64 (a + b)) 0 p q j)[j]?.getD 0 := ⟨_, rfl⟩
        obtain ⟨y, ey⟩ : ∃ y, y = q[j]?.getD 0 := ⟨_, rfl⟩
        rw [← ex, ← ey] at hst
        rw [← ex] at hcl
        rw [← ey] at hcs
        have hcl2 : wr.cell? ⟨g, j, none⟩ = some (.int .i64 x) := hcl
        have hi1 : (0 : Int) ≤ (j : Int) ∧ (j : Int) < (m : Int) := by omega
        have hi2 : (0 : Int) ≤ (j : Int) ∧ (j : Int) < (k : Int) := by omega
        have HW := Lib.hid (wplus_any x y wr)
        obtain ⟨z, ez⟩ : ∃ z, z = wrap64 (x + y) := ⟨_, rfl⟩
        rw [← ez] at hst HW
        have hgb : w.heap.size ≤ g := hg1
        have hb2 := Lib.hid (hb.out.setCell (p := ⟨g, j, none⟩) hgb (.int .i64 z))
        have hr2 : Hid (VRow 70 (wr.setCell ⟨g, j, none⟩ (.int .i64 z)) w.heap.size (.slice (some ⟨g, 0, none⟩) m cap) ((plusTo (fun a b => wrap64 (a + b)) 0 p q (j + 1)).map (Value.int .i64))) := Lib.hid (by
          rw [hst, ← map_set]
          exact hr.out.set j (.int .i64 z))
        clear hst ex ey ez hcl hr hb hc hlen hbl
        have hm : ∀ w : World, (method 225 70 (.int .i64 x) "loop.example/graphpieces/impl.plus").run Tryd.prog w = .ok (126, .int .i64 x) w := fun _ => by kernel_rfl
        go_wp2_with fail
        refine HW.out.mono ?_
        rintro e w3 ⟨rfl, rfl⟩
        go_wp2
        go_roundw
        case rel => exact ⟨j + 1, by omega, by go_num, hr2, hb2⟩
        case measure => simp [intOf]; omega
      · have hje : j = k := by omega
        have hfin : GaveP w (plusTo (fun a b => wrap64 (a + b)) 0 p q q.length) (.returned (.slice (some ⟨g, 0, none⟩) m cap)) wr := by
          rw [← EK.out, ← hje]
          exact ⟨_, rfl, pv_own hr.out, hb.out, fun k hk => (hr.out.lt k hk).1⟩
        have HF := Lib.hid hfin
        clear hfin hr hb
        rw [← EK.out] at HF
        go_wp2
        go_ret
        exact HF.out
theorem plusR_any (v u : Value) (p q : List Int) (hp1 : p.length ≤ 500) (hq1 : q.length ≤ 500) (w : World) (hp : PV w v p) (hq : PV w u q) :
    Calls Tryd.prog 123 #[v, u] w (GaveP w (plusR p q)) := by
  have hp' := hp
  have hq' := hq
  obtain ⟨A, c, rfl, _, _⟩ := hp'
  obtain ⟨A', c', rfl, _, _⟩ := hq'
  unfold plusR plusG
  by_cases hlt : p.length < q.length
  · rw [if_pos hlt]; exact plusR_lt A A' c c' p q hp1 hq1 hlt w hp hq
  · rw [if_neg hlt]; exact plusR_ge A A' c c' p q hp1 hq1 hlt w hp hq
end Go.Proofs.YtdhpamemkkfhhaaDoor
