/- slices.Clone and plus of tables. -/
import Derived.Test.YtdhpamemkkfhhaaDoorPlusR
namespace Go.Proofs.YtdhpamemkkfhhaaDoor
open Go.RowKit Go.WideShapes
set_option linter.unusedVariables false
set_option maxRecDepth 100000

theorem infoPow : (Tryd.prog.info? 69).map (fun i => (i.zero, i.size, i.bytes)) = some (some (.slice none 0 0), 1, 24) := by kernel_rfl
def GaveTR (w : World) (T : List (List Int)) (e : Ending) (w' : World) : Prop := ∃ v, e = .returned v ∧ TRow w' w.heap.size v T ∧ Below w.heap.size w w'
theorem cloneT_any (v : Value) (T : List (List Int)) (hl : T.length ≤ 1000) (w : World) (hp : TV w v T) : Calls Tryd.prog 91 #[v] w (GaveTR w T) := by
  obtain ⟨A, c, rfl, hA, hs, _⟩ := hp
  cases A with
  | none =>
    obtain rfl := hA rfl
    have hx : T = [] := by
      cases T with
      | nil => rfl
      | cons x T => obtain ⟨b, o, u, e, _⟩ := hs 0 (by simp); cases e
    subst hx
    have he : ∀ w : World, (binOp .eql 64 (.slice none 0 0) (.slice none 0 0)).run Tryd.prog w = .ok (.bool true) w := fun _ => rfl
    clear hs hA
    go_enter Tryd.func91, Tryd.ntmps91
    go_wp2
    go_ret
    exact ⟨_, rfl, ⟨[], World.ownsRow_nil w w.heap.size 69 1, rfl, fun k hk => absurd hk (by simp)⟩, Below.refl _ _⟩
  | some a =>
    have hex : ∃ vs : List Value, vs.length = T.length ∧ ∀ k, k < T.length → ∃ b off, a = ⟨b, off, none⟩ ∧ b < w.heap.size ∧ w.cell? ⟨b, off + k, none⟩ = some (vs[k]?.getD undef) ∧ PV w (vs[k]?.getD undef) (T[k]?.getD []) := by
      refine ⟨(List.range T.length).map fun k => (w.cell? (a.add k)).getD undef, by simp, fun k hk => ?_⟩
      obtain ⟨b, off, u, e, h1, h2, h3⟩ := hs k hk
      injection e with e
      subst e
      refine ⟨b, off, rfl, h1, ?_⟩
      have e2 : (((List.range T.length).map fun k => (w.cell? ((⟨b, off, none⟩ : Addr).add k)).getD undef)[k]?).getD undef = u := by
        rw [List.getElem?_map, List.getElem?_range hk]
        simp only [Option.map_some, Option.getD_some]
        rw [add_plain, h2]
        rfl
      rw [e2]
      exact ⟨h2, h3⟩
    obtain ⟨vs, hvl, hvs⟩ := hex
    have hcb : ∀ j u, vs[j]? = some u → (w.alloc (.cells #[] 69)).cell? (a.add j) = some u := fun j u hu => by
      have hj : j < T.length := by rw [← hvl]; exact (List.getElem?_eq_some_iff.1 hu).1
      obtain ⟨b, o, e, hb, hcell, _⟩ := hvs j hj
      subst e
      rw [hu] at hcell
      have h2 := ((Below.refl w.heap.size w).alloc (Nat.le_refl _) (.cells #[] 69)).cell (p := (⟨b, o, none⟩ : Addr).add j) (by rw [add_plain]; exact hb)
      rw [add_plain] at h2 ⊢
      exact h2.trans hcell
    have hone : ∀ u ∈ vs, u.oneCell' = true := fun u hu => by
      obtain ⟨j, hj, rfl⟩ := List.getElem_of_mem hu
      obtain ⟨b, o, e, hb, hcell, hpv⟩ := hvs j (by omega)
      rw [List.getElem?_eq_getElem hj] at hpv
      obtain ⟨A', c', e', _⟩ := hpv
      simp only [Option.getD_some] at e'
      rw [e']
      rfl
    have HC := Lib.hid hcb
    have HO := Lib.hid hone
    have HV := Lib.hid hvs
    have HVL := Lib.hid hvl
    have R0 := Lib.hid (World.ownsRow_lit (base := w.heap.size) (e := 69) (size := 1) w #[] 0 (Nat.le_refl _) (by unfold maxLen; omega) rfl)
    have B0 := Lib.hid ((Below.refl w.heap.size w).alloc (Nat.le_refl _) (.cells #[] 69))
    have he : ∀ (n : Nat) (w : World), (binOp .eql 64 (.slice (some a) n c) (.slice none 0 0)).run Tryd.prog w = .ok (.bool false) w := fun _ _ => rfl
    obtain ⟨i0, hi, hz0, hz1, hz2⟩ := info_parts infoPow
    have HI := Lib.hid (And.intro hi (And.intro hz0 (And.intro hz1 hz2)))
    obtain ⟨n, hn⟩ : ∃ n, n = T.length := ⟨_, rfl⟩
    rw [← hn] at HVL hl ⊢
    have HN := Lib.hid hn
    clear hs hA hcb hone hvs hvl hi hz0 hz1 hz2 hn
    go_enter Tryd.func91, Tryd.ntmps91
    go_wp2_with (at_builtin; refine wpList_append_own (w.alloc (.cells #[] 69)) rfl (.tmp 5) (.tmp 6) 64 rfl w.heap.size 69 i0 (.slice none 0 0) 1 24 Tryd.underlying64 HI.out.1 HI.out.2.1 HI.out.2.2.1 HI.out.2.2.2 rfl (by decide) (.slice (some ⟨w.heap.size, 0, none⟩) 0 0) 0 [] rfl R0.out a n c vs rfl (by rw [HVL.out]; simp) HC.out HO.out (by unfold maxLen; omega) (by omega) B0.out.size ?_; intro v' w' hr' hg' _)
    go_ret
    have hb2 : Below w.heap.size w w' := B0.out.trans ((Below.refl w.heap.size _).grown hg' B0.out.size (fun k hk => (World.ownsRow.lt R0.out k hk).1))
    refine ⟨v', rfl, ⟨vs, ?_, by rw [HVL.out, HN.out], fun k hk => ?_⟩, hb2⟩
    · unfold VRow
      rw [List.nil_append, Nat.zero_add] at hr'
      rw [HVL.out]
      exact hr'
    · obtain ⟨b, o, e, hb, hcell, hpv⟩ := HV.out k hk
      refine ⟨hpv.below hb2, fun g hg e2 => ?_⟩
      have h1 := (World.ownsRow.lt hr' g hg).1
      obtain ⟨A', c', e', _, _, h4⟩ := hpv
      have := (h4 g e2).lt
      omega
set_option maxHeartbeats 4000000 in
theorem plusT_lt (A A' : Option Addr) (c c' : Nat) (p q : List (List Int)) (hp1 : p.length ≤ 500) (hq1 : q.length ≤ 500) (hrp : RowsLe p 250) (hrq : RowsLe q 250) (hlt : p.length < q.length) (w : World) (hp : TV w (.slice A p.length c) p) (hq : TV w (.slice A' q.length c') q) :
    Calls Tryd.prog 69 #[.slice A p.length c, .slice A' q.length c'] w (GaveT w (plusTo plusR [] q p p.length)) := by
  have hd : decide ((p.length : Int) < (q.length : Int)) = true := by simp; omega
  have HCL := Lib.hid (cloneT_any (.slice A' q.length c') q (by omega) w hq)
  have hle : p.length ≤ q.length := by omega
  have HSS := Lib.hid hp
  have HRL := Lib.hid hrq
  have HRS := Lib.hid hrp
  obtain ⟨m, em⟩ : ∃ m, m = p.length := ⟨_, rfl⟩
  obtain ⟨k, ek⟩ : ∃ k, k = q.length := ⟨_, rfl⟩
  have hmk : m ≤ 500 ∧ k ≤ 500 := by omega
  have hle2 : m ≤ k := by omega
  have hlt2 : m < k := by rw [em, ek]; exact hlt
  rw [← em, ← ek] at hd ⊢
  rw [← ek] at HCL
  rw [← em] at HSS
  have EM := Lib.hid em
  have EK := Lib.hid ek
  clear hp hq hp1 hq1 hlt hle em ek hrp hrq
  go_enter Tryd.func69, Tryd.ntmps69
  go_wp2_with fail
  refine HCL.out.mono ?_
  rintro e w1 ⟨v1, rfl, r1, b1⟩
  have hss1 : ∀ j, j < p.length → ∃ b off u, A = some ⟨b, off, none⟩ ∧ b < w.heap.size ∧ w.cell? ⟨b, off + j, none⟩ = some u ∧ PV w u (p[j]?.getD []) := by
    obtain ⟨a0, c0, e0, _, h0, _⟩ := HSS.out
    injection e0 with e1 e2 e3
    rw [e1]
    exact h0
  have HS1 := Lib.hid hss1
  have hsh : (v1 = .slice none 0 0 ∧ q.length = 0) ∨ ∃ g cap, v1 = .slice (some ⟨g, 0, none⟩) q.length cap ∧ w.heap.size ≤ g ∧ g < w1.heap.size := by
    obtain ⟨vs, h1, h2, _⟩ := r1
    rcases h1.shape with ⟨e1, e2⟩ | ⟨g, cap, e1, e2, e3⟩
    · exact .inl ⟨e1, by rw [← h2, e2]; rfl⟩
    · exact .inr ⟨g, cap, by rw [e1, h2], e2, e3⟩
  have R1 := Lib.hid r1
  have B1 := Lib.hid b1
  clear r1 b1 hss1 HCL HSS
  rcases hsh with ⟨rfl, h0⟩ | ⟨g, cap, rfl, hg1, hg2⟩
  · have hl0 : k = 0 := by
      have := EK.out
      omega
    have hs0 : m = 0 := by omega
    clear h0 hl0
    subst hs0
    go_wp2
    go_loopw [19] (fun i wr => i = .int .i64 0 ∧ Hid (wr = w1)) (fun _ _ => 0)
    case atStart => exact ⟨rfl, Lib.hid rfl⟩
    case round =>
      obtain ⟨rfl, hw⟩ := hrel
      have hw := hw.out
      subst hw
      go_wp2
      go_ret
      exact ⟨_, rfl, R1.out.tv, B1.out⟩
  · rw [← EK.out]
    have hr0 : Hid (TRow w1 w.heap.size (.slice (some ⟨g, 0, none⟩) k cap) (plusTo plusR [] q p 0)) := Lib.hid (by
      have h := R1.out
      rw [← EK.out] at h
      exact h)
    clear R1
    go_wp2
    go_loopw [6, 7, 19] (fun _ _ i wr => ∃ j : Nat, j ≤ m ∧ i = .int .i64 j ∧ Hid (TRow wr w.heap.size (.slice (some ⟨g, 0, none⟩) k cap) (plusTo plusR [] q p j)) ∧ Hid (Below w.heap.size w wr)) (fun _ _ i _ => m - (intOf i).toNat)
    case atStart => exact ⟨0, Nat.zero_le _, rfl, hr0, B1⟩
    case round =>
      obtain ⟨j, hj, rfl, hr, hb⟩ := hrel
      by_cases hjs : j < m
      · obtain ⟨b, off, u, rfl, hbl, hc, hpu⟩ := HS1.out j (by have := EM.out; omega)
        have hcs : wr.cell? ⟨b, off + j, none⟩ = some u := (hb.out.cell (p := ⟨b, off + j, none⟩) hbl).trans hc
        have hpu2 := hpu.below hb.out
        have hlen : (plusTo plusR [] q p j).length = k := by rw [plusTo_length]; exact EK.out.symm
        obtain ⟨u0, hcl, hpx, hne, hcf⟩ := hr.out.at j (by rw [hlen]; omega)
        have hst : plusTo plusR [] q p (j + 1) = (plusTo plusR [] q p j).set j (plusR ((plusTo plusR [] q p j)[j]?.getD []) (p[j]?.getD [])) := rfl
        have hxl : ((plusTo plusR [] q p j)[j]?.getD []).length ≤ 250 := by rw [plusTo_get _ _ _ _ _ _ (Nat.le_refl j)]; exact HRL.out j
        have hyl := HRS.out j
        obtain ⟨x, ex⟩ : ∃ x, x = (plusTo plusR [] q p j)[j]?.getD [] := ⟨_, rfl⟩
        obtain ⟨y, ey⟩ : ∃ y, y = p[j]?.getD [] := ⟨_, rfl⟩
        rw [← ex] at hst hpx hxl
        rw [← ey] at hst hpu2 hyl
        have HW := Lib.hid (plusR_any u0 u x y (by omega) (by omega) wr hpx hpu2)
        have hsh : ∃ A0 n0 c0, u0 = .slice A0 n0 c0 := by
          obtain ⟨A0, c0, e0, _⟩ := hpx
          exact ⟨A0, _, c0, e0⟩
        obtain ⟨A0, n0, c0, rfl⟩ := hsh
        have hi1 : (0 : Int) ≤ (j : Int) ∧ (j : Int) < (k : Int) := by omega
        have hi2 : (0 : Int) ≤ (j : Int) ∧ (j : Int) < (m : Int) := by omega
        have hm : ∀ w : World, (method 225 69 (.slice A0 n0 c0) "loop.example/graphpieces/impl.plus").run Tryd.prog w = .ok (123, .slice A0 n0 c0) w := fun _ => by kernel_rfl
        have HST := Lib.hid hst
        have HLN := Lib.hid hlen
        have hgr := (hr.out.lt g rfl).2
        clear hst hpx hpu hpu2 ex ey hbl hc hxl hyl hlen hne
        go_wp2_with fail
        refine HW.out.mono ?_
        rintro e w3 ⟨v3, rfl, hv3, hb3, hfr⟩
        have hsh3 : ∃ A3 n3 c3, v3 = .slice A3 n3 c3 := by
          obtain ⟨A0, c0, e0, _⟩ := hv3
          exact ⟨A0, _, c0, e0⟩
        obtain ⟨A3, n3, c3, rfl⟩ := hsh3
        have hr3 := hr.out.below hb3
        obtain ⟨u3, hcl3, _, _, hcf3⟩ := hr3.at j (by rw [HLN.out]; omega)
        have hb4 := Lib.hid (hb.out.trans (hb3.mono hb.out.size))
        have hgne : (Value.slice A3 n3 c3).ownBlock ≠ some g := fun e => by have := hfr g e; omega
        have hr4 : Hid (TRow (w3.setCell ⟨g, j, none⟩ (.slice A3 n3 c3)) w.heap.size (.slice (some ⟨g, 0, none⟩) k cap) (plusTo plusR [] q p (j + 1))) := Lib.hid (by
          rw [HST.out]
          exact hr3.set j _ _ hv3 hgne)
        have hb5 := Lib.hid (hb4.out.setCell (p := ⟨g, j, none⟩) hg1 (.slice A3 n3 c3))
        clear hr3 hv3 hb3 hfr hgne hb4 hcl hcs hcf HST hr hb
        go_wp2
        go_roundw
        case rel => exact ⟨j + 1, by omega, by go_num, hr4, hb5⟩
        case measure => simp [intOf]; omega
      · have hje : j = m := by omega
        have hfin : GaveT w (plusTo plusR [] q p p.length) (.returned (.slice (some ⟨g, 0, none⟩) k cap)) wr := by
          rw [← EM.out, ← hje]
          exact ⟨_, rfl, hr.out.tv, hb.out⟩
        have HF := Lib.hid hfin
        clear hfin hr hb
        rw [← EM.out] at HF
        go_wp2
        go_ret
        exact HF.out
set_option maxHeartbeats 4000000 in
theorem plusT_ge (A A' : Option Addr) (c c' : Nat) (p q : List (List Int)) (hp1 : p.length ≤ 500) (hq1 : q.length ≤ 500) (hrp : RowsLe p 250) (hrq : RowsLe q 250) (hlt : ¬ p.length < q.length) (w : World) (hp : TV w (.slice A p.length c) p) (hq : TV w (.slice A' q.length c') q) :
    Calls Tryd.prog 69 #[.slice A p.length c, .slice A' q.length c'] w (GaveT w (plusTo plusR [] p q q.length)) := by
  have hd : decide ((p.length : Int) < (q.length : Int)) = false := by simp; omega
  have HCL := Lib.hid (cloneT_any (.slice A p.length c) p (by omega) w hp)
  have hle : q.length ≤ p.length := by omega
  have HSS := Lib.hid hq
  have HRL := Lib.hid hrp
  have HRS := Lib.hid hrq
  obtain ⟨m, em⟩ : ∃ m, m = p.length := ⟨_, rfl⟩
  obtain ⟨k, ek⟩ : ∃ k, k = q.length := ⟨_, rfl⟩
  have hmk : m ≤ 500 ∧ k ≤ 500 := by omega
  have hle2 : k ≤ m := by omega
  have hlt2 : ¬ m < k := by rw [em, ek]; exact hlt
  rw [← em, ← ek] at hd ⊢
  rw [← em] at HCL
  rw [← ek] at HSS
  have EM := Lib.hid em
  have EK := Lib.hid ek
  clear hp hq hp1 hq1 hlt hle em ek hrp hrq
  go_enter Tryd.func69, Tryd.ntmps69
  go_wp2_with fail
  refine HCL.out.mono ?_
  rintro e w1 ⟨v1, rfl, r1, b1⟩
  have hss1 : ∀ j, j < q.length → ∃ b off u, A' = some ⟨b, off, none⟩ ∧ b < w.heap.size ∧ w.cell? ⟨b, off + j, none⟩ = some u ∧ PV w u (q[j]?.getD []) := by
    obtain ⟨a0, c0, e0, _, h0, _⟩ := HSS.out
    injection e0 with e1 e2 e3
    rw [e1]
    exact h0
  have HS1 := Lib.hid hss1
  have hsh : (v1 = .slice none 0 0 ∧ p.length = 0) ∨ ∃ g cap, v1 = .slice (some ⟨g, 0, none⟩) p.length cap ∧ w.heap.size ≤ g ∧ g < w1.heap.size := by
    obtain ⟨vs, h1, h2, _⟩ := r1
    rcases h1.shape with ⟨e1, e2⟩ | ⟨g, cap, e1, e2, e3⟩
    · exact .inl ⟨e1, by rw [← h2, e2]; rfl⟩
    · exact .inr ⟨g, cap, by rw [e1, h2], e2, e3⟩
  have R1 := Lib.hid r1
  have B1 := Lib.hid b1
  clear r1 b1 hss1 HCL HSS
  rcases hsh with ⟨rfl, h0⟩ | ⟨g, cap, rfl, hg1, hg2⟩
  · have hl0 : m = 0 := by
      have := EM.out
      omega
    have hs0 : k = 0 := by omega
    clear h0 hl0
    subst hs0
    go_wp2
    go_loopw [19] (fun i wr => i = .int .i64 0 ∧ Hid (wr = w1)) (fun _ _ => 0)
    case atStart => exact ⟨rfl, Lib.hid rfl⟩
    case round =>
      obtain ⟨rfl, hw⟩ := hrel
      have hw := hw.out
      subst hw
      go_wp2
      go_ret
      exact ⟨_, rfl, R1.out.tv, B1.out⟩
  · rw [← EM.out]
    have hr0 : Hid (TRow w1 w.heap.size (.slice (some ⟨g, 0, none⟩) m cap) (plusTo plusR [] p q 0)) := Lib.hid (by
      have h := R1.out
      rw [← EM.out] at h
      exact h)
    clear R1
    go_wp2
    go_loopw [6, 7, 19] (fun _ _ i wr => ∃ j : Nat, j ≤ k ∧ i = .int .i64 j ∧ Hid (TRow wr w.heap.size (.slice (some ⟨g, 0, none⟩) m cap) (plusTo plusR [] p q j)) ∧ Hid (Below w.heap.size w wr)) (fun _ _ i _ => k - (intOf i).toNat)
    case atStart => exact ⟨0, Nat.zero_le _, rfl, hr0, B1⟩
    case round =>
      obtain ⟨j, hj, rfl, hr, hb⟩ := hrel
      by_cases hjs : j < k
      · obtain ⟨b, off, u, rfl, hbl, hc, hpu⟩ := HS1.out j (by have := EK.out; omega)
        have hcs : wr.cell? ⟨b, off + j, none⟩ = some u := (hb.out.cell (p := ⟨b, off + j, none⟩) hbl).trans hc
        have hpu2 := hpu.below hb.out
        have hlen : (plusTo plusR [] p q j).length = m := by rw [plusTo_length]; exact EM.out.symm
        obtain ⟨u0, hcl, hpx, hne, hcf⟩ := hr.out.at j (by rw [hlen]; omega)
        have hst : plusTo plusR [] p q (j + 1) = (plusTo plusR [] p q j).set j (plusR ((plusTo plusR [] p q j)[j]?.getD []) (q[j]?.getD [])) := rfl
        have hxl : ((plusTo plusR [] p q j)[j]?.getD []).length ≤ 250 := by rw [plusTo_get _ _ _ _ _ _ (Nat.le_refl j)]; exact HRL.out j
        have hyl := HRS.out j
        obtain ⟨x, ex⟩ : ∃ x, x = (plusTo plusR [] p q j)[j]?.getD [] := ⟨_, rfl⟩
        obtain ⟨y, ey⟩ : ∃ y, y = q[j]?.getD [] := ⟨_, rfl⟩
        rw [← ex] at hst hpx hxl
        rw [← ey] at hst hpu2 hyl
        have HW := Lib.hid (plusR_any u0 u x y (by omega) (by omega) wr hpx hpu2)
        have hsh : ∃ A0 n0 c0, u0 = .slice A0 n0 c0 := by
          obtain ⟨A0, c0, e0, _⟩ := hpx
          exact ⟨A0, _, c0, e0⟩
        obtain ⟨A0, n0, c0, rfl⟩ := hsh
        have hi1 : (0 : Int) ≤ (j : Int) ∧ (j : Int) < (m : Int) := by omega
        have hi2 : (0 : Int) ≤ (j : Int) ∧ (j : Int) < (k : Int) := by omega
        have hm : ∀ w : World, (method 225 69 (.slice A0 n0 c0) "loop.example/graphpieces/impl.plus").run Tryd.prog w = .ok (123, .slice A0 n0 c0) w := fun _ => by kernel_rfl
        have HST := Lib.hid hst
        have HLN := Lib.hid hlen
        have hgr := (hr.out.lt g rfl).2
        clear hst hpx hpu hpu2 ex ey hbl hc hxl hyl hlen hne
        go_wp2_with fail
        refine HW.out.mono ?_
        rintro e w3 ⟨v3, rfl, hv3, hb3, hfr⟩
        have hsh3 : ∃ A3 n3 c3, v3 = .slice A3 n3 c3 := by
          obtain ⟨A0, c0, e0, _⟩ := hv3
          exact ⟨A0, _, c0, e0⟩
        obtain ⟨A3, n3, c3, rfl⟩ := hsh3
        have hr3 := hr.out.below hb3
        obtain ⟨u3, hcl3, _, _, hcf3⟩ := hr3.at j (by rw [HLN.out]; omega)
        have hb4 := Lib.hid (hb.out.trans (hb3.mono hb.out.size))
        have hgne : (Value.slice A3 n3 c3).ownBlock ≠ some g := fun e => by have := hfr g e; omega
        have hr4 : Hid (TRow (w3.setCell ⟨g, j, none⟩ (.slice A3 n3 c3)) w.heap.size (.slice (some ⟨g, 0, none⟩) m cap) (plusTo plusR [] p q (j + 1))) := Lib.hid (by
          rw [HST.out]
          exact hr3.set j _ _ hv3 hgne)
        have hb5 := Lib.hid (hb4.out.setCell (p := ⟨g, j, none⟩) hg1 (.slice A3 n3 c3))
        clear hr3 hv3 hb3 hfr hgne hb4 hcl hcs hcf HST hr hb
        go_wp2
        go_roundw
        case rel => exact ⟨j + 1, by omega, by go_num, hr4, hb5⟩
        case measure => simp [intOf]; omega
      · have hje : j = k := by omega
        have hfin : GaveT w (plusTo plusR [] p q q.length) (.returned (.slice (some ⟨g, 0, none⟩) m cap)) wr := by
          rw [← EK.out, ← hje]
          exact ⟨_, rfl, hr.out.tv, hb.out⟩
        have HF := Lib.hid hfin
        clear hfin hr hb
        rw [← EK.out] at HF
        go_wp2
        go_ret
        exact HF.out
theorem plusT_any (v u : Value) (p q : List (List Int)) (hp1 : p.length ≤ 500) (hq1 : q.length ≤ 500) (hrp : RowsLe p 250) (hrq : RowsLe q 250) (w : World) (hp : TV w v p) (hq : TV w u q) :
    Calls Tryd.prog 69 #[v, u] w (GaveT w (plusT p q)) := by
  have hp' := hp
  have hq' := hq
  obtain ⟨A, c, rfl, _, _⟩ := hp'
  obtain ⟨A', c', rfl, _, _⟩ := hq'
  unfold plusT plusG
  by_cases hlt : p.length < q.length
  · rw [if_pos hlt]; exact plusT_lt A A' c c' p q hp1 hq1 hrp hrq hlt w hp hq
  · rw [if_neg hlt]; exact plusT_ge A A' c c' p q hp1 hq1 hrp hrq hlt w hp hq
end Go.Proofs.YtdhpamemkkfhhaaDoor
