/- The law FnWalks returns true and leaves all that was there as it was, whatever is drawn. -/
import Derived.Test.YtneglpklkmoclaaDoorDrawWalk
import Derived.Test.YtneglpklkmoclaaDoorBaseW
import Derived.Test.YtneglpklkmoclaaDoorImplDegrees
import Derived.Test.YtneglpklkmoclaaDoorTotal
import Derived.Test.YtneglpklkmoclaaDoorNumProm
namespace Go.Proofs.YtneglpklkmoclaaDoor
open Go Go.RowKit
set_option linter.unusedVariables false
set_option maxRecDepth 100000

set_option maxHeartbeats 800000 in
theorem fnWalks_long (A : Option Addr) (n c : Nat) (w : World) (h : 1048576 < n) (hm : n ≤ maxLen) :
    Calls Tryd.prog 3 #[.slice A n c] w (Fine w) := by
  unfold maxLen at hm
  have hd : decide ((1048576 : Int) < (n : Int)) = true := by simp; omega
  go_enter Tryd.func3, Tryd.ntmps3
  go_wp2
  go_ret
  exact ⟨rfl, Below.refl _ _⟩

set_option maxHeartbeats 4000000 in
theorem fnWalks_short (A : Option Addr) (n c : Nat) (w : World) (hs : n ≤ 1048576) (hT : Tab w)
    (hD : Calls Tryd.prog 10 #[.slice A n c] w (DrewZ w)) :
    Calls Tryd.prog 3 #[.slice A n c] w (Fine w) := by
  have h2 := hT.lt
  have hd : decide ((1048576 : Int) < (n : Int)) = false := by simp; omega
  have HD := Lib.hid hD
  have HT := Lib.hid hT
  clear hD hT hs
  go_enter Tryd.func3, Tryd.ntmps3
  go_wp2_with fail
  refine HD.out.mono ?_
  rintro e w1 ⟨v, L, z, rfl, l1, l6, z1, z2, r, b1⟩
  by_cases h : InLen L z
  · obtain ⟨h, h0, h12⟩ := h
    obtain ⟨k0, rfl⟩ : ∃ k : Nat, z = k := ⟨z.toNat, by omega⟩
    have hk0 : k0 ≤ 12 := by omega
    have HI := Lib.hid (fun B v w => implWalks_any B v L k0 w)
    have HS := Lib.hid (fun B v w => specWalks_any B v L k0 w)
    rw [walkSaid_yes h hk0] at HI HS
    have HD := Lib.hid (fun B v w => implGraphDegrees_yes B v L h w)
    have hdl : (degL L L.length).length = L.length := degL_length _ _
    have HDG : Hid (∀ i, i < L.length → (degL L L.length)[i]?.getD 0 = ((dg L i : Nat) : Int) ∧ dg L i ≤ L.length - 1) := Lib.hid fun i hi => ⟨degL_dg h hi, dg_lt h hi⟩
    have HSM : Hid (∀ k, k ≤ L.length → sumN (fun v => dg L v * dg L v) k ≤ 150) := Lib.hid fun k hk => sq_part h _ (fun v hv => by
      have q1 := dg_lt h hv
      have q2 := Nat.mul_le_mul (show dg L v ≤ 5 by omega) (show dg L v ≤ 5 by omega)
      omega) hk
    have HDX : Hid (∀ x ∈ degL L L.length, 0 ≤ x ∧ x ≤ 1000000) := Lib.hid fun x hx => by
      simp only [degL, List.mem_map] at hx
      obtain ⟨i, _, rfl⟩ := hx
      have := cnt_le (ent L i)
      omega
    have f0 : Hid (k0 = 0 → walksN L k0 = L.length) := Lib.hid fun e => by rw [e, walks_zero]
    have f1 : Hid (k0 = 1 → ((walksN L k0 : Nat) : Int) = (degL L L.length).sum) := Lib.hid fun e => by rw [e, walks_one, dg_edges h, deg_sum h]
    have f2 : Hid (k0 = 2 → walksN L k0 = sumN (fun v => dg L v * dg L v) L.length) := Lib.hid fun e => by rw [e, walks_two h]
    have q3b := walks_small L h.2.1 k0 hk0
    obtain ⟨x, ex⟩ : ∃ x, x = walksN L k0 := ⟨_, rfl⟩
    rw [← ex] at HI HS f0 f1 f2 q3b
    have HDL := Lib.hid hdl
    obtain ⟨D, eD⟩ : ∃ D, D = degL L L.length := ⟨_, rfl⟩
    rw [← eD] at HD HDG HDL HDX f1
    clear ex eD hdl h
    go_wp2_with fail
    refine (HI.out _ v _ r (HT.out.below b1 (by omega))).mono ?_
    rintro e w2 ⟨rfl, bb2⟩
    have b2 := b1.trans (bb2.mono b1.size)
    have r_2 := r.below bb2
    go_wp2_with fail
    refine (HS.out _ v _ r_2).mono ?_
    rintro e w3 ⟨rfl, bb3⟩
    have b3 := b2.trans (bb3.mono b2.size)
    have r_3 := r_2.below bb3
    obtain ⟨A1, c1, rfl, _⟩ := r_3.seen
    go_wp2_with fail
    refine (HD.out _ _ _ r_3 (HT.out.below b3 (by omega))).mono ?_
    rintro e w4 ⟨vd, rfl, rd0, bb4⟩
    have b4 := b3.trans (bb4.mono b3.size)
    have r_4 := r_3.below bb4
    have RD := Lib.hid rd0
    obtain ⟨A2, c2, rfl, s2⟩ := rd0.seen
    obtain ⟨n, en⟩ : ∃ n, n = L.length := ⟨_, rfl⟩
    have hl := HDL.out
    rw [← en] at l1 l6 HSM HDG hl f0 f2 ⊢
    have HL := Lib.hid hl
    rw [hl] at RD ⊢
    obtain ⟨W0, eW0⟩ : ∃ W0, W0 = w4 := ⟨_, rfl⟩
    have BB := Lib.hid b4
    have S2 := Lib.hid s2
    rw [← eW0] at BB S2 RD ⊢
    clear eW0 en s2 hl HS HI HD HDL
    obtain ⟨f, ef⟩ : ∃ f : Nat → Nat, f = fun v => dg L v * dg L v := ⟨_, rfl⟩
    rw [← ef] at HSM f2
    have HF : Hid (∀ k, f k = dg L k * dg L k) := Lib.hid fun k => by rw [ef]
    clear ef
    go_wp2
    go_loopw [11, 12] (fun s i wr => ∃ k d : Nat, k ≤ n ∧ i = .int .i64 k ∧ s = .int .i64 (sumN f k : Nat) ∧ wr = W0.drewN d) (fun _ i _ => n - (intOf i).toNat)
    case atStart => exact ⟨0, 0, Nat.zero_le _, rfl, rfl, rfl⟩
    case round =>
      obtain ⟨k, d, hk, rfl, rfl, ew⟩ := hrel
      have EW := Lib.hid ew
      have hsm := HSM.out k hk
      by_cases hlt : k < n
      · have hst : sumN f (k + 1) = sumN f k + f k := rfl
        obtain ⟨q1, q2⟩ := HDG.out k hlt
        have q3 := HF.out k
        have q4 := HSM.out (k + 1) (by omega)
        obtain ⟨g, o, rfl, _, hc⟩ := S2.out k (by rw [HL.out]; exact hlt)
        rw [q1] at hc
        have hcw : wr.cell? ⟨g, o + k, none⟩ = some (.int .i64 (dg L k : Nat)) := by rw [ew]; exact hc
        obtain ⟨x1, ex1⟩ : ∃ x1, x1 = dg L k := ⟨_, rfl⟩
        rw [← ex1] at hcw q2 q3
        obtain ⟨s, es⟩ : ∃ s, s = sumN f k := ⟨_, rfl⟩
        rw [← es] at hst hsm ⊢
        obtain ⟨p, ep⟩ : ∃ p, p = f k := ⟨_, rfl⟩
        rw [← ep] at hst q3
        have hp : (x1 : Int) * (x1 : Int) = (p : Int) := by rw [q3, Int.natCast_mul]
        have hp2 : p ≤ 150 := by omega
        have hx6 : x1 ≤ 6 := by omega
        have HST := Lib.hid hst
        have hi : (0 : Int) ≤ (k : Int) ∧ (k : Int) < (n : Int) := by omega
        clear ew hc q1 q2 q3 q4 ex1 es ep hst
        go_wp2
        go_quiet (fail)
        go_wp2
        go_roundw
        case rel => exact ⟨k + 1, _, by omega, by go_num, by rw [HST.out, Int.natCast_add], by rw [EW.out, World.drewN_drewN]⟩
        case measure => simp [intOf]; omega
      · have hkm : k = n := by omega
        subst hkm
        have hc : k0 = 0 ∨ k0 = 1 ∨ k0 = 2 ∨ 3 ≤ k0 := by omega
        have RD2 := Lib.hid (show Row wr _ _ D by rw [ew]; exact RD.out.drewN d)
        have HE : Hid (∀ j, Below w.heap.size w (wr.drewN j)) := Lib.hid fun j => by rw [EW.out]; exact below_drewN (below_drewN BB.out d) j
        have HE0 : Hid (Below w.heap.size w wr) := Lib.hid (by rw [EW.out]; exact below_drewN BB.out d)
        have F2 := f2
        obtain ⟨s, es⟩ : ∃ s, s = sumN f k := ⟨_, rfl⟩
        rw [← es] at hsm F2 ⊢
        clear ew es f2
        rcases hc with rfl | rfl | rfl | h3
        · have e := f0.out rfl
          subst e
          go_wp2
          go_ret
          exact ⟨by simp, HE0.out⟩
        · have e := f1.out rfl
          have HSU := Lib.hid e
          clear e
          go_wp2_with fail
          have HTL := total_any _ _ D (by rw [HL.out]; omega) HDX.out _ RD2.out
          rw [← HSU.out] at HTL
          refine HTL.mono ?_
          rintro e w9 ⟨rfl, d9, rfl⟩
          clear HTL
          go_wp2
          go_ret
          exact ⟨by simp, HE.out _⟩
        · have e := F2.out rfl
          subst e
          go_wp2
          go_ret
          exact ⟨by simp, HE0.out⟩
        · have c0 : ((k0 : Int) != 0) = true := by simp; omega
          have c1 : ((k0 : Int) != 1) = true := by simp; omega
          have c2 : ((k0 : Int) != 2) = true := by simp; omega
          go_wp2
          go_ret
          exact ⟨by simp, HE0.out⟩
  · have HI := Lib.hid (fun B v w => implWalks_any B v L z w)
    have HS := Lib.hid (fun B v w => specWalks_any B v L z w)
    rw [walkSaid_no h] at HI HS
    clear h
    go_wp2_with fail
    refine (HI.out _ v _ r (HT.out.below b1 (by omega))).mono ?_
    rintro e w2 ⟨rfl, bb2⟩
    have b2 := b1.trans (bb2.mono b1.size)
    have r_2 := r.below bb2
    go_wp2_with fail
    refine (HS.out _ v _ r_2).mono ?_
    rintro e w3 ⟨rfl, bb3⟩
    have b3 := b2.trans (bb3.mono b2.size)
    have r_3 := r_2.below bb3
    go_wp2
    go_ret
    exact ⟨by simp, b3⟩
end Go.Proofs.YtneglpklkmoclaaDoor
