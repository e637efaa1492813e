/- NumberTrees by the model: the walk. -/
import Derived.Test.YtneglpklkmoclaaDoorSpecLinkedAny
import Derived.Test.YtneglpklkmoclaaDoorTreesSpec
namespace Go.Proofs.YtneglpklkmoclaaDoor
open Go Go.RowKit
set_option linter.unusedVariables false
set_option maxRecDepth 100000

set_option maxHeartbeats 4000000 in
theorem specTrees_any (B : Nat) (v : Value) (L : List Int) (w : World) (h : Row w B v L) :
    Calls Tryd.prog 26 #[v] w (NumOkA w (oneSaid treesN L).1 (oneSaid treesN L).2) := by
  by_cases hg : IsGraph L
  · rw [oneSaid_yes hg]
    have H0 := Lib.hid (specIn_any B v L true ⟨fun _ => hg, fun _ => rfl⟩ w h)
    obtain ⟨A, c, rfl, hs⟩ := h.seen
    have H1 := Lib.hid (fun w hs => specCode_seen A c L hg w hs)
    have h1 := hg.1
    have h6 := hg.2.1
    have hC : codeOf L < 32768 := Nat.lt_of_lt_of_le (code_lt L) (Nat.pow_le_pow_right (n := 2) (by decide) (rows_length _ h6))
    obtain ⟨n, hn⟩ : ∃ n, n = L.length := ⟨_, rfl⟩
    obtain ⟨C, eC⟩ : ∃ C, C = codeOf L := ⟨_, rfl⟩
    obtain ⟨N, eN'⟩ : ∃ N, N = 32768 := ⟨_, rfl⟩
    obtain ⟨T, eT'⟩ : ∃ T, T = treesN L := ⟨_, rfl⟩
    have hT : T = trA (treeB n) C N := by rw [eT', hn, eC, eN']; rfl
    rw [← eC] at H1 hC
    rw [← hn] at H1 h1 h6 H0 ⊢
    rw [← eN'] at hC
    rw [← eT']
    have hN : N ≤ 40000 := by omega
    have hN2 : Hid (∀ s, s < N → s < 32768) := Lib.hid (fun s hs => by omega)
    have HTT := Lib.hid hT
    have H := Lib.hid hs
    have S0 := Lib.hid (trS_start (treeB n) C N)
    clear hg h hs hn eC eN' eT' hT
    go_enter Tryd.func26, Tryd.ntmps26
    go_wp2_with fail
    refine H0.out.mono ?_
    rintro e w0 ⟨rfl, d0, rfl⟩
    have B0 := Lib.hid (below_drewN (Below.refl w.heap.size w) d0)
    go_wp2_with fail
    refine (H1.out (w.drewN d0) H.out).mono ?_
    rintro e w1 ⟨rfl, rfl⟩
    go_wp2
    go_loopw [5, 6] (fun k x wr => ∃ q s : Nat, q ≤ 40000 ∧ s < N ∧ k = .int .i64 q ∧ x = .int .i64 s ∧ Hid (q = trS (treeB n) C s N) ∧ Hid (s &&& C = s) ∧ Hid (Below w.heap.size w wr)) (fun _ x _ => (intOf x).toNat)
    case atStart => exact ⟨0, C, by omega, hC, rfl, rfl, Lib.hid S0.out.symm, Lib.hid (Nat.and_self C), B0⟩
    case round =>
      obtain ⟨q, s, hq4, hsN, rfl, rfl, hq, hsC, hb⟩ := hrel
      have h15 := hN2.out s hsN
      have HSC := Lib.hid (fun w => size_code s h15 w)
      have HOF := Lib.hid (fun w => specOf_any n s w h6 h1 (by omega))
      have HLI := Lib.hid (fun B v w h => specLinked_any B v (codeG n s) _ (linked_codeG h1 h6) w h)
      obtain ⟨m, em⟩ : ∃ m, m = n - 1 := ⟨_, rfl⟩
      have hn1 : (n : Int) - 1 = (m : Int) := by omega
      have htb : treeB n s = (pcf 15 s == m && turns (codeG n s) n == 2 ^ n - 1) := by rw [em]; rfl
      obtain ⟨P, eP⟩ : ∃ P, P = pcf 15 s := ⟨_, rfl⟩
      obtain ⟨b, eb⟩ : ∃ b, b = (turns (codeG n s) n == 2 ^ n - 1) := ⟨_, rfl⟩
      rw [← eb] at HLI htb
      rw [← eP] at HSC htb
      have HNX := Lib.hid (fun h0 : 0 < s => trS_next (treeB n) hsC.out h0 hsN)
      have HEN := Lib.hid (trS_end (treeB n) C N (by omega))
      obtain ⟨s1, es1⟩ : ∃ s1, s1 = s - 1 := ⟨_, rfl⟩
      rw [← es1] at HNX
      obtain ⟨r, er⟩ : ∃ r, r = s1 &&& C := ⟨_, rfl⟩
      rw [← er] at HNX
      have hrs : r ≤ s1 := by rw [er]; exact Nat.and_le_left
      have HRC : Hid (r &&& C = r) := Lib.hid (by rw [er, Nat.and_assoc, Nat.and_self])
      have hand : bits .and .i64 (s1 : Int) (C : Int) = (r : Int) := by rw [er]; exact i64_and_nat s1 C (by omega) (by omega)
      have HQL : Hid (∀ q', q' = trS (treeB n) C r N → q' ≤ 40000) := Lib.hid (fun q' h => by rw [h]; exact Nat.le_trans (trS_le _ _ _ _) hN)
      clear er em eP eb h15
      by_cases hz : s = 0
      · have hz0 : ((s : Int) == 0) = true := by simp [hz]
        have hEN := HEN.out
        rw [← HTT.out] at hEN
        have hq0 := hq.out
        rw [hz] at hq0 htb
        rw [← hq0, htb] at hEN
        clear HNX htb hand hrs hq0 HQL es1
        by_cases hp : P = m
        · have hp0 : ((P : Int) == (m : Int)) = true := by simp [hp]
          have hpn : (P == m) = true := by simp [hp]
          rw [hpn, Bool.true_and] at hEN
          cases b
          all_goals
            have HEN2 := Lib.hid hEN
            clear hEN hp hpn hz
            go_wp2_with fail
            refine (HSC.out _).mono ?_
            rintro e w2 ⟨rfl, rfl⟩
            go_wp2_with fail
            refine (HOF.out _).mono ?_
            rintro e w3 ⟨u, rfl, hu, b3⟩
            have B3 := Lib.hid (hb.out.trans (b3.mono hb.out.size))
            have HL2 := Lib.hid (HLI.out _ u w3 hu)
            clear hu b3
            go_wp2_with fail
            refine HL2.out.mono ?_
            rintro e w4 ⟨rfl, d4, rfl⟩
            go_wp2
            go_ret2
            exact ⟨by rw [HEN2.out]; rfl, below_drewN B3.out d4⟩
        · have hp0 : ((P : Int) == (m : Int)) = false := by simp; omega
          have hpn : (P == m) = false := by simp [hp]
          rw [hpn, Bool.false_and] at hEN
          have HEN2 := Lib.hid hEN
          clear hEN hp hpn hz
          go_wp2_with fail
          refine (HSC.out _).mono ?_
          rintro e w2 ⟨rfl, rfl⟩
          go_wp2
          go_ret2
          exact ⟨by rw [HEN2.out]; rfl, hb.out⟩
      · have hz0 : ((s : Int) == 0) = false := by simp; omega
        have hNX := HNX.out (by omega)
        rw [← hq.out, htb] at hNX
        have hs1 : (s : Int) - 1 = (s1 : Int) := by omega
        have hrN : r < N := by omega
        have hrlt : r < s := by omega
        clear HEN HNX htb hrs es1
        by_cases hp : P = m
        · have hp0 : ((P : Int) == (m : Int)) = true := by simp [hp]
          have hpn : (P == m) = true := by simp [hp]
          rw [hpn, Bool.true_and] at hNX
          cases b
          all_goals
            have HNX2 := Lib.hid hNX
            clear hNX hp hpn hz
            go_wp2_with fail
            refine (HSC.out _).mono ?_
            rintro e w2 ⟨rfl, rfl⟩
            go_wp2_with fail
            refine (HOF.out _).mono ?_
            rintro e w3 ⟨u, rfl, hu, b3⟩
            have B3 := Lib.hid (hb.out.trans (b3.mono hb.out.size))
            have HL2 := Lib.hid (HLI.out _ u w3 hu)
            clear hu b3
            go_wp2_with fail
            refine HL2.out.mono ?_
            rintro e w4 ⟨rfl, d4, rfl⟩
            go_wp2
            go_roundw
            case rel => first
              | exact ⟨q, r, by omega, hrN, rfl, rfl, Lib.hid (by rw [HNX2.out]; rfl), HRC, Lib.hid (below_drewN B3.out d4)⟩
              | exact ⟨q + 1, r, HQL.out _ (by rw [HNX2.out]; rfl), hrN, by go_num, rfl, Lib.hid (by rw [HNX2.out]; rfl), HRC, Lib.hid (below_drewN B3.out d4)⟩
            case measure => simp [intOf]; omega
        · have hp0 : ((P : Int) == (m : Int)) = false := by simp; omega
          have hpn : (P == m) = false := by simp [hp]
          rw [hpn, Bool.false_and] at hNX
          have HNX2 := Lib.hid hNX
          clear hNX hp hpn hz
          go_wp2_with fail
          refine (HSC.out _).mono ?_
          rintro e w2 ⟨rfl, rfl⟩
          go_wp2
          go_roundw
          case rel => exact ⟨q, r, by omega, hrN, rfl, rfl, Lib.hid (by rw [HNX2.out]; rfl), HRC, hb⟩
          case measure => simp [intOf]; omega
  · rw [oneSaid_no hg]
    have H0 := Lib.hid (specIn_any B v L false ⟨fun h => (by cases h), fun h => absurd h hg⟩ w h)
    clear hg h
    go_enter Tryd.func26, Tryd.ntmps26
    go_wp2_with fail
    refine H0.out.mono ?_
    rintro e w0 ⟨rfl, d, rfl⟩
    go_wp2
    go_ret2
    exact ⟨rfl, below_drewN (Below.refl _ w) d⟩
end Go.Proofs.YtneglpklkmoclaaDoor
