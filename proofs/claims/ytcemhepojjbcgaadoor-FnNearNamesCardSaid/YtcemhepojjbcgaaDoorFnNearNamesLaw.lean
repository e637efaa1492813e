/- The law FnNearNames returns true and leaves all that was there as it was, whatever two lists are drawn. -/
import Derived.Test.YtcemhepojjbcgaaDoorDrawPair
import Derived.Test.YtcemhepojjbcgaaDoorNearFns
import Derived.Test.YtcemhepojjbcgaaDoorNearMath
import Derived.Test.YtcemhepojjbcgaaDoorNamedLaw
import Derived.Test.YtcemhepojjbcgaaDoorBaseE
import Derived.Test.YtcemhepojjbcgaaDoorSameInts
namespace Go.Proofs.YtcemhepojjbcgaaDoor
open Go Go.RowKit
set_option linter.unusedVariables false
set_option maxRecDepth 100000

theorem pc_step {f q : Nat} (h : q < 2 ^ f) (h0 : 0 < q) : ∃ g, f = g + 1 ∧ q / 2 < 2 ^ g ∧ pcf f q = q % 2 + pcf g (q / 2) := by
  cases f with
  | zero => omega
  | succ g => exact ⟨g, rfl, by rw [Nat.pow_succ] at h; omega, rfl⟩
theorem near_pack {L M : List Int} (hp : IsPair L M) : ∃ (P : List Nat) (x y z d : Nat), nearN L M = P ∧ Names L.length L.length P ∧ IsGraph (namedL L P) ∧ codeOf (namedL L P) = x ∧ codeOf M = y ∧ unlike L M P = d ∧ bits .xor .i64 (x : Int) (y : Int) = (z : Int) ∧ z < 2 ^ 15 ∧ pcf 15 z = d ∧ d ≤ 15 ∧ P.length = L.length := by
  obtain ⟨hL, hM, hl⟩ := hp
  have hP := near_names (L := L) (M := M)
  have hG := named_graph hL hP
  have c1 := code_lt (namedL L (nearN L M))
  have c2 := code_lt M
  have h15 : ∀ K : List Int, K.length ≤ 6 → codeOf K < 2 ^ 15 := fun K hK => Nat.lt_of_lt_of_le (code_lt K) (Nat.pow_le_pow_right (by decide) (rows_length _ hK))
  have d1 := h15 (namedL L (nearN L M)) (by rw [namedL_length]; exact hL.2.1)
  have d2 := h15 M hM.2.1
  exact ⟨_, _, _, codeOf (namedL L (nearN L M)) ^^^ codeOf M, _, rfl, hP, hG, rfl, rfl, rfl, i64_xor_nat _ _ (Nat.lt_trans d1 (by decide)) (Nat.lt_trans d2 (by decide)), Nat.xor_lt_two_pow d1 d2, unlike_code hL hM hl hP, unlike_small L M _ (by rw [hP.1]; exact hL.2.1), hP.1⟩
set_option maxHeartbeats 800000 in
theorem fnNearNames_long (A : Option Addr) (n c : Nat) (w : World) (h : 1048576 < n) (hm : n ≤ maxLen) :
    Calls Tryd.prog 12 #[.slice A n c] w (Fine w) := by
  unfold maxLen at hm
  have hd : decide ((1048576 : Int) < (n : Int)) = true := by simp; omega
  go_enter Tryd.func12, Tryd.ntmps12
  go_wp2
  go_ret
  exact ⟨rfl, Below.refl _ _⟩

set_option maxHeartbeats 4000000 in
theorem fnNearNames_short (A : Option Addr) (n c : Nat) (w : World) (hs : n ≤ 1048576) (hT : Tab w)
    (hD : Calls Tryd.prog 50 #[.slice A n c] w (DrewTwo 5 6 w)) :
    Calls Tryd.prog 12 #[.slice A n c] w (Fine w) := by
  have h2 := hT.lt
  have hd : decide ((1048576 : Int) < (n : Int)) = false := by simp; omega
  have HD := Lib.hid hD
  have HT := Lib.hid hT
  clear hD hT hs
  go_enter Tryd.func12, Tryd.ntmps12
  go_wp2_with fail
  refine HD.out.mono ?_
  rintro e w1 ⟨v, L, v2, M, rfl, l1, l2, r, rs, b1⟩
  by_cases hp : IsPair L M
  · obtain ⟨P, x, y, z, d, eP, hP, hG, ex, ey, ed, hxor, hz, hpc, hd, hPl⟩ := near_pack hp
    have HF := Lib.hid (fun B B' v v' w => implNn_yes B B' v v' L M hp w)
    have HS := Lib.hid (fun B B' v v' w => specNn_yes B B' v v' L M hp w)
    have HD := Lib.hid (fun B B' v v' w => implNl_yes B B' v v' L M hp w)
    have HN := Lib.hid (fun B B' v v' w => implGNamed_both B B' v v' L (ints P) hp.1 (names_is hP) w)
    have hNM : ints (mrun L L.length (nm (ints P)) (grid L.length L.length)) = namedL L P := rfl
    have HK := Lib.hid (fun B v w => implGraphCode_yes B v (namedL L P) hG w)
    have HK2 := Lib.hid (fun B v w => implGraphCode_yes B v M hp.2.1 w)
    rw [eP] at HF HS HD
    rw [ed] at HD
    rw [ex] at HK
    rw [ey] at HK2
    rw [hNM] at HN
    have hil : (ints P).length ≤ 6 := by rw [ints_length]; omega
    obtain ⟨G, eG⟩ : ∃ G, G = namedL L P := ⟨_, rfl⟩
    rw [← eG] at HN HK
    obtain ⟨F, eF⟩ : ∃ F, F = ints P := ⟨_, rfl⟩
    rw [← eF] at HF HS HN hil
    have HIL := Lib.hid hil
    have HXOR := Lib.hid hxor
    have HZ := Lib.hid hz
    have HPC := Lib.hid hpc
    clear hp eP hP hG ex ey ed hxor hz hpc hNM hil hPl eG eF
    go_wp2_with fail
    refine (HF.out _ _ v v2 _ r rs (HT.out.below b1 (by omega))).mono ?_
    rintro e w2 ⟨vf, rfl, rf0, bb2⟩
    have b2 := b1.trans (bb2.mono b1.size)
    have r_2 := r.below bb2
    have s_2 := rs.below bb2
    go_wp2_with fail
    refine (HS.out _ _ v v2 _ r_2 s_2).mono ?_
    rintro e w3 ⟨vt, rfl, rt0, bb3⟩
    have b3 := b2.trans (bb3.mono b2.size)
    have r_3 := r_2.below bb3
    have s_3 := s_2.below bb3
    have rf_3 := rf0.below bb3
    go_wp2_with fail
    refine (sameI_yes _ _ vf vt F _ rf_3 rt0 (by have := HIL.out; omega)).mono ?_
    rintro e w4 ⟨rfl, d4, rfl⟩
    have b4 := below_drewN b3 d4
    have r_4 := r_3.drewN d4
    have s_4 := s_3.drewN d4
    have rf_4 := rf_3.drewN d4
    have rt_4 := rt0.drewN d4
    go_wp2_with fail
    refine (HN.out _ _ v vf _ r_4 rf_4 (HT.out.below b4 (by omega))).mono ?_
    rintro e w5 ⟨vx, rfl, rx0, bb5⟩
    have b5 := b4.trans (bb5.mono b4.size)
    have r_5 := r_4.below bb5
    have s_5 := s_4.below bb5
    have rf_5 := rf_4.below bb5
    have rt_5 := rt_4.below bb5
    go_wp2_with fail
    refine (HK.out _ vx _ rx0 (HT.out.below b5 (by omega))).mono ?_
    rintro e w6 ⟨rfl, bb6⟩
    have b6 := b5.trans (bb6.mono b5.size)
    have r_6 := r_5.below bb6
    have s_6 := s_5.below bb6
    have rf_6 := rf_5.below bb6
    have rt_6 := rt_5.below bb6
    have rx_6 := rx0.below bb6
    go_wp2_with fail
    refine (HK2.out _ v2 _ s_6 (HT.out.below b6 (by omega))).mono ?_
    rintro e w7 ⟨rfl, bb7⟩
    have b7 := b6.trans (bb7.mono b6.size)
    have r_7 := r_6.below bb7
    have s_7 := s_6.below bb7
    have rf_7 := rf_6.below bb7
    have rt_7 := rt_6.below bb7
    have rx_7 := rx_6.below bb7
    go_wp2_with fail
    refine (HD.out _ _ v v2 _ r_7 s_7 (HT.out.below b7 (by omega))).mono ?_
    rintro e w8 ⟨rfl, bb8⟩
    have b8 := b7.trans (bb8.mono b7.size)
    have r_8 := r_7.below bb8
    have s_8 := s_7.below bb8
    have rf_8 := rf_7.below bb8
    have rt_8 := rt_7.below bb8
    have rx_8 := rx_7.below bb8
    have BB := Lib.hid b8
    have hxor := HXOR.out
    obtain ⟨W0, eW0⟩ : ∃ W0, W0 = w8 := ⟨_, rfl⟩
    rw [← eW0] at BB ⊢
    clear eW0 HF HS HN HK HK2 HD HXOR HIL l1 l2
    go_wp2
    go_loopw [17, 18] (fun nn bo wr => ∃ f q m k : Nat, q ≤ 40000 ∧ m ≤ 15 ∧ bo = .int .i64 q ∧ nn = .int .i64 m ∧ wr = W0.drewN k ∧ Hid (q < 2 ^ f) ∧ Hid (m + pcf f q = d)) (fun _ bo _ => (intOf bo).toNat)
    case atStart => exact ⟨15, z, 0, 0, by have := HZ.out; omega, by omega, rfl, rfl, rfl, HZ, Lib.hid (by rw [HPC.out, Nat.zero_add])⟩
    case round =>
      clear hxor HZ HPC
      obtain ⟨f, q, m, k, hq, hm, rfl, rfl, ew, hqf, hmf⟩ := hrel
      have EW := Lib.hid ew
      clear ew
      by_cases h0 : 0 < q
      · have hz : decide ((0 : Int) < (q : Int)) = true := by simpa using h0
        obtain ⟨g, _, hg, hst⟩ := pc_step hqf.out h0
        have hb := bit_of q 0 (by omega)
        simp only [Nat.pow_zero, Nat.div_one, Int.pow_zero, Int.ediv_one] at hb
        obtain ⟨bit, eb⟩ : ∃ bit, bit = q % 2 := ⟨_, rfl⟩
        rw [← eb] at hb hst
        have hbit : bit ≤ 1 := by omega
        obtain ⟨u, eu⟩ : ∃ u, u = q / 2 := ⟨_, rfl⟩
        have huq : u < q := by omega
        have hdv : (q : Int) / 2 = (u : Int) := by omega
        rw [← eu] at hst hg
        have hmm : m + bit ≤ 15 := by
          have h1 := hmf.out
          rw [hst] at h1
          omega
        have HG := Lib.hid hg
        have HM2 : Hid (m + bit + pcf g u = d) := Lib.hid (by have h1 := hmf.out; rw [hst] at h1; omega)
        clear hg hst hqf hmf eb eu
        go_wp2
        go_roundw
        case rel => exact ⟨g, u, m + bit, k, by omega, hmm, rfl, by go_num, EW.out, HG, HM2⟩
        case measure => simp [intOf]; omega
      · have hz : decide ((0 : Int) < (q : Int)) = false := by simp; omega
        have hq0 : q = 0 := by omega
        subst hq0
        have hmd : m = d := by have h1 := hmf.out; rw [pcf_zero] at h1; omega
        subst hmd
        have bb : Below w.heap.size w wr := by rw [EW.out]; exact below_drewN BB.out k
        clear hqf hmf
        go_wp2
        go_ret
        exact ⟨by simp, bb⟩
  · have HF := Lib.hid (fun B B' v v' w => implNn_no B B' v v' L M hp w)
    have HS := Lib.hid (fun B B' v v' w => specNn_no B B' v v' L M hp w)
    clear hp
    go_wp2_with fail
    refine (HF.out _ _ v v2 _ r rs (HT.out.below b1 (by omega))).mono ?_
    rintro e w2 ⟨vf, rfl, rf0, bb2⟩
    have b2 := b1.trans (bb2.mono b1.size)
    have r_2 := r.below bb2
    have s_2 := rs.below bb2
    go_wp2_with fail
    refine (HS.out _ _ v v2 _ r_2 s_2).mono ?_
    rintro e w3 ⟨vt, rfl, rt0, bb3⟩
    have b3 := b2.trans (bb3.mono b2.size)
    have r_3 := r_2.below bb3
    have s_3 := s_2.below bb3
    have rf_3 := rf0.below bb3
    go_wp2_with fail
    refine (sameI_yes _ _ vf vt [] _ rf_3 rt0 (by simp)).mono ?_
    rintro e w4 ⟨rfl, d4, rfl⟩
    have b4 := below_drewN b3 d4
    have r_4 := r_3.drewN d4
    have s_4 := s_3.drewN d4
    have rf_4 := rf_3.drewN d4
    have rt_4 := rt0.drewN d4
    go_wp2_with fail
    refine (sameI_yes _ _ vf vt [] _ rf_4 rt_4 (by simp)).mono ?_
    rintro e w5 ⟨rfl, d5, rfl⟩
    have b5 := below_drewN b4 d5
    have r_5 := r_4.drewN d5
    have s_5 := s_4.drewN d5
    have rf_5 := rf_4.drewN d5
    have rt_5 := rt_4.drewN d5
    go_wp2
    go_ret
    exact ⟨by simp, by simpa using b5⟩
end Go.Proofs.YtcemhepojjbcgaaDoor
