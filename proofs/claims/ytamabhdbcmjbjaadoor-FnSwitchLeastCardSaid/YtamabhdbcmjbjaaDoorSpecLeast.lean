/- The model's least code. -/
import Derived.Test.YtamabhdbcmjbjaaDoorBaseG
import Derived.Test.YtamabhdbcmjbjaaDoorPerms
import Derived.Test.YtamabhdbcmjbjaaDoorBaseA
namespace Go.Proofs.YtamabhdbcmjbjaaDoor
open Go Go.RowKit
set_option linter.unusedVariables false
set_option maxRecDepth 100000

theorem min_int (y x : Nat) : (if x < y then (x : Int) else (y : Int)) = ((min y x : Nat) : Int) := by
  by_cases h : x < y
  · rw [if_pos h]; omega
  · rw [if_neg h]; omega
set_option maxHeartbeats 4000000 in
theorem specLeast_seen (A : Option Addr) (c : Nat) (L : List Int) (hL : IsGraph L) (w : World) (s1 : Seen w A L) :
    Calls Tryd.prog 26 #[.slice A L.length c] w (NumA w (leastL L)) := by
  unfold leastL
  have h1 := hL.1
  have h6 := hL.2.1
  have HC0 := Lib.hid (specCode_seen A c L hL w s1)
  obtain ⟨n, hn⟩ : ∃ n, n = L.length := ⟨_, rfl⟩
  rw [← hn] at h1 h6 HC0 ⊢
  have HN := Lib.hid hn
  have HL := Lib.hid hL
  have S1 := Lib.hid s1
  obtain ⟨R, eR⟩ : ∃ R, R = permsTo n n := ⟨_, rfl⟩
  have hRn := perms_names n n
  have hPA := perms_any n h1 h6
  have hRl := perms_length n n h6 h6
  rw [← eR] at hRn hPA hRl ⊢
  have HRN := Lib.hid hRn
  have HPA := Lib.hid hPA
  clear hL hn s1 eR hRn hPA
  go_enter Tryd.func26, Tryd.ntmps26
  go_wp2_with fail
  refine HC0.out.mono ?_
  rintro e w0 ⟨rfl, rfl⟩
  go_wp2_with fail
  refine (HPA.out _).mono ?_
  rintro e w1 ⟨u, rfl, hu, hb⟩
  obtain ⟨ob, oc, rfl, hob⟩ := hu.shape
  obtain ⟨m, em⟩ : ∃ m, m = R.length := ⟨_, rfl⟩
  rw [← em] at hu ⊢
  have hml : m ≤ 46656 := by omega
  have EM := Lib.hid em
  have HU := Lib.hid hu
  have HB := Lib.hid hb
  obtain ⟨s, es⟩ : ∃ s, s = w.heap.size := ⟨_, rfl⟩
  rw [← es] at HU HB
  have ES := Lib.hid es
  clear hu hb em es HPA hRl HC0
  go_wp2
  go_loopw [3, 5] (fun q i wr => ∃ k : Nat, k ≤ m ∧ i = .int .i64 k ∧ q = .int .i64 (minTo L (R.take k) : Nat) ∧ Hid (Below s w wr) ∧ Hid (Row2 wr s (.slice (some ⟨ob, 0, none⟩) m oc) R)) (fun _ i _ => m - (intOf i).toNat)
  case atStart => exact ⟨0, Nat.zero_le _, rfl, rfl, HB, HU⟩
  case round =>
    obtain ⟨k, hk, rfl, rfl, hb, hu⟩ := hrel
    by_cases hlt : k < m
    · have hkR : k < R.length := by have := EM.out; omega
      obtain ⟨pv, hpc, hpr⟩ := Row2.at (by have h0 := hu.out; rw [EM.out] at h0; exact h0) hkR
      obtain ⟨P, eP⟩ : ∃ P, P = R[k]?.getD [] := ⟨_, rfl⟩
      have hPm : P ∈ R := by rw [eP, List.getElem?_eq_getElem hkR]; exact List.getElem_mem _
      have hPn := HRN.out P hPm
      have hst : minTo L (R.take (k + 1)) = min (minTo L (R.take k)) (codeOf (namedL L P)) := by
        rw [List.take_succ_eq_append_getElem hkR, minTo_snoc, eP, List.getElem?_eq_getElem hkR]; rfl
      rw [← eP] at hpr
      obtain ⟨AP, cP, rfl, sP⟩ := hpr.1.seen
      have hPl : (ints P).length = n := by rw [ints_length]; exact hPn.1
      have hPL : Names L.length L.length P := by rw [← HN.out]; exact hPn
      have HNM := Lib.hid (specNamed_seen A AP c cP L (ints P) HL.out (names_is hPL) wr (S1.out.below (hb.out.mono (by have := ES.out; omega))) sP)
      rw [← HN.out, hPl] at HNM
      rw [hPl] at hpc
      have HPL := Lib.hid hPL
      have HST := Lib.hid hst
      have hjm : (0 : Int) ≤ (k : Int) ∧ (k : Int) < (m : Int) := by omega
      clear hPm hPn hPL sP eP hpr hPl hst
      go_wp2_with fail
      refine HNM.out.mono ?_
      rintro e w2 ⟨nv, rfl, nr, nb⟩
      have hnb : Below s w w2 := hb.out.trans (nb.mono (by rw [ES.out]; exact hb.out.size))
      have nr : Row w2 wr.heap.size nv (namedL L P) := by unfold namedL; rw [← HN.out]; exact nr
      obtain ⟨A2, c2, rfl, ns⟩ := nr.seen
      have hnl : (namedL L P).length = n := by rw [namedL_length]; exact HN.out.symm
      have HC1 := Lib.hid (specCode_seen A2 c2 (namedL L P) (named_graph HL.out HPL.out) w2 ns)
      rw [hnl] at HC1 ⊢
      have HNB := Lib.hid hnb
      have HU2 := Lib.hid (hu.out.below nb)
      clear nr nb hnb ns hnl
      obtain ⟨x, ex⟩ : ∃ x, x = codeOf (namedL L P) := ⟨_, rfl⟩
      obtain ⟨y, ey⟩ : ∃ y, y = minTo L (R.take k) := ⟨_, rfl⟩
      rw [← ex] at HC1 HST
      rw [← ey] at HST
      rw [← ey]
      clear ex ey
      go_wp2_with fail
      refine HC1.out.mono ?_
      rintro e w3 ⟨rfl, rfl⟩
      go_wp2
      go_roundw
      case rel => exact ⟨k + 1, by omega, by go_num, by rw [HST.out, min_int], HNB, HU2⟩
      case measure => simp [intOf]; omega
    · have hke : k = m := by omega
      subst hke
      have HT : Hid (R.take k = R) := Lib.hid (by rw [EM.out]; exact List.take_length)
      rw [HT.out]
      go_wp2
      go_ret
      exact ⟨rfl, by rw [← ES.out]; exact hb.out⟩
#print axioms specLeast_seen
end Go.Proofs.YtamabhdbcmjbjaaDoor
