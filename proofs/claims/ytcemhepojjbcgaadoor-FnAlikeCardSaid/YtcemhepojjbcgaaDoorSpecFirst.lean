/- The model's AlikeFirst: it tries all names. -/
import Derived.Test.YtcemhepojjbcgaaDoorBaseE
import Derived.Test.YtcemhepojjbcgaaDoorBaseL
namespace Go.Proofs.YtcemhepojjbcgaaDoor
open Go Go.RowKit
set_option linter.unusedVariables false
set_option maxRecDepth 100000

set_option maxRecDepth 100000 in
set_option maxHeartbeats 4000000 in
theorem specFirst_like (B B' : Nat) (v v' : Value) (L M : List Int) (hL : IsGraph L) (hM : IsGraph M) (hlm : L.length = M.length) (w : World) (h : Row w B v L) (h' : Row w B' v' M) :
    Calls Tryd.prog 21 #[v, v'] w (FirstR w (likeL L M)) := by
  rw [likeL_codes hL hM hlm]
  have h1 := hL.1
  have h6 := hL.2.1
  have H1 := Lib.hid (specIn_any B v L true ⟨fun _ => hL, fun _ => rfl⟩ w h)
  have H2 := Lib.hid (fun w h => specIn_any B' v' M true ⟨fun _ => hM, fun _ => rfl⟩ w h)
  obtain ⟨A, c, rfl, s1⟩ := h.seen
  have HR' := Lib.hid h'
  obtain ⟨A', c', rfl, s2⟩ := h'.seen
  obtain ⟨n, hn⟩ : ∃ n, n = L.length := ⟨_, rfl⟩
  have hm : n = M.length := hn.trans hlm
  rw [← hn] at h1 h6 H1 ⊢
  rw [← hm] at H2 HR' ⊢
  have HN := Lib.hid hn
  have HM := Lib.hid hm
  have HL := Lib.hid hL
  have HMM := Lib.hid hM
  have S1 := Lib.hid s1
  have S2 := Lib.hid s2
  obtain ⟨R, eR⟩ : ∃ R, R = permsTo n n := ⟨_, rfl⟩
  have hRn := perms_names n n
  have hPA := perms_any n h1 h6
  have hRl := perms_length n n h6 h6
  rw [← eR] at hRn hPA hRl ⊢
  have HRN := Lib.hid hRn
  have HPA := Lib.hid hPA
  clear hL hM hlm h h' hn hm s1 s2 eR hRn hPA
  go_enter Tryd.func21, Tryd.ntmps21
  go_wp2_with fail
  refine H1.out.mono ?_
  rintro e w1 ⟨rfl, d, rfl⟩
  go_wp2_with fail
  refine (H2.out (w.drewN d) HR'.out).mono ?_
  rintro e w2 ⟨rfl, d2, rfl⟩
  go_wp2_with fail
  refine (HPA.out _).mono ?_
  rintro e w1 ⟨u, rfl, hu, hb⟩
  have hu : Row2 w1 w.heap.size u R := hu
  have hb : Below w.heap.size w w1 := (below_drewN (Below.refl w.heap.size w) (d + d2)).trans hb
  obtain ⟨ob, oc, rfl, hob⟩ := hu.shape
  obtain ⟨m, em⟩ : ∃ m, m = R.length := ⟨_, rfl⟩
  rw [← em] at hu ⊢
  have hml : m ≤ 46656 := by omega
  have EM := Lib.hid em
  have HU := Lib.hid hu
  have HB := Lib.hid hb
  obtain ⟨s, es⟩ : ∃ s, s = w.heap.size := ⟨_, rfl⟩
  rw [← es] at HU HB
  have ES := Lib.hid es
  clear hu hb em es H1 H2 HPA hRl
  go_wp2
  go_loopw [7] (fun i wr => ∃ k : Nat, k ≤ m ∧ i = .int .i64 k ∧ Hid (∀ j, j < k → okC L M (R[j]?.getD []) = false) ∧ Hid (Below s w wr) ∧ Hid (Row2 wr s (.slice (some ⟨ob, 0, none⟩) m oc) R)) (fun i _ => m - (intOf i).toNat)
  case atStart => exact ⟨0, Nat.zero_le _, rfl, Lib.hid (fun j hj => absurd hj (Nat.not_lt_zero j)), HB, HU⟩
  case round =>
    obtain ⟨k, hk, rfl, hno, hb, hu⟩ := hrel
    by_cases hlt : k < m
    · have hkR : k < R.length := by have := EM.out; omega
      obtain ⟨pv, hpc, hpr⟩ := Row2.at (by have h0 := hu.out; rw [EM.out] at h0; exact h0) hkR
      obtain ⟨P, eP⟩ : ∃ P, P = R[k]?.getD [] := ⟨_, rfl⟩
      have hPm : P ∈ R := by rw [eP, List.getElem?_eq_getElem hkR]; exact List.getElem_mem _
      have hPn := HRN.out P hPm
      rw [← eP] at hpr
      obtain ⟨AP, cP, rfl, sP⟩ := hpr.1.seen
      have hPl : (ints P).length = n := by rw [ints_length]; exact hPn.1
      have hPL : Names L.length L.length P := by rw [← HN.out]; exact hPn
      have HNM := Lib.hid (specNamed_seen A AP c cP L (ints P) HL.out (names_is hPL) wr (S1.out.below (hb.out.mono (by have := ES.out; omega))) sP)
      rw [← HN.out, hPl] at HNM
      rw [hPl] at hpc
      have hpr' := Lib.hid hpr
      have HPL := Lib.hid hPL
      have EP := Lib.hid eP
      have hjm : (0 : Int) ≤ (k : Int) ∧ (k : Int) < (m : Int) := by omega
      clear hPm hPn hPL sP eP hpr hPl
      go_wp2_with fail
      refine HNM.out.mono ?_
      rintro e w2 ⟨nv, rfl, nr, nb⟩
      have hnb : Below s w w2 := hb.out.trans (nb.mono (by rw [ES.out]; exact hb.out.size))
      have nr : Row w2 wr.heap.size nv (namedL L P) := by unfold namedL; rw [← HN.out]; exact nr
      have hpc2 : w2.cell? ⟨ob, k, none⟩ = some (.slice AP n cP) := (nb.cell (p := ⟨ob, k, none⟩) (by obtain ⟨b', c', e, hlt'⟩ := hu.out.shape; injection e with e1; injection e1 with e1; injection e1 with e1; show ob < _; rw [e1]; exact hlt')).trans hpc
      obtain ⟨A2, c2, rfl, ns⟩ := nr.seen
      have hnl : (namedL L P).length = n := by rw [namedL_length]; exact HN.out.symm
      have HC1 := Lib.hid (specCode_seen A2 c2 (namedL L P) (named_graph HL.out HPL.out) w2 ns)
      have HC2 := Lib.hid (specCode_seen A' c' M HMM.out w2 (S2.out.below (hnb.mono (by have := ES.out; omega))))
      rw [hnl] at HC1 ⊢
      rw [← HM.out] at HC2
      have HNB := Lib.hid hnb
      have HU2 := Lib.hid (hu.out.below nb)
      have HPR2 := Lib.hid (hpr'.out.below nb)
      clear nr nb hnb ns hnl
      obtain ⟨x, ex⟩ : ∃ x, x = codeOf (namedL L P) := ⟨_, rfl⟩
      obtain ⟨y, ey⟩ : ∃ y, y = codeOf M := ⟨_, rfl⟩
      rw [← ex] at HC1
      rw [← ey] at HC2
      have hok : okC L M P = (x == y) := by unfold okC; rw [ex, ey]
      have HOK := Lib.hid hok
      clear ex ey hok
      go_wp2_with fail
      refine HC1.out.mono ?_
      rintro e w3 ⟨rfl, rfl⟩
      go_wp2_with fail
      refine HC2.out.mono ?_
      rintro e w3 ⟨rfl, rfl⟩
      have hxy : ((x : Int) == (y : Int)) = (x == y) := by rw [Bool.eq_iff_iff]; simp; omega
      have hok : okC L M (R[k]?.getD []) = (x == y) := by rw [← EP.out]; exact HOK.out
      obtain ⟨b, eb⟩ : ∃ b, b = (x == y) := ⟨_, rfl⟩
      rw [← eb] at hxy hok
      clear eb
      have HK := Lib.hid hok
      clear hok
      cases b
      · go_wp2
        go_roundw
        case rel =>
          refine ⟨k + 1, by omega, by go_num, Lib.hid (fun j hj => ?_), HNB, HU2⟩
          by_cases hjk : j < k
          · exact hno.out j hjk
          · have hje : j = k := by omega
            subst hje
            exact HK.out
        case measure => simp [intOf]; omega
      · obtain ⟨t, ht⟩ := filter_first hkR hno.out HK.out
        have HT := Lib.hid ht
        clear ht
        go_wp2
        go_ret2
        rw [HT.out]
        show Told w (ints (R[k]?.getD [])) true _ _
        rw [← EP.out]
        exact ⟨_, rfl, by rw [← ES.out]; have h0 := HPR2.out.1; rw [show (ints P).length = n by rw [ints_length, HPL.out.1]; exact HN.out.symm] at h0; exact h0, by rw [← ES.out]; exact HNB.out⟩
    · have hke : k = m := by omega
      subst hke
      go_wp2
      go_ret2
      rw [filter_none (fun j hj => hno.out j (by have := EM.out; omega))]
      exact ⟨_, rfl, by rw [← ES.out]; exact (empty_list wr).mono (by rw [ES.out]; exact hb.out.size), by rw [← ES.out]; exact hb.out.alloc (by rw [ES.out]; exact hb.out.size) _⟩
#print axioms specFirst_like
end Go.Proofs.YtcemhepojjbcgaaDoor
