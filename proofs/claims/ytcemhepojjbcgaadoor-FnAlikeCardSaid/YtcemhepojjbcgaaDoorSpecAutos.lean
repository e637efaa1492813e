/- The model's l2Autos: all names that make a graph itself. -/
import Derived.Test.YtcemhepojjbcgaaDoorBaseL
import Derived.Test.YtcemhepojjbcgaaDoorBaseE
import Derived.Test.YtcemhepojjbcgaaDoorRowsAt
namespace Go.Proofs.YtcemhepojjbcgaaDoor
open Go Go.RowKit
set_option linter.unusedVariables false
set_option maxRecDepth 100000

/-- The automorphisms, in order. -/
def autosL (L : List Int) : List (List Nat) := (permsTo L.length L.length).filter (okC L L)
theorem autos_eq {L : List Int} (hL : IsGraph L) : likeL L L = autosL L := likeL_codes hL hL rfl
theorem autos_length {L : List Int} (hL : IsGraph L) : (autosL L).length ≤ 46656 := Nat.le_trans (List.length_filter_le _ _) (perms_length _ _ hL.2.1 hL.2.1)
theorem filter_take {p : List Nat → Bool} {R : List (List Nat)} {k : Nat} (hk : k < R.length) : (R.take (k + 1)).filter p = (R.take k).filter p ++ (if p (R[k]?.getD []) = true then [R[k]?.getD []] else []) := by
  rw [List.take_succ_eq_append_getElem hk, List.filter_append, List.getElem?_eq_getElem hk]
  simp only [Option.getD_some, List.filter_cons, List.filter_nil]

set_option maxHeartbeats 4000000 in
theorem specAutos_seen (A : Option Addr) (c : Nat) (L : List Int) (hL : IsGraph L) (w : World) (s1 : Seen w A L) :
    Calls Tryd.prog 81 #[.slice A L.length c] w fun e w' => ∃ v, e = .returned v ∧ Row2 w' w.heap.size v (autosL L) ∧ Below w.heap.size w w' := by
  unfold autosL
  have h1 := hL.1
  have h6 := hL.2.1
  obtain ⟨n, hn⟩ : ∃ n, n = L.length := ⟨_, rfl⟩
  rw [← hn] at h1 h6 ⊢
  have HN := Lib.hid hn
  have HL := Lib.hid hL
  have S1 := Lib.hid s1
  obtain ⟨R, eR⟩ : ∃ R, R = permsTo n n := ⟨_, rfl⟩
  have hRn := perms_names n n
  have hPA := perms_any n h1 h6
  have hRl := perms_length n n h6 h6
  rw [← eR] at hRn hPA hRl ⊢
  have HRN := Lib.hid hRn
  have HPA := Lib.hid hPA
  have R1 : Hid (Row2 (w.alloc (.cells #[] 23)) w.heap.size (.slice (some ⟨w.heap.size, 0, none⟩) 0 0) ((R.take 0).filter (okC L L))) := Lib.hid (by
    exact ⟨[], World.ownsRow_lit (base := w.heap.size) (e := 23) (size := 1) w #[] 0 (Nat.le_refl _) (by unfold maxLen; omega) rfl, by simp, fun k hk => absurd hk (by simp)⟩)
  have B1 := Lib.hid ((Below.refl w.heap.size w).alloc (Nat.le_refl _) (.cells #[] 23))
  clear hL hn s1 eR hRn hPA
  go_enter Tryd.func81, Tryd.ntmps81
  go_wp2_with fail
  refine (HPA.out _).mono ?_
  rintro e w1 ⟨u, rfl, hu, hb⟩
  have hu0 := hu
  have hu : Row2 w1 w.heap.size u R := hu.mono (by simp)
  have hb' : Below w.heap.size w w1 := B1.out.trans (hb.mono (by simp))
  have ho : Row2 w1 w.heap.size (.slice (some ⟨w.heap.size, 0, none⟩) 0 0) ((R.take 0).filter (okC L L)) := R1.out.below hb
  have hb := hb'
  have hou := hu0
  obtain ⟨ob, oc, rfl, hob⟩ := hu.shape
  have hne : w.heap.size < ob := by
    obtain ⟨vs, h1', _⟩ := hou
    rcases h1'.2 with ⟨h3, _⟩ | ⟨g, cap, cur, h3, h4, _⟩
    · cases h3
    · injection h3 with e1; injection e1 with e1; injection e1 with e1; subst e1; rw [World.size_alloc] at h4; omega
  obtain ⟨m, em⟩ : ∃ m, m = R.length := ⟨_, rfl⟩
  rw [← em] at hu ⊢
  have hml : m ≤ 46656 := by omega
  have EM := Lib.hid em
  have HU := Lib.hid hu
  have HB := Lib.hid hb
  have HO := Lib.hid ho
  have HOB := Lib.hid (show (Value.slice (some ⟨w.heap.size, 0, none⟩) 0 0).ownBlock ≠ some ob ∧ ob < w1.heap.size from ⟨fun e => by have e2 : some w.heap.size = some ob := e; injection e2; omega, hob⟩)
  obtain ⟨s, es⟩ : ∃ s, s = w.heap.size := ⟨_, rfl⟩
  rw [← es] at HU HB HO HOB ⊢
  have ES := Lib.hid es
  clear hu hu0 hou hob hne hb hb' ho em es HPA hRl R1 B1
  go_wp2
  go_loopw [3, 5] (fun o i wr => ∃ k : Nat, k ≤ m ∧ i = .int .i64 k ∧ Hid (Row2 wr s o ((R.take k).filter (okC L L))) ∧ Hid (Below s w wr) ∧ Hid (Row2 wr s (.slice (some ⟨ob, 0, none⟩) m oc) R) ∧ Hid (o.ownBlock ≠ some ob ∧ ob < wr.heap.size)) (fun _ i _ => m - (intOf i).toNat)
  case atStart => exact ⟨0, Nat.zero_le _, rfl, HO, HB, HU, HOB⟩
  case round =>
    obtain ⟨k, hk, rfl, ho, hb, hu, hob⟩ := hrel
    by_cases hlt : k < m
    · have hkR : k < R.length := by have := EM.out; omega
      obtain ⟨pv, hpc, hpr⟩ := Row2.at (by have h0 := hu.out; rw [EM.out] at h0; exact h0) hkR
      obtain ⟨P, eP⟩ : ∃ P, P = R[k]?.getD [] := ⟨_, rfl⟩
      have hPm : P ∈ R := by rw [eP, List.getElem?_eq_getElem hkR]; exact List.getElem_mem _
      have hPn := HRN.out P hPm
      rw [← eP] at hpr
      obtain ⟨AP, cP, rfl, sP⟩ := hpr.1.seen
      have hPl : (ints P).length = n := by rw [ints_length]; exact hPn.1
      have hPL : Names L.length L.length P := by rw [← HN.out]; exact hPn
      have HNM := Lib.hid (specNamed_seen A AP c cP L (ints P) HL.out (names_is hPL) wr (S1.out.below (hb.out.mono (by have := ES.out; omega))) sP)
      rw [← HN.out, hPl] at HNM
      rw [hPl] at hpc
      have hpr' := Lib.hid hpr
      have HPL := Lib.hid hPL
      have EP := Lib.hid eP
      have hjm : (0 : Int) ≤ (k : Int) ∧ (k : Int) < (m : Int) := by omega
      clear hPm hPn hPL sP eP hpr hPl
      go_wp2_with fail
      refine HNM.out.mono ?_
      rintro e w2 ⟨nv, rfl, nr, nb⟩
      have hnb : Below s w w2 := hb.out.trans (nb.mono (by rw [ES.out]; exact hb.out.size))
      have nr : Row w2 wr.heap.size nv (namedL L P) := by unfold namedL; rw [← HN.out]; exact nr
      have hpc2 : w2.cell? ⟨ob, k, none⟩ = some (.slice AP n cP) := (nb.cell (p := ⟨ob, k, none⟩) (by obtain ⟨b', c', e, hlt'⟩ := hu.out.shape; injection e with e1; injection e1 with e1; injection e1 with e1; show ob < _; rw [e1]; exact hlt')).trans hpc
      obtain ⟨A2, c2, rfl, ns⟩ := nr.seen
      have hnl : (namedL L P).length = n := by rw [namedL_length]; exact HN.out.symm
      have HC1 := Lib.hid (specCode_seen A2 c2 (namedL L P) (named_graph HL.out HPL.out) w2 ns)
      have HC2 := Lib.hid (specCode_seen A c L HL.out w2 (S1.out.below (hnb.mono (by have := ES.out; omega))))
      rw [hnl] at HC1 ⊢
      rw [← HN.out] at HC2
      have HNB := Lib.hid hnb
      have HU2 := Lib.hid (hu.out.below nb)
      have HO2 := Lib.hid (ho.out.below nb)
      have HOB2 := Lib.hid (show u3.ownBlock ≠ some ob ∧ ob < w2.heap.size from ⟨hob.out.1, Nat.lt_of_lt_of_le hob.out.2 nb.size⟩)
      have HPR2 := Lib.hid (hpr'.out.below nb)
      clear nr nb hnb ns hnl
      obtain ⟨x, ex⟩ : ∃ x, x = codeOf (namedL L P) := ⟨_, rfl⟩
      obtain ⟨y, ey⟩ : ∃ y, y = codeOf L := ⟨_, rfl⟩
      rw [← ex] at HC1
      rw [← ey] at HC2
      have hok : okC L L P = (x == y) := by unfold okC; rw [ex, ey]
      have HOK := Lib.hid hok
      clear ex ey hok
      go_wp2_with fail
      refine HC1.out.mono ?_
      rintro e w3 ⟨rfl, rfl⟩
      go_wp2_with fail
      refine HC2.out.mono ?_
      rintro e w3 ⟨rfl, rfl⟩
      have hxy : ((x : Int) == (y : Int)) = (x == y) := by rw [Bool.eq_iff_iff]; simp; omega
      have hok : okC L L (R[k]?.getD []) = (x == y) := by rw [← EP.out]; exact HOK.out
      obtain ⟨b, eb⟩ : ∃ b, b = (x == y) := ⟨_, rfl⟩
      rw [← eb] at hxy hok
      clear eb
      have HK := Lib.hid hok
      clear hok
      have hft := filter_take (p := okC L L) hkR
      rw [HK.out] at hft
      have HFT := Lib.hid hft
      clear hft
      cases b
      · go_wp2
        go_roundw
        case rel => exact ⟨k + 1, by omega, by go_num, Lib.hid (by rw [HFT.out]; simpa using HO2.out), HNB, HU2, HOB2⟩
        case measure => simp [intOf]; omega
      · go_wp2_with (at_builtin; refine app_rows_at rfl (.tmp 26) (.tmp 31) rfl w2 s u3 (.slice AP n cP) ((R.take k).filter (okC L L)) (R[k]?.getD []) rfl rfl HO2.out (by rw [← EP.out]; have h0 := HPR2.out; rw [show (ints P).length = n by rw [ints_length, HPL.out.1]; exact HN.out.symm] at h0; exact h0) (by rw [ES.out]; exact HNB.out.size) (by have h0 := List.length_filter_le (okC L L) (R.take k); rw [List.length_take] at h0; omega) ?_; intro v3 w3 hv3 hb3 hg3 hat3
                     have HV3 := Lib.hid hv3
                     have BV3 := Lib.hid (HNB.out.trans hb3)
                     have HU3 := Lib.hid (Row2.kept HU2.out HOB2.out.1 (by
                       obtain ⟨vs, h4, h5, _⟩ := HO2.out
                       rcases h4.2 with ⟨h6, _⟩ | ⟨g, cap, cur, h6, _, h7, _⟩
                       · exact absurd h6 h5
                       · exact .inr ⟨g, cur, by rw [h6]; rfl, h7⟩) hg3)
                     have HOB3 := Lib.hid (show v3.ownBlock ≠ some ob ∧ ob < w3.heap.size from ⟨fun e => by
                       rcases hat3 with h4 | ⟨g, h4, h5⟩
                       · exact HOB2.out.1 (h4.symm.trans e)
                       · rw [h4] at e; injection e with e; have := HOB2.out.2; omega, Nat.lt_of_lt_of_le HOB2.out.2 hb3.size⟩)
                     clear hv3 hb3 hg3 hat3)
        go_roundw
        case rel => exact ⟨k + 1, by omega, by go_num, Lib.hid (by rw [HFT.out]; simpa using HV3.out), BV3, HU3, HOB3⟩
        case measure => simp [intOf]; omega
    · have hke : k = m := by omega
      subst hke
      have HT : Hid (R.take k = R) := Lib.hid (by rw [EM.out]; exact List.take_length)
      go_wp2
      go_ret
      have h0 := ho.out
      rw [HT.out] at h0
      exact ⟨_, rfl, by rw [← ES.out]; exact h0, by rw [← ES.out]; exact hb.out⟩
#print axioms specAutos_seen
end Go.Proofs.YtcemhepojjbcgaaDoor
