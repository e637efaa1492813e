/- The model's l7Best: all names tried, the first ones that come nearest kept. -/
import Derived.Test.YtamabhdbcmjbjaaDoorNearMath
import Derived.Test.YtamabhdbcmjbjaaDoorPerms
import Derived.Test.YtamabhdbcmjbjaaDoorBaseA
import Derived.Test.YtamabhdbcmjbjaaDoorBaseG
namespace Go.Proofs.YtamabhdbcmjbjaaDoor
open Go Go.RowKit
set_option linter.unusedVariables false
set_option maxRecDepth 100000

/-- What the search has found behind k names: the place of the best ones, and their distance. -/
def Bst (L M : List Int) (R : List (List Nat)) (k b le : Nat) : Prop :=
  (k = 0 ∧ b = 0 ∧ le = 100) ∨ (0 < k ∧ b < R.length ∧ R[b]?.getD [] = nearTo L M (List.range L.length) (R.take k) ∧ le = unlike L M (nearTo L M (List.range L.length) (R.take k)))
theorem bst_step {L M : List Int} {R : List (List Nat)} {k b le : Nat} (hR0 : R.head? = some (List.range L.length)) (hk : k < R.length) (h6 : ∀ P ∈ R, P.length ≤ 6) (h : Bst L M R k b le) :
    Bst L M R (k + 1) (if unlike L M (R[k]?.getD []) < le then k else b) (if unlike L M (R[k]?.getD []) < le then unlike L M (R[k]?.getD []) else le) := by
  have hPk : R[k]?.getD [] = R[k] := by rw [List.getElem?_eq_getElem hk]; rfl
  have hst : nearTo L M (List.range L.length) (R.take (k + 1)) = if unlike L M R[k] < unlike L M (nearTo L M (List.range L.length) (R.take k)) then R[k] else nearTo L M (List.range L.length) (R.take k) := by
    rw [List.take_succ_eq_append_getElem hk, nearTo_append, nearTo_one]
  rw [hPk]
  rcases h with ⟨rfl, rfl, rfl⟩ | ⟨h0, hb, e1, e2⟩
  · have hd := unlike_small L M R[0] (h6 _ (List.getElem_mem _))
    have h0 : R[0] = List.range L.length := by
      rw [List.head?_eq_getElem?, List.getElem?_eq_getElem hk] at hR0
      exact Option.some.inj hR0
    rw [if_pos (by omega), if_pos (by omega)]
    have hn : nearTo L M (List.range L.length) (R.take (0 + 1)) = List.range L.length := by
      rw [hst, h0]
      simp [nearTo]
    exact .inr ⟨by omega, hk, by rw [hPk, hn, h0], by rw [hn, h0]⟩
  · rw [e2]
    by_cases hc : unlike L M R[k] < unlike L M (nearTo L M (List.range L.length) (R.take k))
    · rw [if_pos hc, if_pos hc]
      rw [if_pos hc] at hst
      exact .inr ⟨by omega, hk, by rw [hst, hPk], by rw [hst]⟩
    · rw [if_neg hc, if_neg hc]
      rw [if_neg hc] at hst
      exact .inr ⟨by omega, hb, by rw [hst]; exact e1, by rw [hst]⟩
theorem bst_end {L M : List Int} {b le : Nat} (hm : 0 < (permsTo L.length L.length).length) (h : Bst L M (permsTo L.length L.length) (permsTo L.length L.length).length b le) :
    b < (permsTo L.length L.length).length ∧ (permsTo L.length L.length)[b]?.getD [] = nearN L M ∧ le = unlike L M (nearN L M) := by
  rcases h with ⟨h0, _⟩ | ⟨_, h1, h2, h3⟩
  · omega
  · rw [List.take_length] at h2 h3
    exact ⟨h1, h2, h3⟩
theorem bst_small {L M : List Int} {R : List (List Nat)} {k b le : Nat} (h6 : ∀ P ∈ R, P.length ≤ 6) (hL : L.length ≤ 6) (h : Bst L M R k b le) : le ≤ 100 ∧ (b < R.length ∨ b = 0) := by
  rcases h with ⟨_, rfl, rfl⟩ | ⟨_, h1, h2, rfl⟩
  · exact ⟨Nat.le_refl _, .inr rfl⟩
  · have hm := nearTo_mem L M (List.range L.length) (R.take k)
    have := unlike_small L M (nearTo L M (List.range L.length) (R.take k)) (by
      rcases hm with h | h
      · rw [h, List.length_range]; exact hL
      · exact h6 _ (List.mem_of_mem_take h))
    exact ⟨by omega, .inl h1⟩

/-- Names and their distance. -/
def GaveS2 (w : World) (P : List Nat) (d : Nat) (e : Ending) (w' : World) : Prop := ∃ v, e = .returned (.tuple #[v, .int .i64 (d : Nat)]) ∧ Row w' w.heap.size v (ints P) ∧ Below w.heap.size w w'

set_option maxHeartbeats 8000000 in
theorem specBest_seen (A A' : Option Addr) (c c' : Nat) (L M : List Int) (hL : IsGraph L) (hM : IsGraph M) (hlm : L.length = M.length) (w : World) (s1 : Seen w A L) (s2 : Seen w A' M) :
    Calls Tryd.prog 43 #[.slice A L.length c, .slice A' M.length c'] w (GaveS2 w (nearN L M) (unlike L M (nearN L M))) := by
  have h1 := hL.1
  have h6 := hL.2.1
  obtain ⟨n, hn⟩ : ∃ n, n = L.length := ⟨_, rfl⟩
  have hm : n = M.length := hn.trans hlm
  have hend := fun b le (h : Bst L M (permsTo n n) (permsTo n n).length b le) (h0 : 0 < (permsTo n n).length) => bst_end (L := L) (M := M) (b := b) (le := le) (by rw [← hn]; exact h0) (by rw [← hn]; exact h)
  rw [← hn] at hend
  rw [← hm, ← hn]
  rw [← hn] at h1 h6
  have HN := Lib.hid hn
  have HM := Lib.hid hm
  have HL := Lib.hid hL
  have HMM := Lib.hid hM
  have HLM := Lib.hid hlm
  have S1 := Lib.hid s1
  have S2 := Lib.hid s2
  obtain ⟨R, eR⟩ : ∃ R, R = permsTo n n := ⟨_, rfl⟩
  have hRn := perms_names n n
  have hPA := perms_any n h1 h6
  have hRl := perms_length n n h6 h6
  have hhd := perms_head ⟨n, by omega⟩
  dsimp only at hhd
  rw [← eR] at hRn hPA hRl hhd hend
  have hhd2 : R.head? = some (List.range L.length) := by rw [hhd, hn]
  have h0m : 0 < R.length := by
    cases R with
    | nil => simp at hhd
    | cons x R => simp
  have hR6 : ∀ P ∈ R, P.length ≤ 6 := fun P hP => by have := (hRn P hP).1; omega
  have HRN := Lib.hid hRn
  have HPA := Lib.hid hPA
  have HHD := Lib.hid hhd2
  have HR6 := Lib.hid hR6
  have HEND := Lib.hid hend
  clear hL hM hlm hn hm s1 s2 eR hRn hPA hhd hhd2 hR6 hend
  go_enter Tryd.func43, Tryd.ntmps43
  go_wp2_with fail
  refine (HPA.out _).mono ?_
  rintro e w1 ⟨u, rfl, hu, hb⟩
  obtain ⟨ob, oc, rfl, hob⟩ := hu.shape
  obtain ⟨m, em⟩ : ∃ m, m = R.length := ⟨_, rfl⟩
  rw [← em] at hu h0m HEND ⊢
  have hml : m ≤ 46656 := by omega
  have EM := Lib.hid em
  have HU := Lib.hid hu
  have HB := Lib.hid hb
  obtain ⟨s, es⟩ : ∃ s, s = w.heap.size := ⟨_, rfl⟩
  rw [← es] at HU HB
  have ES := Lib.hid es
  clear hu hb em es HPA hRl
  go_wp2
  go_loopw [7, 8, 9] (fun bb ll i wr => ∃ k b le : Nat, k ≤ m ∧ i = .int .i64 k ∧ bb = .int .i64 b ∧ ll = .int .i64 le ∧ Hid (Bst L M R k b le) ∧ Hid (Below s w wr) ∧ Hid (Row2 wr s (.slice (some ⟨ob, 0, none⟩) m oc) R)) (fun _ _ i _ => m - (intOf i).toNat)
  case atStart => exact ⟨0, 0, 100, Nat.zero_le _, rfl, rfl, rfl, Lib.hid (.inl ⟨rfl, rfl, rfl⟩), HB, HU⟩
  case round =>
    obtain ⟨k, b, le, hk, rfl, rfl, rfl, hbs, hb, hu⟩ := hrel
    by_cases hlt : k < m
    · have hkR : k < R.length := by have := EM.out; omega
      obtain ⟨pv, hpc, hpr⟩ := Row2.at (by have h0 := hu.out; rw [EM.out] at h0; exact h0) hkR
      have hstep := bst_step HHD.out hkR HR6.out hbs.out
      have hle := (bst_small HR6.out (by rw [← HN.out]; exact h6) hbs.out).1
      obtain ⟨P, eP⟩ : ∃ P, P = R[k]?.getD [] := ⟨_, rfl⟩
      have hPm : P ∈ R := by rw [eP, List.getElem?_eq_getElem hkR]; exact List.getElem_mem _
      have hPn := HRN.out P hPm
      rw [← eP] at hpr hstep
      obtain ⟨AP, cP, rfl, sP⟩ := hpr.1.seen
      have hPl : (ints P).length = n := by rw [ints_length]; exact hPn.1
      have hPL : Names L.length L.length P := by rw [← HN.out]; exact hPn
      have HNM := Lib.hid (specNamed_seen A AP c cP L (ints P) HL.out (names_is hPL) wr (S1.out.below (hb.out.mono (by have := ES.out; omega))) sP)
      have huc := unlike_code HL.out HMM.out HLM.out hPL
      rw [← HN.out, hPl] at HNM
      rw [hPl] at hpc
      have HPL := Lib.hid hPL
      have HSTEP := Lib.hid hstep
      have HUC := Lib.hid huc
      have hjm : (0 : Int) ≤ (k : Int) ∧ (k : Int) < (m : Int) := by omega
      clear hPm hPn hPL sP eP hpr hPl hstep huc hbs
      go_wp2_with fail
      refine HNM.out.mono ?_
      rintro e w2 ⟨nv, rfl, nr, nb⟩
      have hnb : Below s w w2 := hb.out.trans (nb.mono (by rw [ES.out]; exact hb.out.size))
      have nr : Row w2 wr.heap.size nv (namedL L P) := by unfold namedL; rw [← HN.out]; exact nr
      obtain ⟨A2, c2, rfl, ns⟩ := nr.seen
      have hnl : (namedL L P).length = n := by rw [namedL_length]; exact HN.out.symm
      have HC1 := Lib.hid (specCode_seen A2 c2 (namedL L P) (named_graph HL.out HPL.out) w2 ns)
      have HC2 := Lib.hid (specCode_seen A' c' M HMM.out w2 (S2.out.below (hnb.mono (by have := ES.out; omega))))
      rw [hnl] at HC1 ⊢
      rw [← HM.out] at HC2
      have HNB := Lib.hid hnb
      have HU2 := Lib.hid (hu.out.below nb)
      have hx15 : codeOf (namedL L P) < 32768 := crun_small _ _ (rows_length _ (by rw [hnl]; exact h6))
      have hy15 : codeOf M < 32768 := crun_small _ _ (rows_length _ (by rw [← HM.out]; exact h6))
      clear nr nb hnb ns hnl hu
      obtain ⟨x, ex⟩ : ∃ x, x = codeOf (namedL L P) := ⟨_, rfl⟩
      obtain ⟨y, ey⟩ : ∃ y, y = codeOf M := ⟨_, rfl⟩
      rw [← ex] at HC1 HUC hx15
      rw [← ey] at HC2 HUC hy15
      have hxor := i64_xor_nat x y (Nat.lt_trans hx15 (by decide)) (Nat.lt_trans hy15 (by decide))
      have hz15 : x ^^^ y < 32768 := Nat.xor_lt_two_pow (n := 15) hx15 hy15
      obtain ⟨z, ez⟩ : ∃ z, z = x ^^^ y := ⟨_, rfl⟩
      rw [← ez] at hxor hz15 HUC
      have HSZ := Lib.hid (fun w => size_code z hz15 w)
      rw [HUC.out] at HSZ
      obtain ⟨d, ed⟩ : ∃ d, d = unlike L M P := ⟨_, rfl⟩
      rw [← ed] at HSZ HSTEP
      clear ex ey ez ed hx15 hy15 hz15 HUC
      go_wp2_with fail
      refine HC1.out.mono ?_
      rintro e w3 ⟨rfl, rfl⟩
      go_wp2_with fail
      refine HC2.out.mono ?_
      rintro e w3 ⟨rfl, rfl⟩
      go_wp2_with fail
      refine (HSZ.out _).mono ?_
      rintro e w3 ⟨rfl, rfl⟩
      by_cases hdl : d < le
      · have hd1 : decide ((d : Int) < (le : Int)) = true := by simp; omega
        have hs2 := Lib.hid (show Bst L M R (k + 1) k d by have h := HSTEP.out; rw [if_pos hdl, if_pos hdl] at h; exact h)
        clear HSTEP
        go_wp2
        go_roundw
        case rel => exact ⟨k + 1, k, d, by omega, by go_num, rfl, rfl, hs2, HNB, HU2⟩
        case measure => simp [intOf]; omega
      · have hd1 : decide ((d : Int) < (le : Int)) = false := by simp; omega
        have hs2 := Lib.hid (show Bst L M R (k + 1) b le by have h := HSTEP.out; rw [if_neg hdl, if_neg hdl] at h; exact h)
        clear HSTEP
        go_wp2
        go_roundw
        case rel => exact ⟨k + 1, b, le, by omega, by go_num, rfl, rfl, hs2, HNB, HU2⟩
        case measure => simp [intOf]; omega
    · have hke : k = m := by omega
      subst hke
      obtain ⟨hbl, hbe, hle⟩ := HEND.out b le hbs.out h0m
      have hbR : b < R.length := by have := EM.out; omega
      obtain ⟨pv, hpc, hpr⟩ := Row2.at (by have h0 := hu.out; rw [EM.out] at h0; exact h0) hbR
      rw [hbe] at hpr
      obtain ⟨AP, cP, rfl, sP⟩ := hpr.1.seen
      have hjm : (0 : Int) ≤ (b : Int) ∧ (b : Int) < (k : Int) := by omega
      have HPR := Lib.hid hpr
      clear hpr sP hbs hu
      go_wp2
      go_ret2
      refine ⟨.slice AP (ints (nearN L M)).length cP, ?_, by rw [← ES.out]; exact HPR.out.1, by rw [← ES.out]; exact hb.out⟩
      rw [← hle]
      rfl
end Go.Proofs.YtamabhdbcmjbjaaDoor
