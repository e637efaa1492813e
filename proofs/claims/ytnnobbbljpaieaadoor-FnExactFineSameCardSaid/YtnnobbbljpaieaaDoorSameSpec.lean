/- The model's FineSame: both graphs refined together. -/
import Derived.Deep.RegionWith
import Derived.Test.YtnnobbbljpaieaaDoorJoinNet
import Derived.Test.YtnnobbbljpaieaaDoorSameDef
import Derived.Test.YtnnobbbljpaieaaDoorRowsZAt
import Derived.Test.YtnnobbbljpaieaaDoorNear
import Derived.Test.YtnnobbbljpaieaaDoorPlainZero
import Derived.Test.YtnnobbbljpaieaaDoorBaseA
import Derived.Test.YtnnobbbljpaieaaDoorHalves
import Derived.Test.YtnnobbbljpaieaaDoorL3Equal
namespace Go.Proofs.YtnnobbbljpaieaaDoor
open Go Go.RowKit
set_option linter.unusedVariables false
set_option maxRecDepth 100000

/-- The first j numbers of a row, raised. -/
theorem raise_succ (n : Nat) (K : List Int) (j : Nat) (h : j < K.length) (x : Int) (hx : K[j]?.getD 0 = x) : ((K.take (j + 1)).map fun x => x + (n : Int)) = ((K.take j).map fun x => x + (n : Int)) ++ [x + (n : Int)] := by
  rw [List.take_succ_eq_append_getElem h, List.map_append]
  rw [List.getElem?_eq_getElem h] at hx
  simp at hx
  rw [hx]
  rfl

set_option maxHeartbeats 4000000 in
theorem specSame_both (B B' : Nat) (v v' : Value) (L M : List Int) (hL : IsGraph L) (hM : IsGraph M) (hl : L.length = M.length)
    (hend : ∀ (An Az : Option Addr) (cn cz : Nat) (W : World), NearSeen W An (nearL (joinL L M) (L.length + M.length)) → Seen W Az (zeros (L.length + M.length)) → Calls Tryd.prog 13 #[.slice An (L.length + M.length) cn, .slice Az (L.length + M.length) cz] W (Gave W (endJ L M)))
    (w : World) (h : Row w B v L) (h' : Row w B' v' M) :
    Calls Tryd.prog 5 #[v, v'] w (Said1 w (sameC L M)) := by
  have l1 := hL.2.1
  have g1 := hL.1
  have H1 := Lib.hid (specIn_any B v L true ⟨fun _ => hL, fun _ => rfl⟩ w h)
  have H2 := Lib.hid (fun w h => specIn_any B' v' M true ⟨fun _ => hM, fun _ => rfl⟩ w h)
  have hrow2 := Lib.hid h'
  obtain ⟨A, c, rfl, s1⟩ := h.seen
  obtain ⟨A', c', rfl, s2⟩ := h'.seen
  have N1 := Lib.hid (fun w hs => specNear_seen A c L (net_of hL) w hs)
  have N2 := Lib.hid (fun w hs => specNear_seen A' c' M (net_of hM) w hs)
  have NE := Lib.hid (near_of (net_of hM))
  have HJ := Lib.hid (near_join hL hM)
  have HE := Lib.hid hend
  have HEL := Lib.hid (endJ_length L M)
  have S1 := Lib.hid s1
  have S2 := Lib.hid s2
  unfold sameC
  obtain ⟨E, eE⟩ : ∃ E, E = endJ L M := ⟨_, rfl⟩
  rw [← eE] at HE HEL ⊢
  obtain ⟨n, hn⟩ : ∃ n, n = L.length := ⟨_, rfl⟩
  rw [← hn] at l1 g1 hl H1 N1 HJ HE HEL ⊢
  rw [← hl] at H2 N2 HJ HE HEL NE ⊢
  have HN := Lib.hid hn
  have HMM := Lib.hid hl
  obtain ⟨N, eN⟩ : ∃ N, N = n + n := ⟨_, rfl⟩
  rw [← eN] at HJ HE HEL
  have EN := Lib.hid eN
  have hN12 : N ≤ 12 := by omega
  have hne : ((n : Int) != (n : Int)) = false := by simp
  clear hL hM h h' s1 s2 hn hl eE hend eN
  go_enter Tryd.func5, Tryd.ntmps5
  go_wp2_with fail
  refine H1.out.mono ?_
  rintro e w1 ⟨rfl, d, rfl⟩
  go_wp2_with fail
  refine (H2.out (w.drewN d) (by rw [HMM.out]; exact hrow2.out)).mono ?_
  rintro e w2 ⟨rfl, d2, rfl⟩
  obtain ⟨w0, e0⟩ : ∃ w0, w0 = (w.drewN d).drewN d2 := ⟨_, rfl⟩
  have B0 : Below w.heap.size w w0 := by rw [e0]; exact below_drewN (below_drewN (Below.refl _ w) d) d2
  have hz0 : w0.heap.size = w.heap.size := by rw [e0]; rfl
  rw [← e0]
  clear e0
  go_wp2_with fail
  refine (N1.out w0 (S1.out.below B0)).mono ?_
  rintro e w1 ⟨nv, rfl, hr1, hb1⟩
  have B1 : Below w.heap.size w w1 := B0.trans (hb1.mono (by omega))
  go_wp2_with fail
  refine (N2.out w1 (S2.out.below B1)).mono ?_
  rintro e w2 ⟨mv, rfl, hr2, hb2⟩
  have B2 : Below w.heap.size w w2 := B1.trans (hb2.mono B1.size)
  have z2 := hb2.size
  have z1 := B1.size
  have ho : ∀ g, nv.ownBlock = some g → g < w1.heap.size ∨ w2.heap.size ≤ g := fun g hg => by
    obtain ⟨b, cap, hv, hbl⟩ := hr1.shape
    rw [hv] at hg
    cases hg
    exact .inl hbl
  obtain ⟨b6, c6, hv6, hb6⟩ := hr2.shape
  subst hv6
  rw [nearL_length] at hr2 ⊢
  have hq1 : Row2Z w2 w.heap.size nv (nearL L n ++ raised n (nearL M 0)) := by
    show Row2Z w2 w.heap.size nv (nearL L n ++ [])
    rw [List.append_nil]
    rw [hz0] at hr1
    exact hr1.below hb2
  have RN := Lib.hid hq1
  have RM := Lib.hid hr2
  have BB2 := Lib.hid B2
  have OO := Lib.hid ho
  have ZZ2 := Lib.hid z2
  have ZZ1 := Lib.hid z1
  clear B0 hz0 hr1 hb1 B1 hr2 hb2 B2 ho hq1 z2 z1 hb6
  go_wp2
  go_loopw [5, 7] (fun o i wr => ∃ k : Nat, k ≤ n ∧ i = .int .i64 k ∧ Hid (Row2Z wr w.heap.size o (nearL L n ++ raised n (nearL M k))) ∧ Hid (Below w.heap.size w wr) ∧ Hid (Still w1.heap.size w2.heap.size w2 wr) ∧ Hid (∀ g, o.ownBlock = some g → g < w1.heap.size ∨ w2.heap.size ≤ g) ∧ Hid (w2.heap.size ≤ wr.heap.size)) (fun _ i _ => n - (intOf i).toNat)
  case atStart => exact ⟨0, Nat.zero_le _, rfl, RN, BB2, Lib.hid (Still.refl _ _ _), OO, Lib.hid (Nat.le_refl _)⟩
  case round =>
    clear RN BB2 OO
    obtain ⟨k, hk, rfl, hr, hb, hst, ho, hz⟩ := hrel
    have hns : NearSeen wr (some ⟨b6, 0, none⟩) (nearL M n) := near_stillA RM.out hst.out
    have hnl : (nearL M n).length = n := nearL_length M n
    by_cases hlt : k < n
    · obtain ⟨blk, off, An, cn, hA6, hbl, hcn, hsn⟩ := hns k (by omega)
      cases hA6
      have hnk := NE.out.2 k (by omega)
      obtain ⟨K, eK⟩ : ∃ K, K = (nearL M n)[k]?.getD [] := ⟨_, rfl⟩
      rw [← eK] at hcn hsn hnk
      obtain ⟨p, ep⟩ : ∃ p, p = K.length := ⟨_, rfl⟩
      rw [← ep] at hcn hnk
      rw [hnl] at hnk
      have hp12 := hnk.1
      have hi1 : (0 : Int) ≤ (k : Int) ∧ (k : Int) < (n : Int) := by omega
      have HSN := Lib.hid hsn
      have HK := Lib.hid eK
      have HPL := Lib.hid ep
      have HNK := Lib.hid hnk.2
      have R1 : Hid (RowS (wr.alloc (.cells #[] 3)) wr.heap.size (.slice (some ⟨wr.heap.size, 0, none⟩) 0 0) ((K.take 0).map fun x => x + (n : Int))) := Lib.hid (rowS_new wr)
      have B1 := Lib.hid ((Below.refl wr.heap.size wr).alloc (Nat.le_refl _) (.cells #[] 3))
      clear eK hsn hnk ep hns
      obtain ⟨wo, rfl⟩ : ∃ wo : World, wo = wr := ⟨_, rfl⟩
      rw [Nat.zero_add] at hcn
      go_wp2
      go_loopw [8, 9] (fun o i wr => ∃ j : Nat, j ≤ p ∧ i = .int .i64 j ∧ Hid (RowS wr wo.heap.size o ((K.take j).map fun x => x + (n : Int))) ∧ Hid (Below wo.heap.size wo wr)) (fun _ i _ => p - (intOf i).toNat)
      case atStart => exact ⟨0, Nat.zero_le _, rfl, R1, B1⟩
      case round =>
        clear R1 B1
        obtain ⟨j, hj, rfl, hr1, hb1⟩ := hrel
        have hcw1 : wr.cell? ⟨b6, k, none⟩ = some (.slice An p cn) := (hb1.out.cell (p := ⟨b6, k, none⟩) hbl).trans hcn
        by_cases hlj : j < p
        · obtain ⟨bq, oq, rfl, hbq, hcq⟩ := (HSN.out.below hb1.out) j (by have := HPL.out; omega)
          obtain ⟨u, hu, hun⟩ := HNK.out j (by have := HPL.out; omega)
          have hst1 := raise_succ n K j (by have := HPL.out; omega) (u : Int) hu
          rw [hu] at hcq
          have hj1 : (0 : Int) ≤ (j : Int) ∧ (j : Int) < (p : Int) := by omega
          have HST := Lib.hid hst1
          have HL1 := Lib.hid (show ((K.take j).map fun x => x + (n : Int)).length ≤ 100000 by rw [List.length_map, List.length_take]; omega)
          obtain ⟨z, hz1, hz2⟩ : ∃ z : Nat, (u : Int) + (n : Int) = (z : Int) ∧ wrap64 ((u : Int) + (n : Int)) = (z : Int) := ⟨u + n, by omega, by unfold wrap64; omega⟩
          rw [hz1] at HST
          have HUN := Lib.hid hun
          clear hst1 hu hbq hun hz1
          go_wp2_with (at_builtin; refine append_oneS rfl (.tmp 46) (.tmp 57) rfl wr wo.heap.size u8 _ (z : Int) rfl rfl hr1.out hb1.out.size HL1.out ?_; intro v3 w3 hv3 hb3)
          go_roundw
          case rel => exact ⟨j + 1, by omega, by go_num, Lib.hid (by rw [HST.out]; exact hv3.out), Lib.hid (hb1.out.trans hb3.out)⟩
          case measure => simp [intOf]; omega
        · have hjp : p = j := by omega
          subst hjp
          obtain ⟨R, eR⟩ : ∃ R, R = (K.take p).map fun x => x + (n : Int) := ⟨_, rfl⟩
          rw [← eR] at hr1
          have hkk : R = K.map fun x => x + (n : Int) := by rw [eR, HPL.out, List.take_length]
          have HKK := Lib.hid hkk
          clear eR
          obtain ⟨b8, c8, e8⟩ := hr1.out.shape
          subst e8
          have hR2 : Row2Z wr w.heap.size u5 (nearL L n ++ raised n (nearL M k)) := hr.out.below hb1.out
          have HR2 := Lib.hid hR2
          have HRS := Lib.hid (hr1.out.mono hb.out.size)
          have HBW := Lib.hid (hb.out.trans (hb1.out.mono hb.out.size))
          have HST2 := Lib.hid (hst.out.low hz.out hb1.out)
          have HZ2 := Lib.hid (Nat.le_trans hz.out hb1.out.size)
          have HLk := Lib.hid (show (nearL L n ++ raised n (nearL M k)).length ≤ 1000000 by rw [List.length_append, raised_length, nearL_length, nearL_length]; omega)
          clear hR2 hr hr1 hkk
          go_wp2_with (at_builtin; refine app_rowsZ_at rfl (.tmp 59) (.tmp 61) rfl wr w.heap.size u5 _ _ _ rfl rfl HR2.out HRS.out HBW.out.size HLk.out ?_; intro v3 w3 hv3 hb3 hg3 hat3; have HV3 := Lib.hid hv3; have HB3 := Lib.hid hb3; have HG3 := Lib.hid hg3; have HAT3 := Lib.hid hat3; clear hv3 hb3 hg3 hat3)
          go_roundw
          case rel =>
            refine ⟨k + 1, by omega, by go_num, Lib.hid ?_, Lib.hid (HBW.out.trans HB3.out), Lib.hid (HST2.out.grown HZ2.out HG3.out ho.out), Lib.hid ?_, Lib.hid (Nat.le_trans HZ2.out HB3.out.size)⟩
            · have h0 := HV3.out
              rw [HKK.out, List.append_assoc] at h0
              have hget := nearL_get M (v := k) (by rw [← HMM.out]; exact hlt)
              rw [← HMM.out, ← HK.out] at hget
              rw [nearL_succ, raised_append, ← HMM.out, ← hget]
              exact h0
            · intro g hg
              rcases HAT3.out with h0 | ⟨g', h0, h1⟩
              · exact ho.out g (h0 ▸ hg)
              · have e1 : g' = g := by rw [h0] at hg; injection hg
                have h2 := HZ2.out
                exact .inr (by omega)
          case measure => simp [intOf]; omega
    · have hkn : k = n := by omega
      subst hkn
      have hr2 := hr.out
      rw [← HJ.out] at hr2
      obtain ⟨An, cn, e5, hn5⟩ := hr2.near
      rw [nearL_length] at e5
      subst e5
      have hmk := run_make_ints N (by omega) wr
      have R0 := madeW_row wr N (by omega)
      have B0 := madeW_below wr N
      obtain ⟨w3, e3⟩ : ∃ w3, w3 = madeW wr N := ⟨_, rfl⟩
      rw [← e3] at hmk R0 B0
      obtain ⟨Az, cz, ez, sz⟩ := R0.seen
      have hze : (zeros N).length = N := zeros_length N
      have haz : Az = some ⟨wr.heap.size, 0, none⟩ := by injection ez with e; exact e.symm
      subst haz
      have H3 := Lib.hid (HE.out An (some ⟨wr.heap.size, 0, none⟩) cn N w3 (hn5.below B0) sz)
      have BB3 := Lib.hid (hb.out.trans (B0.mono hb.out.size))
      clear e3 R0 B0 ez sz hn5 hr2 hr hns
      go_wp2_with fail
      refine H3.out.mono ?_
      rintro e w4 ⟨ev, rfl, he, b4⟩
      obtain ⟨ge, ce, hce, hev⟩ := row_shape (m := N - 1) he (by rw [HEL.out]; have := EN.out; omega)
      subst hev
      have eN1 : N - 1 + 1 = N := by have := EN.out; omega
      rw [eN1] at hce he ⊢
      obtain ⟨Ae, ce', hve, se⟩ := he.seen
      have e3 : Ae = some ⟨ge, 0, none⟩ := by injection hve with e; exact e.symm
      subst e3
      have s2' := Seen.drop se k
      rw [Nat.zero_add] at s2'
      have hl1 : (E.take k).length = k := by rw [List.length_take, HEL.out]; have := EN.out; omega
      have hl2 : (E.drop k).length = N - k := by rw [List.length_drop, HEL.out]
      have HS1 := Lib.hid (fun (W : World) (hb : Below w4.heap.size w4 W) => specSorted_seen (some ⟨ge, 0, none⟩) ce (E.take k) (by rw [hl1]; omega) W ((se.take k).below hb))
      have HS2 := Lib.hid (fun (W : World) (hb : Below w4.heap.size w4 W) => specSorted_seen (some ⟨ge, k, none⟩) (ce - k) (E.drop k) (by rw [hl2]; omega) W (s2'.below hb))
      rw [hl1] at HS1
      rw [hl2] at HS2
      have HQ := Lib.hid (fun (A A' : Option Addr) (c c' : Nat) (W : World) (h1 : Seen W A (sortL (E.take k))) (h2 : Seen W A' (sortL (E.drop k))) => specEq_any A A' c c' (sortL (E.take k)) (sortL (E.drop k)) W h1 h2 (by rw [sortL_length, hl1]; omega))
      have BB4 := Lib.hid (BB3.out.trans (b4.mono BB3.out.size))
      have hsl1 : (0 : Int) ≤ (k : Int) ∧ (k : Int) ≤ (ce : Int) := by have := EN.out; omega
      have hsl2 : (k : Int) ≤ (N : Int) ∧ ¬ (ce = k) := by have := EN.out; omega
      have B44 := Lib.hid (Below.refl w4.heap.size w4).drew
      clear eN1 hve se s2' he b4 hl1 hl2
      obtain ⟨X1, eX1⟩ : ∃ X1, X1 = sortL (E.take k) := ⟨_, rfl⟩
      obtain ⟨X2, eX2⟩ : ∃ X2, X2 = sortL (E.drop k) := ⟨_, rfl⟩
      rw [← eX1] at HS1 HQ
      rw [← eX2] at HS2 HQ
      have EX1 := Lib.hid eX1
      have EX2 := Lib.hid eX2
      clear eX1 eX2
      go_wp2
      go_region_with (first
        | (with_reducible refine Calls.mono (HS1.out _ ?_) ?_
           · first | exact B44.out | exact xb2.out
           rintro e wA ⟨vA, rfl, rA, bA⟩
           have xrA := Lib.hid rA
           have xbA := Lib.hid bA
           first | have xb1 := Lib.hid (xb2.out.trans (bA.mono xb2.out.size)) | have xb1 := Lib.hid (B44.out.trans (bA.mono B44.out.size))
           clear rA bA)
        | (with_reducible refine Calls.mono (HS2.out _ ?_) ?_
           · first | exact B44.out | exact xb1.out
           rintro e wB ⟨vB, rfl, rB, bB⟩
           have xrB := Lib.hid rB
           have xbB := Lib.hid bB
           first | have xb2 := Lib.hid (xb1.out.trans (bB.mono xb1.out.size)) | have xb2 := Lib.hid (B44.out.trans (bB.mono B44.out.size))
           clear rB bB)
        | (first | have xrA2 := xrA.out.below xbB.out | have xrA2 := xrA.out
           first | have xrB2 := xrB.out.below xbA.out | have xrB2 := xrB.out
           obtain ⟨A4, c4, e4, s4⟩ := xrA2.seen
           obtain ⟨A6, c6, e6, s6⟩ := xrB2.seen
           subst e4
           subst e6
           refine Calls.mono (HQ.out A4 A6 c4 c6 _ s4 s6) ?_
           rintro e wE ⟨rfl, dq, rfl⟩
           first | have xbe := Lib.hid (BB4.out.trans ((below_drewN xb2.out dq).mono BB4.out.size)) | have xbe := Lib.hid (BB4.out.trans ((below_drewN xb1.out dq).mono BB4.out.size))
           clear xrA2 xrB2 s4 s6))
      all_goals go_wp2
      all_goals go_ret
      all_goals exact ⟨by rw [EX1.out, EX2.out]; rfl, xbe.out⟩

set_option maxHeartbeats 1000000 in
theorem specSame_first (B B' : Nat) (v v' : Value) (L M : List Int) (hL : ¬ IsGraph L) (w : World) (h : Row w B v L) (h' : Row w B' v' M) :
    Calls Tryd.prog 5 #[v, v'] w (Said1 w false) := by
  have H1 := Lib.hid (specIn_any B v L false ⟨fun h => (by cases h), fun h => absurd h hL⟩ w h)
  clear hL h h'
  go_enter Tryd.func5, Tryd.ntmps5
  go_wp2_with fail
  refine H1.out.mono ?_
  rintro e w1 ⟨rfl, d, rfl⟩
  go_wp2
  go_ret
  exact ⟨rfl, below_drewN (Below.refl _ w) d⟩
set_option maxHeartbeats 1000000 in
theorem specSame_second (B B' : Nat) (v v' : Value) (L M : List Int) (hL : IsGraph L) (hM : ¬ IsGraph M) (w : World) (h : Row w B v L) (h' : Row w B' v' M) :
    Calls Tryd.prog 5 #[v, v'] w (Said1 w false) := by
  have H1 := Lib.hid (specIn_any B v L true ⟨fun _ => hL, fun _ => rfl⟩ w h)
  have H2 := Lib.hid (fun w h => specIn_any B' v' M false ⟨fun h => (by cases h), fun h => absurd h hM⟩ w h)
  clear hL hM h
  go_enter Tryd.func5, Tryd.ntmps5
  go_wp2_with fail
  refine H1.out.mono ?_
  rintro e w1 ⟨rfl, d, rfl⟩
  go_wp2_with fail
  refine (H2.out (w.drewN d) h').mono ?_
  rintro e w2 ⟨rfl, d2, rfl⟩
  go_wp2
  go_ret
  exact ⟨rfl, below_drewN (Below.refl _ w) (d + d2)⟩
set_option maxHeartbeats 1000000 in
theorem specSame_other (B B' : Nat) (v v' : Value) (L M : List Int) (hL : IsGraph L) (hM : IsGraph M) (hl : L.length ≠ M.length) (w : World) (h : Row w B v L) (h' : Row w B' v' M) :
    Calls Tryd.prog 5 #[v, v'] w (Said1 w false) := by
  have H1 := Lib.hid (specIn_any B v L true ⟨fun _ => hL, fun _ => rfl⟩ w h)
  have H2 := Lib.hid (fun w h => specIn_any B' v' M true ⟨fun _ => hM, fun _ => rfl⟩ w h)
  obtain ⟨A, c, rfl, _⟩ := h.seen
  have h2 := h'
  obtain ⟨A', c', rfl, _⟩ := h'.seen
  have hb : ((L.length : Int) != (M.length : Int)) = true := by simp; omega
  clear hL hM h h' hl
  go_enter Tryd.func5, Tryd.ntmps5
  go_wp2_with fail
  refine H1.out.mono ?_
  rintro e w1 ⟨rfl, d, rfl⟩
  go_wp2_with fail
  refine (H2.out (w.drewN d) h2).mono ?_
  rintro e w2 ⟨rfl, d2, rfl⟩
  go_wp2
  go_ret
  exact ⟨rfl, below_drewN (Below.refl _ w) (d + d2)⟩
end Go.Proofs.YtnnobbbljpaieaaDoor
