/- The model's FineEven. -/
import Derived.Test.YtkccaajgdgdaaaaDoorGiven
namespace Go.Proofs.YtkccaajgdgdaaaaDoor
open Go Go.RowKit
set_option linter.unusedVariables false
set_option maxRecDepth 100000

/-- How many of some neighbours have the colour of a node. -/
def cntC (C : List Int) (K : List Int) (c : Nat) : Nat := K.countP fun u => hue C u.toNat == hue C c
def EvenAt (Ns : List (List Int)) (C : List Int) (v w c : Nat) : Prop := cntC C (Ns[v]?.getD []) c = cntC C (Ns[w]?.getD []) c
def EvenN (Ns : List (List Int)) (C : List Int) : Prop := ∀ v w c, v < Ns.length → w < Ns.length → c < Ns.length → hue C v = hue C w → EvenAt Ns C v w c
theorem cntC_succ (C K : List Int) (c i : Nat) (hi : i < K.length) (u : Nat) (hu : K[i]?.getD 0 = (u : Int)) : cntC C (K.take (i + 1)) c = cntC C (K.take i) c + (if hue C u = hue C c then 1 else 0) := by
  unfold cntC
  rw [List.take_succ_eq_append_getElem hi, List.countP_append]
  rw [List.getElem?_eq_getElem hi, Option.getD_some] at hu
  rw [hu]
  simp [List.countP_cons]
theorem cntC_le (C K : List Int) (c : Nat) : cntC C K c ≤ K.length := List.countP_le_length

/-- What a node's row of neighbours holds at a place. -/
theorem near_at {W : World} {A : Option Addr} {Ns : List (List Int)} (hN : Near Ns) (hA : NearSeen W A Ns) {v : Nat} (hv : v < Ns.length) :
    ∃ b off A' c', A = some ⟨b, off, none⟩ ∧ W.cell? ⟨b, off + v, none⟩ = some (.slice A' (Ns[v]?.getD []).length c') ∧
      ∀ i, i < (Ns[v]?.getD []).length → ∃ b2 o2 u, A' = some ⟨b2, o2, none⟩ ∧ (Ns[v]?.getD [])[i]?.getD 0 = ((u : Nat) : Int) ∧ u < Ns.length ∧ W.cell? ⟨b2, o2 + i, none⟩ = some (.int .i64 (u : Nat)) := by
  obtain ⟨b, off, A', c', hA', _, hc, hs⟩ := hA v hv
  refine ⟨b, off, A', c', hA', hc, fun i hi => ?_⟩
  obtain ⟨b2, o2, hA2, _, hc2⟩ := hs i hi
  obtain ⟨u, hu, hun⟩ := (hN.2 v hv).2 i hi
  exact ⟨b2, o2, u, hA2, hu, hun, by rw [hc2, hu]⟩

set_option maxHeartbeats 8000000 in
theorem specEven_yes (B B' : Nat) (v v' : Value) (L C : List Int) (hg : GivenC L C) (b : Bool) (hb : b = true ↔ EvenN (nearL L L.length) C) (w : World) (h : Row w B v L) (h' : Row w B' v' C) :
    Calls Tryd.prog 23 #[v, v'] w (Said1 w b) := by
  have H1 := Lib.hid (given_any B B' v v' L C true ⟨fun _ => hg, fun _ => rfl⟩ w h h')
  obtain ⟨A, c, rfl, hs⟩ := h.seen
  obtain ⟨A', c', rfl, hs'⟩ := h'.seen
  have hnet := net_of hg.1
  have H2 := Lib.hid (fun w hs => specNear_seen A c L hnet w hs)
  have hN := near_of hnet
  have hl := hg.2.1
  have h12 := hnet.2.1
  obtain ⟨Ns, eNs⟩ : ∃ Ns, Ns = nearL L L.length := ⟨_, rfl⟩
  have hNl : Ns.length = L.length := by rw [eNs, nearL_length]
  rw [← eNs] at H2 hN hb
  obtain ⟨n, hn⟩ : ∃ n, n = L.length := ⟨_, rfl⟩
  rw [hl] at H1 ⊢
  rw [← hn] at H1 hl h12 hNl ⊢
  have HS := Lib.hid hs
  have HS' := Lib.hid hs'
  have HNR := Lib.hid hN
  have HNL := Lib.hid hNl
  have HCL := Lib.hid hl
  have HB := Lib.hid hb
  have HNN := Lib.hid hn
  clear hg h h' hnet hN hs hs' hb hNl hl eNs hn
  go_enter Tryd.func23, Tryd.ntmps23
  go_wp2_with fail
  refine H1.out.mono ?_
  rintro e w1 ⟨rfl, d, rfl⟩
  have h2 := H2.out (w.drewN d) HS.out
  rw [← HNN.out] at h2
  have HH2 := Lib.hid h2
  clear h2
  go_wp2_with fail
  refine HH2.out.mono ?_
  rintro e w2 ⟨nv, rfl, hr, hb2⟩
  obtain ⟨An, cn, hnv, hns⟩ := hr.near
  subst hnv
  have hbw : Below w.heap.size w w2 := (below_drewN (Below.refl w.heap.size w) d).trans hb2
  have HNS := Lib.hid (fun v hv => near_at HNR.out hns (v := v) hv)
  have HC2 := Lib.hid (HS'.out.below hbw)
  have HBW := Lib.hid hbw
  clear hr hb2 hns hbw
  rw [HNL.out]
  go_wp2
  go_loopw [6] (fun i wr => ∃ v q : Nat, v ≤ n ∧ i = .int .i64 v ∧ wr = w2.drewN q ∧ Hid (∀ v' w' c, v' < v → w' < n → c < n → hue C v' = hue C w' → EvenAt Ns C v' w' c)) (fun i _ => n - (intOf i).toNat)
  case atStart => exact ⟨0, 0, Nat.zero_le _, rfl, rfl, Lib.hid (fun v' w' c h => absurd h (Nat.not_lt_zero _))⟩
  case round =>
    obtain ⟨v, qv, hv, rfl, ev, hE⟩ := hrel
    have EV := Lib.hid ev
    clear ev
    by_cases hvn : v < n
    · have hv1 : (0 : Int) ≤ (v : Int) ∧ (v : Int) < (n : Int) := by omega
      obtain ⟨bc, oc, hAc, _, hcv⟩ := HC2.out v (by have := HCL.out; omega)
      subst hAc
      have hcvh : w2.cell? ⟨bc, oc + v, none⟩ = some (.int .i64 (hue C v)) := hcv
      obtain ⟨nb, no, Av, cv, hAn, hnv, hrv⟩ := HNS.out v (by rw [HNL.out]; exact hvn)
      subst hAn
      obtain ⟨pv, epv⟩ : ∃ pv, pv = (Ns[v]?.getD []).length := ⟨_, rfl⟩
      rw [← epv] at hnv
      have hpv : pv ≤ 12 := by rw [epv]; exact (HNR.out.2 v (by rw [HNL.out]; exact hvn)).1
      have EPV := Lib.hid epv
      have HRV := Lib.hid hrv
      have HCV := Lib.hid hcvh
      have HNV := Lib.hid hnv
      clear hcv hrv epv hcvh hnv
      obtain ⟨wv, rfl⟩ : ∃ wv : World, wv = wr := ⟨_, rfl⟩
      go_wp2
      go_loopw [7] (fun i wr => ∃ x q : Nat, x ≤ n ∧ i = .int .i64 x ∧ wr = w2.drewN q ∧ Hid (∀ w' c, w' < x → c < n → hue C v = hue C w' → EvenAt Ns C v w' c)) (fun i _ => n - (intOf i).toNat)
      case atStart => exact ⟨0, qv, Nat.zero_le _, rfl, EV.out, Lib.hid (fun w' c h => absurd h (Nat.not_lt_zero _))⟩
      case round =>
        obtain ⟨x, qx, hx, rfl, ex, hF⟩ := hrel
        have EX := Lib.hid ex
        clear ex
        by_cases hxn : x < n
        · have hx1 : (0 : Int) ≤ (x : Int) ∧ (x : Int) < (n : Int) := by omega
          obtain ⟨bc2, oc2, hAc2, _, hcx⟩ := HC2.out x (by have := HCL.out; omega)
          obtain ⟨rfl, rfl⟩ : bc = bc2 ∧ oc = oc2 := by injection hAc2 with e; injection e with e1 e2; exact ⟨e1, e2⟩
          have hcxh : w2.cell? ⟨bc, oc + x, none⟩ = some (.int .i64 (hue C x)) := hcx
          obtain ⟨nb2, no2, Ax, cx, hAn2, hnx, hrx⟩ := HNS.out x (by rw [HNL.out]; exact hxn)
          obtain ⟨rfl, rfl⟩ : nb = nb2 ∧ no = no2 := by injection hAn2 with e; injection e with e1 e2; exact ⟨e1, e2⟩
          obtain ⟨px, epx⟩ : ∃ px, px = (Ns[x]?.getD []).length := ⟨_, rfl⟩
          rw [← epx] at hnx
          have hpx : px ≤ 12 := by rw [epx]; exact (HNR.out.2 x (by rw [HNL.out]; exact hxn)).1
          have EPX := Lib.hid epx
          have HRX := Lib.hid hrx
          have HNX := Lib.hid hnx
          have hcvw : wr.cell? ⟨bc, oc + v, none⟩ = some (.int .i64 (hue C v)) := by rw [EX.out]; exact HCV.out
          have hcxw : wr.cell? ⟨bc, oc + x, none⟩ = some (.int .i64 (hue C x)) := by rw [EX.out]; exact hcxh
          obtain ⟨hvv, ehv⟩ : ∃ a, a = hue C v := ⟨_, rfl⟩
          obtain ⟨hxx, ehx⟩ : ∃ a, a = hue C x := ⟨_, rfl⟩
          rw [← ehv] at hcvw
          rw [← ehx] at hcxw
          have EHV := Lib.hid ehv
          have EHX := Lib.hid ehx
          clear hcx hAc2 hAn2 hnx hrx epx ehv ehx hcxh
          by_cases hne : hvv = hxx
          · have hbq : (hvv != hxx) = false := by simp [hne]
            have HEQ := Lib.hid (show hue C v = hue C x by rw [← EHV.out, ← EHX.out, hne])
            clear hne
            go_wp2
            go_quiet (fail)
            go_wp2
            go_loopw [8] (fun i wr => ∃ c q : Nat, c ≤ n ∧ i = .int .i64 c ∧ wr = w2.drewN q ∧ Hid (∀ c', c' < c → EvenAt Ns C v x c')) (fun i _ => n - (intOf i).toNat)
            case atStart => exact ⟨0, qx + _, Nat.zero_le _, rfl, by rw [EX.out, World.drewN_drewN], Lib.hid (fun c' h => absurd h (Nat.not_lt_zero _))⟩
            case round =>
              clear hcvw hcxw
              obtain ⟨c, qc, hc, rfl, ec, hG⟩ := hrel
              have EC := Lib.hid ec
              clear ec
              by_cases hcn : c < n
              · have hc1 : (0 : Int) ≤ (c : Int) ∧ (c : Int) < (n : Int) := by omega
                obtain ⟨bc3, oc3, hAc3, _, hcc⟩ := HC2.out c (by have := HCL.out; omega)
                obtain ⟨rfl, rfl⟩ : bc = bc3 ∧ oc = oc3 := by injection hAc3 with e; injection e with e1 e2; exact ⟨e1, e2⟩
                have hcch : w2.cell? ⟨bc, oc + c, none⟩ = some (.int .i64 (hue C c)) := hcc
                obtain ⟨hc0, ehc⟩ : ∃ a, a = hue C c := ⟨_, rfl⟩
                rw [← ehc] at hcch
                have HCC := Lib.hid hcch
                have EHC := Lib.hid ehc
                clear hcc hAc3 hcch ehc
                go_wp2
                go_loopw [9, 10] (fun s i wr => ∃ j q : Nat, j ≤ pv ∧ i = .int .i64 j ∧ s = .int .i64 ((cntC C ((Ns[v]?.getD []).take j) c : Nat) : Int) ∧ wr = w2.drewN q) (fun _ i _ => pv - (intOf i).toNat)
                case atStart => exact ⟨0, qc, Nat.zero_le _, rfl, rfl, EC.out⟩
                case round =>
                  obtain ⟨j, qj, hj, rfl, rfl, ej⟩ := hrel
                  have EJ := Lib.hid ej
                  have hnvw : wr.cell? ⟨nb, no + v, none⟩ = some (.slice Av pv cv) := by rw [ej]; exact HNV.out
                  have hcl := cntC_le C ((Ns[v]?.getD []).take j) c
                  rw [List.length_take] at hcl
                  obtain ⟨cj, ecj⟩ : ∃ cj, cj = cntC C ((Ns[v]?.getD []).take j) c := ⟨_, rfl⟩
                  rw [← ecj] at hcl ⊢
                  have ECJ := Lib.hid ecj
                  have hcl12 : cj ≤ 12 := by omega
                  by_cases hjp : j < pv
                  · obtain ⟨b2, o2, u, rfl, hu, hun, hcu⟩ := HRV.out j (by rw [← EPV.out]; exact hjp)
                    rw [HNL.out] at hun
                    obtain ⟨bc4, oc4, hAc4, _, hcuc⟩ := HC2.out u (by have := HCL.out; omega)
                    obtain ⟨rfl, rfl⟩ : bc = bc4 ∧ oc = oc4 := by injection hAc4 with e; injection e with e1 e2; exact ⟨e1, e2⟩
                    have hcuh : w2.cell? ⟨bc, oc + u, none⟩ = some (.int .i64 (hue C u)) := hcuc
                    have hst := cntC_succ C (Ns[v]?.getD []) c j (by rw [← EPV.out]; exact hjp) u hu
                    obtain ⟨hu0, ehu⟩ : ∃ a, a = hue C u := ⟨_, rfl⟩
                    rw [← ehu] at hcuh hst
                    rw [← EHC.out, ← ECJ.out] at hst
                    have y1 : wr.cell? ⟨b2, o2 + j, none⟩ = some (.int .i64 (u : Nat)) := by rw [ej]; exact hcu
                    have y2 : wr.cell? ⟨bc, oc + u, none⟩ = some (.int .i64 hu0) := by rw [ej]; exact hcuh
                    have y3 : wr.cell? ⟨bc, oc + c, none⟩ = some (.int .i64 hc0) := by rw [ej]; exact HCC.out
                    have hj1 : (0 : Int) ≤ (j : Int) ∧ (j : Int) < (pv : Int) := by omega
                    have hu1 : (0 : Int) ≤ (u : Int) ∧ (u : Int) < (n : Int) := by omega
                    have HST := Lib.hid hst
                    clear hu hcu hAc4 hcuc hcuh hst ehu ej ecj hcl
                    by_cases hq : hu0 = hc0
                    · have hbq2 : (hu0 == hc0) = true := by simp [hq]
                      have HQ := Lib.hid hq
                      clear hq
                      go_wp2
                      go_quiet (fail)
                      go_wp2
                      go_roundw
                      case rel => exact ⟨j + 1, qj + _, by omega, by go_num, by rw [HST.out, if_pos HQ.out]; go_num, by rw [EJ.out, World.drewN_drewN]⟩
                      case measure => simp [intOf]; omega
                    · have hbq2 : (hu0 == hc0) = false := by simp [hq]
                      have HQ := Lib.hid hq
                      clear hq
                      go_wp2
                      go_quiet (fail)
                      go_wp2
                      go_roundw
                      case rel => exact ⟨j + 1, qj + _, by omega, by go_num, by rw [HST.out, if_neg HQ.out]; rfl, by rw [EJ.out, World.drewN_drewN]⟩
                      case measure => simp [intOf]; omega
                  · have hjv : pv = j := by omega
                    subst hjv
                    have htv : cj = cntC C (Ns[v]?.getD []) c := by rw [ecj, List.take_of_length_le (by rw [EPV.out]; exact Nat.le_refl _)]
                    have HTV := Lib.hid htv
                    clear ecj htv hcl ECJ ej
                    go_wp2
                    go_loopw [9, 11] (fun s i wr => ∃ j q : Nat, j ≤ px ∧ i = .int .i64 j ∧ s = .int .i64 ((cj : Int) - ((cntC C ((Ns[x]?.getD []).take j) c : Nat) : Int)) ∧ wr = w2.drewN q) (fun _ i _ => px - (intOf i).toNat)
                    case atStart => exact ⟨0, qj, Nat.zero_le _, rfl, by simp [cntC], EJ.out⟩
                    case round =>
                      clear hnvw
                      obtain ⟨k, qk, hk, rfl, rfl, ek⟩ := hrel
                      have EK := Lib.hid ek
                      have hnxw : wr.cell? ⟨nb, no + x, none⟩ = some (.slice Ax px cx) := by rw [ek]; exact HNX.out
                      have hcl2 := cntC_le C ((Ns[x]?.getD []).take k) c
                      rw [List.length_take] at hcl2
                      obtain ⟨ck, eck⟩ : ∃ ck, ck = cntC C ((Ns[x]?.getD []).take k) c := ⟨_, rfl⟩
                      rw [← eck] at hcl2 ⊢
                      have ECK := Lib.hid eck
                      have hck12 : ck ≤ 12 := by omega
                      by_cases hkp : k < px
                      · obtain ⟨b2, o2, u, rfl, hu, hun, hcu⟩ := HRX.out k (by rw [← EPX.out]; exact hkp)
                        rw [HNL.out] at hun
                        obtain ⟨bc4, oc4, hAc4, _, hcuc⟩ := HC2.out u (by have := HCL.out; omega)
                        obtain ⟨rfl, rfl⟩ : bc = bc4 ∧ oc = oc4 := by injection hAc4 with e; injection e with e1 e2; exact ⟨e1, e2⟩
                        have hcuh : w2.cell? ⟨bc, oc + u, none⟩ = some (.int .i64 (hue C u)) := hcuc
                        have hst := cntC_succ C (Ns[x]?.getD []) c k (by rw [← EPX.out]; exact hkp) u hu
                        obtain ⟨hu0, ehu⟩ : ∃ a, a = hue C u := ⟨_, rfl⟩
                        rw [← ehu] at hcuh hst
                        rw [← EHC.out, ← ECK.out] at hst
                        have y1 : wr.cell? ⟨b2, o2 + k, none⟩ = some (.int .i64 (u : Nat)) := by rw [ek]; exact hcu
                        have y2 : wr.cell? ⟨bc, oc + u, none⟩ = some (.int .i64 hu0) := by rw [ek]; exact hcuh
                        have y3 : wr.cell? ⟨bc, oc + c, none⟩ = some (.int .i64 hc0) := by rw [ek]; exact HCC.out
                        have hk1 : (0 : Int) ≤ (k : Int) ∧ (k : Int) < (px : Int) := by omega
                        have hu1 : (0 : Int) ≤ (u : Int) ∧ (u : Int) < (n : Int) := by omega
                        have HST := Lib.hid hst
                        obtain ⟨z, ez⟩ : ∃ z : Int, z = (cj : Int) - (ck : Int) := ⟨_, rfl⟩
                        have hz : -12 ≤ z ∧ z ≤ 12 := by omega
                        rw [← ez]
                        have EZ := Lib.hid ez
                        clear hu hcu hAc4 hcuc hcuh hst ehu ek eck hcl2 ez
                        by_cases hq : hu0 = hc0
                        · have hbq2 : (hu0 == hc0) = true := by simp [hq]
                          have HQ := Lib.hid hq
                          clear hq
                          go_wp2
                          go_quiet (fail)
                          go_wp2
                          go_roundw
                          case rel =>
                            refine ⟨k + 1, qk + _, by omega, by go_num, ?_, by rw [EK.out, World.drewN_drewN]⟩
                            rw [HST.out, if_pos HQ.out]
                            have h := EZ.out
                            congr 1
                            omega
                          case measure => simp [intOf]; omega
                        · have hbq2 : (hu0 == hc0) = false := by simp [hq]
                          have HQ := Lib.hid hq
                          clear hq
                          go_wp2
                          go_quiet (fail)
                          go_wp2
                          go_roundw
                          case rel =>
                            refine ⟨k + 1, qk + _, by omega, by go_num, ?_, by rw [EK.out, World.drewN_drewN]⟩
                            rw [HST.out, if_neg HQ.out]
                            have h := EZ.out
                            congr 1
                          case measure => simp [intOf]; omega
                      · have hkx : px = k := by omega
                        subst hkx
                        have htx : ck = cntC C (Ns[x]?.getD []) c := by rw [eck, List.take_of_length_le (by rw [EPX.out]; exact Nat.le_refl _)]
                        have HTX := Lib.hid htx
                        obtain ⟨z, ez⟩ : ∃ z : Int, z = (cj : Int) - (ck : Int) := ⟨_, rfl⟩
                        rw [← ez]
                        have EZ := Lib.hid ez
                        clear eck htx hcl2 ECK ek ez
                        by_cases hz : z = 0
                        · have hbz : (z != 0) = false := by simp [hz]
                          have HEV := Lib.hid (show EvenAt Ns C v x c by unfold EvenAt; rw [← HTV.out, ← HTX.out]; have := EZ.out; omega)
                          clear hz
                          go_wp2
                          go_roundw
                          case rel =>
                            refine ⟨c + 1, qk, by omega, by go_num, EK.out, Lib.hid fun c' hc' => ?_⟩
                            by_cases e : c' = c
                            · subst e; exact HEV.out
                            · exact hG.out c' (by omega)
                          case measure => simp [intOf]; omega
                        · have hbz : (z != 0) = true := by simp [hz]
                          have hno : ¬ EvenAt Ns C v x c := by unfold EvenAt; rw [← HTV.out, ← HTX.out]; have := EZ.out; omega
                          have hbf : Hid (b = false) := Lib.hid (by
                            cases e : b with
                            | false => rfl
                            | true => exact absurd (HB.out.1 e v x c (by rw [HNL.out]; exact hvn) (by rw [HNL.out]; exact hxn) (by rw [HNL.out]; exact hcn) HEQ.out) hno)
                          clear hz hno
                          go_wp2
                          go_ret
                          exact ⟨by first | (rw [hbf.out]; rfl) | (rw [hbf.out]; done), by rw [EK.out]; exact below_drewN HBW.out qk⟩
              · have hce : n = c := by omega
                subst hce
                go_wp2
                go_roundw
                case rel =>
                  refine ⟨x + 1, qc, by omega, by go_num, EC.out, Lib.hid fun w' c' hw' hc' he => ?_⟩
                  by_cases e : w' = x
                  · subst e; exact hG.out c' hc'
                  · exact hF.out w' c' (by omega) hc' he
                case measure => simp [intOf]; omega
          · have hbq : (hvv != hxx) = true := by simp [hne]
            have HNEQ := Lib.hid (show hue C v ≠ hue C x by rw [← EHV.out, ← EHX.out]; exact hne)
            clear hne
            go_wp2
            go_quiet (fail)
            go_wp2
            go_roundw
            case rel =>
              refine ⟨x + 1, qx + _, by omega, by go_num, by rw [EX.out, World.drewN_drewN], Lib.hid fun w' c hw' hc he => ?_⟩
              by_cases e : w' = x
              · subst e; exact absurd he HNEQ.out
              · exact hF.out w' c (by omega) hc he
            case measure => simp [intOf]; omega
        · have hxe : n = x := by omega
          subst hxe
          go_wp2
          go_roundw
          case rel =>
            refine ⟨v + 1, qx, by omega, by go_num, EX.out, Lib.hid fun v' w' c hv' hw' hc he => ?_⟩
            by_cases e : v' = v
            · subst e; exact hF.out w' c hw' hc he
            · exact hE.out v' w' c (by omega) hw' hc he
          case measure => simp [intOf]; omega
    · have hve : n = v := by omega
      subst hve
      have hbt : Hid (b = true) := Lib.hid (HB.out.2 fun v' w' c hv' hw' hc he => hE.out v' w' c (by rw [← HNL.out]; exact hv') (by rw [← HNL.out]; exact hw') (by rw [← HNL.out]; exact hc) he)
      go_wp2
      go_ret
      exact ⟨by first | (rw [hbt.out]; rfl) | (rw [hbt.out]; done), by rw [EV.out]; exact below_drewN HBW.out qv⟩
end Go.Proofs.YtkccaajgdgdaaaaDoor
