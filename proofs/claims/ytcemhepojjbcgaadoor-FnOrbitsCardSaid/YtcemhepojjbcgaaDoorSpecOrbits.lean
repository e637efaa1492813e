/- The model's orbits. -/
import Derived.Test.YtcemhepojjbcgaaDoorOrbMath
import Derived.Test.YtcemhepojjbcgaaDoorBaseA
namespace Go.Proofs.YtcemhepojjbcgaaDoor
open Go Go.RowKit
set_option linter.unusedVariables false
set_option maxRecDepth 100000

theorem rows_block {w : World} {B b n cap : Nat} {Ls : List (List Nat)} (h : Row2 w B (.slice (some ⟨b, 0, none⟩) n cap) Ls) : B ≤ b ∧ b < w.heap.size := by
  obtain ⟨vs, h1, _⟩ := h
  rcases h1.2 with ⟨h0, _⟩ | ⟨g, cap', cur, h0, h1, h3, _⟩
  · cases h0
  · injection h0 with e1; injection e1 with e1; injection e1 with e1; subst e1; exact ⟨h1, (Array.getElem?_eq_some_iff.1 h3).1⟩
/-- What lies where, of the automorphisms. -/
theorem rows_cells {w : World} {B ob oc n : Nat} {R : List (List Nat)} (h : Row2 w B (.slice (some ⟨ob, 0, none⟩) R.length oc) R) (hn : ∀ P ∈ R, Names n n P) (h1 : 1 ≤ n) {i : Nat} (hi : i < R.length) :
    ∃ pb pc, w.cell? ⟨ob, i, none⟩ = some (.slice (some ⟨pb, 0, none⟩) n pc) ∧ B ≤ pb ∧ pb < w.heap.size ∧ ∀ v, v < n → w.cell? ⟨pb, v, none⟩ = some (.int .i64 (at_ (R[i]?.getD []) v : Nat)) := by
  obtain ⟨pv, hpc, hpr⟩ := Row2.at h hi
  obtain ⟨P, eP⟩ : ∃ P, P = R[i]?.getD [] := ⟨_, rfl⟩
  have hPm : P ∈ R := by rw [eP, List.getElem?_eq_getElem hi]; exact List.getElem_mem _
  have hPn := hn P hPm
  rw [← eP] at hpr ⊢
  obtain ⟨pb, pc, epv⟩ := hpr.shape
  rw [ints_length, hPn.1] at epv
  subst epv
  have hb := row_block hpr.1
  refine ⟨pb, pc, hpc, hb.1, hb.2, fun v hv => ?_⟩
  have h0 := hpr.1.cellAt v (by rw [ints_length, hPn.1]; exact hv)
  rw [h0, ints_at (by rw [hPn.1]; exact hv)]

set_option maxHeartbeats 4000000 in
theorem specOrbits_yes (B : Nat) (v : Value) (L : List Int) (hg : IsGraph L) (w : World) (h : Row w B v L) :
    Calls Tryd.prog 36 #[v] w (Told w (ints (orbitsL L)) true) := by
  have h6 := hg.2.1
  have h1 := hg.1
  have H1 := Lib.hid (fun w h => specIn_any B v L true ⟨fun _ => hg, fun _ => rfl⟩ w h)
  have HR := Lib.hid h
  obtain ⟨A, c, rfl, hs⟩ := h.seen
  have H2 := Lib.hid (fun w1 (b : Below w.heap.size w w1) => specAutos_seen A c L hg w1 (hs.below b))
  have hal := autos_length hg
  have hnm : ∀ P ∈ autosL L, Names L.length L.length P := fun P hP => perms_names _ _ P (List.mem_filter.1 hP).1
  unfold orbitsL
  obtain ⟨R, eR⟩ : ∃ R, R = autosL L := ⟨_, rfl⟩
  rw [← eR] at H2 hal hnm ⊢
  obtain ⟨n, hn⟩ : ∃ n, n = L.length := ⟨_, rfl⟩
  rw [← hn] at h6 h1 H1 H2 hnm HR ⊢
  have HNM := Lib.hid hnm
  have E0 := Lib.hid (empty_list w)
  have BE := Lib.hid ((Below.refl w.heap.size w).alloc (Nat.le_refl _) (.cells #[] 3))
  clear hg h hs eR hn hnm
  go_enter Tryd.func36, Tryd.ntmps36
  go_wp2_with fail
  refine (H1.out _ (HR.out.below BE.out)).mono ?_
  rintro e w1 ⟨rfl, d, rfl⟩
  have B1 := Lib.hid (below_drewN BE.out d)
  go_wp2_with fail
  refine (H2.out _ B1.out).mono ?_
  rintro e w2 ⟨u, rfl, hu, b2⟩
  obtain ⟨s, es⟩ : ∃ s, s = w.heap.size := ⟨_, rfl⟩
  have hsz : ((w.alloc (.cells #[] 3)).drewN d).heap.size = s + 1 := by rw [es]; show (w.alloc _).heap.size = _; simp
  rw [hsz] at hu
  have hB2 : Below s w w2 := by rw [es]; exact B1.out.trans (b2.mono (by rw [hsz]; omega))
  have ho : Row w2 s (.slice (some ⟨s, 0, none⟩) 0 0) (ints []) := by rw [es]; exact ((E0.out.drewN d).below b2)
  rw [← es]
  obtain ⟨ob, oc, rfl, hob⟩ := hu.shape
  have hob1 := (rows_block hu).1
  obtain ⟨m, em⟩ : ∃ m, m = R.length := ⟨_, rfl⟩
  have hcells := fun i (hi : i < R.length) => rows_cells hu HNM.out h1 hi
  rw [← em] at hal ⊢
  have HC := Lib.hid hcells
  have EM := Lib.hid em
  have ES := Lib.hid es
  obtain ⟨f, ef⟩ : ∃ f, f = setAt R := ⟨_, rfl⟩
  have hf : ∀ u, u < n → f u < 2 ^ n := fun u hu => by rw [ef]; exact setAt_lt hu R HNM.out
  have EF := Lib.hid ef
  rw [← ef]
  have HF := Lib.hid hf
  have HO := Lib.hid ho
  have HB2 := Lib.hid hB2
  obtain ⟨b1, eb1⟩ : ∃ b1, b1 = w2.heap.size := ⟨_, rfl⟩
  have EB := Lib.hid eb1
  have hsb : s + 1 ≤ b1 := by rw [eb1]; omega
  have HST := Lib.hid (Still.refl (s + 1) b1 w2)
  have HOB := Lib.hid (show ∀ g, (Value.slice (some ⟨s, 0, none⟩) 0 0).ownBlock = some g → g < s + 1 ∨ b1 ≤ g from fun g e => by have e2 : some s = some g := e; injection e2; omega)
  clear hu hcells em es ef hf ho hB2 eb1 H1 H2 HR BE E0 B1 b2 hsz
  go_wp2
  go_loopw [4, 6, 7] (fun o q i wr => ∃ v : Nat, v ≤ n ∧ i = .int .i64 v ∧ q = .int .i64 ((blkTo f v).2 : Nat) ∧ Hid (Row wr s o (ints (blkTo f v).1)) ∧ Hid (Below s w wr) ∧ Hid (Still (s + 1) b1 w2 wr ∧ b1 ≤ wr.heap.size) ∧ Hid (∀ g, o.ownBlock = some g → g < s + 1 ∨ b1 ≤ g)) (fun _ _ i _ => n - (intOf i).toNat)
  case atStart => exact ⟨0, Nat.zero_le _, rfl, rfl, HO, HB2, Lib.hid ⟨HST.out, by rw [EB.out]; exact Nat.le_refl _⟩, HOB⟩
  case round =>
    obtain ⟨v, hv, rfl, rfl, ho, hb, hst, hobk⟩ := hrel
    have hql := (blkTo_lt HF.out v hv).1
    have hll := (blkTo_lt HF.out v hv).2
    have hp64 := two_le h6
    obtain ⟨q, eq⟩ : ∃ q, q = (blkTo f v).2 := ⟨_, rfl⟩
    rw [← eq] at hql
    rw [← eq]
    have HQ := Lib.hid eq
    clear eq
    by_cases hlt : v < n
    · obtain ⟨bit, ebit, hbit, f1⟩ := and_facts q v (by omega)
      have EBT := Lib.hid ebit
      clear ebit
      by_cases hb1 : bit = 1
      · subst hb1
        have hstep := Lib.hid (blkTo_yes (f := f) (v := v) (by rw [← HQ.out]; exact EBT.out.symm))
        go_wp2
        go_roundw
        case rel => exact ⟨v + 1, by omega, by go_num, by rw [hstep.out, HQ.out], Lib.hid (by rw [hstep.out]; exact ho.out), hb, hst, hobk⟩
        case measure => simp [intOf]; omega
      · have hb0 : bit = 0 := by omega
        subst hb0
        have hstep := Lib.hid (blkTo_no (f := f) (v := v) (by rw [← HQ.out, ← EBT.out]; omega))
        go_wp2
        go_loop [8, 9] (fun z t => ∃ i : Nat, i ≤ m ∧ t = .int .i64 i ∧ z = .int .i64 (setAt (R.take i) v : Nat)) (fun _ t => m - (intOf t).toNat)
        case atStart => exact ⟨0, Nat.zero_le _, rfl, rfl⟩
        case round =>
          obtain ⟨i, hi, rfl, rfl⟩ := hrel
          have hzl : setAt (R.take i) v < 2 ^ n := setAt_lt hlt _ (fun P hP => HNM.out P (List.mem_of_mem_take hP))
          by_cases hli : i < m
          · have hiR : i < R.length := by have := EM.out; omega
            obtain ⟨pb, pc, k1, k2, k3, k4⟩ := HC.out i hiR
            have r1 : wr.cell? ⟨ob, i, none⟩ = some (.slice (some ⟨pb, 0, none⟩) n pc) := (hst.out.1.cell hob1 (by rw [EB.out]; exact hob)).trans k1
            have r2 : wr.cell? ⟨pb, v, none⟩ = some (.int .i64 (at_ (R[i]?.getD []) v : Nat)) := (hst.out.1.cell k2 (by rw [EB.out]; exact k3)).trans (k4 v hlt)
            have hxl : at_ (R[i]?.getD []) v < n := by
              have hm : (R[i]?.getD []) ∈ R := by rw [List.getElem?_eq_getElem hiR]; exact List.getElem_mem _
              have h0 := HNM.out _ hm
              exact at_lt h0.2.2 (by rw [h0.1]; exact hlt)
            have hsn : setAt (R.take (i + 1)) v = setAt (R.take i) v ||| 2 ^ at_ (R[i]?.getD []) v := by
              rw [List.take_succ_eq_append_getElem hiR, setAt_snoc, List.getElem?_eq_getElem hiR]; rfl
            obtain ⟨z, ez⟩ : ∃ z, z = setAt (R.take i) v := ⟨_, rfl⟩
            obtain ⟨x, ex⟩ : ∃ x, x = at_ (R[i]?.getD []) v := ⟨_, rfl⟩
            rw [← ez] at hzl hsn
            rw [← ez]
            rw [← ex] at r2 hxl hsn
            have hz64 : z < 64 := Nat.lt_of_lt_of_le hzl hp64
            have hx6 : x ≤ 6 := by omega
            have wp1 := wrap_pow x (Nat.le_trans hx6 (by decide))
            have hxp := two_le (n := x) hx6
            obtain ⟨p, ep⟩ : ∃ p, p = 2 ^ x := ⟨_, rfl⟩
            rw [← ep] at wp1 hsn hxp
            have wp2 : IntKind.i64.wrap ((2 : Int) ^ x) = (p : Int) := by rw [IntKind.wrap_i64]; unfold wrap64 at wp1; exact wp1
            have wor := i64_or_nat z p (Nat.lt_trans hz64 (by decide)) (Nat.lt_of_le_of_lt hxp (by decide))
            have HSN := Lib.hid hsn
            have hi1 : (0 : Int) ≤ (i : Int) ∧ (i : Int) < (m : Int) := by omega
            have hv1 : (0 : Int) ≤ (v : Int) ∧ (v : Int) < (n : Int) := by omega
            clear k1 k2 k3 k4 hsn ez ex ep hxp
            go_wp2
            go_round
            case rel => exact ⟨i + 1, by omega, by go_num, by rw [HSN.out]⟩
            case measure => simp [intOf]; omega
          · have hie : i = m := by omega
            subst hie
            have hfv : setAt (R.take i) v = f v := by rw [EM.out, List.take_length, EF.out]
            rw [hfv] at hzl ⊢
            clear hfv
            obtain ⟨z, ez⟩ : ∃ z, z = f v := ⟨_, rfl⟩
            rw [← ez] at hzl hstep
            rw [← ez]
            have wor := i64_or_nat q z (Nat.lt_of_lt_of_le hql (Nat.le_trans hp64 (by decide))) (Nat.lt_of_lt_of_le hzl (Nat.le_trans hp64 (by decide)))
            clear ez
            go_wp2_with (at_builtin; refine append_at rfl (.tmp 47) (.tmp 49) rfl wr s u4 (ints (blkTo f v).1) (z : Int) rfl rfl ho.out (by rw [ES.out]; exact hb.out.size) (by rw [ints_length]; omega) ?_; intro v3 w3 hv3 hb3 hg3 hat3
                         have HV3 := Lib.hid hv3
                         have BV3 := Lib.hid (hb.out.trans hb3)
                         have hS3 : Still (s + 1) b1 w2 w3 ∧ b1 ≤ w3.heap.size := ⟨hst.out.1.grown hst.out.2 hg3 hobk.out, Nat.le_trans hst.out.2 hb3.size⟩
                         have HS3 := Lib.hid hS3
                         have HK3 : Hid (∀ g, v3.ownBlock = some g → g < s + 1 ∨ b1 ≤ g) := Lib.hid (fun g e => by
                           rcases hat3 with h4 | ⟨g', h4, h5⟩
                           · exact hobk.out g (h4.symm.trans e)
                           · rw [h4] at e; injection e with e; have := hst.out.2; omega)
                         clear hv3 hb3 hg3 hat3 hS3)
            go_roundw
            case rel => exact ⟨v + 1, by omega, by go_num, by rw [hstep.out, HQ.out], Lib.hid (by rw [hstep.out]; have h0 := HV3.out; simpa [ints] using h0), BV3, HS3, HK3⟩
            case measure => simp [intOf]; omega
    · have hve : v = n := by omega
      subst hve
      go_wp2
      go_ret2
      exact ⟨_, rfl, by rw [← ES.out, ← EF.out]; exact ho.out, by rw [← ES.out]; exact hb.out⟩
#print axioms specOrbits_yes
end Go.Proofs.YtcemhepojjbcgaaDoor
