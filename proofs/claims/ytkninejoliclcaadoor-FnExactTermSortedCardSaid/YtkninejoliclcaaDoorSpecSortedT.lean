/- The model's sorted texts of tidy terms: l11Sorted. -/
import Derived.Test.YtkninejoliclcaaDoorSpecPartsAny
import Derived.Test.YtkninejoliclcaaDoorSpecText
import Derived.Deep.RegionHeld
namespace Go.Proofs.YtkninejoliclcaaDoor
open Go Go.RowKit
set_option linter.unusedVariables false
set_option maxRecDepth 100000

theorem sum_drop (f : List UInt8 → Nat) : ∀ (L : List (List UInt8)) (j : Nat), ((L.drop j).map f).sum ≤ (L.map f).sum
  | [], j => by simp
  | x :: L, 0 => Nat.le_refl _
  | x :: L, j + 1 => by
    have := sum_drop f L j
    rw [List.map_cons, List.sum_cons]
    show ((L.drop j).map f).sum ≤ _
    omega
/-- What is known of the texts in order of a term's parts. -/
structure SrtL (s : Bool) (L : List (List UInt8)) (m : Nat) : Prop where
  len : L.length = m + 1
  le6 : m < 6
  each : ∀ j, j ≤ m → (L.getD j []).length ≤ 30
  join : ∀ j, j ≤ m → (joinT s (L.drop j)).length ≤ 30
  last : joinT s (L.drop m) = L.getD m []
  step : ∀ j, j < m → joinT s (L.drop j) = brk (L.getD j []) s (joinT s (L.drop (j + 1)))
theorem srtL_of (s : Bool) (a b : Tm) (ho : (Tm.par s a b).ones ≤ 6) : ∃ m, SrtL s (srt ((Tm.par s a b).tx s)) m := by
  obtain ⟨h1, h2⟩ := tx_sum (.par s a b) s
  have hl : ((Tm.par s a b).tx s).length ≤ (Tm.par s a b).ones := by rw [Tm.tx_pts, List.length_map]; exact Tm.pts_len _ _
  obtain ⟨L, eL⟩ : ∃ L, L = srt ((Tm.par s a b).tx s) := ⟨_, rfl⟩
  have hLl : L.length = ((Tm.par s a b).tx s).length := by rw [eL, srt_length]
  have hs : (L.map fun x => x.length + 3).sum ≤ 24 := by
    rw [eL, ((srt_perm _).map _).sum_nat]
    omega
  have hpos := List.length_pos_iff.2 h2
  rw [← eL]
  have hlen : L.length = (L.length - 1) + 1 := by omega
  refine ⟨L.length - 1, hlen, by omega, fun j hj => ?_, fun j hj => ?_, ?_, fun j hj => ?_⟩
  · have hjl : j < L.length := by omega
    have e : L.getD j [] = L[j] := by simp [hjl]
    rw [e]
    have := sum_le (L.map fun x => x.length + 3) (L[j].length + 3) (List.mem_map.2 ⟨L[j], List.getElem_mem hjl, rfl⟩)
    omega
  · have hne : L.drop j ≠ [] := fun h => by have := congrArg List.length h; simp at this; omega
    have h3 := joinT_len s (L.drop j) hne
    have h4 := sum_drop (fun x => x.length + 3) L j
    omega
  · have hm : L.length - 1 < L.length := by omega
    rw [List.drop_eq_getElem_cons hm, List.drop_eq_nil_of_le (by omega)]
    simp [joinT, hm]
  · have hjl : j < L.length := by omega
    have e : L.getD j [] = L[j] := by simp [hjl]
    rw [List.drop_eq_getElem_cons hjl, joinT_cons s _ _ (fun h => by have := congrArg List.length h; simp at this; omega), e]
    rfl

set_option maxHeartbeats 4000000 in
theorem specSorted_any : ∀ (d : Nat) (t : Tm), t.ones ≤ d → t.tidy → t.ones ≤ 6 → SSorted t := by
  intro d
  induction d with
  | zero => intro t hn; have := t.ones_pos; omega
  | succ d ih =>
    intro t hd ht ho w c A n n' h
    cases t with
    | one =>
      obtain ⟨A', n1, k', e⟩ := h
      cases e
      show Calls _ _ _ w (Gave w (.string ⟨#[49]⟩))
      go_enter Tryd.func34, Tryd.ntmps34
      go_wp2
      go_ret
      exact ⟨rfl, bl_alloc (Below.refl _ _)⟩
    | neg a => exact ht.elim
    | par s a b =>
      obtain ⟨m, hm⟩ := srtL_of s a b ho
      have HPp : ∀ (w' : World) (c : Int) (A : Option Addr) (n n' : Nat), TmAt w' 0 (.par s a b) (.agg #[.int .u8 c, .slice A n n']) → ∀ g, g < w'.heap.size → Calls Tryd.prog 49 #[.agg #[.int .u8 c, .slice A n n'], .int .u8 (sgI s), .slice (some ⟨g, 0, none⟩) 0 0] w' (SPt w' (srt ((Tm.par s a b).tx s))) := fun w' c A n n' h' g hg => by
        have h1 := specParts_any s (.par s a b) ht (fun p hp => by
          have h1 := Tm.pts_less s a b p hp
          obtain ⟨_, h2, _⟩ := (Tm.par s a b).pts_mem s p hp
          exact ih p (by omega) (h2 ht) (by omega)) w' c A n n' h' g 0 0 [] ⟨rfl, Nat.le_refl _, by unfold maxLen; omega, hg, fun j hj => absurd hj (by omega)⟩ (by omega)
        have h2 := fold_srt ((Tm.par s a b).tx s) []
        rw [srt_nil, List.nil_append] at h2
        rw [h2] at h1
        exact h1
      have hbx := h.alloc (o := .cells #[.int .u8 c, .slice A n n'] 35)
      have hcs : c = sgI s := by
        obtain ⟨_, _, _, _, _, _, _, _, _, e, _⟩ := h
        cases e
        rfl
      subst hcs
      rw [show (Tm.par s a b).stx = joinT s (srt ((Tm.par s a b).tx s)) by rw [tx_same]; rfl]
      have HP := Lib.hid (HPp ((w.alloc (.cells #[.int .u8 (sgI s), .slice A n n'] 35)).alloc (.cells #[] 9)) (sgI s) A n n' hbx.alloc (w.heap.size + 1) (by simp))
      obtain ⟨L, eL⟩ : ∃ L, L = srt ((Tm.par s a b).tx s) := ⟨_, rfl⟩
      rw [← eL] at hm HP ⊢
      have HM := Lib.hid hm
      have hm6 := hm.le6
      clear eL hm HPp hbx h ih hd ht ho
      rcases Bool.eq_false_or_eq_true s with rfl | rfl
      · rw [show sgI true = 42 from rfl] at HP ⊢
        have cv := conv_one 42
        go_enter Tryd.func34, Tryd.ntmps34
        go_wp2_with fail
        refine HP.out.mono ?_
        rintro e w1 ⟨g, k, cp, rfl, hL, b1⟩
        have hkm : k = m + 1 := by rw [hL.1, HM.out.len]
        subst hkm
        have z0 : w1.cell? ⟨w.heap.size, 0, none⟩ = some (.int .u8 42) := (b1.cell (p := ⟨w.heap.size, 0, none⟩) (by simp; omega)).trans (by simp [go_sem])
        have sb : w.heap.size < w1.heap.size := Nat.lt_of_lt_of_le (by simp; omega) b1.size
        have BW := Lib.hid (bl_then (bl_alloc (bl_alloc (Below.refl w.heap.size w))) b1)
        have HLs := Lib.hid hL
        have hlast : w1.cell? ⟨g, m, none⟩ = some (.string ⟨(L.getD m []).toArray⟩) := hL.2.2.2.2 m (by omega)
        rw [← HM.out.last] at hlast
        have hgl := hL.2.2.2.1
        have hmm : (0 : Int) ≤ (m : Int) ∧ (m : Int) < ((m + 1 : Nat) : Int) := by omega
        have hw1 : wrap64 (((m + 1 : Nat) : Int) - 1) = (m : Int) := by unfold wrap64; omega
        have hw2 : wrap64 (((m + 1 : Nat) : Int) - 2) = (m : Int) - 1 := by unfold wrap64; omega
        clear hL b1 HP
        obtain ⟨t0, et0⟩ : ∃ t0, t0 = joinT true (L.drop m) := ⟨_, rfl⟩
        rw [← et0] at hlast
        have ET := Lib.hid et0
        clear et0
        go_wp2
        go_loopw [4, 5] (fun o i W => ∃ j : Nat, j ≤ m ∧ i = .int .i64 ((j : Int) - 1) ∧ o = .string ⟨(joinT true (L.drop j)).toArray⟩ ∧ Hid (Below w1.heap.size w1 W)) (fun _ i _ => (intOf i + 1).toNat)
        case atStart => exact ⟨m, Nat.le_refl _, by rw [show (m : Int) + 1 - 2 = (m : Int) - 1 by omega], by rw [ET.out], Lib.hid (Below.refl _ _)⟩
        case round =>
          obtain ⟨j, hj, rfl, rfl, hb⟩ := hrel
          rcases Nat.eq_zero_or_pos j with h0 | h0
          · have hj0 : (j : Int) - 1 = -1 := by omega
            rw [hj0, h0, List.drop_zero]
            clear h0 hj0 hj
            go_wp2
            go_ret
            exact ⟨rfl, bl_then BW.out hb.out⟩
          · obtain ⟨r, rfl⟩ : ∃ r, j = r + 1 := ⟨j - 1, by omega⟩
            have hj1 : ((r + 1 : Nat) : Int) - 1 = (r : Int) := by omega
            rw [hj1]
            have hstep := HM.out.step r (by omega)
            have e1 := HM.out.each r (by omega)
            have e2 := HM.out.join (r + 1) hj
            have hc : wr.cell? ⟨g, r, none⟩ = some (.string ⟨(L.getD r []).toArray⟩) := (hb.out.cell (p := ⟨g, r, none⟩) hgl).trans (HLs.out.2.2.2.2 r (by omega))
            have hz : wr.cell? ⟨w.heap.size, 0, none⟩ = some (.int .u8 42) := (hb.out.cell (p := ⟨w.heap.size, 0, none⟩) sb).trans z0
            have hri : (0 : Int) ≤ (r : Int) ∧ (r : Int) < ((m + 1 : Nat) : Int) := by omega
            have hw3 : wrap64 ((r : Int) - 1) = (r : Int) - 1 := by unfold wrap64; omega
            obtain ⟨p, ep⟩ : ∃ p, p = L.getD r [] := ⟨_, rfl⟩
            obtain ⟨t, et⟩ : ∃ t, t = joinT true (L.drop (r + 1)) := ⟨_, rfl⟩
            rw [← ep] at hc e1 hstep
            rw [← et] at e2 hstep ⊢
            have m1 : ¬ 9223372036854775807 < 1 + p.length := by omega
            have m2 : ¬ 9223372036854775807 < 1 + p.length + 1 := by omega
            have m3 : ¬ 9223372036854775807 < 1 + p.length + 1 + t.length := by omega
            have m4 : ¬ 9223372036854775807 < 1 + p.length + 1 + t.length + 1 := by omega
            have HE := Lib.hid (brk_bytes p t true)
            rw [show sgB true = 42 from rfl, ← hstep] at HE
            have hwl : w.heap.size < wr.heap.size := Nat.lt_of_lt_of_le sb hb.out.size
            have hgw : g < wr.heap.size := Nat.lt_of_lt_of_le hgl hb.out.size
            have HC : Hid (∀ W', Below wr.heap.size wr W' → W'.cell? ⟨g, r, none⟩ = some (.string ⟨p.toArray⟩) ∧ W'.cell? ⟨w.heap.size, 0, none⟩ = some (.int .u8 42)) := Lib.hid (fun W' h' => ⟨(h'.cell (p := ⟨g, r, none⟩) hgw).trans hc, (h'.cell (p := ⟨w.heap.size, 0, none⟩) hwl).trans hz⟩)
            have HJ := Lib.hid hj
            clear ep et e1 e2 hstep hc hz hj hj1 h0 z0 hlast
            generalize w.heap.size = s0 at HC sb hwl ⊢
            go_wp2
            go_region_held (fun w' => w'.cell? ⟨g, r, none⟩ = some (.string ⟨p.toArray⟩) ∧ w'.cell? ⟨s0, 0, none⟩ = some (.int .u8 42))
              (first | exact HC.out _ (Below.refl _ _).drew | exact HC.out _ (bl_alloc (Below.refl _ _).drew)) (fail)
            all_goals go_wp2
            all_goals exact ⟨⟨r, by have := HJ.out; omega, rfl, congrArg Value.string HE.out, Lib.hid ((hb.out.trans ((bl_alloc (Below.refl wr.heap.size wr)).mono hb.out.size)).drew)⟩, by simp [intOf]⟩
      · rw [show sgI false = 43 from rfl] at HP ⊢
        have cv := conv_one 43
        go_enter Tryd.func34, Tryd.ntmps34
        go_wp2_with fail
        refine HP.out.mono ?_
        rintro e w1 ⟨g, k, cp, rfl, hL, b1⟩
        have hkm : k = m + 1 := by rw [hL.1, HM.out.len]
        subst hkm
        have z0 : w1.cell? ⟨w.heap.size, 0, none⟩ = some (.int .u8 43) := (b1.cell (p := ⟨w.heap.size, 0, none⟩) (by simp; omega)).trans (by simp [go_sem])
        have sb : w.heap.size < w1.heap.size := Nat.lt_of_lt_of_le (by simp; omega) b1.size
        have BW := Lib.hid (bl_then (bl_alloc (bl_alloc (Below.refl w.heap.size w))) b1)
        have HLs := Lib.hid hL
        have hlast : w1.cell? ⟨g, m, none⟩ = some (.string ⟨(L.getD m []).toArray⟩) := hL.2.2.2.2 m (by omega)
        rw [← HM.out.last] at hlast
        have hgl := hL.2.2.2.1
        have hmm : (0 : Int) ≤ (m : Int) ∧ (m : Int) < ((m + 1 : Nat) : Int) := by omega
        have hw1 : wrap64 (((m + 1 : Nat) : Int) - 1) = (m : Int) := by unfold wrap64; omega
        have hw2 : wrap64 (((m + 1 : Nat) : Int) - 2) = (m : Int) - 1 := by unfold wrap64; omega
        clear hL b1 HP
        obtain ⟨t0, et0⟩ : ∃ t0, t0 = joinT false (L.drop m) := ⟨_, rfl⟩
        rw [← et0] at hlast
        have ET := Lib.hid et0
        clear et0
        go_wp2
        go_loopw [4, 5] (fun o i W => ∃ j : Nat, j ≤ m ∧ i = .int .i64 ((j : Int) - 1) ∧ o = .string ⟨(joinT false (L.drop j)).toArray⟩ ∧ Hid (Below w1.heap.size w1 W)) (fun _ i _ => (intOf i + 1).toNat)
        case atStart => exact ⟨m, Nat.le_refl _, by rw [show (m : Int) + 1 - 2 = (m : Int) - 1 by omega], by rw [ET.out], Lib.hid (Below.refl _ _)⟩
        case round =>
          obtain ⟨j, hj, rfl, rfl, hb⟩ := hrel
          rcases Nat.eq_zero_or_pos j with h0 | h0
          · have hj0 : (j : Int) - 1 = -1 := by omega
            rw [hj0, h0, List.drop_zero]
            clear h0 hj0 hj
            go_wp2
            go_ret
            exact ⟨rfl, bl_then BW.out hb.out⟩
          · obtain ⟨r, rfl⟩ : ∃ r, j = r + 1 := ⟨j - 1, by omega⟩
            have hj1 : ((r + 1 : Nat) : Int) - 1 = (r : Int) := by omega
            rw [hj1]
            have hstep := HM.out.step r (by omega)
            have e1 := HM.out.each r (by omega)
            have e2 := HM.out.join (r + 1) hj
            have hc : wr.cell? ⟨g, r, none⟩ = some (.string ⟨(L.getD r []).toArray⟩) := (hb.out.cell (p := ⟨g, r, none⟩) hgl).trans (HLs.out.2.2.2.2 r (by omega))
            have hz : wr.cell? ⟨w.heap.size, 0, none⟩ = some (.int .u8 43) := (hb.out.cell (p := ⟨w.heap.size, 0, none⟩) sb).trans z0
            have hri : (0 : Int) ≤ (r : Int) ∧ (r : Int) < ((m + 1 : Nat) : Int) := by omega
            have hw3 : wrap64 ((r : Int) - 1) = (r : Int) - 1 := by unfold wrap64; omega
            obtain ⟨p, ep⟩ : ∃ p, p = L.getD r [] := ⟨_, rfl⟩
            obtain ⟨t, et⟩ : ∃ t, t = joinT false (L.drop (r + 1)) := ⟨_, rfl⟩
            rw [← ep] at hc e1 hstep
            rw [← et] at e2 hstep ⊢
            have m1 : ¬ 9223372036854775807 < 1 + p.length := by omega
            have m2 : ¬ 9223372036854775807 < 1 + p.length + 1 := by omega
            have m3 : ¬ 9223372036854775807 < 1 + p.length + 1 + t.length := by omega
            have m4 : ¬ 9223372036854775807 < 1 + p.length + 1 + t.length + 1 := by omega
            have HE := Lib.hid (brk_bytes p t false)
            rw [show sgB false = 43 from rfl, ← hstep] at HE
            have hwl : w.heap.size < wr.heap.size := Nat.lt_of_lt_of_le sb hb.out.size
            have hgw : g < wr.heap.size := Nat.lt_of_lt_of_le hgl hb.out.size
            have HC : Hid (∀ W', Below wr.heap.size wr W' → W'.cell? ⟨g, r, none⟩ = some (.string ⟨p.toArray⟩) ∧ W'.cell? ⟨w.heap.size, 0, none⟩ = some (.int .u8 43)) := Lib.hid (fun W' h' => ⟨(h'.cell (p := ⟨g, r, none⟩) hgw).trans hc, (h'.cell (p := ⟨w.heap.size, 0, none⟩) hwl).trans hz⟩)
            have HJ := Lib.hid hj
            clear ep et e1 e2 hstep hc hz hj hj1 h0 z0 hlast
            generalize w.heap.size = s0 at HC sb hwl ⊢
            go_wp2
            go_region_held (fun w' => w'.cell? ⟨g, r, none⟩ = some (.string ⟨p.toArray⟩) ∧ w'.cell? ⟨s0, 0, none⟩ = some (.int .u8 43))
              (first | exact HC.out _ (Below.refl _ _).drew | exact HC.out _ (bl_alloc (Below.refl _ _).drew)) (fail)
            all_goals go_wp2
            all_goals exact ⟨⟨r, by have := HJ.out; omega, rfl, congrArg Value.string HE.out, Lib.hid ((hb.out.trans ((bl_alloc (Below.refl wr.heap.size wr)).mono hb.out.size)).drew)⟩, by simp [intOf]⟩

end Go.Proofs.YtkninejoliclcaaDoor
