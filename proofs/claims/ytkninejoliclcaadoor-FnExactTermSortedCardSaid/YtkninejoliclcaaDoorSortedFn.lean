/- The program's sorted text of a tidy term: sortedText, by what sortedWith does. -/
import Derived.Test.YtkninejoliclcaaDoorPartsFn
import Derived.Test.YtkninejoliclcaaDoorTextFn
namespace Go.Proofs.YtkninejoliclcaaDoor
open Go Go.RowKit
set_option linter.unusedVariables false
set_option maxRecDepth 100000

/-- What sortedWith does. -/
def SortsWith : Prop := ∀ (q : Bool) (xs : List (List UInt8)) (B : Nat) (v : Value) (w : World), xs ≠ [] → xs.length ≤ 6 → (∀ x ∈ xs, x.length ≤ 100) → Rw 9 w B v (xs.map str) →
  Calls Tryd.prog 51 #[v, .string ⟨#[sgB q]⟩] w fun e w' => e = .returned (.string ⟨(joinT q (srt xs)).toArray⟩) ∧ w.grownBy w' v.ownBlock

theorem joinT_len (q : Bool) : ∀ (xs : List (List UInt8)), xs ≠ [] → (joinT q xs).length + 3 = (xs.map fun x => x.length + 3).sum
  | [], h => absurd rfl h
  | [x], _ => by simp [joinT]
  | x :: y :: r, _ => by
    have ih := joinT_len q (y :: r) (by simp)
    rw [joinT_cons q x (y :: r) (by simp)]
    rw [List.map_cons, List.sum_cons, ← ih]
    simp
    omega
/-- How long sorted texts are. -/
theorem tx_sum : ∀ (t : Tm) (k : Bool), ((t.tx k).map fun x => x.length + 3).sum ≤ 4 * t.ones ∧ t.tx k ≠ []
  | .one, _ => ⟨by show 1 + 3 + 0 ≤ 4 * 1; omega, by simp [Tm.tx]⟩
  | .neg a, _ => ⟨by have := a.ones_pos; show 1 + 3 + 0 ≤ 4 * a.ones; omega, by simp [Tm.tx]⟩
  | .par s a b, k => by
    have h1 := tx_sum a
    have h2 := tx_sum b
    by_cases hs : s = k
    · have e : (Tm.par s a b).tx k = a.tx k ++ b.tx k := by show (if s = k then _ else _) = _; rw [if_pos hs]
      rw [e, List.map_append, List.sum_append]
      refine ⟨?_, fun h => (h1 k).2 (List.append_eq_nil_iff.1 h).1⟩
      have := (h1 k).1
      have := (h2 k).1
      show _ ≤ 4 * (a.ones + b.ones)
      omega
    · have e : (Tm.par s a b).tx k = [joinT s (srt (a.tx s ++ b.tx s))] := by show (if s = k then _ else _) = _; rw [if_neg hs]
      rw [e]
      refine ⟨?_, by simp⟩
      have hne : srt (a.tx s ++ b.tx s) ≠ [] := fun h => by
        have := congrArg List.length h
        rw [srt_length] at this
        exact (h1 s).2 (List.append_eq_nil_iff.1 (List.eq_nil_of_length_eq_zero this)).1
      have h3 := joinT_len s _ hne
      have h4 : ((srt (a.tx s ++ b.tx s)).map fun x => x.length + 3).sum = ((a.tx s ++ b.tx s).map fun x => x.length + 3).sum := ((srt_perm _).map _).sum_nat
      rw [h4, List.map_append, List.sum_append] at h3
      have := (h1 s).1
      have := (h2 s).1
      show (_ + 3) + 0 ≤ 4 * (a.ones + b.ones)
      omega

theorem tx_same (s : Bool) (a b : Tm) : (Tm.par s a b).tx s = a.tx s ++ b.tx s := by
  show (if s = s then _ else _) = _
  rw [if_pos rfl]
theorem sum_le (xs : List Nat) (x : Nat) (h : x ∈ xs) : x ≤ xs.sum := by
  induction xs with
  | nil => cases h
  | cons y r ih =>
    rw [List.sum_cons]
    rcases List.mem_cons.1 h with rfl | h
    · omega
    · have := ih h; omega

set_option maxHeartbeats 4000000 in
theorem sortedText_any (HW : SortsWith) : ∀ (n : Nat) (t : Tm) (w : World), t.ones ≤ n → t.tidy → t.ones ≤ 6 → Calls Tryd.prog 35 #[ival t] w (Gave w (.string ⟨t.stx.toArray⟩)) := by
  intro n
  induction n with
  | zero => intro t w hn; have := t.ones_pos; omega
  | succ n ih =>
    intro t w hn ht ho
    cases t with
    | one =>
      have q1 := one_par
      show Calls _ _ #[.iface 105 (.agg #[])] w (Gave w (.string ⟨#[49]⟩))
      go_enter Tryd.func35, Tryd.ntmps35
      go_wp2
      go_ret
      exact ⟨rfl, bl_alloc (Below.refl _ _)⟩
    | neg a => exact ht.elim
    | par s a b =>
      have q1 := par_par
      have HP := Lib.hid (fun w => parts_any s (.par s a b) w ht ho)
      have hl := (Tm.par s a b).pts_len s
      have hne := (Tm.par s a b).pts_ne s
      have HI : Hid (∀ p, p ∈ (Tm.par s a b).pts s → ∀ w, Calls Tryd.prog 35 #[ival p] w (Gave w (.string ⟨p.stx.toArray⟩))) := Lib.hid (fun p hp w => by
        have h1 := Tm.pts_less s a b p hp
        obtain ⟨_, h2, _⟩ := (Tm.par s a b).pts_mem s p hp
        exact ih p w (by omega) (h2 ht) (by omega))
      obtain ⟨P, eP⟩ : ∃ P, P = (Tm.par s a b).pts s := ⟨_, rfl⟩
      have hstx : (Tm.par s a b).stx = joinT s (srt (P.map Tm.stx)) := by
        rw [eP, ← Tm.tx_pts, tx_same]
        rfl
      have hsum := tx_sum (.par s a b) s
      rw [Tm.tx_pts, ← eP] at hsum
      rw [hstx]
      rw [← eP] at HP HI hl hne
      have hl6 : P.length ≤ 6 := by omega
      have hlong : ∀ x ∈ P.map Tm.stx, x.length ≤ 100 := fun x hx => by
        have h1 : x.length + 3 ≤ ((P.map Tm.stx).map fun x => x.length + 3).sum := sum_le _ _ (List.mem_map_of_mem hx)
        have h2 := hsum.1
        omega
      obtain ⟨Ta, Xa, ea⟩ := ival_iface a
      obtain ⟨Tb, Xb, eb⟩ := ival_iface b
      have hv : ival (.par s a b) = .iface 68 (.agg #[.string ⟨#[sgB s]⟩, .iface Ta Xa, .iface Tb Xb]) := by rw [← ea, ← eb]; rfl
      rw [hv] at HP ⊢
      have HNE := Lib.hid hne
      have HL6 := Lib.hid hl6
      have HLO := Lib.hid hlong
      have HWW := Lib.hid HW
      clear hv ea eb ht ho hl hne hsum hstx hn ih HW eP hl6 hlong
      go_enter Tryd.func35, Tryd.ntmps35
      go_wp2_with fail
      refine (HP.out _).mono ?_
      rintro e w1 ⟨vp, rfl, rp, b1⟩
      obtain ⟨gp, cp, rfl, g1, g2, g3, g4, hcell⟩ := rp.form (fun h => HNE.out (List.map_eq_nil_iff.1 h))
      rw [List.length_map] at g3 hcell ⊢
      have z0 : w1.cell? ⟨w.heap.size, 0, none⟩ = some (.string ⟨#[sgB s]⟩) := (b1.cell (p := ⟨w.heap.size, 0, none⟩) (by simp)).trans (by simp [go_sem])
      have sb : w.heap.size < w1.heap.size := Nat.lt_of_lt_of_le (by simp) b1.size
      have BW := Lib.hid (below_alloc_then b1)
      have HCL := Lib.hid hcell
      obtain ⟨m, hm⟩ : ∃ m, m = P.length := ⟨_, rfl⟩
      rw [← hm] at g3 ⊢
      have HM := Lib.hid hm
      clear rp b1 hcell HP hm
      go_wp2
      go_loopw [5, 21] (fun tv i W => ∃ k : Nat, k ≤ m ∧ i = .int .i64 k ∧ Hid (Rw 9 W w1.heap.size tv (((P.take k).map Tm.stx).map str)) ∧ Hid (Below w1.heap.size w1 W)) (fun _ i _ => m - (intOf i).toNat)
      case atStart => exact ⟨0, Nat.zero_le _, rfl, Lib.hid (Rw.empty _ _ _), Lib.hid (Below.refl _ _)⟩
      case round =>
        obtain ⟨k, hk, rfl, hr, hb⟩ := hrel
        by_cases hkm : k < m
        · have hkP : k < P.length := by have := HM.out; omega
          obtain ⟨p, ep⟩ : ∃ p, p = P[k] := ⟨_, rfl⟩
          have hpm : p ∈ P := by rw [ep]; exact List.getElem_mem _
          obtain ⟨T, X, e⟩ := ival_iface p
          have HQ := Lib.hid (HI.out p hpm)
          rw [e] at HQ
          have hc : wr.cell? ⟨gp, k, none⟩ = some (.iface T X) := by
            rw [hb.out.cell (p := ⟨gp, k, none⟩) g2, HCL.out k hkP, ← e]
            simp [hkP, ep]
          have hst : ((P.take (k + 1)).map Tm.stx).map str = ((P.take k).map Tm.stx).map str ++ [.string ⟨p.stx.toArray⟩] := by
            rw [List.take_succ_eq_append_getElem hkP, List.map_append, List.map_append, ← ep]
            rfl
          obtain ⟨x, ex⟩ : ∃ x, x = p.stx := ⟨_, rfl⟩
          rw [← ex] at HQ hst
          have HST := Lib.hid hst
          have hjm : (0 : Int) ≤ (k : Int) ∧ (k : Int) < (m : Int) := by omega
          have hlen : (((P.take k).map Tm.stx).map str).length + [Value.string ⟨x.toArray⟩].length ≤ 100000 := by
            have h6 := HL6.out
            rw [List.length_map, List.length_map, List.length_take, List.length_singleton]
            omega
          have hk6 : k < 6 := by have h6 := HL6.out; omega
          have hw : wrap64 ((k : Int) + 1) = ((k + 1 : Nat) : Int) := by unfold wrap64; omega
          have HLN := Lib.hid hlen
          clear e ep ex hst hlen hpm z0
          go_wp2_with (first
            | (at_builtin; refine list_rw Tryd.underlying71 infoStr rfl rfl (.tmp 25) (.tmp 28) rfl (w2.alloc (.cells #[.string ⟨x.toArray⟩] 9)) w1.heap.size u5 (((P.take k).map Tm.stx).map str) [.string ⟨x.toArray⟩] w2.heap.size 0 1 1 rfl rfl rfl RW2.out HC2.out (by simp [Value.oneCell']) SZ2.out HLN.out ?_
               intro v3 w3 hv3 hb3 hg3)
            | (go_at_call 35; refine (HQ.out _).mono ?_; rintro e w2 ⟨rfl, b2⟩
               have RW2 : Hid (Rw 9 (w2.alloc (.cells #[.string ⟨x.toArray⟩] 9)) w1.heap.size u5 (((P.take k).map Tm.stx).map str)) := Lib.hid ((hr.out.below b2).below (bl_alloc (Below.refl _ _)))
               have HC2 : Hid (∀ j, j < [Value.string ⟨x.toArray⟩].length → (w2.alloc (.cells #[.string ⟨x.toArray⟩] 9)).cell? ⟨w2.heap.size, 0 + j, none⟩ = [Value.string ⟨x.toArray⟩][j]?) := Lib.hid (fun j hj => by
                 have e0 : j = 0 := by simp at hj; omega
                 subst e0
                 simp [go_sem])
               have BB2 := Lib.hid (hb.out.trans (b2.mono hb.out.size))
               have SZ2 : Hid (w1.heap.size ≤ (w2.alloc (.cells #[.string ⟨x.toArray⟩] 9)).heap.size) := Lib.hid (Nat.le_trans BB2.out.size (by simp))
               clear b2))
          go_round
          case rel => exact ⟨k + 1, hkm, by go_num, Lib.hid (by rw [HST.out]; exact hv3.out), Lib.hid ((BB2.out.alloc BB2.out.size _).trans hb3.out)⟩
          case measure => simp [intOf]; omega
        · have hkm2 : k = m := by omega
          subst hkm2
          have htk : P.take k = P := by rw [HM.out, List.take_length]
          have hr1 := hr.out
          rw [htk] at hr1
          have HS := Lib.hid (HWW.out s (P.map Tm.stx) w1.heap.size u5 wr (fun h => HNE.out (List.map_eq_nil_iff.1 h)) (by rw [List.length_map]; exact HL6.out) HLO.out hr1)
          have hlt := World.ownsRow.lt hr1
          have HLT := Lib.hid hlt
          have z1 : wr.cell? ⟨w.heap.size, 0, none⟩ = some (.string ⟨#[sgB s]⟩) := (hb.out.cell (p := ⟨w.heap.size, 0, none⟩) sb).trans z0
          have BB := Lib.hid (bl_then BW.out hb.out)
          have SB := Lib.hid sb
          clear hr1 hlt htk hr z0
          go_wp2_with fail
          refine HS.out.mono ?_
          rintro e w3 ⟨rfl, g5⟩
          go_wp2
          go_ret
          exact ⟨rfl, BB.out.trans ((Below.refl w.heap.size wr).grown g5 BB.out.size (fun j hj => Nat.le_trans (Nat.le_of_lt SB.out) (HLT.out j hj).1))⟩

end Go.Proofs.YtkninejoliclcaaDoor
