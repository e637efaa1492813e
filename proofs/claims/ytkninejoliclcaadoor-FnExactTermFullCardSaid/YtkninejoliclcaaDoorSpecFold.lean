/- The model's numbers of tidy terms: l11Fold. -/
import Derived.Test.YtkninejoliclcaaDoorSpecRead
namespace Go.Proofs.YtkninejoliclcaaDoor
open Go Go.RowKit
set_option linter.unusedVariables false
set_option maxRecDepth 100000

set_option maxHeartbeats 4000000 in
theorem specFold_any (add : Bool) : ∀ (t : Tm) (w : World) (B : Nat) (c : Int) (A : Option Addr) (n k : Nat), TmAt w B t (.agg #[.int .u8 c, .slice A n k]) → t.tidy → t.ones ≤ 6 →
    Calls Tryd.prog 36 #[.agg #[.int .u8 c, .slice A n k], .int .u8 (sgI add)] w (Gave w (.int .i64 (t.fo add : Nat)))
  | .one, w, B, c, A, n, k, h, ht, ho => by
    obtain ⟨A', n', k', e⟩ := h
    cases e
    go_enter Tryd.func36, Tryd.ntmps36
    go_wp2
    go_ret
    exact ⟨rfl, bl_alloc (Below.refl _ _)⟩
  | .neg a, w, B, c, A, n, k, h, ht, ho => ht.elim
  | .par s a b, w, B, c, A, n, k, h, ht, ho => by
    obtain ⟨g, c1, A1, n1, k1, c2, A2, n2, k2, e, hB, hg, h0, h1, h2, h3, ha, hb⟩ := h
    cases e
    have hoa : a.ones + b.ones ≤ 6 := ho
    have l1 := a.fo_le add
    have l2 := b.fo_le add
    have bW : Below w.heap.size w (w.alloc (.cells #[.int .u8 (sgI s), .slice (some ⟨g, 0, none⟩) 2 2] 35)) := bl_alloc (Below.refl _ _)
    have HA : Hid (Calls Tryd.prog 36 #[.agg #[.int .u8 c1, .slice A1 n1 k1], .int .u8 (sgI add)] (w.alloc (.cells #[.int .u8 (sgI s), .slice (some ⟨g, 0, none⟩) 2 2] 35)) (Gave (w.alloc (.cells #[.int .u8 (sgI s), .slice (some ⟨g, 0, none⟩) 2 2] 35)) (.int .i64 (a.fo add : Nat)))) := Lib.hid (specFold_any add a _ B c1 A1 n1 k1 (ha.below bW) ht.1 (by omega))
    have HB : Hid (∀ w', Below w.heap.size w w' → Calls Tryd.prog 36 #[.agg #[.int .u8 c2, .slice A2 n2 k2], .int .u8 (sgI add)] w' (Gave w' (.int .i64 (b.fo add : Nat)))) := Lib.hid (fun w' h' => specFold_any add b w' B c2 A2 n2 k2 (hb.below h') ht.2 (by omega))
    obtain ⟨xa, exa⟩ : ∃ x, x = a.fo add := ⟨_, rfl⟩
    obtain ⟨xb, exb⟩ : ∃ x, x = b.fo add := ⟨_, rfl⟩
    have hn : ∀ m, m = (Tm.par s a b).fo add → m = (if s = add then xa + xb else max xa xb) := fun m hm => by rw [hm, exa, exb]; rfl
    obtain ⟨m, hm⟩ : ∃ m, m = (Tm.par s a b).fo add := ⟨_, rfl⟩
    have hm1 := hn m hm
    rw [← hm]
    rw [← exa] at HA l1
    rw [← exb] at HB l2
    have hx : xa + xb ≤ 6 := by omega
    have hw : wrap64 ((xa : Int) + (xb : Int)) = ((xa + xb : Nat) : Int) := by unfold wrap64; omega
    have BW := Lib.hid bW
    have gn : ¬ g = w.heap.size := by omega
    have HY : Hid (∀ w1, Below (w.alloc (.cells #[.int .u8 (sgI s), .slice (some ⟨g, 0, none⟩) 2 2] 35)).heap.size (w.alloc (.cells #[.int .u8 (sgI s), .slice (some ⟨g, 0, none⟩) 2 2] 35)) w1 →
        w1.cell? ⟨w.heap.size, 0, none⟩ = some (.int .u8 (sgI s)) ∧ w1.cell? ⟨w.heap.size, 1, none⟩ = some (.slice (some ⟨g, 0, none⟩) 2 2) ∧ w1.cell? ⟨g, 2, none⟩ = some (.int .u8 c2) ∧ w1.cell? ⟨g, 3, none⟩ = some (.slice A2 n2 k2) ∧ w.heap.size < w1.heap.size) := Lib.hid (fun w1 b1 =>
      ⟨(b1.cell (p := ⟨w.heap.size, 0, none⟩) (by simp)).trans (by simp [go_sem]), (b1.cell (p := ⟨w.heap.size, 1, none⟩) (by simp)).trans (by simp [go_sem]), ((bl_then bW b1).cell (p := ⟨g, 2, none⟩) hg).trans h2, ((bl_then bW b1).cell (p := ⟨g, 3, none⟩) hg).trans h3, Nat.lt_of_lt_of_le (by simp) b1.size⟩)
    clear hn hm exa exb l1 l2 hoa ho ht ha hb bW hB
    cases s <;> cases add
    all_goals
      simp only [if_true, if_false, Bool.false_eq_true, Bool.true_eq_false] at hm1
      rw [hm1]
      clear hm1
      simp only [sgI, if_true, if_false, Bool.false_eq_true] at HA HB BW HY ⊢
      go_enter Tryd.func36, Tryd.ntmps36
      go_wp2_with fail
      refine HA.out.mono ?_
      rintro e w1 ⟨rfl, b1⟩
      obtain ⟨y0, y1, y2, y3, ys⟩ := HY.out w1 b1
      have B1 := Lib.hid (bl_then BW.out b1)
      clear b1 HY HA
      go_wp2_with fail
      refine (HB.out w1 B1.out).mono ?_
      rintro e w2 ⟨rfl, b2⟩
      have x0 := (b2.cell (p := ⟨w.heap.size, 0, none⟩) ys).trans y0
      have B2 := Lib.hid (bl_then B1.out b2)
      clear b2 y0 y1 y2 y3 ys
      go_wp2
      all_goals go_ret
      all_goals exact ⟨by first | rfl | (simp; done) | (simp; omega), B2.out⟩

end Go.Proofs.YtkninejoliclcaaDoor
