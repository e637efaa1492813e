/- The model's texts of tidy terms: l11Text. -/
import Derived.Test.YtkninejoliclcaaDoorSpecRead
import Derived.Test.YtkninejoliclcaaDoorTextFn
import Derived.Deep.RegionHeld
import Derived.Laws.IdiomStrings
namespace Go.Proofs.YtkninejoliclcaaDoor
open Go Go.RowKit
set_option linter.unusedVariables false
set_option maxRecDepth 100000

theorem brk_bytes (x y : List UInt8) (s : Bool) : ({ data := #[40] } ++ { data := x.toArray } ++ { data := #[sgB s] } ++ { data := y.toArray } ++ { data := #[41] } : ByteArray) = ⟨(brk x s y).toArray⟩ := ByteArray.ext (by simp [brk])

theorem conv_one (c : UInt8) (W : World) (p : Nat) (h : W.cell? ⟨p, 0, none⟩ = some (.int .u8 (c.toNat : Int))) : (convert 65 9 (.slice (some ⟨p, 0, none⟩) 1 1)).run Tryd.prog W = .ok (.string ⟨#[c]⟩) W := by
  have := run_convert_bytes_back (P := Tryd.prog) W 65 9 5 ⟨p, 0, none⟩ 1 [c] Tryd.underlying65 Tryd.underlying5 Tryd.underlying9 (fun j hj => by
    have e : j = 0 := by simp at hj; omega
    subst e
    exact h)
  exact this

set_option maxHeartbeats 4000000 in
theorem specText_any : ∀ (t : Tm) (w : World) (c : Int) (A : Option Addr) (n k : Nat), TmAt w 0 t (.agg #[.int .u8 c, .slice A n k]) → t.tidy → t.ones ≤ 6 →
    Calls Tryd.prog 30 #[.agg #[.int .u8 c, .slice A n k]] w (Gave w (.string ⟨t.txt.toArray⟩))
  | .one, w, c, A, n, k, h, ht, ho => by
    obtain ⟨A', n', k', e⟩ := h
    cases e
    show Calls _ _ _ w (Gave w (.string ⟨#[49]⟩))
    go_enter Tryd.func30, Tryd.ntmps30
    go_wp2
    go_ret
    exact ⟨rfl, bl_alloc (Below.refl _ _)⟩
  | .neg a, w, c, A, n, k, h, ht, ho => ht.elim
  | .par s a b, w, c, A, n, k, h, ht, ho => by
    obtain ⟨g, c1, A1, n1, k1, c2, A2, n2, k2, e, hB, hg, h0, h1, h2, h3, ha, hb⟩ := h
    cases e
    have hoa : a.ones + b.ones ≤ 6 := ho
    have l1 := txt_len a
    have l2 := txt_len b
    have HA : Hid (∀ w', Below w.heap.size w w' → Calls Tryd.prog 30 #[.agg #[.int .u8 c1, .slice A1 n1 k1]] w' (Gave w' (.string ⟨a.txt.toArray⟩))) := Lib.hid (fun w' h' => specText_any a w' c1 A1 n1 k1 (ha.below h') ht.1 (by omega))
    have HB : Hid (∀ w', Below w.heap.size w w' → Calls Tryd.prog 30 #[.agg #[.int .u8 c2, .slice A2 n2 k2]] w' (Gave w' (.string ⟨b.txt.toArray⟩))) := Lib.hid (fun w' h' => specText_any b w' c2 A2 n2 k2 (hb.below h') ht.2 (by omega))
    have bW : Below w.heap.size w (w.alloc (.cells #[.int .u8 (sgI s), .slice (some ⟨g, 0, none⟩) 2 2] 35)) := bl_alloc (Below.refl _ _)
    have HS : Hid (∀ w1, Below (w.alloc (.cells #[.int .u8 (sgI s), .slice (some ⟨g, 0, none⟩) 2 2] 35)).heap.size (w.alloc (.cells #[.int .u8 (sgI s), .slice (some ⟨g, 0, none⟩) 2 2] 35)) w1 →
        w1.cell? ⟨w.heap.size, 0, none⟩ = some (.int .u8 (sgI s)) ∧ w1.cell? ⟨w.heap.size, 1, none⟩ = some (.slice (some ⟨g, 0, none⟩) 2 2) ∧ w1.cell? ⟨g, 0, none⟩ = some (.int .u8 c1) ∧ w1.cell? ⟨g, 1, none⟩ = some (.slice A1 n1 k1) ∧ w1.cell? ⟨g, 2, none⟩ = some (.int .u8 c2) ∧ w1.cell? ⟨g, 3, none⟩ = some (.slice A2 n2 k2)) := Lib.hid (fun w1 b1 =>
      ⟨(b1.cell (p := ⟨w.heap.size, 0, none⟩) (by simp)).trans (by simp [go_sem]), (b1.cell (p := ⟨w.heap.size, 1, none⟩) (by simp)).trans (by simp [go_sem]), ((bl_then bW b1).cell (p := ⟨g, 0, none⟩) hg).trans h0, ((bl_then bW b1).cell (p := ⟨g, 1, none⟩) hg).trans h1, ((bl_then bW b1).cell (p := ⟨g, 2, none⟩) hg).trans h2, ((bl_then bW b1).cell (p := ⟨g, 3, none⟩) hg).trans h3⟩)
    have HE := Lib.hid (brk_bytes a.txt b.txt s)
    rw [show (Tm.par s a b).txt = brk a.txt s b.txt from rfl]
    obtain ⟨xa, exa⟩ : ∃ x, x = a.txt := ⟨_, rfl⟩
    obtain ⟨xb, exb⟩ : ∃ x, x = b.txt := ⟨_, rfl⟩
    rw [← exa, ← exb] at HE ⊢
    rw [← exa] at HA l1
    rw [← exb] at HB l2
    have hx : xa.length + xb.length ≤ 1000 := by omega
    have m1 : ¬ 9223372036854775807 < 1 + xa.length := by omega
    have m2 : ¬ 9223372036854775807 < 1 + xa.length + 1 := by omega
    have m3 : ¬ 9223372036854775807 < 1 + xa.length + 1 + xb.length := by omega
    have m4 : ¬ 9223372036854775807 < 1 + xa.length + 1 + xb.length + 1 := by omega
    clear ha hb hB exa exb l1 l2 hoa ho ht hx h0 h1 h2 h3
    rcases Bool.eq_false_or_eq_true s with rfl | rfl
    · rw [show sgI true = 42 from rfl] at HS bW
      rw [show sgI true = 42 from rfl]
      rw [show sgB true = 42 from rfl] at HE
      have BW := Lib.hid bW
      have cv := conv_one 42
      clear bW
      go_enter Tryd.func30, Tryd.ntmps30
      go_wp2_with fail
      obtain ⟨Z, eZ⟩ : ∃ Z, Z = w.alloc (Obj.cells #[.int .u8 42, .slice (some ⟨g, 0, none⟩) 2 2] 35) := ⟨_, rfl⟩
      rw [← eZ] at HS BW ⊢
      clear eZ
      generalize hs : w.heap.size = s0 at HS hg ⊢
      obtain ⟨q0, q1, q2, q3, q4, q5⟩ := HS.out Z (Below.refl _ _)
      go_region_held (fun w' => w'.cell? ⟨s0, 0, none⟩ = some (.int .u8 42) ∧ w'.cell? ⟨s0, 1, none⟩ = some (.slice (some ⟨g, 0, none⟩) 2 2) ∧ w'.cell? ⟨g, 0, none⟩ = some (.int .u8 c1) ∧ w'.cell? ⟨g, 1, none⟩ = some (.slice A1 n1 k1) ∧ w'.cell? ⟨g, 2, none⟩ = some (.int .u8 c2) ∧ w'.cell? ⟨g, 3, none⟩ = some (.slice A2 n2 k2))
        (first | exact HS.out _ (Below.refl _ _).drew | exact HS.out _ c1' | exact HS.out _ c2' | exact HS.out _ (bl_alloc (Below.refl _ _).drew) | exact HS.out _ (bl_alloc c1') | exact HS.out _ (bl_alloc c2'))
        (first
          | (go_at_call_of 30 (Value.slice A1 n1 k1); refine (HA.out _ ?_).mono ?_; · first | exact BW.out.trans ((Below.refl _ _).drew.mono BW.out.size) | exact bl_then BW.out (bl_alloc (Below.refl _ _).drew)
             rintro e w1 ⟨rfl, b1⟩; first | have c1' : Below Z.heap.size Z w1 := below_drew b1 | (have c1' : Below Z.heap.size Z w1 := bl_then (bl_alloc (Below.refl _ _).drew) b1; have yb1 : w1.cell? ⟨Z.heap.size, 0, none⟩ = some (.int .u8 42) := (b1.cell (p := ⟨Z.heap.size, 0, none⟩) (by simp)).trans (by simp [go_sem]); have yl1 : Z.heap.size < w1.heap.size := Nat.lt_of_lt_of_le (by simp) b1.size))
          | (go_at_call_of 30 (Value.slice A2 n2 k2); refine (HB.out _ ?_).mono ?_; · first | exact bl_then BW.out c1' | exact bl_then BW.out (bl_alloc c1')
             rintro e w2 ⟨rfl, b2⟩; first | (have c2' : Below Z.heap.size Z w2 := bl_then (bl_alloc c1') b2; have yb2 : w2.cell? ⟨w1.heap.size, 0, none⟩ = some (.int .u8 42) := (b2.cell (p := ⟨w1.heap.size, 0, none⟩) (by simp)).trans (by simp [go_sem])) | (have c2' : Below Z.heap.size Z w2 := bl_then c1' b2; have yb3 : w2.cell? ⟨Z.heap.size, 0, none⟩ = some (.int .u8 42) := (b2.cell (p := ⟨Z.heap.size, 0, none⟩) yl1).trans yb1) | have c2' : Below Z.heap.size Z w2 := bl_then c1' b2))
      all_goals go_wp2
      all_goals go_ret
      all_goals first
        | exact ⟨congrArg (fun b => Ending.returned (Value.string b)) HE.out, bl_then BW.out c2'⟩
        | exact ⟨congrArg (fun b => Ending.returned (Value.string b)) HE.out, bl_then BW.out (bl_alloc c2')⟩
    · rw [show sgI false = 43 from rfl] at HS bW
      rw [show sgI false = 43 from rfl]
      rw [show sgB false = 43 from rfl] at HE
      have BW := Lib.hid bW
      have cv := conv_one 43
      clear bW
      go_enter Tryd.func30, Tryd.ntmps30
      go_wp2_with fail
      obtain ⟨Z, eZ⟩ : ∃ Z, Z = w.alloc (Obj.cells #[.int .u8 43, .slice (some ⟨g, 0, none⟩) 2 2] 35) := ⟨_, rfl⟩
      rw [← eZ] at HS BW ⊢
      clear eZ
      generalize hs : w.heap.size = s0 at HS hg ⊢
      obtain ⟨q0, q1, q2, q3, q4, q5⟩ := HS.out Z (Below.refl _ _)
      go_region_held (fun w' => w'.cell? ⟨s0, 0, none⟩ = some (.int .u8 43) ∧ w'.cell? ⟨s0, 1, none⟩ = some (.slice (some ⟨g, 0, none⟩) 2 2) ∧ w'.cell? ⟨g, 0, none⟩ = some (.int .u8 c1) ∧ w'.cell? ⟨g, 1, none⟩ = some (.slice A1 n1 k1) ∧ w'.cell? ⟨g, 2, none⟩ = some (.int .u8 c2) ∧ w'.cell? ⟨g, 3, none⟩ = some (.slice A2 n2 k2))
        (first | exact HS.out _ (Below.refl _ _).drew | exact HS.out _ c1' | exact HS.out _ c2' | exact HS.out _ (bl_alloc (Below.refl _ _).drew) | exact HS.out _ (bl_alloc c1') | exact HS.out _ (bl_alloc c2'))
        (first
          | (go_at_call_of 30 (Value.slice A1 n1 k1); refine (HA.out _ ?_).mono ?_; · first | exact BW.out.trans ((Below.refl _ _).drew.mono BW.out.size) | exact bl_then BW.out (bl_alloc (Below.refl _ _).drew)
             rintro e w1 ⟨rfl, b1⟩; first | have c1' : Below Z.heap.size Z w1 := below_drew b1 | (have c1' : Below Z.heap.size Z w1 := bl_then (bl_alloc (Below.refl _ _).drew) b1; have yb1 : w1.cell? ⟨Z.heap.size, 0, none⟩ = some (.int .u8 43) := (b1.cell (p := ⟨Z.heap.size, 0, none⟩) (by simp)).trans (by simp [go_sem]); have yl1 : Z.heap.size < w1.heap.size := Nat.lt_of_lt_of_le (by simp) b1.size))
          | (go_at_call_of 30 (Value.slice A2 n2 k2); refine (HB.out _ ?_).mono ?_; · first | exact bl_then BW.out c1' | exact bl_then BW.out (bl_alloc c1')
             rintro e w2 ⟨rfl, b2⟩; first | (have c2' : Below Z.heap.size Z w2 := bl_then (bl_alloc c1') b2; have yb2 : w2.cell? ⟨w1.heap.size, 0, none⟩ = some (.int .u8 43) := (b2.cell (p := ⟨w1.heap.size, 0, none⟩) (by simp)).trans (by simp [go_sem])) | (have c2' : Below Z.heap.size Z w2 := bl_then c1' b2; have yb3 : w2.cell? ⟨Z.heap.size, 0, none⟩ = some (.int .u8 43) := (b2.cell (p := ⟨Z.heap.size, 0, none⟩) yl1).trans yb1) | have c2' : Below Z.heap.size Z w2 := bl_then c1' b2))
      all_goals go_wp2
      all_goals go_ret
      all_goals first
        | exact ⟨congrArg (fun b => Ending.returned (Value.string b)) HE.out, bl_then BW.out c2'⟩
        | exact ⟨congrArg (fun b => Ending.returned (Value.string b)) HE.out, bl_then BW.out (bl_alloc c2')⟩

end Go.Proofs.YtkninejoliclcaaDoor
