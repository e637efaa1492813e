/- The model's l11Parts at each tidy term whose parts are sorted as they should be. -/
import Derived.Test.YtkninejoliclcaaDoorSpecParts
import Derived.Test.YtkninejoliclcaaDoorPartsFn
namespace Go.Proofs.YtkninejoliclcaaDoor
open Go Go.RowKit
set_option linter.unusedVariables false
set_option maxRecDepth 100000

theorem insT_length (L : List (List UInt8)) (s : List UInt8) : (insT L s).length = L.length + 1 := by rw [(insT_perm L s).length_eq]; simp
theorem fold_length : ∀ (xs L : List (List UInt8)), (xs.foldl insT L).length = L.length + xs.length
  | [], L => rfl
  | x :: xs, L => by
    show (xs.foldl insT (insT L x)).length = _
    rw [fold_length xs (insT L x), insT_length, List.length_cons]
    omega
theorem fold_srt : ∀ (xs ys : List (List UInt8)), xs.foldl insT (srt ys) = srt (ys ++ xs)
  | [], ys => by rw [List.append_nil]; rfl
  | x :: xs, ys => by
    show xs.foldl insT (insT (srt ys) x) = _
    rw [insT_srt, fold_srt xs (ys ++ [x]), List.append_assoc]
    rfl
theorem tx_other (s q : Bool) (a b : Tm) (h : ¬ s = q) : (Tm.par s a b).tx q = [(Tm.par s a b).stx] := by
  show (if s = q then _ else [joinT s (srt (a.tx s ++ b.tx s))]) = _
  rw [if_neg h]
  rfl
theorem sgI_ne (s q : Bool) (h : ¬ s = q) : ¬ sgI s = sgI q := by cases s <;> cases q <;> simp [sgI] at h ⊢
theorem sgI_one (q : Bool) : ¬ (49 : Int) = sgI q := by cases q <;> simp [sgI]

set_option maxHeartbeats 4000000 in
theorem specParts_any (q : Bool) : ∀ (t : Tm), t.tidy → (∀ p, p ∈ t.pts q → SSorted p) → ∀ (w : World) (c : Int) (A : Option Addr) (n n' : Nat), TmAt w 0 t (.agg #[.int .u8 c, .slice A n n']) → ∀ (g k cp : Nat) (Ls : List (List UInt8)), LsAt w g k cp Ls → k + t.ones ≤ 50 →
    Calls Tryd.prog 49 #[.agg #[.int .u8 c, .slice A n n'], .int .u8 (sgI q), .slice (some ⟨g, 0, none⟩) k cp] w (SPt w ((t.tx q).foldl insT Ls))
  | .one, _, hS, w, c, A, n, n', ht, g, k, cp, Ls, hL, hk => by
    have h49 : c = 49 := by
      obtain ⟨_, _, _, e⟩ := ht
      cases e
      rfl
    exact specParts_put .one (sgI q) (hS .one (by simp [Tm.pts])) w c A n n' ht (by rw [h49]; exact sgI_one q) g k cp Ls hL (by omega)
  | .neg a, ht, _, _, _, _, _, _, _, _, _, _, _, _, _ => ht.elim
  | .par s a b, hti, hS, w, c, A, n, n', ht, g, k, cp, Ls, hL, hk => by
    by_cases hs : s = q
    · subst hs
      rw [tx_same, List.foldl_append]
      rw [pts_same] at hS
      obtain ⟨gt, c1, A1, n1, k1, c2, A2, n2, k2, e, hB, hg, h0, h1, h2, h3, ha, hb⟩ := ht
      cases e
      have hoa : k + (a.ones + b.ones) ≤ 50 := hk
      have la : (a.tx s).length ≤ a.ones := by rw [Tm.tx_pts, List.length_map]; exact a.pts_len s
      have HA : Hid (∀ w', Below w.heap.size w w' → Calls Tryd.prog 49 #[.agg #[.int .u8 c1, .slice A1 n1 k1], .int .u8 (sgI s), .slice (some ⟨g, 0, none⟩) k cp] w' (SPt w' ((a.tx s).foldl insT Ls))) :=
        Lib.hid (fun w' h' => specParts_any s a hti.1 (fun p hp => hS p (List.mem_append.2 (.inl hp))) w' c1 A1 n1 k1 (ha.below h') g k cp Ls (hL.below h') (by omega))
      have HB : Hid (∀ w', Below w.heap.size w w' → ∀ g' k' cp', LsAt w' g' k' cp' ((a.tx s).foldl insT Ls) → Calls Tryd.prog 49 #[.agg #[.int .u8 c2, .slice A2 n2 k2], .int .u8 (sgI s), .slice (some ⟨g', 0, none⟩) k' cp'] w' (SPt w' ((b.tx s).foldl insT ((a.tx s).foldl insT Ls)))) :=
        Lib.hid (fun w' h' g' k' cp' hL' => specParts_any s b hti.2 (fun p hp => hS p (List.mem_append.2 (.inr hp))) w' c2 A2 n2 k2 (hb.below h') g' k' cp' _ hL' (by rw [hL'.1, fold_length, ← hL.1]; omega))
      have bW : Below w.heap.size w (w.alloc (.cells #[.int .u8 (sgI s), .slice (some ⟨gt, 0, none⟩) 2 2] 35)) := bl_alloc (Below.refl _ _)
      have HC : Hid (∀ w1, Below (w.alloc (.cells #[.int .u8 (sgI s), .slice (some ⟨gt, 0, none⟩) 2 2] 35)).heap.size (w.alloc (.cells #[.int .u8 (sgI s), .slice (some ⟨gt, 0, none⟩) 2 2] 35)) w1 →
          w1.cell? ⟨w.heap.size, 0, none⟩ = some (.int .u8 (sgI s)) ∧ w1.cell? ⟨w.heap.size, 1, none⟩ = some (.slice (some ⟨gt, 0, none⟩) 2 2) ∧ w1.cell? ⟨gt, 0, none⟩ = some (.int .u8 c1) ∧ w1.cell? ⟨gt, 1, none⟩ = some (.slice A1 n1 k1) ∧ w1.cell? ⟨gt, 2, none⟩ = some (.int .u8 c2) ∧ w1.cell? ⟨gt, 3, none⟩ = some (.slice A2 n2 k2)) := Lib.hid (fun w1 b1 =>
        ⟨(b1.cell (p := ⟨w.heap.size, 0, none⟩) (by simp)).trans (by simp [go_sem]), (b1.cell (p := ⟨w.heap.size, 1, none⟩) (by simp)).trans (by simp [go_sem]), ((bl_then bW b1).cell (p := ⟨gt, 0, none⟩) hg).trans h0, ((bl_then bW b1).cell (p := ⟨gt, 1, none⟩) hg).trans h1, ((bl_then bW b1).cell (p := ⟨gt, 2, none⟩) hg).trans h2, ((bl_then bW b1).cell (p := ⟨gt, 3, none⟩) hg).trans h3⟩)
      obtain ⟨L1, eL1⟩ : ∃ L1, L1 = (a.tx s).foldl insT Ls := ⟨_, rfl⟩
      rw [← eL1] at HA HB ⊢
      obtain ⟨L2, eL2⟩ : ∃ L2, L2 = (b.tx s).foldl insT L1 := ⟨_, rfl⟩
      rw [← eL2] at HB ⊢
      have BW := Lib.hid bW
      clear ha hb hB hS hL hk hoa la eL1 eL2 hti h0 h1 h2 h3 bW
      generalize sgI s = q at HA HB HC BW ⊢
      go_enter Tryd.func49, Tryd.ntmps49
      go_wp2_with fail
      obtain ⟨Z, eZ⟩ : ∃ Z, Z = w.alloc (Obj.cells #[.int .u8 q, .slice (some ⟨gt, 0, none⟩) 2 2] 35) := ⟨_, rfl⟩
      rw [← eZ] at HC BW ⊢
      clear eZ
      generalize hs : w.heap.size = s0 at HC hg ⊢
      obtain ⟨q0, q1, q2, q3, q4, q5⟩ := HC.out Z (Below.refl _ _)
      go_region_held (fun w' => w'.cell? ⟨s0, 0, none⟩ = some (.int .u8 q) ∧ w'.cell? ⟨s0, 1, none⟩ = some (.slice (some ⟨gt, 0, none⟩) 2 2) ∧ w'.cell? ⟨gt, 0, none⟩ = some (.int .u8 c1) ∧ w'.cell? ⟨gt, 1, none⟩ = some (.slice A1 n1 k1) ∧ w'.cell? ⟨gt, 2, none⟩ = some (.int .u8 c2) ∧ w'.cell? ⟨gt, 3, none⟩ = some (.slice A2 n2 k2))
        (first | exact HC.out _ (Below.refl _ _).drew | exact HC.out _ (below_drew b1) | exact HC.out _ (bl_then (below_drew b1) b2))
        (first
          | (go_at_call_of 49 (Value.slice A1 n1 k1); refine (HA.out _ (BW.out.trans ((Below.refl _ _).drew.mono BW.out.size))).mono ?_; rintro e w1 ⟨g3, k3, c3, rfl, l3, b1⟩)
          | (go_at_call_of 49 (Value.slice A2 n2 k2); refine (HB.out _ (bl_then BW.out (below_drew b1)) _ _ _ l3).mono ?_; rintro e w2 ⟨g4, k4, c4, rfl, l4, b2⟩))
      all_goals go_wp2
      all_goals go_ret
      all_goals exact ⟨_, _, _, rfl, l4, bl_then BW.out (bl_then (below_drew b1) b2)⟩
    · have hcs : c = sgI s := by
        obtain ⟨_, _, _, _, _, _, _, _, _, e, _⟩ := ht
        cases e
        rfl
      rw [tx_other s q a b hs]
      exact specParts_put (.par s a b) (sgI q) (hS _ (by rw [pts_other s q a b hs]; simp)) w c A n n' ht (by rw [hcs]; exact sgI_ne s q hs) g k cp Ls hL (by omega)

end Go.Proofs.YtkninejoliclcaaDoor
