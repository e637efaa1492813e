/- NumberSame by the program (seven numbers compared) and by the model (polynomials compared). -/
import Derived.Test.YtogmfbhnnnoipaaDoorNewtonTab
import Derived.Test.YtogmfbhnnnoipaaDoorPolyAny
import Derived.Test.YtogmfbhnnnoipaaDoorListEq
import Derived.Test.YtogmfbhnnnoipaaDoorBaseA
import Derived.ChangeKeysEq
namespace Go.Proofs.YtogmfbhnnnoipaaDoor
open Go Go.RowKit
set_option linter.unusedVariables false
set_option maxRecDepth 100000

theorem run_eqItems_vec (W : World) (d : Nat) (r s : Nat → Int) : ∀ is : List Nat, (∀ i ∈ is, i < 7) → (Op.eqItems (d + 1) 3 1 (vecC r) (vecC s) is).run Tryd.prog W = .ok (is.all fun i => r i == s i) W
  | [], _ => by simp [Op.eqItems]
  | i :: is, h => by
    have hi := h i (by simp)
    have ih := run_eqItems_vec W d r s is (fun j hj => h j (by simp [hj]))
    have hp : Tryd.prog.plainKey 3 = true := by kernel_rfl
    have p1 : (part 3 (vecC r) (i * 1)).run Tryd.prog W = .ok (.int .i64 (r i)) W := run_part_plain W hp (by rw [Nat.mul_one]; exact vecC_get r hi)
    have p2 : (part 3 (vecC s) (i * 1)).run Tryd.prog W = .ok (.int .i64 (s i)) W := run_part_plain W hp (by rw [Nat.mul_one]; exact vecC_get s hi)
    have p3 : (Op.equalIn (d + 1) 3 (.int .i64 (r i)) (.int .i64 (s i))).run Tryd.prog W = .ok (r i == s i) W := by simp [Op.equalIn, run_underlying Tryd.underlying3]
    simp only [Op.eqItems, Sem.run_bind, p1, p2, p3, Result.andThen_ok]
    by_cases h2 : r i = s i
    · have e : (r i == s i) = true := by simp [h2]
      simp only [e, Bool.not_true, Bool.false_eq_true, if_false, ih, List.all_cons, Bool.true_and]
    · have e : (r i == s i) = false := by simp [h2]
      simp only [e, Bool.not_false, if_true, Sem.run_pure, List.all_cons, Bool.false_and]
theorem eql_vec (W : World) (r s : Nat → Int) : (binOp .eql 61 (.agg (vecC r)) (.agg (vecC s))).run Tryd.prog W = .ok (.bool ((List.range 7).all fun i => r i == s i)) W := by
  have hc : Tryd.prog.cellsOf 3 = 1 := by kernel_rfl
  obtain ⟨i0, hi, _⟩ := info_parts infoInt
  have h := run_equalIn_array (P := Tryd.prog) W 9999 (vecC r) (vecC s) vec_desc hi
  rw [hc, run_eqItems_vec W 9998 r s _ (fun i hi => List.mem_range.1 hi)] at h
  simp only [binOp]
  simp [Op.equal, Op.maxDepth, h]

set_option maxHeartbeats 2000000 in
theorem closed_fn (A : Option Addr) (c : Nat) (L : List Int) (hg : IsGraph L) (w : World) (h : Seen w A L) :
    Calls Tryd.prog 62 #[.slice A L.length c] w (Vec1 w (trTo (adj L) L.length 7)) := by
  have H1 := Lib.hid (fun w hs => steps_fn A c L hg w hs)
  have H2 := Lib.hid (fun w => traces_any (adj L) L.length hg.2.1 w)
  have H := Lib.hid h
  obtain ⟨n, hn⟩ : ∃ n, n = L.length := ⟨_, rfl⟩
  obtain ⟨q, eq⟩ : ∃ q, q = wmx (adj L) := ⟨_, rfl⟩
  obtain ⟨r, er⟩ : ∃ r, r = trTo (adj L) L.length 7 := ⟨_, rfl⟩
  rw [← er] at H2 ⊢
  rw [← eq] at H1 H2
  rw [← hn] at H1 H2 ⊢
  clear hg h hn eq er
  have M0 := Lib.hid (VecAt.new w (fun _ => 0))
  have B0 := Lib.hid ((Below.refl w.heap.size w).alloc (Nat.le_refl _) (.cells (vecC fun _ => 0) 61))
  go_enter Tryd.func62, Tryd.ntmps62
  go_wp2_with (refine step_alloc_vec rfl rfl ?_)
  refine (H1.out _ (H.out.below B0.out)).mono ?_
  rintro e w1 ⟨rfl, b1⟩
  have M1 := Lib.hid (M0.out.below b1 M0.out.lt)
  have B1 := Lib.hid (B0.out.trans (b1.mono B0.out.size))
  clear b1
  go_wp2_with fail
  refine (H2.out _).mono ?_
  rintro e w2 ⟨rfl, b2⟩
  have M2 := Lib.hid (M1.out.below b2 M1.out.lt)
  have B2 := Lib.hid (B1.out.trans (b2.mono B1.out.size))
  clear b2
  go_wp2_with (refine step_store_vec rfl (.tmp 2) (.tmp 7) rfl _ _ _ rfl rfl M2.out ?_)
  refine bodyPost_ret (results_cell_row rfl _ _ _ _ _ _ _ rfl (M2.out.stored r) vec_desc rfl (by rw [vecC_size]; exact vec_info)) rfl ?_
  exact ⟨rfl, below_setRow B2.out (Nat.le_refl _) _⟩

open Classical in
/-- What NumberSame answers. -/
noncomputable def nsameSaid (L M : List Int) : Bool := decide (IsGraph L ∧ IsGraph M ∧ polyL L = polyL M)
open Classical in
theorem nsame_no {w : World} {e : Ending} {w' : World} {L M : List Int} (h : ¬ (IsGraph L ∧ IsGraph M ∧ polyL L = polyL M)) (he : Said1 w false e w') : Said1 w (nsameSaid L M) e w' := by
  have e0 : nsameSaid L M = false := by unfold nsameSaid; rw [decide_eq_false_iff_not]; exact h
  rw [e0]; exact he
open Classical in
theorem nsame_eq {L M : List Int} (hL : IsGraph L) (hM : IsGraph M) : nsameSaid L M = decide (polyL L = polyL M) := by
  unfold nsameSaid
  by_cases h : polyL L = polyL M
  · rw [decide_eq_true h, decide_eq_true_iff]; exact ⟨hL, hM, h⟩
  · rw [decide_eq_false h, decide_eq_false_iff_not]; exact fun h2 => h h2.2.2
theorem trTo_closed {L : List Int} (hg : IsGraph L) {i : Nat} (hi : i < 7) : trTo (adj L) L.length 7 i = ((closedN L i : Nat) : Int) := by
  unfold trTo
  have h1 := closed_small L hg.2.1 i (by omega)
  rw [if_pos hi, mtr_closed L hg.2.1]
  exact wrap_id (by omega) (by omega)
theorem nsame_all {L M : List Int} (hL : IsGraph L) (hM : IsGraph M) : ((List.range 7).all fun i => trTo (adj L) L.length 7 i == trTo (adj M) M.length 7 i) = nsameSaid L M := by
  have h : ((List.range 7).all fun i => trTo (adj L) L.length 7 i == trTo (adj M) M.length 7 i) = true ↔ polyL L = polyL M := by
    rw [same_poly hL hM, List.all_eq_true]
    constructor
    · intro h i hi
      have h1 := h i (List.mem_range.2 hi)
      rw [beq_iff_eq, trTo_closed hL hi, trTo_closed hM hi] at h1
      omega
    · intro h i hi
      have hi := List.mem_range.1 hi
      rw [beq_iff_eq, trTo_closed hL hi, trTo_closed hM hi, h i hi]
  rw [nsame_eq hL hM]
  by_cases he : polyL L = polyL M
  · rw [decide_eq_true he, h.2 he]
  · rw [decide_eq_false he]
    exact Bool.eq_false_iff.2 fun e => he (h.1 e)

theorem implNSame_none (v v' : Value) (w : World) (h : Calls Tryd.prog 61 #[v, v'] w (GsNo w)) :
    Calls Tryd.prog 30 #[v, v'] w (Said1 w false) := by
  have H1 := Lib.hid h
  clear h
  go_enter Tryd.func30, Tryd.ntmps30
  go_wp2_with fail
  refine H1.out.mono ?_
  rintro e w1 ⟨rfl, b1⟩
  go_wp2
  go_ret
  exact ⟨rfl, b1⟩
set_option maxHeartbeats 2000000 in
theorem implNSame_any (B B' : Nat) (v v' : Value) (L M : List Int) (w : World) (h : Row w B v L) (h' : Row w B' v' M) (hT : Tab w) :
    Calls Tryd.prog 30 #[v, v'] w (Said1 w (nsameSaid L M)) := by
  have ht := hT.lt
  by_cases hL : IsGraph L
  · by_cases hM : IsGraph M
    · have H1 := Lib.hid (asGs_yes B B' v v' L M hL hM w h h' hT)
      obtain ⟨A, c, rfl, s1⟩ := h.seen
      obtain ⟨A', c', rfl, s2⟩ := h'.seen
      have H2 := Lib.hid (fun w1 (b : Below w.heap.size w w1) => closed_fn A c L hL w1 (s1.below b))
      have H3 := Lib.hid (fun w1 (b : Below w.heap.size w w1) => closed_fn A' c' M hM w1 (s2.below b))
      have qT := fun W => eql_vec W (trTo (adj L) L.length 7) (trTo (adj M) M.length 7)
      rw [nsame_all hL hM] at qT
      obtain ⟨X, eX⟩ : ∃ X, X = vecC (trTo (adj L) L.length 7) := ⟨_, rfl⟩
      obtain ⟨Y, eY⟩ : ∃ Y, Y = vecC (trTo (adj M) M.length 7) := ⟨_, rfl⟩
      unfold Vec1 at H2 H3
      rw [← eX] at qT H2
      rw [← eY] at qT H3
      obtain ⟨b, eb⟩ : ∃ b, b = nsameSaid L M := ⟨_, rfl⟩
      rw [← eb] at qT ⊢
      clear hL hM h h' s1 s2 hT ht eX eY eb
      cases b
      all_goals
        go_enter Tryd.func30, Tryd.ntmps30
        go_wp2_with fail
        refine H1.out.mono ?_
        rintro e w1 ⟨rfl, b1⟩
        have B1 := Lib.hid b1
        clear b1
        go_wp2_with fail
        refine (H2.out _ B1.out).mono ?_
        rintro e w2 ⟨rfl, b2⟩
        have B2 := Lib.hid (B1.out.trans (b2.mono B1.out.size))
        clear b2
        go_wp2_with fail
        refine (H3.out _ B2.out).mono ?_
        rintro e w3 ⟨rfl, b3⟩
        have B3 := Lib.hid (B2.out.trans (b3.mono B2.out.size))
        clear b3
        go_wp2
        go_ret
        exact ⟨rfl, B3.out⟩
    · exact (implNSame_none v v' w (asGs_second B B' v v' L M hL hM w h h' hT)).mono fun e w' h => nsame_no (fun h => hM h.2.1) h
  · exact (implNSame_none v v' w (asGs_first B B' v v' L M hL w h h' hT)).mono fun e w' h => nsame_no (fun h => hL h.1) h

set_option maxHeartbeats 2000000 in
theorem specNSame_any (B B' : Nat) (v v' : Value) (L M : List Int) (w : World) (h : Row w B v L) (h' : Row w B' v' M) :
    Calls Tryd.prog 29 #[v, v'] w (Said1 w (nsameSaid L M)) := by
  by_cases hL : IsGraph L
  · have G1 := Lib.hid (specIn_any B v L true ⟨fun _ => hL, fun _ => rfl⟩ w h)
    by_cases hM : IsGraph M
    · have G2 := Lib.hid (fun d => specIn_any B' v' M true ⟨fun _ => hM, fun _ => rfl⟩ (w.drewN d) (h'.drewN d))
      obtain ⟨A, c, rfl, s1⟩ := h.seen
      obtain ⟨A', c', rfl, s2⟩ := h'.seen
      have H1 := Lib.hid (fun w1 (b : Below w.heap.size w w1) => specPoly_seen A c L hL w1 (s1.below b))
      have H2 := Lib.hid (fun w1 (b : Below w.heap.size w w1) => specPoly_seen A' c' M hM w1 (s2.below b))
      have HS := Lib.hid (nsame_eq hL hM)
      have hl1 : (polyL L).length ≤ 1048576 := by unfold polyL; rw [pl_length]; have := hL.2.1; omega
      have HL1 := Lib.hid hl1
      obtain ⟨X, eX⟩ : ∃ X, X = polyL L := ⟨_, rfl⟩
      obtain ⟨Y, eY⟩ : ∃ Y, Y = polyL M := ⟨_, rfl⟩
      rw [← eX] at H1 HS HL1
      rw [← eY] at H2 HS
      clear hL hM hl1 h h' s1 s2 eX eY
      go_enter Tryd.func29, Tryd.ntmps29
      go_wp2_with fail
      refine G1.out.mono ?_
      rintro e w0 ⟨rfl, d, rfl⟩
      go_wp2_with fail
      refine (G2.out d).mono ?_
      rintro e w0 ⟨rfl, d', rfl⟩
      have B0 := Lib.hid (below_drewN (Below.refl w.heap.size w) (d + d'))
      go_wp2_with fail
      refine (H1.out _ B0.out).mono ?_
      rintro e w1 ⟨x, rfl, hx, b1⟩
      have HX := Lib.hid hx
      have B1 := Lib.hid (B0.out.trans (b1.mono B0.out.size))
      clear hx b1
      go_wp2_with fail
      refine (H2.out _ B1.out).mono ?_
      rintro e w2 ⟨y, rfl, hy, b2⟩
      obtain ⟨Ay, cy, rfl, sy⟩ := hy.seen
      obtain ⟨Ax, cx, rfl, sx⟩ := (HX.out.below b2).seen
      have HE := Lib.hid (specEq_any Ax Ay cx cy _ _ w2 sx sy HL1.out)
      have BB := Lib.hid (B1.out.trans (b2.mono B1.out.size))
      clear hy sx sy b2
      go_wp2_with fail
      refine HE.out.mono ?_
      rintro e w3 ⟨rfl, d3, rfl⟩
      go_wp2
      go_ret
      rw [HS.out]
      exact ⟨rfl, below_drewN BB.out d3⟩
    · have G2 := Lib.hid (fun d => specIn_any B' v' M false ⟨fun h => (by cases h), fun h => absurd h hM⟩ (w.drewN d) (h'.drewN d))
      have HN := Lib.hid (show ¬ (IsGraph L ∧ IsGraph M ∧ polyL L = polyL M) from fun h => hM h.2.1)
      clear hL hM h h'
      go_enter Tryd.func29, Tryd.ntmps29
      go_wp2_with fail
      refine G1.out.mono ?_
      rintro e w0 ⟨rfl, d, rfl⟩
      go_wp2_with fail
      refine (G2.out d).mono ?_
      rintro e w0 ⟨rfl, d', rfl⟩
      go_wp2
      go_ret
      exact nsame_no HN.out ⟨rfl, below_drewN (Below.refl w.heap.size w) (d + d')⟩
  · have G1 := Lib.hid (specIn_any B v L false ⟨fun h => (by cases h), fun h => absurd h hL⟩ w h)
    have HN := Lib.hid (show ¬ (IsGraph L ∧ IsGraph M ∧ polyL L = polyL M) from fun h => hL h.1)
    clear hL h h'
    go_enter Tryd.func29, Tryd.ntmps29
    go_wp2_with fail
    refine G1.out.mono ?_
    rintro e w0 ⟨rfl, d, rfl⟩
    go_wp2
    go_ret
    exact nsame_no HN.out ⟨rfl, below_drewN (Below.refl w.heap.size w) d⟩
end Go.Proofs.YtogmfbhnnnoipaaDoor
