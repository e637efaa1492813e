/- The law FnExactGraphDrop returns true at each list and number, and leaves all that was there as it was. -/
import Derived.Test.YtfgpjgaigfbfcaaDoorPartLaw
import Derived.Test.YtfgpjgaigfbfcaaDoorDropOf
import Derived.Test.YtfgpjgaigfbfcaaDoorOther
namespace Go.Proofs.YtfgpjgaigfbfcaaDoor
open Go.RowKit
set_option linter.unusedVariables false

/-- All nodes but one. -/
def but (n v : Nat) : Nat := less (2 ^ n - 1) (2 ^ v)
theorem but_lt (n v : Nat) : but n v < 2 ^ n := by
  have h1 := less_le (2 ^ n - 1) (2 ^ v)
  have h2 := two_pos n
  unfold but
  omega
/-- What the operations yield. -/
theorem but_step {n v : Nat} (hn : n ≤ 6) (hv : v < n) : ∃ P Q p s : Nat, Q + 1 = 2 ^ n ∧ (wrap64 ((2 : Int) ^ n) = (P : Int) ∧ IntKind.i64.wrap ((2 : Int) ^ n) = (P : Int) ∧ (P : Int) - 1 = (Q : Int) ∧ IntKind.i64.wrap ((P : Int) - 1) = (Q : Int) ∧ IntKind.i64.wrap (Q : Int) = (Q : Int)) ∧
    (wrap64 ((2 : Int) ^ v) = (p : Int) ∧ IntKind.i64.wrap ((2 : Int) ^ v) = (p : Int)) ∧ bits .andNot .i64 (Q : Int) (p : Int) = (s : Int) ∧ s = but n v := by
  obtain ⟨P, Q, hP, hQ, hP64, pf⟩ := shl_facts n hn
  obtain ⟨P2, Q2, hP2, hQ22, hP264, qf⟩ := shl_facts v (by omega)
  have HPF := Lib.hid pf
  have HQF := Lib.hid qf
  clear pf qf
  have f1 := less_op Q P2 (by omega) (by omega)
  have e : 2 ^ n - 1 = Q := by omega
  refine ⟨P, Q, P2, less Q P2, by omega, HPF.out, ⟨HQF.out.1, HQF.out.2.1⟩, f1, ?_⟩
  unfold but
  rw [e, ← hP2]

set_option maxHeartbeats 1000000 in
theorem drop_any (A : Option Addr) (c : Nat) (L : List Int) (hg : IsGraph L) (v : Nat) (hv : v < L.length) (w : World) (h : Seen w A L) (hT : Tab w) :
    Calls Tryd.prog 58 #[.slice A L.length c, .int .i64 v] w (Gave w (ints (lrun (nodesL (but L.length v)).length id (keptIn L (nodesL (but L.length v)) (rows (nodesL (but L.length v)).length))))) := by
  have h6 := hg.2.1
  obtain ⟨P, Q, p, s, hQ, pf, ⟨q1, q2⟩, f1, es⟩ := but_step h6 hv
  have hd : Tab w.drew := hT
  have h3 := Lib.hid (callsIn_wide.1 (implPart_in A c L hg (but L.length v) (but_lt _ _) w.drew h hd))
  have HAL := Lib.hid (fun w => all_any A L.length c Q h6 hQ w)
  rw [← es] at h3 ⊢
  have hv6 : v < 6 := by omega
  clear hg h hT hd pf es hQ
  go_enter Tryd.func58, Tryd.ntmps58
  go_wp2_with fail
  refine wp_region_still_tail 6 (by kernel_rfl) (by kernel_rfl) ?_
  simp only [List.take_succ_cons, List.take_zero, List.drop_succ_cons, List.drop_zero]
  still_step
  still_step
  still_call ((HAL.out _).mono fun e w' ⟨he, hw⟩ => ⟨he, hw.symm⟩)
  repeat still_step
  refine wpStill_nil ?_
  change wpList _ _ _ _ _ w.drew
  go_wp2_with fail
  refine h3.out.mono ?_
  rintro e w3 ⟨u, rfl, ru, b⟩
  go_wp2
  go_ret
  exact ⟨_, rfl, ru, (Below.refl _ w).drew.trans b⟩

theorem specGDrop_none (B : Nat) (v : Value) (L : List Int) (z : Int) (hL : ¬ IsGraph L) (w : World) (h : Row w B v L) :
    Calls Tryd.prog 30 #[v, .int .i64 z] w (Told w [] false) := by
  have H1 := Lib.hid (specIn_any B v L false ⟨fun h => (by cases h), fun h => absurd h hL⟩ w h)
  clear hL h
  go_enter Tryd.func30, Tryd.ntmps30
  go_wp2_with fail
  refine H1.out.mono ?_
  rintro e w1 ⟨rfl, d, rfl⟩
  go_wp2
  go_ret2
  exact ⟨_, rfl, empty_rowP (w.drewN d), (below_drewN (Below.refl _ w) d).alloc (Nat.le_refl _) _⟩
set_option maxHeartbeats 1000000 in
theorem specGDrop_bad (B : Nat) (v : Value) (L : List Int) (z : Int) (hL : IsGraph L) (hz : ¬ (L.length ≠ 1 ∧ 0 ≤ z ∧ z < (L.length : Int))) (w : World) (h : Row w B v L) :
    Calls Tryd.prog 30 #[v, .int .i64 z] w (Told w [] false) := by
  have l1 := hL.1
  have l6 := hL.2.1
  have H1 := Lib.hid (specIn_any B v L true ⟨fun _ => hL, fun _ => rfl⟩ w h)
  obtain ⟨A, c, rfl, s1⟩ := h.seen
  obtain ⟨n, hn⟩ : ∃ n, n = L.length := ⟨_, rfl⟩
  rw [← hn] at hz l1 l6 H1 ⊢
  by_cases h0 : n = 1
  · have hd : ((n : Int) == 1) = true := by simp; omega
    clear hL h s1 hz hn h0
    go_enter Tryd.func30, Tryd.ntmps30
    go_wp2_with fail
    refine H1.out.mono ?_
    rintro e w1 ⟨rfl, d, rfl⟩
    go_wp2
    go_ret2
    exact ⟨_, rfl, empty_rowP (w.drewN d), (below_drewN (Below.refl _ w) d).alloc (Nat.le_refl _) _⟩
  · have hd : ((n : Int) == 1) = false := by simp; omega
    have hd2 : decide (0 ≤ z ∧ z ≤ ((n - 1 : Nat) : Int)) = false := by rw [decide_eq_false_iff_not]; intro h3; exact hz ⟨h0, by omega, by omega⟩
    have hN1 : ((n : Int) - 1) = ((n - 1 : Nat) : Int) := by omega
    have HD := Lib.hid hd2
    clear hL h s1 hz hd2 hn
    go_enter Tryd.func30, Tryd.ntmps30
    go_wp2_with fail
    refine H1.out.mono ?_
    rintro e w1 ⟨rfl, d, rfl⟩
    go_wp2_with fail
    refine (in_any _ _ _ _).mono ?_
    rw [HD.out]
    rintro e w1 ⟨rfl, rfl⟩
    go_wp2
    go_ret2
    exact ⟨_, rfl, empty_rowP (w.drewN d), (below_drewN (Below.refl _ w) d).alloc (Nat.le_refl _) _⟩
set_option maxHeartbeats 2000000 in
theorem specGDrop_good (B : Nat) (v : Value) (L : List Int) (k : Nat) (hL : IsGraph L) (h0 : L.length ≠ 1) (hk : k < L.length) (w : World) (h : Row w B v L) :
    Calls Tryd.prog 30 #[v, .int .i64 k] w (Told w (ints (partTo L (nodesL (but L.length k)) (nodesL (but L.length k)).length)) true) := by
  have l1 := hL.1
  have l6 := hL.2.1
  have H1 := Lib.hid (specIn_any B v L true ⟨fun _ => hL, fun _ => rfl⟩ w h)
  obtain ⟨A, c, rfl, s1⟩ := h.seen
  have S1 := Lib.hid s1
  have H3 := Lib.hid (fun w h => specPart_seen A c L hL (but L.length k) (but_lt _ _) w h)
  obtain ⟨P, Q, p, s, hQ, ⟨p1, p2, p3, p4, p5⟩, ⟨q1, q2⟩, f1, es⟩ := but_step l6 hk
  rw [← es] at H3 ⊢
  obtain ⟨n, hn⟩ : ∃ n, n = L.length := ⟨_, rfl⟩
  rw [← hn] at h0 hk l1 l6 H1 H3 p1 p2 ⊢
  have hd : ((n : Int) == 1) = false := by simp; omega
  have hd2 : decide (0 ≤ (k : Int) ∧ (k : Int) ≤ ((n - 1 : Nat) : Int)) = true := by rw [decide_eq_true_eq]; omega
  have hN1 : ((n : Int) - 1) = ((n - 1 : Nat) : Int) := by omega
  have HD := Lib.hid hd2
  clear hL h s1 hQ es hd2 hn
  go_enter Tryd.func30, Tryd.ntmps30
  go_wp2_with fail
  refine H1.out.mono ?_
  rintro e w1 ⟨rfl, d, rfl⟩
  go_wp2_with fail
  refine (in_any _ _ _ _).mono ?_
  rw [HD.out]
  rintro e w1 ⟨rfl, rfl⟩
  go_wp2_with fail
  obtain ⟨wd, ewd⟩ : ∃ wd, wd = w.drewN d := ⟨_, rfl⟩
  rw [← ewd]
  have EWD := Lib.hid ewd
  clear ewd
  refine wp_region_still_tail 8 (by kernel_rfl) (by kernel_rfl) ?_
  simp only [List.take_succ_cons, List.take_zero, List.drop_succ_cons, List.drop_zero]
  repeat still_step
  refine wpStill_nil ?_
  change wpList _ _ _ _ _ wd.drew
  go_wp2_with fail
  refine (H3.out wd.drew (by rw [EWD.out]; exact S1.out)).mono ?_
  rintro e w3 ⟨u, rfl, ru, b4⟩
  go_wp2
  go_ret2
  have h5 : Below w.heap.size w wd.drew := by rw [EWD.out]; exact (below_drewN (Below.refl _ w) d).drew
  exact ⟨_, rfl, ru.mono h5.size, h5.trans (b4.mono h5.size)⟩

set_option maxHeartbeats 1000000 in
theorem implGDrop_none (B : Nat) (v : Value) (L : List Int) (z : Int) (hL : ¬ IsGraph L) (w : World) (h : Row w B v L) (hT : Tab w) :
    Calls Tryd.prog 31 #[v, .int .i64 z] w (Told w [] false) := by
  have H1 := Lib.hid (asG_none B v L hL w h hT)
  clear hL h
  go_enter Tryd.func31, Tryd.ntmps31
  go_wp2_with fail
  refine H1.out.mono ?_
  rintro e w1 ⟨rfl, b1⟩
  go_wp2
  go_ret2
  exact ⟨_, rfl, World.ownsRow_nil w1 w.heap.size 3 1, b1⟩
set_option maxHeartbeats 1000000 in
theorem implGDrop_bad (B : Nat) (v : Value) (L : List Int) (z : Int) (hL : IsGraph L) (hz : ¬ (L.length ≠ 1 ∧ 0 ≤ z ∧ z < (L.length : Int))) (w : World) (h : Row w B v L) (hT : Tab w) :
    Calls Tryd.prog 31 #[v, .int .i64 z] w (Told w [] false) := by
  have l1 := hL.1
  have l6 := hL.2.1
  have H1 := Lib.hid (asG_graph B v L hL w h hT)
  obtain ⟨A, c, rfl, s1⟩ := h.seen
  obtain ⟨n, hn⟩ : ∃ n, n = L.length := ⟨_, rfl⟩
  rw [← hn] at hz l1 l6 H1 ⊢
  have hc : ((n : Int) == 1) = true ∨ (((n : Int) == 1) = false ∧ decide (z < 0) = true) ∨ (((n : Int) == 1) = false ∧ decide (z < 0) = false ∧ decide ((n : Int) ≤ z) = true) := by
    by_cases h0 : n = 1
    · exact .inl (by simp; omega)
    · by_cases h3 : z < 0
      · exact .inr (.inl ⟨by simp; omega, by simpa using h3⟩)
      · refine .inr (.inr ⟨by simp; omega, by simpa using h3, ?_⟩)
        rw [decide_eq_true_eq]
        refine Classical.byContradiction fun h4 => hz ⟨h0, by omega, by omega⟩
  clear hL h s1 hz hn
  rcases hc with hd | ⟨hd, hd2⟩ | ⟨hd, hd2, hd3⟩
  all_goals
    go_enter Tryd.func31, Tryd.ntmps31
    go_wp2_with fail
    refine H1.out.mono ?_
    rintro e w1 ⟨rfl, b1⟩
    go_wp2
    go_ret2
    exact ⟨_, rfl, World.ownsRow_nil w1 w.heap.size 3 1, b1⟩
set_option maxHeartbeats 1000000 in
theorem implGDrop_good (B : Nat) (v : Value) (L : List Int) (k : Nat) (hL : IsGraph L) (h0 : L.length ≠ 1) (hk : k < L.length) (w : World) (h : Row w B v L) (hT : Tab w) :
    Calls Tryd.prog 31 #[v, .int .i64 k] w (Told w (ints (partTo L (nodesL (but L.length k)) (nodesL (but L.length k)).length)) true) := by
  have l1 := hL.1
  have l6 := hL.2.1
  have h2 := hT.lt
  have HE := Lib.hid (part_eq L hL (nodesL (but L.length k)) (nodes_lt (but_lt _ _)))
  have H1 := Lib.hid (asG_graph B v L hL w h hT)
  obtain ⟨A, c, rfl, s1⟩ := h.seen
  have S1 := Lib.hid s1
  have HT := Lib.hid hT
  have H3 := Lib.hid (fun w h ht => drop_any A c L hL k hk w h ht)
  rw [HE.out]
  obtain ⟨n, hn⟩ : ∃ n, n = L.length := ⟨_, rfl⟩
  rw [← hn] at h0 hk l1 l6 H1 H3 ⊢
  have hd : ((n : Int) == 1) = false := by simp; omega
  have hd2 : decide ((k : Int) < 0) = false := by rw [decide_eq_false_iff_not]; omega
  have hd3 : decide ((n : Int) ≤ (k : Int)) = false := by rw [decide_eq_false_iff_not]; omega
  clear hL h s1 hT hn HE
  go_enter Tryd.func31, Tryd.ntmps31
  go_wp2_with fail
  refine H1.out.mono ?_
  rintro e w1 ⟨rfl, b1⟩
  go_wp2_with fail
  refine (H3.out w1 (S1.out.below b1) (HT.out.below b1 (by omega))).mono ?_
  rintro e w3 ⟨u, rfl, ru, b4⟩
  go_wp2
  go_ret2
  exact ⟨_, rfl, ru.mono b1.size, b1.trans (b4.mono b1.size)⟩

theorem dropLaw_short (A : Option Addr) (c : Nat) (L : List Int) (z : Int) (w : World) (h : Seen w A L) (hT : Tab w) (hs : L.length ≤ 1048576) :
    Calls Tryd.prog 9 #[.slice A L.length c, .int .i64 z] w (Fine w) := by
  by_cases hL : IsGraph L
  · by_cases hz : L.length ≠ 1 ∧ 0 ≤ z ∧ z < (L.length : Int)
    · obtain ⟨k, rfl⟩ : ∃ k : Nat, z = (k : Int) := ⟨z.toNat, by omega⟩
      exact dropLaw_of A c L k w h hT hs (ints (partTo L (nodesL (but L.length k)) (nodesL (but L.length k)).length)) true (by rw [ints_length, partTo_length]; have := nodes_length (but L.length k); omega) (fun B v w a => specGDrop_good B v L k hL hz.1 (by omega) w a) (fun B v w a t => implGDrop_good B v L k hL hz.1 (by omega) w a t)
    · exact dropLaw_of A c L z w h hT hs [] false (by simp) (fun B v w a => specGDrop_bad B v L z hL hz w a) (fun B v w a t => implGDrop_bad B v L z hL hz w a t)
  · exact dropLaw_of A c L z w h hT hs [] false (by simp) (fun B v w a => specGDrop_none B v L z hL w a) (fun B v w a t => implGDrop_none B v L z hL w a t)
#print axioms dropLaw_short
end Go.Proofs.YtfgpjgaigfbfcaaDoor
