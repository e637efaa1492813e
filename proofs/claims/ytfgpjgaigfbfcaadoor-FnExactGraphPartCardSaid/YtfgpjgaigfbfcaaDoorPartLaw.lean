/- The law FnExactGraphPart returns true at each list and number, and leaves all that was there as it was. -/
import Derived.Test.YtfgpjgaigfbfcaaDoorImplPart
import Derived.Test.YtfgpjgaigfbfcaaDoorSpecPart
import Derived.Test.YtfgpjgaigfbfcaaDoorPartOf
import Derived.Test.YtfgpjgaigfbfcaaDoorAsAny
namespace Go.Proofs.YtfgpjgaigfbfcaaDoor
open Go.RowKit
set_option linter.unusedVariables false

theorem empty_rowP (w : World) : Row (w.alloc (.cells #[] 3)) w.heap.size (.slice (some ⟨w.heap.size, 0, none⟩) 0 0) [] := World.ownsRow_lit (base := w.heap.size) (e := 3) (size := 1) w #[] 0 (Nat.le_refl _) (by unfold maxLen; omega) rfl

set_option maxHeartbeats 1000000 in
theorem specGPart_none (B : Nat) (v : Value) (L : List Int) (z : Int) (hL : ¬ IsGraph L) (w : World) (h : Row w B v L) :
    Calls Tryd.prog 32 #[v, .int .i64 z] w (Told w [] false) := by
  have H1 := Lib.hid (specIn_any B v L false ⟨fun h => (by cases h), fun h => absurd h hL⟩ w h)
  clear hL h
  go_enter Tryd.func32, Tryd.ntmps32
  go_wp2_with fail
  refine H1.out.mono ?_
  rintro e w1 ⟨rfl, d, rfl⟩
  go_wp2
  go_ret2
  exact ⟨_, rfl, empty_rowP (w.drewN d), (below_drewN (Below.refl _ w) d).alloc (Nat.le_refl _) _⟩
set_option maxHeartbeats 1000000 in
theorem specGPart_bad (B : Nat) (v : Value) (L : List Int) (z : Int) (hL : IsGraph L) (hz : ¬ (1 ≤ z ∧ z < ((2 ^ L.length : Nat) : Int))) (w : World) (h : Row w B v L) :
    Calls Tryd.prog 32 #[v, .int .i64 z] w (Told w [] false) := by
  have l6 := hL.2.1
  have H1 := Lib.hid (specIn_any B v L true ⟨fun _ => hL, fun _ => rfl⟩ w h)
  obtain ⟨A, c, rfl, s1⟩ := h.seen
  obtain ⟨P, Q, hP, hQ, hP64, p1, p2, p3, p4, p5⟩ := shl_facts L.length l6
  have hd : decide (1 ≤ z ∧ z ≤ (Q : Int)) = false := by rw [decide_eq_false_iff_not]; intro h0; exact hz (by omega)
  have HD := Lib.hid hd
  clear hL h s1 hz hP hQ hd
  go_enter Tryd.func32, Tryd.ntmps32
  go_wp2_with fail
  refine H1.out.mono ?_
  rintro e w1 ⟨rfl, d, rfl⟩
  go_wp2_with fail
  refine (in_any _ _ _ _).mono ?_
  rw [HD.out]
  rintro e w1 ⟨rfl, rfl⟩
  go_wp2
  go_ret2
  exact ⟨_, rfl, empty_rowP (w.drewN d), (below_drewN (Below.refl _ w) d).alloc (Nat.le_refl _) _⟩
set_option maxHeartbeats 1000000 in
theorem specGPart_good (B : Nat) (v : Value) (L : List Int) (s : Nat) (hL : IsGraph L) (h1s : 1 ≤ s) (hs : s < 2 ^ L.length) (w : World) (h : Row w B v L) :
    Calls Tryd.prog 32 #[v, .int .i64 s] w (Told w (ints (partTo L (nodesL s) (nodesL s).length)) true) := by
  have l6 := hL.2.1
  have H1 := Lib.hid (specIn_any B v L true ⟨fun _ => hL, fun _ => rfl⟩ w h)
  obtain ⟨A, c, rfl, s1⟩ := h.seen
  have S1 := Lib.hid s1
  have H3 := Lib.hid (fun w h => specPart_seen A c L hL s hs w h)
  obtain ⟨P, Q, hP, hQ, hP64, p1, p2, p3, p4, p5⟩ := shl_facts L.length l6
  have hd : decide (1 ≤ (s : Int) ∧ (s : Int) ≤ (Q : Int)) = true := by rw [decide_eq_true_eq]; omega
  have HD := Lib.hid hd
  clear hL h s1 hP hQ hd hs
  go_enter Tryd.func32, Tryd.ntmps32
  go_wp2_with fail
  refine H1.out.mono ?_
  rintro e w1 ⟨rfl, d, rfl⟩
  go_wp2_with fail
  refine (in_any _ _ _ _).mono ?_
  rw [HD.out]
  rintro e w1 ⟨rfl, rfl⟩
  go_wp2_with fail
  refine (H3.out (w.drewN d) S1.out).mono ?_
  rintro e w3 ⟨u, rfl, ru, b4⟩
  go_wp2
  go_ret2
  exact ⟨_, rfl, ru, (below_drewN (Below.refl _ w) d).trans b4⟩

set_option maxHeartbeats 1000000 in
theorem implGPart_none (B : Nat) (v : Value) (L : List Int) (z : Int) (hL : ¬ IsGraph L) (w : World) (h : Row w B v L) (hT : Tab w) :
    Calls Tryd.prog 33 #[v, .int .i64 z] w (Told w [] false) := by
  have H1 := Lib.hid (asG_none B v L hL w h hT)
  clear hL h
  go_enter Tryd.func33, Tryd.ntmps33
  go_wp2_with fail
  refine H1.out.mono ?_
  rintro e w1 ⟨rfl, b1⟩
  go_wp2
  go_ret2
  exact ⟨_, rfl, World.ownsRow_nil w1 w.heap.size 3 1, b1⟩
set_option maxHeartbeats 1000000 in
theorem implGPart_bad (B : Nat) (v : Value) (L : List Int) (z : Int) (hL : IsGraph L) (hz : ¬ (1 ≤ z ∧ z < ((2 ^ L.length : Nat) : Int))) (w : World) (h : Row w B v L) (hT : Tab w) :
    Calls Tryd.prog 33 #[v, .int .i64 z] w (Told w [] false) := by
  have l6 := hL.2.1
  have H1 := Lib.hid (asG_graph B v L hL w h hT)
  obtain ⟨A, c, rfl, s1⟩ := h.seen
  by_cases h0 : z = 0
  · have hd : (z == 0) = true := by simpa using h0
    subst h0
    clear hL h s1 hz
    go_enter Tryd.func33, Tryd.ntmps33
    go_wp2_with fail
    refine H1.out.mono ?_
    rintro e w1 ⟨rfl, b1⟩
    go_wp2
    go_ret2
    exact ⟨_, rfl, World.ownsRow_nil w1 w.heap.size 3 1, b1⟩
  · have hd : (z == 0) = false := by simpa using h0
    have hd2 : decide (0 ≤ z ∧ z < ((2 ^ L.length : Nat) : Int)) = false := by rw [decide_eq_false_iff_not]; intro h3; exact hz ⟨by omega, h3.2⟩
    have HD := Lib.hid hd2
    clear hL h s1 hz hd2
    go_enter Tryd.func33, Tryd.ntmps33
    go_wp2_with fail
    refine H1.out.mono ?_
    rintro e w1 ⟨rfl, b1⟩
    go_wp2_with fail
    refine (hasSet_any A L.length c z l6 _).mono ?_
    rw [HD.out]
    rintro e w2 ⟨rfl, rfl⟩
    go_wp2
    go_ret2
    exact ⟨_, rfl, World.ownsRow_nil w1 w.heap.size 3 1, b1⟩
set_option maxHeartbeats 1000000 in
theorem implGPart_good (B : Nat) (v : Value) (L : List Int) (s : Nat) (hL : IsGraph L) (h1s : 1 ≤ s) (hs : s < 2 ^ L.length) (w : World) (h : Row w B v L) (hT : Tab w) :
    Calls Tryd.prog 33 #[v, .int .i64 s] w (Told w (ints (partTo L (nodesL s) (nodesL s).length)) true) := by
  have l6 := hL.2.1
  have h2 := hT.lt
  have HE := Lib.hid (part_eq L hL (nodesL s) (nodes_lt hs))
  have H1 := Lib.hid (asG_graph B v L hL w h hT)
  obtain ⟨A, c, rfl, s1⟩ := h.seen
  have S1 := Lib.hid s1
  have HT := Lib.hid hT
  have H3 := Lib.hid (fun w h ht => callsIn_wide.1 (implPart_in A c L hL s hs w h ht))
  have hd : ((s : Int) == 0) = false := by simp; omega
  have hd2 : decide (0 ≤ (s : Int) ∧ (s : Int) < ((2 ^ L.length : Nat) : Int)) = true := by rw [decide_eq_true_eq]; omega
  have HD := Lib.hid hd2
  clear hL h s1 hd2 hs hT
  go_enter Tryd.func33, Tryd.ntmps33
  go_wp2_with fail
  refine H1.out.mono ?_
  rintro e w1 ⟨rfl, b1⟩
  go_wp2_with fail
  refine (hasSet_any A L.length c (s : Int) l6 _).mono ?_
  rw [HD.out]
  rintro e w2 ⟨rfl, rfl⟩
  go_wp2_with fail
  refine (H3.out w1 (S1.out.below b1) (HT.out.below b1 (by omega))).mono ?_
  rintro e w3 ⟨u, rfl, ru, b4⟩
  go_wp2
  go_ret2
  exact ⟨_, rfl, by rw [HE.out]; exact ru.mono b1.size, b1.trans (b4.mono b1.size)⟩

theorem partLaw_short (A : Option Addr) (c : Nat) (L : List Int) (z : Int) (w : World) (h : Seen w A L) (hT : Tab w) (hs : L.length ≤ 1048576) :
    Calls Tryd.prog 10 #[.slice A L.length c, .int .i64 z] w (Fine w) := by
  by_cases hL : IsGraph L
  · by_cases hz : 1 ≤ z ∧ z < ((2 ^ L.length : Nat) : Int)
    · obtain ⟨s, rfl⟩ : ∃ s : Nat, z = (s : Int) := ⟨z.toNat, by omega⟩
      exact partLaw_of A c L s w h hT hs (ints (partTo L (nodesL s) (nodesL s).length)) true (by rw [ints_length, partTo_length]; have := nodes_length s; omega) (fun B v w a => specGPart_good B v L s hL (by omega) (by omega) w a) (fun B v w a t => implGPart_good B v L s hL (by omega) (by omega) w a t)
    · exact partLaw_of A c L z w h hT hs [] false (by simp) (fun B v w a => specGPart_bad B v L z hL hz w a) (fun B v w a t => implGPart_bad B v L z hL hz w a t)
  · exact partLaw_of A c L z w h hT hs [] false (by simp) (fun B v w a => specGPart_none B v L z hL w a) (fun B v w a t => implGPart_none B v L z hL w a t)
#print axioms partLaw_short
end Go.Proofs.YtfgpjgaigfbfcaaDoor
