/- TreeWay where there is no way: no tree, or a node out of range. -/
import Derived.Test.YtkngijkhhonikaaDoorWayFns
import Derived.Test.YtkngijkhhonikaaDoorBaseA
namespace Go.Proofs.YtkngijkhhonikaaDoor
open Go Go.RowKit
set_option linter.unusedVariables false
set_option maxRecDepth 100000

theorem in_out (n lo hi : Int) (w : World) (h : ¬ (lo ≤ n ∧ n ≤ hi)) :
    Calls Tryd.prog 44 #[.int .i64 n, .int .i64 lo, .int .i64 hi] w fun e w' => e = .returned (.bool false) ∧ w = w' :=
  (in_any n lo hi w).mono fun e w' ⟨he, hw⟩ => ⟨by rw [he, decide_eq_false h], hw⟩

set_option maxHeartbeats 4000000 in
theorem specWay_no (B : Nat) (v : Value) (L : List Int) (z0 z1 : Int) (hz0 : -9223372036854775808 ≤ z0 ∧ z0 ≤ 9223372036854775807) (hz1 : -9223372036854775808 ≤ z1 ∧ z1 ≤ 9223372036854775807) (hno : ¬ InWay L z0 z1) (w : World) (h : Row w B v L) :
    Calls Tryd.prog 25 #[v, .int .i64 z0, .int .i64 z1] w (Told w [] false) := by
  by_cases ht : IsTree L
  · have H1 := Lib.hid (l9Tree_any B v L true ⟨fun _ => ht, fun _ => rfl⟩ w h)
    have h1 := ht.1.1.1
    have h6 := ht.1.1.2.1
    obtain ⟨A, c, rfl, hs⟩ := h.seen
    have hno2 : ¬ ((0 ≤ z0 ∧ z0 < (L.length : Int)) ∧ (0 ≤ z1 ∧ z1 < (L.length : Int))) := fun q => hno ⟨ht, q⟩
    obtain ⟨n, hn⟩ : ∃ n, n = L.length := ⟨_, rfl⟩
    rw [← hn] at h1 h6 hno2 H1 ⊢
    obtain ⟨m, hm⟩ : ∃ m : Nat, (n : Int) - 1 = (m : Int) := ⟨n - 1, by omega⟩
    have hw : wrap64 ((n : Int) - 1) = (m : Int) := by unfold wrap64; omega
    clear h hs ht hno hn
    by_cases ha : 0 ≤ z0 ∧ z0 < (n : Int)
    · have hb : ¬ (0 ≤ z1 ∧ z1 ≤ (m : Int)) := fun q => hno2 ⟨ha, by omega, by omega⟩
      have HB := Lib.hid hb
      clear hno2 hb
      go_enter Tryd.func25, Tryd.ntmps25
      go_wp2_with fail
      refine H1.out.mono ?_
      rintro e w1 ⟨rfl, d, rfl⟩
      have b1 := below_drewN (Below.refl w.heap.size w) d
      go_wp2_with fail
      refine (in_yes _ _ _ _ (by omega) (by omega)).mono ?_
      rintro e w1 ⟨rfl, rfl⟩
      go_wp2_with fail
      refine (in_out _ _ _ _ HB.out).mono ?_
      rintro e w1 ⟨rfl, rfl⟩
      go_wp2
      go_ret2
      exact ⟨_, rfl, Row.mono (World.ownsRow_lit (base := (w.drewN d).heap.size) (e := 3) (size := 1) (w.drewN d) #[] 0 (Nat.le_refl _) (by unfold maxLen; omega) rfl) b1.size, b1.alloc b1.size _⟩
    · have hb : ¬ (0 ≤ z0 ∧ z0 ≤ (m : Int)) := fun q => ha (by omega)
      have HB := Lib.hid hb
      clear hno2 hb ha
      go_enter Tryd.func25, Tryd.ntmps25
      go_wp2_with fail
      refine H1.out.mono ?_
      rintro e w1 ⟨rfl, d, rfl⟩
      have b1 := below_drewN (Below.refl w.heap.size w) d
      go_wp2_with fail
      refine (in_out _ _ _ _ HB.out).mono ?_
      rintro e w1 ⟨rfl, rfl⟩
      go_wp2
      go_ret2
      exact ⟨_, rfl, Row.mono (World.ownsRow_lit (base := (w.drewN d).heap.size) (e := 3) (size := 1) (w.drewN d) #[] 0 (Nat.le_refl _) (by unfold maxLen; omega) rfl) b1.size, b1.alloc b1.size _⟩
  · have H1 := Lib.hid (l9Tree_any B v L false ⟨fun q => (by cases q), fun q => absurd q ht⟩ w h)
    clear h ht hno
    go_enter Tryd.func25, Tryd.ntmps25
    go_wp2_with fail
    refine H1.out.mono ?_
    rintro e w1 ⟨rfl, d, rfl⟩
    have b1 := below_drewN (Below.refl w.heap.size w) d
    go_wp2
    go_ret2
    exact ⟨_, rfl, Row.mono (World.ownsRow_lit (base := (w.drewN d).heap.size) (e := 3) (size := 1) (w.drewN d) #[] 0 (Nat.le_refl _) (by unfold maxLen; omega) rfl) b1.size, b1.alloc b1.size _⟩

set_option maxHeartbeats 4000000 in
theorem implWay_no (B : Nat) (v : Value) (L : List Int) (z0 z1 : Int) (hz0 : -9223372036854775808 ≤ z0 ∧ z0 ≤ 9223372036854775807) (hz1 : -9223372036854775808 ≤ z1 ∧ z1 ≤ 9223372036854775807) (hno : ¬ InWay L z0 z1) (w : World) (h : Row w B v L) (hT : Tab w) :
    Calls Tryd.prog 24 #[v, .int .i64 z0, .int .i64 z1] w (Told w [] false) := by
  by_cases ht : IsTree L
  · have H1 := Lib.hid (implTreeIn_any B v L true ⟨fun _ => ht, fun _ => rfl⟩ w h hT)
    have h6 := ht.1.1.2.1
    obtain ⟨A, c, rfl, hs⟩ := h.seen
    have hno2 : ¬ ((0 ≤ z0 ∧ z0 < (L.length : Int)) ∧ (0 ≤ z1 ∧ z1 < (L.length : Int))) := fun q => hno ⟨ht, q⟩
    obtain ⟨n, hn⟩ : ∃ n, n = L.length := ⟨_, rfl⟩
    rw [← hn] at h6 hno2 H1 ⊢
    have hc : (z0 < z1 ∧ z0 < 0) ∨ (z0 < z1 ∧ 0 ≤ z0 ∧ (n : Int) ≤ z1) ∨ (z0 = z1 ∧ z0 < 0) ∨ (z0 = z1 ∧ 0 ≤ z0 ∧ (n : Int) ≤ z1) ∨ (z1 < z0 ∧ z1 < 0) ∨ (z1 < z0 ∧ 0 ≤ z1 ∧ (n : Int) ≤ z0) := by
      rcases Int.lt_trichotomy z0 z1 with h | h | h
      · by_cases q : z0 < 0
        · exact .inl ⟨h, q⟩
        · exact .inr (.inl ⟨h, by omega, Int.not_lt.1 fun q2 => hno2 ⟨⟨by omega, by omega⟩, by omega, q2⟩⟩)
      · by_cases q : z0 < 0
        · exact .inr (.inr (.inl ⟨h, q⟩))
        · exact .inr (.inr (.inr (.inl ⟨h, by omega, Int.not_lt.1 fun q2 => hno2 ⟨⟨by omega, by omega⟩, by omega, q2⟩⟩)))
      · by_cases q : z1 < 0
        · exact .inr (.inr (.inr (.inr (.inl ⟨h, q⟩))))
        · exact .inr (.inr (.inr (.inr (.inr ⟨h, by omega, Int.not_lt.1 fun q2 => hno2 ⟨⟨by omega, q2⟩, by omega, by omega⟩⟩))))
    clear h hs hT ht hno hno2 hn
    rcases hc with ⟨h1, h2⟩ | ⟨h1, h2, h3⟩ | ⟨rfl, h2⟩ | ⟨rfl, h2, h3⟩ | ⟨h1, h2⟩ | ⟨h1, h2, h3⟩
    all_goals
      go_enter Tryd.func24, Tryd.ntmps24
      go_wp2_with fail
      refine H1.out.mono ?_
      rintro e w1 ⟨rfl, b1⟩
      go_wp2
      go_ret2
      exact ⟨_, rfl, World.ownsRow_nil w1 w.heap.size 3 1, b1⟩
  · have H1 := Lib.hid (implTreeIn_any B v L false ⟨fun q => (by cases q), fun q => absurd q ht⟩ w h hT)
    clear h ht hno hT
    go_enter Tryd.func24, Tryd.ntmps24
    go_wp2_with fail
    refine H1.out.mono ?_
    rintro e w1 ⟨rfl, b1⟩
    go_wp2
    go_ret2
    exact ⟨_, rfl, World.ownsRow_nil w1 w.heap.size 3 1, b1⟩
end Go.Proofs.YtkngijkhhonikaaDoor
