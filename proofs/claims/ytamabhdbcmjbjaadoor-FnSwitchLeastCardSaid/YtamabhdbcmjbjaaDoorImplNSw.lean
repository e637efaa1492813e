/- NearSwitched by the program. -/
import Derived.Test.YtamabhdbcmjbjaaDoorSwitchedFn
import Derived.Test.YtamabhdbcmjbjaaDoorBaseA
namespace Go.Proofs.YtamabhdbcmjbjaaDoor
open Go.RowKit
set_option linter.unusedVariables false
set_option maxRecDepth 100000

set_option maxHeartbeats 1000000 in
theorem implNSw_none (B : Nat) (v : Value) (L : List Int) (z : Int) (hL : ¬ IsGraph L) (w : World) (h : Row w B v L) (hT : Tab w) :
    Calls Tryd.prog 11 #[v, .int .i64 z] w (Told w [] false) := by
  have H1 := Lib.hid (asG_none B v L hL w h hT)
  clear hL h
  go_enter Tryd.func11, Tryd.ntmps11
  go_wp2_with fail
  refine H1.out.mono ?_
  rintro e w1 ⟨rfl, b1⟩
  go_wp2
  go_ret2
  exact ⟨_, rfl, World.ownsRow_nil w1 w.heap.size 3 1, b1⟩
set_option maxHeartbeats 1000000 in
theorem implNSw_bad (B : Nat) (v : Value) (L : List Int) (z : Int) (hL : IsGraph L) (hz : ¬ (0 ≤ z ∧ z < ((2 ^ L.length : Nat) : Int))) (w : World) (h : Row w B v L) (hT : Tab w) :
    Calls Tryd.prog 11 #[v, .int .i64 z] w (Told w [] false) := by
  have l6 := hL.2.1
  have H1 := Lib.hid (asG_graph B v L hL w h hT)
  obtain ⟨A, c, rfl, s1⟩ := h.seen
  have HD := Lib.hid (decide_eq_false hz)
  have HH := Lib.hid (fun w => hasSet_any A L.length c z l6 w)
  rw [HD.out] at HH
  obtain ⟨n, hn⟩ : ∃ n, n = L.length := ⟨_, rfl⟩
  rw [← hn] at H1 HH ⊢
  clear hL h s1 hz hn HD
  go_enter Tryd.func11, Tryd.ntmps11
  go_wp2_with fail
  refine H1.out.mono ?_
  rintro e w1 ⟨rfl, b1⟩
  go_wp2_with fail
  refine (HH.out w1).mono ?_
  rintro e w2 ⟨rfl, rfl⟩
  go_wp2
  go_ret2
  exact ⟨_, rfl, World.ownsRow_nil w1 w.heap.size 3 1, b1⟩
set_option maxHeartbeats 1000000 in
theorem implNSw_good (B : Nat) (v : Value) (L : List Int) (s : Nat) (hL : IsGraph L) (hs : s < 2 ^ L.length) (w : World) (h : Row w B v L) (hT : Tab w) :
    Calls Tryd.prog 11 #[v, .int .i64 s] w (Told w (swL L s) true) := by
  have l6 := hL.2.1
  have h2 := hT.lt
  have H1 := Lib.hid (asG_graph B v L hL w h hT)
  obtain ⟨A, c, rfl, s1⟩ := h.seen
  have S1 := Lib.hid s1
  have HT := Lib.hid hT
  have HH := Lib.hid (fun w => hasSet_any A L.length c s l6 w)
  have hd : decide (0 ≤ (s : Int) ∧ (s : Int) < ((2 ^ L.length : Nat) : Int)) = true := by rw [decide_eq_true_eq]; omega
  rw [hd] at HH
  have H3 := Lib.hid (fun w h t => callsIn_wide.1 (switchedAt_in A c s L hL hs w h t))
  obtain ⟨n, hn⟩ : ∃ n, n = L.length := ⟨_, rfl⟩
  rw [← hn] at H1 HH H3 ⊢
  have hfd : ∀ (A : Option Addr) (l c : Nat) (w : World), (Instr.field 49 (.agg #[.slice A l c]) 0).run Tryd.prog w = .ok (.slice A l c) w := fun _ _ _ _ => rfl
  clear hL h s1 hs hn hT hd
  go_enter Tryd.func11, Tryd.ntmps11
  go_wp2_with fail
  refine H1.out.mono ?_
  rintro e w1 ⟨rfl, b1⟩
  go_wp2_with fail
  refine (HH.out w1).mono ?_
  rintro e w2 ⟨rfl, rfl⟩
  go_wp2_with fail
  refine (H3.out w1 (S1.out.below b1) (HT.out.below b1 (by omega))).mono ?_
  rintro e w3 ⟨u, rfl, ru, b4⟩
  have ru' := ru.mono b1.size
  have b5 := b1.trans (b4.mono b1.size)
  obtain ⟨A2, c2, rfl, _⟩ := ru.seen
  have RU := Lib.hid ru'
  clear ru ru' b4
  go_wp2
  go_ret2
  exact ⟨_, rfl, RU.out, b5⟩
end Go.Proofs.YtamabhdbcmjbjaaDoor
