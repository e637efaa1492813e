/- NearLeast and NearNames, by the program and by the model. -/
import Derived.Test.YtamabhdbcmjbjaaDoorNearestFn
import Derived.Test.YtamabhdbcmjbjaaDoorSpecNear
import Derived.Test.YtamabhdbcmjbjaaDoorBaseA
import Derived.Test.YtamabhdbcmjbjaaDoorAsGraphs
namespace Go.Proofs.YtamabhdbcmjbjaaDoor
open Go Go.RowKit
set_option linter.unusedVariables false
set_option maxRecDepth 100000

/-- Two graphs of as many nodes. -/
def IsPair (L M : List Int) : Prop := IsGraph L ∧ IsGraph M ∧ L.length = M.length
/-- Names, their distance, and true. -/
def GaveB (w : World) (P : List Nat) (d : Nat) (e : Ending) (w' : World) : Prop := ∃ v, e = .returned (.tuple #[v, .int .i64 (d : Nat), .bool true]) ∧ Row w' w.heap.size v (ints P) ∧ Below w.heap.size w w'
def GaveNo (w : World) (e : Ending) (w' : World) : Prop := e = .returned (.tuple #[.slice none 0 0, .int .i64 0, .bool false]) ∧ Below w.heap.size w w'
set_option maxHeartbeats 1000000 in
theorem nearestOf_yes (B B' : Nat) (v v' : Value) (L M : List Int) (hp : IsPair L M) (w : World) (h : Row w B v L) (h' : Row w B' v' M) (hT : Tab w) :
    Calls Tryd.prog 41 #[v, v'] w (GaveB w (nearN L M) (unlike L M (nearN L M))) := by
  obtain ⟨hL, hM, hlm⟩ := hp
  have h2 := hT.lt
  have H1 := Lib.hid (asGs_yes B B' v v' L M hL hM w h h' hT)
  obtain ⟨A, c, rfl, s1⟩ := h.seen
  obtain ⟨A', c', rfl, s2⟩ := h'.seen
  have H2 := Lib.hid (fun w1 (b : Below w.heap.size w w1) => callsIn_wide.1 (nearest_in A A' c c' L M hL hM hlm w1 (s1.below b) (s2.below b) (hT.below b (by omega))))
  rw [← hlm] at H1 H2 ⊢
  obtain ⟨d, ed⟩ : ∃ d, d = unlike L M (nearN L M) := ⟨_, rfl⟩
  rw [← ed] at H2 ⊢
  obtain ⟨n, hn⟩ : ∃ n, n = L.length := ⟨_, rfl⟩
  rw [← hn] at H1 H2 ⊢
  clear hL hM hlm h h' hT s1 s2 ed hn
  go_enter Tryd.func41, Tryd.ntmps41
  go_wp2_with fail
  refine H1.out.mono ?_
  rintro e w1 ⟨rfl, b1⟩
  go_wp2_with fail
  refine (H2.out w1 b1).mono ?_
  rintro e w2 ⟨u, rfl, hu, b2⟩
  have r2 := hu.mono b1.size
  have b12 := b1.trans (b2.mono b1.size)
  clear hu b2 b1
  go_wp2
  go_ret3
  exact ⟨u, rfl, r2, b12⟩
set_option maxHeartbeats 1000000 in
theorem nearestOf_no (B B' : Nat) (v v' : Value) (L M : List Int) (hp : ¬ IsPair L M) (w : World) (h : Row w B v L) (h' : Row w B' v' M) (hT : Tab w) :
    Calls Tryd.prog 41 #[v, v'] w (GaveNo w) := by
  by_cases hL : IsGraph L
  · by_cases hM : IsGraph M
    · have hlm : ¬ L.length = M.length := fun q => hp ⟨hL, hM, q⟩
      have H1 := Lib.hid (asGs_yes B B' v v' L M hL hM w h h' hT)
      obtain ⟨A, c, rfl, s1⟩ := h.seen
      obtain ⟨A', c', rfl, s2⟩ := h'.seen
      have hne : ((L.length : Int) != (M.length : Int)) = true := by simp; omega
      obtain ⟨n, hn⟩ : ∃ n, n = L.length := ⟨_, rfl⟩
      obtain ⟨m, hm⟩ : ∃ m, m = M.length := ⟨_, rfl⟩
      rw [← hn, ← hm] at H1 hne ⊢
      clear hL hM hlm h h' hT s1 s2 hn hm hp
      go_enter Tryd.func41, Tryd.ntmps41
      go_wp2_with fail
      refine H1.out.mono ?_
      rintro e w1 ⟨rfl, b1⟩
      go_wp2
      go_ret3
      exact ⟨rfl, b1⟩
    · have H1 := Lib.hid (asGs_second B B' v v' L M hL hM w h h' hT)
      clear hL hM h h' hT hp
      go_enter Tryd.func41, Tryd.ntmps41
      go_wp2_with fail
      refine H1.out.mono ?_
      rintro e w1 ⟨rfl, b1⟩
      go_wp2
      go_ret3
      exact ⟨rfl, b1⟩
  · have H1 := Lib.hid (asGs_first B B' v v' L M hL w h h' hT)
    clear hL h h' hT hp
    go_enter Tryd.func41, Tryd.ntmps41
    go_wp2_with fail
    refine H1.out.mono ?_
    rintro e w1 ⟨rfl, b1⟩
    go_wp2
    go_ret3
    exact ⟨rfl, b1⟩
theorem implNl_yes (B B' : Nat) (v v' : Value) (L M : List Int) (hp : IsPair L M) (w : World) (h : Row w B v L) (h' : Row w B' v' M) (hT : Tab w) :
    Calls Tryd.prog 17 #[v, v'] w (NumOkA w (unlike L M (nearN L M)) true) := by
  have H1 := Lib.hid (nearestOf_yes B B' v v' L M hp w h h' hT)
  obtain ⟨d, ed⟩ : ∃ d, d = unlike L M (nearN L M) := ⟨_, rfl⟩
  rw [← ed] at H1 ⊢
  clear hp h h' hT ed
  go_enter Tryd.func17, Tryd.ntmps17
  go_wp2_with fail
  refine H1.out.mono ?_
  rintro e w1 ⟨u, rfl, hu, b1⟩
  clear hu
  go_wp2
  go_ret2
  exact ⟨rfl, b1⟩
theorem implNl_no (B B' : Nat) (v v' : Value) (L M : List Int) (hp : ¬ IsPair L M) (w : World) (h : Row w B v L) (h' : Row w B' v' M) (hT : Tab w) :
    Calls Tryd.prog 17 #[v, v'] w (NumOkA w 0 false) := by
  have H1 := Lib.hid (nearestOf_no B B' v v' L M hp w h h' hT)
  clear hp h h' hT
  go_enter Tryd.func17, Tryd.ntmps17
  go_wp2_with fail
  refine H1.out.mono ?_
  rintro e w1 ⟨rfl, b1⟩
  go_wp2
  go_ret2
  exact ⟨rfl, b1⟩
set_option maxHeartbeats 1000000 in
theorem nearPair_any (B B' : Nat) (v v' : Value) (L M : List Int) (b : Bool) (hb : b = true ↔ IsPair L M) (w : World) (h : Row w B v L) (h' : Row w B' v' M) :
    Calls Tryd.prog 42 #[v, v'] w fun e w' => e = .returned (.bool b) ∧ ∃ d, w' = w.drewN d := by
  by_cases hL : IsGraph L
  · have H1 := Lib.hid (specIn_any B v L true ⟨fun _ => hL, fun _ => rfl⟩ w h)
    by_cases hM : IsGraph M
    · have H2 := Lib.hid (fun w h => specIn_any B' v' M true ⟨fun _ => hM, fun _ => rfl⟩ w h)
      have HR := Lib.hid h'
      obtain ⟨A, c, rfl, s1⟩ := h.seen
      obtain ⟨A', c', rfl, s2⟩ := h'.seen
      have hbl : b = true ↔ L.length = M.length := ⟨fun q => (hb.1 q).2.2, fun q => hb.2 ⟨hL, hM, q⟩⟩
      have he : ((L.length : Int) == (M.length : Int)) = b := by rw [Bool.eq_iff_iff, hbl]; simp; omega
      obtain ⟨n, hn⟩ : ∃ n, n = L.length := ⟨_, rfl⟩
      obtain ⟨m, hm⟩ : ∃ m, m = M.length := ⟨_, rfl⟩
      rw [← hn] at H1 he ⊢
      rw [← hm] at H2 HR he ⊢
      clear hL hM h h' s1 s2 hn hm hb hbl
      go_enter Tryd.func42, Tryd.ntmps42
      go_wp2_with fail
      refine H1.out.mono ?_
      rintro e w1 ⟨rfl, d, rfl⟩
      go_wp2_with fail
      refine (H2.out (w.drewN d) HR.out).mono ?_
      rintro e w2 ⟨rfl, d2, rfl⟩
      go_wp2
      go_ret
      exact ⟨rfl, _, rfl⟩
    · have H2 := Lib.hid (fun w h => specIn_any B' v' M false ⟨fun h => (by cases h), fun h => absurd h hM⟩ w h)
      have HR := Lib.hid h'
      obtain rfl : b = false := by
        cases b with
        | false => rfl
        | true => exact absurd (hb.1 rfl).2.1 hM
      clear hL hM h h' hb
      go_enter Tryd.func42, Tryd.ntmps42
      go_wp2_with fail
      refine H1.out.mono ?_
      rintro e w1 ⟨rfl, d, rfl⟩
      go_wp2_with fail
      refine (H2.out (w.drewN d) HR.out).mono ?_
      rintro e w2 ⟨rfl, d2, rfl⟩
      go_wp2
      go_ret
      exact ⟨rfl, _, rfl⟩
  · have H1 := Lib.hid (specIn_any B v L false ⟨fun h => (by cases h), fun h => absurd h hL⟩ w h)
    obtain rfl : b = false := by
      cases b with
      | false => rfl
      | true => exact absurd (hb.1 rfl).1 hL
    clear hL h h' hb
    go_enter Tryd.func42, Tryd.ntmps42
    go_wp2_with fail
    refine H1.out.mono ?_
    rintro e w1 ⟨rfl, d, rfl⟩
    go_wp2
    go_ret
    exact ⟨rfl, _, rfl⟩
set_option maxHeartbeats 1000000 in
theorem specNl_yes (B B' : Nat) (v v' : Value) (L M : List Int) (hp : IsPair L M) (w : World) (h : Row w B v L) (h' : Row w B' v' M) :
    Calls Tryd.prog 18 #[v, v'] w (NumOkA w (unlike L M (nearN L M)) true) := by
  have H1 := Lib.hid (nearPair_any B B' v v' L M true ⟨fun _ => hp, fun _ => rfl⟩ w h h')
  obtain ⟨hL, hM, hlm⟩ := hp
  obtain ⟨A, c, rfl, s1⟩ := h.seen
  obtain ⟨A', c', rfl, s2⟩ := h'.seen
  have H2 := Lib.hid (fun w1 (b : Below w.heap.size w w1) => specBest_seen A A' c c' L M hL hM hlm w1 (s1.below b) (s2.below b))
  obtain ⟨d, ed⟩ : ∃ d, d = unlike L M (nearN L M) := ⟨_, rfl⟩
  rw [← ed] at H2 ⊢
  clear hL hM hlm h h' s1 s2 ed
  go_enter Tryd.func18, Tryd.ntmps18
  go_wp2_with fail
  refine H1.out.mono ?_
  rintro e w1 ⟨rfl, d1, rfl⟩
  have b1 := below_drewN (Below.refl w.heap.size w) d1
  go_wp2_with fail
  refine (H2.out _ b1).mono ?_
  rintro e w2 ⟨u, rfl, hu, b2⟩
  have b12 := b1.trans (b2.mono b1.size)
  clear hu b2 b1
  go_wp2
  go_ret2
  exact ⟨rfl, b12⟩
theorem specNl_no (B B' : Nat) (v v' : Value) (L M : List Int) (hp : ¬ IsPair L M) (w : World) (h : Row w B v L) (h' : Row w B' v' M) :
    Calls Tryd.prog 18 #[v, v'] w (NumOkA w 0 false) := by
  have H1 := Lib.hid (nearPair_any B B' v v' L M false ⟨fun q => (by cases q), fun q => absurd q hp⟩ w h h')
  clear hp h h'
  go_enter Tryd.func18, Tryd.ntmps18
  go_wp2_with fail
  refine H1.out.mono ?_
  rintro e w1 ⟨rfl, d1, rfl⟩
  have b1 := below_drewN (Below.refl w.heap.size w) d1
  go_wp2
  go_ret2
  exact ⟨rfl, b1⟩
end Go.Proofs.YtamabhdbcmjbjaaDoor
