/- The law FnExactAlikeFirst returns true at each two lists, and leaves all that was there as it was. -/
import Derived.Test.YtcemhepojjbcgaaDoorSpecFirst
import Derived.Test.YtcemhepojjbcgaaDoorBaseA
import Derived.Test.YtcemhepojjbcgaaDoorBaseL
namespace Go.Proofs.YtcemhepojjbcgaaDoor
open Go Go.RowKit Go.Shelf
attribute [local go_sem] Oper.semAt_some
set_option linter.unusedVariables false
set_option maxRecDepth 100000


theorem empty_at (w : World) (d : Nat) : Row ((w.drewN d).alloc (.cells #[] 3)) w.heap.size (.slice (some ⟨w.heap.size, 0, none⟩) 0 0) [] := empty_list (w.drewN d)
set_option maxHeartbeats 1000000 in
theorem specFirst_first (B B' : Nat) (v v' : Value) (L M : List Int) (hL : ¬ IsGraph L) (w : World) (h : Row w B v L) (h' : Row w B' v' M) :
    Calls Tryd.prog 21 #[v, v'] w (Told w [] false) := by
  have H1 := Lib.hid (specIn_any B v L false ⟨fun h => (by cases h), fun h => absurd h hL⟩ w h)
  clear hL h h'
  go_enter Tryd.func21, Tryd.ntmps21
  go_wp2_with fail
  refine H1.out.mono ?_
  rintro e w1 ⟨rfl, d, rfl⟩
  go_wp2
  go_ret2
  exact ⟨_, rfl, empty_at w d, (below_drewN (Below.refl _ w) d).alloc (Nat.le_refl _) _⟩
set_option maxHeartbeats 1000000 in
theorem specFirst_second (B B' : Nat) (v v' : Value) (L M : List Int) (hL : IsGraph L) (hM : ¬ IsGraph M) (w : World) (h : Row w B v L) (h' : Row w B' v' M) :
    Calls Tryd.prog 21 #[v, v'] w (Told w [] false) := by
  have H1 := Lib.hid (specIn_any B v L true ⟨fun _ => hL, fun _ => rfl⟩ w h)
  have H2 := Lib.hid (fun w h => specIn_any B' v' M false ⟨fun h => (by cases h), fun h => absurd h hM⟩ w h)
  clear hL hM h
  go_enter Tryd.func21, Tryd.ntmps21
  go_wp2_with fail
  refine H1.out.mono ?_
  rintro e w1 ⟨rfl, d, rfl⟩
  go_wp2_with fail
  refine (H2.out (w.drewN d) h').mono ?_
  rintro e w2 ⟨rfl, d2, rfl⟩
  go_wp2
  go_ret2
  exact ⟨_, rfl, empty_at w (d + d2), (below_drewN (Below.refl _ w) (d + d2)).alloc (Nat.le_refl _) _⟩
set_option maxHeartbeats 1000000 in
theorem specFirst_len (B B' : Nat) (v v' : Value) (L M : List Int) (hL : IsGraph L) (hM : IsGraph M) (hlm : L.length ≠ M.length) (w : World) (h : Row w B v L) (h' : Row w B' v' M) :
    Calls Tryd.prog 21 #[v, v'] w (Told w [] false) := by
  have H1 := Lib.hid (specIn_any B v L true ⟨fun _ => hL, fun _ => rfl⟩ w h)
  have H2 := Lib.hid (fun w h => specIn_any B' v' M true ⟨fun _ => hM, fun _ => rfl⟩ w h)
  obtain ⟨A, c, rfl, _⟩ := h.seen
  have h2 := h'
  obtain ⟨A', c', rfl, _⟩ := h'.seen
  have hd : ((L.length : Int) == (M.length : Int)) = false := by simp; omega
  clear hL hM h h' hlm
  go_enter Tryd.func21, Tryd.ntmps21
  go_wp2_with fail
  refine H1.out.mono ?_
  rintro e w1 ⟨rfl, d, rfl⟩
  go_wp2_with fail
  refine (H2.out (w.drewN d) h2).mono ?_
  rintro e w2 ⟨rfl, d2, rfl⟩
  go_wp2
  go_ret2
  exact ⟨_, rfl, empty_at w (d + d2), (below_drewN (Below.refl _ w) (d + d2)).alloc (Nat.le_refl _) _⟩

theorem firstR_told {w w0 w1 : World} {Ls : List (List Nat)} {e : Ending} {w' : World} (hb : Below w.heap.size w w1) (h : FirstR w1 Ls e w') : FirstR w Ls e w' := by
  have ht : ∀ L ok, Told w1 L ok e w' → Told w L ok e w' := fun L ok ⟨v, h1, h2, h3⟩ => ⟨v, h1, h2.mono hb.size, hb.trans (h3.mono hb.size)⟩
  cases Ls with
  | nil => exact ht _ _ h
  | cons P t => exact ht _ _ h

set_option maxHeartbeats 1000000 in
theorem implFirst_none (v v' : Value) (w : World) (h : Calls Tryd.prog 60 #[v, v'] w (GsNo w)) :
    Calls Tryd.prog 18 #[v, v'] w (Told w [] false) := by
  have H1 := Lib.hid h
  clear h
  go_enter Tryd.func18, Tryd.ntmps18
  go_wp2_with fail
  refine H1.out.mono ?_
  rintro e w1 ⟨rfl, b1⟩
  go_wp2
  go_ret2
  exact ⟨_, rfl, World.ownsRow_nil w1 w.heap.size 3 1, b1⟩
set_option maxHeartbeats 1000000 in
theorem implFirst_of (B B' : Nat) (v v' : Value) (L M R : List Int) (ok : Bool) (hL : IsGraph L) (hM : IsGraph M) (w : World) (h : Row w B v L) (h' : Row w B' v' M) (hT : Tab w)
    (hF : ∀ A A' c c' w, Seen w A L → Seen w A' M → Tab w → Calls Tryd.prog 65 #[.slice A L.length c, .slice A' M.length c'] w (Told w R ok)) :
    Calls Tryd.prog 18 #[v, v'] w (Told w R ok) := by
  have h2 := hT.lt
  have H1 := Lib.hid (asGs_yes B B' v v' L M hL hM w h h' hT)
  obtain ⟨A, c, rfl, s1⟩ := h.seen
  obtain ⟨A', c', rfl, s2⟩ := h'.seen
  have H2 := Lib.hid (fun w1 (b : Below w.heap.size w w1) => hF A A' c c' w1 (s1.below b) (s2.below b) (hT.below b (by omega)))
  clear hL hM h h' s1 s2 hF hT
  go_enter Tryd.func18, Tryd.ntmps18
  go_wp2_with fail
  refine H1.out.mono ?_
  rintro e w1 ⟨rfl, b1⟩
  go_wp2_with fail
  refine (H2.out w1 b1).mono ?_
  rintro e w2 ⟨u, rfl, r2, b2⟩
  go_wp2
  go_ret2
  exact ⟨u, rfl, r2.mono b1.size, b1.trans (b2.mono b1.size)⟩

theorem firstL_length {L M : List Int} (hL : IsGraph L) (hM : IsGraph M) (hl : L.length = M.length) : (firstL (likeL L M)).length ≤ 1000 := by
  rw [likeL_codes hL hM hl]
  unfold firstL
  rw [ints_length]
  cases e : (permsTo L.length L.length).filter (okC L M) with
  | nil => simp
  | cons P t =>
    have h1 : P ∈ (permsTo L.length L.length).filter (okC L M) := by rw [e]; exact List.mem_cons_self
    have h2 := (perms_names _ _ P (List.mem_filter.1 h1).1).1
    have := hL.2.1
    simp
    omega
end Go.Proofs.YtcemhepojjbcgaaDoor
