/- asGraph at each list; the program's GraphIn. -/
import Derived.Test.YtedjnenbmhajiaaDoorAsGraph
namespace Go.Proofs.YtedjnenbmhajiaaDoor
open Go.RowKit Go.Shelf
attribute [local go_sem] Oper.semAt_some
set_option linter.unusedVariables false

set_option maxRecDepth 100000 in
set_option maxHeartbeats 2000000 in
theorem asG_size (A : Option Addr) (n c : Nat) (w : World) (h : n = 0 ∨ 6 < n) :
    CallsIn Fence.wide 9 Tryd.prog 49 #[.slice A n c] w fun e w' => e = .returned (.tuple #[.slice none 0 0, .bool false]) ∧ Below w.heap.size w w' := by
  have X0 := ((Boxed.new w 38 (.slice none 0 0)).alloc (.cells #[.bool false] 4)).alloc (.cells #[.slice A n c] 38)
  have X1 := (Boxed.new (w.alloc (.cells #[.slice none 0 0] 38)) 4 (.bool false)).alloc (.cells #[.slice A n c] 38)
  rw [World.size_alloc] at X1
  have Y0 := Lib.hid X0
  have Y1 := Lib.hid X1
  have B0 := Lib.hid (((((Below.refl w.heap.size w).alloc (Nat.le_refl _) (.cells #[.slice none 0 0] 38)).alloc (by simp) (.cells #[.bool false] 4)).alloc (by simp; omega) (.cells #[.slice A n c] 38)))
  clear X0 X1
  have hd : (decide ((n : Int) < 1) = true ∧ n = 0) ∨ (decide ((n : Int) < 1) = false ∧ decide ((6 : Int) < (n : Int)) = true) := by
    rcases h with h | h
    · exact .inl ⟨by simp; omega, h⟩
    · exact .inr ⟨by simp; omega, by simp; omega⟩
  clear h
  rcases hd with ⟨hd, rfl⟩ | ⟨hd, he⟩
  all_goals
    refine callsIn_of_wp_marks Tryd.func49 rfl trivial ?_ rfl
    simp only [Tryd.ntmps49, List.size_toArray, List.length_cons, List.length_nil, Nat.reduceAdd, Nat.reduceSub, Array.replicate_succ, Array.replicate_zero, List.push_toArray, List.append_toArray, List.nil_append, List.cons_append]
    gi_wp2
    have z0 := Y0.out.cell
    have z1 := Y1.out.cell
    exact ⟨.tuple #[.slice none 0 0, .bool false], by simp [results, Tryd.f49, go_sem, z0, z1], rfl, B0.out⟩

/-- **asGraph, at each list that the call owns.** -/
theorem asG_any (B : Nat) (v : Value) (L : List Int) (b : Bool) (hb : b = true ↔ IsGraph L) (w : World) (h : Row w B v L) (hT : Tab w) :
    Calls Tryd.prog 49 #[v] w (AsG w v b) := by
  obtain ⟨A, c, rfl, hs⟩ := h.seen
  by_cases hl : 1 ≤ L.length ∧ L.length ≤ 6
  · exact callsIn_wide.1 (asG_seen A c L b hb w hs hT hl.1 hl.2)
  · refine (callsIn_wide.1 (asG_size A L.length c w (by omega))).mono fun e w' ⟨he, hw⟩ => ?_
    rw [he]
    exact asG_no hb (fun hg => hl ⟨hg.1, hg.2.1⟩) hw

/-- How asGraph ends at a graph; at another list. -/
def AsYes (w : World) (v : Value) (e : Ending) (w' : World) : Prop := e = .returned (.tuple #[v, .bool true]) ∧ Below w.heap.size w w'
def AsNo (w : World) (e : Ending) (w' : World) : Prop := e = .returned (.tuple #[.slice none 0 0, .bool false]) ∧ Below w.heap.size w w'
theorem asG_graph (B : Nat) (v : Value) (L : List Int) (hg : IsGraph L) (w : World) (h : Row w B v L) (hT : Tab w) :
    Calls Tryd.prog 49 #[v] w (AsYes w v) :=
  (asG_any B v L true ⟨fun _ => hg, fun _ => rfl⟩ w h hT).mono fun e w' ⟨he, hw⟩ => ⟨he, hw⟩
theorem asG_none (B : Nat) (v : Value) (L : List Int) (hno : ¬ IsGraph L) (w : World) (h : Row w B v L) (hT : Tab w) :
    Calls Tryd.prog 49 #[v] w (AsNo w) :=
  (asG_any B v L false ⟨fun h => (by cases h), fun hg => absurd hg hno⟩ w h hT).mono fun e w' ⟨he, hw⟩ => ⟨he, hw⟩

/-- How a call that tells a bool ends. -/
def Said1 (w : World) (b : Bool) (e : Ending) (w' : World) : Prop := e = .returned (.bool b) ∧ Below w.heap.size w w'
end Go.Proofs.YtedjnenbmhajiaaDoor
