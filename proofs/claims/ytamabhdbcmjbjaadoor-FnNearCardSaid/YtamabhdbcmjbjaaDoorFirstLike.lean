/- What firstLikeness tells. -/
import Derived.Test.YtamabhdbcmjbjaaDoorFirst
namespace Go.Proofs.YtamabhdbcmjbjaaDoor
open Go Go.RowKit Go.Shelf
attribute [local go_sem] Oper.semAt_some
set_option linter.unusedVariables false
set_option maxRecDepth 100000

set_option maxHeartbeats 1000000 in
theorem firstLike_len (A A' : Option Addr) (n n' c c' : Nat) (h : n ≠ n') (w : World) :
    CallsIn Fence.wide 12 Tryd.prog 72 #[.slice A n c, .slice A' n' c'] w (Told w [] false) := by
  have X0 := (Boxed.new w 23 (.slice none 0 0)).alloc (.cells #[.bool false] 4)
  have X1 := Boxed.new (w.alloc (.cells #[.slice none 0 0] 23)) 4 (.bool false)
  rw [World.size_alloc] at X1
  have hd : ((n : Int) == (n' : Int)) = false := by simp; omega
  have Y0 := Lib.hid X0
  have Y1 := Lib.hid X1
  have B0 := Lib.hid ((((Below.refl w.heap.size w).alloc (Nat.le_refl _) (.cells #[.slice none 0 0] 23)).alloc (by simp) (.cells #[.bool false] 4)))
  clear h X0 X1
  refine callsIn_of_wp_marks Tryd.func72 rfl trivial ?_ rfl
  simp only [Tryd.ntmps72, List.size_toArray, List.length_cons, List.length_nil, Nat.reduceAdd, Nat.reduceSub, Array.replicate_succ, Array.replicate_zero, List.push_toArray, List.append_toArray, List.nil_append, List.cons_append]
  gi_wp2
  have z0 := Y0.out.cell
  have z1 := Y1.out.cell
  exact ⟨.tuple #[.slice none 0 0, .bool false], by simp [results, Tryd.f72, go_sem, z0, z1], _, rfl, World.ownsRow_nil _ w.heap.size 3 1, B0.out⟩

/-- What AlikeFirst tells of two graphs of as many nodes. -/
def firstL (Ls : List (List Nat)) : List Int := ints (Ls.head?.getD [])
theorem firstR_is {w : World} {Ls : List (List Nat)} {e : Ending} {w' : World} (h : FirstR w Ls e w') : Told w (firstL Ls) (!Ls.isEmpty) e w' := by
  cases Ls with
  | nil => exact h
  | cons P t => exact h
end Go.Proofs.YtamabhdbcmjbjaaDoor
