/- The program's code of a graph, by a range over the pairs. -/
import Derived.RangeFuncBox
import Derived.Test.YtjkepoalepmjoaaDoorCodeIn
import Derived.Test.YtjkepoalepmjoaaDoorBaseA
import Derived.Test.YtjkepoalepmjoaaDoorSpecCode
namespace Go.Proofs.YtjkepoalepmjoaaDoor
open Go.RowKit Go.Shelf
attribute [local go_sem] Oper.semAt_some
set_option linter.unusedVariables false

/-- How a call that tells a number and true ends. -/
def NumOk (w : World) (x : Nat) (ok : Bool) (e : Ending) (w' : World) : Prop := e = .returned (.tuple #[.int .i64 (x : Nat), .bool ok]) ∧ Below w.heap.size w w'

theorem specGraphCode_yes (B : Nat) (v : Value) (L : List Int) (hg : IsGraph L) (w : World) (h : Row w B v L) :
    Calls Tryd.prog 20 #[v] w (NumOk w (codeOf L) true) := by
  have H1 := Lib.hid (specIn_any B v L true ⟨fun _ => hg, fun _ => rfl⟩ w h)
  obtain ⟨A, c, rfl, hs⟩ := h.seen
  have H2 := Lib.hid (fun w hs => specCode_seen A c L hg w hs)
  clear hg h
  go_enter Tryd.func20, Tryd.ntmps20
  go_wp2_with fail
  refine H1.out.mono ?_
  rintro e w1 ⟨rfl, d, rfl⟩
  go_wp2_with fail
  refine (H2.out (w.drewN d) hs).mono ?_
  rintro e w2 ⟨rfl, rfl⟩
  go_wp2
  go_ret2
  exact ⟨rfl, below_drewN (Below.refl _ _) d⟩
theorem specGraphCode_no (B : Nat) (v : Value) (L : List Int) (hg : ¬ IsGraph L) (w : World) (h : Row w B v L) :
    Calls Tryd.prog 20 #[v] w (NumOk w 0 false) := by
  have H1 := Lib.hid (specIn_any B v L false ⟨fun h => (by cases h), fun h => absurd h hg⟩ w h)
  clear hg h
  go_enter Tryd.func20, Tryd.ntmps20
  go_wp2_with fail
  refine H1.out.mono ?_
  rintro e w1 ⟨rfl, d, rfl⟩
  go_wp2
  go_ret2
  exact ⟨rfl, below_drewN (Below.refl _ _) d⟩
end Go.Proofs.YtjkepoalepmjoaaDoor
