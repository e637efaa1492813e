/- The iterator over the edges, handed out; what its rounds keep. -/
import Derived.RangeFuncBox
import Derived.Test.YtcblcifnpgmibaaDoorEdges
namespace Go.Proofs.YtcblcifnpgmibaaDoor
open Go.RowKit Go.Shelf
attribute [local go_sem] Oper.semAt_some
set_option linter.unusedVariables false
set_option maxRecDepth 100000

/-- edges hands out its iterator; the graph lies in a box. -/
theorem edgesIt_any (A : Option Addr) (n c : Nat) (w : World) : Calls Tryd.prog 81 #[.slice A n c] w fun e w' =>
    e = .returned (.func (.func 86) #[] #[.pointer (some ⟨w.heap.size, 0, none⟩)]) ∧ w.alloc (.cells #[.slice A n c] 36) = w' := by
  have hmf : ∀ (fn : Fn) (first cap : Array Value) (w : World), (Instr.makeFunc fn first cap).run Tryd.prog w = .ok (.func fn first cap) w := fun _ _ _ _ => rfl
  go_enter Tryd.func81, Tryd.ntmps81
  go_wp2
  go_ret
  exact ⟨rfl, rfl⟩
theorem keepG_tr {B : Nat} {A : Option Addr} {c n : Nat} {L : List Int} {X Y Z : World} (h : KeepG B A c n L X Y) (k : KeepG B A c n L Y Z) : KeepG B A c n L X Z := ⟨fun x => k.1 (h.1 x), fun x => k.2 (h.2 x)⟩
theorem keepG_bk {B : Nat} {A : Option Addr} {c n : Nat} {L : List Int} (W : World) (l : Nat) (o o' : Obj) (h : W.heap[l]? = some o) (ho : o.isCells = false) : KeepG B A c n L W (W.putObj l o') :=
  ⟨fun x => (boxed_own (β := Unit) B _ (fun _ => _)).putObj (s := ()) o' x h ho, fun x => (seen_own (β := Unit) A L).putObj (s := ()) o' x h ho⟩

theorem vals_edgesOf {m : Nat} (L : List Int) (ys : List (Pr m)) : vals (edgesOf L ys) = edgesIn L (vals ys) := by
  unfold edgesIn vals edgesOf
  rw [List.filter_map]
  rfl

theorem size_own {β : Type} (m : Nat) : Own (fun (_ : β) (W : World) => m ≤ W.heap.size) := fun _ X Y row h hg _ => Nat.le_trans h hg.size
end Go.Proofs.YtcblcifnpgmibaaDoor
