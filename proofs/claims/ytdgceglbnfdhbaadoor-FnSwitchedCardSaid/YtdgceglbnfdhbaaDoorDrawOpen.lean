/- Bytes are opened for reading. -/
import Derived.Test.YtdgceglbnfdhbaaDoorDrawGraph
namespace Go.Proofs.YtdgceglbnfdhbaaDoor
open Go Go.RowKit
set_option linter.unusedVariables false
set_option maxRecDepth 100000

/-- How l6Open ends: a reader's box, new. -/
def Opens (w : World) (A : Option Addr) (e : Ending) (w' : World) : Prop :=
  ∃ (bs : List Nat) (c : Nat), e = .returned (.pointer (some ⟨w.heap.size, 0, none⟩)) ∧ bs.length ≤ 2000 ∧ RdAt w' w.heap.size A bs.length c 0 ∧ Byts w' A bs ∧ Under A bs w.heap.size ∧ Below w.heap.size w w'
theorem Byts.take {w : World} {A : Option Addr} {bs : List Nat} (h : Byts w A bs) (n : Nat) : Byts w A (bs.take n) := fun k hk => by
  rw [List.length_take] at hk
  have e : (bs.take n)[k]?.getD 0 = bs[k]?.getD 0 := by rw [List.getElem?_take_of_lt (by omega)]
  rw [e]
  exact h k (by omega)
theorem opens_of {w : World} {A : Option Addr} {bs : List Nat} {c : Nat} (h : Byts w A bs) (hl : bs.length ≤ 2000) (hA : Under A bs w.heap.size) :
    Opens w A (.returned (.pointer (some ⟨w.heap.size, 0, none⟩))) (w.alloc (.cells #[.slice A bs.length c, .int .i64 0] 85)) :=
  ⟨bs, c, rfl, hl, heap_alloc_new w _, h.below ((Below.refl _ _).alloc (Nat.le_refl _) _) hA, hA, (Below.refl _ _).alloc (Nat.le_refl _) _⟩

theorem open_any (A : Option Addr) (c : Nat) (bs : List Nat) (w : World) (h : Byts w A bs) (hc : bs.length ≤ c) (hA : Under A bs w.heap.size) :
    Calls Tryd.prog 62 #[.slice A bs.length c] w (Opens w A) := by
  by_cases hl : bs.length ≤ 2000
  · have hd : decide ((2000 : Int) < (bs.length : Int)) = false := decide_eq_false (by omega)
    have HO := Lib.hid (opens_of (c := c) h hl hA)
    obtain ⟨n, hn⟩ : ∃ n, n = bs.length := ⟨_, rfl⟩
    rw [← hn] at hd HO ⊢
    clear hl h hA hc hn
    go_enter Tryd.func62, Tryd.ntmps62
    go_wp2
    go_ret
    exact HO.out
  · have hd : decide ((2000 : Int) < (bs.length : Int)) = true := decide_eq_true (by omega)
    have hlt : (bs.take 2000).length = 2000 := by rw [List.length_take]; omega
    have ho := opens_of (c := c) (h.take 2000) (by omega) (fun h0 => hA (by omega))
    rw [hlt] at ho
    have HO := Lib.hid ho
    obtain ⟨b, off, rfl, _⟩ := h 0 (by omega)
    obtain ⟨n, hn⟩ : ∃ n, n = bs.length := ⟨_, rfl⟩
    rw [← hn] at hd hl hc ⊢
    have hc2 : 2000 ≤ c := by omega
    have hi : (0 : Int) ≤ 2000 ∧ (2000 : Int) ≤ (c : Int) := by omega
    clear hl h hA hn ho hlt
    go_enter Tryd.func62, Tryd.ntmps62
    go_wp2
    go_ret
    exact HO.out
end Go.Proofs.YtdgceglbnfdhbaaDoor
