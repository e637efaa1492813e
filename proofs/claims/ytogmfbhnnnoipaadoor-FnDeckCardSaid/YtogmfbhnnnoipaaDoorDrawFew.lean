/- A list of one to five nodes is drawn from bytes. -/
import Derived.Test.YtogmfbhnnnoipaaDoorDrawGraph
import Derived.Test.YtogmfbhnnnoipaaDoorFnDeckLaw
namespace Go.Proofs.YtogmfbhnnnoipaaDoor
open Go Go.RowKit
set_option linter.unusedVariables false
set_option maxRecDepth 100000

/-- How l6Open ends: a reader's box, new. -/
def Opens (w : World) (A : Option Addr) (e : Ending) (w' : World) : Prop :=
  ∃ (bs : List Nat) (c : Nat), e = .returned (.pointer (some ⟨w.heap.size, 0, none⟩)) ∧ bs.length ≤ 2000 ∧ RdAt w' w.heap.size A bs.length c 0 ∧ Byts w' A bs ∧ Under A bs w.heap.size ∧ Below w.heap.size w w'
theorem Byts.take {w : World} {A : Option Addr} {bs : List Nat} (h : Byts w A bs) (n : Nat) : Byts w A (bs.take n) := fun k hk => by
  rw [List.length_take] at hk
  have e : (bs.take n)[k]?.getD 0 = bs[k]?.getD 0 := by rw [List.getElem?_take_of_lt (by omega)]
  rw [e]
  exact h k (by omega)
theorem opens_of {w : World} {A : Option Addr} {bs : List Nat} {c : Nat} (h : Byts w A bs) (hl : bs.length ≤ 2000) (hA : Under A bs w.heap.size) :
    Opens w A (.returned (.pointer (some ⟨w.heap.size, 0, none⟩))) (w.alloc (.cells #[.slice A bs.length c, .int .i64 0] 112)) :=
  ⟨bs, c, rfl, hl, heap_alloc_new w _, h.below ((Below.refl _ _).alloc (Nat.le_refl _) _) hA, hA, (Below.refl _ _).alloc (Nat.le_refl _) _⟩

theorem open_any (A : Option Addr) (c : Nat) (bs : List Nat) (w : World) (h : Byts w A bs) (hc : bs.length ≤ c) (hA : Under A bs w.heap.size) :
    Calls Tryd.prog 93 #[.slice A bs.length c] w (Opens w A) := by
  by_cases hl : bs.length ≤ 2000
  · have hd : decide ((2000 : Int) < (bs.length : Int)) = false := decide_eq_false (by omega)
    have HO := Lib.hid (opens_of (c := c) h hl hA)
    obtain ⟨n, hn⟩ : ∃ n, n = bs.length := ⟨_, rfl⟩
    rw [← hn] at hd HO ⊢
    clear hl h hA hc hn
    go_enter Tryd.func93, Tryd.ntmps93
    go_wp2
    go_ret
    exact HO.out
  · have hd : decide ((2000 : Int) < (bs.length : Int)) = true := decide_eq_true (by omega)
    have hlt : (bs.take 2000).length = 2000 := by rw [List.length_take]; omega
    have ho := opens_of (c := c) (h.take 2000) (by omega) (fun h0 => hA (by omega))
    rw [hlt] at ho
    have HO := Lib.hid ho
    obtain ⟨b, off, rfl, _⟩ := h 0 (by omega)
    obtain ⟨n, hn⟩ : ∃ n, n = bs.length := ⟨_, rfl⟩
    rw [← hn] at hd hl hc ⊢
    have hc2 : 2000 ≤ c := by omega
    have hi : (0 : Int) ≤ 2000 ∧ (2000 : Int) ≤ (c : Int) := by omega
    clear hl h hA hn ho hlt
    go_enter Tryd.func93, Tryd.ntmps93
    go_wp2
    go_ret
    exact HO.out

theorem few_any (A : Option Addr) (c : Nat) (bs : List Nat) (w : World) (h : Byts w A bs) (hc : bs.length ≤ c) (hA : Under A bs w.heap.size) :
    Calls Tryd.prog 70 #[.slice A bs.length c] w (Drew w) := by
  have HO := Lib.hid (open_any A c bs w h hc hA)
  obtain ⟨n, hn⟩ : ∃ n, n = bs.length := ⟨_, rfl⟩
  rw [← hn] at HO ⊢
  clear h hc hA hn
  go_enter Tryd.func70, Tryd.ntmps70
  go_wp2_with fail
  refine HO.out.mono ?_
  rintro e w1 ⟨bs', c', rfl, hl, hR, hb, hA', hbe⟩
  have HA' := Lib.hid hA'
  have HR := Lib.hid hR
  have HB := Lib.hid hb
  have HBE := Lib.hid hbe
  have HP := Lib.hid (pick_any w.heap.size A c' 0 5 bs' (by omega) (by omega) (by omega) hl w1 hR hb hA')
  clear hR hb hbe hA'
  go_wp2_with fail
  refine HP.out.mono ?_
  rintro e w2 ⟨x, d, hx, rfl, hw2⟩
  have hbR : Below w.heap.size w1 ((w1.setCell ⟨w.heap.size, 1, none⟩ (.int .i64 ((0 + 1 : Nat) : Nat))).drewN d) := below_drewN ((Below.refl w.heap.size w1).setCell (p := ⟨w.heap.size, 1, none⟩) (Nat.le_refl _) _) d
  have HR2 := Lib.hid (show RdAt w2 w.heap.size A bs'.length c' 1 by rw [hw2]; exact HR.out.next 1)
  have HB2 := Lib.hid (show Byts w2 A bs' by rw [hw2]; exact HB.out.below hbR HA'.out)
  have HBE2 := Lib.hid (show Below w.heap.size w w2 by rw [hw2]; exact HBE.out.trans hbR)
  obtain ⟨y, hy⟩ : ∃ y, y = x + 1 := ⟨_, rfl⟩
  have hs : (1 : Int) + (x : Int) = (y : Nat) := by omega
  have hw := wrapN y (by omega)
  have HG := Lib.hid (drawGraph_any w.heap.size A c' 1 y bs' (by omega) (by omega) (by omega) hl w2 HR2.out HB2.out HA'.out)
  have hy5 : y ≤ 5 := by omega
  have hy1 : 1 ≤ y := by omega
  clear hw2 hbR hy
  go_wp2_with fail
  refine HG.out.mono ?_
  rintro e w3 ⟨v, L, rfl, hL, hr, hb3⟩
  have HR3 := Lib.hid hr
  have HL := Lib.hid hL
  have HB3 := Lib.hid hb3
  clear hr hL hb3
  go_wp2
  go_ret
  exact ⟨_, L, rfl, by have := HL.out; omega, by have := HL.out; omega, HR3.out, HBE2.out.trans HB3.out⟩

theorem drawDeckOf_any (A : Option Addr) (c : Nat) (bs : List Nat) (w : World) (h : Byts w A bs) (hc : bs.length ≤ c) (hA : Under A bs w.heap.size) :
    Calls Tryd.prog 35 #[.slice A bs.length c] w (Drew w) := by
  have HO := Lib.hid (few_any A c bs w h hc hA)
  obtain ⟨n, hn⟩ : ∃ n, n = bs.length := ⟨_, rfl⟩
  rw [← hn] at HO ⊢
  clear h hc hA hn
  go_enter Tryd.func35, Tryd.ntmps35
  go_wp2_with fail
  refine HO.out.mono ?_
  rintro e w1 ⟨v, L, rfl, l1, l5, r, b⟩
  go_wp2
  go_ret
  exact ⟨_, L, rfl, l1, l5, r, b⟩
end Go.Proofs.YtogmfbhnnnoipaaDoor
