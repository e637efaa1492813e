/- Slices of numbers as elements of a list that is sorted: what they hold in every world that the sort passes through; slices.Compare and slices.Equal of them. -/
import Derived.Shelf.SlSortCmp.Kit1
import Derived.Test.YtnnobbbljpaieaaDoorCompare
namespace Go.Proofs.YtnnobbbljpaieaaDoor
open Go.RowKit Go.Shelf Go.Sort
set_option linter.unusedVariables false
set_option maxRecDepth 100000

/-- A slice of numbers that lies below a bound in a world, with what it holds. -/
abbrev Sl (n₀ : Nat) (w : World) := { x : (Option Addr × Nat) × List Int // x.2.length ≤ 100000 ∧ SeenB n₀ w x.1.1 x.2 }
variable {n₀ : Nat} {w : World}
abbrev encS (x : Sl n₀ w) : Value := .slice x.1.1.1 x.1.2.length x.1.1.2
abbrev lst (x : Sl n₀ w) : List Int := x.1.2
instance : Inhabited (Sl n₀ w) := ⟨⟨((none, 0), []), by simp, fun k hk => absurd hk (by simp)⟩⟩
theorem encS_one : OneCell (encS (n₀ := n₀) (w := w)) := fun _ => rfl
theorem encS_default : encS (default : Sl n₀ w) = .slice none 0 0 := rfl

theorem SeenB.seen {m : Nat} {W : World} {A : Option Addr} {xs : List Int} (h : SeenB m W A xs) (hm : m ≤ W.heap.size) : Seen W A xs := fun k hk => by
  obtain ⟨b, off, hA, hlt, hc⟩ := h k hk
  exact ⟨b, off, hA, by omega, hc⟩

/-- In a world of the sort's every block but its own lies as it lay. -/
theorem sort_cell {α : Type} [Inhabited α] (enc : α → Value) (W : World) (blk off m : Nat) (dk : Array α) (os : Array Obj) (a : Addr) (ha : a.block < W.heap.size) (hne : a.block ≠ blk) :
    (sortWorld enc W blk off m dk os).cell? a = W.cell? a := by
  unfold sortWorld
  rw [cell?_grow _ _ _ (by rw [size_putRow]; exact ha), cell?_putRow_other _ _ _ _ _ _ (Or.inl hne)]
  rfl
theorem sort_size {α : Type} [Inhabited α] (enc : α → Value) (W : World) (blk off m : Nat) (dk : Array α) (os : Array Obj) : W.heap.size ≤ (sortWorld enc W blk off m dk os).heap.size := by
  unfold sortWorld
  rw [size_grow, size_putRow]
  exact Nat.le_add_right _ _
theorem Sl.seenB (x : Sl n₀ w) {W : World} (hb : Below n₀ w W) : SeenB n₀ W x.1.1.1 x.1.2 := x.2.2.below hb
theorem Sl.inSort (x : Sl n₀ w) {W : World} (hb : Below n₀ w W) (hn : n₀ ≤ W.heap.size) (blk off m : Nat) (hblk : n₀ ≤ blk) {α : Type} [Inhabited α] (enc : α → Value) (dk : Array α) (os : Array Obj) :
    Seen (sortWorld enc W blk off m dk os) x.1.1.1 x.1.2 := fun k hk => by
  obtain ⟨b, o, hA, hlt, hc⟩ := x.seenB hb k hk
  exact ⟨b, o, hA, Nat.lt_of_lt_of_le (by omega) (sort_size enc W blk off m dk os), by rw [sort_cell enc W blk off m dk os ⟨b, o + k, none⟩ (by show b < _; omega) (by show b ≠ _; omega)]; exact hc⟩

/-- The comparison. -/
def cfS (x y : Sl n₀ w) : Int := cmpL (lst x) (lst y)
theorem ltS (x y : Sl n₀ w) : ltOf cfS x y = decide (cmpL (lst x) (lst y) < 0) := rfl
theorem swoS : SWO (ltOf (cfS (n₀ := n₀) (w := w))) where
  irrefl x := by rw [ltS, cmpL_self]; rfl
  trans x y z h1 h2 := by
    rw [ltS, decide_eq_true_eq] at *
    exact cmpL_trans h1 h2
  ntrans x y z h1 h2 := by
    rw [ltS, decide_eq_false_iff_not] at *
    intro h3
    by_cases e1 : cmpL (lst x) (lst y) = 0
    · rw [cmpL_eq e1] at h3; exact h2 h3
    · by_cases e2 : cmpL (lst y) (lst z) = 0
      · rw [← cmpL_eq e2] at h3; exact h1 h3
      · have k1 : cmpL (lst y) (lst x) < 0 := by rw [cmpL_swap]; omega
        have k2 := cmpL_trans k1 h3
        exact h2 k2

theorem cmpReadsS {W : World} (hb : Below n₀ w W) (hn : n₀ ≤ W.heap.size) (blk off size : Nat) (hblk : n₀ ≤ blk) :
    CmpReads Tryd.prog 54 #[] (encS (n₀ := n₀) (w := w)) cfS blk off size W := fun m os dk _ x y =>
  (cmpLists_any x.1.1.1 y.1.1.1 x.1.1.2 y.1.1.2 x.1.2 y.1.2 x.2.1 y.2.1 _ (x.inSort hb hn blk off m hblk encS dk os) (y.inSort hb hn blk off m hblk encS dk os)).mono fun e w' ⟨he, hw⟩ => ⟨he, 0, hw.symm⟩
/-- slices.Equal, in every world of a row that is being rewritten. -/
theorem eqReadsS {W : World} (hb : Below n₀ w W) (hn : n₀ ≤ W.heap.size) (blk off m : Nat) (hblk : n₀ ≤ blk) (dk : Array (Sl n₀ w)) (x y : Sl n₀ w) (q : Nat) :
    Calls Tryd.prog 29 #[encS x, encS y] ((putRow encS (Sort.ahead W m) blk off dk).drewN q) fun e w' => e = .returned (.bool (decide (lst x = lst y))) ∧ ∃ q', w' = ((putRow encS (Sort.ahead W m) blk off dk).drewN q).drewN q' := by
  have hs : ∀ z : Sl n₀ w, Seen ((putRow encS (Sort.ahead W m) blk off dk).drewN q) z.1.1.1 z.1.2 := fun z k hk => by
    obtain ⟨b, o, hA, hlt, hc⟩ := z.inSort hb hn blk off m hblk encS dk #[] k hk
    have e : sortWorld encS W blk off m dk #[] = putRow encS (Sort.ahead W m) blk off dk := by unfold sortWorld; rw [grow_empty]
    rw [e] at hlt hc
    exact ⟨b, o, hA, hlt, hc⟩
  exact equalLists_any x.1.1.1 y.1.1.1 x.1.1.2 y.1.1.2 x.1.2 y.1.2 _ (hs x) (hs y) (by have := x.2.1; omega)
end Go.Proofs.YtnnobbbljpaieaaDoor
