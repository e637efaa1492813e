/- cmp.Compare; slices.SortFunc by its contract of the shelf; slices.SortedFunc; the deck in order. -/
import Derived.Test.YtogmfbhnnnoipaaDoorSortLay
import Derived.Sort.OwnSortedInts
import Derived.Test.YtogmfbhnnnoipaaDoorPartGraph
import Derived.Test.YtogmfbhnnnoipaaDoorValues
namespace Go.Proofs.YtogmfbhnnnoipaaDoor
open Go.RowKit Go.Shelf Go.Sort
set_option linter.unusedVariables false
set_option maxRecDepth 100000

/-- The comparison of two numbers. -/
def cfI (x y : Int) : Int := if x < y then -1 else if y < x then 1 else 0
theorem ltI (x y : Int) : ltOf cfI x y = decide (x < y) := by
  unfold ltOf cfI
  by_cases h1 : x < y
  · simp [h1]
  · by_cases h2 : y < x <;> simp [h1, h2]
theorem swoI : SWO (ltOf cfI) where
  irrefl x := by rw [ltI]; simp
  trans x y z h1 h2 := by rw [ltI] at *; simp at *; omega
  ntrans x y z h1 h2 := by rw [ltI] at *; simp at *; omega
theorem totI (x y : Int) (h1 : ltOf cfI x y = false) (h2 : ltOf cfI y x = false) : x = y := by rw [ltI] at *; simp at *; omega
theorem geI : (fun x y : Int => !ltOf cfI y x) = fun x y => decide (x ≤ y) := by
  funext x y
  rw [ltI]
  by_cases h : x ≤ y
  · have h' : ¬ y < x := by omega
    simp [h, h']
  · have h' : y < x := by omega
    simp [h, h']

theorem isNaN_any (x : Int) (w : World) : Calls Tryd.prog 124 #[.int .i64 x] w fun e w' => e = .returned (.bool false) ∧ w = w' := by
  have h : (x != x) = false := by simp
  go_enter Tryd.func124, Tryd.ntmps124
  go_wp2
  go_ret
  exact ⟨by first | rfl | simp [h], rfl⟩
set_option maxHeartbeats 1000000 in
theorem compare_any (x y : Int) (w : World) : Calls Tryd.prog 101 #[.int .i64 x, .int .i64 y] w fun e w' => e = .returned (.int .i64 (cfI x y)) ∧ w = w' := by
  unfold cfI
  by_cases h1 : x < y
  · have d1 : decide (x < y) = true := decide_eq_true h1
    rw [if_pos h1]
    go_enter Tryd.func101, Tryd.ntmps101
    go_wp2_with (go_at_call 124; refine (isNaN_any _ _).mono ?_; rintro e w' ⟨rfl, rfl⟩)
    go_ret
    exact ⟨rfl, rfl⟩
  · have d1 : decide (x < y) = false := decide_eq_false h1
    rw [if_neg h1]
    by_cases h2 : y < x
    · have d2 : decide (y < x) = true := decide_eq_true h2
      rw [if_pos h2]
      go_enter Tryd.func101, Tryd.ntmps101
      go_wp2_with (go_at_call 124; refine (isNaN_any _ _).mono ?_; rintro e w' ⟨rfl, rfl⟩)
      go_ret
      exact ⟨rfl, rfl⟩
    · have d2 : decide (y < x) = false := decide_eq_false h2
      rw [if_neg h2]
      go_enter Tryd.func101, Tryd.ntmps101
      go_wp2_with (go_at_call 124; refine (isNaN_any _ _).mono ?_; rintro e w' ⟨rfl, rfl⟩)
      go_ret
      exact ⟨rfl, rfl⟩

theorem cmpReadsI (blk off size : Nat) (w : World) : CmpReads Tryd.prog 101 #[] (Value.int .i64) cfI blk off size w := fun _ _ _ _ x y =>
  (compare_any x y _).mono fun e w' ⟨he, hw⟩ => ⟨he, 0, hw.symm⟩

/-- How a call that puts a list in order ends. -/
def PutBack (w : World) (B : Nat) (v : Value) (ys : List Int) (e : Ending) (w' : World) : Prop := e = .returned (.tuple #[]) ∧ Row w' B v ys ∧ w.grownBy w' v.ownBlock

theorem sortFn_any (B : Nat) (v : Value) (xs : List Int) (hl : xs.length ≤ 1000) (w : World) (h : Row w B v xs) :
    Calls Tryd.prog 135 #[v, .func (.func 101) #[] #[]] w (PutBack w B v (sortL xs)) := by
  have h0 := h
  unfold Row at h0
  rcases h0.2 with ⟨rfl, hn⟩ | ⟨g, cap, cur, rfl, hg, hb, h1, h2, h3, h4⟩
  · have hx : xs = [] := List.eq_nil_of_length_eq_zero hn
    subst hx
    have hS := AnyF.slices_SortFunc_none (P := Tryd.prog) (ρ := Tryd.sortL_ren) { Tryd.sortL with } none 0 (.func (.func 101) #[] #[]) w
    exact hS.mono fun e w' ⟨he, hw⟩ => ⟨he, by rw [hw, sortL_nil]; exact h, by rw [hw]; exact World.grownBy.refl w _⟩
  · by_cases hz : xs.length = 0
    · have hx : xs = [] := List.eq_nil_of_length_eq_zero hz
      subst hx
      have hS := AnyF.slices_SortFunc_none (P := Tryd.prog) (ρ := Tryd.sortL_ren) { Tryd.sortL with } (some ⟨g, 0, none⟩) cap (.func (.func 101) #[] #[]) w
      exact hS.mono fun e w' ⟨he, hw⟩ => ⟨he, by rw [hw, sortL_nil]; exact h, by rw [hw]; exact World.grownBy.refl w _⟩
    · have hH := holds_of_blockI (ss := xs) hb (by simpa using h4)
      have hgl : g < w.heap.size := (Array.getElem?_eq_some_iff.1 hb).1
      have eg : ∀ args w, (callFunc 101 args).run Tryd.prog w = .ok (.enter 101 args) w := enters_of Tryd.func101 (by kernel_rfl) rfl
      have hS := Any.slices_SortFunc_total Tryd.sortL (Value.int .i64) (fun _ => rfl) cfI swoI 101 #[] g 0 cap xs.toArray w eg (cmpReadsI g 0 xs.toArray.size w).lays hH hgl (by simp; omega) totI
      rw [geI] at hS
      refine hS.mono fun e w' ⟨he, n, os, hw⟩ => ⟨he, ?_, ?_⟩
      · rw [hw]
        have hr := ownsRow_sortedI (w := w) (base := B) (n := n) (os := os) (ss := xs) (ts := sortL xs) (sortL_length xs) hg hb (by simpa using h1) h2 (by simpa using h3)
        unfold Row
        rw [sortL_length]
        exact hr
      · rw [hw]
        exact grownBy_sortedI _

theorem sortedFn_any (Bn : Nat) (A : Option Addr) (c : Nat) (L : List Int) (hl : L.length ≤ 1000) (w : World) (hB : Bn < w.heap.size) (hc : w.cell? ⟨Bn, 0, none⟩ = some (.slice A L.length c)) (hS : Seen w A L) :
    Calls Tryd.prog 122 #[.func (.func 136) #[] #[.pointer (some ⟨Bn, 0, none⟩)], .func (.func 101) #[] #[]] w (Gave w (sortL L)) := by
  have H := Lib.hid (collectV_any Bn A c L hl w hB hc hS)
  have HL := Lib.hid hl
  clear hc hS hl
  go_enter Tryd.func122, Tryd.ntmps122
  go_wp2_with fail
  refine H.out.mono ?_
  rintro e w1 ⟨v, rfl, r, b⟩
  have R := Lib.hid r
  have BB := Lib.hid b
  clear r b
  go_wp2_with fail
  refine (sortFn_any _ v L HL.out _ R.out).mono ?_
  rintro e w2 ⟨rfl, r2, g2⟩
  go_wp2
  go_ret
  exact ⟨v, rfl, r2, BB.out.grown g2 BB.out.size (fun k hk => (R.out.lt k hk).1)⟩

/-- **ordered by cmp.Compare: the list in order.** -/
theorem ordered_any (A : Option Addr) (c : Nat) (L : List Int) (hl : L.length ≤ 1000) (w : World) (hS : Seen w A L) :
    Calls Tryd.prog 100 #[.slice A L.length c, .func (.func 101) #[] #[]] w (Gave w (sortL L)) := by
  have hb := Boxed.new w 63 (.slice A L.length c)
  have hB := (Below.refl w.heap.size w).alloc (Nat.le_refl _) (.cells #[.slice A L.length c] 63)
  have H := Lib.hid (sortedFn_any w.heap.size A c L hl (w.alloc (.cells #[.slice A L.length c] 63)) (by simp) hb.cell (hS.below hB))
  have HB := Lib.hid hB
  clear hb hB hS
  go_enter Tryd.func100, Tryd.ntmps100
  go_wp2_with fail
  refine (values_any _ _ _ _).mono ?_
  rintro e w' ⟨rfl, rfl⟩
  go_wp2_with fail
  refine H.out.mono ?_
  rintro e w2 ⟨v, rfl, r, b⟩
  go_wp2
  go_ret
  exact ⟨v, rfl, r.mono HB.out.size, HB.out.trans (b.mono HB.out.size)⟩
end Go.Proofs.YtogmfbhnnnoipaaDoor
