/- differentColours: how many different numbers a list has. -/
import Derived.Shelf.SlicesG.Cells
import Derived.Test.YtkccaajgdgdaaaaDoorSortInts
import Derived.Test.YtkccaajgdgdaaaaDoorSortLayF
import Derived.Test.YtkccaajgdgdaaaaDoorKindsMath
namespace Go.Proofs.YtkccaajgdgdaaaaDoor
open Go.RowKit Go.Shelf Go.Sort
set_option linter.unusedVariables false
set_option maxRecDepth 100000

/-- slices.Compact of a list of the call's own: how long it is then. -/
theorem compactI_any (B : Nat) (v : Value) (xs : List Int) (hl : xs.length ≤ 100000) (w : World) (h : Row w B v xs) :
    Calls Tryd.prog 55 #[v] w fun e w' => (∃ A c, e = .returned (.slice A (Lib.compact xs).length c)) ∧ w.grownBy w' v.ownBlock := by
  have h0 := h
  unfold Row at h0
  rcases h0.2 with ⟨rfl, hn⟩ | ⟨g, cap, cur, rfl, hg, hb, h1, h2, h3, h4⟩
  · have hx : xs = [] := List.eq_nil_of_length_eq_zero hn
    subst hx
    have hS := AnyG.slices_Compact_int_empty Tryd.compactI none 0 w
    exact hS.mono fun e w' ⟨he, hw⟩ => ⟨⟨none, 0, by rw [he]; rfl⟩, by rw [hw]; exact World.grownBy.refl w _⟩
  · by_cases hz : xs.length = 0
    · have hx : xs = [] := List.eq_nil_of_length_eq_zero hz
      subst hx
      have hS := AnyG.slices_Compact_int_empty Tryd.compactI (some ⟨g, 0, none⟩) cap w
      exact hS.mono fun e w' ⟨he, hw⟩ => ⟨⟨some ⟨g, 0, none⟩, cap, by rw [he]; rfl⟩, by rw [hw]; exact World.grownBy.refl w _⟩
    · have hH := holds_of_blockI (ss := xs) hb (by simpa using h4)
      have hS := AnyG.slices_Compact_int Tryd.compactI g 0 cap xs w hH (by omega) (by omega)
      refine hS.mono fun e w' ⟨he, q, hw⟩ => ⟨⟨_, _, he⟩, ?_⟩
      rw [hw]
      have hgr := grownBy_sortedI (w := w) (g := g) (n := q) (os := #[]) (Lib.compact xs ++ List.replicate (xs.length - (Lib.compact xs).length) 0).toArray
      rw [grow_empty] at hgr
      exact hgr

/-- **differentColours.** -/
theorem different_any (A : Option Addr) (c : Nat) (L : List Int) (hl : L.length ≤ 1000) (w : World) (hS : Seen w A L) :
    Calls Tryd.prog 35 #[.slice A L.length c] w fun e w' => e = .returned (.int .i64 (((Lib.compact (sortL L)).length : Nat) : Int)) ∧ Below w.heap.size w w' := by
  have hb := Boxed.new w 22 (.slice A L.length c)
  have hB := (Below.refl w.heap.size w).alloc (Nat.le_refl _) (.cells #[.slice A L.length c] 22)
  have H := Lib.hid (sortedI_any w.heap.size A c L hl (w.alloc (.cells #[.slice A L.length c] 22)) (by simp) hb.cell (hS.below hB))
  have HB := Lib.hid hB
  have HL := Lib.hid hl
  clear hb hB hS hl
  go_enter Tryd.func35, Tryd.ntmps35
  go_wp2_with fail
  refine (valuesI_any _ _ _ _).mono ?_
  rintro e w' ⟨rfl, rfl⟩
  go_wp2_with fail
  refine H.out.mono ?_
  rintro e w2 ⟨v, rfl, r, b⟩
  have R := Lib.hid r
  have BB := Lib.hid b
  clear r b
  go_wp2_with fail
  refine (compactI_any _ v (sortL L) (by rw [sortL_length]; have := HL.out; omega) w2 R.out).mono ?_
  rintro e w3 ⟨⟨A3, c3, rfl⟩, hg⟩
  have hB3 : Below w.heap.size w w3 := (HB.out.trans (BB.out.mono HB.out.size)).grown hg (Nat.le_trans HB.out.size BB.out.size) (fun k hk => Nat.le_trans HB.out.size (R.out.lt k hk).1)
  have HB3 := Lib.hid hB3
  clear hg hB3
  go_wp2
  go_ret
  exact ⟨rfl, HB3.out⟩

theorem sorted_get {D : List Int} (hD : D.Pairwise (· ≤ ·)) {i j : Nat} (hij : i ≤ j) (hj : j < D.length) : D.toArray[i]! ≤ D.toArray[j]! := by
  rw [getElem!_pos D.toArray i (by simp; omega), getElem!_pos D.toArray j (by simpa using hj)]
  simp only [List.getElem_toArray]
  by_cases e : i = j
  · subst e; exact Int.le_refl _
  · exact List.pairwise_iff_getElem.1 hD i j (by omega) hj (by omega)
theorem compact_strict {D : List Int} (hD : D.Pairwise (· ≤ ·)) : (Lib.compact D).Pairwise (· < ·) := by
  unfold Lib.compact Lib.compactUpTo
  rw [List.pairwise_map]
  refine List.Pairwise.imp_of_mem ?_ ((List.pairwise_lt_range (n := D.length)).filter _)
  intro i j hi hj hij
  have hjl := List.mem_range.1 (List.mem_filter.1 hj).1
  have hk := (List.mem_filter.1 hj).2
  unfold Lib.keeps at hk
  have hk := of_decide_eq_true hk
  rcases hk with h0 | hne
  · omega
  · have h1 := sorted_get hD (i := i) (j := j - 1) (by omega) (by omega)
    have h2 := sorted_get hD (i := j - 1) (j := j) (by omega) hjl
    omega
theorem compact_mem {D : List Int} (x : Int) : x ∈ Lib.compact D ↔ x ∈ D := by
  unfold Lib.compact Lib.compactUpTo
  rw [List.mem_map]
  constructor
  · rintro ⟨j, hj, rfl⟩
    have hjl := List.mem_range.1 (List.mem_filter.1 hj).1
    rw [getElem!_pos D.toArray j (by simpa using hjl)]
    simp
  · intro hx
    obtain ⟨j, hj, rfl⟩ := List.mem_iff_getElem.1 hx
    have key : ∀ j, j < D.length → ∃ i, i ≤ j ∧ Lib.keeps D.toArray i = true ∧ D.toArray[i]! = D.toArray[j]! := fun j hj => by
      induction j with
      | zero => exact ⟨0, Nat.le_refl _, by simp [Lib.keeps], rfl⟩
      | succ j ih =>
        by_cases e : D.toArray[j + 1]! = D.toArray[j]!
        · obtain ⟨i, hi, hk, he⟩ := ih (by omega)
          exact ⟨i, by omega, hk, he.trans e.symm⟩
        · exact ⟨j + 1, Nat.le_refl _, by unfold Lib.keeps; exact decide_eq_true (.inr (by simpa using e)), rfl⟩
    obtain ⟨i, hi, hk, he⟩ := key j hj
    refine ⟨i, List.mem_filter.2 ⟨List.mem_range.2 (by omega), hk⟩, ?_⟩
    rw [he, getElem!_pos D.toArray j (by simpa using hj)]
    simp
/-- The first ones of each colour. -/
def firsts (C : List Int) : List Int := ((List.range C.length).filter (firstB C)).map (hue C)
theorem firsts_nodup (C : List Int) : (firsts C).Nodup := by
  unfold firsts List.Nodup
  rw [List.pairwise_map]
  refine List.Pairwise.imp_of_mem ?_ ((List.pairwise_lt_range (n := C.length)).filter _)
  intro i j hi hj hij
  exact firstB_iff.1 (List.mem_filter.1 hj).2 i hij
theorem hue_get {C : List Int} {i : Nat} (h : i < C.length) : hue C i = C[i] := by unfold hue; rw [List.getElem?_eq_getElem h]; rfl
theorem firsts_mem (C : List Int) (x : Int) : x ∈ firsts C ↔ x ∈ C := by
  unfold firsts
  rw [List.mem_map]
  constructor
  · rintro ⟨j, hj, rfl⟩
    have hjl := List.mem_range.1 (List.mem_filter.1 hj).1
    rw [hue_get hjl]
    exact List.getElem_mem _
  · intro hx
    obtain ⟨j, hj, rfl⟩ := List.mem_iff_getElem.1 hx
    obtain ⟨i, hi, e, hf⟩ := first_of C j
    exact ⟨i, List.mem_filter.2 ⟨List.mem_range.2 (by omega), hf⟩, by rw [e, hue_get hj]⟩
/-- How many different colours there are, by order and by first ones. -/
theorem different_kinds (C : List Int) : (Lib.compact (sortL C)).length = kinds C.length C := by
  have h1 : (Lib.compact (sortL C)).Nodup := (compact_strict (sortL_sorted C)).imp (fun h => by omega)
  have hp : (Lib.compact (sortL C)).Perm (firsts C) := (List.perm_ext_iff_of_nodup h1 (firsts_nodup C)).2 fun x => by
    rw [compact_mem, firsts_mem, (sortL_perm C).mem_iff]
  rw [hp.length_eq]
  unfold firsts kinds
  rw [List.length_map, List.countP_eq_length_filter]
end Go.Proofs.YtkccaajgdgdaaaaDoor
