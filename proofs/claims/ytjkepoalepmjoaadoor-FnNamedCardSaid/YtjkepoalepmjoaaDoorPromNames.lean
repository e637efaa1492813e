/- The degrees of a graph under other names. Plain mathematics, no condition. -/
import Derived.Test.YtjkepoalepmjoaaDoorPromDeg
import Derived.Test.YtjkepoalepmjoaaDoorPromNamed
namespace Go.Proofs.YtjkepoalepmjoaaDoor
open Go Go.RowKit
set_option linter.unusedVariables false
set_option maxRecDepth 100000

theorem cnt_row {L : List Int} (hg : IsGraph L) {v : Nat} (hv : v < L.length) : cnt (ent L v) = sumN (fun u => bt L v u) L.length := by
  have h6 := hg.2.1
  have h1 := hg.1
  have far : ∀ b, L.length ≤ b → bt L v b = 0 := fun b hb => bt_far hg hv hb
  rw [cnt_bits]
  have key : ∀ n : Nat, 1 ≤ n → n ≤ 6 → (∀ b, n ≤ b → bt L v b = 0) → bt L v 0 + bt L v 1 + bt L v 2 + bt L v 3 + bt L v 4 + bt L v 5 = sumN (fun u => bt L v u) n := fun n n1 n6 hf => by
    have hn : n = 1 ∨ n = 2 ∨ n = 3 ∨ n = 4 ∨ n = 5 ∨ n = 6 := by omega
    rcases hn with rfl | rfl | rfl | rfl | rfl | rfl
    · simp [sumN, hf 1, hf 2, hf 3, hf 4, hf 5]
    · simp [sumN, hf 2, hf 3, hf 4, hf 5]
    · simp [sumN, hf 3, hf 4, hf 5]
    · simp [sumN, hf 4, hf 5]
    · simp [sumN, hf 5]
    · simp [sumN]
  exact key L.length h1 h6 far
theorem cnt_named {L : List Int} (hg : IsGraph L) {Q : List Nat} (hQ : Names L.length L.length Q) {v : Nat} (hv : v < L.length) : cnt (ent (namedL L Q) (at_ Q v)) = cnt (ent L v) := by
  have hM := named_graph hg hQ
  rw [cnt_row hM (by rw [namedL_length]; exact at_name hQ hv), cnt_row hg hv, namedL_length, ← sumN_names hQ]
  exact sumN_congr fun u hu => named_at hQ hv hu
theorem names_of_is {P : List Int} {n : Nat} (h : IsNames P n) : Names n n (natOf P) ∧ ints (natOf P) = P := by
  have hl : (natOf P).length = n := by unfold natOf; rw [List.length_map]; exact h.1
  have hr : ∀ k, k < n → ((natOf P)[k]?.getD 0 : Nat) < n ∧ (((natOf P)[k]?.getD 0 : Nat) : Int) = P[k]?.getD 0 := fun k hk => by
    obtain ⟨h1, h2⟩ := h.2.1 k (by rw [h.1]; exact hk)
    have e : (natOf P)[k]?.getD 0 = (P[k]?.getD 0).toNat := by
      have hk2 : k < P.length := by rw [h.1]; exact hk
      simp [natOf, hk2]
    rw [e]
    omega
  refine ⟨⟨hl, h.2.2, fun x hx => ?_⟩, ?_⟩
  · obtain ⟨k, hk, rfl⟩ := List.mem_iff_getElem.1 hx
    have := (hr k (by rw [← hl]; exact hk)).1
    rw [List.getElem?_eq_getElem hk] at this
    exact this
  · refine List.ext_getElem (by rw [ints_length, hl, h.1]) fun k h1 h2 => ?_
    have := (hr k (by rw [← h.1]; exact h2)).2
    rw [List.getElem?_eq_getElem (by rw [hl, ← h.1]; exact h2), List.getElem?_eq_getElem h2] at this
    simpa [ints] using this
end Go.Proofs.YtjkepoalepmjoaaDoor
