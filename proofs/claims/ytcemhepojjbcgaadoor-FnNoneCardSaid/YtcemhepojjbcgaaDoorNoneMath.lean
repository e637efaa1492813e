/- A graph of two to five nodes has an automorphism besides the plain one; a graph without has as many orbits as nodes. -/
import Derived.Test.YtcemhepojjbcgaaDoorLagrange
import Derived.Test.YtcemhepojjbcgaaDoorClasses
import Derived.Test.YtcemhepojjbcgaaDoorOrbMath
import Derived.Test.YtcemhepojjbcgaaDoorNoneFn
namespace Go.Proofs.YtcemhepojjbcgaaDoor
open Go Go.RowKit
set_option linter.unusedVariables false
set_option maxRecDepth 100000

def Sym (L : List Int) : Prop := L.length = 1 ∨ 6 ≤ L.length ∨ ∃ A, Names L.length L.length A ∧ A ≠ List.range L.length ∧ namedL L A = L
theorem at_inv {n : Nat} {P : List Nat} (hP : Names n n P) {j : Nat} (hj : j < n) : at_ P (at_ (invP n P) j) = j := by
  unfold invP
  rw [map_range_at _ _ hj]
  exact (invF_spec hP hj).2
theorem range_at {n v : Nat} (hv : v < n) : at_ (List.range n) v = v := by
  unfold at_
  rw [List.getElem?_range hv]
  rfl
theorem sym_tame : Tame Sym := fun L P hL hP h => by
  have hl := namedL_length L P
  unfold Sym at h ⊢
  rw [hl] at h
  rcases h with h | h | ⟨A, hA, hne, e⟩
  · exact .inl h
  · exact .inr (.inl h)
  · refine .inr (.inr ⟨compP L.length (compP L.length P A) (invP L.length P), comp_names (comp_names hP hA) (inv_names hP), fun hb => hne ?_, ?_⟩)
    · refine names_ext hA (perms_names _ _ _ (range_perms _ _ (Nat.le_refl _))) fun v hv => ?_
      obtain ⟨u, hu, rfl⟩ := at_surj hP hv
      have h1 : at_ (compP L.length (compP L.length P A) (invP L.length P)) u = u := by rw [hb]; exact range_at hu
      unfold compP at h1
      rw [map_range_at _ _ hu, map_range_at _ _ hu] at h1
      have h2 := at_inv hP (at_name hA hv)
      rw [h1] at h2
      rw [range_at hv, ← h2]
    · rw [← named_comp hL (comp_names hP hA) (inv_names hP), ← named_comp hL hP hA, e]
      exact named_inv hL hP
def okY (n c : Nat) : Bool := (permsTo n n).any fun P => !(P == List.range n) && codeOf (namedL (codeG n c) P) == c
theorem okY_sym {n c : Nat} (h1 : 1 ≤ n) (hn : n ≤ 6) (hc : c < 2 ^ (rows n).length) (h : okY n c = true) : Sym (codeG n c) := by
  have e := codeG_length n c
  have hG := codeG_graph c h1 hn
  unfold okY at h
  rw [List.any_eq_true] at h
  obtain ⟨P, hP, h2⟩ := h
  rw [Bool.and_eq_true] at h2
  have hN := perms_names _ _ _ hP
  have hN2 : Names (codeG n c).length (codeG n c).length P := by rw [e]; exact hN
  refine .inr (.inr ⟨P, hN2, fun x => ?_, ?_⟩)
  · rw [x, e] at h2
    simp at h2
  · refine code_inj (named_graph hG hN2) hG (namedL_length _ _) ?_
    rw [codeG_code hn hc]
    simpa using h2.2
theorem okY2 : (List.range (2 ^ (rows 2).length)).all (okY 2) = true := by decide +kernel
theorem okY3 : (List.range (2 ^ (rows 3).length)).all (okY 3) = true := by decide +kernel
theorem okY4 : (List.range (2 ^ (rows 4).length)).all (okY 4) = true := by decide +kernel
theorem okY5 : (firsts5.all fun e => okY 5 e.1) = true := by decide +kernel
theorem sym_all {L : List Int} (hg : IsGraph L) : Sym L := by
  refine by_classes sym_tame (fun n h1 h4 c hc => ?_) (fun e he => okY_sym (by decide) (by decide) (by have := firsts5_lt e he; exact this) (List.all_eq_true.1 okY5 e he)) (fun e he s hs => .inr (.inl (by rw [codeG_length]; decide))) hg
  obtain rfl | rfl | rfl | rfl : n = 1 ∨ n = 2 ∨ n = 3 ∨ n = 4 := by omega
  · exact .inl (codeG_length _ _)
  · exact okY_sym (by decide) (by decide) hc (List.all_eq_true.1 okY2 c (List.mem_range.2 hc))
  · exact okY_sym (by decide) (by decide) hc (List.all_eq_true.1 okY3 c (List.mem_range.2 hc))
  · exact okY_sym (by decide) (by decide) hc (List.all_eq_true.1 okY4 c (List.mem_range.2 hc))
theorem blk_plain : ∀ n : Fin 7, (blkTo (fun v => 2 ^ v) n.val).1.length = n.val := by decide
theorem none_facts {L : List Int} (hL : IsGraph L) (h : noneB L = true) : (autosL L).length = 1 ∧ (orbitsL L).length = L.length ∧ (L.length = 1 ∨ 6 ≤ L.length) := by
  unfold noneB at h
  rw [beq_iff_eq] at h
  obtain ⟨a, ha⟩ := List.length_eq_one_iff.1 h
  have hid := id_auto hL
  rw [ha, List.mem_singleton] at hid
  refine ⟨h, ?_, ?_⟩
  · unfold orbitsL
    rw [ha, ← hid]
    have hb := blk_plain ⟨L.length, by have := hL.2.1; omega⟩
    dsimp only at hb
    rw [blkTo_congr (g := fun v => 2 ^ v) (n := L.length) (fun u hu => ?_) L.length (Nat.le_refl _)]
    · exact hb
    · unfold setAt
      show 0 ||| 2 ^ at_ (List.range L.length) u = 2 ^ u
      rw [range_at hu, Nat.zero_or]
  · rcases sym_all hL with x | x | ⟨A, hA, hne, e⟩
    · exact .inl x
    · exact .inr x
    · have hm : A ∈ autosL L := List.mem_filter.2 ⟨perms_all _ _ A hA, (okC_iff hL hL rfl hA).2 e⟩
      rw [ha, List.mem_singleton] at hm
      exact absurd (hm.trans hid.symm) hne
end Go.Proofs.YtcemhepojjbcgaaDoor
