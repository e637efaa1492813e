/- A range over a function inside a plain loop: each entry leaves a mark among the frame's deferred calls; what the return finds there. -/
import Derived.RangeFuncLeaves
import Derived.RangeFuncKeeps
import Derived.RangeFuncFrom
import Derived.RangeFuncBox
namespace Go.Proofs.YtcemhepojjbcgaaDoor
open Go Go.RowKit
set_option linter.unusedVariables false

def mark (D : Nat) : Deferred := { target := .collected D, args := #[] }
/-- The marks' blocks: below b, none twice, none below n₀, each one still open and empty. -/
def Marks (n₀ : Nat) (Ds : List Nat) (b : Nat) (W : World) : Prop := Ds.Nodup ∧ ∀ D ∈ Ds, n₀ ≤ D ∧ D < b ∧ W.heap[D]? = some (.deferred (some []))
theorem marks_nil (n₀ b : Nat) (W : World) : Marks n₀ [] b W := ⟨List.nodup_nil, fun _ h => by cases h⟩
theorem marks_own {β : Type} (n₀ : Nat) (Ds : List Nat) (b B : Nat) (hB : b ≤ B) : OwnFrom B (fun (_ : β) W => Marks n₀ Ds b W) := fun s X Y row hs hg hr =>
  ⟨hs.1, fun D hD => by
    obtain ⟨h1, h2, h3⟩ := hs.2 D hD
    exact ⟨h1, h2, (hg.block D (Array.getElem?_eq_some_iff.1 h3).1 (fun e => by have := (hr D e.symm).1; omega)).trans h3⟩⟩
theorem marks_grown {n₀ : Nat} {Ds : List Nat} {b g : Nat} {X Y : World} (h : Marks n₀ Ds b X) (hg : X.grownBy Y (some g)) (ho : ∃ o : Obj, X.heap[g]? = some o ∧ o.isCells = true) : Marks n₀ Ds b Y :=
  ⟨h.1, fun D hD => by
    obtain ⟨h1, h2, h3⟩ := h.2 D hD
    refine ⟨h1, h2, (hg.block D (Array.getElem?_eq_some_iff.1 h3).1 (fun e => ?_)).trans h3⟩
    cases e
    obtain ⟨o, o1, o2⟩ := ho
    rw [h3] at o1
    cases o1
    cases o2⟩
theorem marks_alloc {n₀ : Nat} {Ds : List Nat} {b : Nat} {X : World} (h : Marks n₀ Ds b X) (o : Obj) : Marks n₀ Ds b (X.alloc o) :=
  ⟨h.1, fun D hD => by
    obtain ⟨h1, h2, h3⟩ := h.2 D hD
    exact ⟨h1, h2, (Below.heap_alloc _ _ _ (Array.getElem?_eq_some_iff.1 h3).1).trans h3⟩⟩
theorem marks_cons {n₀ : Nat} {Ds : List Nat} {b b' D : Nat} {X : World} (h : Marks n₀ Ds b X) (h0 : n₀ ≤ D) (hb : b ≤ D) (hb' : D < b') (h3 : X.heap[D]? = some (.deferred (some []))) : Marks n₀ (D :: Ds) b' X :=
  ⟨List.nodup_cons.2 ⟨fun hm => by have := (h.2 D hm).2.1; omega, h.1⟩, fun E hE => by
    rcases List.mem_cons.1 hE with rfl | hE
    · exact ⟨h0, hb', h3⟩
    · obtain ⟨h1, h2, h4⟩ := h.2 E hE
      exact ⟨h1, by omega, h4⟩⟩
theorem marks_up {n₀ : Nat} {Ds : List Nat} {b b' : Nat} {X : World} (h : Marks n₀ Ds b X) (hb : b ≤ b') : Marks n₀ Ds b' X :=
  ⟨h.1, fun D hD => let ⟨h1, h2, h3⟩ := h.2 D hD; ⟨h1, by omega, h3⟩⟩

/-- At the return: the marks go, one behind the other. -/
theorem leaves_marks {F : Fence} {n : Nat} {P : Program} {fn : Func} {tmps : Array Value} {R : Ending → World → Prop} {n₀ : Nat} {w : World} (hw : n₀ ≤ w.heap.size)
    (hR : ∀ W, Below n₀ w W → LeavesInM F n P fn tmps R [] .returning W) :
    ∀ (Ds : List Nat) (b : Nat) (W : World), Marks n₀ Ds b W → Below n₀ w W → LeavesInM F n P fn tmps R (Ds.map mark) .returning W
  | [], _, W, _, hb => hR W hb
  | D :: Ds, b, W, hm, hb => by
    obtain ⟨h1, h2, h3⟩ := hm.2 D (by simp)
    refine ⟨by simp, .inl ⟨_, _, rfl, run_takeDeferred h3, ?_⟩⟩
    refine leaves_marks hw hR Ds b _ ⟨(List.nodup_cons.1 hm.1).2, fun E hE => ?_⟩ ?_
    · obtain ⟨g1, g2, g3⟩ := hm.2 E (by simp [hE])
      refine ⟨g1, g2, ?_⟩
      have hne : D ≠ E := fun e => (List.nodup_cons.1 hm.1).1 (by rw [e]; exact hE)
      exact (World.putObj_heap_other hne.symm).trans g3
    · exact hb.grown (grownBy_putObj' W D _) (by have := hb.size; omega) (fun k e => by cases e; exact h1)
end Go.Proofs.YtcemhepojjbcgaaDoor
