/- One step of refining, as the model tells neighbours: by lists. Plain mathematics; what a list of neighbours in memory holds. -/
import Derived.Test.YtnnobbbljpaieaaDoorFinerMath
import Derived.Test.YtnnobbbljpaieaaDoorNear
namespace Go.Proofs.YtnnobbbljpaieaaDoor
open Go Go.RowKit
set_option linter.unusedVariables false
set_option maxRecDepth 100000

def aroundL (Ns : List (List Int)) (C : List Int) (v : Nat) : List Int := (Ns[v]?.getD []).map fun u => hue C u.toNat
def stepLook (Ns : List (List Int)) (C : List Int) (v : Nat) : List Int := hue C v :: sortL (aroundL Ns C v)
def stepLooks (Ns : List (List Int)) (C : List Int) (k : Nat) : List (List Int) := (List.range k).map (stepLook Ns C)
theorem stepLooks_succ (Ns : List (List Int)) (C : List Int) (k : Nat) : stepLooks Ns C (k + 1) = stepLooks Ns C k ++ [stepLook Ns C k] := by simp [stepLooks, List.range_succ]
theorem stepLooks_length (Ns : List (List Int)) (C : List Int) (k : Nat) : (stepLooks Ns C k).length = k := by simp [stepLooks]
def stepL (Ns : List (List Int)) (C : List Int) : List Int := (List.range Ns.length).map fun v => ((rankOf (stepLooks Ns C Ns.length) (stepLook Ns C v) : Nat) : Int)
theorem stepL_length (Ns : List (List Int)) (C : List Int) : (stepL Ns C).length = Ns.length := by simp [stepL]
/-- Neighbours are told by lists of nodes. -/
def Near (Ns : List (List Int)) : Prop := Ns.length ≤ 12 ∧ ∀ v, v < Ns.length → (Ns[v]?.getD []).length ≤ 12 ∧ ∀ i, i < (Ns[v]?.getD []).length → ∃ u : Nat, (Ns[v]?.getD [])[i]?.getD 0 = (u : Int) ∧ u < Ns.length
theorem nearTo_nodes {L : List Int} (hN : Net L) {v : Nat} (hv : v < L.length) : nearTo (nset L v) L.length = (nodesT (nset L v)).map fun i => ((i : Nat) : Int) := by
  unfold nearTo
  rw [nodesT_range hN.2.1 (hN.ent hv).2.1]
theorem nearL_get (L : List Int) {v : Nat} (hv : v < L.length) : (nearL L L.length)[v]?.getD [] = nearTo (nset L v) L.length := by simp [nearL, hv]
theorem near_of {L : List Int} (hN : Net L) : Near (nearL L L.length) := by
  refine ⟨by rw [nearL_length]; exact hN.2.1, fun v hv => ?_⟩
  rw [nearL_length] at hv ⊢
  rw [nearL_get L hv]
  refine ⟨by have := nearTo_length (nset L v) L.length; have := hN.2.1; omega, fun i hi => ?_⟩
  rw [nearTo_nodes hN hv] at hi ⊢
  rw [List.length_map] at hi
  refine ⟨(nodesT (nset L v))[i], by rw [List.getElem?_map, List.getElem?_eq_getElem hi]; rfl, nodesT_lt hN.2.1 (hN.ent hv).2.1 _ (List.getElem_mem _)⟩
theorem stepLook_look {L C : List Int} (hN : Net L) {v : Nat} (hv : v < L.length) : stepLook (nearL L L.length) C v = lookOf L C v := by
  unfold stepLook lookOf aroundL nbHues
  rw [nearL_get L hv, nearTo_nodes hN hv, List.map_map]
  rfl
/-- The model's step is the program's. -/
theorem stepL_finer {L C : List Int} (hN : Net L) : stepL (nearL L L.length) C = finerL L C := by
  unfold stepL finerL
  rw [nearL_length]
  have e : stepLooks (nearL L L.length) C L.length = looksL L C := by
    unfold stepLooks looksL
    exact List.map_congr_left fun v hv => stepLook_look hN (List.mem_range.1 hv)
  rw [e]
  exact List.map_congr_left fun v hv => by rw [stepLook_look hN (List.mem_range.1 hv)]

/-- Lists of neighbours as they lie. -/
def NearSeen (W : World) (A : Option Addr) (Ns : List (List Int)) : Prop := ∀ v, v < Ns.length → ∃ b off A' c', A = some ⟨b, off, none⟩ ∧ b < W.heap.size ∧ W.cell? ⟨b, off + v, none⟩ = some (.slice A' (Ns[v]?.getD []).length c') ∧ Seen W A' (Ns[v]?.getD [])
theorem NearSeen.below {W W' : World} {A : Option Addr} {Ns : List (List Int)} (h : NearSeen W A Ns) (hb : Below W.heap.size W W') : NearSeen W' A Ns := fun v hv => by
  obtain ⟨b, off, A', c', hA, hlt, hc, hs⟩ := h v hv
  exact ⟨b, off, A', c', hA, Nat.lt_of_lt_of_le hlt hb.size, (hb.cell (p := ⟨b, off + v, none⟩) hlt).trans hc, hs.below hb⟩
theorem Row2Z.near {W : World} {B : Nat} {v : Value} {Ns : List (List Int)} (h : Row2Z W B v Ns) : ∃ A c, v = .slice A Ns.length c ∧ NearSeen W A Ns := by
  obtain ⟨b, cap, hv, hb⟩ := h.shape
  subst hv
  refine ⟨_, cap, rfl, fun k hk => ?_⟩
  obtain ⟨u, hu, hr⟩ := h.at hk
  obtain ⟨A', c', hu', hs⟩ := hr.1.seen
  subst hu'
  exact ⟨b, 0, A', c', rfl, hb, by rw [Nat.zero_add]; exact hu, hs⟩
end Go.Proofs.YtnnobbbljpaieaaDoor
