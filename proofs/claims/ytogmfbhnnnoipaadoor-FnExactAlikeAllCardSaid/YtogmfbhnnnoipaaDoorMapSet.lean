/- A map from numbers to true, as a set. -/
import Derived.Maps.OwnSet
import Derived.Test.YtogmfbhnnnoipaaDoorKeysSorted
namespace Go.Proofs.YtogmfbhnnnoipaaDoor
open Go Go.RowKit Go.Maps Go.ChangeMaps Go.MapKept
set_option linter.unusedVariables false
set_option maxRecDepth 100000

/-- In block b lies a map whose keys are S, at most n. -/
def SetAt (w : World) (b n : Nat) (S : Int → Prop) : Prop := ∃ D : DataW Unit, w.ownsMap Tryd.prog 3 (plainElem Tryd.prog 4) b n D ∧ ∀ x, Maps.has D (.int .i64 x) = true ↔ S x
theorem SetAt.lt {w : World} {b n : Nat} {S : Int → Prop} (h : SetAt w b n S) : b < w.heap.size := by
  obtain ⟨D, ho, _⟩ := h
  exact ho.lt
theorem SetAt.made (w : World) : SetAt (w.alloc (.map #[] 0)) w.heap.size 0 (fun _ => False) :=
  ⟨.map [], World.ownsMap_made w _ _ _, fun x => ⟨fun h => by simp [Maps.has] at h, fun h => h.elim⟩⟩
theorem SetAt.below {w w' : World} {B b n : Nat} {S : Int → Prop} (h : SetAt w b n S) (hb : Below B w w') (hB : b < B) : SetAt w' b n S := by
  obtain ⟨D, ⟨es, clock, hs, r⟩, hx⟩ := h
  exact ⟨D, ⟨es, clock, (hb.block b hB).trans hs, r⟩, hx⟩
theorem SetAt.congr {w : World} {b n : Nat} {S S' : Int → Prop} (h : SetAt w b n S) (e : ∀ x, S x ↔ S' x) : SetAt w b n S' := by
  obtain ⟨D, ho, hx⟩ := h
  exact ⟨D, ho, fun x => (hx x).trans (e x)⟩
theorem SetAt.mono {w : World} {b n n' : Nat} {S : Int → Prop} (h : SetAt w b n S) (hn : n ≤ n') : SetAt w b n' S := by
  obtain ⟨D, ho, hx⟩ := h
  exact ⟨D, ho.mono hn, hx⟩
theorem SetAt.put {w : World} {b n : Nat} {S : Int → Prop} (h : SetAt w b n S) (hn : n < 100000) (y : Nat) (hy : y < 100000) :
    ∃ w', (Instr.mapUpdate 91 (.map (some b)) (.int .i64 (y : Nat)) (.bool true)).run Tryd.prog w = .ok () w' ∧ SetAt w' b (n + 1) (fun x => x = ((y : Nat) : Int) ∨ S x) ∧ w.grownBy w' (some b) := by
  obtain ⟨D, ho, hx⟩ := h
  have hwf : (Lit.int .i64 ((y : Nat) : Int)).wf = true := by
    have e1 : IntKind.i64.min = -9223372036854775808 := by decide
    have e2 : IntKind.i64.max = 9223372036854775807 := by decide
    simp only [Lit.wf, e1, e2, Bool.and_eq_true, decide_eq_true_eq]
    omega
  obtain ⟨w', hrun, ho', hg⟩ := ho.update (t := 91) (e := 4) (key := .int .i64 (y : Nat)) (val := .bool true) (kl := .int .i64 (y : Nat)) (d := .lit (.bool true)) (ps := []) (int_keyed Tryd.underlying3) Tryd.underlying91 (by unfold maxLen; omega) (by simp [keyOf, Tryd.underlying3, mapKey, hwf]) (plainElem_bool Tryd.underlying4 true)
  refine ⟨w', hrun, ⟨_, ho', fun x => ?_⟩, hg⟩
  by_cases e : x = ((y : Nat) : Int)
  · subst e
    exact ⟨fun _ => .inl rfl, fun _ => has_put_same ho.isMap (by simp [WideAt.IsKeyLit]) _⟩
  · rw [has_put_other (by intro h; injection h with h1 h2; exact e h2), hx x]
    exact ⟨.inr, fun h => h.resolve_left e⟩
theorem SetAt.clear {w : World} {b n : Nat} {S : Int → Prop} (h : SetAt w b n S) :
    ∃ w', (∀ ty, (Builtin.clear_ #[91] ty #[.map (some b)]).run Tryd.prog w = .ok (.tuple #[]) w') ∧ SetAt w' b 0 (fun _ => False) ∧ w.grownBy w' (some b) := by
  obtain ⟨D, ⟨es, clock, hs, F, _, _⟩, hx⟩ := h
  refine ⟨setBlock w b (.map #[] clock), fun ty => ?_, ⟨.map [], ⟨#[], clock, heap_setBlock_same hs _, ?_, ?_, rfl⟩, fun x => ⟨fun h => by simp [Maps.has] at h, fun h => h.elim⟩⟩, ⟨rfl, rfl, rfl, by simp [setBlock], fun i _ hi => heap_setBlock_other hs _ (fun e => hi (by rw [e]))⟩⟩
  · simp [Builtin.clear_, run_underlying Tryd.underlying91, MapKept.run_getObj_map hs, MapKept.run_setObj_map _ hs, setBlock]
  · exact ⟨by simp, stamped_empty _, by simp⟩
  · simp
theorem setSorted {w : World} {b n : Nat} {l : List Nat} {ss : List Int} {D : DataW Unit} (hown : w.ownsMap Tryd.prog 3 (plainElem Tryd.prog 4) b n D) (hD : ∀ x, Maps.has D (.int .i64 x) = true ↔ x ∈ ints l) (hl : l.Pairwise (· < ·)) (hp : ss.Perm (intKeys D)) :
    ss.mergeSort (fun x y => decide (x ≤ y)) = ints l := by
  have hw : (ints l).Pairwise (· < ·) := by
    unfold ints
    exact List.pairwise_map.2 (hl.imp fun h => by omega)
  have hnd : (ints l).Nodup := hw.imp fun h => Int.ne_of_lt h
  obtain ⟨es, hE, hpw, _⟩ := hown.entries (int_keyed Tryd.underlying3)
  obtain ⟨es', hE', hko⟩ := hown.keysOf
  obtain rfl : es = es' := by rw [hE] at hE'; simpa using hE'
  subst hE
  have hpk := perm_intKeys hpw (fun p hp => by obtain ⟨v, hv⟩ := hko p hp; obtain ⟨x, _, hx, _⟩ := Maps.keyOf_i64 Tryd.underlying3 hv; exact ⟨x, hx⟩) hnd (fun x => (hD x).symm)
  have h1 := mergeSort_of_perm_i (hp.trans hpk.symm)
  rw [show (fun x y : Int => decide (x ≤ y)) = leI from rfl, h1]
  exact List.mergeSort_of_pairwise (hw.imp fun h => by simp only [leI, decide_eq_true_eq]; omega)
end Go.Proofs.YtogmfbhnnnoipaaDoor
