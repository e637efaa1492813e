/- A region that draws its order, in a round or not, by an invariant over what has come up: each operation is walked once, whatever the order. -/
import Derived.OrdersIn
import Derived.TacticsIn
import Derived.RangeFuncCalls
namespace Go.Proofs.YtnnobbbljpaieaaDoor
open Go
set_option linter.unusedVariables false

section
variable {F : Fence} {n : Nat} {P : Program} {md : Region.Mode} {ops : Array Oper} {Q : Exit → Act → World → Prop}

/-- How many have not come up. -/
def openN (listed : Array Bool) : Nat := listed.toList.count false
theorem count_setI {l : List Bool} {i : Nat} (h : l[i]? = some false) : (l.set i true).count false + 1 = l.count false := by
  induction l generalizing i with
  | nil => simp at h
  | cons x l ih =>
    cases i with
    | zero => simp at h; subst h; simp
    | succ i =>
      simp at h
      rw [List.set_cons_succ, List.count_cons, List.count_cons, ← ih h]
      omega
theorem openN_set {listed : Array Bool} {i : Nat} (h : listed.getD i true = false) : openN (listed.setIfInBounds i true) + 1 = openN listed := by
  unfold openN
  rw [Array.toList_setIfInBounds]
  refine count_setI ?_
  have hlt : i < listed.size := by
    refine Nat.lt_of_not_le fun h2 => ?_
    rw [Array.getD, dif_neg (by omega)] at h
    cases h
  rw [Array.getD, dif_pos hlt] at h
  rw [Array.getElem?_toList, Array.getElem?_eq_getElem hlt]
  exact congrArg some h

theorem wpAnyIn_inv (I : Array Bool → Act → World → Prop)
    (hstep : ∀ listed a w i, I listed a w → i ∈ Region.ready md ops listed → wpOpIn F n P ops Q i (I (listed.setIfInBounds i true)) a w)
    (hend : ∀ listed a w, I listed a w → Region.ready md ops listed = [] → Q .normal a w) :
    ∀ fuel listed a w, openN listed ≤ fuel → I listed a w → wpAnyIn F n P md ops Q fuel listed a w
  | 0, listed, a, w, hf, h => by
    have hr : Region.ready md ops listed = [] := by
      refine List.eq_nil_iff_forall_not_mem.2 fun i hi => ?_
      have h1 := openN_set (mem_ready.1 hi).1
      omega
    exact ⟨hr, hend _ _ _ h hr⟩
  | fuel + 1, listed, a, w, hf, h => by
    refine ⟨hend _ _ _ h, fun i hi => ?_⟩
    have h1 := openN_set (mem_ready.1 hi).1
    exact wpOpIn_mono (fun a' w' h2 => wpAnyIn_inv I hstep hend fuel _ a' w' (by omega) h2) (hstep _ _ _ i h hi)

/-- Each operation waits for earlier ones alone. -/
def upward (ops : Array Oper) : Bool := (List.range ops.size).all fun i => ((ops[i]?).map fun o => o.after.all fun e => !Region.binds .any e || decide (e.on < i)).getD true
theorem all_up (hu : upward ops = true) {listed : Array Bool} (hr : Region.ready .any ops listed = []) : ∀ k i, i ≤ k → i < ops.size → listed.getD i true = true
  | k, i, hk, hi => by
    cases hl : listed.getD i true
    · exfalso
      have hm : i ∈ Region.ready .any ops listed := mem_ready.2 ⟨hl, ops[i], Array.getElem?_eq_getElem hi, fun e he hbn => by
        unfold upward at hu
        have h1 := List.all_eq_true.1 hu i (List.mem_range.2 hi)
        rw [Array.getElem?_eq_getElem hi, Option.map_some, Option.getD_some] at h1
        have h2 := Array.all_eq_true_iff_forall_mem.1 h1 e he
        rw [hbn, Bool.not_true, Bool.false_or] at h2
        have h2 := of_decide_eq_true h2
        cases k with
        | zero => omega
        | succ k =>
          have h3 := all_up hu hr k e.on (by omega) (by omega)
          have hs : e.on < listed.size := Nat.lt_trans h2 (by
            refine Nat.lt_of_not_le fun h4 => ?_
            rw [Array.getD, dif_neg (by omega)] at hl
            cases hl)
          rw [Array.getD, dif_pos hs] at h3 ⊢
          exact h3⟩
      rw [hr] at hm
      cases hm
    · rfl

theorem wpIn_region_inv {id : Nat} {a : Act} {w : World} (hm : P.follows .mixedOrders = true) (I : Array Bool → Act → World → Prop)
    (h0 : I (Array.replicate ops.size false) a w.drew)
    (hstep : ∀ listed a w i, I listed a w → i ∈ Region.ready .any ops listed → wpOpIn F n P ops Q i (I (listed.setIfInBounds i true)) a w)
    (hu : upward ops = true) (hend : ∀ listed a w, I listed a w → (∀ i, i < ops.size → listed.getD i true = true) → Q .normal a w) : (Code.region id ops true).wpIn F n P Q a w :=
  wpIn_region_any hm (wpAnyIn_inv I hstep (fun _ _ _ h hr => hend _ _ _ h (fun i hi => all_up hu hr i i (Nat.le_refl _) hi)) _ _ _ _ (by unfold openN; simp) h0)
end
/-- A slot that is laid once its operation has come up. -/
def sl (b : Bool) (v : Value) : Value := if b then v else undef
theorem sl_true (v : Value) : sl true v = v := rfl
theorem sl_false (v : Value) : sl false v = undef := rfl
end Go.Proofs.YtnnobbbljpaieaaDoor
