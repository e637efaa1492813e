/- A region that draws its order, inside a round of a range over a function: loads that may come before or after the calls are taken first, where a condition on the world holds behind each operation; what is left comes one by one. -/
import Derived.OrdersHeld
import Derived.StillTail
import Derived.OrdersIn
import Derived.TacticsIn
import Derived.RangeFuncCalls
import Derived.Test.YtcemhepojjbcgaaDoorBaseL
namespace Go.Proofs.YtcemhepojjbcgaaDoor
open Go
set_option linter.unusedVariables false

section
variable {n rnd : Nat} {P : Program} {ops : Array Oper} {md : Region.Mode} {S : World → Prop}

/-- It ends as a plain operation does, and there K holds. -/
def AtN (K : Act → World → Prop) : Exit → Act → World → Prop
  | .normal, a, w => K a w
  | _, _, _ => False
theorem atN_out {K : Act → World → Prop} (h : LetsOut (AtN K)) : False := by obtain ⟨a, w, h⟩ := h; exact h

theorem wp_atN {o : Oper} {a : Act} {w : World} {K K' K2 : Act → World → Prop} {Q : Exit → Act → World → Prop} (hk : ∀ a w, K a w → K' a w) (h : o.wp P a w K (AtN K2)) : o.wp P a w K' Q := by
  unfold Oper.wp at *
  generalize (execOp a.eval o).run P w = r at *
  cases r with
  | ok x w' =>
    cases x <;> simp only [Oper.upon] at *
    case value => exact hk _ _ h
    case skip => exact hk _ _ h
    case defer => exact hk _ _ h
    case enter f args =>
      refine Calls.mono h fun e w'' he => ?_
      cases e with
      | returned u => exact hk _ _ he
      | panicked c => exact False.elim he
      | outgrown => exact (atN_out he).elim
    case row => exact Rows.mono h fun u w'' he => hk _ _ he
  | halt x w' =>
    cases x <;> simp only [Oper.upon] at *
    case panic => exact False.elim h

theorem wpOp_atN {i : Nat} {a : Act} {w : World} {K K' K2 : Act → World → Prop} {Q : Exit → Act → World → Prop} (hk : ∀ a w, K a w → K' a w) (h : wpOp P ops (AtN K2) i K a w) : wpOp P ops Q i K' a w := by
  unfold wpOp at *
  split
  · rename_i ho; simp only [ho] at h; exact hk _ _ h
  · rename_i o ho
    simp only [ho] at h
    split
    · rename_i hw
      simp only [hw, if_true] at h
      rcases h with h | ⟨_, h⟩
      · exact .inl (wp_atN hk h)
      · exact (atN_out h).elim
    · rename_i hw; simp only [hw] at h; exact hk _ _ h

/-- What is left, one by one; behind each one S holds. -/
def tailH (P : Program) (ops : Array Oper) (S : World → Prop) (K : Act → World → Prop) : List Oper → Act → World → Prop
  | [], a, w => K a w
  | o :: l, a, w => wpList P ops (AtN fun a' w' => S w' ∧ tailH P ops S K l a' w') [o] a w
theorem tailH_cons {K : Act → World → Prop} {o : Oper} {l : List Oper} {a : Act} {w : World} (h : wpList P ops (AtN fun a' w' => S w' ∧ tailH P ops S K l a' w') [o] a w) : tailH P ops S K (o :: l) a w := h

theorem wpAnyH_of_tail {K : Act → World → Prop} : ∀ (l : List Oper) (k : Nat) (listed : Array Bool) (a : Act) (w : World), (∀ j : Nat, l[j]? = ops[k + j]?) →
    Region.seqB md ops l.length k listed = true → tailH P ops S K l a w → wpAnyH P md ops (AtN K) S l.length listed a w
  | [], _, _, _, _, _, hB, h => ⟨by simpa [Region.seqB] using hB, h⟩
  | o :: l, k, listed, a, w, hl, hB, h => by
    have h0 : ops[k]? = some o := by simpa using (hl 0).symm
    simp only [List.length_cons, Region.seqB, Bool.and_eq_true, decide_eq_true_eq] at hB
    refine ⟨fun h1 => (by rw [hB.1] at h1; cases h1), fun i hi => ?_⟩
    rw [hB.1] at hi
    have hik : i = k := by simpa using hi
    subst hik
    have hw : wpOp P ops (AtN fun a' w' => S w' ∧ tailH P ops S K l a' w') i (fun a' w' => S w' ∧ tailH P ops S K l a' w') a w := by
      unfold wpOp; simp only [h0]; exact h
    exact wpOp_atN (fun a' w' h' => ⟨h'.1, wpAnyH_of_tail l (i + 1) _ a' w' (fun j => by have := hl (j + 1); simpa [Nat.add_assoc, Nat.add_comm 1 j] using this) hB.2 h'.2⟩) hw

theorem wpIn_of_wp_round {o : Oper} {a : Act} {w : World} {K K' K2 : Act → World → Prop} {Q : Exit → Act → World → Prop} (hd : ∀ c, o.op ≠ .defer c) (hab : ∀ f : Nat, True) (hk : ∀ a w, K a w → K' a w) (h : o.wp P a w K (AtN K2)) : o.wpIn (Fence.wide.inRound rnd) n P a w K' Q := by
  unfold Oper.wpIn
  refine ⟨fun _ _ => trivial, ?_⟩
  rw [Oper.semAt_eq _ _ _ hd]
  unfold Oper.wp at h
  generalize (execOp a.eval o).run P w = r at *
  cases r with
  | ok x w' =>
    cases x <;> simp only [Oper.upon] at h <;> simp only [Oper.uponIn]
    case value => exact hk _ _ h
    case skip => exact hk _ _ h
    case defer => exact hk _ _ h
    case enter f args =>
      refine ⟨fun e => (by cases e), (CallsIn.inRound rnd (callsIn_wide.2 h)).mono fun e w'' he => ?_⟩
      cases e with
      | returned u => exact hk _ _ he
      | panicked c => exact False.elim he
      | outgrown => exact (atN_out he).elim
    case row row args =>
      refine ⟨fun e => (by cases e), fun c cs _ => ?_⟩
      obtain ⟨v, w2, q, s⟩ := h c cs
      exact ⟨v, w2, hk _ _ q, stepsIn_wide.2 s⟩
  | halt x w' =>
    cases x <;> simp only [Oper.upon] at h <;> simp only [Oper.uponIn]
    case panic => exact False.elim h

theorem wpOpIn_of_wp_round {i : Nat} {a : Act} {w : World} {K K' K2 : Act → World → Prop} {Q : Exit → Act → World → Prop} (hd : ∀ (i : Nat) (o : Oper), ops[i]? = some o → ∀ c, o.op ≠ .defer c) (hk : ∀ a w, K a w → K' a w) (h : wpOp P ops (AtN K2) i K a w) :
    wpOpIn (Fence.wide.inRound rnd) n P ops Q i K' a w := by
  unfold wpOp at h
  unfold wpOpIn
  split
  · rename_i ho; simp only [ho] at h; exact hk _ _ h
  · rename_i o ho
    simp only [ho] at h
    split
    · rename_i hw
      simp only [hw, if_true] at h
      rcases h with h | ⟨_, h⟩
      · exact wpIn_of_wp_round (hd i o ho) (fun _ => trivial) hk h
      · exact (atN_out h).elim
    · rename_i hw; simp only [hw] at h; exact ⟨fun _ _ => trivial, hk _ _ h⟩

theorem wpAnyIn_of_held {K : Act → World → Prop} {Q : Exit → Act → World → Prop} (hd : ∀ (i : Nat) (o : Oper), ops[i]? = some o → ∀ c, o.op ≠ .defer c) (hQ : ∀ a w, K a w → Q .normal a w) :
    ∀ (f : Nat) (listed : Array Bool) (a : Act) (w : World), wpAnyH P md ops (AtN K) S f listed a w → wpAnyIn (Fence.wide.inRound rnd) n P md ops Q f listed a w
  | 0, listed, a, w, h => ⟨h.1, hQ _ _ h.2⟩
  | f + 1, listed, a, w, h => ⟨fun h0 => hQ _ _ (h.1 h0), fun i hi => wpOpIn_of_wp_round hd (fun a' w' h' => wpAnyIn_of_held hd hQ f _ a' w' h'.2) (h.2 i hi)⟩

/-! ### the first operations in whatever order that is allowed, the others one by one behind them all -/
def allB : Nat → List (List Bool)
  | 0 => [[]]
  | k + 1 => (allB k).flatMap fun l => [l ++ [false], l ++ [true]]
theorem allB_mem : ∀ (k : Nat) (l : List Bool), l.length = k → l ∈ allB k
  | 0, l, h => by
    have : l = [] := List.eq_nil_of_length_eq_zero h
    subst this
    simp [allB]
  | k + 1, l, h => by
    have hk : k < l.length := by omega
    have e : l = l.take k ++ [l[k]] := by rw [← List.take_succ_eq_append_getElem hk, ← h, List.take_length]
    unfold allB
    refine List.mem_flatMap.2 ⟨l.take k, allB_mem k _ (by rw [List.length_take]; omega), ?_⟩
    rw [e]
    have hl : (l.take k).length = k := by rw [List.length_take]; omega
    cases l[k] <;> simp [hl]
theorem getD_list (b : List Bool) (j : Nat) : b.toArray.getD j false = b[j]?.getD false := by
  unfold Array.getD
  by_cases h : j < b.length <;> simp [h]
/-- Whatever has come up came behind those that it waits for. -/
def Came (l : List Oper) (b : List Bool) : Prop := ∀ (i : Nat) (o : Oper), l[i]? = some o → b[i]? = some true → ∀ e ∈ o.after, Region.binds .any e = true → b[e.on]?.getD false = true
def cameB (l : List Oper) (k : Nat) (b : List Bool) : Bool :=
  (List.range k).all fun i => match l[i]? with
    | none => true
    | some o => !(b[i]?.getD false) || o.after.all fun e => !Region.binds .any e || b[e.on]?.getD false
theorem cameB_of {l : List Oper} {k : Nat} {b : List Bool} (h : Came l b) : cameB l k b = true := by
  refine List.all_eq_true.2 fun i _ => ?_
  cases ho : l[i]? with
  | none => rfl
  | some o =>
    show (!(b[i]?.getD false) || o.after.all fun e => !Region.binds .any e || b[e.on]?.getD false) = true
    cases hb : b[i]?.getD false with
    | false => rfl
    | true =>
      have hb' : b[i]? = some true := by
        cases h2 : b[i]? with
        | none => rw [h2] at hb; simp at hb
        | some x => rw [h2] at hb; simp at hb; rw [hb]
      rw [Bool.not_true, Bool.false_or, Array.all_eq_true]
      intro j hj
      have h1 := h i o ho hb' (o.after[j]) (Array.getElem_mem hj)
      cases h3 : Region.binds .any o.after[j] with
      | false => rfl
      | true => rw [h1 h3]; rfl
theorem came_set {l : List Oper} {b : List Bool} {i : Nat} {oi : Oper} (h : Came l b) (hib : i < b.length) (hoi : l[i]? = some oi) (hw : ∀ e ∈ oi.after, Region.binds .any e = true → b[e.on]?.getD false = true) : Came l (b.set i true) := by
  have up : ∀ j, b[j]?.getD false = true → (b.set i true)[j]?.getD false = true := fun j hj => by
    by_cases e : i = j
    · subst e; rw [List.getElem?_set_self hib]; rfl
    · rw [List.getElem?_set_ne e]; exact hj
  intro j o ho hb e he hbd
  by_cases hij : i = j
  · subst hij
    rw [hoi] at ho
    cases ho
    exact up _ (hw e he hbd)
  · rw [List.getElem?_set_ne hij] at hb
    exact up _ (h j o ho hb e he hbd)
/-- As long as one of the first k is left, those that may come up are some of the first k, as if there were no others. -/
def headB (l : List Oper) (k : Nat) : Bool :=
  (allB k).all fun b => b.all id || !cameB l k b || (decide (Region.ready .any l.toArray (b ++ List.replicate (l.length - k) false).toArray = Region.ready .any (l.take k).toArray b.toArray) && !(Region.ready .any (l.take k).toArray b.toArray).isEmpty)
def noGuard (l : List Oper) : Bool := l.all fun o => o.guard.isNone
theorem wanted_of {l : List Oper} (h : noGuard l = true) {i : Nat} {o : Oper} (ho : l[i]? = some o) (y : _) : Region.wanted o y = true := by
  have h1 := List.all_eq_true.1 h o (List.mem_of_getElem? ho)
  cases hg : o.guard with
  | none => simp [Region.wanted, hg]
  | some g => rw [hg] at h1; simp at h1

theorem count_set {b : List Bool} {i : Nat} (hi : i < b.length) (h0 : b[i]? = some false) : (b.set i true).count false + 1 = b.count false := by
  induction b generalizing i with
  | nil => simp at hi
  | cons x b ih =>
    cases i with
    | zero =>
      simp at h0
      subst h0
      simp
    | succ i =>
      have h1 := ih (i := i) (by simpa using hi) (by simpa using h0)
      simp only [List.set_cons_succ, List.count_cons]
      omega

theorem wpAnyIn_cut {l : List Oper} {k : Nat} {Q : Exit → Act → World → Prop} (hk : k ≤ l.length) (hd : noPut l = true) (hg : noGuard l = true) (hh : headB l k = true)
    (hs : Region.seqB .any l.toArray (l.length - k) k (List.replicate k true ++ List.replicate (l.length - k) false).toArray = true) :
    ∀ (f : Nat) (b : List Bool) (a : Act) (w : World), b.length = k → b.count false = f → Came l b →
      wpAnyH P .any (l.take k).toArray (AtN fun a' w' => wpListIn (Fence.wide.inRound rnd) n P l.toArray Q (l.drop k) a' w') S f b.toArray a w →
      wpAnyIn (Fence.wide.inRound rnd) n P .any l.toArray Q (f + (l.length - k)) (b ++ List.replicate (l.length - k) false).toArray a w
  | 0, b, a, w, hb, hc, hcm, h => by
    have hall : b = List.replicate k true := by
      refine List.eq_replicate_iff.2 ⟨hb, fun x hx => ?_⟩
      cases x with
      | true => rfl
      | false => exact absurd hx (List.count_eq_zero.1 hc)
    subst hall
    rw [Nat.zero_add]
    have h2 := wpAnyIn_of_seq (F := Fence.wide.inRound rnd) (n := n) (P := P) (md := .any) (ops := l.toArray) (Q' := Q) (l.drop k) k (List.replicate k true ++ List.replicate (l.length - k) false).toArray a w (fun j => by simp [List.getElem?_drop]) (by rw [List.length_drop]; exact hs) h.2
    rwa [List.length_drop] at h2
  | f + 1, b, a, w, hb, hc, hcm, h => by
    have hnot : b.all id = false := by
      cases e : b.all id with
      | false => rfl
      | true =>
        have h1 : b.count false = 0 := List.count_eq_zero.2 fun hm => by
          have := List.all_eq_true.1 e false hm
          simp at this
        omega
    have hB := List.all_eq_true.1 hh b (allB_mem k b hb)
    rw [hnot, cameB_of hcm, Bool.false_or, Bool.not_true, Bool.false_or, Bool.and_eq_true, decide_eq_true_eq] at hB
    obtain ⟨hr, hne⟩ := hB
    rw [show f + 1 + (l.length - k) = (f + (l.length - k)) + 1 by omega]
    refine ⟨fun h0 => ?_, fun i hi => ?_⟩
    · rw [hr] at h0
      rw [h0] at hne
      simp at hne
    · rw [hr] at hi
      obtain ⟨hju, oj, hoj, hwt⟩ := mem_ready.1 hi
      have hlt : i < k := by
        have h1 : (l.take k)[i]? = some oj := by simpa using hoj
        have h2 := (List.getElem?_eq_some_iff.1 h1).1
        rw [List.length_take] at h2
        omega
      have hoj' : l[i]? = some oj := by
        have h1 : (l.take k)[i]? = some oj := by simpa using hoj
        rw [List.getElem?_take_of_lt hlt] at h1
        exact h1
      have hb0 : b[i]? = some false := by
        have h1 : b.toArray.getD i true = false := hju
        have hib : i < b.length := by omega
        simp [Array.getD, hib] at h1
        rw [List.getElem?_eq_getElem hib, h1]
      have hop := h.2 i hi
      unfold wpOp at hop
      simp only [hoj] at hop
      rw [wanted_of (l := l.take k) (i := i) (by
        refine List.all_eq_true.2 fun o ho => List.all_eq_true.1 hg o (List.mem_of_mem_take ho)) (by simpa using hoj)] at hop
      simp only [if_true] at hop
      unfold wpOpIn
      have hoj2 : l.toArray[i]? = some oj := by simpa using hoj'
      simp only [hoj2]
      rw [wanted_of hg hoj']
      simp only [if_true]
      rcases hop with hop | ⟨_, hop⟩
      · refine wpIn_of_wp_round (fun c => noPut_spec hd i oj hoj' c) (fun _ => trivial) (fun a' w' h' => ?_) hop
        have hib : i < b.length := by omega
        have ih := wpAnyIn_cut hk hd hg hh hs f (b.set i true) a' w' (by rw [List.length_set]; exact hb) (by have := count_set hib hb0; omega) (came_set hcm hib hoj' fun e he hbd => by
          have h1 := hwt e he hbd
          rw [getD_list] at h1
          exact h1) (by simpa using h'.2)
        have e : ((b ++ List.replicate (l.length - k) false).toArray.setIfInBounds i true) = (b.set i true ++ List.replicate (l.length - k) false).toArray := by
          simp [List.set_append_left _ _ hib]
        rw [e]
        exact ih
      · exact (atN_out hop).elim

/-- **The beginning, in a round**: the first k operations under a condition on the world, the others behind them all. -/
theorem wpIn_held_round {id : Nat} {Q : Exit → Act → World → Prop} {a : Act} {w : World} {l : List Oper} (k : Nat) (S : World → Prop) (hm : P.follows .mixedOrders = true) (hk : decide (k ≤ l.length) = true) (hd : noPut l = true) (hg : noGuard l = true) (hh : headB l k = true)
    (hs : Region.seqB .any l.toArray (l.length - k) k (List.replicate k true ++ List.replicate (l.length - k) false).toArray = true)
    (h : wpAnyH P .any (l.take k).toArray (AtN fun a' w' => wpListIn (Fence.wide.inRound rnd) n P l.toArray Q (l.drop k) a' w') S k (List.replicate k false).toArray a w.drew) : (Code.region id l.toArray true).wpIn (Fence.wide.inRound rnd) n P Q a w := by
  have hk' : k ≤ l.length := of_decide_eq_true hk
  refine wpIn_region_any hm ?_
  have h2 := wpAnyIn_cut (rnd := rnd) hk' hd hg hh hs k (List.replicate k false) a w.drew (by simp) (by simp) (fun i o _ hb => by
    rw [List.getElem?_replicate] at hb
    split at hb <;> simp at hb) h
  have e1 : k + (l.length - k) = l.toArray.size := by simp; omega
  have e2 : (List.replicate k false ++ List.replicate (l.length - k) false).toArray = Array.replicate l.toArray.size false := by
    rw [List.replicate_append_replicate]
    simp
    omega
  rw [e1, e2] at h2
  exact h2
/-- What is left of a written list. -/
theorem wpAnyH_rest {K : Act → World → Prop} {L : List Oper} (k f : Nat) {listed : Array Bool} {a : Act} {w : World} (hf : decide (L.length - k = f) = true) (hB : Region.seqB md L.toArray f k listed = true)
    (h : tailH P L.toArray S K (L.drop k) a w) : wpAnyH P md L.toArray (AtN K) S f listed a w := by
  have hf' : L.length - k = f := of_decide_eq_true hf
  have hl : (L.drop k).length = f := by rw [List.length_drop]; exact hf'
  have h2 := wpAnyH_of_tail (P := P) (ops := L.toArray) (md := md) (S := S) (K := K) (L.drop k) k listed a w (fun j => by simp [List.getElem?_drop]) (by rw [hl]; exact hB) h
  rwa [hl] at h2
end
end Go.Proofs.YtcemhepojjbcgaaDoor
