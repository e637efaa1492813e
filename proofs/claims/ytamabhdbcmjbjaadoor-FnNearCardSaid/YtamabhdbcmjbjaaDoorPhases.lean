/- A region that draws its order, inside a round, with a guard in its midst ('f(p) && !g(x)'): two loads, a forced part with the first call, some operations that leave the world alone, a forced end with the second call: one walk serves every order. -/
import Derived.Test.YtamabhdbcmjbjaaDoorBaseA
namespace Go.Proofs.YtamabhdbcmjbjaaDoor
open Go
set_option linter.unusedVariables false

section
variable {n rnd : Nat} {P : Program} {ops : Array Oper} {md : Region.Mode} {w : World}

def setFrom (listed : Array Bool) (k : Nat) : Nat → Array Bool
  | 0 => listed
  | m + 1 => setFrom (listed.setIfInBounds k true) (k + 1) m
/-- Each of some operations comes up alone, one behind the other. -/
def segB (md : Region.Mode) (ops : Array Oper) (listed : Array Bool) (k : Nat) : Nat → Bool
  | 0 => true
  | m + 1 => decide (Region.ready md ops listed = [k]) && segB md ops (listed.setIfInBounds k true) (k + 1) m

theorem wpAnyIn_seg {F : Fence} {Q : Exit → Act → World → Prop} {g : Nat} : ∀ (l : List Oper) (k : Nat) (listed : Array Bool) (a : Act) (w : World), (∀ j : Nat, j < l.length → l[j]? = ops[k + j]?) →
    segB md ops listed k l.length = true → wpListIn F n P ops (Exit.then (fun a w => wpAnyIn F n P md ops Q g (setFrom listed k l.length) a w) Q) l a w → wpAnyIn F n P md ops Q (g + l.length) listed a w
  | [], _, _, _, _, _, _, h => h
  | o :: l, k, listed, a, w, hl, hB, h => by
    have h0 : ops[k]? = some o := by simpa using (hl 0 (by simp)).symm
    simp only [List.length_cons, segB, Bool.and_eq_true, decide_eq_true_eq] at hB
    refine ⟨fun h1 => (by rw [hB.1] at h1; cases h1), fun i hi => ?_⟩
    rw [hB.1] at hi
    have hik : i = k := by simpa using hi
    subst hik
    have hw : wpOpIn F n P ops Q i (wpListIn F n P ops (Exit.then (fun a w => wpAnyIn F n P md ops Q g (setFrom (listed.setIfInBounds i true) (i + 1) l.length) a w) Q) l) a w := by
      unfold wpOpIn; simp only [h0]; exact h
    exact wpOpIn_mono (fun a' w' h' => wpAnyIn_seg l (i + 1) _ a' w' (fun j hj => by have := hl (j + 1) (by simp; omega); simpa [Nat.add_assoc, Nat.add_comm 1 j] using this) hB.2 h') hw

theorem wpListIn_mono2 {F : Fence} {Q : Exit → Act → World → Prop} {K K' : Act → World → Prop} (hK : ∀ a w, K a w → K' a w) : ∀ {l : List Oper} {a : Act} {w : World}, wpListIn F n P ops (Exit.then K Q) l a w → wpListIn F n P ops (Exit.then K' Q) l a w
  | [], a, w, h => hK a w h
  | o :: l, a, w, h => by
    unfold wpListIn at h ⊢
    split
    · rename_i hw
      rw [if_pos hw] at h
      exact Oper.wpIn_mono (Q := Exit.then K' Q) (fun a w h => wpListIn_mono2 hK h) h
    · rename_i hw
      rw [if_neg hw] at h
      exact ⟨h.1, wpListIn_mono2 hK h.2⟩

/-- Two operations that leave the world alone come up in one order or the other. -/
theorem wpAnyIn_two {o p : Oper} {i j fuel : Nat} {listed : Array Bool} {a : Act} {K : Act → Prop} {Q : Exit → Act → World → Prop} (hd : ∀ (i : Nat) (o : Oper), ops[i]? = some o → ∀ c, o.op ≠ .defer c) (hij : i ≠ j)
    (ho : ops[i]? = some o) (hp : ops[j]? = some p) (hap : o.apart ops p = true) (hs : ∀ cs b, o.op ≠ .select cs b) (hs' : ∀ cs b, p.op ≠ .select cs b)
    (h0 : Region.ready md ops listed = [i, j]) (h1 : Region.ready md ops (listed.setIfInBounds i true) = [j]) (h2 : Region.ready md ops (listed.setIfInBounds j true) = [i])
    (hK : ∀ a', K a' → wpAnyIn (Fence.wide.inRound rnd) n P md ops Q fuel ((listed.setIfInBounds i true).setIfInBounds j true) a' w) (h : stOp P ops w i (stOp P ops w j K) a) :
    wpAnyIn (Fence.wide.inRound rnd) n P md ops Q (fuel + 1 + 1) listed a w := by
  refine ⟨fun e => (by rw [h0] at e; cases e), fun x hx => ?_⟩
  rw [h0] at hx
  rcases List.mem_cons.1 hx with rfl | hx
  · refine wpOpIn_of_stOp_round hd (fun a' h' => ?_) h
    refine ⟨fun e => (by rw [h1] at e; cases e), fun y hy => ?_⟩
    rw [h1] at hy
    obtain rfl : y = j := by simpa using hy
    exact wpOpIn_of_stOp_round hd hK h'
  · obtain rfl : x = j := by simpa using hx
    obtain ⟨v, hy, hn⟩ := yieldsAt_of_stOp ho h
    have h4 := stOp_put hp hap hs hs' hy hn
    refine wpOpIn_of_stOp_round hd (fun a' h' => ?_) h4
    refine ⟨fun e => (by rw [h2] at e; cases e), fun y hy2 => ?_⟩
    rw [h2] at hy2
    obtain rfl : y = i := by simpa using hy2
    refine wpOpIn_of_stOp_round hd (fun a'' h'' => ?_) (h'.1.stOp ho h'.2)
    rw [Array.setIfInBounds_comm _ _ (Ne.symm hij)]
    exact hK _ h''

/-- What is checked of the region: by reckoning. -/
def guardedB (l : List Oper) (m : Nat) : Bool :=
  Region.noSelect l.toArray && noPut l && decide (4 + m < l.length) && decide (Region.ready .any l.toArray (Array.replicate l.toArray.size false) = [0, 1]) &&
  decide (Region.ready .any l.toArray ((Array.replicate l.toArray.size false).setIfInBounds 0 true) = [1]) && decide (Region.ready .any l.toArray ((Array.replicate l.toArray.size false).setIfInBounds 1 true) = [0]) &&
  segB .any l.toArray (setFrom (Array.replicate l.toArray.size false) 0 2) 2 2 &&
  (match l[0]?, l[1]? with | some o, some p => o.apart l.toArray p | _, _ => false) &&
  Region.sinkB .any l.toArray (4 + m) && Region.chainB .any l.toArray (4 + m) && Region.lexHead .any l.toArray (l.toArray.size - (4 + m)) m 4 (setFrom (Array.replicate l.toArray.size false) 0 4)

theorem wpIn_guarded_round {id : Nat} {Q : Exit → Act → World → Prop} {a : Act} {l : List Oper} (m : Nat) (hm : P.follows .mixedOrders = true) (hB : guardedB l m = true)
    (h : wpStill P l.toArray w.drew (fun a' => wpListIn (Fence.wide.inRound rnd) n P l.toArray (Exit.then (fun a w => wpStill P l.toArray w (fun a' => wpListIn (Fence.wide.inRound rnd) n P l.toArray Q (l.drop (4 + m)) a' w) ((l.drop 4).take m) a) Q) ((l.drop 2).take 2) a' w.drew) (l.take 2) a) :
    (Code.region id l.toArray true).wpIn (Fence.wide.inRound rnd) n P Q a w := by
  simp only [guardedB, Bool.and_eq_true, decide_eq_true_eq] at hB
  obtain ⟨⟨⟨⟨⟨⟨⟨⟨⟨⟨hsel, hput⟩, hlen⟩, r0⟩, r1⟩, r2⟩, hseg⟩, hap⟩, hs⟩, hc⟩, hlex⟩ := hB
  have hd' : ∀ (i : Nat) (o : Oper), l.toArray[i]? = some o → ∀ c, o.op ≠ .defer c := fun i o ho => noPut_spec hput i o (by simpa using ho)
  have hsz : l.toArray.size = l.length := by simp
  have e0 : l[0]? = some (l[0]'(by omega)) := List.getElem?_eq_getElem (by omega)
  have e1 : l[1]? = some (l[1]'(by omega)) := List.getElem?_eq_getElem (by omega)
  rw [e0, e1] at hap
  have inv0 : HeadInv .any l.toArray (4 + m) (Array.replicate l.toArray.size false) :=
    ⟨by simp, fun j oj _ hl => (by rw [getD_replicate_false] at hl; cases hl), fun t _ ht => getD_in (by simpa using ht) (getD_replicate_false _ _)⟩
  have hdr : (l.drop (4 + m)).length = l.toArray.size - (4 + m) := by simp
  refine wpIn_region_any hm ?_
  change wpAnyIn _ _ _ _ _ _ _ _ _ w.drew
  have f0 : l.toArray.size = ((m + (l.drop (4 + m)).length) + 2) + 1 + 1 := by rw [hdr]; omega
  obtain ⟨A, hA⟩ : ∃ A, A = Array.replicate l.toArray.size false := ⟨_, rfl⟩
  rw [← hA] at r0 r1 r2 hseg hlex inv0 ⊢
  obtain ⟨N, hN⟩ : ∃ N, N = l.toArray.size := ⟨_, rfl⟩
  rw [← hN] at f0 ⊢
  subst f0
  have hl2 : l.take 2 = [l[0]'(by omega), l[1]'(by omega)] := by
    refine List.ext_getElem? fun j => ?_
    rcases j with _ | _ | j
    · simp [e0]
    · simp [e1]
    · simp; omega
  rw [hl2] at h
  refine wpAnyIn_two (w := w.drew) (K := fun a' => wpListIn (Fence.wide.inRound rnd) n P l.toArray (Exit.then (fun a w => wpStill P l.toArray w (fun a' => wpListIn (Fence.wide.inRound rnd) n P l.toArray Q (l.drop (4 + m)) a' w) ((l.drop 4).take m) a) Q) ((l.drop 2).take 2) a' w.drew)
    hd' (show (0 : Nat) ≠ 1 by decide) (by simp) (by simp) hap (fun cs b => Region.noSelect_spec hsel 0 _ cs b (by simp)) (fun cs b => Region.noSelect_spec hsel 1 _ cs b (by simp)) r0 r1 r2 ?_ ?_
  · intro a' h'
    have hl22 : ((l.drop 2).take 2).length = 2 := by simp; omega
    have hw := wpAnyIn_seg (F := Fence.wide.inRound rnd) (n := n) (P := P) (ops := l.toArray) (md := .any) (Q := Q) (g := m + (l.drop (4 + m)).length) ((l.drop 2).take 2) 2 ((A.setIfInBounds 0 true).setIfInBounds 1 true) a' w.drew (fun j hj => by
      rw [hl22] at hj
      rw [List.getElem?_take_of_lt (by omega)]
      simp) (by rw [hl22]; exact hseg) (wpListIn_mono2 (fun a2 w2 h2 => ?_) h')
    · rw [hl22] at hw; exact hw
    · rw [hl22]
      have c0 : 0 ∈ Region.ready .any l.toArray A := by rw [r0]; simp
      have c1 : 1 ∈ Region.ready .any l.toArray (A.setIfInBounds 0 true) := by rw [r1]; simp
      simp only [segB, Bool.and_eq_true, decide_eq_true_eq] at hseg
      have c2 : 2 ∈ Region.ready .any l.toArray (setFrom A 0 2) := by rw [hseg.1]; simp
      have c3 : 3 ∈ Region.ready .any l.toArray ((setFrom A 0 2).setIfInBounds 2 true) := by rw [hseg.2.1]; simp
      have inv4 := (((inv0.set c0 (by omega)).set c1 (by omega)).set c2 (by omega)).set c3 (by omega)
      have htk : ((l.drop 4).take m).length = m := by simp; omega
      have H := wpAnyL_lex (md := .any) (g := (l.drop (4 + m)).length) hsel hs hc (by rw [hsz]; exact hlen) ((l.drop 4).take m) 4 _ a2 (fun j hj => by
        rw [htk] at hj
        rw [List.getElem?_take_of_lt hj]
        simp) (by rw [htk]) inv4 (by rw [htk, hdr]; exact hlex) h2
      have := wpAnyIn_of_head (rnd := rnd) (n := n) (Q' := Q) (g := (l.drop (4 + m)).length) hd' (fun listed a' hL => wpAnyIn_of_seq (F := Fence.wide.inRound rnd) (n := n) (P := P) (md := .any) (Q' := Q) (l.drop (4 + m)) (4 + m) listed a' w2 (fun j => by simp [List.getElem?_drop]) hL.1 hL.2) _ _ _ H
      rw [htk] at this
      exact this
  · have g0 : l.toArray[0]? = some (l[0]'(by omega)) := by simp
    have g1 : l.toArray[1]? = some (l[1]'(by omega)) := by simp
    unfold stOp
    simp only [g0, g1]
    exact h
/-- The same, what comes behind each part under a letter. -/
theorem wpIn_guarded {id : Nat} {Q : Exit → Act → World → Prop} {a : Act} {l : List Oper} (m : Nat) (hm : P.follows .mixedOrders = true) (hB : guardedB l m = true)
    (h : ∀ K1 : Act → Prop, (∀ a', (∀ K2 : Act → World → Prop, (∀ a w, (∀ K3 : Act → Prop, (∀ a', wpListIn (Fence.wide.inRound rnd) n P l.toArray Q (l.drop (4 + m)) a' w → K3 a') → wpStill P l.toArray w K3 ((l.drop 4).take m) a) → K2 a w) →
      wpListIn (Fence.wide.inRound rnd) n P l.toArray (Exit.then K2 Q) ((l.drop 2).take 2) a' w.drew) → K1 a') → wpStill P l.toArray w.drew K1 (l.take 2) a) :
    (Code.region id l.toArray true).wpIn (Fence.wide.inRound rnd) n P Q a w :=
  wpIn_guarded_round m hm hB (h _ (fun a' h1 => h1 _ (fun a w h2 => h2 _ (fun a' h3 => h3))))
end
end Go.Proofs.YtamabhdbcmjbjaaDoor
