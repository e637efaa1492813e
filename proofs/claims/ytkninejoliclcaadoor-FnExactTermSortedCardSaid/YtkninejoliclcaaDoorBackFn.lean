/- The iterator over a row of texts from its end on: slices.Backward. -/
import Derived.RangeFuncNested
import Derived.RangeFuncBound
import Derived.RangeFuncCalls
import Derived.RangeFuncLeaves
import Derived.RangeFuncFrom
import Derived.RangeFuncBox
import Derived.Shelf.Abstract
import Derived.Shelf.RegionOpen
import Derived.OwnWalkIn
import Derived.TacticsInMore
import Derived.LoopNIn
import Derived.LoopIn
import Derived.Test.YtkninejoliclcaaDoorRowV
namespace Go.Proofs.YtkninejoliclcaaDoor
open Go.RowKit Go.Shelf
attribute [local go_sem] Oper.semAt_some
set_option linter.unusedVariables false
set_option maxRecDepth 100000

/-- A block that stays. -/
def Fix (g : Nat) (cur : Array Value) (X : World) : Prop := X.heap[g]? = some (.cells cur 9 (0, 0))
theorem Fix.lt {g : Nat} {cur : Array Value} {X : World} (h : Fix g cur X) : g < X.heap.size := (Array.getElem?_eq_some_iff.1 h).1
theorem Fix.cell {g : Nat} {cur : Array Value} {X : World} (h : Fix g cur X) (k : Nat) : X.cell? ⟨g, k, none⟩ = cur[k]? := by simp [World.cell?, show X.heap[g]? = _ from h]
theorem fix_own {β : Type} (g : Nat) (cur : Array Value) : Own (fun (_ : β) W => Fix g cur W) := fun s X Y row hs hg hr =>
  (hg.block g hs.lt (fun e => by
    obtain ⟨o, ho, hc⟩ := hr g e.symm
    rw [show X.heap[g]? = _ from hs] at ho
    cases ho
    cases hc)).trans hs

abbrev BkI (m : Nat) := { i : Nat // i < m }
abbrev encK (cur : Array Value) (m : Nat) (x : BkI m) : Array Value := #[.int .i64 (x.1 : Int), cur[x.1]?.getD undef]
def valsK {m : Nat} (l : List (BkI m)) : List Nat := l.map (·.1)
theorem valsK_snoc {m : Nat} (l : List (BkI m)) (x : BkI m) : valsK (l ++ [x]) = valsK l ++ [x.1] := by simp [valsK]
/-- What a round owes to the iterator: its box and the row stay. -/
def KeepK (B g cap m : Nat) (cur : Array Value) (X Y : World) : Prop := Boxed X B 71 (.slice (some ⟨g, 0, none⟩) m cap) ∧ Fix g cur X → Boxed Y B 71 (.slice (some ⟨g, 0, none⟩) m cap) ∧ Fix g cur Y
theorem keepK_t {B g cap m : Nat} {cur : Array Value} {X Y Z : World} (h : KeepK B g cap m cur X Y) (k : KeepK B g cap m cur Y Z) : KeepK B g cap m cur X Z := fun x => k (h x)
theorem keepK_b {B g cap m : Nat} {cur : Array Value} (W : World) (l : Nat) (o o' : Obj) (h : W.heap[l]? = some o) (ho : o.isCells = false) : KeepK B g cap m cur W (W.putObj l o') := fun x =>
  ⟨(boxed_own (β := Unit) B _ (fun _ => _)).putObj (s := ()) o' x.1 h ho, (fix_own (β := Unit) g cur).putObj (s := ()) o' x.2 h ho⟩
theorem range_rev (k : Nat) : (List.range (k + 1)).reverse = k :: (List.range k).reverse := by rw [List.range_succ, List.reverse_append]; rfl

set_option maxHeartbeats 1000000 in
theorem back_stops (n Bn g cap m : Nat) (cur : Array Value) (hn : 1 ≤ n) (hm : m ≤ 100000) (hcur : ∀ k, k < m → ∃ x : ByteArray, cur[k]? = some (.string x)) (w : World) (hc : Boxed w Bn 71 (.slice (some ⟨g, 0, none⟩) m cap)) (hg : Fix g cur w) :
    SeqStopsK Fence.wide n Tryd.prog 76 #[.pointer (some ⟨Bn, 0, none⟩)] (encK cur m) (KeepK Bn g cap m cur) (fun xs => valsK xs = (List.range m).reverse) (fun pre => True) m w := fun l J Jx W hb hJ hJx hY h0 => by
  have hcW : Boxed W Bn 71 (.slice (some ⟨g, 0, none⟩) m cap) := (hb.block Bn hc.lt).trans hc
  have hgW : Fix g cur W := (hb.block g hg.lt).trans hg
  have HY := Lib.hid hY
  have HCW := Lib.hid (show (True ∧ Boxed W Bn 71 (.slice (some ⟨g, 0, none⟩) m cap)) ∧ Fix g cur W from ⟨⟨trivial, hcW⟩, hgW⟩)
  have HCU := Lib.hid hcur
  have c0 := hcW.cell
  have hw0 : wrap64 ((m : Int) - 1) = (m : Int) - 1 := by unfold wrap64; omega
  clear hY hJ hJx hb hc hcW hg hgW hcur
  refine callsIn_of_wp Tryd.func76 rfl trivial ?_ rfl
  simp only [Tryd.ntmps76, List.size_toArray, List.length_cons, List.length_nil, Nat.reduceAdd, Nat.reduceSub, Array.replicate_succ, Array.replicate_zero, List.push_toArray, List.append_toArray, List.nil_append, List.cons_append]
  gi_wp2
  gi_loopw [3] (fun b wr => ∃ (k : Nat) (pre : List (BkI m)), k ≤ m ∧ b = .int .i64 ((k : Int) - 1) ∧ Hid (valsK pre ++ (List.range k).reverse = (List.range m).reverse) ∧ J pre wr ∧ Hid (Boxed wr Bn 71 (.slice (some ⟨g, 0, none⟩) m cap) ∧ Fix g cur wr)) (fun b _ => (intOf b + 1).toNat)
  case atStart => exact ⟨m, [], Nat.le_refl _, rfl, Lib.hid rfl, h0, Lib.hid ⟨HCW.out.1.2, HCW.out.2⟩⟩
  case round =>
    obtain ⟨k, pre, hk, rfl, hp, hJ, hcr⟩ := hrel
    cases k with
    | zero =>
      have HP := Lib.hid (show valsK pre = (List.range m).reverse by have h := hp.out; simpa using h)
      have hd : decide ((0 : Int) ≤ ((0 : Nat) : Int) - 1) = false := by decide
      gi_wp2
      go_end0
      exact ⟨⟨_, rfl⟩, .inl ⟨_, HP.out, hJ⟩⟩
    | succ j =>
      have hj : ((j + 1 : Nat) : Int) - 1 = (j : Int) := by omega
      rw [hj]
      have hlen : pre.length < m := by
        have h2 := congrArg List.length hp.out
        rw [List.length_append, List.length_reverse, List.length_reverse, List.length_range, List.length_range] at h2
        have h4 : (valsK pre).length = pre.length := by simp [valsK]
        omega
      obtain ⟨fn, tmps, assign, body, hy, hR⟩ := HY.out pre ⟨j, by omega⟩ wr hJ hlen
      obtain ⟨x, hx⟩ := HCU.out j (by omega)
      have hgd : cur[j]?.getD undef = .string x := by rw [hx]; rfl
      dsimp only [encK] at hy
      rw [hgd] at hy
      have HP := Lib.hid (show valsK (pre ++ [(⟨j, by omega⟩ : BkI m)]) ++ (List.range j).reverse = (List.range m).reverse by
        rw [valsK_snoc, List.append_assoc, List.singleton_append, ← range_rev]
        exact hp.out)
      have hcc := hcr.out.1.cell
      have hcx : wr.cell? ⟨g, j, none⟩ = some (.string x) := (hcr.out.2.cell j).trans hx
      have hjm : (0 : Int) ≤ (j : Int) ∧ (j : Int) < (m : Int) := by omega
      have hwj : wrap64 ((j : Int) - 1) = (j : Int) - 1 := by unfold wrap64; omega
      clear hlen hgd hx hp hj
      gi_wp2
      refine hR.mono ?_
      rintro e W3 (⟨rfl, hJ3, hk3⟩ | ⟨rfl, hJx3⟩)
      · have hC3 := Lib.hid (hk3 hcr.out)
        gi_wp2
        go_roundw
        case rel => exact ⟨j, _, by omega, rfl, HP, hJ3, hC3⟩
        case measure => simp [intOf]
      · gi_wp2
        refine bodyPost_ret (results_none rfl _ _ _) rfl ?_
        exact ⟨⟨_, rfl⟩, .inr ⟨_, trivial, hJx3⟩⟩
theorem backward_any (A : Option Addr) (m c : Nat) (w : World) : Calls Tryd.prog 65 #[.slice A m c] w fun e w' =>
    e = .returned (.func (.func 76) #[] #[.pointer (some ⟨w.heap.size, 0, none⟩)]) ∧ w.alloc (.cells #[.slice A m c] 71) = w' := by
  have hmf : ∀ (fn : Fn) (first cap : Array Value) (w : World), (Instr.makeFunc fn first cap).run Tryd.prog w = .ok (.func fn first cap) w := fun _ _ _ _ => rfl
  go_enter Tryd.func65, Tryd.ntmps65
  go_wp2
  go_ret
  exact ⟨rfl, rfl⟩

end Go.Proofs.YtkninejoliclcaaDoor
