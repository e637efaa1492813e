/- The iterator over the subsets of a set of edges. -/
import Derived.Test.YtpegeleidkfpbaaDoorSubsMath
import Derived.Test.YtpegeleidkfpbaaDoorBaseA
namespace Go.Proofs.YtpegeleidkfpbaaDoor
open Go.RowKit Go.Shelf
attribute [local go_sem] Oper.semAt_some
set_option linter.unusedVariables false
set_option maxRecDepth 100000

abbrev Sb (C : Nat) := { s : Nat // s &&& C = s }
abbrev encS (C : Nat) (x : Sb C) : Array Value := #[.int .i64 (x.1 : Int)]
def valsS {C : Nat} (l : List (Sb C)) : List Nat := l.map (·.1)
theorem valsS_snoc {C : Nat} (l : List (Sb C)) (x : Sb C) : valsS (l ++ [x]) = valsS l ++ [x.1] := by simp [valsS]
theorem subs_len {C s : Nat} (hC : C < 1024) (hs : s &&& C = s) : (subsOf C s).length ≤ C - s + 1 := by
  have h : ∀ f s, s &&& C = s → C - s ≤ f → (subsFrom C f s).length ≤ C - s + 1 := fun f => by
    induction f with
    | zero => intro s _ _; simp [subsFrom]
    | succ f ih =>
      intro s hs hf
      unfold subsFrom
      split
      · simp
      · rename_i hne
        obtain ⟨h1, h2⟩ := nxt_facts hC hs hne
        have hsC : s ≤ C := by rw [← hs]; exact Nat.and_le_right
        have hnC : nxt C s ≤ C := by rw [← h2]; exact Nat.and_le_right
        have := ih (nxt C s) h2 (by omega)
        rw [List.length_cons]
        omega
  exact h 1024 s hs (by omega)
/-- What a round owes to the iterator: its box stays. -/
def KeepS (B C : Nat) (X Y : World) : Prop := Boxed X B 3 (.int .i64 C) → Boxed Y B 3 (.int .i64 C)
theorem keepS_t {B C : Nat} {X Y Z : World} (h : KeepS B C X Y) (k : KeepS B C Y Z) : KeepS B C X Z := fun x => k (h x)
theorem keepS_b {B C : Nat} (W : World) (l : Nat) (o o' : Obj) (h : W.heap[l]? = some o) (ho : o.isCells = false) : KeepS B C W (W.putObj l o') := fun x => (boxed_own (β := Unit) B _ (fun _ => _)).putObj (s := ()) o' x h ho
set_option maxHeartbeats 1000000 in
theorem subs_stops (n Bn C : Nat) (hn : 1 ≤ n) (hC : C < 1024) (w : World) (hc : Boxed w Bn 3 (.int .i64 C)) :
    SeqStopsK Fence.wide n Tryd.prog 92 #[.pointer (some ⟨Bn, 0, none⟩)] (encS C) (KeepS Bn C) (fun xs => valsS xs = subsL C) (fun pre => True) 1024 w := fun l J Jx W hb hJ hJx hY h0 => by
  have hcW : Boxed W Bn 3 (.int .i64 C) := (hb.block Bn hc.lt).trans hc
  have HY := Lib.hid hY
  have HCW := Lib.hid (show True ∧ Boxed W Bn 3 (.int .i64 C) from ⟨trivial, hcW⟩)
  clear hY hJ hJx hb hc hcW
  refine callsIn_of_wp Tryd.func92 rfl trivial ?_ rfl
  simp only [Tryd.ntmps92, List.size_toArray, List.length_cons, List.length_nil, Nat.reduceAdd, Nat.reduceSub, Array.replicate_succ, Array.replicate_zero, List.push_toArray, List.append_toArray, List.nil_append, List.cons_append]
  gi_wp2
  gi_loopw [3] (fun b wr => ∃ (s : Nat) (pre : List (Sb C)), s &&& C = s ∧ b = .int .i64 s ∧ Hid (valsS pre ++ subsOf C s = subsL C) ∧ J pre wr ∧ Hid (Boxed wr Bn 3 (.int .i64 C))) (fun b _ => C - (intOf b).toNat)
  case atStart => exact ⟨0, [], by simp, rfl, Lib.hid rfl, h0, Lib.hid HCW.out.2⟩
  case round =>
    obtain ⟨s, pre, hs, rfl, hp, hJ, hcr⟩ := hrel
    have hsC : s ≤ C := by rw [← hs]; exact Nat.and_le_right
    have hlen : pre.length < 1024 := by
      have h1 := subs_len (s := 0) hC (by simp)
      have h2 := congrArg List.length hp.out
      rw [List.length_append, subsL_eq] at h2
      have h3 : 1 ≤ (subsOf C s).length := by
        show 1 ≤ (subsFrom C 1024 s).length
        unfold subsFrom
        split <;> simp
      have h4 : (valsS pre).length = pre.length := by simp [valsS]
      omega
    obtain ⟨fn, tmps, assign, body, hy, hR⟩ := HY.out pre ⟨s, hs⟩ wr hJ hlen
    dsimp only [encS] at hy
    clear hlen
    gi_wp2
    refine hR.mono ?_
    rintro e W3 (⟨rfl, hJ3, hk3⟩ | ⟨rfl, hJx3⟩)
    · have hC3 := Lib.hid (hk3 hcr.out)
      have hc3 := hC3.out.cell
      by_cases hne : s = C
      · have hd : ((s : Int) != (C : Int)) = false := by simp; omega
        have HP := Lib.hid (show valsS (pre ++ [(⟨s, hs⟩ : Sb C)]) = subsL C by
          have h := hp.out
          rw [hne, subsOf_end] at h
          rw [valsS_snoc]
          show valsS pre ++ [s] = subsL C
          rw [hne]
          exact h)
        clear hp
        gi_wp2
        go_end0
        exact ⟨⟨_, rfl⟩, .inl ⟨_, HP.out, hJ3⟩⟩
      · have hd : ((s : Int) != (C : Int)) = true := by simp; omega
        have hnx := nxt_facts hC hs hne
        have hop := nxt_op hC hsC
        have hwr : wrap64 ((s : Int) - (C : Int)) = (s : Int) - (C : Int) := by unfold wrap64; omega
        have HP := Lib.hid (show valsS (pre ++ [(⟨s, hs⟩ : Sb C)]) ++ subsOf C (nxt C s) = subsL C by
          rw [valsS_snoc, List.append_assoc, List.singleton_append, ← subsOf_next hC hs hne]
          exact hp.out)
        obtain ⟨t, et⟩ : ∃ t, t = nxt C s := ⟨_, rfl⟩
        rw [← et] at hnx hop HP
        clear hp et
        gi_wp2
        go_roundw
        case rel => exact ⟨t, _, hnx.2, rfl, HP, hJ3, hC3⟩
        case measure =>
          have htC : t ≤ C := by rw [← hnx.2]; exact Nat.and_le_right
          simp [intOf]
          omega
    · gi_wp2
      go_end0
      exact ⟨⟨_, rfl⟩, .inr ⟨_, trivial, hJx3⟩⟩
theorem subsets_any (C : Nat) (w : World) : Calls Tryd.prog 70 #[.int .i64 C] w fun e w' =>
    e = .returned (.func (.func 92) #[] #[.pointer (some ⟨w.heap.size, 0, none⟩)]) ∧ w.alloc (.cells #[.int .i64 C] 3) = w' := by
  have hmf : ∀ (fn : Fn) (first cap : Array Value) (w : World), (Instr.makeFunc fn first cap).run Tryd.prog w = .ok (.func fn first cap) w := fun _ _ _ _ => rfl
  go_enter Tryd.func70, Tryd.ntmps70
  go_wp2
  go_ret
  exact ⟨rfl, rfl⟩
end Go.Proofs.YtpegeleidkfpbaaDoor
