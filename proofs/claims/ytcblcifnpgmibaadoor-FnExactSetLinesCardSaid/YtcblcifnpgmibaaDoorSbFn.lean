/- The iterator over the subsets of a set of at most 15 members. -/
import Derived.Test.YtcblcifnpgmibaaDoorSbMath
import Derived.Test.YtcblcifnpgmibaaDoorBaseA
namespace Go.Proofs.YtcblcifnpgmibaaDoor
open Go.RowKit Go.Shelf
attribute [local go_sem] Oper.semAt_some
set_option linter.unusedVariables false
set_option maxRecDepth 100000

abbrev SbS (C : Nat) := { s : Nat // s &&& C = s }
abbrev encB (C : Nat) (x : SbS C) : Array Value := #[.int .i64 (x.1 : Int)]
def valsB {C : Nat} (l : List (SbS C)) : List Nat := l.map (·.1)
theorem valsB_snoc {C : Nat} (l : List (SbS C)) (x : SbS C) : valsB (l ++ [x]) = valsB l ++ [x.1] := by simp [valsB]
/-- What a round owes to the iterator: its box stays. -/
def KeepB (B C : Nat) (X Y : World) : Prop := Boxed X B 3 (.int .i64 C) → Boxed Y B 3 (.int .i64 C)
theorem keepB_t {B C : Nat} {X Y Z : World} (h : KeepB B C X Y) (k : KeepB B C Y Z) : KeepB B C X Z := fun x => k (h x)
theorem keepB_b {B C : Nat} (W : World) (l : Nat) (o o' : Obj) (h : W.heap[l]? = some o) (ho : o.isCells = false) : KeepB B C W (W.putObj l o') := fun x => (boxed_own (β := Unit) B _ (fun _ => _)).putObj (s := ()) o' x h ho
set_option maxHeartbeats 1000000 in
theorem sb_stops (n Bn C : Nat) (hn : 1 ≤ n) (hC : C < 32768) (w : World) (hc : Boxed w Bn 3 (.int .i64 C)) :
    SeqStopsK Fence.wide n Tryd.prog 78 #[.pointer (some ⟨Bn, 0, none⟩)] (encB C) (KeepB Bn C) (fun xs => valsB xs = sbL C) (fun pre => True) 32768 w := fun l J Jx W hb hJ hJx hY h0 => by
  have hcW : Boxed W Bn 3 (.int .i64 C) := (hb.block Bn hc.lt).trans hc
  have HY := Lib.hid hY
  have HCW := Lib.hid (show True ∧ Boxed W Bn 3 (.int .i64 C) from ⟨trivial, hcW⟩)
  clear hY hJ hJx hb hc hcW
  refine callsIn_of_wp Tryd.func78 rfl trivial ?_ rfl
  simp only [Tryd.ntmps78, List.size_toArray, List.length_cons, List.length_nil, Nat.reduceAdd, Nat.reduceSub, Array.replicate_succ, Array.replicate_zero, List.push_toArray, List.append_toArray, List.nil_append, List.cons_append]
  gi_wp2
  gi_loopw [3] (fun b wr => ∃ (s : Nat) (pre : List (SbS C)), s &&& C = s ∧ b = .int .i64 s ∧ Hid (valsB pre ++ sbOf C s = sbL C) ∧ J pre wr ∧ Hid (Boxed wr Bn 3 (.int .i64 C))) (fun b _ => C - (intOf b).toNat)
  case atStart => exact ⟨0, [], by simp, rfl, Lib.hid rfl, h0, Lib.hid HCW.out.2⟩
  case round =>
    obtain ⟨s, pre, hs, rfl, hp, hJ, hcr⟩ := hrel
    have hsC : s ≤ C := by rw [← hs]; exact Nat.and_le_right
    have hlen : pre.length < 32768 := by
      have h1 := (sbOf_len (s := 0) hC (by simp)).1
      have h2 := congrArg List.length hp.out
      rw [List.length_append, sbL_eq] at h2
      have h3 : 1 ≤ (sbOf C s).length := (sbOf_len hC hs).2
      have h4 : (valsB pre).length = pre.length := by simp [valsB]
      omega
    obtain ⟨fn, tmps, assign, body, hy, hR⟩ := HY.out pre ⟨s, hs⟩ wr hJ hlen
    dsimp only [encB] at hy
    clear hlen
    gi_wp2
    refine hR.mono ?_
    rintro e W3 (⟨rfl, hJ3, hk3⟩ | ⟨rfl, hJx3⟩)
    · have hC3 := Lib.hid (hk3 hcr.out)
      have hc3 := hC3.out.cell
      by_cases hne : s = C
      · have hd : ((s : Int) != (C : Int)) = false := by simp; omega
        have HP := Lib.hid (show valsB (pre ++ [(⟨s, hs⟩ : SbS C)]) = sbL C by
          have h := hp.out
          rw [hne, sbOf_end] at h
          rw [valsB_snoc]
          show valsB pre ++ [s] = sbL C
          rw [hne]
          exact h)
        clear hp
        gi_wp2
        go_end0
        exact ⟨⟨_, rfl⟩, .inl ⟨_, HP.out, hJ3⟩⟩
      · have hd : ((s : Int) != (C : Int)) = true := by simp; omega
        have hnx := nx_facts hC hs hne
        have hop := nx_op hC hsC
        have hwr : wrap64 ((s : Int) - (C : Int)) = (s : Int) - (C : Int) := by unfold wrap64; omega
        have HP := Lib.hid (show valsB (pre ++ [(⟨s, hs⟩ : SbS C)]) ++ sbOf C (nx C s) = sbL C by
          rw [valsB_snoc, List.append_assoc, List.singleton_append, ← sbOf_next hC hs hne]
          exact hp.out)
        obtain ⟨t, et⟩ : ∃ t, t = nx C s := ⟨_, rfl⟩
        rw [← et] at hnx hop HP
        clear hp et
        gi_wp2
        go_roundw
        case rel => exact ⟨t, _, hnx.2, rfl, HP, hJ3, hC3⟩
        case measure =>
          have htC : t ≤ C := by rw [← hnx.2]; exact Nat.and_le_right
          simp [intOf]
          omega
    · gi_wp2
      go_end0
      exact ⟨⟨_, rfl⟩, .inr ⟨_, trivial, hJx3⟩⟩
theorem subsetsB_any (C : Nat) (w : World) : Calls Tryd.prog 70 #[.int .i64 C] w fun e w' =>
    e = .returned (.func (.func 78) #[] #[.pointer (some ⟨w.heap.size, 0, none⟩)]) ∧ w.alloc (.cells #[.int .i64 C] 3) = w' := by
  have hmf : ∀ (fn : Fn) (first cap : Array Value) (w : World), (Instr.makeFunc fn first cap).run Tryd.prog w = .ok (.func fn first cap) w := fun _ _ _ _ => rfl
  go_enter Tryd.func70, Tryd.ntmps70
  go_wp2
  go_ret
  exact ⟨rfl, rfl⟩
end Go.Proofs.YtcblcifnpgmibaaDoor
