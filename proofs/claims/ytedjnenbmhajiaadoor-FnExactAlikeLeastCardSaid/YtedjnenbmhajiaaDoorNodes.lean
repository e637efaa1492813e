/- The iterator over the nodes of a set: the least one first, each one once; it stops where a round says so. -/
import Derived.RangeFuncNested
import Derived.RangeFuncBound
import Derived.RangeFuncCalls
import Derived.RangeFuncLeaves
import Derived.RangeFuncFrom
import Derived.Shelf.Abstract
import Derived.Shelf.RegionOpen
import Derived.WalkKit
import Derived.OwnWalkIn
import Derived.TacticsInMore
import Derived.LoopNIn
import Derived.LoopIn
import Derived.Test.YtedjnenbmhajiaaDoorZeros
namespace Go.Proofs.YtedjnenbmhajiaaDoor
open Go.RowKit Go.Shelf
attribute [local go_sem] Oper.semAt_some
set_option linter.unusedVariables false

/-- The nodes of a set, the least one first. -/
def nodesL (s : Nat) : List Nat := (List.range 6).filter fun i => s / 2 ^ i % 2 == 1
theorem nodes_zero : nodesL 0 = [] := by decide
theorem nodes_step : ∀ s : Fin 64, 0 < s.val → nodesL s.val = tz s.val :: nodesL (s.val &&& (s.val - 1)) ∧ s.val &&& (s.val - 1) < s.val ∧
    bits .and .u64 (s.val : Int) ((s.val : Int) - 1) = ((s.val &&& (s.val - 1) : Nat) : Int) := by decide +kernel
theorem nodes_mem {s v : Nat} : v ∈ nodesL s ↔ v < 6 ∧ s / 2 ^ v % 2 = 1 := by simp [nodesL]
theorem bit_lt {s v m : Nat} (hs : s < 2 ^ m) (h : s / 2 ^ v % 2 = 1) : v < m := by
  have h1 : 2 ^ v ≤ s := by
    refine Nat.le_of_not_lt fun hl => ?_
    rw [Nat.div_eq_of_lt hl] at h
    omega
  refine Nat.lt_of_not_le fun hl => ?_
  have := Nat.pow_le_pow_right (n := 2) (by omega) hl
  omega
theorem nodes_length (s : Nat) : (nodesL s).length ≤ 6 := by
  unfold nodesL
  exact Nat.le_trans (List.length_filter_le _ _) (by simp)

abbrev Nd (m s : Nat) := { v : Nat // v < m ∧ s / 2 ^ v % 2 = 1 }
abbrev encN (m s : Nat) (x : Nd m s) : Array Value := #[.int .i64 (x.1 : Int)]
def valsN {m s : Nat} (l : List (Nd m s)) : List Nat := l.map (·.1)
theorem valsN_snoc {m s : Nat} (l : List (Nd m s)) (x : Nd m s) : valsN (l ++ [x]) = valsN l ++ [x.1] := by simp [valsN]
theorem valsN_length {m s : Nat} (l : List (Nd m s)) : (valsN l).length = l.length := by simp [valsN]

set_option maxHeartbeats 1000000 in
theorem nodes_stops (n Bn m s n₀ : Nat) (hn : 1 ≤ n) (hm : m ≤ 6) (hs : s < 2 ^ m) (w : World) (hB : Bn < w.heap.size) (hc : w.cell? ⟨Bn, 0, none⟩ = some (.int .i64 s)) (hT : Tab w) (h2 : 2 ≤ n₀) (hn₀ : n₀ ≤ w.heap.size) :
    SeqStopsK Fence.wide n Tryd.prog 79 #[.pointer (some ⟨Bn, 0, none⟩)] (encN m s) (Below n₀) (fun xs => valsN xs = nodesL s) (fun pre => valsN pre <+: nodesL s) 6 w := fun l J Jx W hb hJ hJx hY h0 => by
  have hcW : W.cell? ⟨Bn, 0, none⟩ = some (.int .i64 s) := (hb.cell (p := ⟨Bn, 0, none⟩) hB).trans hc
  have hTW := Lib.hid (hT.below hb (by omega))
  have HY := Lib.hid hY
  have h64 := pow_le m 6 hm
  have hs0 : s < 64 := by omega
  have HS := Lib.hid hs
  clear hY hJ hJx hb hT hc h64 hs
  refine callsIn_of_wp Tryd.func79 rfl trivial ?_ rfl
  simp only [Tryd.ntmps79, List.size_toArray, List.length_cons, List.length_nil, Nat.reduceAdd, Nat.reduceSub, Array.replicate_succ, Array.replicate_zero, List.push_toArray, List.append_toArray, List.nil_append, List.cons_append]
  gi_wp2
  gi_loopw [3] (fun b wr => ∃ (r : Nat) (pre : List (Nd m s)), r < 64 ∧ b = .int .u64 r ∧ Hid (valsN pre ++ nodesL r = nodesL s) ∧ J pre wr ∧ Hid (Tab wr)) (fun b _ => (intOf b).toNat)
  case atStart => exact ⟨s, [], hs0, rfl, Lib.hid rfl, h0, hTW⟩
  case round =>
    obtain ⟨r, pre, hr64, rfl, hp, hJ, hT⟩ := hrel
    by_cases hr0 : 0 < r
    · have hz : ((r : Int) != 0) = true := by simp; omega
      obtain ⟨st1, st2, st3⟩ := nodes_step ⟨r, hr64⟩ hr0
      dsimp only at st1 st2 st3
      obtain ⟨q, eq⟩ : ∃ q, q = r &&& (r - 1) := ⟨_, rfl⟩
      rw [← eq] at st1 st2 st3
      have hmem : tz r ∈ nodesL s := by rw [← hp.out, st1]; simp
      have hbt := (nodes_mem.1 hmem).2
      have hlt : tz r < m := bit_lt HS.out hbt
      have hlen : pre.length < 6 := by
        have h1 := nodes_length s
        rw [← hp.out, st1, List.length_append, valsN_length] at h1
        simp at h1
        omega
      obtain ⟨fn, tmps, assign, body, hy, hR⟩ := HY.out pre ⟨tz r, hlt, hbt⟩ wr hJ hlen
      dsimp only [encN] at hy
      have ST := Lib.hid st1
      clear hlen hmem st1 eq
      gi_wp2_with (refine ⟨trivial, ?_⟩; gi_at_call 80; refine (callsIn_wide.2 (zeros_any r _ hr0 hr64 hT.out)).mono ?_; rintro e w' ⟨rfl, rfl⟩)
      refine hR.mono ?_
      rintro e W3 (⟨rfl, hJ3, hk3⟩ | ⟨rfl, hJx3⟩)
      · have hT3 := Lib.hid (hT.out.below hk3 h2)
        gi_wp2
        go_roundw
        case rel => exact ⟨q, _, by omega, rfl, Lib.hid (by rw [valsN_snoc, List.append_assoc, List.singleton_append, ← ST.out]; exact hp.out), hJ3, hT3⟩
        case measure => simp [intOf]; omega
      · gi_wp2
        refine bodyPost_ret (results_none rfl _ _ _) rfl ?_
        exact ⟨⟨_, rfl⟩, .inr ⟨_, ⟨nodesL q, (by rw [valsN_snoc, List.append_assoc, List.singleton_append, ← ST.out]; exact hp.out)⟩, hJx3⟩⟩
    · have hre : r = 0 := by omega
      subst hre
      gi_wp2
      go_end0
      exact ⟨⟨_, rfl⟩, .inl ⟨pre, by have h0 := hp.out; rw [nodes_zero, List.append_nil] at h0; exact h0, hJ⟩⟩

/-- nodesIn hands out its iterator; the set lies in a box. -/
theorem nodesIn_any (s : Nat) (w : World) : Calls Tryd.prog 67 #[.int .i64 s] w fun e w' =>
    e = .returned (.func (.func 79) #[] #[.pointer (some ⟨w.heap.size, 0, none⟩)]) ∧ w.alloc (.cells #[.int .i64 s] 3) = w' := by
  have hmf : ∀ (fn : Fn) (first cap : Array Value) (w : World), (Instr.makeFunc fn first cap).run Tryd.prog w = .ok (.func fn first cap) w := fun _ _ _ _ => rfl
  go_enter Tryd.func67, Tryd.ntmps67
  go_wp2
  go_ret
  exact ⟨rfl, rfl⟩
/-- all: the set of all nodes. -/
theorem all_any (A : Option Addr) (n c Q : Nat) (hn : n ≤ 6) (hQ : Q + 1 = 2 ^ n) (w : World) : Calls Tryd.prog 78 #[.slice A n c] w fun e w' => e = .returned (.int .i64 (Q : Nat)) ∧ w = w' := by
  have p1 := wrap_pow n (by omega)
  rw [← hQ] at p1
  have p2 : ((Q + 1 : Nat) : Int) - 1 = (Q : Int) := by omega
  obtain ⟨P, eP⟩ : ∃ P : Nat, P = Q + 1 := ⟨_, rfl⟩
  rw [← eP] at p1 p2
  have hP : P ≤ 64 := by have := two_le hn; omega
  clear hQ eP
  go_enter Tryd.func78, Tryd.ntmps78
  go_wp2
  go_ret
  exact ⟨rfl, rfl⟩
end Go.Proofs.YtedjnenbmhajiaaDoor
