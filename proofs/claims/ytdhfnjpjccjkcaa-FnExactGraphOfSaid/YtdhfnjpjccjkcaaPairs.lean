/- The iterator over the pairs of nodes: it hands out each pair once, in the order of codes, and stops where a round says so. -/
import Derived.RangeFuncNested
import Derived.RangeFuncBound
import Derived.RangeFuncCalls
import Derived.RangeFuncLeaves
import Derived.RangeFuncFrom
import Derived.Shelf.Abstract
import Derived.Shelf.RegionOpen
import Derived.WalkKit
import Derived.OwnWalkIn
import Derived.TacticsInMore
import Derived.LoopNIn
import Derived.LoopIn
import Derived.Test.YtdhfnjpjccjkcaaLink
namespace Go.Proofs.Ytdhfnjpjccjkcaa
open Go.RowKit Go.Shelf
attribute [local go_sem] Oper.semAt_some
set_option linter.unusedVariables false

/-- A pair of m nodes, the lesser one first. -/
abbrev Pr (m : Nat) := { p : Nat × Nat // p.1 < p.2 ∧ p.2 < m }
abbrev encP (m : Nat) (x : Pr m) : Array Value := #[.int .i64 (x.1.1 : Int), .int .i64 (x.1.2 : Int)]
def vals {m : Nat} (l : List (Pr m)) : List (Nat × Nat) := l.map (·.1)
theorem vals_snoc {m : Nat} (l : List (Pr m)) (x : Pr m) : vals (l ++ [x]) = vals l ++ [x.1] := by simp [vals]
theorem vals_length {m : Nat} (l : List (Pr m)) : (vals l).length = l.length := by simp [vals]

set_option maxHeartbeats 1000000 in
theorem pairs_stops (F : Fence) (n : Nat) (hF : F.fn 23) (hro : F.round = none) (hn : 1 ≤ n) (Bn m : Nat) (hm : m ≤ 6) (w : World) (hB : Bn < w.heap.size) (hc : w.cell? ⟨Bn, 0, none⟩ = some (.int .i64 m)) :
    SeqStopsK F n Try.prog 23 #[.pointer (some ⟨Bn, 0, none⟩)] (encP m) (fun _ _ => True) (fun xs => vals xs = rows m) (fun pre => vals pre <+: rows m) 15 w := fun l J Jx W hb hJ hJx hY h0 => by
  have hcW : W.cell? ⟨Bn, 0, none⟩ = some (.int .i64 m) := (hb.cell (p := ⟨Bn, 0, none⟩) hB).trans hc
  have HY := Lib.hid hY
  clear hY hJ hJx hb
  refine callsIn_of_wp Try.func23 rfl hF ?_ hro
  simp only [Try.ntmps23, List.size_toArray, List.length_cons, List.length_nil, Nat.reduceAdd, Nat.reduceSub, Array.replicate_succ, Array.replicate_zero, List.push_toArray, List.append_toArray, List.nil_append, List.cons_append]
  gi_wp2
  gi_loopw [6] (fun b wr => ∃ (y : Nat) (pre : List (Pr m)), y ≤ m ∧ b = .int .i64 y ∧ Hid (vals pre = rows y) ∧ J pre wr) (fun b _ => m - (intOf b).toNat)
  case atStart => exact ⟨0, [], Nat.zero_le _, rfl, Lib.hid rfl, h0⟩
  case round =>
    obtain ⟨y, pre, hym, rfl, hp, hJ⟩ := hrel
    obtain ⟨wo, rfl⟩ : ∃ wo : World, wo = wr := ⟨_, rfl⟩
    by_cases hlt : y < m
    · gi_wp2
      gi_loopw [10] (fun a wr' => ∃ (x : Nat) (pre : List (Pr m)), x ≤ y ∧ a = .int .i64 x ∧ Hid (vals pre = upto y x) ∧ J pre wr') (fun a _ => y - (intOf a).toNat)
      case atStart => exact ⟨0, pre, Nat.zero_le _, rfl, Lib.hid (by rw [upto_zero]; exact hp.out), hJ⟩
      case round =>
        obtain ⟨x, pre', hxy, rfl, hp', hJ'⟩ := hrel
        by_cases hlx : x < y
        · have hlen : pre'.length < 15 := by
            have h1 := upto_length y (x + 1) (by omega) (by omega)
            rw [upto_succ, List.length_append, ← hp'.out, vals_length] at h1
            simp at h1
            omega
          obtain ⟨fn, tmps, assign, body, hy, hR⟩ := HY.out pre' ⟨(x, y), hlx, hlt⟩ wr hJ' hlen
          dsimp only [encP] at hy
          clear hlen
          gi_wp2
          refine hR.mono ?_
          rintro e W3 (⟨rfl, hJ3, _⟩ | ⟨rfl, hJx3⟩)
          · gi_wp2
            go_roundw
            case rel => exact ⟨x + 1, _, by omega, by go_num, Lib.hid (by rw [vals_snoc, hp'.out, upto_succ]), hJ3⟩
            case measure => simp [intOf]; omega
          · gi_wp2
            refine bodyPost_ret (results_none rfl _ _ _) rfl ?_
            exact ⟨⟨_, rfl⟩, .inr ⟨_, (by rw [vals_snoc, hp'.out, ← upto_succ]; exact upto_pre y (x + 1) m (by omega) (by omega)), hJx3⟩⟩
        · have hxe : x = y := by omega
          subst hxe
          gi_wp2
          go_roundw
          case rel => exact ⟨x + 1, pre', by omega, by go_num, Lib.hid (by rw [hp'.out, upto_end]), hJ'⟩
          case measure => simp [intOf]; omega
    · have hye : y = m := by omega
      subst hye
      gi_wp2
      go_end0
      exact ⟨⟨_, rfl⟩, .inl ⟨pre, hp.out, hJ⟩⟩

end Go.Proofs.Ytdhfnjpjccjkcaa
