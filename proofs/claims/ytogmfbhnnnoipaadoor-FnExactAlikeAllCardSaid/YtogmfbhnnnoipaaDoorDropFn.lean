/- The program's drop; append to a deck. -/
import Derived.Test.YtogmfbhnnnoipaaDoorPartGraph
import Derived.Test.YtogmfbhnnnoipaaDoorBaseD
import Derived.Test.YtogmfbhnnnoipaaDoorBaseC
import Derived.Test.YtogmfbhnnnoipaaDoorHeldRound
namespace Go.Proofs.YtogmfbhnnnoipaaDoor
open Go.RowKit
set_option linter.unusedVariables false
set_option maxRecDepth 100000

/-- What the operations yield. -/
theorem drop_step {n v : Nat} (hn : n ≤ 6) (hv : v < n) : ∃ P Q p s : Nat, Q + 1 = 2 ^ n ∧ (wrap64 ((2 : Int) ^ n) = (P : Int) ∧ IntKind.i64.wrap ((2 : Int) ^ n) = (P : Int) ∧ (P : Int) - 1 = (Q : Int) ∧ IntKind.i64.wrap ((P : Int) - 1) = (Q : Int) ∧ IntKind.i64.wrap (Q : Int) = (Q : Int)) ∧
    (wrap64 ((2 : Int) ^ v) = (p : Int) ∧ IntKind.i64.wrap ((2 : Int) ^ v) = (p : Int)) ∧ bits .andNot .i64 (Q : Int) (p : Int) = (s : Int) ∧ s = dropSet n v := by
  obtain ⟨P, Q, hP, hQ, hP64, pf⟩ := shl_facts n hn
  obtain ⟨P2, Q2, hP2, hQ22, hP264, qf⟩ := shl_facts v (by omega)
  have HPF := Lib.hid pf
  have HQF := Lib.hid qf
  clear pf qf
  have f1 := less_op Q P2 (by omega) (by omega)
  have e : 2 ^ n - 1 = Q := by omega
  refine ⟨P, Q, P2, less Q P2, by omega, HPF.out, ⟨HQF.out.1, HQF.out.2.1⟩, f1, ?_⟩
  unfold dropSet
  rw [e, ← hP2]

set_option maxHeartbeats 1000000 in
theorem drop_fn (A : Option Addr) (c : Nat) (L : List Int) (hg : IsGraph L) (v : Nat) (hv : v < L.length) (w : World) (h : Seen w A L) (hT : Tab w) :
    Calls Tryd.prog 99 #[.slice A L.length c, .int .i64 v] w (Gave w (dropG L v)) := by
  have h6 := hg.2.1
  obtain ⟨P, Q, p, s, hQ, pf, ⟨q1, q2⟩, f1, es⟩ := drop_step h6 hv
  have hd : Tab w.drew := hT
  have h3 := Lib.hid (callsIn_wide.1 (implPart_in A c L hg (dropSet L.length v) (dropSet_lt h6 hv) w.drew h hd))
  have HAL := Lib.hid (fun w => all_any A L.length c Q h6 hQ w)
  unfold dropG partG
  rw [← es] at h3 ⊢
  have hv6 : v < 6 := by omega
  clear hg h hT hd pf es hQ
  go_enter Tryd.func99, Tryd.ntmps99
  go_wp2_with fail
  refine wp_region_still_tail 6 (by kernel_rfl) (by kernel_rfl) ?_
  simp only [List.take_succ_cons, List.take_zero, List.drop_succ_cons, List.drop_zero]
  still_step
  still_step
  still_call ((HAL.out _).mono fun e w' ⟨he, hw⟩ => ⟨he, hw.symm⟩)
  repeat still_step
  refine wpStill_nil ?_
  change wpList _ _ _ _ _ w.drew
  go_wp2_with fail
  refine h3.out.mono ?_
  rintro e w3 ⟨u, rfl, ru, b⟩
  go_wp2
  go_ret
  exact ⟨_, rfl, ru, (Below.refl _ w).drew.trans b⟩

theorem least_fn (A : Option Addr) (c : Nat) (L : List Int) (hL : IsGraph L) (w : World) (sL : Seen w A L) (hT : Tab w) :
    Calls Tryd.prog 73 #[.slice A L.length c] w (NumA w (leastL L)) := callsIn_wide.1 (implLeast_in A c L hL w sL hT)

theorem appendIn_deck {F : Fence} {n : Nat} {ops : Array Oper} {rest : List Oper} {o : Oper} {a : Act} {Q : Exit → Act → World → Prop} (hgd : o.guard = none) (s x : Operand)
    (ho : o.op = .call { callee := .builtin .append, args := #[s, x], argTypes := #[63, 63] }) (w : World) (B : Nat) (v : Value) (xs : List Int) (y : Int)
    (hs : a.eval s = v) (hx : a.eval x = .slice (some ⟨w.heap.size, 0, none⟩) 1 1) (hr : Row w B v xs) (hB : B ≤ w.heap.size) (hlen : xs.length ≤ 100000)
    (h : ∀ v' w', Row w' B v' (xs ++ [y]) → (w.alloc (.cells #[.int .i64 y] 3)).grownBy w' v.ownBlock → wpListIn F n Tryd.prog ops Q rest (a.put o.dst v') w') :
    wpListIn F n Tryd.prog ops Q (o :: rest) a (w.alloc (.cells #[.int .i64 y] 3)) := by
  obtain ⟨i0, hi, hz0, hz1, hz2⟩ := info_parts infoInt
  refine wpListIn_append_own (w.alloc (.cells #[.int .i64 y] 3)) hgd s x 63 ho B 3 i0 (.int .i64 0) 1 8 Tryd.underlying63 hi hz0 hz1 hz2 rfl (by decide) v xs.length (xs.map (Value.int .i64)) hs (World.ownsRow.alloc hr _)
    ⟨w.heap.size, 0, none⟩ 1 1 [.int .i64 y] hx rfl (cell_one_new w _ _) (by simp [Value.oneCell']) (by unfold maxLen; omega) (by omega) (by simp; omega) ?_
  intro v' w' hown hg _
  refine h v' w' ?_ hg
  unfold Row
  rw [List.length_append, List.map_append]
  exact hown
theorem keeps_below {W W' : World} (h : Below W.heap.size W W') : KeepsOthers W W' := ⟨h.size, fun k o ho _ => (h.block k (Array.getElem?_eq_some_iff.1 ho).1).trans ho⟩
theorem fullN : ∀ n : Fin 7, nodesL (2 ^ n.val - 1) = List.range n.val := by decide +kernel
end Go.Proofs.YtogmfbhnnnoipaaDoor
