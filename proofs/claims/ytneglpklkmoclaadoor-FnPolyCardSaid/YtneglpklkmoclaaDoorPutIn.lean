/- append of a list that lies somewhere, in a region that draws its order. -/
import Derived.Test.YtneglpklkmoclaaDoorBaseA
import Derived.Deep.RegionHeldLaw
import Derived.WideShapes
import Derived.BigQuiet
namespace Go.Proofs.YtneglpklkmoclaaDoor
open Go.RowKit
set_option linter.unusedVariables false
set_option maxRecDepth 100000

/-- append of a list that lies somewhere, as a step of a region that draws its order. -/
theorem step_list {ops : Array Oper} {o : Oper} {a : Act} {K : Act → World → Prop} {Q : Exit → Act → World → Prop} {E : Prop} (hgd : o.guard = none) (s x : Operand)
    (ho : o.op = .call { callee := .builtin .append, args := #[s, x], argTypes := #[23, 23] }) (w : World) (B : Nat) (v : Value) (xs ys : List Int) (b off m c : Nat)
    (hs : a.eval s = v) (hm : ys.length = m) (hx : a.eval x = .slice (some ⟨b, off, none⟩) m c) (hr : Row w B v xs) (hy : ∀ k, k < ys.length → w.cell? ⟨b, off + k, none⟩ = some (.int .i64 (ys[k]?.getD 0))) (hB : B ≤ w.heap.size) (hlen : xs.length + ys.length ≤ 100000)
    (h : ∀ v' w', Hid (Row w' B v' (xs ++ ys)) → Hid (Below B w w') → Hid (w.grownBy w' v.ownBlock) → Hid (v'.ownBlock = v.ownBlock ∨ v'.ownBlock = some w.heap.size) → K (a.put o.dst v') w') :
    if Region.wanted o (yielded ops a.tmps) = true then Oper.wp Tryd.prog o a w K Q else E := by
  rw [if_pos (by simp [Region.wanted, hgd])]
  obtain ⟨i0, hi, hz0, hz1, hz2⟩ := info_parts infoInt
  obtain ⟨v', w', hrun, hown, hg, _, hat⟩ := run_append_own_at (P := Tryd.prog) w B 23 o.type 3 i0 (.int .i64 0) 1 8 Tryd.underlying23 hi hz0 hz1 hz2 rfl (by decide) v xs.length (xs.map (Value.int .i64)) hr
    ⟨b, off, none⟩ m c (ys.map (Value.int .i64)) (by simp [hm]) (fun j u hu => by
      rw [List.getElem?_map] at hu
      cases hj : ys[j]? with
      | none => rw [hj] at hu; simp at hu
      | some y =>
        rw [hj] at hu
        have hjl : j < ys.length := (List.getElem?_eq_some_iff.1 hj).1
        have h1 := hy j hjl
        rw [hj] at h1
        rw [Go.WideShapes.add_plain, h1]
        simpa using hu) (by simp [Value.oneCell']) (by unfold maxLen; omega) (by omega) hB
  unfold Oper.wp execOp
  simp only [ho, resolve, invoke, builtin, Sem.run_bind, Sem.run_pure, Result.andThen_ok, List.map_toArray, List.map_cons, List.map_nil, hs, hx, hrun]
  refine h v' w' ?_ ?_ hg hat
  · unfold Hid Row
    rw [List.length_append, List.map_append, hm]
    exact hown
  · exact (Below.refl B w).grown hg hB (fun k hk => (hr.lt k hk).1)

theorem row_shape {w : World} {B : Nat} {v : Value} {xs : List Int} {m : Nat} (h : Row w B v xs) (hl : xs.length = m + 1) : ∃ g cap, m + 1 ≤ cap ∧ v = .slice (some ⟨g, 0, none⟩) (m + 1) cap := by
  rcases h.2 with ⟨_, h0⟩ | ⟨g, cap, cur, rfl, _, _, h1, _⟩
  · omega
  · exact ⟨g, cap, by omega, by rw [hl]⟩
theorem one_cells {W : World} {g : Nat} {x : Int} (h : W.cell? ⟨g, 0, none⟩ = some (.int .i64 x)) : ∀ k, k < [x].length → W.cell? ⟨g, 0 + k, none⟩ = some (.int .i64 ([x][k]?.getD 0)) := fun k hk => by
  have hk0 : k = 0 := by simpa using hk
  subst hk0
  exact h
end Go.Proofs.YtneglpklkmoclaaDoor
