/- Rows of values of one cell each: texts, and terms of the program. -/
import Derived.Test.YtkninejoliclcaaDoorSpecRead
import Derived.Test.YtkninejoliclcaaDoorTermSort
import Derived.Maps.AppendAt
import Derived.Deep.AppendLies
import Derived.Deep.Onto
import Derived.Deep.RegionHeldLaw
import Derived.WideShapes
namespace Go.Proofs.YtkninejoliclcaaDoor
open Go Go.RowKit
set_option linter.unusedVariables false
set_option maxRecDepth 100000

/-- A row of values of one cell each, in a block of the call's own. -/
def Rw (T : TypeId) (w : World) (B : Nat) (v : Value) (xs : List Value) : Prop := w.ownsRow B T 1 v xs.length xs
theorem Rw.form {T : TypeId} {w : World} {B : Nat} {v : Value} {xs : List Value} (h : Rw T w B v xs) (hn : xs ≠ []) :
    ∃ g cap, v = .slice (some ⟨g, 0, none⟩) xs.length cap ∧ B ≤ g ∧ g < w.heap.size ∧ xs.length ≤ cap ∧ cap ≤ maxLen ∧ ∀ k, k < xs.length → w.cell? ⟨g, k, none⟩ = xs[k]? := by
  have h0 := h
  unfold Rw at h0
  rcases h0.2 with ⟨rfl, he⟩ | ⟨g, cap, cur, rfl, hg, hb, h1, h2, h3, h4⟩
  · exact absurd (List.eq_nil_of_length_eq_zero he) hn
  · exact ⟨g, cap, rfl, hg, (Array.getElem?_eq_some_iff.1 hb).1, h1, h2, fun k hk => World.ownsRow.cellAt h0 k (by omega)⟩
theorem Rw.below {T : TypeId} {w w' : World} {B : Nat} {v : Value} {xs : List Value} (h : Rw T w B v xs) (b : Below w.heap.size w w') : Rw T w' B v xs :=
  World.ownsRow.kept (row := none) h ⟨b.os, b.tape, b.output, b.size, fun k hk _ => b.block k hk⟩ (by cases v.ownBlock with | none => exact .inl rfl | some g => exact .inr (by simp))
theorem Rw.grown {T : TypeId} {w w' : World} {B : Nat} {v : Value} {xs : List Value} {row : Option Nat} (h : Rw T w B v xs) (b : w.grownBy w' row) (hr : ∀ g, v.ownBlock = some g → row ≠ some g) : Rw T w' B v xs :=
  World.ownsRow.kept h b (by cases hv : v.ownBlock with | none => exact .inl rfl | some g => exact .inr fun e => hr g hv e.symm)
theorem Rw.low {T : TypeId} {w : World} {B B' : Nat} {v : Value} {xs : List Value} (h : Rw T w B v xs) (hb : B' ≤ B) : Rw T w B' v xs := World.ownsRow.mono h hb
theorem Rw.lit (T : TypeId) (w : World) (x : Value) : Rw T (w.alloc (.cells #[x] T)) w.heap.size (.slice (some ⟨w.heap.size, 0, none⟩) 1 1) [x] := World.ownsRow_lit w #[x] 1 (Nat.le_refl _) (by unfold maxLen; omega) rfl
theorem Rw.lit' (T : TypeId) (w : World) (x : Value) (n : Nat) (hn : n = w.heap.size) : Rw T (w.alloc (.cells #[x] T)) n (.slice (some ⟨n, 0, none⟩) 1 1) [x] := by
  subst hn
  exact Rw.lit T w x
theorem Rw.empty (T : TypeId) (w : World) (B : Nat) : Rw T w B (.slice none 0 0) [] := ⟨rfl, .inl ⟨rfl, rfl⟩⟩

theorem infoStr : (Tryd.prog.info? 9).map (fun i => (i.zero, i.size, i.bytes)) = some (some (.string ⟨#[]⟩), 1, 16) := by kernel_rfl
theorem infoTerm : (Tryd.prog.info? 45).map (fun i => (i.zero, i.size, i.bytes)) = some (some .nilIface, 1, 16) := by kernel_rfl

/-- append of a row to a row of the call's own. -/
theorem Rw.cat {T ST ty : TypeId} {z : Value} (hu : Tryd.prog.underlying ST = some (.slice T)) (hi : (Tryd.prog.info? T).map (fun i => (i.zero, i.size, i.bytes)) = some (some z, 1, 16)) (hz : z.cells.size = 1)
    (w : World) (B : Nat) (v : Value) (xs ys : List Value) (h : Rw T w B v xs) (b off m c : Nat) (hm : ys.length = m) (hy : ∀ k, k < ys.length → w.cell? ⟨b, off + k, none⟩ = ys[k]?) (h1 : ∀ u ∈ ys, u.oneCell' = true) (hB : B ≤ w.heap.size) (hlen : xs.length + ys.length ≤ 100000) :
    ∃ v' w', (Builtin.append_ #[ST, ST] ty #[v, .slice (some ⟨b, off, none⟩) m c]).run Tryd.prog w = .ok v' w' ∧ Rw T w' B v' (xs ++ ys) ∧ w.grownBy w' v.ownBlock ∧ Below B w w' := by
  obtain ⟨i0, hi0, hz0, hz1, hz2⟩ := info_parts hi
  obtain ⟨v', w', hrun, hown, hg, _, hat⟩ := run_append_own_at (P := Tryd.prog) w B ST ty T i0 z 1 16 hu hi0 hz0 hz1 hz2 hz (by decide) v xs.length xs h
    ⟨b, off, none⟩ m c ys (by simp [hm]) (fun j u hj => by
      have hjl : j < ys.length := (List.getElem?_eq_some_iff.1 hj).1
      rw [Go.WideShapes.add_plain, hy j hjl, hj]) h1 (by unfold maxLen; omega) (by omega) hB
  refine ⟨v', w', hrun, ?_, hg, (Below.refl B w).grown hg hB (fun k hk => (World.ownsRow.lt h k hk).1)⟩
  unfold Rw
  rw [List.length_append, hm]
  exact hown
theorem str_one (xs : List (List UInt8)) : ∀ u ∈ xs.map str, u.oneCell' = true := fun u hu => by
  obtain ⟨x, _, rfl⟩ := List.mem_map.1 hu
  rfl
theorem ival_one (ts : List Tm) : ∀ u ∈ ts.map ival, u.oneCell' = true := fun u hu => by
  obtain ⟨t, _, rfl⟩ := List.mem_map.1 hu
  obtain ⟨T, X, e⟩ := ival_iface t
  rw [e]
  rfl
/-- append of a row as a step of a region that draws its order. -/
theorem step_rw {T ST : TypeId} {z : Value} (hu : Tryd.prog.underlying ST = some (.slice T)) (hi : (Tryd.prog.info? T).map (fun i => (i.zero, i.size, i.bytes)) = some (some z, 1, 16)) (hz : z.cells.size = 1)
    {ops : Array Oper} {o : Oper} {a : Act} {K : Act → World → Prop} {Q : Exit → Act → World → Prop} {E : Prop} (hgd : o.guard = none) (s x : Operand)
    (ho : o.op = .call { callee := .builtin .append, args := #[s, x], argTypes := #[ST, ST] }) (w : World) (B : Nat) (v : Value) (xs ys : List Value) (b off m c : Nat)
    (hs : a.eval s = v) (hm : ys.length = m) (hx : a.eval x = .slice (some ⟨b, off, none⟩) m c) (hr : Rw T w B v xs) (hy : ∀ k, k < ys.length → w.cell? ⟨b, off + k, none⟩ = ys[k]?) (h1 : ∀ u ∈ ys, u.oneCell' = true) (hB : B ≤ w.heap.size) (hlen : xs.length + ys.length ≤ 100000)
    (h : ∀ v' w', Hid (Rw T w' B v' (xs ++ ys)) → Hid (Below B w w') → Hid (w.grownBy w' v.ownBlock) → K (a.put o.dst v') w') :
    if Region.wanted o (yielded ops a.tmps) = true then Oper.wp Tryd.prog o a w K Q else E := by
  rw [if_pos (by simp [Region.wanted, hgd])]
  obtain ⟨v', w', hrun, hown, hg, hb⟩ := Rw.cat (ST := ST) (ty := o.type) hu hi hz w B v xs ys hr b off m c hm hy h1 hB hlen
  unfold Oper.wp execOp
  simp only [ho, resolve, invoke, builtin, Sem.run_bind, Sem.run_pure, Result.andThen_ok, List.map_toArray, List.map_cons, List.map_nil, hs, hx, hrun]
  exact h v' w' hown hb hg
/-- append of a row as a step of a list of operations. -/
theorem list_rw {T ST : TypeId} {z : Value} (hu : Tryd.prog.underlying ST = some (.slice T)) (hi : (Tryd.prog.info? T).map (fun i => (i.zero, i.size, i.bytes)) = some (some z, 1, 16)) (hz : z.cells.size = 1)
    {ops : Array Oper} {rest : List Oper} {o : Oper} {a : Act} {Q : Exit → Act → World → Prop} (hgd : o.guard = none) (s x : Operand)
    (ho : o.op = .call { callee := .builtin .append, args := #[s, x], argTypes := #[ST, ST] }) (w : World) (B : Nat) (v : Value) (xs ys : List Value) (b off m c : Nat)
    (hs : a.eval s = v) (hm : ys.length = m) (hx : a.eval x = .slice (some ⟨b, off, none⟩) m c) (hr : Rw T w B v xs) (hy : ∀ k, k < ys.length → w.cell? ⟨b, off + k, none⟩ = ys[k]?) (h1 : ∀ u ∈ ys, u.oneCell' = true) (hB : B ≤ w.heap.size) (hlen : xs.length + ys.length ≤ 100000)
    (h : ∀ v' w', Hid (Rw T w' B v' (xs ++ ys)) → Hid (Below B w w') → Hid (w.grownBy w' v.ownBlock) → wpList Tryd.prog ops Q rest (a.put o.dst v') w') :
    wpList Tryd.prog ops Q (o :: rest) a w := by
  obtain ⟨i0, hi0, hz0, hz1, hz2⟩ := info_parts hi
  refine wpList_append_own w hgd s x ST ho B T i0 z 1 16 hu hi0 hz0 hz1 hz2 hz (by decide) v xs.length xs hs hr ⟨b, off, none⟩ m c ys hx (by simp [hm]) (fun j u hj => by
    have hjl : j < ys.length := (List.getElem?_eq_some_iff.1 hj).1
    rw [Go.WideShapes.add_plain, hy j hjl, hj]) h1 (by unfold maxLen; omega) (by omega) hB ?_
  intro v' w' hown hg _
  refine h v' w' ?_ ((Below.refl B w).grown hg hB (fun k hk => (World.ownsRow.lt hr k hk).1)) hg
  unfold Hid Rw
  rw [List.length_append, hm]
  exact hown
end Go.Proofs.YtkninejoliclcaaDoor
