/- slices.Clone of a graph. -/
import Derived.Test.YtamabhdbcmjbjaaDoorCopy
namespace Go.Proofs.YtamabhdbcmjbjaaDoor
open Go.RowKit
set_option linter.unusedVariables false
set_option maxRecDepth 100000

theorem append_list_g {ops : Array Oper} {rest : List Oper} {o : Oper} {a : Act} {Q : Exit → Act → World → Prop} (hgd : o.guard = none) (s x : Operand)
    (ho : o.op = .call { callee := .builtin .append, args := #[s, x], argTypes := #[41, 41] }) (w : World) (B : Nat) (v : Value) (xs ys : List Int) (A : Option Addr) (c : Nat)
    (hs : a.eval s = v) (hx : a.eval x = .slice A ys.length c) (hr : Row w B v xs) (hy : Seen w A ys) (h0 : 0 < ys.length) (hB : B ≤ w.heap.size) (hlen : xs.length + ys.length ≤ 100000)
    (h : ∀ v' w', Hid (Row w' B v' (xs ++ ys)) → Hid (Below B w w') → wpList Tryd.prog ops Q rest (a.put o.dst v') w') :
    wpList Tryd.prog ops Q (o :: rest) a w := by
  obtain ⟨i0, hi, hz0, hz1, hz2⟩ := info_parts infoInt
  obtain ⟨b, off, rfl, hc⟩ := seen_cells hy h0
  refine wpList_append_own w hgd s x 41 ho B 3 i0 (.int .i64 0) 1 8 Tryd.underlying41 hi hz0 hz1 hz2 rfl (by decide) v xs.length (xs.map (Value.int .i64)) hs hr
    ⟨b, off, none⟩ ys.length c (ys.map (Value.int .i64)) hx (by simp) hc (by simp [Value.oneCell']) (by unfold maxLen; omega) (by omega) hB ?_
  intro v' w' hown hg _
  refine h v' w' ?_ ?_
  · unfold Hid Row
    rw [List.length_append, List.map_append]
    exact hown
  · exact (Below.refl B w).grown hg hB (fun k hk => (hr.lt k hk).1)
theorem cloneG_any (A : Option Addr) (c : Nat) (xs : List Int) (h0 : 0 < xs.length) (hl : xs.length ≤ 1000) (w : World) (hs : Seen w A xs) : Calls Tryd.prog 62 #[.slice A xs.length c] w (Gave w xs) := by
  obtain ⟨b, o, hA, _, _⟩ := hs 0 h0
  subst hA
  have HS := Lib.hid hs
  have R0 := Lib.hid (World.ownsRow_lit (base := w.heap.size) (e := 3) (size := 1) w #[] 0 (Nat.le_refl _) (by unfold maxLen; omega) rfl)
  have B0 := Lib.hid ((Below.refl w.heap.size w).alloc (Nat.le_refl _) (.cells #[] 3))
  have he : ∀ w : World, (binOp .eql 41 (.slice (some ⟨b, o, none⟩) xs.length c) (.slice none 0 0)).run Tryd.prog w = .ok (.bool false) w := fun _ => rfl
  clear hs
  go_enter Tryd.func62, Tryd.ntmps62
  go_wp2_with (at_builtin; refine append_list_g rfl (.tmp 5) (.tmp 6) rfl (w.alloc (.cells #[] 3)) w.heap.size (.slice (some ⟨w.heap.size, 0, none⟩) 0 0) [] xs (some ⟨b, o, none⟩) c rfl rfl R0.out (HS.out.below B0.out) h0 B0.out.size (by simp; omega) ?_; intro v' w' hr' hb')
  go_ret
  exact ⟨v', rfl, by have h := hr'.out; rw [List.nil_append] at h; exact h, B0.out.trans hb'.out⟩
end Go.Proofs.YtamabhdbcmjbjaaDoor
