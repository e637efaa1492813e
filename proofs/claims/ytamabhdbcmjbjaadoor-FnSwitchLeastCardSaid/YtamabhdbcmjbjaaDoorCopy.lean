/- A whole list appended to a list of the call's own; a list copied to the front of a list of the call's own. -/
import Derived.Laws.CopyOwn
import Derived.Test.YtamabhdbcmjbjaaDoorBaseA
namespace Go.Proofs.YtamabhdbcmjbjaaDoor
open Go.RowKit Go.WideShapes
set_option linter.unusedVariables false

theorem seen_cells {w : World} {A : Option Addr} {ys : List Int} (h : Seen w A ys) (h0 : 0 < ys.length) : ∃ b off, A = some ⟨b, off, none⟩ ∧ ∀ (j : Nat) (u : Value), (ys.map (Value.int .i64))[j]? = some u → w.cell? ((⟨b, off, none⟩ : Addr).add j) = some u := by
  obtain ⟨b, off, hA, _, _⟩ := h 0 h0
  refine ⟨b, off, hA, fun j u hu => ?_⟩
  have hj : j < ys.length := by
    have := (List.getElem?_eq_some_iff.1 hu).1
    simpa using this
  obtain ⟨b', off', hA', _, hc⟩ := h j hj
  rw [hA] at hA'
  cases hA'
  rw [add_plain, hc]
  rw [getD_map ys j hj] at hu
  exact hu

theorem append_list {ops : Array Oper} {rest : List Oper} {o : Oper} {a : Act} {Q : Exit → Act → World → Prop} (hgd : o.guard = none) (s x : Operand)
    (ho : o.op = .call { callee := .builtin .append, args := #[s, x], argTypes := #[23, 23] }) (w : World) (B : Nat) (v : Value) (xs ys : List Int) (A : Option Addr) (c : Nat)
    (hs : a.eval s = v) (hx : a.eval x = .slice A ys.length c) (hr : Row w B v xs) (hy : Seen w A ys) (h0 : 0 < ys.length) (hB : B ≤ w.heap.size) (hlen : xs.length + ys.length ≤ 100000)
    (h : ∀ v' w', Hid (Row w' B v' (xs ++ ys)) → Hid (Below B w w') → wpList Tryd.prog ops Q rest (a.put o.dst v') w') :
    wpList Tryd.prog ops Q (o :: rest) a w := by
  obtain ⟨i0, hi, hz0, hz1, hz2⟩ := info_parts infoInt
  obtain ⟨b, off, rfl, hc⟩ := seen_cells hy h0
  refine wpList_append_own w hgd s x 23 ho B 3 i0 (.int .i64 0) 1 8 Tryd.underlying23 hi hz0 hz1 hz2 rfl (by decide) v xs.length (xs.map (Value.int .i64)) hs hr
    ⟨b, off, none⟩ ys.length c (ys.map (Value.int .i64)) hx (by simp) hc (by simp [Value.oneCell']) (by unfold maxLen; omega) (by omega) hB ?_
  intro v' w' hown hg _
  refine h v' w' ?_ ?_
  · unfold Hid Row
    rw [List.length_append, List.map_append]
    exact hown
  · exact (Below.refl B w).grown hg hB (fun k hk => (hr.lt k hk).1)

theorem copy_front {ops : Array Oper} {rest : List Oper} {o : Oper} {a : Act} {Q : Exit → Act → World → Prop} (hgd : o.guard = none) (d s : Operand)
    (ho : o.op = .call { callee := .builtin .copy, args := #[d, s], argTypes := #[41, 41] }) (w : World) (B g cap : Nat) (xs ys : List Int) (A : Option Addr) (c : Nat)
    (hd : a.eval d = .slice (some ⟨g, 0, none⟩) xs.length cap) (hx : a.eval s = .slice A ys.length c) (hr : Row w B (.slice (some ⟨g, 0, none⟩) xs.length cap) xs) (hy : Seen w A ys) (h0 : 0 < ys.length) (hle : ys.length ≤ xs.length)
    (h : ∀ w', Hid (Row w' B (.slice (some ⟨g, 0, none⟩) xs.length cap) (ys ++ xs.drop ys.length)) → Hid (Below B w w') → wpList Tryd.prog ops Q rest (a.put o.dst (goInt ys.length)) w') :
    wpList Tryd.prog ops Q (o :: rest) a w := by
  obtain ⟨b, off, rfl, hc⟩ := seen_cells hy h0
  have hr0 := hr
  unfold Row at hr0
  rcases hr0.2 with ⟨hv, _⟩ | ⟨g', cap', cur, hv, hBg, hgb, hn, hcm, hcs, htake⟩
  · cases hv
  cases hv
  have hsz : (Tryd.prog.info? 3).map (·.size) = some 1 := by kernel_rfl
  have hcl : cur.toList.length = cap := by rw [Array.length_toList]; omega
  refine wpList_copy_own hgd d s 41 41 ho 3 Tryd.underlying41 hsz g 0 xs.length cap ⟨b, off, none⟩ ys.length c hd hx cur 3 hgb (ys.map (Value.int .i64)) (by rw [List.length_map]; exact (Nat.min_eq_left hle).symm) hc (by rw [List.length_map]; omega) (by simp [Value.oneCell']) ?_
  have e : (ys.map (Value.int .i64)).length = ys.length := by simp
  rw [e]
  refine h _ ?_ (below_setRow (Below.refl B w) hBg _)
  unfold Hid Row
  have hl : (ys ++ xs.drop ys.length).length = xs.length := by simp; omega
  rw [hl]
  refine ⟨by simp; omega, .inr ⟨g, cap, _, rfl, hBg, setRow_heap w g _ _ _ _ hgb, hn, hcm, by simp; omega, ?_⟩⟩
  simp only [List.take_zero, List.nil_append, Nat.zero_add, Nat.mul_one]
  rw [List.map_append, List.map_drop, ← htake, Nat.mul_one, List.take_append, e, List.take_of_length_le (by simp; omega), List.drop_take]
theorem copy_lens {ops : Array Oper} {rest : List Oper} {o : Oper} {a : Act} {Q : Exit → Act → World → Prop} (hgd : o.guard = none) (d s : Operand)
    (ho : o.op = .call { callee := .builtin .copy, args := #[d, s], argTypes := #[41, 41] }) (w : World) (B g cap N K : Nat) (xs ys : List Int) (hN : xs.length = N) (hK : ys.length = K) (A : Option Addr) (c : Nat)
    (hd : a.eval d = .slice (some ⟨g, 0, none⟩) N cap) (hx : a.eval s = .slice A K c) (hr : Row w B (.slice (some ⟨g, 0, none⟩) N cap) xs) (hy : Seen w A ys) (h0 : 0 < K) (hle : K ≤ N)
    (h : ∀ w', Hid (Row w' B (.slice (some ⟨g, 0, none⟩) N cap) (ys ++ xs.drop K)) → Hid (Below B w w') → wpList Tryd.prog ops Q rest (a.put o.dst (goInt K)) w') :
    wpList Tryd.prog ops Q (o :: rest) a w := by
  subst hN
  subst hK
  exact copy_front hgd d s ho w B g cap xs ys A c hd hx hr hy h0 hle h
end Go.Proofs.YtamabhdbcmjbjaaDoor
