/- Rows of numbers and rows of rows in memory, as powers hold them: read anywhere, or the call's own. -/
import Derived.Test.YtdhpamemkkfhhaaDoorPowMath
import Derived.Test.YtdhpamemkkfhhaaDoorBaseA
namespace Go.Proofs.YtdhpamemkkfhhaaDoor
open Go Go.RowKit
set_option linter.unusedVariables false
set_option maxRecDepth 100000

/-- A row of the call's own, of one-celled values of some type. -/
def VRow (t : TypeId) (w : World) (B : Nat) (v : Value) (vs : List Value) : Prop := w.ownsRow B t 1 v vs.length vs
theorem VRow.below {t : TypeId} {w w' : World} {B : Nat} {v : Value} {vs : List Value} (h : VRow t w B v vs) (hb : Below w.heap.size w w') : VRow t w' B v vs :=
  World.ownsRow.kept (row := none) h ⟨hb.os, hb.tape, hb.output, hb.size, fun k hk _ => hb.block k hk⟩ (by cases hv : v.ownBlock <;> simp)
theorem VRow.lt {t : TypeId} {w : World} {B : Nat} {v : Value} {vs : List Value} (h : VRow t w B v vs) : ∀ k, v.ownBlock = some k → B ≤ k ∧ k < w.heap.size := World.ownsRow.lt h
theorem VRow.shape {t : TypeId} {w : World} {B : Nat} {v : Value} {vs : List Value} (h : VRow t w B v vs) : (v = .slice none 0 0 ∧ vs = []) ∨ ∃ g cap, v = .slice (some ⟨g, 0, none⟩) vs.length cap ∧ B ≤ g ∧ g < w.heap.size := by
  rcases h.2 with ⟨h1, h2⟩ | ⟨g, cap, cur, h1, h2, h3, _⟩
  · exact .inl ⟨h1, List.eq_nil_of_length_eq_zero h2⟩
  · exact .inr ⟨g, cap, h1, h2, (Array.getElem?_eq_some_iff.1 h3).1⟩
theorem VRow.cellAt {t : TypeId} {w : World} {B g n cap : Nat} {vs : List Value} (h : VRow t w B (.slice (some ⟨g, 0, none⟩) n cap) vs) (k : Nat) (hk : k < vs.length) : w.cell? ⟨g, k, none⟩ = some (vs[k]?.getD undef) := by
  have hn : n = vs.length := by
    rcases h.2 with ⟨hv, _⟩ | ⟨g', cap', cur, hv, _⟩
    · cases hv
    · cases hv; rfl
  subst hn
  have := World.ownsRow.cellAt h k (by omega)
  rw [this, List.getElem?_eq_getElem hk]
  rfl
theorem VRow.frozenAt {t : TypeId} {w : World} {B g n cap : Nat} {vs : List Value} (h : VRow t w B (.slice (some ⟨g, 0, none⟩) n cap) vs) (k : Nat) : w.frozen? ⟨g, k, none⟩ = false := by
  have hn : n = vs.length := by
    rcases h.2 with ⟨hv, _⟩ | ⟨g', cap', cur, hv, _⟩
    · cases hv
    · cases hv; rfl
  subst hn
  exact World.ownsRow.frozenAt h k
theorem VRow.set {t : TypeId} {w : World} {B g n cap : Nat} {vs : List Value} (h : VRow t w B (.slice (some ⟨g, 0, none⟩) n cap) vs) (j : Nat) (x : Value) :
    VRow t (w.setCell ⟨g, j, none⟩ x) B (.slice (some ⟨g, 0, none⟩) n cap) (vs.set j x) := by
  have hn : n = vs.length := by
    rcases h.2 with ⟨hv, _⟩ | ⟨g', cap', cur, hv, _⟩
    · cases hv
    · cases hv; rfl
  subst hn
  have := World.ownsRow.stored (w := w) (base := B) (e := t) (size := 1) (n := vs.length) h j x
  unfold VRow
  rw [List.length_set]
  exact this.1
theorem VRow.mono {t : TypeId} {w : World} {B B' : Nat} {v : Value} {vs : List Value} (h : VRow t w B v vs) (hB : B' ≤ B) : VRow t w B' v vs := by
  obtain ⟨h1, h2⟩ := h
  refine ⟨h1, ?_⟩
  rcases h2 with h2 | ⟨g, cap, cur, hv, hg, r⟩
  · exact .inl h2
  · exact .inr ⟨g, cap, cur, hv, Nat.le_trans hB hg, r⟩

/-- A block of values of a type. -/
def TypedAt (w : World) (k : Nat) (t : TypeId) : Prop := ∃ cs fz, w.heap[k]? = some (.cells cs t fz)
theorem TypedAt.lt {w : World} {k : Nat} {t : TypeId} (h : TypedAt w k t) : k < w.heap.size := by
  obtain ⟨cs, fz, h⟩ := h
  exact (Array.getElem?_eq_some_iff.1 h).1
theorem TypedAt.below {w w' : World} {k : Nat} {t : TypeId} (h : TypedAt w k t) (hb : Below w.heap.size w w') : TypedAt w' k t := by
  have hl := h.lt
  obtain ⟨cs, fz, h⟩ := h
  exact ⟨cs, fz, (hb.block k hl).trans h⟩
theorem TypedAt.ne {w : World} {k g : Nat} {t u : TypeId} (h : TypedAt w k t) (h' : TypedAt w g u) (hne : t ≠ u) : k ≠ g := fun e => by
  obtain ⟨cs, fz, h⟩ := h
  obtain ⟨cs', fz', h'⟩ := h'
  rw [e, h'] at h
  injection h with h
  injection h with h1 h2
  exact hne h2.symm
theorem TypedAt.other {w : World} {k g i : Nat} {t : TypeId} {u : Value} (h : TypedAt w k t) (hne : k ≠ g) : TypedAt (w.setCell ⟨g, i, none⟩ u) k t := by
  obtain ⟨cs, fz, h⟩ := h
  exact ⟨cs, fz, (Below.heap_setCell _ _ _ k (fun e => hne (by dsimp only at e; omega))).trans h⟩
theorem VRow.typed {t : TypeId} {w : World} {B : Nat} {v : Value} {vs : List Value} (h : VRow t w B v vs) : ∀ k, v.ownBlock = some k → TypedAt w k t := fun k hk => by
  rcases h.2 with ⟨h1, _⟩ | ⟨g, cap, cur, h1, _, h3, _⟩
  · rw [h1] at hk; cases hk
  · rw [h1] at hk; cases hk; exact ⟨_, _, h3⟩
/-- A row of numbers that can be read. -/
def PV (w : World) (v : Value) (xs : List Int) : Prop := ∃ A c, v = .slice A xs.length c ∧ (A = none → c = 0) ∧ Seen w A xs ∧ ∀ k, v.ownBlock = some k → TypedAt w k 70
/-- A row of rows that can be read. -/
def TV (w : World) (v : Value) (T : List (List Int)) : Prop := ∃ A c, v = .slice A T.length c ∧ (A = none → c = 0) ∧ (∀ k, k < T.length → ∃ b off u, A = some ⟨b, off, none⟩ ∧ b < w.heap.size ∧ w.cell? ⟨b, off + k, none⟩ = some u ∧ PV w u (T[k]?.getD [])) ∧ ∀ k, v.ownBlock = some k → TypedAt w k 69
theorem PV.below {w w' : World} {v : Value} {xs : List Int} (h : PV w v xs) (hb : Below w.heap.size w w') : PV w' v xs := by
  obtain ⟨A, c, h1, h2, h3, h4⟩ := h
  exact ⟨A, c, h1, h2, h3.below hb, fun k hk => (h4 k hk).below hb⟩
theorem TV.below {w w' : World} {v : Value} {T : List (List Int)} (h : TV w v T) (hb : Below w.heap.size w w') : TV w' v T := by
  obtain ⟨A, c, h1, h2, h3, h5⟩ := h
  refine ⟨A, c, h1, h2, fun k hk => ?_, fun k hk => (h5 k hk).below hb⟩
  obtain ⟨b, off, u, e1, e2, e3, e4⟩ := h3 k hk
  exact ⟨b, off, u, e1, Nat.lt_of_lt_of_le e2 hb.size, (hb.cell (p := ⟨b, off + k, none⟩) e2).trans e3, e4.below hb⟩
theorem pv_nil (w : World) : PV w (.slice none 0 0) [] := ⟨none, 0, rfl, fun _ => rfl, fun k hk => absurd hk (by simp), fun k hk => by cases hk⟩
theorem tv_nil (w : World) : TV w (.slice none 0 0) [] := ⟨none, 0, rfl, fun _ => rfl, fun k hk => absurd hk (by simp), fun k hk => by cases hk⟩
/-- What the call owns can be read. -/
theorem pv_own {w : World} {B : Nat} {v : Value} {xs : List Int} (h : VRow 70 w B v (xs.map (Value.int .i64))) : PV w v xs := by
  rcases h.shape with ⟨rfl, h2⟩ | ⟨g, cap, rfl, h2, h3⟩
  · have : xs = [] := by simpa using h2
    subst this
    exact pv_nil w
  · refine ⟨_, cap, by rw [List.length_map], (fun e => by cases e), fun k hk => ⟨g, 0, rfl, h3, ?_⟩, h.typed⟩
    rw [Nat.zero_add, h.cellAt k (by simpa using hk), getD_map xs k hk]
    rfl
theorem tv_own {w : World} {B : Nat} {v : Value} {vs : List Value} {T : List (List Int)} (h : VRow 69 w B v vs) (hl : vs.length = T.length) (hT : ∀ k, k < T.length → PV w (vs[k]?.getD undef) (T[k]?.getD [])) : TV w v T := by
  rcases h.shape with ⟨rfl, h2⟩ | ⟨g, cap, rfl, h2, h3⟩
  · subst h2
    have : T = [] := List.eq_nil_of_length_eq_zero hl.symm
    subst this
    exact tv_nil w
  · exact ⟨_, cap, by rw [hl], (fun e => by cases e), fun k hk => ⟨g, 0, _, rfl, h3, by rw [Nat.zero_add, h.cellAt k (by omega)], hT k hk⟩, h.typed⟩
/-- How calls that make a row, or a row of rows, end. -/
def GaveP (w : World) (xs : List Int) (e : Ending) (w' : World) : Prop := ∃ v, e = .returned v ∧ PV w' v xs ∧ Below w.heap.size w w' ∧ ∀ k, v.ownBlock = some k → w.heap.size ≤ k
def GaveT (w : World) (T : List (List Int)) (e : Ending) (w' : World) : Prop := ∃ v, e = .returned v ∧ TV w' v T ∧ Below w.heap.size w w'
theorem map_set (xs : List Int) (i : Nat) (y : Int) : (xs.map (Value.int .i64)).set i (.int .i64 y) = (xs.set i y).map (Value.int .i64) := by rw [List.map_set]

/-- What lies elsewhere stays while a cell is written. -/
theorem PV.other {w : World} {v : Value} {xs : List Int} (h : PV w v xs) {g i : Nat} {u : Value} (hg : v.ownBlock ≠ some g) : PV (w.setCell ⟨g, i, none⟩ u) v xs := by
  obtain ⟨A, c, rfl, h2, h3, h4⟩ := h
  refine ⟨A, c, rfl, h2, fun k hk => ?_, fun k hk => (h4 k hk).other (fun e => hg (by rw [hk, e]))⟩
  obtain ⟨b, off, rfl, hb, hc⟩ := h3 k hk
  refine ⟨b, off, rfl, by rw [World.size_setCell]; exact hb, (World.cell?_setCell_other _ _ _ _ ?_).trans hc⟩
  intro e
  exact hg (by show some b = some g; first | (injection e with e1; rw [e1]) | (injection e.symm with e1; rw [e1]))
/-- A row of rows: the row is the call's own, its rows lie elsewhere. -/
def TRow (w : World) (B : Nat) (v : Value) (T : List (List Int)) : Prop := ∃ vs : List Value, VRow 69 w B v vs ∧ vs.length = T.length ∧ ∀ k, k < T.length → PV w (vs[k]?.getD undef) (T[k]?.getD []) ∧ (∀ g, v.ownBlock = some g → (vs[k]?.getD undef).ownBlock ≠ some g)
theorem TRow.tv {w : World} {B : Nat} {v : Value} {T : List (List Int)} (h : TRow w B v T) : TV w v T := by
  obtain ⟨vs, h1, h2, h3⟩ := h
  exact tv_own h1 h2 fun k hk => (h3 k hk).1
theorem TRow.below {w w' : World} {B : Nat} {v : Value} {T : List (List Int)} (h : TRow w B v T) (hb : Below w.heap.size w w') : TRow w' B v T := by
  obtain ⟨vs, h1, h2, h3⟩ := h
  exact ⟨vs, h1.below hb, h2, fun k hk => ⟨(h3 k hk).1.below hb, (h3 k hk).2⟩⟩
theorem TRow.lt {w : World} {B : Nat} {v : Value} {T : List (List Int)} (h : TRow w B v T) : ∀ k, v.ownBlock = some k → B ≤ k ∧ k < w.heap.size := by
  obtain ⟨vs, h1, _⟩ := h
  exact h1.lt
theorem TRow.at {w : World} {B g n cap : Nat} {T : List (List Int)} (h : TRow w B (.slice (some ⟨g, 0, none⟩) n cap) T) (k : Nat) (hk : k < T.length) : ∃ u, w.cell? ⟨g, k, none⟩ = some u ∧ PV w u (T[k]?.getD []) ∧ u.ownBlock ≠ some g ∧ w.frozen? ⟨g, k, none⟩ = false := by
  obtain ⟨vs, h1, h2, h3⟩ := h
  exact ⟨_, h1.cellAt k (by omega), (h3 k hk).1, (h3 k hk).2 g rfl, h1.frozenAt k⟩
theorem TRow.set {w : World} {B g n cap : Nat} {T : List (List Int)} (h : TRow w B (.slice (some ⟨g, 0, none⟩) n cap) T) (j : Nat) (u : Value) (x : List Int) (hu : PV w u x) (hg : u.ownBlock ≠ some g) :
    TRow (w.setCell ⟨g, j, none⟩ u) B (.slice (some ⟨g, 0, none⟩) n cap) (T.set j x) := by
  obtain ⟨vs, h1, h2, h3⟩ := h
  refine ⟨vs.set j u, h1.set j u, by rw [List.length_set, List.length_set, h2], fun k hk => ?_⟩
  rw [List.length_set] at hk
  by_cases hjk : j = k
  · subst hjk
    rw [List.getElem?_set_self (by omega), List.getElem?_set_self hk]
    exact ⟨hu.other hg, fun g' e => by cases e; exact hg⟩
  · rw [List.getElem?_set_ne hjk, List.getElem?_set_ne hjk]
    exact ⟨(h3 k hk).1.other ((h3 k hk).2 g rfl), (h3 k hk).2⟩
/-- A table stays while a cell of a block of another type is written. -/
theorem TV.other {w : World} {v : Value} {T : List (List Int)} (h : TV w v T) {g i : Nat} {t : TypeId} {u : Value} (hg : TypedAt w g t) (h1 : 69 ≠ t) (h2 : 70 ≠ t) : TV (w.setCell ⟨g, i, none⟩ u) v T := by
  obtain ⟨A, c, rfl, e2, e3, e4⟩ := h
  refine ⟨A, c, rfl, e2, fun k hk => ?_, fun k hk => (e4 k hk).other ((e4 k hk).ne hg h1)⟩
  obtain ⟨b, off, x, rfl, hb, hc, hp⟩ := e3 k hk
  have hne : b ≠ g := (e4 b rfl).ne hg h1
  refine ⟨b, off, x, rfl, by rw [World.size_setCell]; exact hb, (World.cell?_setCell_other _ _ _ _ ?_).trans hc, hp.other (fun e => ?_)⟩
  · intro e
    first
      | (injection e with e5; exact hne e5)
      | (injection e.symm with e5; exact hne e5)
  · obtain ⟨_, _, _, _, _, h5⟩ := hp
    exact (h5 g e).ne hg h2 rfl
end Go.Proofs.YtdhpamemkkfhhaaDoor
