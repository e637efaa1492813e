/- Lists of lists of numbers of the call's own, each list in a block of its own: set cell by cell; what fills a table's rows. -/
import Derived.Test.YtdhpamemkkfhhaaDoorPowKit
import Derived.Test.YtdhpamemkkfhhaaDoorMadeV
import Derived.Test.YtdhpamemkkfhhaaDoorRows2
namespace Go.Proofs.YtdhpamemkkfhhaaDoor
open Go Go.RowKit
set_option linter.unusedVariables false
set_option maxRecDepth 100000

def frTo (R row : List Int) : Nat → List Int
  | 0 => R
  | j + 1 => (frTo R row j).set j (row[j]?.getD 0)
theorem frTo_length (R row : List Int) (j : Nat) : (frTo R row j).length = R.length := by
  induction j with
  | zero => rfl
  | succ j ih => unfold frTo; rw [List.length_set, ih]
def ftTo (Z T : List (List Int)) : Nat → List (List Int)
  | 0 => Z
  | i + 1 => (ftTo Z T i).set i (frTo ((ftTo Z T i)[i]?.getD []) (T[i]?.getD []) (T[i]?.getD []).length)
theorem ftTo_length (Z T : List (List Int)) (i : Nat) : (ftTo Z T i).length = Z.length := by
  induction i with
  | zero => rfl
  | succ i ih => unfold ftTo; rw [List.length_set, ih]
theorem ftTo_get (Z T : List (List Int)) (i k : Nat) (h : i ≤ k) : (ftTo Z T i)[k]? = Z[k]? := by
  induction i with
  | zero => rfl
  | succ i ih =>
    have hne : i ≠ k := by omega
    unfold ftTo
    rw [List.getElem?_set_ne hne]
    exact ih (by omega)
def zeroT (r s : Nat) : List (List Int) := List.replicate (r + 1) (List.replicate (s - r + 1) 0)
/-- The rows that a table's numbers are laid into. -/
def rowsP (r s : Nat) (T : List (List Int)) : List (List Int) := ftTo (zeroT r s) T T.length

/-- A list of lists of the call's own. -/
def R2 (w : World) (B : Nat) (v : Value) (T : List (List Int)) : Prop := ∃ vs : List Value, VRow 22 w B v vs ∧ vs.length = T.length ∧ (∀ k, k < T.length → Row w B (vs[k]?.getD undef) (T[k]?.getD [])) ∧ ∀ i j g, i < T.length → j < T.length → i ≠ j → (vs[i]?.getD undef).ownBlock = some g → (vs[j]?.getD undef).ownBlock ≠ some g
theorem R2.below {w w' : World} {B : Nat} {v : Value} {T : List (List Int)} (h : R2 w B v T) (hb : Below w.heap.size w w') : R2 w' B v T := by
  obtain ⟨vs, h1, h2, h3, h4⟩ := h
  exact ⟨vs, h1.below hb, h2, fun k hk => (h3 k hk).below hb, h4⟩
theorem R2.mono {w : World} {B B' : Nat} {v : Value} {T : List (List Int)} (h : R2 w B v T) (hb : B' ≤ B) : R2 w B' v T := by
  obtain ⟨vs, h1, h2, h3, h4⟩ := h
  exact ⟨vs, h1.mono hb, h2, fun k hk => (h3 k hk).mono hb, h4⟩
theorem R2.lt {w : World} {B : Nat} {v : Value} {T : List (List Int)} (h : R2 w B v T) : ∀ k, v.ownBlock = some k → B ≤ k ∧ k < w.heap.size := by
  obtain ⟨vs, h1, _⟩ := h
  exact h1.lt
theorem row_typed {w : World} {B : Nat} {v : Value} {xs : List Int} (h : Row w B v xs) : ∀ k, v.ownBlock = some k → TypedAt w k 3 := fun k hk => by
  rcases h.2 with ⟨h1, _⟩ | ⟨g, cap, cur, h1, _, h3, _⟩
  · rw [h1] at hk; cases hk
  · rw [h1] at hk; cases hk; exact ⟨_, _, h3⟩
theorem row_other {w : World} {B g i : Nat} {v : Value} {xs : List Int} {u : Value} (h : Row w B v xs) (hg : v.ownBlock ≠ some g) : Row (w.setCell ⟨g, i, none⟩ u) B v xs :=
  World.ownsRow.kept (row := some g) h (grown_set (World.grownBy.refl w (some g)) i u) (.inr hg)
/-- What lies at a place. -/
theorem R2.at {w : World} {B g n cap : Nat} {T : List (List Int)} (h : R2 w B (.slice (some ⟨g, 0, none⟩) n cap) T) (k : Nat) (hk : k < T.length) : ∃ u, w.cell? ⟨g, k, none⟩ = some u ∧ Row w B u (T[k]?.getD []) ∧ w.frozen? ⟨g, k, none⟩ = false := by
  obtain ⟨vs, h1, h2, h3, h4⟩ := h
  exact ⟨_, h1.cellAt k (by omega), h3 k hk, h1.frozenAt k⟩
/-- A row is put in a place: one of memory that no other row has. -/
theorem R2.put {w : World} {B g n cap : Nat} {T : List (List Int)} (h : R2 w B (.slice (some ⟨g, 0, none⟩) n cap) T) (j : Nat) (u : Value) (x : List Int) (hu : Row w B u x) (hn : ∀ b, u.ownBlock = some b → ∀ k, k < T.length → ∀ y, w.cell? ⟨g, k, none⟩ = some y → y.ownBlock ≠ some b) :
    R2 (w.setCell ⟨g, j, none⟩ u) B (.slice (some ⟨g, 0, none⟩) n cap) (T.set j x) := by
  obtain ⟨vs, h1, h2, h3, h4⟩ := h
  have hgt := h1.typed g rfl
  have hne : ∀ v xs, Row w B v xs → v.ownBlock ≠ some g := fun v xs hr e => (row_typed hr g e).ne hgt (by decide) rfl
  have hcell : ∀ k, k < T.length → w.cell? ⟨g, k, none⟩ = some (vs[k]?.getD undef) := fun k hk => h1.cellAt k (by omega)
  refine ⟨vs.set j u, h1.set j u, by rw [List.length_set, List.length_set, h2], fun k hk => ?_, fun a b gg ha hb hab => ?_⟩
  · rw [List.length_set] at hk
    by_cases hjk : j = k
    · subst hjk
      rw [List.getElem?_set_self (by omega), List.getElem?_set_self hk]
      exact row_other hu (hne _ _ hu)
    · rw [List.getElem?_set_ne hjk, List.getElem?_set_ne hjk]
      exact row_other (h3 k hk) (hne _ _ (h3 k hk))
  · rw [List.length_set] at ha hb
    by_cases hja : j = a
    · subst hja
      rw [List.getElem?_set_self (by omega), List.getElem?_set_ne hab]
      intro e1 e2
      exact hn gg e1 b hb _ (hcell b hb) e2
    · by_cases hjb : j = b
      · subst hjb
        rw [List.getElem?_set_self (by omega), List.getElem?_set_ne hja]
        intro e1 e2
        exact hn gg e2 a ha _ (hcell a ha) e1
      · rw [List.getElem?_set_ne hja, List.getElem?_set_ne hjb]
        exact h4 a b gg ha hb hab
/-- A number is put in a place of one of the rows. -/
theorem R2.set2 {w : World} {B g n cap m c b : Nat} {T : List (List Int)} (h : R2 w B (.slice (some ⟨g, 0, none⟩) n cap) T) (i : Nat) (hi : i < T.length) (hc : w.cell? ⟨g, i, none⟩ = some (.slice (some ⟨b, 0, none⟩) m c)) (j : Nat) (hj : j < (T[i]?.getD []).length) (x : Int) :
    R2 (w.setCell ⟨b, j, none⟩ (.int .i64 x)) B (.slice (some ⟨g, 0, none⟩) n cap) (T.set i ((T[i]?.getD []).set j x)) := by
  obtain ⟨vs, h1, h2, h3, h4⟩ := h
  have hcell := h1.cellAt i (by omega)
  rw [hc] at hcell
  have hvi : vs[i]?.getD undef = .slice (some ⟨b, 0, none⟩) m c := (Option.some.inj hcell).symm
  have hri := h3 i hi
  rw [hvi] at hri
  have hbt := row_typed hri b rfl
  have hgb : b ≠ g := hbt.ne (h1.typed g rfl) (by decide)
  refine ⟨vs, World.ownsRow.kept (row := some b) h1 (grown_set (World.grownBy.refl w (some b)) j _) (.inr (fun e => by have e2 : some g = some b := e; injection e2; omega)), by rw [List.length_set, h2], fun k hk => ?_, fun a b' gg ha hb => ?_⟩
  · rw [List.length_set] at hk
    by_cases hik : i = k
    · subst hik
      rw [List.getElem?_set_self hi, hvi]
      exact hri.set j hj x
    · rw [List.getElem?_set_ne hik]
      refine row_other (h3 k hk) (fun e => ?_)
      exact h4 i k b hi hk hik (by rw [hvi]; rfl) e
  · rw [List.length_set] at ha hb
    exact h4 a b' gg ha hb
end Go.Proofs.YtdhpamemkkfhhaaDoor
