/- All names, one node more at a time; those that come to a list by trying. Plain mathematics, no condition. -/
import Derived.Test.YtcblcifnpgmibaaDoorTryMath
import Derived.Test.YtcblcifnpgmibaaDoorLikeDef
namespace Go.Proofs.YtcblcifnpgmibaaDoor
open Go Go.RowKit
set_option linter.unusedVariables false
set_option maxRecDepth 100000

/-- The names that are left. -/
def left (n : Nat) (P : List Nat) : List Nat := (List.range n).filter fun x => !P.contains x
def ext (n : Nat) (P : List Nat) : List (List Nat) := (left n P).map fun v => P ++ [v]
def extK (n : Nat) : Nat → List (List Nat) → List (List Nat)
  | 0, Ls => Ls
  | k + 1, Ls => extK n k (Ls.flatMap (ext n))
def permsTo (n k : Nat) : List (List Nat) := extK n k [[]]
theorem extK_append (n k : Nat) (A B : List (List Nat)) : extK n k (A ++ B) = extK n k A ++ extK n k B := by
  induction k generalizing A B with
  | zero => rfl
  | succ k ih => unfold extK; rw [List.flatMap_append, ih]
theorem extK_nil (n k : Nat) : extK n k [] = [] := by
  induction k with
  | zero => rfl
  | succ k ih => unfold extK; simpa using ih
theorem extK_flat (n k : Nat) (A : List (List Nat)) : extK n k A = A.flatMap fun P => extK n k [P] := by
  induction A with
  | nil => simp [extK_nil]
  | cons P A ih => rw [show P :: A = [P] ++ A from rfl, extK_append, ih]; simp
theorem extK_succ' (n k : Nat) (A : List (List Nat)) : extK n (k + 1) A = (extK n k A).flatMap (ext n) := by
  induction k generalizing A with
  | zero => rfl
  | succ k ih => show extK n (k + 1) (A.flatMap (ext n)) = _; rw [ih]; rfl
theorem permsTo_succ (n k : Nat) : permsTo n (k + 1) = (permsTo n k).flatMap (ext n) := extK_succ' n k _
theorem mem_left {n : Nat} {P : List Nat} {v : Nat} : v ∈ left n P ↔ v < n ∧ v ∉ P := by simp [left]
theorem left_length (n : Nat) (P : List Nat) : (left n P).length ≤ n := by
  have := List.length_filter_le (fun x => !P.contains x) (List.range n)
  simpa [left] using this
/-- What all of them are. -/
def Names (n k : Nat) (P : List Nat) : Prop := P.length = k ∧ P.Nodup ∧ ∀ x ∈ P, x < n
theorem ext_names {n k : Nat} {P Q : List Nat} (h : Names n k P) (hq : Q ∈ ext n P) : Names n (k + 1) Q := by
  unfold ext at hq
  obtain ⟨v, hv, rfl⟩ := List.mem_map.1 hq
  obtain ⟨h1, h2⟩ := mem_left.1 hv
  refine ⟨by simp [h.1], ?_, ?_⟩
  · rw [List.nodup_append]
    exact ⟨h.2.1, by simp, fun a ha b hb e => h2 (by simp at hb; subst hb; subst e; exact ha)⟩
  · intro x hx
    rcases List.mem_append.1 hx with hx | hx
    · exact h.2.2 x hx
    · rw [List.mem_singleton.1 hx]; exact h1
theorem perms_names (n k : Nat) : ∀ P ∈ permsTo n k, Names n k P := by
  induction k with
  | zero => intro P hP; simp [permsTo, extK] at hP; subst hP; exact ⟨rfl, by simp, by simp⟩
  | succ k ih =>
    intro P hP
    rw [permsTo_succ, List.mem_flatMap] at hP
    obtain ⟨R, hR, hP⟩ := hP
    exact ext_names (ih R hR) hP
theorem ext_length (n : Nat) (P : List Nat) : (ext n P).length ≤ n := by unfold ext; rw [List.length_map]; exact left_length n P
theorem flat_length (n : Nat) (A : List (List Nat)) : (A.flatMap (ext n)).length ≤ A.length * n := by
  induction A with
  | nil => simp
  | cons P A ih =>
    rw [List.flatMap_cons, List.length_append, List.length_cons, Nat.succ_mul]
    have := ext_length n P
    omega
theorem perms_length (n k : Nat) (hn : n ≤ 6) (hk : k ≤ 6) : (permsTo n k).length ≤ 46656 := by
  have h : ∀ k, (permsTo n k).length ≤ 6 ^ k := by
    intro k
    induction k with
    | zero => simp [permsTo, extK]
    | succ k ih =>
      rw [permsTo_succ]
      have h1 := flat_length n (permsTo n k)
      have h2 : (permsTo n k).length * n ≤ 6 ^ k * 6 := Nat.mul_le_mul ih hn
      rw [Nat.pow_succ]
      omega
  exact Nat.le_trans (h k) (Nat.pow_le_pow_right (n := 6) (by omega) hk)

/-! ### trying -/
def leaves (f : List Nat → Bool) : Nat → List Nat → Nat → List (List Nat)
  | 0, P, _ => [P]
  | k + 1, P, s => (nodesL s).flatMap fun v => if f (P ++ [v]) = true then leaves f k (P ++ [v]) (less s (2 ^ v)) else []
theorem foldl_flat {α : Type} (g : Nat → List α) (vs : List Nat) (acc : List α) : vs.foldl (fun a v => a ++ g v) acc = acc ++ vs.flatMap g := by
  induction vs generalizing acc with
  | nil => simp
  | cons v vs ih => rw [List.foldl_cons, ih]; simp
theorem dfs_leaves (f : List Nat → Bool) (k : Nat) : ∀ (acc : List (List Nat)) (P : List Nat) (s : Nat), dfs (fun _ P => f P) k acc P s = acc ++ leaves f k P s := by
  induction k with
  | zero => intro acc P s; rfl
  | succ k ih =>
    intro acc P s
    rw [dfs_succ]
    unfold runF leaves
    rw [← foldl_flat]
    congr 1
    funext a v
    unfold stepF
    split
    · exact ih _ _ _
    · simp
/-- All beginnings longer than p fit. -/
def okFrom (f : List Nat → Bool) (p : Nat) (Q : List Nat) : Bool := (List.range Q.length).all fun i => decide (i < p) || f (Q.take (i + 1))
theorem okFrom_iff (f : List Nat → Bool) (p : Nat) (Q : List Nat) : okFrom f p Q = true ↔ ∀ i, p ≤ i → i < Q.length → f (Q.take (i + 1)) = true := by
  unfold okFrom
  rw [List.all_eq_true]
  constructor
  · intro h i h1 h2
    have := h i (List.mem_range.2 h2)
    simpa [show ¬ i < p by omega] using this
  · intro h i hi
    by_cases h1 : i < p
    · simp [h1]
    · simp [h i (by omega) (List.mem_range.1 hi)]
theorem extK_take (n k : Nat) : ∀ (P Q : List Nat), Q ∈ extK n k [P] → Q.take P.length = P ∧ Q.length = P.length + k := by
  induction k with
  | zero => intro P Q h; simp [extK] at h; subst h; simp
  | succ k ih =>
    intro P Q h
    unfold extK at h
    rw [extK_flat, List.mem_flatMap] at h
    obtain ⟨R, hR, hQ⟩ := h
    simp at hR
    unfold ext at hR
    obtain ⟨v, _, rfl⟩ := List.mem_map.1 hR
    obtain ⟨h1, h2⟩ := ih _ _ hQ
    rw [List.length_append, List.length_singleton] at h1 h2
    refine ⟨?_, by omega⟩
    have h3 := congrArg (List.take P.length) h1
    rw [List.take_take] at h3
    simpa [Nat.min_eq_left (Nat.le_succ P.length)] using h3
/-- A set is the names that are left. -/
def Comp (n : Nat) (P : List Nat) (s : Nat) : Prop := nodesL s = left n P
theorem comp_next : ∀ {n : Nat} {P : List Nat} {s v : Nat}, s < 64 → Comp n P s → v ∈ nodesL s → Comp n (P ++ [v]) (less s (2 ^ v)) := by
  intro n P s v hs h hv
  have h1 := nodes_mem.1 hv
  have h2 := (less_bit ⟨s, hs⟩ ⟨v, h1.1⟩).2 h1.2
  dsimp only at h2
  unfold Comp at h ⊢
  rw [h2.1, h]
  unfold left
  rw [List.filter_filter]
  refine List.filter_congr fun x hx => ?_
  by_cases h3 : x = v
  · subst h3; simp
  · simp [h3]
theorem flat_congr {α β : Type} {l : List α} {f g : α → List β} (h : ∀ a ∈ l, f a = g a) : l.flatMap f = l.flatMap g := by
  induction l with
  | nil => rfl
  | cons a l ih => rw [List.flatMap_cons, List.flatMap_cons, h a (by simp), ih fun b hb => h b (by simp [hb])]
theorem leaves_filter (f : List Nat → Bool) (n k : Nat) : ∀ (P : List Nat) (s : Nat), s < 64 → Comp n P s → leaves f k P s = (extK n k [P]).filter (okFrom f P.length) := by
  induction k with
  | zero =>
    intro P s hs h
    have e : okFrom f P.length P = true := (okFrom_iff _ _ _).2 (fun i h1 h2 => absurd h2 (by omega))
    simp [leaves, extK, e]
  | succ k ih =>
    intro P s hs h
    unfold leaves extK
    rw [extK_flat, show [P].flatMap (ext n) = ext n P by simp, List.filter_flatMap, h]
    unfold ext
    rw [List.flatMap_map]
    refine flat_congr fun v hv => ?_
    have hvs : v ∈ nodesL s := by rw [h]; exact hv
    have hc := comp_next hs h hvs
    have hl : less s (2 ^ v) < 64 := (less_bit ⟨s, hs⟩ ⟨v, (nodes_mem.1 hvs).1⟩).1
    rw [ih _ _ hl hc]
    have hlen : (P ++ [v]).length = P.length + 1 := by simp
    by_cases hf : f (P ++ [v]) = true
    · rw [if_pos hf]
      refine List.filter_congr fun Q hQ => ?_
      obtain ⟨h1, h2⟩ := extK_take n k _ _ hQ
      rw [Bool.eq_iff_iff, okFrom_iff, okFrom_iff, hlen]
      constructor
      · intro h3 i h4 h5
        by_cases h6 : i = P.length
        · subst h6; rw [← hlen, h1]; exact hf
        · exact h3 i (by omega) h5
      · intro h3 i h4 h5
        exact h3 i (by omega) h5
    · rw [if_neg hf]
      symm
      rw [List.filter_eq_nil_iff]
      intro Q hQ
      obtain ⟨h1, h2⟩ := extK_take n k _ _ hQ
      rw [okFrom_iff]
      intro h3
      have := h3 P.length (Nat.le_refl _) (by rw [h2, hlen]; omega)
      rw [← hlen, h1] at this
      exact hf this
theorem full_comp : ∀ n : Fin 7, nodesL (2 ^ n.val - 1) = List.range n.val := by decide
theorem likeL_eq (L M : List Int) (h6 : L.length ≤ 6) : likeL L M = (permsTo L.length L.length).filter (okFrom (fitB L M) 0) := by
  unfold likeL allNames
  rw [dfs_leaves (fitB L M), List.nil_append]
  have h1 := full_comp ⟨L.length, by omega⟩
  dsimp only at h1
  exact leaves_filter (fitB L M) L.length L.length [] _ (by have := two_le h6; have := two_pos L.length; omega) (by unfold Comp left; rw [h1]; exact (List.filter_eq_self.2 (by simp)).symm)
end Go.Proofs.YtcblcifnpgmibaaDoor
