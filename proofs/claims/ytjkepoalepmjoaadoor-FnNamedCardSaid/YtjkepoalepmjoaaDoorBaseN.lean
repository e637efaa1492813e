/- Texts in one: LinkMath, SpecLinked, SpecLinkedAny, Marks, ImplLinked, LinkedLaw, Less, OtherMath, Other, OtherIn, ImplOther, CodeLaw, InLaw, PartMath, SpecPart, ImplPart, PartLaw, DropLaw, JoinMath, Join, Beside, ImplJoin, JoinLaw, IsCode, OfSaid, GraphOfIn, GraphOf, SameInts. -/
import Derived.Test.YtjkepoalepmjoaaDoorBaseA
import Derived.RangeFuncLeaves
import Derived.RangeFuncKeeps
import Derived.RangeFuncFrom
import Derived.RangeFuncBox
import Derived.Test.YtjkepoalepmjoaaDoorBaseM

/- The nodes to which ways lead: the model's way and the program's find one set. Plain mathematics, no condition. -/



namespace Go.Proofs.YtjkepoalepmjoaaDoor
open Go Go.RowKit

/-- Each member of the one is one of the other. -/
def Sub (s t : Nat) : Prop := ∀ j : Nat, s.testBit j = true → t.testBit j = true
theorem Sub.refl (s : Nat) : Sub s s := fun _ h => h
theorem Sub.trans {r s t : Nat} (h : Sub r s) (k : Sub s t) : Sub r t := fun j hj => k j (h j hj)
theorem Sub.eq {s t : Nat} (h : Sub s t) (k : Sub t s) : s = t := Nat.eq_of_testBit_eq fun j => by
  have h1 := h j
  have h2 := k j
  cases e1 : s.testBit j <;> cases e2 : t.testBit j <;> simp_all
theorem sub_or {r s t : Nat} (h : Sub r t) (k : Sub s t) : Sub (r ||| s) t := fun j hj => by
  rw [Nat.testBit_or, Bool.or_eq_true] at hj
  exact hj.elim (h j) (k j)
theorem sub_left (r s : Nat) : Sub r (r ||| s) := fun j hj => by rw [Nat.testBit_or, hj]; rfl
theorem sub_right (r s : Nat) : Sub s (r ||| s) := fun j hj => by rw [Nat.testBit_or, hj]; simp
/-- Ways lead out of it nowhere else. -/
def Closed (L : List Int) (t : Nat) : Prop := ∀ v, v < L.length → t.testBit v = true → Sub (ent L v) t

/-- The model's step, and its round. -/
def grow (L : List Int) (s v : Nat) : Nat := if s.testBit v = true then s ||| ent L v else s
def turn (L : List Int) (s k : Nat) : Nat := (List.range k).foldl (grow L) s
theorem turn_zero (L : List Int) (s : Nat) : turn L s 0 = s := rfl
theorem turn_succ (L : List Int) (s k : Nat) : turn L s (k + 1) = grow L (turn L s k) k := by simp [turn, List.range_succ]
theorem grow_up (L : List Int) (s v : Nat) : Sub s (grow L s v) := by unfold grow; split; exact sub_left _ _; exact Sub.refl _
theorem turn_up (L : List Int) (s k : Nat) : Sub s (turn L s k) := by
  induction k with
  | zero => exact Sub.refl _
  | succ k ih => rw [turn_succ]; exact ih.trans (grow_up _ _ _)
theorem turn_mono (L : List Int) (s k m : Nat) (h : k ≤ m) : Sub (turn L s k) (turn L s m) := by
  induction m with
  | zero => have : k = 0 := by omega
            subst this; exact Sub.refl _
  | succ m ih =>
    by_cases hk : k = m + 1
    · subst hk; exact Sub.refl _
    · rw [turn_succ]; exact (ih (by omega)).trans (grow_up _ _ _)
theorem turn_in {L : List Int} {s t : Nat} (hs : Sub s t) (hc : Closed L t) (k : Nat) (hk : k ≤ L.length) : Sub (turn L s k) t := by
  induction k with
  | zero => exact hs
  | succ k ih =>
    rw [turn_succ]
    have h1 := ih (by omega)
    unfold grow
    split
    · exact sub_or h1 (hc k (by omega) (h1 k (by assumption)))
    · exact h1
theorem turn_closed {L : List Int} {s : Nat} (h : turn L s L.length = s) : Closed L s := fun v hv hb => by
  have h1 : Sub (ent L v) (turn L s (v + 1)) := by
    rw [turn_succ]
    unfold grow
    rw [if_pos (turn_up L s v v hb)]
    exact sub_right _ _
  have h2 := h1.trans (turn_mono L s (v + 1) L.length (by omega))
  rwa [h] at h2
theorem turn_lt {L : List Int} {s m : Nat} (hs : s < 2 ^ m) (hL : ∀ v, v < L.length → ent L v < 2 ^ m) (k : Nat) (hk : k ≤ L.length) : turn L s k < 2 ^ m := by
  induction k with
  | zero => exact hs
  | succ k ih =>
    rw [turn_succ]
    unfold grow
    split
    · exact Nat.or_lt_two_pow (ih (by omega)) (hL k (by omega))
    · exact ih (by omega)

/-- How many of the first n nodes. -/
def cntT : Nat → Nat → Nat
  | 0, _ => 0
  | n + 1, s => cntT n s + (if s.testBit n = true then 1 else 0)
theorem cntT_le_n (n s : Nat) : cntT n s ≤ n := by
  induction n with
  | zero => simp [cntT]
  | succ n ih => unfold cntT; split <;> omega
theorem cntT_mono (n : Nat) {s t : Nat} (h : Sub s t) : cntT n s ≤ cntT n t := by
  induction n with
  | zero => simp [cntT]
  | succ n ih =>
    unfold cntT
    by_cases h1 : s.testBit n = true
    · rw [if_pos h1, if_pos (h n h1)]; omega
    · rw [if_neg h1]; omega
theorem cntT_lt (n : Nat) {s t : Nat} (h : Sub s t) (j : Nat) (hj : j < n) (h1 : t.testBit j = true) (h2 : ¬ s.testBit j = true) : cntT n s < cntT n t := by
  induction n with
  | zero => omega
  | succ n ih =>
    unfold cntT
    by_cases hjn : j = n
    · subst hjn
      rw [if_pos h1, if_neg h2]
      have := cntT_mono j h
      omega
    · have h3 := ih (by omega)
      by_cases h4 : s.testBit n = true
      · rw [if_pos h4, if_pos (h n h4)]; omega
      · rw [if_neg h4]; omega
theorem cntT_one (n : Nat) (h : 1 ≤ n) : 1 ≤ cntT n 1 := by
  induction n with
  | zero => omega
  | succ n ih =>
    unfold cntT
    by_cases hn : n = 0
    · subst hn; decide
    · have := ih (by omega)
      omega

/-- The model's sets, one behind the other. -/
def turns (L : List Int) : Nat → Nat
  | 0 => 1
  | k + 1 => turn L (turns L k) L.length
theorem turns_lt {L : List Int} {m : Nat} (hm : 1 ≤ m) (hL : ∀ v, v < L.length → ent L v < 2 ^ m) (k : Nat) : turns L k < 2 ^ m := by
  induction k with
  | zero => show 1 < 2 ^ m; exact Nat.lt_of_lt_of_le (by decide) (Nat.pow_le_pow_right (n := 2) (by omega) hm)
  | succ k ih => exact turn_lt ih hL _ (Nat.le_refl _)
theorem turns_has (L : List Int) (k : Nat) : Sub 1 (turns L k) := by
  induction k with
  | zero => exact Sub.refl _
  | succ k ih => exact ih.trans (turn_up _ _ _)
theorem turns_in {L : List Int} {t : Nat} (h1 : Sub 1 t) (hc : Closed L t) (k : Nat) : Sub (turns L k) t := by
  induction k with
  | zero => exact h1
  | succ k ih => exact turn_in ih hc _ (Nat.le_refl _)
theorem turns_grow {L : List Int} (hn : 1 ≤ L.length) (hL : ∀ v, v < L.length → ent L v < 2 ^ L.length) (k : Nat) : Closed L (turns L k) ∨ k + 1 ≤ cntT L.length (turns L k) := by
  induction k with
  | zero => exact .inr (cntT_one _ hn)
  | succ k ih =>
    have hup := turn_up L (turns L k) L.length
    by_cases hsame : turn L (turns L k) L.length = turns L k
    · refine .inl ?_
      show Closed L (turn L (turns L k) L.length)
      rw [hsame]
      exact turn_closed hsame
    · rcases ih with h | h
      · exact absurd (Sub.eq (turn_in (Sub.refl _) h _ (Nat.le_refl _)) hup) hsame
      · refine .inr ?_
        have hex : ∃ j, (turn L (turns L k) L.length).testBit j = true ∧ ¬ (turns L k).testBit j = true := by
          refine Classical.byContradiction fun hno => hsame (Sub.eq (fun j hj => ?_) hup)
          refine Classical.byContradiction fun h2 => hno ⟨j, hj, h2⟩
        obtain ⟨j, j1, j2⟩ := hex
        have hj : j < L.length := by
          refine Nat.lt_of_not_le fun hle => ?_
          have h3 := turns_lt (m := L.length) hn hL (k + 1)
          have h4 : (turns L (k + 1)).testBit j = false := Nat.testBit_lt_two_pow (Nat.lt_of_lt_of_le h3 (Nat.pow_le_pow_right (n := 2) (by omega) hle))
          rw [show turns L (k + 1) = turn L (turns L k) L.length from rfl, j1] at h4
          cases h4
        have := cntT_lt L.length hup j hj j1 j2
        show k + 1 + 1 ≤ cntT L.length (turn L (turns L k) L.length)
        omega
theorem turns_closed {L : List Int} (hn : 1 ≤ L.length) (hL : ∀ v, v < L.length → ent L v < 2 ^ L.length) : Closed L (turns L L.length) := by
  rcases turns_grow hn hL L.length with h | h
  · exact h
  · have := cntT_le_n L.length (turns L L.length)
    omega

/-- The program's round. -/
def wide (L : List Int) (s : Nat) (pre : List Nat) : Nat := pre.foldl (fun r v => r ||| ent L v) s
theorem wide_nil (L : List Int) (s : Nat) : wide L s [] = s := rfl
theorem wide_snoc (L : List Int) (s : Nat) (pre : List Nat) (v : Nat) : wide L s (pre ++ [v]) = wide L s pre ||| ent L v := by simp [wide]
theorem wide_ge (L : List Int) (s : Nat) (pre : List Nat) : s ≤ wide L s pre := by
  induction pre using snoc_ind with
  | h0 => exact Nat.le_refl _
  | h1 l x ih => rw [wide_snoc]; exact Nat.le_trans ih Nat.left_le_or
theorem wide_up (L : List Int) (s : Nat) (pre : List Nat) : Sub s (wide L s pre) := by
  induction pre using snoc_ind with
  | h0 => exact Sub.refl _
  | h1 l x ih => rw [wide_snoc]; exact ih.trans (sub_left _ _)
theorem wide_has (L : List Int) (s : Nat) (pre : List Nat) (v : Nat) (hv : v ∈ pre) : Sub (ent L v) (wide L s pre) := by
  induction pre using snoc_ind with
  | h0 => cases hv
  | h1 l x ih =>
    rw [wide_snoc]
    rcases List.mem_append.1 hv with h | h
    · exact (ih h).trans (sub_left _ _)
    · rw [List.mem_singleton.1 h]; exact sub_right _ _
theorem wide_in {L : List Int} {s t : Nat} (hs : Sub s t) (hc : Closed L t) (pre : List Nat) (hp : ∀ v ∈ pre, v < L.length ∧ s.testBit v = true) : Sub (wide L s pre) t := by
  induction pre using snoc_ind with
  | h0 => exact hs
  | h1 l x ih =>
    rw [wide_snoc]
    have hx := hp x (by simp)
    exact sub_or (ih fun v hv => hp v (by simp [hv])) (hc x hx.1 (hs x hx.2))
theorem wide_lt {L : List Int} {s m : Nat} (hs : s < 2 ^ m) (pre : List Nat) (hp : ∀ v ∈ pre, ent L v < 2 ^ m) : wide L s pre < 2 ^ m := by
  induction pre using snoc_ind with
  | h0 => exact hs
  | h1 l x ih => rw [wide_snoc]; exact Nat.or_lt_two_pow (ih fun v hv => hp v (by simp [hv])) (hp x (by simp))
/-- The set that the program ends at is the model's. -/
theorem reached_eq {L : List Int} (hn : 1 ≤ L.length) (h6 : L.length ≤ 6) (hL : ∀ v, v < L.length → ent L v < 2 ^ L.length) {s : Nat} (h1 : Sub 1 s) (hin : ∀ t, Sub 1 t → Closed L t → Sub s t) (hend : wide L s (nodesL s) = s) : s = turns L L.length := by
  have hc : Closed L s := fun v hv hb => by
    have hm : v ∈ nodesL s := nodes_mem.2 ⟨by omega, by rw [Nat.testBit_eq_decide_div_mod_eq, decide_eq_true_eq] at hb; exact hb⟩
    have := wide_has L s (nodesL s) v hm
    rwa [hend] at this
  exact Sub.eq (hin _ (turns_has L L.length) (turns_closed hn hL)) (turns_in h1 hc L.length)
end Go.Proofs.YtjkepoalepmjoaaDoor

/- The model's GraphLinked. -/


namespace Go.Proofs.YtjkepoalepmjoaaDoor
open Go.RowKit
set_option linter.unusedVariables false

theorem bit_test2 (s y : Nat) : s.testBit y = true ↔ s / 2 ^ y % 2 = 1 := by rw [Nat.testBit_eq_decide_div_mod_eq, decide_eq_true_eq]

/-- What one node's round asks. -/
theorem lk_step {L : List Int} (hg : IsGraph L) {s y q : Nat} (hs : s < 64) (hy : y < L.length) (hq : turn L s y = q) :
    ∃ X bit r : Nat, q < 64 ∧ L[y]?.getD 0 = (X : Int) ∧ (bit = 0 ∨ bit = 1) ∧ bits .and .i64 ((q : Int) / 2 ^ y) 1 = (bit : Int) ∧ bits .or .i64 (q : Int) (X : Int) = (r : Int) ∧ r < 64 ∧ turn L s (y + 1) = (if bit = 1 then r else q) := by
  have h6 := hg.2.1
  have hin := (hg.2.2 y hy).1
  have hX := ent_int hin
  have hXl := ent_lt hin
  have h64 := two_le h6
  have hq64 : q < 64 := by
    rw [← hq]
    exact turn_lt (m := 6) hs (fun v hv => by have h1 := ent_lt (hg.2.2 v hv).1; omega) y (by omega)
  obtain ⟨bit, eb, hb1, f1⟩ := and_facts q y (by omega)
  have f2 := i64_or_nat q (ent L y) (by omega) (by omega)
  have hr : q ||| ent L y < 2 ^ 6 := Nat.or_lt_two_pow hq64 (by omega)
  refine ⟨ent L y, bit, q ||| ent L y, hq64, hX, by omega, f1, f2, hr, ?_⟩
  rw [turn_succ, hq]
  unfold grow
  by_cases h : q.testBit y = true
  · rw [if_pos h, if_pos (by rw [eb]; exact (bit_test2 q y).1 h)]
  · rw [if_neg h, if_neg (fun e => h ((bit_test2 q y).2 (by rw [← eb]; exact e)))]

set_option maxHeartbeats 1000000 in
theorem specLinked_no (B : Nat) (v : Value) (L : List Int) (hL : ¬ IsGraph L) (w : World) (h : Row w B v L) :
    Calls Tryd.prog 45 #[v] w (Looked w false) := by
  have H1 := Lib.hid (specIn_any B v L false ⟨fun h => (by cases h), fun h => absurd h hL⟩ w h)
  clear hL h
  go_enter Tryd.func45, Tryd.ntmps45
  go_wp2_with fail
  refine H1.out.mono ?_
  rintro e w1 ⟨rfl, d, rfl⟩
  go_wp2
  go_ret
  exact ⟨rfl, d, rfl⟩
set_option maxHeartbeats 2000000 in
theorem specLinked_yes (B : Nat) (v : Value) (L : List Int) (hg : IsGraph L) (w : World) (h : Row w B v L) :
    Calls Tryd.prog 45 #[v] w (Looked w (decide (turns L L.length = 2 ^ L.length - 1))) := by
  have h1 := hg.1
  have h6 := hg.2.1
  have H1 := Lib.hid (specIn_any B v L true ⟨fun _ => hg, fun _ => rfl⟩ w h)
  obtain ⟨A, c, rfl, hs⟩ := h.seen
  obtain ⟨P, Q, hP, hQ, hP64, p1, p2, p3, p4, p5⟩ := shl_facts L.length h6
  have hQ2 : 2 ^ L.length - 1 = Q := by omega
  rw [hQ2]
  obtain ⟨n, hn⟩ : ∃ n, n = L.length := ⟨_, rfl⟩
  rw [← hn] at h1 h6 H1 p1 p2 ⊢
  have HN := Lib.hid hn
  have H := Lib.hid hs
  have HG := Lib.hid hg
  clear h hg hn hs hP hQ hQ2
  go_enter Tryd.func45, Tryd.ntmps45
  go_wp2_with fail
  refine H1.out.mono ?_
  rintro e w1 ⟨rfl, d, rfl⟩
  have HD : Hid (Seen (w.drewN d) A L) := Lib.hid H.out
  have hqq := Lib.hid (show Looked w (decide (turns L n = Q)) (.returned (.bool (decide (turns L n = Q)))) (w.drewN d) from ⟨rfl, d, rfl⟩)
  obtain ⟨wd, ewd⟩ : ∃ wd, wd = w.drewN d := ⟨_, rfl⟩
  rw [← ewd] at HD hqq ⊢
  clear ewd H H1
  go_wp2
  go_loop [3, 4] (fun s i => ∃ q k : Nat, k ≤ n ∧ q < 64 ∧ i = .int .i64 k ∧ s = .int .i64 q ∧ Hid (turns L k = q)) (fun _ i => n - (intOf i).toNat)
  case atStart => exact ⟨1, 0, Nat.zero_le _, by omega, rfl, rfl, Lib.hid rfl⟩
  case round =>
    obtain ⟨q, k, hk, hq64, rfl, rfl, hq⟩ := hrel
    by_cases hlt : k < n
    · go_wp2
      go_loop [3, 5] (fun s i => ∃ r y : Nat, y ≤ n ∧ r < 64 ∧ i = .int .i64 y ∧ s = .int .i64 r ∧ Hid (turn L q y = r)) (fun _ i => n - (intOf i).toNat)
      case atStart => exact ⟨q, 0, Nat.zero_le _, hq64, rfl, rfl, Lib.hid rfl⟩
      case round =>
        obtain ⟨r, y, hy, hr64, rfl, rfl, hr⟩ := hrel
        by_cases hly : y < n
        · obtain ⟨X, bit, r2, _, eX, hbit, f1, f2, hr2, f3⟩ := lk_step HG.out hq64 (show y < L.length by have := HN.out; omega) hr.out
          obtain ⟨blk, off, rfl, hbl, hc⟩ := HD.out y (by have := HN.out; omega)
          rw [eX] at hc
          have hi1 : (0 : Int) ≤ (y : Int) ∧ (y : Int) < (n : Int) := by omega
          have F3 := Lib.hid f3
          clear f3 eX hbl
          rcases hbit with rfl | rfl
          · go_wp2
            go_round
            case rel => exact ⟨r, y + 1, by omega, hr64, by go_num, rfl, Lib.hid (by rw [F3.out]; rfl)⟩
            case measure => simp [intOf]; omega
          · go_wp2
            go_round
            case rel => exact ⟨r2, y + 1, by omega, hr2, by go_num, by go_num, Lib.hid (by rw [F3.out]; rfl)⟩
            case measure => simp [intOf]; omega
        · have hyn : y = n := by omega
          subst hyn
          go_wp2
          go_round
          case rel => exact ⟨r, k + 1, by omega, hr64, by go_num, rfl, Lib.hid (by rw [← hr.out, ← hq.out, HN.out]; rfl)⟩
          case measure => simp [intOf]; omega
    · have hkn : k = n := by omega
      subst hkn
      have e : ((q : Int) == (Q : Int)) = decide (turns L k = Q) := by rw [hq.out, Bool.eq_iff_iff]; simp; omega
      go_wp2
      go_ret
      exact hqq.out
end Go.Proofs.YtjkepoalepmjoaaDoor

/- The model's GraphLinked at each list (cut out of the law of GraphLinked). -/


namespace Go.Proofs.YtjkepoalepmjoaaDoor
open Go Go.RowKit
set_option linter.unusedVariables false

def IsLinked (L : List Int) : Prop := IsGraph L ∧ turns L L.length = 2 ^ L.length - 1
theorem specLinked_any (B : Nat) (v : Value) (L : List Int) (b : Bool) (hb : b = true ↔ IsLinked L) (w : World) (h : Row w B v L) :
    Calls Tryd.prog 45 #[v] w (Looked w b) := by
  by_cases hL : IsGraph L
  · have e : decide (turns L L.length = 2 ^ L.length - 1) = b := by
      rw [Bool.eq_iff_iff, hb, decide_eq_true_eq]
      exact ⟨fun h => ⟨hL, h⟩, fun h => h.2⟩
    rw [← e]
    exact specLinked_yes B v L hL w h
  · have e : b = false := by
      cases b
      · rfl
      · exact absurd (hb.1 rfl).1 hL
    rw [e]
    exact specLinked_no B v L hL w h

end Go.Proofs.YtjkepoalepmjoaaDoor

/- A range over a function inside a plain loop: each entry leaves a mark among the frame's deferred calls; what the return finds there. -/




namespace Go.Proofs.YtjkepoalepmjoaaDoor
open Go Go.RowKit
set_option linter.unusedVariables false

def mark (D : Nat) : Deferred := { target := .collected D, args := #[] }
/-- The marks' blocks: below b, none twice, none below n₀, each one still open and empty. -/
def Marks (n₀ : Nat) (Ds : List Nat) (b : Nat) (W : World) : Prop := Ds.Nodup ∧ ∀ D ∈ Ds, n₀ ≤ D ∧ D < b ∧ W.heap[D]? = some (.deferred (some []))
theorem marks_nil (n₀ b : Nat) (W : World) : Marks n₀ [] b W := ⟨List.nodup_nil, fun _ h => by cases h⟩
theorem marks_own {β : Type} (n₀ : Nat) (Ds : List Nat) (b B : Nat) (hB : b ≤ B) : OwnFrom B (fun (_ : β) W => Marks n₀ Ds b W) := fun s X Y row hs hg hr =>
  ⟨hs.1, fun D hD => by
    obtain ⟨h1, h2, h3⟩ := hs.2 D hD
    exact ⟨h1, h2, (hg.block D (Array.getElem?_eq_some_iff.1 h3).1 (fun e => by have := (hr D e.symm).1; omega)).trans h3⟩⟩
theorem marks_grown {n₀ : Nat} {Ds : List Nat} {b g : Nat} {X Y : World} (h : Marks n₀ Ds b X) (hg : X.grownBy Y (some g)) (ho : ∃ o : Obj, X.heap[g]? = some o ∧ o.isCells = true) : Marks n₀ Ds b Y :=
  ⟨h.1, fun D hD => by
    obtain ⟨h1, h2, h3⟩ := h.2 D hD
    refine ⟨h1, h2, (hg.block D (Array.getElem?_eq_some_iff.1 h3).1 (fun e => ?_)).trans h3⟩
    cases e
    obtain ⟨o, o1, o2⟩ := ho
    rw [h3] at o1
    cases o1
    cases o2⟩
theorem marks_alloc {n₀ : Nat} {Ds : List Nat} {b : Nat} {X : World} (h : Marks n₀ Ds b X) (o : Obj) : Marks n₀ Ds b (X.alloc o) :=
  ⟨h.1, fun D hD => by
    obtain ⟨h1, h2, h3⟩ := h.2 D hD
    exact ⟨h1, h2, (Below.heap_alloc _ _ _ (Array.getElem?_eq_some_iff.1 h3).1).trans h3⟩⟩
theorem marks_cons {n₀ : Nat} {Ds : List Nat} {b b' D : Nat} {X : World} (h : Marks n₀ Ds b X) (h0 : n₀ ≤ D) (hb : b ≤ D) (hb' : D < b') (h3 : X.heap[D]? = some (.deferred (some []))) : Marks n₀ (D :: Ds) b' X :=
  ⟨List.nodup_cons.2 ⟨fun hm => by have := (h.2 D hm).2.1; omega, h.1⟩, fun E hE => by
    rcases List.mem_cons.1 hE with rfl | hE
    · exact ⟨h0, hb', h3⟩
    · obtain ⟨h1, h2, h4⟩ := h.2 E hE
      exact ⟨h1, by omega, h4⟩⟩
theorem marks_up {n₀ : Nat} {Ds : List Nat} {b b' : Nat} {X : World} (h : Marks n₀ Ds b X) (hb : b ≤ b') : Marks n₀ Ds b' X :=
  ⟨h.1, fun D hD => let ⟨h1, h2, h3⟩ := h.2 D hD; ⟨h1, by omega, h3⟩⟩

/-- At the return: the marks go, one behind the other. -/
theorem leaves_marks {F : Fence} {n : Nat} {P : Program} {fn : Func} {tmps : Array Value} {R : Ending → World → Prop} {n₀ : Nat} {w : World} (hw : n₀ ≤ w.heap.size)
    (hR : ∀ W, Below n₀ w W → LeavesInM F n P fn tmps R [] .returning W) :
    ∀ (Ds : List Nat) (b : Nat) (W : World), Marks n₀ Ds b W → Below n₀ w W → LeavesInM F n P fn tmps R (Ds.map mark) .returning W
  | [], _, W, _, hb => hR W hb
  | D :: Ds, b, W, hm, hb => by
    obtain ⟨h1, h2, h3⟩ := hm.2 D (by simp)
    refine ⟨by simp, .inl ⟨_, _, rfl, run_takeDeferred h3, ?_⟩⟩
    refine leaves_marks hw hR Ds b _ ⟨(List.nodup_cons.1 hm.1).2, fun E hE => ?_⟩ ?_
    · obtain ⟨g1, g2, g3⟩ := hm.2 E (by simp [hE])
      refine ⟨g1, g2, ?_⟩
      have hne : D ≠ E := fun e => (List.nodup_cons.1 hm.1).1 (by rw [e]; exact hE)
      exact (World.putObj_heap_other hne.symm).trans g3
    · exact hb.grown (grownBy_putObj' W D _) (by have := hb.size; omega) (fun k e => by cases e; exact h1)
end Go.Proofs.YtjkepoalepmjoaaDoor

/- The program's reached and linked: a range over a function inside a loop. -/







namespace Go.Proofs.YtjkepoalepmjoaaDoor
open Go.RowKit Go.Shelf
attribute [local go_sem] Oper.semAt_some
set_option linter.unusedVariables false

/-- What the loop carries: the set is one of those that lead to the end. -/
def Lies (L : List Int) (s : Nat) : Prop := Sub 1 s ∧ ∀ t, Sub 1 t → Closed L t → Sub s t
theorem lies_one (L : List Int) : Lies L 1 := ⟨Sub.refl _, fun t h _ => h⟩
theorem lies_wide {L : List Int} {s : Nat} (h : Lies L s) (h6 : L.length ≤ 6) (hs : s < 2 ^ L.length) : Lies L (wide L s (nodesL s)) :=
  ⟨h.1.trans (wide_up _ _ _), fun t h1 hc => wide_in (h.2 t h1 hc) hc _ fun v hv => by
    have h2 := nodes_mem.1 hv
    exact ⟨bit_lt hs h2.2, by rw [Nat.testBit_eq_decide_div_mod_eq, decide_eq_true_eq]; exact h2.2⟩⟩

/-- Between two rounds: the set so far in its box; the graph's box. -/
def ReI (n₀ b n s : Nat) (S : Value) (L : List Int) (pre : List (Nd n s)) (W : World) : Prop :=
  Boxed W n₀ 40 S ∧ Boxed W b 3 (.int .i64 (wide L s (valsN pre) : Nat))
theorem reI_own (n₀ b n s : Nat) (S : Value) (L : List Int) : Own (ReI n₀ b n s S L) := fun pre X Y row hs hg hr =>
  ⟨boxed_own _ _ (fun _ : Unit => _) () X Y row hs.1 hg hr, boxed_own _ _ (fun _ : Unit => _) () X Y row hs.2 hg hr⟩

set_option maxRecDepth 100000 in
set_option maxHeartbeats 4000000 in
theorem implReached_in (A : Option Addr) (c : Nat) (L : List Int) (hg : IsGraph L) (w : World) (h : Seen w A L) (hT : Tab w) :
    CallsIn Fence.wide 7 Tryd.prog 88 #[.slice A L.length c, .int .i64 1] w fun e w' => e = .returned (.int .i64 (turns L L.length : Nat)) ∧ Below w.heap.size w w' := by
  have h1 := hg.1
  have h6 := hg.2.1
  have h2 := hT.lt
  obtain ⟨blk, off, hA0, hbl0, _⟩ := h 0 (by omega)
  subst hA0
  obtain ⟨n, hn⟩ : ∃ n, n = L.length := ⟨_, rfl⟩
  rw [← hn] at h1 h6 ⊢
  have HN := Lib.hid hn
  have H := Lib.hid h
  have HG := Lib.hid hg
  have HT := Lib.hid hT
  have hL2 : ∀ v, v < L.length → ent L v < 2 ^ L.length := fun v hv => ent_lt (hg.2.2 v hv).1
  have HL2 := Lib.hid hL2
  clear h hg hn hT hL2
  refine callsIn_of_wp_marks Tryd.func88 rfl trivial ?_ rfl
  simp only [Tryd.ntmps88, List.size_toArray, List.length_cons, List.length_nil, Nat.reduceAdd, Nat.reduceSub, Array.replicate_succ, Array.replicate_zero, List.push_toArray, List.append_toArray, List.nil_append, List.cons_append]
  gi_wp2
  obtain ⟨W0, eW0⟩ : ∃ W0, W0 = w.alloc (.cells #[.slice (some ⟨blk, off, none⟩) n c] 40) := ⟨_, rfl⟩
  have b0 : Boxed W0 w.heap.size 40 (.slice (some ⟨blk, off, none⟩) n c) := by rw [eW0]; exact Boxed.new w _ _
  have hB0 : Below w.heap.size w W0 := by rw [eW0]; exact (Below.refl _ w).alloc (Nat.le_refl _) _
  rw [← eW0]
  clear eW0
  obtain ⟨n₀, en⟩ : ∃ n₀, n₀ = w.heap.size := ⟨_, rfl⟩
  rw [← en] at b0 hB0 h2 hbl0 ⊢
  have EN := Lib.hid en
  have hle : n₀ ≤ w.heap.size := by omega
  clear en
  refine wpIn_loop (fun a' W' => ∃ (s : Nat) (Ds : List Nat) (u5 u6 u7 u8 u9 u10 u11 u12 u13 u14 u15 u16 u17 u18 u19 u20 u21 : Value), a' = { tmps := #[.slice (some ⟨blk, off, none⟩) n c, .int .i64 s, .pointer (some ⟨n₀, 0, none⟩), undef, .int .i64 0, u5, u6, u7, u8, u9, u10, u11, u12, u13, u14, u15, u16, u17, u18, u19, u20, u21], defers := Ds.map mark } ∧
      s < 2 ^ n ∧ Hid (Lies L s) ∧ Boxed W' n₀ 40 (.slice (some ⟨blk, off, none⟩) n c) ∧ Hid (Marks n₀ Ds W'.heap.size W') ∧ Below n₀ w W') (fun a' _ => 64 - (intOf (a'.tmps.getD 1 undef)).toNat) ?start ?round
  case start => exact ⟨1, [], undef, undef, undef, undef, undef, undef, undef, undef, undef, undef, undef, undef, undef, undef, undef, undef, undef, rfl, Nat.lt_of_lt_of_le (by decide) (Nat.pow_le_pow_right (n := 2) (by omega) h1), Lib.hid (lies_one L), b0, Lib.hid (marks_nil _ _ _), hB0⟩
  case round =>
    rintro a' W ⟨s, Ds, u5, u6, u7, u8, u9, u10, u11, u12, u13, u14, u15, u16, u17, u18, u19, u20, u21, rfl, hs, hli, hbg, hmk, hB⟩
    gi_wp2_with (refine ⟨trivial, ?_⟩; gi_at_call 80; refine (callsIn_wide.2 (nodesIn_any s _)).mono ?_; rintro e w' ⟨rfl, rfl⟩)
    obtain ⟨b, eb⟩ : ∃ b, b = W.heap.size := ⟨_, rfl⟩
    obtain ⟨W', eW'⟩ : ∃ W', W' = (W.alloc (.cells #[.int .i64 s] 3)).alloc (.cells #[.int .i64 s] 3) := ⟨_, rfl⟩
    have sW : W'.heap.size = b + 1 + 1 := by rw [eW', eb]; simp
    have hn0b : n₀ < b := by rw [eb]; exact hbg.lt
    have hB' : Below n₀ w W' := by rw [eW']; exact (hB.alloc (by omega) _).alloc (by simp; omega) _
    have c0 : Boxed W' n₀ 40 (.slice (some ⟨blk, off, none⟩) n c) := by rw [eW']; exact (hbg.alloc _).alloc _
    have c1 : Boxed W' b 3 (.int .i64 (wide L s (valsN ([] : List (Nd n s))) : Nat)) := by rw [eW', eb]; exact (Boxed.new W _ _).alloc _
    have c2 : W'.cell? ⟨b + 1, 0, none⟩ = some (.int .i64 s) := by
      rw [eW', eb]; have h := Boxed.new (W.alloc (.cells #[.int .i64 s] 3)) 3 (.int .i64 s); rw [World.size_alloc] at h; exact h.cell
    have hm' : Marks n₀ Ds b W' := by rw [eW', eb]; exact marks_alloc (marks_alloc hmk.out _) _
    have hTW : Tab W' := HT.out.below hB' (by omega)
    rw [← eb, ← eW']
    have SW := Lib.hid sW
    clear eW' eb hmk hbg hB sW
    refine wpIn_rangeFunc_ownF (α := Nd n s) rfl (by omega) (gf := 90) (lb := #[.pointer (some ⟨b + 1, 0, none⟩)]) rfl trivial (enters_of Tryd.func90 (by kernel_rfl) rfl)
      (nodes_stops _ (b + 1) n s n₀ (by omega) h6 hs W' (by have := SW.out; omega) c2 hTW (by omega) (by have := SW.out; omega)) belowK_t (belowK_b (by have := SW.out; omega)) (Below.refl _ _) (fun _ => rfl)
      (fun pre Z => ReI n₀ b n s (.slice (some ⟨blk, off, none⟩) n c) L pre Z ∧ (Marks n₀ Ds b Z ∧ Below n₀ w Z)) (fun _ _ _ => False)
      (OwnFrom.and (Own.from (reI_own n₀ b n s _ L) _) (OwnFrom.and (marks_own n₀ Ds b _ (by have := SW.out; omega)) (ownFrom_below hle (by have := SW.out; omega)))) (fun _ _ _ _ _ hs _ _ => hs)
      ⟨⟨c0, c1⟩, hm', hB'⟩
      (fun x => { tmps := #[.slice (some ⟨blk, off, none⟩) n c, .int .i64 s, .pointer (some ⟨n₀, 0, none⟩), undef, .int .i64 0, .pointer (some ⟨b, 0, none⟩), .int .i64 (x.1 : Int), .int .i64 s, .int .i64 s,
        .func (.func 90) #[] #[.pointer (some ⟨b + 1, 0, none⟩)], .int .i64 (x.1 : Int), u11, u12, u13, u14, u15, u16, u17, u18, u19, u20, u21], defers := [] }) ?assign ?body ?done ?stop
    case assign =>
      intro l x Z K hK
      gi_wp2
      exact hK
    case body =>
      rintro l pre x Z ⟨⟨d0, d1⟩, hm, hB⟩ hlen
      obtain ⟨v, hvn, hvq⟩ := x
      dsimp only at hvn ⊢
      have hvL : v < L.length := by have := HN.out; omega
      obtain ⟨blk1, off1, hA1, hbl1, hc1⟩ := H.out v hvL
      obtain ⟨rfl, rfl⟩ : blk = blk1 ∧ off = off1 := by injection hA1 with e; injection e with e1 e2; exact ⟨e1, e2⟩
      have hin := (HG.out.2.2 v hvL).1
      have hX := ent_int hin
      have hXl := ent_lt hin
      have h64 := two_le (n := L.length) HG.out.2.1
      have hr64 : wide L s (valsN pre) < 2 ^ n := wide_lt hs _ (fun u hu => by
        simp only [valsN, List.mem_map] at hu
        obtain ⟨q, _, rfl⟩ := hu
        have h5 := HL2.out q.1 (by have := q.2.1; have := HN.out; omega)
        rw [← HN.out] at h5
        exact h5)
      have hw2 : wide L s (valsN (pre ++ [(⟨v, hvn, hvq⟩ : Nd n s)])) = wide L s (valsN pre) ||| ent L v := by rw [valsN_snoc, wide_snoc]
      obtain ⟨X, eX⟩ : ∃ X, X = ent L v := ⟨_, rfl⟩
      obtain ⟨r, er⟩ : ∃ r, r = wide L s (valsN pre) := ⟨_, rfl⟩
      rw [← eX] at hX hXl hw2
      rw [← er] at hr64 hw2 d1
      rw [hX] at hc1
      have hn64 := two_le h6
      have f1 := i64_or_nat r X (by omega) (by omega)
      obtain ⟨r2, er2⟩ : ∃ r2, r2 = r ||| X := ⟨_, rfl⟩
      rw [← er2] at f1 hw2
      have hcv : Z.cell? ⟨blk, off + v, none⟩ = some (.int .i64 X) := (hB.cell (p := ⟨blk, off + v, none⟩) hbl0).trans hc1
      have z0 := d0.cell
      have z1 := d1.cell
      have hi1 : (0 : Int) ≤ (v : Int) ∧ (v : Int) < (n : Int) := by omega
      obtain ⟨w2, ew2⟩ : ∃ w2, w2 = Z.drew := ⟨_, rfl⟩
      have y1 : w2.cell? ⟨b, 0, none⟩ = some (.int .i64 r) := by rw [ew2]; exact d1.cell
      have y2 : w2.frozen? ⟨b, 0, none⟩ = false := by rw [ew2]; exact d1.frozen
      have EW2 := Lib.hid ew2
      have HW2 := Lib.hid hw2
      have D0 := Lib.hid d0
      have D1 := Lib.hid d1
      have HM := Lib.hid hm
      clear ew2 hw2 d0 d1 hm er2 er eX hX hXl h64 hr64 hin hc1 hA1 hbl1 hn64
      gi_wp2
      refine wpIn_tail_round 6 (by kernel_rfl) (by kernel_rfl) (by kernel_rfl) ?_
      simp only [List.take_succ_cons, List.take_zero, List.drop_succ_cons, List.drop_zero]
      repeat still_step
      refine wpStill_nil ?_
      rw [← EW2.out]
      gi_wp2
      rw [EW2.out]
      have gz : Z.grownBy (Z.drew.setCell ⟨b, 0, none⟩ (.int .i64 r2)) (some b) := grown_set (grown_drew (World.grownBy.refl Z (some b))) 0 _
      refine ⟨(KeepsOthers.drew _).trans (KeepsOthers.setCell _ _ _), ((Below.refl n₀ Z).drew).setCell (p := ⟨b, 0, none⟩) (by show n₀ ≤ b; omega) _, ⟨D0.out.kept gz (ne_some (by omega)), ?_⟩, marks_grown HM.out gz ⟨_, D1.out, rfl⟩, hB.drew.setCell (p := ⟨b, 0, none⟩) (by show n₀ ≤ b; omega) _⟩
      rw [HW2.out]
      exact (show Boxed Z.drew b 3 (.int .i64 r) from D1.out).set _
    case done =>
      rintro D xs Z hD hS ⟨⟨d0, d1⟩, hm, hB⟩ hK
      rw [hS] at d1
      have hlt := (Array.getElem?_eq_some_iff.1 hK).1
      have hm2 : Marks n₀ (D :: Ds) Z.heap.size Z := marks_cons hm (by have := SW.out; omega) (by have := SW.out; omega) hlt hK
      have hli2 := lies_wide hli.out (by have := HN.out; omega) (by rw [← HN.out]; exact hs)
      have hr64 : wide L s (nodesL s) < 2 ^ n := wide_lt hs _ (fun u hu => by
        have h5 := HL2.out u (by have h7 := bit_lt hs (nodes_mem.1 hu).2; have := HN.out; omega)
        rw [← HN.out] at h5
        exact h5)
      have hge := wide_ge L s (nodesL s)
      have heq := fun (he : wide L s (nodesL s) = s) => reached_eq (by have := HN.out; omega) (by have := HN.out; omega) HL2.out hli.out.1 hli.out.2 he
      obtain ⟨r, er⟩ : ∃ r, r = wide L s (nodesL s) := ⟨_, rfl⟩
      rw [← er] at d1 hli2 hr64 hge heq
      have hn64 := two_le h6
      have z1 := d1.cell
      have HM := Lib.hid hm2
      have HLI := Lib.hid hli2
      have HEQ := Lib.hid heq
      have D0 := Lib.hid d0
      clear hm hm2 hli2 heq er d0 d1 hS hK
      by_cases hrs : r = s
      · have e : ((r : Int) == (s : Int)) = true := by simp [hrs]
        have hts := HEQ.out hrs
        have HTS := Lib.hid hts
        clear hrs hts
        gi_wp2
        refine leaves_marks (w := w) hle (fun W2 hb2 => ?_) (D :: Ds) _ _ HM.out hB
        refine ⟨_, results_tmp rfl _ _ _, ?_⟩
        refine ⟨?_, by rw [← EN.out]; exact hb2⟩
        rw [HN.out, ← HTS.out]
        rfl
      · have e : ((r : Int) == (s : Int)) = false := by simp; omega
        gi_wp2
        refine ⟨⟨r, D :: Ds, _, _, _, _, _, _, _, _, _, _, _, _, _, _, _, _, _, rfl, hr64, HLI, D0.out, HM, hB⟩, ?_⟩
        simp [intOf]
        omega
    case stop =>
      rintro D cd pre Z _ _ h _
      exact h.elim

end Go.Proofs.YtjkepoalepmjoaaDoor

/- The law FnExactGraphLinked returns true at each list, and leaves all that was there as it was. -/



namespace Go.Proofs.YtjkepoalepmjoaaDoor
open Go.RowKit
set_option linter.unusedVariables false


set_option maxHeartbeats 1000000 in
theorem linked_any (A : Option Addr) (c : Nat) (L : List Int) (hg : IsGraph L) (w : World) (h : Seen w A L) (hT : Tab w) :
    Calls Tryd.prog 62 #[.slice A L.length c] w (Said1 w (decide (turns L L.length = 2 ^ L.length - 1))) := by
  have h6 := hg.2.1
  have hp := two_pos L.length
  obtain ⟨Q, hQ⟩ : ∃ Q, Q + 1 = 2 ^ L.length := ⟨2 ^ L.length - 1, by omega⟩
  have hQ2 : 2 ^ L.length - 1 = Q := by omega
  have H1 := Lib.hid (callsIn_wide.1 (implReached_in A c L hg w h hT))
  have H2 := Lib.hid (fun w => all_any A L.length c Q h6 hQ w)
  obtain ⟨q, eq⟩ : ∃ q, q = turns L L.length := ⟨_, rfl⟩
  rw [hQ2, ← eq]
  rw [← eq] at H1
  have e1 : ((q : Int) == (Q : Int)) = decide (q = Q) := by rw [Bool.eq_iff_iff]; simp; omega
  clear hg h hT hQ hQ2 eq hp
  go_enter Tryd.func62, Tryd.ntmps62
  go_wp2_with fail
  refine H1.out.mono ?_
  rintro e w1 ⟨rfl, b1⟩
  go_wp2_with fail
  refine (H2.out _).mono ?_
  rintro e w2 ⟨rfl, rfl⟩
  go_wp2
  go_ret
  exact ⟨rfl, b1⟩

set_option maxHeartbeats 1000000 in
theorem implLinked_no (B : Nat) (v : Value) (L : List Int) (hL : ¬ IsGraph L) (w : World) (h : Row w B v L) (hT : Tab w) :
    Calls Tryd.prog 31 #[v] w (Said1 w false) := by
  have H1 := Lib.hid (asG_none B v L hL w h hT)
  clear hL h
  go_enter Tryd.func31, Tryd.ntmps31
  go_wp2_with fail
  refine H1.out.mono ?_
  rintro e w1 ⟨rfl, b1⟩
  go_wp2
  go_ret
  exact ⟨rfl, b1⟩
set_option maxHeartbeats 1000000 in
theorem implLinked_yes (B : Nat) (v : Value) (L : List Int) (hL : IsGraph L) (w : World) (h : Row w B v L) (hT : Tab w) :
    Calls Tryd.prog 31 #[v] w (Said1 w (decide (turns L L.length = 2 ^ L.length - 1))) := by
  have h2 := hT.lt
  have H1 := Lib.hid (asG_graph B v L hL w h hT)
  obtain ⟨A, c, rfl, hs⟩ := h.seen
  have HS := Lib.hid hs
  have HT := Lib.hid hT
  have H2 := Lib.hid (fun w h ht => linked_any A c L hL w h ht)
  obtain ⟨b, eb⟩ : ∃ b, b = decide (turns L L.length = 2 ^ L.length - 1) := ⟨_, rfl⟩
  rw [← eb] at H2 ⊢
  clear hL h hs hT eb
  go_enter Tryd.func31, Tryd.ntmps31
  go_wp2_with fail
  refine H1.out.mono ?_
  rintro e w1 ⟨rfl, b1⟩
  go_wp2_with fail
  refine (H2.out w1 (HS.out.below b1) (HT.out.below b1 (by omega))).mono ?_
  rintro e w2 ⟨rfl, b3⟩
  go_wp2
  go_ret
  exact ⟨rfl, b1.trans (b3.mono b1.size)⟩
theorem implLinked_any (B : Nat) (v : Value) (L : List Int) (b : Bool) (hb : b = true ↔ IsLinked L) (w : World) (h : Row w B v L) (hT : Tab w) :
    Calls Tryd.prog 31 #[v] w (Said1 w b) := by
  by_cases hL : IsGraph L
  · have e : decide (turns L L.length = 2 ^ L.length - 1) = b := by
      rw [Bool.eq_iff_iff, hb, decide_eq_true_eq]
      exact ⟨fun h => ⟨hL, h⟩, fun h => h.2⟩
    rw [← e]
    exact implLinked_yes B v L hL w h hT
  · have e : b = false := by
      cases b
      · rfl
      · exact absurd (hb.1 rfl).1 hL
    rw [e]
    exact implLinked_no B v L hL w h hT
end Go.Proofs.YtjkepoalepmjoaaDoor

/- A set less another one. -/


namespace Go.Proofs.YtjkepoalepmjoaaDoor
open Go Go.RowKit

/-- The nodes of one set that are none of the other one's. -/
def less (a b : Nat) : Nat := a &&& (18446744073709551615 - b)
theorem less_le (a b : Nat) : less a b ≤ a := Nat.and_le_left
theorem less_op (a b : Nat) (ha : a < 1048576) (hb : b < 1048576) : bits .andNot .i64 (a : Int) (b : Int) = ((less a b : Nat) : Int) := i64_andNot_nat a b (by omega) (by omega)
end Go.Proofs.YtjkepoalepmjoaaDoor

/- The other graph: by the model, of a list that is a graph. -/






namespace Go.Proofs.YtjkepoalepmjoaaDoor
open Go.RowKit Go.Shelf
set_option linter.unusedVariables false
set_option maxRecDepth 100000

/-- The other neighbours of a node. -/
def oth (L : List Int) (k : Nat) : Nat := less (less (2 ^ L.length - 1) (ent L k)) (2 ^ k)
def otherL (L : List Int) (k : Nat) : List Int := (List.range k).map fun i => ((oth L i : Nat) : Int)
theorem otherL_zero (L : List Int) : otherL L 0 = [] := rfl
theorem otherL_succ (L : List Int) (k : Nat) : otherL L (k + 1) = otherL L k ++ [((oth L k : Nat) : Int)] := by simp [otherL, List.range_succ]
theorem otherL_length (L : List Int) (k : Nat) : (otherL L k).length = k := by simp [otherL]

/-- What the operations yield at one node. -/
theorem oth_step {L : List Int} (hg : IsGraph L) {k : Nat} (hk : k < L.length) : ∃ X P Q p y z : Nat, L[k]?.getD 0 = (X : Int) ∧ X < 64 ∧ Q + 1 = 2 ^ L.length ∧ (wrap64 ((2 : Int) ^ L.length) = (P : Int) ∧ IntKind.i64.wrap ((2 : Int) ^ L.length) = (P : Int) ∧ (P : Int) - 1 = (Q : Int) ∧ IntKind.i64.wrap ((P : Int) - 1) = (Q : Int) ∧ IntKind.i64.wrap (Q : Int) = (Q : Int)) ∧
    (wrap64 ((2 : Int) ^ k) = (p : Int) ∧ IntKind.i64.wrap ((2 : Int) ^ k) = (p : Int)) ∧ bits .andNot .i64 (Q : Int) (X : Int) = (y : Int) ∧ bits .andNot .i64 (y : Int) (p : Int) = (z : Int) ∧ z = oth L k := by
  have h6 := hg.2.1
  have hin := (hg.2.2 k hk).1
  have hX := ent_int hin
  have hXl := ent_lt hin
  have h64 := two_le h6
  have hX64 : ent L k < 64 := by omega
  have hk6 : k ≤ 6 := by omega
  clear hin hXl h64 hk
  obtain ⟨P, Q, hP, hQ, hP64, pf⟩ := shl_facts L.length h6
  have HPF := Lib.hid pf
  clear pf
  have hQ64 : Q < 64 := by omega
  have hQ2 : Q + 1 = 2 ^ L.length := by omega
  obtain ⟨P2, Q2, hP2, hQ22, hP264, qf⟩ := shl_facts k hk6
  have HQF := Lib.hid qf
  clear qf
  have f1 := less_op Q (ent L k) (Nat.lt_trans hQ64 (by decide)) (Nat.lt_trans hX64 (by decide))
  have hy : less Q (ent L k) < 64 := Nat.lt_of_le_of_lt (less_le Q (ent L k)) hQ64
  have f2 := less_op (less Q (ent L k)) P2 (Nat.lt_trans hy (by decide)) (Nat.lt_of_le_of_lt hP264 (by decide))
  have e : 2 ^ L.length - 1 = Q := by rw [← hQ2]; rfl
  obtain ⟨p1, p2, p3, p4, p5⟩ := HPF.out
  obtain ⟨q1, q2, _, _, _⟩ := HQF.out
  refine ⟨ent L k, P, Q, P2, less Q (ent L k), less (less Q (ent L k)) P2, hX, hX64, hQ2, ⟨p1, p2, p3, p4, p5⟩, ⟨q1, q2⟩, f1, f2, ?_⟩
  unfold oth
  rw [e, ← hP2]

set_option maxHeartbeats 1000000 in
theorem specOther_seen (A : Option Addr) (c : Nat) (L : List Int) (hg : IsGraph L) (w : World) (h : Seen w A L) :
    Calls Tryd.prog 61 #[.slice A L.length c] w (Gave w (otherL L L.length)) := by
  have h1 := hg.1
  have h6 := hg.2.1
  obtain ⟨n, hn⟩ : ∃ n, n = L.length := ⟨_, rfl⟩
  rw [← hn] at h1 h6 ⊢
  have HN := Lib.hid hn
  have H := Lib.hid h
  have HG := Lib.hid hg
  have R0 := Lib.hid (World.ownsRow_lit (base := w.heap.size) (e := 3) (size := 1) w #[] 0 (Nat.le_refl _) (by unfold maxLen; omega) rfl)
  have B0 := Lib.hid ((Below.refl w.heap.size w).alloc (Nat.le_refl _) (.cells #[] 3))
  clear h hg hn
  go_enter Tryd.func61, Tryd.ntmps61
  go_wp2
  go_loopw [3, 4] (fun v i wr => ∃ k : Nat, k ≤ n ∧ i = .int .i64 k ∧ Hid (Row wr w.heap.size v (otherL L k)) ∧ Hid (Below w.heap.size w wr)) (fun _ i _ => n - (intOf i).toNat)
  case atStart => exact ⟨0, Nat.zero_le _, rfl, R0, B0⟩
  case round =>
    obtain ⟨k, hk, rfl, hr, hb⟩ := hrel
    by_cases hlt : k < n
    · obtain ⟨blk, off, rfl, hbl, hc⟩ := H.out k (by have := HN.out; omega)
      have hi1 : (0 : Int) ≤ (k : Int) ∧ (k : Int) < (n : Int) := by omega
      have hlen1 : (otherL L k).length ≤ 100000 := by rw [otherL_length]; omega
      obtain ⟨X, P, Q, p, y, z, eX, hX64, hQ, ⟨p1, p2, p3, p4, p5⟩, ⟨q1, q2⟩, f1, f2, ez⟩ := oth_step HG.out (show k < L.length by have := HN.out; omega)
      rw [eX] at hc
      rw [← HN.out] at p1 p2 hQ
      have hcw : wr.cell? ⟨blk, off + k, none⟩ = some (.int .i64 X) := (hb.out.cell (p := ⟨blk, off + k, none⟩) hbl).trans hc
      have EZ := Lib.hid ez
      clear hc hbl eX ez hQ
      have hr2 : Row wr.drew w.heap.size u3 (otherL L k) := hr.out
      have hb2 : Below w.heap.size w wr.drew := hb.out.drew
      have HR2 := Lib.hid hr2
      have HB2 := Lib.hid hb2
      have hu : ∃ A' c', u3 = .slice A' k c' := by
        obtain ⟨A', c', e, _⟩ := hr.out.see
        exact ⟨A', c', by rw [e, otherL_length]⟩
      have HLN := Lib.hid hlen1
      clear hr2 hb2 hr hb hlen1
      go_wp2
      go_region_law (refine step_one rfl (.tmp 12) (.tmp 25) rfl wr.drew w.heap.size u3 (otherL L k) (z : Int) (by simp [Act.eval]) (by simp [Act.eval]) HR2.out HB2.out.size HLN.out ?_; intro v' w' hr' hb')
      all_goals
        clear f1 f2 p1 p2 p3 p4 p5 q1 q2 hcw
        go_wp2
        go_roundw
        case rel => exact ⟨k + 1, by omega, by go_num, Lib.hid (by rw [otherL_succ, ← EZ.out]; exact hr'.out), Lib.hid (HB2.out.trans hb'.out)⟩
        case measure => simp [intOf]; omega
    · have hkn : k = n := by omega
      subst hkn
      go_wp2
      go_ret
      exact ⟨_, rfl, hr.out, hb.out⟩

end Go.Proofs.YtjkepoalepmjoaaDoor

/- The other graph: by the model, by the program. -/




namespace Go.Proofs.YtjkepoalepmjoaaDoor
open Go.RowKit Go.Shelf
set_option linter.unusedVariables false

theorem specGraphOther_yes (B : Nat) (v : Value) (L : List Int) (hg : IsGraph L) (w : World) (h : Row w B v L) :
    Calls Tryd.prog 30 #[v] w (Told w (otherL L L.length) true) := by
  have H1 := Lib.hid (specIn_any B v L true ⟨fun _ => hg, fun _ => rfl⟩ w h)
  obtain ⟨A, c, rfl, hs⟩ := h.seen
  have H2 := Lib.hid (fun w hs => specOther_seen A c L hg w hs)
  clear hg h
  go_enter Tryd.func30, Tryd.ntmps30
  go_wp2_with fail
  refine H1.out.mono ?_
  rintro e w1 ⟨rfl, d, rfl⟩
  go_wp2_with fail
  refine (H2.out (w.drewN d) hs).mono ?_
  rintro e w2 ⟨u, rfl, hr, hb⟩
  go_wp2
  go_ret2
  exact ⟨_, rfl, hr, (below_drewN (Below.refl _ w) d).trans hb⟩
theorem specGraphOther_no (B : Nat) (v : Value) (L : List Int) (hg : ¬ IsGraph L) (w : World) (h : Row w B v L) :
    Calls Tryd.prog 30 #[v] w (Told w [] false) := by
  have H1 := Lib.hid (specIn_any B v L false ⟨fun h => (by cases h), fun h => absurd h hg⟩ w h)
  clear hg h
  go_enter Tryd.func30, Tryd.ntmps30
  go_wp2_with fail
  refine H1.out.mono ?_
  rintro e w1 ⟨rfl, d, rfl⟩
  go_wp2
  go_ret2
  exact ⟨_, rfl, World.ownsRow_lit (base := w.heap.size) (e := 3) (size := 1) (w.drewN d) #[] 0 (Nat.le_refl _) (by unfold maxLen; omega) rfl, (below_drewN (Below.refl _ w) d).alloc (Nat.le_refl _) _⟩
end Go.Proofs.YtjkepoalepmjoaaDoor

/- The program's other graph, of a list that is a graph. -/



namespace Go.Proofs.YtjkepoalepmjoaaDoor
open Go.RowKit Go.Shelf
attribute [local go_sem] Oper.semAt_some
set_option linter.unusedVariables false
set_option maxRecDepth 100000

/-- Some places set. -/
def osets (L : List Int) (ps : List Nat) : List Nat := ps.foldl (fun acc v => acc.set v (oth L v)) (List.replicate L.length 0)
theorem osets_snoc (L : List Int) (ps : List Nat) (v : Nat) : osets L (ps ++ [v]) = (osets L ps).set v (oth L v) := by simp [osets]
theorem osets_length (L : List Int) (ps : List Nat) : (osets L ps).length = L.length := by
  induction ps using snoc_ind with
  | h0 => simp [osets]
  | h1 l x ih => rw [osets_snoc, List.length_set, ih]
theorem osets_range (L : List Int) (k : Nat) (hk : k ≤ L.length) : osets L (List.range k) = (List.range k).map (oth L) ++ List.replicate (L.length - k) 0 := by
  induction k with
  | zero => simp [osets]
  | succ k ih =>
    rw [List.range_succ, osets_snoc, ih (by omega)]
    have hl : ((List.range k).map (oth L)).length = k := by simp
    have e : L.length - k = (L.length - (k + 1)) + 1 := by omega
    rw [List.set_append_right _ _ (by omega), hl, Nat.sub_self, e, List.replicate_succ, List.set_cons_zero]
    simp
theorem osets_all (L : List Int) : ints (osets L (List.range L.length)) = otherL L L.length := by
  rw [osets_range L L.length (Nat.le_refl _), Nat.sub_self, List.replicate_zero, List.append_nil]
  unfold ints otherL
  rw [List.map_map]
  rfl
def OthI (n₀ g n : Nat) (S : Value) (L : List Int) (Q : Nat) (pre : List (Nd n Q)) (W : World) : Prop :=
  Boxed W n₀ 40 S ∧ Boxed W (n₀ + 1 + 1) 40 (.slice (some ⟨g, 0, none⟩) n n) ∧ Row W n₀ (.slice (some ⟨g, 0, none⟩) n n) (ints (osets L (valsN pre)))
theorem othI_own (n₀ g n : Nat) (S : Value) (L : List Int) (Q : Nat) : Own (OthI n₀ g n S L Q) := fun s X Y row hs hg hr =>
  ⟨boxed_own _ _ (fun _ : Unit => _) () X Y row hs.1 hg hr, boxed_own _ _ (fun _ : Unit => _) () X Y row hs.2.1 hg hr, row_kept hs.2.2 hg hr⟩

set_option maxRecDepth 100000 in
set_option maxHeartbeats 2000000 in
theorem implOther_in (A : Option Addr) (c : Nat) (L : List Int) (hg : IsGraph L) (w : World) (h : Seen w A L) (hT : Tab w) :
    CallsIn Fence.wide 6 Tryd.prog 55 #[.slice A L.length c] w (Gave w (otherL L L.length)) := by
  have h1 := hg.1
  have h6 := hg.2.1
  obtain ⟨blk, off, hA0, hbl0, _⟩ := h 0 (by omega)
  obtain ⟨n, hn⟩ : ∃ n, n = L.length := ⟨_, rfl⟩
  have hp := two_pos n
  obtain ⟨Q, hQ⟩ : ∃ Q, Q + 1 = 2 ^ n := ⟨2 ^ n - 1, by omega⟩
  have hmk := run_make_graph n (by omega)
  have hms : ∀ x, (madeW x n).heap.size = x.heap.size + 1 := fun x => madeW_size x n
  rw [← hn] at h1 h6 ⊢
  subst hA0
  have X0 : Boxed (madeW (w.alloc (.cells #[.slice (some ⟨blk, off, none⟩) n c] 40)) n) w.heap.size 40 (.slice (some ⟨blk, off, none⟩) n c) := (Boxed.new w _ _).alloc _
  have x0 := X0.cell
  have HN := Lib.hid hn
  have H := Lib.hid h
  have HG := Lib.hid hg
  have HQ := Lib.hid hQ
  have TB := Lib.hid hT
  clear h hg hn hQ hT hp
  refine callsIn_of_wp_marks Tryd.func55 rfl trivial ?_ rfl
  simp only [Tryd.ntmps55, List.size_toArray, List.length_cons, List.length_nil, Nat.reduceAdd, Nat.reduceSub, Array.replicate_succ, Array.replicate_zero, List.push_toArray, List.append_toArray, List.nil_append, List.cons_append]
  gi_wp2_with (refine ⟨trivial, ?_⟩; gi_at_call 79; refine (callsIn_wide.2 (nodes_any _ n c Q h6 HQ.out _)).mono ?_; rintro e w' ⟨rfl, rfl⟩)
  have R0 := madeW_row (w.alloc (.cells #[.slice (some ⟨blk, off, none⟩) n c] 40)) n (by omega)
  have M0 := madeW_below (w.alloc (.cells #[.slice (some ⟨blk, off, none⟩) n c] 40)) n
  have S0 := hms (w.alloc (.cells #[.slice (some ⟨blk, off, none⟩) n c] 40))
  clear hmk hms x0
  obtain ⟨w1, e1⟩ : ∃ w1, w1 = madeW (w.alloc (.cells #[.slice (some ⟨blk, off, none⟩) n c] 40)) n := ⟨_, rfl⟩
  rw [← e1] at R0 M0 S0 X0 ⊢
  rw [World.size_alloc] at R0 M0 S0
  have hB1 : Below w.heap.size w w1 := ((Below.refl _ w).alloc (Nat.le_refl _) _).trans (M0.mono (by omega))
  clear e1
  obtain ⟨W, eW⟩ : ∃ W, W = (w1.alloc (.cells #[.slice (some ⟨w.heap.size + 1, 0, none⟩) n n] 40)).alloc (.cells #[.int .i64 (Q : Nat)] 3) := ⟨_, rfl⟩
  have sW : W.heap.size = w.heap.size + 1 + 1 + 1 + 1 := by rw [eW]; simp [S0]
  have hBW : Below w.heap.size w W := by rw [eW]; exact (hB1.alloc (by omega) _).alloc (by simp; omega) _
  have b0 : Boxed W w.heap.size 40 (.slice (some ⟨blk, off, none⟩) n c) := by rw [eW]; exact (X0.alloc _).alloc _
  have b2 : Boxed W (w.heap.size + 1 + 1) 40 (.slice (some ⟨w.heap.size + 1, 0, none⟩) n n) := by
    rw [eW]; have h := Boxed.new w1 40 (.slice (some ⟨w.heap.size + 1, 0, none⟩) n n); rw [S0] at h; exact h.alloc _
  have b4 : W.cell? ⟨w.heap.size + 1 + 1 + 1, 0, none⟩ = some (.int .i64 (Q : Nat)) := by
    rw [eW]; have h := Boxed.new (w1.alloc (.cells #[.slice (some ⟨w.heap.size + 1, 0, none⟩) n n] 40)) 3 (.int .i64 (Q : Nat)); rw [World.size_alloc, S0] at h; exact h.cell
  have r0 : Row W w.heap.size (.slice (some ⟨w.heap.size + 1, 0, none⟩) n n) (ints (List.replicate n 0)) := by
    rw [eW]; exact (((R0.mono (by omega)).alloc _).alloc _)
  rw [← eW]
  clear eW S0 X0 R0 M0 hB1
  obtain ⟨n₀, en⟩ : ∃ n₀, n₀ = w.heap.size := ⟨_, rfl⟩
  have h2 : 2 ≤ n₀ := by have := TB.out.lt; omega
  rw [← en] at sW hBW b0 b2 b4 r0 hbl0 ⊢
  have EN := Lib.hid en
  have SW := Lib.hid sW
  have hle : n₀ ≤ w.heap.size := by omega
  have hleW : n₀ + 1 + 1 + 1 < W.heap.size := by omega
  clear en sW
  have hQ2 : Q < 2 ^ n := by have := HQ.out; omega
  have hT1 : Tab W := TB.out.below hBW h2
  have r1 : Row W n₀ (.slice (some ⟨n₀ + 1, 0, none⟩) n n) (ints (osets L [])) := by rw [HN.out]; rw [HN.out] at r0; exact r0
  have hgn : n₀ + 1 < W.heap.size := by omega
  refine wpIn_rangeFunc_ownF (α := Nd n Q) rfl (by omega) (gf := 90) (lb := #[.pointer (some ⟨n₀ + 1 + 1 + 1, 0, none⟩)]) rfl trivial (enters_of Tryd.func90 (by kernel_rfl) rfl)
    (nodes_stops _ (n₀ + 1 + 1 + 1) n Q n₀ (by omega) h6 hQ2 W hleW b4 hT1 h2 (by omega)) belowK_t (belowK_b (by omega)) (Below.refl _ _) (fun _ => rfl)
    (fun pre W => OthI n₀ (n₀ + 1) n (.slice (some ⟨blk, off, none⟩) n c) L Q pre W ∧ Below n₀ w W) (fun _ _ _ => False)
    (OwnFrom.and (Own.from (othI_own _ _ _ _ _ _) _) (ownFrom_below hle (by omega))) (fun _ _ _ _ _ hs _ _ => hs)
    ⟨⟨b0, b2, r1⟩, hBW⟩
    (fun x => { tmps := #[.slice (some ⟨blk, off, none⟩) n c, .pointer (some ⟨n₀, 0, none⟩), .slice none 0 0, .pointer (some ⟨n₀ + 1 + 1, 0, none⟩), .int .i64 (x.1 : Int), .slice (some ⟨blk, off, none⟩) n c, .int .i64 n, .slice (some ⟨n₀ + 1, 0, none⟩) n n, .slice (some ⟨blk, off, none⟩) n c,
      .func (.func 90) #[] #[.pointer (some ⟨n₀ + 1 + 1 + 1, 0, none⟩)], .int .i64 (x.1 : Int), undef, undef, undef, undef, undef, undef, undef, undef, undef, undef, undef, undef, undef, undef], defers := [] }) ?assign ?body ?done ?stop
  case assign =>
    intro l x W K hK
    gi_wp2
    exact hK
  case body =>
    rintro l pre x Wr ⟨⟨c0, c2, hr⟩, hB⟩ hlen
    obtain ⟨v, hvn, hvq⟩ := x
    dsimp only at hvn ⊢
    have hvL : v < L.length := by have := HN.out; omega
    obtain ⟨blk1, off1, hA1, hbl1, hc1⟩ := H.out v hvL
    have e1 : blk = blk1 ∧ off = off1 := by injection hA1 with e; injection e with e1 e2; exact ⟨e1, e2⟩
    obtain ⟨rfl, rfl⟩ := e1
    obtain ⟨X, P, Q', p, y, z, eX, hX64, hQ', pf, qf, f1, f2, ez⟩ := oth_step HG.out hvL
    rw [eX] at hc1
    have hQQ : Q' = Q := by have := HQ.out; rw [← HN.out] at hQ'; omega
    subst hQQ
    have hcv : Wr.cell? ⟨blk, off + v, none⟩ = some (.int .i64 X) := (hB.cell (p := ⟨blk, off + v, none⟩) hbl0).trans hc1
    obtain ⟨q1, q2⟩ := qf
    have hlen2 : v < (ints (osets L (valsN pre))).length := by rw [ints_length, osets_length]; exact hvL
    obtain ⟨old, eo⟩ : ∃ old, old = (ints (osets L (valsN pre)))[v]?.getD 0 := ⟨_, rfl⟩
    have hgc : Wr.cell? ⟨n₀ + 1, v, none⟩ = some (.int .i64 old) := by rw [eo]; exact hr.cellAt v hlen2
    have hgf : Wr.frozen? ⟨n₀ + 1, v, none⟩ = false := hr.frozenAt v hlen2
    have rs := hr.set v hlen2 (z : Int)
    rw [ints_set] at rs
    have es : (osets L (valsN pre)).set v z = osets L (valsN (pre ++ [(⟨v, hvn, hvq⟩ : Nd n Q')])) := by rw [valsN_snoc, osets_snoc, ez]
    rw [es] at rs
    have RS := Lib.hid rs
    have HR := Lib.hid hr
    have C0 := Lib.hid c0
    have C2 := Lib.hid c2
    have z0 := c0.cell
    have z2 := c2.cell
    have hi1 : (0 : Int) ≤ (v : Int) ∧ (v : Int) < (n : Int) := by omega
    have hmx : Tryd.prog.follows .mixedOrders = true := by kernel_rfl
    clear c0 c2 hr rs es eo hlen2 eX ez pf hQ' hA1 hbl1 hc1 hvL
    have gk := grown_drew (grown_set (World.grownBy.refl Wr (some (n₀ + 1))) v (.int .i64 (z : Int)))
    have FIN := Lib.hid (show KeepsOthers Wr (Wr.setCell ⟨n₀ + 1, v, none⟩ (.int .i64 (z : Int))).drew ∧ Below n₀ Wr (Wr.setCell ⟨n₀ + 1, v, none⟩ (.int .i64 (z : Int))).drew ∧
      (OthI n₀ (n₀ + 1) n (.slice (some ⟨blk, off, none⟩) n c) L Q' (pre ++ [(⟨v, hvn, hvq⟩ : Nd n Q')]) (Wr.setCell ⟨n₀ + 1, v, none⟩ (.int .i64 (z : Int))).drew ∧ Below n₀ w (Wr.setCell ⟨n₀ + 1, v, none⟩ (.int .i64 (z : Int))).drew) from
      ⟨(KeepsOthers.setCell _ _ _).trans (KeepsOthers.drew _), ((Below.refl n₀ Wr).setCell (p := ⟨n₀ + 1, v, none⟩) (by show n₀ ≤ n₀ + 1; omega) _).drew,
        ⟨C0.out.kept gk (fun e => by injection e; omega), C2.out.kept gk (fun e => by injection e; omega), RS.out⟩, (hB.setCell (p := ⟨n₀ + 1, v, none⟩) (by show n₀ ≤ n₀ + 1; omega) _).drew⟩)
    have HAL := Lib.hid (fun w => all_any (some ⟨blk, off, none⟩) n c Q' h6 HQ.out w)
    clear gk
    obtain ⟨w2, ew2⟩ : ∃ w2, w2 = Wr.drew := ⟨_, rfl⟩
    have hgc2 : w2.cell? ⟨n₀ + 1, v, none⟩ = some (.int .i64 old) := by rw [ew2]; exact hgc
    have hgf2 : w2.frozen? ⟨n₀ + 1, v, none⟩ = false := by rw [ew2]; exact hgf
    have EW2 := Lib.hid ew2
    clear ew2
    gi_wp2
    refine wpIn_tail_round 13 (by kernel_rfl) (by kernel_rfl) (by kernel_rfl) ?_
    simp only [List.take_succ_cons, List.take_zero, List.drop_succ_cons, List.drop_zero]
    still_step
    still_step
    still_step
    still_call ((HAL.out _).mono fun e w' ⟨he, hw⟩ => ⟨he, hw.symm⟩)
    repeat still_step
    refine wpStill_nil ?_
    rw [← EW2.out]
    gi_wp2
    rw [EW2.out]
    exact FIN.out
  case done =>
    rintro D xs Wr hD hS ⟨⟨c0, c2, hr⟩, hB⟩ hK
    have z2 := c2.cell
    have HS := Lib.hid hS
    have HR := Lib.hid hr
    clear hS hr
    gi_wp2
    refine ⟨by simp, .inl ⟨_, _, rfl, run_takeDeferred hK, ?_⟩⟩
    refine ⟨_, results_tmp rfl _ _ _, ?_⟩
    refine ⟨_, rfl, ?_, ?_⟩
    · rw [← EN.out]
      have h0 := ownsRow_putObj HR.out (.deferred none) hK rfl
      have e : ints (osets L (valsN xs)) = otherL L n := by
        rw [HS.out]
        have e2 : Q = 2 ^ n - 1 := by have := HQ.out; omega
        have e3 := nodes_all ⟨n, by omega⟩
        dsimp only at e3
        rw [e2, e3, HN.out, osets_all]
      rw [e] at h0
      exact h0
    · rw [← EN.out]
      exact hB.trans (belowK_b (w := w) hle Wr D _ _ (by have := EN.out; omega) hK rfl rfl)
  case stop =>
    rintro D cd pre W _ _ h _
    exact h.elim
end Go.Proofs.YtjkepoalepmjoaaDoor

/- The program's other graph. -/


namespace Go.Proofs.YtjkepoalepmjoaaDoor
open Go.RowKit Go.Shelf
attribute [local go_sem] Oper.semAt_some
set_option linter.unusedVariables false


theorem implGraphOther_yes (B : Nat) (v : Value) (L : List Int) (hg : IsGraph L) (w : World) (h : Row w B v L) (hT : Tab w) :
    Calls Tryd.prog 21 #[v] w (Told w (otherL L L.length) true) := by
  have H1 := Lib.hid (asG_graph B v L hg w h hT)
  have h2 := hT.lt
  obtain ⟨A, c, rfl, hs⟩ := h.seen
  have H2 := Lib.hid (fun w hs ht => callsIn_wide.1 (implOther_in A c L hg w hs ht))
  clear hg h
  go_enter Tryd.func21, Tryd.ntmps21
  go_wp2_with fail
  go_enter Tryd.func54, Tryd.ntmps54
  go_wp2_with fail
  refine H1.out.mono ?_
  rintro e w1 ⟨rfl, b1⟩
  go_wp2_with fail
  refine (H2.out w1 (hs.below b1) (hT.below b1 (by omega))).mono ?_
  rintro e w2 ⟨u, rfl, hr, hb⟩
  go_wp2
  go_ret2
  exact ⟨_, rfl, hr.mono b1.size, b1.trans (hb.mono b1.size)⟩
theorem implGraphOther_no (B : Nat) (v : Value) (L : List Int) (hg : ¬ IsGraph L) (w : World) (h : Row w B v L) (hT : Tab w) :
    Calls Tryd.prog 21 #[v] w (Told w [] false) := by
  have H1 := Lib.hid (asG_none B v L hg w h hT)
  clear hg h
  go_enter Tryd.func21, Tryd.ntmps21
  go_wp2_with fail
  go_enter Tryd.func54, Tryd.ntmps54
  go_wp2_with fail
  refine H1.out.mono ?_
  rintro e w1 ⟨rfl, b1⟩
  go_wp2
  go_ret2
  exact ⟨_, rfl, World.ownsRow_nil w1 w.heap.size 3 1, b1⟩
end Go.Proofs.YtjkepoalepmjoaaDoor

/- The law FnExactGraphCode returns true at each list, and leaves all that was there as it was. -/


namespace Go.Proofs.YtjkepoalepmjoaaDoor
open Go.RowKit
set_option linter.unusedVariables false


theorem implGraphCode_yes (B : Nat) (v : Value) (L : List Int) (hg : IsGraph L) (w : World) (h : Row w B v L) (hT : Tab w) :
    Calls Tryd.prog 16 #[v] w (NumOk w (codeOf L) true) := by
  have H1 := Lib.hid (asG_graph B v L hg w h hT)
  obtain ⟨A, c, rfl, hs⟩ := h.seen
  have H2 := Lib.hid (fun w hs => callsIn_wide.1 (implCode_in A c L hg w hs))
  clear hg h
  go_enter Tryd.func16, Tryd.ntmps16
  go_wp2_with fail
  go_enter Tryd.func49, Tryd.ntmps49
  go_wp2_with fail
  refine H1.out.mono ?_
  rintro e w1 ⟨rfl, b1⟩
  go_wp2_with fail
  refine (H2.out _ (hs.below b1)).mono ?_
  rintro e w2 ⟨rfl, b2⟩
  go_wp2
  go_ret2
  exact ⟨rfl, b1.trans (b2.mono b1.size)⟩
theorem implGraphCode_no (B : Nat) (v : Value) (L : List Int) (hg : ¬ IsGraph L) (w : World) (h : Row w B v L) (hT : Tab w) :
    Calls Tryd.prog 16 #[v] w (NumOk w 0 false) := by
  have H1 := Lib.hid (asG_none B v L hg w h hT)
  clear hg h
  go_enter Tryd.func16, Tryd.ntmps16
  go_wp2_with fail
  go_enter Tryd.func49, Tryd.ntmps49
  go_wp2_with fail
  refine H1.out.mono ?_
  rintro e w1 ⟨rfl, b1⟩
  go_wp2
  go_ret2
  exact ⟨rfl, b1⟩
end Go.Proofs.YtjkepoalepmjoaaDoor

/- The law FnExactGraphIn returns true at each list, and leaves all that was there as it was. -/

namespace Go.Proofs.YtjkepoalepmjoaaDoor
open Go.RowKit
set_option linter.unusedVariables false


/-- The program's GraphIn. -/
theorem implIn_any (B : Nat) (v : Value) (L : List Int) (b : Bool) (hb : b = true ↔ IsGraph L) (w : World) (h : Row w B v L) (hT : Tab w) :
    Calls Tryd.prog 14 #[v] w (Said1 w b) := by
  cases b
  · have H := Lib.hid (asG_none B v L (fun hg => by have := hb.2 hg; cases this) w h hT)
    clear hb h hT
    go_enter Tryd.func14, Tryd.ntmps14
    go_wp2_with fail
    refine H.out.mono ?_
    rintro e w1 ⟨rfl, hbw⟩
    go_wp2
    go_ret
    exact ⟨rfl, hbw⟩
  · have H := Lib.hid (asG_graph B v L (hb.1 rfl) w h hT)
    clear hb h hT
    go_enter Tryd.func14, Tryd.ntmps14
    go_wp2_with fail
    refine H.out.mono ?_
    rintro e w1 ⟨rfl, hbw⟩
    go_wp2
    go_ret
    exact ⟨rfl, hbw⟩
end Go.Proofs.YtjkepoalepmjoaaDoor

/- The graph of some nodes: the model's way and the program's make one list. Plain mathematics, no condition. -/

namespace Go.Proofs.YtjkepoalepmjoaaDoor
open Go Go.RowKit
set_option linter.unusedVariables false

/-- The node at a place. -/
def at_ (ns : List Nat) (i : Nat) : Nat := ns[i]?.getD 0
theorem at_lt {ns : List Nat} {n : Nat} (h : ∀ x ∈ ns, x < n) {i : Nat} (hi : i < ns.length) : at_ ns i < n := by
  unfold at_
  rw [List.getElem?_eq_getElem hi]
  exact h _ (List.getElem_mem _)
theorem ints_at {ns : List Nat} {i : Nat} (hi : i < ns.length) : (ints ns)[i]?.getD 0 = ((at_ ns i : Nat) : Int) := by rw [ints_get]; rfl
/-- The model's row of a node: the places of its neighbours. -/
def rowTo (L : List Int) (ns : List Nat) (a k : Nat) : Nat := (List.range k).foldl (fun r j => r ||| bt L a (at_ ns j) * 2 ^ j) 0
theorem rowTo_zero (L : List Int) (ns : List Nat) (a : Nat) : rowTo L ns a 0 = 0 := rfl
theorem rowTo_succ (L : List Int) (ns : List Nat) (a k : Nat) : rowTo L ns a (k + 1) = rowTo L ns a k ||| bt L a (at_ ns k) * 2 ^ k := by simp [rowTo, List.range_succ]
theorem rowTo_bit (L : List Int) (ns : List Nat) (a k j : Nat) : (rowTo L ns a k).testBit j = true ↔ j < k ∧ bt L a (at_ ns j) = 1 := by
  induction k with
  | zero => simp [rowTo]
  | succ k ih =>
    rw [rowTo_succ, Nat.testBit_or, Bool.or_eq_true, ih, bit_test _ _ _ (bt_le _ _ _)]
    simp only [Bool.and_eq_true, decide_eq_true_eq]
    constructor
    · rintro (⟨h1, h2⟩ | ⟨h1, h2⟩)
      · exact ⟨by omega, h2⟩
      · subst h2; exact ⟨by omega, h1⟩
    · rintro ⟨h1, h2⟩
      by_cases h : j = k
      · subst h; exact .inr ⟨h2, rfl⟩
      · exact .inl ⟨by omega, h2⟩
theorem rowTo_lt (L : List Int) (ns : List Nat) (a k : Nat) (hk : k ≤ 6) : rowTo L ns a k < 2 ^ 6 := by
  induction k with
  | zero => show 0 < 2 ^ 6; decide
  | succ k ih => rw [rowTo_succ]; exact Nat.or_lt_two_pow (ih (by omega)) (bit_shift (bt_le _ _ _) (by omega))
/-- The model's list, and its first rows. -/
def partTo (L : List Int) (ns : List Nat) (i : Nat) : List Nat := (List.range i).map fun x => rowTo L ns (at_ ns x) ns.length
theorem partTo_zero (L : List Int) (ns : List Nat) : partTo L ns 0 = [] := rfl
theorem partTo_succ (L : List Int) (ns : List Nat) (i : Nat) : partTo L ns (i + 1) = partTo L ns i ++ [rowTo L ns (at_ ns i) ns.length] := by simp [partTo, List.range_succ]
theorem partTo_length (L : List Int) (ns : List Nat) (i : Nat) : (partTo L ns i).length = i := by simp [partTo]
theorem partTo_bit (L : List Int) (ns : List Nat) (i j : Nat) : ((partTo L ns ns.length)[i]?.getD 0).testBit j = true ↔ i < ns.length ∧ j < ns.length ∧ bt L (at_ ns i) (at_ ns j) = 1 := by
  by_cases h : i < ns.length
  · have e : (partTo L ns ns.length)[i]?.getD 0 = rowTo L ns (at_ ns i) ns.length := by simp [partTo, h]
    rw [e, rowTo_bit]
    simp [h]
  · have e : (partTo L ns ns.length)[i]?.getD 0 = 0 := by simp [partTo, h]
    rw [e]
    simp [h]

/-- The program's edges among the nodes kept. -/
def keptIn (L : List Int) (ns : List Nat) (ps : List (Nat × Nat)) : List (Nat × Nat) := ps.filter fun e => bt L (at_ ns e.1) (at_ ns e.2) == 1
theorem keptIn_snoc (L : List Int) (ns : List Nat) (ps : List (Nat × Nat)) (e : Nat × Nat) : keptIn L ns (ps ++ [e]) = keptIn L ns ps ++ (if bt L (at_ ns e.1) (at_ ns e.2) = 1 then [e] else []) := by
  unfold keptIn
  rw [List.filter_append]
  by_cases h : bt L (at_ ns e.1) (at_ ns e.2) = 1 <;> simp [h]
theorem part_eq (L : List Int) (hg : IsGraph L) (ns : List Nat) (hns : ∀ x ∈ ns, x < L.length) : partTo L ns ns.length = lrun ns.length id (keptIn L ns (rows ns.length)) := by
  have hat : ∀ i, i < ns.length → at_ ns i < L.length := fun i hi => by
    unfold at_
    rw [List.getElem?_eq_getElem hi]
    exact hns _ (List.getElem_mem _)
  have sym : ∀ a b, a < L.length → b < L.length → bt L a b = bt L b a := fun a b ha hb => by
    rcases Nat.lt_trichotomy a b with h | h | h
    · exact ((hg.2.2 b hb).2.2 a h).symm
    · rw [h]
    · exact (hg.2.2 a ha).2.2 b h
  refine list_bits (by rw [partTo_length, lrun_length]) fun i j => ?_
  rw [partTo_bit, lrun_bit ns.length id (fun v hv => hv)]
  · constructor
    · rintro ⟨hi, hj, hb⟩
      rcases Nat.lt_trichotomy i j with h | h | h
      · exact ⟨(i, j), by unfold keptIn; rw [List.mem_filter]; exact ⟨(rows_all _ _ _).2 ⟨h, hj⟩, by simpa using hb⟩, .inl ⟨rfl, rfl⟩⟩
      · subst h
        have := (hg.2.2 _ (hat i hi)).2.1
        omega
      · exact ⟨(j, i), by unfold keptIn; rw [List.mem_filter]; exact ⟨(rows_all _ _ _).2 ⟨h, hi⟩, by simpa using (sym _ _ (hat j hj) (hat i hi)).trans hb⟩, .inr ⟨rfl, rfl⟩⟩
    · rintro ⟨⟨a, b⟩, he, h⟩
      unfold keptIn at he
      rw [List.mem_filter] at he
      obtain ⟨he, hb⟩ := he
      obtain ⟨h1, h2⟩ := (rows_all _ _ _).1 he
      have hb1 : bt L (at_ ns a) (at_ ns b) = 1 := by simpa using hb
      rcases h with ⟨hi, hj⟩ | ⟨hi, hj⟩
      · have hi : i = a := hi
        have hj : j = b := hj
        subst hi; subst hj
        exact ⟨by omega, h2, hb1⟩
      · have hi : i = b := hi
        have hj : j = a := hj
        subst hi; subst hj
        exact ⟨h2, by omega, (sym _ _ (hat _ h2) (hat _ (by omega))).trans hb1⟩
  · intro e he
    unfold keptIn at he
    rw [List.mem_filter] at he
    have := rows_mem _ _ he.1
    omega
theorem lrun_lt (n : Nat) (p : Nat → Nat) (es : List (Nat × Nat)) (h : ∀ e ∈ es, p e.1 < 6 ∧ p e.2 < 6) : ∀ x ∈ lrun n p es, x < 2 ^ 6 := by
  induction es using snoc_ind with
  | h0 => intro x hx; simp [lrun] at hx; omega
  | h1 l x ih =>
    rw [lrun_snoc]
    exact lnk_lt (ih (fun e he => h e (by simp [he]))) _ _ _ (h x (by simp)).1 (h x (by simp)).2 (Nat.le_refl 1)
end Go.Proofs.YtjkepoalepmjoaaDoor

/- The model's l1Part. -/






namespace Go.Proofs.YtjkepoalepmjoaaDoor
open Go.RowKit
set_option linter.unusedVariables false
set_option maxRecDepth 100000

def upN (s k : Nat) : List Nat := (List.range k).filter fun i => s / 2 ^ i % 2 == 1
theorem upN_zero (s : Nat) : upN s 0 = [] := rfl
theorem upN_succ (s k : Nat) : upN s (k + 1) = upN s k ++ (if s / 2 ^ k % 2 = 1 then [k] else []) := by
  unfold upN
  rw [List.range_succ, List.filter_append]
  by_cases h : s / 2 ^ k % 2 = 1 <;> simp [h]
theorem upN_length (s k : Nat) : (upN s k).length ≤ k := by
  have := List.length_filter_le (fun i => s / 2 ^ i % 2 == 1) (List.range k)
  simpa [upN] using this
theorem upN_all : ∀ (n : Fin 7) (s : Fin 64), s.val < 2 ^ n.val → upN s.val n.val = nodesL s.val := by decide +kernel
theorem nodes_lt {s n : Nat} (hs : s < 2 ^ n) : ∀ x ∈ nodesL s, x < n := fun x hx => bit_lt hs (nodes_mem.1 hx).2
/-- What one place's round asks. -/
theorem row_step {L : List Int} (hg : IsGraph L) {ns : List Nat} (hns : ∀ x ∈ ns, x < L.length) {i k : Nat} (h6 : ns.length ≤ 6) (hi : i < ns.length) (hk : k < ns.length) :
    ∃ a b X bit p q r : Nat, at_ ns i = a ∧ at_ ns k = b ∧ a < L.length ∧ b < L.length ∧ L[a]?.getD 0 = (X : Int) ∧ bits .and .i64 ((X : Int) / 2 ^ b) 1 = (bit : Int) ∧ (wrap64 ((bit : Int) * 2 ^ k) = (p : Int) ∧ IntKind.i64.wrap ((bit : Int) * 2 ^ k) = (p : Int)) ∧
      rowTo L ns (at_ ns i) k = r ∧ bits .or .i64 (r : Int) (p : Int) = (q : Int) ∧ rowTo L ns (at_ ns i) (k + 1) = q := by
  have ha := at_lt hns hi
  have hb := at_lt hns hk
  have hin := (hg.2.2 _ ha).1
  have hX := ent_int hin
  have hXl := ent_lt hin
  have h64 := two_le hg.2.1
  obtain ⟨bit, eb, hb1, f1⟩ := and_facts (ent L (at_ ns i)) (at_ ns k) (by omega)
  have e1 : bt L (at_ ns i) (at_ ns k) = bit := by unfold bt; exact eb.symm
  have hp6 := bit_pow (k := k) hb1 (by omega)
  have f2 := wrap_bit bit k _ hb1 (by omega) rfl
  have hr6 := rowTo_lt L ns (at_ ns i) k (by omega)
  have f3 := i64_or_nat (rowTo L ns (at_ ns i) k) (bit * 2 ^ k) (Nat.lt_trans hr6 (by decide)) (Nat.lt_trans hp6 (by decide))
  refine ⟨at_ ns i, at_ ns k, ent L (at_ ns i), bit, bit * 2 ^ k, _, rowTo L ns (at_ ns i) k, rfl, rfl, ha, hb, hX, f1, ⟨f2, by rw [IntKind.wrap_i64]; unfold wrap64 at f2; exact f2⟩, rfl, f3, ?_⟩
  rw [rowTo_succ, e1]

set_option maxHeartbeats 2000000 in
theorem specPart_seen (A : Option Addr) (c : Nat) (L : List Int) (hg : IsGraph L) (s : Nat) (hs : s < 2 ^ L.length) (w : World) (h : Seen w A L) :
    Calls Tryd.prog 73 #[.slice A L.length c, .int .i64 s] w (Gave w (ints (partTo L (nodesL s) (nodesL s).length))) := by
  have h1 := hg.1
  have h6 := hg.2.1
  have h64 := two_le h6
  have hall := upN_all ⟨L.length, by omega⟩ ⟨s, by omega⟩ hs
  dsimp only at hall
  have hnl := Lib.hid (nodes_lt hs)
  have hs64 : s < 64 := by omega
  obtain ⟨n, hn⟩ : ∃ n, n = L.length := ⟨_, rfl⟩
  rw [← hn] at h1 h6 hall ⊢
  have HN := Lib.hid hn
  have H := Lib.hid h
  have HG := Lib.hid hg
  have HA := Lib.hid hall
  have R0 := Lib.hid (World.ownsRow_lit (base := w.heap.size) (e := 3) (size := 1) w #[] 0 (Nat.le_refl _) (by unfold maxLen; omega) rfl)
  have B0 := Lib.hid ((Below.refl w.heap.size w).alloc (Nat.le_refl _) (.cells #[] 3))
  clear h hg hn hall hs h64
  go_enter Tryd.func73, Tryd.ntmps73
  go_wp2
  go_loopw [5, 6] (fun v i wr => ∃ k : Nat, k ≤ n ∧ i = .int .i64 k ∧ Hid (Row wr w.heap.size v (ints (upN s k))) ∧ Hid (Below w.heap.size w wr)) (fun _ i _ => n - (intOf i).toNat)
  case atStart => exact ⟨0, Nat.zero_le _, rfl, R0, B0⟩
  case round =>
    obtain ⟨k, hk, rfl, hr, hb⟩ := hrel
    by_cases hlt : k < n
    · obtain ⟨bit, eb, hb1, f1⟩ := and_facts s k (by omega)
      have hlen1 : (ints (upN s k)).length ≤ 100000 := by rw [ints_length]; have := upN_length s k; omega
      have hus := upN_succ s k
      rw [← eb] at hus
      have HU := Lib.hid hus
      have HLN := Lib.hid hlen1
      have HW := Lib.hid hb.out.size
      have hbit : bit = 0 ∨ bit = 1 := by omega
      clear hus hlen1 eb
      rcases hbit with rfl | rfl
      · go_wp2
        go_roundw
        case rel => exact ⟨k + 1, by omega, by go_num, Lib.hid (by rw [HU.out]; simpa using hr.out), hb⟩
        case measure => simp [intOf]; omega
      · go_wp2_with (at_builtin; refine append_one rfl (.tmp 23) (.tmp 25) rfl wr w.heap.size u5 (ints (upN s k)) (k : Int) rfl rfl hr.out HW.out HLN.out ?_; intro v' w' hr' hb')
        go_roundw
        case rel => exact ⟨k + 1, by omega, by go_num, Lib.hid (by rw [HU.out, if_pos rfl, show ints (upN s k ++ [k]) = ints (upN s k) ++ [(k : Int)] by simp [ints]]; exact hr'.out), Lib.hid (hb.out.trans hb'.out)⟩
        case measure => simp [intOf]; omega
    · have hkn : k = n := by omega
      subst hkn
      have hr1 := hr.out
      rw [HA.out] at hr1
      obtain ⟨An, cn, eu, hsn⟩ := hr1.seen
      rw [ints_length] at eu
      obtain ⟨ns, ens⟩ : ∃ ns, ns = nodesL s := ⟨_, rfl⟩
      rw [← ens] at eu hsn hnl ⊢
      have hm6 : ns.length ≤ 6 := by rw [ens]; exact nodes_length s
      obtain ⟨m, em⟩ : ∃ m, m = ns.length := ⟨_, rfl⟩
      rw [← em] at eu hm6 ⊢
      have EM := Lib.hid em
      have ENS := Lib.hid ens
      have SN := Lib.hid hsn
      subst eu
      have HB := Lib.hid hb.out
      obtain ⟨W1, eW1⟩ : ∃ W1 : World, W1 = wr := ⟨_, rfl⟩
      rw [← eW1] at HB SN ⊢
      have R1 := Lib.hid (World.ownsRow_lit (base := W1.heap.size) (e := 3) (size := 1) W1 #[] 0 (Nat.le_refl _) (by unfold maxLen; omega) rfl)
      have B1 := Lib.hid ((Below.refl W1.heap.size W1).alloc (Nat.le_refl _) (.cells #[] 3))
      clear hr hb hr1 hsn em ens eW1 HA R0 B0
      go_wp2
      go_loopw [7, 8] (fun v i wr => ∃ j : Nat, j ≤ m ∧ i = .int .i64 j ∧ Hid (Row wr W1.heap.size v (ints (partTo L ns j))) ∧ Hid (Below W1.heap.size W1 wr)) (fun _ i _ => m - (intOf i).toNat)
      case atStart => exact ⟨0, Nat.zero_le _, rfl, R1, B1⟩
      case round =>
        obtain ⟨j, hj, rfl, hr, hb⟩ := hrel
        by_cases hlj : j < m
        · go_wp2
          go_loopw [9, 10] (fun r i wr => ∃ q k : Nat, k ≤ m ∧ i = .int .i64 k ∧ r = .int .i64 q ∧ Hid (rowTo L ns (at_ ns j) k = q) ∧ Hid (Row wr W1.heap.size u7 (ints (partTo L ns j))) ∧ Hid (Below W1.heap.size W1 wr)) (fun _ i _ => m - (intOf i).toNat)
          case atStart => exact ⟨0, 0, Nat.zero_le _, rfl, rfl, Lib.hid rfl, hr, hb⟩
          case round =>
            obtain ⟨q, k2, hk2, rfl, rfl, hq, hr2, hb2⟩ := hrel
            by_cases hlk : k2 < m
            · obtain ⟨a, b, X, bit, p, q2, r, ea, eb, ha, hbb, eX, f1, ⟨f2, f2'⟩, er, f3, f4⟩ := row_step HG.out hnl.out (by have := EM.out; omega) (show j < ns.length by have := EM.out; omega) (show k2 < ns.length by have := EM.out; omega)
              have hqr : r = q := by rw [← er]; exact hq.out
              subst hqr
              obtain ⟨blk, off, rfl, hbl, hcL⟩ := H.out a ha
              obtain ⟨blk', off', rfl, hbl', hcP⟩ := SN.out j (by rw [ints_length]; have := EM.out; omega)
              obtain ⟨blk2, off2, e2b, hbl2, hcQ⟩ := SN.out k2 (by rw [ints_length]; have := EM.out; omega)
              obtain ⟨rfl, rfl⟩ : blk' = blk2 ∧ off' = off2 := by injection e2b with e; injection e with e1 e2; exact ⟨e1, e2⟩
              rw [eX] at hcL
              rw [ints_at (by have := EM.out; omega), ea] at hcP
              rw [ints_at (by have := EM.out; omega), eb] at hcQ
              have hLw : wr.cell? ⟨blk, off + a, none⟩ = some (.int .i64 X) := (hb2.out.cell (p := ⟨blk, off + a, none⟩) (Nat.lt_of_lt_of_le hbl HB.out.size)).trans ((HB.out.cell (p := ⟨blk, off + a, none⟩) hbl).trans hcL)
              have hPw : wr.cell? ⟨blk', off' + j, none⟩ = some (.int .i64 a) := (hb2.out.cell (p := ⟨blk', off' + j, none⟩) hbl').trans hcP
              have hQw : wr.cell? ⟨blk', off' + k2, none⟩ = some (.int .i64 b) := (hb2.out.cell (p := ⟨blk', off' + k2, none⟩) hbl').trans hcQ
              have hi1 : (0 : Int) ≤ (j : Int) ∧ (j : Int) < (m : Int) := by omega
              have hi2 : (0 : Int) ≤ (k2 : Int) ∧ (k2 : Int) < (m : Int) := by omega
              have hi3 : (0 : Int) ≤ (a : Int) ∧ (a : Int) < (k : Int) := by have := HN.out; omega
              have hb6 : b < 6 := by have := HG.out.2.1; omega
              have hk6 : k2 < 6 := by omega
              have F4 := Lib.hid f4
              have hr3 := Lib.hid (show Row wr.drew W1.heap.size u7 (ints (partTo L ns j)) from hr2.out)
              have hb3 := Lib.hid (show Below W1.heap.size W1 wr.drew from hb2.out.drew)
              clear hr2 hb2 hq er f4 ea eb ha hbb eX hbl hbl' hbl2 hcL hcP hcQ e2b
              go_wp2
              go_still (by kernel_rfl)
              go_wp2
              go_roundw
              case rel => exact ⟨q2, k2 + 1, by omega, by go_num, rfl, F4, hr3, hb3⟩
              case measure => simp [intOf]; omega
            · have hkm : k2 = m := by omega
              subst hkm
              have hlen1 : (ints (partTo L ns j)).length ≤ 100000 := by rw [ints_length, partTo_length]; omega
              have HLN := Lib.hid hlen1
              have HW := Lib.hid hb2.out.size
              have hps := partTo_succ L ns j
              rw [← EM.out, hq.out] at hps
              have HPS := Lib.hid (show ints (partTo L ns (j + 1)) = ints (partTo L ns j) ++ [(q : Int)] by rw [hps]; simp [ints])
              clear hps hlen1
              go_wp2_with (at_builtin; refine append_one rfl (.tmp 57) (.tmp 59) rfl wr W1.heap.size u7 (ints (partTo L ns j)) (q : Int) rfl rfl hr2.out HW.out HLN.out ?_; intro v' w' hr' hb')
              go_roundw
              case rel => exact ⟨j + 1, by omega, by go_num, Lib.hid (by rw [HPS.out]; exact hr'.out), Lib.hid (hb2.out.trans hb'.out)⟩
              case measure => simp [intOf]; omega
        · have hjm : j = m := by omega
          subst hjm
          go_wp2
          go_ret
          exact ⟨_, rfl, by have h0 := hr.out.mono HB.out.size; rw [EM.out, ENS.out] at h0; exact h0, HB.out.trans (hb.out.mono HB.out.size)⟩

end Go.Proofs.YtjkepoalepmjoaaDoor

/- The program's part, by a range over the pairs of the nodes kept. -/





namespace Go.Proofs.YtjkepoalepmjoaaDoor
open Go.RowKit Go.Shelf
attribute [local go_sem] Oper.semAt_some
set_option linter.unusedVariables false

/-- Between two rounds: the box of the nodes kept, the list's box; the list holds the edges that have come. -/
def PaI (M m : Nat) (K : Value) (L : List Int) (ns : List Nat) (pre : List (Pr m)) (W : World) : Prop :=
  Boxed W M 23 K ∧ Boxed W (M + 1 + 1) 40 (.slice (some ⟨M + 1, 0, none⟩) m m) ∧ Row W M (.slice (some ⟨M + 1, 0, none⟩) m m) (ints (lrun m id (keptIn L ns (vals pre))))
theorem paI_own (M m : Nat) (K : Value) (L : List Int) (ns : List Nat) : Own (PaI M m K L ns) := fun s X Y row hs hg hr =>
  ⟨boxed_own _ _ (fun _ : Unit => _) () X Y row hs.1 hg hr, boxed_own _ _ (fun _ : Unit => _) () X Y row hs.2.1 hg hr, row_kept hs.2.2 hg hr⟩

set_option maxRecDepth 100000 in
set_option maxHeartbeats 4000000 in
theorem implPart_in (A : Option Addr) (c : Nat) (L : List Int) (hg : IsGraph L) (s : Nat) (hs : s < 2 ^ L.length) (w : World) (h : Seen w A L) (hT : Tab w) :
    CallsIn Fence.wide 7 Tryd.prog 76 #[.slice A L.length c, .int .i64 s] w (Gave w (ints (lrun (nodesL s).length id (keptIn L (nodesL s) (rows (nodesL s).length))))) := by
  have h1 := hg.1
  have h6 := hg.2.1
  have h2 := hT.lt
  obtain ⟨blk, off, hA0, hbl0, _⟩ := h 0 (by omega)
  subst hA0
  have hnl := nodes_lt hs
  obtain ⟨n, hn⟩ : ∃ n, n = L.length := ⟨_, rfl⟩
  have hcol : Calls Tryd.prog 89 #[.func (.func 90) #[] #[.pointer (some ⟨w.heap.size + 1, 0, none⟩)]] ((w.alloc (.cells #[.slice (some ⟨blk, off, none⟩) n c] 40)).alloc (.cells #[.int .i64 s] 3)) (Gave ((w.alloc (.cells #[.slice (some ⟨blk, off, none⟩) n c] 40)).alloc (.cells #[.int .i64 s] 3)) (ints (nodesL s))) := by
    have hb := Boxed.new (w.alloc (.cells #[.slice (some ⟨blk, off, none⟩) n c] 40)) 3 (.int .i64 s)
    rw [World.size_alloc] at hb
    refine collect_any (w.heap.size + 1) L.length s h6 hs _ (by simp) hb.cell ?_
    exact (hT.below ((Below.refl w.heap.size w).alloc (Nat.le_refl _) _) (by omega)).below ((Below.refl w.heap.size _).alloc (by simp) _) (by omega)
  have HCOL := Lib.hid hcol
  obtain ⟨ns, ens⟩ : ∃ ns, ns = nodesL s := ⟨_, rfl⟩
  have hm6 : ns.length ≤ 6 := by rw [ens]; exact nodes_length s
  rw [← ens] at hnl HCOL ⊢
  obtain ⟨m, em⟩ : ∃ m, m = ns.length := ⟨_, rfl⟩
  rw [← em] at hm6 ⊢
  rw [← hn] at h1 h6 ⊢
  have hil : (ints ns).length = m := by rw [ints_length, em]
  have hmk := run_make_graph m (by omega)
  have hms : ∀ x, (madeW x m).heap.size = x.heap.size + 1 := fun x => madeW_size x m
  have HIL := Lib.hid hil
  have HN := Lib.hid hn
  have HEM := Lib.hid em
  have H := Lib.hid h
  have HG := Lib.hid hg
  have HNL := Lib.hid hnl
  clear h hg hn hs hT ens em hcol hil hnl
  refine callsIn_of_wp_marks Tryd.func76 rfl trivial ?_ rfl
  simp only [Tryd.ntmps76, List.size_toArray, List.length_cons, List.length_nil, Nat.reduceAdd, Nat.reduceSub, Array.replicate_succ, Array.replicate_zero, List.push_toArray, List.append_toArray, List.nil_append, List.cons_append]
  gi_wp2_with (first
    | (refine ⟨trivial, ?_⟩; gi_at_call 80; refine (callsIn_wide.2 (nodesIn_any s _)).mono ?_; rintro e w' ⟨rfl, rfl⟩)
    | (refine ⟨trivial, ?_⟩; gi_at_call 89; refine (callsIn_wide.2 HCOL.out).mono ?_; rintro e w2 ⟨kv, rfl, kr, kb⟩; obtain ⟨An, cn, rfl, hsn⟩ := kr.seen; rw [HIL.out]; have KB := Lib.hid kb; have SN := Lib.hid hsn; clear kr kb hsn
       have X0 : Boxed (madeW (w2.alloc (.cells #[.slice An m cn] 23)) m) w2.heap.size 23 (.slice An m cn) := (Boxed.new w2 23 (.slice An m cn)).alloc _
       have x0 : ∀ o, ((madeW (w2.alloc (.cells #[.slice An m cn] 23)) m).alloc o).cell? ⟨w2.heap.size, 0, none⟩ = some (.slice An m cn) := fun o => (X0.alloc o).cell)
    | (refine ⟨trivial, ?_⟩; gi_at_call 82; refine (callsIn_wide.2 (pairs_any m _)).mono ?_; rintro e w' ⟨rfl, rfl⟩))
  obtain ⟨M, eM⟩ : ∃ M, M = w2.heap.size := ⟨_, rfl⟩
  have R0 := madeW_row (w2.alloc (.cells #[.slice An m cn] 23)) m (by omega)
  have M0 := madeW_below (w2.alloc (.cells #[.slice An m cn] 23)) m
  have S0 := hms (w2.alloc (.cells #[.slice An m cn] 23))
  clear hmk hms x0
  obtain ⟨w3, e3⟩ : ∃ w3, w3 = madeW (w2.alloc (.cells #[.slice An m cn] 23)) m := ⟨_, rfl⟩
  rw [← e3] at R0 M0 S0 X0 ⊢
  rw [World.size_alloc] at R0 M0 S0
  have hB1 : Below w2.heap.size w2 w3 := ((Below.refl _ w2).alloc (Nat.le_refl _) _).trans (M0.mono (by omega))
  clear e3
  rw [← eM] at R0 M0 S0 X0 hB1 ⊢
  obtain ⟨W, eW⟩ : ∃ W, W = (w3.alloc (.cells #[.slice (some ⟨M + 1, 0, none⟩) m m] 40)).alloc (.cells #[.int .i64 m] 3) := ⟨_, rfl⟩
  have sW : W.heap.size = M + 1 + 1 + 1 + 1 := by rw [eW]; simp [S0]
  have hBW : Below M w2 W := by rw [eW]; exact (hB1.alloc (by omega) _).alloc (by simp; omega) _
  have b0 : Boxed W M 23 (.slice An m cn) := by rw [eW]; exact (X0.alloc _).alloc _
  have b2 : Boxed W (M + 1 + 1) 40 (.slice (some ⟨M + 1, 0, none⟩) m m) := by
    rw [eW]; have h := Boxed.new w3 40 (.slice (some ⟨M + 1, 0, none⟩) m m); rw [S0] at h; exact h.alloc _
  have b3 : W.cell? ⟨M + 1 + 1 + 1, 0, none⟩ = some (.int .i64 m) := by
    rw [eW]; have h := Boxed.new (w3.alloc (.cells #[.slice (some ⟨M + 1, 0, none⟩) m m] 40)) 3 (.int .i64 m); rw [World.size_alloc, S0] at h; exact h.cell
  have r0 : Row W M (.slice (some ⟨M + 1, 0, none⟩) m m) (ints (lrun m id (keptIn L ns (vals ([] : List (Pr m)))))) := by
    rw [eW]; exact ((R0.mono (by omega)).alloc _).alloc _
  rw [← eW]
  clear eW S0 X0 R0 M0 hB1
  have hkb := KB.out
  obtain ⟨w1, ew1⟩ : ∃ w1, w1 = (w.alloc (.cells #[.slice (some ⟨blk, off, none⟩) n c] 40)).alloc (.cells #[.int .i64 s] 3) := ⟨_, rfl⟩
  have s1 : w1.heap.size = w.heap.size + 1 + 1 := by rw [ew1]; simp
  have hw1 : Below w.heap.size w w1 := by rw [ew1]; exact ((Below.refl _ w).alloc (Nat.le_refl _) _).alloc (by simp) _
  have bg1 : Boxed w1 w.heap.size 40 (.slice (some ⟨blk, off, none⟩) n c) := by rw [ew1]; exact (Boxed.new w _ _).alloc _
  rw [← ew1] at hkb HCOL KB
  have hw2 : Below w.heap.size w w2 := hw1.trans (hkb.mono hw1.size)
  have bg2 : Boxed w2 w.heap.size 40 (.slice (some ⟨blk, off, none⟩) n c) := (hkb.block w.heap.size (by omega)).trans bg1
  have hM : w.heap.size + 1 + 1 ≤ M := by rw [eM, ← s1]; exact hkb.size
  clear hkb HCOL KB ew1 bg1
  obtain ⟨n₀, en⟩ : ∃ n₀, n₀ = w.heap.size := ⟨_, rfl⟩
  rw [← en] at hw1 hw2 bg2 hM hbl0 s1 ⊢
  have EN := Lib.hid en
  have EM := Lib.hid eM
  have SW := Lib.hid sW
  have HW2 := Lib.hid hw2
  have BG2 := Lib.hid bg2
  have hle : M ≤ w2.heap.size := by omega
  have hleW : M + 1 + 1 + 1 < W.heap.size := by omega
  clear en eM sW hw1 hw2 s1 bg2
  refine wpIn_rangeFunc_ownF (α := Pr m) rfl (by omega) (gf := 92) (lb := #[.pointer (some ⟨M + 1 + 1 + 1, 0, none⟩)]) rfl trivial (enters_of Tryd.func92 (by kernel_rfl) rfl)
    (pairs_stops Fence.wide _ trivial rfl (by omega) (M + 1 + 1 + 1) m hm6 W (by omega) b3) (fun _ _ => trivial) (fun _ _ _ _ _ _ _ _ => trivial) (Below.refl _ _) (fun _ => rfl)
    (fun pre Z => PaI M m (.slice An m cn) L ns pre Z ∧ Below M w2 Z) (fun _ _ _ => False)
    (OwnFrom.and (Own.from (paI_own M m _ L ns) _) (ownFrom_below hle (by omega))) (fun _ _ _ _ _ hs _ _ => hs)
    ⟨⟨b0, b2, r0⟩, hBW⟩
    (fun x => { tmps := #[.slice (some ⟨blk, off, none⟩) n c, .int .i64 s, .pointer (some ⟨n₀, 0, none⟩), undef, .slice none 0 0, .pointer (some ⟨M, 0, none⟩), .pointer (some ⟨M + 1 + 1, 0, none⟩), .int .i64 (x.1.1 : Int), .int .i64 (x.1.2 : Int), .int .i64 s,
      .func (.func 90) #[] #[.pointer (some ⟨n₀ + 1, 0, none⟩)], .slice An m cn, .slice An m cn, .int .i64 m, .slice (some ⟨M + 1, 0, none⟩) m m, .slice An m cn, .int .i64 m,
      .func (.func 92) #[] #[.pointer (some ⟨M + 1 + 1 + 1, 0, none⟩)], .int .i64 (x.1.1 : Int), .int .i64 (x.1.2 : Int), undef, undef, undef, undef, undef, undef, undef, undef, undef, undef, undef, undef, undef, undef, undef], defers := [] }) ?assign ?body ?done ?stop
  case assign =>
    intro l x Z K hK
    gi_wp2
    exact hK
  case body =>
    rintro l pre x Z ⟨⟨c0, c2, hr⟩, hB⟩ hlen
    have hmem : ∀ e ∈ keptIn L ns (vals pre), e.1 < 6 ∧ e.2 < 6 := fun e he => by
      unfold keptIn at he
      rw [List.mem_filter] at he
      simp only [vals, List.mem_map] at he
      obtain ⟨⟨q, _, rfl⟩, _⟩ := he
      have := q.2
      omega
    have hsm : ∀ y ∈ lrun m id (keptIn L ns (vals pre)), y < 1048576 := fun y hy => Nat.lt_trans (lrun_lt m id _ (fun e he => hmem e he) y hy) (by decide)
    have hL : (lrun m id (keptIn L ns (vals pre))).length = m := lrun_length _ _ _
    have hst := keptIn_snoc L ns (vals pre) x.1
    rw [← vals_snoc] at hst
    obtain ⟨⟨u, v⟩, hu, hv⟩ := x
    dsimp only at hu hv hst ⊢
    have ha := at_lt HNL.out (show u < ns.length by have := HEM.out; omega)
    have hb := at_lt HNL.out (show v < ns.length by have := HEM.out; omega)
    obtain ⟨blk', off', rfl, hbl', hcP⟩ := SN.out u (by rw [HIL.out]; omega)
    obtain ⟨blk2, off2, e2b, hbl2, hcQ⟩ := SN.out v (by rw [HIL.out]; omega)
    obtain ⟨rfl, rfl⟩ : blk' = blk2 ∧ off' = off2 := by injection e2b with e; injection e with e1 e2; exact ⟨e1, e2⟩
    rw [ints_at (show u < ns.length by have := HEM.out; omega)] at hcP
    rw [ints_at (show v < ns.length by have := HEM.out; omega)] at hcQ
    unfold bt at hst
    obtain ⟨a, eaa⟩ : ∃ a, a = at_ ns u := ⟨_, rfl⟩
    obtain ⟨b, ebb⟩ : ∃ b, b = at_ ns v := ⟨_, rfl⟩
    rw [← eaa] at hcP ha hst
    rw [← ebb] at hcQ hb hst
    obtain ⟨blk1, off1, hA1, hbl1, hc1⟩ := H.out a ha
    obtain ⟨rfl, rfl⟩ : blk = blk1 ∧ off = off1 := by injection hA1 with e; injection e with e1 e2; exact ⟨e1, e2⟩
    have hin := (HG.out.2.2 a ha).1
    have hX := ent_int hin
    have hXl := ent_lt hin
    have h64 := two_le (n := L.length) HG.out.2.1
    obtain ⟨X, eX⟩ : ∃ X, X = ent L a := ⟨_, rfl⟩
    rw [← eX] at hX hXl hst
    rw [hX] at hc1
    have hXs : X < 1048576 := by omega
    have hb40 : b < 40 := by have := HG.out.2.1; omega
    have han : a < n := by have := HN.out; omega
    obtain ⟨T, eT⟩ : ∃ T, T = lrun m id (keptIn L ns (vals pre)) := ⟨_, rfl⟩
    rw [← eT] at hsm hL hr
    have hPw : Z.cell? ⟨blk', off' + u, none⟩ = some (.int .i64 a) := (hB.cell (p := ⟨blk', off' + u, none⟩) (by rw [EM.out]; exact hbl')).trans hcP
    have hQw : Z.cell? ⟨blk', off' + v, none⟩ = some (.int .i64 b) := (hB.cell (p := ⟨blk', off' + v, none⟩) (by rw [EM.out]; exact hbl')).trans hcQ
    have hGw : Z.drew.cell? ⟨blk, off + a, none⟩ = some (.int .i64 X) := (hB.cell (p := ⟨blk, off + a, none⟩) (by show blk < M; omega)).trans ((HW2.out.cell (p := ⟨blk, off + a, none⟩) hbl0).trans hc1)
    have hgb : Boxed Z n₀ 40 (.slice (some ⟨blk, off, none⟩) n c) := (hB.block n₀ (by omega)).trans BG2.out
    have zg := hgb.cell
    have hi1 : (0 : Int) ≤ (u : Int) ∧ (u : Int) < (m : Int) := by omega
    have hi2 : (0 : Int) ≤ (v : Int) ∧ (v : Int) < (m : Int) := by omega
    have z0 := c0.cell
    have z2 : Z.drew.cell? ⟨M + 1 + 1, 0, none⟩ = some (.slice (some ⟨M + 1, 0, none⟩) m m) := c2.cell
    have ST := Lib.hid hst
    have ET := Lib.hid eT
    have C0 := Lib.hid c0
    have C2 := Lib.hid c2
    have HR := Lib.hid hr
    have HL := Lib.hid hL
    have HS := Lib.hid hsm
    have huv : u ≠ v := by omega
    have hum : u < m := by omega
    have HUV := Lib.hid huv
    clear hst c0 c2 hr hL hsm hmem eT eaa ebb hcP hcQ hbl' hbl2 e2b hA1 hbl1 hc1 hin hX hXl h64 eX hgb huv
    by_cases hbit : X / 2 ^ b % 2 = 1
    · have hbb : (X / 2 ^ b % 2 == 1) = true := by simp [hbit]
      have hs2 := ST.out
      rw [if_pos hbit] at hs2
      have HS2 := Lib.hid hs2
      clear hbit hs2
      gi_wp2
      refine wpIn_tail_round 9 (by kernel_rfl) (by kernel_rfl) (by kernel_rfl) ?_
      simp only [List.take_succ_cons, List.take_zero, List.drop_succ_cons, List.drop_zero]
      repeat still_step
      refine wpStill_nil ?_
      gi_wp2_with (first
        | (refine ⟨trivial, ?_⟩; gi_at_call 81; refine (CallsIn.inRound l (callsIn_wide.2 (edge_any blk off n c a b X _ hXs han hb40 hGw))).mono ?_; rw [hbb]; rintro e w' ⟨rfl, rfl⟩)
        | (refine ⟨trivial, ?_⟩; gi_at_call 83; refine (CallsIn.inRound l (callsIn_wide.2 (link_any M (M + 1) m m T u v Z.drew hm6 HL.out hum hv HUV.out HS.out HR.out))).mono ?_; rintro e W3 ⟨⟨uu, rfl⟩, hr3, hg3⟩; have G3 := Lib.hid hg3; have R3 := Lib.hid hr3; clear hg3 hr3))
      have gz : Z.grownBy W3 (some (M + 1)) := World.grownBy.trans (grown_drew (World.grownBy.refl Z (some (M + 1)))) G3.out
      have hB3 : Below M w2 W3 := hB.grown gz (by have := hB.size; omega) (fun j e => by cases e; omega)
      refine ⟨KeepsOthers.of_grownBy gz ?_, trivial, ⟨C0.out.kept gz (ne_some (by omega)), C2.out.kept gz (ne_some (by omega)), ?_⟩, hB3⟩
      · intro j o ej hj
        cases ej
        rcases HR.out.2 with ⟨hv0, _⟩ | ⟨g, cap, cur, hv0, _, hgb, _⟩
        · cases hv0
        · cases hv0
          rw [hgb] at hj
          cases hj
          rfl
      · rw [HS2.out, lrun_snoc, ← ET.out]; exact R3.out
    · have hbb : (X / 2 ^ b % 2 == 1) = false := by simp [hbit]
      have hs2 := ST.out
      rw [if_neg hbit, List.append_nil] at hs2
      have HS2 := Lib.hid hs2
      clear hbit hs2
      gi_wp2
      refine wpIn_tail_round 9 (by kernel_rfl) (by kernel_rfl) (by kernel_rfl) ?_
      simp only [List.take_succ_cons, List.take_zero, List.drop_succ_cons, List.drop_zero]
      repeat still_step
      refine wpStill_nil ?_
      gi_wp2_with (refine ⟨trivial, ?_⟩; gi_at_call 81; refine (CallsIn.inRound l (callsIn_wide.2 (edge_any blk off n c a b X _ hXs han hb40 hGw))).mono ?_; rw [hbb]; rintro e w' ⟨rfl, rfl⟩)
      refine ⟨KeepsOthers.drew _, trivial, ⟨C0.out, C2.out, ?_⟩, hB.drew⟩
      rw [HS2.out, ← ET.out]; exact HR.out
  case done =>
    rintro D xs Z hD hS ⟨⟨c0, c2, hr⟩, hB⟩ hK
    have z2 := c2.cell
    have HS := Lib.hid hS
    have HR := Lib.hid hr
    clear hS hr
    gi_wp2
    refine ⟨by simp, .inl ⟨_, _, rfl, run_takeDeferred hK, ?_⟩⟩
    refine ⟨_, results_tmp rfl _ _ _, ?_⟩
    refine ⟨_, rfl, ?_, ?_⟩
    · rw [← EN.out]
      have h0 := ownsRow_putObj HR.out (.deferred none) hK rfl
      rw [HS.out] at h0
      exact Row.mono h0 (by omega)
    · rw [← EN.out]
      have h0 : Below M w2 (Z.putObj D (.deferred none)) := hB.trans (belowK_b (w := w2) hle Z D _ _ (by have := SW.out; have := EM.out; omega) hK rfl rfl)
      exact HW2.out.trans (h0.mono (by omega))
  case stop =>
    rintro D cd pre Z _ _ h _
    exact h.elim

end Go.Proofs.YtjkepoalepmjoaaDoor

/- The law FnExactGraphPart returns true at each list and number, and leaves all that was there as it was. -/



namespace Go.Proofs.YtjkepoalepmjoaaDoor
open Go.RowKit
set_option linter.unusedVariables false
set_option maxRecDepth 100000


theorem empty_rowP (w : World) : Row (w.alloc (.cells #[] 3)) w.heap.size (.slice (some ⟨w.heap.size, 0, none⟩) 0 0) [] := World.ownsRow_lit (base := w.heap.size) (e := 3) (size := 1) w #[] 0 (Nat.le_refl _) (by unfold maxLen; omega) rfl

set_option maxHeartbeats 1000000 in
theorem specGPart_none (B : Nat) (v : Value) (L : List Int) (z : Int) (hL : ¬ IsGraph L) (w : World) (h : Row w B v L) :
    Calls Tryd.prog 40 #[v, .int .i64 z] w (Told w [] false) := by
  have H1 := Lib.hid (specIn_any B v L false ⟨fun h => (by cases h), fun h => absurd h hL⟩ w h)
  clear hL h
  go_enter Tryd.func40, Tryd.ntmps40
  go_wp2_with fail
  refine H1.out.mono ?_
  rintro e w1 ⟨rfl, d, rfl⟩
  go_wp2
  go_ret2
  exact ⟨_, rfl, empty_rowP (w.drewN d), (below_drewN (Below.refl _ w) d).alloc (Nat.le_refl _) _⟩
set_option maxHeartbeats 1000000 in
theorem specGPart_bad (B : Nat) (v : Value) (L : List Int) (z : Int) (hL : IsGraph L) (hz : ¬ (1 ≤ z ∧ z < ((2 ^ L.length : Nat) : Int))) (w : World) (h : Row w B v L) :
    Calls Tryd.prog 40 #[v, .int .i64 z] w (Told w [] false) := by
  have l6 := hL.2.1
  have H1 := Lib.hid (specIn_any B v L true ⟨fun _ => hL, fun _ => rfl⟩ w h)
  obtain ⟨A, c, rfl, s1⟩ := h.seen
  obtain ⟨P, Q, hP, hQ, hP64, p1, p2, p3, p4, p5⟩ := shl_facts L.length l6
  have hd : decide (1 ≤ z ∧ z ≤ (Q : Int)) = false := by rw [decide_eq_false_iff_not]; intro h0; exact hz (by omega)
  have HD := Lib.hid hd
  clear hL h s1 hz hP hQ hd
  go_enter Tryd.func40, Tryd.ntmps40
  go_wp2_with fail
  refine H1.out.mono ?_
  rintro e w1 ⟨rfl, d, rfl⟩
  go_wp2_with fail
  refine (in_any _ _ _ _).mono ?_
  rw [HD.out]
  rintro e w1 ⟨rfl, rfl⟩
  go_wp2
  go_ret2
  exact ⟨_, rfl, empty_rowP (w.drewN d), (below_drewN (Below.refl _ w) d).alloc (Nat.le_refl _) _⟩
set_option maxHeartbeats 1000000 in
theorem specGPart_good (B : Nat) (v : Value) (L : List Int) (s : Nat) (hL : IsGraph L) (h1s : 1 ≤ s) (hs : s < 2 ^ L.length) (w : World) (h : Row w B v L) :
    Calls Tryd.prog 40 #[v, .int .i64 s] w (Told w (ints (partTo L (nodesL s) (nodesL s).length)) true) := by
  have l6 := hL.2.1
  have H1 := Lib.hid (specIn_any B v L true ⟨fun _ => hL, fun _ => rfl⟩ w h)
  obtain ⟨A, c, rfl, s1⟩ := h.seen
  have S1 := Lib.hid s1
  have H3 := Lib.hid (fun w h => specPart_seen A c L hL s hs w h)
  obtain ⟨P, Q, hP, hQ, hP64, p1, p2, p3, p4, p5⟩ := shl_facts L.length l6
  have hd : decide (1 ≤ (s : Int) ∧ (s : Int) ≤ (Q : Int)) = true := by rw [decide_eq_true_eq]; omega
  have HD := Lib.hid hd
  clear hL h s1 hP hQ hd hs
  go_enter Tryd.func40, Tryd.ntmps40
  go_wp2_with fail
  refine H1.out.mono ?_
  rintro e w1 ⟨rfl, d, rfl⟩
  go_wp2_with fail
  refine (in_any _ _ _ _).mono ?_
  rw [HD.out]
  rintro e w1 ⟨rfl, rfl⟩
  go_wp2_with fail
  refine (H3.out (w.drewN d) S1.out).mono ?_
  rintro e w3 ⟨u, rfl, ru, b4⟩
  go_wp2
  go_ret2
  exact ⟨_, rfl, ru, (below_drewN (Below.refl _ w) d).trans b4⟩

set_option maxHeartbeats 1000000 in
theorem implGPart_none (B : Nat) (v : Value) (L : List Int) (z : Int) (hL : ¬ IsGraph L) (w : World) (h : Row w B v L) (hT : Tab w) :
    Calls Tryd.prog 39 #[v, .int .i64 z] w (Told w [] false) := by
  have H1 := Lib.hid (asG_none B v L hL w h hT)
  clear hL h
  go_enter Tryd.func39, Tryd.ntmps39
  go_wp2_with fail
  refine H1.out.mono ?_
  rintro e w1 ⟨rfl, b1⟩
  go_wp2
  go_ret2
  exact ⟨_, rfl, World.ownsRow_nil w1 w.heap.size 3 1, b1⟩
set_option maxHeartbeats 1000000 in
theorem implGPart_bad (B : Nat) (v : Value) (L : List Int) (z : Int) (hL : IsGraph L) (hz : ¬ (1 ≤ z ∧ z < ((2 ^ L.length : Nat) : Int))) (w : World) (h : Row w B v L) (hT : Tab w) :
    Calls Tryd.prog 39 #[v, .int .i64 z] w (Told w [] false) := by
  have l6 := hL.2.1
  have H1 := Lib.hid (asG_graph B v L hL w h hT)
  obtain ⟨A, c, rfl, s1⟩ := h.seen
  by_cases h0 : z = 0
  · have hd : (z == 0) = true := by simpa using h0
    subst h0
    clear hL h s1 hz
    go_enter Tryd.func39, Tryd.ntmps39
    go_wp2_with fail
    refine H1.out.mono ?_
    rintro e w1 ⟨rfl, b1⟩
    go_wp2
    go_ret2
    exact ⟨_, rfl, World.ownsRow_nil w1 w.heap.size 3 1, b1⟩
  · have hd : (z == 0) = false := by simpa using h0
    have hd2 : decide (0 ≤ z ∧ z < ((2 ^ L.length : Nat) : Int)) = false := by rw [decide_eq_false_iff_not]; intro h3; exact hz ⟨by omega, h3.2⟩
    have HD := Lib.hid hd2
    clear hL h s1 hz hd2
    go_enter Tryd.func39, Tryd.ntmps39
    go_wp2_with fail
    refine H1.out.mono ?_
    rintro e w1 ⟨rfl, b1⟩
    go_wp2_with fail
    refine (hasSet_any A L.length c z l6 _).mono ?_
    rw [HD.out]
    rintro e w2 ⟨rfl, rfl⟩
    go_wp2
    go_ret2
    exact ⟨_, rfl, World.ownsRow_nil w1 w.heap.size 3 1, b1⟩
set_option maxHeartbeats 1000000 in
theorem implGPart_good (B : Nat) (v : Value) (L : List Int) (s : Nat) (hL : IsGraph L) (h1s : 1 ≤ s) (hs : s < 2 ^ L.length) (w : World) (h : Row w B v L) (hT : Tab w) :
    Calls Tryd.prog 39 #[v, .int .i64 s] w (Told w (ints (partTo L (nodesL s) (nodesL s).length)) true) := by
  have l6 := hL.2.1
  have h2 := hT.lt
  have HE := Lib.hid (part_eq L hL (nodesL s) (nodes_lt hs))
  have H1 := Lib.hid (asG_graph B v L hL w h hT)
  obtain ⟨A, c, rfl, s1⟩ := h.seen
  have S1 := Lib.hid s1
  have HT := Lib.hid hT
  have H3 := Lib.hid (fun w h ht => callsIn_wide.1 (implPart_in A c L hL s hs w h ht))
  have hd : ((s : Int) == 0) = false := by simp; omega
  have hd2 : decide (0 ≤ (s : Int) ∧ (s : Int) < ((2 ^ L.length : Nat) : Int)) = true := by rw [decide_eq_true_eq]; omega
  have HD := Lib.hid hd2
  clear hL h s1 hd2 hs hT
  go_enter Tryd.func39, Tryd.ntmps39
  go_wp2_with fail
  refine H1.out.mono ?_
  rintro e w1 ⟨rfl, b1⟩
  go_wp2_with fail
  refine (hasSet_any A L.length c (s : Int) l6 _).mono ?_
  rw [HD.out]
  rintro e w2 ⟨rfl, rfl⟩
  go_wp2_with fail
  refine (H3.out w1 (S1.out.below b1) (HT.out.below b1 (by omega))).mono ?_
  rintro e w3 ⟨u, rfl, ru, b4⟩
  go_wp2
  go_ret2
  exact ⟨_, rfl, by rw [HE.out]; exact ru.mono b1.size, b1.trans (b4.mono b1.size)⟩
end Go.Proofs.YtjkepoalepmjoaaDoor

/- The law FnExactGraphDrop returns true at each list and number, and leaves all that was there as it was. -/


namespace Go.Proofs.YtjkepoalepmjoaaDoor
open Go.RowKit
set_option linter.unusedVariables false
set_option maxRecDepth 100000


/-- All nodes but one. -/
def but (n v : Nat) : Nat := less (2 ^ n - 1) (2 ^ v)
theorem but_lt (n v : Nat) : but n v < 2 ^ n := by
  have h1 := less_le (2 ^ n - 1) (2 ^ v)
  have h2 := two_pos n
  unfold but
  omega
/-- What the operations yield. -/
theorem but_step {n v : Nat} (hn : n ≤ 6) (hv : v < n) : ∃ P Q p s : Nat, Q + 1 = 2 ^ n ∧ (wrap64 ((2 : Int) ^ n) = (P : Int) ∧ IntKind.i64.wrap ((2 : Int) ^ n) = (P : Int) ∧ (P : Int) - 1 = (Q : Int) ∧ IntKind.i64.wrap ((P : Int) - 1) = (Q : Int) ∧ IntKind.i64.wrap (Q : Int) = (Q : Int)) ∧
    (wrap64 ((2 : Int) ^ v) = (p : Int) ∧ IntKind.i64.wrap ((2 : Int) ^ v) = (p : Int)) ∧ bits .andNot .i64 (Q : Int) (p : Int) = (s : Int) ∧ s = but n v := by
  obtain ⟨P, Q, hP, hQ, hP64, pf⟩ := shl_facts n hn
  obtain ⟨P2, Q2, hP2, hQ22, hP264, qf⟩ := shl_facts v (by omega)
  have HPF := Lib.hid pf
  have HQF := Lib.hid qf
  clear pf qf
  have f1 := less_op Q P2 (by omega) (by omega)
  have e : 2 ^ n - 1 = Q := by omega
  refine ⟨P, Q, P2, less Q P2, by omega, HPF.out, ⟨HQF.out.1, HQF.out.2.1⟩, f1, ?_⟩
  unfold but
  rw [e, ← hP2]

set_option maxHeartbeats 1000000 in
theorem drop_any (A : Option Addr) (c : Nat) (L : List Int) (hg : IsGraph L) (v : Nat) (hv : v < L.length) (w : World) (h : Seen w A L) (hT : Tab w) :
    Calls Tryd.prog 72 #[.slice A L.length c, .int .i64 v] w (Gave w (ints (lrun (nodesL (but L.length v)).length id (keptIn L (nodesL (but L.length v)) (rows (nodesL (but L.length v)).length))))) := by
  have h6 := hg.2.1
  obtain ⟨P, Q, p, s, hQ, pf, ⟨q1, q2⟩, f1, es⟩ := but_step h6 hv
  have hd : Tab w.drew := hT
  have h3 := Lib.hid (callsIn_wide.1 (implPart_in A c L hg (but L.length v) (but_lt _ _) w.drew h hd))
  have HAL := Lib.hid (fun w => all_any A L.length c Q h6 hQ w)
  rw [← es] at h3 ⊢
  have hv6 : v < 6 := by omega
  clear hg h hT hd pf es hQ
  go_enter Tryd.func72, Tryd.ntmps72
  go_wp2_with fail
  refine wp_region_still_tail 6 (by kernel_rfl) (by kernel_rfl) ?_
  simp only [List.take_succ_cons, List.take_zero, List.drop_succ_cons, List.drop_zero]
  still_step
  still_step
  still_call ((HAL.out _).mono fun e w' ⟨he, hw⟩ => ⟨he, hw.symm⟩)
  repeat still_step
  refine wpStill_nil ?_
  change wpList _ _ _ _ _ w.drew
  go_wp2_with fail
  refine h3.out.mono ?_
  rintro e w3 ⟨u, rfl, ru, b⟩
  go_wp2
  go_ret
  exact ⟨_, rfl, ru, (Below.refl _ w).drew.trans b⟩

theorem specGDrop_none (B : Nat) (v : Value) (L : List Int) (z : Int) (hL : ¬ IsGraph L) (w : World) (h : Row w B v L) :
    Calls Tryd.prog 37 #[v, .int .i64 z] w (Told w [] false) := by
  have H1 := Lib.hid (specIn_any B v L false ⟨fun h => (by cases h), fun h => absurd h hL⟩ w h)
  clear hL h
  go_enter Tryd.func37, Tryd.ntmps37
  go_wp2_with fail
  refine H1.out.mono ?_
  rintro e w1 ⟨rfl, d, rfl⟩
  go_wp2
  go_ret2
  exact ⟨_, rfl, empty_rowP (w.drewN d), (below_drewN (Below.refl _ w) d).alloc (Nat.le_refl _) _⟩
set_option maxHeartbeats 1000000 in
theorem specGDrop_bad (B : Nat) (v : Value) (L : List Int) (z : Int) (hL : IsGraph L) (hz : ¬ (L.length ≠ 1 ∧ 0 ≤ z ∧ z < (L.length : Int))) (w : World) (h : Row w B v L) :
    Calls Tryd.prog 37 #[v, .int .i64 z] w (Told w [] false) := by
  have l1 := hL.1
  have l6 := hL.2.1
  have H1 := Lib.hid (specIn_any B v L true ⟨fun _ => hL, fun _ => rfl⟩ w h)
  obtain ⟨A, c, rfl, s1⟩ := h.seen
  obtain ⟨n, hn⟩ : ∃ n, n = L.length := ⟨_, rfl⟩
  rw [← hn] at hz l1 l6 H1 ⊢
  by_cases h0 : n = 1
  · have hd : ((n : Int) == 1) = true := by simp; omega
    clear hL h s1 hz hn h0
    go_enter Tryd.func37, Tryd.ntmps37
    go_wp2_with fail
    refine H1.out.mono ?_
    rintro e w1 ⟨rfl, d, rfl⟩
    go_wp2
    go_ret2
    exact ⟨_, rfl, empty_rowP (w.drewN d), (below_drewN (Below.refl _ w) d).alloc (Nat.le_refl _) _⟩
  · have hd : ((n : Int) == 1) = false := by simp; omega
    have hd2 : decide (0 ≤ z ∧ z ≤ ((n - 1 : Nat) : Int)) = false := by rw [decide_eq_false_iff_not]; intro h3; exact hz ⟨h0, by omega, by omega⟩
    have hN1 : ((n : Int) - 1) = ((n - 1 : Nat) : Int) := by omega
    have HD := Lib.hid hd2
    clear hL h s1 hz hd2 hn
    go_enter Tryd.func37, Tryd.ntmps37
    go_wp2_with fail
    refine H1.out.mono ?_
    rintro e w1 ⟨rfl, d, rfl⟩
    go_wp2_with fail
    refine (in_any _ _ _ _).mono ?_
    rw [HD.out]
    rintro e w1 ⟨rfl, rfl⟩
    go_wp2
    go_ret2
    exact ⟨_, rfl, empty_rowP (w.drewN d), (below_drewN (Below.refl _ w) d).alloc (Nat.le_refl _) _⟩
set_option maxHeartbeats 2000000 in
theorem specGDrop_good (B : Nat) (v : Value) (L : List Int) (k : Nat) (hL : IsGraph L) (h0 : L.length ≠ 1) (hk : k < L.length) (w : World) (h : Row w B v L) :
    Calls Tryd.prog 37 #[v, .int .i64 k] w (Told w (ints (partTo L (nodesL (but L.length k)) (nodesL (but L.length k)).length)) true) := by
  have l1 := hL.1
  have l6 := hL.2.1
  have H1 := Lib.hid (specIn_any B v L true ⟨fun _ => hL, fun _ => rfl⟩ w h)
  obtain ⟨A, c, rfl, s1⟩ := h.seen
  have S1 := Lib.hid s1
  have H3 := Lib.hid (fun w h => specPart_seen A c L hL (but L.length k) (but_lt _ _) w h)
  obtain ⟨P, Q, p, s, hQ, ⟨p1, p2, p3, p4, p5⟩, ⟨q1, q2⟩, f1, es⟩ := but_step l6 hk
  rw [← es] at H3 ⊢
  obtain ⟨n, hn⟩ : ∃ n, n = L.length := ⟨_, rfl⟩
  rw [← hn] at h0 hk l1 l6 H1 H3 p1 p2 ⊢
  have hd : ((n : Int) == 1) = false := by simp; omega
  have hd2 : decide (0 ≤ (k : Int) ∧ (k : Int) ≤ ((n - 1 : Nat) : Int)) = true := by rw [decide_eq_true_eq]; omega
  have hN1 : ((n : Int) - 1) = ((n - 1 : Nat) : Int) := by omega
  have HD := Lib.hid hd2
  clear hL h s1 hQ es hd2 hn
  go_enter Tryd.func37, Tryd.ntmps37
  go_wp2_with fail
  refine H1.out.mono ?_
  rintro e w1 ⟨rfl, d, rfl⟩
  go_wp2_with fail
  refine (in_any _ _ _ _).mono ?_
  rw [HD.out]
  rintro e w1 ⟨rfl, rfl⟩
  go_wp2_with fail
  obtain ⟨wd, ewd⟩ : ∃ wd, wd = w.drewN d := ⟨_, rfl⟩
  rw [← ewd]
  have EWD := Lib.hid ewd
  clear ewd
  refine wp_region_still_tail 8 (by kernel_rfl) (by kernel_rfl) ?_
  simp only [List.take_succ_cons, List.take_zero, List.drop_succ_cons, List.drop_zero]
  repeat still_step
  refine wpStill_nil ?_
  change wpList _ _ _ _ _ wd.drew
  go_wp2_with fail
  refine (H3.out wd.drew (by rw [EWD.out]; exact S1.out)).mono ?_
  rintro e w3 ⟨u, rfl, ru, b4⟩
  go_wp2
  go_ret2
  have h5 : Below w.heap.size w wd.drew := by rw [EWD.out]; exact (below_drewN (Below.refl _ w) d).drew
  exact ⟨_, rfl, ru.mono h5.size, h5.trans (b4.mono h5.size)⟩

set_option maxHeartbeats 1000000 in
theorem implGDrop_none (B : Nat) (v : Value) (L : List Int) (z : Int) (hL : ¬ IsGraph L) (w : World) (h : Row w B v L) (hT : Tab w) :
    Calls Tryd.prog 36 #[v, .int .i64 z] w (Told w [] false) := by
  have H1 := Lib.hid (asG_none B v L hL w h hT)
  clear hL h
  go_enter Tryd.func36, Tryd.ntmps36
  go_wp2_with fail
  refine H1.out.mono ?_
  rintro e w1 ⟨rfl, b1⟩
  go_wp2
  go_ret2
  exact ⟨_, rfl, World.ownsRow_nil w1 w.heap.size 3 1, b1⟩
set_option maxHeartbeats 1000000 in
theorem implGDrop_bad (B : Nat) (v : Value) (L : List Int) (z : Int) (hL : IsGraph L) (hz : ¬ (L.length ≠ 1 ∧ 0 ≤ z ∧ z < (L.length : Int))) (w : World) (h : Row w B v L) (hT : Tab w) :
    Calls Tryd.prog 36 #[v, .int .i64 z] w (Told w [] false) := by
  have l1 := hL.1
  have l6 := hL.2.1
  have H1 := Lib.hid (asG_graph B v L hL w h hT)
  obtain ⟨A, c, rfl, s1⟩ := h.seen
  obtain ⟨n, hn⟩ : ∃ n, n = L.length := ⟨_, rfl⟩
  rw [← hn] at hz l1 l6 H1 ⊢
  have hc : ((n : Int) == 1) = true ∨ (((n : Int) == 1) = false ∧ decide (z < 0) = true) ∨ (((n : Int) == 1) = false ∧ decide (z < 0) = false ∧ decide ((n : Int) ≤ z) = true) := by
    by_cases h0 : n = 1
    · exact .inl (by simp; omega)
    · by_cases h3 : z < 0
      · exact .inr (.inl ⟨by simp; omega, by simpa using h3⟩)
      · refine .inr (.inr ⟨by simp; omega, by simpa using h3, ?_⟩)
        rw [decide_eq_true_eq]
        refine Classical.byContradiction fun h4 => hz ⟨h0, by omega, by omega⟩
  clear hL h s1 hz hn
  rcases hc with hd | ⟨hd, hd2⟩ | ⟨hd, hd2, hd3⟩
  all_goals
    go_enter Tryd.func36, Tryd.ntmps36
    go_wp2_with fail
    refine H1.out.mono ?_
    rintro e w1 ⟨rfl, b1⟩
    go_wp2
    go_ret2
    exact ⟨_, rfl, World.ownsRow_nil w1 w.heap.size 3 1, b1⟩
set_option maxHeartbeats 1000000 in
theorem implGDrop_good (B : Nat) (v : Value) (L : List Int) (k : Nat) (hL : IsGraph L) (h0 : L.length ≠ 1) (hk : k < L.length) (w : World) (h : Row w B v L) (hT : Tab w) :
    Calls Tryd.prog 36 #[v, .int .i64 k] w (Told w (ints (partTo L (nodesL (but L.length k)) (nodesL (but L.length k)).length)) true) := by
  have l1 := hL.1
  have l6 := hL.2.1
  have h2 := hT.lt
  have HE := Lib.hid (part_eq L hL (nodesL (but L.length k)) (nodes_lt (but_lt _ _)))
  have H1 := Lib.hid (asG_graph B v L hL w h hT)
  obtain ⟨A, c, rfl, s1⟩ := h.seen
  have S1 := Lib.hid s1
  have HT := Lib.hid hT
  have H3 := Lib.hid (fun w h ht => drop_any A c L hL k hk w h ht)
  rw [HE.out]
  obtain ⟨n, hn⟩ : ∃ n, n = L.length := ⟨_, rfl⟩
  rw [← hn] at h0 hk l1 l6 H1 H3 ⊢
  have hd : ((n : Int) == 1) = false := by simp; omega
  have hd2 : decide ((k : Int) < 0) = false := by rw [decide_eq_false_iff_not]; omega
  have hd3 : decide ((n : Int) ≤ (k : Int)) = false := by rw [decide_eq_false_iff_not]; omega
  clear hL h s1 hT hn HE
  go_enter Tryd.func36, Tryd.ntmps36
  go_wp2_with fail
  refine H1.out.mono ?_
  rintro e w1 ⟨rfl, b1⟩
  go_wp2_with fail
  refine (H3.out w1 (S1.out.below b1) (HT.out.below b1 (by omega))).mono ?_
  rintro e w3 ⟨u, rfl, ru, b4⟩
  go_wp2
  go_ret2
  exact ⟨_, rfl, ru.mono b1.size, b1.trans (b4.mono b1.size)⟩
end Go.Proofs.YtjkepoalepmjoaaDoor

/- Two graphs beside each other, as lists: the nodes of the second one called by as many more. -/

namespace Go.Proofs.YtjkepoalepmjoaaDoor
open Go.RowKit
set_option linter.unusedVariables false

/-- The first k nodes of the second graph, called by n more. -/
def upL (n : Nat) (M : List Int) (k : Nat) : List Int := (List.range k).map fun i => ((ent M i * 2 ^ n : Nat) : Int)
theorem upL_succ (n : Nat) (M : List Int) (k : Nat) : upL n M (k + 1) = upL n M k ++ [((ent M k * 2 ^ n : Nat) : Int)] := by simp [upL, List.range_succ]
theorem upL_length (n : Nat) (M : List Int) (k : Nat) : (upL n M k).length = k := by simp [upL]
def joinL (L M : List Int) : List Int := L ++ upL L.length M M.length
theorem joinL_length (L M : List Int) : (joinL L M).length = L.length + M.length := by simp [joinL, upL_length]

theorem up_op (Y n : Nat) (hY : Y < 64) (hn : n ≤ 6) : ∃ z : Nat, z = Y * 2 ^ n ∧ wrap64 ((Y : Int) * 2 ^ n) = (z : Int) := by
  refine ⟨Y * 2 ^ n, rfl, ?_⟩
  have h1 : 2 ^ n ≤ 64 := two_le hn
  have h2 : Y * 2 ^ n ≤ Y * 64 := Nat.mul_le_mul_left _ h1
  have e : (Y : Int) * 2 ^ n = ((Y * 2 ^ n : Nat) : Int) := by simp
  rw [e]
  obtain ⟨z, hz⟩ : ∃ z, z = Y * 2 ^ n := ⟨_, rfl⟩
  rw [← hz] at h2 ⊢
  have h3 : z ≤ 4096 := by omega
  clear h1 h2 e hz
  unfold wrap64
  omega

/-- The first k places behind n filled. -/
def filled (L M : List Int) (k : Nat) : List Int := L ++ (upL L.length M k ++ List.replicate (M.length - k) 0)
theorem filled_zero (L M : List Int) : filled L M 0 = L ++ List.replicate M.length 0 := by simp [filled, upL]
theorem filled_all (L M : List Int) : filled L M M.length = joinL L M := by simp [filled, joinL]
theorem filled_length (L M : List Int) (k : Nat) (h : k ≤ M.length) : (filled L M k).length = L.length + M.length := by simp [filled, upL_length]; omega
theorem filled_succ (L M : List Int) (k : Nat) (h : k < M.length) : (filled L M k).set (L.length + k) ((ent M k * 2 ^ L.length : Nat) : Int) = filled L M (k + 1) := by
  unfold filled
  have e : M.length - k = (M.length - (k + 1)) + 1 := by omega
  rw [List.set_append_right _ _ (by omega), Nat.add_sub_cancel_left, List.set_append_right _ _ (by rw [upL_length]; omega), upL_length, Nat.sub_self, e, List.replicate_succ, List.set_cons_zero, upL_succ, List.append_assoc]
  rfl
theorem joinL_left {L : List Int} (M : List Int) {v : Nat} (hv : v < L.length) : (joinL L M)[v]?.getD 0 = L[v]?.getD 0 := by
  unfold joinL
  rw [List.getElem?_append_left hv]
theorem joinL_right (L : List Int) {M : List Int} {v : Nat} (hv : v < M.length) : (joinL L M)[L.length + v]?.getD 0 = ((ent M v * 2 ^ L.length : Nat) : Int) := by
  unfold joinL
  rw [List.getElem?_append_right (by omega), Nat.add_sub_cancel_left]
  simp [upL, hv]
end Go.Proofs.YtjkepoalepmjoaaDoor

/- Two graphs beside each other: by the model, by the program. -/



namespace Go.Proofs.YtjkepoalepmjoaaDoor
open Go.RowKit
set_option linter.unusedVariables false

set_option maxHeartbeats 1000000 in
theorem specJoin_first (B B' : Nat) (v v' : Value) (L M : List Int) (hL : ¬ IsGraph L) (w : World) (h : Row w B v L) (h' : Row w B' v' M) :
    Calls Tryd.prog 43 #[v, v'] w (Told w [] false) := by
  have H1 := Lib.hid (specIn_any B v L false ⟨fun h => (by cases h), fun h => absurd h hL⟩ w h)
  clear hL h h'
  go_enter Tryd.func43, Tryd.ntmps43
  go_wp2_with fail
  refine H1.out.mono ?_
  rintro e w1 ⟨rfl, d, rfl⟩
  go_wp2
  go_ret2
  exact ⟨_, rfl, empty_row (w.drewN d), (below_drewN (Below.refl _ w) d).alloc (Nat.le_refl _) _⟩
set_option maxHeartbeats 1000000 in
theorem specJoin_second (B B' : Nat) (v v' : Value) (L M : List Int) (hL : IsGraph L) (hM : ¬ IsGraph M) (w : World) (h : Row w B v L) (h' : Row w B' v' M) :
    Calls Tryd.prog 43 #[v, v'] w (Told w [] false) := by
  have H1 := Lib.hid (specIn_any B v L true ⟨fun _ => hL, fun _ => rfl⟩ w h)
  have H2 := Lib.hid (fun w h => specIn_any B' v' M false ⟨fun h => (by cases h), fun h => absurd h hM⟩ w h)
  clear hL hM h
  go_enter Tryd.func43, Tryd.ntmps43
  go_wp2_with fail
  refine H1.out.mono ?_
  rintro e w1 ⟨rfl, d, rfl⟩
  go_wp2_with fail
  refine (H2.out (w.drewN d) h').mono ?_
  rintro e w2 ⟨rfl, d2, rfl⟩
  go_wp2
  go_ret2
  exact ⟨_, rfl, empty_row (w.drewN (d + d2)), (below_drewN (Below.refl _ w) (d + d2)).alloc (Nat.le_refl _) _⟩
set_option maxHeartbeats 1000000 in
theorem specJoin_more (B B' : Nat) (v v' : Value) (L M : List Int) (hL : IsGraph L) (hM : IsGraph M) (h6 : 6 < L.length + M.length) (w : World) (h : Row w B v L) (h' : Row w B' v' M) :
    Calls Tryd.prog 43 #[v, v'] w (Told w [] false) := by
  have l1 := hL.2.1
  have l2 := hM.2.1
  have H1 := Lib.hid (specIn_any B v L true ⟨fun _ => hL, fun _ => rfl⟩ w h)
  have H2 := Lib.hid (fun w h => specIn_any B' v' M true ⟨fun _ => hM, fun _ => rfl⟩ w h)
  obtain ⟨A, c, rfl, _⟩ := h.seen
  have h2 := h'
  obtain ⟨A', c', rfl, _⟩ := h'.seen
  have hd : decide ((6 : Int) < (L.length : Int) + (M.length : Int)) = true := by simp; omega
  clear hL hM h h'
  go_enter Tryd.func43, Tryd.ntmps43
  go_wp2_with fail
  refine H1.out.mono ?_
  rintro e w1 ⟨rfl, d, rfl⟩
  go_wp2_with fail
  refine (H2.out (w.drewN d) h2).mono ?_
  rintro e w2 ⟨rfl, d2, rfl⟩
  go_wp2
  go_ret2
  exact ⟨_, rfl, empty_row (w.drewN (d + d2)), (below_drewN (Below.refl _ w) (d + d2)).alloc (Nat.le_refl _) _⟩

set_option maxHeartbeats 2000000 in
theorem specJoin_both (B B' : Nat) (v v' : Value) (L M : List Int) (hL : IsGraph L) (hM : IsGraph M) (h6 : L.length + M.length ≤ 6) (w : World) (h : Row w B v L) (h' : Row w B' v' M) :
    Calls Tryd.prog 43 #[v, v'] w (Told w (joinL L M) true) := by
  have l1 := hL.2.1
  have l2 := hM.2.1
  have g1 := hL.1
  have g2 := hM.1
  have H1 := Lib.hid (specIn_any B v L true ⟨fun _ => hL, fun _ => rfl⟩ w h)
  have H2 := Lib.hid (fun w h => specIn_any B' v' M true ⟨fun _ => hM, fun _ => rfl⟩ w h)
  obtain ⟨A, c, rfl, s1⟩ := h.seen
  have hrow2 := Lib.hid h'
  obtain ⟨A', c', rfl, s2⟩ := h'.seen
  have hd : decide ((6 : Int) < (L.length : Int) + (M.length : Int)) = false := by simp; omega
  have HM := Lib.hid hM
  have S1 := Lib.hid s1
  have S2 := Lib.hid s2
  obtain ⟨n, hn⟩ : ∃ n, n = L.length := ⟨_, rfl⟩
  obtain ⟨m, hm⟩ : ∃ m, m = M.length := ⟨_, rfl⟩
  rw [← hn] at hd l1 g1 h6 H1 ⊢
  rw [← hm] at hd l2 g2 h6 H2 hrow2 ⊢
  have HN := Lib.hid hn
  have HMM := Lib.hid hm
  clear hL hM h h' s1 s2 hn hm
  go_enter Tryd.func43, Tryd.ntmps43
  go_wp2_with fail
  refine H1.out.mono ?_
  rintro e w1 ⟨rfl, d, rfl⟩
  go_wp2_with fail
  refine (H2.out (w.drewN d) hrow2.out).mono ?_
  rintro e w2 ⟨rfl, d2, rfl⟩
  obtain ⟨w0, e0⟩ : ∃ w0, w0 = (w.drewN d).drewN d2 := ⟨_, rfl⟩
  have B0 : Below w.heap.size w w0 := by rw [e0]; exact below_drewN (below_drewN (Below.refl _ w) d) d2
  have hz0 : w0.heap.size = w.heap.size := by rw [e0]; rfl
  have T1 : Seen (w0.alloc (.cells #[] 3)) A L := (S1.out.below B0).below ((Below.refl _ _).alloc (Nat.le_refl _) _)
  have T2 : Seen w0 A' M := S2.out.below B0
  rw [← e0]
  clear e0
  have HZ := Lib.hid hz0
  have HT1 := Lib.hid T1
  have HT2 := Lib.hid T2
  have ER := Lib.hid (empty_row w0)
  have HB0 := Lib.hid B0
  have hb1 : w0.heap.size ≤ (w0.alloc (.cells #[] 3)).heap.size := by simp
  have HB1 := Lib.hid hb1
  have hll : ([] : List Int).length + L.length ≤ 100000 := by have := HN.out; simp; omega
  have HLL := Lib.hid hll
  clear hz0 T1 T2 B0 hb1 hll
  go_wp2_with (at_builtin; refine append_list rfl (.tmp 25) (.tmp 26) rfl (w0.alloc (.cells #[] 3)) w0.heap.size (.slice (some ⟨w0.heap.size, 0, none⟩) 0 0) [] L A c rfl (by rw [← HN.out]; rfl) ER.out HT1.out (by rw [← HN.out]; exact g1) HB1.out HLL.out ?_; intro v' w1 hr1 hb1)
  have R0 : Row w1 w.heap.size v' (L ++ upL n M 0) := by
    have h0 := hr1.out
    rw [HZ.out] at h0
    simpa [upL] using h0
  have B1 : Below w.heap.size w w1 := by
    have h0 := hb1.out
    rw [HZ.out] at h0
    exact (HB0.out.alloc (by rw [HZ.out]; exact Nat.le_refl _) _).trans h0
  have HR0 := Lib.hid R0
  have HBB := Lib.hid B1
  clear R0 B1 hr1 hb1 hd
  go_loopw [6, 7] (fun u i wr => ∃ k : Nat, k ≤ m ∧ i = .int .i64 k ∧ Hid (Row wr w.heap.size u (L ++ upL n M k)) ∧ Hid (Below w.heap.size w wr)) (fun _ i _ => m - (intOf i).toNat)
  case atStart => exact ⟨0, Nat.zero_le _, rfl, HR0, HBB⟩
  case round =>
    obtain ⟨k, hk, rfl, hr, hb⟩ := hrel
    by_cases hlt : k < m
    · obtain ⟨blk, off, rfl, hbl, hc⟩ := S2.out k (by have := HMM.out; omega)
      have hin := (HM.out.2.2 k (by have := HMM.out; omega)).1
      have hX := ent_int hin
      have hXl := ent_lt hin
      have h64 := two_le (n := M.length) (by have := HMM.out; omega)
      obtain ⟨X, eX⟩ : ∃ X, X = ent M k := ⟨_, rfl⟩
      rw [← eX] at hX hXl
      rw [hX] at hc
      have hX64 : X < 64 := by omega
      obtain ⟨z, ez, f1⟩ := up_op X n hX64 l1
      have hcw : wr.cell? ⟨blk, off + k, none⟩ = some (.int .i64 X) := (hb.out.cell (p := ⟨blk, off + k, none⟩) hbl).trans hc
      have hi1 : (0 : Int) ≤ (k : Int) ∧ (k : Int) < (m : Int) := by omega
      have hlen1 : (L ++ upL n M k).length ≤ 100000 := by rw [List.length_append, upL_length, ← HN.out]; omega
      have EZ : Hid (z = ent M k * 2 ^ n) := by rw [← eX]; exact ez
      have HLN := Lib.hid hlen1
      have HW := Lib.hid hb.out.size
      clear hc hbl eX hin hX hXl h64 hlen1 ez
      go_wp2_with (at_builtin; refine append_one rfl (.tmp 34) (.tmp 42) rfl wr w.heap.size u6 (L ++ upL n M k) (z : Int) rfl rfl hr.out HW.out HLN.out ?_; intro v2 w2 hr' hb')
      go_roundw
      case rel => exact ⟨k + 1, by omega, by go_num, Lib.hid (by rw [upL_succ, ← EZ.out, ← List.append_assoc]; exact hr'.out), Lib.hid (hb.out.trans hb'.out)⟩
      case measure => simp [intOf]; omega
    · have hkn : k = m := by omega
      subst hkn
      go_wp2
      go_ret2
      exact ⟨_, rfl, by unfold joinL; rw [← HN.out, ← HMM.out]; exact hr.out, hb.out⟩
end Go.Proofs.YtjkepoalepmjoaaDoor

/- The program's beside: two graphs of up to six nodes each. -/



namespace Go.Proofs.YtjkepoalepmjoaaDoor
open Go.RowKit
set_option linter.unusedVariables false
set_option maxRecDepth 100000

set_option maxHeartbeats 2000000 in
theorem beside_both (B B' : Nat) (v v' : Value) (L M : List Int) (hL : IsGraph L) (hM : IsGraph M) (w : World) (h : Row w B v L) (h' : Row w B' v' M) :
    Calls Tryd.prog 78 #[v, v'] w (Gave w (joinL L M)) := by
  have g1 := hL.1
  have g2 := hM.1
  have k1 := hL.2.1
  have k2 := hM.2.1
  obtain ⟨A, c, rfl, s1⟩ := h.seen
  obtain ⟨A', c', rfl, s2⟩ := h'.seen
  have HM := Lib.hid hM
  have S1 := Lib.hid s1
  have S2 := Lib.hid s2
  obtain ⟨n, hn⟩ : ∃ n, n = L.length := ⟨_, rfl⟩
  obtain ⟨m, hm⟩ : ∃ m, m = M.length := ⟨_, rfl⟩
  have hmk := run_make_graph (n + m) (by omega)
  rw [Int.natCast_add] at hmk
  have hmk2 : ∀ w : World, (Instr.makeSlice 40 (.int .i64 ((n : Int) + (m : Int))) (.int .i64 ((n : Int) + (m : Int)))).run Tryd.prog w = .ok (.slice (some ⟨w.heap.size, 0, none⟩) (n + m) (n + m)) (madeW w (n + m)) := hmk
  rw [← hn] at g1 k1 ⊢
  rw [← hm] at g2 k2 ⊢
  have HN := Lib.hid hn
  have HMM := Lib.hid hm
  obtain ⟨g, eg⟩ : ∃ g, g = w.heap.size := ⟨_, rfl⟩
  have HG := Lib.hid eg
  have R0 := madeW_row w (n + m) (by omega)
  have M0 := madeW_below w (n + m)
  have T1 := Lib.hid (s1.below M0)
  have RR := Lib.hid R0
  have MM := Lib.hid M0
  have hxl : (ints (List.replicate (n + m) 0)).length = n + m := by rw [ints_length, List.length_replicate]
  have HXL := Lib.hid hxl
  have hdz : (ints (List.replicate (n + m) 0)).drop n = List.replicate m 0 := by simp [ints]
  have HDZ := Lib.hid hdz
  clear hL hM h h' s1 s2 hn hm eg R0 M0 hmk hxl hdz
  go_enter Tryd.func78, Tryd.ntmps78
  go_wp2_with (refine copy_lens rfl (.tmp 14) (.tmp 15) rfl (madeW w (n + m)) w.heap.size w.heap.size (n + m) (n + m) n (ints (List.replicate (n + m) 0)) L HXL.out HN.out.symm A c rfl rfl RR.out T1.out g1 (Nat.le_add_right _ _) ?_; intro w1 hr1 hb1)
  have hr1' : Row w1 w.heap.size (.slice (some ⟨w.heap.size, 0, none⟩) (n + m) (n + m)) (filled L M 0) := by
    have h0 := hr1.out
    rw [HDZ.out] at h0
    rw [filled_zero, ← HMM.out]
    exact h0
  have hb1' : Below w.heap.size w w1 := MM.out.trans hb1.out
  have HR1 := Lib.hid hr1'
  have HB1 := Lib.hid hb1'
  have S3 := Lib.hid (S2.out.below hb1')
  clear hr1 hb1 hr1' hb1' hmk2
  obtain ⟨g', eg'⟩ : ∃ g', g' = w.heap.size := ⟨_, rfl⟩
  rw [← eg'] at HR1 HB1 ⊢
  have EG := Lib.hid eg'
  have hgl : g' ≤ w.heap.size := by omega
  clear eg'
  go_loopw [19] (fun i wr => ∃ k : Nat, k ≤ m ∧ i = .int .i64 k ∧ Hid (Row wr g' (.slice (some ⟨g', 0, none⟩) (n + m) (n + m)) (filled L M k)) ∧ Hid (Below g' w wr)) (fun i _ => m - (intOf i).toNat)
  case atStart => exact ⟨0, Nat.zero_le _, rfl, HR1, HB1⟩
  case round =>
    obtain ⟨k, hk, rfl, hr, hb⟩ := hrel
    by_cases hlt : k < m
    · obtain ⟨blk, off, rfl, hbl, hc⟩ := S2.out k (by have := HMM.out; omega)
      have hin := (HM.out.2.2 k (by have := HMM.out; omega)).1
      have hX := ent_int hin
      have hXl := ent_lt hin
      have h64 := two_le (n := M.length) (by have := HMM.out; omega)
      obtain ⟨X, eX⟩ : ∃ X, X = ent M k := ⟨_, rfl⟩
      rw [← eX] at hX hXl
      rw [hX] at hc
      have hX64 : X < 64 := by omega
      obtain ⟨z, ez, f1⟩ := up_op X n hX64 (by omega)
      have hcw : wr.cell? ⟨blk, off + k, none⟩ = some (.int .i64 X) := (hb.out.cell (p := ⟨blk, off + k, none⟩) (by show blk < g'; have := EG.out; omega)).trans hc
      have hi1 : (0 : Int) ≤ (k : Int) ∧ (k : Int) < (m : Int) := by omega
      have hi2 : (0 : Int) ≤ (n : Int) + (k : Int) ∧ (n : Int) + (k : Int) < ((n + m : Nat) : Int) := by omega
      have hi3 : ((n : Int) + (k : Int)).toNat = n + k := by omega
      have hlen2 : n + k < (filled L M k).length := by rw [filled_length L M k (by have := HMM.out; omega)]; have := HN.out; have := HMM.out; omega
      obtain ⟨old, eo⟩ : ∃ old, old = (filled L M k)[n + k]?.getD 0 := ⟨_, rfl⟩
      have hgc : wr.cell? ⟨g', n + k, none⟩ = some (.int .i64 old) := by rw [eo]; exact hr.out.cellAt (n + k) hlen2
      have hgf : wr.frozen? ⟨g', n + k, none⟩ = false := hr.out.frozenAt (n + k) hlen2
      have rs := hr.out.set (n + k) hlen2 (z : Int)
      have es : (filled L M k).set (n + k) (z : Int) = filled L M (k + 1) := by
        rw [ez, eX, HN.out]
        exact filled_succ L M k (by have := HMM.out; omega)
      rw [es] at rs
      have RS := Lib.hid rs
      clear hc hbl eX hin hX hXl h64 ez hlen2 eo rs es
      go_wp2
      go_roundw
      case rel => exact ⟨k + 1, by omega, by go_num, RS, Lib.hid (hb.out.setCell (p := ⟨g', n + k, none⟩) (Nat.le_refl _) _)⟩
      case measure => simp [intOf]; omega
    · have hkm : k = m := by omega
      subst hkm
      go_wp2
      go_ret
      refine ⟨_, rfl, ?_, by rw [← EG.out]; exact hb.out⟩
      have h0 := hr.out
      rw [HMM.out, filled_all] at h0
      rw [← EG.out, HMM.out]
      exact h0
end Go.Proofs.YtjkepoalepmjoaaDoor

/- The program's beside, and GraphJoin. -/


namespace Go.Proofs.YtjkepoalepmjoaaDoor
open Go.RowKit
set_option linter.unusedVariables false

theorem beside_any (B B' : Nat) (v v' : Value) (L M : List Int) (hL : IsGraph L) (hM : IsGraph M) (h6 : L.length + M.length ≤ 6) (w : World) (h : Row w B v L) (h' : Row w B' v' M) :
    Calls Tryd.prog 78 #[v, v'] w (Gave w (joinL L M)) := beside_both B B' v v' L M hL hM w h h'
end Go.Proofs.YtjkepoalepmjoaaDoor

/- The law FnExactGraphJoin returns true at each two lists, and leaves all that was there as it was. -/


namespace Go.Proofs.YtjkepoalepmjoaaDoor
open Go.RowKit
set_option linter.unusedVariables false
set_option maxRecDepth 100000


set_option maxHeartbeats 1000000 in
theorem implJoin_none (v v' : Value) (w : World) (h : Calls Tryd.prog 77 #[v, v'] w (GsNo w)) :
    Calls Tryd.prog 42 #[v, v'] w (Told w [] false) := by
  have H1 := Lib.hid h
  clear h
  go_enter Tryd.func42, Tryd.ntmps42
  go_wp2_with fail
  refine H1.out.mono ?_
  rintro e w1 ⟨rfl, b1⟩
  go_wp2
  go_ret2
  exact ⟨_, rfl, World.ownsRow_nil w1 w.heap.size 3 1, b1⟩
theorem implJoin_first (B B' : Nat) (v v' : Value) (L M : List Int) (hL : ¬ IsGraph L) (w : World) (h : Row w B v L) (h' : Row w B' v' M) (hT : Tab w) :
    Calls Tryd.prog 42 #[v, v'] w (Told w [] false) := implJoin_none v v' w (asGs_first B B' v v' L M hL w h h' hT)
theorem implJoin_second (B B' : Nat) (v v' : Value) (L M : List Int) (hL : IsGraph L) (hM : ¬ IsGraph M) (w : World) (h : Row w B v L) (h' : Row w B' v' M) (hT : Tab w) :
    Calls Tryd.prog 42 #[v, v'] w (Told w [] false) := implJoin_none v v' w (asGs_second B B' v v' L M hL hM w h h' hT)
set_option maxHeartbeats 1000000 in
theorem implJoin_more (B B' : Nat) (v v' : Value) (L M : List Int) (hL : IsGraph L) (hM : IsGraph M) (h6 : 6 < L.length + M.length) (w : World) (h : Row w B v L) (h' : Row w B' v' M) (hT : Tab w) :
    Calls Tryd.prog 42 #[v, v'] w (Told w [] false) := by
  have h2 := hT.lt
  have l1 := hL.2.1
  have l2 := hM.2.1
  have H1 := Lib.hid (asGs_yes B B' v v' L M hL hM w h h' hT)
  obtain ⟨A, c, rfl, _⟩ := h.seen
  obtain ⟨A', c', rfl, _⟩ := h'.seen
  have hd : decide ((6 : Int) < (L.length : Int) + (M.length : Int)) = true := by simp; omega
  clear hL hM h h'
  go_enter Tryd.func42, Tryd.ntmps42
  go_wp2_with fail
  refine H1.out.mono ?_
  rintro e w1 ⟨rfl, b1⟩
  go_wp2
  go_ret2
  exact ⟨_, rfl, World.ownsRow_nil w1 w.heap.size 3 1, b1⟩
set_option maxHeartbeats 1000000 in
theorem implJoin_both (B B' : Nat) (v v' : Value) (L M : List Int) (hL : IsGraph L) (hM : IsGraph M) (h6 : L.length + M.length ≤ 6) (w : World) (h : Row w B v L) (h' : Row w B' v' M) (hT : Tab w) :
    Calls Tryd.prog 42 #[v, v'] w (Told w (joinL L M) true) := by
  have h2 := hT.lt
  have l1 := hL.2.1
  have l2 := hM.2.1
  have H1 := Lib.hid (asGs_yes B B' v v' L M hL hM w h h' hT)
  have H3 := Lib.hid (fun w h h' => beside_any B B' v v' L M hL hM h6 w h h')
  have hr := Lib.hid h'
  have hr0 := Lib.hid h
  obtain ⟨A, c, rfl, _⟩ := h.seen
  obtain ⟨A', c', rfl, _⟩ := h'.seen
  have hd : decide ((6 : Int) < (L.length : Int) + (M.length : Int)) = false := by simp; omega
  clear hL hM h h'
  go_enter Tryd.func42, Tryd.ntmps42
  go_wp2_with fail
  refine H1.out.mono ?_
  rintro e w2 ⟨rfl, b3⟩
  go_wp2_with fail
  refine (H3.out w2 (hr0.out.below b3) (hr.out.below b3)).mono ?_
  rintro e w3 ⟨u, rfl, ru, b4⟩
  go_wp2
  go_ret2
  exact ⟨_, rfl, ru.mono b3.size, b3.trans (b4.mono b3.size)⟩
end Go.Proofs.YtjkepoalepmjoaaDoor

/- isCode: whether a number is the code of a graph of n nodes. -/

namespace Go.Proofs.YtjkepoalepmjoaaDoor
open Go.RowKit
set_option linter.unusedVariables false

/-- The number of codes of n nodes. -/
def codes (n : Nat) : Nat := 2 ^ (n * (n - 1) / 2)
theorem codes_le (n : Nat) (hn : n ≤ 6) : codes n ≤ 32768 := by
  have : ∀ n ≤ 6, codes n ≤ 32768 := by decide
  exact this n hn

/-- How a call that answers one bool and makes nothing ends. -/
def Answ (w : World) (b : Bool) (e : Ending) (w' : World) : Prop := e = .returned (.bool b) ∧ w' = w

set_option maxRecDepth 100000 in
set_option maxHeartbeats 2000000 in
theorem isCode_any (n : Nat) (c : Int) (w : World) (h1 : 1 ≤ n) (h6 : n ≤ 6) :
    Calls Tryd.prog 51 #[.int .i64 n, .int .i64 c] w (Answ w (decide (0 ≤ c ∧ c < (codes n : Int)))) := by
  have hn : n = 1 ∨ n = 2 ∨ n = 3 ∨ n = 4 ∨ n = 5 ∨ n = 6 := by omega
  by_cases h0 : 0 ≤ c
  · by_cases hc : c < (codes n : Int)
    · have e : decide (0 ≤ c ∧ c < (codes n : Int)) = true := decide_eq_true ⟨h0, hc⟩
      have hd0 : decide ((0 : Int) ≤ c) = true := decide_eq_true h0
      have HC := Lib.hid hc
      have E := Lib.hid e
      clear e h0 hc h1 h6
      rcases hn with rfl | rfl | rfl | rfl | rfl | rfl
      all_goals
        have hd := HC.out
        simp [codes] at hd
        have hdd := decide_eq_true hd
        clear hd
        go_enter Tryd.func51, Tryd.ntmps51
        go_wp2
        go_ret
        exact ⟨ret_bool (by first | rw [E.out] | exact (decide_eq_false (Int.not_lt.2 HC.out)).symm), rfl⟩
    · have e : decide (0 ≤ c ∧ c < (codes n : Int)) = false := decide_eq_false (fun h => hc h.2)
      have hd0 : decide ((0 : Int) ≤ c) = true := decide_eq_true h0
      have HC := Lib.hid hc
      have E := Lib.hid e
      clear e h0 hc h1 h6
      rcases hn with rfl | rfl | rfl | rfl | rfl | rfl
      all_goals
        have hd := HC.out
        simp [codes] at hd
        have hdd := decide_eq_false (Int.not_lt.2 hd)
        clear hd
        go_enter Tryd.func51, Tryd.ntmps51
        go_wp2
        go_ret
        exact ⟨ret_bool (by first | rw [E.out] | exact (decide_eq_false (Int.not_lt.2 HC.out)).symm), rfl⟩
  · have e : decide (0 ≤ c ∧ c < (codes n : Int)) = false := decide_eq_false (fun h => h0 h.1)
    have hd0 : decide ((0 : Int) ≤ c) = false := decide_eq_false h0
    have E := Lib.hid e
    clear e h0 h1 h6
    go_enter Tryd.func51, Tryd.ntmps51
    go_wp2
    go_ret
    exact ⟨ret_bool (by rw [E.out]), rfl⟩
end Go.Proofs.YtjkepoalepmjoaaDoor

/- What GraphOf answers. -/

namespace Go.Proofs.YtjkepoalepmjoaaDoor
open Go.RowKit
set_option linter.unusedVariables false

/-- The two arguments as the model reads them: a graph, or none. -/
def ofSaid (n c : Int) : List Int × Bool := if 1 ≤ n ∧ n ≤ 6 ∧ 0 ≤ c ∧ c < (codes n.toNat : Int) then (ints (ofCode n.toNat c.toNat), true) else ([], false)
end Go.Proofs.YtjkepoalepmjoaaDoor

/- The program's graphOf, at a seat with the graphs' methods: the same list, by a range over the pairs. -/





namespace Go.Proofs.YtjkepoalepmjoaaDoor
open Go.RowKit Go.Shelf
attribute [local go_sem] Oper.semAt_some
set_option linter.unusedVariables false

theorem row_own {β : Type} (B : Nat) (v : Value) (f : β → List Int) : Own (fun s W => Row W B v (f s)) := fun s X Y row hs hg hr => row_kept hs hg hr

/-- Between two rounds of graphOf: the code, the list's box, the place; the list holds the pairs that have come. -/
def OfI (n₀ g n c m : Nat) (pre : List (Pr m)) (W : World) : Prop :=
  Boxed W n₀ 3 (.int .i64 c) ∧ Boxed W (n₀ + 1 + 1) 40 (.slice (some ⟨g, 0, none⟩) n n) ∧ Boxed W (n₀ + 1 + 1 + 1) 3 (.int .i64 (pre.length : Nat)) ∧ Row W n₀ (.slice (some ⟨g, 0, none⟩) n n) (ints (run c n (vals pre)).1)
theorem ofI_own (n₀ g n c m : Nat) : Own (OfI n₀ g n c m) := fun s X Y row hs hg hr =>
  ⟨boxed_own _ _ (fun _ : Unit => _) () X Y row hs.1 hg hr, boxed_own _ _ (fun _ : Unit => _) () X Y row hs.2.1 hg hr, boxed_own _ _ (fun _ : Unit => _) () X Y row hs.2.2.1 hg hr, row_kept hs.2.2.2 hg hr⟩

set_option maxRecDepth 100000 in
set_option maxHeartbeats 2000000 in
theorem implOf_in (n c : Nat) (w : World) (hn1 : 1 ≤ n) (hn : n ≤ 6) (hc : c < 1048576) :
    CallsIn Fence.wide 5 Tryd.prog 52 #[.int .i64 n, .int .i64 c] w (Gave w (ints (ofCode n c))) := by
  have hmk := run_make_graph n (by omega)
  refine callsIn_of_wp_marks Tryd.func52 rfl trivial ?_ rfl
  simp only [Tryd.ntmps52, List.size_toArray, List.length_cons, List.length_nil, Nat.reduceAdd, Nat.reduceSub, Array.replicate_succ, Array.replicate_zero, List.push_toArray, List.append_toArray, List.nil_append, List.cons_append]
  have hms : ∀ x, (madeW x n).heap.size = x.heap.size + 1 := fun x => madeW_size x n
  gi_wp2_with (refine ⟨trivial, ?_⟩; gi_at_call 82; refine (callsIn_wide.2 (pairs_any n _)).mono ?_; rintro e w' ⟨rfl, rfl⟩)
  have R0 := madeW_row (w.alloc (.cells #[.int .i64 c] 3)) n (by omega)
  have M0 := madeW_below (w.alloc (.cells #[.int .i64 c] 3)) n
  have S0 := hms (w.alloc (.cells #[.int .i64 c] 3))
  have X0 : Boxed (madeW (w.alloc (.cells #[.int .i64 c] 3)) n) w.heap.size 3 (.int .i64 c) := (Boxed.new w 3 (.int .i64 c)).alloc _
  clear hmk hms
  obtain ⟨w1, e1⟩ : ∃ w1, w1 = madeW (w.alloc (.cells #[.int .i64 c] 3)) n := ⟨_, rfl⟩
  rw [← e1] at R0 M0 S0 X0 ⊢
  rw [World.size_alloc] at R0 M0 S0
  have hB1 : Below w.heap.size w w1 := ((Below.refl _ w).alloc (Nat.le_refl _) _).trans (M0.mono (by omega))
  clear e1
  obtain ⟨W, eW⟩ : ∃ W, W = ((w1.alloc (.cells #[.slice (some ⟨w.heap.size + 1, 0, none⟩) n n] 40)).alloc (.cells #[.int .i64 0] 3)).alloc (.cells #[.int .i64 n] 3) := ⟨_, rfl⟩
  have sW : W.heap.size = w.heap.size + 1 + 1 + 1 + 1 + 1 := by rw [eW]; simp [S0]
  have hBW : Below w.heap.size w W := by rw [eW]; exact ((hB1.alloc (by omega) _).alloc (by simp; omega) _).alloc (by simp; omega) _
  have b0 : Boxed W w.heap.size 3 (.int .i64 c) := by rw [eW]; exact ((X0.alloc _).alloc _).alloc _
  have b2 : Boxed W (w.heap.size + 1 + 1) 40 (.slice (some ⟨w.heap.size + 1, 0, none⟩) n n) := by
    rw [eW]; have h := Boxed.new w1 40 (.slice (some ⟨w.heap.size + 1, 0, none⟩) n n); rw [S0] at h; exact (h.alloc _).alloc _
  have b3 : Boxed W (w.heap.size + 1 + 1 + 1) 3 (.int .i64 0) := by
    rw [eW]; have h := Boxed.new (w1.alloc (.cells #[.slice (some ⟨w.heap.size + 1, 0, none⟩) n n] 40)) 3 (.int .i64 0); rw [World.size_alloc, S0] at h; exact h.alloc _
  have b4 : W.cell? ⟨w.heap.size + 1 + 1 + 1 + 1, 0, none⟩ = some (.int .i64 n) := by
    rw [eW]; have h := Boxed.new ((w1.alloc (.cells #[.slice (some ⟨w.heap.size + 1, 0, none⟩) n n] 40)).alloc (.cells #[.int .i64 0] 3)) 3 (.int .i64 n); rw [World.size_alloc, World.size_alloc, S0] at h; exact h.cell
  have r0 : Row W w.heap.size (.slice (some ⟨w.heap.size + 1, 0, none⟩) n n) (ints (List.replicate n 0)) := by
    rw [eW]; exact ((((R0.mono (by omega)).alloc _).alloc _).alloc _)
  rw [← eW]
  clear eW S0 X0 R0 M0 hB1
  obtain ⟨n₀, en⟩ : ∃ n₀, n₀ = w.heap.size := ⟨_, rfl⟩
  rw [← en] at sW hBW b0 b2 b3 b4 r0 ⊢
  have EN := Lib.hid en
  have SW := Lib.hid sW
  have hle : n₀ ≤ w.heap.size := by omega
  have hleW : n₀ + 1 + 1 + 1 + 1 < W.heap.size := by omega
  clear en sW
  refine wpIn_rangeFunc_ownF (α := Pr n) rfl (by omega) (gf := 92) (lb := #[.pointer (some ⟨n₀ + 1 + 1 + 1 + 1, 0, none⟩)]) rfl trivial (enters_of Tryd.func92 (by kernel_rfl) rfl)
    (pairs_stops Fence.wide _ trivial rfl (by omega) (n₀ + 1 + 1 + 1 + 1) n hn W (by omega) b4) (fun _ _ => trivial) (fun _ _ _ _ _ _ _ _ => trivial) (Below.refl _ _) (fun _ => rfl)
    (fun pre W => OfI n₀ (n₀ + 1) n c n pre W ∧ Below n₀ w W) (fun _ _ _ => False)
    (OwnFrom.and (Own.from (ofI_own n₀ (n₀ + 1) n c n) _) (ownFrom_below (by omega) (by omega))) (fun _ _ _ _ _ hs _ _ => hs)
    ⟨⟨b0, b2, b3, r0⟩, hBW⟩
    (fun x => { tmps := #[.int .i64 n, .int .i64 c, undef, .pointer (some ⟨n₀, 0, none⟩), .slice none 0 0, .pointer (some ⟨n₀ + 1 + 1, 0, none⟩), .pointer (some ⟨n₀ + 1 + 1 + 1, 0, none⟩), .int .i64 (x.1.1 : Int), .int .i64 (x.1.2 : Int), .int .i64 n, .slice (some ⟨n₀ + 1, 0, none⟩) n n, .int .i64 n,
      .func (.func 92) #[] #[.pointer (some ⟨n₀ + 1 + 1 + 1 + 1, 0, none⟩)], .int .i64 (x.1.1 : Int), .int .i64 (x.1.2 : Int), undef, undef, undef, undef, undef, undef, undef, undef, undef, undef, undef, undef], defers := [] }) ?assign ?body ?done ?stop
  case assign =>
    intro l x W K hK
    gi_wp2
    exact hK
  case body =>
    rintro l pre x Wr ⟨⟨c0, c2, c3, hr⟩, hB⟩ hlen
    obtain ⟨k, ek⟩ : ∃ k, k = pre.length := ⟨_, rfl⟩
    have hk1 : (pre ++ [x]).length = k + 1 := by rw [List.length_append, ek]; rfl
    have hst := run_snoc c n (vals pre) x.1
    have hat := run_at c n (vals pre)
    rw [← vals_snoc] at hst
    rw [vals_length, ← ek] at hat
    rw [← ek] at c3 hlen
    have hL : (run c n (vals pre)).1.length = n := run_length _ _ _
    have hsm : ∀ y ∈ (run c n (vals pre)).1, y < 1048576 := fun y hy => Nat.lt_trans (run_lt c n (vals pre) (fun p hp => by
      simp only [vals, List.mem_map] at hp
      obtain ⟨q, _, rfl⟩ := hp
      have := q.2
      omega) y hy) (by decide)
    obtain ⟨L, eL⟩ : ∃ L, L = (run c n (vals pre)).1 := ⟨_, rfl⟩
    rw [← eL] at hL hsm hr
    obtain ⟨⟨u, v⟩, hu, hv⟩ := x
    dsimp only at hu hv hst ⊢
    obtain ⟨bit, ebit⟩ : ∃ bit, bit = c / 2 ^ k % 2 := ⟨_, rfl⟩
    have hbit : bit = 0 ∨ bit = 1 := by omega
    have f1 := bit_of c k hc
    rw [← ebit] at f1
    have el : (run c n (vals (pre ++ [⟨(u, v), hu, hv⟩]))).1 = lnk L u v bit := by rw [hst]; show lnk _ _ _ _ = _; rw [hat, ← eL, ← ebit]
    have HK := Lib.hid hk1
    have HE := Lib.hid el
    have HL := Lib.hid hL
    have HS := Lib.hid hsm
    have C0 := Lib.hid c0
    have C2 := Lib.hid c2
    have C3 := Lib.hid c3
    have HR := Lib.hid hr
    have hc0 := c0.cell
    have hc2 := c2.cell
    have hc3 := c3.cell
    have hf3 := c3.frozen
    clear hst hat hsm hL eL ek ebit hk1 el c0 c2 c3 hr
    rcases hbit with rfl | rfl
    · gi_wp2
      refine ⟨KeepsOthers.setCell _ _ _, trivial, ⟨C0.out.other (by omega) _, C2.out.other (by omega) _, ?_, ?_⟩, hB.setCell (p := ⟨n₀ + 1 + 1 + 1, 0, none⟩) (by show n₀ ≤ n₀ + 1 + 1 + 1; omega) _⟩
      · rw [HK.out]; exact C3.out.set _
      · rw [HE.out, lnk_zero]
        exact World.ownsRow.kept HR.out (grownBy_setCell' _ (n₀ + 1 + 1 + 1) _) (.inr (ne_some (a := n₀ + 1) (b := n₀ + 1 + 1 + 1) (by omega)))
    · gi_wp2_with (refine ⟨trivial, ?_⟩; gi_at_call 83; refine (CallsIn.inRound l (callsIn_wide.2 (link_any n₀ (n₀ + 1) n n L u v _ hn HL.out (by omega) hv (by omega) HS.out HR.out))).mono ?_; rintro e W3 ⟨⟨uu, rfl⟩, hr3, hg3⟩; have D3 := C3.out.kept hg3 (ne_some (by omega)); have hd3 := D3.cell; have hdf3 := D3.frozen; have E3 := Lib.hid D3; have G3 := Lib.hid hg3; have R3 := Lib.hid hr3; clear D3 hg3 hr3)
      refine ⟨(KeepsOthers.of_grownBy G3.out ?_).trans (KeepsOthers.setCell _ _ _), trivial, ⟨(C0.out.kept G3.out (ne_some (by omega))).other (by omega) _, (C2.out.kept G3.out (ne_some (by omega))).other (by omega) _, ?_, ?_⟩, (hB.grown G3.out ?_ ?_).setCell (p := ⟨n₀ + 1 + 1 + 1, 0, none⟩) (by show n₀ ≤ n₀ + 1 + 1 + 1; omega) _⟩
      · intro j o ej hj
        cases ej
        rcases HR.out.2 with ⟨hv0, _⟩ | ⟨g, cap, cur, hv0, _, hgb, _⟩
        · cases hv0
        · cases hv0
          rw [hgb] at hj
          cases hj
          rfl
      · rw [HK.out]; exact E3.out.set _
      · rw [HE.out]
        exact World.ownsRow.kept R3.out (grownBy_setCell' _ (n₀ + 1 + 1 + 1) _) (.inr (ne_some (a := n₀ + 1) (b := n₀ + 1 + 1 + 1) (by omega)))
      · have := C0.out.lt; omega
      · intro j ej; cases ej; omega
  case done =>
    rintro D xs Wr hD hS ⟨⟨c0, c2, c3, hr⟩, hB⟩ hK
    have hc2 := c2.cell
    have R := Lib.hid hr
    have HS := Lib.hid hS
    clear hr hS
    gi_wp2
    refine ⟨by simp, .inl ⟨_, _, rfl, run_takeDeferred hK, ?_⟩⟩
    refine ⟨_, results_tmp rfl _ _ _, ?_⟩
    refine ⟨_, rfl, ?_, ?_⟩
    · rw [← EN.out]
      have h0 := ownsRow_putObj R.out (.deferred none) hK rfl
      rw [HS.out] at h0
      exact h0
    · rw [← EN.out]
      exact hB.trans (belowK_b (w := w) hle Wr D _ _ (by have := EN.out; omega) hK rfl rfl)
  case stop =>
    rintro D c pre W _ _ h _
    exact h.elim

/-- **graphOf makes the graph of the code.** -/
theorem implOf_any (n c : Nat) (w : World) (hn1 : 1 ≤ n) (hn : n ≤ 6) (hc : c < 1048576) :
    Calls Tryd.prog 52 #[.int .i64 n, .int .i64 c] w (Gave w (ints (ofCode n c))) := callsIn_wide.1 (implOf_in n c w hn1 hn hc)
end Go.Proofs.YtjkepoalepmjoaaDoor

/- GraphOf answers as its model does, for all numbers: a list of its own memory, which later calls leave alone. -/


namespace Go.Proofs.YtjkepoalepmjoaaDoor
open Go.RowKit
set_option linter.unusedVariables false


theorem row_nil (w : World) (B : Nat) : Row w B (.slice none 0 0) [] := World.ownsRow_nil w B 3 1

theorem implGraphOf_less (n c : Int) (w : World) (h : n < 1) : Calls Tryd.prog 17 #[.int .i64 n, .int .i64 c] w (Told w [] false) := by
  have hb : decide (n < 1) = true := by simpa using h
  go_enter Tryd.func17, Tryd.ntmps17
  go_wp2
  go_ret2
  exact ⟨_, rfl, row_nil _ _, Below.refl _ _⟩
theorem implGraphOf_more (n c : Int) (w : World) (h : 6 < n) : Calls Tryd.prog 17 #[.int .i64 n, .int .i64 c] w (Told w [] false) := by
  have ha : decide (n < 1) = false := by simp; omega
  have hb : decide (6 < n) = true := by simpa using h
  go_enter Tryd.func17, Tryd.ntmps17
  go_wp2
  go_ret2
  exact ⟨_, rfl, row_nil _ _, Below.refl _ _⟩
set_option maxHeartbeats 2000000 in
theorem implGraphOf_bad (n : Nat) (c : Int) (w : World) (h1 : 1 ≤ n) (h6 : n ≤ 6) (h : ¬ (0 ≤ c ∧ c < (codes n : Int))) : Calls Tryd.prog 17 #[.int .i64 n, .int .i64 c] w (Told w [] false) := by
  have ha : decide ((n : Int) < 1) = false := by simp; omega
  have hb : decide (6 < (n : Int)) = false := by simp; omega
  have HC := fun w => isCode_any n c w h1 h6
  rw [decide_eq_false h] at HC
  have HH := Lib.hid HC
  clear HC h h1 h6
  go_enter Tryd.func17, Tryd.ntmps17
  go_wp2_with fail
  refine (HH.out _).mono ?_
  rintro e w2 ⟨rfl, rfl⟩
  go_wp2
  go_ret2
  exact ⟨_, rfl, row_nil _ _, Below.refl _ _⟩
set_option maxHeartbeats 2000000 in
theorem implGraphOf_good (n c : Nat) (w : World) (h1 : 1 ≤ n) (h6 : n ≤ 6) (h : c < codes n) :
    Calls Tryd.prog 17 #[.int .i64 n, .int .i64 c] w (Told w (ints (ofCode n c)) true) := by
  have hc : c < 1048576 := by have := codes_le n h6; omega
  have ha : decide ((n : Int) < 1) = false := by simp; omega
  have hb : decide (6 < (n : Int)) = false := by simp; omega
  have HC := fun w => isCode_any n c w h1 h6
  rw [decide_eq_true (show (0 : Int) ≤ (c : Int) ∧ (c : Int) < (codes n : Int) by omega)] at HC
  have HH := Lib.hid HC
  have HI := Lib.hid (fun w => implOf_any n c w h1 h6 hc)
  clear HC h h1 h6 hc
  go_enter Tryd.func17, Tryd.ntmps17
  go_wp2_with fail
  refine (HH.out _).mono ?_
  rintro e w2 ⟨rfl, rfl⟩
  go_wp2_with fail
  refine (HI.out _).mono ?_
  rintro e w2 ⟨v, rfl, hr, hb⟩
  go_wp2
  go_ret2
  exact ⟨_, rfl, hr, hb⟩

/-- **The program's GraphOf, at all numbers.** -/
theorem implGraphOf_any (n c : Int) (w : World) : Calls Tryd.prog 17 #[.int .i64 n, .int .i64 c] w (Told w (ofSaid n c).1 (ofSaid n c).2) := by
  by_cases hn : 1 ≤ n ∧ n ≤ 6
  · obtain ⟨m, rfl⟩ : ∃ m : Nat, n = (m : Int) := ⟨n.toNat, by omega⟩
    have h1 : 1 ≤ m := by omega
    have h6 : m ≤ 6 := by omega
    by_cases h0 : 0 ≤ c
    · obtain ⟨d, rfl⟩ : ∃ d : Nat, c = (d : Int) := ⟨c.toNat, by omega⟩
      by_cases hd : d < codes m
      · have e : ofSaid (m : Int) (d : Int) = (ints (ofCode m d), true) := by unfold ofSaid; rw [if_pos (by simp only [Int.toNat_natCast]; omega)]; simp
        rw [e]
        exact implGraphOf_good m d w h1 h6 hd
      · have e : ofSaid (m : Int) (d : Int) = ([], false) := by unfold ofSaid; rw [if_neg (by simp only [Int.toNat_natCast]; omega)]
        rw [e]
        exact implGraphOf_bad m d w h1 h6 (by omega)
    · have e : ofSaid (m : Int) c = ([], false) := by unfold ofSaid; rw [if_neg (by omega)]
      rw [e]
      exact implGraphOf_bad m c w (by omega) (by omega) (by omega)
  · have e : ofSaid n c = ([], false) := by unfold ofSaid; rw [if_neg (by omega)]
    rw [e]
    by_cases h : n < 1
    · exact implGraphOf_less n c w h
    · exact implGraphOf_more n c w (by omega)
theorem ofSaid_length (n c : Int) : (ofSaid n c).1.length ≤ 1000 := by
  unfold ofSaid
  split
  · rename_i h
    rw [ints_length, ofCode_length]
    omega
  · simp
end Go.Proofs.YtjkepoalepmjoaaDoor

/- The laws' sameInts tells whether two lists are one. -/

namespace Go.Proofs.YtjkepoalepmjoaaDoor
open Go Go.RowKit
set_option linter.unusedVariables false

theorem sameI_same (n : Nat) (A A' : Option Addr) (c c' : Nat) (xs ys : List Int) (w : World) (hx : xs.length = n) (hy : ys.length = n) (hs : n ≤ 1048576)
    (hA : ∀ k, k < n → ∃ g, A = some ⟨g, 0, none⟩ ∧ w.cell? ⟨g, k, none⟩ = some (.int .i64 (xs[k]?.getD 0)))
    (hA' : ∀ k, k < n → ∃ g, A' = some ⟨g, 0, none⟩ ∧ w.cell? ⟨g, k, none⟩ = some (.int .i64 (ys[k]?.getD 0))) :
    Calls Tryd.prog 18 #[.slice A n c, .slice A' n c'] w (SaidEq w xs ys) := by
  have HA := Lib.hid hA
  have HA' := Lib.hid hA'
  have HX := Lib.hid hx
  have HY := Lib.hid hy
  clear hA hA' hx hy
  go_enter Tryd.func18, Tryd.ntmps18
  go_wp2
  go_loopw [5] (fun i wr => ∃ k m : Nat, k ≤ n ∧ i = .int .i64 k ∧ Hid (xs.take k = ys.take k) ∧ wr = w.drewN m) (fun i _ => n - (intOf i).toNat)
  case atStart => exact ⟨0, 0, Nat.zero_le _, rfl, Lib.hid (by simp), rfl⟩
  case round =>
    obtain ⟨k, m, hk, rfl, ht, rfl⟩ := hrel
    by_cases hlt : k < n
    · obtain ⟨g, rfl, hc⟩ := HA.out k hlt
      obtain ⟨g', rfl, hc'⟩ := HA'.out k hlt
      have hi1 : (0 : Int) ≤ (k : Int) := by omega
      have hi2 : (k : Int) < (n : Int) := by omega
      by_cases he : xs[k]?.getD 0 = ys[k]?.getD 0
      · have hb : (xs[k]?.getD 0 != ys[k]?.getD 0) = false := by simp [he]
        have HE := Lib.hid he
        clear he
        go_wp2
        go_quiet (fail)
        go_wp2
        go_roundw
        case rel => exact ⟨k + 1, _, by omega, by go_num, Lib.hid (take_eq_succ (by have := HX.out; omega) (by rw [HX.out, HY.out]) ht.out HE.out), rfl⟩
        case measure => simp [intOf]; omega
      · have hb : (xs[k]?.getD 0 != ys[k]?.getD 0) = true := by simp [he]
        have HE := Lib.hid he
        clear he
        go_wp2
        go_quiet (fail)
        go_wp2
        go_ret
        exact ⟨ret_bool (by simp; exact ne_of_get HE.out), _, World.drewN_drewN _ _ _⟩
    · go_wp2
      go_ret
      have hkn : k = n := by omega
      subst hkn
      exact ⟨ret_bool (by have h1 := ht.out; rw [List.take_of_length_le (by rw [HX.out]; omega), List.take_of_length_le (by rw [HY.out]; omega)] at h1; simp [h1]), _, rfl⟩

theorem sameI_other (n n' : Nat) (A A' : Option Addr) (c c' : Nat) (w : World) (hne : n ≠ n') :
    Calls Tryd.prog 18 #[.slice A n c, .slice A' n' c'] w fun e w' => e = .returned (.bool false) ∧ w = w' := by
  have hb : ((n : Int) != (n' : Int)) = true := by simp; omega
  go_enter Tryd.func18, Tryd.ntmps18
  go_wp2
  go_ret
  exact ⟨rfl, rfl⟩

/-- **sameInts tells whether two lists are one.** -/
theorem sameI_any (B B' : Nat) (v1 v2 : Value) (xs ys : List Int) (w : World) (h1 : Row w B v1 xs) (h2 : Row w B' v2 ys) (hs : xs.length ≤ 1048576) :
    Calls Tryd.prog 18 #[v1, v2] w (SaidEq w xs ys) := by
  obtain ⟨A, c, rfl, hA⟩ := h1.see
  obtain ⟨A', c', rfl, hA'⟩ := h2.see
  by_cases hl : ys.length = xs.length
  · rw [hl] at hA' ⊢
    exact sameI_same xs.length A A' c c' xs ys w rfl hl hs (fun k hk => by obtain ⟨g, a, _, b, _⟩ := hA k hk; exact ⟨g, a, b⟩) (fun k hk => by obtain ⟨g, a, _, b, _⟩ := hA' k hk; exact ⟨g, a, b⟩)
  · refine (sameI_other xs.length ys.length A A' c c' w (by omega)).mono fun e w' ⟨he, hw⟩ => ⟨?_, 0, hw.symm⟩
    rw [he]
    exact ret_bool (by symm; simp; intro h; exact hl (by rw [h]))


theorem sameI_yes (B B' : Nat) (v1 v2 : Value) (xs : List Int) (w : World) (h1 : Row w B v1 xs) (h2 : Row w B' v2 xs) (hs : xs.length ≤ 1048576) :
    Calls Tryd.prog 18 #[v1, v2] w (Yes w) :=
  (sameI_any B B' v1 v2 xs xs w h1 h2 hs).mono fun e w' ⟨he, hw⟩ => ⟨by rw [he]; exact ret_bool (by simp), hw⟩
end Go.Proofs.YtjkepoalepmjoaaDoor
