/- The program reads a term with which a text begins: readAhead and readBrackets. -/
import Derived.Test.YtkninejoliclcaaDoorCutFn
namespace Go.Proofs.YtkninejoliclcaaDoor
open Go Go.RowKit
set_option linter.unusedVariables false
set_option maxRecDepth 100000

/-- How reading ends. -/
def Rd (w : World) (o : Option (Tm × List UInt8)) (e : Ending) (w' : World) : Prop :=
  (match o with
    | some (t, r) => e = .returned (.tuple #[ival t, .string ⟨r.toArray⟩, .nilIface])
    | none => ∃ x : ByteArray, e = .returned (.tuple #[.nilIface, .string ⟨#[]⟩, .iface 62 (.agg #[.string x])])) ∧ Below w.heap.size w w'

/-- What stands behind an open bracket. -/
def rdB (n : Nat) (r : List UInt8) : Option (Tm × List UInt8) :=
  match rd n r with
  | none => none
  | some (_, []) => none
  | some (a, d :: m) =>
    if d = 43 ∨ d = 42 then
      match rd n m with
      | none => none
      | some (_, []) => none
      | some (b, e :: q) => if e = 41 then some (.par (decide (d = 42)) a b, q) else none
    else none

def ReadAt (n : Nat) : Prop := ∀ (l : List UInt8) (w : World), l.length ≤ n → Calls Tryd.prog 58 #[.string ⟨l.toArray⟩] w (Rd w (rd n l))

theorem rdB_bad (n : Nat) (l : List UInt8) (a : Tm) (m : List UInt8) (ea : rd n l = some (a, m)) (h1 : m.head? ≠ some 43) (h2 : m.head? ≠ some 42) : rdB n l = none := by
  unfold rdB
  rw [ea]
  cases m with
  | nil => rfl
  | cons d m =>
    have : ¬ (d = 43 ∨ d = 42) := fun h => by
      rcases h with rfl | rfl
      · exact h1 rfl
      · exact h2 rfl
    simp only
    rw [if_neg this]
theorem rdB_sign (n : Nat) (l : List UInt8) (a : Tm) (s : Bool) (m : List UInt8) (ea : rd n l = some (a, sgB s :: m)) : rdB n l =
    match rd n m with
      | none => none
      | some (_, []) => none
      | some (b, e :: q) => if e = 41 then some (.par s a b, q) else none := by
  unfold rdB
  rw [ea]
  cases s
  · simp only [sgB]
    rfl
  · simp only [sgB]
    rfl

set_option maxHeartbeats 2000000 in
theorem readB_of (n : Nat) (ih : ReadAt n) (l : List UInt8) (w : World) (hl : l.length ≤ n) : Calls Tryd.prog 70 #[.string ⟨l.toArray⟩] w (Rd w (rdB n l)) := by
  have H1 := Lib.hid (ih l w hl)
  have HI := Lib.hid ih
  cases ea : rd n l with
  | none =>
    have hr : rdB n l = none := by unfold rdB; rw [ea]
    rw [hr]
    rw [ea] at H1
    clear ih HI ea hl hr
    go_enter Tryd.func70, Tryd.ntmps70
    go_wp2_with fail
    refine H1.out.mono ?_
    rintro e w1 ⟨⟨x, rfl⟩, b1⟩
    go_wp2
    go_ret3
    exact ⟨⟨_, rfl⟩, b1⟩
  | some p =>
    obtain ⟨a, m⟩ := p
    obtain ⟨p1, e1, g1, _⟩ := rd_len n l a m ea
    rw [ea] at H1
    by_cases hb : m.head? ≠ some 43 ∧ m.head? ≠ some 42
    · rw [rdB_bad n l a m ea hb.1 hb.2]
      have HP : Hid (∀ w, Calls Tryd.prog 79 #[.string ⟨m.toArray⟩, .string ⟨#[43]⟩] w fun e w' => e = .returned (.bool false) ∧ w' = w) := Lib.hid fun w => by
        have := has_any 43 m w
        rw [decide_eq_false hb.1] at this
        exact this
      have HS : Hid (∀ w, Calls Tryd.prog 79 #[.string ⟨m.toArray⟩, .string ⟨#[42]⟩] w fun e w' => e = .returned (.bool false) ∧ w' = w) := Lib.hid fun w => by
        have := has_any 42 m w
        rw [decide_eq_false hb.2] at this
        exact this
      clear ih HI ea hl e1 g1 hb
      go_enter Tryd.func70, Tryd.ntmps70
      go_wp2_with fail
      refine H1.out.mono ?_
      rintro e w1 ⟨rfl, b1⟩
      go_wp2_with fail
      refine (HP.out _).mono ?_
      rintro e w2 ⟨rfl, rfl⟩
      go_wp2_with fail
      refine (HS.out _).mono ?_
      rintro e w2 ⟨rfl, rfl⟩
      go_wp2
      go_ret3
      exact ⟨⟨_, rfl⟩, b1⟩
    · obtain ⟨s, mm, em⟩ : ∃ s mm, m = sgB s :: mm := by
        cases m with
        | nil => exact absurd ⟨by simp, by simp⟩ hb
        | cons d mm =>
          by_cases h1 : d = 43
          · exact ⟨false, mm, by rw [h1]; rfl⟩
          · by_cases h2 : d = 42
            · exact ⟨true, mm, by rw [h2]; rfl⟩
            · exact absurd ⟨fun h => h1 (Option.some.inj h), fun h => h2 (Option.some.inj h)⟩ hb
      rw [em] at ea
      rw [rdB_sign n l a s mm ea]
      have hmm : mm.length ≤ n := by
        have : l.length = p1.length + m.length := by rw [e1, List.length_append]
        have : m.length = mm.length + 1 := by rw [em]; rfl
        omega
      have H2 := Lib.hid (fun w => HI.out mm w hmm)
      have hlm : m.toArray.size = mm.length + 1 := by rw [em]; rfl
      have HP : Hid (∀ w, Calls Tryd.prog 79 #[.string ⟨m.toArray⟩, .string ⟨#[43]⟩] w fun e w' => e = .returned (.bool (!s)) ∧ w' = w) := Lib.hid fun w => by
        have := has_any 43 m w
        rw [em] at this ⊢
        cases s
        · exact this
        · exact this
      have HS : Hid (∀ w, Calls Tryd.prog 79 #[.string ⟨m.toArray⟩, .string ⟨#[42]⟩] w fun e w' => e = .returned (.bool s) ∧ w' = w) := Lib.hid fun w => by
        have := has_any 42 m w
        rw [em] at this ⊢
        cases s
        · exact this
        · exact this
      have EM := Lib.hid em
      clear ih HI ea hl e1 g1 hb em
      have E1 : Hid (({ data := m.toArray } : ByteArray).extract 0 1 = ⟨#[sgB s]⟩) := Lib.hid (by rw [EM.out]; exact ByteArray.ext (by simp))
      have E2 : Hid (({ data := m.toArray } : ByteArray).extract 1 (mm.length + 1) = ⟨mm.toArray⟩) := Lib.hid (by rw [EM.out]; exact ByteArray.ext (by simp))
      clear EM
      cases eb : rd n mm with
      | none =>
        rw [eb] at H2
        clear eb hmm
        cases s with
        | false =>
          go_enter Tryd.func70, Tryd.ntmps70
          go_wp2_with fail
          refine H1.out.mono ?_
          rintro e w1 ⟨rfl, b1⟩
          go_wp2_with fail
          refine (HP.out _).mono ?_
          rintro e w2 ⟨rfl, rfl⟩
          go_wp2_with fail
          go_region
          rw [E1.out, E2.out]
          go_wp2_with fail
          refine (H2.out _).mono ?_
          rintro e w4 ⟨⟨x, rfl⟩, b4⟩
          go_wp2
          all_goals go_ret3
          all_goals exact ⟨⟨_, rfl⟩, b1.trans ((below_drew b4).mono b1.size)⟩
        | true =>
          go_enter Tryd.func70, Tryd.ntmps70
          go_wp2_with fail
          refine H1.out.mono ?_
          rintro e w1 ⟨rfl, b1⟩
          go_wp2_with fail
          refine (HP.out _).mono ?_
          rintro e w2 ⟨rfl, rfl⟩
          go_wp2_with fail
          refine (HS.out _).mono ?_
          rintro e w3 ⟨rfl, rfl⟩
          go_wp2_with fail
          go_region
          rw [E1.out, E2.out]
          go_wp2_with fail
          refine (H2.out _).mono ?_
          rintro e w4 ⟨⟨x, rfl⟩, b4⟩
          go_wp2
          all_goals go_ret3
          all_goals exact ⟨⟨_, rfl⟩, b1.trans ((below_drew b4).mono b1.size)⟩
      | some y =>
        obtain ⟨b, q⟩ := y
        rw [eb] at H2
        clear eb hmm
        by_cases hq : q.head? = some 41
        · obtain ⟨q', eq⟩ : ∃ q', q = 41 :: q' := by
            cases q with
            | nil => simp at hq
            | cons e q' => exact ⟨q', by rw [Option.some.inj hq]⟩
          have HC : Hid (∀ w, Calls Tryd.prog 69 #[.string ⟨q.toArray⟩, .string ⟨#[41]⟩] w fun e w' => e = .returned (.tuple #[.string ⟨q'.toArray⟩, .bool true]) ∧ w' = w) := Lib.hid fun w => by rw [eq]; exact cut_yes 41 q' w
          rw [show (match some (b, q) with
            | none => none
            | some (_, []) => none
            | some (b, e :: q) => if e = 41 then some (Tm.par s a b, q) else none) = some (Tm.par s a b, q') by rw [eq]; simp]
          clear hq eq
          obtain ⟨Ta, Xa, eA⟩ := ival_iface a
          obtain ⟨Tb, Xb, eB⟩ := ival_iface b
          have EA := Lib.hid eA
          have EB := Lib.hid eB
          clear eA eB
          cases s with
          | false =>
            go_enter Tryd.func70, Tryd.ntmps70
            go_wp2_with fail
            refine H1.out.mono ?_
            rintro e w1 ⟨rfl, b1⟩
            rw [EA.out]
            go_wp2_with fail
            refine (HP.out _).mono ?_
            rintro e w2 ⟨rfl, rfl⟩
            go_wp2_with fail
            go_region
            rw [E1.out, E2.out]
            go_wp2_with fail
            refine (H2.out _).mono ?_
            rintro e w4 ⟨rfl, b4⟩
            rw [EB.out]
            go_wp2_with fail
            refine (HC.out _).mono ?_
            rintro e w5 ⟨rfl, rfl⟩
            go_wp2
            all_goals go_ret3
            all_goals exact ⟨by rw [← EA.out, ← EB.out]; rfl, b1.trans ((below_drew b4).mono b1.size)⟩
          | true =>
            go_enter Tryd.func70, Tryd.ntmps70
            go_wp2_with fail
            refine H1.out.mono ?_
            rintro e w1 ⟨rfl, b1⟩
            rw [EA.out]
            go_wp2_with fail
            refine (HP.out _).mono ?_
            rintro e w2 ⟨rfl, rfl⟩
            go_wp2_with fail
            refine (HS.out _).mono ?_
            rintro e w3 ⟨rfl, rfl⟩
            go_wp2_with fail
            go_region
            rw [E1.out, E2.out]
            go_wp2_with fail
            refine (H2.out _).mono ?_
            rintro e w4 ⟨rfl, b4⟩
            rw [EB.out]
            go_wp2_with fail
            refine (HC.out _).mono ?_
            rintro e w5 ⟨rfl, rfl⟩
            go_wp2
            all_goals go_ret3
            all_goals exact ⟨by rw [← EA.out, ← EB.out]; rfl, b1.trans ((below_drew b4).mono b1.size)⟩
        · have HC : Hid (∀ w, Calls Tryd.prog 69 #[.string ⟨q.toArray⟩, .string ⟨#[41]⟩] w fun e w' => e = .returned (.tuple #[.string ⟨q.toArray⟩, .bool false]) ∧ w' = w) := Lib.hid fun w => cut_no 41 q hq w
          rw [show (match some (b, q) with
            | none => none
            | some (_, []) => none
            | some (b, e :: q) => if e = 41 then some (Tm.par s a b, q) else none) = none by
              cases q with
              | nil => rfl
              | cons e q' =>
                simp only
                rw [if_neg fun h => hq (by rw [h]; rfl)]]
          clear hq
          cases s with
          | false =>
            go_enter Tryd.func70, Tryd.ntmps70
            go_wp2_with fail
            refine H1.out.mono ?_
            rintro e w1 ⟨rfl, b1⟩
            go_wp2_with fail
            refine (HP.out _).mono ?_
            rintro e w2 ⟨rfl, rfl⟩
            go_wp2_with fail
            go_region
            rw [E1.out, E2.out]
            go_wp2_with fail
            refine (H2.out _).mono ?_
            rintro e w4 ⟨rfl, b4⟩
            go_wp2_with fail
            refine (HC.out _).mono ?_
            rintro e w5 ⟨rfl, rfl⟩
            go_wp2
            all_goals go_ret3
            all_goals exact ⟨⟨_, rfl⟩, b1.trans ((below_drew b4).mono b1.size)⟩
          | true =>
            go_enter Tryd.func70, Tryd.ntmps70
            go_wp2_with fail
            refine H1.out.mono ?_
            rintro e w1 ⟨rfl, b1⟩
            go_wp2_with fail
            refine (HP.out _).mono ?_
            rintro e w2 ⟨rfl, rfl⟩
            go_wp2_with fail
            refine (HS.out _).mono ?_
            rintro e w3 ⟨rfl, rfl⟩
            go_wp2_with fail
            go_region
            rw [E1.out, E2.out]
            go_wp2_with fail
            refine (H2.out _).mono ?_
            rintro e w4 ⟨rfl, b4⟩
            go_wp2_with fail
            refine (HC.out _).mono ?_
            rintro e w5 ⟨rfl, rfl⟩
            go_wp2
            all_goals go_ret3
            all_goals exact ⟨⟨_, rfl⟩, b1.trans ((below_drew b4).mono b1.size)⟩

theorem rd_nil (n : Nat) : rd n [] = none := by cases n <;> rfl
theorem rd_one (n : Nat) (r : List UInt8) : rd (n + 1) (49 :: r) = some (.one, r) := by rw [rd, if_pos rfl]
theorem rd_open (n : Nat) (r : List UInt8) : rd (n + 1) (40 :: r) = rdB n r := by rw [rd, if_neg (by decide), if_pos rfl]; rfl
theorem rd_minus_none (n : Nat) (r : List UInt8) (h : rd n r = none) : rd (n + 1) (45 :: r) = none := by rw [rd, if_neg (by decide), if_neg (by decide), if_pos rfl, h]
theorem rd_minus_some (n : Nat) (r : List UInt8) (a : Tm) (q : List UInt8) (h : rd n r = some (a, q)) : rd (n + 1) (45 :: r) = some (.neg a, q) := by rw [rd, if_neg (by decide), if_neg (by decide), if_pos rfl, h]
theorem rd_else (n : Nat) (l : List UInt8) (h1 : l.head? ≠ some 49) (h2 : l.head? ≠ some 40) (h3 : l.head? ≠ some 45) : rd n l = none := by
  cases n with
  | zero => rfl
  | succ n =>
    cases l with
    | nil => rfl
    | cons c r => rw [rd, if_neg fun h => h1 (by rw [h]; rfl), if_neg fun h => h2 (by rw [h]; rfl), if_neg fun h => h3 (by rw [h]; rfl)]
theorem head_ex {l : List UInt8} {c : UInt8} (h : l.head? = some c) : ∃ r, l = c :: r := by
  cases l with
  | nil => cases h
  | cons d r => exact ⟨r, by rw [Option.some.inj h]⟩

set_option maxHeartbeats 2000000 in
theorem readA_all : ∀ n, ReadAt n := by
  intro n
  induction n with
  | zero =>
    intro l w hl
    have e0 : l = [] := List.eq_nil_of_length_eq_zero (Nat.le_zero.1 hl)
    have hr : rd 0 l = none := rfl
    rw [hr]
    have C1 := Lib.hid (cut_no 49 l (by rw [e0]; simp))
    have C2 := Lib.hid (cut_no 40 l (by rw [e0]; simp))
    have C3 := Lib.hid (cut_no 45 l (by rw [e0]; simp))
    clear hl hr e0
    go_enter Tryd.func58, Tryd.ntmps58
    go_wp2_with fail
    refine (C1.out _).mono ?_
    rintro e w1 ⟨rfl, rfl⟩
    go_wp2_with fail
    refine (C2.out _).mono ?_
    rintro e w1 ⟨rfl, rfl⟩
    go_wp2_with fail
    refine (C3.out _).mono ?_
    rintro e w1 ⟨rfl, rfl⟩
    go_wp2
    go_ret3
    exact ⟨⟨_, rfl⟩, Below.refl _ _⟩
  | succ n ih =>
    intro l w hl
    by_cases h1 : l.head? = some 49
    · obtain ⟨r, er⟩ := head_ex h1
      rw [show rd (n + 1) l = some (.one, r) by rw [er]; exact rd_one n r]
      have C1 : Hid (∀ w, Calls Tryd.prog 69 #[.string ⟨l.toArray⟩, .string ⟨#[49]⟩] w fun e w' => e = .returned (.tuple #[.string ⟨r.toArray⟩, .bool true]) ∧ w' = w) := Lib.hid fun w => by rw [er]; exact cut_yes 49 r w
      clear ih hl h1 er
      go_enter Tryd.func58, Tryd.ntmps58
      go_wp2_with fail
      refine (C1.out _).mono ?_
      rintro e w1 ⟨rfl, rfl⟩
      go_wp2
      go_ret3
      exact ⟨rfl, Below.refl _ _⟩
    · have C1 := Lib.hid (cut_no 49 l h1)
      by_cases h2 : l.head? = some 40
      · obtain ⟨r, er⟩ := head_ex h2
        have HB := Lib.hid (fun w => readB_of n ih r w (by rw [er] at hl; exact Nat.le_of_succ_le_succ hl))
        rw [show rd (n + 1) l = rdB n r by rw [er]; exact rd_open n r]
        have C2 : Hid (∀ w, Calls Tryd.prog 69 #[.string ⟨l.toArray⟩, .string ⟨#[40]⟩] w fun e w' => e = .returned (.tuple #[.string ⟨r.toArray⟩, .bool true]) ∧ w' = w) := Lib.hid fun w => by rw [er]; exact cut_yes 40 r w
        clear ih hl h1 h2 er
        cases eo : rdB n r with
        | none =>
          rw [eo] at HB
          clear eo
          go_enter Tryd.func58, Tryd.ntmps58
          go_wp2_with fail
          refine (C1.out _).mono ?_
          rintro e w1 ⟨rfl, rfl⟩
          go_wp2_with fail
          refine (C2.out _).mono ?_
          rintro e w1 ⟨rfl, rfl⟩
          go_wp2_with fail
          refine (HB.out _).mono ?_
          rintro e w4 ⟨⟨x, rfl⟩, b4⟩
          go_wp2
          go_ret3
          exact ⟨⟨_, rfl⟩, b4⟩
        | some y =>
          obtain ⟨t, q⟩ := y
          rw [eo] at HB
          clear eo
          go_enter Tryd.func58, Tryd.ntmps58
          go_wp2_with fail
          refine (C1.out _).mono ?_
          rintro e w1 ⟨rfl, rfl⟩
          go_wp2_with fail
          refine (C2.out _).mono ?_
          rintro e w1 ⟨rfl, rfl⟩
          go_wp2_with fail
          refine (HB.out _).mono ?_
          rintro e w4 ⟨rfl, b4⟩
          go_wp2
          go_ret3
          exact ⟨rfl, b4⟩
      · have C2 := Lib.hid (cut_no 40 l h2)
        by_cases h3 : l.head? = some 45
        · obtain ⟨r, er⟩ := head_ex h3
          have HI := Lib.hid (fun w => ih r w (by rw [er] at hl; exact Nat.le_of_succ_le_succ hl))
          have C3 : Hid (∀ w, Calls Tryd.prog 69 #[.string ⟨l.toArray⟩, .string ⟨#[45]⟩] w fun e w' => e = .returned (.tuple #[.string ⟨r.toArray⟩, .bool true]) ∧ w' = w) := Lib.hid fun w => by rw [er]; exact cut_yes 45 r w
          have ER := Lib.hid er
          clear ih hl h1 h2 h3 er
          cases eo : rd n r with
          | none =>
            rw [eo] at HI
            rw [show rd (n + 1) l = none by rw [ER.out]; exact rd_minus_none n r eo]
            clear eo ER
            go_enter Tryd.func58, Tryd.ntmps58
            go_wp2_with fail
            refine (C1.out _).mono ?_
            rintro e w1 ⟨rfl, rfl⟩
            go_wp2_with fail
            refine (C2.out _).mono ?_
            rintro e w1 ⟨rfl, rfl⟩
            go_wp2_with fail
            refine (C3.out _).mono ?_
            rintro e w1 ⟨rfl, rfl⟩
            go_wp2_with fail
            refine (HI.out _).mono ?_
            rintro e w4 ⟨⟨x, rfl⟩, b4⟩
            go_wp2
            go_ret3
            exact ⟨⟨_, rfl⟩, b4⟩
          | some y =>
            obtain ⟨t, q⟩ := y
            rw [eo] at HI
            obtain ⟨Ta, Xa, eA⟩ := ival_iface t
            have EA := Lib.hid eA
            rw [show rd (n + 1) l = some (.neg t, q) by rw [ER.out]; exact rd_minus_some n r t q eo]
            clear eo eA ER
            go_enter Tryd.func58, Tryd.ntmps58
            go_wp2_with fail
            refine (C1.out _).mono ?_
            rintro e w1 ⟨rfl, rfl⟩
            go_wp2_with fail
            refine (C2.out _).mono ?_
            rintro e w1 ⟨rfl, rfl⟩
            go_wp2_with fail
            refine (C3.out _).mono ?_
            rintro e w1 ⟨rfl, rfl⟩
            go_wp2_with fail
            refine (HI.out _).mono ?_
            rintro e w4 ⟨rfl, b4⟩
            rw [EA.out]
            go_wp2
            go_ret3
            exact ⟨by rw [← EA.out]; rfl, b4⟩
        · have C3 := Lib.hid (cut_no 45 l h3)
          rw [rd_else (n + 1) l h1 h2 h3]
          clear ih hl h1 h2 h3
          go_enter Tryd.func58, Tryd.ntmps58
          go_wp2_with fail
          refine (C1.out _).mono ?_
          rintro e w1 ⟨rfl, rfl⟩
          go_wp2_with fail
          refine (C2.out _).mono ?_
          rintro e w1 ⟨rfl, rfl⟩
          go_wp2_with fail
          refine (C3.out _).mono ?_
          rintro e w1 ⟨rfl, rfl⟩
          go_wp2
          go_ret3
          exact ⟨⟨_, rfl⟩, Below.refl _ _⟩

end Go.Proofs.YtkninejoliclcaaDoor
