/- The program's readTerm at each text. -/
import Derived.Test.YtkninejoliclcaaDoorReadFn
namespace Go.Proofs.YtkninejoliclcaaDoor
open Go Go.RowKit
set_option linter.unusedVariables false
set_option maxRecDepth 100000

/-- How readTerm ends. -/
def RT (w : World) (o : Option Tm) (e : Ending) (w' : World) : Prop :=
  (match o with
    | some t => e = .returned (.tuple #[ival t, .nilIface])
    | none => ∃ x : ByteArray, e = .returned (.tuple #[.nilIface, .iface 62 (.agg #[.string x])])) ∧ Below w.heap.size w w'

set_option maxHeartbeats 2000000 in
theorem readTerm_any (l : List UInt8) (w : World) : Calls Tryd.prog 43 #[.string ⟨l.toArray⟩] w (RT w (termOf l)) := by
  have CT := Lib.hid (fun w => count_any 49 l w)
  have HR := Lib.hid (fun w => readA_all l.length l w (Nat.le_refl _))
  obtain ⟨cn, ecn⟩ : ∃ cn, cn = l.count 49 := ⟨_, rfl⟩
  rw [← ecn] at CT
  by_cases h1 : 60 < l.length
  · have hr : termOf l = none := by unfold termOf; rw [if_pos (Or.inl h1)]
    rw [hr]
    have hd : decide ((60 : Int) < (l.length : Int)) = true := by simp; omega
    clear CT HR ecn hr
    go_enter Tryd.func43, Tryd.ntmps43
    go_wp2
    go_ret2
    exact ⟨⟨_, rfl⟩, Below.refl _ _⟩
  · have hd : decide ((60 : Int) < (l.length : Int)) = false := by simp; omega
    by_cases h2 : 6 < cn
    · have hr : termOf l = none := by unfold termOf; rw [if_pos (Or.inr (by omega))]
      rw [hr]
      have hd2 : decide ((6 : Int) < (cn : Int)) = true := by simp; omega
      clear HR ecn hr
      go_enter Tryd.func43, Tryd.ntmps43
      go_wp2_with fail
      refine (CT.out _).mono ?_
      rintro e w1 ⟨rfl, rfl⟩
      go_wp2
      go_ret2
      exact ⟨⟨_, rfl⟩, Below.refl _ _⟩
    · have hd2 : decide ((6 : Int) < (cn : Int)) = false := by simp; omega
      have hr : ¬ (60 < l.length ∨ 6 < l.count 49) := by omega
      unfold termOf
      rw [if_neg hr]
      cases ea : rd l.length l with
      | none =>
        rw [ea] at HR
        clear ecn hr ea
        go_enter Tryd.func43, Tryd.ntmps43
        go_wp2_with fail
        refine (CT.out _).mono ?_
        rintro e w1 ⟨rfl, rfl⟩
        go_wp2_with fail
        refine (HR.out _).mono ?_
        rintro e w2 ⟨⟨x, rfl⟩, b2⟩
        go_wp2
        go_ret2
        exact ⟨⟨_, rfl⟩, b2⟩
      | some p =>
        obtain ⟨t, r⟩ := p
        rw [ea] at HR
        cases r with
        | nil =>
          clear ecn hr ea
          go_enter Tryd.func43, Tryd.ntmps43
          go_wp2_with fail
          refine (CT.out _).mono ?_
          rintro e w1 ⟨rfl, rfl⟩
          go_wp2_with fail
          refine (HR.out _).mono ?_
          rintro e w2 ⟨rfl, b2⟩
          go_wp2
          go_ret2
          exact ⟨rfl, b2⟩
        | cons c r =>
          obtain ⟨R, eR⟩ : ∃ R, R = (c :: r) := ⟨_, rfl⟩
          rw [← eR] at HR
          have hR : R.isEmpty = false := by rw [eR]; rfl
          clear ecn hr ea eR
          go_enter Tryd.func43, Tryd.ntmps43
          go_wp2_with fail
          refine (CT.out _).mono ?_
          rintro e w1 ⟨rfl, rfl⟩
          go_wp2_with fail
          refine (HR.out _).mono ?_
          rintro e w2 ⟨rfl, b2⟩
          go_wp2
          go_ret2
          exact ⟨⟨_, rfl⟩, b2⟩

end Go.Proofs.YtkninejoliclcaaDoor
