/- What sets of nodes the program takes: free ones, covers. -/
import Derived.Test.YtcblcifnpgmibaaDoorWithinFn
import Derived.Laws.StructEq
namespace Go.Proofs.YtcblcifnpgmibaaDoor
open Go Go.RowKit
set_option linter.unusedVariables false
set_option maxRecDepth 100000

theorem eql_pair (s E : Int) (W : World) : (binOp .eql 60 (.agg (prC s E)) (.agg (prC s 0))).run Tryd.prog W = .ok (.bool (E == 0)) W := by
  have ht : Tryd.prog.underlying 60 = some (.struct (Tryd.prog.fieldsOf 60)) := by kernel_rfl
  have hp : Tryd.prog.stoodInHeld 60 = false := by kernel_rfl
  have hi : Tryd.prog.underlying 3 = some (.int .i64) := Tryd.underlying3
  rw [run_eql_struct, run_equalIn_agg _ 9999 _ _ _ ht hp]
  have h3 : ∀ W, (isAgg 3).run Tryd.prog W = .ok false W := fun W => by kernel_rfl
  unfold Program.fieldsOf
  rw [Tryd.underlying60]
  simp [Op.eqFields, part, h3, run_equalIn_int _ _ _ _ _ _ _ hi]
  by_cases h : E = 0 <;> simp [h]
theorem guard_pair : Tryd.prog.eqGuardType Tryd.prog.depth 60 = false := by kernel_rfl

theorem isFree_fn (A : Option Addr) (c : Nat) (L : List Int) (hg : IsGraph L) (s : Nat) (hs : s < 64) (w : World) (h : Seen w A L) :
    Calls Tryd.prog 56 #[.slice A L.length c, .int .i64 s] w fun e w' => e = .returned (.bool (freeB L s)) ∧ Below w.heap.size w w' := by
  have HW := Lib.hid (callsIn_wide.1 (within_in A c L hg s hs w h))
  have HF := Lib.hid (free_wth hg s)
  obtain ⟨n, hn⟩ : ∃ n, n = L.length := ⟨_, rfl⟩
  rw [← hn] at HW HF ⊢
  obtain ⟨E, eE⟩ : ∃ E, E = wth s (edgesIn L (rows n)) := ⟨_, rfl⟩
  rw [← eE] at HW HF
  have hb := build_pair (s : Int)
  have he := eql_pair (s : Int) (E : Int)
  have hgd := guard_pair
  clear hg h hn eE
  go_enter Tryd.func56, Tryd.ntmps56
  go_wp2_with fail
  refine HW.out.mono ?_
  rintro e w1 ⟨rfl, b1⟩
  go_wp2
  go_ret
  refine ⟨?_, b1⟩
  rw [← HF.out]
  show Ending.returned (.bool ((E : Int) == 0)) = Ending.returned (.bool (E == 0))
  rw [show ((E : Int) == 0) = (E == 0) from by rw [Bool.eq_iff_iff, beq_iff_eq, beq_iff_eq]; omega]
theorem isCover_fn (A : Option Addr) (c : Nat) (L : List Int) (hg : IsGraph L) (s : Nat) (hs : s < 64) (w : World) (h : Seen w A L) :
    Calls Tryd.prog 59 #[.slice A L.length c, .int .i64 s] w fun e w' => e = .returned (.bool (coverB L s)) ∧ Below w.heap.size w w' := by
  have h6 := hg.2.1
  have h64 := two_le h6
  have hp := two_pos L.length
  obtain ⟨Q, hQ⟩ : ∃ Q, Q + 1 = 2 ^ L.length := ⟨2 ^ L.length - 1, by omega⟩
  have HA := Lib.hid (fun w => all_any A L.length c Q h6 hQ w)
  have hC : coverB L s = freeB L (outS Q s) := by unfold coverB; rw [show 2 ^ L.length - 1 = Q by omega]
  have ho : outS Q s < 64 := Nat.lt_of_le_of_lt Nat.and_le_left (by omega)
  have hop : bits .andNot .i64 (Q : Int) (s : Int) = (outS Q s : Nat) := i64_andNot_nat Q s (by omega) (by omega)
  rw [hC]
  obtain ⟨t, et⟩ : ∃ t, t = outS Q s := ⟨_, rfl⟩
  rw [← et] at ho hop ⊢
  have HF := Lib.hid (isFree_fn A c L hg t ho w h)
  obtain ⟨n, hn⟩ : ∃ n, n = L.length := ⟨_, rfl⟩
  rw [← hn] at HF HA ⊢
  clear hg h h6 h64 hp hQ hC et hn
  go_enter Tryd.func59, Tryd.ntmps59
  go_wp2_with fail
  refine (HA.out _).mono ?_
  rintro e w1 ⟨rfl, rfl⟩
  go_wp2_with fail
  refine HF.out.mono ?_
  rintro e w1 ⟨rfl, b1⟩
  go_wp2
  go_ret
  exact ⟨rfl, b1⟩
end Go.Proofs.YtcblcifnpgmibaaDoor
