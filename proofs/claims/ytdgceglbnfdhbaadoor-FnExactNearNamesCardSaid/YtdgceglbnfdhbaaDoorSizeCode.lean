/- The model's number of edges of a code. -/
import Derived.Test.YtdgceglbnfdhbaaDoorEdgeMath
import Derived.Test.YtdgceglbnfdhbaaDoorBaseA
import Derived.Test.YtdgceglbnfdhbaaDoorSpecCode
namespace Go.Proofs.YtdgceglbnfdhbaaDoor
open Go.RowKit
set_option linter.unusedVariables false
set_option maxRecDepth 100000

set_option maxHeartbeats 400000 in
theorem size_code (x : Nat) (hx : x < 32768) (w : World) : Calls Tryd.prog 47 #[.int .i64 x] w (Num w (pcf 15 x)) := by
  go_enter Tryd.func47, Tryd.ntmps47
  go_wp2
  go_loop [0, 3] (fun s r => ∃ y q f : Nat, y < 32768 ∧ q + f ≤ 15 ∧ s = .int .i64 y ∧ r = .int .i64 q ∧ Hid (y < 2 ^ f ∧ q + pcf f y = pcf 15 x)) (fun s _ => (intOf s).toNat)
  case atStart => exact ⟨x, 0, 15, hx, by omega, rfl, rfl, Lib.hid ⟨hx, by omega⟩⟩
  case round =>
    obtain ⟨y, q, f, hy, hq, rfl, rfl, hs⟩ := hrel
    by_cases h0 : 0 < y
    · have hz : decide ((0 : Int) < (y : Int)) = true := by simpa using h0
      have hb := bit_of y 0 (by omega)
      simp only [Nat.pow_zero, Nat.div_one, Int.pow_zero, Int.ediv_one] at hb
      obtain ⟨g, eg⟩ : ∃ g, f = g + 1 := by
        cases f with
        | zero => have := hs.out.1; omega
        | succ g => exact ⟨g, rfl⟩
      subst eg
      obtain ⟨bit, eb⟩ : ∃ bit, bit = y % 2 := ⟨_, rfl⟩
      rw [← eb] at hb
      have hbit : bit ≤ 1 := by omega
      obtain ⟨z, ez⟩ : ∃ z, z = y / 2 := ⟨_, rfl⟩
      have hzy : z < y := by omega
      have hd : (y : Int) / 2 = (z : Int) := by omega
      have st : z < 2 ^ g ∧ (q + bit) + pcf g z = pcf 15 x := by
        obtain ⟨s1, s2⟩ := hs.out
        rw [Nat.pow_succ] at s1
        refine ⟨by omega, ?_⟩
        rw [← s2]
        show _ = q + (y % 2 + pcf g (y / 2))
        rw [← eb, ← ez]
        omega
      have ST := Lib.hid st
      clear st eb ez hs
      go_wp2
      go_round
      case rel => exact ⟨z, q + bit, g, by omega, by omega, rfl, by go_num, ST⟩
      case measure => simp [intOf]; omega
    · have hz : decide ((0 : Int) < (y : Int)) = false := by simp; omega
      have hy0 : y = 0 := by omega
      subst hy0
      go_wp2
      go_ret
      exact ⟨ret_int (by have h1 := hs.out.2; rw [pcf_zero] at h1; omega), rfl⟩

end Go.Proofs.YtdgceglbnfdhbaaDoor
