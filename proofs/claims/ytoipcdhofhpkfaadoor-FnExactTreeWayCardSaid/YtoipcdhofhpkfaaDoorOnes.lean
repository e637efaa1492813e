/- How many members a set of at most six nodes has: by the model, by math/bits. -/
import Derived.Test.YtoipcdhofhpkfaaDoorBaseA
namespace Go.Proofs.YtoipcdhofhpkfaaDoor
open Go.RowKit
set_option linter.unusedVariables false

/-- The number of members. -/
def cnt (x : Nat) : Nat := x % 2 + x / 2 % 2 + x / 4 % 2 + x / 8 % 2 + x / 16 % 2 + x / 32 % 2
theorem cnt_step : ∀ x : Fin 64, cnt x.val = x.val % 2 + cnt (x.val / 2) := by decide +kernel

set_option maxHeartbeats 400000 in
theorem size_any (x : Nat) (hx : x < 64) (w : World) : Calls Tryd.prog 40 #[.int .i64 x] w (Num w (cnt x)) := by
  go_enter Tryd.func40, Tryd.ntmps40
  go_wp2
  go_loop [0, 3] (fun s r => ∃ y q : Nat, y < 64 ∧ q ≤ 64 ∧ s = .int .i64 y ∧ r = .int .i64 q ∧ Hid (q + cnt y = cnt x)) (fun s _ => (intOf s).toNat)
  case atStart => exact ⟨x, 0, hx, by omega, rfl, rfl, Lib.hid (by omega)⟩
  case round =>
    obtain ⟨y, q, hy, hq, rfl, rfl, hs⟩ := hrel
    by_cases h0 : 0 < y
    · have hz : decide ((0 : Int) < (y : Int)) = true := by simpa using h0
      have st := cnt_step ⟨y, hy⟩
      dsimp only at st
      have hb := bit_of y 0 (by omega)
      simp only [Nat.pow_zero, Nat.div_one, Int.pow_zero, Int.ediv_one] at hb
      obtain ⟨bit, eb⟩ : ∃ bit, bit = y % 2 := ⟨_, rfl⟩
      rw [← eb] at hb st
      have hbit : bit ≤ 1 := by omega
      obtain ⟨z, ez⟩ : ∃ z, z = y / 2 := ⟨_, rfl⟩
      have hzy : z < y := by omega
      have hd : (y : Int) / 2 = (z : Int) := by omega
      have hcl : cnt x ≤ 6 := by unfold cnt; omega
      have hql : q + bit ≤ 64 := by have := hs.out; omega
      rw [← ez] at st
      have ST := Lib.hid st
      clear st eb ez hcl
      go_wp2
      go_round
      case rel => exact ⟨z, q + bit, by omega, hql, rfl, by go_num, Lib.hid (by have h1 := hs.out; have h2 := ST.out; omega)⟩
      case measure => simp [intOf]; omega
    · have hz : decide ((0 : Int) < (y : Int)) = false := by simp; omega
      have hy0 : y = 0 := by omega
      subst hy0
      go_wp2
      go_ret
      exact ⟨ret_int (by have h1 := hs.out; have h2 : cnt 0 = 0 := rfl; omega), rfl⟩

def v1 (x : Nat) : Nat := ((x / 2) &&& 6148914691236517205) + (x &&& 6148914691236517205)
def v2 (x : Nat) : Nat := ((v1 x / 4) &&& 3689348814741910323) + (v1 x &&& 3689348814741910323)
def v3 (x : Nat) : Nat := (v2 x / 16 + v2 x) &&& 1085102592571150095
theorem ones_facts : ∀ x : Fin 64,
    bits .and .u64 ((x.val : Int) / 2) 6148914691236517205 = (((x.val / 2) &&& 6148914691236517205 : Nat) : Int) ∧ bits .and .u64 (x.val : Int) 6148914691236517205 = ((x.val &&& 6148914691236517205 : Nat) : Int) ∧
    bits .and .u64 ((v1 x.val : Int) / 4) 3689348814741910323 = (((v1 x.val / 4) &&& 3689348814741910323 : Nat) : Int) ∧ bits .and .u64 (v1 x.val : Int) 3689348814741910323 = ((v1 x.val &&& 3689348814741910323 : Nat) : Int) ∧
    bits .and .u64 (((v2 x.val / 16 + v2 x.val : Nat)) : Int) 1085102592571150095 = (v3 x.val : Int) ∧ v3 x.val = cnt x.val ∧ ((x.val / 2) &&& 6148914691236517205) < 100 ∧ (x.val &&& 6148914691236517205) < 100 ∧ ((v1 x.val / 4) &&& 3689348814741910323) < 100 ∧ (v1 x.val &&& 3689348814741910323) < 100 ∧
    bits .and .i64 (cnt x.val : Int) 127 = (cnt x.val : Int) ∧ cnt x.val ≤ 6 := by decide +kernel

set_option maxHeartbeats 1000000 in
theorem ones64 (x : Nat) (hx : x < 64) (w : World) : Calls Tryd.prog 80 #[.int .u64 x] w (Num w (cnt x)) := by
  obtain ⟨f1, f2, f3, f4, f5, f6, l1, l2, l3, l4, f7, l5⟩ := ones_facts ⟨x, hx⟩
  dsimp only at f1 f2 f3 f4 f5 f6 l1 l2 l3 l4 f7 l5
  obtain ⟨a1, e1⟩ : ∃ a, a = (x / 2) &&& 6148914691236517205 := ⟨_, rfl⟩
  obtain ⟨a2, e2⟩ : ∃ a, a = x &&& 6148914691236517205 := ⟨_, rfl⟩
  have s1 : v1 x = a1 + a2 := by unfold v1; rw [e1, e2]
  rw [← e1] at f1 l1
  rw [← e2] at f2 l2
  obtain ⟨b, eb⟩ : ∃ b, b = v1 x := ⟨_, rfl⟩
  rw [← eb] at f3 f4 l3 l4 s1
  obtain ⟨a3, e3⟩ : ∃ a, a = (b / 4) &&& 3689348814741910323 := ⟨_, rfl⟩
  obtain ⟨a4, e4⟩ : ∃ a, a = b &&& 3689348814741910323 := ⟨_, rfl⟩
  have s2 : v2 x = a3 + a4 := by unfold v2; rw [e3, e4, eb]
  rw [← e3] at f3 l3
  rw [← e4] at f4 l4
  obtain ⟨d, ed⟩ : ∃ d, d = v2 x := ⟨_, rfl⟩
  rw [← ed] at f5 s2
  rw [f6] at f5
  obtain ⟨m, em⟩ : ∃ m, m = cnt x := ⟨_, rfl⟩
  rw [← em] at f5 f7 l5 ⊢
  obtain ⟨q, eq⟩ : ∃ q, q = d / 16 + d := ⟨_, rfl⟩
  rw [← eq] at f5
  have g1 : (a1 : Int) + (a2 : Int) = (b : Int) := by omega
  have g2 : (a3 : Int) + (a4 : Int) = (d : Int) := by omega
  have g3 : (d : Int) / 16 + (d : Int) = (q : Int) := by omega
  have g4 : (m : Int) / 256 = 0 := by omega
  have g5 : (m : Int) / 65536 = 0 := by omega
  have g6 : (m : Int) / 4294967296 = 0 := by omega
  have lb : b < 200 := by omega
  have ld : d < 200 := by omega
  clear e1 e2 e3 e4 eb ed em eq s1 s2 f6
  go_enter Tryd.func80, Tryd.ntmps80
  go_wp2
  go_ret
  exact ⟨rfl, rfl⟩
theorem ones_any (x : Nat) (hx : x < 64) (w : World) : Calls Tryd.prog 54 #[.int .u64 x] w (Num w (cnt x)) := by
  go_enter Tryd.func54, Tryd.ntmps54
  go_wp2_with fail
  refine (ones64 x hx _).mono ?_
  rintro e w1 ⟨rfl, rfl⟩
  go_wp2
  go_ret
  exact ⟨rfl, rfl⟩
/-- degree: the number of neighbours. -/
theorem degree_any (b off n c a X : Nat) (w : World) (hX : X < 64) (ha : a < n) (hc : w.cell? ⟨b, off + a, none⟩ = some (.int .i64 X)) :
    Calls Tryd.prog 132 #[.slice (some ⟨b, off, none⟩) n c, .int .i64 a] w (Num w (cnt X)) := by
  have hi1 : (0 : Int) ≤ (a : Int) ∧ (a : Int) < (n : Int) := by omega
  go_enter Tryd.func132, Tryd.ntmps132
  go_wp2_with fail
  refine (ones_any X hX _).mono ?_
  rintro e w1 ⟨rfl, rfl⟩
  go_wp2
  go_ret
  exact ⟨rfl, rfl⟩
end Go.Proofs.YtoipcdhofhpkfaaDoor
