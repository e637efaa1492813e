/- The model's l1Code at any list of one to six numbers: a small number. -/
import Derived.Test.YtamabhdbcmjbjaaDoorBaseA
namespace Go.Proofs.YtamabhdbcmjbjaaDoor
open Go.RowKit
set_option linter.unusedVariables false


set_option maxHeartbeats 1000000 in
/-- How a call that tells a small number, and changes nothing, ends. -/
def SmallN (w : World) (e : Ending) (w' : World) : Prop := ∃ q : Nat, q < 65536 ∧ e = .returned (.int .i64 (q : Nat)) ∧ w = w'
theorem any_bit (z : Int) : ∃ bit : Nat, bit ≤ 1 ∧ bits .and .i64 z 1 = (bit : Int) :=
  ⟨(BitVec.ofInt 64 z).toNat % 2, by omega, unword (BitVec.ofInt 64 z &&& BitVec.ofInt 64 1) _ (by rw [BitVec.toNat_and]; show (BitVec.ofInt 64 z).toNat &&& 1 = _; rw [Nat.and_one_is_mod]) (by omega)⟩
theorem any_step (z : Int) {k q : Nat} (hk : k ≤ 15) (hq : q < 65536) : ∃ bit p q2 : Nat, bits .and .i64 z 1 = (bit : Int) ∧ wrap64 ((bit : Int) * 2 ^ k) = (p : Int) ∧ bits .or .i64 (q : Int) (p : Int) = (q2 : Int) ∧ q2 < 65536 := by
  obtain ⟨bit, hb, f1⟩ := any_bit z
  have f2 := wrap_shift bit k _ hb (by omega) rfl
  have hp : bit * 2 ^ k < 2 ^ 16 := bit_shift hb (by omega)
  exact ⟨bit, bit * 2 ^ k, q ||| bit * 2 ^ k, f1, f2, i64_or_nat q (bit * 2 ^ k) (Nat.lt_trans hq (by decide)) (Nat.lt_trans hp (by decide)), Nat.or_lt_two_pow (n := 16) hq hp⟩
theorem code_any6 (A : Option Addr) (c : Nat) (L : List Int) (h1 : 1 ≤ L.length) (h6 : L.length ≤ 6) (w : World) (h : Seen w A L) :
    Calls Tryd.prog 37 #[.slice A L.length c] w (SmallN w) := by
  obtain ⟨n, hn⟩ : ∃ n, n = L.length := ⟨_, rfl⟩
  rw [← hn] at h1 h6 ⊢
  have HN := Lib.hid hn
  have H := Lib.hid h
  clear h hn
  go_enter Tryd.func37, Tryd.ntmps37
  go_wp2
  go_loop [3, 4, 5, 6] (fun r at_ b _ => ∃ y q k : Nat, 1 ≤ y ∧ y ≤ n ∧ b = .int .i64 y ∧ at_ = .int .i64 k ∧ r = .int .i64 q ∧ Hid ((rows y).length = k) ∧ Hid (q < 65536)) (fun _ _ b _ => n - (intOf b).toNat)
  case atStart => exact ⟨1, 0, 0, by omega, h1, rfl, rfl, rfl, Lib.hid rfl, Lib.hid (by decide)⟩
  case round =>
    obtain ⟨y, q, k, hy1, hyn, rfl, rfl, rfl, hk, hq⟩ := hrel
    by_cases hlt : y < n
    · have hi2 : (y : Int) < (n : Int) := by omega
      go_wp2
      go_loop [3, 4, 6] (fun r at_ a => ∃ x q k : Nat, x ≤ y ∧ a = .int .i64 x ∧ at_ = .int .i64 k ∧ r = .int .i64 q ∧ Hid ((upto y x).length = k) ∧ Hid (q < 65536)) (fun _ _ a => y - (intOf a).toNat)
      case atStart => exact ⟨0, q, k, Nat.zero_le _, rfl, rfl, rfl, Lib.hid (by rw [upto_zero]; exact hk.out), hq⟩
      case round =>
        obtain ⟨x, q2, k2, hxy, rfl, rfl, rfl, hk2, hq2⟩ := hrel
        by_cases hlx : x < y
        · obtain ⟨blk, off, rfl, hbl, hc⟩ := H.out x (by have := HN.out; omega)
          obtain ⟨x0, ex0⟩ : ∃ x0, x0 = L[x]?.getD 0 := ⟨_, rfl⟩
          rw [← ex0] at hc
          have hup := upto_length y x (by omega) (by omega)
          rw [hk2.out] at hup
          have hk3 : (upto y (x + 1)).length = k2 + 1 := by rw [upto_succ, List.length_append, hk2.out]; rfl
          obtain ⟨bit, p, q3, f1, f2, f3, f4⟩ := any_step (x0 / 2 ^ y) hup hq2.out
          have F4 := Lib.hid f4
          have K3 := Lib.hid hk3
          have hi1 : (0 : Int) ≤ (x : Int) ∧ (x : Int) < (n : Int) := by omega
          clear f4 hk3 ex0 hbl
          go_wp2
          go_round
          case rel => exact ⟨x + 1, q3, k2 + 1, by omega, by go_num, by go_num, rfl, K3, F4⟩
          case measure => simp [intOf]; omega
        · have hxe : x = y := by omega
          subst hxe
          go_wp2
          go_round
          case rel => exact ⟨x + 1, q2, k2, by omega, by omega, by go_num, rfl, rfl, Lib.hid (by rw [← upto_end]; exact hk2.out), hq2⟩
          case measure => simp [intOf]; omega
    · have hye : y = n := by omega
      subst hye
      go_wp2
      go_ret
      exact ⟨q, hq.out, rfl, rfl⟩
end Go.Proofs.YtamabhdbcmjbjaaDoor
