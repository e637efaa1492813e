/- The model's GraphCode. -/
import Derived.Test.YtdgceglbnfdhbaaDoorBaseA
import Derived.Test.YtdgceglbnfdhbaaDoorCodeMath
namespace Go.Proofs.YtdgceglbnfdhbaaDoor
open Go.RowKit
set_option linter.unusedVariables false


/-- What one pair's round asks. -/
theorem code_step {L : List Int} (hg : IsGraph L) {x y k : Nat} (hx : x < y) (hy : y < L.length) (ek : (upto y x).length = k) :
    ∃ X bit p q : Nat, L[x]?.getD 0 = (X : Int) ∧ k ≤ 15 ∧ (upto y (x + 1)).length = k + 1 ∧ bits .and .i64 ((X : Int) / 2 ^ y) 1 = (bit : Int) ∧ wrap64 ((bit : Int) * 2 ^ k) = (p : Int) ∧
      bits .or .i64 (((crun L (upto y x)).1 : Nat) : Int) (p : Int) = (q : Int) ∧ (crun L (upto y (x + 1))).1 = q := by
  have h6 := hg.2.1
  have hin := (hg.2.2 x (by omega)).1
  have hX := ent_int hin
  have hXl := ent_lt hin
  have h64 := two_le h6
  have hup := upto_length y x (by omega) (by omega)
  have hst := crun_snoc L (upto y x) (x, y)
  have hat := crun_at L (upto y x)
  have hsm := crun_small L (upto y x) hup
  have hk1 : (upto y (x + 1)).length = k + 1 := by rw [upto_succ, List.length_append, ek]; rfl
  rw [← upto_succ] at hst
  rw [ek] at hup hat
  obtain ⟨bit, eb, hb, f1⟩ := and_facts (ent L x) y (by omega)
  have e1 : bt L x y = bit := by unfold bt; exact eb.symm
  have f2 := wrap_shift bit k _ hb (by omega) rfl
  have hp : bit * 2 ^ k < 2 ^ 16 := bit_shift hb (by omega)
  have hp2 : bit * 2 ^ k < 9223372036854775808 := Nat.lt_trans hp (by decide)
  have f3 := i64_or_nat (crun L (upto y x)).1 (bit * 2 ^ k) (Nat.lt_trans hsm (by decide)) hp2
  refine ⟨ent L x, bit, bit * 2 ^ k, _, hX, hup, hk1, f1, f2, f3, ?_⟩
  rw [hst]
  show (crun L (upto y x)).1 ||| bt L x y * 2 ^ (crun L (upto y x)).2 = _
  rw [hat, e1]

set_option maxHeartbeats 1000000 in
theorem specCode_seen (A : Option Addr) (c : Nat) (L : List Int) (hg : IsGraph L) (w : World) (h : Seen w A L) :
    Calls Tryd.prog 48 #[.slice A L.length c] w (Num w (codeOf L)) := by
  have h1 := hg.1
  have h6 := hg.2.1
  obtain ⟨n, hn⟩ : ∃ n, n = L.length := ⟨_, rfl⟩
  rw [← hn] at h1 h6 ⊢
  have HN := Lib.hid hn
  have H := Lib.hid h
  have HG := Lib.hid hg
  clear h hg hn
  go_enter Tryd.func48, Tryd.ntmps48
  go_wp2
  go_loop [3, 4, 5, 6] (fun r at_ b _ => ∃ y q k : Nat, 1 ≤ y ∧ y ≤ n ∧ b = .int .i64 y ∧ at_ = .int .i64 k ∧ r = .int .i64 q ∧ Hid ((rows y).length = k) ∧ Hid ((crun L (rows y)).1 = q)) (fun _ _ b _ => n - (intOf b).toNat)
  case atStart => exact ⟨1, 0, 0, by omega, h1, rfl, rfl, rfl, Lib.hid rfl, Lib.hid rfl⟩
  case round =>
    obtain ⟨y, q, k, hy1, hyn, rfl, rfl, rfl, hk, hq⟩ := hrel
    by_cases hlt : y < n
    · have hi2 : (y : Int) < (n : Int) := by omega
      go_wp2
      go_loop [3, 4, 6] (fun r at_ a => ∃ x q k : Nat, x ≤ y ∧ a = .int .i64 x ∧ at_ = .int .i64 k ∧ r = .int .i64 q ∧ Hid ((upto y x).length = k) ∧ Hid ((crun L (upto y x)).1 = q)) (fun _ _ a => y - (intOf a).toNat)
      case atStart => exact ⟨0, q, k, Nat.zero_le _, rfl, rfl, rfl, Lib.hid (by rw [upto_zero]; exact hk.out), Lib.hid (by rw [upto_zero]; exact hq.out)⟩
      case round =>
        obtain ⟨x, q2, k2, hxy, rfl, rfl, rfl, hk2, hq2⟩ := hrel
        by_cases hlx : x < y
        · obtain ⟨blk, off, rfl, hbl, hc⟩ := H.out x (by have := HN.out; omega)
          obtain ⟨X, bit, p, q3, eX, hk15, hk3, f1, f2, f3, f4⟩ := code_step HG.out hlx (by have := HN.out; omega) hk2.out
          rw [eX] at hc
          rw [hq2.out] at f3
          have F4 := Lib.hid f4
          have K3 := Lib.hid hk3
          have hi1 : (0 : Int) ≤ (x : Int) ∧ (x : Int) < (n : Int) := by omega
          clear f4 hk3 eX hbl
          go_wp2
          go_round
          case rel => exact ⟨x + 1, q3, k2 + 1, by omega, by go_num, by go_num, rfl, K3, F4⟩
          case measure => simp [intOf]; omega
        · have hxe : x = y := by omega
          subst hxe
          go_wp2
          go_round
          case rel => exact ⟨x + 1, q2, k2, by omega, by omega, by go_num, rfl, rfl, Lib.hid (by rw [← upto_end]; exact hk2.out), Lib.hid (by rw [← upto_end]; exact hq2.out)⟩
          case measure => simp [intOf]; omega
    · have hye : y = n := by omega
      subst hye
      go_wp2
      go_ret
      exact ⟨ret_int (by rw [← hq.out, HN.out]; rfl), rfl⟩
end Go.Proofs.YtdgceglbnfdhbaaDoor
