/- Names by the model: l1Names. -/
import Derived.Test.YtamabhdbcmjbjaaDoorBaseG
import Derived.Test.YtamabhdbcmjbjaaDoorBaseA
namespace Go.Proofs.YtamabhdbcmjbjaaDoor
open Go.RowKit
set_option linter.unusedVariables false

set_option maxHeartbeats 2000000 in
theorem specNames_any (A : Option Addr) (c n : Nat) (P : List Int) (b : Bool) (hb : b = true ↔ IsNames P n) (w : World) (h : Seen w A P) (h1 : 1 ≤ n) (h6 : n ≤ 6) (hl : P.length ≤ 1048576) :
    Calls Tryd.prog 91 #[.slice A P.length c, .int .i64 n] w (Looked w b) := by
  obtain ⟨m, hm⟩ : ∃ m, m = P.length := ⟨_, rfl⟩
  rw [← hm] at hl ⊢
  have HM := Lib.hid hm
  have H := Lib.hid h
  have HB := Lib.hid hb
  clear h hb hm
  go_enter Tryd.func91, Tryd.ntmps91
  go_wp2
  go_loopw [5, 6] (fun s i wr => ∃ q k d : Nat, q < 64 ∧ k ≤ m ∧ s = .int .i64 q ∧ i = .int .i64 k ∧ Hid ((∀ u, u < k → InN P n u) ∧ seenOf ((natOf P).take k) = q) ∧ wr = w.drewN d) (fun _ i _ => m - (intOf i).toNat)
  case atStart => exact ⟨0, 0, 0, by omega, Nat.zero_le _, rfl, rfl, Lib.hid ⟨fun u hu => absurd hu (by omega), by simp [seenOf]⟩, rfl⟩
  case round =>
    obtain ⟨q, k, d, hq, hk, rfl, rfl, hok, ew⟩ := hrel
    have EW := Lib.hid ew
    by_cases hlt : k < m
    · obtain ⟨blk, off, rfl, hbl, hc⟩ := H.out k (by have := HM.out; omega)
      have hcw : wr.cell? ⟨blk, off + k, none⟩ = some (.int .i64 (P[k]?.getD 0)) := by rw [ew]; exact hc
      have hi1 : (0 : Int) ≤ (k : Int) ∧ (k : Int) < (m : Int) := by omega
      clear hc hbl ew
      obtain ⟨x, ex⟩ : ∃ x, x = P[k]?.getD 0 := ⟨_, rfl⟩
      rw [← ex] at hcw
      have EX := Lib.hid ex
      clear ex
      by_cases hin : 0 ≤ x ∧ x ≤ (n : Int) - 1
      · obtain ⟨y, ey⟩ : ∃ y : Nat, x = (y : Int) := ⟨x.toNat, by omega⟩
        have hy : y < n := by omega
        have hy6 : y < 6 := by omega
        subst ey
        have hN1 : ((n : Int) - 1) = ((n - 1 : Nat) : Int) := by omega
        have hp64 := bit_pow (bit := 1) (k := y) (by omega) hy6
        rw [Nat.one_mul] at hp64
        have w1 := wrap_pow y (by omega)
        obtain ⟨p, ep⟩ : ∃ p, p = 2 ^ y := ⟨_, rfl⟩
        rw [← ep] at w1 hp64
        have f1 := i64_or_nat q p (by omega) (by omega)
        have hqp : q ||| p < 64 := Nat.or_lt_two_pow (n := 6) hq hp64
        have EP := Lib.hid ep
        have HK : Hid ((∀ u, u < k + 1 → InN P n u) ∧ seenOf ((natOf P).take (k + 1)) = q ||| p) := Lib.hid (by
          obtain ⟨o1, o2⟩ := hok.out
          refine ⟨fun u hu => ?_, ?_⟩
          · rcases Nat.lt_succ_iff_lt_or_eq.1 hu with h | h
            · exact o1 u h
            · subst h; unfold InN; rw [← EX.out]; omega
          · rw [natOf_take P k (by have := HM.out; omega), seenOf_snoc, o2, ← EX.out, EP.out]; rfl)
        have hd : decide ((0 : Int) ≤ (y : Int) ∧ (y : Int) ≤ ((n - 1 : Nat) : Int)) = true := by simp; omega
        clear hok ep hin
        go_wp2_with fail
        refine (in_any _ _ _ _).mono ?_
        rw [hd]
        rintro e w1 ⟨rfl, rfl⟩
        go_wp2
        go_roundw
        case rel => exact ⟨q ||| p, k + 1, d, hqp, by omega, rfl, by go_num, HK, EW.out⟩
        case measure => simp [intOf]; omega
      · have hN1 : ((n : Int) - 1) = ((n - 1 : Nat) : Int) := by omega
        have hd : decide ((0 : Int) ≤ x ∧ x ≤ ((n - 1 : Nat) : Int)) = false := by rw [decide_eq_false_iff_not, ← hN1]; exact hin
        have hno : ¬ IsNames P n := fun hg => hin (by
          have h0 := hg.2.1 k (by have := HM.out; omega)
          unfold InN at h0; rw [← EX.out] at h0; omega)
        clear hok hin
        go_wp2_with fail
        refine (in_any _ _ _ _).mono ?_
        rw [hd]
        rintro e w1 ⟨rfl, rfl⟩
        go_wp2
        go_ret
        have hbf : b = false := by
          cases b with
          | false => rfl
          | true => exact absurd (HB.out.1 rfl) hno
        exact ⟨ret_bool hbf.symm, d, EW.out⟩
    · have hkm : k = m := by omega
      subst hkm
      obtain ⟨o1, o2⟩ := hok.out
      have hln : (natOf P).length = k := by simp [natOf]; exact HM.out.symm
      rw [← hln, List.take_length] at o2
      have ht := names_tell (P := P) (n := n) (fun u hu => o1 u (by have := HM.out; omega))
      rw [← HM.out, o2] at ht
      have hsh : wrap64 ((2 : Int) ^ n) = ((2 ^ n : Nat) : Int) := wrap_pow n (by omega)
      obtain ⟨Q, hQ⟩ : ∃ Q, Q = 2 ^ n := ⟨2 ^ n, rfl⟩
      have hQ64 : Q ≤ 64 := by rw [hQ]; exact pow_le n 6 h6
      have hQ0 : 0 < Q := by rw [hQ]; exact Nat.two_pow_pos n
      rw [← hQ] at ht hsh
      have hbb := HB.out.trans ht.symm
      have HBB := Lib.hid hbb
      clear o1 o2 hln ht hok hQ hbb
      have hQ1 : ((Q : Int) - 1) = ((Q - 1 : Nat) : Int) := by omega
      by_cases hc1 : k = n
      · have hd1 : ((k : Int) == (n : Int)) = true := by simp [hc1]
        go_wp2
        go_ret
        refine ⟨ret_bool ?_, d, rfl⟩
        rw [Bool.eq_iff_iff, HBB.out]
        simp
        omega
      · have hd1 : ((k : Int) == (n : Int)) = false := by simp; omega
        go_wp2
        go_ret
        refine ⟨ret_bool ?_, d, rfl⟩
        rw [Bool.eq_iff_iff, HBB.out]
        simp
        omega
end Go.Proofs.YtamabhdbcmjbjaaDoor
