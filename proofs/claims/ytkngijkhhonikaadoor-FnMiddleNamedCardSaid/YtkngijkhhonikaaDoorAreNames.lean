/- Names by the program: areNames. -/
import Derived.Test.YtkngijkhhonikaaDoorBaseG
import Derived.Test.YtkngijkhhonikaaDoorBaseA
namespace Go.Proofs.YtkngijkhhonikaaDoor
open Go.RowKit
set_option linter.unusedVariables false

theorem seen_test (P : List Nat) (x : Nat) : seenOf P / 2 ^ x % 2 = 1 ↔ x ∈ P := by
  rw [← seenOf_bit, Nat.testBit_eq_decide_div_mod_eq, decide_eq_true_eq]
theorem not_nodup {P : List Int} {k : Nat} (hk : k < P.length) (h : (P[k]?.getD 0).toNat ∈ (natOf P).take k) : ¬ (natOf P).Nodup := fun hn => by
  have h2 : ((natOf P).take (k + 1)).Nodup := hn.sublist (List.take_sublist _ _)
  rw [natOf_take P k hk, List.nodup_append] at h2
  exact h2.2.2 _ h _ (by simp) rfl

set_option maxHeartbeats 2000000 in
theorem areNames_any (A : Option Addr) (c n : Nat) (P : List Int) (b : Bool) (hb : b = true ↔ IsNames P n) (w : World) (h : Seen w A P) (h1 : 1 ≤ n) (h6 : n ≤ 6) (hl : P.length ≤ 1048576) :
    Calls Tryd.prog 58 #[.slice A P.length c, .int .i64 n] w (Looked w b) := by
  obtain ⟨m, hm⟩ : ∃ m, m = P.length := ⟨_, rfl⟩
  rw [← hm] at hl ⊢
  have HM := Lib.hid hm
  have H := Lib.hid h
  have HB := Lib.hid hb
  clear h hb hm
  by_cases hmn : m = n
  · have hd1 : ((m : Int) == (n : Int)) = true := by simp [hmn]
    go_enter Tryd.func58, Tryd.ntmps58
    go_wp2
    go_loopw [5, 14] (fun s i wr => ∃ q k : Nat, q < 64 ∧ k ≤ m ∧ s = .int .i64 q ∧ i = .int .i64 k ∧ Hid (((∀ u, u < k → InN P n u) ∧ ((natOf P).take k).Nodup) ∧ seenOf ((natOf P).take k) = q) ∧ wr = w) (fun _ i _ => m - (intOf i).toNat)
    case atStart => exact ⟨0, 0, by omega, Nat.zero_le _, rfl, rfl, Lib.hid ⟨⟨fun u hu => absurd hu (by omega), by simp⟩, by simp [seenOf]⟩, rfl⟩
    case round =>
      obtain ⟨q, k, hq, hk, rfl, rfl, hok, rfl⟩ := hrel
      by_cases hlt : k < m
      · obtain ⟨blk, off, rfl, hbl, hcw⟩ := H.out k (by have := HM.out; omega)
        have hi1 : (0 : Int) ≤ (k : Int) ∧ (k : Int) < (m : Int) := by omega
        clear hbl
        obtain ⟨x, ex⟩ : ∃ x, x = P[k]?.getD 0 := ⟨_, rfl⟩
        rw [← ex] at hcw
        have EX := Lib.hid ex
        clear ex
        have fail_ : ¬ IsNames P n → b = false := fun hno => by
          cases b with
          | false => rfl
          | true => exact absurd (HB.out.1 rfl) hno
        have FA := Lib.hid fail_
        clear fail_
        by_cases hneg : x < 0
        · have hd : decide (x < 0) = true := decide_eq_true hneg
          have hno : ¬ IsNames P n := fun hg => by
            have h0 := hg.2.1 k (by have := HM.out; omega)
            unfold InN at h0; rw [← EX.out] at h0; omega
          clear hok
          go_wp2
          go_ret
          exact ⟨ret_bool (FA.out hno).symm, 0, rfl⟩
        · have hd : decide (x < 0) = false := decide_eq_false hneg
          by_cases hbig : (n : Int) ≤ x
          · have hd2 : decide ((n : Int) ≤ x) = true := decide_eq_true hbig
            have hno : ¬ IsNames P n := fun hg => by
              have h0 := hg.2.1 k (by have := HM.out; omega)
              unfold InN at h0; rw [← EX.out] at h0; omega
            clear hok
            go_wp2
            go_ret
            exact ⟨ret_bool (FA.out hno).symm, 0, rfl⟩
          · have hd2 : decide ((n : Int) ≤ x) = false := decide_eq_false hbig
            obtain ⟨y, ey⟩ : ∃ y : Nat, x = (y : Int) := ⟨x.toNat, by omega⟩
            have hy : y < n := by omega
            have hy6 : y < 6 := by omega
            subst ey
            obtain ⟨bit, eb, hb1, f0⟩ := and_facts q y (Nat.lt_trans hq (by decide))
            have hst := seen_test ((natOf P).take k) y
            rw [hok.out.2, ← eb] at hst
            have hkP : k < P.length := by have := HM.out; omega
            by_cases hbit : bit = 1
            · have hno : ¬ IsNames P n := fun hg => not_nodup hkP (by rw [← EX.out]; exact hst.1 hbit) hg.2.2
              subst hbit
              clear hok hst eb
              go_wp2
              go_ret
              exact ⟨ret_bool (FA.out hno).symm, 0, rfl⟩
            · have hb0 : bit = 0 := by omega
              subst hb0
              have hnm : y ∉ (natOf P).take k := fun hm => hbit (hst.2 hm)
              have hp64 := bit_pow (bit := 1) (k := y) (by omega) hy6
              rw [Nat.one_mul] at hp64
              have w1 := wrap_pow y (by omega)
              obtain ⟨p, ep⟩ : ∃ p, p = 2 ^ y := ⟨_, rfl⟩
              rw [← ep] at w1 hp64
              have f1 := i64_or_nat q p (Nat.lt_trans hq (by decide)) (Nat.lt_trans hp64 (by decide))
              have hqp : q ||| p < 64 := Nat.or_lt_two_pow (n := 6) hq hp64
              have EP := Lib.hid ep
              have HK : Hid (((∀ u, u < k + 1 → InN P n u) ∧ ((natOf P).take (k + 1)).Nodup) ∧ seenOf ((natOf P).take (k + 1)) = q ||| p) := Lib.hid (by
                obtain ⟨⟨o1, o3⟩, o2⟩ := hok.out
                refine ⟨⟨fun u hu => ?_, ?_⟩, ?_⟩
                · rcases Nat.lt_succ_iff_lt_or_eq.1 hu with h | h
                  · exact o1 u h
                  · subst h; unfold InN; rw [← EX.out]; omega
                · rw [natOf_take P k hkP, List.nodup_append, ← EX.out]
                  refine ⟨o3, by simp, fun a ha b hb e => hnm ?_⟩
                  simp at hb
                  subst hb
                  rw [← e]; exact ha
                · rw [natOf_take P k hkP, seenOf_snoc, o2, ← EX.out, EP.out]; rfl)
              clear hok ep hst eb hnm
              go_wp2
              go_roundw
              case rel => exact ⟨q ||| p, k + 1, hqp, by omega, rfl, by go_num, HK, trivial⟩
              case measure => simp [intOf]; omega
      · have hkm : k = m := by omega
        subst hkm
        have hyes : IsNames P n := by
          obtain ⟨⟨o1, o3⟩, o2⟩ := hok.out
          have hln : (natOf P).length = k := by simp [natOf]; exact HM.out.symm
          rw [← hln, List.take_length] at o3
          exact ⟨by rw [← HM.out]; exact hmn, fun u hu => o1 u (by have := HM.out; omega), o3⟩
        have hbt : b = true := HB.out.2 hyes
        clear hok
        go_wp2
        go_ret
        exact ⟨ret_bool hbt.symm, 0, rfl⟩
  · have hd1 : ((m : Int) == (n : Int)) = false := by simp; omega
    have hno : ¬ IsNames P n := fun hg => hmn (by rw [HM.out]; exact hg.1)
    go_enter Tryd.func58, Tryd.ntmps58
    go_wp2
    go_ret
    have hbf : b = false := by
      cases b with
      | false => rfl
      | true => exact absurd (HB.out.1 rfl) hno
    exact ⟨ret_bool hbf.symm, 0, rfl⟩
end Go.Proofs.YtkngijkhhonikaaDoor
