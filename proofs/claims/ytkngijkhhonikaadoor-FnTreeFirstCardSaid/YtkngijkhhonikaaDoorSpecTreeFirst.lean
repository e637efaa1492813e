/- The model's TreeFirst. -/
import Derived.Test.YtkngijkhhonikaaDoorCutMath
import Derived.Test.YtkngijkhhonikaaDoorSpecOf
import Derived.Test.YtkngijkhhonikaaDoorBaseA
import Derived.Test.YtkngijkhhonikaaDoorBaseG
namespace Go.Proofs.YtkngijkhhonikaaDoor
open Go Go.RowKit
set_option linter.unusedVariables false
set_option maxRecDepth 100000

theorem sub_and9 (a b : Nat) (ha : a < 2 ^ 63) (hb : b < 2 ^ 63) : (a &&& (18446744073709551615 - b) = 0) ↔ a &&& b = a := by
  have hbit : ∀ i, (18446744073709551615 - b).testBit i = (decide (i < 64) && !b.testBit i) := fun i => by
    have := Nat.testBit_two_pow_sub_succ (x := b) (n := 64) (by omega) i
    rw [← this]
    congr 1
    omega
  have hhi : ∀ i, 63 ≤ i → a.testBit i = false := fun i hi => Nat.testBit_lt_two_pow (Nat.lt_of_lt_of_le ha (Nat.pow_le_pow_right (by omega) hi))
  constructor
  · intro h
    refine Nat.eq_of_testBit_eq fun i => ?_
    have h1 : (a &&& (18446744073709551615 - b)).testBit i = false := by rw [h]; simp
    rw [Nat.testBit_and, hbit] at h1
    rw [Nat.testBit_and]
    by_cases hi : i < 63
    · have : decide (i < 64) = true := by simp; omega
      rw [this] at h1
      cases h2 : a.testBit i <;> cases h3 : b.testBit i <;> simp_all
    · rw [hhi i (by omega)]; rfl
  · intro h
    refine Nat.eq_of_testBit_eq fun i => ?_
    rw [Nat.testBit_and, hbit, Nat.zero_testBit]
    have h1 : (a &&& b).testBit i = a.testBit i := by rw [h]
    rw [Nat.testBit_and] at h1
    cases h2 : a.testBit i <;> cases h3 : b.testBit i <;> simp_all
theorem low_bits (a : Nat) (ha : a < 32768) (b : Nat) (hb : b < 32768) : less a b = 0 ↔ a &&& b = a := sub_and9 a b (Nat.lt_trans ha (by decide)) (Nat.lt_trans hb (by decide))

/-- A linked graph's first tree: its facts in letters. -/
theorem first_pack {L : List Int} (h : IsLinked L) : ∃ C r : Nat, codeOf L = C ∧ frT L = r ∧ r ≤ C ∧ C < 32768 ∧
    (less r C = 0 ∧ pcf 15 r + 1 = L.length ∧ IsLinked (ints (ofCode L.length r))) ∧
    ∀ c, c < r → ¬ (less c C = 0 ∧ pcf 15 c + 1 = L.length ∧ IsLinked (ints (ofCode L.length c))) := by
  obtain ⟨h1, h2, h3⟩ := first_facts h
  have hC : codeOf L < 32768 := crun_small L _ (rows_length L.length h.1.2.1)
  have g1 := h.1.1
  have g6 := h.1.2.1
  have hcl := code_lt L
  have hl := rows_len ⟨L.length, by omega⟩
  dsimp only at hl
  rw [hl] at hcl
  have hle : frT L ≤ codeOf L := by rw [← h2]; exact Nat.and_le_right
  have hT : ∀ c, treeC L.length c = true ↔ pcf 15 c + 1 = L.length ∧ IsLinked (ints (ofCode L.length c)) := fun c => by
    have hgr := codeG_graph (n := L.length) c g1 g6
    have hgl := codeG_length L.length c
    unfold treeC IsLinked
    rw [Bool.and_eq_true]
    constructor
    · rintro ⟨a, b⟩
      refine ⟨Nat.eq_of_beq_eq_true a, hgr, ?_⟩
      have := Nat.eq_of_beq_eq_true b
      change turns (codeG L.length c) (codeG L.length c).length = 2 ^ (codeG L.length c).length - 1
      rw [hgl]; exact this
    · rintro ⟨a, _, b⟩
      change turns (codeG L.length c) (codeG L.length c).length = 2 ^ (codeG L.length c).length - 1 at b
      rw [hgl] at b
      exact ⟨by rw [a]; exact Nat.beq_refl _, by rw [b]; exact Nat.beq_refl _⟩
  refine ⟨codeOf L, frT L, rfl, rfl, hle, hC, ⟨(low_bits _ (by omega) _ hC).2 h2, (hT _).1 h1⟩, fun c hc ⟨a, b⟩ => ?_⟩
  have hs := (low_bits c (by omega) _ hC).1 a
  have := h3 c ((hT c).2 b) (by omega) hs
  omega

open Classical in
set_option maxHeartbeats 4000000 in
theorem specTF_yes (B : Nat) (v : Value) (L : List Int) (hl : IsLinked L) (w : World) (h : Row w B v L) :
    Calls Tryd.prog 28 #[v] w (NumOkA w (frT L) true) := by
  have h1 := hl.1.1
  have h6 := hl.1.2.1
  have H1 := Lib.hid (specLinked_any B v L true ⟨fun _ => hl, fun _ => rfl⟩ w h)
  obtain ⟨A, c, rfl, hs⟩ := h.seen
  obtain ⟨C, r, eC, er, hrC, hC, hyes, hno⟩ := first_pack hl
  have HC := Lib.hid (fun d => specCode_seen A c L hl.1 (w.drewN d) (hs.below (below_drewN (Below.refl _ _) d)))
  rw [eC] at HC
  rw [er]
  obtain ⟨n, hn⟩ : ∃ n, n = L.length := ⟨_, rfl⟩
  rw [← hn] at h1 h6 H1 HC hyes hno ⊢
  have HSZ := Lib.hid (fun c hc w => size_code c hc w)
  have HOF := Lib.hid (fun c (hc : c < 1048576) w => specOf_any n c w h6 h1 hc)
  have HLK : Hid (∀ c, ∃ k : Bool, (k = true ↔ IsLinked (ints (ofCode n c))) ∧ ∀ B v w, Row w B v (ints (ofCode n c)) → Calls Tryd.prog 53 #[v] w (Looked w k)) := Lib.hid fun c => ⟨decide (IsLinked (ints (ofCode n c))), by simp, fun B v w hr => specLinked_any B v _ _ (by simp) w hr⟩
  obtain ⟨m, hm⟩ : ∃ m : Nat, (n : Int) - 1 = (m : Int) := ⟨n - 1, by omega⟩
  have hw : wrap64 ((n : Int) - 1) = (m : Int) := by unfold wrap64; omega
  have hmn : m + 1 = n := by omega
  have HY := Lib.hid hyes
  have HNO := Lib.hid hno
  have HMN := Lib.hid hmn
  clear h hs hl eC er hn hyes hno hmn
  go_enter Tryd.func28, Tryd.ntmps28
  go_wp2_with fail
  refine H1.out.mono ?_
  rintro e w1 ⟨rfl, d, rfl⟩
  go_wp2_with fail
  refine (HC.out d).mono ?_
  rintro e w1 ⟨rfl, rfl⟩
  have B0 := Lib.hid (below_drewN (Below.refl w.heap.size w) d)
  obtain ⟨wd, ewd⟩ : ∃ wd, wd = w.drewN d := ⟨_, rfl⟩
  rw [← ewd] at B0 ⊢
  clear ewd H1 HC
  go_wp2
  go_loopw [5] (fun i wr => ∃ c : Nat, c ≤ r ∧ i = .int .i64 c ∧ Hid (Below w.heap.size w wr)) (fun i _ => r - (intOf i).toNat)
  case atStart => exact ⟨0, Nat.zero_le _, rfl, B0⟩
  case round =>
    obtain ⟨c', hc', rfl, hb⟩ := hrel
    have hno := fun (h : c' < r) => HNO.out c' h
    have hyes := fun (h : c' = r) => (show less c' C = 0 ∧ pcf 15 c' + 1 = n ∧ IsLinked (ints (ofCode n c')) by rw [h]; exact HY.out)
    have f1 := less_op c' C (by omega) (by omega)
    have hll := less_le c' C
    have HS := Lib.hid (HSZ.out c' (by omega))
    have HO := Lib.hid (HOF.out c' (by omega))
    obtain ⟨k, hk, hkc⟩ := HLK.out c'
    obtain ⟨x, ex⟩ : ∃ x, x = less c' C := ⟨_, rfl⟩
    obtain ⟨p, ep⟩ : ∃ p, p = pcf 15 c' := ⟨_, rfl⟩
    rw [← ex] at hno hyes f1 hll
    rw [← ep] at hno hyes HS
    have hmn := HMN.out
    by_cases hx : x = 0
    · have e1 : ((x : Int) == 0) = true := by simp; omega
      subst hx
      by_cases hp : p + 1 = n
      · have hpm : p = m := by omega
        have e2 : ((p : Int) == (m : Int)) = true := by simp; omega
        cases k with
        | true =>
          have hcr : c' = r := by
            rcases Nat.lt_or_ge c' r with h | h
            · exact absurd ⟨rfl, hp, hk.1 rfl⟩ (hno h)
            · omega
          have CR := Lib.hid hcr
          have HKC := Lib.hid hkc
          clear hno hyes hkc hk hp hmn ex ep hll hcr hc' hpm
          go_wp2_with fail
          refine (HS.out _).mono ?_
          rintro e w2 ⟨rfl, rfl⟩
          go_wp2_with fail
          refine (HO.out _).mono ?_
          rintro e w2 ⟨v', rfl, hr, hb2⟩
          go_wp2_with fail
          refine (HKC.out _ _ _ hr).mono ?_
          rintro e w3 ⟨rfl, d3, rfl⟩
          go_wp2
          go_ret2
          exact ⟨by rw [CR.out]; rfl, below_drewN (hb.out.trans (hb2.mono hb.out.size)) d3⟩
        | false =>
          have hcr : c' < r := by
            rcases Nat.lt_or_ge c' r with h | h
            · exact h
            · have := hk.2 (hyes (by omega)).2.2; cases this
          have HKC := Lib.hid hkc
          clear hno hyes hkc hk hp hmn ex ep hll hpm
          go_wp2_with fail
          refine (HS.out _).mono ?_
          rintro e w2 ⟨rfl, rfl⟩
          go_wp2_with fail
          refine (HO.out _).mono ?_
          rintro e w2 ⟨v', rfl, hr, hb2⟩
          go_wp2_with fail
          refine (HKC.out _ _ _ hr).mono ?_
          rintro e w3 ⟨rfl, d3, rfl⟩
          have hb3 := below_drewN (hb.out.trans (hb2.mono hb.out.size)) d3
          go_wp2
          go_roundw
          case rel => exact ⟨c' + 1, by omega, by go_num, Lib.hid hb3⟩
          case measure => simp [intOf]; omega
      · have e2 : ((p : Int) == (m : Int)) = false := by simp; omega
        have hcr : c' < r := by
          rcases Nat.lt_or_ge c' r with h | h
          · exact h
          · exact absurd (hyes (by omega)).2.1 hp
        clear hno hyes hkc hk hmn ex ep hll
        go_wp2_with fail
        refine (HS.out _).mono ?_
        rintro e w2 ⟨rfl, rfl⟩
        go_wp2
        go_roundw
        case rel => exact ⟨c' + 1, by omega, by go_num, hb⟩
        case measure => simp [intOf]; omega
    · have e1 : ((x : Int) == 0) = false := by simp; omega
      have hcr : c' < r := by
        rcases Nat.lt_or_ge c' r with h | h
        · exact h
        · exact absurd (hyes (by omega)).1 hx
      clear hno hyes hkc hk hmn ex ep hll hx
      go_wp2
      go_roundw
      case rel => exact ⟨c' + 1, by omega, by go_num, hb⟩
      case measure => simp [intOf]; omega
theorem specTF_no (B : Nat) (v : Value) (L : List Int) (hl : ¬ IsLinked L) (w : World) (h : Row w B v L) :
    Calls Tryd.prog 28 #[v] w (NumOkA w 0 false) := by
  have H1 := Lib.hid (specLinked_any B v L false ⟨fun h => (by cases h), fun h => absurd h hl⟩ w h)
  clear hl h
  go_enter Tryd.func28, Tryd.ntmps28
  go_wp2_with fail
  refine H1.out.mono ?_
  rintro e w1 ⟨rfl, d, rfl⟩
  go_wp2
  go_ret2
  exact ⟨rfl, below_drewN (Below.refl _ _) d⟩
end Go.Proofs.YtkngijkhhonikaaDoor
