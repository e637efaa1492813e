/- The model's edge deck. -/
import Derived.Test.YtdhfnjpjccjkcaaDoorSpecSorted
import Derived.Test.YtdhfnjpjccjkcaaDoorBaseB
import Derived.Test.YtdhfnjpjccjkcaaDoorSpecOf
import Derived.Test.YtdhfnjpjccjkcaaDoorFlip
import Derived.Test.YtdhfnjpjccjkcaaDoorDeckOfFn
namespace Go.Proofs.YtdhfnjpjccjkcaaDoor
open Go.RowKit
set_option linter.unusedVariables false
set_option maxRecDepth 100000

theorem pairs_many : ∀ n : Fin 7, wrap64 ((wrap64 ((n.val : Int) * ((n.val : Int) - 1))).tdiv 2) = ((rows n.val).length : Int) := by decide +kernel
/-- All that one place's round asks. -/
theorem place_step {C k : Nat} (hC : C < 32768) (hk : k < 15) : ∃ bit p d : Nat, bits .and .i64 ((C : Int) / 2 ^ k) 1 = (bit : Int) ∧ bit = C / 2 ^ k % 2 ∧ bit ≤ 1 ∧
    (wrap64 ((2 : Int) ^ k) = (p : Int) ∧ IntKind.i64.wrap ((2 : Int) ^ k) = (p : Int)) ∧ bits .andNot .i64 (C : Int) (p : Int) = (d : Int) ∧ d = less C (2 ^ k) := by
  have f1 := bit_of C k (by omega)
  have hp : 2 ^ k < 1048576 := Nat.lt_of_le_of_lt (Nat.pow_le_pow_right (by omega) (show k ≤ 15 by omega)) (by decide)
  have f2 : wrap64 ((2 : Int) ^ k) = ((2 ^ k : Nat) : Int) := by rw [wrap_pow k (by omega)]
  have f4 := less_op C (2 ^ k) (by omega) hp
  refine ⟨_, 2 ^ k, _, f1, rfl, by omega, ⟨f2, ?_⟩, f4, rfl⟩
  rw [wrap_i64_64]
  exact f2

set_option maxHeartbeats 4000000 in
theorem specDeckByEdges_yes (B : Nat) (v : Value) (L : List Int) (hg : IsGraph L) (w : World) (h : Row w B v L) :
    Calls Tryd.prog 24 #[v] w (Told w (edgeDeckL L) true) := by
  have H1 := Lib.hid (specIn_any B v L true ⟨fun _ => hg, fun _ => rfl⟩)
  have h1 := hg.1
  have h6 := hg.2.1
  have hc := crun_small L _ (rows_length _ h6)
  have hm : wrap64 ((wrap64 ((L.length : Int) * ((L.length : Int) - 1))).tdiv 2) = ((rows L.length).length : Int) := pairs_many ⟨L.length, by omega⟩
  have hED : edgeDeckL L = sortL (edTo L (rows L.length).length) := rfl
  have hm15 := rows_length _ h6
  have hcl : ∀ k, codeLess L k = less (codeOf L) (2 ^ k) := fun _ => rfl
  have hcc : crun L (rows L.length) = crun L (rows L.length) := rfl
  obtain ⟨A, c, rfl, hs⟩ := h.seen
  have HCO := Lib.hid (fun w1 (b : Below w.heap.size w w1) => specCode_seen A c L hg w1 (hs.below b))
  have hCdef : codeOf L < 32768 := hc
  obtain ⟨n, hn⟩ : ∃ n, n = L.length := ⟨_, rfl⟩
  obtain ⟨C, eC⟩ : ∃ C, C = codeOf L := ⟨_, rfl⟩
  rw [← eC] at HCO hCdef hcl
  rw [← hn] at h1 h6 hm hED hm15 HCO H1 h ⊢
  obtain ⟨M, eM⟩ : ∃ M, M = (rows n).length := ⟨_, rfl⟩
  rw [← eM] at hm hED hm15
  have HN := Lib.hid hn
  have HR := Lib.hid h
  have HG := Lib.hid hg
  have HE := Lib.hid hED
  have HC := Lib.hid eC
  have HCL := Lib.hid hcl
  have HM := Lib.hid eM
  have R0 := Lib.hid (emptyRow w)
  have B0 := Lib.hid ((Below.refl w.heap.size w).alloc (Nat.le_refl _) (.cells #[] 3))
  clear h hg hn hs hED hc hcl hcc eC eM
  go_enter Tryd.func24, Tryd.ntmps24
  go_wp2_with fail
  refine (H1.out _ (Row.alloc HR.out _)).mono ?_
  rintro e w1 ⟨rfl, d, rfl⟩
  have B1 := Lib.hid (below_drewN B0.out d)
  have R1 := Lib.hid (Row.drewN R0.out d)
  go_wp2_with fail
  refine (HCO.out _ B1.out).mono ?_
  rintro e w2 ⟨rfl, rfl⟩
  go_wp2
  go_loopw [4, 6] (fun v i wr => ∃ k : Nat, k ≤ M ∧ i = .int .i64 k ∧ Hid (Row wr w.heap.size v (edTo L k)) ∧ Hid (Below w.heap.size w wr)) (fun _ i _ => M - (intOf i).toNat)
  case atStart => exact ⟨0, Nat.zero_le _, rfl, R1, B1⟩
  case round =>
    obtain ⟨k, hk, rfl, hr, hb⟩ := hrel
    by_cases hlt : k < M
    · obtain ⟨bit, p, q, f1, eb, hb1, ⟨f2, f2'⟩, f3, eq⟩ := place_step hCdef (show k < 15 by omega)
      have hst : edTo L (k + 1) = edTo L k ++ (if C / 2 ^ k % 2 = 1 then [((leastL (codeG L.length (codeLess L k)) : Nat) : Int)] else []) := by rw [HC.out]; rfl
      have hlen : (edTo L k).length ≤ 100000 := Nat.le_trans (edTo_length L k) (by omega)
      have HLN := Lib.hid hlen
      have hk64 : k < 64 := by omega
      by_cases hbit : C / 2 ^ k % 2 = 1
      · have hb2 : (bits .and .i64 ((C : Int) / 2 ^ k) 1 == 1) = true := by rw [f1, eb, hbit]; rfl
        rw [if_pos hbit] at hst
        have HST := Lib.hid hst
        have hq : q < 1048576 := by rw [eq]; exact Nat.lt_of_le_of_lt (less_le _ _) (by omega)
        have HOF := Lib.hid (specOf_any n q wr h6 h1 hq)
        have hgq : IsGraph (codeG n q) := codeG_graph _ h1 h6
        have hqe : q = codeLess L k := by rw [HCL.out k]; exact eq
        have HQ := Lib.hid hqe
        have hgl : (codeG n q).length = n := codeG_length _ _
        have HGL := Lib.hid hgl
        have HGQ := Lib.hid hgq
        clear hst hlen eb hbit hqe hgl hgq hq eq f1
        go_wp2_with fail
        refine HOF.out.mono ?_
        rintro e w3 ⟨v3, rfl, r3, b3⟩
        have r3' : Row w3 wr.heap.size v3 (codeG n q) := r3
        obtain ⟨A3, c3, rfl, s3⟩ := r3'.seen
        have HLE := Lib.hid (specLeast_seen A3 c3 (codeG n q) HGQ.out w3 s3)
        have B3 := Lib.hid b3
        clear r3 r3' s3 b3
        go_wp2_with fail
        refine HLE.out.mono ?_
        rintro e w4 ⟨rfl, b4⟩
        have hz : Below wr.heap.size wr w4 := B3.out.trans (b4.mono B3.out.size)
        have KR := Lib.hid (Row.below hr.out hz)
        have B4 := Lib.hid (hb.out.trans (hz.mono hb.out.size))
        have hw4 := B4.out.size
        obtain ⟨card, ec⟩ : ∃ card, card = leastL (codeG n q) := ⟨_, rfl⟩
        have EC := Lib.hid (show (card : Nat) = leastL (codeG L.length (codeLess L k)) by rw [ec, HQ.out, HN.out])
        rw [← ec]
        clear ec b4 hz
        go_wp2_with (at_builtin; refine append_one rfl (.tmp 30) (.tmp 39) rfl w4 w.heap.size u4 (edTo L k) (card : Int) rfl rfl KR.out hw4 HLN.out ?_; intro v' w' hr' hb')
        go_roundw
        case rel => exact ⟨k + 1, by omega, by go_num, Lib.hid (by rw [HST.out, ← EC.out]; exact hr'.out), Lib.hid (B4.out.trans hb'.out)⟩
        case measure => simp [intOf]; omega
      · have hb2 : (bits .and .i64 ((C : Int) / 2 ^ k) 1 == 1) = false := by
          have hb0 : bit = 0 := by omega
          rw [f1, hb0]; rfl
        rw [if_neg hbit, List.append_nil] at hst
        have HST := Lib.hid hst
        clear hst hlen eb hbit eq f1
        go_wp2
        go_roundw
        case rel => exact ⟨k + 1, by omega, by go_num, Lib.hid (by rw [HST.out]; exact hr.out), hb⟩
        case measure => simp [intOf]; omega
    · have hkn : k = M := by omega
      subst hkn
      obtain ⟨A1, c1, rfl, s1⟩ := hr.out.seen
      have hll : (edTo L k).length ≤ 15 := Nat.le_trans (edTo_length L k) hm15
      have HSO := Lib.hid (specSorted_seen A1 c1 (edTo L k) (by omega) wr s1)
      clear s1
      go_wp2_with fail
      refine HSO.out.mono ?_
      rintro e w3 ⟨v3, rfl, r3, b3⟩
      go_wp2
      go_ret2
      exact ⟨_, rfl, by rw [HE.out]; exact r3.mono hb.out.size, hb.out.trans (b3.mono hb.out.size)⟩
theorem specDeckByEdges_no (B : Nat) (v : Value) (L : List Int) (hg : ¬ IsGraph L) (w : World) (h : Row w B v L) :
    Calls Tryd.prog 24 #[v] w (Told w [] false) := by
  have H1 := Lib.hid (specIn_any B v L false ⟨fun h => (by cases h), fun h => absurd h hg⟩)
  have HR := Lib.hid h
  have R0 := Lib.hid (emptyRow w)
  have B0 := Lib.hid ((Below.refl w.heap.size w).alloc (Nat.le_refl _) (.cells #[] 3))
  clear hg h
  go_enter Tryd.func24, Tryd.ntmps24
  go_wp2_with fail
  refine (H1.out _ (Row.alloc HR.out _)).mono ?_
  rintro e w1 ⟨rfl, d, rfl⟩
  go_wp2
  go_ret2
  exact ⟨_, rfl, Row.drewN R0.out d, below_drewN B0.out d⟩
end Go.Proofs.YtdhfnjpjccjkcaaDoor
