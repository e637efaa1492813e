/- The program's blocks: the sets of a list, each once. -/
import Derived.Test.YtcemhepojjbcgaaDoorOrbMath
import Derived.Test.YtcemhepojjbcgaaDoorBaseA
namespace Go.Proofs.YtcemhepojjbcgaaDoor
open Go Go.RowKit
set_option linter.unusedVariables false
set_option maxRecDepth 100000

set_option maxHeartbeats 2000000 in
theorem blocks_any (A : Option Addr) (c n : Nat) (S : List Nat) (hl : S.length = n) (h6 : n ≤ 6) (hS : ∀ u, u < n → at_ S u < 2 ^ n) (w : World) (h : Seen w A (ints S)) :
    Calls Tryd.prog 116 #[.slice A n c] w (Gave w (ints (blkTo (at_ S) n).1)) := by
  have H := Lib.hid h
  have HL := Lib.hid hl
  have HS := Lib.hid hS
  have R0 := Lib.hid (World.ownsRow_nil w w.heap.size 3 1)
  have B0 := Lib.hid (Below.refl w.heap.size w)
  obtain ⟨s, es⟩ : ∃ s, s = w.heap.size := ⟨_, rfl⟩
  have ES := Lib.hid es
  rw [← es] at R0 B0
  clear h hl hS es
  go_enter Tryd.func116, Tryd.ntmps116
  go_wp2
  go_loopw [3, 4, 9] (fun o q i wr => ∃ v : Nat, v ≤ n ∧ i = .int .i64 v ∧ q = .int .i64 ((blkTo (at_ S) v).2 : Nat) ∧ Hid (Row wr s o (ints (blkTo (at_ S) v).1)) ∧ Hid (Below s w wr)) (fun _ _ i _ => n - (intOf i).toNat)
  case atStart => exact ⟨0, Nat.zero_le _, rfl, rfl, R0, B0⟩
  case round =>
    obtain ⟨v, hv, rfl, rfl, ho, hb⟩ := hrel
    have hql := (blkTo_lt HS.out v hv).1
    have hll := (blkTo_lt HS.out v hv).2
    have hp64 := two_le h6
    obtain ⟨q, eq⟩ : ∃ q, q = (blkTo (at_ S) v).2 := ⟨_, rfl⟩
    rw [← eq] at hql
    rw [← eq]
    have HQ := Lib.hid eq
    clear eq
    by_cases hlt : v < n
    · obtain ⟨bk, off, rfl, hbl, hc⟩ := H.out v (by rw [ints_length, HL.out]; exact hlt)
      rw [ints_at (by rw [HL.out]; exact hlt)] at hc
      have hcw : wr.cell? ⟨bk, off + v, none⟩ = some (.int .i64 (at_ S v : Nat)) := (hb.out.cell (p := ⟨bk, off + v, none⟩) (by show bk < s; rw [ES.out]; exact hbl)).trans hc
      have hzl := HS.out v hlt
      obtain ⟨bit, ebit, hbit, f1⟩ := and_facts q v (Nat.lt_of_lt_of_le hql (Nat.le_trans hp64 (by decide)))
      have EBT := Lib.hid ebit
      have hv1 : (0 : Int) ≤ (v : Int) ∧ (v : Int) < (n : Int) := by omega
      clear ebit hc hbl
      by_cases hb1 : bit = 1
      · subst hb1
        have hstep := Lib.hid (blkTo_yes (f := at_ S) (v := v) (by rw [← HQ.out]; exact EBT.out.symm))
        go_wp2
        go_roundw
        case rel => exact ⟨v + 1, by omega, by go_num, by rw [hstep.out, HQ.out], Lib.hid (by rw [hstep.out]; exact ho.out), hb⟩
        case measure => simp [intOf]; omega
      · have hb0 : bit = 0 := by omega
        subst hb0
        have hstep := Lib.hid (blkTo_no (f := at_ S) (v := v) (by rw [← HQ.out, ← EBT.out]; omega))
        obtain ⟨z, ez⟩ : ∃ z, z = at_ S v := ⟨_, rfl⟩
        rw [← ez] at hzl hstep hcw
        have wor := i64_or_nat q z (Nat.lt_of_lt_of_le hql (Nat.le_trans hp64 (by decide))) (Nat.lt_of_lt_of_le hzl (Nat.le_trans hp64 (by decide)))
        clear ez
        go_wp2_with (at_builtin; refine append_one rfl (.tmp 19) (.tmp 21) rfl wr s u3 (ints (blkTo (at_ S) v).1) (z : Int) rfl rfl ho.out (by rw [ES.out]; exact hb.out.size) (by rw [ints_length]; omega) ?_; intro v3 w3 hv3 hb3
                     have BV3 := Lib.hid (hb.out.trans hb3.out)
                     clear hb3)
        go_roundw
        case rel => exact ⟨v + 1, by omega, by go_num, by rw [hstep.out, HQ.out], Lib.hid (by rw [hstep.out]; have h0 := hv3.out; simpa [ints] using h0), BV3⟩
        case measure => simp [intOf]; omega
    · have hve : v = n := by omega
      subst hve
      go_wp2
      go_ret
      exact ⟨_, rfl, by rw [← ES.out]; exact ho.out, by rw [← ES.out]; exact hb.out⟩
#print axioms blocks_any
end Go.Proofs.YtcemhepojjbcgaaDoor
