/- The program's beside: two graphs of up to six nodes each. -/
import Derived.Test.YtnnobbbljpaieaaDoorBaseA
import Derived.Test.YtnnobbbljpaieaaDoorJoinMath
namespace Go.Proofs.YtnnobbbljpaieaaDoor
open Go.RowKit
set_option linter.unusedVariables false
set_option maxRecDepth 100000

set_option maxHeartbeats 2000000 in
theorem beside_both (B B' : Nat) (v v' : Value) (L M : List Int) (hL : IsGraph L) (hM : IsGraph M) (w : World) (h : Row w B v L) (h' : Row w B' v' M) :
    Calls Tryd.prog 25 #[v, v'] w (Gave w (joinL L M)) := by
  have g1 := hL.1
  have g2 := hM.1
  have k1 := hL.2.1
  have k2 := hM.2.1
  obtain ⟨A, c, rfl, s1⟩ := h.seen
  obtain ⟨A', c', rfl, s2⟩ := h'.seen
  have HM := Lib.hid hM
  have S1 := Lib.hid s1
  have S2 := Lib.hid s2
  obtain ⟨n, hn⟩ : ∃ n, n = L.length := ⟨_, rfl⟩
  obtain ⟨m, hm⟩ : ∃ m, m = M.length := ⟨_, rfl⟩
  have hmk := run_make_graph (n + m) (by omega)
  rw [Int.natCast_add] at hmk
  have hmk2 : ∀ w : World, (Instr.makeSlice 31 (.int .i64 ((n : Int) + (m : Int))) (.int .i64 ((n : Int) + (m : Int)))).run Tryd.prog w = .ok (.slice (some ⟨w.heap.size, 0, none⟩) (n + m) (n + m)) (madeW w (n + m)) := hmk
  rw [← hn] at g1 k1 ⊢
  rw [← hm] at g2 k2 ⊢
  have HN := Lib.hid hn
  have HMM := Lib.hid hm
  obtain ⟨g, eg⟩ : ∃ g, g = w.heap.size := ⟨_, rfl⟩
  have HG := Lib.hid eg
  have R0 := madeW_row w (n + m) (by omega)
  have M0 := madeW_below w (n + m)
  have T1 := Lib.hid (s1.below M0)
  have RR := Lib.hid R0
  have MM := Lib.hid M0
  have hxl : (ints (List.replicate (n + m) 0)).length = n + m := by rw [ints_length, List.length_replicate]
  have HXL := Lib.hid hxl
  have hdz : (ints (List.replicate (n + m) 0)).drop n = List.replicate m 0 := by simp [ints]
  have HDZ := Lib.hid hdz
  clear hL hM h h' s1 s2 hn hm eg R0 M0 hmk hxl hdz
  go_enter Tryd.func25, Tryd.ntmps25
  go_wp2_with (refine copy_lens rfl (.tmp 14) (.tmp 15) rfl (madeW w (n + m)) w.heap.size w.heap.size (n + m) (n + m) n (ints (List.replicate (n + m) 0)) L HXL.out HN.out.symm A c rfl rfl RR.out T1.out g1 (Nat.le_add_right _ _) ?_; intro w1 hr1 hb1)
  have hr1' : Row w1 w.heap.size (.slice (some ⟨w.heap.size, 0, none⟩) (n + m) (n + m)) (filled L M 0) := by
    have h0 := hr1.out
    rw [HDZ.out] at h0
    rw [filled_zero, ← HMM.out]
    exact h0
  have hb1' : Below w.heap.size w w1 := MM.out.trans hb1.out
  have HR1 := Lib.hid hr1'
  have HB1 := Lib.hid hb1'
  have S3 := Lib.hid (S2.out.below hb1')
  clear hr1 hb1 hr1' hb1' hmk2
  obtain ⟨g', eg'⟩ : ∃ g', g' = w.heap.size := ⟨_, rfl⟩
  rw [← eg'] at HR1 HB1 ⊢
  have EG := Lib.hid eg'
  have hgl : g' ≤ w.heap.size := by omega
  clear eg'
  go_loopw [19] (fun i wr => ∃ k : Nat, k ≤ m ∧ i = .int .i64 k ∧ Hid (Row wr g' (.slice (some ⟨g', 0, none⟩) (n + m) (n + m)) (filled L M k)) ∧ Hid (Below g' w wr)) (fun i _ => m - (intOf i).toNat)
  case atStart => exact ⟨0, Nat.zero_le _, rfl, HR1, HB1⟩
  case round =>
    obtain ⟨k, hk, rfl, hr, hb⟩ := hrel
    by_cases hlt : k < m
    · obtain ⟨blk, off, rfl, hbl, hc⟩ := S2.out k (by have := HMM.out; omega)
      have hin := (HM.out.2.2 k (by have := HMM.out; omega)).1
      have hX := ent_int hin
      have hXl := ent_lt hin
      have h64 := two_le (n := M.length) (by have := HMM.out; omega)
      obtain ⟨X, eX⟩ : ∃ X, X = ent M k := ⟨_, rfl⟩
      rw [← eX] at hX hXl
      rw [hX] at hc
      have hX64 : X < 64 := by omega
      obtain ⟨z, ez, f1⟩ := up_op X n hX64 (by omega)
      have hcw : wr.cell? ⟨blk, off + k, none⟩ = some (.int .i64 X) := (hb.out.cell (p := ⟨blk, off + k, none⟩) (by show blk < g'; have := EG.out; omega)).trans hc
      have hi1 : (0 : Int) ≤ (k : Int) ∧ (k : Int) < (m : Int) := by omega
      have hi2 : (0 : Int) ≤ (n : Int) + (k : Int) ∧ (n : Int) + (k : Int) < ((n + m : Nat) : Int) := by omega
      have hi3 : ((n : Int) + (k : Int)).toNat = n + k := by omega
      have hlen2 : n + k < (filled L M k).length := by rw [filled_length L M k (by have := HMM.out; omega)]; have := HN.out; have := HMM.out; omega
      obtain ⟨old, eo⟩ : ∃ old, old = (filled L M k)[n + k]?.getD 0 := ⟨_, rfl⟩
      have hgc : wr.cell? ⟨g', n + k, none⟩ = some (.int .i64 old) := by rw [eo]; exact hr.out.cellAt (n + k) hlen2
      have hgf : wr.frozen? ⟨g', n + k, none⟩ = false := hr.out.frozenAt (n + k) hlen2
      have rs := hr.out.set (n + k) hlen2 (z : Int)
      have es : (filled L M k).set (n + k) (z : Int) = filled L M (k + 1) := by
        rw [ez, eX, HN.out]
        exact filled_succ L M k (by have := HMM.out; omega)
      rw [es] at rs
      have RS := Lib.hid rs
      clear hc hbl eX hin hX hXl h64 ez hlen2 eo rs es
      go_wp2
      go_roundw
      case rel => exact ⟨k + 1, by omega, by go_num, RS, Lib.hid (hb.out.setCell (p := ⟨g', n + k, none⟩) (Nat.le_refl _) _)⟩
      case measure => simp [intOf]; omega
    · have hkm : k = m := by omega
      subst hkm
      go_wp2
      go_ret
      refine ⟨_, rfl, ?_, by rw [← EG.out]; exact hb.out⟩
      have h0 := hr.out
      rw [HMM.out, filled_all] at h0
      rw [← EG.out, HMM.out]
      exact h0
end Go.Proofs.YtnnobbbljpaieaaDoor
