/- The model's l6In; the laws' toIntS: a list copied into memory of its own. -/
import Derived.Test.YtdhfnjpjccjkcaaLink
import Derived.StillTailTactics
namespace Go.Proofs.Ytdhfnjpjccjkcaa
open Go.RowKit
set_option linter.unusedVariables false

theorem in_yes (n lo hi : Int) (w : World) (h1 : lo ≤ n) (h2 : n ≤ hi) :
    Calls Try.prog 13 #[.int .i64 n, .int .i64 lo, .int .i64 hi] w fun e w' => e = .returned (.bool true) ∧ w = w' := by
  have e1 : decide (lo ≤ n) = true := by simpa using h1
  have e2 : decide (n ≤ hi) = true := by simpa using h2
  go_enter Try.func13, Try.ntmps13
  go_wp2
  go_ret
  exact ⟨rfl, rfl⟩
theorem in_low (n lo hi : Int) (w : World) (h1 : n < lo) :
    Calls Try.prog 13 #[.int .i64 n, .int .i64 lo, .int .i64 hi] w fun e w' => e = .returned (.bool false) ∧ w = w' := by
  have e1 : decide (lo ≤ n) = false := by simp; omega
  go_enter Try.func13, Try.ntmps13
  go_wp2
  go_ret
  exact ⟨rfl, rfl⟩
theorem in_high (n lo hi : Int) (w : World) (h1 : lo ≤ n) (h2 : hi < n) :
    Calls Try.prog 13 #[.int .i64 n, .int .i64 lo, .int .i64 hi] w fun e w' => e = .returned (.bool false) ∧ w = w' := by
  have e1 : decide (lo ≤ n) = true := by simpa using h1
  have e2 : decide (n ≤ hi) = false := by simp; omega
  go_enter Try.func13, Try.ntmps13
  go_wp2
  go_ret
  exact ⟨rfl, rfl⟩
/-- **l6In says whether a number is not below the one and not above the other.** -/
theorem in_any (n lo hi : Int) (w : World) :
    Calls Try.prog 13 #[.int .i64 n, .int .i64 lo, .int .i64 hi] w fun e w' => e = .returned (.bool (decide (lo ≤ n ∧ n ≤ hi))) ∧ w = w' := by
  by_cases h1 : lo ≤ n
  · by_cases h2 : n ≤ hi
    · exact (in_yes n lo hi w h1 h2).mono fun e w' ⟨he, hw⟩ => ⟨by rw [he]; exact ret_bool (by simp [h1, h2]), hw⟩
    · exact (in_high n lo hi w h1 (by omega)).mono fun e w' ⟨he, hw⟩ => ⟨by rw [he]; exact ret_bool (by simp [h2]), hw⟩
  · exact (in_low n lo hi w (by omega)).mono fun e w' ⟨he, hw⟩ => ⟨by rw [he]; exact ret_bool (by simp [h1]), hw⟩

/-! ### toIntS -/
/-- A slice that came in, or goes from call to call: its numbers are xs. -/
def Seen (w : World) (A : Option Addr) (xs : List Int) : Prop :=
  ∀ k, k < xs.length → ∃ b off, A = some ⟨b, off, none⟩ ∧ b < w.heap.size ∧ w.cell? ⟨b, off + k, none⟩ = some (.int .i64 (xs[k]?.getD 0))
theorem Seen.below {w w' : World} {A : Option Addr} {xs : List Int} (h : Seen w A xs) (hb : Below w.heap.size w w') : Seen w' A xs := fun k hk => by
  obtain ⟨b, off, hA, hlt, hc⟩ := h k hk
  exact ⟨b, off, hA, Nat.lt_of_lt_of_le hlt hb.size, (hb.cell (p := ⟨b, off + k, none⟩) hlt).trans hc⟩

/-- The first k places copied. -/
def copied (xs : List Int) (k : Nat) : List Int := xs.take k ++ List.replicate (xs.length - k) 0
theorem copied_zero (xs : List Int) : copied xs 0 = ints (List.replicate xs.length 0) := by simp [copied, ints]
theorem copied_all (xs : List Int) : copied xs xs.length = xs := by simp [copied]
theorem copied_length (xs : List Int) (k : Nat) (h : k ≤ xs.length) : (copied xs k).length = xs.length := by simp [copied]; omega
theorem copied_succ (xs : List Int) (k : Nat) (h : k < xs.length) : (copied xs k).set k (xs[k]?.getD 0) = copied xs (k + 1) := by
  unfold copied
  have hl : (xs.take k).length = k := by simp; omega
  have e : xs.length - k = (xs.length - (k + 1)) + 1 := by omega
  rw [List.set_append_right _ _ (by omega), hl, Nat.sub_self, e, List.replicate_succ, List.set_cons_zero, List.take_succ_eq_append_getElem h, List.append_assoc]
  simp [h]

set_option maxHeartbeats 400000 in
theorem to_seen (A : Option Addr) (c : Nat) (xs : List Int) (w : World) (hs : xs.length ≤ 1048576) (h : Seen w A xs) :
    Calls Try.prog 11 #[.slice A xs.length c] w (Gave w xs) := by
  obtain ⟨n, hn⟩ : ∃ n, n = xs.length := ⟨_, rfl⟩
  have hmk := run_make_ints n (by omega)
  rw [← hn] at hs ⊢
  have HN := Lib.hid hn
  have H := Lib.hid h
  obtain ⟨g, eg⟩ : ∃ g, g = w.heap.size := ⟨_, rfl⟩
  have HG := Lib.hid eg
  have R0 := Lib.hid (madeW_row w n hs)
  have B0 := Lib.hid (madeW_below w n)
  clear eg hn h
  go_enter Try.func11, Try.ntmps11
  go_wp2
  clear hmk
  obtain ⟨w0, hw0⟩ : ∃ w0, w0 = madeW w n := ⟨_, rfl⟩
  rw [← hw0] at R0 B0 ⊢
  rw [← HG.out] at R0 ⊢
  clear hw0
  go_loopw [4] (fun i wr => ∃ k : Nat, k ≤ n ∧ i = .int .i64 k ∧ Hid (Row wr w.heap.size (.slice (some ⟨g, 0, none⟩) n n) (copied xs k)) ∧ Hid (Below w.heap.size w wr)) (fun i _ => n - (intOf i).toNat)
  case atStart => exact ⟨0, Nat.zero_le _, rfl, Lib.hid (by rw [copied_zero, ← HN.out, ← HG.out]; exact R0.out), B0⟩
  case round =>
    obtain ⟨k, hk, rfl, hr, hb⟩ := hrel
    by_cases hlt : k < n
    · obtain ⟨b, off, rfl, hbl, hc⟩ := H.out k (by have := HN.out; omega)
      obtain ⟨x, ex⟩ : ∃ x, x = xs[k]?.getD 0 := ⟨_, rfl⟩
      rw [← ex] at hc
      have hcw : wr.cell? ⟨b, off + k, none⟩ = some (.int .i64 x) := (hb.out.cell (p := ⟨b, off + k, none⟩) hbl).trans hc
      have hlen : k < (copied xs k).length := by rw [copied_length xs k (by have := HN.out; omega)]; have := HN.out; omega
      obtain ⟨y, ey⟩ : ∃ y, y = (copied xs k)[k]?.getD 0 := ⟨_, rfl⟩
      have hgc : wr.cell? ⟨g, k, none⟩ = some (.int .i64 y) := by rw [ey]; exact hr.out.cellAt k hlen
      have hgf : wr.frozen? ⟨g, k, none⟩ = false := hr.out.frozenAt k hlen
      have r2 := hr.out.set k hlen x
      rw [ex, copied_succ xs k (by have := HN.out; omega), ← ex] at r2
      have R2 := Lib.hid r2
      have hi1 : (0 : Int) ≤ (k : Int) ∧ (k : Int) < (n : Int) := by omega
      have HB := Lib.hid hbl
      clear hc ex ey hlen r2 hbl
      go_wp2
      go_roundw
      case rel => exact ⟨k + 1, by omega, by go_num, R2, Lib.hid (hb.out.setCell (p := ⟨g, k, none⟩) (by show w.heap.size ≤ g; have := HG.out; omega) _)⟩
      case measure => simp [intOf]; omega
    · have hkn : k = n := by omega
      subst hkn
      go_wp2
      go_ret
      exact ⟨_, rfl, by have h0 := hr.out; rw [HN.out, copied_all] at h0; rw [HN.out]; exact h0, hb.out⟩

end Go.Proofs.Ytdhfnjpjccjkcaa
