/- The laws' total adds a list. -/
import Derived.Test.YtneglpklkmoclaaDoorBaseA
namespace Go.Proofs.YtneglpklkmoclaaDoor
open Go Go.RowKit
set_option linter.unusedVariables false
set_option maxRecDepth 100000

theorem sum_take (xs : List Int) {k : Nat} (h : k < xs.length) : (xs.take (k + 1)).sum = (xs.take k).sum + xs[k]?.getD 0 := by
  rw [List.take_succ_eq_append_getElem h, List.sum_append, List.getElem?_eq_getElem h]
  simp
theorem sum_bound (xs : List Int) (hx : ∀ x ∈ xs, 0 ≤ x ∧ x ≤ 1000000) : 0 ≤ xs.sum ∧ xs.sum ≤ 1000000 * (xs.length : Int) := by
  induction xs with
  | nil => simp
  | cons x xs ih =>
    have h1 := hx x (by simp)
    have h2 := ih (fun y hy => hx y (by simp [hy]))
    rw [List.sum_cons, List.length_cons]
    omega

set_option maxHeartbeats 1000000 in
theorem total_any (B : Nat) (v : Value) (xs : List Int) (hl : xs.length ≤ 1000) (hx : ∀ x ∈ xs, 0 ≤ x ∧ x ≤ 1000000) (w : World) (h : Row w B v xs) :
    Calls Tryd.prog 14 #[v] w fun e w' => e = .returned (.int .i64 xs.sum) ∧ ∃ n, w' = w.drewN n := by
  obtain ⟨A, c, rfl, hs⟩ := h.seen
  obtain ⟨n, hn⟩ : ∃ n, n = xs.length := ⟨_, rfl⟩
  rw [← hn] at hl ⊢
  have HN := Lib.hid hn
  have HS := Lib.hid hs
  have HX := Lib.hid hx
  clear hn hs h hx
  go_enter Tryd.func14, Tryd.ntmps14
  go_wp2
  go_loopw [3, 4] (fun s i wr => ∃ k m : Nat, k ≤ n ∧ i = .int .i64 k ∧ s = .int .i64 (xs.take k).sum ∧ wr = w.drewN m) (fun _ i _ => n - (intOf i).toNat)
  case atStart => exact ⟨0, 0, Nat.zero_le _, rfl, by simp, rfl⟩
  case round =>
    obtain ⟨k, m, hk, rfl, rfl, ew⟩ := hrel
    have hb := sum_bound (xs.take k) (fun x hx => HX.out x (List.mem_of_mem_take hx))
    have hlen : (xs.take k).length ≤ 1000 := by rw [List.length_take]; omega
    obtain ⟨s, es⟩ : ∃ s, s = (xs.take k).sum := ⟨_, rfl⟩
    rw [← es] at hb ⊢
    have hs0 : 0 ≤ s ∧ s ≤ 1000000000 := by omega
    have ES := Lib.hid es
    have EW := Lib.hid ew
    clear hb hlen es
    by_cases hlt : k < n
    · obtain ⟨g, o, rfl, _, hc⟩ := HS.out k (by rw [← HN.out]; exact hlt)
      have hst := sum_take xs (k := k) (by rw [← HN.out]; exact hlt)
      have hxk := HX.out (xs[k]?.getD 0) (by rw [List.getElem?_eq_getElem (by rw [← HN.out]; exact hlt)]; exact List.getElem_mem _)
      obtain ⟨x, ex⟩ : ∃ x, x = xs[k]?.getD 0 := ⟨_, rfl⟩
      rw [← ex] at hc hst hxk
      rw [← ES.out] at hst
      have HST := Lib.hid hst
      have hcw : wr.cell? ⟨g, o + k, none⟩ = some (.int .i64 x) := by rw [ew]; exact hc
      have hi : (0 : Int) ≤ (k : Int) ∧ (k : Int) < (n : Int) := by omega
      clear hst ex hc ew
      go_wp2
      go_roundw
      case rel => exact ⟨k + 1, m, by omega, by go_num, by rw [HST.out], EW.out⟩
      case measure => simp [intOf]; omega
    · have hkn : k = n := by omega
      subst hkn
      clear ew
      go_wp2
      go_ret
      have e : xs.take k = xs := by rw [HN.out]; exact List.take_length
      exact ⟨by rw [ES.out, e]; rfl, m, EW.out⟩
end Go.Proofs.YtneglpklkmoclaaDoor
