/- slices.Max and slices.Min of a list of small numbers. -/
import Derived.Test.YtcblcifnpgmibaaDoorSetMath
import Derived.Test.YtcblcifnpgmibaaDoorBaseA
namespace Go.Proofs.YtcblcifnpgmibaaDoor
open Go Go.RowKit
set_option linter.unusedVariables false
set_option maxRecDepth 100000

def mxvTo (zs : List Nat) : Nat → Nat
  | 0 => 0
  | k + 1 => max (mxvTo zs k) (zs[k]?.getD 0)
theorem mxv_facts (zs : List Nat) (k : Nat) (hk : k + 1 ≤ zs.length) : mxvTo zs (k + 1) ∈ zs ∧ ∀ j, j ≤ k → zs[j]?.getD 0 ≤ mxvTo zs (k + 1) := by
  induction k with
  | zero =>
    have e : mxvTo zs 1 = zs[0]?.getD 0 := by show max _ _ = _; simp [mxvTo]
    rw [e]
    refine ⟨?_, fun j hj => ?_⟩
    · rw [List.getElem?_eq_getElem (by omega)]; exact List.getElem_mem _
    · have : j = 0 := by omega
      subst this; exact Nat.le_refl _
  | succ k ih =>
    obtain ⟨h1, h2⟩ := ih (by omega)
    have e : mxvTo zs (k + 1 + 1) = max (mxvTo zs (k + 1)) (zs[k + 1]?.getD 0) := rfl
    have hm : zs[k + 1]?.getD 0 ∈ zs := by rw [List.getElem?_eq_getElem (by omega)]; exact List.getElem_mem _
    rw [e]
    refine ⟨?_, fun j hj => ?_⟩
    · rcases Nat.le_total (mxvTo zs (k + 1)) (zs[k + 1]?.getD 0) with h | h
      · first | (rw [Nat.max_eq_right h]; exact hm) | (rw [Nat.min_eq_left h]; exact h1)
      · first | (rw [Nat.max_eq_left h]; exact h1) | (rw [Nat.min_eq_right h]; exact hm)
    · rcases Nat.lt_or_ge j (k + 1) with h | h
      · have := h2 j (by omega)
        omega
      · have : j = k + 1 := by omega
        subst this; omega
theorem mxv_is {zs : List Nat} {m : Nat} (h : IsMax zs m) : 1 ≤ zs.length ∧ mxvTo zs zs.length = m := by
  have hl : 1 ≤ zs.length := List.length_pos_iff.2 (fun e => by rw [e] at h; exact absurd h.1 (by simp))
  obtain ⟨k, ek⟩ : ∃ k, zs.length = k + 1 := ⟨zs.length - 1, by omega⟩
  refine ⟨hl, ?_⟩
  obtain ⟨h1, h2⟩ := mxv_facts zs k (by omega)
  rw [ek]
  have h3 := h.2 _ h1
  obtain ⟨j, hj, e⟩ := List.getElem_of_mem h.1
  have h4 := h2 j (by omega)
  rw [List.getElem?_eq_getElem hj, e] at h4
  simp only [Option.getD_some] at h4
  omega
set_option maxHeartbeats 1000000 in
theorem slicesMax (A : Option Addr) (c : Nat) (zs : List Nat) (m : Nat) (hm : IsMax zs m) (hs : ∀ x ∈ zs, x ≤ 15) (hl : zs.length ≤ 40000) (w : World) (h : Seen w A (ints zs)) :
    Calls Tryd.prog 53 #[.slice A (ints zs).length c] w fun e w' => e = .returned (.int .i64 (m : Nat)) ∧ w = w' := by
  obtain ⟨h1, h2⟩ := mxv_is hm
  rw [ints_length]
  obtain ⟨b, off, rfl, _, _⟩ := h 0 (by rw [ints_length]; omega)
  obtain ⟨n, hn⟩ : ∃ n, n = zs.length := ⟨_, rfl⟩
  have H : Hid (∀ k, k < n → w.cell? ⟨b, off + k, none⟩ = some (.int .i64 (zs[k]?.getD 0 : Nat)) ∧ zs[k]?.getD 0 ≤ 15) := Lib.hid fun k hk => by
    obtain ⟨b', off', a, _, hc⟩ := h k (by rw [ints_length]; omega)
    injection a with a
    injection a with a1 a2
    subst a1 a2
    rw [ints_get] at hc
    refine ⟨hc, ?_⟩
    rw [List.getElem?_eq_getElem (by omega)]
    exact hs _ (List.getElem_mem _)
  have HK : Hid (∀ k, 1 ≤ k → k ≤ n → mxvTo zs k ≤ 15) := Lib.hid fun k h1 hk => by
    obtain ⟨j, rfl⟩ : ∃ j, k = j + 1 := ⟨k - 1, by omega⟩
    exact hs _ (mxv_facts zs j (by omega)).1
  have HS : Hid (∀ k, mxvTo zs (k + 1) = max (mxvTo zs k) (zs[k]?.getD 0)) := Lib.hid fun k => rfl
  have H1 : Hid (mxvTo zs 1 = zs[0]?.getD 0) := Lib.hid (by show max _ _ = _; simp [mxvTo])
  rw [← hn] at h1 h2 hl ⊢
  have HM := Lib.hid h2
  clear h hm hs hn h2
  obtain ⟨c0, d0⟩ := H.out 0 (by omega)
  rw [Nat.add_zero] at c0
  have hd : decide ((n : Int) < 1) = false := by simp; omega
  obtain ⟨z0, ez⟩ : ∃ z0, z0 = zs[0]?.getD 0 := ⟨_, rfl⟩
  rw [← ez] at c0 d0 H1
  clear ez
  have hi1 : (0 : Int) < (n : Int) := by omega
  go_enter Tryd.func53, Tryd.ntmps53
  go_wp2
  go_loop [3, 4] (fun x i => ∃ k : Nat, 1 ≤ k ∧ k ≤ n ∧ i = .int .i64 k ∧ x = .int .i64 (mxvTo zs k : Nat)) (fun _ i => n - (intOf i).toNat)
  case atStart => exact ⟨1, Nat.le_refl _, h1, rfl, by rw [H1.out]⟩
  case round =>
    obtain ⟨k, hk1, hk, rfl, rfl⟩ := hrel
    have hx := HK.out k hk1 hk
    by_cases hlt : k < n
    · obtain ⟨ck, dk⟩ := H.out k hlt
      have hst := HS.out k
      obtain ⟨x, ex⟩ : ∃ x, x = mxvTo zs k := ⟨_, rfl⟩
      obtain ⟨z, ez⟩ : ∃ z, z = zs[k]?.getD 0 := ⟨_, rfl⟩
      rw [← ex] at hx hst ⊢
      rw [← ez] at ck dk hst
      have HST := Lib.hid hst
      clear ex ez hst
      go_wp2
      go_round
      case rel => exact ⟨k + 1, by omega, by omega, by go_num, by rw [HST.out]; congr 1; split <;> omega⟩
      case measure => simp [intOf]; omega
    · have hke : k = n := by omega
      subst hke
      go_wp2
      go_ret
      exact ⟨by rw [← HM.out]; rfl, rfl⟩
def mnvTo (zs : List Nat) : Nat → Nat
  | 0 => zs[0]?.getD 0
  | k + 1 => min (mnvTo zs k) (zs[k]?.getD 0)
theorem mnv_facts (zs : List Nat) (k : Nat) (hk : k + 1 ≤ zs.length) : mnvTo zs (k + 1) ∈ zs ∧ ∀ j, j ≤ k → zs[j]?.getD 0 ≥ mnvTo zs (k + 1) := by
  induction k with
  | zero =>
    have e : mnvTo zs 1 = zs[0]?.getD 0 := by show min _ _ = _; simp [mnvTo]
    rw [e]
    refine ⟨?_, fun j hj => ?_⟩
    · rw [List.getElem?_eq_getElem (by omega)]; exact List.getElem_mem _
    · have : j = 0 := by omega
      subst this; exact Nat.le_refl _
  | succ k ih =>
    obtain ⟨h1, h2⟩ := ih (by omega)
    have e : mnvTo zs (k + 1 + 1) = min (mnvTo zs (k + 1)) (zs[k + 1]?.getD 0) := rfl
    have hm : zs[k + 1]?.getD 0 ∈ zs := by rw [List.getElem?_eq_getElem (by omega)]; exact List.getElem_mem _
    rw [e]
    refine ⟨?_, fun j hj => ?_⟩
    · rcases Nat.le_total (mnvTo zs (k + 1)) (zs[k + 1]?.getD 0) with h | h
      · first | (rw [Nat.max_eq_right h]; exact hm) | (rw [Nat.min_eq_left h]; exact h1)
      · first | (rw [Nat.max_eq_left h]; exact h1) | (rw [Nat.min_eq_right h]; exact hm)
    · rcases Nat.lt_or_ge j (k + 1) with h | h
      · have := h2 j (by omega)
        omega
      · have : j = k + 1 := by omega
        subst this; omega
theorem mnv_is {zs : List Nat} {m : Nat} (h : IsMin zs m) : 1 ≤ zs.length ∧ mnvTo zs zs.length = m := by
  have hl : 1 ≤ zs.length := List.length_pos_iff.2 (fun e => by rw [e] at h; exact absurd h.1 (by simp))
  obtain ⟨k, ek⟩ : ∃ k, zs.length = k + 1 := ⟨zs.length - 1, by omega⟩
  refine ⟨hl, ?_⟩
  obtain ⟨h1, h2⟩ := mnv_facts zs k (by omega)
  rw [ek]
  have h3 := h.2 _ h1
  obtain ⟨j, hj, e⟩ := List.getElem_of_mem h.1
  have h4 := h2 j (by omega)
  rw [List.getElem?_eq_getElem hj, e] at h4
  simp only [Option.getD_some] at h4
  omega
set_option maxHeartbeats 1000000 in
theorem slicesMin (A : Option Addr) (c : Nat) (zs : List Nat) (m : Nat) (hm : IsMin zs m) (hs : ∀ x ∈ zs, x ≤ 15) (hl : zs.length ≤ 40000) (w : World) (h : Seen w A (ints zs)) :
    Calls Tryd.prog 58 #[.slice A (ints zs).length c] w fun e w' => e = .returned (.int .i64 (m : Nat)) ∧ w = w' := by
  obtain ⟨h1, h2⟩ := mnv_is hm
  rw [ints_length]
  obtain ⟨b, off, rfl, _, _⟩ := h 0 (by rw [ints_length]; omega)
  obtain ⟨n, hn⟩ : ∃ n, n = zs.length := ⟨_, rfl⟩
  have H : Hid (∀ k, k < n → w.cell? ⟨b, off + k, none⟩ = some (.int .i64 (zs[k]?.getD 0 : Nat)) ∧ zs[k]?.getD 0 ≤ 15) := Lib.hid fun k hk => by
    obtain ⟨b', off', a, _, hc⟩ := h k (by rw [ints_length]; omega)
    injection a with a
    injection a with a1 a2
    subst a1 a2
    rw [ints_get] at hc
    refine ⟨hc, ?_⟩
    rw [List.getElem?_eq_getElem (by omega)]
    exact hs _ (List.getElem_mem _)
  have HK : Hid (∀ k, 1 ≤ k → k ≤ n → mnvTo zs k ≤ 15) := Lib.hid fun k h1 hk => by
    obtain ⟨j, rfl⟩ : ∃ j, k = j + 1 := ⟨k - 1, by omega⟩
    exact hs _ (mnv_facts zs j (by omega)).1
  have HS : Hid (∀ k, mnvTo zs (k + 1) = min (mnvTo zs k) (zs[k]?.getD 0)) := Lib.hid fun k => rfl
  have H1 : Hid (mnvTo zs 1 = zs[0]?.getD 0) := Lib.hid (by show min _ _ = _; simp [mnvTo])
  rw [← hn] at h1 h2 hl ⊢
  have HM := Lib.hid h2
  clear h hm hs hn h2
  obtain ⟨c0, d0⟩ := H.out 0 (by omega)
  rw [Nat.add_zero] at c0
  have hd : decide ((n : Int) < 1) = false := by simp; omega
  obtain ⟨z0, ez⟩ : ∃ z0, z0 = zs[0]?.getD 0 := ⟨_, rfl⟩
  rw [← ez] at c0 d0 H1
  clear ez
  have hi1 : (0 : Int) < (n : Int) := by omega
  go_enter Tryd.func58, Tryd.ntmps58
  go_wp2
  go_loop [3, 4] (fun x i => ∃ k : Nat, 1 ≤ k ∧ k ≤ n ∧ i = .int .i64 k ∧ x = .int .i64 (mnvTo zs k : Nat)) (fun _ i => n - (intOf i).toNat)
  case atStart => exact ⟨1, Nat.le_refl _, h1, rfl, by rw [H1.out]⟩
  case round =>
    obtain ⟨k, hk1, hk, rfl, rfl⟩ := hrel
    have hx := HK.out k hk1 hk
    by_cases hlt : k < n
    · obtain ⟨ck, dk⟩ := H.out k hlt
      have hst := HS.out k
      obtain ⟨x, ex⟩ : ∃ x, x = mnvTo zs k := ⟨_, rfl⟩
      obtain ⟨z, ez⟩ : ∃ z, z = zs[k]?.getD 0 := ⟨_, rfl⟩
      rw [← ex] at hx hst ⊢
      rw [← ez] at ck dk hst
      have HST := Lib.hid hst
      clear ex ez hst
      go_wp2
      go_round
      case rel => exact ⟨k + 1, by omega, by omega, by go_num, by rw [HST.out]; congr 1; split <;> omega⟩
      case measure => simp [intOf]; omega
    · have hke : k = n := by omega
      subst hke
      go_wp2
      go_ret
      exact ⟨by rw [← HM.out]; rfl, rfl⟩
end Go.Proofs.YtcblcifnpgmibaaDoor
