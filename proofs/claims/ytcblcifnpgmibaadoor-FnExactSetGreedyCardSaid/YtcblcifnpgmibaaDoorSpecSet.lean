/- The model's free sets and the greatest of them. -/
import Derived.Test.YtcblcifnpgmibaaDoorSetMath
import Derived.Test.YtcblcifnpgmibaaDoorBaseA
namespace Go.Proofs.YtcblcifnpgmibaaDoor
open Go Go.RowKit
set_option linter.unusedVariables false
set_option maxRecDepth 100000

theorem min_nat2 (x y : Nat) : ((x : Int) < (y : Int) → max x y = y) ∧ (¬ (x : Int) < (y : Int) → max x y = x) := by omega
def FreeTo (L : List Int) (s k : Nat) : Prop := ∀ j, j < k → inS s j = true → ent L j &&& s = 0
theorem free_true {L : List Int} {s : Nat} (h : FreeTo L s L.length) : freeB L s = true := by
  refine List.all_eq_true.2 fun v hv => ?_
  rw [List.mem_range] at hv
  cases hi : inS s v with
  | false => rfl
  | true => rw [Bool.not_true, Bool.false_or, beq_iff_eq]; exact h v hv hi
theorem free_false {L : List Int} {s k : Nat} (hk : k < L.length) (hi : inS s k = true) (hne : ent L k &&& s ≠ 0) : freeB L s = false := by
  cases h : freeB L s with
  | false => rfl
  | true =>
    have h1 := List.all_eq_true.1 h k (List.mem_range.2 hk)
    rw [hi] at h1
    simp at h1
    exact absurd h1 hne
theorem free_to_succ {L : List Int} {s k : Nat} (h : FreeTo L s k) (h1 : inS s k = true → ent L k &&& s = 0) : FreeTo L s (k + 1) := fun j hj hi => by
  rcases Nat.lt_or_ge j k with hl | hl
  · exact h j hl hi
  · have e : j = k := by omega
    subst e
    exact h1 hi
theorem inS_bit {s k b : Nat} (eb : b = s / 2 ^ k % 2) : inS s k = decide (b = 1) := by
  rw [Bool.eq_iff_iff, inS_iff, decide_eq_true_eq, eb]

set_option maxHeartbeats 1000000 in
theorem specFree_seen (A : Option Addr) (c : Nat) (L : List Int) (hg : IsGraph L) (s : Nat) (hs : s < 64) (w : World) (h : Seen w A L) :
    Calls Tryd.prog 44 #[.slice A L.length c, .int .i64 s] w fun e w' => e = .returned (.bool (freeB L s)) ∧ w = w' := by
  have h1 := hg.1
  have h6 := hg.2.1
  obtain ⟨n, hn⟩ : ∃ n, n = L.length := ⟨_, rfl⟩
  have H : Hid (∀ k, k < n → ∃ b off, A = some ⟨b, off, none⟩ ∧ w.cell? ⟨b, off + k, none⟩ = some (.int .i64 (ent L k : Nat)) ∧ ent L k < 64) := Lib.hid fun k hk => by
    obtain ⟨b, off, a, _, hc⟩ := h k (by omega)
    have hin := (hg.2.2 k (by omega)).1
    rw [ent_int hin] at hc
    exact ⟨b, off, a, hc, Nat.lt_of_lt_of_le (ent_lt hin) (two_le h6)⟩
  have HT : Hid (FreeTo L s n → freeB L s = true) := Lib.hid (by rw [hn]; exact free_true)
  have HF : Hid (∀ k, k < n → inS s k = true → ent L k &&& s ≠ 0 → freeB L s = false) := Lib.hid (by rw [hn]; exact fun k hk hi hne => free_false hk hi hne)
  rw [← hn] at h1 h6 ⊢
  clear h hg hn
  go_enter Tryd.func44, Tryd.ntmps44
  go_wp2
  go_loop [5] (fun i => ∃ k : Nat, k ≤ n ∧ i = .int .i64 k ∧ Hid (FreeTo L s k)) (fun i => n - (intOf i).toNat)
  case atStart => exact ⟨0, Nat.zero_le _, rfl, Lib.hid fun j hj => absurd hj (by omega)⟩
  case round =>
    obtain ⟨k, hk, rfl, hf⟩ := hrel
    by_cases hlt : k < n
    · obtain ⟨b, off, rfl, hc, hX⟩ := H.out k hlt
      obtain ⟨t, et, ht, ft⟩ := and_facts s k (by omega)
      have hin := inS_bit et
      have hFk := HF.out k hlt
      obtain ⟨X, eX⟩ : ∃ X, X = ent L k := ⟨_, rfl⟩
      have hsucc : Hid ((inS s k = true → X &&& s = 0) → FreeTo L s (k + 1)) := Lib.hid (by rw [eX]; exact free_to_succ hf.out)
      rw [← eX] at hc hX hFk
      have hx := i64_and_nat X s (by omega) (by omega)
      obtain ⟨y, ey⟩ : ∃ y, y = X &&& s := ⟨_, rfl⟩
      rw [← ey] at hx hFk hsucc
      have hyl : y ≤ s := by rw [ey]; exact Nat.and_le_right
      have hk40 : k < 40 := by omega
      clear eX ey et
      rcases (show t = 0 ∨ t = 1 by omega) with rfl | rfl
      · have e0 : (((0 : Nat) : Int) == 1) = false := rfl
        have HN := Lib.hid (hsucc.out (by rw [hin]; simp))
        clear hFk hin hsucc
        go_wp2
        go_round
        case rel => exact ⟨k + 1, by omega, by go_num, HN⟩
        case measure => simp [intOf]; omega
      · by_cases hy : y = 0
        · have HN := Lib.hid (hsucc.out fun _ => hy)
          have e0 : ((y : Int) != 0) = false := by simp [hy]
          clear hFk hin hsucc hy
          go_wp2
          go_round
          case rel => exact ⟨k + 1, by omega, by go_num, HN⟩
          case measure => simp [intOf]; omega
        · have HN := Lib.hid (hFk (by rw [hin]; simp) hy)
          have e0 : ((y : Int) != 0) = true := by simp; omega
          clear hFk hin hsucc hy
          go_wp2
          go_ret
          exact ⟨by rw [HN.out]; rfl, rfl⟩
    · have hke : k = n := by omega
      subst hke
      have HN := Lib.hid (HT.out hf.out)
      go_wp2
      go_ret
      exact ⟨by rw [HN.out]; rfl, rfl⟩

/-- The greatest up to some set. -/
def mxTo (L : List Int) (t : Nat) : Nat := mx (freeB L) (List.range t)
theorem mxTo_succ (L : List Int) (t : Nat) : mxTo L (t + 1) = mxStep (freeB L) (mxTo L t) t := by unfold mxTo; rw [List.range_succ, mx_snoc]
set_option maxHeartbeats 1000000 in
theorem specMost_seen (A : Option Addr) (c : Nat) (L : List Int) (hg : IsGraph L) (w : World) (h : Seen w A L) :
    Calls Tryd.prog 32 #[.slice A L.length c] w fun e w' => e = .returned (.int .i64 (mostN L : Nat)) ∧ w = w' := by
  have h1 := hg.1
  have h6 := hg.2.1
  obtain ⟨P, Q, hP, hQ, hP64, s1, s2, _, _, _⟩ := shl_facts L.length h6
  have HF := Lib.hid (fun s hs => specFree_seen A c L hg s hs w h)
  have HM : Hid (mostN L = mxTo L P) := Lib.hid (by unfold mostN mxTo allS; rw [hP])
  have HS := Lib.hid (mxTo_succ L)
  have HL := Lib.hid (fun t => mx_le (freeB L) (List.range t))
  obtain ⟨n, hn⟩ : ∃ n, n = L.length := ⟨_, rfl⟩
  rw [← hn] at h1 h6 s1 s2 HF ⊢
  clear h hg hn hP hQ s2
  rw [HM.out]
  go_enter Tryd.func32, Tryd.ntmps32
  go_wp2
  go_loop [3, 4] (fun m i => ∃ t : Nat, t ≤ P ∧ i = .int .i64 t ∧ m = .int .i64 (mxTo L t : Nat)) (fun _ i => P - (intOf i).toNat)
  case atStart => exact ⟨0, Nat.zero_le _, rfl, rfl⟩
  case round =>
    obtain ⟨t, ht, rfl, rfl⟩ := hrel
    have hl : mxTo L t ≤ 15 := HL.out t
    by_cases hlt : t < P
    · have hst := HS.out t
      unfold mxStep at hst
      have F := HF.out t (by omega)
      have G := Lib.hid (size_code t (by omega) w)
      have hp := pcf_le 15 t
      obtain ⟨q, eq⟩ : ∃ q, q = pcf 15 t := ⟨_, rfl⟩
      obtain ⟨m, em⟩ : ∃ m, m = mxTo L t := ⟨_, rfl⟩
      obtain ⟨f, ef⟩ : ∃ f, f = freeB L t := ⟨_, rfl⟩
      rw [← ef] at F hst
      rw [← em] at hl hst ⊢
      rw [← eq] at G hst hp
      have FF := Lib.hid F
      have hmx := min_nat2 m q
      clear F ef em eq
      cases f with
      | false =>
        have ST := Lib.hid (hst.trans (if_neg (by simp)))
        clear hst
        go_wp2_with fail
        refine FF.out.mono ?_
        rintro e w1 ⟨rfl, rfl⟩
        go_wp2
        go_round
        case rel => exact ⟨t + 1, by omega, by go_num, by rw [ST.out]⟩
        case measure => simp [intOf]; omega
      | true =>
        have ST := Lib.hid (hst.trans (if_pos rfl))
        clear hst
        go_wp2_with fail
        refine FF.out.mono ?_
        rintro e w1 ⟨rfl, rfl⟩
        go_wp2_with fail
        refine G.out.mono ?_
        rintro e w1 ⟨rfl, rfl⟩
        go_wp2
        go_round
        case rel => exact ⟨t + 1, by omega, by go_num, by rw [ST.out]; congr 1; split <;> omega⟩
        case measure => simp [intOf]; omega
    · have hke : t = P := by omega
      subst hke
      go_wp2
      go_ret
      exact ⟨rfl, rfl⟩
end Go.Proofs.YtcblcifnpgmibaaDoor
