/- slices.Compare and slices.Equal of two lists of numbers. -/
import Derived.Test.YtnnobbbljpaieaaDoorCmpKit
namespace Go.Proofs.YtnnobbbljpaieaaDoor
open Go.RowKit Go.Shelf Go.Sort
set_option linter.unusedVariables false
set_option maxRecDepth 100000

/-- The comparison of two lists. -/
def cmpL : List Int → List Int → Int
  | [], [] => 0
  | [], _ :: _ => -1
  | _ :: _, [] => 1
  | x :: xs, y :: ys => if cfI x y = 0 then cmpL xs ys else cfI x y
theorem cfI_zero {x y : Int} : cfI x y = 0 ↔ x = y := by
  unfold cfI
  by_cases h1 : x < y
  · simp [h1]; omega
  · by_cases h2 : y < x
    · simp [h1, h2]; omega
    · simp [h1, h2]; omega
theorem cfI_neg {x y : Int} : cfI x y < 0 ↔ x < y := by
  unfold cfI
  by_cases h1 : x < y
  · simp [h1]
  · by_cases h2 : y < x <;> simp [h1, h2]
theorem cfI_swap (x y : Int) : cfI y x = - cfI x y := by
  unfold cfI
  by_cases h1 : x < y
  · have h2 : ¬ y < x := by omega
    simp [h1, h2]
  · by_cases h2 : y < x <;> simp [h1, h2]
theorem cmpL_self : ∀ l : List Int, cmpL l l = 0
  | [] => rfl
  | x :: l => by unfold cmpL; rw [if_pos (cfI_zero.2 rfl)]; exact cmpL_self l
theorem cmpL_eq : ∀ {l m : List Int}, cmpL l m = 0 → l = m
  | [], [], _ => rfl
  | [], _ :: _, h => by simp [cmpL] at h
  | _ :: _, [], h => by simp [cmpL] at h
  | x :: xs, y :: ys, h => by
    unfold cmpL at h
    by_cases h1 : cfI x y = 0
    · rw [if_pos h1] at h
      rw [cfI_zero.1 h1, cmpL_eq h]
    · rw [if_neg h1] at h
      exact absurd h h1
theorem cmpL_zero {l m : List Int} : cmpL l m = 0 ↔ l = m := ⟨cmpL_eq, fun h => by rw [h]; exact cmpL_self m⟩
theorem cmpL_swap : ∀ l m : List Int, cmpL m l = - cmpL l m
  | [], [] => rfl
  | [], _ :: _ => rfl
  | _ :: _, [] => rfl
  | x :: xs, y :: ys => by
    unfold cmpL
    by_cases h1 : cfI x y = 0
    · have h2 : cfI y x = 0 := by rw [cfI_swap, h1]; rfl
      rw [if_pos h1, if_pos h2]
      exact cmpL_swap xs ys
    · have h2 : ¬ cfI y x = 0 := by rw [cfI_swap]; omega
      rw [if_neg h1, if_neg h2]
      exact cfI_swap x y
theorem cmpL_trans : ∀ {l m n : List Int}, cmpL l m < 0 → cmpL m n < 0 → cmpL l n < 0
  | [], [], _, h, _ => by simp [cmpL] at h
  | [], _ :: _, [], _, h => by simp [cmpL] at h
  | [], _ :: _, _ :: _, _, _ => by simp [cmpL]
  | _ :: _, [], _, h, _ => by simp [cmpL] at h
  | _ :: _, _ :: _, [], _, h => by simp [cmpL] at h
  | x :: xs, y :: ys, z :: zs, h, k => by
    unfold cmpL at h k ⊢
    by_cases h1 : cfI x y = 0
    · rw [if_pos h1] at h
      have e1 := cfI_zero.1 h1
      subst e1
      by_cases h2 : cfI x z = 0
      · rw [if_pos h2] at k ⊢
        exact cmpL_trans h k
      · rw [if_neg h2] at k ⊢
        exact k
    · rw [if_neg h1] at h
      have l1 := cfI_neg.1 h
      by_cases h2 : cfI y z = 0
      · have e2 := cfI_zero.1 h2
        subst e2
        rw [if_neg h1]
        exact h
      · rw [if_neg h2] at k
        have l2 := cfI_neg.1 k
        have l3 : cfI x z < 0 := cfI_neg.2 (by omega)
        rw [if_neg (by omega)]
        exact l3

theorem drop_int {xs : List Int} {k : Nat} (h : k < xs.length) : xs.drop k = xs[k]?.getD 0 :: xs.drop (k + 1) := by
  rw [List.drop_eq_getElem_cons h, List.getElem?_eq_getElem h]; rfl

set_option maxHeartbeats 1000000 in
theorem cmpLists_any (A A' : Option Addr) (c c' : Nat) (L M : List Int) (hl : L.length ≤ 100000) (hm : M.length ≤ 100000) (w : World) (hL : Seen w A L) (hM : Seen w A' M) :
    Calls Tryd.prog 54 #[.slice A L.length c, .slice A' M.length c'] w fun e w' => e = .returned (.int .i64 (cmpL L M)) ∧ w = w' := by
  obtain ⟨n, hn⟩ : ∃ n, n = L.length := ⟨_, rfl⟩
  obtain ⟨m, hm'⟩ : ∃ m, m = M.length := ⟨_, rfl⟩
  rw [← hn] at hl ⊢
  rw [← hm'] at hm ⊢
  have HL := Lib.hid hL
  have HM := Lib.hid hM
  have HN := Lib.hid hn
  have HK := Lib.hid hm'
  clear hL hM hn hm'
  go_enter Tryd.func54, Tryd.ntmps54
  go_wp2
  go_loop [11] (fun i => ∃ k : Nat, k ≤ n ∧ k ≤ m ∧ i = .int .i64 k ∧ Hid (cmpL (L.drop k) (M.drop k) = cmpL L M)) (fun i => n - (intOf i).toNat)
  case atStart => exact ⟨0, Nat.zero_le _, Nat.zero_le _, rfl, Lib.hid (by simp)⟩
  case round =>
    obtain ⟨k, hk, hkm, rfl, hE⟩ := hrel
    by_cases hlt : k < n
    · obtain ⟨b, off, rfl, hbl, hc⟩ := HL.out k (by have := HN.out; omega)
      have hi1 : (0 : Int) ≤ (k : Int) ∧ (k : Int) < (n : Int) := by omega
      have hdL := drop_int (xs := L) (k := k) (by have := HN.out; omega)
      obtain ⟨x, ex⟩ : ∃ x, x = L[k]?.getD 0 := ⟨_, rfl⟩
      rw [← ex] at hc hdL
      by_cases hlm : k < m
      · obtain ⟨b', off', rfl, hbl', hc'⟩ := HM.out k (by have := HK.out; omega)
        have hi2 : (0 : Int) ≤ (k : Int) ∧ (k : Int) < (m : Int) := by omega
        have hd : decide ((m : Int) ≤ (k : Int)) = false := decide_eq_false (by omega)
        have hdM := drop_int (xs := M) (k := k) (by have := HK.out; omega)
        obtain ⟨y, ey⟩ : ∃ y, y = M[k]?.getD 0 := ⟨_, rfl⟩
        rw [← ey] at hc' hdM
        have hst : cmpL (L.drop k) (M.drop k) = if cfI x y = 0 then cmpL (L.drop (k + 1)) (M.drop (k + 1)) else cfI x y := by rw [hdL, hdM]; rfl
        have CC := Lib.hid (fun w => compare_any x y w)
        obtain ⟨r, er⟩ : ∃ r, r = cfI x y := ⟨_, rfl⟩
        rw [← er] at CC hst
        have HST := Lib.hid hst
        clear hdL hdM ex ey er hst hbl hbl'
        by_cases hr : r = 0
        · have hb : (r != 0) = false := by simp [hr]
          have HR := Lib.hid hr
          clear hr
          go_wp2_with (go_at_call 73; refine (CC.out _).mono ?_; rintro e w' ⟨rfl, rfl⟩)
          go_round
          case rel => exact ⟨k + 1, by omega, by omega, by go_num, Lib.hid (by rw [← hE.out, HST.out, if_pos HR.out])⟩
          case measure => simp [intOf]; omega
        · have hb : (r != 0) = true := by simp [hr]
          have HR := Lib.hid hr
          clear hr
          go_wp2_with (go_at_call 73; refine (CC.out _).mono ?_; rintro e w' ⟨rfl, rfl⟩)
          go_ret
          exact ⟨ret_int (by rw [← hE.out, HST.out, if_neg HR.out]), rfl⟩
      · have hd : decide ((m : Int) ≤ (k : Int)) = true := decide_eq_true (by omega)
        have hdM : M.drop k = [] := List.drop_eq_nil_of_le (by have := HK.out; omega)
        have hst : cmpL (L.drop k) (M.drop k) = 1 := by rw [hdL, hdM]; rfl
        have HST := Lib.hid hst
        clear hdL hdM ex hst hbl
        go_wp2
        go_ret
        exact ⟨ret_int (by rw [← hE.out, HST.out]), rfl⟩
    · have hkn : k = n := by omega
      subst hkn
      have hdL : L.drop k = [] := List.drop_eq_nil_of_le (by have := HN.out; omega)
      by_cases hlm : k < m
      · have hd : decide ((k : Int) < (m : Int)) = true := decide_eq_true (by omega)
        have hdM := drop_int (xs := M) (k := k) (by have := HK.out; omega)
        have hst : cmpL (L.drop k) (M.drop k) = -1 := by rw [hdL, hdM]; rfl
        have HST := Lib.hid hst
        clear hdL hdM hst
        go_wp2
        go_ret
        exact ⟨ret_int (by rw [← hE.out, HST.out]), rfl⟩
      · have hkm' : k = m := by omega
        subst hkm'
        have hd : decide ((k : Int) < (k : Int)) = false := decide_eq_false (by omega)
        have hdM : M.drop k = [] := List.drop_eq_nil_of_le (by have := HK.out; omega)
        have hst : cmpL (L.drop k) (M.drop k) = 0 := by rw [hdL, hdM]; rfl
        have HST := Lib.hid hst
        clear hdL hdM hst
        go_wp2
        go_ret
        exact ⟨ret_int (by rw [← hE.out, HST.out]), rfl⟩

theorem equal_same (n : Nat) (A A' : Option Addr) (c c' : Nat) (xs ys : List Int) (w : World) (hx : xs.length = n) (hy : ys.length = n) (hs : n ≤ 1048576) (hA : Seen w A xs) (hA' : Seen w A' ys) :
    Calls Tryd.prog 29 #[.slice A n c, .slice A' n c'] w (SaidEq w xs ys) := by
  have HA := Lib.hid hA
  have HA' := Lib.hid hA'
  have HX := Lib.hid hx
  have HY := Lib.hid hy
  clear hA hA' hx hy
  go_enter Tryd.func29, Tryd.ntmps29
  go_wp2
  go_loopw [13] (fun i wr => ∃ k m : Nat, k ≤ n ∧ i = .int .i64 k ∧ Hid (xs.take k = ys.take k) ∧ wr = w.drewN m) (fun i _ => n - (intOf i).toNat)
  case atStart => exact ⟨0, 0, Nat.zero_le _, rfl, Lib.hid (by simp), rfl⟩
  case round =>
    obtain ⟨k, m, hk, rfl, ht, rfl⟩ := hrel
    by_cases hlt : k < n
    · obtain ⟨g, o, rfl, _, hc⟩ := HA.out k (by have := HX.out; omega)
      obtain ⟨g', o', rfl, _, hc'⟩ := HA'.out k (by have := HY.out; omega)
      have hi1 : (0 : Int) ≤ (k : Int) := by omega
      have hi2 : (k : Int) < (n : Int) := by omega
      by_cases he : xs[k]?.getD 0 = ys[k]?.getD 0
      · have hb : (xs[k]?.getD 0 != ys[k]?.getD 0) = false := by simp [he]
        have HE := Lib.hid he
        clear he
        go_wp2
        go_quiet (fail)
        go_wp2
        go_roundw
        case rel => exact ⟨k + 1, _, by omega, by go_num, Lib.hid (take_eq_succ (by have := HX.out; omega) (by rw [HX.out, HY.out]) ht.out HE.out), rfl⟩
        case measure => simp [intOf]; omega
      · have hb : (xs[k]?.getD 0 != ys[k]?.getD 0) = true := by simp [he]
        have HE := Lib.hid he
        clear he
        go_wp2
        go_quiet (fail)
        go_wp2
        go_ret
        exact ⟨ret_bool (by simp; exact ne_of_get HE.out), _, World.drewN_drewN _ _ _⟩
    · go_wp2
      go_ret
      have hkn : k = n := by omega
      subst hkn
      exact ⟨ret_bool (by have h1 := ht.out; rw [List.take_of_length_le (by rw [HX.out]; omega), List.take_of_length_le (by rw [HY.out]; omega)] at h1; simp [h1]), _, rfl⟩
theorem equal_other (n n' : Nat) (A A' : Option Addr) (c c' : Nat) (w : World) (hne : n ≠ n') :
    Calls Tryd.prog 29 #[.slice A n c, .slice A' n' c'] w fun e w' => e = .returned (.bool false) ∧ w = w' := by
  have hb : ((n : Int) != (n' : Int)) = true := by simp; omega
  go_enter Tryd.func29, Tryd.ntmps29
  go_wp2
  go_ret
  exact ⟨rfl, rfl⟩
/-- **slices.Equal tells whether two lists are one.** -/
theorem equalLists_any (A A' : Option Addr) (c c' : Nat) (xs ys : List Int) (w : World) (h1 : Seen w A xs) (h2 : Seen w A' ys) (hs : xs.length ≤ 1048576) :
    Calls Tryd.prog 29 #[.slice A xs.length c, .slice A' ys.length c'] w (SaidEq w xs ys) := by
  by_cases hl : ys.length = xs.length
  · rw [hl]
    exact equal_same xs.length A A' c c' xs ys w rfl hl hs h1 h2
  · refine (equal_other xs.length ys.length A A' c c' w (by omega)).mono fun e w' ⟨he, hw⟩ => ⟨?_, 0, hw.symm⟩
    rw [he]
    exact ret_bool (by symm; simp; intro h; exact hl (by rw [h]))
end Go.Proofs.YtnnobbbljpaieaaDoor
