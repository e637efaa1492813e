/- The model's l5Before: whether a list is less. -/
import Derived.Test.YtnnobbbljpaieaaDoorCompare
namespace Go.Proofs.YtnnobbbljpaieaaDoor
open Go.RowKit Go.Shelf Go.Sort
set_option linter.unusedVariables false
set_option maxRecDepth 100000

set_option maxHeartbeats 2000000 in
theorem before_any (A A' : Option Addr) (c c' : Nat) (L M : List Int) (hl : L.length ≤ 100000) (hm : M.length ≤ 100000) (w : World) (hL : Seen w A L) (hM : Seen w A' M) :
    Calls Tryd.prog 31 #[.slice A L.length c, .slice A' M.length c'] w fun e w' => e = .returned (.bool (decide (cmpL L M < 0))) ∧ ∃ q, w' = w.drewN q := by
  obtain ⟨n, hn⟩ : ∃ n, n = L.length := ⟨_, rfl⟩
  obtain ⟨m, hm'⟩ : ∃ m, m = M.length := ⟨_, rfl⟩
  rw [← hn] at hl ⊢
  rw [← hm'] at hm ⊢
  have HL := Lib.hid hL
  have HM := Lib.hid hM
  have HN := Lib.hid hn
  have HK := Lib.hid hm'
  clear hL hM hn hm'
  go_enter Tryd.func31, Tryd.ntmps31
  go_wp2
  go_loopw [5] (fun i wr => ∃ k q : Nat, k ≤ n ∧ k ≤ m ∧ i = .int .i64 k ∧ Hid (cmpL (L.drop k) (M.drop k) = cmpL L M) ∧ wr = w.drewN q) (fun i _ => n - (intOf i).toNat)
  case atStart => exact ⟨0, 0, Nat.zero_le _, Nat.zero_le _, rfl, Lib.hid (by simp), rfl⟩
  case round =>
    obtain ⟨k, q, hk, hkm, rfl, hE, rfl⟩ := hrel
    by_cases hlt : k < n
    · have d1 : decide ((k : Int) < (n : Int)) = true := decide_eq_true (by omega)
      by_cases hlm : k < m
      · have d2 : decide ((k : Int) < (m : Int)) = true := decide_eq_true (by omega)
        obtain ⟨b, off, rfl, hbl, hc⟩ := HL.out k (by have := HN.out; omega)
        obtain ⟨b', off', rfl, hbl', hc'⟩ := HM.out k (by have := HK.out; omega)
        have hi1 : (0 : Int) ≤ (k : Int) ∧ (k : Int) < (n : Int) := by omega
        have hi2 : (0 : Int) ≤ (k : Int) ∧ (k : Int) < (m : Int) := by omega
        have hdL := drop_int (xs := L) (k := k) (by have := HN.out; omega)
        have hdM := drop_int (xs := M) (k := k) (by have := HK.out; omega)
        obtain ⟨x, ex⟩ : ∃ x, x = L[k]?.getD 0 := ⟨_, rfl⟩
        obtain ⟨y, ey⟩ : ∃ y, y = M[k]?.getD 0 := ⟨_, rfl⟩
        rw [← ex] at hc hdL
        rw [← ey] at hc' hdM
        have hst : cmpL (L.drop k) (M.drop k) = if cfI x y = 0 then cmpL (L.drop (k + 1)) (M.drop (k + 1)) else cfI x y := by rw [hdL, hdM]; rfl
        have HST := Lib.hid hst
        clear hdL hdM ex ey hst hbl hbl'
        by_cases hxy : x = y
        · have hb : (x != y) = false := by simp [hxy]
          have HXY := Lib.hid hxy
          clear hxy
          go_wp2
          go_quiet (fail)
          go_wp2
          go_roundw
          case rel => exact ⟨k + 1, _, by omega, by omega, by go_num, Lib.hid (by rw [← hE.out, HST.out, if_pos (cfI_zero.2 HXY.out)]), rfl⟩
          case measure => simp [intOf]; omega
        · have hb : (x != y) = true := by simp [hxy]
          have HXY := Lib.hid hxy
          clear hxy
          go_wp2
          go_quiet (fail)
          go_wp2
          go_quiet (fail)
          go_wp2
          go_ret
          refine ⟨ret_bool ?_, _, by rw [World.drewN_drewN, World.drewN_drewN]⟩
          rw [← hE.out, HST.out, if_neg (fun h => HXY.out (cfI_zero.1 h)), decide_eq_decide]
          exact cfI_neg.symm
      · have d2 : decide ((k : Int) < (m : Int)) = false := decide_eq_false (by omega)
        have hmn : decide ((n : Int) < (m : Int)) = false := decide_eq_false (by omega)
        have hdL := drop_int (xs := L) (k := k) (by have := HN.out; omega)
        have hdM : M.drop k = [] := List.drop_eq_nil_of_le (by have := HK.out; omega)
        have hst : cmpL (L.drop k) (M.drop k) = 1 := by rw [hdL, hdM]; rfl
        have HST := Lib.hid hst
        clear hdL hdM hst
        go_wp2
        go_ret
        refine ⟨ret_bool ?_, q, rfl⟩
        rw [← hE.out, HST.out, decide_eq_decide]
        omega
    · have hkn : k = n := by omega
      subst hkn
      have d1 : decide ((k : Int) < (k : Int)) = false := decide_eq_false (by omega)
      have hdL : L.drop k = [] := List.drop_eq_nil_of_le (by have := HN.out; omega)
      by_cases hlm : k < m
      · have hd : decide ((k : Int) < (m : Int)) = true := decide_eq_true (by omega)
        have hdM := drop_int (xs := M) (k := k) (by have := HK.out; omega)
        have hst : cmpL (L.drop k) (M.drop k) = -1 := by rw [hdL, hdM]; rfl
        have HST := Lib.hid hst
        clear hdL hdM hst
        go_wp2
        go_ret
        refine ⟨ret_bool ?_, q, rfl⟩
        rw [← hE.out, HST.out]
        rfl
      · have hd : decide ((k : Int) < (m : Int)) = false := decide_eq_false (by omega)
        have hdM : M.drop k = [] := List.drop_eq_nil_of_le (by have := HK.out; omega)
        have hst : cmpL (L.drop k) (M.drop k) = 0 := by rw [hdL, hdM]; rfl
        have HST := Lib.hid hst
        clear hdL hdM hst
        go_wp2
        go_ret
        refine ⟨ret_bool ?_, q, rfl⟩
        rw [← hE.out, HST.out]
        rfl
end Go.Proofs.YtnnobbbljpaieaaDoor
