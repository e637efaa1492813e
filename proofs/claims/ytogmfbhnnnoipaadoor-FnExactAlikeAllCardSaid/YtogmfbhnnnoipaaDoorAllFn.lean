/- AlikeAll by the program and by the model; the law returns true at each number. -/
import Derived.Test.YtogmfbhnnnoipaaDoorLeastCodes
import Derived.Test.YtogmfbhnnnoipaaDoorSpecAll
import Derived.Test.YtogmfbhnnnoipaaDoorDeckOfFn
namespace Go.Proofs.YtogmfbhnnnoipaaDoor
open Go Go.RowKit
set_option linter.unusedVariables false
set_option maxRecDepth 100000

/-- What AlikeAll answers. -/
def allSaid (z : Int) : List Int × Bool := if 1 ≤ z ∧ z ≤ 5 then (ints (firstA z.toNat), true) else ([], false)
theorem allSaid_yes {n : Nat} (h1 : 1 ≤ n) (h5 : n ≤ 5) : allSaid (n : Nat) = (ints (firstA n), true) := by
  unfold allSaid
  rw [if_pos ⟨by omega, by omega⟩, Int.toNat_natCast]
theorem allSaid_no {z : Int} (h : ¬ (1 ≤ z ∧ z ≤ 5)) : allSaid z = ([], false) := if_neg h
theorem allSaid_len (z : Int) : (allSaid z).1.length ≤ 1000 := by
  by_cases h : 1 ≤ z ∧ z ≤ 5
  · obtain ⟨n, rfl⟩ : ∃ n : Nat, z = n := ⟨z.toNat, by omega⟩
    rw [allSaid_yes (by omega) (by omega)]
    show (ints _).length ≤ 1000
    rw [ints_length]
    have := firstA_len (n := n) (by omega)
    omega
  · rw [allSaid_no h]; simp

set_option maxHeartbeats 1000000 in
theorem implAll_any (z : Int) (w : World) (hT : Tab w) : Calls Tryd.prog 34 #[.int .i64 z] w (Told w (allSaid z).1 (allSaid z).2) := by
  by_cases h : 1 ≤ z ∧ z ≤ 5
  · obtain ⟨n, rfl⟩ : ∃ n : Nat, z = n := ⟨z.toNat, by omega⟩
    rw [allSaid_yes (by omega) (by omega)]
    have HL := Lib.hid (leastCodes_any n (by omega) (by omega) w hT)
    have d1 : decide ((n : Int) < 1) = false := decide_eq_false (by omega)
    have d2 : decide ((5 : Int) < (n : Int)) = false := decide_eq_false (by omega)
    clear h hT
    go_enter Tryd.func34, Tryd.ntmps34
    go_wp2_with fail
    refine HL.out.mono ?_
    rintro e w1 ⟨v, rfl, r, b⟩
    go_wp2
    go_ret2
    exact ⟨_, rfl, r, b⟩
  · rw [allSaid_no h]
    by_cases h1 : z < 1
    · have d1 : decide (z < 1) = true := decide_eq_true h1
      clear h h1
      go_enter Tryd.func34, Tryd.ntmps34
      go_wp2
      go_ret2
      exact ⟨_, rfl, World.ownsRow_nil w w.heap.size 3 1, Below.refl _ _⟩
    · have d1 : decide (z < 1) = false := decide_eq_false h1
      have d2 : decide (5 < z) = true := decide_eq_true (by omega)
      clear h h1
      go_enter Tryd.func34, Tryd.ntmps34
      go_wp2
      go_ret2
      exact ⟨_, rfl, World.ownsRow_nil w w.heap.size 3 1, Below.refl _ _⟩

set_option maxHeartbeats 1000000 in
theorem specAll_any (z : Int) (w : World) : Calls Tryd.prog 33 #[.int .i64 z] w (Told w (allSaid z).1 (allSaid z).2) := by
  by_cases h : 1 ≤ z ∧ z ≤ 5
  · obtain ⟨n, rfl⟩ : ∃ n : Nat, z = n := ⟨z.toNat, by omega⟩
    rw [allSaid_yes (by omega) (by omega)]
    exact specAll_codes n (by omega) (by omega) w
  · rw [allSaid_no h]
    have HIN := Lib.hid (in_any z 1 5)
    have hd : decide (1 ≤ z ∧ z ≤ 5) = false := decide_eq_false h
    clear h
    go_enter Tryd.func33, Tryd.ntmps33
    go_wp2_with fail
    refine (HIN.out _).mono ?_
    rintro e w0 ⟨rfl, rfl⟩
    rw [hd]
    go_wp2
    go_ret2
    exact ⟨_, rfl, emptyRow w, (Below.refl _ w).alloc (Nat.le_refl _) _⟩

set_option maxHeartbeats 1600000 in
theorem allLaw_any (z : Int) (w : World) (hT : Tab w) : Calls Tryd.prog 11 #[.int .i64 z] w (Fine w) := by
  have h2 := hT.lt
  have HS := Lib.hid (specAll_any z)
  have HI := Lib.hid (implAll_any z)
  have HT := Lib.hid hT
  have hM := allSaid_len z
  obtain ⟨M, ok, eM⟩ : ∃ M ok, allSaid z = (M, ok) := ⟨_, _, rfl⟩
  rw [eM] at HS HI hM
  change M.length ≤ 1000 at hM
  clear hT eM
  cases ok
  all_goals
    go_enter Tryd.func11, Tryd.ntmps11
    go_wp2_with fail
    refine (HS.out _).mono ?_
    rintro e w2 ⟨u0, rfl, ru, b2⟩
    go_wp2_with fail
    refine (HI.out _ (HT.out.below b2 (by omega))).mono ?_
    rintro e w4 ⟨g0, rfl, rg, bb4⟩
    have b4 := b2.trans (bb4.mono b2.size)
    have lu := ru.lt
    have lg := rg.lt
    have LU := Lib.hid lu
    have LG := Lib.hid lg
    clear lu lg
    have ru4 := ru.below bb4
    go_wp2_with fail
    refine (eq_yes _ _ g0 u0 M _ rg ru4 (by omega)).mono ?_
    rintro e w5 ⟨rfl, d1, rfl⟩
    have b5 := below_drewN b4 d1
    have ru5 := ru4.drewN d1
    go_wp2_with fail
    refine (mark_any _ g0 M 1 _ (by omega) (by omega) (by omega) (rg.drewN d1)).mono ?_
    rintro e w10 ⟨rfl, rgm, hg10⟩
    have ru10 := ru5.keep (apart_of LU.out LG.out (.inl (Nat.le_refl _))) hg10
    have b10 : Below w.heap.size w w10 := Below.grown b5 hg10 b5.size (fun k hk => Nat.le_trans b2.size (LG.out k hk).1)
    have hlt1 : decide ((1 : Int) + (M.length : Int) < 0) = false := by simp; omega
    go_wp2_with fail
    refine (held_any _ g0 M.length 1 _ (by omega) (by omega) (by omega) rgm).mono ?_
    rintro e w11 ⟨rfl, rfl⟩
    go_wp2_with fail
    refine (HI.out _ (HT.out.below b10 (by omega))).mono ?_
    rintro e w13 ⟨h0, rfl, rh, bb13⟩
    have b13 := b10.trans (bb13.mono b10.size)
    have ru13 := ru10.below bb13
    have rg13 := rgm.below bb13
    go_wp2_with fail
    refine (eq_yes _ _ h0 u0 M _ rh ru13 (by omega)).mono ?_
    rintro e w14 ⟨rfl, d4, rfl⟩
    go_wp2_with fail
    refine (held_any _ g0 M.length 1 _ (by omega) (by omega) (by omega) (rg13.drewN d4)).mono ?_
    rintro e w15 ⟨rfl, rfl⟩
    go_wp2
    go_ret
    exact ⟨rfl, below_drewN b13 d4⟩
end Go.Proofs.YtogmfbhnnnoipaaDoor
