/- How many graphs are alike to one: the number of names by that of automorphisms. -/
import Derived.Test.YtcemhepojjbcgaaDoorSameLaw
import Derived.Test.YtcemhepojjbcgaaDoorBaseL
namespace Go.Proofs.YtcemhepojjbcgaaDoor
open Go Go.RowKit
set_option linter.unusedVariables false
set_option maxRecDepth 100000


theorem id_auto {L : List Int} (hL : IsGraph L) : List.range L.length ∈ autosL L := List.mem_filter.2 ⟨range_perms L.length L.length (Nat.le_refl _), id_okC hL⟩
theorem autos_pos {L : List Int} (hL : IsGraph L) : 0 < (autosL L).length := List.length_pos_of_mem (id_auto hL)

def fac : Nat → Nat
  | 0 => 1
  | k + 1 => fac k * (k + 1)
theorem fac_le : ∀ k : Fin 7, fac k.val ≤ 720 := by decide
def manyN (L : List Int) : Nat := fac L.length / (autosL L).length

theorem fac_step (k x : Nat) (hk : k ≤ 6) (h1 : x ≤ 720) (ex : x = fac k) : wrap64 ((x : Int) * ((k : Int) + 1)) = (fac (k + 1) : Nat) := by
  have e : (x : Int) * ((k : Int) + 1) = ((x * (k + 1) : Nat) : Int) := by rw [Int.natCast_mul]; rfl
  have hz : x * (k + 1) ≤ 720 * 7 := Nat.mul_le_mul h1 (by omega)
  have ef : fac (k + 1) = x * (k + 1) := by rw [ex]; rfl
  rw [e, ef]
  obtain ⟨z, ez⟩ : ∃ z, z = x * (k + 1) := ⟨_, rfl⟩
  rw [← ez] at hz ⊢
  clear e ef ez
  unfold wrap64
  omega
theorem quo_small (x y : Nat) (h : x ≤ 720) : wrap64 ((x : Int) / (y : Int)) = ((x / y : Nat) : Int) := by
  have e : (x : Int) / (y : Int) = ((x / y : Nat) : Int) := by rw [Int.natCast_ediv]
  have hz : x / y ≤ x := Nat.div_le_self _ _
  rw [e]
  obtain ⟨z, ez⟩ : ∃ z, z = x / y := ⟨_, rfl⟩
  rw [← ez] at hz ⊢
  clear e ez
  unfold wrap64
  omega
set_option maxHeartbeats 1000000 in
theorem factorial_any (n : Nat) (h6 : n ≤ 6) (w : World) : Calls Tryd.prog 115 #[.int .i64 n] w fun e w' => e = .returned (.int .i64 (fac n : Nat)) ∧ w = w' := by
  go_enter Tryd.func115, Tryd.ntmps115
  go_wp2
  go_loop [3, 6] (fun p i => ∃ k : Nat, k ≤ n ∧ i = .int .i64 k ∧ p = .int .i64 (fac k : Nat)) (fun _ i => n - (intOf i).toNat)
  case atStart => exact ⟨0, Nat.zero_le _, rfl, rfl⟩
  case round =>
    obtain ⟨k, hk, rfl, rfl⟩ := hrel
    have h1 := fac_le ⟨k, by omega⟩
    dsimp only at h1
    obtain ⟨x, ex⟩ : ∃ x, x = fac k := ⟨_, rfl⟩
    rw [← ex] at h1
    rw [← ex]
    have EX := Lib.hid ex
    clear ex
    by_cases hlt : k < n
    · go_wp2
      go_round
      case rel =>
        refine ⟨k + 1, by omega, by go_num, ?_⟩
        rw [fac_step k x (by omega) h1 EX.out]
      case measure => simp [intOf]; omega
    · have hke : k = n := by omega
      subst hke
      go_wp2
      go_ret
      exact ⟨ret_int (by rw [EX.out]), rfl⟩

set_option maxHeartbeats 1000000 in
theorem many_any (A : Option Addr) (c : Nat) (L : List Int) (hL : IsGraph L) (w : World) (sL : Seen w A L) (hT : Tab w) :
    Calls Tryd.prog 82 #[.slice A L.length c] w (NumA w (manyN L)) := by
  have h6 := hL.2.1
  have H1 := Lib.hid (fun w => factorial_any L.length h6 w)
  have H2 := Lib.hid (same_any A c L hL w sL hT)
  have hf := fac_le ⟨L.length, by omega⟩
  have hp := autos_pos hL
  dsimp only at hf
  unfold manyN
  obtain ⟨x, ex⟩ : ∃ x, x = fac L.length := ⟨_, rfl⟩
  obtain ⟨y, ey⟩ : ∃ y, y = (autosL L).length := ⟨_, rfl⟩
  rw [← ex] at hf H1 ⊢
  rw [← ey] at hp H2 ⊢
  have hy : ((y : Int) == 0) = false := by simp; omega
  clear hL sL hT ex ey
  go_enter Tryd.func82, Tryd.ntmps82
  go_wp2_with fail
  refine (H1.out _).mono ?_
  rintro e w1 ⟨rfl, rfl⟩
  go_wp2_with fail
  refine H2.out.mono ?_
  rintro e w2 ⟨rfl, b2⟩
  have hq := quo_small x y hf
  have HQ := Lib.hid hq
  clear hq
  go_wp2
  go_ret
  exact ⟨ret_int HQ.out, b2⟩

theorem implAlikeMany_yes (B : Nat) (v : Value) (L : List Int) (hg : IsGraph L) (w : World) (h : Row w B v L) (hT : Tab w) :
    Calls Tryd.prog 32 #[v] w (NumOkA w (manyN L) true) := by
  have ht := hT.lt
  have H1 := Lib.hid (asG_graph B v L hg w h hT)
  obtain ⟨A, c, rfl, hs⟩ := h.seen
  have H2 := Lib.hid (fun w1 (b : Below w.heap.size w w1) => many_any A c L hg w1 (hs.below b) (hT.below b (by omega)))
  clear hg h hs hT
  go_enter Tryd.func32, Tryd.ntmps32
  go_wp2_with fail
  go_enter Tryd.func75, Tryd.ntmps75
  go_wp2_with fail
  refine H1.out.mono ?_
  rintro e w1 ⟨rfl, b1⟩
  go_wp2_with fail
  refine (H2.out _ b1).mono ?_
  rintro e w2 ⟨rfl, b2⟩
  go_wp2
  go_ret2
  exact ⟨rfl, b1.trans (b2.mono b1.size)⟩
theorem implAlikeMany_no (B : Nat) (v : Value) (L : List Int) (hg : ¬ IsGraph L) (w : World) (h : Row w B v L) (hT : Tab w) :
    Calls Tryd.prog 32 #[v] w (NumOkA w 0 false) := by
  have H1 := Lib.hid (asG_none B v L hg w h hT)
  clear hg h
  go_enter Tryd.func32, Tryd.ntmps32
  go_wp2_with fail
  go_enter Tryd.func75, Tryd.ntmps75
  go_wp2_with fail
  refine H1.out.mono ?_
  rintro e w1 ⟨rfl, b1⟩
  go_wp2
  go_ret2
  exact ⟨rfl, b1⟩
set_option maxHeartbeats 1000000 in
theorem specAlikeMany_yes (B : Nat) (v : Value) (L : List Int) (hg : IsGraph L) (w : World) (h : Row w B v L) :
    Calls Tryd.prog 41 #[v] w (NumOkA w (manyN L) true) := by
  have h6 := hg.2.1
  have h1 := hg.1
  have H1 := Lib.hid (specIn_any B v L true ⟨fun _ => hg, fun _ => rfl⟩ w h)
  obtain ⟨A, c, rfl, hs⟩ := h.seen
  have H2 := Lib.hid (fun w1 (b : Below w.heap.size w w1) => specAutos_seen A c L hg w1 (hs.below b))
  have hp := autos_pos hg
  unfold manyN
  obtain ⟨R, eR⟩ : ∃ R, R = autosL L := ⟨_, rfl⟩
  rw [← eR] at hp H2 ⊢
  obtain ⟨n, hn⟩ : ∃ n, n = L.length := ⟨_, rfl⟩
  rw [← hn] at h6 h1 H1 H2 ⊢
  clear hg h hs eR hn
  go_enter Tryd.func41, Tryd.ntmps41
  go_wp2_with fail
  refine H1.out.mono ?_
  rintro e w1 ⟨rfl, d, rfl⟩
  have B0 := Lib.hid (below_drewN (Below.refl w.heap.size w) d)
  obtain ⟨wd, ewd⟩ : ∃ wd, wd = w.drewN d := ⟨_, rfl⟩
  rw [← ewd] at B0 ⊢
  clear ewd
  go_wp2
  go_loop [4, 5] (fun p i => ∃ k : Nat, 1 ≤ k ∧ k ≤ n ∧ i = .int .i64 ((k + 1 : Nat) : Int) ∧ p = .int .i64 (fac k : Nat)) (fun _ i => n + 1 - (intOf i).toNat)
  case atStart => exact ⟨1, Nat.le_refl _, h1, rfl, rfl⟩
  case round =>
    obtain ⟨k, hk1, hk, rfl, rfl⟩ := hrel
    have hf := fac_le ⟨k, by omega⟩
    dsimp only at hf
    obtain ⟨x, ex⟩ : ∃ x, x = fac k := ⟨_, rfl⟩
    rw [← ex] at hf
    rw [← ex]
    by_cases hlt : k < n
    · have hfs := Lib.hid (fac_step k x (by omega) hf ex)
      clear ex
      go_wp2
      go_round
      case rel =>
        refine ⟨k + 1, by omega, by omega, by go_num, ?_⟩
        have h0 := hfs.out
        rw [← h0]
      case measure => simp [intOf] <;> omega
    · have hke : k = n := by omega
      subst hke
      rw [ex] at hf
      obtain ⟨y, ey⟩ : ∃ y, y = R.length := ⟨_, rfl⟩
      have hy : ((y : Int) == 0) = false := by simp; omega
      have HQ := Lib.hid (quo_small x y (by rw [ex]; exact hf))
      have EX := Lib.hid ex
      have EY := Lib.hid ey
      rw [ey] at hy
      clear ex ey
      go_wp2_with fail
      refine (H2.out _ B0.out).mono ?_
      rintro e w2 ⟨u, rfl, hu, b2⟩
      obtain ⟨ob, oc, rfl, _⟩ := hu.shape
      go_wp2
      go_ret2
      have e : wrap64 ((x : Int) / (R.length : Int)) = ((fac k / R.length : Nat) : Int) := by rw [← EY.out, ← EX.out]; exact HQ.out
      refine ⟨?_, B0.out.trans (b2.mono B0.out.size)⟩
      show Ending.returned (.tuple #[.int .i64 (wrap64 ((x : Int) / (R.length : Int))), .bool true]) = _
      rw [e]
theorem specAlikeMany_no (B : Nat) (v : Value) (L : List Int) (hg : ¬ IsGraph L) (w : World) (h : Row w B v L) :
    Calls Tryd.prog 41 #[v] w (NumOkA w 0 false) := by
  have H1 := Lib.hid (specIn_any B v L false ⟨fun h => (by cases h), fun h => absurd h hg⟩ w h)
  clear hg h
  go_enter Tryd.func41, Tryd.ntmps41
  go_wp2_with fail
  refine H1.out.mono ?_
  rintro e w1 ⟨rfl, d, rfl⟩
  go_wp2
  go_ret2
  exact ⟨rfl, below_drewN (Below.refl _ w) d⟩
end Go.Proofs.YtcemhepojjbcgaaDoor
