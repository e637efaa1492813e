/- math/bits.TrailingZeros of a number from 1 to 63, by the table that the program's text lays. -/
import Derived.Test.YtedjnenbmhajiaaDoorIn
import Derived.Test.YtedjnenbmhajiaaDoorIsGraph
namespace Go.Proofs.YtedjnenbmhajiaaDoor
open Go.RowKit
set_option linter.unusedVariables false

/-- The places of deBruijn64tab that small powers of two reach. -/
def Tab (w : World) : Prop := ∀ k : Nat, k < 6 → w.cell? ⟨1, 2 ^ k - 1, none⟩ = some (.int .u8 (k : Nat))
theorem Tab.lt {w : World} (h : Tab w) : 1 < w.heap.size := World.block_lt_of_cell? w _ (h 0 (by omega))
theorem Tab.below {w w' : World} {B : Nat} (h : Tab w) (hb : Below B w w') (hB : 2 ≤ B) : Tab w' := fun k hk => (hb.cell (p := ⟨1, 2 ^ k - 1, none⟩) (by show 1 < B; omega)).trans (h k hk)
theorem Tab.drewN {w : World} (h : Tab w) (n : Nat) : Tab (w.drewN n) := h

/-- The least node of a set of at most six nodes. -/
def tz (x : Nat) : Nat := if x % 2 = 1 then 0 else if x % 4 = 2 then 1 else if x % 8 = 4 then 2 else if x % 16 = 8 then 3 else if x % 32 = 16 then 4 else 5
theorem tz_lt (x : Nat) : tz x < 6 := by unfold tz; repeat (first | omega | split)
theorem zeros_word : ∀ x : Fin 64, 0 < x.val → IntKind.u64.wrap (bits .and .u64 (x.val : Int) (IntKind.u64.wrap (-(x.val : Int))) * 285870213051353865) / 288230376151711744 = ((2 ^ tz x.val - 1 : Nat) : Int) := by decide +kernel

set_option maxHeartbeats 1000000 in
theorem zeros64 (x : Nat) (w : World) (hx0 : 0 < x) (hx : x < 64) (h : Tab w) :
    Calls Tryd.prog 86 #[.int .u64 x] w fun e w' => e = .returned (.int .i64 (tz x)) ∧ w = w' := by
  have hz : ((x : Int) == 0) = false := by simp; omega
  have hE := zeros_word ⟨x, hx⟩ hx0
  dsimp only at hE
  have hc := h (tz x) (tz_lt x)
  have hk := tz_lt x
  have hp : 2 ^ tz x - 1 < 64 := by have := pow_le (tz x) 5 (by omega); omega
  obtain ⟨r, er⟩ : ∃ r, r = 2 ^ tz x - 1 := ⟨_, rfl⟩
  rw [← er] at hE hc hp
  obtain ⟨k, ek⟩ : ∃ k, k = tz x := ⟨_, rfl⟩
  rw [← ek] at hc hk ⊢
  clear er ek h
  go_enter Tryd.func86, Tryd.ntmps86
  go_wp2
  go_ret
  exact ⟨rfl, rfl⟩
set_option maxHeartbeats 1000000 in
theorem zeros_any (x : Nat) (w : World) (hx0 : 0 < x) (hx : x < 64) (h : Tab w) :
    Calls Tryd.prog 80 #[.int .u64 x] w fun e w' => e = .returned (.int .i64 (tz x)) ∧ w = w' := by
  go_enter Tryd.func80, Tryd.ntmps80
  go_wp2_with fail
  refine (zeros64 x _ hx0 hx h).mono ?_
  rintro e w1 ⟨rfl, rfl⟩
  go_wp2
  go_ret
  exact ⟨rfl, rfl⟩
end Go.Proofs.YtedjnenbmhajiaaDoor
