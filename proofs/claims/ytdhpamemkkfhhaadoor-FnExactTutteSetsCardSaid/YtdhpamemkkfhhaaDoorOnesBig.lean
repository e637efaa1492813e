/- How many ones a code of at most 10 places has: by math/bits. -/
import Derived.Test.YtdhpamemkkfhhaaDoorBaseA
namespace Go.Proofs.YtdhpamemkkfhhaaDoor
open Go.RowKit
set_option linter.unusedVariables false
set_option maxRecDepth 100000

def vb1 (x : Nat) : Nat := ((x / 2) &&& 6148914691236517205) + (x &&& 6148914691236517205)
def vb2 (x : Nat) : Nat := ((vb1 x / 4) &&& 3689348814741910323) + (vb1 x &&& 3689348814741910323)
def vb3 (x : Nat) : Nat := (vb2 x / 16 + vb2 x) &&& 1085102592571150095
def vbAll (x : Nat) : Prop :=
    bits .and .u64 ((x : Int) / 2) 6148914691236517205 = (((x / 2) &&& 6148914691236517205 : Nat) : Int) ∧ bits .and .u64 (x : Int) 6148914691236517205 = ((x &&& 6148914691236517205 : Nat) : Int) ∧
    bits .and .u64 ((vb1 x : Int) / 4) 3689348814741910323 = (((vb1 x / 4) &&& 3689348814741910323 : Nat) : Int) ∧ bits .and .u64 (vb1 x : Int) 3689348814741910323 = ((vb1 x &&& 3689348814741910323 : Nat) : Int) ∧
    bits .and .u64 (((vb2 x / 16 + vb2 x : Nat)) : Int) 1085102592571150095 = (vb3 x : Int) ∧ vb3 x + vb3 x / 256 < 65536 ∧ ((x / 2) &&& 6148914691236517205) < 3000 ∧ (x &&& 6148914691236517205) < 3000 ∧ ((vb1 x / 4) &&& 3689348814741910323) < 3000 ∧ (vb1 x &&& 3689348814741910323) < 3000 ∧
    vb3 x < 65536 ∧ bits .and .i64 (((vb3 x + vb3 x / 256 : Nat)) : Int) 127 = (pcf 15 x : Int)
instance (x : Nat) : Decidable (vbAll x) := by unfold vbAll; exact inferInstance
theorem vb_facts : ∀ x : Fin 1024, vbAll x.val := by decide +kernel

set_option maxHeartbeats 1000000 in
theorem ones64b (x : Nat) (hx : x < 1024) (w : World) : Calls Tryd.prog 95 #[.int .u64 x] w (Num w (pcf 15 x)) := by
  obtain ⟨f1, f2, f3, f4, f5, f6, l1, l2, l3, l4, l5, f7⟩ := vb_facts ⟨x, hx⟩
  dsimp only at f1 f2 f3 f4 f5 f6 l1 l2 l3 l4 f7 l5
  obtain ⟨a1, e1⟩ : ∃ a, a = (x / 2) &&& 6148914691236517205 := ⟨_, rfl⟩
  obtain ⟨a2, e2⟩ : ∃ a, a = x &&& 6148914691236517205 := ⟨_, rfl⟩
  have s1 : vb1 x = a1 + a2 := by unfold vb1; rw [e1, e2]
  rw [← e1] at f1 l1
  rw [← e2] at f2 l2
  obtain ⟨b, eb⟩ : ∃ b, b = vb1 x := ⟨_, rfl⟩
  rw [← eb] at f3 f4 l3 l4 s1
  obtain ⟨a3, e3⟩ : ∃ a, a = (b / 4) &&& 3689348814741910323 := ⟨_, rfl⟩
  obtain ⟨a4, e4⟩ : ∃ a, a = b &&& 3689348814741910323 := ⟨_, rfl⟩
  have s2 : vb2 x = a3 + a4 := by unfold vb2; rw [e3, e4, eb]
  rw [← e3] at f3 l3
  rw [← e4] at f4 l4
  obtain ⟨d, ed⟩ : ∃ d, d = vb2 x := ⟨_, rfl⟩
  rw [← ed] at f5 s2
  obtain ⟨m, em⟩ : ∃ m, m = vb3 x := ⟨_, rfl⟩
  rw [← em] at f5 f6 f7 l5
  obtain ⟨u, eu⟩ : ∃ u, u = pcf 15 x := ⟨_, rfl⟩
  rw [← eu] at f7 ⊢
  have hu : u ≤ 15 := by rw [eu]; exact pcf_le 15 x
  obtain ⟨q, eq⟩ : ∃ q, q = d / 16 + d := ⟨_, rfl⟩
  rw [← eq] at f5
  obtain ⟨t, et⟩ : ∃ t, t = m + m / 256 := ⟨_, rfl⟩
  rw [← et] at f7
  have g1 : (a1 : Int) + (a2 : Int) = (b : Int) := by omega
  have g2 : (a3 : Int) + (a4 : Int) = (d : Int) := by omega
  have g3 : (d : Int) / 16 + (d : Int) = (q : Int) := by omega
  have g4 : (m : Int) + (m : Int) / 256 = (t : Int) := by omega
  have g5 : (t : Int) / 65536 = 0 := by omega
  have g6 : (t : Int) / 4294967296 = 0 := by omega
  have lb : b < 6000 := by omega
  have ld : d < 6000 := by omega
  clear e1 e2 e3 e4 eb ed em eq s1 s2 f6 eu et
  go_enter Tryd.func95, Tryd.ntmps95
  go_wp2
  go_ret
  exact ⟨rfl, rfl⟩
theorem onesB (x : Nat) (hx : x < 1024) (w : World) : Calls Tryd.prog 72 #[.int .u64 x] w (Num w (pcf 15 x)) := by
  go_enter Tryd.func72, Tryd.ntmps72
  go_wp2_with fail
  refine (ones64b x hx _).mono ?_
  rintro e w1 ⟨rfl, rfl⟩
  go_wp2
  go_ret
  exact ⟨rfl, rfl⟩
end Go.Proofs.YtdhpamemkkfhhaaDoor
