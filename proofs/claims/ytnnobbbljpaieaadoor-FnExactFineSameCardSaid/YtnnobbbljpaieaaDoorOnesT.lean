/- How many members a set of at most twelve nodes has, by math/bits; degree. -/
import Derived.Test.YtnnobbbljpaieaaDoorNodesT
namespace Go.Proofs.YtnnobbbljpaieaaDoor
open Go.RowKit
set_option linter.unusedVariables false
set_option maxRecDepth 100000

def vT1 (x : Nat) : Nat := ((x / 2) &&& 6148914691236517205) + (x &&& 6148914691236517205)
def vT2 (x : Nat) : Nat := ((vT1 x / 4) &&& 3689348814741910323) + (vT1 x &&& 3689348814741910323)
def vT3 (x : Nat) : Nat := (vT2 x / 16 + vT2 x) &&& 1085102592571150095
theorem onesT_facts : ∀ x : Fin 4096,
    bits .and .u64 ((x.val : Int) / 2) 6148914691236517205 = (((x.val / 2) &&& 6148914691236517205 : Nat) : Int) ∧ bits .and .u64 (x.val : Int) 6148914691236517205 = ((x.val &&& 6148914691236517205 : Nat) : Int) ∧
    bits .and .u64 ((vT1 x.val : Int) / 4) 3689348814741910323 = (((vT1 x.val / 4) &&& 3689348814741910323 : Nat) : Int) ∧ bits .and .u64 (vT1 x.val : Int) 3689348814741910323 = ((vT1 x.val &&& 3689348814741910323 : Nat) : Int) ∧
    bits .and .u64 (((vT2 x.val / 16 + vT2 x.val : Nat)) : Int) 1085102592571150095 = (vT3 x.val : Int) ∧ ((x.val / 2) &&& 6148914691236517205) < 10000 ∧ (x.val &&& 6148914691236517205) < 10000 ∧ ((vT1 x.val / 4) &&& 3689348814741910323) < 10000 ∧ (vT1 x.val &&& 3689348814741910323) < 10000 ∧
    bits .and .i64 ((vT3 x.val + vT3 x.val / 256 : Nat) : Int) 127 = (cntT12 x.val : Int) ∧ vT3 x.val < 10000 ∧ cntT12 x.val ≤ 12 := by decide +kernel

set_option maxHeartbeats 1000000 in
theorem onesT64 (x : Nat) (hx : x < 4096) (w : World) : Calls Tryd.prog 85 #[.int .u64 x] w (Num w (cntT12 x)) := by
  obtain ⟨f1, f2, f3, f4, f5, l1, l2, l3, l4, f7, l6, l5⟩ := onesT_facts ⟨x, hx⟩
  dsimp only at f1 f2 f3 f4 f5 l1 l2 l3 l4 f7 l6 l5
  obtain ⟨a1, e1⟩ : ∃ a, a = (x / 2) &&& 6148914691236517205 := ⟨_, rfl⟩
  obtain ⟨a2, e2⟩ : ∃ a, a = x &&& 6148914691236517205 := ⟨_, rfl⟩
  have s1 : vT1 x = a1 + a2 := by unfold vT1; rw [e1, e2]
  rw [← e1] at f1 l1
  rw [← e2] at f2 l2
  obtain ⟨b, eb⟩ : ∃ b, b = vT1 x := ⟨_, rfl⟩
  rw [← eb] at f3 f4 l3 l4 s1
  obtain ⟨a3, e3⟩ : ∃ a, a = (b / 4) &&& 3689348814741910323 := ⟨_, rfl⟩
  obtain ⟨a4, e4⟩ : ∃ a, a = b &&& 3689348814741910323 := ⟨_, rfl⟩
  have s2 : vT2 x = a3 + a4 := by unfold vT2; rw [e3, e4, eb]
  rw [← e3] at f3 l3
  rw [← e4] at f4 l4
  obtain ⟨d, ed⟩ : ∃ d, d = vT2 x := ⟨_, rfl⟩
  rw [← ed] at f5 s2
  obtain ⟨m, em⟩ : ∃ m, m = vT3 x := ⟨_, rfl⟩
  rw [← em] at f5 f7 l6
  obtain ⟨z, ez⟩ : ∃ z, z = cntT12 x := ⟨_, rfl⟩
  rw [← ez] at f7 l5 ⊢
  obtain ⟨q, eq⟩ : ∃ q, q = d / 16 + d := ⟨_, rfl⟩
  rw [← eq] at f5
  obtain ⟨t, et⟩ : ∃ t, t = m / 256 := ⟨_, rfl⟩
  rw [← et] at f7
  obtain ⟨p, ep⟩ : ∃ p, p = m + t := ⟨_, rfl⟩
  rw [← ep] at f7
  have g1 : (a1 : Int) + (a2 : Int) = (b : Int) := by omega
  have g2 : (a3 : Int) + (a4 : Int) = (d : Int) := by omega
  have g3 : (d : Int) / 16 + (d : Int) = (q : Int) := by omega
  have g4 : (m : Int) / 256 = (t : Int) := by omega
  have g7 : (m : Int) + (t : Int) = (p : Int) := by omega
  have g8 : (t : Int) + (m : Int) = (p : Int) := by omega
  have g5 : (p : Int) / 65536 = 0 := by omega
  have g6 : (p : Int) / 4294967296 = 0 := by omega
  have lb : b < 20000 := by omega
  have ld : d < 20000 := by omega
  have lp : p < 20000 := by omega
  clear e1 e2 e3 e4 eb ed em eq s1 s2 ez et ep
  go_enter Tryd.func85, Tryd.ntmps85
  go_wp2
  go_ret
  exact ⟨rfl, rfl⟩
theorem onesT_any (x : Nat) (hx : x < 4096) (w : World) : Calls Tryd.prog 80 #[.int .u64 x] w (Num w (cntT12 x)) := by
  go_enter Tryd.func80, Tryd.ntmps80
  go_wp2_with fail
  refine (onesT64 x hx _).mono ?_
  rintro e w1 ⟨rfl, rfl⟩
  go_wp2
  go_ret
  exact ⟨rfl, rfl⟩
/-- degree: the number of neighbours. -/
theorem degreeT_any (b off n c a X : Nat) (w : World) (hX : X < 4096) (ha : a < n) (hc : w.cell? ⟨b, off + a, none⟩ = some (.int .i64 X)) :
    Calls Tryd.prog 69 #[.slice (some ⟨b, off, none⟩) n c, .int .i64 a] w (Num w (cntT12 X)) := by
  have hi1 : (0 : Int) ≤ (a : Int) ∧ (a : Int) < (n : Int) := by omega
  go_enter Tryd.func69, Tryd.ntmps69
  go_wp2_with fail
  refine (onesT_any X hX _).mono ?_
  rintro e w1 ⟨rfl, rfl⟩
  go_wp2
  go_ret
  exact ⟨rfl, rfl⟩
end Go.Proofs.YtnnobbbljpaieaaDoor
