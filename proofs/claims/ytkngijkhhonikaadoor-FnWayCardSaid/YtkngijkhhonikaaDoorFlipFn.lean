/- The program's flipped: a copy with a pair turned. -/
import Derived.Test.YtkngijkhhonikaaDoorCloneG
import Derived.Test.YtkngijkhhonikaaDoorFlip
import Derived.Test.YtkngijkhhonikaaDoorCopy
import Derived.Test.YtkngijkhhonikaaDoorBaseA
namespace Go.Proofs.YtkngijkhhonikaaDoor
open Go.RowKit
set_option linter.unusedVariables false
set_option maxRecDepth 100000

set_option maxHeartbeats 2000000 in
theorem flipped_ne (A : Option Addr) (c : Nat) (L : List Int) (hg : IsGraph L) (a b : Nat) (hab : a ≠ b) (ha : a < L.length) (hb : b < L.length) (w : World) (hs : Seen w A L) :
    Calls Tryd.prog 88 #[.slice A L.length c, .int .i64 a, .int .i64 b] w (Gave w (flipG L a b)) := by
  have h6 := hg.2.1
  have HC := Lib.hid (cloneG_any A c L (by omega) (by omega) w hs)
  have hina := (hg.2.2 a (by omega)).1
  have hinb := (hg.2.2 b hb).1
  have ea := ent_int hina
  have eb := ent_int hinb
  have la := ent_lt hina
  have lb := ent_lt hinb
  have h64 := two_le h6
  have o1 := xor_pow (ent L a) b (by omega) (by omega)
  have o2 := xor_pow (ent L b) a (by omega) (by omega)
  have hfl : flipG L a b = (L.set a ((ent L a ^^^ 2 ^ b : Nat) : Int)).set b ((ent L b ^^^ 2 ^ a : Nat) : Int) := rfl
  obtain ⟨x, ex⟩ : ∃ x, x = ent L a := ⟨_, rfl⟩
  obtain ⟨y, ey⟩ : ∃ y, y = ent L b := ⟨_, rfl⟩
  rw [← ex] at ea la o1 hfl
  rw [← ey] at eb lb o2 hfl
  obtain ⟨x2, ex2⟩ : ∃ x2, x2 = x ^^^ 2 ^ b := ⟨_, rfl⟩
  obtain ⟨y2, ey2⟩ : ∃ y2, y2 = y ^^^ 2 ^ a := ⟨_, rfl⟩
  rw [← ex2] at o1 hfl
  rw [← ey2] at o2 hfl
  have HFL := Lib.hid hfl
  have HA := Lib.hid ea
  have HB := Lib.hid eb
  obtain ⟨n, hn⟩ : ∃ n, n = L.length := ⟨_, rfl⟩
  rw [← hn] at HC ha hb h6 ⊢
  have HN := Lib.hid hn
  have h1 : (0 : Int) ≤ (a : Int) ∧ (a : Int) < (n : Int) := by omega
  have h2 : (0 : Int) ≤ (b : Int) ∧ (b : Int) < (n : Int) := by omega
  have hne : a ≠ b := by omega
  have ha6 : a < 64 := by omega
  have hb6 : b < 64 := by omega
  clear hg hs hina hinb ea eb la lb h64 hfl ex ey ex2 ey2 hn
  go_enter Tryd.func88, Tryd.ntmps88
  go_wp2_with fail
  refine HC.out.mono ?_
  rintro e w1 ⟨v, rfl, r, b1⟩
  obtain ⟨n1, en1⟩ : ∃ n1, n = n1 + 1 := ⟨n - 1, by omega⟩
  obtain ⟨g, cap, rfl⟩ : ∃ g cap, v = .slice (some ⟨g, 0, none⟩) n cap := by
    have h0 := r
    unfold Row at h0
    rw [← HN.out, en1] at h0
    obtain ⟨g, cap, e⟩ := ownsRow_succ h0
    exact ⟨g, cap, by rw [e, en1]⟩
  have hca : w1.cell? ⟨g, a, none⟩ = some (.int .i64 x) := by rw [r.cellAt a (by rw [← HN.out]; omega), HA.out]
  have hcb : w1.cell? ⟨g, b, none⟩ = some (.int .i64 y) := by rw [r.cellAt b (by rw [← HN.out]; omega), HB.out]
  have hfa : w1.frozen? ⟨g, a, none⟩ = false := r.frozenAt a (by rw [← HN.out]; omega)
  have hfb : w1.frozen? ⟨g, b, none⟩ = false := r.frozenAt b (by rw [← HN.out]; omega)
  have hcb2 : ∀ z, (w1.setCell ⟨g, a, none⟩ z).cell? ⟨g, b, none⟩ = some (.int .i64 y) := fun z => (World.cell?_setCell_other _ _ _ _ (by simp)).trans hcb
  have hgw := (r.lt g rfl).1
  have R := Lib.hid r
  have B1 := Lib.hid b1
  have HGW := Lib.hid hgw
  clear r b1 hcb hgw en1
  go_wp2
  go_region
  all_goals go_wp2
  all_goals go_region
  all_goals go_wp2
  all_goals go_ret
  all_goals
    have r1 := R.out.set a (by rw [← HN.out]; omega) ((x2 : Nat) : Int)
    have r2 := r1.set b (by rw [List.length_set, ← HN.out]; omega) ((y2 : Nat) : Int)
    refine ⟨_, rfl, ?_, ?_⟩
    · rw [HFL.out]
      exact r2
    · exact ((B1.out.drew.setCell (p := ⟨g, a, none⟩) HGW.out _).drew.setCell (p := ⟨g, b, none⟩) HGW.out _)
theorem flipped_fn (A : Option Addr) (c : Nat) (L : List Int) (hg : IsGraph L) (a b : Nat) (hab : a < b) (hb : b < L.length) (w : World) (hs : Seen w A L) :
    Calls Tryd.prog 88 #[.slice A L.length c, .int .i64 a, .int .i64 b] w (Gave w (flipG L a b)) := flipped_ne A c L hg a b (by omega) (by omega) hb w hs
end Go.Proofs.YtkngijkhhonikaaDoor
