/- The program's flipped: a copy with a pair turned. -/
import Derived.Test.YtdhfnjpjccjkcaaDoorFlip
import Derived.Test.YtdhfnjpjccjkcaaDoorBaseC
import Derived.Test.YtdhfnjpjccjkcaaDoorDropFn
namespace Go.Proofs.YtdhfnjpjccjkcaaDoor
open Go.RowKit
set_option linter.unusedVariables false
set_option maxRecDepth 100000

theorem i64_xor_nat (a b : Nat) (ha : a < 9223372036854775808) (hb : b < 9223372036854775808) : bits .xor .i64 (a : Int) (b : Int) = ((a ^^^ b : Nat) : Int) :=
  unword (BitVec.ofInt 64 (a : Int) ^^^ BitVec.ofInt 64 (b : Int)) _ (by rw [BitVec.toNat_xor, word a ha, word b hb]) (Nat.xor_lt_two_pow ha hb)
theorem xor_pow (x k : Nat) (h : k ≤ 40) (hx : x < 9223372036854775808) : bits .xor .i64 (x : Int) (wrap64 ((2 : Int) ^ k)) = ((x ^^^ 2 ^ k : Nat) : Int) := by
  have h1 := pow_le k 40 h
  rw [wrap_pow k h, i64_xor_nat x _ hx (by omega)]

theorem append_list_g {ops : Array Oper} {rest : List Oper} {o : Oper} {a : Act} {Q : Exit → Act → World → Prop} (hgd : o.guard = none) (s x : Operand)
    (ho : o.op = .call { callee := .builtin .append, args := #[s, x], argTypes := #[46, 46] }) (w : World) (B : Nat) (v : Value) (xs ys : List Int) (A : Option Addr) (c : Nat)
    (hs : a.eval s = v) (hx : a.eval x = .slice A ys.length c) (hr : Row w B v xs) (hy : Seen w A ys) (h0 : 0 < ys.length) (hB : B ≤ w.heap.size) (hlen : xs.length + ys.length ≤ 100000)
    (h : ∀ v' w', Hid (Row w' B v' (xs ++ ys)) → Hid (Below B w w') → wpList Tryd.prog ops Q rest (a.put o.dst v') w') :
    wpList Tryd.prog ops Q (o :: rest) a w := by
  obtain ⟨i0, hi, hz0, hz1, hz2⟩ := info_parts infoInt
  obtain ⟨b, off, rfl, hc⟩ := seen_cells hy h0
  refine wpList_append_own w hgd s x 46 ho B 3 i0 (.int .i64 0) 1 8 Tryd.underlying46 hi hz0 hz1 hz2 rfl (by decide) v xs.length (xs.map (Value.int .i64)) hs hr
    ⟨b, off, none⟩ ys.length c (ys.map (Value.int .i64)) hx (by simp) hc (by simp [Value.oneCell']) (by unfold maxLen; omega) (by omega) hB ?_
  intro v' w' hown hg _
  refine h v' w' ?_ ?_
  · unfold Hid Row
    rw [List.length_append, List.map_append]
    exact hown
  · exact (Below.refl B w).grown hg hB (fun k hk => (hr.lt k hk).1)
theorem cloneG_any (A : Option Addr) (c : Nat) (xs : List Int) (h0 : 0 < xs.length) (hl : xs.length ≤ 1000) (w : World) (hs : Seen w A xs) : Calls Tryd.prog 95 #[.slice A xs.length c] w (Gave w xs) := by
  obtain ⟨b, o, hA, _, _⟩ := hs 0 h0
  subst hA
  have HS := Lib.hid hs
  have R0 := Lib.hid (World.ownsRow_lit (base := w.heap.size) (e := 3) (size := 1) w #[] 0 (Nat.le_refl _) (by unfold maxLen; omega) rfl)
  have B0 := Lib.hid ((Below.refl w.heap.size w).alloc (Nat.le_refl _) (.cells #[] 3))
  have he : ∀ w : World, (binOp .eql 46 (.slice (some ⟨b, o, none⟩) xs.length c) (.slice none 0 0)).run Tryd.prog w = .ok (.bool false) w := fun _ => rfl
  clear hs
  go_enter Tryd.func95, Tryd.ntmps95
  go_wp2_with (at_builtin; refine append_list_g rfl (.tmp 5) (.tmp 6) rfl (w.alloc (.cells #[] 3)) w.heap.size (.slice (some ⟨w.heap.size, 0, none⟩) 0 0) [] xs (some ⟨b, o, none⟩) c rfl rfl R0.out (HS.out.below B0.out) h0 B0.out.size (by simp; omega) ?_; intro v' w' hr' hb')
  go_ret
  exact ⟨v', rfl, by have h := hr'.out; rw [List.nil_append] at h; exact h, B0.out.trans hb'.out⟩

set_option maxHeartbeats 2000000 in
theorem flipped_fn (A : Option Addr) (c : Nat) (L : List Int) (hg : IsGraph L) (a b : Nat) (hab : a < b) (hb : b < L.length) (w : World) (hs : Seen w A L) :
    Calls Tryd.prog 72 #[.slice A L.length c, .int .i64 a, .int .i64 b] w (Gave w (flipG L a b)) := by
  have h6 := hg.2.1
  have HC := Lib.hid (cloneG_any A c L (by omega) (by omega) w hs)
  have hina := (hg.2.2 a (by omega)).1
  have hinb := (hg.2.2 b hb).1
  have ea := ent_int hina
  have eb := ent_int hinb
  have la := ent_lt hina
  have lb := ent_lt hinb
  have h64 := two_le h6
  have o1 := xor_pow (ent L a) b (by omega) (by omega)
  have o2 := xor_pow (ent L b) a (by omega) (by omega)
  have hfl : flipG L a b = (L.set a ((ent L a ^^^ 2 ^ b : Nat) : Int)).set b ((ent L b ^^^ 2 ^ a : Nat) : Int) := rfl
  obtain ⟨x, ex⟩ : ∃ x, x = ent L a := ⟨_, rfl⟩
  obtain ⟨y, ey⟩ : ∃ y, y = ent L b := ⟨_, rfl⟩
  rw [← ex] at ea la o1 hfl
  rw [← ey] at eb lb o2 hfl
  obtain ⟨x2, ex2⟩ : ∃ x2, x2 = x ^^^ 2 ^ b := ⟨_, rfl⟩
  obtain ⟨y2, ey2⟩ : ∃ y2, y2 = y ^^^ 2 ^ a := ⟨_, rfl⟩
  rw [← ex2] at o1 hfl
  rw [← ey2] at o2 hfl
  have HFL := Lib.hid hfl
  have HA := Lib.hid ea
  have HB := Lib.hid eb
  obtain ⟨n, hn⟩ : ∃ n, n = L.length := ⟨_, rfl⟩
  rw [← hn] at HC hb h6 ⊢
  have HN := Lib.hid hn
  have h1 : (0 : Int) ≤ (a : Int) ∧ (a : Int) < (n : Int) := by omega
  have h2 : (0 : Int) ≤ (b : Int) ∧ (b : Int) < (n : Int) := by omega
  have hne : a ≠ b := by omega
  have ha6 : a < 64 := by omega
  have hb6 : b < 64 := by omega
  clear hg hs hina hinb ea eb la lb h64 hfl ex ey ex2 ey2 hn
  go_enter Tryd.func72, Tryd.ntmps72
  go_wp2_with fail
  refine HC.out.mono ?_
  rintro e w1 ⟨v, rfl, r, b1⟩
  obtain ⟨n1, en1⟩ : ∃ n1, n = n1 + 1 := ⟨n - 1, by omega⟩
  obtain ⟨g, cap, rfl⟩ : ∃ g cap, v = .slice (some ⟨g, 0, none⟩) n cap := by
    have h0 := r
    unfold Row at h0
    rw [← HN.out, en1] at h0
    obtain ⟨g, cap, e⟩ := ownsRow_succ h0
    exact ⟨g, cap, by rw [e, en1]⟩
  have hca : w1.cell? ⟨g, a, none⟩ = some (.int .i64 x) := by rw [r.cellAt a (by rw [← HN.out]; omega), HA.out]
  have hcb : w1.cell? ⟨g, b, none⟩ = some (.int .i64 y) := by rw [r.cellAt b (by rw [← HN.out]; omega), HB.out]
  have hfa : w1.frozen? ⟨g, a, none⟩ = false := r.frozenAt a (by rw [← HN.out]; omega)
  have hfb : w1.frozen? ⟨g, b, none⟩ = false := r.frozenAt b (by rw [← HN.out]; omega)
  have hcb2 : ∀ z, (w1.setCell ⟨g, a, none⟩ z).cell? ⟨g, b, none⟩ = some (.int .i64 y) := fun z => (World.cell?_setCell_other _ _ _ _ (by simp)).trans hcb
  have hgw := (r.lt g rfl).1
  have R := Lib.hid r
  have B1 := Lib.hid b1
  have HGW := Lib.hid hgw
  clear r b1 hcb hgw en1
  go_wp2
  go_region
  all_goals go_wp2
  all_goals go_region
  all_goals go_wp2
  all_goals go_ret
  all_goals
    have r1 := R.out.set a (by rw [← HN.out]; omega) ((x2 : Nat) : Int)
    have r2 := r1.set b (by rw [List.length_set, ← HN.out]; omega) ((y2 : Nat) : Int)
    refine ⟨_, rfl, ?_, ?_⟩
    · rw [HFL.out]
      exact r2
    · exact ((B1.out.drew.setCell (p := ⟨g, a, none⟩) HGW.out _).drew.setCell (p := ⟨g, b, none⟩) HGW.out _)
end Go.Proofs.YtdhfnjpjccjkcaaDoor
