/- Drawing: a reader of bytes answers numbers below a bound. -/
import Derived.Test.YtdgceglbnfdhbaaDoorBaseA
import Derived.Test.YtdgceglbnfdhbaaDoorCodeIn
namespace Go.Proofs.YtdgceglbnfdhbaaDoor
open Go Go.RowKit
set_option linter.unusedVariables false
set_option maxRecDepth 100000

theorem i64_xor_natD (a b : Nat) (ha : a < 9223372036854775808) (hb : b < 9223372036854775808) : bits .xor .i64 (a : Int) (b : Int) = ((a ^^^ b : Nat) : Int) :=
  unword (BitVec.ofInt 64 (a : Int) ^^^ BitVec.ofInt 64 (b : Int)) _ (by rw [BitVec.toNat_xor, word a ha, word b hb]) (Nat.xor_lt_two_pow ha hb)
theorem xor_powD (x k : Nat) (h : k ≤ 40) (hx : x < 9223372036854775808) : bits .xor .i64 (x : Int) (wrap64 ((2 : Int) ^ k)) = ((x ^^^ 2 ^ k : Nat) : Int) := by
  have h1 := pow_le k 40 h
  rw [wrap_pow k h, i64_xor_natD x _ hx (by omega)]


/-- Bytes as a slice shows them. -/
def Byts (w : World) (A : Option Addr) (bs : List Nat) : Prop :=
  ∀ k, k < bs.length → ∃ b off, A = some ⟨b, off, none⟩ ∧ b < w.heap.size ∧ bs[k]?.getD 0 < 256 ∧ w.cell? ⟨b, off + k, none⟩ = some (.int .u8 (bs[k]?.getD 0 : Nat))
/-- The bytes, if any, lie in a block below B. -/
def Under (A : Option Addr) (bs : List Nat) (B : Nat) : Prop := 0 < bs.length → ∀ b off, A = some ⟨b, off, none⟩ → b < B
theorem Under.mono {A : Option Addr} {bs : List Nat} {B B' : Nat} (h : Under A bs B) (hB : B ≤ B') : Under A bs B' := fun h0 b off e => Nat.lt_of_lt_of_le (h h0 b off e) hB
theorem Byts.below {w w' : World} {B : Nat} {A : Option Addr} {bs : List Nat} (h : Byts w A bs) (hb : Below B w w') (hB : Under A bs B) : Byts w' A bs := fun k hk => by
  obtain ⟨b, off, hA, hlt, h256, hc⟩ := h k hk
  exact ⟨b, off, hA, Nat.lt_of_lt_of_le hlt hb.size, h256, (hb.cell (p := ⟨b, off + k, none⟩) (hB (by omega) b off hA)).trans hc⟩
/-- The reader's box. -/
def RdAt (w : World) (R : Nat) (A : Option Addr) (n c p : Nat) : Prop := w.heap[R]? = some (.cells #[.slice A n c, .int .i64 (p : Nat)] 85 (0, 0))
theorem RdAt.cell0 {w : World} {R : Nat} {A : Option Addr} {n c p : Nat} (h : RdAt w R A n c p) : w.cell? ⟨R, 0, none⟩ = some (.slice A n c) := by rw [cell_of_row w R _ _ _ _ h]; rfl
theorem RdAt.cell1 {w : World} {R : Nat} {A : Option Addr} {n c p : Nat} (h : RdAt w R A n c p) : w.cell? ⟨R, 1, none⟩ = some (.int .i64 (p : Nat)) := by rw [cell_of_row w R _ _ _ _ h]; rfl
theorem RdAt.frozen {w : World} {R : Nat} {A : Option Addr} {n c p : Nat} (h : RdAt w R A n c p) (k : Nat) : w.frozen? ⟨R, k, none⟩ = false := frozen_of_row w R k _ _ h
theorem RdAt.next {w : World} {R : Nat} {A : Option Addr} {n c p : Nat} (h : RdAt w R A n c p) (q : Nat) : RdAt (w.setCell ⟨R, 1, none⟩ (.int .i64 (q : Nat))) R A n c q := by
  unfold RdAt
  rw [heap_setCell_same w R _ _ _ _ h]
  rfl
theorem RdAt.lt {w : World} {R : Nat} {A : Option Addr} {n c p : Nat} (h : RdAt w R A n c p) : R < w.heap.size := (Array.getElem?_eq_some_iff.1 h).1

/-- A number below m is picked; the reader alone has changed. -/
def Picked (w : World) (R m p : Nat) (e : Ending) (w' : World) : Prop := ∃ x d : Nat, x < m ∧ e = .returned (.int .i64 (x : Nat)) ∧ w' = (w.setCell ⟨R, 1, none⟩ (.int .i64 ((p + 1 : Nat) : Nat))).drewN d

theorem wrap_idD {x : Int} (h1 : -9223372036854775808 ≤ x) (h2 : x < 9223372036854775808) : wrap64 x = x := by unfold wrap64; omega
theorem wrapN (a : Nat) (h : a < 9223372036854775808) : IntKind.i64.wrap ((a : Nat) : Int) = ((a : Nat) : Int) := by
  have e : ∀ x, IntKind.i64.wrap x = wrap64 x := fun x => by rw [IntKind.wrap_i64]; unfold wrap64; rfl
  rw [e]
  exact wrap_idD (by omega) (by omega)
theorem tmodN (a b : Nat) : ((a : Nat) : Int).tmod ((b : Nat) : Int) = ((a % b : Nat) : Int) := by rw [Int.tmod_eq_emod_of_nonneg (by omega)]; exact (Int.natCast_emod a b).symm
theorem tdivN (a b : Nat) : ((a : Nat) : Int).tdiv ((b : Nat) : Int) = ((a / b : Nat) : Int) := by rw [Int.tdiv_eq_ediv_of_nonneg (by omega)]; exact (Int.natCast_ediv a b).symm

set_option maxHeartbeats 4000000 in
theorem pick_any (R : Nat) (A : Option Addr) (c p m : Nat) (bs : List Nat) (hm : 1 ≤ m) (hm2 : m ≤ 1000) (hp : p ≤ 100000) (hl : bs.length ≤ 2000) (w : World) (hR : RdAt w R A bs.length c p) (hb : Byts w A bs) (hAR : Under A bs R) :
    Calls Tryd.prog 63 #[.pointer (some ⟨R, 0, none⟩), .int .i64 (m : Nat)] w (Picked w R m p) := by
  have c0 := hR.cell0
  have c1 := hR.cell1
  have f1 := hR.frozen 1
  have hR2 := hR.next (p + 1)
  have hp1 : ((p : Nat) : Int) + 1 = ((p + 1 : Nat) : Int) := by omega
  have wp1 := wrapN (p + 1) (by omega)
  obtain ⟨P, eP⟩ : ∃ P, P = p + 1 := ⟨_, rfl⟩
  have hcB : ∀ k, k < bs.length → ∃ b off, A = some ⟨b, off, none⟩ ∧ bs[k]?.getD 0 < 256 ∧ (w.setCell ⟨R, 1, none⟩ (.int .i64 (P : Nat))).cell? ⟨b, off + k, none⟩ = some (.int .u8 (bs[k]?.getD 0 : Nat)) := fun k hk => by
    obtain ⟨b, off, hA, hlt, h256, hc⟩ := hb k hk
    exact ⟨b, off, hA, h256, (World.cell?_setCell_other w _ _ _ (by intro e; injection e with e1; have := hAR (by omega) b off hA; omega)).trans hc⟩
  rw [← eP] at hR2 hp1 wp1
  have g0 := hR2.cell0
  have g1 := hR2.cell1
  have hP1 : ((P : Nat) : Int) - 1 = ((p : Nat) : Int) := by omega
  have wp := wrapN p (by omega)
  have hml : decide (((m : Nat) : Int) < 1) = false := decide_eq_false (by omega)
  have hm0 : (((m : Nat) : Int) == 0) = false := by simp; omega
  obtain ⟨n, hn⟩ : ∃ n, n = bs.length := ⟨_, rfl⟩
  rw [← hn] at c0 g0 hcB hl
  have HC := Lib.hid hcB
  have EP := Lib.hid eP
  have HF := Lib.hid (show ∀ x d : Nat, x < m → Picked w R m p (.returned (.int .i64 (x : Nat))) ((w.setCell ⟨R, 1, none⟩ (.int .i64 (P : Nat))).drewN d) from fun x d hx => ⟨x, d, hx, rfl, by rw [eP]⟩)
  clear hcB hb hR hR2 hn hAR eP
  by_cases h0 : n = 0
  · have hn0 : (((n : Nat) : Int) == 0) = true := by simp; omega
    go_enter Tryd.func63, Tryd.ntmps63
    go_wp2
    go_ret
    exact HF.out 0 0 (by omega)
  · have hn0 : (((n : Nat) : Int) == 0) = false := by simp; omega
    by_cases hk : p < n
    · have hkd : decide (((p : Nat) : Int) < ((n : Nat) : Int)) = true := decide_eq_true (by omega)
      obtain ⟨b, off, rfl, h256, hc⟩ := HC.out p hk
      obtain ⟨y, ey⟩ : ∃ y, y = bs[p]?.getD 0 := ⟨_, rfl⟩
      rw [← ey] at h256 hc
      have hi : (0 : Int) ≤ (p : Int) ∧ (p : Int) < (n : Int) := by omega
      have r1 := tmodN y m
      have q1 := Nat.mod_lt y (show 0 < m by omega)
      obtain ⟨x, ex⟩ : ∃ x, x = y % m := ⟨_, rfl⟩
      rw [← ex] at r1 q1
      have wy := wrapN y (by omega)
      have wx := wrapN x (by omega)
      clear ey ex
      go_enter Tryd.func63, Tryd.ntmps63
      go_wp2
      go_ret
      exact HF.out x 0 q1
    · have hkd : decide (((p : Nat) : Int) < ((n : Nat) : Int)) = false := decide_eq_false (by omega)
      obtain ⟨i1, e1⟩ : ∃ i1, i1 = p % n := ⟨_, rfl⟩
      have hi1 : i1 < n := by rw [e1]; exact Nat.mod_lt _ (by omega)
      obtain ⟨i2, e2⟩ : ∃ i2, i2 = (p * 7 + 3) % n := ⟨_, rfl⟩
      have hi2 : i2 < n := by rw [e2]; exact Nat.mod_lt _ (by omega)
      obtain ⟨b, off, rfl, h256, hc1⟩ := HC.out i1 hi1
      obtain ⟨b', off', hA, h256', hc2⟩ := HC.out i2 hi2
      obtain ⟨rfl, rfl⟩ : b = b' ∧ off = off' := by injection hA with e; injection e with e1 e2; exact ⟨e1, e2⟩
      clear hA
      obtain ⟨y1, ey1⟩ : ∃ y1, y1 = bs[i1]?.getD 0 := ⟨_, rfl⟩
      rw [← ey1] at h256 hc1
      obtain ⟨y2, ey2⟩ : ∃ y2, y2 = bs[i2]?.getD 0 := ⟨_, rfl⟩
      rw [← ey2] at h256' hc2
      have j1 : (0 : Int) ≤ (i1 : Int) ∧ (i1 : Int) < (n : Int) := by omega
      have j2 : (0 : Int) ≤ (i2 : Int) ∧ (i2 : Int) < (n : Int) := by omega
      have t1 : ((p : Nat) : Int).tmod ((n : Nat) : Int) = (i1 : Nat) := by rw [tmodN, e1]
      have u1 : wrap64 ((i1 : Nat) : Int) = (i1 : Nat) := wrap_idD (by omega) (by omega)
      obtain ⟨a1, ea1⟩ : ∃ a, a = y1 * 131 := ⟨_, rfl⟩
      have t2 : ((y1 : Nat) : Int) * 131 = (a1 : Nat) := by omega
      obtain ⟨b1, eb1⟩ : ∃ a, a = p * 7 := ⟨_, rfl⟩
      have t3 : ((p : Nat) : Int) * 7 = (b1 : Nat) := by omega
      obtain ⟨b2, eb2⟩ : ∃ a, a = b1 + 3 := ⟨_, rfl⟩
      have t4 : ((b1 : Nat) : Int) + 3 = (b2 : Nat) := by omega
      have t5 : ((b2 : Nat) : Int).tmod ((n : Nat) : Int) = (i2 : Nat) := by rw [tmodN, e2, eb2, eb1]
      obtain ⟨a2, ea2⟩ : ∃ a, a = y2 * 1117 := ⟨_, rfl⟩
      have t6 : ((y2 : Nat) : Int) * 1117 = (a2 : Nat) := by omega
      obtain ⟨a3, ea3⟩ : ∃ a, a = a1 + a2 := ⟨_, rfl⟩
      have t7 : ((a1 : Nat) : Int) + ((a2 : Nat) : Int) = (a3 : Nat) := by omega
      obtain ⟨a4, ea4⟩ : ∃ a, a = p * 29 := ⟨_, rfl⟩
      have t8 : ((p : Nat) : Int) * 29 = (a4 : Nat) := by omega
      obtain ⟨a5, ea5⟩ : ∃ a, a = a3 + a4 := ⟨_, rfl⟩
      have t9 : ((a3 : Nat) : Int) + ((a4 : Nat) : Int) = (a5 : Nat) := by omega
      obtain ⟨a6, ea6⟩ : ∃ a, a = p / n := ⟨_, rfl⟩
      have t10 : ((p : Nat) : Int).tdiv ((n : Nat) : Int) = (a6 : Nat) := by rw [tdivN, ea6]
      have l6 : a6 ≤ p := by rw [ea6]; exact Nat.div_le_self _ _
      obtain ⟨a7, ea7⟩ : ∃ a, a = a6 * 53 := ⟨_, rfl⟩
      have t11 : ((a6 : Nat) : Int) * 53 = (a7 : Nat) := by omega
      obtain ⟨a8, ea8⟩ : ∃ a, a = a5 + a7 := ⟨_, rfl⟩
      have t12 : ((a5 : Nat) : Int) + ((a7 : Nat) : Int) = (a8 : Nat) := by omega
      obtain ⟨a9, ea9⟩ : ∃ a, a = a8 / 64 := ⟨_, rfl⟩
      have t13 : ((a8 : Nat) : Int).tdiv 64 = (a9 : Nat) := by rw [ea9]; exact tdivN a8 64
      have l9 : a9 ≤ a8 := by rw [ea9]; exact Nat.div_le_self _ _
      have s8 : a8 < 100000000 := by omega
      obtain ⟨x0, ex0⟩ : ∃ a, a = a8 ^^^ a9 := ⟨_, rfl⟩
      have t14 : bits .xor .i64 ((a8 : Nat) : Int) ((a9 : Nat) : Int) = (x0 : Nat) := by rw [ex0]; exact i64_xor_natD a8 a9 (by omega) (by omega)
      have lx : x0 < 2 ^ 62 := by rw [ex0]; exact Nat.xor_lt_two_pow (by omega) (by omega)
      have lx2 : x0 < 9223372036854775808 := Nat.lt_trans lx (by decide)
      obtain ⟨x, ex⟩ : ∃ x, x = x0 % m := ⟨_, rfl⟩
      have t15 : ((x0 : Nat) : Int).tmod ((m : Nat) : Int) = (x : Nat) := by rw [tmodN, ex]
      have q1 : x < m := by rw [ex]; exact Nat.mod_lt _ (by omega)
      have w1 := wrapN a1 (by omega)
      have w2 := wrapN b1 (by omega)
      have w3 := wrapN b2 (by omega)
      have w4 := wrapN a2 (by omega)
      have w5 := wrapN a3 (by omega)
      have w6 := wrapN a4 (by omega)
      have w7 := wrapN a5 (by omega)
      have w8 := wrapN a6 (by omega)
      have w9 := wrapN a7 (by omega)
      have w10 := wrapN a8 (by omega)
      have w11 := wrapN a9 (by omega)
      have w12 := wrapN i1 (Nat.lt_trans hi1 (Nat.lt_of_le_of_lt hl (by decide)))
      have w13 := wrapN i2 (Nat.lt_trans hi2 (Nat.lt_of_le_of_lt hl (by decide)))
      have w14 := wrapN x (Nat.lt_trans q1 (Nat.lt_of_le_of_lt hm2 (by decide)))
      have w15 := wrapN y1 (Nat.lt_trans h256 (by decide))
      have w16 := wrapN y2 (Nat.lt_trans h256' (by decide))
      have w17 := wrapN x0 lx2
      clear e1 e2 ey1 ey2 ea1 eb1 eb2 ea2 ea3 ea4 ea5 ea6 ea7 ea8 ea9 ex0 ex lx lx2 l6 l9 s8 u1
      go_enter Tryd.func63, Tryd.ntmps63
      go_wp2
      go_quiet (fail)
      go_wp2
      go_ret
      exact HF.out x _ q1
end Go.Proofs.YtdgceglbnfdhbaaDoor
