/- How many ones a code of at most 15 places has: by math/bits. -/
import Derived.Test.YtkngijkhhonikaaDoorBaseA
namespace Go.Proofs.YtkngijkhhonikaaDoor
open Go.RowKit
set_option linter.unusedVariables false
set_option maxRecDepth 100000

/-- For all numbers from s on, 2 ^ k of them. -/
def allP (p : Nat → Bool) (k : Nat) : Nat → Bool := Nat.rec (motive := fun _ => Nat → Bool) (fun s => p s) (fun k r s => r s && r (s + 2 ^ k)) k
theorem allP_zero (p : Nat → Bool) (s : Nat) : allP p 0 s = p s := rfl
theorem allP_succ (p : Nat → Bool) (k s : Nat) : allP p (k + 1) s = (allP p k s && allP p k (s + 2 ^ k)) := rfl
theorem allP_spec {p : Nat → Bool} {k s : Nat} (h : allP p k s = true) : ∀ x, s ≤ x → x < s + 2 ^ k → p x = true := by
  induction k generalizing s with
  | zero =>
    intro x h1 h2
    have e : x = s := by omega
    rw [e]; exact h
  | succ k ih =>
    intro x h1 h2
    rw [allP_succ, Bool.and_eq_true] at h
    by_cases e : x < s + 2 ^ k
    · exact ih h.1 x h1 e
    · exact ih h.2 x (by omega) (by rw [Nat.pow_succ] at h2; omega)
theorem allP_15 {p : Nat → Bool} (h0 : allP p 12 0 = true) (h1 : allP p 12 4096 = true) (h2 : allP p 12 8192 = true) (h3 : allP p 12 12288 = true)
    (h4 : allP p 12 16384 = true) (h5 : allP p 12 20480 = true) (h6 : allP p 12 24576 = true) (h7 : allP p 12 28672 = true) : ∀ x, x < 32768 → p x = true := by
  intro x hx
  rcases Nat.lt_or_ge x 4096 with h | h
  · exact allP_spec h0 x (by omega) (by omega)
  rcases Nat.lt_or_ge x 8192 with h | h
  · exact allP_spec h1 x (by omega) (by omega)
  rcases Nat.lt_or_ge x 12288 with h | h
  · exact allP_spec h2 x (by omega) (by omega)
  rcases Nat.lt_or_ge x 16384 with h | h
  · exact allP_spec h3 x (by omega) (by omega)
  rcases Nat.lt_or_ge x 20480 with h | h
  · exact allP_spec h4 x (by omega) (by omega)
  rcases Nat.lt_or_ge x 24576 with h | h
  · exact allP_spec h5 x (by omega) (by omega)
  rcases Nat.lt_or_ge x 28672 with h | h
  · exact allP_spec h6 x (by omega) (by omega)
  · exact allP_spec h7 x (by omega) (by omega)

theorem unwordU (v : BitVec 64) (m : Nat) (hv : v.toNat = m) (h : m < 2 ^ 63) : IntKind.u64.wrap (v.toNat : Int) = (m : Int) := by
  rw [hv]
  simp [IntKind.wrap, IntKind.bits, IntKind.signed]
  omega
theorem u64_and_nat (a b : Nat) (ha : a < 9223372036854775808) (hb : b < 9223372036854775808) : bits .and .u64 (a : Int) (b : Int) = ((a &&& b : Nat) : Int) :=
  unwordU (BitVec.ofInt 64 (a : Int) &&& BitVec.ofInt 64 (b : Int)) _ (by rw [BitVec.toNat_and, word a ha, word b hb]) (Nat.and_lt_two_pow a hb)

def vc1 (x : Nat) : Nat := ((x / 2) &&& 6148914691236517205) + (x &&& 6148914691236517205)
def vc2 (x : Nat) : Nat := ((vc1 x / 4) &&& 3689348814741910323) + (vc1 x &&& 3689348814741910323)
def vc3 (x : Nat) : Nat := (vc2 x / 16 + vc2 x) &&& 1085102592571150095
def vcOk (x : Nat) : Bool := Nat.ble (vc3 x + vc3 x / 256) 65535 && Nat.beq ((vc3 x + vc3 x / 256) &&& 127) (pcf 15 x)
theorem vc_0 : allP vcOk 12 0 = true := by decide +kernel
theorem vc_1 : allP vcOk 12 4096 = true := by decide +kernel
theorem vc_2 : allP vcOk 12 8192 = true := by decide +kernel
theorem vc_3 : allP vcOk 12 12288 = true := by decide +kernel
theorem vc_4 : allP vcOk 12 16384 = true := by decide +kernel
theorem vc_5 : allP vcOk 12 20480 = true := by decide +kernel
theorem vc_6 : allP vcOk 12 24576 = true := by decide +kernel
theorem vc_7 : allP vcOk 12 28672 = true := by decide +kernel
theorem vc_all {x : Nat} (hx : x < 32768) : vc3 x + vc3 x / 256 < 65536 ∧ (vc3 x + vc3 x / 256) &&& 127 = pcf 15 x := by
  have h := allP_15 vc_0 vc_1 vc_2 vc_3 vc_4 vc_5 vc_6 vc_7 x hx
  unfold vcOk at h
  rw [Bool.and_eq_true] at h
  have h1 := Nat.le_of_ble_eq_true h.1
  exact ⟨by omega, Nat.eq_of_beq_eq_true h.2⟩

set_option maxHeartbeats 1000000 in
theorem ones64c (x : Nat) (hx : x < 32768) (w : World) : Calls Tryd.prog 81 #[.int .u64 x] w (Num w (pcf 15 x)) := by
  obtain ⟨f6, f7⟩ := vc_all hx
  have f1 : bits .and .u64 ((x / 2 : Nat) : Int) (6148914691236517205 : Int) = (((x / 2) &&& 6148914691236517205 : Nat) : Int) := u64_and_nat (x / 2) 6148914691236517205 (by omega) (by decide)
  have f2 : bits .and .u64 (x : Int) (6148914691236517205 : Int) = ((x &&& 6148914691236517205 : Nat) : Int) := u64_and_nat x 6148914691236517205 (by omega) (by decide)
  have l1 : (x / 2) &&& 6148914691236517205 ≤ x / 2 := Nat.and_le_left
  have l2 : x &&& 6148914691236517205 ≤ x := Nat.and_le_left
  obtain ⟨a1, e1⟩ : ∃ a, a = (x / 2) &&& 6148914691236517205 := ⟨_, rfl⟩
  obtain ⟨a2, e2⟩ : ∃ a, a = x &&& 6148914691236517205 := ⟨_, rfl⟩
  have s1 : vc1 x = a1 + a2 := by unfold vc1; rw [e1, e2]
  rw [← e1] at f1 l1
  rw [← e2] at f2 l2
  obtain ⟨b, eb⟩ : ∃ b, b = vc1 x := ⟨_, rfl⟩
  rw [← eb] at s1
  have f3 : bits .and .u64 ((b / 4 : Nat) : Int) (3689348814741910323 : Int) = (((b / 4) &&& 3689348814741910323 : Nat) : Int) := u64_and_nat (b / 4) 3689348814741910323 (by omega) (by decide)
  have f4 : bits .and .u64 (b : Int) (3689348814741910323 : Int) = ((b &&& 3689348814741910323 : Nat) : Int) := u64_and_nat b 3689348814741910323 (by omega) (by decide)
  have l3 : (b / 4) &&& 3689348814741910323 ≤ b / 4 := Nat.and_le_left
  have l4 : b &&& 3689348814741910323 ≤ b := Nat.and_le_left
  obtain ⟨a3, e3⟩ : ∃ a, a = (b / 4) &&& 3689348814741910323 := ⟨_, rfl⟩
  obtain ⟨a4, e4⟩ : ∃ a, a = b &&& 3689348814741910323 := ⟨_, rfl⟩
  have s2 : vc2 x = a3 + a4 := by unfold vc2; rw [e3, e4, eb]
  rw [← e3] at f3 l3
  rw [← e4] at f4 l4
  obtain ⟨d, ed⟩ : ∃ d, d = vc2 x := ⟨_, rfl⟩
  rw [← ed] at s2
  obtain ⟨q, eq⟩ : ∃ q, q = d / 16 + d := ⟨_, rfl⟩
  have f5 : bits .and .u64 (q : Int) (1085102592571150095 : Int) = ((q &&& 1085102592571150095 : Nat) : Int) := u64_and_nat q 1085102592571150095 (by omega) (by decide)
  have l5 : q &&& 1085102592571150095 ≤ q := Nat.and_le_left
  have s3 : vc3 x = q &&& 1085102592571150095 := by unfold vc3; rw [← ed, ← eq]
  obtain ⟨m, em⟩ : ∃ m, m = vc3 x := ⟨_, rfl⟩
  rw [← em] at f6 f7 s3
  rw [← s3] at f5 l5
  obtain ⟨t, et⟩ : ∃ t, t = m + m / 256 := ⟨_, rfl⟩
  rw [← et] at f6 f7
  have f8 : bits .and .i64 (t : Int) (127 : Int) = ((t &&& 127 : Nat) : Int) := i64_and_nat t 127 (by omega) (by decide)
  rw [f7] at f8
  obtain ⟨u, eu⟩ : ∃ u, u = pcf 15 x := ⟨_, rfl⟩
  have hu : u ≤ 15 := by rw [eu]; exact pcf_le 15 x
  rw [← eu] at f8 ⊢
  have g0 : (x : Int) / 2 = ((x / 2 : Nat) : Int) := by omega
  have g0' : (b : Int) / 4 = ((b / 4 : Nat) : Int) := by omega
  rw [← g0] at f1
  rw [← g0'] at f3
  have g1 : (a1 : Int) + (a2 : Int) = (b : Int) := by omega
  have g2 : (a3 : Int) + (a4 : Int) = (d : Int) := by omega
  have g3 : (d : Int) / 16 + (d : Int) = (q : Int) := by omega
  have g4 : (m : Int) + (m : Int) / 256 = (t : Int) := by omega
  have g5 : (t : Int) / 65536 = 0 := by omega
  have g6 : (t : Int) / 4294967296 = 0 := by omega
  have lb : b < 60000 := by omega
  have ld : d < 80000 := by omega
  have lq : q < 90000 := by omega
  have lm : m < 90000 := by omega
  have la : a1 < 60000 ∧ a2 < 60000 ∧ a3 < 60000 ∧ a4 < 60000 := by omega
  clear e1 e2 e3 e4 eb ed em eq s1 s2 s3 et f7 l1 l2 l3 l4 l5 g0 g0' eu
  go_enter Tryd.func81, Tryd.ntmps81
  go_wp2
  go_ret
  exact ⟨rfl, rfl⟩
theorem onesC (x : Nat) (hx : x < 32768) (w : World) : Calls Tryd.prog 57 #[.int .u64 x] w (Num w (pcf 15 x)) := by
  go_enter Tryd.func57, Tryd.ntmps57
  go_wp2_with fail
  refine (ones64c x hx _).mono ?_
  rintro e w1 ⟨rfl, rfl⟩
  go_wp2
  go_ret
  exact ⟨rfl, rfl⟩
end Go.Proofs.YtkngijkhhonikaaDoor
