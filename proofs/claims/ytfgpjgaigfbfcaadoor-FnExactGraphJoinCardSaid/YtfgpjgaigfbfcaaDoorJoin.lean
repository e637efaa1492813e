/- Two graphs beside each other: by the model, by the program. -/
import Derived.Test.YtfgpjgaigfbfcaaDoorCopy
import Derived.Test.YtfgpjgaigfbfcaaDoorJoinOf
import Derived.Test.YtfgpjgaigfbfcaaDoorGraphFns
namespace Go.Proofs.YtfgpjgaigfbfcaaDoor
open Go.RowKit
set_option linter.unusedVariables false

/-- The first k nodes of the second graph, called by n more. -/
def upL (n : Nat) (M : List Int) (k : Nat) : List Int := (List.range k).map fun i => ((ent M i * 2 ^ n : Nat) : Int)
theorem upL_succ (n : Nat) (M : List Int) (k : Nat) : upL n M (k + 1) = upL n M k ++ [((ent M k * 2 ^ n : Nat) : Int)] := by simp [upL, List.range_succ]
theorem upL_length (n : Nat) (M : List Int) (k : Nat) : (upL n M k).length = k := by simp [upL]
def joinL (L M : List Int) : List Int := L ++ upL L.length M M.length

theorem up_op (Y n : Nat) (hY : Y < 64) (hn : n ≤ 6) : ∃ z : Nat, z = Y * 2 ^ n ∧ wrap64 ((Y : Int) * 2 ^ n) = (z : Int) := by
  refine ⟨Y * 2 ^ n, rfl, ?_⟩
  have h1 : 2 ^ n ≤ 64 := two_le hn
  have h2 : Y * 2 ^ n ≤ Y * 64 := Nat.mul_le_mul_left _ h1
  have e : (Y : Int) * 2 ^ n = ((Y * 2 ^ n : Nat) : Int) := by simp
  rw [e]
  obtain ⟨z, hz⟩ : ∃ z, z = Y * 2 ^ n := ⟨_, rfl⟩
  rw [← hz] at h2 ⊢
  have h3 : z ≤ 4096 := by omega
  clear h1 h2 e hz
  unfold wrap64
  omega

theorem empty_row (w : World) : Row (w.alloc (.cells #[] 3)) w.heap.size (.slice (some ⟨w.heap.size, 0, none⟩) 0 0) [] :=
  World.ownsRow_lit (base := w.heap.size) (e := 3) (size := 1) w #[] 0 (Nat.le_refl _) (by unfold maxLen; omega) rfl

set_option maxHeartbeats 1000000 in
theorem specJoin_first (B B' : Nat) (v v' : Value) (L M : List Int) (hL : ¬ IsGraph L) (w : World) (h : Row w B v L) (h' : Row w B' v' M) :
    Calls Tryd.prog 34 #[v, v'] w (Told w [] false) := by
  have H1 := Lib.hid (specIn_any B v L false ⟨fun h => (by cases h), fun h => absurd h hL⟩ w h)
  clear hL h h'
  go_enter Tryd.func34, Tryd.ntmps34
  go_wp2_with fail
  refine H1.out.mono ?_
  rintro e w1 ⟨rfl, d, rfl⟩
  go_wp2
  go_ret2
  exact ⟨_, rfl, empty_row (w.drewN d), (below_drewN (Below.refl _ w) d).alloc (Nat.le_refl _) _⟩
set_option maxHeartbeats 1000000 in
theorem specJoin_second (B B' : Nat) (v v' : Value) (L M : List Int) (hL : IsGraph L) (hM : ¬ IsGraph M) (w : World) (h : Row w B v L) (h' : Row w B' v' M) :
    Calls Tryd.prog 34 #[v, v'] w (Told w [] false) := by
  have H1 := Lib.hid (specIn_any B v L true ⟨fun _ => hL, fun _ => rfl⟩ w h)
  have H2 := Lib.hid (fun w h => specIn_any B' v' M false ⟨fun h => (by cases h), fun h => absurd h hM⟩ w h)
  clear hL hM h
  go_enter Tryd.func34, Tryd.ntmps34
  go_wp2_with fail
  refine H1.out.mono ?_
  rintro e w1 ⟨rfl, d, rfl⟩
  go_wp2_with fail
  refine (H2.out (w.drewN d) h').mono ?_
  rintro e w2 ⟨rfl, d2, rfl⟩
  go_wp2
  go_ret2
  exact ⟨_, rfl, empty_row (w.drewN (d + d2)), (below_drewN (Below.refl _ w) (d + d2)).alloc (Nat.le_refl _) _⟩
set_option maxHeartbeats 1000000 in
theorem specJoin_more (B B' : Nat) (v v' : Value) (L M : List Int) (hL : IsGraph L) (hM : IsGraph M) (h6 : 6 < L.length + M.length) (w : World) (h : Row w B v L) (h' : Row w B' v' M) :
    Calls Tryd.prog 34 #[v, v'] w (Told w [] false) := by
  have l1 := hL.2.1
  have l2 := hM.2.1
  have H1 := Lib.hid (specIn_any B v L true ⟨fun _ => hL, fun _ => rfl⟩ w h)
  have H2 := Lib.hid (fun w h => specIn_any B' v' M true ⟨fun _ => hM, fun _ => rfl⟩ w h)
  obtain ⟨A, c, rfl, _⟩ := h.seen
  have h2 := h'
  obtain ⟨A', c', rfl, _⟩ := h'.seen
  have hd : decide ((6 : Int) < (L.length : Int) + (M.length : Int)) = true := by simp; omega
  clear hL hM h h'
  go_enter Tryd.func34, Tryd.ntmps34
  go_wp2_with fail
  refine H1.out.mono ?_
  rintro e w1 ⟨rfl, d, rfl⟩
  go_wp2_with fail
  refine (H2.out (w.drewN d) h2).mono ?_
  rintro e w2 ⟨rfl, d2, rfl⟩
  go_wp2
  go_ret2
  exact ⟨_, rfl, empty_row (w.drewN (d + d2)), (below_drewN (Below.refl _ w) (d + d2)).alloc (Nat.le_refl _) _⟩

set_option maxHeartbeats 2000000 in
theorem specJoin_both (B B' : Nat) (v v' : Value) (L M : List Int) (hL : IsGraph L) (hM : IsGraph M) (h6 : L.length + M.length ≤ 6) (w : World) (h : Row w B v L) (h' : Row w B' v' M) :
    Calls Tryd.prog 34 #[v, v'] w (Told w (joinL L M) true) := by
  have l1 := hL.2.1
  have l2 := hM.2.1
  have g1 := hL.1
  have g2 := hM.1
  have H1 := Lib.hid (specIn_any B v L true ⟨fun _ => hL, fun _ => rfl⟩ w h)
  have H2 := Lib.hid (fun w h => specIn_any B' v' M true ⟨fun _ => hM, fun _ => rfl⟩ w h)
  obtain ⟨A, c, rfl, s1⟩ := h.seen
  have hrow2 := Lib.hid h'
  obtain ⟨A', c', rfl, s2⟩ := h'.seen
  have hd : decide ((6 : Int) < (L.length : Int) + (M.length : Int)) = false := by simp; omega
  have HM := Lib.hid hM
  have S1 := Lib.hid s1
  have S2 := Lib.hid s2
  obtain ⟨n, hn⟩ : ∃ n, n = L.length := ⟨_, rfl⟩
  obtain ⟨m, hm⟩ : ∃ m, m = M.length := ⟨_, rfl⟩
  rw [← hn] at hd l1 g1 h6 H1 ⊢
  rw [← hm] at hd l2 g2 h6 H2 hrow2 ⊢
  have HN := Lib.hid hn
  have HMM := Lib.hid hm
  clear hL hM h h' s1 s2 hn hm
  go_enter Tryd.func34, Tryd.ntmps34
  go_wp2_with fail
  refine H1.out.mono ?_
  rintro e w1 ⟨rfl, d, rfl⟩
  go_wp2_with fail
  refine (H2.out (w.drewN d) hrow2.out).mono ?_
  rintro e w2 ⟨rfl, d2, rfl⟩
  obtain ⟨w0, e0⟩ : ∃ w0, w0 = (w.drewN d).drewN d2 := ⟨_, rfl⟩
  have B0 : Below w.heap.size w w0 := by rw [e0]; exact below_drewN (below_drewN (Below.refl _ w) d) d2
  have hz0 : w0.heap.size = w.heap.size := by rw [e0]; rfl
  have T1 : Seen (w0.alloc (.cells #[] 3)) A L := (S1.out.below B0).below ((Below.refl _ _).alloc (Nat.le_refl _) _)
  have T2 : Seen w0 A' M := S2.out.below B0
  rw [← e0]
  clear e0
  have HZ := Lib.hid hz0
  have HT1 := Lib.hid T1
  have HT2 := Lib.hid T2
  have ER := Lib.hid (empty_row w0)
  have HB0 := Lib.hid B0
  have hb1 : w0.heap.size ≤ (w0.alloc (.cells #[] 3)).heap.size := by simp
  have HB1 := Lib.hid hb1
  have hll : ([] : List Int).length + L.length ≤ 100000 := by have := HN.out; simp; omega
  have HLL := Lib.hid hll
  clear hz0 T1 T2 B0 hb1 hll
  go_wp2_with (at_builtin; refine append_list rfl (.tmp 25) (.tmp 26) rfl (w0.alloc (.cells #[] 3)) w0.heap.size (.slice (some ⟨w0.heap.size, 0, none⟩) 0 0) [] L A c rfl (by rw [← HN.out]; rfl) ER.out HT1.out (by rw [← HN.out]; exact g1) HB1.out HLL.out ?_; intro v' w1 hr1 hb1)
  have R0 : Row w1 w.heap.size v' (L ++ upL n M 0) := by
    have h0 := hr1.out
    rw [HZ.out] at h0
    simpa [upL] using h0
  have B1 : Below w.heap.size w w1 := by
    have h0 := hb1.out
    rw [HZ.out] at h0
    exact (HB0.out.alloc (by rw [HZ.out]; exact Nat.le_refl _) _).trans h0
  have HR0 := Lib.hid R0
  have HBB := Lib.hid B1
  clear R0 B1 hr1 hb1 hd
  go_loopw [6, 7] (fun u i wr => ∃ k : Nat, k ≤ m ∧ i = .int .i64 k ∧ Hid (Row wr w.heap.size u (L ++ upL n M k)) ∧ Hid (Below w.heap.size w wr)) (fun _ i _ => m - (intOf i).toNat)
  case atStart => exact ⟨0, Nat.zero_le _, rfl, HR0, HBB⟩
  case round =>
    obtain ⟨k, hk, rfl, hr, hb⟩ := hrel
    by_cases hlt : k < m
    · obtain ⟨blk, off, rfl, hbl, hc⟩ := S2.out k (by have := HMM.out; omega)
      have hin := (HM.out.2.2 k (by have := HMM.out; omega)).1
      have hX := ent_int hin
      have hXl := ent_lt hin
      have h64 := two_le (n := M.length) (by have := HMM.out; omega)
      obtain ⟨X, eX⟩ : ∃ X, X = ent M k := ⟨_, rfl⟩
      rw [← eX] at hX hXl
      rw [hX] at hc
      have hX64 : X < 64 := by omega
      obtain ⟨z, ez, f1⟩ := up_op X n hX64 l1
      have hcw : wr.cell? ⟨blk, off + k, none⟩ = some (.int .i64 X) := (hb.out.cell (p := ⟨blk, off + k, none⟩) hbl).trans hc
      have hi1 : (0 : Int) ≤ (k : Int) ∧ (k : Int) < (m : Int) := by omega
      have hlen1 : (L ++ upL n M k).length ≤ 100000 := by rw [List.length_append, upL_length, ← HN.out]; omega
      have EZ : Hid (z = ent M k * 2 ^ n) := by rw [← eX]; exact ez
      have HLN := Lib.hid hlen1
      have HW := Lib.hid hb.out.size
      clear hc hbl eX hin hX hXl h64 hlen1 ez
      go_wp2_with (at_builtin; refine append_one rfl (.tmp 34) (.tmp 42) rfl wr w.heap.size u6 (L ++ upL n M k) (z : Int) rfl rfl hr.out HW.out HLN.out ?_; intro v2 w2 hr' hb')
      go_roundw
      case rel => exact ⟨k + 1, by omega, by go_num, Lib.hid (by rw [upL_succ, ← EZ.out, ← List.append_assoc]; exact hr'.out), Lib.hid (hb.out.trans hb'.out)⟩
      case measure => simp [intOf]; omega
    · have hkn : k = m := by omega
      subst hkn
      go_wp2
      go_ret2
      exact ⟨_, rfl, by unfold joinL; rw [← HN.out, ← HMM.out]; exact hr.out, hb.out⟩
end Go.Proofs.YtfgpjgaigfbfcaaDoor
