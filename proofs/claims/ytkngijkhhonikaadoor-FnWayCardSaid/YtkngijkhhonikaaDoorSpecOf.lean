/- The model's GraphOf: its list is the graph of the code. -/
import Derived.Test.YtkngijkhhonikaaDoorBaseA
import Derived.Test.YtkngijkhhonikaaDoorBaseW
import Derived.StillTailTactics
namespace Go.Proofs.YtkngijkhhonikaaDoor
open Go.RowKit
set_option linter.unusedVariables false
set_option maxRecDepth 100000

/-- Between two pairs: the list holds the pairs that are done. -/
def OfRel (w wr : World) (g n c b a : Nat) : Prop := Row wr w.heap.size (.slice (some ⟨g, 0, none⟩) n n) (ints (run c n (upto b a)).1) ∧ Below w.heap.size w wr

theorem wrap_i64_64 (x : Int) : IntKind.i64.wrap x = wrap64 x := by rw [IntKind.wrap_i64]; unfold wrap64; rfl
theorem lt63 {x : Nat} (h : x < 2 ^ 6) : x < 9223372036854775808 := Nat.lt_trans h (by decide)
/-- All that one pair's round asks, and what it leaves. -/
theorem of_step {w wr : World} {g n c y x : Nat} (hn : n ≤ 6) (hc : c < 1048576) (hlt : y < n) (hlx : x < y) (hG : g = w.heap.size) (hq : OfRel w wr g n c y x) :
    ∃ k bit p q u v : Nat, (upto y x).length = k ∧ k ≤ 15 ∧ (upto y (x + 1)).length = k + 1 ∧
      bits .and .i64 ((c : Int) / 2 ^ k) 1 = (bit : Int) ∧ (wrap64 ((bit : Int) * 2 ^ y) = (p : Int) ∧ IntKind.i64.wrap ((bit : Int) * 2 ^ y) = (p : Int)) ∧ (wrap64 ((bit : Int) * 2 ^ x) = (q : Int) ∧ IntKind.i64.wrap ((bit : Int) * 2 ^ x) = (q : Int)) ∧
      bits .or .i64 (u : Int) (p : Int) = ((u ||| p : Nat) : Int) ∧ bits .or .i64 (v : Int) (q : Int) = ((v ||| q : Nat) : Int) ∧
      ∃ w2 w3 w4, w2 = wr.drew ∧ w3 = w2.setCell ⟨g, x, none⟩ (.int .i64 ((u ||| p : Nat) : Int)) ∧ w4 = w3.drew ∧
      (wr.cell? ⟨g, x, none⟩ = some (.int .i64 u) ∧ w2.cell? ⟨g, x, none⟩ = some (.int .i64 u) ∧ w2.frozen? ⟨g, x, none⟩ = false) ∧
      (w3.cell? ⟨g, y, none⟩ = some (.int .i64 v) ∧ w4.cell? ⟨g, y, none⟩ = some (.int .i64 v) ∧ w4.frozen? ⟨g, y, none⟩ = false) ∧
      Hid (OfRel w (w4.setCell ⟨g, y, none⟩ (.int .i64 ((v ||| q : Nat) : Int))) g n c y (x + 1)) := by
  have hL : (run c n (upto y x)).1.length = n := run_length _ _ _
  have hsm := run_lt c n (upto y x) (fun p hp => by have := upto_mem y x (by omega) p hp; omega)
  have hat := run_at c n (upto y x)
  have hup := upto_length y x (by omega) (by omega)
  have hst := run_snoc c n (upto y x) (x, y)
  rw [← upto_succ] at hst
  obtain ⟨k, ek⟩ : ∃ k, k = (upto y x).length := ⟨_, rfl⟩
  have hk1 : (upto y (x + 1)).length = k + 1 := by rw [upto_succ, List.length_append, ek]; rfl
  rw [← ek] at hat hup
  obtain ⟨L, eL⟩ : ∃ L, L = (run c n (upto y x)).1 := ⟨_, rfl⟩
  have hrow := hq.1
  have hbl := hq.2
  rw [← eL] at hL hsm hrow
  obtain ⟨bit, ebit⟩ : ∃ bit, bit = c / 2 ^ k % 2 := ⟨_, rfl⟩
  have hbit : bit ≤ 1 := by omega
  obtain ⟨p, ep⟩ : ∃ p, p = bit * 2 ^ y := ⟨_, rfl⟩
  obtain ⟨q, eq⟩ : ∃ q, q = bit * 2 ^ x := ⟨_, rfl⟩
  have hp6 := bit_pow (k := y) hbit (by omega)
  have hq6 := bit_pow (k := x) hbit (by omega)
  rw [← ep] at hp6
  rw [← eq] at hq6
  obtain ⟨u, eu⟩ : ∃ u, u = L[x]?.getD 0 := ⟨_, rfl⟩
  obtain ⟨v, ev⟩ : ∃ v, v = L[y]?.getD 0 := ⟨_, rfl⟩
  have hu6 : u < 2 ^ 6 := by rw [eu]; exact get_lt hsm x (by omega)
  have hv6 : v < 2 ^ 6 := by rw [ev]; exact get_lt hsm y (by omega)
  have f1 := bit_of c k hc
  rw [← ebit] at f1
  have f2 := wrap_bit bit y p hbit (by omega) ep
  have f3 := wrap_bit bit x q hbit (by omega) eq
  have f4 := i64_or_nat u p (lt63 hu6) (lt63 hp6)
  have f5 := i64_or_nat v q (lt63 hv6) (lt63 hq6)
  have hl1 : x < (ints L).length := by rw [ints_length]; omega
  have hl2 : y < (ints L).length := by rw [ints_length]; omega
  have hcx : wr.cell? ⟨g, x, none⟩ = some (.int .i64 u) := by rw [hrow.cellAt x hl1, ints_get, ← eu]
  have hcy : wr.cell? ⟨g, y, none⟩ = some (.int .i64 v) := by rw [hrow.cellAt y hl2, ints_get, ← ev]
  have hfx : wr.frozen? ⟨g, x, none⟩ = false := hrow.frozenAt x hl1
  have hfy : wr.frozen? ⟨g, y, none⟩ = false := hrow.frozenAt y hl2
  have hcy2 : ∀ z, (wr.setCell ⟨g, x, none⟩ z).cell? ⟨g, y, none⟩ = some (.int .i64 v) := fun z => (World.cell?_setCell_other _ _ _ _ (by simp)).trans hcy
  have r1 := hrow.set x hl1 ((u ||| p : Nat) : Int)
  have r2 := r1.set y (by rw [List.length_set]; exact hl2) ((v ||| q : Nat) : Int)
  rw [ints_set, ints_set] at r2
  have el : (run c n (upto y (x + 1))).1 = (L.set x (u ||| p)).set y (v ||| q) := by
    rw [hst]
    show lnk _ _ _ _ = _
    rw [hat, ← eL, ← ebit]
    unfold lnk
    rw [← ep, ← eq, ← eu, List.getElem?_set_ne (show x ≠ y by omega), ← ev]
  rw [← el] at r2
  have fy : (wr.setCell ⟨g, x, none⟩ (.int .i64 ((u ||| p : Nat) : Int))).frozen? ⟨g, y, none⟩ = false := (World.frozen?_setCell _ _ _ _).trans hfy
  refine ⟨k, bit, p, q, u, v, ek.symm, hup, hk1, f1, ⟨f2, by rw [wrap_i64_64]; exact f2⟩, ⟨f3, by rw [wrap_i64_64]; exact f3⟩, f4, f5, _, _, _, rfl, rfl, rfl, ⟨hcx, hcx, hfx⟩, ⟨hcy2 _, hcy2 _, fy⟩, Lib.hid ⟨r2, ?_⟩⟩
  exact ((hbl.drew.setCell (p := ⟨g, x, none⟩) (by show w.heap.size ≤ g; omega) _).drew).setCell (p := ⟨g, y, none⟩) (by show w.heap.size ≤ g; omega) _

set_option maxHeartbeats 1000000 in
theorem specOf_any (n c : Nat) (w : World) (hn : n ≤ 6) (hn1 : 1 ≤ n) (hc : c < 1048576) :
    Calls Tryd.prog 56 #[.int .i64 n, .int .i64 c] w (Gave w (ints (ofCode n c))) := by
  have hmk := run_make_ints n (by omega)
  obtain ⟨g, eg⟩ : ∃ g, g = w.heap.size := ⟨_, rfl⟩
  have HG := Lib.hid eg
  have R0 := Lib.hid (madeW_row w n (by omega))
  have B0 := Lib.hid (madeW_below w n)
  clear eg
  go_enter Tryd.func56, Tryd.ntmps56
  go_wp2
  clear hmk
  obtain ⟨w0, hw0⟩ : ∃ w0, w0 = madeW w n := ⟨_, rfl⟩
  rw [← hw0] at R0 B0 ⊢
  rw [← HG.out] at R0 ⊢
  clear hw0
  go_loopw [6, 7, 8] (fun at_ b _ wr => ∃ y : Nat, 1 ≤ y ∧ y ≤ n ∧ b = .int .i64 y ∧ at_ = .int .i64 ((rows y).length : Nat) ∧ Hid (OfRel w wr g n c y 0)) (fun _ b _ _ => n - (intOf b).toNat)
  case atStart => exact ⟨1, by omega, hn1, rfl, rfl, Lib.hid ⟨by rw [upto_zero, rows_one]; rw [HG.out] at *; exact R0.out, B0.out⟩⟩
  case round =>
    obtain ⟨y, hy1, hyn, rfl, rfl, hr⟩ := hrel
    obtain ⟨wo, rfl⟩ : ∃ wo : World, wo = wr := ⟨_, rfl⟩
    by_cases hlt : y < n
    · have hi2 : (y : Int) < (n : Int) := by omega
      go_wp2
      go_loopw [6, 8] (fun at_ a wr' => ∃ x : Nat, x ≤ y ∧ a = .int .i64 x ∧ at_ = .int .i64 ((upto y x).length : Nat) ∧ Hid (OfRel w wr' g n c y x)) (fun _ a _ => y - (intOf a).toNat)
      case atStart => exact ⟨0, Nat.zero_le _, rfl, by rw [upto_zero], hr⟩
      case round =>
        obtain ⟨x, hxy, rfl, rfl, hq⟩ := hrel
        by_cases hlx : x < y
        · obtain ⟨k, bit, p, q, u, v, ek, hup, hk1, f1, ⟨f2, f2'⟩, ⟨f3, f3'⟩, f4, f5, w2, w3, w4, e2, e3, e4, ⟨hcx, hcx2, hfx2⟩, ⟨hcy, hcy4, hfy4⟩, hrel'⟩ := of_step hn hc hlt hlx HG.out hq.out
          rw [ek]
          have HK := Lib.hid hk1
          have hi1 : (0 : Int) ≤ (x : Int) ∧ (x : Int) < (n : Int) := by omega
          have hi2 : (0 : Int) ≤ (y : Int) ∧ (y : Int) < (n : Int) := by omega
          have hxk : x ≠ y := by omega
          have E2 := Lib.hid e2
          have E3 := Lib.hid e3
          have E4 := Lib.hid e4
          clear hq ek hk1 e2 e3 e4
          go_wp2
          go_still_tail 14, (by kernel_rfl)
          change wpList _ _ _ _ _ wr.drew
          rw [← E2.out]
          go_wp2
          rw [← E3.out]
          go_still_tail 14, (by kernel_rfl)
          change wpList _ _ _ _ _ w3.drew
          rw [← E4.out]
          go_wp2
          clear f1 f2 f3 f4 f5 hcx f2' f3' hcx2 hfx2 hcy hcy4 hfy4
          go_roundw
          case rel => exact ⟨x + 1, by omega, by go_num, by rw [HK.out]; go_num, Lib.hid ⟨hrel'.out.1, hrel'.out.2⟩⟩
          case measure => simp [intOf]; omega
        · have hxe : x = y := by omega
          subst hxe
          go_wp2
          go_roundw
          case rel => exact ⟨x + 1, by omega, by omega, by go_num, by rw [upto_end], Lib.hid (by have h0 := hq.out; unfold OfRel at h0 ⊢; rw [upto_end] at h0; rw [upto_zero]; exact h0)⟩
          case measure => simp [intOf]; omega
    · have hye : y = n := by omega
      subst hye
      go_wp2
      go_ret
      exact ⟨_, rfl, by have h0 := hr.out.1; rw [upto_zero] at h0; exact h0, hr.out.2⟩

#print axioms specOf_any
end Go.Proofs.YtkngijkhhonikaaDoor
