/- The model's l1Named: each place of each row is put where its names say. -/
import Derived.Test.YtdgceglbnfdhbaaDoorGrid
import Derived.Test.YtdgceglbnfdhbaaDoorSpecCode
import Derived.Test.YtdgceglbnfdhbaaDoorBaseA
import Derived.StillTailTactics
namespace Go.Proofs.YtdgceglbnfdhbaaDoor
open Go.RowKit
set_option linter.unusedVariables false

/-- Between two places: the list holds those that are done. -/
def NaRel (w wr : World) (g n : Nat) (L P : List Int) (pre : List (Nat × Nat)) : Prop := Row wr w.heap.size (.slice (some ⟨g, 0, none⟩) n n) (ints (mrun L n (nm P) pre)) ∧ Below w.heap.size w wr

/-- All that one place's round asks, and what it leaves. -/
theorem na_step {w wr : World} {g n : Nat} {L P : List Int} (hn : n = L.length) (hg : IsGraph L) (hP : IsNames P n) {v x : Nat} (hv : v < n) (hx : x < n) (hG : g = w.heap.size) (hq : NaRel w wr g n L P (gridTo n v x)) :
    ∃ X a b bit q u : Nat, L[v]?.getD 0 = (X : Int) ∧ P[v]?.getD 0 = (a : Int) ∧ P[x]?.getD 0 = (b : Int) ∧ a < n ∧ b < n ∧
      bits .and .i64 ((X : Int) / 2 ^ x) 1 = (bit : Int) ∧ (wrap64 ((bit : Int) * 2 ^ b) = (q : Int) ∧ IntKind.i64.wrap ((bit : Int) * 2 ^ b) = (q : Int)) ∧
      bits .or .i64 (u : Int) (q : Int) = ((u ||| q : Nat) : Int) ∧
      (wr.cell? ⟨g, a, none⟩ = some (.int .i64 u) ∧ wr.frozen? ⟨g, a, none⟩ = false) ∧
      ∃ w2 w3, w2 = wr.drew ∧ w2.cell? ⟨g, a, none⟩ = some (.int .i64 u) ∧ w2.frozen? ⟨g, a, none⟩ = false ∧ w3 = w2.setCell ⟨g, a, none⟩ (.int .i64 ((u ||| q : Nat) : Int)) ∧ Hid (NaRel w w3 g n L P (gridTo n v (x + 1))) := by
  have h6 := hg.2.1
  have hin := (hg.2.2 v (by omega)).1
  have hX := ent_int hin
  have hXl := ent_lt hin
  have h64 := two_le h6
  obtain ⟨ea, ha⟩ := nm_int hP hv
  obtain ⟨eb, hb⟩ := nm_int hP hx
  have hL : (mrun L n (nm P) (gridTo n v x)).length = n := mrun_length _ _ _ _
  have hsm := mrun_lt L n (nm P) (gridTo n v x) (fun e he => by
    have h1 := gridTo_mem n v x hv (by omega) e he
    have h2 := nm_int hP h1.2
    omega)
  have hst := mrun_snoc L n (nm P) (gridTo n v x) (v, x)
  rw [← gridTo_succ] at hst
  obtain ⟨bit, ebit, hbit, f1⟩ := and_facts (ent L v) x (by omega)
  have e1 : bt L v x = bit := by unfold bt; exact ebit.symm
  obtain ⟨b, ebb⟩ : ∃ b, b = nm P x := ⟨_, rfl⟩
  obtain ⟨a, eaa⟩ : ∃ a, a = nm P v := ⟨_, rfl⟩
  rw [← ebb] at eb hb
  rw [← eaa] at ea ha
  obtain ⟨q, eq⟩ : ∃ q, q = bit * 2 ^ b := ⟨_, rfl⟩
  have hq6 := bit_pow (k := b) hbit (by omega)
  rw [← eq] at hq6
  obtain ⟨u, eu⟩ : ∃ u, u = (mrun L n (nm P) (gridTo n v x))[a]?.getD 0 := ⟨_, rfl⟩
  have hu6 : u < 2 ^ 6 := by rw [eu]; exact get_lt hsm a (by omega)
  have f2 := wrap_bit bit b q hbit (by omega) eq
  have f3 := i64_or_nat u q (Nat.lt_trans hu6 (by decide)) (Nat.lt_trans hq6 (by decide))
  have hrow := hq.1
  have hl1 : a < (ints (mrun L n (nm P) (gridTo n v x))).length := by rw [ints_length]; omega
  have hc : wr.cell? ⟨g, a, none⟩ = some (.int .i64 u) := by rw [hrow.cellAt a hl1, ints_get, ← eu]
  have hf : wr.frozen? ⟨g, a, none⟩ = false := hrow.frozenAt a hl1
  have r1 := hrow.set a hl1 ((u ||| q : Nat) : Int)
  rw [ints_set] at r1
  have el : mrun L n (nm P) (gridTo n v (x + 1)) = (mrun L n (nm P) (gridTo n v x)).set a (u ||| q) := by
    rw [hst]
    unfold orAt
    dsimp only
    rw [e1, ← ebb, ← eaa, ← eq, ← eu]
  rw [← el] at r1
  refine ⟨ent L v, a, b, bit, q, u, hX, ea, eb, ha, hb, f1, ⟨f2, by rw [IntKind.wrap_i64]; unfold wrap64 at f2; exact f2⟩, f3, ⟨hc, hf⟩, _, _, rfl, hc, hf, rfl, Lib.hid ⟨r1, ?_⟩⟩
  exact (hq.2.drew).setCell (p := ⟨g, a, none⟩) (by show w.heap.size ≤ g; omega) _

set_option maxRecDepth 100000 in
set_option maxHeartbeats 2000000 in
theorem specNamed_seen (A A' : Option Addr) (c c' : Nat) (L P : List Int) (hg : IsGraph L) (hP : IsNames P L.length) (w : World) (h : Seen w A L) (h' : Seen w A' P) :
    Calls Tryd.prog 49 #[.slice A L.length c, .slice A' P.length c'] w (Gave w (ints (mrun L L.length (nm P) (grid L.length L.length)))) := by
  have h1 := hg.1
  have h6 := hg.2.1
  have hpl := hP.1
  obtain ⟨n, hn⟩ : ∃ n, n = L.length := ⟨_, rfl⟩
  rw [← hn] at h1 h6 hP hpl ⊢
  rw [hpl]
  have hmk := run_make_ints n (by omega)
  obtain ⟨g, eg⟩ : ∃ g, g = w.heap.size := ⟨_, rfl⟩
  have HN := Lib.hid hn
  have HPL := Lib.hid hpl
  have H := Lib.hid h
  have H' := Lib.hid h'
  have HG := Lib.hid hg
  have HP := Lib.hid hP
  have EG := Lib.hid eg
  have R0 := Lib.hid (madeW_row w n (by omega))
  have B0 := Lib.hid (madeW_below w n)
  clear h h' hg hn hP hpl eg
  go_enter Tryd.func49, Tryd.ntmps49
  go_wp2
  clear hmk
  obtain ⟨w0, hw0⟩ : ∃ w0, w0 = madeW w n := ⟨_, rfl⟩
  rw [← hw0] at R0 B0 ⊢
  rw [← EG.out] at R0 ⊢
  clear hw0
  go_loopw [6] (fun v wr => ∃ y : Nat, y ≤ n ∧ v = .int .i64 y ∧ Hid (NaRel w wr g n L P (grid n y))) (fun v _ => n - (intOf v).toNat)
  case atStart => exact ⟨0, by omega, rfl, Lib.hid ⟨by rw [grid_zero]; rw [EG.out] at *; exact R0.out, B0.out⟩⟩
  case round =>
    obtain ⟨y, hyn, rfl, hr⟩ := hrel
    obtain ⟨wo, rfl⟩ : ∃ wo : World, wo = wr := ⟨_, rfl⟩
    by_cases hlt : y < n
    · have hi2 : (y : Int) < (n : Int) := by omega
      go_wp2
      go_loopw [7] (fun b wr' => ∃ x : Nat, x ≤ n ∧ b = .int .i64 x ∧ Hid (NaRel w wr' g n L P (gridTo n y x))) (fun b _ => n - (intOf b).toNat)
      case atStart => exact ⟨0, Nat.zero_le _, rfl, by rw [gridTo_zero]; exact hr⟩
      case round =>
        obtain ⟨x, hxn, rfl, hq⟩ := hrel
        by_cases hlx : x < n
        · obtain ⟨X, a, b, bit, q, u, eX, ea, eb, ha, hb, f1, ⟨f2, f2'⟩, f3, ⟨hc, hf⟩, w2, w3, e2, hc2, hf2, e3, hrel'⟩ := na_step HN.out HG.out HP.out hlt hlx EG.out hq.out
          obtain ⟨blk, off, rfl, hbl, hcL⟩ := H.out y (by have := HN.out; omega)
          obtain ⟨blk', off', rfl, hbl', hcP⟩ := H'.out y (by have := HPL.out; omega)
          obtain ⟨blk2, off2, e2b, hbl2, hcQ⟩ := H'.out x (by have := HPL.out; omega)
          obtain ⟨rfl, rfl⟩ : blk' = blk2 ∧ off' = off2 := by injection e2b with e; injection e with e1 e2; exact ⟨e1, e2⟩
          rw [eX] at hcL
          rw [ea] at hcP
          rw [eb] at hcQ
          have hLw : wr.cell? ⟨blk, off + y, none⟩ = some (.int .i64 X) := (hq.out.2.cell (p := ⟨blk, off + y, none⟩) hbl).trans hcL
          have hPw : wr.cell? ⟨blk', off' + y, none⟩ = some (.int .i64 a) := (hq.out.2.cell (p := ⟨blk', off' + y, none⟩) hbl').trans hcP
          have hQw : wr.cell? ⟨blk', off' + x, none⟩ = some (.int .i64 b) := (hq.out.2.cell (p := ⟨blk', off' + x, none⟩) hbl').trans hcQ
          have hi1 : (0 : Int) ≤ (y : Int) ∧ (y : Int) < (n : Int) := by omega
          have hi3 : (0 : Int) ≤ (x : Int) ∧ (x : Int) < (n : Int) := by omega
          have hi4 : (0 : Int) ≤ (a : Int) ∧ (a : Int) < (n : Int) := by omega
          have E2 := Lib.hid e2
          have E3 := Lib.hid e3
          clear hq e2 e3 hbl hbl' hbl2 hcL hcP hcQ e2b eX ea eb
          go_wp2
          go_still_tail 26, (by kernel_rfl)
          change wpList _ _ _ _ _ wr.drew
          rw [← E2.out]
          go_wp2
          rw [← E3.out]
          clear f1 f2 f3 f2' hc hf hc2 hf2 hLw hPw hQw
          go_roundw
          case rel => exact ⟨x + 1, by omega, by go_num, Lib.hid hrel'.out⟩
          case measure => simp [intOf]; omega
        · have hxe : x = n := by omega
          subst hxe
          go_wp2
          go_roundw
          case rel => exact ⟨y + 1, by omega, by go_num, Lib.hid (by have h0 := hq.out; rw [gridTo_end] at h0; exact h0)⟩
          case measure => simp [intOf]; omega
    · have hye : y = n := by omega
      subst hye
      go_wp2
      go_ret
      exact ⟨_, rfl, hr.out.1, hr.out.2⟩
#print axioms specNamed_seen
end Go.Proofs.YtdgceglbnfdhbaaDoor
