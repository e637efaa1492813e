/- The degrees of a graph: by the model, by the program. -/
import Derived.RangeFuncBox
import Derived.Test.YtfgpjgaigfbfcaaDoorOnes
import Derived.Test.YtfgpjgaigfbfcaaDoorDegreesOf
import Derived.Test.YtfgpjgaigfbfcaaDoorGraphFns
namespace Go.Proofs.YtfgpjgaigfbfcaaDoor
open Go.RowKit Go.Shelf
set_option linter.unusedVariables false

def degL (L : List Int) (k : Nat) : List Int := (List.range k).map fun i => ((cnt (ent L i) : Nat) : Int)
theorem degL_succ (L : List Int) (k : Nat) : degL L (k + 1) = degL L k ++ [((cnt (ent L k) : Nat) : Int)] := by simp [degL, List.range_succ]
theorem degL_length (L : List Int) (k : Nat) : (degL L k).length = k := by simp [degL]

set_option maxHeartbeats 1000000 in
theorem specDegrees_seen (A : Option Addr) (c : Nat) (L : List Int) (hg : IsGraph L) (w : World) (h : Seen w A L) :
    Calls Tryd.prog 47 #[.slice A L.length c] w (Gave w (degL L L.length)) := by
  have h1 := hg.1
  have h6 := hg.2.1
  obtain ⟨n, hn⟩ : ∃ n, n = L.length := ⟨_, rfl⟩
  rw [← hn] at h1 h6 ⊢
  have HN := Lib.hid hn
  have H := Lib.hid h
  have HG := Lib.hid hg
  have R0 := Lib.hid (World.ownsRow_lit (base := w.heap.size) (e := 3) (size := 1) w #[] 0 (Nat.le_refl _) (by unfold maxLen; omega) rfl)
  have B0 := Lib.hid ((Below.refl w.heap.size w).alloc (Nat.le_refl _) (.cells #[] 3))
  clear h hg hn
  go_enter Tryd.func47, Tryd.ntmps47
  go_wp2
  go_loopw [3, 4] (fun v i wr => ∃ k : Nat, k ≤ n ∧ i = .int .i64 k ∧ Hid (Row wr w.heap.size v (degL L k)) ∧ Hid (Below w.heap.size w wr)) (fun _ i _ => n - (intOf i).toNat)
  case atStart => exact ⟨0, Nat.zero_le _, rfl, R0, B0⟩
  case round =>
    obtain ⟨k, hk, rfl, hr, hb⟩ := hrel
    by_cases hlt : k < n
    · obtain ⟨blk, off, rfl, hbl, hc⟩ := H.out k (by have := HN.out; omega)
      have hin := (HG.out.2.2 k (by have := HN.out; omega)).1
      have hX := ent_int hin
      have hXl := ent_lt hin
      have h64 := two_le (n := L.length) (by have := HN.out; omega)
      obtain ⟨X, eX⟩ : ∃ X, X = ent L k := ⟨_, rfl⟩
      rw [← eX] at hX hXl
      rw [hX] at hc
      have hX64 : X < 64 := by omega
      have hcw : wr.cell? ⟨blk, off + k, none⟩ = some (.int .i64 X) := (hb.out.cell (p := ⟨blk, off + k, none⟩) hbl).trans hc
      have hi1 : (0 : Int) ≤ (k : Int) ∧ (k : Int) < (n : Int) := by omega
      have hlen1 : (degL L k).length ≤ 100000 := by rw [degL_length]; omega
      have EX := Lib.hid eX
      have HLN := Lib.hid hlen1
      have HW := Lib.hid hb.out.size
      clear hc hbl eX hin hX hXl h64 hlen1
      go_wp2_with (first
        | (go_at_call 70; refine (size_any X hX64 _).mono ?_; rintro e w' ⟨rfl, rfl⟩)
        | (at_builtin; refine append_one rfl (.tmp 12) (.tmp 18) rfl wr w.heap.size u3 (degL L k) ((cnt X : Nat) : Int) rfl rfl hr.out HW.out HLN.out ?_; intro v' w' hr' hb'))
      go_roundw
      case rel => exact ⟨k + 1, by omega, by go_num, Lib.hid (by rw [degL_succ, ← EX.out]; exact hr'.out), Lib.hid (hb.out.trans hb'.out)⟩
      case measure => simp [intOf]; omega
    · have hkn : k = n := by omega
      subst hkn
      go_wp2
      go_ret
      exact ⟨_, rfl, hr.out, hb.out⟩

theorem specGraphDegrees_yes (B : Nat) (v : Value) (L : List Int) (hg : IsGraph L) (w : World) (h : Row w B v L) :
    Calls Tryd.prog 22 #[v] w (Told w (degL L L.length) true) := by
  have H1 := Lib.hid (specIn_any B v L true ⟨fun _ => hg, fun _ => rfl⟩ w h)
  obtain ⟨A, c, rfl, hs⟩ := h.seen
  have H2 := Lib.hid (fun w hs => specDegrees_seen A c L hg w hs)
  clear hg h
  go_enter Tryd.func22, Tryd.ntmps22
  go_wp2_with fail
  refine H1.out.mono ?_
  rintro e w1 ⟨rfl, d, rfl⟩
  go_wp2_with fail
  refine (H2.out (w.drewN d) hs).mono ?_
  rintro e w2 ⟨u, rfl, hr, hb⟩
  go_wp2
  go_ret2
  exact ⟨_, rfl, hr, (below_drewN (Below.refl _ w) d).trans hb⟩
theorem specGraphDegrees_no (B : Nat) (v : Value) (L : List Int) (hg : ¬ IsGraph L) (w : World) (h : Row w B v L) :
    Calls Tryd.prog 22 #[v] w (Told w [] false) := by
  have H1 := Lib.hid (specIn_any B v L false ⟨fun h => (by cases h), fun h => absurd h hg⟩ w h)
  clear hg h
  go_enter Tryd.func22, Tryd.ntmps22
  go_wp2_with fail
  refine H1.out.mono ?_
  rintro e w1 ⟨rfl, d, rfl⟩
  go_wp2
  go_ret2
  exact ⟨_, rfl, World.ownsRow_lit (base := w.heap.size) (e := 3) (size := 1) (w.drewN d) #[] 0 (Nat.le_refl _) (by unfold maxLen; omega) rfl, (below_drewN (Below.refl _ w) d).alloc (Nat.le_refl _) _⟩
end Go.Proofs.YtfgpjgaigfbfcaaDoor
