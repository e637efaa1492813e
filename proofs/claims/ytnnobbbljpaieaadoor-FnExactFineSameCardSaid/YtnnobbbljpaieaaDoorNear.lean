/- The model's l5Near: the neighbours of each node, in order. -/
import Derived.Test.YtnnobbbljpaieaaDoorRowsZ
import Derived.Test.YtnnobbbljpaieaaDoorLookMath
namespace Go.Proofs.YtnnobbbljpaieaaDoor
open Go Go.RowKit
set_option linter.unusedVariables false
set_option maxRecDepth 100000

/-- The neighbours of a node that are less than k. -/
def nearTo (X k : Nat) : List Int := ((List.range k).filter fun i => X / 2 ^ i % 2 == 1).map fun i => ((i : Nat) : Int)
theorem nearTo_zero (X : Nat) : nearTo X 0 = [] := rfl
theorem nearTo_succ (X k : Nat) : nearTo X (k + 1) = nearTo X k ++ (if X / 2 ^ k % 2 = 1 then [((k : Nat) : Int)] else []) := by
  unfold nearTo
  rw [List.range_succ, List.filter_append, List.map_append]
  congr 1
  by_cases h : X / 2 ^ k % 2 = 1 <;> simp [h]
theorem nearTo_length (X k : Nat) : (nearTo X k).length ≤ k := by
  unfold nearTo
  rw [List.length_map]
  exact Nat.le_trans (List.length_filter_le _ _) (by simp)
def nearL (L : List Int) (k : Nat) : List (List Int) := (List.range k).map fun v => nearTo (nset L v) L.length
theorem nearL_succ (L : List Int) (k : Nat) : nearL L (k + 1) = nearL L k ++ [nearTo (nset L k) L.length] := by simp [nearL, List.range_succ]
theorem nearL_length (L : List Int) (k : Nat) : (nearL L k).length = k := by simp [nearL]

/-- How a call that lists lists ends. -/
def Gave2 (w : World) (Ls : List (List Int)) (e : Ending) (w' : World) : Prop := ∃ v, e = .returned v ∧ Row2Z w' w.heap.size v Ls ∧ Below w.heap.size w w'
theorem row2Z_new (w : World) : Row2Z (w.alloc (.cells #[] 22)) w.heap.size (.slice (some ⟨w.heap.size, 0, none⟩) 0 0) [] :=
  ⟨[], World.ownsRow_lit (base := w.heap.size) (e := 22) (size := 1) w #[] 0 (Nat.le_refl _) (by unfold maxLen; omega) rfl, (fun h => by cases h), fun k hk => absurd hk (by simp)⟩
theorem rowS_new (w : World) : RowS (w.alloc (.cells #[] 3)) w.heap.size (.slice (some ⟨w.heap.size, 0, none⟩) 0 0) [] :=
  ⟨World.ownsRow_lit (base := w.heap.size) (e := 3) (size := 1) w #[] 0 (Nat.le_refl _) (by unfold maxLen; omega) rfl, fun h => by cases h⟩

set_option maxHeartbeats 4000000 in
theorem specNear_seen (A : Option Addr) (c : Nat) (L : List Int) (hN : Net L) (w : World) (h : Seen w A L) :
    Calls Tryd.prog 12 #[.slice A L.length c] w (Gave2 w (nearL L L.length)) := by
  obtain ⟨n, hn⟩ : ∃ n, n = L.length := ⟨_, rfl⟩
  have h12 := hN.2.1
  rw [← hn] at h12 ⊢
  have HN := Lib.hid hn
  have H := Lib.hid h
  have HG := Lib.hid hN
  have R0 : Hid (Row2Z (w.alloc (.cells #[] 22)) w.heap.size (.slice (some ⟨w.heap.size, 0, none⟩) 0 0) (nearL L 0)) := Lib.hid (row2Z_new w)
  have B0 := Lib.hid ((Below.refl w.heap.size w).alloc (Nat.le_refl _) (.cells #[] 22))
  clear hn h hN
  go_enter Tryd.func12, Tryd.ntmps12
  go_wp2
  go_loopw [3, 4] (fun o i wr => ∃ k : Nat, k ≤ n ∧ i = .int .i64 k ∧ Hid (Row2Z wr w.heap.size o (nearL L k)) ∧ Hid (Below w.heap.size w wr)) (fun _ i _ => n - (intOf i).toNat)
  case atStart => exact ⟨0, Nat.zero_le _, rfl, R0, B0⟩
  case round =>
    obtain ⟨k, hk, rfl, hr, hb⟩ := hrel
    by_cases hlt : k < n
    · obtain ⟨blk, off, rfl, hbl, hc⟩ := H.out k (by have := HN.out; omega)
      obtain ⟨hX, hXl, _⟩ := HG.out.ent (v := k) (by have := HN.out; omega)
      obtain ⟨X, eX⟩ : ∃ X, X = nset L k := ⟨_, rfl⟩
      rw [← eX] at hX hXl
      rw [hX] at hc
      have hX4 : X < 4096 := by have := pow_le L.length 12 (by have := HN.out; omega); omega
      have hi1 : (0 : Int) ≤ (k : Int) ∧ (k : Int) < (n : Int) := by omega
      have EX := Lib.hid eX
      have hcw : wr.cell? ⟨blk, off + k, none⟩ = some (.int .i64 X) := (hb.out.cell (p := ⟨blk, off + k, none⟩) hbl).trans hc
      have hcb : blk < wr.heap.size := Nat.lt_of_lt_of_le hbl hb.out.size
      have R1 : Hid (RowS (wr.alloc (.cells #[] 3)) wr.heap.size (.slice (some ⟨wr.heap.size, 0, none⟩) 0 0) (nearTo X 0)) := Lib.hid (rowS_new wr)
      have B1 := Lib.hid ((Below.refl wr.heap.size wr).alloc (Nat.le_refl _) (.cells #[] 3))
      clear eX hX hXl hc R0 B0
      obtain ⟨wo, rfl⟩ : ∃ wo : World, wo = wr := ⟨_, rfl⟩
      go_wp2
      go_loopw [5, 6] (fun o i wr => ∃ j : Nat, j ≤ n ∧ i = .int .i64 j ∧ Hid (RowS wr wo.heap.size o (nearTo X j)) ∧ Hid (Below wo.heap.size wo wr)) (fun _ i _ => n - (intOf i).toNat)
      case atStart => exact ⟨0, Nat.zero_le _, rfl, R1, B1⟩
      case round =>
        obtain ⟨j, hj, rfl, hr1, hb1⟩ := hrel
        by_cases hlj : j < n
        · have hcw1 : wr.cell? ⟨blk, off + k, none⟩ = some (.int .i64 X) := (hb1.out.cell (p := ⟨blk, off + k, none⟩) hcb).trans hcw
          obtain ⟨bit, eb, hb2, f1⟩ := and_facts X j (by omega)
          have hl1 := nearTo_length X j
          have hst := nearTo_succ X j
          rw [← eb] at hst
          clear R1 B1 eb
          by_cases hbit : bit = 1
          · subst hbit
            rw [if_pos rfl] at hst
            have HST := Lib.hid hst
            have HL1 := Lib.hid (show (nearTo X j).length ≤ 100000 by omega)
            clear hst hl1
            go_wp2_with (at_builtin; refine append_oneS rfl (.tmp 29) (.tmp 31) rfl wr wo.heap.size u5 (nearTo X j) ((j : Nat) : Int) rfl rfl hr1.out hb1.out.size HL1.out ?_; intro v3 w3 hv3 hb3)
            go_roundw
            case rel => exact ⟨j + 1, by omega, by go_num, Lib.hid (by rw [HST.out]; exact hv3.out), Lib.hid (hb1.out.trans hb3.out)⟩
            case measure => simp [intOf]; omega
          · have hb0 : bit = 0 := by omega
            subst hb0
            rw [if_neg (by decide), List.append_nil] at hst
            have HST := Lib.hid hst
            clear hst hl1
            go_wp2
            go_roundw
            case rel => exact ⟨j + 1, by omega, by go_num, Lib.hid (by rw [HST.out]; exact hr1.out), hb1⟩
            case measure => simp [intOf]; omega
        · have hjn : j = n := by omega
          subst hjn
          obtain ⟨b5, c5, e5⟩ := hr1.out.shape
          subst e5
          have hR2 : Row2Z wr w.heap.size u3 (nearL L k) := hr.out.below hb1.out
          have HR2 := Lib.hid hR2
          have HRS := Lib.hid (hr1.out.mono hb.out.size)
          have HBW := Lib.hid (hb.out.trans (hb1.out.mono hb.out.size))
          have HLk := Lib.hid (show (nearL L k).length ≤ 1000000 by rw [nearL_length]; omega)
          clear hR2 hr hr1
          go_wp2_with (at_builtin; refine app_rowsZ rfl (.tmp 33) (.tmp 35) rfl wr w.heap.size u3 _ (nearL L k) (nearTo X j) rfl rfl HR2.out HRS.out HBW.out.size HLk.out ?_; intro v3 w3 hv3 hb3; have HV3 := Lib.hid hv3; have HB3 := Lib.hid hb3; clear hv3 hb3)
          go_roundw
          case rel => exact ⟨k + 1, by omega, by go_num, Lib.hid (by rw [nearL_succ, ← EX.out, ← HN.out]; exact HV3.out), Lib.hid (HBW.out.trans HB3.out)⟩
          case measure => simp [intOf]; omega
    · have hkn : k = n := by omega
      subst hkn
      go_wp2
      go_ret
      exact ⟨_, rfl, hr.out, hb.out⟩
end Go.Proofs.YtnnobbbljpaieaaDoor
