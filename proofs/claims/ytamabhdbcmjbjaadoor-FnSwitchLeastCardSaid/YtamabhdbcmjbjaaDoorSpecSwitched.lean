/- The model's l7Switched: the graph switched at a set. -/
import Derived.Test.YtamabhdbcmjbjaaDoorSwMath
import Derived.Test.YtamabhdbcmjbjaaDoorBaseA
namespace Go.Proofs.YtamabhdbcmjbjaaDoor
open Go Go.RowKit Go.Shelf
set_option linter.unusedVariables false
set_option maxRecDepth 100000

def swTo (L : List Int) (s k : Nat) : List Int := (List.range k).map fun i => ((ent L i ^^^ swMask L.length s i : Nat) : Int)
theorem swTo_zero (L : List Int) (s : Nat) : swTo L s 0 = [] := rfl
theorem swTo_succ (L : List Int) (s k : Nat) : swTo L s (k + 1) = swTo L s k ++ [((ent L k ^^^ swMask L.length s k : Nat) : Int)] := by simp [swTo, List.range_succ]
theorem swTo_length (L : List Int) (s k : Nat) : (swTo L s k).length = k := by simp [swTo]

set_option maxHeartbeats 2000000 in
theorem specSwitched_seen (A : Option Addr) (c s : Nat) (L : List Int) (hg : IsGraph L) (hs : s < 2 ^ L.length) (w : World) (h : Seen w A L) :
    Calls Tryd.prog 27 #[.slice A L.length c, .int .i64 s] w (Gave w (swL L s)) := by
  have h1 := hg.1
  have h6 := hg.2.1
  have h64 := two_le h6
  show Calls _ _ _ _ (Gave w (swTo L s L.length))
  obtain ⟨n, hn⟩ : ∃ n, n = L.length := ⟨_, rfl⟩
  rw [← hn] at h1 h6 hs h64 ⊢
  obtain ⟨P, Q, hP, hQ, hP64, p1, p2, p3, p4, p5⟩ := shl_facts n h6
  have HN := Lib.hid hn
  have H := Lib.hid h
  have HG := Lib.hid hg
  have HS := Lib.hid hs
  have hs64 : s < 64 := by omega
  have hQ64 : Q < 64 := by omega
  have hQe : Q = 2 ^ n - 1 := by omega
  have f1 := less_op Q s (Nat.lt_trans hQ64 (by decide)) (Nat.lt_trans hs64 (by decide))
  have hls : less Q s < 64 := Nat.lt_of_le_of_lt (less_le Q s) hQ64
  have HM : Hid (∀ k, swMask n s k = if s / 2 ^ k % 2 = 1 then less Q s else s) := Lib.hid fun k => by unfold swMask; rw [hQe]
  obtain ⟨ls, els⟩ : ∃ ls, ls = less Q s := ⟨_, rfl⟩
  rw [← els] at f1 hls HM
  have R0 := Lib.hid (World.ownsRow_lit (base := w.heap.size) (e := 3) (size := 1) w #[] 0 (Nat.le_refl _) (by unfold maxLen; omega) rfl)
  have B0 := Lib.hid ((Below.refl w.heap.size w).alloc (Nat.le_refl _) (.cells #[] 3))
  clear h hg hn hs hP hQ hQe els h64
  go_enter Tryd.func27, Tryd.ntmps27
  go_wp2
  go_loopw [5, 7] (fun v i wr => ∃ k : Nat, k ≤ n ∧ i = .int .i64 k ∧ Hid (Row wr w.heap.size v (swTo L s k)) ∧ Hid (Below w.heap.size w wr)) (fun _ i _ => n - (intOf i).toNat)
  case atStart => exact ⟨0, Nat.zero_le _, rfl, R0, B0⟩
  case round =>
    obtain ⟨k, hk, rfl, hr, hb⟩ := hrel
    by_cases hlt : k < n
    · obtain ⟨blk, off, rfl, hbl, hc⟩ := H.out k (by have := HN.out; omega)
      have hkL : k < L.length := by have := HN.out; omega
      have hin := (HG.out.2.2 k hkL).1
      have hX := ent_int hin
      have hXl := ent_lt hin
      have h64 := two_le HG.out.2.1
      have hX64 : ent L k < 64 := by omega
      rw [hX] at hc
      have hst := swTo_succ L s k
      rw [← HN.out, HM.out k] at hst
      have hi1 : (0 : Int) ≤ (k : Int) ∧ (k : Int) < (n : Int) := by omega
      have hcw : wr.cell? ⟨blk, off + k, none⟩ = some (.int .i64 (ent L k : Nat)) := (hb.out.cell (p := ⟨blk, off + k, none⟩) hbl).trans hc
      obtain ⟨X, eX⟩ : ∃ X, X = ent L k := ⟨_, rfl⟩
      rw [← eX] at hX64 hcw hst
      obtain ⟨bit, eb, hb1, fb⟩ := and_facts s k (Nat.lt_trans hs64 (by decide))
      rw [← eb] at hst
      have fx1 := i64_xor_nat X ls (Nat.lt_trans hX64 (by decide)) (Nat.lt_trans hls (by decide))
      have fx2 := i64_xor_nat X s (Nat.lt_trans hX64 (by decide)) (Nat.lt_trans hs64 (by decide))
      have HST := Lib.hid hst
      have hlen1 : (swTo L s k).length ≤ 100000 := by rw [swTo_length]; omega
      have HLN := Lib.hid hlen1
      have HR2 := Lib.hid hr.out
      have HB2 := Lib.hid hb.out
      clear hin hX hXl h64 hc hst hbl eX hlen1 hr hb eb
      by_cases h1 : bit = 1
      · subst h1
        obtain ⟨z, ez⟩ : ∃ z, z = X ^^^ ls := ⟨_, rfl⟩
        rw [← ez] at fx1
        have hst2 := Lib.hid (show swTo L s (k + 1) = swTo L s k ++ [((z : Nat) : Int)] by rw [HST.out, if_pos rfl, ez])
        clear ez fx2 HST
        go_wp2_with (at_builtin; refine append_one rfl (.tmp 24) (.tmp 33) rfl wr w.heap.size u5 (swTo L s k) (z : Int) rfl rfl HR2.out HB2.out.size HLN.out ?_; intro v3 w3 hv3 hb3
                     have BV3 := Lib.hid (HB2.out.trans hb3.out)
                     clear hb3)
        go_roundw
        case rel => exact ⟨k + 1, by omega, by go_num, Lib.hid (by rw [hst2.out]; exact hv3.out), BV3⟩
        case measure => simp [intOf]; omega
      · have h0 : bit = 0 := by omega
        subst h0
        obtain ⟨z, ez⟩ : ∃ z, z = X ^^^ s := ⟨_, rfl⟩
        rw [← ez] at fx2
        have hst2 := Lib.hid (show swTo L s (k + 1) = swTo L s k ++ [((z : Nat) : Int)] by rw [HST.out, if_neg (by omega), ez])
        clear ez fx1 HST
        go_wp2_with (at_builtin; refine append_one rfl (.tmp 35) (.tmp 42) rfl wr w.heap.size u5 (swTo L s k) (z : Int) rfl rfl HR2.out HB2.out.size HLN.out ?_; intro v3 w3 hv3 hb3
                     have BV3 := Lib.hid (HB2.out.trans hb3.out)
                     clear hb3)
        go_roundw
        case rel => exact ⟨k + 1, by omega, by go_num, Lib.hid (by rw [hst2.out]; exact hv3.out), BV3⟩
        case measure => simp [intOf]; omega
    · have hkn : k = n := by omega
      subst hkn
      go_wp2
      go_ret
      exact ⟨_, rfl, hr.out, hb.out⟩
end Go.Proofs.YtamabhdbcmjbjaaDoor
