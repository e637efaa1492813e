/- The other graph: by the model, of a list that is a graph. -/
import Derived.Test.YtcblcifnpgmibaaDoorOtherList
import Derived.RangeFuncBox
import Derived.Test.YtcblcifnpgmibaaDoorBaseA
import Derived.Test.YtcblcifnpgmibaaDoorLess
namespace Go.Proofs.YtcblcifnpgmibaaDoor
open Go.RowKit Go.Shelf
set_option linter.unusedVariables false
set_option maxRecDepth 100000

set_option maxHeartbeats 1000000 in
theorem specOther_seen (A : Option Addr) (c : Nat) (L : List Int) (hg : IsGraph L) (w : World) (h : Seen w A L) :
    Calls Tryd.prog 35 #[.slice A L.length c] w (Gave w (otherL L L.length)) := by
  have h1 := hg.1
  have h6 := hg.2.1
  obtain ⟨n, hn⟩ : ∃ n, n = L.length := ⟨_, rfl⟩
  rw [← hn] at h1 h6 ⊢
  have HN := Lib.hid hn
  have H := Lib.hid h
  have HG := Lib.hid hg
  have R0 := Lib.hid (World.ownsRow_lit (base := w.heap.size) (e := 3) (size := 1) w #[] 0 (Nat.le_refl _) (by unfold maxLen; omega) rfl)
  have B0 := Lib.hid ((Below.refl w.heap.size w).alloc (Nat.le_refl _) (.cells #[] 3))
  clear h hg hn
  go_enter Tryd.func35, Tryd.ntmps35
  go_wp2
  go_loopw [3, 4] (fun v i wr => ∃ k : Nat, k ≤ n ∧ i = .int .i64 k ∧ Hid (Row wr w.heap.size v (otherL L k)) ∧ Hid (Below w.heap.size w wr)) (fun _ i _ => n - (intOf i).toNat)
  case atStart => exact ⟨0, Nat.zero_le _, rfl, R0, B0⟩
  case round =>
    obtain ⟨k, hk, rfl, hr, hb⟩ := hrel
    by_cases hlt : k < n
    · obtain ⟨blk, off, rfl, hbl, hc⟩ := H.out k (by have := HN.out; omega)
      have hi1 : (0 : Int) ≤ (k : Int) ∧ (k : Int) < (n : Int) := by omega
      have hlen1 : (otherL L k).length ≤ 100000 := by rw [otherL_length]; omega
      obtain ⟨X, P, Q, p, y, z, eX, hX64, hQ, ⟨p1, p2, p3, p4, p5⟩, ⟨q1, q2⟩, f1, f2, ez⟩ := oth_step HG.out (show k < L.length by have := HN.out; omega)
      rw [eX] at hc
      rw [← HN.out] at p1 p2 hQ
      have hcw : wr.cell? ⟨blk, off + k, none⟩ = some (.int .i64 X) := (hb.out.cell (p := ⟨blk, off + k, none⟩) hbl).trans hc
      have EZ := Lib.hid ez
      clear hc hbl eX ez hQ
      have hr2 : Row wr.drew w.heap.size u3 (otherL L k) := hr.out
      have hb2 : Below w.heap.size w wr.drew := hb.out.drew
      have HR2 := Lib.hid hr2
      have HB2 := Lib.hid hb2
      have hu : ∃ A' c', u3 = .slice A' k c' := by
        obtain ⟨A', c', e, _⟩ := hr.out.see
        exact ⟨A', c', by rw [e, otherL_length]⟩
      have HLN := Lib.hid hlen1
      clear hr2 hb2 hr hb hlen1
      go_wp2
      go_region_law (refine step_one rfl (.tmp 12) (.tmp 25) rfl wr.drew w.heap.size u3 (otherL L k) (z : Int) (by simp [Act.eval]) (by simp [Act.eval]) HR2.out HB2.out.size HLN.out ?_; intro v' w' hr' hb')
      all_goals
        clear f1 f2 p1 p2 p3 p4 p5 q1 q2 hcw
        go_wp2
        go_roundw
        case rel => exact ⟨k + 1, by omega, by go_num, Lib.hid (by rw [otherL_succ, ← EZ.out]; exact hr'.out), Lib.hid (HB2.out.trans hb'.out)⟩
        case measure => simp [intOf]; omega
    · have hkn : k = n := by omega
      subst hkn
      go_wp2
      go_ret
      exact ⟨_, rfl, hr.out, hb.out⟩

end Go.Proofs.YtcblcifnpgmibaaDoor
