/- l93Tree draws a list of n numbers: a tree, or another list. -/
import Derived.Test.YtkngijkhhonikaaDoorBaseF
import Derived.Test.YtkngijkhhonikaaDoorSpecFrom
namespace Go.Proofs.YtkngijkhhonikaaDoor
open Go Go.RowKit
set_option linter.unusedVariables false
set_option maxRecDepth 100000

theorem grown_then {w a b : World} {R : Nat} (h : w.grownBy a (some R)) (hb : Below w.heap.size a b) : w.grownBy b (some R) :=
  ⟨hb.os.trans h.os, hb.tape.trans h.tape, hb.output.trans h.output, Nat.le_trans h.size hb.size, fun i hi hne => (hb.block i hi).trans (h.block i hi hne)⟩
set_option maxHeartbeats 4000000 in
theorem tree_on {w : World} {R : Nat} {A : Option Addr} {c lim : Nat} {bs : List Nat} (h : Rdr w R A c lim bs) (n : Nat) (h1 : 1 ≤ n) (h6 : n ≤ 7) (hlim : lim ≤ 5000) (hl : bs.length ≤ 2000) (hAR : Under A bs R) :
    Calls Tryd.prog 50 #[.pointer (some ⟨R, 0, none⟩), .int .i64 (n : Nat)] w (DrewOn w R n A c (lim + 300) bs) := by
  have hRl := h.lt
  have hb0 := (Below.refl w.heap.size w).alloc (Nat.le_refl _) (.cells #[] 3)
  have R0 : Hid (∃ ls : List Nat, ls.length = 0 ∧ (∀ l ∈ ls, l < n) ∧ Row (w.alloc (.cells #[] 3)) w.heap.size (.slice (some ⟨w.heap.size, 0, none⟩) 0 0) (ints ls)) := Lib.hid ⟨[], rfl, fun l hl => (by cases hl), empty_row w⟩
  have D0 := Lib.hid (h.below hb0 hRl hAR)
  have B0 := Lib.hid (grown_below hb0 (Nat.le_refl _) R)
  have HRL := Lib.hid hRl
  have HAR := Lib.hid hAR
  clear h hb0 hRl hAR
  go_enter Tryd.func50, Tryd.ntmps50
  go_wp2
  go_loopw [5, 6] (fun o i wr => ∃ k : Nat, k ≤ n - 2 ∧ i = .int .i64 ((k + 2 : Nat) : Int) ∧ Hid (∃ ls : List Nat, ls.length = k ∧ (∀ l ∈ ls, l < n) ∧ Row wr w.heap.size o (ints ls)) ∧ Hid (Rdr wr R A c (lim + k) bs) ∧ Hid (w.grownBy wr (some R))) (fun _ i _ => n + 2 - (intOf i).toNat)
  case atStart => exact ⟨0, Nat.zero_le _, rfl, R0, D0, B0⟩
  case round =>
    clear R0 D0 B0
    obtain ⟨k, hk, rfl, hr, hrd, hg⟩ := hrel
    by_cases hlt : k + 2 < n
    · go_wp2_with fail
      refine (rdr_pick hrd.out n h1 (by omega) (by omega) hl HAR.out).mono ?_
      rintro e W8 ⟨q, hq, rfl, hr2, hg2⟩
      obtain ⟨ls, hls, hall, hrow⟩ := hr.out
      have R8 := Lib.hid (show Row W8 w.heap.size u5 (ints ls) from World.ownsRow.kept hrow hg2 (.inr (fun e => by have := (hrow.lt R e).1; have := HRL.out; omega)))
      have HLN := Lib.hid (show (ints ls).length ≤ 100000 by rw [ints_length]; omega)
      have HW := Lib.hid (show w.heap.size ≤ W8.heap.size from Nat.le_trans hg.out.size hg2.size)
      have HR2 := Lib.hid hr2
      have HG2 := Lib.hid (World.grownBy.trans hg.out hg2)
      have HLS := Lib.hid hls
      have HALL := Lib.hid hall
      have HQ := Lib.hid hq
      clear hr hrd hg hr2 hg2 hls hall hrow hq
      go_wp2_with (at_builtin; refine append_one rfl (.tmp 15) (.tmp 19) rfl W8 w.heap.size u5 (ints ls) (q : Int) rfl rfl R8.out HW.out HLN.out ?_; intro v' w' hr' hb')
      go_roundw
      case rel => exact ⟨k + 1, by omega, by go_num, Lib.hid ⟨ls ++ [q], by rw [List.length_append, HLS.out]; rfl, fun l hm => by
        rcases List.mem_append.1 hm with hm | hm
        · exact HALL.out l hm
        · rw [List.mem_singleton] at hm; rw [hm]; exact HQ.out, by rw [show ints (ls ++ [q]) = ints ls ++ [(q : Int)] by simp [ints]]; exact hr'.out⟩, Lib.hid ((HR2.out.below hb'.out HRL.out HAR.out).more (by omega)), Lib.hid (grown_then HG2.out hb'.out)⟩
      case measure => simp [intOf]; omega
    · obtain ⟨ls, hls, hall, hrow⟩ := hr.out
      have HRW := Lib.hid (show R < wr.heap.size from Nat.lt_of_lt_of_le HRL.out hg.out.size)
      by_cases hy : 2 ≤ n ∧ n ≤ 6
      · have hkn : k = n - 2 := by omega
        have HF := Lib.hid (specFrom_yes w.heap.size u5 n ls ⟨hy.1, hy.2, by omega, hall⟩ wr hrow)
        have HFL := Lib.hid (show (ints (fromT n ls)).length = n by rw [ints_length]; exact fG_len n ls _)
        obtain ⟨T, eT⟩ : ∃ T, T = ints (fromT n ls) := ⟨_, rfl⟩
        rw [← eT] at HF HFL
        clear hr hls hall hrow eT hkn
        go_wp2_with fail
        refine HF.out.mono ?_
        rintro e w2 ⟨vt, rfl, rt, bb2⟩
        have HRD := Lib.hid (hrd.out.below bb2 HRW.out HAR.out)
        have HG2 := Lib.hid (grown_then hg.out (bb2.mono hg.out.size))
        have HRT := Lib.hid rt
        clear hrd hg rt bb2
        go_wp2_with fail
        refine (rdr_pick HRD.out 20 (by omega) (by omega) (by omega) hl HAR.out).mono ?_
        rintro e w3 ⟨x, hx, rfl, hr3, hg3⟩
        have HR3 := Lib.hid hr3
        have HG3 := Lib.hid (World.grownBy.trans HG2.out hg3)
        obtain ⟨g, cap, _, hvt⟩ := row_shape (m := n - 1) HRT.out (by rw [HFL.out]; omega)
        have hgw := HRT.out.lt g (by rw [hvt]; rfl)
        have RT2 : Row w3 wr.heap.size vt T := World.ownsRow.kept HRT.out hg3 (.inr (fun e => by have := (HRT.out.lt R e).1; have := HRW.out; omega))
        have RT3 := Lib.hid (RT2.mono (Nat.le_of_lt HRW.out))
        have HVT := Lib.hid (show vt.ownBlock = some g by rw [hvt]; rfl)
        have HGR := Lib.hid (show R < g from Nat.lt_of_lt_of_le HRW.out hgw.1)
        clear hr3 hg3 hvt hgw RT2
        by_cases hx0 : x = 0
        · subst hx0
          go_wp2_with fail
          refine (rdr_graph7 HR3.out n h1 h6 (by omega) hl HAR.out).mono ?_
          rintro e w4 ⟨v4, L4, g4, rfl, hL4, hr4, hrd4, hg4, hgR4, hvg4⟩
          have H4 : Hid (DrewOn w R n A c (lim + 300) bs (.returned v4) w4) := Lib.hid ⟨v4, L4, g4, rfl, hL4, hr4, hrd4.more (by omega), World.grownBy.trans HG3.out hg4, hgR4, hvg4⟩
          clear hL4 hr4 hrd4 hg4 hgR4 hvg4
          go_wp2
          go_ret
          exact H4.out
        · have hxb : ((x : Int) == 0) = false := by simp; omega
          go_wp2
          go_ret
          exact ⟨vt, T, g, rfl, HFL.out, RT3.out, HR3.out.more (by omega), HG3.out, HGR.out, HVT.out⟩
      · have HF := Lib.hid (specFrom_no w.heap.size u5 (n : Int) (ints ls) (by omega) (fun e => hy (by omega)) wr hrow)
        clear hr hls hall hrow
        go_wp2_with fail
        refine HF.out.mono ?_
        rintro e w2 ⟨vt, rfl, rt, bb2⟩
        have HRD := Lib.hid (hrd.out.below bb2 HRW.out HAR.out)
        have HG2 := Lib.hid (grown_then hg.out (bb2.mono hg.out.size))
        clear hrd hg rt bb2
        go_wp2_with fail
        refine (rdr_graph7 HRD.out n h1 h6 (by omega) hl HAR.out).mono ?_
        rintro e w4 ⟨v4, L4, g4, rfl, hL4, hr4, hrd4, hg4, hgR4, hvg4⟩
        have H4 : Hid (DrewOn w R n A c (lim + 300) bs (.returned v4) w4) := Lib.hid ⟨v4, L4, g4, rfl, hL4, hr4, hrd4.more (by omega), World.grownBy.trans HG2.out hg4, hgR4, hvg4⟩
        clear hL4 hr4 hrd4 hg4 hgR4 hvg4
        go_wp2
        go_ret
        exact H4.out
end Go.Proofs.YtkngijkhhonikaaDoor
