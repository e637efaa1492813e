/- DrawNearNone draws a list of one to six nodes. -/
import Derived.Test.YtcemhepojjbcgaaDoorBaseF
namespace Go.Proofs.YtcemhepojjbcgaaDoor
open Go Go.RowKit
set_option linter.unusedVariables false
set_option maxRecDepth 100000

set_option maxHeartbeats 2000000 in
theorem drawNearNone_any (A : Option Addr) (c : Nat) (bs : List Nat) (w : World) (h : Byts w A bs) (hc : bs.length ≤ c) (hA : Under A bs w.heap.size) :
    Calls Tryd.prog 56 #[.slice A bs.length c] w (Drew6 w) := by
  have HO := Lib.hid (open_any A c bs w h hc hA)
  obtain ⟨n, hn⟩ : ∃ n, n = bs.length := ⟨_, rfl⟩
  rw [← hn] at HO ⊢
  clear h hc hA hn
  go_enter Tryd.func56, Tryd.ntmps56
  go_wp2_with fail
  refine HO.out.mono ?_
  rintro e w1 ⟨bs', c', rfl, hl, hR, hb, hA', hbe⟩
  have HA' := Lib.hid hA'
  have HR := Lib.hid hR
  have HB := Lib.hid hb
  have HBE := Lib.hid hbe
  have HP := Lib.hid (pick_any w.heap.size A c' 0 4 bs' (by omega) (by omega) (by omega) hl w1 hR hb hA')
  clear hR hb hbe hA'
  go_wp2_with fail
  refine HP.out.mono ?_
  rintro e w2 ⟨x, d, hx, rfl, hw2⟩
  have hbR : Below w.heap.size w1 ((w1.setCell ⟨w.heap.size, 1, none⟩ (.int .i64 ((0 + 1 : Nat) : Nat))).drewN d) := below_drewN ((Below.refl w.heap.size w1).setCell (p := ⟨w.heap.size, 1, none⟩) (Nat.le_refl _) _) d
  have HR2 := Lib.hid (show RdAt w2 w.heap.size A bs'.length c' 1 by rw [hw2]; exact HR.out.next 1)
  have HB2 := Lib.hid (show Byts w2 A bs' by rw [hw2]; exact HB.out.below hbR HA'.out)
  have HBE2 := Lib.hid (show Below w.heap.size w w2 by rw [hw2]; exact HBE.out.trans hbR)
  clear hw2 hbR HP HR HB HBE
  have hsz := HBE2.out.size
  have lit : ∀ (cs : Array Value) (k : Nat), k ≤ 100 → cs.size = k * 1 → (w2.alloc (.cells cs 3)).ownsRow w.heap.size 3 1 (.slice (some ⟨w2.heap.size, 0, none⟩) k k) k cs.toList := fun cs k hk hs => World.ownsRow_lit w2 cs k hsz (by unfold maxLen; omega) hs
  have bel : ∀ o, Below w.heap.size w (w2.alloc o) := fun o => HBE2.out.trans (((Below.refl w2.heap.size w2).alloc (Nat.le_refl _) o).mono hsz)
  have LIT := Lib.hid lit
  have BEL := Lib.hid bel
  clear lit bel
  by_cases hx0 : x = 0
  · subst hx0
    have R0 : Hid (Row (w2.alloc (.cells #[.int .i64 2, .int .i64 37, .int .i64 42, .int .i64 20, .int .i64 8, .int .i64 6] 3)) w.heap.size (.slice (some ⟨w2.heap.size, 0, none⟩) 6 6) [2, 37, 42, 20, 8, 6]) := Lib.hid (LIT.out #[.int .i64 2, .int .i64 37, .int .i64 42, .int .i64 20, .int .i64 8, .int .i64 6] 6 (by omega) rfl)
    go_wp2
    go_ret
    exact ⟨_, [2, 37, 42, 20, 8, 6], rfl, by simp, by simp, R0.out, BEL.out _⟩
  · have hx0b : ((x : Int) == 0) = false := by simp; omega
    have HP2 := Lib.hid (pick_any w.heap.size A c' 1 6 bs' (by omega) (by omega) (by omega) hl w2 HR2.out HB2.out HA'.out)
    clear LIT BEL
    go_wp2_with fail
    refine HP2.out.mono ?_
    rintro e w3 ⟨x, d, hx, rfl, hw2⟩
    have hbR : Below w.heap.size w2 ((w2.setCell ⟨w.heap.size, 1, none⟩ (.int .i64 ((1 + 1 : Nat) : Nat))).drewN d) := below_drewN ((Below.refl w.heap.size w2).setCell (p := ⟨w.heap.size, 1, none⟩) (Nat.le_refl _) _) d
    have HR3 := Lib.hid (show RdAt w3 w.heap.size A bs'.length c' 2 by rw [hw2]; exact HR2.out.next 2)
    have HB3 := Lib.hid (show Byts w3 A bs' by rw [hw2]; exact HB2.out.below hbR HA'.out)
    have HBE3 := Lib.hid (show Below w.heap.size w w3 by rw [hw2]; exact HBE2.out.trans hbR)
    obtain ⟨y, hy⟩ : ∃ y, y = x + 1 := ⟨_, rfl⟩
    have hs : (1 : Int) + (x : Int) = (y : Nat) := by omega
    have hw := wrapN y (by omega)
    have HG := Lib.hid (drawGraph_any w.heap.size A c' 2 5 y bs' (by omega) (by omega) (by omega) (by omega) hl w3 HR3.out HB3.out HA'.out)
    have hy5 : y ≤ 6 := by omega
    have hy1 : 1 ≤ y := by omega
    clear hw2 hbR hy
    go_wp2_with fail
    refine HG.out.mono ?_
    rintro e w4 ⟨v, L, rfl, hL, hr, hb3, _, _, _⟩
    have HRR := Lib.hid hr
    have HL := Lib.hid hL
    have HB4 := Lib.hid hb3
    clear hr hL hb3
    go_wp2
    go_ret
    exact ⟨_, L, rfl, by have := HL.out; omega, by have := HL.out; omega, HRR.out, HBE3.out.trans HB4.out⟩
end Go.Proofs.YtcemhepojjbcgaaDoor
