/- The program's FineSame: both graphs beside each other, and the end of both halves in order. -/
import Derived.Test.YtnnobbbljpaieaaDoorBeside
import Derived.Test.YtnnobbbljpaieaaDoorJoinNet
import Derived.Test.YtnnobbbljpaieaaDoorSortInts
import Derived.Test.YtnnobbbljpaieaaDoorCompare
import Derived.Test.YtnnobbbljpaieaaDoorBaseA
import Derived.Test.YtnnobbbljpaieaaDoorSameDef
import Derived.Test.YtnnobbbljpaieaaDoorHalves
namespace Go.Proofs.YtnnobbbljpaieaaDoor
open Go Go.RowKit
set_option linter.unusedVariables false
set_option maxRecDepth 100000

/-- slices.Sorted over slices.Values of a list that is read. -/
theorem sortedV_any (A : Option Addr) (n c : Nat) (L : List Int) (hn : L.length = n) (hl : L.length ≤ 1000) (w : World) (hS : Seen w A L) :
    Calls Tryd.prog 27 #[.func (.func 40) #[] #[.pointer (some ⟨w.heap.size, 0, none⟩)]] (w.alloc (.cells #[.slice A n c] 22)) (Gave (w.alloc (.cells #[.slice A n c] 22)) (sortL L)) := by
  subst hn
  exact sortedI_any w.heap.size A c L hl _ (by simp) (Boxed.new w 22 (.slice A L.length c)).cell (hS.below ((Below.refl w.heap.size w).alloc (Nat.le_refl _) _))

set_option maxHeartbeats 4000000 in
theorem sameColours_any (B B' : Nat) (v v' : Value) (L M : List Int) (hL : IsGraph L) (hM : IsGraph M) (hl : L.length = M.length) (w : World) (h : Row w B v L) (h' : Row w B' v' M)
    (hend : ∀ (An : Option Addr) (cn : Nat) (W : World), Below w.heap.size w W → Seen W An (joinL L M) → Calls Tryd.prog 26 #[.slice An (joinL L M).length cn] W (Gave W (endJ L M))) :
    Calls Tryd.prog 17 #[v, v'] w (Said1 w (sameC L M)) := by
  have l1 := hL.2.1
  have g1 := hL.1
  have H1 := Lib.hid (beside_both B B' v v' L M hL hM w h h')
  obtain ⟨A, c, rfl, s1⟩ := h.seen
  obtain ⟨A', c', rfl, s2⟩ := h'.seen
  have HE := Lib.hid hend
  have HEL := Lib.hid (endJ_length L M)
  unfold sameC
  obtain ⟨E, eE⟩ : ∃ E, E = endJ L M := ⟨_, rfl⟩
  obtain ⟨J, eJ⟩ : ∃ J, J = joinL L M := ⟨_, rfl⟩
  have hJl := joinL_length L M
  rw [← eJ] at H1 HE hJl
  rw [← eE] at HE HEL ⊢
  obtain ⟨n, hn⟩ : ∃ n, n = L.length := ⟨_, rfl⟩
  rw [← hl, ← hn] at HEL hJl
  rw [← hn] at l1 g1 hl H1 ⊢
  rw [← hl] at H1 ⊢
  have HN := Lib.hid hn
  have HJL := Lib.hid hJl
  clear hL hM h h' s1 s2 hn hl eE eJ hend hJl
  go_enter Tryd.func17, Tryd.ntmps17
  go_wp2_with fail
  refine H1.out.mono ?_
  rintro e w1 ⟨jv, rfl, hj, b1⟩
  obtain ⟨Aj, cj, hjv, sj⟩ := hj.seen
  subst hjv
  go_wp2_with fail
  refine (HE.out Aj cj w1 b1 sj).mono ?_
  rintro e w2 ⟨ev, rfl, he, b2⟩
  have B2 : Below w.heap.size w w2 := b1.trans (b2.mono b1.size)
  obtain ⟨ge, ce, hce, hev⟩ := row_shape (m := n + n - 1) he (by rw [HEL.out]; omega)
  subst hev
  have e2n : n + n - 1 + 1 = n + n := by omega
  rw [e2n] at hce he ⊢
  obtain ⟨Ae, ce', hve, se⟩ := he.seen
  have e3 : Ae = some ⟨ge, 0, none⟩ := by injection hve with e; exact e.symm
  subst e3
  have S1 := Lib.hid (se.take n)
  have s2' := Seen.drop se n
  rw [Nat.zero_add] at s2'
  have S2 := Lib.hid s2'
  have hl1 : (E.take n).length = n := by rw [List.length_take, HEL.out]; omega
  have hl2 : (E.drop n).length = n := by rw [List.length_drop, HEL.out]; omega
  have L1 := Lib.hid hl1
  have L2 := Lib.hid hl2
  have BB2 := Lib.hid B2
  obtain ⟨E1, eE1⟩ : ∃ E1, E1 = E.take n := ⟨_, rfl⟩
  obtain ⟨E2, eE2⟩ : ∃ E2, E2 = E.drop n := ⟨_, rfl⟩
  rw [← eE1] at S1 L1
  rw [← eE2] at S2 L2
  have HE1 := Lib.hid eE1
  have HE2 := Lib.hid eE2
  clear e2n s2' hve se he B2 sj hj b1 b2 hl1 hl2 eE1 eE2 H1 HE HEL
  have hsl1 : (0 : Int) ≤ (n : Int) ∧ (n : Int) ≤ (ce : Int) := by omega
  have hsl2 : (n : Int) ≤ ((n + n : Nat) : Int) ∧ ¬ (ce = n) := by omega
  go_wp2_with fail
  refine (valuesI_any _ _ _ _).mono ?_
  rintro e w3 ⟨rfl, hw3⟩
  have hq3 := sortedV_any (some ⟨ge, 0, none⟩) n ce E1 L1.out (by rw [L1.out]; omega) w2 S1.out
  rw [hw3] at hq3
  have b3 : Below w2.heap.size w2 w3 := by rw [← hw3]; exact (Below.refl _ _).alloc (Nat.le_refl _) _
  have H3 := Lib.hid hq3
  have B3 := Lib.hid b3
  clear hq3 hw3 b3
  go_wp2_with fail
  refine H3.out.mono ?_
  rintro e w4 ⟨v4, rfl, r4, b4⟩
  have R4 := Lib.hid r4
  have B4 := Lib.hid (BB2.out.trans ((B3.out.trans (b4.mono B3.out.size)).mono BB2.out.size))
  have S4 := Lib.hid (Seen.below (Seen.below S2.out B3.out) b4)
  clear r4 b4
  go_wp2_with fail
  refine (valuesI_any _ _ _ _).mono ?_
  rintro e w5 ⟨rfl, hw5⟩
  have hq5 := sortedV_any (some ⟨ge, n, none⟩) n (ce - n) E2 L2.out (by rw [L2.out]; omega) w4 S4.out
  rw [hw5] at hq5
  have b5 : Below w4.heap.size w4 w5 := by rw [← hw5]; exact (Below.refl _ _).alloc (Nat.le_refl _) _
  have H5 := Lib.hid hq5
  have B5 := Lib.hid b5
  clear hq5 hw5 b5
  go_wp2_with fail
  refine H5.out.mono ?_
  rintro e w6 ⟨v6, rfl, r6, b6⟩
  have B6 := Lib.hid (B5.out.trans (b6.mono B5.out.size))
  have r4' := R4.out.below B6.out
  obtain ⟨A4, c4, e4, s4⟩ := r4'.seen
  obtain ⟨A6, c6, e6, s6⟩ := r6.seen
  subst e4
  subst e6
  have H7 := Lib.hid (equalLists_any A4 A6 c4 c6 (sortL E1) (sortL E2) w6 s4 s6 (by rw [sortL_length, L1.out]; omega))
  have B7 := Lib.hid (B4.out.trans (B6.out.mono B4.out.size))
  clear r4' s4 s6 r6 b6
  go_wp2_with fail
  refine H7.out.mono ?_
  rintro e w7 ⟨rfl, d, rfl⟩
  go_wp2
  go_ret
  exact ⟨by rw [HE1.out, HE2.out]; rfl, below_drewN B7.out d⟩

set_option maxHeartbeats 1000000 in
theorem implSame_none (v v' : Value) (w : World) (h : Calls Tryd.prog 16 #[v, v'] w (GsNo w)) :
    Calls Tryd.prog 7 #[v, v'] w (Said1 w false) := by
  have H1 := Lib.hid h
  clear h
  go_enter Tryd.func7, Tryd.ntmps7
  go_wp2_with fail
  refine H1.out.mono ?_
  rintro e w1 ⟨rfl, b1⟩
  go_wp2
  go_ret
  exact ⟨rfl, b1⟩
set_option maxHeartbeats 1000000 in
theorem implSame_other (B B' : Nat) (v v' : Value) (L M : List Int) (hL : IsGraph L) (hM : IsGraph M) (hl : L.length ≠ M.length) (w : World) (h : Row w B v L) (h' : Row w B' v' M) (hT : Tab w) :
    Calls Tryd.prog 7 #[v, v'] w (Said1 w false) := by
  have H1 := Lib.hid (asGs_yes B B' v v' L M hL hM w h h' hT)
  obtain ⟨A, c, rfl, s1⟩ := h.seen
  obtain ⟨A', c', rfl, s2⟩ := h'.seen
  have hb : ((L.length : Int) == (M.length : Int)) = false := by simp; omega
  clear hL hM h h' hT s1 s2
  go_enter Tryd.func7, Tryd.ntmps7
  go_wp2_with fail
  refine H1.out.mono ?_
  rintro e w1 ⟨rfl, b1⟩
  go_wp2
  go_ret
  exact ⟨rfl, b1⟩
set_option maxHeartbeats 1000000 in
theorem implSame_both (B B' : Nat) (v v' : Value) (L M : List Int) (hL : IsGraph L) (hM : IsGraph M) (hl : L.length = M.length) (w : World) (h : Row w B v L) (h' : Row w B' v' M) (hT : Tab w)
    (hend : ∀ (An : Option Addr) (cn : Nat) (W : World), Below w.heap.size w W → Seen W An (joinL L M) → Calls Tryd.prog 26 #[.slice An (joinL L M).length cn] W (Gave W (endJ L M))) :
    Calls Tryd.prog 7 #[v, v'] w (Said1 w (sameC L M)) := by
  have H1 := Lib.hid (asGs_yes B B' v v' L M hL hM w h h' hT)
  have H2 := Lib.hid (fun (W : World) (hb : Below w.heap.size w W) => sameColours_any B B' v v' L M hL hM hl W (h.below hb) (h'.below hb) (fun An cn W2 hb2 hA => hend An cn W2 (hb.trans (hb2.mono hb.size)) hA))
  obtain ⟨A, c, rfl, s1⟩ := h.seen
  obtain ⟨A', c', rfl, s2⟩ := h'.seen
  have hb : ((L.length : Int) == (M.length : Int)) = true := by simp; omega
  obtain ⟨b, eb⟩ : ∃ b, b = sameC L M := ⟨_, rfl⟩
  rw [← eb] at H2 ⊢
  clear hL hM h h' hT s1 s2 hend eb hl
  go_enter Tryd.func7, Tryd.ntmps7
  go_wp2_with fail
  refine H1.out.mono ?_
  rintro e w1 ⟨rfl, b1⟩
  go_wp2_with fail
  refine (H2.out w1 b1).mono ?_
  rintro e w2 ⟨rfl, b2⟩
  go_wp2
  go_ret
  exact ⟨rfl, b1.trans (b2.mono b1.size)⟩
end Go.Proofs.YtnnobbbljpaieaaDoor
