/- l91Names draws a list of n numbers. -/
import Derived.Test.YtamabhdbcmjbjaaDoorBaseF
namespace Go.Proofs.YtamabhdbcmjbjaaDoor
open Go Go.RowKit
set_option linter.unusedVariables false
set_option maxRecDepth 100000

set_option maxHeartbeats 4000000 in
theorem names_any {w : World} {R : Nat} {A : Option Addr} {c lim : Nat} {bs : List Nat} (h : Rdr w R A c lim bs) (n : Nat) (h1 : 1 ≤ n) (h6 : n ≤ 6) (hlim : lim ≤ 10000) (hl : bs.length ≤ 2000) (hAR : Under A bs R) :
    Calls Tryd.prog 82 #[.pointer (some ⟨R, 0, none⟩), .int .i64 (n : Nat)] w (DrewOn w R n A c (lim + 10) bs) := by
  have hRl := h.lt
  have hb0 := (Below.refl w.heap.size w).alloc (Nat.le_refl _) (.cells #[] 3)
  have R0 := Lib.hid (show ∃ xs : List Int, xs.length = 0 ∧ Row (w.alloc (.cells #[] 3)) w.heap.size (.slice (some ⟨w.heap.size, 0, none⟩) 0 0) xs from ⟨[], rfl, empty_row w⟩)
  have D0 := Lib.hid (h.below hb0 hRl hAR)
  have G0 := Lib.hid (grown_below hb0 (Nat.le_refl _) R)
  have HRL := Lib.hid hRl
  have HAR := Lib.hid hAR
  clear h hb0 hRl hAR
  go_enter Tryd.func82, Tryd.ntmps82
  go_wp2
  go_loopw [5, 6] (fun o i wr => ∃ k b cp : Nat, k ≤ n ∧ i = .int .i64 k ∧ o = .slice (some ⟨b, 0, none⟩) k cp ∧ k ≤ cp ∧ Hid (∃ xs : List Int, xs.length = k ∧ Row wr w.heap.size (.slice (some ⟨b, 0, none⟩) k cp) xs) ∧ Hid (Rdr wr R A c (lim + k) bs) ∧ Hid (w.grownBy wr (some R))) (fun _ i _ => n - (intOf i).toNat)
  case atStart => exact ⟨0, _, 0, Nat.zero_le _, rfl, rfl, Nat.le_refl _, R0, D0, G0⟩
  case round =>
    clear R0 D0 G0
    obtain ⟨k, b, cp, hk, rfl, rfl, hkc, hr, hrd, hg⟩ := hrel
    by_cases hlt : k < n
    · obtain ⟨m, em⟩ : ∃ m, m = k + 1 := ⟨_, rfl⟩
      have hs : (k : Int) + 1 = (m : Nat) := by omega
      have hw := wrapN m (by omega)
      have hm1 : 1 ≤ m := by omega
      have hm6 : m ≤ 6 := by omega
      have HM := Lib.hid em
      clear em
      go_wp2_with fail
      refine (rdr_pick hrd.out m hm1 (Nat.le_trans hm6 (by decide)) (by omega) hl HAR.out).mono ?_
      rintro e W8 ⟨q, hq, rfl, hr2, hg2⟩
      have hqk : q ≤ k := by have := HM.out; omega
      obtain ⟨xs, hxs, hrow⟩ := hr.out
      have hbb := hrow.lt b rfl
      have HX := Lib.hid hxs
      have R8 : Row W8.drew w.heap.size (.slice (some ⟨b, 0, none⟩) k cp) xs := (hrow.reads rfl (Nat.lt_of_lt_of_le HRL.out hbb.1) hg2 : Row W8 w.heap.size (.slice (some ⟨b, 0, none⟩) k cp) xs)
      have HRD := Lib.hid (show Rdr W8.drew R A c (lim + k + 1) bs from hr2)
      have HG8 := Lib.hid (grown_drew (World.grownBy.trans hg.out hg2))
      have hq1 : (0 : Int) ≤ (q : Int) ∧ (q : Int) ≤ (k : Int) ∧ (q : Int) ≤ (cp : Int) ∧ (k : Int) ≤ (cp : Int) := by omega
      obtain ⟨N8, eN8⟩ : ∃ N8, N8 = W8.heap.size := ⟨_, rfl⟩
      have hbN : b < N8 := by rw [eN8]; exact Nat.lt_of_lt_of_le hbb.2 hg2.size
      have HNW : Hid (w.heap.size ≤ N8) := Lib.hid (Nat.le_trans hbb.1 (Nat.le_of_lt hbN))
      have HRN : Hid (R < N8) := Lib.hid (Nat.lt_of_lt_of_le HRL.out HNW.out)
      obtain ⟨x, ex⟩ : ∃ x : Int, x = (k : Int) := ⟨_, rfl⟩
      clear hr hrd hg hr2 hg2 hrow hxs hq hs hw hm1 hm6 HM
      obtain ⟨V, eV⟩ : ∃ V : World, V = W8.drew := ⟨_, rfl⟩
      have hVs : V.heap.size = N8 := by rw [eV, eN8]; rfl
      rw [← eV] at R8
      have HCT : Hid (∀ W, Below N8 V W → ∀ j, j < (xs.take q).length → W.cell? ⟨b, 0 + j, none⟩ = some (.int .i64 ((xs.take q)[j]?.getD 0))) := Lib.hid (fun W hW j hj => by
        rw [List.length_take] at hj
        rw [Nat.zero_add, hW.cell (p := ⟨b, j, none⟩) hbN, R8.cellAt j (by omega), List.getElem?_take_of_lt (by omega)])
      obtain ⟨oq, eoq⟩ : ∃ oq, oq = if cp = q then 0 else q := ⟨_, rfl⟩
      have HIF : Hid (∀ l c', Value.slice (if cp = q then some ⟨b, 0, none⟩ else some ⟨b, q, none⟩) l c' = .slice (some ⟨b, oq, none⟩) l c') := Lib.hid (fun l c' => by rw [eoq]; split <;> rfl)
      have HCD : Hid (∀ W, Below N8 V W → ∀ j, j < (xs.drop q).length → W.cell? ⟨b, oq + j, none⟩ = some (.int .i64 ((xs.drop q)[j]?.getD 0))) := Lib.hid (fun W hW j hj => by
        rw [List.length_drop] at hj
        have hxk := HX.out
        have hoq : oq = q := by rw [eoq, if_neg (by omega)]
        rw [hoq, hW.cell (p := ⟨b, q + j, none⟩) hbN, R8.cellAt (q + j) (by omega), List.getElem?_drop])
      have HTQ : Hid ((xs.take q).length = q) := Lib.hid (by rw [List.length_take, HX.out]; omega)
      have HDQ : Hid ((xs.drop q).length = k - q) := Lib.hid (by rw [List.length_drop, HX.out])
      have RE : ∀ U : World, V.heap.size ≤ U.heap.size → Row (U.alloc (.cells #[] 3)) N8 (.slice (some ⟨U.heap.size, 0, none⟩) 0 0) [] := fun U hU =>
        Row.mono (World.ownsRow_lit (base := U.heap.size) (e := 3) (size := 1) U #[] 0 (Nat.le_refl _) (by unfold maxLen; omega) rfl) (by omega)
      have RA := Lib.hid (RE V (Nat.le_refl _))
      have RB := Lib.hid ((RE V (Nat.le_refl _)).alloc (.cells #[.int .i64 x] 3))
      have rc := RE (V.alloc (.cells #[.int .i64 x] 3)) (by rw [World.size_alloc]; omega)
      rw [World.size_alloc] at rc
      have RC := Lib.hid rc
      have BA := Lib.hid ((Below.refl N8 V).alloc (by omega) (.cells #[] 3))
      have BB := Lib.hid (((Below.refl N8 V).alloc (by omega) (.cells #[] 3)).alloc (by rw [World.size_alloc]; omega) (.cells #[.int .i64 x] 3))
      have BC := Lib.hid (((Below.refl N8 V).alloc (by omega) (.cells #[.int .i64 x] 3)).alloc (by rw [World.size_alloc]; omega) (.cells #[] 3))
      have xb := Boxed.new (V.alloc (.cells #[] 3)) 3 (.int .i64 x)
      rw [World.size_alloc] at xb
      have XB := Lib.hid xb
      have XC := Lib.hid ((Boxed.new V 3 (.int .i64 x)).alloc (.cells #[] 3))
      have HNL : Hid (N8 ≤ V.heap.size) := Lib.hid (by omega)
      have HNV : Hid (V.heap.size ≤ N8) := Lib.hid (by omega)
      clear eoq eN8 R8 RE hVs hbN xb rc hbb
      subst eV
      subst ex
      have NEB : some (W8.drew.heap.size + 1) ≠ (Value.slice (some ⟨W8.heap.size, 0, none⟩) 0 0).ownBlock := fun e => by
        have e2 : some (W8.heap.size + 1) = some W8.heap.size := e
        injection e2 with e3
        omega
      have NEC : some W8.drew.heap.size ≠ (Value.slice (some ⟨W8.heap.size + 1, 0, none⟩) 0 0).ownBlock := fun e => by
        have e2 : some W8.heap.size = some (W8.heap.size + 1) := e
        injection e2 with e3
        omega
      go_wp2
      go_region_held_law (fun w' => True) (exact True.intro) (first
        | (refine step_list rfl (.tmp 19) (.tmp 22) rfl (W8.drew.alloc (.cells #[] 3)) N8 (.slice (some ⟨W8.heap.size, 0, none⟩) 0 0) [] (xs.take q) b 0 q _ rfl HTQ.out rfl RA.out (HCT.out _ BA.out) (Nat.le_trans HNL.out BA.out.size) (by rw [List.length_nil, HTQ.out]; omega) ?_
           intro v1 w1 hv1 hb1 hg1 ha1
           rw [List.nil_append] at hv1
           have R1 := Lib.hid hv1.out
           have B1 := Lib.hid (BA.out.trans hb1.out)
           clear hv1 hb1 hg1 ha1)
        | (refine step_list rfl (.tmp 19) (.tmp 22) rfl ((W8.drew.alloc (.cells #[] 3)).alloc (.cells #[.int .i64 (k : Int)] 3)) N8 (.slice (some ⟨W8.heap.size, 0, none⟩) 0 0) [] (xs.take q) b 0 q _ rfl HTQ.out rfl RB.out (HCT.out _ BB.out) (Nat.le_trans HNL.out BB.out.size) (by rw [List.length_nil, HTQ.out]; omega) ?_
           intro v1 w1 hv1 hb1 hg1 ha1
           rw [List.nil_append] at hv1
           have R1 := Lib.hid hv1.out
           have B1 := Lib.hid (BB.out.trans hb1.out)
           have H40 := Lib.hid ((XB.out.kept hg1.out NEB).cell)
           clear hv1 hb1 hg1 ha1)
        | (refine step_list rfl (.tmp 19) (.tmp 22) rfl ((W8.drew.alloc (.cells #[.int .i64 (k : Int)] 3)).alloc (.cells #[] 3)) N8 (.slice (some ⟨W8.heap.size + 1, 0, none⟩) 0 0) [] (xs.take q) b 0 q _ rfl HTQ.out rfl RC.out (HCT.out _ BC.out) (Nat.le_trans HNL.out BC.out.size) (by rw [List.length_nil, HTQ.out]; omega) ?_
           intro v1 w1 hv1 hb1 hg1 ha1
           rw [List.nil_append] at hv1
           have R1 := Lib.hid hv1.out
           have B1 := Lib.hid (BC.out.trans hb1.out)
           have H40 := Lib.hid ((XC.out.kept hg1.out NEC).cell)
           clear hv1 hb1 hg1 ha1)
        | (refine step_list rfl (.tmp 23) (.tmp 25) rfl (w1.alloc (.cells #[.int .i64 (k : Int)] 3)) N8 v1 (xs.take q) [(k : Int)] w1.heap.size 0 1 1 rfl rfl rfl (Row.alloc R1.out _) (one_cells (Boxed.new w1 3 (.int .i64 (k : Int))).cell) (Nat.le_trans HNL.out (B1.out.alloc (Nat.le_trans HNL.out B1.out.size) _).size) (by rw [HTQ.out, List.length_singleton]; omega) ?_
           intro v2 w2 hv2 hb2 hg2 ha2
           have R2 := Lib.hid hv2.out
           have B2 := Lib.hid (B1.out.trans (((Below.refl N8 w1).alloc (Nat.le_trans HNL.out B1.out.size) _).trans hb2.out))
           clear hv2 hb2 hg2 ha2)
        | (refine step_list rfl (.tmp 23) (.tmp 25) rfl w1 N8 v1 (xs.take q) [(k : Int)] (W8.heap.size + 1) 0 1 1 rfl rfl rfl R1.out (one_cells H40.out) (Nat.le_trans HNL.out B1.out.size) (by rw [HTQ.out, List.length_singleton]; omega) ?_
           intro v2 w2 hv2 hb2 hg2 ha2
           have R2 := Lib.hid hv2.out
           have B2 := Lib.hid (B1.out.trans (hb2.out))
           clear hv2 hb2 hg2 ha2)
        | (refine step_list rfl (.tmp 23) (.tmp 25) rfl w1 N8 v1 (xs.take q) [(k : Int)] (W8.heap.size) 0 1 1 rfl rfl rfl R1.out (one_cells H40.out) (Nat.le_trans HNL.out B1.out.size) (by rw [HTQ.out, List.length_singleton]; omega) ?_
           intro v2 w2 hv2 hb2 hg2 ha2
           have R2 := Lib.hid hv2.out
           have B2 := Lib.hid (B1.out.trans (hb2.out))
           clear hv2 hb2 hg2 ha2)
        | (refine step_list rfl (.tmp 26) (.tmp 29) rfl w2 N8 v2 (xs.take q ++ [(k : Int)]) (xs.drop q) b oq (k - q) _ rfl HDQ.out (HIF.out _ _) R2.out (HCD.out _ B2.out) (Nat.le_trans HNL.out B2.out.size) (by rw [List.length_append, HTQ.out, HDQ.out, List.length_singleton]; omega) ?_
           intro v3 w3 hv3 hb3 hg3 ha3
           obtain ⟨gb, gc, hgc, rfl⟩ := row_shape (m := k) hv3.out (by rw [List.length_append, List.length_append, HTQ.out, HDQ.out, List.length_singleton]; omega)
           have R3 := Lib.hid hv3.out
           have B3 := Lib.hid (B2.out.trans hb3.out)
           clear hv3 hb3 hg3 ha3))
      all_goals
        go_wp2
        go_roundw
        case rel => exact ⟨k + 1, gb, gc, by omega, by go_num, rfl, hgc, Lib.hid ⟨_, by rw [List.length_append, List.length_append, HTQ.out, HDQ.out, List.length_singleton]; omega, Row.mono R3.out HNW.out⟩, Lib.hid ((HRD.out.below B3.out HRN.out HAR.out).more (by omega)), Lib.hid (World.grownBy.trans HG8.out (grown_below B3.out HNV.out R))⟩
        case measure => simp [intOf]; omega
    · have e : k = n := by omega
      subst e
      go_wp2_with fail
      refine (rdr_pick hrd.out 30 (by decide) (by decide) (by omega) hl HAR.out).mono ?_
      rintro e w2 ⟨x, hx, rfl, hr2, hg2⟩
      obtain ⟨xs, hxs, hrow⟩ := hr.out
      have hbb := hrow.lt b rfl
      have hRb : R < b := Nat.lt_of_lt_of_le HRL.out hbb.1
      have row2 := hrow.reads rfl hRb hg2
      have ga := row2.cellAt 0 (by omega)
      have fa := row2.frozenAt 0 (by omega)
      have HX := Lib.hid hxs
      have ROW := Lib.hid row2
      have HRD := Lib.hid hr2
      have HG := Lib.hid (World.grownBy.trans hg.out hg2)
      have HB := Lib.hid hbb
      have HRB := Lib.hid hRb
      have i0 : (0 : Int) < (k : Int) := by omega
      clear hr hrd hg hr2 hg2 hrow hxs row2 hbb hRb
      by_cases hx0 : x = 0
      · have c0 : (((x : Nat) : Int) == 0) = true := by simp; omega
        clear hx0 hx
        go_wp2
        go_ret
        exact ⟨_, xs.set 0 (k : Int), b, rfl, by rw [List.length_set]; exact HX.out, (ROW.out.set 0 (by have := HX.out; omega) (k : Int)).mono (Nat.le_of_lt HRL.out), (HRD.out.below ((Below.refl b w2).setCell (p := ⟨b, 0, none⟩) (Nat.le_refl _) _) HRB.out HAR.out).more (by omega), World.grownBy.andThen HG.out (grown_set (World.grownBy.refl w2 (some b)) 0 _) (fun j hj => .inl (by cases hj; exact HB.out.1)), HRB.out, rfl⟩
      · have c0 : (((x : Nat) : Int) == 0) = false := by simp; omega
        clear hx0 hx
        go_wp2
        go_ret
        exact ⟨_, xs, b, rfl, HX.out, ROW.out.mono (Nat.le_of_lt HRL.out), HRD.out.more (by omega), HG.out, HRB.out, rfl⟩
end Go.Proofs.YtamabhdbcmjbjaaDoor
