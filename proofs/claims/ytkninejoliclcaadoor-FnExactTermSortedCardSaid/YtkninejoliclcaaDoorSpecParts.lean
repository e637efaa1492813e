/- The model's l11Parts puts a sorted text into a list in order. -/
import Derived.Test.YtkninejoliclcaaDoorSortedFn
import Derived.Test.YtkninejoliclcaaDoorSpecTidy
import Derived.Sort.OwnSorted
import Derived.Sort.Walk0
import Derived.RangeFuncBox
namespace Go.Proofs.YtkninejoliclcaaDoor
open Go Go.RowKit
set_option linter.unusedVariables false
set_option maxRecDepth 100000

/-- A slice that holds texts. -/
def LsAt (w : World) (g k cp : Nat) (Ls : List (List UInt8)) : Prop := k = Ls.length ∧ k ≤ cp ∧ cp ≤ maxLen ∧ g < w.heap.size ∧ ∀ j, j < k → w.cell? ⟨g, j, none⟩ = some (.string ⟨(Ls.getD j []).toArray⟩)
theorem LsAt.below {w w' : World} {g k cp : Nat} {Ls : List (List UInt8)} (h : LsAt w g k cp Ls) (b : Below w.heap.size w w') : LsAt w' g k cp Ls :=
  ⟨h.1, h.2.1, h.2.2.1, Nat.lt_of_lt_of_le h.2.2.2.1 b.size, fun j hj => (b.cell (p := ⟨g, j, none⟩) h.2.2.2.1).trans (h.2.2.2.2 j hj)⟩
/-- How l11Parts ends. -/
def SPt (w : World) (Ls : List (List UInt8)) (e : Ending) (w' : World) : Prop := ∃ g k cp, e = .returned (.slice (some ⟨g, 0, none⟩) k cp) ∧ LsAt w' g k cp Ls ∧ Below w.heap.size w w'
/-- The model's sorted text of a term. -/
def SSorted (t : Tm) : Prop := ∀ (w : World) (c : Int) (A : Option Addr) (n k : Nat), TmAt w 0 t (.agg #[.int .u8 c, .slice A n k]) → Calls Tryd.prog 34 #[.agg #[.int .u8 c, .slice A n k]] w (Gave w (.string ⟨t.stx.toArray⟩))

theorem one_str {W : World} {g : Nat} {v : Value} (h : W.cell? ⟨g, 0, none⟩ = some v) : ∀ k, k < [v].length → W.cell? ⟨g, 0 + k, none⟩ = [v][k]? := fun k hk => by
  have hk0 : k = 0 := by simpa using hk
  subst hk0
  exact h

set_option maxHeartbeats 4000000 in
theorem specParts_put (t : Tm) (q : Int) (hS : SSorted t) (w : World) (c : Int) (A : Option Addr) (n n' : Nat) (ht : TmAt w 0 t (.agg #[.int .u8 c, .slice A n n'])) (hc : ¬ c = q) (g k cp : Nat) (Ls : List (List UInt8)) (hL : LsAt w g k cp Ls) (hk : k ≤ 100) :
    Calls Tryd.prog 49 #[.agg #[.int .u8 c, .slice A n n'], .int .u8 q, .slice (some ⟨g, 0, none⟩) k cp] w (SPt w (insT Ls t.stx)) := by
  have hcq : (c == q) = false := beq_false_of_ne hc
  have HS := Lib.hid (hS _ c A n n' (ht.alloc (o := .cells #[.int .u8 c, .slice A n n'] 35)))
  obtain ⟨x, ex⟩ : ∃ x, x = t.stx := ⟨_, rfl⟩
  rw [← ex] at HS ⊢
  have HL := Lib.hid hL
  have hk1 := hL.1
  have hk2 := hL.2.1
  have hgl := hL.2.2.2.1
  have HI : Hid (insT Ls x = Ls.take (insK x Ls k) ++ x :: Ls.drop (insK x Ls k)) := Lib.hid (by unfold insT; rw [hk1])
  have HIK := Lib.hid (insK_le x Ls k)
  have HK1 := Lib.hid hk1
  clear hS ht hc ex hL hk1
  go_enter Tryd.func49, Tryd.ntmps49
  go_wp2_with fail
  refine HS.out.mono ?_
  rintro e w1 ⟨rfl, b1⟩
  have L1 := Lib.hid ((HL.out.below (bl_alloc (Below.refl _ _))).below b1)
  have BW := Lib.hid (below_alloc_then b1)
  have SW1 : Hid (w.heap.size + 1 ≤ w1.heap.size) := Lib.hid (by have := b1.size; simp at this; omega)
  clear b1 HS
  go_wp2
  go_loop [8] (fun i => ∃ p : Nat, p ≤ k ∧ i = .int .i64 p ∧ Hid (insK x Ls p = insK x Ls k)) (fun i => (intOf i).toNat)
  case atStart => exact ⟨k, Nat.le_refl _, rfl, Lib.hid rfl⟩
  case round =>
    obtain ⟨p, hp, rfl, hi⟩ := hrel
    by_cases hup : ∃ r, p = r + 1 ∧ x < Ls.getD r []
    · obtain ⟨r, rfl, hlt⟩ := hup
      have hcr : w1.cell? ⟨g, r, none⟩ = some (.string ⟨(Ls.getD r []).toArray⟩) := L1.out.2.2.2.2 r (by omega)
      have hd0 : decide ((0 : Int) < ((r + 1 : Nat) : Int)) = true := decide_eq_true (by omega)
      have hs1 : wrap64 (((r + 1 : Nat) : Int) - 1) = (r : Int) := by unfold wrap64; omega
      have hri : (0 : Int) ≤ (r : Int) ∧ (r : Int) < (k : Int) := by omega
      have hin : insK x Ls (r + 1) = insK x Ls r := by
        show (if x < (Ls[r]?.getD []) then _ else _) = _
        rw [← List.getD_eq_getElem?_getD, if_pos hlt]
      obtain ⟨y, ey⟩ : ∃ y, y = Ls.getD r [] := ⟨_, rfl⟩
      rw [← ey] at hcr hlt
      have hlb : Op.bytesLess x y = true := by rw [bytesLess_eq]; exact decide_eq_true hlt
      have HIN := Lib.hid (hin.symm.trans hi.out)
      clear ey hlt hin
      go_wp2
      go_round
      case rel => exact ⟨r, by omega, rfl, HIN⟩
      case measure => simp [intOf]
    · have hz : insK x Ls k = p := by
        rw [← hi.out]
        cases p with
        | zero => rfl
        | succ r =>
          show (if x < (Ls[r]?.getD []) then _ else _) = _
          rw [← List.getD_eq_getElem?_getD, if_neg fun h => hup ⟨r, rfl, h⟩]
      have HZ := Lib.hid hz
      have hpk := hp
      by_cases hp0 : p = 0
      · have hd0 : decide (0 < p) = false := decide_eq_false (by omega)
        clear hup hz hi hp0
        obtain ⟨z, ez⟩ : ∃ z, z = p := ⟨_, rfl⟩
        rw [← ez] at HZ hp hd0 hpk ⊢
        clear ez hpk
        go_wp2
        have hw1l : w.heap.size < w1.heap.size := Nat.lt_of_lt_of_le (by omega) SW1.out
        have hgl1 := L1.out.2.2.2.1
        obtain ⟨N8, eN8⟩ : ∃ N8, N8 = w1.heap.size := ⟨_, rfl⟩
        have hVs : w1.drew.heap.size = w1.heap.size := rfl
        have HCT : Hid (∀ W, Below N8 w1.drew W → ∀ j, j < ((Ls.take z).map str).length → W.cell? ⟨g, 0 + j, none⟩ = ((Ls.take z).map str)[j]?) := Lib.hid (fun W hW j hj => by
          rw [List.length_map, List.length_take] at hj
          have hk1 := HK1.out
          rw [Nat.zero_add, hW.cell (p := ⟨g, j, none⟩) (by show g < N8; omega), show w1.drew.cell? ⟨g, j, none⟩ = w1.cell? ⟨g, j, none⟩ from rfl, L1.out.2.2.2.2 j (by omega), List.getElem?_map, List.getElem?_take_of_lt (by omega)]
          have hjl : j < Ls.length := by omega
          simp [hjl, str])
        obtain ⟨oq, eoq⟩ : ∃ oq, oq = if cp = z then 0 else z := ⟨_, rfl⟩
        have HIF : Hid (∀ l c', Value.slice (if cp = z then some ⟨g, 0, none⟩ else some ⟨g, z, none⟩) l c' = .slice (some ⟨g, oq, none⟩) l c') := Lib.hid (fun l c' => by rw [eoq]; split <;> rfl)
        have HCD : Hid (∀ W, Below N8 w1.drew W → ∀ j, j < ((Ls.drop z).map str).length → W.cell? ⟨g, oq + j, none⟩ = ((Ls.drop z).map str)[j]?) := Lib.hid (fun W hW j hj => by
          rw [List.length_map, List.length_drop] at hj
          have hk1 := HK1.out
          have hoq : oq = z := by rw [eoq, if_neg (by omega)]
          rw [hoq, hW.cell (p := ⟨g, z + j, none⟩) (by show g < N8; omega), show w1.drew.cell? ⟨g, z + j, none⟩ = w1.cell? ⟨g, z + j, none⟩ from rfl, L1.out.2.2.2.2 (z + j) (by omega), List.getElem?_map, List.getElem?_drop]
          have hjl : z + j < Ls.length := by omega
          simp [hjl, str])
        have HTQ : Hid (((Ls.take z).map str).length = z) := Lib.hid (by have := HK1.out; rw [List.length_map, List.length_take]; omega)
        have HDQ : Hid (((Ls.drop z).map str).length = k - z) := Lib.hid (by have := HK1.out; rw [List.length_map, List.length_drop]; omega)
        obtain ⟨TK, eTK⟩ : ∃ TK, TK = (Ls.take z).map str := ⟨_, rfl⟩
        obtain ⟨DP, eDP⟩ : ∃ DP, DP = (Ls.drop z).map str := ⟨_, rfl⟩
        have HTO : Hid (∀ u ∈ TK, u.oneCell' = true) := Lib.hid (by rw [eTK]; exact str_one _)
        have HDO : Hid (∀ u ∈ DP, u.oneCell' = true) := Lib.hid (by rw [eDP]; exact str_one _)
        rw [← eTK] at HCT HTQ
        rw [← eDP] at HCD HDQ
        have ETK := Lib.hid eTK
        have EDP := Lib.hid eDP
        have RE : ∀ U : World, N8 ≤ U.heap.size → Rw 9 (U.alloc (.cells #[] 9)) N8 (.slice (some ⟨U.heap.size, 0, none⟩) 0 0) [] := fun U hU =>
          Rw.low (World.ownsRow_lit (base := U.heap.size) (e := 9) (size := 1) U #[] 0 (Nat.le_refl _) (by unfold maxLen; omega) rfl) hU
        have hN : N8 ≤ w1.drew.heap.size := by rw [hVs]; omega
        have hNx : ∀ o, N8 ≤ (w1.drew.alloc o).heap.size := fun o => by rw [World.size_alloc, hVs]; omega
        have RA := Lib.hid (RE w1.drew hN)
        have RB := Lib.hid ((RE w1.drew hN).below (bl_alloc (o := .cells #[.string ⟨x.toArray⟩] 9) (Below.refl _ _)))
        have rc := RE (w1.drew.alloc (.cells #[.string ⟨x.toArray⟩] 9)) (hNx _)
        rw [World.size_alloc] at rc
        have RC := Lib.hid rc
        have BA := Lib.hid ((Below.refl N8 w1.drew).alloc hN (.cells #[] 9))
        have BB := Lib.hid (((Below.refl N8 w1.drew).alloc hN (.cells #[] 9)).alloc (hNx _) (.cells #[.string ⟨x.toArray⟩] 9))
        have BC := Lib.hid (((Below.refl N8 w1.drew).alloc hN (.cells #[.string ⟨x.toArray⟩] 9)).alloc (hNx _) (.cells #[] 9))
        have xb := Boxed.new (w1.drew.alloc (.cells #[] 9)) 9 (.string ⟨x.toArray⟩)
        rw [World.size_alloc] at xb
        have XB := Lib.hid xb
        have XC := Lib.hid ((Boxed.new w1.drew 9 (.string ⟨x.toArray⟩)).alloc (.cells #[] 9))
        have NEB : some (w1.drew.heap.size + 1) ≠ (Value.slice (some ⟨w1.heap.size, 0, none⟩) 0 0).ownBlock := fun e => by
          have e2 : some (w1.heap.size + 1) = some w1.heap.size := e
          injection e2 with e3
          omega
        have NEC : some w1.drew.heap.size ≠ (Value.slice (some ⟨w1.heap.size + 1, 0, none⟩) 0 0).ownBlock := fun e => by
          have e2 : some w1.heap.size = some (w1.heap.size + 1) := e
          injection e2 with e3
          omega
        have HNL : Hid (N8 ≤ w1.drew.heap.size) := Lib.hid hN
        have HN8 := Lib.hid eN8
        have hq1 : (0 : Int) ≤ (z : Int) ∧ (z : Int) ≤ (k : Int) ∧ (z : Int) ≤ (cp : Int) ∧ (k : Int) ≤ (cp : Int) := by omega
        clear eoq eN8 RE hVs xb rc eTK eDP hN hNx hw1l hgl1
        go_region_held_law (fun w' => True) (trivial) (first
          | (refine step_rw Tryd.underlying71 infoStr rfl rfl (.tmp 43) (.tmp 46) rfl (w1.drew.alloc (.cells #[] 9)) N8 (.slice (some ⟨w1.heap.size, 0, none⟩) 0 0) [] TK g 0 z _ rfl HTQ.out rfl RA.out (HCT.out _ BA.out) HTO.out (Nat.le_trans HNL.out BA.out.size) (by rw [List.length_nil, HTQ.out]; omega) ?_
             intro v1 w2 hv1 hb1 hg1
             rw [List.nil_append] at hv1
             have R1 := Lib.hid hv1.out
             have B1 := Lib.hid (BA.out.trans hb1.out)
             clear hv1 hb1 hg1)
          | (refine step_rw Tryd.underlying71 infoStr rfl rfl (.tmp 43) (.tmp 46) rfl ((w1.drew.alloc (.cells #[] 9)).alloc (.cells #[.string ⟨x.toArray⟩] 9)) N8 (.slice (some ⟨w1.heap.size, 0, none⟩) 0 0) [] TK g 0 z _ rfl HTQ.out rfl RB.out (HCT.out _ BB.out) HTO.out (Nat.le_trans HNL.out BB.out.size) (by rw [List.length_nil, HTQ.out]; omega) ?_
             intro v1 w2 hv1 hb1 hg1
             rw [List.nil_append] at hv1
             have R1 := Lib.hid hv1.out
             have B1 := Lib.hid (BB.out.trans hb1.out)
             have H40 := Lib.hid ((XB.out.kept hg1.out NEB).cell)
             clear hv1 hb1 hg1)
          | (refine step_rw Tryd.underlying71 infoStr rfl rfl (.tmp 43) (.tmp 46) rfl ((w1.drew.alloc (.cells #[.string ⟨x.toArray⟩] 9)).alloc (.cells #[] 9)) N8 (.slice (some ⟨w1.heap.size + 1, 0, none⟩) 0 0) [] TK g 0 z _ rfl HTQ.out rfl RC.out (HCT.out _ BC.out) HTO.out (Nat.le_trans HNL.out BC.out.size) (by rw [List.length_nil, HTQ.out]; omega) ?_
             intro v1 w2 hv1 hb1 hg1
             rw [List.nil_append] at hv1
             have R1 := Lib.hid hv1.out
             have B1 := Lib.hid (BC.out.trans hb1.out)
             have H40 := Lib.hid ((XC.out.kept hg1.out NEC).cell)
             clear hv1 hb1 hg1)
          | (refine step_rw Tryd.underlying71 infoStr rfl rfl (.tmp 47) (.tmp 49) rfl (w2.alloc (.cells #[.string ⟨x.toArray⟩] 9)) N8 v1 TK [.string ⟨x.toArray⟩] w2.heap.size 0 1 1 rfl rfl rfl (R1.out.below (bl_alloc (Below.refl _ _))) (one_str (Boxed.new w2 9 (.string ⟨x.toArray⟩)).cell) (by simp [Value.oneCell']) (Nat.le_trans HNL.out (B1.out.alloc (Nat.le_trans HNL.out B1.out.size) _).size) (by rw [HTQ.out, List.length_singleton]; omega) ?_
             intro v2 w3 hv2 hb2 hg2
             have R2 := Lib.hid hv2.out
             have B2 := Lib.hid (B1.out.trans (((Below.refl N8 w2).alloc (Nat.le_trans HNL.out B1.out.size) _).trans hb2.out))
             clear hv2 hb2 hg2)
          | (refine step_rw Tryd.underlying71 infoStr rfl rfl (.tmp 47) (.tmp 49) rfl w2 N8 v1 TK [.string ⟨x.toArray⟩] (w1.heap.size + 1) 0 1 1 rfl rfl rfl R1.out (one_str H40.out) (by simp [Value.oneCell']) (Nat.le_trans HNL.out B1.out.size) (by rw [HTQ.out, List.length_singleton]; omega) ?_
             intro v2 w3 hv2 hb2 hg2
             have R2 := Lib.hid hv2.out
             have B2 := Lib.hid (B1.out.trans (hb2.out))
             clear hv2 hb2 hg2)
          | (refine step_rw Tryd.underlying71 infoStr rfl rfl (.tmp 47) (.tmp 49) rfl w2 N8 v1 TK [.string ⟨x.toArray⟩] (w1.heap.size) 0 1 1 rfl rfl rfl R1.out (one_str H40.out) (by simp [Value.oneCell']) (Nat.le_trans HNL.out B1.out.size) (by rw [HTQ.out, List.length_singleton]; omega) ?_
             intro v2 w3 hv2 hb2 hg2
             have R2 := Lib.hid hv2.out
             have B2 := Lib.hid (B1.out.trans (hb2.out))
             clear hv2 hb2 hg2)
          | (refine step_rw Tryd.underlying71 infoStr rfl rfl (.tmp 50) (.tmp 53) rfl w3 N8 v2 (TK ++ [.string ⟨x.toArray⟩]) DP g oq (k - z) _ rfl HDQ.out (HIF.out _ _) R2.out (HCD.out _ B2.out) HDO.out (Nat.le_trans HNL.out B2.out.size) (by rw [List.length_append, HTQ.out, HDQ.out, List.length_singleton]; omega) ?_
             intro v3 w4 hv3 hb3 hg3
             have R3 := Lib.hid hv3.out
             have B3 := Lib.hid (B2.out.trans hb3.out)
             clear hv3 hb3 hg3))
        all_goals
          obtain ⟨g9, c9, ev9, h91, h92, h93, h94, h95⟩ := R3.out.form (by simp)
          subst ev9
          have hfin : (TK ++ [Value.string ⟨x.toArray⟩]) ++ DP = (insT Ls x).map str := by rw [HI.out, HZ.out, List.map_append, List.map_cons, ETK.out, EDP.out]; simp [str]
          have hfl : TK.length + (DP.length + 1) = (insT Ls x).length := by have := congrArg List.length hfin; simp at this; omega
          have hB3 : Below w1.heap.size w1 w4 := (Below.refl _ _).drew.trans (by rw [← HN8.out]; exact B3.out)
          have hLs : LsAt w4 g9 (TK.length + (DP.length + 1)) c9 (insT Ls x) := ⟨hfl, by simp at h93; omega, h94, h92, fun j hj => by
            rw [h95 j (by simp; omega), hfin, List.getElem?_map]
            have hjl : j < (insT Ls x).length := by omega
            simp [hjl, str]⟩
          have HLs := Lib.hid hLs
          have HB3 := Lib.hid hB3
          clear hfin hfl hB3 hLs h91 h92 h93 h94 h95 R3
          go_wp2
          all_goals go_ret
          all_goals exact ⟨g9, TK.length + (DP.length + 1), c9, rfl, HLs.out, bl_then BW.out HB3.out⟩
      · obtain ⟨r, rfl⟩ : ∃ r, p = r + 1 := ⟨p - 1, by omega⟩
        have hcr : w1.cell? ⟨g, r, none⟩ = some (.string ⟨(Ls.getD r []).toArray⟩) := L1.out.2.2.2.2 r (by omega)
        have hd0 : decide ((0 : Int) < ((r + 1 : Nat) : Int)) = true := decide_eq_true (by omega)
        have hs1 : wrap64 (((r + 1 : Nat) : Int) - 1) = (r : Int) := by unfold wrap64; omega
        have hri : (0 : Int) ≤ (r : Int) ∧ (r : Int) < (k : Int) := by omega
        obtain ⟨y, ey⟩ : ∃ y, y = Ls.getD r [] := ⟨_, rfl⟩
        have hlt : ¬ x < Ls.getD r [] := fun h => hup ⟨r, rfl, h⟩
        rw [← ey] at hcr hlt
        have hlb : Op.bytesLess x y = false := by rw [bytesLess_eq]; exact decide_eq_false hlt
        clear ey hlt hup hz hi hp0 hpk
        go_wp2
        obtain ⟨z, ez⟩ : ∃ z, z = r + 1 := ⟨_, rfl⟩
        have ez2 : (r : Int) + 1 = (z : Int) := by omega
        rw [← ez] at HZ hp
        rw [ez2]
        clear ez ez2 hd0 hs1 hri hcr hlb
        have hw1l : w.heap.size < w1.heap.size := Nat.lt_of_lt_of_le (by omega) SW1.out
        have hgl1 := L1.out.2.2.2.1
        obtain ⟨N8, eN8⟩ : ∃ N8, N8 = w1.heap.size := ⟨_, rfl⟩
        have hVs : w1.drew.heap.size = w1.heap.size := rfl
        have HCT : Hid (∀ W, Below N8 w1.drew W → ∀ j, j < ((Ls.take z).map str).length → W.cell? ⟨g, 0 + j, none⟩ = ((Ls.take z).map str)[j]?) := Lib.hid (fun W hW j hj => by
          rw [List.length_map, List.length_take] at hj
          have hk1 := HK1.out
          rw [Nat.zero_add, hW.cell (p := ⟨g, j, none⟩) (by show g < N8; omega), show w1.drew.cell? ⟨g, j, none⟩ = w1.cell? ⟨g, j, none⟩ from rfl, L1.out.2.2.2.2 j (by omega), List.getElem?_map, List.getElem?_take_of_lt (by omega)]
          have hjl : j < Ls.length := by omega
          simp [hjl, str])
        obtain ⟨oq, eoq⟩ : ∃ oq, oq = if cp = z then 0 else z := ⟨_, rfl⟩
        have HIF : Hid (∀ l c', Value.slice (if cp = z then some ⟨g, 0, none⟩ else some ⟨g, z, none⟩) l c' = .slice (some ⟨g, oq, none⟩) l c') := Lib.hid (fun l c' => by rw [eoq]; split <;> rfl)
        have HCD : Hid (∀ W, Below N8 w1.drew W → ∀ j, j < ((Ls.drop z).map str).length → W.cell? ⟨g, oq + j, none⟩ = ((Ls.drop z).map str)[j]?) := Lib.hid (fun W hW j hj => by
          rw [List.length_map, List.length_drop] at hj
          have hk1 := HK1.out
          have hoq : oq = z := by rw [eoq, if_neg (by omega)]
          rw [hoq, hW.cell (p := ⟨g, z + j, none⟩) (by show g < N8; omega), show w1.drew.cell? ⟨g, z + j, none⟩ = w1.cell? ⟨g, z + j, none⟩ from rfl, L1.out.2.2.2.2 (z + j) (by omega), List.getElem?_map, List.getElem?_drop]
          have hjl : z + j < Ls.length := by omega
          simp [hjl, str])
        have HTQ : Hid (((Ls.take z).map str).length = z) := Lib.hid (by have := HK1.out; rw [List.length_map, List.length_take]; omega)
        have HDQ : Hid (((Ls.drop z).map str).length = k - z) := Lib.hid (by have := HK1.out; rw [List.length_map, List.length_drop]; omega)
        obtain ⟨TK, eTK⟩ : ∃ TK, TK = (Ls.take z).map str := ⟨_, rfl⟩
        obtain ⟨DP, eDP⟩ : ∃ DP, DP = (Ls.drop z).map str := ⟨_, rfl⟩
        have HTO : Hid (∀ u ∈ TK, u.oneCell' = true) := Lib.hid (by rw [eTK]; exact str_one _)
        have HDO : Hid (∀ u ∈ DP, u.oneCell' = true) := Lib.hid (by rw [eDP]; exact str_one _)
        rw [← eTK] at HCT HTQ
        rw [← eDP] at HCD HDQ
        have ETK := Lib.hid eTK
        have EDP := Lib.hid eDP
        have RE : ∀ U : World, N8 ≤ U.heap.size → Rw 9 (U.alloc (.cells #[] 9)) N8 (.slice (some ⟨U.heap.size, 0, none⟩) 0 0) [] := fun U hU =>
          Rw.low (World.ownsRow_lit (base := U.heap.size) (e := 9) (size := 1) U #[] 0 (Nat.le_refl _) (by unfold maxLen; omega) rfl) hU
        have hN : N8 ≤ w1.drew.heap.size := by rw [hVs]; omega
        have hNx : ∀ o, N8 ≤ (w1.drew.alloc o).heap.size := fun o => by rw [World.size_alloc, hVs]; omega
        have RA := Lib.hid (RE w1.drew hN)
        have RB := Lib.hid ((RE w1.drew hN).below (bl_alloc (o := .cells #[.string ⟨x.toArray⟩] 9) (Below.refl _ _)))
        have rc := RE (w1.drew.alloc (.cells #[.string ⟨x.toArray⟩] 9)) (hNx _)
        rw [World.size_alloc] at rc
        have RC := Lib.hid rc
        have BA := Lib.hid ((Below.refl N8 w1.drew).alloc hN (.cells #[] 9))
        have BB := Lib.hid (((Below.refl N8 w1.drew).alloc hN (.cells #[] 9)).alloc (hNx _) (.cells #[.string ⟨x.toArray⟩] 9))
        have BC := Lib.hid (((Below.refl N8 w1.drew).alloc hN (.cells #[.string ⟨x.toArray⟩] 9)).alloc (hNx _) (.cells #[] 9))
        have xb := Boxed.new (w1.drew.alloc (.cells #[] 9)) 9 (.string ⟨x.toArray⟩)
        rw [World.size_alloc] at xb
        have XB := Lib.hid xb
        have XC := Lib.hid ((Boxed.new w1.drew 9 (.string ⟨x.toArray⟩)).alloc (.cells #[] 9))
        have NEB : some (w1.drew.heap.size + 1) ≠ (Value.slice (some ⟨w1.heap.size, 0, none⟩) 0 0).ownBlock := fun e => by
          have e2 : some (w1.heap.size + 1) = some w1.heap.size := e
          injection e2 with e3
          omega
        have NEC : some w1.drew.heap.size ≠ (Value.slice (some ⟨w1.heap.size + 1, 0, none⟩) 0 0).ownBlock := fun e => by
          have e2 : some w1.heap.size = some (w1.heap.size + 1) := e
          injection e2 with e3
          omega
        have HNL : Hid (N8 ≤ w1.drew.heap.size) := Lib.hid hN
        have HN8 := Lib.hid eN8
        have hq1 : (0 : Int) ≤ (z : Int) ∧ (z : Int) ≤ (k : Int) ∧ (z : Int) ≤ (cp : Int) ∧ (k : Int) ≤ (cp : Int) := by omega
        clear eoq eN8 RE hVs xb rc eTK eDP hN hNx hw1l hgl1
        go_region_held_law (fun w' => True) (trivial) (first
          | (refine step_rw Tryd.underlying71 infoStr rfl rfl (.tmp 43) (.tmp 46) rfl (w1.drew.alloc (.cells #[] 9)) N8 (.slice (some ⟨w1.heap.size, 0, none⟩) 0 0) [] TK g 0 z _ rfl HTQ.out rfl RA.out (HCT.out _ BA.out) HTO.out (Nat.le_trans HNL.out BA.out.size) (by rw [List.length_nil, HTQ.out]; omega) ?_
             intro v1 w2 hv1 hb1 hg1
             rw [List.nil_append] at hv1
             have R1 := Lib.hid hv1.out
             have B1 := Lib.hid (BA.out.trans hb1.out)
             clear hv1 hb1 hg1)
          | (refine step_rw Tryd.underlying71 infoStr rfl rfl (.tmp 43) (.tmp 46) rfl ((w1.drew.alloc (.cells #[] 9)).alloc (.cells #[.string ⟨x.toArray⟩] 9)) N8 (.slice (some ⟨w1.heap.size, 0, none⟩) 0 0) [] TK g 0 z _ rfl HTQ.out rfl RB.out (HCT.out _ BB.out) HTO.out (Nat.le_trans HNL.out BB.out.size) (by rw [List.length_nil, HTQ.out]; omega) ?_
             intro v1 w2 hv1 hb1 hg1
             rw [List.nil_append] at hv1
             have R1 := Lib.hid hv1.out
             have B1 := Lib.hid (BB.out.trans hb1.out)
             have H40 := Lib.hid ((XB.out.kept hg1.out NEB).cell)
             clear hv1 hb1 hg1)
          | (refine step_rw Tryd.underlying71 infoStr rfl rfl (.tmp 43) (.tmp 46) rfl ((w1.drew.alloc (.cells #[.string ⟨x.toArray⟩] 9)).alloc (.cells #[] 9)) N8 (.slice (some ⟨w1.heap.size + 1, 0, none⟩) 0 0) [] TK g 0 z _ rfl HTQ.out rfl RC.out (HCT.out _ BC.out) HTO.out (Nat.le_trans HNL.out BC.out.size) (by rw [List.length_nil, HTQ.out]; omega) ?_
             intro v1 w2 hv1 hb1 hg1
             rw [List.nil_append] at hv1
             have R1 := Lib.hid hv1.out
             have B1 := Lib.hid (BC.out.trans hb1.out)
             have H40 := Lib.hid ((XC.out.kept hg1.out NEC).cell)
             clear hv1 hb1 hg1)
          | (refine step_rw Tryd.underlying71 infoStr rfl rfl (.tmp 47) (.tmp 49) rfl (w2.alloc (.cells #[.string ⟨x.toArray⟩] 9)) N8 v1 TK [.string ⟨x.toArray⟩] w2.heap.size 0 1 1 rfl rfl rfl (R1.out.below (bl_alloc (Below.refl _ _))) (one_str (Boxed.new w2 9 (.string ⟨x.toArray⟩)).cell) (by simp [Value.oneCell']) (Nat.le_trans HNL.out (B1.out.alloc (Nat.le_trans HNL.out B1.out.size) _).size) (by rw [HTQ.out, List.length_singleton]; omega) ?_
             intro v2 w3 hv2 hb2 hg2
             have R2 := Lib.hid hv2.out
             have B2 := Lib.hid (B1.out.trans (((Below.refl N8 w2).alloc (Nat.le_trans HNL.out B1.out.size) _).trans hb2.out))
             clear hv2 hb2 hg2)
          | (refine step_rw Tryd.underlying71 infoStr rfl rfl (.tmp 47) (.tmp 49) rfl w2 N8 v1 TK [.string ⟨x.toArray⟩] (w1.heap.size + 1) 0 1 1 rfl rfl rfl R1.out (one_str H40.out) (by simp [Value.oneCell']) (Nat.le_trans HNL.out B1.out.size) (by rw [HTQ.out, List.length_singleton]; omega) ?_
             intro v2 w3 hv2 hb2 hg2
             have R2 := Lib.hid hv2.out
             have B2 := Lib.hid (B1.out.trans (hb2.out))
             clear hv2 hb2 hg2)
          | (refine step_rw Tryd.underlying71 infoStr rfl rfl (.tmp 47) (.tmp 49) rfl w2 N8 v1 TK [.string ⟨x.toArray⟩] (w1.heap.size) 0 1 1 rfl rfl rfl R1.out (one_str H40.out) (by simp [Value.oneCell']) (Nat.le_trans HNL.out B1.out.size) (by rw [HTQ.out, List.length_singleton]; omega) ?_
             intro v2 w3 hv2 hb2 hg2
             have R2 := Lib.hid hv2.out
             have B2 := Lib.hid (B1.out.trans (hb2.out))
             clear hv2 hb2 hg2)
          | (refine step_rw Tryd.underlying71 infoStr rfl rfl (.tmp 50) (.tmp 53) rfl w3 N8 v2 (TK ++ [.string ⟨x.toArray⟩]) DP g oq (k - z) _ rfl HDQ.out (HIF.out _ _) R2.out (HCD.out _ B2.out) HDO.out (Nat.le_trans HNL.out B2.out.size) (by rw [List.length_append, HTQ.out, HDQ.out, List.length_singleton]; omega) ?_
             intro v3 w4 hv3 hb3 hg3
             have R3 := Lib.hid hv3.out
             have B3 := Lib.hid (B2.out.trans hb3.out)
             clear hv3 hb3 hg3))
        all_goals
          obtain ⟨g9, c9, ev9, h91, h92, h93, h94, h95⟩ := R3.out.form (by simp)
          subst ev9
          have hfin : (TK ++ [Value.string ⟨x.toArray⟩]) ++ DP = (insT Ls x).map str := by rw [HI.out, HZ.out, List.map_append, List.map_cons, ETK.out, EDP.out]; simp [str]
          have hfl : TK.length + (DP.length + 1) = (insT Ls x).length := by have := congrArg List.length hfin; simp at this; omega
          have hB3 : Below w1.heap.size w1 w4 := (Below.refl _ _).drew.trans (by rw [← HN8.out]; exact B3.out)
          have hLs : LsAt w4 g9 (TK.length + (DP.length + 1)) c9 (insT Ls x) := ⟨hfl, by simp at h93; omega, h94, h92, fun j hj => by
            rw [h95 j (by simp; omega), hfin, List.getElem?_map]
            have hjl : j < (insT Ls x).length := by omega
            simp [hjl, str]⟩
          have HLs := Lib.hid hLs
          have HB3 := Lib.hid hB3
          clear hfin hfl hB3 hLs h91 h92 h93 h94 h95 R3
          go_wp2
          all_goals go_ret
          all_goals exact ⟨g9, TK.length + (DP.length + 1), c9, rfl, HLs.out, bl_then BW.out HB3.out⟩

end Go.Proofs.YtkninejoliclcaaDoor
