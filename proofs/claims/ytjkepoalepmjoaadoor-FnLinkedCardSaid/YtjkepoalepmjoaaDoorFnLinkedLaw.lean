/- The law FnLinked returns true and leaves all that was there as it was, whatever list is drawn. -/
import Derived.Test.YtjkepoalepmjoaaDoorBaseD
import Derived.Test.YtjkepoalepmjoaaDoorBaseM
import Derived.Test.YtjkepoalepmjoaaDoorBaseN
import Derived.Test.YtjkepoalepmjoaaDoorBaseA
import Derived.Test.YtjkepoalepmjoaaDoorPromNamed
namespace Go.Proofs.YtjkepoalepmjoaaDoor
open Go Go.RowKit
set_option linter.unusedVariables false
set_option maxRecDepth 100000

set_option maxHeartbeats 800000 in
theorem fnLinked_long (A : Option Addr) (n c : Nat) (w : World) (h : 1048576 < n) (hm : n ≤ maxLen) :
    Calls Tryd.prog 12 #[.slice A n c] w (Fine w) := by
  unfold maxLen at hm
  have hd : decide ((1048576 : Int) < (n : Int)) = true := by simp; omega
  go_enter Tryd.func12, Tryd.ntmps12
  go_wp2
  go_ret
  exact ⟨rfl, Below.refl _ _⟩

set_option maxHeartbeats 4000000 in
theorem fnLinked_short (A : Option Addr) (n c : Nat) (w : World) (hs : n ≤ 1048576) (hT : Tab w)
    (hD : Calls Tryd.prog 44 #[.slice A n c] w (Drew6 w)) :
    Calls Tryd.prog 12 #[.slice A n c] w (Fine w) := by
  have h2 := hT.lt
  have hd : decide ((1048576 : Int) < (n : Int)) = false := by simp; omega
  have HD := Lib.hid hD
  have HT := Lib.hid hT
  clear hD hT hs
  go_enter Tryd.func12, Tryd.ntmps12
  go_wp2_with fail
  refine HD.out.mono ?_
  rintro e w1 ⟨v, L, rfl, l1, l6, r, b1⟩
  by_cases h : IsLinked L
  · have hg := h.1
    have HC := Lib.hid (fun B v w => implLinked_any B v L true ⟨fun _ => h, fun _ => rfl⟩ w)
    have HS := Lib.hid (fun B v w => specLinked_any B v L true ⟨fun _ => h, fun _ => rfl⟩ w)
    have HE := Lib.hid (fun B v w => implGraphEdges_yes B v L hg w)
    have hrv := rv_names ⟨L.length, by omega⟩
    have hri := rv_isNames ⟨L.length, by omega⟩
    dsimp only at hrv hri
    have HN := Lib.hid (fun B B' v v' w => implGNamed_both B B' v v' L (ints (rv L.length L.length)) hg hri w)
    have hNM : ints (mrun L L.length (nm (ints (rv L.length L.length))) (grid L.length L.length)) = namedL L (rv L.length L.length) := rfl
    rw [hNM] at HN
    have HL2 := Lib.hid (fun B v w => implLinked_any B v (namedL L (rv L.length L.length)) true ⟨fun _ => linked_named h hrv, fun _ => rfl⟩ w)
    have hen := enough_all hg h
    have hxl := edgesN_le L
    obtain ⟨M, eM⟩ : ∃ M, M = namedL L (rv L.length L.length) := ⟨_, rfl⟩
    rw [← eM] at HN HL2
    obtain ⟨x, ex⟩ : ∃ x, x = edgesN L := ⟨_, rfl⟩
    rw [← ex] at HE hen hxl
    clear h hg hrv hri hNM eM ex
    go_wp2_with fail
    refine (HC.out _ v _ r (HT.out.below b1 (by omega))).mono ?_
    rintro e w2 ⟨rfl, bb2⟩
    have b2 := b1.trans (bb2.mono b1.size)
    have r_2 := r.below bb2
    go_wp2_with fail
    refine (HS.out _ v _ r_2).mono ?_
    rintro e w3 ⟨rfl, d3, rfl⟩
    have b3 := below_drewN b2 d3
    have r_3 := r_2.drewN d3
    go_wp2_with fail
    refine (HE.out _ v _ r_3 (HT.out.below b3 (by omega))).mono ?_
    rintro e w4 ⟨rfl, bb4⟩
    have b4 := b3.trans (bb4.mono b3.size)
    have r_4 := r_3.below bb4
    obtain ⟨A1, c1, rfl, _⟩ := r_4.seen
    have R := Lib.hid r_4
    have BB := Lib.hid b4
    obtain ⟨m, em⟩ : ∃ m, m = L.length := ⟨_, rfl⟩
    rw [← em] at HN hen l1 l6 R ⊢
    have EM := Lib.hid em
    obtain ⟨W0, eW0⟩ : ∃ W0, W0 = w4 := ⟨_, rfl⟩
    rw [← eW0] at R BB ⊢
    have R0 : Hid (Row (W0.alloc (.cells #[] 3)) W0.heap.size (.slice (some ⟨W0.heap.size, 0, none⟩) 0 0) (ints (rv m 0))) := Lib.hid (World.ownsRow_lit (base := W0.heap.size) (e := 3) (size := 1) W0 #[] 0 (Nat.le_refl _) (by unfold maxLen; omega) rfl)
    have B0 := Lib.hid ((Below.refl W0.heap.size W0).alloc (Nat.le_refl _) (.cells #[] 3))
    clear eW0 em
    go_wp2
    go_loopw [8, 9] (fun o i wr => ∃ k : Nat, k ≤ m ∧ i = .int .i64 ((m : Int) - 1 - (k : Int)) ∧ Hid (Row wr W0.heap.size o (ints (rv m k))) ∧ Hid (Below W0.heap.size W0 wr)) (fun _ i _ => (intOf i + 1).toNat)
    case atStart => exact ⟨0, Nat.zero_le _, by simp, R0, B0⟩
    case round =>
      clear R0 B0
      obtain ⟨k, hk, rfl, hr, hb⟩ := hrel
      by_cases hlt : k < m
      · obtain ⟨z, hz⟩ : ∃ z : Nat, (m : Int) - 1 - (k : Int) = (z : Int) := ⟨m - 1 - k, by omega⟩
        have hst : ints (rv m (k + 1)) = ints (rv m k) ++ [(z : Int)] := by rw [rv_succ, show m - 1 - k = z by omega]; simp [ints]
        have HST := Lib.hid hst
        have HL := Lib.hid (show (ints (rv m k)).length ≤ 100000 by rw [ints_length, rv_length]; omega)
        have hz6 : z ≤ 6 := by omega
        have HZ := Lib.hid hz
        rw [hz]
        clear hst hz
        go_wp2_with (at_builtin; refine append_one rfl (.tmp 44) (.tmp 46) rfl wr W0.heap.size u8 _ (z : Int) rfl rfl hr.out hb.out.size HL.out ?_; intro v2 w2 hr2 hb2)
        exact ⟨⟨k + 1, by omega, congrArg (Value.int .i64) (by have := HZ.out; omega), Lib.hid (by rw [HST.out]; exact hr2.out), Lib.hid (hb.out.trans hb2.out)⟩, by first | (simp [intOf]; done) | (simp [intOf]; omega)⟩
      · have hkm : k = m := by omega
        subst hkm
        have hneg : (k : Int) - 1 - (k : Int) = -1 := by omega
        rw [hneg]
        clear hneg
        have bb0 := BB.out.trans (hb.out.mono BB.out.size)
        have rg := R.out.below hb.out
        have rn := hr.out
        have hdx : decide ((k : Int) - 1 ≤ (x : Int)) = true := by simp; omega
        go_wp2_with fail
        refine (HN.out _ _ _ _ _ rg rn (HT.out.below bb0 (by omega))).mono ?_
        rintro e w5 ⟨vx, rfl, rx0, bb5⟩
        have b5 := bb0.trans (bb5.mono bb0.size)
        have r_5 := rg.below bb5
        have rn_5 := rn.below bb5
        go_wp2_with fail
        refine (HL2.out _ vx _ rx0 (HT.out.below b5 (by omega))).mono ?_
        rintro e w6 ⟨rfl, bb6⟩
        have b6 := b5.trans (bb6.mono b5.size)
        have r_6 := r_5.below bb6
        have rn_6 := rn_5.below bb6
        have rx_6 := rx0.below bb6
        go_wp2
        go_ret
        exact ⟨by simp, b6⟩
  · have HC := Lib.hid (fun B v w => implLinked_any B v L false ⟨fun x => (by cases x), fun x => absurd x h⟩ w)
    have HS := Lib.hid (fun B v w => specLinked_any B v L false ⟨fun x => (by cases x), fun x => absurd x h⟩ w)
    clear h
    go_wp2_with fail
    refine (HC.out _ v _ r (HT.out.below b1 (by omega))).mono ?_
    rintro e w2 ⟨rfl, bb2⟩
    have b2 := b1.trans (bb2.mono b1.size)
    have r_2 := r.below bb2
    go_wp2_with fail
    refine (HS.out _ v _ r_2).mono ?_
    rintro e w3 ⟨rfl, d3, rfl⟩
    have b3 := below_drewN b2 d3
    have r_3 := r_2.drewN d3
    go_wp2
    go_ret
    exact ⟨by simp, b3⟩
end Go.Proofs.YtjkepoalepmjoaaDoor
