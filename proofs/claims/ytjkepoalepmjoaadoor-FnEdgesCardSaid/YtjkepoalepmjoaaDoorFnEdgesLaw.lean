/- The law FnEdges returns true and leaves all that was there as it was, whatever list is drawn. -/
import Derived.Test.YtjkepoalepmjoaaDoorDrawSome
import Derived.Test.YtjkepoalepmjoaaDoorImplEdges
import Derived.Test.YtjkepoalepmjoaaDoorSpecEdges
import Derived.Test.YtjkepoalepmjoaaDoorImplDegrees
import Derived.Test.YtjkepoalepmjoaaDoorTotal
import Derived.Test.YtjkepoalepmjoaaDoorPromDeg
namespace Go.Proofs.YtjkepoalepmjoaaDoor
open Go Go.RowKit
set_option linter.unusedVariables false
set_option maxRecDepth 100000

theorem cnt_small (x : Nat) : cnt x ≤ 6 := by unfold cnt; omega
set_option maxHeartbeats 800000 in
theorem fnEdges_long (A : Option Addr) (n c : Nat) (w : World) (h : 1048576 < n) (hm : n ≤ maxLen) :
    Calls Tryd.prog 5 #[.slice A n c] w (Fine w) := by
  unfold maxLen at hm
  have hd : decide ((1048576 : Int) < (n : Int)) = true := by simp; omega
  go_enter Tryd.func5, Tryd.ntmps5
  go_wp2
  go_ret
  exact ⟨rfl, Below.refl _ _⟩

set_option maxHeartbeats 4000000 in
theorem fnEdges_short (A : Option Addr) (n c : Nat) (w : World) (hs : n ≤ 1048576) (hT : Tab w)
    (hD : Calls Tryd.prog 22 #[.slice A n c] w (Drew6 w)) :
    Calls Tryd.prog 5 #[.slice A n c] w (Fine w) := by
  have h2 := hT.lt
  have hd : decide ((1048576 : Int) < (n : Int)) = false := by simp; omega
  have HD := Lib.hid hD
  have HT := Lib.hid hT
  clear hD hT hs
  go_enter Tryd.func5, Tryd.ntmps5
  go_wp2_with fail
  refine HD.out.mono ?_
  rintro e w1 ⟨v, L, rfl, l1, l6, r, b1⟩
  by_cases h : IsGraph L
  · have HC := Lib.hid (fun B v w => implGraphEdges_yes B v L h w)
    have HS := Lib.hid (fun B v w => specGraphEdges_yes B v L h w)
    have HD := Lib.hid (fun B v w => implGraphDegrees_yes B v L h w)
    have HSUM := Lib.hid (deg_sum h)
    have hdx : ∀ x ∈ degL L L.length, 0 ≤ x ∧ x ≤ 1000000 := fun x hx => by
      simp only [degL, List.mem_map] at hx
      obtain ⟨i, _, rfl⟩ := hx
      have := cnt_small (ent L i)
      omega
    have hdl : (degL L L.length).length ≤ 1000 := by rw [degL_length]; omega
    have hxl := edgesN_le L
    obtain ⟨x, ex⟩ : ∃ x, x = edgesN L := ⟨_, rfl⟩
    rw [← ex] at HC HS HSUM hxl
    obtain ⟨D, eD⟩ : ∃ D, D = degL L L.length := ⟨_, rfl⟩
    rw [← eD] at HD HSUM hdx hdl
    have HDX := Lib.hid hdx
    have HDL := Lib.hid hdl
    clear h ex eD hdx hdl
    go_wp2_with fail
    refine (HC.out _ v _ r (HT.out.below b1 (by omega))).mono ?_
    rintro e w2 ⟨rfl, bb2⟩
    have b2 := b1.trans (bb2.mono b1.size)
    have r_2 := r.below bb2
    go_wp2_with fail
    refine (HS.out _ v _ r_2).mono ?_
    rintro e w3 ⟨rfl, bb3⟩
    have b3 := b2.trans (bb3.mono b2.size)
    have r_3 := r_2.below bb3
    go_wp2_with fail
    refine (HD.out _ v _ r_3 (HT.out.below b3 (by omega))).mono ?_
    rintro e w4 ⟨vd, rfl, rd0, bb4⟩
    have b4 := b3.trans (bb4.mono b3.size)
    have r_4 := r_3.below bb4
    go_wp2_with fail
    refine (total_any _ vd D HDL.out HDX.out _ rd0).mono ?_
    rintro e w5 ⟨rfl, d5, rfl⟩
    have b5 := below_drewN b4 d5
    have r_5 := r_4.drewN d5
    have rd_5 := rd0.drewN d5
    have hs := HSUM.out
    rw [hs]
    clear hs
    go_wp2
    go_ret
    exact ⟨by simp, b5⟩
  · have HC := Lib.hid (fun B v w => implGraphEdges_no B v L h w)
    have HS := Lib.hid (fun B v w => specGraphEdges_no B v L h w)
    clear h
    go_wp2_with fail
    refine (HC.out _ v _ r (HT.out.below b1 (by omega))).mono ?_
    rintro e w2 ⟨rfl, bb2⟩
    have b2 := b1.trans (bb2.mono b1.size)
    have r_2 := r.below bb2
    go_wp2_with fail
    refine (HS.out _ v _ r_2).mono ?_
    rintro e w3 ⟨rfl, bb3⟩
    have b3 := b2.trans (bb3.mono b2.size)
    have r_3 := r_2.below bb3
    go_wp2
    go_ret
    exact ⟨by simp, b3⟩
end Go.Proofs.YtjkepoalepmjoaaDoor
