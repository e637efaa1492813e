/- The model's AlikeIn: edges and least codes. -/
import Derived.Test.YtedjnenbmhajiaaDoorSpecLeast
import Derived.Test.YtedjnenbmhajiaaDoorSpecSize
namespace Go.Proofs.YtedjnenbmhajiaaDoor
open Go Go.RowKit
set_option linter.unusedVariables false
set_option maxRecDepth 100000

def IsAlike (L M : List Int) : Prop := IsGraph L ∧ IsGraph M ∧ L.length = M.length ∧ edgesN L = edgesN M ∧ leastL L = leastL M
set_option maxHeartbeats 2000000 in
theorem specAlike_graphs (B B' : Nat) (v v' : Value) (L M : List Int) (hL : IsGraph L) (hM : IsGraph M) (hlm : L.length = M.length) (w : World) (h : Row w B v L) (h' : Row w B' v' M) :
    Calls Tryd.prog 45 #[v, v'] w (Said1 w (decide (edgesN L = edgesN M ∧ leastL L = leastL M))) := by
  have H1 := Lib.hid (specIn_any B v L true ⟨fun _ => hL, fun _ => rfl⟩ w h)
  have H2 := Lib.hid (fun w h => specIn_any B' v' M true ⟨fun _ => hM, fun _ => rfl⟩ w h)
  obtain ⟨A, c, rfl, s1⟩ := h.seen
  have HR' := Lib.hid h'
  obtain ⟨A', c', rfl, s2⟩ := h'.seen
  have HE1 := Lib.hid (fun w1 (b : Below w.heap.size w w1) => specEdges_seen A c L hL w1 (s1.below b))
  have HE2 := Lib.hid (fun w1 (b : Below w.heap.size w w1) => specEdges_seen A' c' M hM w1 (s2.below b))
  have HL1 := Lib.hid (fun w1 (b : Below w.heap.size w w1) => specLeast_seen A c L hL w1 (s1.below b))
  have HL2 := Lib.hid (fun w1 (b : Below w.heap.size w w1) => specLeast_seen A' c' M hM w1 (s2.below b))
  obtain ⟨x, ex⟩ : ∃ x, x = edgesN L := ⟨_, rfl⟩
  obtain ⟨y, ey⟩ : ∃ y, y = edgesN M := ⟨_, rfl⟩
  obtain ⟨p, ep⟩ : ∃ p, p = leastL L := ⟨_, rfl⟩
  obtain ⟨q, eq⟩ : ∃ q, q = leastL M := ⟨_, rfl⟩
  rw [← ex] at HE1 ⊢
  rw [← ey] at HE2 ⊢
  rw [← ep] at HL1 ⊢
  rw [← eq] at HL2 ⊢
  obtain ⟨n, hn⟩ : ∃ n, n = L.length := ⟨_, rfl⟩
  have hm : n = M.length := hn.trans hlm
  rw [← hn] at H1 HE1 HL1 ⊢
  rw [← hm] at H2 HR' HE2 HL2 ⊢
  clear hL hM hlm h h' hn hm s1 s2 ex ey ep eq
  by_cases hxy : x = y
  · have hxy2 : ((x : Int) == (y : Int)) = true := by simp [hxy]
    have e : decide (x = y ∧ p = q) = ((p : Int) == (q : Int)) := by rw [Bool.eq_iff_iff]; simp [hxy]; omega
    rw [e]
    clear hxy e
    go_enter Tryd.func45, Tryd.ntmps45
    go_wp2_with fail
    refine H1.out.mono ?_
    rintro e w1 ⟨rfl, d, rfl⟩
    go_wp2_with fail
    refine (H2.out (w.drewN d) HR'.out).mono ?_
    rintro e w2 ⟨rfl, d2, rfl⟩
    have B0 := Lib.hid (below_drewN (Below.refl w.heap.size w) (d + d2))
    go_wp2_with fail
    refine (HE1.out _ B0.out).mono ?_
    rintro e w3 ⟨rfl, rfl⟩
    go_wp2_with fail
    refine (HE2.out _ B0.out).mono ?_
    rintro e w3 ⟨rfl, rfl⟩
    go_wp2_with fail
    refine (HL1.out _ B0.out).mono ?_
    rintro e w3 ⟨rfl, b3⟩
    have B3 := Lib.hid (B0.out.trans b3)
    clear b3
    go_wp2_with fail
    refine (HL2.out _ B3.out).mono ?_
    rintro e w4 ⟨rfl, b4⟩
    have B4 := Lib.hid (B3.out.trans (b4.mono B3.out.size))
    clear b4
    go_wp2
    go_ret
    exact ⟨rfl, B4.out⟩
  · have hxy2 : ((x : Int) == (y : Int)) = false := by simp; omega
    have e : decide (x = y ∧ p = q) = false := by simp [hxy]
    rw [e]
    clear hxy e
    go_enter Tryd.func45, Tryd.ntmps45
    go_wp2_with fail
    refine H1.out.mono ?_
    rintro e w1 ⟨rfl, d, rfl⟩
    go_wp2_with fail
    refine (H2.out (w.drewN d) HR'.out).mono ?_
    rintro e w2 ⟨rfl, d2, rfl⟩
    have B0 := Lib.hid (below_drewN (Below.refl w.heap.size w) (d + d2))
    go_wp2_with fail
    refine (HE1.out _ B0.out).mono ?_
    rintro e w3 ⟨rfl, rfl⟩
    go_wp2_with fail
    refine (HE2.out _ B0.out).mono ?_
    rintro e w3 ⟨rfl, rfl⟩
    go_wp2
    go_ret
    exact ⟨rfl, B0.out⟩
#print axioms specAlike_graphs
end Go.Proofs.YtedjnenbmhajiaaDoor
