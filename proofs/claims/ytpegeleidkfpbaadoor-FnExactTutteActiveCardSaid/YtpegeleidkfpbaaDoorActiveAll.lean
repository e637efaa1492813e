/- TutteActive, by the program and by the model, at all lists and numbers. -/
import Derived.Test.YtpegeleidkfpbaaDoorRankBoth
import Derived.Test.YtpegeleidkfpbaaDoorActiveFn
import Derived.Test.YtpegeleidkfpbaaDoorSpecActive
import Derived.Test.YtpegeleidkfpbaaDoorActTab
import Derived.Test.YtpegeleidkfpbaaDoorNumsZ
namespace Go.Proofs.YtpegeleidkfpbaaDoor
open Go.RowKit
set_option linter.unusedVariables false
set_option maxRecDepth 100000

theorem implActive_no (B : Nat) (v : Value) (L : List Int) (ht : ¬ IsT L) (z : Int) (w : World) (h : Row w B v L) (hT : Tab w) :
    Calls Tryd.prog 24 #[v, .int .i64 z] w (NumsZ2 w 0 0 false) := by
  have H1 := Lib.hid (asT_no B v L ht w h hT)
  clear h hT ht
  go_enter Tryd.func24, Tryd.ntmps24
  go_wp2_with fail
  refine H1.out.mono ?_
  rintro e w1 ⟨rfl, b1⟩
  go_wp2
  go_ret3
  exact ⟨rfl, b1⟩
theorem implActive_set (B : Nat) (v : Value) (L : List Int) (ht : IsT L) (z : Int) (h1 : -9223372036854775808 ≤ z) (h2 : z ≤ 9223372036854775807) (hz : hasE z (codeOf L) = false) (w : World) (h : Row w B v L) (hT : Tab w) :
    Calls Tryd.prog 24 #[v, .int .i64 z] w (NumsZ2 w 0 0 false) := by
  have H1 := Lib.hid (asT_yes B v L ht w h hT)
  obtain ⟨A, c, rfl, hs⟩ := h.seen
  have H2 := Lib.hid (fun w1 (b : Below w.heap.size w w1) => hasEdges_any A c L ht.1 z h1 h2 w1 (hs.below b))
  rw [hz] at H2
  obtain ⟨n, hn⟩ : ∃ n, n = L.length := ⟨_, rfl⟩
  rw [← hn] at H1 H2 ⊢
  clear h hs hT ht hn hz h1 h2
  go_enter Tryd.func24, Tryd.ntmps24
  go_wp2_with fail
  refine H1.out.mono ?_
  rintro e w1 ⟨rfl, b1⟩
  go_wp2_with fail
  refine (H2.out w1 b1).mono ?_
  rintro e w2 ⟨rfl, b2'⟩
  have b2 := b1.trans (b2'.mono b1.size)
  go_wp2
  go_ret3
  exact ⟨rfl, b2⟩
theorem implActive_in (B : Nat) (v : Value) (L : List Int) (ht : IsT L) (s : Nat) (hz : hasE (s : Int) (codeOf L) = true) (w : World) (h : Row w B v L) (hT : Tab w) :
    Calls Tryd.prog 24 #[v, .int .i64 s] w (NumsZ2 w (if forB (codeOf L) s = true then ((actP (codeOf L) s).1 : Nat) else (0 : Int)) (if forB (codeOf L) s = true then ((actP (codeOf L) s).2 : Nat) else (0 : Int)) (forB (codeOf L) s)) := by
  have H1 := Lib.hid (asT_yes B v L ht w h hT)
  have h2 := hT.lt
  obtain ⟨A, c, rfl, hs⟩ := h.seen
  obtain ⟨s', es, hsl, _⟩ := eset_lt ht hz
  obtain rfl : s = s' := by omega
  have hle := codesN_le L.length
  have H2 := Lib.hid (fun w1 (b : Below w.heap.size w w1) => hasEdges_any A c L ht.1 (s : Int) (by omega) (by omega) w1 (hs.below b))
  have H3 := Lib.hid (fun w1 (b : Below w.heap.size w w1) => isForest_any A c L ht s hsl w1 (hs.below b) (hT.below b (by omega)))
  have H4 := Lib.hid (fun w1 (b : Below w.heap.size w w1) => callsIn_wide.1 (active_in A c L ht s hsl w1 (hs.below b) (hT.below b (by omega))))
  rw [hz] at H2
  obtain ⟨n, hn⟩ : ∃ n, n = L.length := ⟨_, rfl⟩
  rw [← hn] at H1 H2 H3 H4 ⊢
  obtain ⟨C, eC⟩ : ∃ C, C = codeOf L := ⟨_, rfl⟩
  rw [← eC] at H3 H4 ⊢
  obtain ⟨r, er⟩ : ∃ r, r = actP C s := ⟨_, rfl⟩
  rw [← er] at H4 ⊢
  obtain ⟨f, ef⟩ : ∃ f, f = forB C s := ⟨_, rfl⟩
  rw [← ef] at H3 ⊢
  clear h hs hT ht hn hz hsl hle er es ef eC
  cases f with
  | false =>
    go_enter Tryd.func24, Tryd.ntmps24
    go_wp2_with fail
    refine H1.out.mono ?_
    rintro e w1 ⟨rfl, b1⟩
    go_wp2_with fail
    refine (H2.out w1 b1).mono ?_
    rintro e w2 ⟨rfl, b2'⟩
    have b2 := b1.trans (b2'.mono b1.size)
    go_wp2_with fail
    refine (H3.out w2 b2).mono ?_
    rintro e w3 ⟨rfl, b3'⟩
    have b3 := b2.trans (b3'.mono b2.size)
    go_wp2
    go_ret3
    exact ⟨rfl, b3⟩
  | true =>
    go_enter Tryd.func24, Tryd.ntmps24
    go_wp2_with fail
    refine H1.out.mono ?_
    rintro e w1 ⟨rfl, b1⟩
    go_wp2_with fail
    refine (H2.out w1 b1).mono ?_
    rintro e w2 ⟨rfl, b2'⟩
    have b2 := b1.trans (b2'.mono b1.size)
    go_wp2_with fail
    refine (H3.out w2 b2).mono ?_
    rintro e w3 ⟨rfl, b3'⟩
    have b3 := b2.trans (b3'.mono b2.size)
    go_wp2_with fail
    refine (H4.out w3 b3).mono ?_
    rintro e w4 ⟨rfl, b4'⟩
    have b4 := b3.trans (b4'.mono b3.size)
    go_wp2
    go_ret3
    exact ⟨rfl, b4⟩

theorem specActiveF_no (B : Nat) (v : Value) (L : List Int) (ht : ¬ IsT L) (z : Int) (w : World) (h : Row w B v L) :
    Calls Tryd.prog 23 #[v, .int .i64 z] w (NumsZ2 w 0 0 false) := by
  have H1 := Lib.hid (given_any B v L false ⟨fun q => (by cases q), fun q => absurd q ht⟩ w h)
  clear h ht
  go_enter Tryd.func23, Tryd.ntmps23
  go_wp2_with fail
  refine H1.out.mono ?_
  rintro e w1 ⟨rfl, d, rfl⟩
  have b1 := below_drewN (Below.refl w.heap.size w) d
  go_wp2
  go_ret3
  exact ⟨rfl, b1⟩
theorem specActiveF_set (B : Nat) (v : Value) (L : List Int) (ht : IsT L) (z : Int) (h1 : -9223372036854775808 ≤ z) (h2 : z ≤ 9223372036854775807) (hz : hasE z (codeOf L) = false) (w : World) (h : Row w B v L) :
    Calls Tryd.prog 23 #[v, .int .i64 z] w (NumsZ2 w 0 0 false) := by
  have H1 := Lib.hid (given_any B v L true ⟨fun _ => ht, fun _ => rfl⟩ w h)
  obtain ⟨A, c, rfl, hs⟩ := h.seen
  have hle := codesN_le L.length
  have hcl := code_ltN ht
  have H2 := Lib.hid (fun w1 (b : Below w.heap.size w w1) => specCode_seen A c L ht.1 w1 (hs.below b))
  have hop := hasE_op z (codeOf L) h1 h2 (by omega)
  rw [hz] at hop
  have hop2 : (bits .andNot .i64 z (codeOf L : Nat) != 0) = true := by
    rw [bne, hop]; rfl
  obtain ⟨n, hn⟩ : ∃ n, n = L.length := ⟨_, rfl⟩
  rw [← hn] at H1 H2 ⊢
  obtain ⟨x, ex⟩ : ∃ x, x = codeOf L := ⟨_, rfl⟩
  rw [← ex] at H2 hop2
  clear h hs ht hn hz hle ex hop hcl h1 h2
  by_cases h0 : z < 0
  · have hneg : decide (z < 0) = true := by simpa using h0
    clear h0
    go_enter Tryd.func23, Tryd.ntmps23
    go_wp2_with fail
    refine H1.out.mono ?_
    rintro e w1 ⟨rfl, d, rfl⟩
    have b1 := below_drewN (Below.refl w.heap.size w) d
    go_wp2
    go_ret3
    exact ⟨rfl, b1⟩
  · have hneg : decide (z < 0) = false := by simpa using h0
    clear h0
    go_enter Tryd.func23, Tryd.ntmps23
    go_wp2_with fail
    refine H1.out.mono ?_
    rintro e w1 ⟨rfl, d, rfl⟩
    have b1 := below_drewN (Below.refl w.heap.size w) d
    go_wp2_with fail
    refine (H2.out _ b1).mono ?_
    rintro e w2 ⟨rfl, rfl⟩
    go_wp2
    go_ret3
    exact ⟨rfl, b1⟩
theorem specActiveF_in (B : Nat) (v : Value) (L : List Int) (ht : IsT L) (s : Nat) (hz : hasE (s : Int) (codeOf L) = true) (w : World) (h : Row w B v L) :
    Calls Tryd.prog 23 #[v, .int .i64 s] w (NumsZ2 w (if forB (codeOf L) s = true then ((actP (codeOf L) s).1 : Nat) else (0 : Int)) (if forB (codeOf L) s = true then ((actP (codeOf L) s).2 : Nat) else (0 : Int)) (forB (codeOf L) s)) := by
  have H1 := Lib.hid (given_any B v L true ⟨fun _ => ht, fun _ => rfl⟩ w h)
  obtain ⟨A, c, rfl, hs⟩ := h.seen
  obtain ⟨s', es, hsl, hsub⟩ := eset_lt ht hz
  obtain rfl : s = s' := by omega
  have hle := codesN_le L.length
  have hcl := code_ltN ht
  have H2 := Lib.hid (fun w1 (b : Below w.heap.size w w1) => specCode_seen A c L ht.1 w1 (hs.below b))
  have H3 := Lib.hid (fun w1 (b : Below w.heap.size w w1) => specForest_any A c L ht s hsl w1 (hs.below b))
  have H4 := Lib.hid (fun w1 (b : Below w.heap.size w w1) => specActive_any A c L ht s hsl w1 (hs.below b))
  have hop := hasE_op (s : Int) (codeOf L) (by omega) (by omega) (by omega)
  rw [hz] at hop
  have hop2 : (bits .andNot .i64 (s : Int) (codeOf L : Nat) != 0) = false := by
    rw [bne, hop]; rfl
  have hneg : decide ((s : Int) < 0) = false := by simp
  have hact := fun hf => act_eq (C := codeOf L) (F := s) (by omega) (by omega) hsub hf
  obtain ⟨n, hn⟩ : ∃ n, n = L.length := ⟨_, rfl⟩
  rw [← hn] at H1 H2 H3 H4 ⊢
  obtain ⟨C, eC⟩ : ∃ C, C = codeOf L := ⟨_, rfl⟩
  rw [← eC] at H2 H3 H4 hop2 hact ⊢
  obtain ⟨r, er⟩ : ∃ r, r = actP C s := ⟨_, rfl⟩
  rw [← er] at hact ⊢
  obtain ⟨f, ef⟩ : ∃ f, f = forB C s := ⟨_, rfl⟩
  rw [← ef] at H3 hact ⊢
  clear h hs ht hn hz hsl hle er es ef eC hop hcl hsub
  cases f with
  | false =>
    clear hact
    go_enter Tryd.func23, Tryd.ntmps23
    go_wp2_with fail
    refine H1.out.mono ?_
    rintro e w1 ⟨rfl, d, rfl⟩
    have b1 := below_drewN (Below.refl w.heap.size w) d
    go_wp2_with fail
    refine (H2.out _ b1).mono ?_
    rintro e w2 ⟨rfl, rfl⟩
    go_wp2_with fail
    refine (H3.out _ b1).mono ?_
    rintro e w3 ⟨rfl, b3'⟩
    have b3 := b1.trans (b3'.mono b1.size)
    go_wp2
    go_ret3
    exact ⟨rfl, b3⟩
  | true =>
    have ha := hact rfl
    rw [← ha] at H4
    clear hact ha
    go_enter Tryd.func23, Tryd.ntmps23
    go_wp2_with fail
    refine H1.out.mono ?_
    rintro e w1 ⟨rfl, d, rfl⟩
    have b1 := below_drewN (Below.refl w.heap.size w) d
    go_wp2_with fail
    refine (H2.out _ b1).mono ?_
    rintro e w2 ⟨rfl, rfl⟩
    go_wp2_with fail
    refine (H3.out _ b1).mono ?_
    rintro e w3 ⟨rfl, b3'⟩
    have b3 := b1.trans (b3'.mono b1.size)
    go_wp2_with fail
    refine (H4.out _ b3).mono ?_
    rintro e w4 ⟨rfl, b4'⟩
    have b4 := b3.trans (b4'.mono b3.size)
    go_wp2
    go_ret3
    exact ⟨rfl, b4⟩
theorem tutteActive_both (L : List Int) (z : Int) (hz : -9223372036854775808 ≤ z ∧ z ≤ 9223372036854775807) : ∃ (x y : Int) (ok : Bool),
    (∀ B v w, Row w B v L → Calls Tryd.prog 23 #[v, .int .i64 z] w (NumsZ2 w x y ok)) ∧
    (∀ B v w, Row w B v L → Tab w → Calls Tryd.prog 24 #[v, .int .i64 z] w (NumsZ2 w x y ok)) := by
  by_cases ht : IsT L
  · cases hE : hasE z (codeOf L) with
    | false => exact ⟨0, 0, false, fun B v w h => specActiveF_set B v L ht z hz.1 hz.2 hE w h, fun B v w h hT => implActive_set B v L ht z hz.1 hz.2 hE w h hT⟩
    | true =>
      obtain ⟨s, rfl, _⟩ := hasE_nat hE
      exact ⟨_, _, _, fun B v w h => specActiveF_in B v L ht s hE w h, fun B v w h hT => implActive_in B v L ht s hE w h hT⟩
  · exact ⟨0, 0, false, fun B v w h => specActiveF_no B v L ht z w h, fun B v w h hT => implActive_no B v L ht z w h hT⟩
end Go.Proofs.YtpegeleidkfpbaaDoor
