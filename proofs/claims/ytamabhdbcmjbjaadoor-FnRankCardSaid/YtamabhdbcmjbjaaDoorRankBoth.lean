/- TutteRank, by the program and by the model. -/
import Derived.Test.YtamabhdbcmjbjaaDoorRankFns
import Derived.Test.YtamabhdbcmjbjaaDoorSpecRank
import Derived.Test.YtamabhdbcmjbjaaDoorBaseA
namespace Go.Proofs.YtamabhdbcmjbjaaDoor
open Go.RowKit
set_option linter.unusedVariables false
set_option maxRecDepth 100000

/-- A set of edges is below the number of codes. -/
theorem eset_lt {L : List Int} (ht : IsT L) {z : Int} (h : hasE z (codeOf L) = true) : ∃ s : Nat, z = (s : Int) ∧ s < codesN L.length ∧ s &&& codeOf L = s := by
  obtain ⟨s, rfl, h1, h2⟩ := hasE_nat h
  have := code_ltN ht
  exact ⟨s, rfl, by omega, h1⟩

theorem implRank_yes (B : Nat) (v : Value) (L : List Int) (ht : IsT L) (s : Nat) (hz : hasE (s : Int) (codeOf L) = true) (w : World) (h : Row w B v L) (hT : Tab w) :
    Calls Tryd.prog 13 #[v, .int .i64 s] w (NumOkA w (rkT s) true) := by
  have H1 := Lib.hid (asT_yes B v L ht w h hT)
  have h2 := hT.lt
  obtain ⟨A, c, rfl, hs⟩ := h.seen
  obtain ⟨s', es, hsl, _⟩ := eset_lt ht hz
  obtain rfl : s = s' := by omega
  have hle := codesN_le L.length
  have H2 := Lib.hid (fun w1 (b : Below w.heap.size w w1) => hasEdges_any A c L ht.1 (s : Int) (by omega) (by omega) w1 (hs.below b))
  have H3 := Lib.hid (fun w1 (b : Below w.heap.size w w1) => rankOf_any A L.length c s ht.1.1 ht.2 hsl w1 (hT.below b (by omega)))
  rw [hz] at H2
  obtain ⟨n, hn⟩ : ∃ n, n = L.length := ⟨_, rfl⟩
  rw [← hn] at H1 H2 H3 ⊢
  obtain ⟨r, er⟩ : ∃ r, r = rkT s := ⟨_, rfl⟩
  rw [← er] at H3 ⊢
  clear h hs hT ht hn hz hsl hle er es
  go_enter Tryd.func13, Tryd.ntmps13
  go_wp2_with fail
  refine H1.out.mono ?_
  rintro e w1 ⟨rfl, b1⟩
  go_wp2_with fail
  refine (H2.out w1 b1).mono ?_
  rintro e w2 ⟨rfl, b2'⟩
  have b2 := b1.trans (b2'.mono b1.size)
  go_wp2_with fail
  refine (H3.out w2 b2).mono ?_
  rintro e w3 ⟨rfl, b3'⟩
  have b3 := b2.trans (b3'.mono b2.size)
  go_wp2
  go_ret2
  exact ⟨rfl, b3⟩
theorem implRank_set (B : Nat) (v : Value) (L : List Int) (ht : IsT L) (z : Int) (h1 : -9223372036854775808 ≤ z) (h2 : z ≤ 9223372036854775807) (hz : hasE z (codeOf L) = false) (w : World) (h : Row w B v L) (hT : Tab w) :
    Calls Tryd.prog 13 #[v, .int .i64 z] w (NumOkA w 0 false) := by
  have H1 := Lib.hid (asT_yes B v L ht w h hT)
  obtain ⟨A, c, rfl, hs⟩ := h.seen
  have H2 := Lib.hid (fun w1 (b : Below w.heap.size w w1) => hasEdges_any A c L ht.1 z h1 h2 w1 (hs.below b))
  rw [hz] at H2
  obtain ⟨n, hn⟩ : ∃ n, n = L.length := ⟨_, rfl⟩
  rw [← hn] at H1 H2 ⊢
  clear h hs hT ht hn hz h1 h2
  go_enter Tryd.func13, Tryd.ntmps13
  go_wp2_with fail
  refine H1.out.mono ?_
  rintro e w1 ⟨rfl, b1⟩
  go_wp2_with fail
  refine (H2.out w1 b1).mono ?_
  rintro e w2 ⟨rfl, b2'⟩
  have b2 := b1.trans (b2'.mono b1.size)
  go_wp2
  go_ret2
  exact ⟨rfl, b2⟩
theorem implRank_no (B : Nat) (v : Value) (L : List Int) (ht : ¬ IsT L) (z : Int) (w : World) (h : Row w B v L) (hT : Tab w) :
    Calls Tryd.prog 13 #[v, .int .i64 z] w (NumOkA w 0 false) := by
  have H1 := Lib.hid (asT_no B v L ht w h hT)
  clear h hT ht
  go_enter Tryd.func13, Tryd.ntmps13
  go_wp2_with fail
  refine H1.out.mono ?_
  rintro e w1 ⟨rfl, b1⟩
  go_wp2
  go_ret2
  exact ⟨rfl, b1⟩

theorem specRankF_yes (B : Nat) (v : Value) (L : List Int) (ht : IsT L) (s : Nat) (hz : hasE (s : Int) (codeOf L) = true) (w : World) (h : Row w B v L) :
    Calls Tryd.prog 14 #[v, .int .i64 s] w (NumOkA w (rkT s) true) := by
  have H1 := Lib.hid (given_any B v L true ⟨fun _ => ht, fun _ => rfl⟩ w h)
  obtain ⟨A, c, rfl, hs⟩ := h.seen
  obtain ⟨s', es, hsl, _⟩ := eset_lt ht hz
  obtain rfl : s = s' := by omega
  have hle := codesN_le L.length
  have hcl := code_ltN ht
  have H2 := Lib.hid (fun w1 (b : Below w.heap.size w w1) => specCode_seen A c L ht.1 w1 (hs.below b))
  have H3 := Lib.hid (fun w1 => specRank_any L.length s ht.1.1 ht.2 hsl w1)
  have hop := hasE_op (s : Int) (codeOf L) (by omega) (by omega) (by omega)
  rw [hz] at hop
  have hop2 : (bits .andNot .i64 (s : Int) (codeOf L : Nat) != 0) = false := by
    rw [bne, hop]; rfl
  have hneg : decide ((s : Int) < 0) = false := by simp
  obtain ⟨n, hn⟩ : ∃ n, n = L.length := ⟨_, rfl⟩
  rw [← hn] at H1 H2 H3 ⊢
  obtain ⟨r, er⟩ : ∃ r, r = rkT s := ⟨_, rfl⟩
  rw [← er] at H3 ⊢
  obtain ⟨x, ex⟩ : ∃ x, x = codeOf L := ⟨_, rfl⟩
  rw [← ex] at H2 hop2
  clear h hs ht hn hz hsl hle er es ex hop hcl
  go_enter Tryd.func14, Tryd.ntmps14
  go_wp2_with fail
  refine H1.out.mono ?_
  rintro e w1 ⟨rfl, d, rfl⟩
  have b1 := below_drewN (Below.refl w.heap.size w) d
  go_wp2_with fail
  refine (H2.out _ b1).mono ?_
  rintro e w2 ⟨rfl, rfl⟩
  go_wp2_with fail
  refine (H3.out _).mono ?_
  rintro e w3 ⟨rfl, b3'⟩
  have b3 := b1.trans (b3'.mono b1.size)
  go_wp2
  go_ret2
  exact ⟨rfl, b3⟩
theorem specRankF_set (B : Nat) (v : Value) (L : List Int) (ht : IsT L) (z : Int) (h1 : -9223372036854775808 ≤ z) (h2 : z ≤ 9223372036854775807) (hz : hasE z (codeOf L) = false) (w : World) (h : Row w B v L) :
    Calls Tryd.prog 14 #[v, .int .i64 z] w (NumOkA w 0 false) := by
  have H1 := Lib.hid (given_any B v L true ⟨fun _ => ht, fun _ => rfl⟩ w h)
  obtain ⟨A, c, rfl, hs⟩ := h.seen
  have hle := codesN_le L.length
  have hcl := code_ltN ht
  have H2 := Lib.hid (fun w1 (b : Below w.heap.size w w1) => specCode_seen A c L ht.1 w1 (hs.below b))
  have hop := hasE_op z (codeOf L) h1 h2 (by omega)
  rw [hz] at hop
  have hop2 : (bits .andNot .i64 z (codeOf L : Nat) != 0) = true := by
    rw [bne, hop]; rfl
  obtain ⟨n, hn⟩ : ∃ n, n = L.length := ⟨_, rfl⟩
  rw [← hn] at H1 H2 ⊢
  obtain ⟨x, ex⟩ : ∃ x, x = codeOf L := ⟨_, rfl⟩
  rw [← ex] at H2 hop2
  clear h hs ht hn hz hle ex hop hcl h1 h2
  by_cases h0 : z < 0
  · have hneg : decide (z < 0) = true := by simpa using h0
    clear h0
    go_enter Tryd.func14, Tryd.ntmps14
    go_wp2_with fail
    refine H1.out.mono ?_
    rintro e w1 ⟨rfl, d, rfl⟩
    have b1 := below_drewN (Below.refl w.heap.size w) d
    go_wp2
    go_ret2
    exact ⟨rfl, b1⟩
  · have hneg : decide (z < 0) = false := by simpa using h0
    clear h0
    go_enter Tryd.func14, Tryd.ntmps14
    go_wp2_with fail
    refine H1.out.mono ?_
    rintro e w1 ⟨rfl, d, rfl⟩
    have b1 := below_drewN (Below.refl w.heap.size w) d
    go_wp2_with fail
    refine (H2.out _ b1).mono ?_
    rintro e w2 ⟨rfl, rfl⟩
    go_wp2
    go_ret2
    exact ⟨rfl, b1⟩
theorem specRankF_no (B : Nat) (v : Value) (L : List Int) (ht : ¬ IsT L) (z : Int) (w : World) (h : Row w B v L) :
    Calls Tryd.prog 14 #[v, .int .i64 z] w (NumOkA w 0 false) := by
  have H1 := Lib.hid (given_any B v L false ⟨fun q => (by cases q), fun q => absurd q ht⟩ w h)
  clear h ht
  go_enter Tryd.func14, Tryd.ntmps14
  go_wp2_with fail
  refine H1.out.mono ?_
  rintro e w1 ⟨rfl, d, rfl⟩
  have b1 := below_drewN (Below.refl w.heap.size w) d
  go_wp2
  go_ret2
  exact ⟨rfl, b1⟩
end Go.Proofs.YtamabhdbcmjbjaaDoor
