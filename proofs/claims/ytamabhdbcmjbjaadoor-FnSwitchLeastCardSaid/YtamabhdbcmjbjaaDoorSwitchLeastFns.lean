/- NearSwitchLeast, by the program and by the model. -/
import Derived.Test.YtamabhdbcmjbjaaDoorSwitchLeastFn
import Derived.Test.YtamabhdbcmjbjaaDoorSpecSwitched
import Derived.Test.YtamabhdbcmjbjaaDoorBaseA
namespace Go.Proofs.YtamabhdbcmjbjaaDoor
open Go Go.RowKit
set_option linter.unusedVariables false
set_option maxRecDepth 100000

theorem implSwl_yes (B : Nat) (v : Value) (L : List Int) (hg : IsGraph L) (w : World) (h : Row w B v L) (hT : Tab w) :
    Calls Tryd.prog 8 #[v] w (NumOkA w (swLeast L) true) := by
  have ht := hT.lt
  have H1 := Lib.hid (asG_graph B v L hg w h hT)
  obtain ⟨A, c, rfl, hs⟩ := h.seen
  have H2 := Lib.hid (fun w1 (b : Below w.heap.size w w1) => callsIn_wide.1 (switchLeast_in A c L hg w1 (hs.below b) (hT.below b (by omega))))
  clear hg h hs hT
  go_enter Tryd.func8, Tryd.ntmps8
  go_wp2_with fail
  go_enter Tryd.func23, Tryd.ntmps23
  go_wp2_with fail
  refine H1.out.mono ?_
  rintro e w1 ⟨rfl, b1⟩
  go_wp2_with fail
  refine (H2.out _ b1).mono ?_
  rintro e w2 ⟨rfl, b2⟩
  go_wp2
  go_ret2
  exact ⟨rfl, b1.trans (b2.mono b1.size)⟩
theorem implSwl_no (B : Nat) (v : Value) (L : List Int) (hg : ¬ IsGraph L) (w : World) (h : Row w B v L) (hT : Tab w) :
    Calls Tryd.prog 8 #[v] w (NumOkA w 0 false) := by
  have H1 := Lib.hid (asG_none B v L hg w h hT)
  clear hg h
  go_enter Tryd.func8, Tryd.ntmps8
  go_wp2_with fail
  go_enter Tryd.func23, Tryd.ntmps23
  go_wp2_with fail
  refine H1.out.mono ?_
  rintro e w1 ⟨rfl, b1⟩
  go_wp2
  go_ret2
  exact ⟨rfl, b1⟩
theorem specSwl_no (B : Nat) (v : Value) (L : List Int) (hg : ¬ IsGraph L) (w : World) (h : Row w B v L) :
    Calls Tryd.prog 9 #[v] w (NumOkA w 0 false) := by
  have H1 := Lib.hid (specIn_any B v L false ⟨fun h => (by cases h), fun h => absurd h hg⟩ w h)
  clear hg h
  go_enter Tryd.func9, Tryd.ntmps9
  go_wp2_with fail
  refine H1.out.mono ?_
  rintro e w1 ⟨rfl, d, rfl⟩
  go_wp2
  go_ret2
  exact ⟨rfl, below_drewN (Below.refl _ w) d⟩
def swF (L : List Int) (s : Nat) : Nat := leastL (swL L s)
set_option maxHeartbeats 2000000 in
theorem specSwl_yes (B : Nat) (v : Value) (L : List Int) (hg : IsGraph L) (w : World) (h : Row w B v L) :
    Calls Tryd.prog 9 #[v] w (NumOkA w (swLeast L) true) := by
  rw [← swLeast_eq hg]
  show Calls _ _ _ _ (NumOkA w (minF (swF L) (leastL L) (List.range (2 ^ (L.length - 1)))) true)
  have h1 := hg.1
  have h6 := hg.2.1
  have H1 := Lib.hid (specIn_any B v L true ⟨fun _ => hg, fun _ => rfl⟩ w h)
  obtain ⟨A, c, rfl, hs⟩ := h.seen
  obtain ⟨n, hn⟩ : ∃ n, n = L.length := ⟨_, rfl⟩
  obtain ⟨m, hm⟩ : ∃ m, n = m + 1 := ⟨n - 1, by omega⟩
  have H2 := Lib.hid (fun w1 (b : Below w.heap.size w w1) => specLeast_seen A c L hg w1 (hs.below b))
  have HSW := Lib.hid (fun s (hl : s < 2 ^ L.length) w1 (b : Below w.heap.size w w1) => specSwitched_seen A c s L hg hl w1 (hs.below b))
  have hmn : L.length - 1 = m := by omega
  rw [hmn]
  rw [← hn] at h1 h6 H1 H2 HSW ⊢
  have hm1 : (n : Int) - 1 = (m : Int) := by omega
  have hm2 : IntKind.i64.wrap (m : Int) = (m : Int) := by rw [IntKind.wrap_i64]; omega
  obtain ⟨P, Q, hP, hQ, hP64, p1, p2, p3, p4, p5⟩ := shl_facts m (by omega)
  have hPn : P ≤ 2 ^ n := by rw [hP]; exact Nat.pow_le_pow_right (by omega) (by omega)
  rw [← hP]
  have hm64 : m < 64 := by omega
  have HN := Lib.hid hn
  have HG := Lib.hid hg
  have HPN := Lib.hid hPn
  clear hg h hs hn hm hmn hP hQ hPn p3 p4 p5
  go_enter Tryd.func9, Tryd.ntmps9
  go_wp2_with fail
  refine H1.out.mono ?_
  rintro e w1 ⟨rfl, d, rfl⟩
  go_wp2_with fail
  refine (H2.out _ (below_drewN (Below.refl _ w) d)).mono ?_
  rintro e w2 ⟨rfl, b2⟩
  have B2 := Lib.hid ((below_drewN (Below.refl w.heap.size w) d).trans b2)
  clear b2 H1 H2
  go_wp2
  go_loopw [4, 5] (fun b i wr => ∃ k : Nat, k ≤ P ∧ i = .int .i64 k ∧ b = .int .i64 (minF (swF L) (leastL L) (List.range k) : Nat) ∧ Hid (Below w.heap.size w wr)) (fun _ i _ => P - (intOf i).toNat)
  case atStart => exact ⟨0, Nat.zero_le _, rfl, rfl, B2⟩
  case round =>
    obtain ⟨k, hk, rfl, rfl, hb⟩ := hrel
    by_cases hlt : k < P
    · have hkn : k < 2 ^ L.length := by rw [← HN.out]; have := HPN.out; omega
      have HS := Lib.hid (HSW.out k (by rw [HN.out]; exact hkn) wr hb.out)
      have hst : minF (swF L) (leastL L) (List.range (k + 1)) = min (minF (swF L) (leastL L) (List.range k)) (leastL (swL L k)) := by rw [List.range_succ, minF_snoc]; rfl
      have hsg := sw_graph HG.out hkn
      have hsl : (swL L k).length = n := by rw [swL_length]; exact HN.out.symm
      have HSG := Lib.hid hsg
      have HSL := Lib.hid hsl
      have HST := Lib.hid hst
      clear hst hsg hsl hkn
      go_wp2_with fail
      refine HS.out.mono ?_
      rintro e w3 ⟨u, rfl, ru, b3⟩
      obtain ⟨A1, c1, rfl, s1⟩ := ru.seen
      have HL := Lib.hid (specLeast_seen A1 c1 (swL L k) HSG.out w3 s1)
      rw [HSL.out] at HL ⊢
      have B3 := Lib.hid (hb.out.trans (b3.mono hb.out.size))
      obtain ⟨x, ex⟩ : ∃ x, x = leastL (swL L k) := ⟨_, rfl⟩
      obtain ⟨y, ey⟩ : ∃ y, y = minF (swF L) (leastL L) (List.range k) := ⟨_, rfl⟩
      rw [← ex] at HL HST
      rw [← ey] at HST
      rw [← ey]
      clear ex ey ru s1 b3
      go_wp2_with fail
      refine HL.out.mono ?_
      rintro e w4 ⟨rfl, b4⟩
      have B4 := Lib.hid (B3.out.trans (b4.mono B3.out.size))
      clear b4
      go_wp2
      go_roundw
      case rel => exact ⟨k + 1, by omega, by go_num, by rw [HST.out, min_int], B4⟩
      case measure => simp [intOf]; omega
    · have hkp : k = P := by omega
      subst hkp
      go_wp2
      go_ret2
      exact ⟨rfl, hb.out⟩
end Go.Proofs.YtamabhdbcmjbjaaDoor
