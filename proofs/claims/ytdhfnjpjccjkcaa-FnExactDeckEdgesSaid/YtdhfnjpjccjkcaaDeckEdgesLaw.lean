/- The law FnExactDeckEdges at each number and list. -/
import Derived.Test.YtdhfnjpjccjkcaaDeckEdgesOf
import Derived.Test.YtdhfnjpjccjkcaaSpecDeckEdges
import Derived.Test.YtdhfnjpjccjkcaaAsDeck
import Derived.Test.YtdhfnjpjccjkcaaDeckEdges
namespace Go.Proofs.Ytdhfnjpjccjkcaa
open Go.RowKit
set_option linter.unusedVariables false
set_option maxRecDepth 100000

theorem row_seen {w : World} {B : Nat} {v : Value} {xs : List Int} (h : Row w B v xs) : ∃ A c, v = .slice A xs.length c ∧ Seen w A xs := by
  have hlt := h.lt
  obtain ⟨A, c, rfl, hA⟩ := h.see
  refine ⟨A, c, rfl, fun k hk => ?_⟩
  obtain ⟨g, rfl, hg, hc, _⟩ := hA k hk
  exact ⟨g, 0, rfl, (hlt g rfl).2, by rw [Nat.zero_add]; exact hc⟩
theorem specDE (z : Int) (L : List Int) (B : Nat) (v : Value) (w : World) (h : Row w B v L) :
    Calls Try.prog 10 #[.int .i64 z, v] w (NumOkA w (deSaid z L).1 (deSaid z L).2) := by
  obtain ⟨A, c, rfl, hs⟩ := row_seen h
  exact (specDeckEdges_any z A c L w hs).mono fun e w' ⟨he, d, hw⟩ => ⟨he, by rw [hw]; exact below_drewN (Below.refl _ _) d⟩
theorem implDE (z : Int) (L : List Int) (B : Nat) (v : Value) (w : World) (h : Row w B v L) :
    Calls Try.prog 12 #[.int .i64 z, v] w (NumOkA w (deSaid z L).1 (deSaid z L).2) := by
  obtain ⟨A, c, rfl, hs⟩ := row_seen h
  have HA := Lib.hid (asDeck_any z A c L w hs)
  by_cases hd : z = (z.toNat : Int) ∧ IsDeck z.toNat L
  · have hz := hd.1
    have hI := hd.2
    have hl := hI.2.2.1
    obtain ⟨n, rfl⟩ : ∃ n : Nat, z = (n : Int) := ⟨z.toNat, hz⟩
    rw [Int.toNat_natCast] at hI hl
    rw [deSaid_yes hI]
    have HE := Lib.hid (fun w hs => deckEdges_any n A c L hI w hs)
    have HD := Lib.hid hd
    have HSE := Lib.hid hs
    rw [hl] at HA ⊢
    clear hd hz hI hl hs h
    go_enter Try.func12, Try.ntmps12
    go_wp2_with fail
    refine HA.out.mono ?_
    rintro e w1 ⟨q1, _⟩
    obtain ⟨rfl, rfl⟩ := q1 HD.out
    clear q1
    go_wp2_with fail
    refine (HE.out _ HSE.out).mono ?_
    rintro e w2 ⟨rfl, rfl⟩
    go_wp2
    go_ret2
    exact ⟨rfl, Below.refl _ _⟩
  · rw [deSaid_no hd]
    have HD := Lib.hid hd
    clear hd hs h
    go_enter Try.func12, Try.ntmps12
    go_wp2_with fail
    refine HA.out.mono ?_
    rintro e w1 ⟨_, q1⟩
    obtain ⟨rfl, rfl⟩ := q1 HD.out
    clear q1
    go_wp2
    go_ret2
    exact ⟨rfl, Below.refl _ _⟩
theorem deckEdgesLaw_short (z : Int) (A : Option Addr) (c : Nat) (L : List Int) (w : World) (h : Seen w A L) (hs : L.length ≤ 1048576) :
    Calls Try.prog 4 #[.int .i64 z, .slice A L.length c] w (Fine w) :=
  deckEdgesLaw_of z A c L w h hs _ _ (fun B v w hr => specDE z L B v w hr) (fun B v w hr => implDE z L B v w hr)
end Go.Proofs.Ytdhfnjpjccjkcaa
