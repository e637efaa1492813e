/- How far two trees are: the program and the model. -/
import Derived.Test.YtkngijkhhonikaaDoorBaseG
import Derived.Test.YtkngijkhhonikaaDoorOnesAll
namespace Go.Proofs.YtkngijkhhonikaaDoor
open Go Go.RowKit
set_option linter.unusedVariables false
set_option maxRecDepth 100000

def IsFar (L M : List Int) : Prop := (IsTree L ∧ IsTree M) ∧ L.length = M.length
def farN (L M : List Int) : Nat := pcf 15 (less (codeOf L) (codeOf M))
open Classical in
noncomputable def farP (L M : List Int) : Nat × Bool := if IsFar L M then (farN L M, true) else (0, false)

theorem code_small {L : List Int} (hg : IsGraph L) : codeOf L < 32768 := crun_small L _ (rows_length L.length hg.2.1)

open Classical in
set_option maxHeartbeats 1000000 in
theorem specFar_any (B B' : Nat) (v v' : Value) (L M : List Int) (w : World) (h : Row w B v L) (h' : Row w B' v' M) :
    Calls Tryd.prog 31 #[v, v'] w (NumOkA w (farP L M).1 (farP L M).2) := by
  obtain ⟨b, hb⟩ : ∃ b : Bool, b = true ↔ IsTree L := ⟨decide (IsTree L), by simp⟩
  obtain ⟨b', hb'⟩ : ∃ b : Bool, b = true ↔ IsTree M := ⟨decide (IsTree M), by simp⟩
  have H1 := Lib.hid (l9Tree_any B v L b hb w h)
  have H2 := Lib.hid (fun d => l9Tree_any B' v' M b' hb' (w.drewN d) (h'.drewN d))
  obtain ⟨A, c, rfl, hs⟩ := h.seen
  obtain ⟨A', c', rfl, hs'⟩ := h'.seen
  by_cases hF : IsFar L M
  · have e1 : b = true := hb.2 hF.1.1
    have e2 : b' = true := hb'.2 hF.1.2
    subst e1 e2
    have hp : farP L M = (farN L M, true) := if_pos hF
    rw [hp]
    have gL := hF.1.1.1.1
    have gM := hF.1.2.1.1
    have HC1 := Lib.hid (fun d => specCode_seen A c L gL (w.drewN d) (hs.below (below_drewN (Below.refl _ _) d)))
    have HC2 := Lib.hid (fun d => specCode_seen A' c' M gM (w.drewN d) (hs'.below (below_drewN (Below.refl _ _) d)))
    have l1 := code_small gL
    have l2 := code_small gM
    have hlen := hF.2
    unfold farN
    obtain ⟨x, ex⟩ : ∃ x, x = codeOf L := ⟨_, rfl⟩
    obtain ⟨y, ey⟩ : ∃ y, y = codeOf M := ⟨_, rfl⟩
    rw [← ex] at HC1 l1 ⊢
    rw [← ey] at HC2 l2 ⊢
    have ho := less_op x y (Nat.lt_trans l1 (by decide)) (Nat.lt_trans l2 (by decide))
    have hl := less_le x y
    obtain ⟨z, ez⟩ : ∃ z, z = less x y := ⟨_, rfl⟩
    rw [← ez] at ho hl ⊢
    have H3 := Lib.hid (fun w => size_code z (by omega) w)
    obtain ⟨n, hn⟩ : ∃ n, n = L.length := ⟨_, rfl⟩
    rw [← hlen, ← hn] at H2 HC2 ⊢
    rw [← hn] at H1 HC1
    have hd : ((n : Int) != (n : Int)) = false := by simp
    clear hb hb' h h' hs hs' hF hp gL gM hlen ex ey ez hn l1 l2 hl
    go_enter Tryd.func31, Tryd.ntmps31
    go_wp2_with fail
    refine H1.out.mono ?_
    rintro e w1 ⟨rfl, d1, rfl⟩
    go_wp2_with fail
    refine (H2.out d1).mono ?_
    rintro e w2 ⟨rfl, d2, rfl⟩
    rw [World.drewN_drewN]
    go_wp2_with fail
    refine (HC1.out (d1 + d2)).mono ?_
    rintro e w3 ⟨rfl, rfl⟩
    go_wp2_with fail
    refine (HC2.out (d1 + d2)).mono ?_
    rintro e w4 ⟨rfl, rfl⟩
    go_wp2_with fail
    refine (H3.out _).mono ?_
    rintro e w5 ⟨rfl, rfl⟩
    go_wp2
    go_ret2
    exact ⟨rfl, below_drewN (Below.refl _ _) _⟩
  · have hp : farP L M = (0, false) := if_neg hF
    rw [hp]
    cases b with
    | false =>
      clear hb hb' h h' hs hs' hF hp H2
      go_enter Tryd.func31, Tryd.ntmps31
      go_wp2_with fail
      refine H1.out.mono ?_
      rintro e w1 ⟨rfl, d1, rfl⟩
      go_wp2
      go_ret2
      exact ⟨rfl, below_drewN (Below.refl _ _) _⟩
    | true =>
      cases b' with
      | false =>
        clear hb hb' h h' hs hs' hF hp
        go_enter Tryd.func31, Tryd.ntmps31
        go_wp2_with fail
        refine H1.out.mono ?_
        rintro e w1 ⟨rfl, d1, rfl⟩
        go_wp2_with fail
        refine (H2.out d1).mono ?_
        rintro e w2 ⟨rfl, d2, rfl⟩
        rw [World.drewN_drewN]
        go_wp2
        go_ret2
        exact ⟨rfl, below_drewN (Below.refl _ _) _⟩
      | true =>
        have hne : L.length ≠ M.length := fun h => hF ⟨⟨hb.1 rfl, hb'.1 rfl⟩, h⟩
        have hd : ((L.length : Int) != (M.length : Int)) = true := by simp; omega
        have s1 : L.length ≤ 6 := (hb.1 rfl).1.1.2.1
        have s2 : M.length ≤ 6 := (hb'.1 rfl).1.1.2.1
        clear hb hb' h h' hs hs' hF hp hne
        go_enter Tryd.func31, Tryd.ntmps31
        go_wp2_with fail
        refine H1.out.mono ?_
        rintro e w1 ⟨rfl, d1, rfl⟩
        go_wp2_with fail
        refine (H2.out d1).mono ?_
        rintro e w2 ⟨rfl, d2, rfl⟩
        rw [World.drewN_drewN]
        go_wp2
        go_ret2
        exact ⟨rfl, below_drewN (Below.refl _ _) _⟩

open Classical in
set_option maxHeartbeats 1000000 in
theorem implFar_any (B B' : Nat) (v v' : Value) (L M : List Int) (w : World) (h : Row w B v L) (h' : Row w B' v' M) (hT : Tab w) :
    Calls Tryd.prog 30 #[v, v'] w (NumOkA w (farP L M).1 (farP L M).2) := by
  have ht := hT.lt
  obtain ⟨b, hb⟩ : ∃ b : Bool, b = true ↔ IsTree L := ⟨decide (IsTree L), by simp⟩
  obtain ⟨b', hb'⟩ : ∃ b : Bool, b = true ↔ IsTree M := ⟨decide (IsTree M), by simp⟩
  have H1 := Lib.hid (implTreeIn_any B v L b hb w h hT)
  have H2 := Lib.hid (fun w1 (k : Below w.heap.size w w1) => implTreeIn_any B' v' M b' hb' w1 (h'.below k) (hT.below k (by omega)))
  obtain ⟨A, c, rfl, hs⟩ := h.seen
  obtain ⟨A', c', rfl, hs'⟩ := h'.seen
  by_cases hF : IsFar L M
  · have e1 : b = true := hb.2 hF.1.1
    have e2 : b' = true := hb'.2 hF.1.2
    subst e1 e2
    have hp : farP L M = (farN L M, true) := if_pos hF
    rw [hp]
    have gL := hF.1.1.1.1
    have gM := hF.1.2.1.1
    have HC1 := Lib.hid (fun w1 (k : Below w.heap.size w w1) => callsIn_wide.1 (implCode_in A c L gL w1 (hs.below k)))
    have HC2 := Lib.hid (fun w1 (k : Below w.heap.size w w1) => callsIn_wide.1 (implCode_in A' c' M gM w1 (hs'.below k)))
    have l1 := code_small gL
    have l2 := code_small gM
    have hlen := hF.2
    unfold farN
    obtain ⟨x, ex⟩ : ∃ x, x = codeOf L := ⟨_, rfl⟩
    obtain ⟨y, ey⟩ : ∃ y, y = codeOf M := ⟨_, rfl⟩
    rw [← ex] at HC1 l1 ⊢
    rw [← ey] at HC2 l2 ⊢
    have ho := less_op x y (Nat.lt_trans l1 (by decide)) (Nat.lt_trans l2 (by decide))
    have hl := less_le x y
    obtain ⟨z, ez⟩ : ∃ z, z = less x y := ⟨_, rfl⟩
    rw [← ez] at ho hl ⊢
    have H3 := Lib.hid (fun w => onesC z (by omega) w)
    have hcv : IntKind.u64.wrap (z : Int) = (z : Int) := by simp [IntKind.wrap, IntKind.bits, IntKind.signed]; omega
    obtain ⟨n, hn⟩ : ∃ n, n = L.length := ⟨_, rfl⟩
    rw [← hlen, ← hn] at H2 HC2 ⊢
    rw [← hn] at H1 HC1
    have hd : ((n : Int) != (n : Int)) = false := by simp
    clear hb hb' h h' hs hs' hF hp gL gM hlen ex ey ez hn l1 l2 hl hT ht
    go_enter Tryd.func30, Tryd.ntmps30
    go_wp2_with fail
    refine H1.out.mono ?_
    rintro e w1 ⟨rfl, b1⟩
    go_wp2_with fail
    refine (H2.out w1 b1).mono ?_
    rintro e w2 ⟨rfl, b2⟩
    have k2 := b1.trans (b2.mono b1.size)
    go_wp2_with fail
    refine (HC1.out w2 k2).mono ?_
    rintro e w3 ⟨rfl, b3⟩
    have k3 := k2.trans (b3.mono k2.size)
    go_wp2_with fail
    refine (HC2.out w3 k3).mono ?_
    rintro e w4 ⟨rfl, b4⟩
    have k4 := k3.trans (b4.mono k3.size)
    go_wp2_with fail
    refine (H3.out _).mono ?_
    rintro e w5 ⟨rfl, rfl⟩
    go_wp2
    go_ret2
    exact ⟨rfl, k4⟩
  · have hp : farP L M = (0, false) := if_neg hF
    rw [hp]
    cases b with
    | false =>
      clear hb hb' h h' hs hs' hF hp H2
      go_enter Tryd.func30, Tryd.ntmps30
      go_wp2_with fail
      refine H1.out.mono ?_
      rintro e w1 ⟨rfl, b1⟩
      go_wp2
      go_ret2
      exact ⟨rfl, b1⟩
    | true =>
      have hlen : b' = false ∨ L.length ≠ M.length := by
        cases b'
        · exact .inl rfl
        · exact .inr fun h => hF ⟨⟨hb.1 rfl, hb'.1 rfl⟩, h⟩
      cases b' with
      | false =>
        clear hb hb' h h' hs hs' hF hp hlen
        go_enter Tryd.func30, Tryd.ntmps30
        go_wp2_with fail
        refine H1.out.mono ?_
        rintro e w1 ⟨rfl, b1⟩
        go_wp2_with fail
        refine (H2.out w1 b1).mono ?_
        rintro e w2 ⟨rfl, b2⟩
        go_wp2
        go_ret2
        exact ⟨rfl, b1.trans (b2.mono b1.size)⟩
      | true =>
        have hne : L.length ≠ M.length := hlen.resolve_left (by simp)
        have hd : ((L.length : Int) != (M.length : Int)) = true := by simp; omega
        have s1 : L.length ≤ 6 := (hb.1 rfl).1.1.2.1
        have s2 : M.length ≤ 6 := (hb'.1 rfl).1.1.2.1
        clear hb hb' h h' hs hs' hF hp hne hlen
        go_enter Tryd.func30, Tryd.ntmps30
        go_wp2_with fail
        refine H1.out.mono ?_
        rintro e w1 ⟨rfl, b1⟩
        go_wp2_with fail
        refine (H2.out w1 b1).mono ?_
        rintro e w2 ⟨rfl, b2⟩
        go_wp2
        go_ret2
        exact ⟨rfl, b1.trans (b2.mono b1.size)⟩
end Go.Proofs.YtkngijkhhonikaaDoor
