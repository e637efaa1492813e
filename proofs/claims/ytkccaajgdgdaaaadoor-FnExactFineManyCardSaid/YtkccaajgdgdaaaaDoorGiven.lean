/- The model's l5Given: whether there are a graph and colours; the model's FineStep. -/
import Derived.Test.YtkccaajgdgdaaaaDoorStepFn
import Derived.Test.YtkccaajgdgdaaaaDoorColoured
namespace Go.Proofs.YtkccaajgdgdaaaaDoor
open Go Go.RowKit
set_option linter.unusedVariables false
set_option maxRecDepth 100000

theorem given_first (B : Nat) (v v' : Value) (L : List Int) (hL : ¬ IsGraph L) (w : World) (h : Row w B v L) :
    Calls Tryd.prog 25 #[v, v'] w (Looked w false) := by
  have H1 := Lib.hid (specIn_any B v L false ⟨fun h => (by cases h), fun hg => absurd hg hL⟩ w h)
  clear h hL
  go_enter Tryd.func25, Tryd.ntmps25
  go_wp2_with fail
  refine H1.out.mono ?_
  rintro e w1 ⟨rfl, d, rfl⟩
  go_wp2
  go_ret
  exact ⟨rfl, d, rfl⟩
theorem given_len (B B' : Nat) (v v' : Value) (L C : List Int) (hL : IsGraph L) (hl : C.length ≠ L.length) (w : World) (h : Row w B v L) (h' : Row w B' v' C) :
    Calls Tryd.prog 25 #[v, v'] w (Looked w false) := by
  have H1 := Lib.hid (specIn_any B v L true ⟨fun _ => hL, fun _ => rfl⟩ w h)
  obtain ⟨A, c, rfl, _⟩ := h.seen
  obtain ⟨A', c', rfl, _⟩ := h'.seen
  obtain ⟨n, hn⟩ : ∃ n, n = L.length := ⟨_, rfl⟩
  obtain ⟨m, hm⟩ : ∃ m, m = C.length := ⟨_, rfl⟩
  rw [← hn] at H1 hl ⊢
  rw [← hm] at hl ⊢
  have hb : ((m : Int) != (n : Int)) = true := by simp; omega
  clear h hL hn hm hl h'
  go_enter Tryd.func25, Tryd.ntmps25
  go_wp2_with fail
  refine H1.out.mono ?_
  rintro e w1 ⟨rfl, d, rfl⟩
  go_wp2
  go_ret
  exact ⟨rfl, d, rfl⟩
set_option maxHeartbeats 1000000 in
theorem given_seen (B B' : Nat) (v v' : Value) (L C : List Int) (hL : IsGraph L) (hl : C.length = L.length) (b : Bool) (hb : b = true ↔ Hues C) (w : World) (h : Row w B v L) (h' : Row w B' v' C) :
    Calls Tryd.prog 25 #[v, v'] w (Looked w b) := by
  have H1 := Lib.hid (specIn_any B v L true ⟨fun _ => hL, fun _ => rfl⟩ w h)
  obtain ⟨A, c, rfl, _⟩ := h.seen
  obtain ⟨A', c', rfl, hs⟩ := h'.seen
  have h6 := hL.2.1
  rw [hl]
  obtain ⟨n, hn⟩ : ∃ n, n = L.length := ⟨_, rfl⟩
  rw [← hn] at H1 hl h6 ⊢
  have hne : ((n : Int) != (n : Int)) = false := by simp
  have HS := Lib.hid hs
  have HL := Lib.hid hl
  have HB := Lib.hid hb
  clear h hL hn hs hl hb h'
  go_enter Tryd.func25, Tryd.ntmps25
  go_wp2_with fail
  refine H1.out.mono ?_
  rintro e w1 ⟨rfl, d, rfl⟩
  go_wp2
  go_loop [5] (fun i => ∃ k : Nat, k ≤ n ∧ i = .int .i64 k ∧ Hid (∀ j, j < k → 0 ≤ C[j]?.getD 0 ∧ C[j]?.getD 0 ≤ 1000)) (fun i => n - (intOf i).toNat)
  case atStart => exact ⟨0, Nat.zero_le _, rfl, Lib.hid (fun j hj => absurd hj (Nat.not_lt_zero _))⟩
  case round =>
    obtain ⟨k, hk, rfl, hA⟩ := hrel
    by_cases hlt : k < n
    · obtain ⟨blk, off, rfl, hbl, hc⟩ := HS.out k (by have := HL.out; omega)
      have hi1 : (0 : Int) ≤ (k : Int) ∧ (k : Int) < (n : Int) := by omega
      obtain ⟨x, ex⟩ : ∃ x, x = C[k]?.getD 0 := ⟨_, rfl⟩
      rw [← ex] at hc
      have EX := Lib.hid ex
      have bad : ¬ (0 ≤ x ∧ x ≤ 1000) → b = false := fun hx => by
        cases hbb : b with
        | false => rfl
        | true =>
          have h1 := (HB.out.1 hbb) (C[k]'(by have := HL.out; omega)) (List.getElem_mem _)
          have h2 := EX.out
          rw [List.getElem?_eq_getElem (by have := HL.out; omega)] at h2
          simp only [Option.getD_some] at h2
          rw [← h2] at h1
          exact absurd h1 hx
      clear ex hbl
      by_cases h0 : 0 ≤ x ∧ x ≤ 1000
      · have HIN := Lib.hid (fun w => in_yes x 0 1000 w h0.1 h0.2)
        have HX := Lib.hid h0
        clear bad h0
        go_wp2_with (go_at_call 42; refine (HIN.out _).mono ?_; rintro e w' ⟨rfl, rfl⟩)
        go_round
        case rel =>
          refine ⟨k + 1, by omega, by go_num, Lib.hid fun j hj => ?_⟩
          by_cases hjk : j = k
          · subst hjk; rw [← EX.out]; exact HX.out
          · exact hA.out j (by omega)
        case measure => simp [intOf]; omega
      · have hb0 := Lib.hid (bad h0)
        have HIN : Hid (∀ w, Calls Tryd.prog 42 #[.int .i64 x, .int .i64 0, .int .i64 1000] w fun e w' => e = .returned (.bool false) ∧ w = w') := Lib.hid (fun w => by
          by_cases h1 : x < 0
          · exact in_low x 0 1000 w h1
          · exact in_high x 0 1000 w (by omega) (by omega))
        clear bad h0
        go_wp2_with (go_at_call 42; refine (HIN.out _).mono ?_; rintro e w' ⟨rfl, rfl⟩)
        go_ret
        exact ⟨by first | (rw [hb0.out]; rfl) | (rw [hb0.out]; done) | rfl, d, rfl⟩
    · have hkn : k = n := by omega
      subst hkn
      have hbt : Hid (b = true) := Lib.hid (HB.out.2 fun x hx => by
        obtain ⟨j, hj, rfl⟩ := List.mem_iff_getElem.1 hx
        have h := hA.out j (by have := HL.out; omega)
        rw [List.getElem?_eq_getElem hj] at h
        exact h)
      go_wp2
      go_ret
      exact ⟨by first | (rw [hbt.out]; rfl) | (rw [hbt.out]; done) | rfl, d, rfl⟩
theorem given_any (B B' : Nat) (v v' : Value) (L C : List Int) (b : Bool) (hb : b = true ↔ GivenC L C) (w : World) (h : Row w B v L) (h' : Row w B' v' C) :
    Calls Tryd.prog 25 #[v, v'] w (Looked w b) := by
  by_cases hL : IsGraph L
  · by_cases hl : C.length = L.length
    · exact given_seen B B' v v' L C hL hl b (by rw [hb]; exact ⟨fun h => h.2.2, fun h => ⟨hL, hl, h⟩⟩) w h h'
    · have hbf : b = false := by cases hbb : b with
        | false => rfl
        | true => exact absurd (hb.1 hbb).2.1 hl
      rw [hbf]
      exact given_len B B' v v' L C hL hl w h h'
  · have hbf : b = false := by cases hbb : b with
      | false => rfl
      | true => exact absurd (hb.1 hbb).1 hL
    rw [hbf]
    exact given_first B v v' L hL w h

theorem specFineStep_yes (B B' : Nat) (v v' : Value) (L C : List Int) (hg : GivenC L C) (w : World) (h : Row w B v L) (h' : Row w B' v' C) :
    Calls Tryd.prog 9 #[v, v'] w (Told w (finerL L C) true) := by
  have H1 := Lib.hid (given_any B B' v v' L C true ⟨fun _ => hg, fun _ => rfl⟩ w h h')
  obtain ⟨A, c, rfl, hs⟩ := h.seen
  obtain ⟨A', c', rfl, hs'⟩ := h'.seen
  have hnet := net_of hg.1
  have H2 := Lib.hid (fun w hs => specNear_seen A c L hnet w hs)
  have hN := near_of hnet
  have hCl : C.length = (nearL L L.length).length := by rw [nearL_length]; exact hg.2.1
  have H3 := Lib.hid (fun An cn w hA hC => specStep_seen An A' cn c' (nearL L L.length) C hN hCl w hA hC)
  rw [stepL_finer hnet] at H3
  have HS := Lib.hid hs
  have HS' := Lib.hid hs'
  clear hg h h' hnet hN hCl hs hs'
  go_enter Tryd.func9, Tryd.ntmps9
  go_wp2_with fail
  refine H1.out.mono ?_
  rintro e w1 ⟨rfl, d, rfl⟩
  go_wp2_with fail
  refine (H2.out (w.drewN d) HS.out).mono ?_
  rintro e w2 ⟨nv, rfl, hr, hb⟩
  obtain ⟨An, cn, hnv, hns⟩ := hr.near
  subst hnv
  have hbw : Below w.heap.size w w2 := (below_drewN (Below.refl w.heap.size w) d).trans hb
  go_wp2_with fail
  refine (H3.out An cn w2 hns (HS'.out.below hbw)).mono ?_
  rintro e w3 ⟨u, rfl, hu, hb3⟩
  go_wp2
  go_ret2
  exact ⟨_, rfl, hu.mono hbw.size, hbw.trans (hb3.mono hbw.size)⟩
theorem specFineStep_no (B B' : Nat) (v v' : Value) (L C : List Int) (hg : ¬ GivenC L C) (w : World) (h : Row w B v L) (h' : Row w B' v' C) :
    Calls Tryd.prog 9 #[v, v'] w (Told w [] false) := by
  have H1 := Lib.hid (given_any B B' v v' L C false ⟨fun h => (by cases h), fun h => absurd h hg⟩ w h h')
  clear hg h h'
  go_enter Tryd.func9, Tryd.ntmps9
  go_wp2_with fail
  refine H1.out.mono ?_
  rintro e w1 ⟨rfl, d, rfl⟩
  go_wp2
  go_ret2
  exact ⟨_, rfl, (rowS_new (w.drewN d)).1, (below_drewN (Below.refl w.heap.size w) d).alloc (Nat.le_refl _) _⟩
end Go.Proofs.YtkccaajgdgdaaaaDoor
