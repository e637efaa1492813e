/- asColoured: a graph and colours of it; the program's FineStep. -/
import Derived.Test.YtkccaajgdgdaaaaDoorFinerFn
namespace Go.Proofs.YtkccaajgdgdaaaaDoor
open Go Go.RowKit
set_option linter.unusedVariables false
set_option maxRecDepth 100000

/-- A graph and colours of it. -/
def GivenC (L C : List Int) : Prop := IsGraph L ∧ C.length = L.length ∧ Hues C
theorem net_of {L : List Int} (h : IsGraph L) : Net L := ⟨h.1, by have := h.2.1; omega, fun v hv => by
  have h1 := h.2.2 v hv
  exact ⟨ent L v, ent_int h1.1, ent_lt h1.1, h1.2.1⟩⟩

theorem asC_none (B : Nat) (v v' : Value) (L : List Int) (hL : ¬ IsGraph L) (w : World) (h : Row w B v L) (hT : Tab w) :
    Calls Tryd.prog 28 #[v, v'] w (AsNo w) := by
  have H1 := Lib.hid (asG_none B v L hL w h hT)
  clear h hL hT
  go_enter Tryd.func28, Tryd.ntmps28
  go_wp2_with fail
  refine H1.out.mono ?_
  rintro e w1 ⟨rfl, b1⟩
  go_wp2
  go_ret2
  exact ⟨rfl, b1⟩
theorem asC_len (B B' : Nat) (v v' : Value) (L C : List Int) (hL : IsGraph L) (hl : C.length ≠ L.length) (w : World) (h : Row w B v L) (h' : Row w B' v' C) (hT : Tab w) :
    Calls Tryd.prog 28 #[v, v'] w (AsNo w) := by
  have H1 := Lib.hid (asG_graph B v L hL w h hT)
  obtain ⟨A, c, rfl, _⟩ := h.seen
  obtain ⟨A', c', rfl, _⟩ := h'.seen
  obtain ⟨n, hn⟩ : ∃ n, n = L.length := ⟨_, rfl⟩
  obtain ⟨m, hm⟩ : ∃ m, m = C.length := ⟨_, rfl⟩
  rw [← hn] at H1 hl ⊢
  rw [← hm] at hl ⊢
  have hb : ((m : Int) != (n : Int)) = true := by simp; omega
  clear h hL hT hn hm hl h'
  go_enter Tryd.func28, Tryd.ntmps28
  go_wp2_with fail
  refine H1.out.mono ?_
  rintro e w1 ⟨rfl, b1⟩
  go_wp2
  go_ret2
  exact ⟨rfl, b1⟩
/-- How asColoured ends at a graph and a list as long. -/
def AsC (w : World) (v : Value) (b : Bool) (e : Ending) (w' : World) : Prop := e = .returned (.tuple (if b then #[v, .bool true] else #[.slice none 0 0, .bool false])) ∧ Below w.heap.size w w'
set_option maxHeartbeats 1000000 in
theorem asC_seen (B B' : Nat) (v v' : Value) (L C : List Int) (hL : IsGraph L) (hl : C.length = L.length) (b : Bool) (hb : b = true ↔ Hues C) (w : World) (h : Row w B v L) (h' : Row w B' v' C) (hT : Tab w) :
    Calls Tryd.prog 28 #[v, v'] w (AsC w v b) := by
  have H1 := Lib.hid (asG_graph B v L hL w h hT)
  obtain ⟨A, c, rfl, _⟩ := h.seen
  obtain ⟨A', c', rfl, hs⟩ := h'.seen
  have h6 := hL.2.1
  rw [hl]
  obtain ⟨n, hn⟩ : ∃ n, n = L.length := ⟨_, rfl⟩
  rw [← hn] at H1 hl h6 ⊢
  have hne : ((n : Int) != (n : Int)) = false := by simp
  have HS := Lib.hid hs
  have HL := Lib.hid hl
  have HB := Lib.hid hb
  clear h hL hT hn hs hl hb h'
  go_enter Tryd.func28, Tryd.ntmps28
  go_wp2_with fail
  refine H1.out.mono ?_
  rintro e w1 ⟨rfl, b1⟩
  have S1 := Lib.hid (HS.out.below b1)
  have BB := Lib.hid b1
  clear b1
  go_wp2
  go_loop [26] (fun i => ∃ k : Nat, k ≤ n ∧ i = .int .i64 k ∧ Hid (∀ j, j < k → 0 ≤ C[j]?.getD 0 ∧ C[j]?.getD 0 ≤ 1000)) (fun i => n - (intOf i).toNat)
  case atStart => exact ⟨0, Nat.zero_le _, rfl, Lib.hid (fun j hj => absurd hj (Nat.not_lt_zero _))⟩
  case round =>
    obtain ⟨k, hk, rfl, hA⟩ := hrel
    by_cases hlt : k < n
    · obtain ⟨blk, off, rfl, hbl, hc⟩ := S1.out k (by have := HL.out; omega)
      have hi1 : (0 : Int) ≤ (k : Int) ∧ (k : Int) < (n : Int) := by omega
      obtain ⟨x, ex⟩ : ∃ x, x = C[k]?.getD 0 := ⟨_, rfl⟩
      rw [← ex] at hc
      have EX := Lib.hid ex
      have bad : ¬ (0 ≤ x ∧ x ≤ 1000) → b = false := fun hx => by
        cases hbb : b with
        | false => rfl
        | true =>
          have h1 := (HB.out.1 hbb) (C[k]'(by have := HL.out; omega)) (List.getElem_mem _)
          have h2 := EX.out
          rw [List.getElem?_eq_getElem (by have := HL.out; omega)] at h2
          simp only [Option.getD_some] at h2
          rw [← h2] at h1
          exact absurd h1 hx
      clear ex hbl
      by_cases h0 : x < 0
      · have d0 : decide (x < 0) = true := decide_eq_true h0
        have hb0 := Lib.hid (bad (by omega))
        clear bad
        go_wp2
        go_ret2
        exact ⟨by first | (rw [hb0.out]; rfl) | rfl, BB.out⟩
      · have d0 : decide (x < 0) = false := decide_eq_false h0
        by_cases h1 : (1000 : Int) < x
        · have d1 : decide ((1000 : Int) < x) = true := decide_eq_true h1
          have hb0 := Lib.hid (bad (by omega))
          clear bad
          go_wp2
          go_ret2
          exact ⟨by first | (rw [hb0.out]; rfl) | rfl, BB.out⟩
        · have d1 : decide ((1000 : Int) < x) = false := decide_eq_false h1
          have HX := Lib.hid (show 0 ≤ x ∧ x ≤ 1000 by omega)
          clear bad
          go_wp2
          go_round
          case rel =>
            refine ⟨k + 1, by omega, by go_num, Lib.hid fun j hj => ?_⟩
            by_cases hjk : j = k
            · subst hjk; rw [← EX.out]; exact HX.out
            · exact hA.out j (by omega)
          case measure => simp [intOf]; omega
    · have hkn : k = n := by omega
      subst hkn
      have hbt : b = true := HB.out.2 fun x hx => by
        obtain ⟨j, hj, rfl⟩ := List.mem_iff_getElem.1 hx
        have h := hA.out j (by have := HL.out; omega)
        rw [List.getElem?_eq_getElem hj] at h
        exact h
      go_wp2
      go_ret2
      exact ⟨by first | rfl | (rw [hbt]; rfl), BB.out⟩

/-- **asColoured, at each two lists.** -/
theorem asC_any (B B' : Nat) (v v' : Value) (L C : List Int) (b : Bool) (hb : b = true ↔ GivenC L C) (w : World) (h : Row w B v L) (h' : Row w B' v' C) (hT : Tab w) :
    Calls Tryd.prog 28 #[v, v'] w (AsC w v b) := by
  by_cases hL : IsGraph L
  · by_cases hl : C.length = L.length
    · exact asC_seen B B' v v' L C hL hl b (by rw [hb]; exact ⟨fun h => h.2.2, fun h => ⟨hL, hl, h⟩⟩) w h h' hT
    · refine (asC_len B B' v v' L C hL hl w h h' hT).mono fun e w' ⟨he, hw⟩ => ⟨?_, hw⟩
      have hbf : b = false := by cases hbb : b with
        | false => rfl
        | true => exact absurd (hb.1 hbb).2.1 hl
      rw [he, hbf]; rfl
  · refine (asC_none B v v' L hL w h hT).mono fun e w' ⟨he, hw⟩ => ⟨?_, hw⟩
    have hbf : b = false := by cases hbb : b with
      | false => rfl
      | true => exact absurd (hb.1 hbb).1 hL
    rw [he, hbf]; rfl

theorem implStep_yes (B B' : Nat) (v v' : Value) (L C : List Int) (hg : GivenC L C) (w : World) (h : Row w B v L) (h' : Row w B' v' C) (hT : TabT w) :
    Calls Tryd.prog 11 #[v, v'] w (Told w (finerL L C) true) := by
  have H1 := Lib.hid (asC_any B B' v v' L C true ⟨fun _ => hg, fun _ => rfl⟩ w h h' hT.1)
  have h2 := hT.lt
  obtain ⟨A, c, rfl, hs⟩ := h.seen
  obtain ⟨A', c', rfl, hs'⟩ := h'.seen
  have H2 := Lib.hid (fun w hs hs' ht => callsIn_wide.1 (finer_in A A' c c' L C (net_of hg.1) hg.2.1 hg.2.2 w hs hs' ht))
  clear hg h h'
  go_enter Tryd.func11, Tryd.ntmps11
  go_wp2_with fail
  refine H1.out.mono ?_
  rintro e w1 ⟨rfl, b1⟩
  simp only [if_true]
  go_wp2_with fail
  refine (H2.out w1 (hs.below b1) (hs'.below b1) (hT.below b1 (by omega))).mono ?_
  rintro e w2 ⟨u, rfl, hr, hb⟩
  go_wp2
  go_ret2
  exact ⟨_, rfl, hr.mono b1.size, b1.trans (hb.mono b1.size)⟩
theorem implStep_no (B B' : Nat) (v v' : Value) (L C : List Int) (hg : ¬ GivenC L C) (w : World) (h : Row w B v L) (h' : Row w B' v' C) (hT : TabT w) :
    Calls Tryd.prog 11 #[v, v'] w (Told w [] false) := by
  have H1 := Lib.hid (asC_any B B' v v' L C false ⟨fun h => (by cases h), fun h => absurd h hg⟩ w h h' hT.1)
  clear hg h h' hT
  go_enter Tryd.func11, Tryd.ntmps11
  go_wp2_with fail
  refine H1.out.mono ?_
  rintro e w1 ⟨rfl, b1⟩
  simp only [Bool.false_eq_true, if_false]
  go_wp2
  go_ret2
  exact ⟨_, rfl, World.ownsRow_nil w1 w.heap.size 3 1, b1⟩
end Go.Proofs.YtkccaajgdgdaaaaDoor
