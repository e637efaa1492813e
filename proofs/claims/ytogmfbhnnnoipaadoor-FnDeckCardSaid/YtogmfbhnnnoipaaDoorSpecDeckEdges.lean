/- The model's DeckEdges: checks and adds card by card. -/
import Derived.Test.YtogmfbhnnnoipaaDoorDeckMath
import Derived.Test.YtogmfbhnnnoipaaDoorSizeCode
import Derived.Test.YtogmfbhnnnoipaaDoorBaseA
import Derived.Deep.QuietTactic
namespace Go.Proofs.YtogmfbhnnnoipaaDoor
open Go.RowKit
set_option linter.unusedVariables false
set_option maxRecDepth 100000

/-- How a call that tells a number and a bool and makes nothing ends. -/
def NumD (w : World) (p : Nat × Bool) (e : Ending) (w' : World) : Prop := e = .returned (.tuple #[.int .i64 (p.1 : Nat), .bool p.2]) ∧ ∃ d, w' = w.drewN d
theorem quietN {P : Program} {f : FuncId} {args : Array Value} {w : World} {v : Value} {k : Nat} (h : Calls P f args (w.drewN k) fun e w' => e = .returned v ∧ w.drewN k = w') :
    Calls P f args (w.drewN k) fun e w' => e = .returned v ∧ ∃ m, w' = w.drewN m := h.mono fun _ _ ⟨he, hw⟩ => ⟨he, k, hw.symm⟩

theorem numD_no {w wr : World} {n : Nat} {L : List Int} {m : Nat} (h : ¬ IsDeck n L) (ew : wr = w.drewN m) (k : Nat) : NumD w (deSaid n L) (.returned (.tuple #[.int .i64 0, .bool false])) (wr.drewN k) := by
  rw [deSaid_bad h]
  exact ⟨rfl, m + k, by rw [ew, World.drewN_drewN]⟩

theorem ret_two {a b : Int} {c d : Bool} (h : a = b) (h2 : c = d) : Ending.returned (.tuple #[.int .i64 a, .bool c]) = .returned (.tuple #[.int .i64 b, .bool d]) := by rw [h, h2]

/-- What the end of a sum tells. -/
theorem deckE_yes {n s : Nat} {L : List Int} (h : dsumTo L n = s) (hm : s % (n - 2) = 0) : deckE n L = (s / (n - 2), true) := by unfold deckE; rw [h, if_pos hm]
theorem deckE_no {n s : Nat} {L : List Int} (h : dsumTo L n = s) (hm : ¬ s % (n - 2) = 0) : deckE n L = (0, false) := by unfold deckE; rw [h, if_neg hm]

set_option maxHeartbeats 4000000 in
theorem specDeckEdges_3 (A : Option Addr) (c : Nat) (L : List Int) (hL : L.length = 3) (w : World) (h : Seen w A L) :
    Calls Tryd.prog 63 #[.int .i64 3, .slice A 3 c] w (NumD w (deSaid ((3 : Nat) : Int) L)) := by
  have HL := Lib.hid hL
  have H := Lib.hid h
  clear hL h
  go_enter Tryd.func63, Tryd.ntmps63
  go_wp2_with fail
  refine (in_yes _ _ _ _ (by decide) (by decide)).mono ?_
  rintro e w1 ⟨rfl, rfl⟩
  go_wp2
  go_loopw [6, 7] (fun s i wr => ∃ k m q : Nat, k ≤ 3 ∧ q ≤ 15 * k ∧ i = .int .i64 k ∧ s = .int .i64 q ∧ Hid (dsumTo L k = q ∧ ∀ j, j < k → CardAt 3 L j) ∧ wr = w.drewN m) (fun _ i _ => 3 - (intOf i).toNat)
  case atStart => exact ⟨0, 0, 0, by omega, by omega, rfl, rfl, Lib.hid ⟨rfl, fun j hj => absurd hj (by omega)⟩, rfl⟩
  case round =>
    obtain ⟨k, m, q, hk, hq, rfl, rfl, hs, ew⟩ := hrel
    have EW := Lib.hid ew
    by_cases hlt : k < 3
    · obtain ⟨blk, off, rfl, hbl, hc⟩ := H.out k (by have := HL.out; omega)
      have hcw : wr.cell? ⟨blk, off + k, none⟩ = some (.int .i64 (L[k]?.getD 0)) := by rw [ew]; exact hc
      have hi1 : (0 : Int) ≤ (k : Int) ∧ (k : Int) < 3 := by omega
      have hd : decide ((k : Int) < 3) = true := decide_eq_true hi1.2
      clear hc hbl ew
      by_cases hin : CardAt 3 L k
      · have hx := cardN_int hin
        have hx2 := hin.2
        have hx3 := pcf_le 15 (cardN L k)
        have hst : dsumTo L (k + 1) = dsumTo L k + pcf 15 (cardN L k) := rfl
        rw [hs.out.1] at hst
        have hx4 := cardN_lt hin (by decide)
        rw [hx] at hcw hx2
        have hx5 : codes (3 - 1) = 1 + 1 := by decide
        rw [hx5] at hx2
        obtain ⟨x, ex⟩ : ∃ x, x = cardN L k := ⟨_, rfl⟩
        rw [← ex] at hcw hx2 hx3 hx4 hst
        have hSZ := fun w => size_code x (by omega) w
        obtain ⟨p, ep⟩ : ∃ p, p = pcf 15 x := ⟨_, rfl⟩
        rw [← ep] at hx3 hst hSZ
        have hx0 : (0 : Int) ≤ (x : Int) := by omega
        have hx1 : (x : Int) ≤ 1 := by omega
        have HIN := Lib.hid hin
        have HST := Lib.hid hst
        have SZ := Lib.hid hSZ
        clear hx hx2 hx5 hx4 hin hst hSZ ex ep
        go_wp2
        go_quiet ((go_at_call 41; exact quietN (in_yes _ _ _ _ hx0 hx1)))
        go_wp2_with fail
        refine (SZ.out _).mono ?_
        rintro e w1 ⟨rfl, rfl⟩
        go_wp2
        go_roundw
        case rel => exact ⟨k + 1, _, q + p, by omega, by omega, by go_num, by go_num, Lib.hid ⟨HST.out, fun j hj => by
          rcases Nat.lt_succ_iff_lt_or_eq.1 hj with h | h
          · exact hs.out.2 j h
          · subst h; exact HIN.out⟩, by rw [EW.out, World.drewN_drewN]⟩
        case measure => simp [intOf]; omega
      · have hno : ¬ IsDeck 3 L := fun hd => hin (hd.2.2.2 k hlt)
        have hx : L[k]?.getD 0 < 0 ∨ 1 < L[k]?.getD 0 := by
          have hx5 : codes (3 - 1) = 1 + 1 := by decide
          unfold CardAt at hin
          rw [hx5] at hin
          omega
        obtain ⟨x, ex⟩ : ∃ x, x = L[k]?.getD 0 := ⟨_, rfl⟩
        rw [← ex] at hcw hx
        clear hin ex
        by_cases hx0 : x < 0
        · clear hx
          go_wp2
          go_quiet ((go_at_call 41; exact quietN (in_low _ _ _ _ hx0)))
          go_wp2
          go_ret2
          exact numD_no hno EW.out _
        · have hx1 : (0 : Int) ≤ x := by omega
          have hx2 : 1 < x := by omega
          clear hx hx0
          go_wp2
          go_quiet ((go_at_call 41; exact quietN (in_high _ _ _ _ hx1 hx2)))
          go_wp2
          go_ret2
          exact numD_no hno EW.out _
    · have hkn : k = 3 := by omega
      subst hkn
      have hyes : IsDeck 3 L := ⟨by decide, by decide, HL.out, hs.out.2⟩
      have hde := deSaid_yes hyes
      have hS := hs.out.1
      by_cases hm : q % (3 - 2) = 0
      · rw [deckE_yes hS hm] at hde
        have HD := Lib.hid hde
        have hmi : ((q : Int) % 1 != 0) = false := by simp
        clear hde hS hyes hm
        go_wp2
        go_ret2
        rw [HD.out]
        exact ⟨ret_two (by omega) rfl, m, by first | exact EW.out | rfl⟩
      · exfalso
        clear hs
        omega
set_option maxHeartbeats 4000000 in
theorem specDeckEdges_4 (A : Option Addr) (c : Nat) (L : List Int) (hL : L.length = 4) (w : World) (h : Seen w A L) :
    Calls Tryd.prog 63 #[.int .i64 4, .slice A 4 c] w (NumD w (deSaid ((4 : Nat) : Int) L)) := by
  have HL := Lib.hid hL
  have H := Lib.hid h
  clear hL h
  go_enter Tryd.func63, Tryd.ntmps63
  go_wp2_with fail
  refine (in_yes _ _ _ _ (by decide) (by decide)).mono ?_
  rintro e w1 ⟨rfl, rfl⟩
  go_wp2
  go_loopw [6, 7] (fun s i wr => ∃ k m q : Nat, k ≤ 4 ∧ q ≤ 15 * k ∧ i = .int .i64 k ∧ s = .int .i64 q ∧ Hid (dsumTo L k = q ∧ ∀ j, j < k → CardAt 4 L j) ∧ wr = w.drewN m) (fun _ i _ => 4 - (intOf i).toNat)
  case atStart => exact ⟨0, 0, 0, by omega, by omega, rfl, rfl, Lib.hid ⟨rfl, fun j hj => absurd hj (by omega)⟩, rfl⟩
  case round =>
    obtain ⟨k, m, q, hk, hq, rfl, rfl, hs, ew⟩ := hrel
    have EW := Lib.hid ew
    by_cases hlt : k < 4
    · obtain ⟨blk, off, rfl, hbl, hc⟩ := H.out k (by have := HL.out; omega)
      have hcw : wr.cell? ⟨blk, off + k, none⟩ = some (.int .i64 (L[k]?.getD 0)) := by rw [ew]; exact hc
      have hi1 : (0 : Int) ≤ (k : Int) ∧ (k : Int) < 4 := by omega
      have hd : decide ((k : Int) < 4) = true := decide_eq_true hi1.2
      clear hc hbl ew
      by_cases hin : CardAt 4 L k
      · have hx := cardN_int hin
        have hx2 := hin.2
        have hx3 := pcf_le 15 (cardN L k)
        have hst : dsumTo L (k + 1) = dsumTo L k + pcf 15 (cardN L k) := rfl
        rw [hs.out.1] at hst
        have hx4 := cardN_lt hin (by decide)
        rw [hx] at hcw hx2
        have hx5 : codes (4 - 1) = 7 + 1 := by decide
        rw [hx5] at hx2
        obtain ⟨x, ex⟩ : ∃ x, x = cardN L k := ⟨_, rfl⟩
        rw [← ex] at hcw hx2 hx3 hx4 hst
        have hSZ := fun w => size_code x (by omega) w
        obtain ⟨p, ep⟩ : ∃ p, p = pcf 15 x := ⟨_, rfl⟩
        rw [← ep] at hx3 hst hSZ
        have hx0 : (0 : Int) ≤ (x : Int) := by omega
        have hx1 : (x : Int) ≤ 7 := by omega
        have HIN := Lib.hid hin
        have HST := Lib.hid hst
        have SZ := Lib.hid hSZ
        clear hx hx2 hx5 hx4 hin hst hSZ ex ep
        go_wp2
        go_quiet ((go_at_call 41; exact quietN (in_yes _ _ _ _ hx0 hx1)))
        go_wp2_with fail
        refine (SZ.out _).mono ?_
        rintro e w1 ⟨rfl, rfl⟩
        go_wp2
        go_roundw
        case rel => exact ⟨k + 1, _, q + p, by omega, by omega, by go_num, by go_num, Lib.hid ⟨HST.out, fun j hj => by
          rcases Nat.lt_succ_iff_lt_or_eq.1 hj with h | h
          · exact hs.out.2 j h
          · subst h; exact HIN.out⟩, by rw [EW.out, World.drewN_drewN]⟩
        case measure => simp [intOf]; omega
      · have hno : ¬ IsDeck 4 L := fun hd => hin (hd.2.2.2 k hlt)
        have hx : L[k]?.getD 0 < 0 ∨ 7 < L[k]?.getD 0 := by
          have hx5 : codes (4 - 1) = 7 + 1 := by decide
          unfold CardAt at hin
          rw [hx5] at hin
          omega
        obtain ⟨x, ex⟩ : ∃ x, x = L[k]?.getD 0 := ⟨_, rfl⟩
        rw [← ex] at hcw hx
        clear hin ex
        by_cases hx0 : x < 0
        · clear hx
          go_wp2
          go_quiet ((go_at_call 41; exact quietN (in_low _ _ _ _ hx0)))
          go_wp2
          go_ret2
          exact numD_no hno EW.out _
        · have hx1 : (0 : Int) ≤ x := by omega
          have hx2 : 7 < x := by omega
          clear hx hx0
          go_wp2
          go_quiet ((go_at_call 41; exact quietN (in_high _ _ _ _ hx1 hx2)))
          go_wp2
          go_ret2
          exact numD_no hno EW.out _
    · have hkn : k = 4 := by omega
      subst hkn
      have hyes : IsDeck 4 L := ⟨by decide, by decide, HL.out, hs.out.2⟩
      have hde := deSaid_yes hyes
      have hS := hs.out.1
      by_cases hm : q % (4 - 2) = 0
      · rw [deckE_yes hS hm] at hde
        have HD := Lib.hid hde
        have hmi : ((q : Int) % 2 != 0) = false := by simp; omega
        clear hde hS hyes hm
        go_wp2
        go_ret2
        rw [HD.out]
        exact ⟨ret_two (by omega) rfl, m, by first | exact EW.out | rfl⟩
      · rw [deckE_no hS hm] at hde
        have HD := Lib.hid hde
        have hmi : ((q : Int) % 2 != 0) = true := by simp; omega
        have HM2 := Lib.hid hm
        clear hm
        clear hde hS hyes
        go_wp2
        go_ret2
        first
          | (exfalso; have hm3 := HM2.out; omega)
          | (rw [HD.out]; exact ⟨ret_two (by omega) rfl, m, by first | exact EW.out | rfl⟩)
set_option maxHeartbeats 4000000 in
theorem specDeckEdges_5 (A : Option Addr) (c : Nat) (L : List Int) (hL : L.length = 5) (w : World) (h : Seen w A L) :
    Calls Tryd.prog 63 #[.int .i64 5, .slice A 5 c] w (NumD w (deSaid ((5 : Nat) : Int) L)) := by
  have HL := Lib.hid hL
  have H := Lib.hid h
  clear hL h
  go_enter Tryd.func63, Tryd.ntmps63
  go_wp2_with fail
  refine (in_yes _ _ _ _ (by decide) (by decide)).mono ?_
  rintro e w1 ⟨rfl, rfl⟩
  go_wp2
  go_loopw [6, 7] (fun s i wr => ∃ k m q : Nat, k ≤ 5 ∧ q ≤ 15 * k ∧ i = .int .i64 k ∧ s = .int .i64 q ∧ Hid (dsumTo L k = q ∧ ∀ j, j < k → CardAt 5 L j) ∧ wr = w.drewN m) (fun _ i _ => 5 - (intOf i).toNat)
  case atStart => exact ⟨0, 0, 0, by omega, by omega, rfl, rfl, Lib.hid ⟨rfl, fun j hj => absurd hj (by omega)⟩, rfl⟩
  case round =>
    obtain ⟨k, m, q, hk, hq, rfl, rfl, hs, ew⟩ := hrel
    have EW := Lib.hid ew
    by_cases hlt : k < 5
    · obtain ⟨blk, off, rfl, hbl, hc⟩ := H.out k (by have := HL.out; omega)
      have hcw : wr.cell? ⟨blk, off + k, none⟩ = some (.int .i64 (L[k]?.getD 0)) := by rw [ew]; exact hc
      have hi1 : (0 : Int) ≤ (k : Int) ∧ (k : Int) < 5 := by omega
      have hd : decide ((k : Int) < 5) = true := decide_eq_true hi1.2
      clear hc hbl ew
      by_cases hin : CardAt 5 L k
      · have hx := cardN_int hin
        have hx2 := hin.2
        have hx3 := pcf_le 15 (cardN L k)
        have hst : dsumTo L (k + 1) = dsumTo L k + pcf 15 (cardN L k) := rfl
        rw [hs.out.1] at hst
        have hx4 := cardN_lt hin (by decide)
        rw [hx] at hcw hx2
        have hx5 : codes (5 - 1) = 63 + 1 := by decide
        rw [hx5] at hx2
        obtain ⟨x, ex⟩ : ∃ x, x = cardN L k := ⟨_, rfl⟩
        rw [← ex] at hcw hx2 hx3 hx4 hst
        have hSZ := fun w => size_code x (by omega) w
        obtain ⟨p, ep⟩ : ∃ p, p = pcf 15 x := ⟨_, rfl⟩
        rw [← ep] at hx3 hst hSZ
        have hx0 : (0 : Int) ≤ (x : Int) := by omega
        have hx1 : (x : Int) ≤ 63 := by omega
        have HIN := Lib.hid hin
        have HST := Lib.hid hst
        have SZ := Lib.hid hSZ
        clear hx hx2 hx5 hx4 hin hst hSZ ex ep
        go_wp2
        go_quiet ((go_at_call 41; exact quietN (in_yes _ _ _ _ hx0 hx1)))
        go_wp2_with fail
        refine (SZ.out _).mono ?_
        rintro e w1 ⟨rfl, rfl⟩
        go_wp2
        go_roundw
        case rel => exact ⟨k + 1, _, q + p, by omega, by omega, by go_num, by go_num, Lib.hid ⟨HST.out, fun j hj => by
          rcases Nat.lt_succ_iff_lt_or_eq.1 hj with h | h
          · exact hs.out.2 j h
          · subst h; exact HIN.out⟩, by rw [EW.out, World.drewN_drewN]⟩
        case measure => simp [intOf]; omega
      · have hno : ¬ IsDeck 5 L := fun hd => hin (hd.2.2.2 k hlt)
        have hx : L[k]?.getD 0 < 0 ∨ 63 < L[k]?.getD 0 := by
          have hx5 : codes (5 - 1) = 63 + 1 := by decide
          unfold CardAt at hin
          rw [hx5] at hin
          omega
        obtain ⟨x, ex⟩ : ∃ x, x = L[k]?.getD 0 := ⟨_, rfl⟩
        rw [← ex] at hcw hx
        clear hin ex
        by_cases hx0 : x < 0
        · clear hx
          go_wp2
          go_quiet ((go_at_call 41; exact quietN (in_low _ _ _ _ hx0)))
          go_wp2
          go_ret2
          exact numD_no hno EW.out _
        · have hx1 : (0 : Int) ≤ x := by omega
          have hx2 : 63 < x := by omega
          clear hx hx0
          go_wp2
          go_quiet ((go_at_call 41; exact quietN (in_high _ _ _ _ hx1 hx2)))
          go_wp2
          go_ret2
          exact numD_no hno EW.out _
    · have hkn : k = 5 := by omega
      subst hkn
      have hyes : IsDeck 5 L := ⟨by decide, by decide, HL.out, hs.out.2⟩
      have hde := deSaid_yes hyes
      have hS := hs.out.1
      by_cases hm : q % (5 - 2) = 0
      · rw [deckE_yes hS hm] at hde
        have HD := Lib.hid hde
        have hmi : ((q : Int) % 3 != 0) = false := by simp; omega
        clear hde hS hyes hm
        go_wp2
        go_ret2
        rw [HD.out]
        exact ⟨ret_two (by omega) rfl, m, by first | exact EW.out | rfl⟩
      · rw [deckE_no hS hm] at hde
        have HD := Lib.hid hde
        have hmi : ((q : Int) % 3 != 0) = true := by simp; omega
        have HM2 := Lib.hid hm
        clear hm
        clear hde hS hyes
        go_wp2
        go_ret2
        first
          | (exfalso; have hm3 := HM2.out; omega)
          | (rw [HD.out]; exact ⟨ret_two (by omega) rfl, m, by first | exact EW.out | rfl⟩)
set_option maxHeartbeats 4000000 in
theorem specDeckEdges_6 (A : Option Addr) (c : Nat) (L : List Int) (hL : L.length = 6) (w : World) (h : Seen w A L) :
    Calls Tryd.prog 63 #[.int .i64 6, .slice A 6 c] w (NumD w (deSaid ((6 : Nat) : Int) L)) := by
  have HL := Lib.hid hL
  have H := Lib.hid h
  clear hL h
  go_enter Tryd.func63, Tryd.ntmps63
  go_wp2_with fail
  refine (in_yes _ _ _ _ (by decide) (by decide)).mono ?_
  rintro e w1 ⟨rfl, rfl⟩
  go_wp2
  go_loopw [6, 7] (fun s i wr => ∃ k m q : Nat, k ≤ 6 ∧ q ≤ 15 * k ∧ i = .int .i64 k ∧ s = .int .i64 q ∧ Hid (dsumTo L k = q ∧ ∀ j, j < k → CardAt 6 L j) ∧ wr = w.drewN m) (fun _ i _ => 6 - (intOf i).toNat)
  case atStart => exact ⟨0, 0, 0, by omega, by omega, rfl, rfl, Lib.hid ⟨rfl, fun j hj => absurd hj (by omega)⟩, rfl⟩
  case round =>
    obtain ⟨k, m, q, hk, hq, rfl, rfl, hs, ew⟩ := hrel
    have EW := Lib.hid ew
    by_cases hlt : k < 6
    · obtain ⟨blk, off, rfl, hbl, hc⟩ := H.out k (by have := HL.out; omega)
      have hcw : wr.cell? ⟨blk, off + k, none⟩ = some (.int .i64 (L[k]?.getD 0)) := by rw [ew]; exact hc
      have hi1 : (0 : Int) ≤ (k : Int) ∧ (k : Int) < 6 := by omega
      have hd : decide ((k : Int) < 6) = true := decide_eq_true hi1.2
      clear hc hbl ew
      by_cases hin : CardAt 6 L k
      · have hx := cardN_int hin
        have hx2 := hin.2
        have hx3 := pcf_le 15 (cardN L k)
        have hst : dsumTo L (k + 1) = dsumTo L k + pcf 15 (cardN L k) := rfl
        rw [hs.out.1] at hst
        have hx4 := cardN_lt hin (by decide)
        rw [hx] at hcw hx2
        have hx5 : codes (6 - 1) = 1023 + 1 := by decide
        rw [hx5] at hx2
        obtain ⟨x, ex⟩ : ∃ x, x = cardN L k := ⟨_, rfl⟩
        rw [← ex] at hcw hx2 hx3 hx4 hst
        have hSZ := fun w => size_code x (by omega) w
        obtain ⟨p, ep⟩ : ∃ p, p = pcf 15 x := ⟨_, rfl⟩
        rw [← ep] at hx3 hst hSZ
        have hx0 : (0 : Int) ≤ (x : Int) := by omega
        have hx1 : (x : Int) ≤ 1023 := by omega
        have HIN := Lib.hid hin
        have HST := Lib.hid hst
        have SZ := Lib.hid hSZ
        clear hx hx2 hx5 hx4 hin hst hSZ ex ep
        go_wp2
        go_quiet ((go_at_call 41; exact quietN (in_yes _ _ _ _ hx0 hx1)))
        go_wp2_with fail
        refine (SZ.out _).mono ?_
        rintro e w1 ⟨rfl, rfl⟩
        go_wp2
        go_roundw
        case rel => exact ⟨k + 1, _, q + p, by omega, by omega, by go_num, by go_num, Lib.hid ⟨HST.out, fun j hj => by
          rcases Nat.lt_succ_iff_lt_or_eq.1 hj with h | h
          · exact hs.out.2 j h
          · subst h; exact HIN.out⟩, by rw [EW.out, World.drewN_drewN]⟩
        case measure => simp [intOf]; omega
      · have hno : ¬ IsDeck 6 L := fun hd => hin (hd.2.2.2 k hlt)
        have hx : L[k]?.getD 0 < 0 ∨ 1023 < L[k]?.getD 0 := by
          have hx5 : codes (6 - 1) = 1023 + 1 := by decide
          unfold CardAt at hin
          rw [hx5] at hin
          omega
        obtain ⟨x, ex⟩ : ∃ x, x = L[k]?.getD 0 := ⟨_, rfl⟩
        rw [← ex] at hcw hx
        clear hin ex
        by_cases hx0 : x < 0
        · clear hx
          go_wp2
          go_quiet ((go_at_call 41; exact quietN (in_low _ _ _ _ hx0)))
          go_wp2
          go_ret2
          exact numD_no hno EW.out _
        · have hx1 : (0 : Int) ≤ x := by omega
          have hx2 : 1023 < x := by omega
          clear hx hx0
          go_wp2
          go_quiet ((go_at_call 41; exact quietN (in_high _ _ _ _ hx1 hx2)))
          go_wp2
          go_ret2
          exact numD_no hno EW.out _
    · have hkn : k = 6 := by omega
      subst hkn
      have hyes : IsDeck 6 L := ⟨by decide, by decide, HL.out, hs.out.2⟩
      have hde := deSaid_yes hyes
      have hS := hs.out.1
      by_cases hm : q % (6 - 2) = 0
      · rw [deckE_yes hS hm] at hde
        have HD := Lib.hid hde
        have hmi : ((q : Int) % 4 != 0) = false := by simp; omega
        clear hde hS hyes hm
        go_wp2
        go_ret2
        rw [HD.out]
        exact ⟨ret_two (by omega) rfl, m, by first | exact EW.out | rfl⟩
      · rw [deckE_no hS hm] at hde
        have HD := Lib.hid hde
        have hmi : ((q : Int) % 4 != 0) = true := by simp; omega
        have HM2 := Lib.hid hm
        clear hm
        clear hde hS hyes
        go_wp2
        go_ret2
        first
          | (exfalso; have hm3 := HM2.out; omega)
          | (rw [HD.out]; exact ⟨ret_two (by omega) rfl, m, by first | exact EW.out | rfl⟩)
theorem specDeckEdges_seen (n : Nat) (A : Option Addr) (c : Nat) (L : List Int) (hn : n = 3 ∨ n = 4 ∨ n = 5 ∨ n = 6) (hL : L.length = n) (w : World) (h : Seen w A L) :
    Calls Tryd.prog 63 #[.int .i64 n, .slice A n c] w (NumD w (deSaid n L)) := by
  rcases hn with rfl | rfl | rfl | rfl
  · exact specDeckEdges_3 A c L hL w h
  · exact specDeckEdges_4 A c L hL w h
  · exact specDeckEdges_5 A c L hL w h
  · exact specDeckEdges_6 A c L hL w h
theorem specDeckEdges_low (n : Int) (A : Option Addr) (l c : Nat) (w : World) (h : n < 3) :
    Calls Tryd.prog 63 #[.int .i64 n, .slice A l c] w (NumD w (0, false)) := by
  go_enter Tryd.func63, Tryd.ntmps63
  go_wp2_with fail
  refine (in_low _ _ _ _ h).mono ?_
  rintro e w1 ⟨rfl, rfl⟩
  go_wp2
  go_ret2
  exact ⟨rfl, 0, rfl⟩
theorem specDeckEdges_high (n : Int) (A : Option Addr) (l c : Nat) (w : World) (h : 6 < n) :
    Calls Tryd.prog 63 #[.int .i64 n, .slice A l c] w (NumD w (0, false)) := by
  have h1 : (3 : Int) ≤ n := by omega
  go_enter Tryd.func63, Tryd.ntmps63
  go_wp2_with fail
  refine (in_high _ _ _ _ h1 h).mono ?_
  rintro e w1 ⟨rfl, rfl⟩
  go_wp2
  go_ret2
  exact ⟨rfl, 0, rfl⟩
theorem specDeckEdges_size (n : Int) (A : Option Addr) (l c : Nat) (w : World) (h3 : 3 ≤ n) (h6 : n ≤ 6) (hl : (l : Int) ≠ n) :
    Calls Tryd.prog 63 #[.int .i64 n, .slice A l c] w (NumD w (0, false)) := by
  have hb : ((l : Int) != n) = true := by simpa using hl
  go_enter Tryd.func63, Tryd.ntmps63
  go_wp2_with fail
  refine (in_yes _ _ _ _ h3 h6).mono ?_
  rintro e w1 ⟨rfl, rfl⟩
  go_wp2
  go_ret2
  exact ⟨rfl, 0, rfl⟩
/-- **The model's DeckEdges, at all numbers and lists.** -/
theorem specDeckEdges_any (n : Int) (A : Option Addr) (c : Nat) (L : List Int) (w : World) (h : Seen w A L) :
    Calls Tryd.prog 63 #[.int .i64 n, .slice A L.length c] w (NumD w (deSaid n L)) := by
  by_cases h3 : n < 3
  · rw [deSaid_no (fun hd => by have := hd.1; have := hd.2.1; omega)]
    exact specDeckEdges_low n A _ c w h3
  · by_cases h6 : 6 < n
    · rw [deSaid_no (fun hd => by have := hd.1; have := hd.2.2.1; omega)]
      exact specDeckEdges_high n A _ c w h6
    · by_cases hl : (L.length : Int) = n
      · subst hl
        exact specDeckEdges_seen L.length A c L (by omega) rfl w h
      · rw [deSaid_no (fun hd => by have := hd.1; have := hd.2.2.2.1; omega)]
        exact specDeckEdges_size n A _ c w (by omega) (by omega) hl
end Go.Proofs.YtogmfbhnnnoipaaDoor
