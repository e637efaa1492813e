/- The program's deck.edges: the sum of all cards' edges over the number of nodes less 2. -/
import Derived.Test.YtogmfbhnnnoipaaDoorDeckMath
import Derived.Test.YtogmfbhnnnoipaaDoorOnesBig
import Derived.Test.YtogmfbhnnnoipaaDoorBaseA
namespace Go.Proofs.YtogmfbhnnnoipaaDoor
open Go.RowKit
set_option linter.unusedVariables false
set_option maxRecDepth 100000

/-- How a call that tells a number and a bool and leaves all as it was ends. -/
def NumP (w : World) (p : Nat × Bool) (e : Ending) (w' : World) : Prop := e = .returned (.tuple #[.int .i64 (p.1 : Nat), .bool p.2]) ∧ w = w'
theorem retTwo {a b : Int} {c d : Bool} (h : a = b) (h2 : c = d) : Ending.returned (.tuple #[.int .i64 a, .bool c]) = .returned (.tuple #[.int .i64 b, .bool d]) := by rw [h, h2]
theorem deckE_y {n s : Nat} {L : List Int} (h : dsumTo L n = s) (hm : s % (n - 2) = 0) : deckE n L = (s / (n - 2), true) := by unfold deckE; rw [h, if_pos hm]
theorem deckE_n {n s : Nat} {L : List Int} (h : dsumTo L n = s) (hm : ¬ s % (n - 2) = 0) : deckE n L = (0, false) := by unfold deckE; rw [h, if_neg hm]

set_option maxHeartbeats 4000000 in
theorem deckEdges_3 (A : Option Addr) (c : Nat) (L : List Int) (hd : IsDeck 3 L) (w : World) (h : Seen w A L) :
    Calls Tryd.prog 88 #[.slice A 3 c] w (NumP w (deckE 3 L)) := by
  have HL := Lib.hid hd.2.2.1
  have HC := Lib.hid hd.2.2.2
  have H := Lib.hid h
  clear hd h
  go_enter Tryd.func88, Tryd.ntmps88
  go_wp2
  go_loop [4, 13] (fun s i => ∃ k q : Nat, k ≤ 3 ∧ q ≤ 15 * k ∧ i = .int .i64 k ∧ s = .int .i64 q ∧ Hid (dsumTo L k = q)) (fun _ i => 3 - (intOf i).toNat)
  case atStart => exact ⟨0, 0, by omega, by omega, rfl, rfl, Lib.hid rfl⟩
  case round =>
    obtain ⟨k, q, hk, hq, rfl, rfl, hs⟩ := hrel
    by_cases hlt : k < 3
    · obtain ⟨blk, off, rfl, hbl, hc⟩ := H.out k (by have := HL.out; omega)
      have hi1 : (0 : Int) ≤ (k : Int) ∧ (k : Int) < 3 := by omega
      have hd : decide ((k : Int) < 3) = true := decide_eq_true hi1.2
      have hin := HC.out k hlt
      have hx := cardN_int hin
      have hx4 := cardN_lt hin (by decide)
      have hx3 := pcf_le 15 (cardN L k)
      have hst : dsumTo L (k + 1) = dsumTo L k + pcf 15 (cardN L k) := rfl
      rw [hs.out] at hst
      rw [hx] at hc
      obtain ⟨x, ex⟩ : ∃ x, x = cardN L k := ⟨_, rfl⟩
      rw [← ex] at hc hx3 hx4 hst
      have hSZ := fun w => cardEdges_any x hx4 w
      obtain ⟨p, ep⟩ : ∃ p, p = pcf 15 x := ⟨_, rfl⟩
      rw [← ep] at hx3 hst hSZ
      have HST := Lib.hid hst
      have SZ := Lib.hid hSZ
      clear hx hx4 hin hst hSZ ex ep hbl
      go_wp2_with fail
      refine (SZ.out _).mono ?_
      rintro e w1 ⟨rfl, rfl⟩
      go_wp2
      go_round
      case rel => exact ⟨k + 1, q + p, by omega, by omega, by go_num, by go_num, HST⟩
      case measure => simp [intOf]; omega
    · have hkn : k = 3 := by omega
      subst hkn
      have hS := hs.out
      by_cases hm : q % (3 - 2) = 0
      · have HD := Lib.hid (deckE_y hS hm)
        have hmi : ((q : Int) % 1 != 0) = false := by simp
        clear hS hm
        go_wp2
        go_ret2
        rw [HD.out]
        exact ⟨retTwo (by omega) rfl, rfl⟩
      · exfalso
        clear hs
        omega
set_option maxHeartbeats 4000000 in
theorem deckEdges_4 (A : Option Addr) (c : Nat) (L : List Int) (hd : IsDeck 4 L) (w : World) (h : Seen w A L) :
    Calls Tryd.prog 88 #[.slice A 4 c] w (NumP w (deckE 4 L)) := by
  have HL := Lib.hid hd.2.2.1
  have HC := Lib.hid hd.2.2.2
  have H := Lib.hid h
  clear hd h
  go_enter Tryd.func88, Tryd.ntmps88
  go_wp2
  go_loop [4, 13] (fun s i => ∃ k q : Nat, k ≤ 4 ∧ q ≤ 15 * k ∧ i = .int .i64 k ∧ s = .int .i64 q ∧ Hid (dsumTo L k = q)) (fun _ i => 4 - (intOf i).toNat)
  case atStart => exact ⟨0, 0, by omega, by omega, rfl, rfl, Lib.hid rfl⟩
  case round =>
    obtain ⟨k, q, hk, hq, rfl, rfl, hs⟩ := hrel
    by_cases hlt : k < 4
    · obtain ⟨blk, off, rfl, hbl, hc⟩ := H.out k (by have := HL.out; omega)
      have hi1 : (0 : Int) ≤ (k : Int) ∧ (k : Int) < 4 := by omega
      have hd : decide ((k : Int) < 4) = true := decide_eq_true hi1.2
      have hin := HC.out k hlt
      have hx := cardN_int hin
      have hx4 := cardN_lt hin (by decide)
      have hx3 := pcf_le 15 (cardN L k)
      have hst : dsumTo L (k + 1) = dsumTo L k + pcf 15 (cardN L k) := rfl
      rw [hs.out] at hst
      rw [hx] at hc
      obtain ⟨x, ex⟩ : ∃ x, x = cardN L k := ⟨_, rfl⟩
      rw [← ex] at hc hx3 hx4 hst
      have hSZ := fun w => cardEdges_any x hx4 w
      obtain ⟨p, ep⟩ : ∃ p, p = pcf 15 x := ⟨_, rfl⟩
      rw [← ep] at hx3 hst hSZ
      have HST := Lib.hid hst
      have SZ := Lib.hid hSZ
      clear hx hx4 hin hst hSZ ex ep hbl
      go_wp2_with fail
      refine (SZ.out _).mono ?_
      rintro e w1 ⟨rfl, rfl⟩
      go_wp2
      go_round
      case rel => exact ⟨k + 1, q + p, by omega, by omega, by go_num, by go_num, HST⟩
      case measure => simp [intOf]; omega
    · have hkn : k = 4 := by omega
      subst hkn
      have hS := hs.out
      by_cases hm : q % (4 - 2) = 0
      · have HD := Lib.hid (deckE_y hS hm)
        have hmi : ((q : Int) % 2 != 0) = false := by simp; omega
        clear hS hm
        go_wp2
        go_ret2
        rw [HD.out]
        exact ⟨retTwo (by omega) rfl, rfl⟩
      · have HD := Lib.hid (deckE_n hS hm)
        have hmi : ((q : Int) % 2 != 0) = true := by simp; omega
        have HM2 := Lib.hid hm
        clear hm
        clear hS
        go_wp2
        go_ret2
        first
          | (exfalso; have hm3 := HM2.out; omega)
          | (rw [HD.out]; exact ⟨retTwo (by omega) rfl, rfl⟩)
set_option maxHeartbeats 4000000 in
theorem deckEdges_5 (A : Option Addr) (c : Nat) (L : List Int) (hd : IsDeck 5 L) (w : World) (h : Seen w A L) :
    Calls Tryd.prog 88 #[.slice A 5 c] w (NumP w (deckE 5 L)) := by
  have HL := Lib.hid hd.2.2.1
  have HC := Lib.hid hd.2.2.2
  have H := Lib.hid h
  clear hd h
  go_enter Tryd.func88, Tryd.ntmps88
  go_wp2
  go_loop [4, 13] (fun s i => ∃ k q : Nat, k ≤ 5 ∧ q ≤ 15 * k ∧ i = .int .i64 k ∧ s = .int .i64 q ∧ Hid (dsumTo L k = q)) (fun _ i => 5 - (intOf i).toNat)
  case atStart => exact ⟨0, 0, by omega, by omega, rfl, rfl, Lib.hid rfl⟩
  case round =>
    obtain ⟨k, q, hk, hq, rfl, rfl, hs⟩ := hrel
    by_cases hlt : k < 5
    · obtain ⟨blk, off, rfl, hbl, hc⟩ := H.out k (by have := HL.out; omega)
      have hi1 : (0 : Int) ≤ (k : Int) ∧ (k : Int) < 5 := by omega
      have hd : decide ((k : Int) < 5) = true := decide_eq_true hi1.2
      have hin := HC.out k hlt
      have hx := cardN_int hin
      have hx4 := cardN_lt hin (by decide)
      have hx3 := pcf_le 15 (cardN L k)
      have hst : dsumTo L (k + 1) = dsumTo L k + pcf 15 (cardN L k) := rfl
      rw [hs.out] at hst
      rw [hx] at hc
      obtain ⟨x, ex⟩ : ∃ x, x = cardN L k := ⟨_, rfl⟩
      rw [← ex] at hc hx3 hx4 hst
      have hSZ := fun w => cardEdges_any x hx4 w
      obtain ⟨p, ep⟩ : ∃ p, p = pcf 15 x := ⟨_, rfl⟩
      rw [← ep] at hx3 hst hSZ
      have HST := Lib.hid hst
      have SZ := Lib.hid hSZ
      clear hx hx4 hin hst hSZ ex ep hbl
      go_wp2_with fail
      refine (SZ.out _).mono ?_
      rintro e w1 ⟨rfl, rfl⟩
      go_wp2
      go_round
      case rel => exact ⟨k + 1, q + p, by omega, by omega, by go_num, by go_num, HST⟩
      case measure => simp [intOf]; omega
    · have hkn : k = 5 := by omega
      subst hkn
      have hS := hs.out
      by_cases hm : q % (5 - 2) = 0
      · have HD := Lib.hid (deckE_y hS hm)
        have hmi : ((q : Int) % 3 != 0) = false := by simp; omega
        clear hS hm
        go_wp2
        go_ret2
        rw [HD.out]
        exact ⟨retTwo (by omega) rfl, rfl⟩
      · have HD := Lib.hid (deckE_n hS hm)
        have hmi : ((q : Int) % 3 != 0) = true := by simp; omega
        have HM2 := Lib.hid hm
        clear hm
        clear hS
        go_wp2
        go_ret2
        first
          | (exfalso; have hm3 := HM2.out; omega)
          | (rw [HD.out]; exact ⟨retTwo (by omega) rfl, rfl⟩)
set_option maxHeartbeats 4000000 in
theorem deckEdges_6 (A : Option Addr) (c : Nat) (L : List Int) (hd : IsDeck 6 L) (w : World) (h : Seen w A L) :
    Calls Tryd.prog 88 #[.slice A 6 c] w (NumP w (deckE 6 L)) := by
  have HL := Lib.hid hd.2.2.1
  have HC := Lib.hid hd.2.2.2
  have H := Lib.hid h
  clear hd h
  go_enter Tryd.func88, Tryd.ntmps88
  go_wp2
  go_loop [4, 13] (fun s i => ∃ k q : Nat, k ≤ 6 ∧ q ≤ 15 * k ∧ i = .int .i64 k ∧ s = .int .i64 q ∧ Hid (dsumTo L k = q)) (fun _ i => 6 - (intOf i).toNat)
  case atStart => exact ⟨0, 0, by omega, by omega, rfl, rfl, Lib.hid rfl⟩
  case round =>
    obtain ⟨k, q, hk, hq, rfl, rfl, hs⟩ := hrel
    by_cases hlt : k < 6
    · obtain ⟨blk, off, rfl, hbl, hc⟩ := H.out k (by have := HL.out; omega)
      have hi1 : (0 : Int) ≤ (k : Int) ∧ (k : Int) < 6 := by omega
      have hd : decide ((k : Int) < 6) = true := decide_eq_true hi1.2
      have hin := HC.out k hlt
      have hx := cardN_int hin
      have hx4 := cardN_lt hin (by decide)
      have hx3 := pcf_le 15 (cardN L k)
      have hst : dsumTo L (k + 1) = dsumTo L k + pcf 15 (cardN L k) := rfl
      rw [hs.out] at hst
      rw [hx] at hc
      obtain ⟨x, ex⟩ : ∃ x, x = cardN L k := ⟨_, rfl⟩
      rw [← ex] at hc hx3 hx4 hst
      have hSZ := fun w => cardEdges_any x hx4 w
      obtain ⟨p, ep⟩ : ∃ p, p = pcf 15 x := ⟨_, rfl⟩
      rw [← ep] at hx3 hst hSZ
      have HST := Lib.hid hst
      have SZ := Lib.hid hSZ
      clear hx hx4 hin hst hSZ ex ep hbl
      go_wp2_with fail
      refine (SZ.out _).mono ?_
      rintro e w1 ⟨rfl, rfl⟩
      go_wp2
      go_round
      case rel => exact ⟨k + 1, q + p, by omega, by omega, by go_num, by go_num, HST⟩
      case measure => simp [intOf]; omega
    · have hkn : k = 6 := by omega
      subst hkn
      have hS := hs.out
      by_cases hm : q % (6 - 2) = 0
      · have HD := Lib.hid (deckE_y hS hm)
        have hmi : ((q : Int) % 4 != 0) = false := by simp; omega
        clear hS hm
        go_wp2
        go_ret2
        rw [HD.out]
        exact ⟨retTwo (by omega) rfl, rfl⟩
      · have HD := Lib.hid (deckE_n hS hm)
        have hmi : ((q : Int) % 4 != 0) = true := by simp; omega
        have HM2 := Lib.hid hm
        clear hm
        clear hS
        go_wp2
        go_ret2
        first
          | (exfalso; have hm3 := HM2.out; omega)
          | (rw [HD.out]; exact ⟨retTwo (by omega) rfl, rfl⟩)
/-- **edges, of a deck.** -/
theorem deckEdges_any (n : Nat) (A : Option Addr) (c : Nat) (L : List Int) (hd : IsDeck n L) (w : World) (h : Seen w A L) :
    Calls Tryd.prog 88 #[.slice A n c] w (NumP w (deckE n L)) := by
  have h1 := hd.1
  have h2 := hd.2.1
  have hn : n = 3 ∨ n = 4 ∨ n = 5 ∨ n = 6 := by omega
  rcases hn with rfl | rfl | rfl | rfl
  · exact deckEdges_3 A c L hd w h
  · exact deckEdges_4 A c L hd w h
  · exact deckEdges_5 A c L hd w h
  · exact deckEdges_6 A c L hd w h
end Go.Proofs.YtogmfbhnnnoipaaDoor
