/- asDeck: whether a list is the deck of a graph of n nodes. -/
import Derived.Test.YtogmfbhnnnoipaaDoorDeckMath
import Derived.Test.YtogmfbhnnnoipaaDoorBaseA
namespace Go.Proofs.YtogmfbhnnnoipaaDoor
open Go.RowKit
set_option linter.unusedVariables false
set_option maxRecDepth 100000

def AsD (w : World) (v : Value) (e : Ending) (w' : World) : Prop := e = .returned (.tuple #[v, .bool true]) ∧ w = w'
def AsDNo (w : World) (e : Ending) (w' : World) : Prop := e = .returned (.tuple #[.slice none 0 0, .bool false]) ∧ w = w'
theorem asDeck_low (n : Int) (A : Option Addr) (l c : Nat) (w : World) (h : n < 3) :
    Calls Tryd.prog 65 #[.int .i64 n, .slice A l c] w (AsDNo w) := by
  have hb : decide (n < 3) = true := decide_eq_true h
  go_enter Tryd.func65, Tryd.ntmps65
  go_wp2
  go_ret2
  exact ⟨rfl, rfl⟩
theorem asDeck_high (n : Int) (A : Option Addr) (l c : Nat) (w : World) (h : 6 < n) :
    Calls Tryd.prog 65 #[.int .i64 n, .slice A l c] w (AsDNo w) := by
  have hb : decide (n < 3) = false := decide_eq_false (by omega)
  have hb2 : decide (6 < n) = true := decide_eq_true h
  go_enter Tryd.func65, Tryd.ntmps65
  go_wp2
  go_ret2
  exact ⟨rfl, rfl⟩
theorem asDeck_size (n : Int) (A : Option Addr) (l c : Nat) (w : World) (h3 : 3 ≤ n) (h6 : n ≤ 6) (hl : (l : Int) ≠ n) :
    Calls Tryd.prog 65 #[.int .i64 n, .slice A l c] w (AsDNo w) := by
  have hb : decide (n < 3) = false := decide_eq_false (by omega)
  have hb2 : decide (6 < n) = false := decide_eq_false (by omega)
  have hb3 : ((l : Int) != n) = true := by simpa using hl
  go_enter Tryd.func65, Tryd.ntmps65
  go_wp2
  go_ret2
  exact ⟨rfl, rfl⟩
set_option maxHeartbeats 2000000 in
theorem asDeck_seen (n m : Nat) (A : Option Addr) (c : Nat) (L : List Int) (h3 : 3 ≤ n) (h6 : n ≤ 6) (hm : n = m + 1) (hL : L.length = n) (w : World) (h : Seen w A L) :
    Calls Tryd.prog 65 #[.int .i64 n, .slice A n c] w (fun e w' => (IsDeck n L → AsD w (.slice A n c) e w') ∧ (¬ IsDeck n L → AsDNo w e w')) := by
  have hb : decide ((n : Int) < 3) = false := decide_eq_false (by omega)
  have hb2 : decide (6 < (n : Int)) = false := decide_eq_false (by omega)
  have hs1 : (n : Int) - 1 = (m : Int) := by omega
  have HL := Lib.hid hL
  have H := Lib.hid h
  have H3 := Lib.hid h3
  have HM := Lib.hid hm
  clear hL h h3 hm
  go_enter Tryd.func65, Tryd.ntmps65
  go_wp2
  go_loop [22] (fun i => ∃ k : Nat, k ≤ n ∧ i = .int .i64 k ∧ Hid (∀ j, j < k → CardAt n L j)) (fun i => n - (intOf i).toNat)
  case atStart => exact ⟨0, by omega, rfl, Lib.hid (fun j hj => absurd hj (by omega))⟩
  case round =>
    obtain ⟨k, hk, rfl, hs⟩ := hrel
    by_cases hlt : k < n
    · obtain ⟨blk, off, rfl, hbl, hc⟩ := H.out k (by have := HL.out; omega)
      have hi1 : (0 : Int) ≤ (k : Int) ∧ (k : Int) < (n : Int) := by omega
      have hd : decide ((k : Int) < (n : Int)) = true := decide_eq_true hi1.2
      have hIC := fun w => isCode_any m (L[k]?.getD 0) w (by have := H3.out; have := HM.out; omega) (by have := HM.out; omega)
      have hcm : m = n - 1 := by have := HM.out; omega
      by_cases hin : CardAt n L k
      · have hdt : decide (0 ≤ L[k]?.getD 0 ∧ L[k]?.getD 0 < (codes m : Int)) = true := decide_eq_true (by rw [hcm]; exact hin)
        rw [hdt] at hIC
        have HIN := Lib.hid hin
        have IC := Lib.hid hIC
        obtain ⟨x, ex⟩ : ∃ x, x = L[k]?.getD 0 := ⟨_, rfl⟩
        rw [← ex] at IC hc
        clear hin hIC hdt ex hcm hbl
        go_wp2_with fail
        refine (IC.out _).mono ?_
        rintro e w1 ⟨rfl, rfl⟩
        go_wp2
        go_round
        case rel => exact ⟨k + 1, by omega, by go_num, Lib.hid (fun j hj => by
          rcases Nat.lt_succ_iff_lt_or_eq.1 hj with h | h
          · exact hs.out j h
          · subst h; exact HIN.out)⟩
        case measure => simp [intOf]; omega
      · have hdt : decide (0 ≤ L[k]?.getD 0 ∧ L[k]?.getD 0 < (codes m : Int)) = false := decide_eq_false (by rw [hcm]; exact hin)
        rw [hdt] at hIC
        have HNO := Lib.hid (show ¬ IsDeck n L from fun hd => hin (hd.2.2.2 k hlt))
        have IC := Lib.hid hIC
        obtain ⟨x, ex⟩ : ∃ x, x = L[k]?.getD 0 := ⟨_, rfl⟩
        rw [← ex] at IC hc
        clear hin hIC hdt ex hcm hbl
        go_wp2_with fail
        refine (IC.out _).mono ?_
        rintro e w1 ⟨rfl, rfl⟩
        go_wp2
        go_ret2
        exact ⟨fun h => absurd h HNO.out, fun _ => ⟨rfl, rfl⟩⟩
    · have hkn : k = n := by omega
      subst hkn
      go_wp2
      go_ret2
      exact ⟨fun _ => ⟨rfl, rfl⟩, fun h => absurd ⟨H3.out, by assumption, HL.out, hs.out⟩ h⟩
/-- **asDeck, at all numbers and lists.** -/
theorem asDeck_any (n : Int) (A : Option Addr) (c : Nat) (L : List Int) (w : World) (h : Seen w A L) :
    Calls Tryd.prog 65 #[.int .i64 n, .slice A L.length c] w
      (fun e w' => (n = (n.toNat : Int) ∧ IsDeck n.toNat L → AsD w (.slice A L.length c) e w') ∧ (¬ (n = (n.toNat : Int) ∧ IsDeck n.toNat L) → AsDNo w e w')) := by
  by_cases h3 : n < 3
  · exact (asDeck_low n A _ c w h3).mono fun e w' h => ⟨fun hd => by have := hd.1; have := hd.2.1; omega, fun _ => h⟩
  · by_cases h6 : 6 < n
    · exact (asDeck_high n A _ c w h6).mono fun e w' h => ⟨fun hd => by have := hd.1; have := hd.2.2.1; omega, fun _ => h⟩
    · by_cases hl : (L.length : Int) = n
      · subst hl
        refine (asDeck_seen L.length (L.length - 1) A c L (by omega) (by omega) (by omega) rfl w h).mono fun e w' ⟨q1, q2⟩ => ⟨fun hd => q1 (by simpa using hd.2), fun hd => q2 (by simpa using hd)⟩
      · exact (asDeck_size n A _ c w (by omega) (by omega) hl).mono fun e w' h => ⟨fun hd => by have := hd.1; have := hd.2.2.2.1; omega, fun _ => h⟩
end Go.Proofs.YtogmfbhnnnoipaaDoor
