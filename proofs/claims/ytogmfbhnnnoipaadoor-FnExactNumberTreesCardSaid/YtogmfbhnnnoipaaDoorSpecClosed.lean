/- The numbers of closed walks, and of all walks, by the model. -/
import Derived.Test.YtogmfbhnnnoipaaDoorSpecWalks
import Derived.Test.YtogmfbhnnnoipaaDoorWalksFn
namespace Go.Proofs.YtogmfbhnnnoipaaDoor
open Go Go.RowKit
set_option linter.unusedVariables false
set_option maxRecDepth 100000

theorem RowS.block {w : World} {B b n cap : Nat} {xs : List Int} (h : RowS w B (.slice (some ⟨b, 0, none⟩) n cap) xs) : b < w.heap.size := by
  rcases h.1.2 with ⟨h0, _⟩ | ⟨g, cap, cur, h0, _, h3, _⟩
  · cases h0
  · injection h0 with e1; injection e1 with e1; injection e1 with e1; subst e1; exact (Array.getElem?_eq_some_iff.1 h3).1
/-- The cell of a row of a list of rows. -/
theorem Row2.two {w : World} {B b cap : Nat} {Ls : List (List Nat)} (h : Row2 w B (.slice (some ⟨b, 0, none⟩) Ls.length cap) Ls) {k : Nat} (hk : k < Ls.length) {m : Nat} (hm : (Ls[k]?.getD []).length = m) :
    ∃ pb pc, w.cell? ⟨b, k, none⟩ = some (.slice (some ⟨pb, 0, none⟩) m pc) ∧ ∀ j, j < m → w.cell? ⟨pb, j, none⟩ = some (.int .i64 (((Ls[k]?.getD [])[j]?.getD 0 : Nat) : Int)) := by
  obtain ⟨v, hc, hr⟩ := h.at hk
  obtain ⟨pb, pc, rfl⟩ := hr.shape
  rw [ints_length, hm] at hc
  refine ⟨pb, pc, hc, fun j hj => ?_⟩
  have h0 := hr.1.cellAt j (by rw [ints_length]; omega)
  rw [h0, ints_get]

set_option maxHeartbeats 4000000 in
theorem specClosed_seen (A : Option Addr) (c : Nat) (L : List Int) (hg : IsGraph L) (k : Nat) (hk : k ≤ 12) (w : World) (h : Seen w A L) :
    Calls Tryd.prog 45 #[.slice A L.length c, .int .i64 k] w (NumB w (closedN L k)) := by
  have h6 := hg.2.1
  have H1 := Lib.hid (specWalks_seen A c L hg k hk w h)
  have HS := Lib.hid (fun v (hv : v ≤ L.length) => (by
    have h1 : sumN (fun u => wk L k u u) v ≤ v * 2176782336 := sumN_le fun i _ => wk_small L h6 k i i hk
    omega : sumN (fun u => wk L k u u) v ≤ 13060694016))
  have HW := Lib.hid (fun v => wk_small L h6 k v v hk)
  obtain ⟨n, hn⟩ : ∃ n, n = L.length := ⟨_, rfl⟩
  rw [← hn] at H1 ⊢
  have HN := Lib.hid hn
  have hn6 : n ≤ 6 := by omega
  clear hg h hn h6
  go_enter Tryd.func45, Tryd.ntmps45
  go_wp2_with fail
  refine H1.out.mono ?_
  rintro e w1 ⟨v, rfl, r2, b1⟩
  obtain ⟨ob, oc, rfl, hob⟩ := r2.shape
  rw [walkRows_length]
  rw [walkRows_length] at r2
  have R2 := Lib.hid r2
  have B1 := Lib.hid b1
  clear r2 b1 hob
  go_wp2
  go_loop [6, 7] (fun s i => ∃ v : Nat, v ≤ n ∧ i = .int .i64 v ∧ s = .int .i64 ((sumN (fun u => wk L k u u) v : Nat) : Int)) (fun _ i => n - (intOf i).toNat)
  case atStart => exact ⟨0, Nat.zero_le _, rfl, rfl⟩
  case round =>
    obtain ⟨v, hv, rfl, rfl⟩ := hrel
    by_cases hlt : v < n
    · obtain ⟨pb, pc, hc1, hc2⟩ := Row2.two (w := w1) (B := w.heap.size) (b := ob) (cap := oc) (Ls := walkRows L k n) (by rw [walkRows_length]; exact R2.out) (k := v) (by rw [walkRows_length]; exact hlt) (m := n) (by rw [walkRows_get L k n hlt, rowN_length, HN.out])
      have hc3 := hc2 v hlt
      rw [walkRows_get L k n hlt, rowN_get L k v (by rw [← HN.out]; exact hlt)] at hc3
      have hs := HS.out v (by rw [← HN.out]; exact hv)
      have hw := HW.out v
      have hst : sumN (fun u => wk L k u u) (v + 1) = sumN (fun u => wk L k u u) v + wk L k v v := rfl
      have HST := Lib.hid hst
      obtain ⟨s, es⟩ : ∃ s, s = sumN (fun u => wk L k u u) v := ⟨_, rfl⟩
      obtain ⟨r, er⟩ : ∃ r, r = wk L k v v := ⟨_, rfl⟩
      rw [← es] at hs hst ⊢
      rw [← er] at hw hst hc3
      have hwr : wrap64 ((s : Int) + (r : Int)) = ((s + r : Nat) : Int) := by rw [wrap_id (by omega) (by omega)]; omega
      have HWR := Lib.hid hwr
      have HH := Lib.hid hst
      have hvn : (0 : Int) ≤ (v : Int) ∧ (v : Int) < (n : Int) := by omega
      clear hc2 hs hw hst es er
      go_wp2
      clear hwr
      go_round
      case rel => exact ⟨v + 1, by omega, by go_num, by rw [HH.out, HWR.out]⟩
      case measure => simp [intOf]; omega
    · have hvn : v = n := by omega
      subst hvn
      go_wp2
      go_ret
      exact ⟨by rw [HN.out]; rfl, B1.out⟩

set_option maxHeartbeats 4000000 in
theorem specWalks_yes (B : Nat) (v : Value) (L : List Int) (hg : IsGraph L) (k : Nat) (hk : k ≤ 12) (w : World) (h : Row w B v L) :
    Calls Tryd.prog 13 #[v, .int .i64 k] w (NumOkA w (walksN L k) true) := by
  have h6 := hg.2.1
  have H0 := Lib.hid (specIn_any B v L true ⟨fun _ => hg, fun _ => rfl⟩ w h)
  have HI := Lib.hid (fun w => in_yes (k : Int) 0 12 w (by omega) (by omega))
  obtain ⟨A, c, rfl, hs⟩ := h.seen
  have H1 := Lib.hid (fun w hs => specWalks_seen A c L hg k hk w hs)
  have HS := Lib.hid (fun v u (hv : v < L.length) (hu : u < L.length) => (by
    have h1 : sumN (fun x => sumN (fun y => wk L k x y) L.length) v ≤ v * 13060694016 := sumN_le fun x _ => by
      have h2 : sumN (fun y => wk L k x y) L.length ≤ L.length * 2176782336 := sumN_le fun y _ => wk_small L h6 k x y hk
      omega
    have h2 : sumN (fun y => wk L k v y) u ≤ u * 2176782336 := sumN_le fun y _ => wk_small L h6 k v y hk
    omega : sumN (fun x => sumN (fun y => wk L k x y) L.length) v + sumN (fun y => wk L k v y) u ≤ 130606940160))
  have HW := Lib.hid (fun v u => wk_small L h6 k v u hk)
  obtain ⟨n, hn⟩ : ∃ n, n = L.length := ⟨_, rfl⟩
  rw [← hn] at H0 H1 ⊢
  have HN := Lib.hid hn
  have H := Lib.hid hs
  have hn6 : n ≤ 6 := by omega
  clear hg h hn h6 hs
  go_enter Tryd.func13, Tryd.ntmps13
  go_wp2_with fail
  refine H0.out.mono ?_
  rintro e w0 ⟨rfl, d, rfl⟩
  go_wp2_with fail
  refine (HI.out _).mono ?_
  rintro e w0 ⟨rfl, rfl⟩
  go_wp2_with fail
  refine (H1.out (w.drewN d) H.out).mono ?_
  rintro e w1 ⟨v, rfl, r2, b1⟩
  obtain ⟨ob, oc, rfl, hob⟩ := r2.shape
  rw [walkRows_length]
  rw [walkRows_length] at r2
  have R2 := Lib.hid r2
  have B1 := Lib.hid ((below_drewN (Below.refl _ w) d).trans b1)
  clear r2 b1 hob
  go_wp2
  go_loop [7, 8] (fun s i => ∃ v : Nat, v ≤ n ∧ i = .int .i64 v ∧ s = .int .i64 ((sumN (fun x => sumN (fun y => wk L k x y) n) v : Nat) : Int)) (fun _ i => n - (intOf i).toNat)
  case atStart => exact ⟨0, Nat.zero_le _, rfl, rfl⟩
  case round =>
    obtain ⟨v, hv, rfl, rfl⟩ := hrel
    by_cases hlt : v < n
    · obtain ⟨pb, pc, hc1, hc2⟩ := Row2.two (w := w1) (B := (w.drewN d).heap.size) (b := ob) (cap := oc) (Ls := walkRows L k n) (by rw [walkRows_length]; exact R2.out) (k := v) (by rw [walkRows_length]; exact hlt) (m := n) (by rw [walkRows_get L k n hlt, rowN_length, HN.out])
      have HC2 := Lib.hid hc2
      have hvn : (0 : Int) ≤ (v : Int) ∧ (v : Int) < (n : Int) := by omega
      obtain ⟨t, et⟩ : ∃ t, t = sumN (fun x => sumN (fun y => wk L k x y) n) v := ⟨_, rfl⟩
      have hst : sumN (fun x => sumN (fun y => wk L k x y) n) (v + 1) = t + sumN (fun y => wk L k v y) n := by rw [et]; rfl
      have HST := Lib.hid hst
      have hs := fun u hu => HS.out v u (by rw [← HN.out]; exact hlt) hu
      rw [← HN.out, ← et] at hs
      have HS2 := Lib.hid hs
      rw [← et]
      clear hc2 et hst hs
      go_wp2
      go_loop [7, 9] (fun s i => ∃ u : Nat, u ≤ n ∧ i = .int .i64 u ∧ s = .int .i64 ((t + sumN (fun y => wk L k v y) u : Nat) : Int)) (fun _ i => n - (intOf i).toNat)
      case atStart => exact ⟨0, Nat.zero_le _, rfl, rfl⟩
      case round =>
        obtain ⟨u, hu, rfl, rfl⟩ := hrel
        by_cases hlu : u < n
        · have hc3 := HC2.out u hlu
          rw [walkRows_get L k n hlt, rowN_get L k v (by rw [← HN.out]; exact hlu)] at hc3
          have hs := HS2.out u hlu
          have hw := HW.out v u
          have hst : t + sumN (fun y => wk L k v y) (u + 1) = t + sumN (fun y => wk L k v y) u + wk L k v u := by rw [Nat.add_assoc]; rfl
          obtain ⟨s, es⟩ : ∃ s, s = t + sumN (fun y => wk L k v y) u := ⟨_, rfl⟩
          obtain ⟨r, er⟩ : ∃ r, r = wk L k v u := ⟨_, rfl⟩
          rw [← es] at hs hst ⊢
          rw [← er] at hw hst hc3
          have hwr : wrap64 ((s : Int) + (r : Int)) = ((s + r : Nat) : Int) := by rw [wrap_id (by omega) (by omega)]; omega
          have HWR := Lib.hid hwr
          have HH := Lib.hid hst
          have hun : (0 : Int) ≤ (u : Int) ∧ (u : Int) < (n : Int) := by omega
          clear hs hw hst es er
          go_wp2
          clear hwr
          go_round
          case rel => exact ⟨u + 1, by omega, by go_num, by rw [HH.out, HWR.out]⟩
          case measure => simp [intOf]; omega
        · have hun : u = n := by omega
          subst hun
          go_wp2
          go_round
          case rel => exact ⟨v + 1, by omega, by go_num, by first | rw [HST.out] | (rw [HST.out]; simp)⟩
          case measure => simp [intOf]; omega
    · have hvn : v = n := by omega
      subst hvn
      go_wp2
      go_ret2
      exact ⟨by rw [HN.out]; rfl, B1.out⟩

theorem not_len (k : Int) {L : List Int} (hg : IsGraph L) (h : ¬ InLen L k) : decide (0 ≤ k ∧ k ≤ 12) = false := decide_eq_false (fun e => h ⟨hg, e⟩)
set_option maxHeartbeats 2000000 in
theorem specWalks_no (B : Nat) (v : Value) (L : List Int) (k : Int) (hn : ¬ InLen L k) (w : World) (h : Row w B v L) :
    Calls Tryd.prog 13 #[v, .int .i64 k] w (NumOkA w 0 false) := by
  by_cases hg : IsGraph L
  · have H0 := Lib.hid (specIn_any B v L true ⟨fun _ => hg, fun _ => rfl⟩ w h)
    have HI := Lib.hid (fun w => in_any k 0 12 w)
    rw [not_len k hg hn] at HI
    clear hg hn h
    go_enter Tryd.func13, Tryd.ntmps13
    go_wp2_with fail
    refine H0.out.mono ?_
    rintro e w0 ⟨rfl, d, rfl⟩
    go_wp2_with fail
    refine (HI.out _).mono ?_
    rintro e w0 ⟨rfl, rfl⟩
    go_wp2
    go_ret2
    exact ⟨rfl, below_drewN (Below.refl _ w) d⟩
  · have H0 := Lib.hid (specIn_any B v L false ⟨fun h => (by cases h), fun h => absurd h hg⟩ w h)
    clear hg hn h
    go_enter Tryd.func13, Tryd.ntmps13
    go_wp2_with fail
    refine H0.out.mono ?_
    rintro e w0 ⟨rfl, d, rfl⟩
    go_wp2
    go_ret2
    exact ⟨rfl, below_drewN (Below.refl _ w) d⟩
theorem specWalks_any (B : Nat) (v : Value) (L : List Int) (k : Int) (w : World) (h : Row w B v L) :
    Calls Tryd.prog 13 #[v, .int .i64 k] w (NumOkA w (walkSaid walksN L k).1 (walkSaid walksN L k).2) := by
  by_cases hin : InLen L k
  · obtain ⟨hg, h0, h12⟩ := hin
    obtain ⟨n, rfl⟩ : ∃ n : Nat, k = n := ⟨k.toNat, by omega⟩
    rw [walkSaid_yes hg (by omega)]
    exact specWalks_yes B v L hg n (by omega) w h
  · rw [walkSaid_no hin]
    exact specWalks_no B v L k hin w h
set_option maxHeartbeats 2000000 in
theorem specClosed_any (B : Nat) (v : Value) (L : List Int) (k : Int) (w : World) (h : Row w B v L) :
    Calls Tryd.prog 17 #[v, .int .i64 k] w (NumOkA w (walkSaid closedN L k).1 (walkSaid closedN L k).2) := by
  by_cases hin : InLen L k
  · obtain ⟨hg, h0, h12⟩ := hin
    obtain ⟨n, rfl⟩ : ∃ n : Nat, k = n := ⟨k.toNat, by omega⟩
    rw [walkSaid_yes hg (by omega)]
    have H0 := Lib.hid (specIn_any B v L true ⟨fun _ => hg, fun _ => rfl⟩ w h)
    have HI := Lib.hid (fun w => in_yes (n : Int) 0 12 w h0 h12)
    obtain ⟨A, c, rfl, hs⟩ := h.seen
    have H1 := Lib.hid (fun w hs => specClosed_seen A c L hg n (by omega) w hs)
    have H := Lib.hid hs
    clear hg h hs h0 h12
    go_enter Tryd.func17, Tryd.ntmps17
    go_wp2_with fail
    refine H0.out.mono ?_
    rintro e w0 ⟨rfl, d, rfl⟩
    go_wp2_with fail
    refine (HI.out _).mono ?_
    rintro e w0 ⟨rfl, rfl⟩
    go_wp2_with fail
    refine (H1.out (w.drewN d) H.out).mono ?_
    rintro e w1 ⟨rfl, b1⟩
    go_wp2
    go_ret2
    exact ⟨rfl, (below_drewN (Below.refl _ w) d).trans b1⟩
  · rw [walkSaid_no hin]
    by_cases hg : IsGraph L
    · have H0 := Lib.hid (specIn_any B v L true ⟨fun _ => hg, fun _ => rfl⟩ w h)
      have HI := Lib.hid (fun w => in_any k 0 12 w)
      rw [not_len k hg hin] at HI
      clear hg hin h
      go_enter Tryd.func17, Tryd.ntmps17
      go_wp2_with fail
      refine H0.out.mono ?_
      rintro e w0 ⟨rfl, d, rfl⟩
      go_wp2_with fail
      refine (HI.out _).mono ?_
      rintro e w0 ⟨rfl, rfl⟩
      go_wp2
      go_ret2
      exact ⟨rfl, below_drewN (Below.refl _ w) d⟩
    · have H0 := Lib.hid (specIn_any B v L false ⟨fun h => (by cases h), fun h => absurd h hg⟩ w h)
      clear hg hin h
      go_enter Tryd.func17, Tryd.ntmps17
      go_wp2_with fail
      refine H0.out.mono ?_
      rintro e w0 ⟨rfl, d, rfl⟩
      go_wp2
      go_ret2
      exact ⟨rfl, below_drewN (Below.refl _ w) d⟩
end Go.Proofs.YtogmfbhnnnoipaaDoor
