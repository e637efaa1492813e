/- The program's TreeDegrees: slices.Min, slices.Max, treesWith. -/
import Derived.Test.YtoipcdhofhpkfaaTreeDegMath
import Derived.Test.YtoipcdhofhpkfaaSpecDeg
namespace Go.Proofs.Ytoipcdhofhpkfaa
open Go Go.RowKit
set_option linter.unusedVariables false
set_option maxRecDepth 100000

def loT (L : List Int) : Nat → Int
  | 0 => L[0]?.getD 0
  | k + 1 => min (loT L k) (L[k]?.getD 0)
def hiT (L : List Int) : Nat → Int
  | 0 => L[0]?.getD 0
  | k + 1 => max (hiT L k) (L[k]?.getD 0)
theorem loT_le {L : List Int} {k j : Nat} (h : j < k) : loT L k ≤ L[j]?.getD 0 := by
  induction k with
  | zero => omega
  | succ k ih =>
    simp only [loT]
    by_cases e : j = k
    · rw [e]; omega
    · have := ih (by omega); omega
theorem loT_ge {L : List Int} {k : Nat} {z : Int} (h0 : z ≤ L[0]?.getD 0) (h : ∀ j, j < k → z ≤ L[j]?.getD 0) : z ≤ loT L k := by
  induction k with
  | zero => exact h0
  | succ k ih =>
    have h1 := ih fun j hj => h j (by omega)
    have h2 := h k (by omega)
    simp only [loT]
    omega
theorem hiT_ge {L : List Int} {k j : Nat} (h : j < k) : L[j]?.getD 0 ≤ hiT L k := by
  induction k with
  | zero => omega
  | succ k ih =>
    simp only [hiT]
    by_cases e : j = k
    · rw [e]; omega
    · have := ih (by omega); omega
theorem hiT_le {L : List Int} {k : Nat} {z : Int} (h0 : L[0]?.getD 0 ≤ z) (h : ∀ j, j < k → L[j]?.getD 0 ≤ z) : hiT L k ≤ z := by
  induction k with
  | zero => exact h0
  | succ k ih =>
    have h1 := ih fun j hj => h j (by omega)
    have h2 := h k (by omega)
    simp only [hiT]
    omega
/-- How a call that only looks, and tells a whole number, ends. -/
def IntP (w : World) (x : Int) (e : Ending) (w' : World) : Prop := e = .returned (.int .i64 x) ∧ w = w'
set_option maxHeartbeats 1000000 in
theorem minT_any (A : Option Addr) (c : Nat) (L : List Int) (h1 : 1 ≤ L.length) (h6 : L.length ≤ 6) (w : World) (h : Seen w A L) :
    Calls Try.prog 12 #[.slice A L.length c] w (IntP w (loT L L.length)) := by
  obtain ⟨n, hn⟩ : ∃ n, n = L.length := ⟨_, rfl⟩
  rw [← hn] at h1 h6 ⊢
  have H : Hid (∀ k, k < n → ∃ b off, A = some ⟨b, off, none⟩ ∧ w.cell? ⟨b, off + k, none⟩ = some (.int .i64 (L[k]?.getD 0))) := Lib.hid fun k hk => by
    obtain ⟨b, off, a, _, hc⟩ := h k (by omega)
    exact ⟨b, off, a, hc⟩
  obtain ⟨b0, off0, hA, hc0⟩ := H.out 0 (by omega)
  rw [Nat.add_zero] at hc0
  obtain ⟨z0, ez0⟩ : ∃ z, z = L[0]?.getD 0 := ⟨_, rfl⟩
  rw [← ez0] at hc0
  have Z0 := Lib.hid ez0
  clear h hn ez0
  subst hA
  have hd1 : decide ((n : Int) < 1) = false := by simp; omega
  have hi0 : (0 : Int) < (n : Int) := by omega
  go_enter Try.func12, Try.ntmps12
  go_wp2
  go_loop [3, 4] (fun m i => ∃ k : Nat, 1 ≤ k ∧ k ≤ n ∧ i = .int .i64 k ∧ m = .int .i64 (loT L k)) (fun _ i => n - (intOf i).toNat)
  case atStart => exact ⟨1, Nat.le_refl _, h1, rfl, by show _ = Value.int .i64 (min (L[0]?.getD 0) (L[0]?.getD 0)); rw [Z0.out]; congr 1; omega⟩
  case round =>
    obtain ⟨k, hk1, hk, rfl, rfl⟩ := hrel
    by_cases hlt : k < n
    · obtain ⟨b, off, hA, hc⟩ := H.out k hlt
      injection hA with hA
      injection hA with e1 e2
      subst e1 e2
      have e2 : loT L (k + 1) = min (loT L k) (L[k]?.getD 0) := rfl
      obtain ⟨z, ez⟩ : ∃ z, z = L[k]?.getD 0 := ⟨_, rfl⟩
      obtain ⟨m, em⟩ : ∃ m, m = loT L k := ⟨_, rfl⟩
      rw [← ez] at hc e2
      rw [← em] at e2 ⊢
      have E2 := Lib.hid e2
      have hi1 : (0 : Int) ≤ (k : Int) ∧ (k : Int) < (n : Int) := by omega
      clear e2 ez em
      go_wp2
      go_round
      case rel => exact ⟨k + 1, by omega, by omega, by go_num, by rw [E2.out]; congr 1; split <;> omega⟩
      case measure => simp [intOf]; omega
    · have hke : k = n := by omega
      subst hke
      go_wp2
      go_ret
      exact ⟨rfl, rfl⟩
set_option maxHeartbeats 1000000 in
theorem maxT_any (A : Option Addr) (c : Nat) (L : List Int) (h1 : 1 ≤ L.length) (h6 : L.length ≤ 6) (w : World) (h : Seen w A L) :
    Calls Try.prog 13 #[.slice A L.length c] w (IntP w (hiT L L.length)) := by
  obtain ⟨n, hn⟩ : ∃ n, n = L.length := ⟨_, rfl⟩
  rw [← hn] at h1 h6 ⊢
  have H : Hid (∀ k, k < n → ∃ b off, A = some ⟨b, off, none⟩ ∧ w.cell? ⟨b, off + k, none⟩ = some (.int .i64 (L[k]?.getD 0))) := Lib.hid fun k hk => by
    obtain ⟨b, off, a, _, hc⟩ := h k (by omega)
    exact ⟨b, off, a, hc⟩
  obtain ⟨b0, off0, hA, hc0⟩ := H.out 0 (by omega)
  rw [Nat.add_zero] at hc0
  obtain ⟨z0, ez0⟩ : ∃ z, z = L[0]?.getD 0 := ⟨_, rfl⟩
  rw [← ez0] at hc0
  have Z0 := Lib.hid ez0
  clear h hn ez0
  subst hA
  have hd1 : decide ((n : Int) < 1) = false := by simp; omega
  have hi0 : (0 : Int) < (n : Int) := by omega
  go_enter Try.func13, Try.ntmps13
  go_wp2
  go_loop [3, 4] (fun m i => ∃ k : Nat, 1 ≤ k ∧ k ≤ n ∧ i = .int .i64 k ∧ m = .int .i64 (hiT L k)) (fun _ i => n - (intOf i).toNat)
  case atStart => exact ⟨1, Nat.le_refl _, h1, rfl, by show _ = Value.int .i64 (max (L[0]?.getD 0) (L[0]?.getD 0)); rw [Z0.out]; congr 1; omega⟩
  case round =>
    obtain ⟨k, hk1, hk, rfl, rfl⟩ := hrel
    by_cases hlt : k < n
    · obtain ⟨b, off, hA, hc⟩ := H.out k hlt
      injection hA with hA
      injection hA with e1 e2
      subst e1 e2
      have e2 : hiT L (k + 1) = max (hiT L k) (L[k]?.getD 0) := rfl
      obtain ⟨z, ez⟩ : ∃ z, z = L[k]?.getD 0 := ⟨_, rfl⟩
      obtain ⟨m, em⟩ : ∃ m, m = hiT L k := ⟨_, rfl⟩
      rw [← ez] at hc e2
      rw [← em] at e2 ⊢
      have E2 := Lib.hid e2
      have hi1 : (0 : Int) ≤ (k : Int) ∧ (k : Int) < (n : Int) := by omega
      clear e2 ez em
      go_wp2
      go_round
      case rel => exact ⟨k + 1, by omega, by omega, by go_num, by rw [E2.out]; congr 1; split <;> omega⟩
      case measure => simp [intOf]; omega
    · have hke : k = n := by omega
      subst hke
      go_wp2
      go_ret
      exact ⟨rfl, rfl⟩

/-- What the program's loop keeps: places left. -/
def leftD (L : List Int) (n : Nat) : Nat → Int
  | 0 => (n : Int) - 2
  | k + 1 => leftD L n k - ((dN L k : Int) - 1)
theorem leftD_eq (L : List Int) (n : Nat) (k : Nat) : leftD L n k = (n : Int) - 2 - ((sumD L k : Int) - (k : Int)) := by
  induction k with
  | zero => simp [leftD, sumD]
  | succ k ih => simp only [leftD, sumD]; rw [ih]; omega
/-- How a call that only looks, and tells a number, ends. -/
def NatP (w : World) (x : Nat) (e : Ending) (w' : World) : Prop := e = .returned (.int .i64 (x : Nat)) ∧ w = w'
set_option maxHeartbeats 2000000 in
theorem treesWith_any (A : Option Addr) (c : Nat) (L : List Int) (hI : InD L) (h2 : 2 ≤ L.length) (w : World) (h : Seen w A L) :
    Calls Try.prog 14 #[.slice A L.length c] w (NatP w (treesD L)) := by
  obtain ⟨n, hn⟩ : ∃ n, n = L.length := ⟨_, rfl⟩
  have h6 := hI.1.2
  have hD := hI.2
  have hT : treesD L = if sumD L n = 2 * n - 2 ∧ 1 ≤ leastD L n then quoD L n n else 0 := by
    unfold treesD
    rw [if_neg (by omega), ← hn]
  rw [← hn] at h2 h6 hD ⊢
  have H : Hid (∀ k, k < n → ∃ b off, A = some ⟨b, off, none⟩ ∧ w.cell? ⟨b, off + k, none⟩ = some (.int .i64 (dN L k : Nat))) := Lib.hid fun k hk => by
    obtain ⟨b, off, a, _, hc⟩ := h k (by omega)
    rw [(okD_int (hD k hk)).1] at hc
    exact ⟨b, off, a, hc⟩
  have HD := Lib.hid fun k hk => (okD_int (hD k hk)).2
  have HS := Lib.hid fun k (hk : k ≤ n) => sumD_le (L := L) (k := k) fun j hj => hD j (by omega)
  have HT := Lib.hid hT
  have HF : Hid (∀ w, Calls Try.prog 15 #[.int .i64 ((n : Int) - 2)] w fun e w' => e = .returned (.int .i64 (fac (n - 2) : Nat)) ∧ w = w') := Lib.hid fun w => by
    have h := factorial_any (n - 2) (by omega) w
    rwa [show ((n - 2 : Nat) : Int) = (n : Int) - 2 by omega] at h
  obtain ⟨m, hm⟩ : ∃ m, m = n - 2 := ⟨_, rfl⟩
  rw [← hm] at HF
  have HM := Lib.hid (show (m : Int) = (n : Int) - 2 by omega)
  have HQ0 := Lib.hid (show quoD L n 0 = fac m by rw [hm]; rfl)
  clear hI h hn hD hT hm
  go_enter Try.func14, Try.ntmps14
  go_wp2_with fail
  refine (HF.out _).mono ?_
  rintro e w1 ⟨rfl, rfl⟩
  go_wp2
  go_loop [3, 4, 14] (fun p q i => ∃ k : Nat, k ≤ n ∧ i = .int .i64 k ∧ p = .int .i64 (leftD L n k) ∧ q = .int .i64 (quoD L n k : Nat) ∧ Hid (∀ j, j < k → 1 ≤ dN L j)) (fun _ _ i => n - (intOf i).toNat)
  case atStart => exact ⟨0, Nat.zero_le _, rfl, rfl, by rw [HQ0.out], Lib.hid fun j hj => absurd hj (by omega)⟩
  case round =>
    obtain ⟨k, hk, rfl, rfl, rfl, hpos⟩ := hrel
    have hl := leftD_eq L n k
    have hs := HS.out k hk
    have hq7 := quoD_le L n h6 k
    obtain ⟨p, ep⟩ : ∃ p, p = leftD L n k := ⟨_, rfl⟩
    obtain ⟨q, eq⟩ : ∃ q, q = quoD L n k := ⟨_, rfl⟩
    rw [← ep] at hl ⊢
    rw [← eq] at hq7 ⊢
    have hpb : -100 ≤ p ∧ p ≤ 100 := by omega
    by_cases hlt : k < n
    · obtain ⟨b, off, rfl, hc⟩ := H.out k hlt
      have hd6 := HD.out k hlt
      have e1 : leftD L n (k + 1) = p - ((dN L k : Int) - 1) := by rw [ep]; rfl
      have e2 : quoD L n (k + 1) = q / fac (dN L k - 1) := by rw [eq]; rfl
      have hz : dN L k = 0 → treesD L = 0 := fun h0 => by
        rw [HT.out, if_neg]
        intro hh
        have := leastD_pos.1 hh.2 k hlt
        omega
      have POS : Hid (1 ≤ dN L k → ∀ j, j < k + 1 → 1 ≤ dN L j) := Lib.hid fun h0 j hj => by
        by_cases e : j = k
        · rw [e]; exact h0
        · exact hpos.out j (by omega)
      obtain ⟨d, ed⟩ : ∃ d, d = dN L k := ⟨_, rfl⟩
      rw [← ed] at hc hd6 e1 e2 hz POS
      have hi1 : (0 : Int) ≤ (k : Int) ∧ (k : Int) < (n : Int) := by omega
      by_cases h0 : d = 0
      · have HZ := Lib.hid (hz h0)
        have hd0 : ((d : Int) == 0) = true := by simp; omega
        clear e1 e2 hz ed hl hs h0 ep eq
        go_wp2
        go_ret
        exact ⟨by rw [HZ.out]; rfl, rfl⟩
      · have hd0 : ((d : Int) == 0) = false := by simp; omega
        obtain ⟨d', hd'⟩ : ∃ d', d = d' + 1 := ⟨d - 1, by omega⟩
        rw [hd', Nat.add_sub_cancel] at e2
        have HF2 : Hid (∀ w, Calls Try.prog 15 #[.int .i64 ((d : Int) - 1)] w fun e w' => e = .returned (.int .i64 (fac d' : Nat)) ∧ w = w') := Lib.hid fun w => by
          have h := factorial_any d' (by omega) w
          rwa [show (d' : Int) = (d : Int) - 1 by omega] at h
        have hfp := fac_pos d'
        have hqq := quo_small q (fac d') hq7
        obtain ⟨f, ef⟩ : ∃ f, f = fac d' := ⟨_, rfl⟩
        rw [← ef] at e2 hfp hqq HF2
        have hnz : ((f : Int) == 0) = false := by simp; omega
        have E1 := Lib.hid e1
        have HQQ := Lib.hid hqq
        clear hqq
        have E2 := Lib.hid e2
        have PO := Lib.hid (POS.out (by omega))
        clear e1 e2 hz ed hl hs h0 ep eq hd' ef POS
        go_wp2_with fail
        refine (HF2.out _).mono ?_
        rintro e w1 ⟨rfl, rfl⟩
        go_wp2
        go_round
        case rel => exact ⟨k + 1, by omega, by go_num, by rw [E1.out], by rw [E2.out, HQQ.out], PO⟩
        case measure => simp [intOf]; omega
    · have hke : k = n := by omega
      subst hke
      have hle : 1 ≤ leastD L k := leastD_pos.2 hpos.out
      by_cases hp0 : p = 0
      · have hT2 : q = treesD L := by rw [HT.out, if_pos ⟨by omega, hle⟩, eq]
        have hd0 : (p != 0) = false := by simp [hp0]
        have T2 := Lib.hid hT2
        clear hT2 hp0 hl ep eq hs
        go_wp2
        go_ret
        exact ⟨by rw [T2.out]; rfl, rfl⟩
      · have hT2 : treesD L = 0 := by rw [HT.out, if_neg (fun h => hp0 (by have := h.1; omega))]
        have hd0 : (p != 0) = true := by simp [hp0]
        have T2 := Lib.hid hT2
        clear hT2 hp0 hl ep eq hs
        go_wp2
        go_ret
        exact ⟨by rw [T2.out]; rfl, rfl⟩

set_option maxHeartbeats 1000000 in
theorem implDeg_any (B : Nat) (v : Value) (L : List Int) (w : World) (h : Row w B v L) :
    Calls Try.prog 9 #[v] w (ManyP w (degP L)) := by
  obtain ⟨A, c, rfl, hs⟩ := row_seen h
  clear h
  by_cases h0 : L.length < 1
  · rw [degP_no fun h => by have := h.1.1; omega]
    have hd : decide ((L.length : Int) < 1) = true := by simp; omega
    obtain ⟨n, hn⟩ : ∃ n, n = L.length := ⟨_, rfl⟩
    rw [← hn] at hd ⊢
    clear hn h0 hs
    go_enter Try.func9, Try.ntmps9
    go_wp2
    go_ret2
    exact ⟨rfl, rfl⟩
  by_cases h6 : 6 < L.length
  · rw [degP_no fun h => by have := h.1.2; omega]
    have hd : decide ((L.length : Int) < 1) = false := by simp; omega
    have hd2 : decide ((6 : Int) < (L.length : Int)) = true := by simp; omega
    obtain ⟨n, hn⟩ : ∃ n, n = L.length := ⟨_, rfl⟩
    rw [← hn] at hd hd2 ⊢
    clear hn h0 hs h6
    go_enter Try.func9, Try.ntmps9
    go_wp2
    go_ret2
    exact ⟨rfl, rfl⟩
  have h1 : 1 ≤ L.length := by omega
  have h6' : L.length ≤ 6 := by omega
  have HMi := Lib.hid (minT_any A c L h1 h6' w hs)
  have HMa := Lib.hid (maxT_any A c L h1 h6' w hs)
  have hd : decide ((L.length : Int) < 1) = false := by simp; omega
  have hd2 : decide ((6 : Int) < (L.length : Int)) = false := by simp; omega
  by_cases hlo : loT L L.length < 0
  · have hno : ¬ InD L := fun h => by
      have := loT_ge (L := L) (k := L.length) (z := 0) (h.2 0 (by omega)).1 (fun j hj => (h.2 j hj).1)
      omega
    rw [degP_no hno]
    have hd3 : decide (loT L L.length < 0) = true := decide_eq_true hlo
    obtain ⟨lo, elo⟩ : ∃ lo, lo = loT L L.length := ⟨_, rfl⟩
    rw [← elo] at hd3 HMi
    obtain ⟨n, hn⟩ : ∃ n, n = L.length := ⟨_, rfl⟩
    rw [← hn] at hd hd2 HMi HMa ⊢
    clear hn h0 hs h6 h1 h6' elo hlo hno HMa
    go_enter Try.func9, Try.ntmps9
    go_wp2_with fail
    refine HMi.out.mono ?_
    rintro e w1 ⟨rfl, rfl⟩
    go_wp2
    go_ret2
    exact ⟨rfl, rfl⟩
  by_cases hhi : 6 < hiT L L.length
  · have hno : ¬ InD L := fun h => by
      have := hiT_le (L := L) (k := L.length) (z := 6) (h.2 0 (by omega)).2 (fun j hj => (h.2 j hj).2)
      omega
    rw [degP_no hno]
    have hd3 : decide (loT L L.length < 0) = false := decide_eq_false hlo
    have hd4 : decide (6 < hiT L L.length) = true := decide_eq_true hhi
    obtain ⟨lo, elo⟩ : ∃ lo, lo = loT L L.length := ⟨_, rfl⟩
    obtain ⟨hi, ehi⟩ : ∃ hi, hi = hiT L L.length := ⟨_, rfl⟩
    rw [← elo] at hd3 HMi
    rw [← ehi] at hd4 HMa
    obtain ⟨n, hn⟩ : ∃ n, n = L.length := ⟨_, rfl⟩
    rw [← hn] at hd hd2 HMi HMa ⊢
    clear hn h0 hs h6 h1 h6' elo hlo hno ehi hhi
    go_enter Try.func9, Try.ntmps9
    go_wp2_with fail
    refine HMi.out.mono ?_
    rintro e w1 ⟨rfl, rfl⟩
    go_wp2_with fail
    refine HMa.out.mono ?_
    rintro e w1 ⟨rfl, rfl⟩
    go_wp2
    go_ret2
    exact ⟨rfl, rfl⟩
  have hI : InD L := ⟨⟨h1, h6'⟩, fun j hj => ⟨by have := loT_le (L := L) hj; omega, by have := hiT_ge (L := L) hj; omega⟩⟩
  rw [degP_yes hI]
  have hd3 : decide (loT L L.length < 0) = false := decide_eq_false hlo
  have hd4 : decide (6 < hiT L L.length) = false := decide_eq_false hhi
  obtain ⟨lo, elo⟩ : ∃ lo, lo = loT L L.length := ⟨_, rfl⟩
  obtain ⟨hi, ehi⟩ : ∃ hi, hi = hiT L L.length := ⟨_, rfl⟩
  rw [← elo] at hd3 HMi
  rw [← ehi] at hd4 HMa
  by_cases hn1 : L.length = 1
  · obtain ⟨b, off, hA, _, hc⟩ := hs 0 (by omega)
    rw [(okD_int (hI.2 0 (by omega))).1, Nat.add_zero] at hc
    have hT : treesD L = 1 - min 1 (dN L 0) := by unfold treesD; rw [if_pos hn1]
    have hd6 := (okD_int (hI.2 0 (by omega))).2
    obtain ⟨d, ed⟩ : ∃ d, d = dN L 0 := ⟨_, rfl⟩
    rw [← ed] at hc hT hd6
    rw [hn1] at hd hd2 HMi HMa ⊢
    subst hA
    by_cases hd0 : d = 0
    · have T := Lib.hid (show treesD L = 1 by rw [hT, hd0]; rfl)
      have he : ((d : Int) == 0) = true := by simp; omega
      clear hn1 hs h0 h6 h1 h6' elo hlo ehi hhi hI ed hT hd0
      go_enter Try.func9, Try.ntmps9
      go_wp2_with fail
      refine HMi.out.mono ?_
      rintro e w1 ⟨rfl, rfl⟩
      go_wp2_with fail
      refine HMa.out.mono ?_
      rintro e w1 ⟨rfl, rfl⟩
      go_wp2
      go_ret2
      exact ⟨by rw [T.out]; rfl, rfl⟩
    · have T := Lib.hid (show treesD L = 0 by rw [hT]; omega)
      have he : ((d : Int) == 0) = false := by simp; omega
      clear hn1 hs h0 h6 h1 h6' elo hlo ehi hhi hI ed hT hd0
      go_enter Try.func9, Try.ntmps9
      go_wp2_with fail
      refine HMi.out.mono ?_
      rintro e w1 ⟨rfl, rfl⟩
      go_wp2_with fail
      refine HMa.out.mono ?_
      rintro e w1 ⟨rfl, rfl⟩
      go_wp2
      go_ret2
      exact ⟨by rw [T.out]; rfl, rfl⟩
  · have HTW := Lib.hid (treesWith_any A c L hI (by omega) w hs)
    have hd5 : decide ((1 : Int) < (L.length : Int)) = true := by simp; omega
    obtain ⟨x, ex⟩ : ∃ x, x = treesD L := ⟨_, rfl⟩
    rw [← ex] at HTW ⊢
    obtain ⟨n, hn⟩ : ∃ n, n = L.length := ⟨_, rfl⟩
    rw [← hn] at hd hd2 hd5 HMi HMa HTW ⊢
    clear hn hn1 hs h0 h6 h1 h6' elo hlo ehi hhi hI ex
    go_enter Try.func9, Try.ntmps9
    go_wp2_with fail
    refine HMi.out.mono ?_
    rintro e w1 ⟨rfl, rfl⟩
    go_wp2_with fail
    refine HMa.out.mono ?_
    rintro e w1 ⟨rfl, rfl⟩
    go_wp2_with fail
    refine HTW.out.mono ?_
    rintro e w1 ⟨rfl, rfl⟩
    go_wp2
    go_ret2
    exact ⟨rfl, rfl⟩
end Go.Proofs.Ytoipcdhofhpkfaa
