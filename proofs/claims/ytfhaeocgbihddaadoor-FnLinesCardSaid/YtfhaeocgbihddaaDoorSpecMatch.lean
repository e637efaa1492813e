/- The model's l10Match, by recursion; SetMatch and SetLines. -/
import Derived.Test.YtfhaeocgbihddaaDoorMatchMax
import Derived.Test.YtfhaeocgbihddaaDoorBaseS
import Derived.Test.YtfhaeocgbihddaaDoorBaseA
import Derived.Test.YtfhaeocgbihddaaDoorMatchFns
namespace Go.Proofs.YtfhaeocgbihddaaDoor
open Go Go.RowKit
set_option linter.unusedVariables false
set_option maxRecDepth 100000

/-- The best up to some node. -/
def matTo (L : List Int) (f v s k : Nat) : Nat := (List.range k).foldl (matStep L v s (matR L f)) (matR L f s)
theorem matTo_succ (L : List Int) (f v s k : Nat) : matTo L f v s (k + 1) = matStep L v s (matR L f) (matTo L f v s k) k := by unfold matTo; rw [List.range_succ, List.foldl_append]; rfl
theorem matR_le {L : List Int} (h6 : L.length ≤ 6) (f s : Nat) (hs : s < f) (h64 : s < 64) (hn : s < 2 ^ L.length) : matR L f s ≤ 3 := by
  obtain ⟨es, e1, e2, e3⟩ := mat_lower h6 f s hs h64 hn
  have hp : Prs es := fun e he => by
    obtain ⟨h1, h2, _⟩ := e1 e he
    omega
  have h1 := (nd_count hp).2.2 e2
  have h2 := pcf_mono (f := 15) (x := nd es) (y := 63) (by
    refine Nat.eq_of_testBit_eq fun i => ?_
    rw [Nat.testBit_and]
    have h64 := nd_lt hp
    by_cases hi : i < 6
    · have : Nat.testBit 63 i = true := by
        have : ∀ i : Fin 6, Nat.testBit 63 i.val = true := by decide
        exact this ⟨i, hi⟩
      rw [this, Bool.and_true]
    · rw [Nat.testBit_lt_two_pow (Nat.lt_of_lt_of_le h64 (Nat.pow_le_pow_right (n := 2) (by omega) (show 6 ≤ i by omega)))]; rfl)
  have h3 : pcf 15 63 = 6 := by decide
  omega
theorem matTo_le {L : List Int} (h6 : L.length ≤ 6) (f v s k : Nat) (hs : s < f) (h64 : s < 64) (hn : s < 2 ^ L.length) : matTo L f v s k ≤ 4 := by
  obtain ⟨h1, _, _⟩ := mat_fold L v s (matR L f) (matR L f s) (List.range k)
  unfold matTo
  rcases h1 with h1 | ⟨w, _, hc, h1⟩
  · rw [h1]
    have := matR_le h6 f s hs h64 hn
    omega
  · rw [h1]
    have h2 := outS_le s (2 ^ w)
    have := matR_le h6 f (outS s (2 ^ w)) (by omega) (by omega) (by omega)
    omega
theorem andNot_pow {s v : Nat} (hs : s < 64) (hv : v < 6) : ∃ P t : Nat, t = outS s (2 ^ v) ∧ wrap64 ((2 : Int) ^ v) = (P : Int) ∧ IntKind.i64.wrap ((2 : Int) ^ v) = (P : Int) ∧ bits .andNot .i64 (s : Int) (P : Int) = (t : Int) := by
  have iw : ∀ x : Int, IntKind.i64.wrap x = wrap64 x := fun x => by rw [IntKind.wrap_i64]; unfold wrap64; rfl
  exact ⟨2 ^ v, _, rfl, wrap_pow v (by omega), (iw _).trans (wrap_pow v (by omega)), i64_andNot_nat s (2 ^ v) (by omega) (Nat.lt_trans (pow64 hv) (by decide))⟩

set_option maxHeartbeats 4000000 in
theorem specMat_all (A : Option Addr) (c : Nat) (L : List Int) (hg : IsGraph L) (w : World) (h : Seen w A L) (f : Nat) : ∀ s, s < f → s < 64 → s < 2 ^ L.length →
    Calls Tryd.prog 40 #[.slice A L.length c, .int .i64 (s : Nat)] w fun e w' => e = .returned (.int .i64 (matR L f s : Nat)) ∧ w = w' := by
  induction f with
  | zero => intro s hs; omega
  | succ f ih =>
    intro s hsf h64 hsn
    have h6 := hg.2.1
    by_cases h0 : s = 0
    · subst h0
      have hr : matR L (f + 1) 0 = 0 := by unfold matR; rw [if_pos rfl]
      rw [hr]
      clear ih h hg
      go_enter Tryd.func40, Tryd.ntmps40
      go_wp2
      go_ret
      exact ⟨rfl, rfl⟩
    · obtain ⟨l1, l2, l3⟩ := low_facts h64 h0
      have hr : matR L (f + 1) s = matTo L f (lowN s) (outS s (2 ^ lowN s)) L.length := by
        show (if s = 0 then 0 else _) = _
        rw [if_neg h0]
        rfl
      rw [hr]
      obtain ⟨v, ev⟩ : ∃ v, v = lowN s := ⟨_, rfl⟩
      rw [← ev] at l1 l2 l3 ⊢
      have hlt := outS_lt h64 l2 l1
      obtain ⟨P, t, et, p1, p2, p3⟩ := andNot_pow h64 l2
      rw [← et] at hlt ⊢
      have hvn : v < L.length := by
        refine Nat.lt_of_not_le fun hl => ?_
        rw [Nat.testBit_lt_two_pow (Nat.lt_of_lt_of_le hsn (Nat.pow_le_pow_right (n := 2) (by omega) hl))] at l1
        cases l1
      have I0 := Lib.hid (ih t (by omega) (by omega) (by omega))
      have IW : Hid (∀ u, u ≤ t → Calls Tryd.prog 40 #[.slice A L.length c, .int .i64 (u : Nat)] w fun e w' => e = .returned (.int .i64 (matR L f u : Nat)) ∧ w = w') := Lib.hid fun u hu => ih u (by omega) (by omega) (by omega)
      have hin := (hg.2.2 v hvn).1
      have hX := ent_lt hin
      have h2n := two_le h6
      obtain ⟨b, off, rfl, _, hc⟩ := h v hvn
      rw [ent_int hin] at hc
      have HS : Hid (∀ k, matTo L f v t (k + 1) = matStep L v t (matR L f) (matTo L f v t k) k) := Lib.hid (matTo_succ L f v t)
      have HL : Hid (∀ k, matTo L f v t k ≤ 4) := Lib.hid fun k => matTo_le h6 f v t k (by omega) (by omega) (by omega)
      have HR : Hid (∀ u, u ≤ t → matR L f u ≤ 3) := Lib.hid fun u hu => matR_le h6 f u (by omega) (by omega) (by omega)
      have H0 : Hid (matTo L f v t 0 = matR L f t) := Lib.hid rfl
      have ht64 : t < 64 := by omega
      obtain ⟨n, hn⟩ : ∃ n, n = L.length := ⟨_, rfl⟩
      rw [← hn] at h6 hvn I0 IW ⊢
      have hX64 : ent L v < 64 := by omega
      obtain ⟨X, eX⟩ : ∃ X, X = ent L v := ⟨_, rfl⟩
      rw [← eX] at hc hX64
      have EX := Lib.hid eX
      have L1 : Hid (∀ k, k < v → s / 2 ^ k % 2 = 0) := Lib.hid fun k hk => by
        have h1 := l3 k hk
        have h2 : ¬ s / 2 ^ k % 2 = 1 := fun h => by rw [(tb s k).1 h] at h1; cases h1
        omega
      have L2 : Hid (s / 2 ^ v % 2 = 1) := Lib.hid ((tb s v).2 l1)
      have hs0 : ((s : Int) == 0) = false := by simp; omega
      clear ih h hg hr l1 l3 ev et hin hX h2n hn eX hsn hsf h0
      go_enter Tryd.func40, Tryd.ntmps40
      go_wp2
      go_loop [5] (fun i => ∃ k : Nat, k ≤ v ∧ i = .int .i64 k) (fun i => v - (intOf i).toNat)
      case atStart => exact ⟨0, Nat.zero_le _, rfl⟩
      case round =>
        obtain ⟨k, hk, rfl⟩ := hrel
        obtain ⟨r, er, hr1, fr⟩ := and_facts s k (by clear p1 p2 p3; omega)
        by_cases hkv : k < v
        · have hr0 : r = 0 := by rw [er]; exact L1.out k hkv
          subst hr0
          have e0 : (((0 : Nat) : Int) == 0) = true := rfl
          have hk6 : k < 40 := by clear p1 p2 p3 fr; omega
          clear er hr1
          go_wp2
          go_round
          case rel => exact ⟨k + 1, by clear p1 p2 p3 fr; omega, by go_num⟩
          case measure => clear p1 p2 p3 fr; simp [intOf]; omega
        · have hke : k = v := by clear p1 p2 p3 fr; omega
          subst hke
          have hr1' : r = 1 := by rw [er]; exact L2.out
          subst hr1'
          have e0 : (((1 : Nat) : Int) == 0) = false := rfl
          have hk6 : k < 40 := by clear p1 p2 p3 fr; omega
          clear er hr1 hkv
          go_wp2_with fail
          refine I0.out.mono ?_
          rintro e w1 ⟨rfl, rfl⟩
          rw [← H0.out]
          go_wp2
          go_loop [6, 7] (fun m i => ∃ j : Nat, j ≤ n ∧ i = .int .i64 j ∧ m = .int .i64 (matTo L f k t j : Nat)) (fun _ i => n - (intOf i).toNat)
          case atStart => exact ⟨0, Nat.zero_le _, rfl, rfl⟩
          case round =>
            obtain ⟨j, hj, rfl, rfl⟩ := hrel
            have hm4 := HL.out j
            by_cases hlj : j < n
            · have hst := HS.out j
              unfold matStep at hst
              rw [← EX.out] at hst
              obtain ⟨P', u, eu, q1, q2, q3⟩ := andNot_pow ht64 (show j < 6 by clear p1 p2 p3 fr; omega)
              rw [← eu] at hst
              have hut : u ≤ t := by rw [eu]; exact outS_le _ _
              have IU := Lib.hid (IW.out u hut)
              have hu3 := HR.out u hut
              have fx := i64_and_nat X t (by clear p1 p2 p3 fr q1 q2 q3; omega) (by clear p1 p2 p3 fr q1 q2 q3; omega)
              have hy : X &&& t ≤ t := Nat.and_le_right
              obtain ⟨y, ey⟩ : ∃ y, y = X &&& t := ⟨_, rfl⟩
              rw [← ey] at fx hst hy
              obtain ⟨z, ez, hz, fz⟩ := and_facts y j (by clear p1 p2 p3 fr q1 q2 q3 fx; omega)
              rw [inS_bit ez] at hst
              obtain ⟨m, em⟩ : ∃ m, m = matTo L f k t j := ⟨_, rfl⟩
              rw [← em] at hst hm4 ⊢
              obtain ⟨r', er'⟩ : ∃ r', r' = matR L f u := ⟨_, rfl⟩
              rw [← er'] at hst IU hu3
              have hj40 : j < 40 := by clear p1 p2 p3 fr q1 q2 q3 fx fz; omega
              have hji : (0 : Int) ≤ (k : Int) ∧ (k : Int) < (n : Int) := by clear p1 p2 p3 fr q1 q2 q3 fx fz; omega
              have hzz : z = 0 ∨ z = 1 := by clear p1 p2 p3 fr q1 q2 q3 fx fz; omega
              have hmx := min_nat2 m (1 + r')
              have HST := Lib.hid hst
              clear ez em er' ey eu hst hz
              rcases hzz with rfl | rfl
              · have e1 : (((0 : Nat) : Int) == 1) = false := rfl
                have HN := Lib.hid (HST.out.trans (if_neg (by simp)))
                clear HST q1 q2 q3
                go_wp2
                go_round
                case rel => exact ⟨j + 1, by clear p1 p2 p3 fr fx fz; omega, by go_num, by rw [HN.out]⟩
                case measure => clear p1 p2 p3 fr fx fz; simp [intOf]; omega
              · have e1 : (((1 : Nat) : Int) == 1) = true := rfl
                have HN := Lib.hid (HST.out.trans (if_pos (by simp)))
                clear HST
                go_wp2_with fail
                refine IU.out.mono ?_
                rintro e w2 ⟨rfl, rfl⟩
                clear p1 p2 p3 q1 q2 q3 fr fx fz
                go_wp2
                go_round
                case rel => exact ⟨j + 1, by omega, by go_num, by rw [HN.out]; congr 1; split <;> omega⟩
                case measure => simp [intOf]; omega
            · have hje : j = n := by clear p1 p2 p3 fr; omega
              subst hje
              go_wp2
              go_ret
              exact ⟨rfl, rfl⟩
theorem specMatN (A : Option Addr) (c : Nat) (L : List Int) (hg : IsGraph L) (w : World) (h : Seen w A L) (Q : Nat) (hQ : Q + 1 = 2 ^ L.length) :
    Calls Tryd.prog 40 #[.slice A L.length c, .int .i64 (Q : Nat)] w fun e w' => e = .returned (.int .i64 (matN L : Nat)) ∧ w = w' := by
  have h64 := full64 hg.2.1
  have := specMat_all A c L hg w h 64 (2 ^ L.length - 1) h64 h64 (by omega)
  rw [show 2 ^ L.length - 1 = Q by omega] at this
  unfold matN
  rw [show 2 ^ L.length - 1 = Q by omega]
  exact this
theorem specMa_yes (B : Nat) (v : Value) (L : List Int) (hg : IsGraph L) (w : World) (h : Row w B v L) :
    Calls Tryd.prog 19 #[v] w (NumOkA w (matN L) true) := by
  have h6 := hg.2.1
  have H1 := Lib.hid (specIn_any B v L true ⟨fun _ => hg, fun _ => rfl⟩ w h)
  obtain ⟨A, c, rfl, hs⟩ := h.seen
  obtain ⟨P, Q, hP, hQ, hP64, s1, s2, s3, s4, s5⟩ := shl_facts L.length h6
  have H2 := Lib.hid (fun w hs => specMatN A c L hg w hs Q (by omega))
  have HS := Lib.hid (fun d => hs.below (below_drewN (Below.refl _ _) d))
  obtain ⟨n, hn⟩ : ∃ n, n = L.length := ⟨_, rfl⟩
  rw [← hn] at h6 H1 H2 s1 s2 ⊢
  clear hg h hs hn hP hQ
  go_enter Tryd.func19, Tryd.ntmps19
  go_wp2_with fail
  refine H1.out.mono ?_
  rintro e w1 ⟨rfl, d, rfl⟩
  go_wp2_with fail
  refine (H2.out _ (HS.out d)).mono ?_
  rintro e w2 ⟨rfl, rfl⟩
  go_wp2
  go_ret2
  exact ⟨rfl, below_drewN (Below.refl _ w) d⟩
theorem specMa_no (B : Nat) (v : Value) (L : List Int) (hg : ¬ IsGraph L) (w : World) (h : Row w B v L) :
    Calls Tryd.prog 19 #[v] w (NumOkA w 0 false) := by
  have H1 := Lib.hid (specIn_any B v L false ⟨fun h => (by cases h), fun h => absurd h hg⟩ w h)
  obtain ⟨A, c, rfl, hs⟩ := h.seen
  clear hg h
  go_enter Tryd.func19, Tryd.ntmps19
  go_wp2_with fail
  refine H1.out.mono ?_
  rintro e w1 ⟨rfl, d, rfl⟩
  go_wp2
  go_ret2
  exact ⟨rfl, below_drewN (Below.refl _ w) d⟩
theorem specLi_no (B : Nat) (v : Value) (L : List Int) (hg : ¬ IsGraph L) (w : World) (h : Row w B v L) :
    Calls Tryd.prog 23 #[v] w (NumOkA w 0 false) := by
  have H1 := Lib.hid (specIn_any B v L false ⟨fun h => (by cases h), fun h => absurd h hg⟩ w h)
  obtain ⟨A, c, rfl, hs⟩ := h.seen
  clear hg h
  go_enter Tryd.func23, Tryd.ntmps23
  go_wp2_with fail
  refine H1.out.mono ?_
  rintro e w1 ⟨rfl, d, rfl⟩
  go_wp2
  go_ret2
  exact ⟨rfl, below_drewN (Below.refl _ w) d⟩
open Classical in
noncomputable def linesP (L : List Int) : Nat × Bool := if HasZ L then (0, false) else (L.length - matN L, true)
set_option maxHeartbeats 2000000 in
theorem specLi_yes (B : Nat) (v : Value) (L : List Int) (hg : IsGraph L) (w : World) (h : Row w B v L) :
    Calls Tryd.prog 23 #[v] w (NumOkA w (linesP L).1 (linesP L).2) := by
  have h6 := hg.2.1
  have H1 := Lib.hid (specIn_any B v L true ⟨fun _ => hg, fun _ => rfl⟩ w h)
  obtain ⟨A, c, rfl, hs⟩ := h.seen
  obtain ⟨P, Q, hP, hQ, hP64, s1, s2, s3, s4, s5⟩ := shl_facts L.length h6
  have H2 := Lib.hid (fun w hs => specMatN A c L hg w hs Q (by omega))
  have HS := Lib.hid (fun d => hs.below (below_drewN (Below.refl _ _) d))
  have hz1 : HasZ L → linesP L = (0, false) := fun h => if_pos h
  have hz2 : ¬ HasZ L → linesP L = (L.length - matN L, true) := fun h => if_neg h
  have HZ1 : Hid (∀ k, k < L.length → L[k]?.getD 0 = 0 → linesP L = (0, false)) := Lib.hid fun k hk h0 => hz1 ⟨k, hk, h0⟩
  have HZ2 : Hid ((∀ k, k < L.length → L[k]?.getD 0 ≠ 0) → linesP L = (L.length - matN L, true) ∧ matN L ≤ L.length) := Lib.hid fun h =>
    ⟨hz2 (fun ⟨k, hk, h0⟩ => h k hk h0), (lines_min hg (nz_of hg (fun ⟨k, hk, h0⟩ => h k hk h0))).1⟩
  have HC : Hid (∀ d k, k < L.length → ∃ b off, A = some ⟨b, off, none⟩ ∧ (w.drewN d).cell? ⟨b, off + k, none⟩ = some (.int .i64 (L[k]?.getD 0))) := Lib.hid fun d k hk => by
    obtain ⟨b, off, a, _, hc⟩ := HS.out d k hk
    exact ⟨b, off, a, hc⟩
  obtain ⟨n, hn⟩ : ∃ n, n = L.length := ⟨_, rfl⟩
  rw [← hn] at h6 H1 H2 s1 s2 HZ1 HZ2 HC ⊢
  clear hg h hs hn hP hQ hz1 hz2
  go_enter Tryd.func23, Tryd.ntmps23
  go_wp2_with fail
  refine H1.out.mono ?_
  rintro e w1 ⟨rfl, d, rfl⟩
  have B1 := Lib.hid (below_drewN (Below.refl w.heap.size w) d)
  have H2d := Lib.hid (H2.out _ (HS.out d))
  have HCd := Lib.hid (HC.out d)
  obtain ⟨wd, ewd⟩ : ∃ wd, wd = w.drewN d := ⟨_, rfl⟩
  rw [← ewd] at B1 H2d HCd ⊢
  clear ewd H1 H2 HS HC
  go_wp2
  go_loop [4] (fun i => ∃ k : Nat, k ≤ n ∧ i = .int .i64 k ∧ Hid (∀ j, j < k → L[j]?.getD 0 ≠ 0)) (fun i => n - (intOf i).toNat)
  case atStart => exact ⟨0, Nat.zero_le _, rfl, Lib.hid fun j hj => absurd hj (by omega)⟩
  case round =>
    obtain ⟨k, hk, rfl, hz⟩ := hrel
    by_cases hlt : k < n
    · obtain ⟨b, off, rfl, hc⟩ := HCd.out k hlt
      have hT := HZ1.out k hlt
      have hnx : Hid (L[k]?.getD 0 ≠ 0 → ∀ j, j < k + 1 → L[j]?.getD 0 ≠ 0) := Lib.hid fun h0 j hj => by
        rcases Nat.lt_or_ge j k with hl | hl
        · exact hz.out j hl
        · rw [show j = k by omega]; exact h0
      obtain ⟨x, ex⟩ : ∃ x, x = L[k]?.getD 0 := ⟨_, rfl⟩
      rw [← ex] at hc hT hnx
      have hki : (0 : Int) ≤ (k : Int) ∧ (k : Int) < (n : Int) := by omega
      clear ex
      by_cases h0 : x = 0
      · have HB := Lib.hid (hT h0)
        have e0 : (x == 0) = true := by rw [h0]; rfl
        clear hT hnx
        go_wp2
        go_ret2
        exact ⟨by rw [HB.out]; rfl, B1.out⟩
      · have HN := Lib.hid (hnx.out h0)
        have e0 : (x == 0) = false := by simp; omega
        clear hT hnx
        go_wp2
        go_round
        case rel => exact ⟨k + 1, by omega, by go_num, HN⟩
        case measure => simp [intOf]; omega
    · have hke : k = n := by omega
      subst hke
      obtain ⟨hB, hm⟩ := HZ2.out hz.out
      have HB := Lib.hid hB
      obtain ⟨m, em⟩ : ∃ m, m = matN L := ⟨_, rfl⟩
      rw [← em] at H2d hm HB
      have hd : ((k : Int) - (m : Int)) = ((k - m : Nat) : Int) := by omega
      have hd2 : wrap64 ((k : Int) - (m : Int)) = ((k - m : Nat) : Int) := by unfold wrap64; omega
      have HD := Lib.hid hd
      clear hB em hd
      go_wp2_with fail
      refine H2d.out.mono ?_
      rintro e w2 ⟨rfl, rfl⟩
      go_wp2
      go_ret2
      refine ⟨?_, B1.out⟩
      rw [HB.out, ← HD.out]
      rfl
end Go.Proofs.YtfhaeocgbihddaaDoor
