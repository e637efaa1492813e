/- The laws' helpers for lists of lists: two compared, one marked, the marks asked. -/
import Derived.Test.YtpegeleidkfpbaaDoorRowsKit
import Derived.Test.YtpegeleidkfpbaaDoorBaseA
namespace Go.Proofs.YtpegeleidkfpbaaDoor
open Go Go.RowKit
set_option linter.unusedVariables false
set_option maxRecDepth 100000

theorem R2.see {w : World} {B : Nat} {v : Value} {T : List (List Int)} (h : R2 w B v T) : ∃ A c, v = .slice A T.length c ∧ ∀ k, k < T.length → ∃ g u, A = some ⟨g, 0, none⟩ ∧ w.cell? ⟨g, k, none⟩ = some u ∧ Row w B u (T[k]?.getD []) := by
  obtain ⟨vs, h1, h2, h3, h4⟩ := h
  rcases h1.shape with ⟨rfl, e⟩ | ⟨g, cap, rfl, _, _⟩
  · have : T.length = 0 := by rw [← h2, e]; rfl
    exact ⟨none, 0, by rw [this], fun k hk => absurd hk (by omega)⟩
  · exact ⟨_, cap, by rw [h2], fun k hk => ⟨g, _, rfl, h1.cellAt k (by omega), h3 k hk⟩⟩
/-- A list of elder blocks stays while younger ones are written. -/
theorem R2.apart {w w' : World} {B B' : Nat} {v : Value} {T : List (List Int)} (h : R2 w B v T) (hs : B' ≤ w.heap.size) (hb : ∀ u b, (u = v ∨ ∃ k g, k < T.length ∧ v.ownBlock = some g ∧ w.cell? ⟨g, k, none⟩ = some u) → u.ownBlock = some b → b < B') (hw : Below B' w w') : R2 w' B v T := by
  obtain ⟨vs, h1, h2, h3, h4⟩ := h
  have keep : ∀ {t : TypeId} {u : Value} {n : Nat} {xs : List Value}, w.ownsRow B t 1 u n xs → (∀ b, u.ownBlock = some b → b < B') → w'.ownsRow B t 1 u n xs := fun {t u n xs} hu hlt => by
    obtain ⟨q1, q2⟩ := hu
    refine ⟨q1, ?_⟩
    rcases q2 with q2 | ⟨g, cap, cur, a1, a2, a3, a4⟩
    · exact .inl q2
    · exact .inr ⟨g, cap, cur, a1, a2, (hw.block g (hlt g (by rw [a1]; rfl))).trans a3, a4⟩
  refine ⟨vs, keep h1 (fun b e => hb v b (.inl rfl) e), h2, fun k hk => keep (h3 k hk) (fun b e => ?_), h4⟩
  rcases h1.shape with ⟨e1, e2⟩ | ⟨g, cap, e1, _, _⟩
  · have : vs.length = 0 := by rw [e2]; rfl
    omega
  · refine hb _ b (.inr ⟨k, g, hk, by rw [e1]; rfl, ?_⟩) e
    subst e1
    exact h1.cellAt k (by omega)
theorem R2.put2 {w w' : World} {B g n cap : Nat} {T : List (List Int)} (h : R2 w B (.slice (some ⟨g, 0, none⟩) n cap) T) (i : Nat) (hi : i < T.length) {u : Value} {x : List Int} (hc : w.cell? ⟨g, i, none⟩ = some u) (hu : Row w' B u x) (hg : w.grownBy w' u.ownBlock) :
    R2 w' B (.slice (some ⟨g, 0, none⟩) n cap) (T.set i x) := by
  obtain ⟨vs, h1, h2, h3, h4⟩ := h
  have hcell := h1.cellAt i (by omega)
  rw [hc] at hcell
  have hvi : vs[i]?.getD undef = u := (Option.some.inj hcell).symm
  have hri := h3 i hi
  rw [hvi] at hri
  have hne : u.ownBlock ≠ some g := fun e => (row_typed hri g e).ne (h1.typed g rfl) (by decide) rfl
  refine ⟨vs, World.ownsRow.kept h1 hg (.inr (fun e => hne e.symm)), by rw [List.length_set, h2], fun k hk => ?_, fun a b' gg ha hb => ?_⟩
  · rw [List.length_set] at hk
    by_cases hik : i = k
    · subst hik
      rw [List.getElem?_set_self hi, hvi]
      exact hu
    · rw [List.getElem?_set_ne hik]
      have hk3 := h3 k hk
      refine World.ownsRow.kept hk3 hg ?_
      cases e : (vs[k]?.getD undef).ownBlock with
      | none => exact .inl rfl
      | some b => exact .inr (fun e2 => h4 i k b hi hk hik (by rw [hvi]; exact e2.symm) e)
  · rw [List.length_set] at ha hb
    exact h4 a b' gg ha hb

set_option maxHeartbeats 2000000 in
theorem eqSS_yes (B B' : Nat) (v1 v2 : Value) (T : List (List Int)) (w : World) (h1 : R2 w B v1 T) (h2 : R2 w B' v2 T) (hl : T.length ≤ 1000) (hr : RowsLe T 1000) :
    Calls Tryd.prog 17 #[v1, v2] w (Yes w) := by
  obtain ⟨A, c, rfl, s1⟩ := h1.see
  obtain ⟨A', c', rfl, s2⟩ := h2.see
  obtain ⟨n, hn⟩ : ∃ n, n = T.length := ⟨_, rfl⟩
  rw [← hn] at hl s1 s2 ⊢
  have hd : ((n : Int) != (n : Int)) = false := by simp
  have S1 := Lib.hid s1
  have S2 := Lib.hid s2
  have HR := Lib.hid hr
  clear h1 h2 hn s1 s2 hr
  go_enter Tryd.func17, Tryd.ntmps17
  go_wp2
  go_loopw [5] (fun i wr => ∃ k d : Nat, k ≤ n ∧ i = .int .i64 k ∧ Hid (wr = w.drewN d)) (fun i _ => n - (intOf i).toNat)
  case atStart => exact ⟨0, 0, Nat.zero_le _, rfl, Lib.hid rfl⟩
  case round =>
    obtain ⟨k, d, hk, rfl, hw⟩ := hrel
    have hw := hw.out
    subst hw
    by_cases hkn : k < n
    · obtain ⟨g, u, rfl, hc, hu⟩ := S1.out k hkn
      obtain ⟨g', u', rfl, hc', hu'⟩ := S2.out k hkn
      have hE := Lib.hid (eq_yes B B' u u' (T[k]?.getD []) ((w.drewN d).drew) (hu.drewN (d + 1)) (hu'.drewN (d + 1)) (Nat.le_trans (HR.out k) (by decide)))
      have x1 : ∀ q, (w.drewN q).cell? ⟨g, k, none⟩ = some u := fun _ => hc
      have x2 : ∀ q, (w.drewN q).cell? ⟨g', k, none⟩ = some u' := fun _ => hc'
      have y1 : (w.drewN d).drew.cell? ⟨g, k, none⟩ = some u := hc
      have y2 : (w.drewN d).drew.cell? ⟨g', k, none⟩ = some u' := hc'
      obtain ⟨a1, a2, a3, rfl⟩ : ∃ a b c, u = .slice a b c := by
        obtain ⟨A0, c0, e0, _⟩ := hu.see
        exact ⟨A0, _, c0, e0⟩
      obtain ⟨b1, b2, b3, rfl⟩ : ∃ a b c, u' = .slice a b c := by
        obtain ⟨A0, c0, e0, _⟩ := hu'.see
        exact ⟨A0, _, c0, e0⟩
      have hi1 : (0 : Int) ≤ (k : Int) ∧ (k : Int) < (n : Int) := by omega
      clear hu hu' hc hc'
      go_wp2
      go_region_with (go_at_call 14; refine hE.out.mono ?_; rintro e w3 ⟨rfl, d2, rfl⟩)
      all_goals go_wp2
      all_goals go_roundw
      all_goals first
        | exact ⟨k + 1, d + 1 + d2, by omega, by go_num, Lib.hid (by first | rfl | (rw [← World.drewN_drewN, ← World.drewN_drewN]; done) | (rw [← World.drewN_drewN, ← World.drewN_drewN]; rfl))⟩
        | (simp [intOf]; omega)
    · have hke : k = n := by omega
      subst hke
      go_wp2
      go_ret
      exact ⟨rfl, d, rfl⟩

/-! ### marks -/
def totL (T : List (List Int)) : Nat → Nat
  | 0 => 0
  | i + 1 => totL T i + (T[i]?.getD []).length
def mkT (T : List (List Int)) (q : Int) : Nat → List (List Int)
  | 0 => T
  | i + 1 => (mkT T q i).set i (marks (q + totL T i) (T[i]?.getD []).length)
theorem mkT_length (T : List (List Int)) (q : Int) (i : Nat) : (mkT T q i).length = T.length := by
  induction i with
  | zero => rfl
  | succ i ih => unfold mkT; rw [List.length_set, ih]
theorem mkT_get (T : List (List Int)) (q : Int) (i k : Nat) (hk : k < T.length) : (mkT T q i)[k]? = some (if k < i then marks (q + totL T k) (T[k]?.getD []).length else T[k]?.getD []) := by
  induction i with
  | zero =>
    rw [if_neg (by omega)]
    show T[k]? = _
    rw [List.getElem?_eq_getElem hk]; rfl
  | succ i ih =>
    unfold mkT
    rw [List.getElem?_set, mkT_length]
    by_cases h : i = k
    · subst h
      rw [if_pos rfl, if_pos hk, if_pos (by omega)]
    · rw [if_neg h, ih]
      by_cases h2 : k < i
      · rw [if_pos h2, if_pos (by omega)]
      · rw [if_neg h2, if_neg (by omega)]
theorem totL_le {T : List (List Int)} {m : Nat} (h : RowsLe T m) (i : Nat) : totL T i ≤ i * m := by
  induction i with
  | zero => simp [totL]
  | succ i ih =>
    unfold totL
    have := h i
    rw [Nat.succ_mul]
    omega
def SaidMarkSS (w : World) (B : Nat) (v : Value) (q : Int) (T : List (List Int)) (e : Ending) (w' : World) : Prop :=
  e = .returned (.int .i64 (q + totL T T.length)) ∧ R2 w' B v (mkT T q T.length) ∧ Below B w w'
set_option maxHeartbeats 2000000 in
theorem markSS_any (B : Nat) (v : Value) (T : List (List Int)) (w : World) (hB : B ≤ w.heap.size) (h : R2 w B v T) (hl : T.length ≤ 100) (hr : RowsLe T 100) :
    Calls Tryd.prog 19 #[v, .int .i64 1] w (SaidMarkSS w B v 1 T) := by
  have H0 := Lib.hid h
  have htot := fun i (hi : i ≤ 100) => Nat.le_trans (totL_le hr i) (Nat.mul_le_mul_right 100 hi)
  obtain ⟨A, c, rfl, s1⟩ := h.see
  obtain ⟨n, hn⟩ : ∃ n, n = T.length := ⟨_, rfl⟩
  unfold SaidMarkSS
  rw [← hn] at hl H0 ⊢
  have HN := Lib.hid hn
  have HR := Lib.hid hr
  have HT := Lib.hid htot
  have HS := Lib.hid s1
  clear h hn hr s1 htot
  go_enter Tryd.func19, Tryd.ntmps19
  go_wp2
  go_loopw [1, 5] (fun q i wr => ∃ k : Nat, k ≤ n ∧ i = .int .i64 k ∧ q = .int .i64 (1 + totL T k : Nat) ∧ Hid (R2 wr B (.slice A n c) (mkT T 1 k)) ∧ Hid (Below B w wr)) (fun _ i _ => n - (intOf i).toNat)
  case atStart => exact ⟨0, Nat.zero_le _, rfl, rfl, H0, Lib.hid (Below.refl _ _)⟩
  case round =>
    obtain ⟨k, hk, rfl, rfl, hr, hb⟩ := hrel
    by_cases hkn : k < n
    · have hkT : k < T.length := by have := HN.out; omega
      have hlen : k < (mkT T 1 k).length := by rw [mkT_length]; exact hkT
      obtain ⟨A2, c2, e2, s2⟩ := hr.out.see
      obtain ⟨g, u, hA2, hc, hu⟩ := s2 k hlen
      injection e2 with e3 e4 e5
      subst e3
      subst hA2
      clear e4 e5
      have hrow : (mkT T 1 k)[k]?.getD [] = T[k]?.getD [] := by rw [mkT_get T 1 k k hkT, if_neg (by omega)]; rfl
      rw [hrow] at hu
      have hx := HR.out k
      have ht := HT.out k (by omega)
      have hst : mkT T 1 (k + 1) = (mkT T 1 k).set k (marks (1 + totL T k) (T[k]?.getD []).length) := rfl
      have hst2 : totL T (k + 1) = totL T k + (T[k]?.getD []).length := rfl
      obtain ⟨t, et⟩ : ∃ t, t = totL T k := ⟨_, rfl⟩
      rw [← et] at ht hst hst2 ⊢
      have HM := Lib.hid (mark_any B u (T[k]?.getD []) ((1 + t : Nat) : Int) wr (by omega) (by omega) (by omega) hu)
      obtain ⟨ℓ, eℓ⟩ : ∃ ℓ, ℓ = (T[k]?.getD []).length := ⟨_, rfl⟩
      rw [← eℓ] at HM hst hst2 hx
      obtain ⟨a1, a2, a3, rfl⟩ : ∃ a b c, u = .slice a b c := by
        obtain ⟨A0, c0, e0, _⟩ := hu.see
        exact ⟨A0, _, c0, e0⟩
      have hi1 : (0 : Int) ≤ (k : Int) ∧ (k : Int) < (n : Int) := by omega
      have hlt := Lib.hid hu.lt
      have HST := Lib.hid hst
      have HST2 := Lib.hid hst2
      clear hu hst hst2 hrow s2 et eℓ
      go_wp2_with fail
      refine HM.out.mono ?_
      rintro e w3 ⟨rfl, hm3, hg3⟩
      have hr3 : Hid (R2 w3 B (.slice (some ⟨g, 0, none⟩) n c) (mkT T 1 (k + 1))) := Lib.hid (by
        rw [HST.out]
        have h := hr.out.put2 k hlen hc hm3 hg3
        rw [Int.natCast_add] at h
        exact h)
      have hbs := hb.out.size
      have hb3 := Lib.hid (hb.out.grown hg3 (by omega) (fun b hb => (hlt.out b hb).1))
      clear hm3 hg3 hr hb hc
      go_wp2
      go_roundw
      case rel => exact ⟨k + 1, by omega, by go_num, by rw [HST2.out]; congr 1; omega, hr3, hb3⟩
      case measure => simp [intOf]; omega
    · have hke : k = n := by omega
      subst hke
      go_wp2
      go_ret
      exact ⟨by rw [Int.natCast_add]; rfl, hr.out, hb.out⟩
set_option maxHeartbeats 2000000 in
theorem heldSS_any (B : Nat) (v : Value) (T : List (List Int)) (w : World) (h : R2 w B v (mkT T 1 T.length)) (hl : T.length ≤ 100) (hr : RowsLe T 100) :
    Calls Tryd.prog 20 #[v, .int .i64 1] w fun e w' => e = .returned (.int .i64 (1 + totL T T.length)) ∧ w = w' := by
  have htot := fun i (hi : i ≤ 100) => Nat.le_trans (totL_le hr i) (Nat.mul_le_mul_right 100 hi)
  obtain ⟨A, c, rfl, s1⟩ := h.see
  rw [mkT_length] at s1 ⊢
  have s2 : ∀ k, k < T.length → ∃ g u, A = some ⟨g, 0, none⟩ ∧ w.cell? ⟨g, k, none⟩ = some u ∧ Row w B u (marks (1 + totL T k) (T[k]?.getD []).length) := fun k hk => by
    obtain ⟨g, u, e1, e2, e3⟩ := s1 k hk
    rw [mkT_get T 1 T.length k hk, if_pos hk] at e3
    exact ⟨g, u, e1, e2, e3⟩
  obtain ⟨n, hn⟩ : ∃ n, n = T.length := ⟨_, rfl⟩
  rw [← hn] at hl s2 ⊢
  have HR := Lib.hid hr
  have HT := Lib.hid htot
  have HS := Lib.hid s2
  clear h hn hr s1 htot s2
  go_enter Tryd.func20, Tryd.ntmps20
  go_wp2
  go_loop [1, 5] (fun q i => ∃ k : Nat, k ≤ n ∧ i = .int .i64 k ∧ q = .int .i64 (1 + totL T k : Nat)) (fun _ i => n - (intOf i).toNat)
  case atStart => exact ⟨0, Nat.zero_le _, rfl, rfl⟩
  case round =>
    obtain ⟨k, hk, rfl, rfl⟩ := hrel
    by_cases hkn : k < n
    · obtain ⟨g, u, rfl, hc, hu⟩ := HS.out k hkn
      have hx := HR.out k
      have ht := HT.out k (by omega)
      have hst2 : totL T (k + 1) = totL T k + (T[k]?.getD []).length := rfl
      obtain ⟨t, et⟩ : ∃ t, t = totL T k := ⟨_, rfl⟩
      rw [← et] at ht hst2 hu ⊢
      obtain ⟨ℓ, eℓ⟩ : ∃ ℓ, ℓ = (T[k]?.getD []).length := ⟨_, rfl⟩
      rw [← eℓ] at hst2 hx hu
      have HM := Lib.hid (held_any B u ℓ ((1 + t : Nat) : Int) w (by omega) (by omega) (by omega) (by rw [Int.natCast_add]; exact hu))
      obtain ⟨a1, a2, a3, rfl⟩ : ∃ a b c, u = .slice a b c := by
        obtain ⟨A0, c0, e0, _⟩ := hu.see
        exact ⟨A0, _, c0, e0⟩
      have hi1 : (0 : Int) ≤ (k : Int) ∧ (k : Int) < (n : Int) := by omega
      have HST2 := Lib.hid hst2
      clear hu hst2 et eℓ
      go_wp2_with fail
      refine HM.out.mono ?_
      rintro e w3 ⟨rfl, rfl⟩
      have hneg : decide (((1 + t : Nat) : Int) + (ℓ : Int) < 0) = false := by simp; omega
      go_wp2
      go_round
      case rel => exact ⟨k + 1, by omega, by go_num, by rw [HST2.out]; congr 1; omega⟩
      case measure => simp [intOf]; omega
    · have hke : k = n := by omega
      subst hke
      go_wp2
      go_ret
      exact ⟨rfl, rfl⟩
end Go.Proofs.YtpegeleidkfpbaaDoor
