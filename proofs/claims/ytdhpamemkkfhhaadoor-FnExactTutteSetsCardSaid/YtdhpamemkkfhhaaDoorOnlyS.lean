/- Texts in one: HelpSS, RowsKeep, SpecTable, SpecTrees. -/
import Derived.Test.YtdhpamemkkfhhaaDoorRowsKit
import Derived.Test.YtdhpamemkkfhhaaDoorBaseA
import Derived.Test.YtdhpamemkkfhhaaDoorSpecActive
import Derived.Test.YtdhpamemkkfhhaaDoorRowsOf
import Derived.Test.YtdhpamemkkfhhaaDoorForTab
import Derived.StillTailTactics

/- The laws' helpers for lists of lists: two compared, one marked, the marks asked. -/




namespace Go.Proofs.YtdhpamemkkfhhaaDoor
open Go Go.RowKit
set_option linter.unusedVariables false
set_option maxRecDepth 100000

theorem R2.see {w : World} {B : Nat} {v : Value} {T : List (List Int)} (h : R2 w B v T) : ∃ A c, v = .slice A T.length c ∧ ∀ k, k < T.length → ∃ g u, A = some ⟨g, 0, none⟩ ∧ w.cell? ⟨g, k, none⟩ = some u ∧ Row w B u (T[k]?.getD []) := by
  obtain ⟨vs, h1, h2, h3, h4⟩ := h
  rcases h1.shape with ⟨rfl, e⟩ | ⟨g, cap, rfl, _, _⟩
  · have : T.length = 0 := by rw [← h2, e]; rfl
    exact ⟨none, 0, by rw [this], fun k hk => absurd hk (by omega)⟩
  · exact ⟨_, cap, by rw [h2], fun k hk => ⟨g, _, rfl, h1.cellAt k (by omega), h3 k hk⟩⟩
/-- A list of elder blocks stays while younger ones are written. -/
theorem R2.apart {w w' : World} {B B' : Nat} {v : Value} {T : List (List Int)} (h : R2 w B v T) (hs : B' ≤ w.heap.size) (hb : ∀ u b, (u = v ∨ ∃ k g, k < T.length ∧ v.ownBlock = some g ∧ w.cell? ⟨g, k, none⟩ = some u) → u.ownBlock = some b → b < B') (hw : Below B' w w') : R2 w' B v T := by
  obtain ⟨vs, h1, h2, h3, h4⟩ := h
  have keep : ∀ {t : TypeId} {u : Value} {n : Nat} {xs : List Value}, w.ownsRow B t 1 u n xs → (∀ b, u.ownBlock = some b → b < B') → w'.ownsRow B t 1 u n xs := fun {t u n xs} hu hlt => by
    obtain ⟨q1, q2⟩ := hu
    refine ⟨q1, ?_⟩
    rcases q2 with q2 | ⟨g, cap, cur, a1, a2, a3, a4⟩
    · exact .inl q2
    · exact .inr ⟨g, cap, cur, a1, a2, (hw.block g (hlt g (by rw [a1]; rfl))).trans a3, a4⟩
  refine ⟨vs, keep h1 (fun b e => hb v b (.inl rfl) e), h2, fun k hk => keep (h3 k hk) (fun b e => ?_), h4⟩
  rcases h1.shape with ⟨e1, e2⟩ | ⟨g, cap, e1, _, _⟩
  · have : vs.length = 0 := by rw [e2]; rfl
    omega
  · refine hb _ b (.inr ⟨k, g, hk, by rw [e1]; rfl, ?_⟩) e
    subst e1
    exact h1.cellAt k (by omega)
theorem R2.put2 {w w' : World} {B g n cap : Nat} {T : List (List Int)} (h : R2 w B (.slice (some ⟨g, 0, none⟩) n cap) T) (i : Nat) (hi : i < T.length) {u : Value} {x : List Int} (hc : w.cell? ⟨g, i, none⟩ = some u) (hu : Row w' B u x) (hg : w.grownBy w' u.ownBlock) :
    R2 w' B (.slice (some ⟨g, 0, none⟩) n cap) (T.set i x) := by
  obtain ⟨vs, h1, h2, h3, h4⟩ := h
  have hcell := h1.cellAt i (by omega)
  rw [hc] at hcell
  have hvi : vs[i]?.getD undef = u := (Option.some.inj hcell).symm
  have hri := h3 i hi
  rw [hvi] at hri
  have hne : u.ownBlock ≠ some g := fun e => (row_typed hri g e).ne (h1.typed g rfl) (by decide) rfl
  refine ⟨vs, World.ownsRow.kept h1 hg (.inr (fun e => hne e.symm)), by rw [List.length_set, h2], fun k hk => ?_, fun a b' gg ha hb => ?_⟩
  · rw [List.length_set] at hk
    by_cases hik : i = k
    · subst hik
      rw [List.getElem?_set_self hi, hvi]
      exact hu
    · rw [List.getElem?_set_ne hik]
      have hk3 := h3 k hk
      refine World.ownsRow.kept hk3 hg ?_
      cases e : (vs[k]?.getD undef).ownBlock with
      | none => exact .inl rfl
      | some b => exact .inr (fun e2 => h4 i k b hi hk hik (by rw [hvi]; exact e2.symm) e)
  · rw [List.length_set] at ha hb
    exact h4 a b' gg ha hb

set_option maxHeartbeats 2000000 in
theorem eqSS_yes (B B' : Nat) (v1 v2 : Value) (T : List (List Int)) (w : World) (h1 : R2 w B v1 T) (h2 : R2 w B' v2 T) (hl : T.length ≤ 1000) (hr : RowsLe T 1000) :
    Calls Tryd.prog 17 #[v1, v2] w (Yes w) := by
  obtain ⟨A, c, rfl, s1⟩ := h1.see
  obtain ⟨A', c', rfl, s2⟩ := h2.see
  obtain ⟨n, hn⟩ : ∃ n, n = T.length := ⟨_, rfl⟩
  rw [← hn] at hl s1 s2 ⊢
  have hd : ((n : Int) != (n : Int)) = false := by simp
  have S1 := Lib.hid s1
  have S2 := Lib.hid s2
  have HR := Lib.hid hr
  clear h1 h2 hn s1 s2 hr
  go_enter Tryd.func17, Tryd.ntmps17
  go_wp2
  go_loopw [5] (fun i wr => ∃ k d : Nat, k ≤ n ∧ i = .int .i64 k ∧ Hid (wr = w.drewN d)) (fun i _ => n - (intOf i).toNat)
  case atStart => exact ⟨0, 0, Nat.zero_le _, rfl, Lib.hid rfl⟩
  case round =>
    obtain ⟨k, d, hk, rfl, hw⟩ := hrel
    have hw := hw.out
    subst hw
    by_cases hkn : k < n
    · obtain ⟨g, u, rfl, hc, hu⟩ := S1.out k hkn
      obtain ⟨g', u', rfl, hc', hu'⟩ := S2.out k hkn
      have hE := Lib.hid (eq_yes B B' u u' (T[k]?.getD []) ((w.drewN d).drew) (hu.drewN (d + 1)) (hu'.drewN (d + 1)) (Nat.le_trans (HR.out k) (by decide)))
      have x1 : ∀ q, (w.drewN q).cell? ⟨g, k, none⟩ = some u := fun _ => hc
      have x2 : ∀ q, (w.drewN q).cell? ⟨g', k, none⟩ = some u' := fun _ => hc'
      have y1 : (w.drewN d).drew.cell? ⟨g, k, none⟩ = some u := hc
      have y2 : (w.drewN d).drew.cell? ⟨g', k, none⟩ = some u' := hc'
      obtain ⟨a1, a2, a3, rfl⟩ : ∃ a b c, u = .slice a b c := by
        obtain ⟨A0, c0, e0, _⟩ := hu.see
        exact ⟨A0, _, c0, e0⟩
      obtain ⟨b1, b2, b3, rfl⟩ : ∃ a b c, u' = .slice a b c := by
        obtain ⟨A0, c0, e0, _⟩ := hu'.see
        exact ⟨A0, _, c0, e0⟩
      have hi1 : (0 : Int) ≤ (k : Int) ∧ (k : Int) < (n : Int) := by omega
      clear hu hu' hc hc'
      go_wp2
      go_region_with (go_at_call 14; refine hE.out.mono ?_; rintro e w3 ⟨rfl, d2, rfl⟩)
      all_goals go_wp2
      all_goals go_roundw
      all_goals first
        | exact ⟨k + 1, d + 1 + d2, by omega, by go_num, Lib.hid (by first | rfl | (rw [← World.drewN_drewN, ← World.drewN_drewN]; done) | (rw [← World.drewN_drewN, ← World.drewN_drewN]; rfl))⟩
        | (simp [intOf]; omega)
    · have hke : k = n := by omega
      subst hke
      go_wp2
      go_ret
      exact ⟨rfl, d, rfl⟩

/-! ### marks -/
def totL (T : List (List Int)) : Nat → Nat
  | 0 => 0
  | i + 1 => totL T i + (T[i]?.getD []).length
def mkT (T : List (List Int)) (q : Int) : Nat → List (List Int)
  | 0 => T
  | i + 1 => (mkT T q i).set i (marks (q + totL T i) (T[i]?.getD []).length)
theorem mkT_length (T : List (List Int)) (q : Int) (i : Nat) : (mkT T q i).length = T.length := by
  induction i with
  | zero => rfl
  | succ i ih => unfold mkT; rw [List.length_set, ih]
theorem mkT_get (T : List (List Int)) (q : Int) (i k : Nat) (hk : k < T.length) : (mkT T q i)[k]? = some (if k < i then marks (q + totL T k) (T[k]?.getD []).length else T[k]?.getD []) := by
  induction i with
  | zero =>
    rw [if_neg (by omega)]
    show T[k]? = _
    rw [List.getElem?_eq_getElem hk]; rfl
  | succ i ih =>
    unfold mkT
    rw [List.getElem?_set, mkT_length]
    by_cases h : i = k
    · subst h
      rw [if_pos rfl, if_pos hk, if_pos (by omega)]
    · rw [if_neg h, ih]
      by_cases h2 : k < i
      · rw [if_pos h2, if_pos (by omega)]
      · rw [if_neg h2, if_neg (by omega)]
theorem totL_le {T : List (List Int)} {m : Nat} (h : RowsLe T m) (i : Nat) : totL T i ≤ i * m := by
  induction i with
  | zero => simp [totL]
  | succ i ih =>
    unfold totL
    have := h i
    rw [Nat.succ_mul]
    omega
def SaidMarkSS (w : World) (B : Nat) (v : Value) (q : Int) (T : List (List Int)) (e : Ending) (w' : World) : Prop :=
  e = .returned (.int .i64 (q + totL T T.length)) ∧ R2 w' B v (mkT T q T.length) ∧ Below B w w'
set_option maxHeartbeats 2000000 in
theorem markSS_any (B : Nat) (v : Value) (T : List (List Int)) (w : World) (hB : B ≤ w.heap.size) (h : R2 w B v T) (hl : T.length ≤ 100) (hr : RowsLe T 100) :
    Calls Tryd.prog 19 #[v, .int .i64 1] w (SaidMarkSS w B v 1 T) := by
  have H0 := Lib.hid h
  have htot := fun i (hi : i ≤ 100) => Nat.le_trans (totL_le hr i) (Nat.mul_le_mul_right 100 hi)
  obtain ⟨A, c, rfl, s1⟩ := h.see
  obtain ⟨n, hn⟩ : ∃ n, n = T.length := ⟨_, rfl⟩
  unfold SaidMarkSS
  rw [← hn] at hl H0 ⊢
  have HN := Lib.hid hn
  have HR := Lib.hid hr
  have HT := Lib.hid htot
  have HS := Lib.hid s1
  clear h hn hr s1 htot
  go_enter Tryd.func19, Tryd.ntmps19
  go_wp2
  go_loopw [1, 5] (fun q i wr => ∃ k : Nat, k ≤ n ∧ i = .int .i64 k ∧ q = .int .i64 (1 + totL T k : Nat) ∧ Hid (R2 wr B (.slice A n c) (mkT T 1 k)) ∧ Hid (Below B w wr)) (fun _ i _ => n - (intOf i).toNat)
  case atStart => exact ⟨0, Nat.zero_le _, rfl, rfl, H0, Lib.hid (Below.refl _ _)⟩
  case round =>
    obtain ⟨k, hk, rfl, rfl, hr, hb⟩ := hrel
    by_cases hkn : k < n
    · have hkT : k < T.length := by have := HN.out; omega
      have hlen : k < (mkT T 1 k).length := by rw [mkT_length]; exact hkT
      obtain ⟨A2, c2, e2, s2⟩ := hr.out.see
      obtain ⟨g, u, hA2, hc, hu⟩ := s2 k hlen
      injection e2 with e3 e4 e5
      subst e3
      subst hA2
      clear e4 e5
      have hrow : (mkT T 1 k)[k]?.getD [] = T[k]?.getD [] := by rw [mkT_get T 1 k k hkT, if_neg (by omega)]; rfl
      rw [hrow] at hu
      have hx := HR.out k
      have ht := HT.out k (by omega)
      have hst : mkT T 1 (k + 1) = (mkT T 1 k).set k (marks (1 + totL T k) (T[k]?.getD []).length) := rfl
      have hst2 : totL T (k + 1) = totL T k + (T[k]?.getD []).length := rfl
      obtain ⟨t, et⟩ : ∃ t, t = totL T k := ⟨_, rfl⟩
      rw [← et] at ht hst hst2 ⊢
      have HM := Lib.hid (mark_any B u (T[k]?.getD []) ((1 + t : Nat) : Int) wr (by omega) (by omega) (by omega) hu)
      obtain ⟨ℓ, eℓ⟩ : ∃ ℓ, ℓ = (T[k]?.getD []).length := ⟨_, rfl⟩
      rw [← eℓ] at HM hst hst2 hx
      obtain ⟨a1, a2, a3, rfl⟩ : ∃ a b c, u = .slice a b c := by
        obtain ⟨A0, c0, e0, _⟩ := hu.see
        exact ⟨A0, _, c0, e0⟩
      have hi1 : (0 : Int) ≤ (k : Int) ∧ (k : Int) < (n : Int) := by omega
      have hlt := Lib.hid hu.lt
      have HST := Lib.hid hst
      have HST2 := Lib.hid hst2
      clear hu hst hst2 hrow s2 et eℓ
      go_wp2_with fail
      refine HM.out.mono ?_
      rintro e w3 ⟨rfl, hm3, hg3⟩
      have hr3 : Hid (R2 w3 B (.slice (some ⟨g, 0, none⟩) n c) (mkT T 1 (k + 1))) := Lib.hid (by
        rw [HST.out]
        have h := hr.out.put2 k hlen hc hm3 hg3
        rw [Int.natCast_add] at h
        exact h)
      have hbs := hb.out.size
      have hb3 := Lib.hid (hb.out.grown hg3 (by omega) (fun b hb => (hlt.out b hb).1))
      clear hm3 hg3 hr hb hc
      go_wp2
      go_roundw
      case rel => exact ⟨k + 1, by omega, by go_num, by rw [HST2.out]; congr 1; omega, hr3, hb3⟩
      case measure => simp [intOf]; omega
    · have hke : k = n := by omega
      subst hke
      go_wp2
      go_ret
      exact ⟨by rw [Int.natCast_add]; rfl, hr.out, hb.out⟩
set_option maxHeartbeats 2000000 in
theorem heldSS_any (B : Nat) (v : Value) (T : List (List Int)) (w : World) (h : R2 w B v (mkT T 1 T.length)) (hl : T.length ≤ 100) (hr : RowsLe T 100) :
    Calls Tryd.prog 20 #[v, .int .i64 1] w fun e w' => e = .returned (.int .i64 (1 + totL T T.length)) ∧ w = w' := by
  have htot := fun i (hi : i ≤ 100) => Nat.le_trans (totL_le hr i) (Nat.mul_le_mul_right 100 hi)
  obtain ⟨A, c, rfl, s1⟩ := h.see
  rw [mkT_length] at s1 ⊢
  have s2 : ∀ k, k < T.length → ∃ g u, A = some ⟨g, 0, none⟩ ∧ w.cell? ⟨g, k, none⟩ = some u ∧ Row w B u (marks (1 + totL T k) (T[k]?.getD []).length) := fun k hk => by
    obtain ⟨g, u, e1, e2, e3⟩ := s1 k hk
    rw [mkT_get T 1 T.length k hk, if_pos hk] at e3
    exact ⟨g, u, e1, e2, e3⟩
  obtain ⟨n, hn⟩ : ∃ n, n = T.length := ⟨_, rfl⟩
  rw [← hn] at hl s2 ⊢
  have HR := Lib.hid hr
  have HT := Lib.hid htot
  have HS := Lib.hid s2
  clear h hn hr s1 htot s2
  go_enter Tryd.func20, Tryd.ntmps20
  go_wp2
  go_loop [1, 5] (fun q i => ∃ k : Nat, k ≤ n ∧ i = .int .i64 k ∧ q = .int .i64 (1 + totL T k : Nat)) (fun _ i => n - (intOf i).toNat)
  case atStart => exact ⟨0, Nat.zero_le _, rfl, rfl⟩
  case round =>
    obtain ⟨k, hk, rfl, rfl⟩ := hrel
    by_cases hkn : k < n
    · obtain ⟨g, u, rfl, hc, hu⟩ := HS.out k hkn
      have hx := HR.out k
      have ht := HT.out k (by omega)
      have hst2 : totL T (k + 1) = totL T k + (T[k]?.getD []).length := rfl
      obtain ⟨t, et⟩ : ∃ t, t = totL T k := ⟨_, rfl⟩
      rw [← et] at ht hst2 hu ⊢
      obtain ⟨ℓ, eℓ⟩ : ∃ ℓ, ℓ = (T[k]?.getD []).length := ⟨_, rfl⟩
      rw [← eℓ] at hst2 hx hu
      have HM := Lib.hid (held_any B u ℓ ((1 + t : Nat) : Int) w (by omega) (by omega) (by omega) (by rw [Int.natCast_add]; exact hu))
      obtain ⟨a1, a2, a3, rfl⟩ : ∃ a b c, u = .slice a b c := by
        obtain ⟨A0, c0, e0, _⟩ := hu.see
        exact ⟨A0, _, c0, e0⟩
      have hi1 : (0 : Int) ≤ (k : Int) ∧ (k : Int) < (n : Int) := by omega
      have HST2 := Lib.hid hst2
      clear hu hst2 et eℓ
      go_wp2_with fail
      refine HM.out.mono ?_
      rintro e w3 ⟨rfl, rfl⟩
      have hneg : decide (((1 + t : Nat) : Int) + (ℓ : Int) < 0) = false := by simp; omega
      go_wp2
      go_round
      case rel => exact ⟨k + 1, by omega, by go_num, by rw [HST2.out]; congr 1; omega⟩
      case measure => simp [intOf]; omega
    · have hke : k = n := by omega
      subst hke
      go_wp2
      go_ret
      exact ⟨rfl, rfl⟩
end Go.Proofs.YtdhpamemkkfhhaaDoor

/- Lists of lists while others are written. -/

namespace Go.Proofs.YtdhpamemkkfhhaaDoor
open Go Go.RowKit
set_option linter.unusedVariables false
set_option maxRecDepth 100000

/-- How calls that make a list of lists, and tell a bool, end. -/
def ToldR (w : World) (T : List (List Int)) (ok : Bool) (e : Ending) (w' : World) : Prop := ∃ v, e = .returned (.tuple #[v, .bool ok]) ∧ R2 w' w.heap.size v T ∧ Below w.heap.size w w'
/-- A list of lists whose blocks all lie below S. -/
def R2S (w : World) (B S : Nat) (v : Value) (T : List (List Int)) : Prop := ∃ vs : List Value, VRow 22 w B v vs ∧ vs.length = T.length ∧ (∀ k, k < T.length → Row w B (vs[k]?.getD undef) (T[k]?.getD [])) ∧ (∀ i j g, i < T.length → j < T.length → i ≠ j → (vs[i]?.getD undef).ownBlock = some g → (vs[j]?.getD undef).ownBlock ≠ some g) ∧ (∀ b, v.ownBlock = some b → b < S) ∧ ∀ k, k < T.length → ∀ b, (vs[k]?.getD undef).ownBlock = some b → b < S
theorem R2.s {w : World} {B : Nat} {v : Value} {T : List (List Int)} (h : R2 w B v T) : R2S w B w.heap.size v T := by
  have hl := h.lt
  obtain ⟨vs, h1, h2, h3, h4⟩ := h
  exact ⟨vs, h1, h2, h3, h4, fun b e => (hl b e).2, fun k hk b e => ((h3 k hk).lt b e).2⟩
theorem R2S.r2 {w : World} {B S : Nat} {v : Value} {T : List (List Int)} (h : R2S w B S v T) : R2 w B v T := by
  obtain ⟨vs, h1, h2, h3, h4, _⟩ := h
  exact ⟨vs, h1, h2, h3, h4⟩
theorem R2S.step {w w' : World} {B S : Nat} {v : Value} {T : List (List Int)} (h : R2S w B S v T) (hw : Below S w w') : R2S w' B S v T := by
  obtain ⟨vs, h1, h2, h3, h4, h5, h6⟩ := h
  have keep : ∀ {t : TypeId} {u : Value} {n : Nat} {xs : List Value}, w.ownsRow B t 1 u n xs → (∀ b, u.ownBlock = some b → b < S) → w'.ownsRow B t 1 u n xs := fun {t u n xs} hu hlt => by
    obtain ⟨q1, q2⟩ := hu
    refine ⟨q1, ?_⟩
    rcases q2 with q2 | ⟨g, cap, cur, a1, a2, a3, a4⟩
    · exact .inl q2
    · exact .inr ⟨g, cap, cur, a1, a2, (hw.block g (hlt g (by rw [a1]; rfl))).trans a3, a4⟩
  exact ⟨vs, keep h1 h5, h2, fun k hk => keep (h3 k hk) (h6 k hk), h4, h5, h6⟩
theorem R2.keep {w w' : World} {B : Nat} {v : Value} {T : List (List Int)} {row : Option Nat} (h : R2 w B v T) (hg : w.grownBy w' row) (hr : ∀ b, row = some b → b < B) : R2 w' B v T := by
  have hl := h.lt
  obtain ⟨vs, h1, h2, h3, h4⟩ := h
  refine ⟨vs, World.ownsRow.kept h1 hg ?_, h2, fun k hk => World.ownsRow.kept (h3 k hk) hg ?_, h4⟩
  · cases e : v.ownBlock with
    | none => exact .inl rfl
    | some b => exact .inr fun e2 => by have h1 := (hl b e).1; have h2 := hr b e2.symm; omega
  · cases e : (vs[k]?.getD undef).ownBlock with
    | none => exact .inl rfl
    | some b => exact .inr fun e2 => by have h1 := ((h3 k hk).lt b e).1; have h2 := hr b e2.symm; omega
theorem R2.drewN {w : World} {B : Nat} {v : Value} {T : List (List Int)} (h : R2 w B v T) (d : Nat) : R2 (w.drewN d) B v T := h.below (below_drewN (Below.refl w.heap.size w) d)
theorem R2S.drewN {w : World} {B S : Nat} {v : Value} {T : List (List Int)} (h : R2S w B S v T) (d : Nat) : R2S (w.drewN d) B S v T := h.step (below_drewN (Below.refl S w) d)
end Go.Proofs.YtdhpamemkkfhhaaDoor

/- The model's l8Table: rows of noughts. -/




namespace Go.Proofs.YtdhpamemkkfhhaaDoor
open Go Go.RowKit
set_option linter.unusedVariables false
set_option maxRecDepth 100000

/-- append of one list to a list of lists. -/
theorem app_R2 {ops : Array Oper} {rest : List Oper} {o : Oper} {a : Act} {Q : Exit → Act → World → Prop} (hgd : o.guard = none) (s x : Operand)
    (ho : o.op = .call { callee := .builtin .append, args := #[s, x], argTypes := #[28, 28] }) (w : World) (B : Nat) (v y : Value) (T : List (List Int)) (P : List Int)
    (hs : a.eval s = v) (hx : a.eval x = .slice (some ⟨w.heap.size, 0, none⟩) 1 1) (hr : R2 w B v T) (hy : Row w B y P) (hyn : ∀ b, y.ownBlock = some b → ∀ vs : List Value, VRow 22 w B v vs → ∀ k, k < T.length → (vs[k]?.getD undef).ownBlock ≠ some b) (hB : B ≤ w.heap.size) (hlen : T.length ≤ 1000000)
    (h : ∀ v' w', R2 w' B v' (T ++ [P]) → Below B w w' → wpList Tryd.prog ops Q rest (a.put o.dst v') w') :
    wpList Tryd.prog ops Q (o :: rest) a (w.alloc (.cells #[y] 22)) := by
  obtain ⟨i0, hi, hz0, hz1, hz2⟩ := info_parts infoRows
  obtain ⟨vs, h1, h2, h3, h4⟩ := hr
  obtain ⟨yA, yc, ey, _⟩ := hy.see
  have h1' : (w.alloc (.cells #[y] 22)).ownsRow B 22 1 v vs.length vs := World.ownsRow.alloc h1 (.cells #[y] 22)
  refine wpList_append_own (w.alloc (.cells #[y] 22)) hgd s x 28 ho B 22 i0 (.slice none 0 0) 1 24 Tryd.underlying28 hi hz0 hz1 hz2 rfl (by decide) v vs.length vs hs h1'
    ⟨w.heap.size, 0, none⟩ 1 1 [y] hx rfl (cell_one_new w _ _) (by rw [ey]; simp [Value.oneCell']) (by unfold maxLen; omega) (by omega) (by simp; omega) ?_
  intro v' w' hown hg hnil
  have keep : ∀ u xs, Row w B u xs → Row w' B u xs := fun u xs hu => by
    have hu' := Row.alloc hu (.cells #[y] 22)
    refine World.ownsRow.kept hu' hg ?_
    cases e : u.ownBlock with
    | none => exact .inl rfl
    | some b =>
      refine .inr fun e2 => ?_
      have hv : v.ownBlock = some b := e2.symm
      exact (row_typed hu b e).ne (VRow.typed h1 b hv) (by decide) rfl
  refine h v' w' ⟨vs ++ [y], ?_, by rw [List.length_append, List.length_append, h2]; rfl, fun k hk => ?_, fun i j gg hi' hj hij => ?_⟩ (((Below.refl B w).alloc hB _).grown hg (by simp; omega) (fun r e => (World.ownsRow.lt h1 r e).1))
  · unfold VRow
    rw [List.length_append]
    exact hown
  · rw [List.length_append, List.length_singleton] at hk
    by_cases hkl : k < T.length
    · rw [List.getElem?_append_left (by omega), List.getElem?_append_left hkl]
      exact keep _ _ (h3 k hkl)
    · have hkk : k = T.length := by omega
      subst hkk
      rw [List.getElem?_append_right (by omega), List.getElem?_append_right (Nat.le_refl _), h2, Nat.sub_self]
      exact keep _ _ hy
  · rw [List.length_append, List.length_singleton] at hi' hj
    by_cases hil : i < T.length
    · rw [List.getElem?_append_left (l₁ := vs) (by omega)]
      by_cases hjl : j < T.length
      · rw [List.getElem?_append_left (l₁ := vs) (by omega)]
        exact h4 i j gg hil hjl hij
      · have hjj : j = T.length := by omega
        subst hjj
        rw [List.getElem?_append_right (l₁ := vs) (by omega), h2, Nat.sub_self]
        intro e1 e2
        exact hyn gg e2 vs h1 i hil e1
    · have hii : i = T.length := by omega
      subst hii
      rw [List.getElem?_append_right (l₁ := vs) (by omega), h2, Nat.sub_self, List.getElem?_append_left (l₁ := vs) (by omega)]
      intro e1 e2
      exact hyn gg e1 vs h1 j (by omega) e2
set_option maxHeartbeats 4000000 in
theorem specTable_any (A : Option Addr) (c : Nat) (L : List Int) (ht : IsT L) (w : World) (h : Seen w A L) :
    Calls Tryd.prog 39 #[.slice A L.length c] w (GaveR w (zeroT (rkT (codeOf L)) (pcf 15 (codeOf L)))) := by
  have hCl := code_ltN ht
  have hle := codesN_le L.length
  have hrs := rank_size (C := codeOf L) (by omega)
  have hpl := pcf_le 15 (codeOf L)
  have H1 := Lib.hid (specCode_seen A c L ht.1 w h)
  have H2 := Lib.hid (fun w1 => specRank_any L.length (codeOf L) ht.1.1 ht.2 hCl w1)
  have H3 := Lib.hid (fun w1 => size_code (codeOf L) (by omega) w1)
  obtain ⟨n, hn⟩ : ∃ n, n = L.length := ⟨_, rfl⟩
  rw [← hn] at H1 H2 ⊢
  obtain ⟨C, eC⟩ : ∃ C, C = codeOf L := ⟨_, rfl⟩
  rw [← eC] at H1 H2 H3 hrs hpl ⊢
  obtain ⟨r, er⟩ : ∃ r, r = rkT C := ⟨_, rfl⟩
  obtain ⟨s, es⟩ : ∃ s, s = pcf 15 C := ⟨_, rfl⟩
  rw [← er] at H2 hrs ⊢
  rw [← es] at H3 hrs hpl ⊢
  obtain ⟨m, em⟩ : ∃ m, m = s - r + 1 := ⟨_, rfl⟩
  obtain ⟨d, ed⟩ : ∃ d, d = s - r := ⟨_, rfl⟩
  have a2 : (s : Int) - (r : Int) = (d : Int) := by omega
  have a3 : (d : Int) + 1 = (m : Int) := by omega
  have hNm : r ≤ 4 ∧ m ≤ 16 := by omega
  unfold zeroT
  rw [← em]
  have hmi := run_make_ints m (by omega)
  have hms : ∀ x, (madeW x m).heap.size = x.heap.size + 1 := fun x => madeW_size x m
  clear ht h hn eC er es em ed hCl hle hrs hpl
  go_enter Tryd.func39, Tryd.ntmps39
  go_wp2_with fail
  refine H1.out.mono ?_
  rintro e w1 ⟨rfl, rfl⟩
  go_wp2_with fail
  refine (H2.out _).mono ?_
  rintro e w2 ⟨rfl, b2⟩
  have R0 : Hid (R2 (w2.alloc (.cells #[] 22)) w.heap.size (.slice (some ⟨w2.heap.size, 0, none⟩) 0 0) (List.replicate 0 (List.replicate m 0))) := Lib.hid ⟨[], VRow.mono (World.ownsRow_lit (base := w2.heap.size) (e := 22) (size := 1) w2 #[] 0 (Nat.le_refl _) (by unfold maxLen; omega) rfl) b2.size, rfl, (fun k hk => absurd hk (by simp)), (fun i j gg hi => absurd hi (by simp))⟩
  have B0 := Lib.hid (b2.alloc b2.size (.cells #[] 22))
  clear b2
  go_wp2
  go_loopw [5, 6] (fun v i wr => ∃ k : Nat, k ≤ r + 1 ∧ i = .int .i64 k ∧ Hid (R2 wr w.heap.size v (List.replicate k (List.replicate m 0))) ∧ Hid (Below w.heap.size w wr)) (fun _ i _ => r + 1 - (intOf i).toNat)
  case atStart => exact ⟨0, Nat.zero_le _, rfl, R0, B0⟩
  case round =>
    obtain ⟨k, hk, rfl, hr, hb⟩ := hrel
    by_cases hkN : k ≤ r
    · have HM := Lib.hid (madeW_row wr m (by omega))
      have HMB := Lib.hid (madeW_below wr m)
      have hbz := hb.out.size
      have HYN : Hid (∀ b, (Value.slice (some ⟨wr.heap.size, 0, none⟩) m m).ownBlock = some b → ∀ vs : List Value, VRow 22 (madeW wr m) w.heap.size u5 vs → ∀ j, j < (List.replicate k (List.replicate m (0 : Int))).length → (vs[j]?.getD undef).ownBlock ≠ some b) := Lib.hid (by
        intro b hb1 vs hvs j hj e
        have hbe : b = wr.heap.size := by injection hb1 with e5; exact e5.symm
        obtain ⟨vs0, q1, q2, q3, q4⟩ := hr.out
        have q1' := q1.below HMB.out
        have hvv : vs = vs0 := by
          rcases hvs.2 with ⟨e1, e2⟩ | ⟨g1, c1, cur1, e1, _, e3, _, _, _, e6⟩
          · rcases q1'.2 with ⟨f1, f2⟩ | ⟨g2, c2, cur2, f1, _⟩
            · rw [List.eq_nil_of_length_eq_zero e2, List.eq_nil_of_length_eq_zero f2]
            · rw [e1] at f1; cases f1
          · rcases q1'.2 with ⟨f1, f2⟩ | ⟨g2, c2, cur2, f1, _, f3, _, _, _, f6⟩
            · rw [e1] at f1; cases f1
            · rw [e1] at f1
              injection f1 with f1 f1b
              injection f1 with f1
              injection f1 with f1
              subst f1
              rw [e3] at f3
              injection f3 with f3
              injection f3 with f3
              subst f3
              rw [← e6, ← f6, f1b]
        subst hvv
        have := (q3 j hj).lt b e
        omega)
      go_wp2_with (first
        | (go_at_call 41; refine (H3.out _).mono ?_; rintro e w3 ⟨rfl, rfl⟩)
        | (at_builtin; refine app_R2 rfl (.tmp 19) (.tmp 26) rfl (madeW wr m) w.heap.size u5 (.slice (some ⟨wr.heap.size, 0, none⟩) m m) (List.replicate k (List.replicate m 0)) (List.replicate m 0) rfl (by simp [Act.eval, hms]) (hr.out.below HMB.out) (by have h := HM.out; rw [show ints (List.replicate m 0) = List.replicate m (0 : Int) by simp [ints]] at h; exact h.mono hbz) HYN.out (Nat.le_trans hbz HMB.out.size) (by rw [List.length_replicate]; omega) ?_; intro v' w' hr' hb'))
      go_roundw
      case rel => exact ⟨k + 1, by omega, by go_num, Lib.hid (by rw [List.replicate_succ']; exact hr'), Lib.hid (hb.out.trans ((HMB.out.mono hbz).trans hb'))⟩
      case measure => simp [intOf]; omega
    · have hke : k = r + 1 := by omega
      subst hke
      go_wp2
      go_ret
      exact ⟨_, rfl, hr.out, hb.out⟩
end Go.Proofs.YtdhpamemkkfhhaaDoor

/- The model's TutteTrees. -/




namespace Go.Proofs.YtdhpamemkkfhhaaDoor
open Go Go.RowKit
set_option linter.unusedVariables false
set_option maxRecDepth 100000

/-- The table keeps its form. -/
def FormT (r m : Nat) (T : List (List Int)) : Prop := T.length = r + 1 ∧ ∀ k, k < r + 1 → (T[k]?.getD []).length = m
theorem form_zero (r s : Nat) : FormT r (s - r + 1) (zeroT r s) := by
  refine ⟨by simp [zeroT], fun k hk => ?_⟩
  unfold zeroT
  rw [List.getElem?_replicate, if_pos hk]
  simp
theorem form_inc {r m : Nat} {T : List (List Int)} (h : FormT r m T) (i j : Nat) : FormT r m (incS T i j) := by
  unfold incS
  refine ⟨by rw [List.length_set]; exact h.1, fun k hk => ?_⟩
  by_cases hik : i = k
  · subst hik
    rw [List.getElem?_set_self (by rw [h.1]; exact hk)]
    simp only [Option.getD_some, List.length_set]
    exact h.2 i hk
  · rw [List.getElem?_set_ne hik]
    exact h.2 k hk
set_option maxHeartbeats 1000000 in
theorem specTreesF_no (B : Nat) (v : Value) (L : List Int) (ht : ¬ IsT L) (w : World) (h : Row w B v L) :
    Calls Tryd.prog 25 #[v] w (ToldR w [] false) := by
  have H1 := Lib.hid (given_any B v L false ⟨fun q => (by cases q), fun q => absurd q ht⟩ w h)
  clear h ht
  go_enter Tryd.func25, Tryd.ntmps25
  go_wp2_with fail
  refine H1.out.mono ?_
  rintro e w1 ⟨rfl, d, rfl⟩
  have b1 := below_drewN (Below.refl w.heap.size w) d
  go_wp2
  go_ret2
  refine ⟨_, rfl, ⟨[], VRow.mono (World.ownsRow_lit (base := (w.drewN d).heap.size) (e := 22) (size := 1) (w.drewN d) #[] 0 (Nat.le_refl _) (by unfold maxLen; omega) rfl) b1.size, rfl, (fun k hk => absurd hk (by simp)), (fun i j gg hi => absurd hi (by simp))⟩, b1.alloc b1.size _⟩
theorem wrap_pred {s : Nat} (h0 : s ≠ 0) (hs : s ≤ 1024) : wrap64 ((s : Int) - 1) = (s : Int) - 1 := by unfold wrap64; omega
set_option maxHeartbeats 8000000 in
theorem specTreesF_yes (B : Nat) (v : Value) (L : List Int) (ht : IsT L) (w : World) (h : Row w B v L) :
    Calls Tryd.prog 25 #[v] w (ToldR w (treesS (codeOf L)) true) := by
  have H1 := Lib.hid (given_any B v L true ⟨fun _ => ht, fun _ => rfl⟩ w h)
  obtain ⟨A, c, rfl, hs⟩ := h.seen
  have hCl := code_ltN ht
  have hle := codesN_le L.length
  have HT := Lib.hid (fun w1 (b : Below w.heap.size w w1) => specTable_any A c L ht w1 (hs.below b))
  have HC := Lib.hid (fun w1 (b : Below w.heap.size w w1) => specCode_seen A c L ht.1 w1 (hs.below b))
  have HF : Hid (∀ s, s < codesN L.length → ∀ w1, Below w.heap.size w w1 → Calls Tryd.prog 48 #[.slice A L.length c, .int .i64 (s : Nat)] w1 (Said1 w1 (forB (codeOf L) s))) := Lib.hid (fun s hF w1 b => specForest_any A c L ht s hF w1 (hs.below b))
  have HA : Hid (∀ s, s < codesN L.length → s &&& codeOf L = s → forB (codeOf L) s = true → ∀ w1, Below w.heap.size w w1 → Calls Tryd.prog 49 #[.slice A L.length c, .int .i64 (s : Nat)] w1 fun e w' => e = .returned (.tuple #[.int .i64 ((actP (codeOf L) s).1 : Nat), .int .i64 ((actP (codeOf L) s).2 : Nat)]) ∧ Below w1.heap.size w1 w') := Lib.hid (fun s hF hsub hf w1 b => by
    rw [act_eq (by omega) (by omega) hsub hf]
    exact specActive_any A c L ht s hF w1 (hs.below b))
  have hfacts := forT_facts (C := codeOf L) (by omega)
  have hrs := rank_size (C := codeOf L) (by omega)
  have hpl := pcf_le 15 (codeOf L)
  obtain ⟨n, hn⟩ : ∃ n, n = L.length := ⟨_, rfl⟩
  rw [← hn] at H1 HT HC HF HA hCl hle ⊢
  obtain ⟨C, eC⟩ : ∃ C, C = codeOf L := ⟨_, rfl⟩
  rw [← eC] at HT HC HF HA hCl hfacts hrs hpl ⊢
  have hC : C < 1024 := by omega
  have HCL := Lib.hid hCl
  have HLE := Lib.hid hle
  have HOK := Lib.hid hfacts.1
  have hSS : treesS C = spFrom C 1024 C (zeroT (rkT C) (pcf 15 C)) := rfl
  have hF0 := form_zero (rkT C) (pcf 15 C)
  have hok : ∀ s, okAtS C s = true → forB C s = true → (actP C s).1 ≤ rkT C ∧ (actP C s).2 ≤ pcf 15 C - rkT C := fun s h1 h2 => by
    unfold okAtS at h1
    rw [if_pos h2, Bool.and_eq_true, decide_eq_true_eq, decide_eq_true_eq] at h1
    exact h1
  have HAT := Lib.hid hok
  obtain ⟨T0, eT0⟩ : ∃ T0, T0 = zeroT (rkT C) (pcf 15 C) := ⟨_, rfl⟩
  rw [← eT0] at HT hSS hF0
  obtain ⟨r, er⟩ : ∃ r, r = rkT C := ⟨_, rfl⟩
  obtain ⟨m, em⟩ : ∃ m, m = pcf 15 C - rkT C + 1 := ⟨_, rfl⟩
  rw [← em, ← er] at hF0
  have hm16 : m ≤ 16 ∧ r ≤ 4 := by omega
  have HM := Lib.hid (And.intro er em)
  have HSS := Lib.hid hSS
  have HF0 := Lib.hid hF0
  clear ht h hs hn eC hCl hle hfacts hrs hpl hSS hF0 hok er em eT0
  go_enter Tryd.func25, Tryd.ntmps25
  go_wp2_with fail
  refine H1.out.mono ?_
  rintro e w1 ⟨rfl, d, rfl⟩
  have b1 := below_drewN (Below.refl w.heap.size w) d
  go_wp2_with fail
  refine (HT.out _ b1).mono ?_
  rintro e w2 ⟨u, rfl, hu, b2'⟩
  have b2 := b1.trans (b2'.mono b1.size)
  have hu2 := hu.mono b1.size
  obtain ⟨R, eR⟩ : ∃ R, R = r + 1 := ⟨_, rfl⟩
  obtain ⟨g, cap, rfl⟩ : ∃ g cap, u = .slice (some ⟨g, 0, none⟩) R cap := by
    obtain ⟨vs, q1, q2, _⟩ := hu
    have hl := HF0.out.1
    rcases q1.shape with ⟨e1, e2⟩ | ⟨g, cap, e1, _, _⟩
    · rw [e2] at q2; simp at q2; omega
    · exact ⟨g, cap, by rw [e1, q2, hl, eR]⟩
  have R0 := Lib.hid hu2
  have ER := Lib.hid eR
  clear eR
  have B0 := Lib.hid b2
  go_wp2_with fail
  refine (HC.out _ b2).mono ?_
  rintro e w3 ⟨rfl, rfl⟩
  clear hu hu2 b2 b2' b1
  go_wp2
  go_loopw [6, 7, 8] (fun i _ _ wr => ∃ (s f : Nat) (T : List (List Int)), s &&& C = s ∧ i = .int .i64 s ∧ Hid (okFromS C f s = true) ∧ Hid (spFrom C f s T = treesS C) ∧ Hid (FormT r m T) ∧ Hid (R2 wr w.heap.size (.slice (some ⟨g, 0, none⟩) R cap) T) ∧ Hid (Below w.heap.size w wr)) (fun i _ _ _ => (intOf i).toNat)
  case atStart => exact ⟨C, 1024, T0, by simp, rfl, HOK, Lib.hid HSS.out.symm, HF0, R0, B0⟩
  case round =>
    obtain ⟨s, f, T, hsub, rfl, hok, hsp, hft, hr, hb⟩ := hrel
    have hsC : s ≤ C := by rw [← hsub]; exact Nat.and_le_right
    have hsN : s < codesN n := Nat.lt_of_le_of_lt hsC HCL.out
    obtain ⟨f', rfl⟩ : ∃ f', f = f' + 1 := by
      cases f with
      | zero => have := hok.out; cases this
      | succ f' => exact ⟨f', rfl⟩
    have hok1 : okAtS C s = true ∧ (s = 0 ∨ okFromS C f' ((s - 1) &&& C) = true) := by
      have h : (okAtS C s && (if s = 0 then true else okFromS C f' ((s - 1) &&& C))) = true := hok.out
      rw [Bool.and_eq_true] at h
      refine ⟨h.1, ?_⟩
      by_cases h0 : s = 0
      · exact .inl h0
      · exact .inr (by have h2 := h.2; rwa [if_neg h0] at h2)
    have hsp1 : (if s = 0 then spStep C T s else spFrom C f' ((s - 1) &&& C) (spStep C T s)) = treesS C := hsp.out
    have hand : ((s - 1) &&& C) &&& C = (s - 1) &&& C := by rw [Nat.and_assoc, Nat.and_self]
    have hlt2 : s ≠ 0 → (s - 1) &&& C < s := fun h0 => Nat.lt_of_le_of_lt Nat.and_le_left (by omega)
    have HFS := Lib.hid (HF.out s hsN wr hb.out)
    have HAS : Hid (forB C s = true → ∀ w1, Below w.heap.size w w1 → Calls Tryd.prog 49 #[.slice A n c, .int .i64 (s : Nat)] w1 fun e w' => e = .returned (.tuple #[.int .i64 ((actP C s).1 : Nat), .int .i64 ((actP C s).2 : Nat)]) ∧ Below w1.heap.size w1 w') := Lib.hid (fun hf w1 b => HA.out s hsN hsub hf w1 b)
    have hat := HAT.out s hok1.1
    have hstep : spStep C T s = if forB C s = true then incS T (actP C s).1 (actP C s).2 else T := rfl
    have hop : 0 < s → bits .and .i64 ((s : Int) - 1) (C : Int) = (((s - 1) &&& C : Nat) : Int) := fun h0 => by
      have e : (s : Int) - 1 = ((s - 1 : Nat) : Int) := by omega
      rw [e]
      exact i64_and_nat _ _ (by omega) (by omega)
    obtain ⟨b, eb⟩ : ∃ b, b = forB C s := ⟨_, rfl⟩
    rw [← eb] at HFS HAS hat hstep
    obtain ⟨i, ei⟩ : ∃ i, i = (actP C s).1 := ⟨_, rfl⟩
    obtain ⟨j, ej⟩ : ∃ j, j = (actP C s).2 := ⟨_, rfl⟩
    rw [← ei, ← ej] at HAS hat hstep
    rw [← HM.out.1] at hat
    have hj2 : b = true → i < r + 1 ∧ j < m := fun hbt => by
      have h1 := hat hbt
      have h2 := HM.out.2
      have h3 := HM.out.1
      omega
    obtain ⟨q, eq⟩ : ∃ q, q = (s - 1) &&& C := ⟨_, rfl⟩
    rw [← eq] at hok1 hsp1 hand hlt2 hop
    obtain ⟨T', eT'⟩ : ∃ T', T' = spStep C T s := ⟨_, rfl⟩
    rw [← eT'] at hsp1 hstep
    -- both ways behind the forest: a world, and the table T'
    have HSP := Lib.hid hsp1
    have HOK2 := Lib.hid hok1.2
    have HAND := Lib.hid hand
    have HLT := Lib.hid hlt2
    have HOP := Lib.hid hop
    have hsN : s ≤ 1024 := by have h1 := hsN; have h2 := HLE.out; omega
    clear hok hsp hok1 hsp1 hand hlt2 hop eq eT' eb ei ej hsC hat
    cases b with
    | false =>
      have hTT : T' = T := by rw [hstep]; rfl
      subst hTT
      clear hstep hj2
      go_wp2_with fail
      refine HFS.out.mono ?_
      rintro e w4 ⟨rfl, b4⟩
      have hr4 := Lib.hid (hr.out.below b4)
      have hb4 := Lib.hid (hb.out.trans (b4.mono hb.out.size))
      clear b4 hr hb
      by_cases h0 : s = 0
      · subst h0
        have hfin := Lib.hid (show T' = treesS C from HSP.out)
        go_wp2
        go_ret2
        exact ⟨_, rfl, by rw [← hfin.out]; exact hr4.out, hb4.out⟩
      · have hd : ((s : Int) == 0) = false := by simp; omega
        have hs2 := Lib.hid (show spFrom C f' q T' = treesS C by have h := HSP.out; rwa [if_neg h0] at h)
        have hk2 := Lib.hid (show okFromS C f' q = true from HOK2.out.elim (fun h => absurd h h0) id)
        have hop2 := HOP.out (by omega)
        have hlt := HLT.out h0
        have hw1 := wrap_pred h0 hsN
        go_wp2
        go_roundw
        case rel => exact ⟨q, f', T', HAND.out, rfl, hk2, hs2, hft, hr4, hb4⟩
        case measure => simp [intOf]; omega
    | true =>
      have hTT : T' = incS T i j := by rw [hstep]; rfl
      subst hTT
      obtain ⟨hi, hj⟩ := hj2 rfl
      have HAZ : Hid (∀ w1, Below w.heap.size w w1 → Calls Tryd.prog 49 #[.slice A n c, .int .i64 (s : Nat)] w1 fun e w' => e = .returned (.tuple #[.int .i64 (i : Nat), .int .i64 (j : Nat)]) ∧ Below w1.heap.size w1 w') := Lib.hid (HAS.out rfl)
      clear HAS
      clear hstep hj2
      go_wp2_with fail
      refine HFS.out.mono ?_
      rintro e w4 ⟨rfl, b4⟩
      have hr4 := Lib.hid (hr.out.below b4)
      have hb4 := Lib.hid (hb.out.trans (b4.mono hb.out.size))
      clear b4 hr hb
      go_wp2_with fail
      refine (HAZ.out w4 hb4.out).mono ?_
      rintro e w5 ⟨rfl, b5⟩
      have hr5 := hr4.out.below b5
      have hb5 := hb4.out.trans (b5.mono hb4.out.size)
      clear b5 hr4 hb4
      have hlT : T.length = r + 1 := hft.out.1
      have hlR : (T[i]?.getD []).length = m := hft.out.2 i hi
      obtain ⟨u, hcu, hru, hfu⟩ := hr5.at i (by omega)
      have hjl : j < (T[i]?.getD []).length := by omega
      obtain ⟨b, cu, rfl⟩ : ∃ b cu, u = .slice (some ⟨b, 0, none⟩) m cu := by
        obtain ⟨A5, c5, e5, hA5⟩ := hru.see
        obtain ⟨b, eb5, _⟩ := hA5 j hjl
        exact ⟨b, c5, by rw [e5, eb5, hlR]⟩
      have hbb : w.heap.size ≤ b := (hru.lt b rfl).1
      have hcj := hru.cellAt j hjl
      have hfj := hru.frozenAt j hjl
      have hr6 := (hr5.below ((Below.refl w5.heap.size w5).drew)).set2 i (by omega) hcu j hjl (wrap64 ((T[i]?.getD [])[j]?.getD 0 + 1))
      have hr7 : R2 (w5.drew.setCell ⟨b, j, none⟩ (.int .i64 (wrap64 ((T[i]?.getD [])[j]?.getD 0 + 1)))) w.heap.size (.slice (some ⟨g, 0, none⟩) R cap) (incS T i j) := hr6
      have hft7 := Lib.hid (form_inc hft.out i j)
      obtain ⟨T', eT'⟩ : ∃ T', T' = incS T i j := ⟨_, rfl⟩
      rw [← eT'] at hr7 hft7 HSP
      obtain ⟨x, ex⟩ : ∃ x, x = (T[i]?.getD [])[j]?.getD 0 := ⟨_, rfl⟩
      rw [← ex] at hr7 hcj
      have HR7 := Lib.hid hr7
      have HB7 := Lib.hid ((hb5.drew).setCell (p := ⟨b, j, none⟩) hbb (.int .i64 (wrap64 (x + 1))))
      have hi1 : (0 : Int) ≤ (i : Int) ∧ (i : Int) < (R : Int) := by have := ER.out; omega
      have hj1 : (0 : Int) ≤ (j : Int) ∧ (j : Int) < (m : Int) := by omega
      have hcud : w5.drew.cell? ⟨g, i, none⟩ = some (.slice (some ⟨b, 0, none⟩) m cu) := hcu
      have hcjd : w5.drew.cell? ⟨b, j, none⟩ = some (.int .i64 x) := hcj
      have hfjd : w5.drew.frozen? ⟨b, j, none⟩ = false := hfj
      clear hr5 hb5 hr6 hr7 hlT hlR hjl hru hbb eT' ex hft
      by_cases h0 : s = 0
      · subst h0
        have hfin := Lib.hid (show T' = treesS C from HSP.out)
        go_wp2
        go_still_tail 14, (by kernel_rfl)
        change wpList _ _ _ _ _ w5.drew
        go_wp2
        go_ret2
        exact ⟨_, rfl, by rw [← hfin.out]; exact HR7.out, HB7.out⟩
      · have hd : ((s : Int) == 0) = false := by simp; omega
        have hs2 := Lib.hid (show spFrom C f' q T' = treesS C by have h := HSP.out; rwa [if_neg h0] at h)
        have hk2 := Lib.hid (show okFromS C f' q = true from HOK2.out.elim (fun h => absurd h h0) id)
        have hop2 := HOP.out (by omega)
        have hlt := HLT.out h0
        have hw1 := wrap_pred h0 hsN
        go_wp2
        go_still_tail 14, (by kernel_rfl)
        change wpList _ _ _ _ _ w5.drew
        go_wp2
        go_roundw
        case rel => exact ⟨q, f', T', HAND.out, rfl, hk2, hs2, hft7, HR7, HB7⟩
        case measure => simp [intOf]; omega
end Go.Proofs.YtdhpamemkkfhhaaDoor
