/- The model's l11Of at each text. -/
import Derived.Test.YtkninejoliclcaaDoorSpecReadAll
namespace Go.Proofs.YtkninejoliclcaaDoor
open Go Go.RowKit
set_option linter.unusedVariables false
set_option maxRecDepth 100000

theorem count_take (L : List UInt8) (k : Nat) (hk : k < L.length) : (L.take (k + 1)).count 49 = (L.take k).count 49 + (if L[k] = 49 then 1 else 0) := by
  rw [List.take_succ_eq_append_getElem hk, List.count_append, List.count_singleton]
  by_cases h : L[k] = 49
  · rw [if_pos h]; simp [h]
  · rw [if_neg h]; simp [h]

/-- How l11Of ends. -/
def SOf (w : World) (o : Option Tm) (e : Ending) (w' : World) : Prop :=
  (match o with
    | some t => ∃ c A n k, e = .returned (.tuple #[.agg #[.int .u8 c, .slice A n k], .bool true]) ∧ TmAt w' w.heap.size t (.agg #[.int .u8 c, .slice A n k])
    | none => ∃ c A n k, e = .returned (.tuple #[.agg #[.int .u8 c, .slice A n k], .bool false])) ∧ Below w.heap.size w w'

theorem l6In_any (x : Nat) (b : Bool) (hb : b = (decide (1 ≤ x) && decide (x ≤ 6))) (w : World) : Calls Tryd.prog 41 #[.int .i64 (x : Nat), .int .i64 1, .int .i64 6] w fun e w' => e = .returned (.bool b) ∧ w' = w := by
  have e1 : ((1 : Int) ≤ (x : Int)) = (1 ≤ x) := by simp; omega
  by_cases h1 : 1 ≤ x
  · by_cases h2 : x ≤ 6
    · obtain rfl : b = true := by rw [hb]; simp [h1, h2]
      have e2 : (1 : Int) ≤ (x : Int) := by omega
      have e3 : (x : Int) ≤ 6 := by omega
      clear hb h1 h2 e1
      go_enter Tryd.func41, Tryd.ntmps41
      go_wp2
      all_goals go_ret
      all_goals exact ⟨rfl, rfl⟩
    · obtain rfl : b = false := by rw [hb]; simp [h2]
      have e2 : (1 : Int) ≤ (x : Int) := by omega
      have e3 : ¬ (x : Int) ≤ 6 := by omega
      clear hb h1 h2 e1
      go_enter Tryd.func41, Tryd.ntmps41
      go_wp2
      all_goals go_ret
      all_goals exact ⟨rfl, rfl⟩
  · obtain rfl : b = false := by rw [hb]; simp [h1]
    have e2 : ¬ (1 : Int) ≤ (x : Int) := by omega
    clear hb h1 e1
    go_enter Tryd.func41, Tryd.ntmps41
    go_wp2
    all_goals go_ret
    all_goals exact ⟨rfl, rfl⟩

/-- A value is of a term, if there is one. -/
def TmO (w : World) (B : Nat) (o : Option Tm) (v : Value) : Prop := match o with | some t => TmAt w B t v | none => True
theorem TmO.set {w : World} {B s i : Nat} {x : Value} (hs : s < B) {o : Option Tm} {v : Value} (k : TmO w B o v) : TmO (w.setCell ⟨s, i, none⟩ x) B o v := by
  cases o with
  | none => trivial
  | some t => exact TmAt.set hs k
theorem TmO.below {w w' : World} {B : Nat} (h : Below w.heap.size w w') {o : Option Tm} {v : Value} (k : TmO w B o v) : TmO w' B o v := by
  cases o with
  | none => trivial
  | some t => exact TmAt.below h k
theorem TmO.low {w : World} {B B' : Nat} (h : B' ≤ B) {o : Option Tm} {v : Value} (k : TmO w B o v) : TmO w B' o v := by
  cases o with
  | none => trivial
  | some t => exact TmAt.low h k

set_option maxHeartbeats 1000000 in
theorem specOf_long (S : ByteArray) (n : Nat) (hn : S.size = n) (h : 60 < n) (w : World) : Calls Tryd.prog 27 #[.string S] w (SOf w none) := by
  go_enter Tryd.func27, Tryd.ntmps27
  go_wp2
  refine ret_box rfl rfl rfl (load_term w.heap.size _ (.int .u8 49) (.slice (some ⟨w.heap.size + 1, 0, none⟩) 0 0) (by simp [go_sem]) (by simp [go_sem])) ?_
  exact ⟨⟨_, _, _, _, rfl⟩, bl_alloc (bl_alloc (Below.refl _ _))⟩

set_option maxHeartbeats 2000000 in
theorem specOf_run (S : ByteArray) (n : Nat) (hn : S.size = n) (h : ¬ 60 < n) (b : Nat → Int) (cnt : Nat → Nat) (h0 : cnt 0 = 0) (hc : ∀ k, k < n → cnt (k + 1) = cnt k + (if b k = 49 then 1 else 0)) (hb : ∀ k, k ≤ n → cnt k ≤ k)
    (hi : ∀ k, k < n → ∀ w, (Instr.index 9 (.string S) (.int .i64 (k : Nat))).run Tryd.prog w = .ok (.int .u8 (b k)) w) (o : Option Tm) (q : Nat) (r : Bool) (hr : r = (decide (q = n) && (decide (1 ≤ cnt n) && decide (cnt n ≤ 6))))
    (H : ∀ w, Calls Tryd.prog 40 #[.string S, .int .i64 0] w fun e w' => ∃ c A k k', e = .returned (.tuple #[.agg #[.int .u8 c, .slice A k k'], .int .i64 (q : Nat)]) ∧ TmO w' w.heap.size o (.agg #[.int .u8 c, .slice A k k']) ∧ Below w.heap.size w w') (w : World) :
    Calls Tryd.prog 27 #[.string S] w fun e w' => ∃ c A k k', e = .returned (.tuple #[.agg #[.int .u8 c, .slice A k k'], .bool r]) ∧ TmO w' w.heap.size o (.agg #[.int .u8 c, .slice A k k']) ∧ Below w.heap.size w w' := by
  have HH := Lib.hid H
  have HI := Lib.hid hi
  have HC := Lib.hid hc
  have HB := Lib.hid hb
  have H0 := Lib.hid h0
  have HR := Lib.hid hr
  clear H hi hc hb h0 hr
  go_enter Tryd.func27, Tryd.ntmps27
  go_wp2
  go_loop [4, 5] (fun i j => ∃ k : Nat, k ≤ n ∧ i = .int .i64 (cnt k : Nat) ∧ j = .int .i64 k) (fun _ j => n - (intOf j).toNat)
  case atStart => exact ⟨0, Nat.zero_le _, by rw [H0.out]; rfl, rfl⟩
  case round =>
    obtain ⟨k, hk, rfl, rfl⟩ := hrel
    by_cases hkn : k < n
    · have hi := HI.out k hkn
      have hc := HC.out k hkn
      have hb := HB.out k hk
      have hw : wrap64 ((k : Int) + 1) = ((k + 1 : Nat) : Int) := by unfold wrap64; omega
      have hw2 : wrap64 ((cnt k : Int) + 1) = ((cnt k + 1 : Nat) : Int) := by unfold wrap64; omega
      by_cases he : b k = 49
      · rw [if_pos he] at hc
        rw [he] at hi
        clear he hb
        obtain ⟨x, ex⟩ : ∃ x, x = cnt k := ⟨_, rfl⟩
        rw [← ex] at hw2 hc ⊢
        have HC1 := Lib.hid hc
        have HW2 := Lib.hid hw2
        clear hc ex hw2
        go_wp2
        go_round
        case rel => exact ⟨k + 1, hkn, by rw [HC1.out, ← HW2.out], rfl⟩
        case measure => simp [intOf]; omega
      · rw [if_neg he] at hc
        have he2 : (b k == 49) = false := beq_false_of_ne he
        obtain ⟨x, ex⟩ : ∃ x, x = cnt k := ⟨_, rfl⟩
        rw [← ex] at hc ⊢
        obtain ⟨v, ev⟩ : ∃ v, v = b k := ⟨_, rfl⟩
        rw [← ev] at hi he2
        have HC1 := Lib.hid hc
        clear hc ex hw2 hb ev he
        go_wp2
        go_round
        case rel => exact ⟨k + 1, hkn, by rw [HC1.out]; rfl, rfl⟩
        case measure => simp [intOf]; omega
    · have ek : k = n := by omega
      subst ek
      have HL := Lib.hid (fun w => l6In_any (cnt k) (decide (1 ≤ cnt k) && decide (cnt k ≤ 6)) rfl w)
      have hr := HR.out
      obtain ⟨b6, e6⟩ : ∃ b6, b6 = (decide (1 ≤ cnt k) && decide (cnt k ≤ 6)) := ⟨_, rfl⟩
      rw [← e6] at HL hr
      clear e6 HI HC HB H0 HR h
      go_wp2_with fail
      refine (HH.out _).mono ?_
      rintro e w1 ⟨c, A, m, m', rfl, t1, b1⟩
      have z0 : w1.cell? ⟨w.heap.size, 0, none⟩ = some (.int .u8 0) := (b1.cell (p := ⟨w.heap.size, 0, none⟩) (by simp)).trans (by simp [go_sem])
      have z1 : w1.cell? ⟨w.heap.size, 1, none⟩ = some (.slice none 0 0) := (b1.cell (p := ⟨w.heap.size, 1, none⟩) (by simp)).trans (by simp [go_sem])
      have f0 : w1.frozen? ⟨w.heap.size, 0, none⟩ = false := (b1.frozen (p := ⟨w.heap.size, 0, none⟩) (by simp)).trans (by simp [go_sem])
      have f1 : w1.frozen? ⟨w.heap.size, 1, none⟩ = false := (b1.frozen (p := ⟨w.heap.size, 1, none⟩) (by simp)).trans (by simp [go_sem])
      have BW := Lib.hid (below_alloc_then b1)
      have T1 : Hid (TmO w1 (w.heap.size + 1) o (.agg #[.int .u8 c, .slice A m m'])) := Lib.hid (by have := t1; simp only [World.size_alloc] at this; exact this)
      have e1 : w.heap.size < w1.heap.size := Nat.lt_of_lt_of_le (by simp) b1.size
      clear b1 t1 HH
      generalize hs : w.heap.size = s at z0 z1 f0 f1 T1 e1 ⊢
      have e2 : s < w1.heap.size + 1 := by omega
      by_cases hq : q = k
      · subst hq
        obtain rfl : r = b6 := by rw [hr]; simp
        clear hr
        go_wp2
        go_region_with (go_at_call 41; refine (HL.out _).mono ?_; rintro e w2 ⟨rfl, rfl⟩)
        all_goals go_wp2
        all_goals refine ret_box rfl rfl rfl (load_term s _ (.int .u8 c) (.slice A m m') (by simp [go_sem, z0, e1]) (by simp [go_sem, z1, e1])) ?_
        all_goals exact ⟨_, _, _, _, rfl, TmO.low (by omega) (TmO.below (((Below.refl _ _).alloc (Nat.le_refl _) _).drew) ((T1.out.set (by omega)).set (by omega))), (bl_alloc (bl_set (bl_set BW.out (Nat.le_of_eq hs)) (Nat.le_of_eq hs))).drew⟩
      · obtain rfl : r = false := by rw [hr]; simp [hq]
        clear hr
        have e7 : ((q : Int) == (k : Int)) = false := beq_false_of_ne (by omega)
        have e8 : (q == k) = false := beq_false_of_ne hq
        go_wp2
        go_region
        all_goals go_wp2
        all_goals refine ret_box rfl rfl rfl (load_term s _ (.int .u8 c) (.slice A m m') (by simp [go_sem, z0, e1]) (by simp [go_sem, z1, e1])) ?_
        all_goals exact ⟨_, _, _, _, rfl, TmO.low (by omega) (TmO.below (((Below.refl _ _).alloc (Nat.le_refl _) _).drew) ((T1.out.set (by omega)).set (by omega))), (bl_alloc (bl_set (bl_set BW.out (Nat.le_of_eq hs)) (Nat.le_of_eq hs))).drew⟩

theorem specOf_any (l : List UInt8) (w : World) : Calls Tryd.prog 27 #[.string ⟨l.toArray⟩] w (SOf w (termOf l)) := by
  have hS : ({ data := l.toArray } : ByteArray).size = l.length := by show l.toArray.size = _; simp
  by_cases h60 : 60 < l.length
  · rw [show termOf l = none by unfold termOf; rw [if_pos (Or.inl h60)]]
    exact specOf_long _ l.length hS h60 w
  · have run := specOf_run ⟨l.toArray⟩ l.length hS h60 (fun k => ((l[k]?.getD 0).toNat : Int)) (fun k => (l.take k).count 49) (by simp)
      (fun k hk => by
        rw [count_take l k hk]
        have e : l[k]?.getD 0 = l[k] := by simp [hk]
        rw [e]
        by_cases h : l[k] = 49
        · rw [if_pos h, if_pos (by rw [h]; rfl)]
        · rw [if_neg h, if_neg fun h2 => h (UInt8.toNat_inj.1 (by rw [show (49 : UInt8).toNat = 49 from rfl]; omega))])
      (fun k hk => Nat.le_trans List.count_le_length (by rw [List.length_take]; omega))
      (fun k hk => by
        have e : l[k]? = some (l[k]?.getD 0) := by simp [hk]
        exact idx_string l k _ e)
    have hfull : (l.take l.length).count 49 = l.count 49 := by rw [List.take_length]
    have H0 := fun w => sread_all l (by omega) l.length 0 w (Nat.zero_le _) (by omega)
    cases ea : rd l.length l with
    | none =>
      have ht : termOf l = none := by unfold termOf; split; rfl; rw [ea]
      rw [ht]
      refine (run none 0 false ?_ (fun w => ?_) w).mono ?_
      · by_cases hn : (0 : Nat) = l.length
        · have hc : (l.take l.length).count 49 = 0 := by rw [List.eq_nil_of_length_eq_zero hn.symm]; rfl
          simp only [hc]
          simp
        · simp [hn]
      · have := H0 w
        unfold rdq at this
        rw [List.drop_zero, ea] at this
        refine this.mono ?_
        rintro e w1 ⟨⟨c, A, k, k', rfl⟩, b1⟩
        exact ⟨c, A, k, k', rfl, trivial, b1⟩
      · rintro e w1 ⟨c, A, k, k', rfl, _, b1⟩
        exact ⟨⟨c, A, k, k', rfl⟩, b1⟩
    | some p =>
      obtain ⟨t, r⟩ := p
      have HT : ∀ w, Calls Tryd.prog 40 #[.string ⟨l.toArray⟩, .int .i64 0] w fun e w' => ∃ c A k k', e = .returned (.tuple #[.agg #[.int .u8 c, .slice A k k'], .int .i64 ((l.length - r.length : Nat) : Int)]) ∧ TmO w' w.heap.size (some t) (.agg #[.int .u8 c, .slice A k k']) ∧ Below w.heap.size w w' := fun w => by
        have := H0 w
        unfold rdq at this
        rw [List.drop_zero, ea] at this
        refine this.mono ?_
        rintro e w1 ⟨⟨c, A, k, k', rfl, t1⟩, b1⟩
        exact ⟨c, A, k, k', rfl, t1, b1⟩
      obtain ⟨p1, e1, g1, k1⟩ := rd_len _ l t r ea
      cases r with
      | nil =>
        have hct : l.count 49 = t.ones := by rw [e1, List.append_nil]; exact k1
        have hto := t.ones_pos
        by_cases h6 : l.count 49 ≤ 6
        · have ht : termOf l = some t := by unfold termOf; rw [if_neg (by omega), ea]
          rw [ht]
          refine (run (some t) (l.length - 0) true ?_ HT w).mono ?_
          · rw [hfull]
            have : 1 ≤ l.count 49 := by omega
            simp [this, h6]
          · rintro e w1 ⟨c, A, k, k', rfl, t1, b1⟩
            exact ⟨⟨c, A, k, k', rfl, t1⟩, b1⟩
        · have ht : termOf l = none := by unfold termOf; rw [if_pos (by omega)]
          rw [ht]
          refine (run (some t) (l.length - 0) false ?_ HT w).mono ?_
          · rw [hfull]
            simp [h6]
          · rintro e w1 ⟨c, A, k, k', rfl, t1, b1⟩
            exact ⟨⟨c, A, k, k', rfl⟩, b1⟩
      | cons d r =>
        have ht : termOf l = none := by unfold termOf; split; rfl; rw [ea]
        rw [ht]
        have hlr : l.length = p1.length + (d :: r).length := by rw [e1, List.length_append]
        have hne : ¬ l.length - (d :: r).length = l.length := by rw [List.length_cons] at hlr ⊢; omega
        refine (run (some t) (l.length - (d :: r).length) false ?_ HT w).mono ?_
        · rw [decide_eq_false hne]
          rfl
        · rintro e w1 ⟨c, A, k, k', rfl, t1, b1⟩
          exact ⟨⟨c, A, k, k', rfl⟩, b1⟩

end Go.Proofs.YtkninejoliclcaaDoor
