/- The tables of x and of y alone, and their powers. -/
import Derived.Test.YtdhpamemkkfhhaaDoorTimesT
namespace Go.Proofs.YtdhpamemkkfhhaaDoor
open Go.RowKit Go.WideShapes
set_option linter.unusedVariables false
set_option maxRecDepth 100000

theorem one_cells_v {t : TypeId} {w : World} {b : Nat} {x : Value} (h : Boxed w b t x) : w.cell? ⟨b, 0, none⟩ = some x := h.cell
/-- A row out of one literal block. -/
theorem tv_lit {w : World} {b n : Nat} {T : List (List Int)} (hb : TypedAt w b 69) (hn : n = T.length) (hc : ∀ k, k < T.length → ∃ u, w.cell? ⟨b, k, none⟩ = some u ∧ PV w u (T[k]?.getD [])) : TV w (.slice (some ⟨b, 0, none⟩) n n) T := by
  subst hn
  refine ⟨_, _, rfl, (fun e => by cases e), fun k hk => ?_, fun k hk => by cases hk; exact hb⟩
  obtain ⟨u, h1, h2⟩ := hc k hk
  exact ⟨b, 0, u, rfl, hb.lt, by rw [Nat.zero_add]; exact h1, h2⟩
theorem pv_lit {w : World} {b n : Nat} {xs : List Int} (hb : TypedAt w b 70) (hn : n = xs.length) (hc : ∀ k, k < xs.length → w.cell? ⟨b, k, none⟩ = some (.int .i64 (xs[k]?.getD 0))) : PV w (.slice (some ⟨b, 0, none⟩) n n) xs := by
  subst hn
  exact ⟨_, _, rfl, (fun e => by cases e), fun k hk => ⟨b, 0, rfl, hb.lt, by rw [Nat.zero_add]; exact hc k hk⟩, fun k hk => by cases hk; exact hb⟩
def tabX : List (List Int) := [[], [1]]
def tabY : List (List Int) := [[0, 1]]
theorem typed_new (w : World) (cs : Array Value) (t : TypeId) : TypedAt (w.alloc (.cells cs t)) w.heap.size t := ⟨_, _, World.alloc_heap_new w (.cells cs t)⟩
theorem cells_new (w : World) (cs : Array Value) (t : TypeId) (k : Nat) (u : Value) (h : cs[k]? = some u) : (w.alloc (.cells cs t)).cell? ⟨w.heap.size, k, none⟩ = some u := by
  unfold World.cell?
  have e := World.alloc_heap_new w (.cells cs t)
  simp only [e]
  exact h
set_option maxHeartbeats 1000000 in
theorem unknowns_any (w : World) : Calls Tryd.prog 68 #[] w fun e w' => ∃ vx vy, e = .returned (.tuple #[vx, vy]) ∧ TV w' vx tabX ∧ TV w' vy tabY ∧ Below w.heap.size w w' := by
  go_enter Tryd.func68, Tryd.ntmps68
  go_wp2
  go_ret2
  obtain ⟨w1, e1⟩ : ∃ w1, w1 = w.alloc (.cells #[.int .i64 1] 70) := ⟨_, rfl⟩
  have s1 : w1.heap.size = w.heap.size + 1 := by rw [e1]; simp
  obtain ⟨w2, e2⟩ : ∃ w2, w2 = w1.alloc (.cells #[.slice none 0 0, .slice (some ⟨w.heap.size, 0, none⟩) 1 1] 69) := ⟨_, rfl⟩
  have s2 : w2.heap.size = w.heap.size + 1 + 1 := by rw [e2]; simp [s1]
  obtain ⟨w3, e3⟩ : ∃ w3, w3 = w2.alloc (.cells #[.int .i64 0, .int .i64 1] 70) := ⟨_, rfl⟩
  have s3 : w3.heap.size = w.heap.size + 1 + 1 + 1 := by rw [e3]; simp [s2]
  obtain ⟨w4, e4⟩ : ∃ w4, w4 = w3.alloc (.cells #[.slice (some ⟨w.heap.size + 1 + 1, 0, none⟩) 2 2] 69) := ⟨_, rfl⟩
  have b1 : Below w.heap.size w w1 := by rw [e1]; exact (Below.refl _ w).alloc (Nat.le_refl _) _
  have b2 : Below w1.heap.size w1 w2 := by rw [e2]; exact (Below.refl _ w1).alloc (Nat.le_refl _) _
  have b3 : Below w2.heap.size w2 w3 := by rw [e3]; exact (Below.refl _ w2).alloc (Nat.le_refl _) _
  have b4 : Below w3.heap.size w3 w4 := by rw [e4]; exact (Below.refl _ w3).alloc (Nat.le_refl _) _
  have p1 : PV w1 (.slice (some ⟨w.heap.size, 0, none⟩) 1 1) [1] := pv_lit (by rw [e1]; exact typed_new _ _ _) rfl (fun k hk => by
    obtain rfl : k = 0 := by simpa using hk
    rw [e1]; exact cells_new w _ _ 0 _ rfl)
  have x2 : TV w2 (.slice (some ⟨w.heap.size + 1, 0, none⟩) 2 2) tabX := tv_lit (by rw [e2, ← s1]; exact typed_new _ _ _) rfl (fun k hk => by
    have hk2 : k < 2 := hk
    obtain rfl | rfl : k = 0 ∨ k = 1 := by omega
    · exact ⟨_, by rw [e2, ← s1]; exact cells_new w1 _ _ 0 _ rfl, pv_nil _⟩
    · exact ⟨_, by rw [e2, ← s1]; exact cells_new w1 _ _ 1 _ rfl, p1.below b2⟩)
  have p3 : PV w3 (.slice (some ⟨w.heap.size + 1 + 1, 0, none⟩) 2 2) [0, 1] := pv_lit (by rw [e3, ← s2]; exact typed_new _ _ _) rfl (fun k hk => by
    have hk2 : k < 2 := hk
    obtain rfl | rfl : k = 0 ∨ k = 1 := by omega
    · rw [e3, ← s2]; exact cells_new w2 _ _ 0 _ rfl
    · rw [e3, ← s2]; exact cells_new w2 _ _ 1 _ rfl)
  have y4 : TV w4 (.slice (some ⟨w.heap.size + 1 + 1 + 1, 0, none⟩) 1 1) tabY := tv_lit (by rw [e4, ← s3]; exact typed_new _ _ _) rfl (fun k hk => by
    obtain rfl : k = 0 := by simpa [tabY] using hk
    exact ⟨_, by rw [e4, ← s3]; exact cells_new w3 _ _ 0 _ rfl, p3.below b4⟩)
  have hx := (x2.below b3).below b4
  have hB : Below w.heap.size w w4 := ((b1.trans (b2.mono (by omega))).trans (b3.mono (by omega))).trans (b4.mono (by omega))
  rw [e4, e3, e2, e1] at hx y4 hB
  exact ⟨_, _, rfl, hx, y4, hB⟩

/-- Powers of two tables, as the program multiplies. -/
def rX (x : List (List Int)) : Nat → List (List Int)
  | 0 => [[1]]
  | i + 1 => timesT (rX x i) x
def rXY (x : List (List Int)) (i : Nat) (y : List (List Int)) : Nat → List (List Int)
  | 0 => rX x i
  | j + 1 => timesT (rXY x i y j) y
def smallT (T : List (List Int)) : Bool := decide (T.length ≤ 500) && T.all fun r => decide (r.length ≤ 120)
theorem small_len {T : List (List Int)} (h : smallT T = true) : T.length ≤ 500 ∧ RowsLe T 120 := by
  unfold smallT at h
  rw [Bool.and_eq_true, decide_eq_true_eq] at h
  refine ⟨h.1, fun k => ?_⟩
  by_cases hk : k < T.length
  · rw [List.getElem?_eq_getElem hk]
    have := List.all_eq_true.1 h.2 _ (List.getElem_mem hk)
    simpa using this
  · rw [List.getElem?_eq_none (by omega)]
    simp
set_option maxHeartbeats 2000000 in
theorem raised_any (vx vy : Value) (x y : List (List Int)) (i j : Nat) (hi : i ≤ 100) (hj : j ≤ 100) (sx : smallT x = true) (sy : smallT y = true) (s1 : ∀ a, a ≤ i → smallT (rX x a) = true) (s2 : ∀ a, a ≤ j → smallT (rXY x i y a) = true) (w : World) (hx : TV w vx x) (hy : TV w vy y) :
    Calls Tryd.prog 71 #[vx, .int .i64 i, vy, .int .i64 j] w (GaveT w (rXY x i y j)) := by
  have HX := Lib.hid hx
  have HY := Lib.hid hy
  have HT1 : Hid (∀ a, a ≤ i → ∀ (w1 : World) (v : Value), Below w.heap.size w w1 → TV w1 v (rX x a) → Calls Tryd.prog 93 #[v, vx] w1 (GaveT w1 (rX x (a + 1)))) := Lib.hid (fun a ha w1 v hb hv =>
    timesT_any v vx (rX x a) x (small_len (s1 a ha)).1 (small_len sx).1 (small_len (s1 a ha)).2 (small_len sx).2 w1 hv (hx.below hb))
  have HT2 : Hid (∀ a, a ≤ j → ∀ (w1 : World) (v : Value), Below w.heap.size w w1 → TV w1 v (rXY x i y a) → Calls Tryd.prog 93 #[v, vy] w1 (GaveT w1 (rXY x i y (a + 1)))) := Lib.hid (fun a ha w1 v hb hv =>
    timesT_any v vy (rXY x i y a) y (small_len (s2 a ha)).1 (small_len sy).1 (small_len (s2 a ha)).2 (small_len sy).2 w1 hv (hy.below hb))
  have h0 : ∃ w1, w1 = (w.alloc (.cells #[.int .i64 1] 70)).alloc (.cells #[.slice (some ⟨w.heap.size, 0, none⟩) 1 1] 69) := ⟨_, rfl⟩
  obtain ⟨w1, e1⟩ := h0
  have hz : w1.heap.size = w.heap.size + 1 + 1 := by rw [e1]; simp
  have hb1 : Below w.heap.size w w1 := by rw [e1]; exact ((Below.refl _ w).alloc (Nat.le_refl _) _).alloc (by simp) _
  have hp : TV w1 (.slice (some ⟨w.heap.size + 1, 0, none⟩) 1 1) (rX x 0) := by
    obtain ⟨wa, ea⟩ : ∃ wa, wa = w.alloc (.cells #[.int .i64 1] 70) := ⟨_, rfl⟩
    have sa : wa.heap.size = w.heap.size + 1 := by rw [ea]; simp
    have pa : PV wa (.slice (some ⟨w.heap.size, 0, none⟩) 1 1) [1] := pv_lit (by rw [ea]; exact typed_new _ _ _) rfl (fun k hk => by
      obtain rfl : k = 0 := by simpa using hk
      rw [ea]; exact cells_new w _ _ 0 _ rfl)
    rw [← ea] at e1
    refine tv_lit (by rw [e1, ← sa]; exact typed_new _ _ _) rfl (fun k hk => ?_)
    obtain rfl : k = 0 := by simpa [rX] using hk
    exact ⟨_, by rw [e1, ← sa]; exact cells_new wa _ _ 0 _ rfl, pa.below (by rw [e1]; exact (Below.refl _ wa).alloc (Nat.le_refl _) _)⟩
  have HP := Lib.hid hp
  have HB1 := Lib.hid hb1
  have E1 := Lib.hid e1
  clear s1 s2 sx sy hx hy hp hb1 e1 hz
  go_enter Tryd.func71, Tryd.ntmps71
  go_wp2
  rw [← E1.out]
  go_loopw [9, 13] (fun v n wr => ∃ a : Nat, a ≤ i ∧ n = .int .i64 a ∧ Hid (TV wr v (rX x a)) ∧ Hid (Below w.heap.size w wr)) (fun _ n _ => i - (intOf n).toNat)
  case atStart => exact ⟨0, Nat.zero_le _, rfl, HP, HB1⟩
  case round =>
    obtain ⟨a, ha, rfl, hv, hb⟩ := hrel
    by_cases hlt : a < i
    · have HC := Lib.hid (HT1.out a ha wr _ hb.out hv.out)
      clear hv
      go_wp2_with fail
      refine HC.out.mono ?_
      rintro e w2 ⟨v2, rfl, hv2, hb2⟩
      have hb3 := Lib.hid (hb.out.trans (hb2.mono hb.out.size))
      have hv3 := Lib.hid hv2
      clear hv2 hb2
      go_wp2
      go_roundw
      case rel => exact ⟨a + 1, by omega, by go_num, hv3, hb3⟩
      case measure => simp [intOf]; omega
    · have hae : a = i := by omega
      subst hae
      have hv0 : Hid (TV wr u9 (rXY x a y 0)) := hv
      clear hv
      go_wp2
      go_loopw [9, 20] (fun v n wr => ∃ b : Nat, b ≤ j ∧ n = .int .i64 b ∧ Hid (TV wr v (rXY x a y b)) ∧ Hid (Below w.heap.size w wr)) (fun _ n _ => j - (intOf n).toNat)
      case atStart => exact ⟨0, Nat.zero_le _, rfl, hv0, hb⟩
      case round =>
        obtain ⟨b, hbj, rfl, hv, hb⟩ := hrel
        by_cases hlt : b < j
        · have HC := Lib.hid (HT2.out b hbj wr _ hb.out hv.out)
          clear hv
          go_wp2_with fail
          refine HC.out.mono ?_
          rintro e w2 ⟨v2, rfl, hv2, hb2⟩
          have hb3 := Lib.hid (hb.out.trans (hb2.mono hb.out.size))
          have hv3 := Lib.hid hv2
          clear hv2 hb2
          go_wp2
          go_roundw
          case rel => exact ⟨b + 1, by omega, by go_num, hv3, hb3⟩
          case measure => simp [intOf]; omega
        · have hbe : b = j := by omega
          subst hbe
          go_wp2
          go_ret
          exact ⟨_, rfl, hv.out, hb.out⟩
end Go.Proofs.YtdhpamemkkfhhaaDoor
