/- The code of a beginning, counted from above: place and codeDown. -/
import Derived.RangeFuncBox
import Derived.Test.YtamabhdbcmjbjaaDoorBaseA
import Derived.Test.YtamabhdbcmjbjaaDoorLeastMath
import Derived.Test.YtamabhdbcmjbjaaDoorPlace
namespace Go.Proofs.YtamabhdbcmjbjaaDoor
open Go Go.RowKit Go.Shelf
attribute [local go_sem] Oper.semAt_some
set_option linter.unusedVariables false
set_option maxRecDepth 100000

theorem pl_small (n i j : Nat) (h : i < j) (hj : j < n) (h6 : n ≤ 6) : plD n i j ≤ 15 := by
  unfold plD
  have h1 : (n - 1 - i) * (n - 1 - i - 1) ≤ 5 * 4 := Nat.mul_le_mul (by omega) (by omega)
  omega
/-- Between two rounds of codeDown. -/
def DoI (n₀ p q : Nat) (S V : Value) (L : List Int) (P : List Nat) (m : Nat) (pre : List (Pr m)) (W : World) : Prop :=
  Boxed W n₀ 41 S ∧ Boxed W (n₀ + 1) 23 V ∧ Boxed W p 3 (.int .i64 (downTo L P (vals pre) : Nat)) ∧ Boxed W q 3 (.int .i64 ((L.length - 1 : Nat) : Int))
theorem doI_own (n₀ p q : Nat) (S V : Value) (L : List Int) (P : List Nat) (m : Nat) : Own (DoI n₀ p q S V L P m) := fun s X Y row hs hg hr =>
  ⟨boxed_own _ _ (fun _ : Unit => _) () X Y row hs.1 hg hr, boxed_own _ _ (fun _ : Unit => _) () X Y row hs.2.1 hg hr, boxed_own _ _ (fun _ : Unit => _) () X Y row hs.2.2.1 hg hr, boxed_own _ _ (fun _ : Unit => _) () X Y row hs.2.2.2 hg hr⟩
theorem downTo_lt (L : List Int) (P : List Nat) (h6 : L.length ≤ 6) (ps : List (Nat × Nat)) (h : ∀ x ∈ ps, x.1 < x.2 ∧ x.2 < L.length) : downTo L P ps < 65536 := by
  induction ps using snoc_ind with
  | h0 => show 0 < 65536; decide
  | h1 l x ih =>
    rw [downTo_snoc]
    have hx := h x (by simp)
    have h1 := pl_small L.length x.1 x.2 hx.1 hx.2 h6
    have h2 : 2 ^ plD L.length x.1 x.2 ≤ 2 ^ 15 := Nat.pow_le_pow_right (by omega) h1
    have h3 := bt_le L (at_ P x.1) (at_ P x.2)
    have h4 : bt L (at_ P x.1) (at_ P x.2) * 2 ^ plD L.length x.1 x.2 ≤ 1 * 2 ^ 15 := Nat.mul_le_mul h3 h2
    exact Nat.or_lt_two_pow (n := 16) (ih fun y hy => h y (by simp [hy])) (by omega)

set_option maxHeartbeats 4000000 in
theorem codeDown_in (A A' : Option Addr) (c c' : Nat) (L : List Int) (P : List Nat) (hg : IsGraph L) (h1P : 1 ≤ P.length) (hP : P.length ≤ L.length) (hPn : ∀ x ∈ P, x < L.length) (w : World) (h : Seen w A L) (h' : Seen w A' (ints P)) :
    CallsIn Fence.wide 8 Tryd.prog 57 #[.slice A L.length c, .slice A' P.length c'] w (NumA w (downC L P)) := by
  have h1 := hg.1
  have h6 := hg.2.1
  obtain ⟨blk, off, hA0, hbl0, _⟩ := h 0 (by omega)
  obtain ⟨blk', off', hA0', hbl0', _⟩ := h' 0 (by rw [ints_length]; omega)
  obtain ⟨n, hn⟩ : ∃ n, n = L.length := ⟨_, rfl⟩
  obtain ⟨m, hm⟩ : ∃ m, m = P.length := ⟨_, rfl⟩
  rw [← hn] at h1 h6 hP hPn ⊢
  rw [← hm] at h1P hP ⊢
  subst hA0
  subst hA0'
  have HN := Lib.hid hn
  have HM := Lib.hid hm
  have H := Lib.hid h
  have H' := Lib.hid h'
  have HG := Lib.hid hg
  have HPN := Lib.hid hPn
  have hn1 : (n : Int) - 1 = ((n - 1 : Nat) : Int) := by omega
  clear h h' hg hn hm hPn
  refine callsIn_of_wp_marks Tryd.func57 rfl trivial ?_ rfl
  simp only [Tryd.ntmps57, List.size_toArray, List.length_cons, List.length_nil, Nat.reduceAdd, Nat.reduceSub, Array.replicate_succ, Array.replicate_zero, List.push_toArray, List.append_toArray, List.nil_append, List.cons_append]
  gi_wp2
  rename_i K hK
  have hmx : Tryd.prog.follows .mixedOrders = true := by kernel_rfl
  obtain ⟨n₀, en⟩ : ∃ n₀, n₀ = w.heap.size := ⟨_, rfl⟩
  obtain ⟨Z, eZ⟩ : ∃ Z, Z = (w.alloc (.cells #[.slice (some ⟨blk, off, none⟩) n c] 41)).alloc (.cells #[.slice (some ⟨blk', off', none⟩) m c'] 23) := ⟨_, rfl⟩
  have sZ : Z.heap.size = n₀ + 1 + 1 := by rw [eZ, en]; simp
  have x0 : Boxed Z n₀ 41 (.slice (some ⟨blk, off, none⟩) n c) := by rw [eZ, en]; exact (Boxed.new w _ _).alloc _
  have x1 : Boxed Z (n₀ + 1) 23 (.slice (some ⟨blk', off', none⟩) m c') := by
    rw [eZ, en]; have h := Boxed.new (w.alloc (.cells #[.slice (some ⟨blk, off, none⟩) n c] 41)) 23 (.slice (some ⟨blk', off', none⟩) m c'); rw [World.size_alloc] at h; exact h
  have bZ : Below n₀ w Z := by rw [eZ, en]; exact ((Below.refl _ w).alloc (Nat.le_refl _) _).alloc (by simp) _
  rw [← eZ, ← en]
  rw [← en] at hbl0 hbl0'
  have y0 := x0.cell
  have y1 : ∀ o, (Z.alloc o).cell? ⟨n₀, 0, none⟩ = some (.slice (some ⟨blk, off, none⟩) n c) := fun o => (x0.alloc o).cell
  have y2 : ∀ o o', ((Z.alloc o).alloc o').cell? ⟨n₀, 0, none⟩ = some (.slice (some ⟨blk, off, none⟩) n c) := fun o o' => ((x0.alloc o).alloc o').cell
  have y3 : ∀ o o' v, (((Z.alloc o).alloc o').setCell ⟨Z.heap.size, 0, none⟩ v).cell? ⟨n₀, 0, none⟩ = some (.slice (some ⟨blk, off, none⟩) n c) := fun o o' v => (((x0.alloc o).alloc o').other (by omega) _).cell
  have y4 : ∀ o o' v, (((Z.alloc o).alloc o').setCell ⟨Z.heap.size + 1, 0, none⟩ v).cell? ⟨n₀, 0, none⟩ = some (.slice (some ⟨blk, off, none⟩) n c) := fun o o' v => (((x0.alloc o).alloc o').other (by omega) _).cell
  have hw1 : IntKind.i64.wrap ((n - 1 : Nat) : Int) = ((n - 1 : Nat) : Int) := by rw [IntKind.wrap_i64]; omega
  have EN := Lib.hid en
  have SZ := Lib.hid sZ
  have X0 := Lib.hid x0
  have X1 := Lib.hid x1
  have BZ := Lib.hid bZ
  clear eZ en x0 x1 bZ sZ
  have REST : ∀ (p q : Nat) (W : World), p ≠ q → n₀ + 1 < p → n₀ + 1 < q → p < W.heap.size → q < W.heap.size → Boxed W n₀ 41 (.slice (some ⟨blk, off, none⟩) n c) → Boxed W (n₀ + 1) 23 (.slice (some ⟨blk', off', none⟩) m c') → Boxed W p 3 (.int .i64 0) → Boxed W q 3 (.int .i64 ((n - 1 : Nat) : Int)) → Below n₀ w W →
      K { tmps := #[.slice (some ⟨blk, off, none⟩) n c, .slice (some ⟨blk', off', none⟩) m c', .pointer (some ⟨n₀, 0, none⟩), .pointer (some ⟨n₀ + 1, 0, none⟩), .int .i64 0, .pointer (some ⟨p, 0, none⟩), .pointer (some ⟨q, 0, none⟩), undef, undef, .slice (some ⟨blk, off, none⟩) n c, .int .i64 n, .int .i64 ((n - 1 : Nat) : Int), undef, undef, undef, undef, undef, undef, undef, undef, undef, undef, undef, undef, undef, undef, undef, undef, undef, undef, undef, undef, undef, undef, undef, undef, undef, undef], defers := [] } W := by
    intro p q W hpq hp hq hpl hql b0 b1 b2 b3 hB
    clear y0 y1 y2 y3 y4 X0 X1 BZ SZ
    refine hK _ _ ?_
    have v1 := b1.cell
    gi_wp2_with (refine ⟨trivial, ?_⟩; gi_at_call 67; refine (callsIn_wide.2 (pairs_any m _)).mono ?_; rintro e w' ⟨rfl, rfl⟩)
    obtain ⟨nb, enb⟩ : ∃ nb, nb = W.heap.size := ⟨_, rfl⟩
    have c0 := b0.alloc (.cells #[.int .i64 m] 3)
    have c1 := b1.alloc (.cells #[.int .i64 m] 3)
    have c2 := b2.alloc (.cells #[.int .i64 m] 3)
    have c3 := b3.alloc (.cells #[.int .i64 m] 3)
    have c4 := (Boxed.new W 3 (.int .i64 m)).cell
    have cB : Below n₀ w (W.alloc (.cells #[.int .i64 m] 3)) := hB.alloc (by omega) _
    have cS : (W.alloc (.cells #[.int .i64 m] 3)).heap.size = nb + 1 := by rw [enb]; simp
    obtain ⟨U, eU⟩ : ∃ U, U = W.alloc (.cells #[.int .i64 m] 3) := ⟨_, rfl⟩
    rw [← eU] at c0 c1 c2 c3 c4 cB cS ⊢
    rw [← enb] at hpl hql c4 ⊢
    have EU := Lib.hid eU
    have CS := Lib.hid cS
    have hle : n₀ ≤ w.heap.size := by have := EN.out; omega
    have hnbU : nb < U.heap.size := by omega
    clear eU enb b0 b1 b2 b3 hB v1 cS
    refine wpIn_rangeFunc_ownF (α := Pr m) rfl (by omega) (gf := 80) (lb := #[.pointer (some ⟨nb, 0, none⟩)]) rfl trivial (enters_of Tryd.func80 (by kernel_rfl) rfl)
      (pairs_stops Fence.wide _ trivial rfl (by omega) nb m (by omega) U hnbU c4) (fun _ _ => trivial) (fun _ _ _ _ _ _ _ _ => trivial) (Below.refl _ _) (fun _ => rfl)
      (fun pre X => DoI n₀ p q (.slice (some ⟨blk, off, none⟩) n c) (.slice (some ⟨blk', off', none⟩) m c') L P m pre X ∧ Below n₀ w X) (fun _ _ _ => False)
      (OwnFrom.and (Own.from (doI_own _ _ _ _ _ _ _ _) _) (ownFrom_below hle (by omega))) (fun _ _ _ _ _ hs _ _ => hs)
      ⟨⟨c0, c1, c2, by rw [← HN.out]; exact c3⟩, cB⟩
      (fun x => { tmps := #[.slice (some ⟨blk, off, none⟩) n c, .slice (some ⟨blk', off', none⟩) m c', .pointer (some ⟨n₀, 0, none⟩), .pointer (some ⟨n₀ + 1, 0, none⟩), .int .i64 0, .pointer (some ⟨p, 0, none⟩), .pointer (some ⟨q, 0, none⟩), .int .i64 (x.1.1 : Int), .int .i64 (x.1.2 : Int), .slice (some ⟨blk, off, none⟩) n c, .int .i64 n, .int .i64 ((n - 1 : Nat) : Int), .slice (some ⟨blk', off', none⟩) m c', .int .i64 m,
        .func (.func 80) #[] #[.pointer (some ⟨nb, 0, none⟩)], .int .i64 (x.1.1 : Int), .int .i64 (x.1.2 : Int), undef, undef, undef, undef, undef, undef, undef, undef, undef, undef, undef, undef, undef, undef, undef, undef, undef, undef, undef, undef, undef], defers := [] }) ?assign ?body ?done ?stop
    case assign =>
      intro l x X K hK
      gi_wp2
      exact hK
    case body =>
      rintro l pre x Wr ⟨⟨c0, c1, c2, c3⟩, hB⟩ hlen
      obtain ⟨⟨u, v⟩, hu, hv⟩ := x
      dsimp only at hu hv ⊢
      rw [← HN.out] at c3
      have hst := downTo_snoc L P (vals pre) (u, v)
      have hvs := vals_snoc pre (⟨(u, v), hu, hv⟩ : Pr m)
      dsimp only at hvs
      rw [← hvs] at hst
      have hun : u < n := by omega
      have hvn : v < n := by omega
      have hau : at_ P u < n := at_lt HPN.out (by rw [← HM.out]; omega)
      have hav : at_ P v < n := at_lt HPN.out (by rw [← HM.out]; omega)
      have hmem : ∀ y ∈ vals pre, y.1 < y.2 ∧ y.2 < L.length := fun y hy => by
        unfold vals at hy
        obtain ⟨z, _, rfl⟩ := List.mem_map.1 hy
        obtain ⟨z, hz1, hz2⟩ := z
        exact ⟨hz1, by have := HN.out; show z.2 < _; omega⟩
      have hdl := downTo_lt L P (by rw [← HN.out]; exact h6) (vals pre) hmem
      obtain ⟨bk2, of2, hA2, hbl2, hcu⟩ := H'.out u (by rw [ints_length, ← HM.out]; omega)
      have e2 : blk' = bk2 ∧ off' = of2 := by injection hA2 with e; injection e with e1 e2; exact ⟨e1, e2⟩
      obtain ⟨rfl, rfl⟩ := e2
      obtain ⟨bk3, of3, hA3, hbl3, hcv⟩ := H'.out v (by rw [ints_length, ← HM.out]; omega)
      have e3 : blk' = bk3 ∧ off' = of3 := by injection hA3 with e; injection e with e1 e2; exact ⟨e1, e2⟩
      obtain ⟨rfl, rfl⟩ := e3
      rw [ints_at (by rw [← HM.out]; omega)] at hcu hcv
      obtain ⟨bk1, of1, hA1, hbl1, hc1⟩ := H.out (at_ P u) (by rw [← HN.out]; exact hau)
      have e1 : blk = bk1 ∧ off = of1 := by injection hA1 with e; injection e with e1 e2; exact ⟨e1, e2⟩
      obtain ⟨rfl, rfl⟩ := e1
      have hin := (HG.out.2.2 (at_ P u) (by rw [← HN.out]; exact hau)).1
      have hX := ent_int hin
      have hXl := ent_lt hin
      have h64 := two_le (n := L.length) (by rw [← HN.out]; exact h6)
      have hbt : bt L (at_ P u) (at_ P v) = ent L (at_ P u) / 2 ^ at_ P v % 2 := rfl
      rw [hX] at hc1
      have hst' : downTo L P (vals (pre ++ [(⟨(u, v), hu, hv⟩ : Pr m)])) = downTo L P (vals pre) ||| bt L (at_ P u) (at_ P v) * 2 ^ plD n u v := by rw [hst, HN.out]
      rw [hbt] at hst'
      obtain ⟨X, eX⟩ : ∃ X, X = ent L (at_ P u) := ⟨_, rfl⟩
      obtain ⟨a, ea⟩ : ∃ a, a = at_ P u := ⟨_, rfl⟩
      obtain ⟨b, eb⟩ : ∃ b, b = at_ P v := ⟨_, rfl⟩
      obtain ⟨d, ed⟩ : ∃ d, d = downTo L P (vals pre) := ⟨_, rfl⟩
      rw [← eX] at hc1 hXl hst'
      rw [← ea] at hcu hau hc1
      rw [← eb] at hcv hav hst'
      rw [← ed] at hst' hdl c2
      have hXs : X < 1048576 := by omega
      have rU : Wr.cell? ⟨blk', off' + u, none⟩ = some (.int .i64 a) := (hB.cell (p := ⟨blk', off' + u, none⟩) hbl0').trans hcu
      have rV : Wr.cell? ⟨blk', off' + v, none⟩ = some (.int .i64 b) := (hB.cell (p := ⟨blk', off' + v, none⟩) hbl0').trans hcv
      have rX : Wr.cell? ⟨blk, off + a, none⟩ = some (.int .i64 X) := (hB.cell (p := ⟨blk, off + a, none⟩) hbl0).trans hc1
      have C0 := Lib.hid c0
      have C1 := Lib.hid c1
      have C2 := Lib.hid c2
      have C3 := Lib.hid c3
      have HB := Lib.hid hB
      have HST := Lib.hid hst'
      have z0 := c0.cell
      have z1 := c1.cell
      have z2 := c2.cell
      have z3 := c3.cell
      have hiu : (0 : Int) ≤ (u : Int) ∧ (u : Int) < (m : Int) := by omega
      have hiv : (0 : Int) ≤ (v : Int) ∧ (v : Int) < (m : Int) := by omega
      have hb40 : b < 40 := by omega
      have HE := Lib.hid (fun w hc => edge_any blk off n c a b X w hXs hau hb40 hc)
      have hmx2 : Tryd.prog.follows .mixedOrders = true := hmx
      clear c0 c1 c2 c3 hB hst hst' hvs hmem hcu hcv hc1 hA1 hA2 hA3 hbl1 hbl2 hbl3 hin hX hXl h64 hbt eX ea eb ed
      by_cases hbit : X / 2 ^ b % 2 = 1
      · have hbb : (X / 2 ^ b % 2 == 1) = true := by simp [hbit]
        have HBT := Lib.hid hbit
        clear hbit
        rw [hbb] at HE
        obtain ⟨ta, eta⟩ : ∃ ta, ta = n - 1 - v := ⟨_, rfl⟩
        obtain ⟨tb, etb⟩ : ∃ tb, tb = n - 1 - u := ⟨_, rfl⟩
        have f1 : ((n - 1 : Nat) : Int) - (v : Int) = (ta : Int) := by omega
        have f2 : ((n - 1 : Nat) : Int) - (u : Int) = (tb : Int) := by omega
        have f3 : IntKind.i64.wrap (ta : Int) = (ta : Int) := by rw [IntKind.wrap_i64]; omega
        have f4 : IntKind.i64.wrap (tb : Int) = (tb : Int) := by rw [IntKind.wrap_i64]; omega
        have hpl := place_any ta tb (by omega) (by omega) (by omega)
        have hkk : tb * (tb - 1) / 2 + ta = plD n u v := by rw [eta, etb]; rfl
        have hk15 := pl_small n u v hu hvn h6
        rw [hkk] at hpl
        obtain ⟨k, ek⟩ : ∃ k, k = plD n u v := ⟨_, rfl⟩
        rw [← ek] at hpl hk15
        have HPL := Lib.hid hpl
        have wp1 := wrap_pow k (Nat.le_trans hk15 (by decide))
        obtain ⟨t, et⟩ : ∃ t, t = 2 ^ k := ⟨_, rfl⟩
        have ht : t ≤ 2 ^ 15 := by rw [et]; exact Nat.pow_le_pow_right (by decide) hk15
        rw [← et] at wp1
        have wp2 : IntKind.i64.wrap ((2 : Int) ^ k) = (t : Int) := by rw [IntKind.wrap_i64]; unfold wrap64 at wp1; exact wp1
        have wor := i64_or_nat d t (Nat.lt_trans hdl (by decide)) (Nat.lt_of_le_of_lt ht (by decide))
        have EK := Lib.hid ek
        have ET := Lib.hid et
        obtain ⟨w3, ew3⟩ : ∃ w3, w3 = Wr.drew.drew := ⟨_, rfl⟩
        have y2 : w3.cell? ⟨p, 0, none⟩ = some (.int .i64 d) := by rw [ew3]; exact z2
        have y3 : w3.frozen? ⟨p, 0, none⟩ = false := by rw [ew3]; exact C2.out.frozen
        have EW3 := Lib.hid ew3
        clear eta etb hpl hkk ek et ht ew3
        gi_wp2
        refine wpIn_tail_round 9 (by kernel_rfl) (by kernel_rfl) (by kernel_rfl) ?_
        simp only [List.take_succ_cons, List.take_zero, List.drop_succ_cons, List.drop_zero]
        repeat still_step
        refine wpStill_nil ?_
        gi_wp2_with (refine ⟨trivial, ?_⟩; gi_at_call 60; refine (CallsIn.inRound l (callsIn_wide.2 (HE.out Wr.drew rX))).mono ?_; rintro e w' ⟨rfl, rfl⟩)
        refine wpIn_tail_round 10 (by kernel_rfl) (by kernel_rfl) (by kernel_rfl) ?_
        simp only [List.take_succ_cons, List.take_zero, List.drop_succ_cons, List.drop_zero]
        repeat still_step
        still_call ((HPL.out _).mono fun e w' ⟨he, hw⟩ => ⟨he, hw.symm⟩)
        repeat still_step
        refine wpStill_nil ?_
        rw [← EW3.out]
        gi_wp2
        rw [EW3.out]
        have gk := grown_set (grown_drew (grown_drew (World.grownBy.refl Wr (some p)))) 0 (.int .i64 ((d ||| t : Nat) : Int))
        refine ⟨((KeepsOthers.drew _).trans (KeepsOthers.drew _)).trans (KeepsOthers.setCell _ _ _), trivial, ⟨C0.out.kept gk (fun e => by injection e; omega), C1.out.kept gk (fun e => by injection e; omega), ?_, ?_⟩, HB.out.grown gk (by have := HB.out.size; omega) (fun r e => by injection e; omega)⟩
        · rw [HST.out, HBT.out, Nat.one_mul, ← EK.out, ← ET.out]
          exact (show Boxed Wr.drew.drew p 3 (.int .i64 (d : Nat)) from C2.out).set _
        · rw [← HN.out]; exact C3.out.kept gk (fun e => by injection e; omega)
      · have hb0 : X / 2 ^ b % 2 = 0 := by omega
        have hbb : (X / 2 ^ b % 2 == 1) = false := by simp [hb0]
        have HBT := Lib.hid hb0
        clear hbit hb0
        rw [hbb] at HE
        gi_wp2
        refine wpIn_tail_round 9 (by kernel_rfl) (by kernel_rfl) (by kernel_rfl) ?_
        simp only [List.take_succ_cons, List.take_zero, List.drop_succ_cons, List.drop_zero]
        repeat still_step
        refine wpStill_nil ?_
        gi_wp2_with (refine ⟨trivial, ?_⟩; gi_at_call 60; refine (CallsIn.inRound l (callsIn_wide.2 (HE.out Wr.drew rX))).mono ?_; rintro e w' ⟨rfl, rfl⟩)
        refine ⟨KeepsOthers.drew _, trivial, ⟨C0.out, C1.out, ?_, ?_⟩, HB.out.drew⟩
        · rw [HST.out, HBT.out, Nat.zero_mul, Nat.or_zero]; exact C2.out
        · rw [← HN.out]; exact C3.out
    case done =>
      rintro D xs Wr hD hS ⟨⟨c0, c1, c2, c3⟩, hB⟩ hKd
      have z1 := c2.cell
      have HS := Lib.hid hS
      clear hS
      gi_wp2
      refine ⟨by simp, .inl ⟨_, _, rfl, run_takeDeferred hKd, ?_⟩⟩
      refine ⟨_, results_tmp rfl _ _ _, ?_⟩
      refine ⟨?_, ?_⟩
      · unfold downC
        rw [← HM.out, ← HS.out]
        rfl
      · rw [← EN.out]
        exact hB.trans (belowK_b (w := w) hle Wr D _ _ (by have := EN.out; omega) hKd rfl rfl)
    case stop =>
      rintro D cd pre X _ _ h _
      exact h.elim
  have hdz : ∀ a b : Obj, ((Z.alloc a).alloc b).drew.heap.size = Z.heap.size + 1 + 1 := fun a b => by show ((Z.alloc a).alloc b).heap.size = _; simp
  have HDZ := Lib.hid hdz
  clear hdz
  have REST' := Lib.hid REST
  clear REST
  refine wpIn_wide.2 ?_
  go_region
  · exact REST'.out (Z.heap.size) (Z.heap.size + 1) ((Z.alloc (.cells #[.int .i64 0] 3)).alloc (.cells #[.int .i64 ((n - 1 : Nat) : Int)] 3)).drew (by omega) (by rw [SZ.out]; omega) (by rw [SZ.out]; omega) (by rw [HDZ.out]; omega) (by rw [HDZ.out]; omega)
      (X0.out.alloc _ |>.alloc _) (X1.out.alloc _ |>.alloc _) ((Boxed.new Z _ _).alloc _) (by have h := Boxed.new (Z.alloc (.cells #[.int .i64 0] 3)) 3 (.int .i64 ((n - 1 : Nat) : Int)); rw [World.size_alloc] at h; exact h)
      (((BZ.out.alloc (by rw [SZ.out]; omega) _).alloc (by simp [SZ.out]; omega) _).drew)
  · exact REST'.out (Z.heap.size + 1) (Z.heap.size) ((Z.alloc (.cells #[.int .i64 ((n - 1 : Nat) : Int)] 3)).alloc (.cells #[.int .i64 0] 3)).drew (by omega) (by rw [SZ.out]; omega) (by rw [SZ.out]; omega) (by rw [HDZ.out]; omega) (by rw [HDZ.out]; omega)
      (X0.out.alloc _ |>.alloc _) (X1.out.alloc _ |>.alloc _) (by have h := Boxed.new (Z.alloc (.cells #[.int .i64 ((n - 1 : Nat) : Int)] 3)) 3 (.int .i64 0); rw [World.size_alloc] at h; exact h) ((Boxed.new Z _ _).alloc _)
      (((BZ.out.alloc (by rw [SZ.out]; omega) _).alloc (by simp [SZ.out]; omega) _).drew)
#print axioms codeDown_in
end Go.Proofs.YtamabhdbcmjbjaaDoor
