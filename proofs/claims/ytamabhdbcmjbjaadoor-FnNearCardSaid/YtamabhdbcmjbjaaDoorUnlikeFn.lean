/- The program's unlike: the pairs that names leave unlike in two graphs, counted. -/
import Derived.RangeFuncBox
import Derived.Test.YtamabhdbcmjbjaaDoorBaseA
import Derived.Test.YtamabhdbcmjbjaaDoorNearMath
import Derived.Test.YtamabhdbcmjbjaaDoorLikeMath
namespace Go.Proofs.YtamabhdbcmjbjaaDoor
open Go Go.RowKit Go.Shelf
attribute [local go_sem] Oper.semAt_some
set_option linter.unusedVariables false
set_option maxRecDepth 100000

/-- Between two rounds of unlike. -/
def UnI (n₀ : Nat) (S T V : Value) (L M : List Int) (P : List Nat) (m : Nat) (pre : List (Pr m)) (W : World) : Prop :=
  Boxed W n₀ 41 S ∧ Boxed W (n₀ + 1) 41 T ∧ Boxed W (n₀ + 1 + 1) 23 V ∧ Boxed W (n₀ + 1 + 1 + 1) 3 (.int .i64 (unlTo L M P (vals pre) : Nat))
theorem unI_own (n₀ : Nat) (S T V : Value) (L M : List Int) (P : List Nat) (m : Nat) : Own (UnI n₀ S T V L M P m) := fun s X Y row hs hg hr =>
  ⟨boxed_own _ _ (fun _ : Unit => _) () X Y row hs.1 hg hr, boxed_own _ _ (fun _ : Unit => _) () X Y row hs.2.1 hg hr, boxed_own _ _ (fun _ : Unit => _) () X Y row hs.2.2.1 hg hr, boxed_own _ _ (fun _ : Unit => _) () X Y row hs.2.2.2 hg hr⟩

set_option maxHeartbeats 4000000 in
theorem unlike_in (A A' Ap : Option Addr) (c c' cp : Nat) (L M : List Int) (P : List Nat) (hg : IsGraph L) (hgM : IsGraph M) (hlm : L.length = M.length) (h1P : 1 ≤ P.length) (hP : P.length ≤ L.length) (hPn : ∀ x ∈ P, x < L.length) (w : World) (h : Seen w A L) (h' : Seen w A' M) (hp : Seen w Ap (ints P)) :
    CallsIn Fence.wide 8 Tryd.prog 84 #[.slice A L.length c, .slice A' M.length c', .slice Ap P.length cp] w (NumA w (unlike L M P)) := by
  have h1 := hg.1
  have h6 := hg.2.1
  obtain ⟨blk, off, hA0, hbl0, _⟩ := h 0 (by omega)
  obtain ⟨blk', off', hA0', hbl0', _⟩ := h' 0 (by omega)
  obtain ⟨bp, op, hAp, hblp, _⟩ := hp 0 (by rw [ints_length]; omega)
  obtain ⟨n, hn⟩ : ∃ n, n = L.length := ⟨_, rfl⟩
  have hnM : n = M.length := hn.trans hlm
  obtain ⟨m, hm⟩ : ∃ m, m = P.length := ⟨_, rfl⟩
  rw [← hnM, ← hn, ← hm]
  rw [← hn] at h1 h6 hP hPn
  rw [← hm] at h1P hP
  subst hA0
  subst hA0'
  subst hAp
  have HN := Lib.hid hn
  have HNM := Lib.hid hnM
  have HM := Lib.hid hm
  have H := Lib.hid h
  have H' := Lib.hid h'
  have HP' := Lib.hid hp
  have HG := Lib.hid hg
  have HGM := Lib.hid hgM
  have HPN := Lib.hid hPn
  clear h h' hp hg hgM hn hnM hm hPn hlm
  obtain ⟨n₀, en⟩ : ∃ n₀, n₀ = w.heap.size := ⟨_, rfl⟩
  have EN := Lib.hid en
  obtain ⟨U, eU⟩ : ∃ U, U = ((((w.alloc (.cells #[.slice (some ⟨blk, off, none⟩) n c] 41)).alloc (.cells #[.slice (some ⟨blk', off', none⟩) n c'] 41)).alloc (.cells #[.slice (some ⟨bp, op, none⟩) m cp] 23)).alloc (.cells #[.int .i64 0] 3)).alloc (.cells #[.int .i64 m] 3) := ⟨_, rfl⟩
  have sU : U.heap.size = n₀ + 5 := by rw [eU, en]; simp
  have b0 : Boxed U n₀ 41 (.slice (some ⟨blk, off, none⟩) n c) := by rw [eU, en]; exact ((((Boxed.new w _ _).alloc _).alloc _).alloc _).alloc _
  have b1 : Boxed U (n₀ + 1) 41 (.slice (some ⟨blk', off', none⟩) n c') := by
    rw [eU, en]; have h := Boxed.new (w.alloc (.cells #[.slice (some ⟨blk, off, none⟩) n c] 41)) 41 (.slice (some ⟨blk', off', none⟩) n c'); rw [World.size_alloc] at h; exact ((h.alloc _).alloc _).alloc _
  have b2w : Boxed (((w.alloc (.cells #[.slice (some ⟨blk, off, none⟩) n c] 41)).alloc (.cells #[.slice (some ⟨blk', off', none⟩) n c'] 41)).alloc (.cells #[.slice (some ⟨bp, op, none⟩) m cp] 23)) (n₀ + 1 + 1) 23 (.slice (some ⟨bp, op, none⟩) m cp) := by
    rw [en]; have h := Boxed.new ((w.alloc (.cells #[.slice (some ⟨blk, off, none⟩) n c] 41)).alloc (.cells #[.slice (some ⟨blk', off', none⟩) n c'] 41)) 23 (.slice (some ⟨bp, op, none⟩) m cp); rw [World.size_alloc, World.size_alloc] at h; exact h
  have b2 : Boxed U (n₀ + 1 + 1) 23 (.slice (some ⟨bp, op, none⟩) m cp) := by rw [eU]; exact (b2w.alloc _).alloc _
  have b3 : Boxed U (n₀ + 1 + 1 + 1) 3 (.int .i64 ((0 : Nat) : Int)) := by
    rw [eU, en]; have h := Boxed.new (((w.alloc (.cells #[.slice (some ⟨blk, off, none⟩) n c] 41)).alloc (.cells #[.slice (some ⟨blk', off', none⟩) n c'] 41)).alloc (.cells #[.slice (some ⟨bp, op, none⟩) m cp] 23)) 3 (.int .i64 0); rw [World.size_alloc, World.size_alloc, World.size_alloc] at h; exact h.alloc _
  have b4 : U.cell? ⟨n₀ + 1 + 1 + 1 + 1, 0, none⟩ = some (.int .i64 m) := by
    rw [eU, en]; have h := Boxed.new ((((w.alloc (.cells #[.slice (some ⟨blk, off, none⟩) n c] 41)).alloc (.cells #[.slice (some ⟨blk', off', none⟩) n c'] 41)).alloc (.cells #[.slice (some ⟨bp, op, none⟩) m cp] 23)).alloc (.cells #[.int .i64 0] 3)) 3 (.int .i64 m); rw [World.size_alloc, World.size_alloc, World.size_alloc, World.size_alloc] at h; exact h.cell
  have bU : Below n₀ w U := by
    rw [eU, en]
    refine Below.alloc (Below.alloc (Below.alloc (Below.alloc (Below.alloc (Below.refl _ w) (Nat.le_refl _) _) ?_ _) ?_ _) ?_ _) ?_ _ <;> (simp <;> omega)
  have y1 : ∀ o, ((((w.alloc (.cells #[.slice (some ⟨blk, off, none⟩) n c] 41)).alloc (.cells #[.slice (some ⟨blk', off', none⟩) n c'] 41)).alloc (.cells #[.slice (some ⟨bp, op, none⟩) m cp] 23)).alloc o).cell? ⟨w.heap.size + 1 + 1, 0, none⟩ = some (.slice (some ⟨bp, op, none⟩) m cp) := fun o => by rw [← en]; exact (b2w.alloc o).cell
  have EU := Lib.hid eU
  have hle : n₀ ≤ w.heap.size := by rw [en]; exact Nat.le_refl _
  rw [← en] at hbl0 hbl0' hblp
  clear eU en b2w
  refine callsIn_of_wp_marks Tryd.func84 rfl trivial ?_ rfl
  simp only [Tryd.ntmps84, List.size_toArray, List.length_cons, List.length_nil, Nat.reduceAdd, Nat.reduceSub, Array.replicate_succ, Array.replicate_zero, List.push_toArray, List.append_toArray, List.nil_append, List.cons_append]
  gi_wp2_with (refine ⟨trivial, ?_⟩; gi_at_call 67; refine (callsIn_wide.2 (pairs_any m _)).mono ?_; rintro e w' ⟨rfl, rfl⟩)
  rw [← EU.out, ← EN.out]
  clear y1
  have hmx : Tryd.prog.follows .mixedOrders = true := by kernel_rfl
  refine wpIn_rangeFunc_ownF (α := Pr m) rfl (by omega) (gf := 80) (lb := #[.pointer (some ⟨n₀ + 1 + 1 + 1 + 1, 0, none⟩)]) rfl trivial (enters_of Tryd.func80 (by kernel_rfl) rfl)
    (pairs_stops Fence.wide _ trivial rfl (by omega) (n₀ + 1 + 1 + 1 + 1) m (by omega) U (by omega) b4) (fun _ _ => trivial) (fun _ _ _ _ _ _ _ _ => trivial) (Below.refl _ _) (fun _ => rfl)
    (fun pre X => UnI n₀ (.slice (some ⟨blk, off, none⟩) n c) (.slice (some ⟨blk', off', none⟩) n c') (.slice (some ⟨bp, op, none⟩) m cp) L M P m pre X ∧ Below n₀ w X) (fun _ _ _ => False)
    (OwnFrom.and (Own.from (unI_own _ _ _ _ _ _ _ _) _) (ownFrom_below hle (by omega))) (fun _ _ _ _ _ hs _ _ => hs)
    ⟨⟨b0, b1, b2, b3⟩, bU⟩
    (fun x => { tmps := #[.slice (some ⟨blk, off, none⟩) n c, .slice (some ⟨blk', off', none⟩) n c', .slice (some ⟨bp, op, none⟩) m cp, .pointer (some ⟨n₀, 0, none⟩), .pointer (some ⟨n₀ + 1, 0, none⟩), .pointer (some ⟨n₀ + 1 + 1, 0, none⟩), .int .i64 0, .pointer (some ⟨n₀ + 1 + 1 + 1, 0, none⟩), .int .i64 (x.1.1 : Int), .int .i64 (x.1.2 : Int), .slice (some ⟨bp, op, none⟩) m cp, .int .i64 m,
      .func (.func 80) #[] #[.pointer (some ⟨n₀ + 1 + 1 + 1 + 1, 0, none⟩)], .int .i64 (x.1.1 : Int), .int .i64 (x.1.2 : Int), undef, undef, undef, undef, undef, undef, undef, undef, undef, undef, undef, undef, undef, undef, undef, undef, undef, undef], defers := [] }) ?assign ?body ?done ?stop
  case assign =>
    intro l x X K hK
    gi_wp2
    exact hK
  case body =>
    rintro l pre x Wr ⟨⟨c0, c1, c2, c3⟩, hB⟩ hlen
    obtain ⟨⟨u, v⟩, hu, hv⟩ := x
    dsimp only at hu hv ⊢
    have hst := unlTo_snoc L M P (vals pre) (u, v)
    have hvs := vals_snoc pre (⟨(u, v), hu, hv⟩ : Pr m)
    dsimp only at hvs
    rw [← hvs] at hst
    have hcl := unlTo_le L M P (vals pre)
    have hvl : (vals pre).length = pre.length := by simp [vals]
    rw [hvl] at hcl
    have hun : u < n := by omega
    have hvn : v < n := by omega
    have hau : at_ P u < n := at_lt HPN.out (by rw [← HM.out]; omega)
    have hav : at_ P v < n := at_lt HPN.out (by rw [← HM.out]; omega)
    have hcu := seen_at HP'.out (k := u) (by rw [ints_length, ← HM.out]; omega)
    have hcv := seen_at HP'.out (k := v) (by rw [ints_length, ← HM.out]; omega)
    rw [ints_at (by rw [← HM.out]; omega)] at hcu hcv
    have hinL := (HG.out.2.2 u (by rw [← HN.out]; exact hun)).1
    have hinM := (HGM.out.2.2 (at_ P u) (by rw [← HNM.out]; exact hau)).1
    have hX := ent_int hinL
    have hY := ent_int hinM
    have hXl := ent_lt hinL
    have hYl := ent_lt hinM
    have h64 := two_le HG.out.2.1
    have h64' := two_le HGM.out.2.1
    have hcL := seen_at H.out (k := u) (by rw [← HN.out]; exact hun)
    have hcM := seen_at H'.out (k := at_ P u) (by rw [← HNM.out]; exact hau)
    rw [hX] at hcL
    rw [hY] at hcM
    have hb : unlB L M P (u, v) = !(ent L u / 2 ^ v % 2 == ent M (at_ P u) / 2 ^ at_ P v % 2) := rfl
    obtain ⟨X, eX⟩ : ∃ X, X = ent L u := ⟨_, rfl⟩
    obtain ⟨Y, eY⟩ : ∃ Y, Y = ent M (at_ P u) := ⟨_, rfl⟩
    rw [← eX] at hcL hXl hb
    rw [← eY] at hcM hYl hb
    obtain ⟨a, ea⟩ : ∃ a, a = at_ P u := ⟨_, rfl⟩
    obtain ⟨b, eb⟩ : ∃ b, b = at_ P v := ⟨_, rfl⟩
    rw [← ea] at hcu hau hcM
    rw [← eb] at hcv hav hb
    have hXs : X < 1048576 := by omega
    have hYs : Y < 1048576 := by omega
    have rU : Wr.cell? ⟨bp, op + u, none⟩ = some (.int .i64 a) := (hB.cell (p := ⟨bp, op + u, none⟩) hblp).trans hcu
    have rV : Wr.cell? ⟨bp, op + v, none⟩ = some (.int .i64 b) := (hB.cell (p := ⟨bp, op + v, none⟩) hblp).trans hcv
    have rX : Wr.drew.cell? ⟨blk, off + u, none⟩ = some (.int .i64 X) := (hB.cell (p := ⟨blk, off + u, none⟩) hbl0).trans hcL
    have rY : Wr.drew.cell? ⟨blk', off' + a, none⟩ = some (.int .i64 Y) := (hB.cell (p := ⟨blk', off' + a, none⟩) hbl0').trans hcM
    have E1 := Lib.hid (edge_any blk off n c u v X Wr.drew hXs hun (by omega) rX)
    have E2 := Lib.hid (edge_any blk' off' n c' a b Y Wr.drew hYs hau (by omega) rY)
    obtain ⟨x1, ex1⟩ : ∃ x1 : Bool, x1 = (X / 2 ^ v % 2 == 1) := ⟨_, rfl⟩
    obtain ⟨x2, ex2⟩ : ∃ x2 : Bool, x2 = (Y / 2 ^ b % 2 == 1) := ⟨_, rfl⟩
    rw [← ex1] at E1
    rw [← ex2] at E2
    have hbb : unlB L M P (u, v) = !(x1 == x2) := by
      rw [hb, ex1, ex2, bits_eq (Nat.mod_lt _ (by omega)) (Nat.mod_lt _ (by omega))]
    obtain ⟨d, ed⟩ : ∃ d, d = unlTo L M P (vals pre) := ⟨_, rfl⟩
    rw [← ed] at hst hcl c3
    rw [hbb] at hst
    have hd15 : d ≤ 100 := by omega
    have hw1 : IntKind.i64.wrap ((d : Int) + 1) = ((d + 1 : Nat) : Int) := by rw [IntKind.wrap_i64]; omega
    have hw2 : wrap64 ((d : Int) + 1) = ((d + 1 : Nat) : Int) := by unfold wrap64; omega
    have hi1 : (0 : Int) ≤ (u : Int) ∧ (u : Int) < (m : Int) := by omega
    have hi2 : (0 : Int) ≤ (v : Int) ∧ (v : Int) < (m : Int) := by omega
    have C0 := Lib.hid c0
    have C1 := Lib.hid c1
    have C2 := Lib.hid c2
    have C3 := Lib.hid c3
    have HB := Lib.hid hB
    have HST := Lib.hid hst
    have z0 := c0.cell
    have z1 := c1.cell
    have z2 := c2.cell
    have z3 := c3.cell
    have f3 := c3.frozen
    clear c0 c1 c2 c3 hB hst hvs hcu hcv hcL hcM hX hY hXl hYl h64 h64' hinL hinM rX rY ex1 ex2 eX eY ea eb ed hb hbb hvl hcl
    obtain ⟨w2, ew2⟩ : ∃ w2, w2 = Wr.drew := ⟨_, rfl⟩
    have EW2 := Lib.hid ew2
    have z32 : w2.cell? ⟨n₀ + 1 + 1 + 1, 0, none⟩ = some (.int .i64 d) := by rw [ew2]; exact z3
    have f32 : w2.frozen? ⟨n₀ + 1 + 1 + 1, 0, none⟩ = false := by rw [ew2]; exact f3
    have hne : (x1 != x2) = !(x1 == x2) := rfl
    clear ew2
    gi_wp2
    refine wpIn_tail_round 14 (by kernel_rfl) (by kernel_rfl) (by kernel_rfl) ?_
    simp only [List.take_succ_cons, List.take_zero, List.drop_succ_cons, List.drop_zero]
    still_step
    still_step
    still_step
    still_call (E1.out.mono fun e w' ⟨he, hw⟩ => ⟨he, hw.symm⟩)
    still_step
    still_step
    still_step
    still_step
    still_step
    still_step
    still_step
    still_step
    still_step
    still_call (E2.out.mono fun e w' ⟨he, hw⟩ => ⟨he, hw.symm⟩)
    repeat still_step
    refine wpStill_nil ?_
    rw [← EW2.out]
    clear E1 E2
    cases x1 <;> cases x2
    · gi_wp2
      rw [EW2.out]
      exact ⟨KeepsOthers.drew _, trivial, ⟨C0.out, C1.out, C2.out, by rw [HST.out, if_neg (by decide)]; exact C3.out⟩, HB.out.drew⟩
    · gi_wp2
      rw [EW2.out]
      have gk := grown_set (grown_drew (World.grownBy.refl Wr (some (n₀ + 1 + 1 + 1)))) 0 (.int .i64 ((d + 1 : Nat) : Int))
      refine ⟨(KeepsOthers.drew _).trans (KeepsOthers.setCell _ _ _), trivial, ⟨C0.out.kept gk (fun e => by injection e; omega), C1.out.kept gk (fun e => by injection e; omega), C2.out.kept gk (fun e => by injection e; omega), ?_⟩, HB.out.grown gk (by have := HB.out.size; omega) (fun r e => by injection e; omega)⟩
      rw [HST.out, if_pos (by decide)]
      exact (show Boxed Wr.drew (n₀ + 1 + 1 + 1) 3 (.int .i64 (d : Nat)) from C3.out).set _
    · gi_wp2
      rw [EW2.out]
      have gk := grown_set (grown_drew (World.grownBy.refl Wr (some (n₀ + 1 + 1 + 1)))) 0 (.int .i64 ((d + 1 : Nat) : Int))
      refine ⟨(KeepsOthers.drew _).trans (KeepsOthers.setCell _ _ _), trivial, ⟨C0.out.kept gk (fun e => by injection e; omega), C1.out.kept gk (fun e => by injection e; omega), C2.out.kept gk (fun e => by injection e; omega), ?_⟩, HB.out.grown gk (by have := HB.out.size; omega) (fun r e => by injection e; omega)⟩
      rw [HST.out, if_pos (by decide)]
      exact (show Boxed Wr.drew (n₀ + 1 + 1 + 1) 3 (.int .i64 (d : Nat)) from C3.out).set _
    · gi_wp2
      rw [EW2.out]
      exact ⟨KeepsOthers.drew _, trivial, ⟨C0.out, C1.out, C2.out, by rw [HST.out, if_neg (by decide)]; exact C3.out⟩, HB.out.drew⟩
  case done =>
    rintro D xs Wr hD hS ⟨⟨c0, c1, c2, c3⟩, hB⟩ hKd
    have z3 := c3.cell
    have HS := Lib.hid hS
    clear hS
    gi_wp2
    refine ⟨by simp, .inl ⟨_, _, rfl, run_takeDeferred hKd, ?_⟩⟩
    refine ⟨_, results_tmp rfl _ _ _, ?_⟩
    refine ⟨?_, ?_⟩
    · unfold unlike
      rw [← HM.out, ← HS.out]
      rfl
    · rw [← EN.out]
      exact hB.trans (belowK_b (w := w) hle Wr D _ _ (by have := EN.out; omega) hKd rfl rfl)
  case stop =>
    rintro D cd pre X _ _ h _
    exact h.elim
end Go.Proofs.YtamabhdbcmjbjaaDoor
