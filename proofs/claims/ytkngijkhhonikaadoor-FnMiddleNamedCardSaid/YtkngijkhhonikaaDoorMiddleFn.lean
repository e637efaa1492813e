/- The program's middle: ends of a tree taken out, round by round. -/
import Derived.Test.YtkngijkhhonikaaDoorMidTab
import Derived.Test.YtkngijkhhonikaaDoorBaseA
namespace Go.Proofs.YtkngijkhhonikaaDoor
open Go.RowKit Go.Shelf
attribute [local go_sem] Oper.semAt_some
set_option linter.unusedVariables false
set_option maxRecDepth 100000

def MidI (n₀ b n s : Nat) (S : Value) (L : List Int) (pre : List (Nd n s)) (W : World) : Prop :=
  Boxed W n₀ 41 S ∧ Boxed W (n₀ + 1) 3 (.int .i64 (s : Nat)) ∧ Boxed W b 3 (.int .i64 (midS L s (valsN pre) : Nat))
theorem midI_own (n₀ b n s : Nat) (S : Value) (L : List Int) : Own (MidI n₀ b n s S L) := fun pre X Y row hs hg hr =>
  ⟨boxed_own _ _ (fun _ : Unit => _) () X Y row hs.1 hg hr, boxed_own _ _ (fun _ : Unit => _) () X Y row hs.2.1 hg hr, boxed_own _ _ (fun _ : Unit => _) () X Y row hs.2.2 hg hr⟩
theorem less_pow_i (x v : Nat) (hx : x < 64) (hv : v < 6) : ∃ p : Nat, p = 2 ^ v ∧ (wrap64 ((2 : Int) ^ v) = (p : Int) ∧ IntKind.i64.wrap ((2 : Int) ^ v) = (p : Int)) ∧ bits .andNot .i64 (x : Int) (p : Int) = ((less x p : Nat) : Int) := by
  obtain ⟨P, _, hP, _, h64, p1, p2, _⟩ := shl_facts v (by omega)
  exact ⟨P, hP, ⟨p1, p2⟩, less_op x P (by omega) (by omega)⟩

set_option maxHeartbeats 8000000 in
theorem middle_in (A : Option Addr) (c : Nat) (L : List Int) (ht : IsTree L) (w : World) (h : Seen w A L) (hT : Tab w) :
    CallsIn Fence.wide 7 Tryd.prog 48 #[.slice A L.length c] w fun e w' => e = .returned (.int .i64 (midT L : Nat)) ∧ Below w.heap.size w w' := by
  have hg := ht.1.1
  have h1 := hg.1
  have h6 := hg.2.1
  have h2 := hT.lt
  have hmf := (mid_facts ht).1
  obtain ⟨blk, off, hA0, hbl0, _⟩ := h 0 (by omega)
  subst hA0
  obtain ⟨P, Q, hP, hQ, hP64, _⟩ := shl_facts L.length h6
  have hQe : 2 ^ L.length - 1 = Q := by omega
  have hmT : midF L 2 Q = midT L := by unfold midT; rw [hQe]
  rw [hQe] at hmf
  obtain ⟨n, hn⟩ : ∃ n, n = L.length := ⟨_, rfl⟩
  have HALL := Lib.hid (fun w => all_any (some ⟨blk, off, none⟩) n c Q (by omega) (by rw [hn, ← hP]; omega) w)
  have HQn := Lib.hid (show Q < 2 ^ n by rw [hn, ← hP]; omega)
  rw [← hn] at h1 h6 ⊢
  have HN := Lib.hid hn
  have H := Lib.hid h
  have HG := Lib.hid hg
  have HT := Lib.hid hT
  have HMT := Lib.hid hmT
  have HMF := Lib.hid hmf
  have HON := Lib.hid (fun x (hx : x < 64) w => ones_any x hx w)
  have hQ64 : Q < 64 := by omega
  clear h hg ht hn hT hmf hmT hQe hP hQ hP64
  refine callsIn_of_wp_marks Tryd.func48 rfl trivial ?_ rfl
  simp only [Tryd.ntmps48, List.size_toArray, List.length_cons, List.length_nil, Nat.reduceAdd, Nat.reduceSub, Array.replicate_succ, Array.replicate_zero, List.push_toArray, List.append_toArray, List.nil_append, List.cons_append]
  gi_wp2_with (refine ⟨trivial, ?_⟩; gi_at_call 75; refine (callsIn_wide.2 (HALL.out _)).mono ?_; rintro e w' ⟨rfl, rfl⟩)
  obtain ⟨W0, eW0⟩ : ∃ W0, W0 = (w.alloc (.cells #[.slice (some ⟨blk, off, none⟩) n c] 41)).alloc (.cells #[.int .i64 Q] 3) := ⟨_, rfl⟩
  have b0 : Boxed W0 w.heap.size 41 (.slice (some ⟨blk, off, none⟩) n c) := by rw [eW0]; exact (Boxed.new w _ _).alloc _
  have b1 : Boxed W0 (w.heap.size + 1) 3 (.int .i64 (Q : Nat)) := by
    rw [eW0]; have h := Boxed.new (w.alloc (.cells #[.slice (some ⟨blk, off, none⟩) n c] 41)) 3 (.int .i64 (Q : Nat)); rw [World.size_alloc] at h; exact h
  have hB0 : Below w.heap.size w W0 := by rw [eW0]; exact ((Below.refl _ w).alloc (Nat.le_refl _) _).alloc (by simp) _
  rw [← eW0]
  clear eW0
  obtain ⟨n₀, en⟩ : ∃ n₀, n₀ = w.heap.size := ⟨_, rfl⟩
  rw [← en] at b0 b1 hB0 h2 hbl0 ⊢
  have EN := Lib.hid en
  have hle : n₀ ≤ w.heap.size := by omega
  clear en
  refine wpIn_loop (fun a' W' => ∃ (s : Nat) (Ds : List Nat) (u4 u5 u6 u7 u8 u9 u10 u11 u12 u13 u14 u15 u16 u17 u18 u19 u20 u21 u22 u23 u24 u25 u26 u27 u28 u29 u30 : Value), a' = { tmps := #[.slice (some ⟨blk, off, none⟩) n c, .pointer (some ⟨n₀, 0, none⟩), .int .i64 0, .pointer (some ⟨n₀ + 1, 0, none⟩), u4, u5, u6, u7, u8, u9, u10, u11, u12, u13, u14, u15, u16, u17, u18, u19, u20, u21, u22, u23, u24, u25, u26, u27, u28, u29, u30], defers := Ds.map mark } ∧
      Hid (s < 2 ^ n) ∧ Hid (∃ k, midOk L k s = true ∧ midF L k s = midT L) ∧ Boxed W' n₀ 41 (.slice (some ⟨blk, off, none⟩) n c) ∧ Boxed W' (n₀ + 1) 3 (.int .i64 (s : Nat)) ∧ Hid (Marks n₀ Ds W'.heap.size W') ∧ Below n₀ w W') (fun _ W' => (intOf ((W'.cell? ⟨n₀ + 1, 0, none⟩).getD undef)).toNat) ?start ?round
  case start => exact ⟨Q, [], undef, undef, _, _, undef, undef, undef, undef, undef, undef, undef, undef, undef, undef, undef, undef, undef, undef, undef, undef, undef, undef, undef, undef, undef, undef, undef, rfl, HQn, Lib.hid ⟨2, HMF.out, HMT.out⟩, b0, b1, Lib.hid (marks_nil _ _ _), hB0⟩
  case round =>
    rintro a' W ⟨s, Ds, u4, u5, u6, u7, u8, u9, u10, u11, u12, u13, u14, u15, u16, u17, u18, u19, u20, u21, u22, u23, u24, u25, u26, u27, u28, u29, u30, rfl, hsn, hk, hbg, hbs, hmk, hB⟩
    have hs : s < 2 ^ n := hsn.out
    have hs64 : s < 64 := by have := two_le h6; omega
    have hcv : IntKind.u64.wrap (s : Int) = (s : Int) := by simp [IntKind.wrap, IntKind.bits, IntKind.signed]; omega
    have HO := Lib.hid (fun w => HON.out s hs64 w)
    have hend : cnt s ≤ 2 → midT L = s := fun h => by obtain ⟨k, _, h2⟩ := hk.out; rw [← h2]; exact midF_end h k
    have hmore : ¬ cnt s ≤ 2 → (∃ k', midOk L k' (midN L s) = true ∧ midF L k' (midN L s) = midT L) ∧ midN L s < s := fun h => by
      obtain ⟨k, k1, k2⟩ := hk.out
      obtain ⟨k', g1, g2, g3⟩ := midOk_step k1 h
      exact ⟨⟨k', g1, g2.trans k2⟩, g3⟩
    obtain ⟨q, eq⟩ : ∃ q, q = cnt s := ⟨_, rfl⟩
    rw [← eq] at HO hend hmore
    have HEND := Lib.hid hend
    have HMORE := Lib.hid hmore
    have zg := hbg.cell
    have zs := hbs.cell
    have HS := Lib.hid hs
    clear eq hend hmore hs
    by_cases hq : q ≤ 2
    · have hd : decide ((2 : Int) < (q : Int)) = false := by simp; omega
      have HE := Lib.hid (HEND.out hq)
      gi_wp2_with (refine ⟨trivial, ?_⟩; gi_at_call 57; refine (callsIn_wide.2 (HO.out _)).mono ?_; rintro e w' ⟨rfl, rfl⟩)
      refine leaves_marks (w := w) hle (fun W2 hb2 => ?_) Ds _ _ hmk.out hB
      refine ⟨_, results_tmp rfl _ _ _, ?_⟩
      exact ⟨by rw [HE.out]; rfl, by rw [← EN.out]; exact hb2⟩
    · have hd : decide ((2 : Int) < (q : Int)) = true := by simp; omega
      have HM := Lib.hid (HMORE.out hq)
      have zs1 : (W.alloc (.cells #[.int .i64 s] 3)).cell? ⟨n₀ + 1, 0, none⟩ = some (.int .i64 s) := (hbs.alloc _).cell
      gi_wp2_with (first
        | (refine ⟨trivial, ?_⟩; gi_at_call 57; refine (callsIn_wide.2 (HO.out _)).mono ?_; rintro e w' ⟨rfl, rfl⟩)
        | (refine ⟨trivial, ?_⟩; gi_at_call 62; refine (callsIn_wide.2 (nodesIn_any s _)).mono ?_; rintro e w' ⟨rfl, rfl⟩))
      clear zs1
      obtain ⟨b, eb⟩ : ∃ b, b = W.heap.size := ⟨_, rfl⟩
      obtain ⟨W', eW'⟩ : ∃ W', W' = (W.alloc (.cells #[.int .i64 s] 3)).alloc (.cells #[.int .i64 s] 3) := ⟨_, rfl⟩
      have sW : W'.heap.size = b + 1 + 1 := by rw [eW', eb]; simp
      have hn0b : n₀ + 1 < b := by rw [eb]; exact hbs.lt
      have hB' : Below n₀ w W' := by rw [eW']; exact (hB.alloc (by omega) _).alloc (by simp; omega) _
      have c0 : Boxed W' n₀ 41 (.slice (some ⟨blk, off, none⟩) n c) := by rw [eW']; exact (hbg.alloc _).alloc _
      have cs : Boxed W' (n₀ + 1) 3 (.int .i64 (s : Nat)) := by rw [eW']; exact (hbs.alloc _).alloc _
      have c1 : Boxed W' b 3 (.int .i64 (midS L s (valsN ([] : List (Nd n s))) : Nat)) := by rw [eW', eb]; exact (Boxed.new W _ _).alloc _
      have c2 : W'.cell? ⟨b + 1, 0, none⟩ = some (.int .i64 s) := by
        rw [eW', eb]; have h := Boxed.new (W.alloc (.cells #[.int .i64 s] 3)) 3 (.int .i64 s); rw [World.size_alloc] at h; exact h.cell
      have hm' : Marks n₀ Ds b W' := by rw [eW', eb]; exact marks_alloc (marks_alloc hmk.out _) _
      have hTW : Tab W' := HT.out.below hB' (by omega)
      have ZS := Lib.hid zs
      rw [← eb, ← eW']
      have SW := Lib.hid sW
      clear eW' eb hmk hbg hbs hB sW zg zs
      refine wpIn_rangeFunc_ownF (α := Nd n s) rfl (by omega) (gf := 82) (lb := #[.pointer (some ⟨b + 1, 0, none⟩)]) rfl trivial (enters_of Tryd.func82 (by kernel_rfl) rfl)
        (nodes_stops _ (b + 1) n s n₀ (by omega) h6 HS.out W' (by have := SW.out; omega) c2 hTW (by omega) (by have := SW.out; omega)) belowK_t (belowK_b (by have := SW.out; omega)) (Below.refl _ _) (fun _ => rfl)
        (fun pre Z => MidI n₀ b n s (.slice (some ⟨blk, off, none⟩) n c) L pre Z ∧ (Marks n₀ Ds b Z ∧ Below n₀ w Z)) (fun _ _ _ => False)
        (OwnFrom.and (Own.from (midI_own n₀ b n s _ L) _) (OwnFrom.and (marks_own n₀ Ds b _ (by have := SW.out; omega)) (ownFrom_below hle (by have := SW.out; omega)))) (fun _ _ _ _ _ hs _ _ => hs)
        ⟨⟨c0, cs, c1⟩, hm', hB'⟩
        (fun x => { tmps := #[.slice (some ⟨blk, off, none⟩) n c, .pointer (some ⟨n₀, 0, none⟩), .int .i64 0, .pointer (some ⟨n₀ + 1, 0, none⟩), .pointer (some ⟨b, 0, none⟩), .int .i64 (x.1 : Int), u6, u7, .int .i64 s, .int .u64 s, .int .i64 q, .bool true, .int .i64 s, .int .i64 s,
          .func (.func 82) #[] #[.pointer (some ⟨b + 1, 0, none⟩)], .int .i64 (x.1 : Int), u16, u17, u18, u19, u20, u21, u22, u23, u24, u25, u26, u27, u28, u29, u30], defers := [] }) ?assign ?body ?done ?stop
      case assign =>
        intro l x Z K hK
        gi_wp2
        exact hK
      case body =>
        rintro l pre x Z ⟨⟨d0, ds, d1⟩, hm, hB⟩ hlen
        obtain ⟨v, hvn, hvq⟩ := x
        dsimp only at hvn ⊢
        have hvL : v < L.length := by have := HN.out; omega
        obtain ⟨blk1, off1, hA1, hbl1, hc1⟩ := H.out v hvL
        obtain ⟨rfl, rfl⟩ : blk = blk1 ∧ off = off1 := by injection hA1 with e; injection e with e1 e2; exact ⟨e1, e2⟩
        have hin := (HG.out.2.2 v hvL).1
        have hX := ent_int hin
        have hXl := ent_lt hin
        have h64 := two_le (n := L.length) HG.out.2.1
        have hr := midS_le L s (valsN pre)
        have hw2 : midS L s (valsN (pre ++ [(⟨v, hvn, hvq⟩ : Nd n s)])) = if cnt (ent L v &&& s) = 1 then less (midS L s (valsN pre)) (2 ^ v) else midS L s (valsN pre) := by rw [valsN_snoc, midS_snoc]
        obtain ⟨X, eX⟩ : ∃ X, X = ent L v := ⟨_, rfl⟩
        obtain ⟨r, er⟩ : ∃ r, r = midS L s (valsN pre) := ⟨_, rfl⟩
        rw [← eX] at hX hXl hw2
        rw [← er] at hr hw2 d1
        rw [hX] at hc1
        have f1 := i64_and_nat X s (by omega) (by omega)
        have htl : X &&& s ≤ s := Nat.and_le_right
        obtain ⟨t, et⟩ : ∃ t, t = X &&& s := ⟨_, rfl⟩
        rw [← et] at f1 htl hw2
        have ht64 : t < 64 := by omega
        have hct : IntKind.u64.wrap (t : Int) = (t : Int) := by simp [IntKind.wrap, IntKind.bits, IntKind.signed]; omega
        have HOT := Lib.hid (fun w => HON.out t ht64 w)
        obtain ⟨p, hp, ⟨p1, p2⟩, f2⟩ := less_pow_i r v (by omega) (by omega)
        obtain ⟨r2, er2⟩ : ∃ r2, r2 = less r p := ⟨_, rfl⟩
        rw [← er2] at f2
        obtain ⟨k, ek⟩ : ∃ k, k = cnt t := ⟨_, rfl⟩
        rw [← ek] at HOT
        have hw2 : midS L s (valsN (pre ++ [(⟨v, hvn, hvq⟩ : Nd n s)])) = if k = 1 then r2 else r := by rw [hw2, er2, hp, ek]
        have hcv1 : Z.cell? ⟨blk, off + v, none⟩ = some (.int .i64 X) := (hB.cell (p := ⟨blk, off + v, none⟩) hbl0).trans hc1
        have z0 := d0.cell
        have z1 := d1.cell
        have zs := ds.cell
        have hi1 : (0 : Int) ≤ (v : Int) ∧ (v : Int) < (n : Int) := by omega
        have hv64 : v < 64 := by omega
        obtain ⟨w2, ew2⟩ : ∃ w2, w2 = Z.drew := ⟨_, rfl⟩
        have EW2 := Lib.hid ew2
        have y1 : w2.cell? ⟨b, 0, none⟩ = some (.int .i64 r) := by rw [ew2]; exact d1.cell
        obtain ⟨w3, ew3⟩ : ∃ w3, w3 = w2.drew := ⟨_, rfl⟩
        have EW3 := Lib.hid ew3
        have x1 : w3.cell? ⟨b, 0, none⟩ = some (.int .i64 r) := by rw [ew3, ew2]; exact d1.cell
        have x2 : w3.frozen? ⟨b, 0, none⟩ = false := by rw [ew3, ew2]; exact d1.frozen
        have HW2 := Lib.hid hw2
        have D0 := Lib.hid d0
        have D1 := Lib.hid d1
        have DS := Lib.hid ds
        have HM2 := Lib.hid hm
        have HB2 := Lib.hid hB
        clear ew2 ew3 hw2 d0 d1 ds hm er2 er eX hX hXl h64 hin hc1 hA1 hbl1 et ek hp hr htl ht64 hcv hB
        by_cases hk1 : k = 1
        · subst hk1
          have HW3 := Lib.hid (HW2.out.trans (if_pos rfl))
          gi_wp2
          refine wpIn_tail_round 8 (by kernel_rfl) (by kernel_rfl) (by kernel_rfl) ?_
          simp only [List.take_succ_cons, List.take_zero, List.drop_succ_cons, List.drop_zero]
          still_step
          still_step
          still_step
          still_step
          still_step
          still_step
          still_step
          still_call ((HOT.out _).mono fun e w' ⟨he, hw⟩ => ⟨he, hw.symm⟩)
          refine wpStill_nil ?_
          rw [← EW2.out]
          gi_wp2
          refine wpIn_tail_round 4 (by kernel_rfl) (by kernel_rfl) (by kernel_rfl) ?_
          simp only [List.take_succ_cons, List.take_zero, List.drop_succ_cons, List.drop_zero]
          repeat still_step
          refine wpStill_nil ?_
          rw [← EW3.out]
          gi_wp2
          have e3 : w3 = Z.drewN 2 := by rw [EW3.out, EW2.out]; rfl
          rw [e3]
          have gz : Z.grownBy ((Z.drewN 2).setCell ⟨b, 0, none⟩ (.int .i64 r2)) (some b) := grown_set (grown_drewN (World.grownBy.refl Z (some b)) 2) 0 _
          have hbb : Below n₀ Z ((Z.drewN 2).setCell ⟨b, 0, none⟩ (.int .i64 r2)) := (below_drewN (Below.refl n₀ Z) 2).setCell (p := ⟨b, 0, none⟩) (by show n₀ ≤ b; omega) _
          refine ⟨KeepsOthers.of_grownBy gz (fun k o e ho => by cases e; rw [show Z.heap[b]? = _ from D1.out] at ho; cases ho; rfl), hbb, ⟨D0.out.kept gz (ne_some (by omega)), DS.out.kept gz (ne_some (by omega)), ?_⟩, marks_grown HM2.out gz ⟨_, D1.out, rfl⟩, HB2.out.trans hbb⟩
          rw [HW3.out]
          exact (show Boxed (Z.drewN 2) b 3 (.int .i64 r) from D1.out).set _
        · have he : ((k : Int) == 1) = false := by simp; omega
          have HW3 := Lib.hid (HW2.out.trans (if_neg hk1))
          gi_wp2
          refine wpIn_tail_round 8 (by kernel_rfl) (by kernel_rfl) (by kernel_rfl) ?_
          simp only [List.take_succ_cons, List.take_zero, List.drop_succ_cons, List.drop_zero]
          still_step
          still_step
          still_step
          still_step
          still_step
          still_step
          still_step
          still_call ((HOT.out _).mono fun e w' ⟨he, hw⟩ => ⟨he, hw.symm⟩)
          refine wpStill_nil ?_
          rw [← EW2.out]
          gi_wp2
          rw [EW2.out]
          have hbb : Below n₀ Z Z.drew := (Below.refl n₀ Z).drew
          refine ⟨KeepsOthers.drew _, hbb, ⟨D0.out, DS.out, ?_⟩, HM2.out, HB2.out.drew⟩
          rw [HW3.out]
          exact D1.out
      case done =>
        rintro D xs Z hD hS ⟨⟨d0, ds, d1⟩, hm, hB⟩ hK
        rw [hS] at d1
        have hlt := (Array.getElem?_eq_some_iff.1 hK).1
        have hm2 : Marks n₀ (D :: Ds) Z.heap.size Z := marks_cons hm (by have := SW.out; omega) (by have := SW.out; omega) hlt hK
        change Boxed Z b 3 (.int .i64 (midN L s : Nat)) at d1
        obtain ⟨hm3, hlt3⟩ := HM.out
        obtain ⟨r, er⟩ : ∃ r, r = midN L s := ⟨_, rfl⟩
        rw [← er] at d1 hm3 hlt3
        have z0 := d0.cell
        have z1 := d1.cell
        have zs := ds.cell
        have fs := ds.frozen
        have HM3 := Lib.hid hm3
        have HM2 := Lib.hid hm2
        have HLT := Lib.hid hlt3
        have D0 := Lib.hid d0
        have DS := Lib.hid ds
        have HB2 := Lib.hid hB
        have HRn : Hid (r < 2 ^ n) := Lib.hid (Nat.lt_trans hlt3 HS.out)
        clear hm hm2 hm3 hlt3 er d0 d1 ds hS hK hlt hD hB HM HO
        gi_wp2
        have gz : Z.grownBy (Z.setCell ⟨n₀ + 1, 0, none⟩ (.int .i64 r)) (some (n₀ + 1)) := grown_set (World.grownBy.refl Z (some (n₀ + 1))) 0 _
        have dn : Boxed (Z.setCell ⟨n₀ + 1, 0, none⟩ (.int .i64 r)) (n₀ + 1) 3 (.int .i64 r) := DS.out.set _
        have hms := marks_grown HM2.out gz ⟨_, DS.out, rfl⟩
        refine ⟨⟨r, D :: Ds, _, _, _, _, _, _, _, _, _, _, _, _, _, _, _, _, _, _, _, _, _, _, _, _, _, _, _, rfl, HRn, HM3, D0.out.kept gz (ne_some (by omega)), dn, Lib.hid ?_, HB2.out.setCell (p := ⟨n₀ + 1, 0, none⟩) (by show n₀ ≤ n₀ + 1; omega) _⟩, ?_⟩
        · exact marks_up hms (by simp)
        · rw [dn.cell, ZS.out]
          have := HLT.out
          simp [intOf]
          omega
      case stop =>
        rintro D cd pre Z _ _ h _
        exact h.elim
end Go.Proofs.YtkngijkhhonikaaDoor
