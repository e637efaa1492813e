/- The program's reached, from the nodes of any set. -/
import Derived.Test.YtamabhdbcmjbjaaDoorBaseA
import Derived.Test.YtamabhdbcmjbjaaDoorReachMath
namespace Go.Proofs.YtamabhdbcmjbjaaDoor
open Go.RowKit Go.Shelf
attribute [local go_sem] Oper.semAt_some
set_option linter.unusedVariables false

/-- Between two rounds: the set so far in its box; the graph's box. -/
def ReSI (n₀ b n s : Nat) (S : Value) (L : List Int) (pre : List (Nd n s)) (W : World) : Prop :=
  Boxed W n₀ 41 S ∧ Boxed W b 3 (.int .i64 (wide L s (valsN pre) : Nat))
theorem reSI_own (n₀ b n s : Nat) (S : Value) (L : List Int) : Own (ReSI n₀ b n s S L) := fun pre X Y row hs hg hr =>
  ⟨boxed_own _ _ (fun _ : Unit => _) () X Y row hs.1 hg hr, boxed_own _ _ (fun _ : Unit => _) () X Y row hs.2 hg hr⟩

set_option maxRecDepth 100000 in
set_option maxHeartbeats 4000000 in
theorem implReachedS_in (A : Option Addr) (c : Nat) (L : List Int) (hg : IsGraph L) (s0 v0 : Nat) (hv0 : v0 < L.length) (hb0 : s0.testBit v0 = true) (hs0 : s0 < 2 ^ L.length) (w : World) (h : Seen w A L) (hT : Tab w) :
    CallsIn Fence.wide 7 Tryd.prog 79 #[.slice A L.length c, .int .i64 s0] w fun e w' => e = .returned (.int .i64 (reachN L s0 : Nat)) ∧ Below w.heap.size w w' := by
  have h1 := hg.1
  have h6 := hg.2.1
  have h2 := hT.lt
  obtain ⟨blk, off, hA0, hbl0, _⟩ := h 0 (by omega)
  subst hA0
  have HV := Lib.hid (And.intro hv0 (And.intro hb0 hs0))
  obtain ⟨n, hn⟩ : ∃ n, n = L.length := ⟨_, rfl⟩
  rw [← hn] at h1 h6 hs0 ⊢
  have HN := Lib.hid hn
  have H := Lib.hid h
  have HG := Lib.hid hg
  have HT := Lib.hid hT
  have hL2 : ∀ v, v < L.length → ent L v < 2 ^ L.length := fun v hv => ent_lt (hg.2.2 v hv).1
  have HL2 := Lib.hid hL2
  clear h hg hn hT hL2 hv0 hb0
  refine callsIn_of_wp_marks Tryd.func79 rfl trivial ?_ rfl
  simp only [Tryd.ntmps79, List.size_toArray, List.length_cons, List.length_nil, Nat.reduceAdd, Nat.reduceSub, Array.replicate_succ, Array.replicate_zero, List.push_toArray, List.append_toArray, List.nil_append, List.cons_append]
  gi_wp2
  obtain ⟨W0, eW0⟩ : ∃ W0, W0 = w.alloc (.cells #[.slice (some ⟨blk, off, none⟩) n c] 41) := ⟨_, rfl⟩
  have b0 : Boxed W0 w.heap.size 41 (.slice (some ⟨blk, off, none⟩) n c) := by rw [eW0]; exact Boxed.new w _ _
  have hB0 : Below w.heap.size w W0 := by rw [eW0]; exact (Below.refl _ w).alloc (Nat.le_refl _) _
  rw [← eW0]
  clear eW0
  obtain ⟨n₀, en⟩ : ∃ n₀, n₀ = w.heap.size := ⟨_, rfl⟩
  rw [← en] at b0 hB0 h2 hbl0 ⊢
  have EN := Lib.hid en
  have hle : n₀ ≤ w.heap.size := by omega
  clear en
  refine wpIn_loop (fun a' W' => ∃ (s : Nat) (Ds : List Nat) (u5 u6 u7 u8 u9 u10 u11 u12 u13 u14 u15 u16 u17 u18 u19 u20 u21 : Value), a' = { tmps := #[.slice (some ⟨blk, off, none⟩) n c, .int .i64 s, .pointer (some ⟨n₀, 0, none⟩), undef, .int .i64 0, u5, u6, u7, u8, u9, u10, u11, u12, u13, u14, u15, u16, u17, u18, u19, u20, u21], defers := Ds.map mark } ∧
      s < 2 ^ n ∧ Hid (LiesS L s0 s) ∧ Boxed W' n₀ 41 (.slice (some ⟨blk, off, none⟩) n c) ∧ Hid (Marks n₀ Ds W'.heap.size W') ∧ Below n₀ w W') (fun a' _ => 64 - (intOf (a'.tmps.getD 1 undef)).toNat) ?start ?round
  case start => exact ⟨s0, [], undef, undef, undef, undef, undef, undef, undef, undef, undef, undef, undef, undef, undef, undef, undef, undef, undef, rfl, hs0, Lib.hid (liesS_one L s0), b0, Lib.hid (marks_nil _ _ _), hB0⟩
  case round =>
    rintro a' W ⟨s, Ds, u5, u6, u7, u8, u9, u10, u11, u12, u13, u14, u15, u16, u17, u18, u19, u20, u21, rfl, hs, hli, hbg, hmk, hB⟩
    gi_wp2_with (refine ⟨trivial, ?_⟩; gi_at_call 59; refine (callsIn_wide.2 (nodesIn_any s _)).mono ?_; rintro e w' ⟨rfl, rfl⟩)
    obtain ⟨b, eb⟩ : ∃ b, b = W.heap.size := ⟨_, rfl⟩
    obtain ⟨W', eW'⟩ : ∃ W', W' = (W.alloc (.cells #[.int .i64 s] 3)).alloc (.cells #[.int .i64 s] 3) := ⟨_, rfl⟩
    have sW : W'.heap.size = b + 1 + 1 := by rw [eW', eb]; simp
    have hn0b : n₀ < b := by rw [eb]; exact hbg.lt
    have hB' : Below n₀ w W' := by rw [eW']; exact (hB.alloc (by omega) _).alloc (by simp; omega) _
    have c0 : Boxed W' n₀ 41 (.slice (some ⟨blk, off, none⟩) n c) := by rw [eW']; exact (hbg.alloc _).alloc _
    have c1 : Boxed W' b 3 (.int .i64 (wide L s (valsN ([] : List (Nd n s))) : Nat)) := by rw [eW', eb]; exact (Boxed.new W _ _).alloc _
    have c2 : W'.cell? ⟨b + 1, 0, none⟩ = some (.int .i64 s) := by
      rw [eW', eb]; have h := Boxed.new (W.alloc (.cells #[.int .i64 s] 3)) 3 (.int .i64 s); rw [World.size_alloc] at h; exact h.cell
    have hm' : Marks n₀ Ds b W' := by rw [eW', eb]; exact marks_alloc (marks_alloc hmk.out _) _
    have hTW : Tab W' := HT.out.below hB' (by omega)
    rw [← eb, ← eW']
    have SW := Lib.hid sW
    clear eW' eb hmk hbg hB sW
    refine wpIn_rangeFunc_ownF (α := Nd n s) rfl (by omega) (gf := 76) (lb := #[.pointer (some ⟨b + 1, 0, none⟩)]) rfl trivial (enters_of Tryd.func76 (by kernel_rfl) rfl)
      (nodes_stops _ (b + 1) n s n₀ (by omega) h6 hs W' (by have := SW.out; omega) c2 hTW (by omega) (by have := SW.out; omega)) belowK_t (belowK_b (by have := SW.out; omega)) (Below.refl _ _) (fun _ => rfl)
      (fun pre Z => ReSI n₀ b n s (.slice (some ⟨blk, off, none⟩) n c) L pre Z ∧ (Marks n₀ Ds b Z ∧ Below n₀ w Z)) (fun _ _ _ => False)
      (OwnFrom.and (Own.from (reSI_own n₀ b n s _ L) _) (OwnFrom.and (marks_own n₀ Ds b _ (by have := SW.out; omega)) (ownFrom_below hle (by have := SW.out; omega)))) (fun _ _ _ _ _ hs _ _ => hs)
      ⟨⟨c0, c1⟩, hm', hB'⟩
      (fun x => { tmps := #[.slice (some ⟨blk, off, none⟩) n c, .int .i64 s, .pointer (some ⟨n₀, 0, none⟩), undef, .int .i64 0, .pointer (some ⟨b, 0, none⟩), .int .i64 (x.1 : Int), .int .i64 s, .int .i64 s,
        .func (.func 76) #[] #[.pointer (some ⟨b + 1, 0, none⟩)], .int .i64 (x.1 : Int), u11, u12, u13, u14, u15, u16, u17, u18, u19, u20, u21], defers := [] }) ?assign ?body ?done ?stop
    case assign =>
      intro l x Z K hK
      gi_wp2
      exact hK
    case body =>
      rintro l pre x Z ⟨⟨d0, d1⟩, hm, hB⟩ hlen
      obtain ⟨v, hvn, hvq⟩ := x
      dsimp only at hvn ⊢
      have hvL : v < L.length := by have := HN.out; omega
      obtain ⟨blk1, off1, hA1, hbl1, hc1⟩ := H.out v hvL
      obtain ⟨rfl, rfl⟩ : blk = blk1 ∧ off = off1 := by injection hA1 with e; injection e with e1 e2; exact ⟨e1, e2⟩
      have hin := (HG.out.2.2 v hvL).1
      have hX := ent_int hin
      have hXl := ent_lt hin
      have h64 := two_le (n := L.length) HG.out.2.1
      have hr64 : wide L s (valsN pre) < 2 ^ n := wide_lt hs _ (fun u hu => by
        simp only [valsN, List.mem_map] at hu
        obtain ⟨q, _, rfl⟩ := hu
        have h5 := HL2.out q.1 (by have := q.2.1; have := HN.out; omega)
        rw [← HN.out] at h5
        exact h5)
      have hw2 : wide L s (valsN (pre ++ [(⟨v, hvn, hvq⟩ : Nd n s)])) = wide L s (valsN pre) ||| ent L v := by rw [valsN_snoc, wide_snoc]
      obtain ⟨X, eX⟩ : ∃ X, X = ent L v := ⟨_, rfl⟩
      obtain ⟨r, er⟩ : ∃ r, r = wide L s (valsN pre) := ⟨_, rfl⟩
      rw [← eX] at hX hXl hw2
      rw [← er] at hr64 hw2 d1
      rw [hX] at hc1
      have hn64 := two_le h6
      have f1 := i64_or_nat r X (by omega) (by omega)
      obtain ⟨r2, er2⟩ : ∃ r2, r2 = r ||| X := ⟨_, rfl⟩
      rw [← er2] at f1 hw2
      have hcv : Z.cell? ⟨blk, off + v, none⟩ = some (.int .i64 X) := (hB.cell (p := ⟨blk, off + v, none⟩) hbl0).trans hc1
      have z0 := d0.cell
      have z1 := d1.cell
      have hi1 : (0 : Int) ≤ (v : Int) ∧ (v : Int) < (n : Int) := by omega
      obtain ⟨w2, ew2⟩ : ∃ w2, w2 = Z.drew := ⟨_, rfl⟩
      have y1 : w2.cell? ⟨b, 0, none⟩ = some (.int .i64 r) := by rw [ew2]; exact d1.cell
      have y2 : w2.frozen? ⟨b, 0, none⟩ = false := by rw [ew2]; exact d1.frozen
      have EW2 := Lib.hid ew2
      have HW2 := Lib.hid hw2
      have D0 := Lib.hid d0
      have D1 := Lib.hid d1
      have HM := Lib.hid hm
      clear ew2 hw2 d0 d1 hm er2 er eX hX hXl h64 hr64 hin hc1 hA1 hbl1 hn64
      gi_wp2
      refine wpIn_tail_round 6 (by kernel_rfl) (by kernel_rfl) (by kernel_rfl) ?_
      simp only [List.take_succ_cons, List.take_zero, List.drop_succ_cons, List.drop_zero]
      repeat still_step
      refine wpStill_nil ?_
      rw [← EW2.out]
      gi_wp2
      rw [EW2.out]
      have gz : Z.grownBy (Z.drew.setCell ⟨b, 0, none⟩ (.int .i64 r2)) (some b) := grown_set (grown_drew (World.grownBy.refl Z (some b))) 0 _
      refine ⟨(KeepsOthers.drew _).trans (KeepsOthers.setCell _ _ _), ((Below.refl n₀ Z).drew).setCell (p := ⟨b, 0, none⟩) (by show n₀ ≤ b; omega) _, ⟨D0.out.kept gz (ne_some (by omega)), ?_⟩, marks_grown HM.out gz ⟨_, D1.out, rfl⟩, hB.drew.setCell (p := ⟨b, 0, none⟩) (by show n₀ ≤ b; omega) _⟩
      rw [HW2.out]
      exact (show Boxed Z.drew b 3 (.int .i64 r) from D1.out).set _
    case done =>
      rintro D xs Z hD hS ⟨⟨d0, d1⟩, hm, hB⟩ hK
      rw [hS] at d1
      have hlt := (Array.getElem?_eq_some_iff.1 hK).1
      have hm2 : Marks n₀ (D :: Ds) Z.heap.size Z := marks_cons hm (by have := SW.out; omega) (by have := SW.out; omega) hlt hK
      have hli2 := liesS_wide hli.out (by have := HN.out; omega) (by rw [← HN.out]; exact hs)
      have hr64 : wide L s (nodesL s) < 2 ^ n := wide_lt hs _ (fun u hu => by
        have h5 := HL2.out u (by have h7 := bit_lt hs (nodes_mem.1 hu).2; have := HN.out; omega)
        rw [← HN.out] at h5
        exact h5)
      have hge := wide_ge L s (nodesL s)
      have heq := fun (he : wide L s (nodesL s) = s) => reachedS_eq HV.out.1 HV.out.2.1 HV.out.2.2 (by have := HN.out; omega) HL2.out hli.out.1 hli.out.2 he
      obtain ⟨r, er⟩ : ∃ r, r = wide L s (nodesL s) := ⟨_, rfl⟩
      rw [← er] at d1 hli2 hr64 hge heq
      have hn64 := two_le h6
      have z1 := d1.cell
      have HM := Lib.hid hm2
      have HLI := Lib.hid hli2
      have HEQ := Lib.hid heq
      have D0 := Lib.hid d0
      clear hm hm2 hli2 heq er d0 d1 hS hK
      by_cases hrs : r = s
      · have e : ((r : Int) == (s : Int)) = true := by simp [hrs]
        have hts := HEQ.out hrs
        have HTS := Lib.hid hts
        clear hrs hts
        gi_wp2
        refine leaves_marks (w := w) hle (fun W2 hb2 => ?_) (D :: Ds) _ _ HM.out hB
        refine ⟨_, results_tmp rfl _ _ _, ?_⟩
        refine ⟨?_, by rw [← EN.out]; exact hb2⟩
        rw [HN.out, ← HTS.out]
        rfl
      · have e : ((r : Int) == (s : Int)) = false := by simp; omega
        gi_wp2
        refine ⟨⟨r, D :: Ds, _, _, _, _, _, _, _, _, _, _, _, _, _, _, _, _, _, rfl, hr64, HLI, D0.out, HM, hB⟩, ?_⟩
        simp [intOf]
        omega
    case stop =>
      rintro D cd pre Z _ _ h _
      exact h.elim
#print axioms implReachedS_in
end Go.Proofs.YtamabhdbcmjbjaaDoor
