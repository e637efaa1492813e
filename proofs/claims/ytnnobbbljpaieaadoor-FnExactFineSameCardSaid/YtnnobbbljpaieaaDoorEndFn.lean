/- The program's end: finer and finer until no more colours come. -/
import Derived.Test.YtnnobbbljpaieaaDoorRoundQuiet
import Derived.Test.YtnnobbbljpaieaaDoorMarks
import Derived.Test.YtnnobbbljpaieaaDoorPairsT
import Derived.Test.YtnnobbbljpaieaaDoorKindsMath
import Derived.Test.YtnnobbbljpaieaaDoorFinerFn
namespace Go.Proofs.YtnnobbbljpaieaaDoor
open Go Go.RowKit Go.Shelf
attribute [local go_sem] Oper.semAt_some
set_option linter.unusedVariables false
set_option maxRecDepth 100000

/-- The list that a box's slice holds. -/
def listAt (W : World) (b n : Nat) : List Int := match W.cell? ⟨b, 0, none⟩ with
  | some (.slice (some a) _ _) => (List.range n).map fun i => match W.cell? ⟨a.block, a.off + i, none⟩ with
    | some (.int _ x) => x
    | _ => 0
  | _ => []
theorem listAt_of {W : World} {b n : Nat} {A : Option Addr} {c : Nat} {D : List Int} (hb : W.cell? ⟨b, 0, none⟩ = some (.slice A n c)) (hS : Seen W A D) (hl : D.length = n) (h1 : 1 ≤ n) : listAt W b n = D := by
  obtain ⟨g, off, rfl, _, _⟩ := hS 0 (by omega)
  unfold listAt
  rw [hb]
  apply List.ext_getElem?
  intro i
  by_cases hi : i < n
  · obtain ⟨g2, o2, hA, _, hc⟩ := hS i (by omega)
    have e : g = g2 ∧ off = o2 := by injection hA with e; injection e with e1 e2; exact ⟨e1, e2⟩
    obtain ⟨rfl, rfl⟩ := e
    simp only [List.getElem?_map, List.getElem?_range hi, Option.map_some]
    rw [hc, List.getElem?_eq_getElem (by omega)]
    simp
  · simp only [List.getElem?_map]
    rw [List.getElem?_eq_none (by simp; omega), List.getElem?_eq_none (by omega)]
    rfl

/-- At the return: the marks go, and what their going leaves alone stays. -/
theorem leaves_marksT {F : Fence} {n : Nat} {P : Program} {fn : Func} {tmps : Array Value} {R : Ending → World → Prop} {n₀ : Nat} {w : World} {T : World → Prop} (hw : n₀ ≤ w.heap.size)
    (hT : ∀ (X : World) (D : Nat) (o : Obj), T X → X.heap[D]? = some (.deferred (some [])) → T (X.putObj D o))
    (hR : ∀ W, Below n₀ w W → T W → LeavesInM F n P fn tmps R [] .returning W) :
    ∀ (Ds : List Nat) (b : Nat) (W : World), Marks n₀ Ds b W → Below n₀ w W → T W → LeavesInM F n P fn tmps R (Ds.map mark) .returning W
  | [], _, W, _, hb, ht => hR W hb ht
  | D :: Ds, b, W, hm, hb, ht => by
    obtain ⟨h1, h2, h3⟩ := hm.2 D (by simp)
    refine ⟨by simp, .inl ⟨_, _, rfl, run_takeDeferred h3, ?_⟩⟩
    refine leaves_marksT hw hT hR Ds b _ ⟨(List.nodup_cons.1 hm.1).2, fun E hE => ?_⟩ ?_ (hT _ _ _ ht h3)
    · obtain ⟨g1, g2, g3⟩ := hm.2 E (by simp [hE])
      refine ⟨g1, g2, ?_⟩
      have hne : D ≠ E := fun e => (List.nodup_cons.1 hm.1).1 (by rw [e]; exact hE)
      exact (World.putObj_heap_other hne.symm).trans g3
    · exact hb.grown (grownBy_putObj' W D _) (by have := hb.size; omega) (fun k e => by cases e; exact h1)

set_option maxHeartbeats 8000000 in
theorem end_in (A A' : Option Addr) (c c' : Nat) (L C : List Int) (hN : Net L) (hlen : C.length = L.length) (hC : Hues C) (w : World) (hL : Seen w A L) (hCs : Seen w A' C) (hT : TabT w) :
    CallsIn Fence.wide 8 Tryd.prog 36 #[.slice A L.length c, .slice A' C.length c'] w (Gave w (endL L C)) := by
  rw [hlen]
  obtain ⟨n, hn⟩ : ∃ n, n = L.length := ⟨_, rfl⟩
  have h12 := hN.2.1
  have h1n := hN.1
  rw [← hn] at h12 h1n ⊢
  have HFIN : Hid (∀ (A1 : Option Addr) (c1 : Nat) (D : List Int), D.length = n → Hues D → ∀ W : World, Below w.heap.size w W → Seen W A1 D → Calls Tryd.prog 44 #[.slice A n c, .slice A1 n c1] W (fun e W1 => ∃ (AF : Option Addr) (cF : Nat), e = .returned (.slice AF n cF) ∧ Row W1 W.heap.size (.slice AF n cF) (finerL L D) ∧ Seen W1 AF (finerL L D) ∧ Below W.heap.size W W1)) := Lib.hid (fun A1 c1 D hd hh W hb hs => by
    have h := finer_in A A1 c c1 L D hN (by rw [hd, hn]) hh W (hL.below hb) hs (hT.below hb (by have := hT.lt; omega))
    rw [hd, ← hn] at h
    refine (callsIn_wide.1 h).mono ?_
    rintro e W1 ⟨v, rfl, hr, hb1⟩
    obtain ⟨AF, cF, rfl, hSF⟩ := hr.seen
    have hl : (finerL L D).length = n := by rw [finerL_length, hn]
    rw [hl] at hr ⊢
    exact ⟨AF, cF, rfl, hr, hSF, hb1⟩)
  have h2 : 2 ≤ w.heap.size := by have := hT.lt; omega
  have HN := Lib.hid hn
  have HLEN := Lib.hid hlen
  have HC := Lib.hid hC
  have HCS := Lib.hid hCs
  clear hN hlen hC hL hCs hT hn
  refine callsIn_of_wp_marks Tryd.func36 rfl trivial ?_ rfl
  simp only [Tryd.ntmps36, List.size_toArray, List.length_cons, List.length_nil, Nat.reduceAdd, Nat.reduceSub, Array.replicate_succ, Array.replicate_zero, List.push_toArray, List.append_toArray, List.nil_append, List.cons_append]
  gi_wp2
  obtain ⟨W0, eW0⟩ : ∃ W0, W0 = w.alloc (.cells #[.slice A' n c'] 22) := ⟨_, rfl⟩
  have b0 : Boxed W0 w.heap.size 22 (.slice A' n c') := by rw [eW0]; exact Boxed.new w _ _
  have hB0 : Below w.heap.size w W0 := by rw [eW0]; exact (Below.refl _ w).alloc (Nat.le_refl _) _
  rw [← eW0]
  clear eW0
  obtain ⟨n₀, en⟩ : ∃ n₀, n₀ = w.heap.size := ⟨_, rfl⟩
  rw [← en] at b0 h2 ⊢
  have hB0' : Below n₀ w W0 := by rw [en]; exact hB0
  have EN := Lib.hid en
  have hle : n₀ ≤ w.heap.size := by omega
  have HC0 : Hid (Seen W0 A' C) := Lib.hid (HCS.out.below hB0)
  clear en
  refine wpIn_wide.2 (wp_scope_straight ((wpIn_wide (n := 8)).1 ?_))
  refine wpIn_seq (wpIn_label ?_)
  refine wpIn_block ?_
  refine wpIn_loop (fun a' W' => ∃ (A1 : Option Addr) (c1 : Nat) (D : List Int) (Ds : List Nat) (u5 u6 u7 u8 u9 u10 u11 u12 u13 u14 u15 u16 u17 u18 u19 u20 u21 u22 u23 u24 u25 u26 u27 u28 u29 u30 u31 u32 u33 u34 u35 u36 u37 : Value), a' = { tmps := #[.slice A n c, .slice A' n c', undef, .pointer (some ⟨n₀, 0, none⟩), .slice none 0 0, u5, u6, u7, u8, u9, u10, u11, u12, u13, u14, u15, u16, u17, u18, u19, u20, u21, u22, u23, u24, u25, u26, u27, u28, u29, u30, u31, u32, u33, u34, u35, u36, u37], defers := Ds.map mark } ∧
      D.length = n ∧ Hid (Hues D) ∧ Hid (endL L D = endL L C) ∧ Boxed W' n₀ 22 (.slice A1 n c1) ∧ Hid (Seen W' A1 D) ∧ Hid (Marks n₀ Ds W'.heap.size W') ∧ Below n₀ w W') (fun _ W' => n - kinds n (listAt W' n₀ n)) ?start ?round
  case start => exact ⟨A', c', C, [], undef, undef, undef, undef, undef, undef, undef, undef, undef, undef, undef, undef, undef, undef, undef, undef, undef, undef, undef, undef, undef, undef, undef, undef, undef, undef, undef, undef, undef, undef, undef, undef, undef, rfl, by have := HLEN.out; have := HN.out; omega, HC, Lib.hid rfl, b0, HC0, Lib.hid (marks_nil _ _ _), hB0'⟩
  case round =>
    rintro a' W ⟨A1, c1, D, Ds, u5, u6, u7, u8, u9, u10, u11, u12, u13, u14, u15, u16, u17, u18, u19, u20, u21, u22, u23, u24, u25, u26, u27, u28, u29, u30, u31, u32, u33, u34, u35, u36, u37, rfl, hDl, hDh, hDe, hbx, hSD, hmk, hB⟩
    have hlist : listAt W n₀ n = D := listAt_of hbx.cell hSD.out hDl h1n
    have HLI := Lib.hid hlist
    have z0 := hbx.cell
    have HBX := Lib.hid hbx
    have HB := Lib.hid hB
    clear hlist hbx hB
    have hFh : Hues (finerL L D) := finer_hues (by have := HN.out; omega)
    have hFl : (finerL L D).length = n := by rw [finerL_length, HN.out]
    have hFp : ∀ a b, a < n → b < n → hue (finerL L D) a = hue (finerL L D) b → hue D a = hue D b := fun a b ha hb => finer_parts (by have := HN.out; omega) (by have := HN.out; omega)
    have hES : kinds n (finerL L D) = kinds n D → endL L C = finerL L D := fun h => by rw [← hDe.out]; exact endL_stop (by rw [← HN.out]; exact h)
    have hEG : kinds n (finerL L D) ≠ kinds n D → endL L (finerL L D) = endL L C := fun h => by rw [← hDe.out]; exact (endL_go (by rw [← HN.out]; exact h)).symm
    have HCALL := Lib.hid (HFIN.out A1 c1 D hDl hDh.out W (by rw [← EN.out]; exact HB.out) hSD.out)
    obtain ⟨F, eF⟩ : ∃ F, F = finerL L D := ⟨_, rfl⟩
    rw [← eF] at hFh hFl hFp hES hEG HCALL
    have HFH := Lib.hid hFh
    have HFP := Lib.hid hFp
    have HES := Lib.hid hES
    have HEG := Lib.hid hEG
    clear hFh hFp hES hEG eF
    gi_wp2_with (first | (refine ⟨trivial, ?_⟩; gi_at_call 44; refine (callsIn_wide.2 HCALL.out).mono ?_; rintro e W1 ⟨AF, cF, rfl, hr, hSF, hb1⟩) | (refine ⟨trivial, ?_⟩; gi_at_call 45; refine (callsIn_wide.2 (pairs_any n _)).mono ?_; rintro e w' ⟨rfl, rfl⟩))
    obtain ⟨b, eb⟩ : ∃ b, b = W1.heap.size := ⟨_, rfl⟩
    obtain ⟨W', eW'⟩ : ∃ W', W' = (W1.alloc (.cells #[.slice AF n cF] 22)).alloc (.cells #[.int .i64 n] 3) := ⟨_, rfl⟩
    have sW : W'.heap.size = b + 1 + 1 := by rw [eW', eb]; simp
    have hn0W : n₀ < W.heap.size := HBX.out.lt
    have hWb : W.heap.size ≤ b := by rw [eb]; exact hb1.size
    have hb1b : Below W1.heap.size W1 W' := by rw [eW']; exact ((Below.refl _ W1).alloc (Nat.le_refl _) _).alloc (by simp) _
    have hbW : Below W.heap.size W W' := hb1.trans (hb1b.mono (by omega))
    have d0 : Boxed W' n₀ 22 (.slice A1 n c1) := (hbW.block n₀ hn0W).trans HBX.out
    have d1 : Boxed W' b 22 (.slice AF n cF) := by rw [eW', eb]; exact (Boxed.new W1 _ _).alloc _
    have c2 : W'.cell? ⟨b + 1, 0, none⟩ = some (.int .i64 n) := by
      rw [eW', eb]; have h := Boxed.new (W1.alloc (.cells #[.slice AF n cF] 22)) 3 (.int .i64 n); rw [World.size_alloc] at h; exact h.cell
    have hr' : Row W' W.heap.size (.slice AF n cF) F := by rw [eW']; exact (hr.alloc _).alloc _
    have hSD' : Seen W' A1 D := hSD.out.below hbW
    have hSF' : Seen W' AF F := hSF.below hb1b
    have hm' : Marks n₀ Ds W.heap.size W' := ⟨hmk.out.1, fun E hE => by
      obtain ⟨h1, h2, h3⟩ := hmk.out.2 E hE
      exact ⟨h1, h2, (hbW.block E h2).trans h3⟩⟩
    have hB' : Below n₀ w W' := HB.out.trans (hbW.mono (by omega))
    rw [← eb, ← eW']
    clear eW' hr hSF hb1 hbW hb1b
    have D0 := Lib.hid d0
    have D1 := Lib.hid d1
    have HR := Lib.hid hr'
    have SD := Lib.hid hSD'
    have SF := Lib.hid hSF'
    have HM := Lib.hid hm'
    have HBB := Lib.hid hB'
    have SW := Lib.hid sW
    have HWB := Lib.hid hWb
    have HN0W := Lib.hid hn0W
    clear d0 d1 hr' hSD' hSF' hm' hB' sW hWb hn0W eb z0
    refine wpIn_rangeFunc_ownF (α := Pr n) rfl (by omega) (gf := 57) (lb := #[.pointer (some ⟨b + 1, 0, none⟩)]) rfl trivial (enters_of Tryd.func57 (by kernel_rfl) rfl)
      (pairsT_stops Fence.wide _ trivial rfl (by omega) (b + 1) n h12 W' (by have := SW.out; omega) c2) (fun _ _ => trivial) (fun _ _ _ _ _ _ _ _ => trivial) (Below.refl _ _) (fun _ => rfl)
      (fun pre Z => Below W'.heap.size W' Z ∧ Hid (∀ p ∈ vals pre, hue D p.1 = hue D p.2 → hue F p.1 = hue F p.2)) (fun cd _ Z => cd = .exit 1 ∧ MoreC n D F ∧ W'.grownBy Z (some n₀) ∧ Boxed Z n₀ 22 (.slice AF n cF))
      (fun s X Y row hs hg hr => ⟨ownFrom_below (β := List (Pr n)) (Nat.le_refl _) (Nat.le_refl _) s X Y row hs.1 hg hr, hs.2⟩)
      (fun cd s X Y row hs hg hr => ⟨hs.1, hs.2.1, ⟨hg.os.trans hs.2.2.1.os, hg.tape.trans hs.2.2.1.tape, hg.output.trans hs.2.2.1.output, Nat.le_trans hs.2.2.1.size hg.size, fun k hk hne => (hg.block k (Nat.lt_of_lt_of_le hk hs.2.2.1.size) (fun e => by have := (hr k e.symm).1; omega)).trans (hs.2.2.1.block k hk hne)⟩,
        hs.2.2.2.kept hg (fun e => by have := (hr n₀ e.symm).1; have := SW.out; have := HWB.out; have := HN0W.out; omega)⟩)
      ⟨Below.refl _ _, Lib.hid (fun p hp => by cases hp)⟩
      (fun x => { tmps := #[.slice A n c, .slice A' n c', undef, .pointer (some ⟨n₀, 0, none⟩), .slice none 0 0, .pointer (some ⟨b, 0, none⟩), .int .i64 (x.1.1 : Int), .int .i64 (x.1.2 : Int), .slice A n c, .slice A1 n c1, .slice AF n cF, .slice A n c, .int .i64 (n : Int), .func (.func 57) #[] #[.pointer (some ⟨b + 1, 0, none⟩)], .int .i64 (x.1.1 : Int), .int .i64 (x.1.2 : Int), u16, u17, u18, u19, u20, u21, u22, u23, u24, u25, u26, u27, u28, u29, u30, u31, u32, u33, u34, u35, u36, u37], defers := [] }) ?assign ?body ?done ?stop
    case assign =>
      intro l x Z K hK
      gi_wp2
      exact hK
    case body =>
      rintro l pre x Z ⟨hb, hp⟩ hlen
      obtain ⟨⟨p, q⟩, hpq, hqn⟩ := x
      dsimp only at hpq hqn ⊢
      have hsw := SW.out
      have hwb := HWB.out
      have hn0 := HN0W.out
      have y0 : Z.cell? ⟨n₀, 0, none⟩ = some (.slice A1 n c1) := (show Boxed Z n₀ 22 (.slice A1 n c1) from (hb.block n₀ (by omega)).trans D0.out).cell
      have x1 : Boxed Z b 22 (.slice AF n cF) := (hb.block b (by omega)).trans D1.out
      have y1 := x1.cell
      have x0 : Boxed Z n₀ 22 (.slice A1 n c1) := (hb.block n₀ (by omega)).trans D0.out
      have y2 := x0.frozen
      obtain ⟨g1, o1, hA1, hg1, hp1⟩ := (SD.out.below hb) p (by omega)
      obtain ⟨g1', o1', hA1', hg1', hq1⟩ := (SD.out.below hb) q (by omega)
      rw [hA1] at hA1'
      injection hA1' with e
      injection e with e1 e2
      subst e1 e2
      obtain ⟨g2, o2, hA2, hg2, hp2⟩ := (SF.out.below hb) p (by omega)
      obtain ⟨g2', o2', hA2', hg2', hq2⟩ := (SF.out.below hb) q (by omega)
      rw [hA2] at hA2'
      injection hA2' with e
      injection e with e1 e2
      subst e1 e2
      subst hA1 hA2
      change Z.cell? ⟨g1, o1 + p, none⟩ = some (.int .i64 (hue D p)) at hp1
      change Z.cell? ⟨g1, o1 + q, none⟩ = some (.int .i64 (hue D q)) at hq1
      change Z.cell? ⟨g2, o2 + p, none⟩ = some (.int .i64 (hue F p)) at hp2
      change Z.cell? ⟨g2, o2 + q, none⟩ = some (.int .i64 (hue F q)) at hq2
      have hi1 : (0 : Int) ≤ (p : Int) ∧ (p : Int) < (n : Int) := by omega
      have hi2 : (0 : Int) ≤ (q : Int) ∧ (q : Int) < (n : Int) := by omega
      have hmore : hue D p = hue D q → hue F p ≠ hue F q → MoreC n D F := fun h1 h2 => ⟨p, q, hpq, hqn, h1, h2⟩
      have hpre : (hue D p = hue D q → hue F p = hue F q) → ∀ r ∈ vals (pre ++ [(⟨(p, q), hpq, hqn⟩ : Pr n)]), hue D r.1 = hue D r.2 → hue F r.1 = hue F r.2 := fun h r hr => by
        rw [vals_snoc] at hr
        rcases List.mem_append.1 hr with hr | hr
        · exact hp.out r hr
        · rw [List.mem_singleton.1 hr]; exact h
      obtain ⟨dp, edp⟩ : ∃ d, d = hue D p := ⟨_, rfl⟩
      obtain ⟨dq, edq⟩ : ∃ d, d = hue D q := ⟨_, rfl⟩
      obtain ⟨fp, efp⟩ : ∃ d, d = hue F p := ⟨_, rfl⟩
      obtain ⟨fq, efq⟩ : ∃ d, d = hue F q := ⟨_, rfl⟩
      rw [← edp, ← edq, ← efp, ← efq] at hmore hpre
      rw [← edp] at hp1
      rw [← edq] at hq1
      rw [← efp] at hp2
      rw [← efq] at hq2
      have HMO := Lib.hid hmore
      have HPR := Lib.hid hpre
      have HZ := Lib.hid hb
      have X0 := Lib.hid x0
      clear hmore hpre edp edq efp efq hb hp x0 x1 hlen hsw hwb hn0 hg1 hg1' hg2 hg2'
      by_cases hd : dp = dq
      · have ed : (dp == dq) = true := by simp [hd]
        by_cases hf : fp = fq
        · have ef : (fp != fq) = false := by simp [hf]
          have HH := Lib.hid (HPR.out fun _ => hf)
          clear hd hf
          gi_wp2
          refine wpIn_quiet_round (by kernel_rfl) (by kernel_rfl) (by kernel_rfl) ?_
          repeat (quiet_step_in (fail))
          refine wpQuietIn_nil ?_
          rintro _ ⟨k, rfl⟩
          gi_wp2
          exact ⟨⟨Nat.le_refl _, fun _ _ h _ => h⟩, trivial, HZ.out.trans ⟨rfl, rfl, rfl, Nat.le_refl _, fun _ _ => rfl⟩, HH⟩
        · have ef : (fp != fq) = true := by simp [hf]
          have HH := Lib.hid (HMO.out hd hf)
          clear hd hf
          gi_wp2
          refine wpIn_quiet_round (by kernel_rfl) (by kernel_rfl) (by kernel_rfl) ?_
          repeat (quiet_step_in (fail))
          refine wpQuietIn_nil ?_
          rintro _ ⟨k, rfl⟩
          obtain ⟨Y, eY⟩ : ∃ Y, Y = Z.drewN k := ⟨_, rfl⟩
          have v0 : Y.cell? ⟨n₀, 0, none⟩ = some (.slice (some ⟨g1, o1, none⟩) n c1) := by rw [eY]; exact y0
          have v1 : Y.cell? ⟨b, 0, none⟩ = some (.slice (some ⟨g2, o2, none⟩) n cF) := by rw [eY]; exact y1
          have v2 : Y.frozen? ⟨n₀, 0, none⟩ = false := by rw [eY]; exact y2
          rw [← eY]
          have EY := Lib.hid eY
          clear eY y0 y1 y2
          gi_wp2
          have gz : Z.grownBy (Y.setCell ⟨n₀, 0, none⟩ (.slice (some ⟨g2, o2, none⟩) n cF)) (some n₀) := by rw [EY.out]; exact grown_set (grown_drewN (World.grownBy.refl Z (some n₀)) k) 0 _
          have hz := HZ.out
          refine ⟨KeepsOthers.of_grownBy gz (fun j o e ho => ?_), rfl, HH.out, World.grownBy.trans ⟨hz.os, hz.tape, hz.output, hz.size, fun k hk _ => hz.block k hk⟩ gz, ?_⟩
          · cases e
            rw [show Z.heap[n₀]? = _ from X0.out] at ho
            cases ho
            rfl
          · rw [EY.out]
            exact (show Boxed (Z.drewN k) n₀ 22 (.slice (some ⟨g1, o1, none⟩) n c1) from X0.out).set _
      · have ed : (dp == dq) = false := by simp [hd]
        have HH := Lib.hid (HPR.out fun h => absurd h hd)
        clear hd
        gi_wp2
        refine wpIn_quiet_round (by kernel_rfl) (by kernel_rfl) (by kernel_rfl) ?_
        repeat (quiet_step_in (fail))
        refine wpQuietIn_nil ?_
        rintro _ ⟨k, rfl⟩
        gi_wp2
        exact ⟨⟨Nat.le_refl _, fun _ _ h _ => h⟩, trivial, HZ.out.trans ⟨rfl, rfl, rfl, Nat.le_refl _, fun _ _ => rfl⟩, HH⟩
    case done =>
      rintro Dk xs Z hD hS ⟨hb, hp⟩ hK
      have hnm : ¬ MoreC n D F := by
        rintro ⟨a, b', hab, hbn, h1, h2⟩
        refine h2 (hp.out (a, b') ?_ h1)
        rw [hS]
        simp only [rows, List.mem_flatMap, List.mem_map, List.mem_range]
        exact ⟨b', hbn, a, hab, rfl⟩
      have hEL := HES.out ((kinds_eq_iff HFP.out).2 hnm)
      have hrZ : Row Z W.heap.size (.slice AF n cF) F := HR.out.below hb
      have hlt := (Array.getElem?_eq_some_iff.1 hK).1
      have hsw := SW.out
      have hwb := HWB.out
      have hn0 := HN0W.out
      have hm2 : Marks n₀ (Dk :: Ds) Z.heap.size Z := marks_cons (b := W.heap.size) ⟨HM.out.1, fun E hE => by
        obtain ⟨h1, h2, h3⟩ := HM.out.2 E hE
        exact ⟨h1, h2, (hb.block E (by omega)).trans h3⟩⟩ (by omega) (by omega) hlt hK
      have hBZ : Below n₀ w Z := HBB.out.trans (hb.mono (by omega))
      have z1 : Z.cell? ⟨b, 0, none⟩ = some (.slice AF n cF) := (show Boxed Z b 22 (.slice AF n cF) from (hb.block b (by omega)).trans D1.out).cell
      have M2 := Lib.hid hm2
      have BZ := Lib.hid hBZ
      have RZ := Lib.hid hrZ
      have EL := Lib.hid hEL
      clear hnm hEL hrZ hlt hsw hwb hn0 hm2 hBZ hS hp hb hK hD
      gi_wp2
      refine leaves_marksT (w := w) (T := fun X => Row X W.heap.size (.slice AF n cF) F) hle (fun X D' o hX hd => row_kept hX (grownBy_putObj' X D' o) (fun r e => by cases e; exact ⟨_, hd, rfl⟩)) (fun W2 hb2 hr2 => ?_) (Dk :: Ds) _ _ M2.out BZ.out RZ.out
      refine ⟨_, results_tmp rfl _ _ _, ?_⟩
      refine ⟨_, rfl, ?_, by rw [← EN.out]; exact hb2⟩
      rw [EL.out]
      exact hr2.mono (by have := HN0W.out; have := EN.out; omega)
    case stop =>
      rintro Dk cd pre Z hD _ ⟨rfl, hmc, hg, hbx⟩ hK
      have e1 : kinds n F ≠ kinds n D := fun h => (kinds_eq_iff HFP.out).1 h hmc
      have hlt := kinds_more HFP.out hmc
      have hle2 := kinds_le n F
      have hltD := (Array.getElem?_eq_some_iff.1 hK).1
      have hsw := SW.out
      have hwb := HWB.out
      have hn0 := HN0W.out
      have hr2 : Row Z W.heap.size (.slice AF n cF) F := Row.keep HR.out (v' := .slice (some ⟨n₀, 0, none⟩) 0 0) (fun a h h2 => by have := HR.out.lt a h; simp [Value.ownBlock] at h2; omega) hg
      have hs2 : Seen Z AF F := by
        obtain ⟨A2, c2, e, h⟩ := hr2.seen
        injection e with e1 _ _
        rw [e1]; exact h
      have hm2 : Marks n₀ (Dk :: Ds) Z.heap.size Z := marks_cons (b := W.heap.size) ⟨HM.out.1, fun E hE => by
        obtain ⟨h1, h2, h3⟩ := HM.out.2 E hE
        refine ⟨h1, h2, (hg.block E (by omega) (fun e => ?_)).trans h3⟩
        injection e with e
        rw [e, show W'.heap[n₀]? = _ from D0.out] at h3
        cases h3⟩ (by omega) (by omega) hltD hK
      have hBZ : Below n₀ w Z := HBB.out.grown hg (by omega) (fun k e => by cases e; omega)
      have HMS : Hid (n - kinds n (listAt Z n₀ n) < n - kinds n (listAt W n₀ n)) := Lib.hid (by rw [listAt_of hbx.cell hs2 hFl h1n, HLI.out]; omega)
      have HE := Lib.hid (HEG.out e1)
      have S2 := Lib.hid hs2
      have M2 := Lib.hid hm2
      have BZ := Lib.hid hBZ
      have BX := Lib.hid hbx
      clear e1 hlt hle2 hltD hsw hwb hn0 hr2 hs2 hm2 hBZ hmc hg hbx hK hD
      gi_wp2
      exact ⟨⟨AF, cF, F, Dk :: Ds, _, _, _, _, _, _, _, _, _, _, _, _, _, _, _, _, _, _, _, _, _, _, _, _, _, _, _, _, _, _, _, _, _, rfl, hFl, HFH, HE, BX.out, S2, M2, BZ.out⟩, HMS.out⟩
#print axioms end_in
end Go.Proofs.YtnnobbbljpaieaaDoor
