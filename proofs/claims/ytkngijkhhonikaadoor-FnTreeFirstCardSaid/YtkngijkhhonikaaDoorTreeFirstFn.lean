/- The program's leads and firstTree. -/
import Derived.Test.YtkngijkhhonikaaDoorCutMath
import Derived.Test.YtkngijkhhonikaaDoorReachIn
import Derived.Test.YtkngijkhhonikaaDoorPlace
import Derived.Test.YtkngijkhhonikaaDoorBaseG
import Derived.Test.YtkngijkhhonikaaDoorGraphOfIn
import Derived.Test.YtkngijkhhonikaaDoorBaseA
namespace Go.Proofs.YtkngijkhhonikaaDoor
open Go.RowKit Go.Shelf
attribute [local go_sem] Oper.semAt_some
set_option linter.unusedVariables false
set_option maxRecDepth 100000

theorem edgesOf_vals {L : List Int} {n : Nat} (ys : List (Pr n)) (h : vals ys = rows n) : vals (edgesOf L ys) = edgesIn L (rows n) := by
  rw [← h]
  unfold edgesIn vals edgesOf
  rw [List.filter_map]
  rfl
theorem reachN_64 {n s a : Nat} (h1 : 1 ≤ n) (h6 : n ≤ 6) (ha : a < n) : reachN (codeG n s) (2 ^ a) < 64 := by
  have hg := codeG_graph (n := n) s h1 h6
  have hl := codeG_length n s
  have h := reaches_lt (L := codeG n s) (m := (codeG n s).length) (Nat.pow_lt_pow_right (a := 2) (by omega) (show a < (codeG n s).length by omega)) (fun u hu => ent_lt (hg.2.2 u hu).1) (codeG n s).length
  have h64 := two_le (n := (codeG n s).length) (by omega)
  unfold reachN
  omega

set_option maxHeartbeats 2000000 in
theorem leads6_any (A : Option Addr) (n c s a b : Nat) (hn1 : 1 ≤ n) (hn6 : n ≤ 6) (hs : s < 32768) (ha : a < n) (hb6 : b < n) (w : World) (hT : Tab w) :
    Calls Tryd.prog 71 #[.slice A n c, .int .i64 s, .int .i64 a, .int .i64 b] w (Said1 w (ldG n s a b == 1)) := by
  have h2 := hT.lt
  have hg : IsGraph (codeG n s) := codeG_graph s hn1 hn6
  have hlen : (codeG n s).length = n := codeG_length n s
  have hal : a < (codeG n s).length := by rw [hlen]; omega
  have HO := Lib.hid (implOf_any n s w.drew hn1 hn6 (by omega))
  obtain ⟨P, Q', hP, _, hP64, p1, p2, _⟩ := shl_facts a (by omega)
  have HR : Hid (∀ (w1 : World) (v : Value), Row w1 w.drew.heap.size v (ints (ofCode n s)) → Below w.drew.heap.size w.drew w1 → Calls Tryd.prog 84 #[v, .int .i64 (P : Nat)] w1 fun e w' => e = .returned (.int .i64 (reachN (codeG n s) P : Nat)) ∧ Below w1.heap.size w1 w') := Lib.hid (by
    intro w1 v hr hb1
    obtain ⟨A', c', rfl, hsn⟩ := hr.seen
    rw [hP]
    exact callsIn_wide.1 (implReachedS_in A' c' (codeG n s) hg (2 ^ a) a hal (by simp) (Nat.pow_lt_pow_right (by omega) hal) w1 hsn (hT.below ((Below.refl w.heap.size w).drew.trans (show Below w.heap.size w.drew w1 from hb1)) (by omega))))
  have hrl := reachN_64 (s := s) hn1 hn6 ha
  unfold ldG
  rw [← hP] at hrl ⊢
  obtain ⟨R, eR⟩ : ∃ R, R = reachN (codeG n s) P := ⟨_, rfl⟩
  rw [← eR] at HR hrl ⊢
  obtain ⟨bit, ebit, hbit, f1⟩ := and_facts R b (by omega)
  rw [← ebit]
  have e1 : ((bit : Int) == 1) = (bit == 1) := by rw [Bool.eq_iff_iff]; simp; omega
  have hb64 : b < 64 := by omega
  have ha64 : a < 64 := by omega
  clear hg hlen hal hrl hT hs ebit eR hP hP64
  go_enter Tryd.func71, Tryd.ntmps71
  go_wp2
  go_region_with (first
    | (go_at_call 46; refine HO.out.mono ?_; rintro e w1 ⟨v, rfl, hr, hb1⟩; have HR1 := Lib.hid hr; clear hr)
    | (go_at_call 84; refine (HR.out w1 v HR1.out hb1).mono ?_; rintro e w2 ⟨rfl, hb2⟩))
  all_goals go_wp2
  all_goals go_ret
  all_goals exact ⟨rfl, (Below.refl w.heap.size w).drew.trans (hb1.trans (hb2.mono hb1.size))⟩

def FirI (n₀ n : Nat) (S : Value) (pre : List (Pr n)) (W : World) : Prop :=
  Boxed W n₀ 41 S ∧ Boxed W (n₀ + 1) 3 (.int .i64 (frRun n (vals pre) : Nat)) ∧ Boxed W (n₀ + 1 + 1) 41 S
theorem firI_own (n₀ n : Nat) (S : Value) : Own (FirI n₀ n S) := fun s X Y row hs hg hr =>
  ⟨boxed_own _ _ (fun _ : Unit => _) () X Y row hs.1 hg hr, boxed_own _ _ (fun _ : Unit => _) () X Y row hs.2.1 hg hr, boxed_own _ _ (fun _ : Unit => _) () X Y row hs.2.2 hg hr⟩
theorem plc_lt {a b : Nat} (hab : a < b) (hb : b < 6) : plc (a, b) < 15 := by
  have h : ∀ b : Fin 6, ∀ a : Fin 6, a.val < b.val → plc (a.val, b.val) < 15 := by decide
  exact h ⟨b, hb⟩ ⟨a, by omega⟩ hab
theorem frRun_lt {n : Nat} (hn : n ≤ 6) (es : List (Pr n)) : frRun n (vals es) < 32768 := by
  induction es using snoc_ind with
  | h0 => show 0 < 32768; omega
  | h1 l x ih =>
    rw [vals_snoc, frRun_snoc]
    unfold frStep
    split
    · exact ih
    · have h := plc_lt (a := x.1.1) (b := x.1.2) x.2.1 (by have := x.2.2; omega)
      exact Nat.or_lt_two_pow (n := 15) ih (Nat.pow_lt_pow_right (by omega) h)

set_option maxHeartbeats 8000000 in
theorem firstTree_in (A : Option Addr) (c : Nat) (L : List Int) (hg : IsGraph L) (w : World) (h : Seen w A L) (hT : Tab w) :
    CallsIn Fence.wide 6 Tryd.prog 40 #[.slice A L.length c] w (NumA w (frT L)) := by
  have h1 := hg.1
  have h6 := hg.2.1
  have h2 := hT.lt
  have hfT : frT L = frRun L.length (edgesIn L (rows L.length)) := rfl
  obtain ⟨n, hn⟩ : ∃ n, n = L.length := ⟨_, rfl⟩
  rw [← hn] at h1 h6 hfT ⊢
  have HN := Lib.hid hn
  have H := Lib.hid h
  have HG := Lib.hid hg
  have TB := Lib.hid hT
  have HFT := Lib.hid hfT
  clear h hg hn hT hfT
  refine callsIn_of_wp_marks Tryd.func40 rfl trivial ?_ rfl
  simp only [Tryd.ntmps40, List.size_toArray, List.length_cons, List.length_nil, Nat.reduceAdd, Nat.reduceSub, Array.replicate_succ, Array.replicate_zero, List.push_toArray, List.append_toArray, List.nil_append, List.cons_append]
  gi_wp2_with (refine ⟨trivial, ?_⟩; gi_at_call 70; refine (callsIn_wide.2 (edges_any _ _ _ _)).mono ?_; rintro e w' ⟨rfl, rfl⟩)
  obtain ⟨W, eW⟩ : ∃ W, W = ((w.alloc (.cells #[.slice A n c] 41)).alloc (.cells #[.int .i64 0] 3)).alloc (.cells #[.slice A n c] 41) := ⟨_, rfl⟩
  have sW : W.heap.size = w.heap.size + 1 + 1 + 1 := by rw [eW]; simp
  have hBW : Below w.heap.size w W := by rw [eW]; exact (((Below.refl _ w).alloc (Nat.le_refl _) _).alloc (by simp) _).alloc (by simp; omega) _
  have b0 : Boxed W w.heap.size 41 (.slice A n c) := by rw [eW]; exact ((Boxed.new w _ _).alloc _).alloc _
  have b1 : Boxed W (w.heap.size + 1) 3 (.int .i64 0) := by
    rw [eW]; have h := Boxed.new (w.alloc (.cells #[.slice A n c] 41)) 3 (.int .i64 0); rw [World.size_alloc] at h; exact h.alloc _
  have b2 : Boxed W (w.heap.size + 1 + 1) 41 (.slice A n c) := by
    rw [eW]; have h := Boxed.new ((w.alloc (.cells #[.slice A n c] 41)).alloc (.cells #[.int .i64 0] 3)) 41 (.slice A n c); rw [World.size_alloc, World.size_alloc] at h; exact h
  rw [← eW]
  clear eW
  obtain ⟨n₀, en⟩ : ∃ n₀, n₀ = w.heap.size := ⟨_, rfl⟩
  rw [← en] at sW hBW b0 b1 b2 h2 ⊢
  have hle : n₀ ≤ w.heap.size := by omega
  have EN := Lib.hid en
  have hsW : Seen W A L := H.out.below (by rw [← en]; exact hBW)
  clear en
  have SW := Lib.hid sW
  refine wpIn_outer (α := Pr n) (encs := encP n) rfl (by omega) (gf := 86) (lb := #[.pointer (some ⟨n₀ + 1 + 1, 0, none⟩)]) rfl trivial (enters_of Tryd.func86 (by kernel_rfl) rfl)
    (edges_stops A c L n HN.out HG.out (n₀ + 1 + 1) W (by omega) b2 hsW) keepG_t (fun W l o o' _ ho hc _ => keepG_b W l o o' ho hc) (Below.refl _ _) (fun _ => rfl)
    (fun pre Z => FirI n₀ n (.slice A n c) pre Z ∧ Below n₀ w Z) (fun _ _ _ => False)
    (OwnFrom.and (Own.from (firI_own _ _ _) _) (ownFrom_below hle (by omega))) (fun _ _ _ _ _ hs _ _ => hs)
    ⟨⟨b0, b1, b2⟩, hBW⟩
    (fun x => { tmps := #[.slice A n c, .pointer (some ⟨n₀, 0, none⟩), .int .i64 0, .pointer (some ⟨n₀ + 1, 0, none⟩), .int .i64 (x.1.1 : Int), .int .i64 (x.1.2 : Int), .slice A n c,
      .func (.func 86) #[] #[.pointer (some ⟨n₀ + 1 + 1, 0, none⟩)], .int .i64 (x.1.1 : Int), .int .i64 (x.1.2 : Int), undef, undef, undef, undef, undef, undef, undef, undef, undef, undef, undef, undef, undef], defers := [] }) ?assign ?body ?done ?stop
  case assign =>
    intro l x W K hK
    gi_wp2
    simpa [encP] using hK
  case body =>
    rintro l pre x Z ⟨⟨c0, c1, c2⟩, hB⟩ hlen
    have hst := frRun_snoc n (vals pre) x.1
    rw [← vals_snoc] at hst
    have hsl := frRun_lt h6 pre
    obtain ⟨pr, epr⟩ : ∃ pr, pr = pre ++ [x] := ⟨_, rfl⟩
    rw [← epr] at hst ⊢
    clear epr
    obtain ⟨⟨a, b⟩, ha, hb⟩ := x
    dsimp only at ha hb hst ⊢
    have hpl := place_any a b (by omega) (by omega) (by omega)
    have hpb := plc_lt ha (by omega)
    change ∀ w, Calls Tryd.prog 72 #[.int .i64 a, .int .i64 b] w (fun e w' => e = .returned (.int .i64 ((plc (a, b) : Nat) : Int)) ∧ w = w') at hpl
    unfold frStep at hst
    dsimp only at hst
    obtain ⟨s, es⟩ : ∃ s, s = frRun n (vals pre) := ⟨_, rfl⟩
    rw [← es] at hst hsl c1
    have hle2 := pow_le (plc (a, b)) 15 (by omega)
    have p1 := wrap_pow (plc (a, b)) (by omega)
    obtain ⟨i, ei⟩ : ∃ i, i = plc (a, b) := ⟨_, rfl⟩
    rw [← ei] at hpl hpb p1 hle2 hst
    obtain ⟨P, hP⟩ : ∃ P, P = 2 ^ i := ⟨_, rfl⟩
    rw [← hP] at p1 hle2 hst
    have f1 := i64_or_nat s P (Nat.lt_trans hsl (by decide)) (Nat.lt_of_le_of_lt hle2 (by decide))
    obtain ⟨s2, es2⟩ : ∃ s2, s2 = s ||| P := ⟨_, rfl⟩
    rw [← es2] at f1 hst
    have HL := Lib.hid (leads6_any A n c s a b h1 h6 hsl (by omega) hb Z (TB.out.below hB (by omega)))
    obtain ⟨k, ek⟩ : ∃ k : Bool, k = (ldG n s a b == 1) := ⟨_, rfl⟩
    rw [← ek] at HL
    have hst2 : frRun n (vals pr) = if k = true then s else s2 := by rw [hst, ek]; simp only [beq_iff_eq]
    have p3 : wrap64 ((2 : Int) ^ min i 64) = (P : Int) := by rw [Nat.min_eq_left (show i ≤ 64 by omega)]; exact p1
    have p4 : IntKind.i64.wrap ((2 : Int) ^ i) = (P : Int) := by rw [IntKind.wrap_i64]; unfold wrap64 at p1; exact p1
    have HST := Lib.hid hst2
    have HPL := Lib.hid hpl
    have z0 := c0.cell
    have z1 := c1.cell
    have C0 := Lib.hid c0
    have C1 := Lib.hid c1
    have C2 := Lib.hid c2
    have HBZ := Lib.hid hB
    have HNZ := Lib.hid (show n₀ + 1 + 1 < Z.heap.size from c2.lt)
    have hi64 : i < 64 := by omega
    clear hst hst2 es es2 ei hP ek hsl hle2 hpl c0 c1 c2 hB b0 b1 b2 hBW hsW sW
    cases k
    · have HS2 := Lib.hid (HST.out.trans (if_neg (by decide)))
      gi_wp2_with (first
        | (refine ⟨trivial, ?_⟩; gi_at_call 71; refine (CallsIn.inRound l (callsIn_wide.2 HL.out)).mono ?_; rintro e Z1 ⟨rfl, hb1⟩
           have y1' : Boxed Z1 (n₀ + 1) 3 (.int .i64 (s : Nat)) := (hb1.block (n₀ + 1) C1.out.lt).trans C1.out
           have Y1 := Lib.hid y1'
           clear y1' z0 z1))
      have y1 := Y1.out.cell
      have f1' := Y1.out.frozen
      obtain ⟨w2, ew2⟩ : ∃ w2, w2 = Z1.drew := ⟨_, rfl⟩
      have x1 : w2.cell? ⟨n₀ + 1, 0, none⟩ = some (.int .i64 s) := by rw [ew2]; exact y1
      have x2 : w2.frozen? ⟨n₀ + 1, 0, none⟩ = false := by rw [ew2]; exact f1'
      have EW2 := Lib.hid ew2
      clear ew2
      refine wpIn_tail_round 6 (by kernel_rfl) (by kernel_rfl) (by kernel_rfl) ?_
      simp only [List.take_succ_cons, List.take_zero, List.drop_succ_cons, List.drop_zero]
      still_step
      still_step
      still_step
      still_call ((HPL.out _).mono fun e w' ⟨he, hw⟩ => ⟨he, hw.symm⟩)
      repeat still_step
      refine wpStill_nil ?_
      rw [← EW2.out]
      gi_wp2
      rw [EW2.out]
      have hnz := HNZ.out
      have hbe : Below n₀ w ((Z1.drew).setCell ⟨n₀ + 1, 0, none⟩ (.int .i64 s2)) := ((HBZ.out.trans (hb1.mono (by omega))).drew).setCell (p := ⟨n₀ + 1, 0, none⟩) (by show n₀ ≤ n₀ + 1; omega) _
      have k0 : Boxed Z1.drew n₀ 41 (.slice A n c) := (hb1.block n₀ C0.out.lt).trans C0.out
      have k1 : Boxed Z1.drew (n₀ + 1) 3 (.int .i64 s) := Y1.out
      have k2 : Boxed Z1.drew (n₀ + 1 + 1) 41 (.slice A n c) := (hb1.block (n₀ + 1 + 1) C2.out.lt).trans C2.out
      have hko : KeepsOthers Z Z1.drew := KeepsOthers.of_grownBy (row := none) ⟨hb1.drew.os, hb1.drew.tape, hb1.drew.output, hb1.drew.size, fun k hk _ => hb1.drew.block k hk⟩ (fun _ _ e => by cases e)
      refine ⟨⟨(hko.trans (KeepsOthers.setCell _ _ _)).from _, ⟨fun _ => k2.other (by omega) _, fun _ => H.out.below (by rw [← EN.out]; exact hbe)⟩, ⟨k0.other (by omega) _, ?_, k2.other (by omega) _⟩, hbe⟩, fun k o h1 _ h3 => (Below.heap_setCell _ _ _ k (fun e => by have := SW.out; dsimp only at e; omega)).trans ((hb1.block k (Array.getElem?_eq_some_iff.1 h3).1).trans h3)⟩
      rw [HS2.out]
      exact k1.set _
    · have HS2 := Lib.hid (HST.out.trans (if_pos rfl))
      gi_wp2_with (refine ⟨trivial, ?_⟩; gi_at_call 71; refine (CallsIn.inRound l (callsIn_wide.2 HL.out)).mono ?_; rintro e Z1 ⟨rfl, hb1⟩; clear z0 z1)
      have hnz := HNZ.out
      have hbe : Below n₀ w Z1 := HBZ.out.trans (hb1.mono (by omega))
      have k0 : Boxed Z1 n₀ 41 (.slice A n c) := (hb1.block n₀ C0.out.lt).trans C0.out
      have k1 : Boxed Z1 (n₀ + 1) 3 (.int .i64 s) := (hb1.block (n₀ + 1) C1.out.lt).trans C1.out
      have k2 : Boxed Z1 (n₀ + 1 + 1) 41 (.slice A n c) := (hb1.block (n₀ + 1 + 1) C2.out.lt).trans C2.out
      have hko : KeepsOthers Z Z1 := KeepsOthers.of_grownBy (row := none) ⟨hb1.os, hb1.tape, hb1.output, hb1.size, fun k hk _ => hb1.block k hk⟩ (fun _ _ e => by cases e)
      refine ⟨⟨hko.from _, ⟨fun _ => k2, fun _ => H.out.below (by rw [← EN.out]; exact hbe)⟩, ⟨k0, ?_, k2⟩, hbe⟩, fun k o h1 _ h3 => (hb1.block k (Array.getElem?_eq_some_iff.1 h3).1).trans h3⟩
      rw [HS2.out]
      exact k1
  case done =>
    rintro D xs Z hD hS ⟨⟨c0, c1, c2⟩, hB⟩ hK
    have z1 := c1.cell
    have HS := Lib.hid hS
    clear hS
    have hBq := Lib.hid hB
    clear hB
    gi_wp2
    refine ⟨by simp, .inl ⟨_, _, rfl, run_takeDeferred hK, ?_⟩⟩
    refine ⟨_, results_tmp rfl _ _ _, ?_⟩
    have hv : vals xs = edgesIn L (rows n) := by
      obtain ⟨ys, hy, rfl⟩ := HS.out
      rw [edgesOf_vals ys hy]
    refine ⟨by rw [HFT.out, ← hv]; rfl, ?_⟩
    rw [← EN.out]
    exact hBq.out.trans (belowK_b (w := w) hle Z D _ _ (by have := EN.out; omega) hK rfl rfl)
  case stop =>
    rintro D cd pre W _ _ h _
    exact h.elim

set_option maxHeartbeats 1000000 in
theorem implTF_yes (B : Nat) (v : Value) (L : List Int) (hl : IsLinked L) (w : World) (h : Row w B v L) (hT : Tab w) :
    Calls Tryd.prog 14 #[v] w (NumOkA w (frT L) true) := by
  have h2 := hT.lt
  have H1 := Lib.hid (implLinked_any B v L true ⟨fun _ => hl, fun _ => rfl⟩ w h hT)
  obtain ⟨A, c, rfl, hs⟩ := h.seen
  have H2 := Lib.hid (fun w1 (b : Below w.heap.size w w1) => callsIn_wide.1 (firstTree_in A c L hl.1 w1 (hs.below b) (hT.below b (by omega))))
  obtain ⟨x, ex⟩ : ∃ x, x = frT L := ⟨_, rfl⟩
  rw [← ex] at H2 ⊢
  clear hl h hs hT ex
  go_enter Tryd.func14, Tryd.ntmps14
  go_wp2_with fail
  refine H1.out.mono ?_
  rintro e w1 ⟨rfl, b1⟩
  go_wp2_with fail
  refine (H2.out _ b1).mono ?_
  rintro e w2 ⟨rfl, b2⟩
  go_wp2
  go_ret2
  exact ⟨rfl, b1.trans (b2.mono b1.size)⟩
theorem implTF_no (B : Nat) (v : Value) (L : List Int) (hl : ¬ IsLinked L) (w : World) (h : Row w B v L) (hT : Tab w) :
    Calls Tryd.prog 14 #[v] w (NumOkA w 0 false) := by
  have H1 := Lib.hid (implLinked_any B v L false ⟨fun h => (by cases h), fun h => absurd h hl⟩ w h hT)
  clear hl h
  go_enter Tryd.func14, Tryd.ntmps14
  go_wp2_with fail
  refine H1.out.mono ?_
  rintro e w1 ⟨rfl, b1⟩
  go_wp2
  go_ret2
  exact ⟨rfl, b1⟩
end Go.Proofs.YtkngijkhhonikaaDoor
