/- The program's active edges, counted in a range over the edges. -/
import Derived.Test.YtpegeleidkfpbaaDoorLeadsFn
import Derived.Test.YtpegeleidkfpbaaDoorActMath
import Derived.Test.YtpegeleidkfpbaaDoorPlace
import Derived.Test.YtpegeleidkfpbaaDoorBaseA
namespace Go.Proofs.YtpegeleidkfpbaaDoor
open Go.RowKit Go.Shelf
attribute [local go_sem] Oper.semAt_some
set_option linter.unusedVariables false
set_option maxRecDepth 100000

theorem tri_half : ∀ b : Fin 6, 1 ≤ b.val → tri b.val = b.val * (b.val - 1) / 2 := by decide
theorem place_row : ∀ n : Fin 6, ∀ e ∈ rows n.val, (rows n.val)[placeOf e]? = some e ∧ placeOf e < tri n.val := by decide
theorem pair_in {n : Nat} (x : Pr n) : x.1 ∈ rows n := by
  obtain ⟨k, hk⟩ := rows_at (n := n) (a := x.1.1) (b := x.1.2) x.2.1 x.2.2
  exact List.mem_of_getElem? hk
theorem edges_code {L : List Int} (ht : IsT L) : edgesIn L (rows L.length) = edgesC L.length (codeOf L) := by
  unfold edgesIn edgesC
  refine List.filter_congr fun e he => ?_
  have h := (place_row ⟨L.length, by have := ht.2; omega⟩ e he).1
  have h2 := code_bit (L := L) h
  unfold bitN
  rw [h2]
theorem edgesOf_vals {L : List Int} {n : Nat} (ys : List (Pr n)) (h : vals ys = rows n) : vals (edgesOf L ys) = edgesIn L (rows n) := by
  rw [← h]
  unfold edgesIn vals edgesOf
  rw [List.filter_map]
  rfl
theorem and_mask (C i : Nat) : C &&& (2 ^ i - 1) ≤ C := Nat.and_le_left
theorem wrap_i (x p : Int) (h : wrap64 x = p) : IntKind.i64.wrap x = p := by rw [IntKind.wrap_i64]; unfold wrap64 at h; exact h
theorem and_pow_all : ∀ F : Fin 1024, ∀ i : Fin 10, (F.val &&& 2 ^ i.val != 0) = decide (bitN F.val i.val = 1) := by decide +kernel
theorem and_pow {F i : Nat} (hF : F < 1024) (hi : i < 10) : (((F &&& 2 ^ i : Nat) : Int) != 0) = decide (bitN F i = 1) := by
  have h := and_pow_all ⟨F, hF⟩ ⟨i, hi⟩
  dsimp only at h
  rw [← h, Bool.eq_iff_iff]
  simp
/-- What the round computes at an edge's place. -/
theorem act_words {C F i : Nat} (hC : C < 1024) (hF : F < 1024) (hi : i < 10) : ∃ p q ah s1 s2 t : Nat, p = 2 ^ i ∧ p ≤ 512 ∧
    (wrap64 ((2 : Int) ^ i) = (p : Int) ∧ IntKind.i64.wrap ((2 : Int) ^ i) = (p : Int)) ∧ ((p : Int) - 1 = (q : Int) ∧ IntKind.i64.wrap ((p : Int) - 1) = (q : Int) ∧ wrap64 ((p : Int) - 1) = (q : Int)) ∧
    bits .and .i64 (C : Int) (q : Int) = (ah : Int) ∧ bits .and .i64 (F : Int) (p : Int) = (t : Int) ∧ (((t : Int) != 0) = decide (bitN F i = 1)) ∧
    bits .andNot .i64 (F : Int) (p : Int) = ((less F p : Nat) : Int) ∧ bits .or .i64 ((less F p : Nat) : Int) (ah : Int) = (s1 : Int) ∧ bits .andNot .i64 (F : Int) (ah : Int) = (s2 : Int) ∧
    ah ≤ C ∧ s1 = less F p ||| ah ∧ s2 ≤ F ∧
    ∀ wb, actStep C F wb i = if bitN F i = 1 then (if ldT s1 i = 1 then wb else (wb.1 + 1, wb.2)) else if ldT s2 i = 1 then (wb.1, wb.2 + 1) else wb := by
  have h1 := pow_le i 9 (by omega)
  have hw := wrap_pow i (by omega)
  have hp := two_pos i
  obtain ⟨p, ep⟩ : ∃ p, p = 2 ^ i := ⟨_, rfl⟩
  have ha := and_mask C i
  have hap := and_pow hF hi
  rw [← ep] at h1 hw hp ha hap
  have hl := less_le F p
  refine ⟨p, p - 1, C &&& (p - 1), less F p ||| (C &&& (p - 1)), less F (C &&& (p - 1)), F &&& p, ep, by omega, ⟨hw, wrap_i _ _ hw⟩, ⟨by omega, by rw [IntKind.wrap_i64]; omega, by unfold wrap64; omega⟩,
    i64_and_nat _ _ (by omega) (by omega), i64_and_nat _ _ (by omega) (by omega), hap, less_op _ _ (by omega) (by omega), i64_or_nat _ _ (by omega) (by omega), less_op _ _ (by omega) (by omega), ha, rfl, less_le _ _, fun wb => ?_⟩
  unfold actStep
  rw [← ep]

def ActI (n₀ n C F : Nat) (S : Value) (pre : List (Pr n)) (W : World) : Prop :=
  Boxed W n₀ 41 S ∧ Boxed W (n₀ + 1) 3 (.int .i64 (F : Nat)) ∧ Boxed W (n₀ + 1 + 1) 3 (.int .i64 ((actRun C F (vals pre)).1 : Nat)) ∧ Boxed W (n₀ + 1 + 1 + 1) 3 (.int .i64 ((actRun C F (vals pre)).2 : Nat)) ∧ Boxed W (n₀ + 1 + 1 + 1 + 1) 41 S
theorem actI_own (n₀ n C F : Nat) (S : Value) : Own (ActI n₀ n C F S) := fun s X Y row hs hg hr =>
  ⟨boxed_own _ _ (fun _ : Unit => _) () X Y row hs.1 hg hr, boxed_own _ _ (fun _ : Unit => _) () X Y row hs.2.1 hg hr, boxed_own _ _ (fun _ : Unit => _) () X Y row hs.2.2.1 hg hr, boxed_own _ _ (fun _ : Unit => _) () X Y row hs.2.2.2.1 hg hr, boxed_own _ _ (fun _ : Unit => _) () X Y row hs.2.2.2.2 hg hr⟩
theorem actRun_small (C F : Nat) (es : List (Nat × Nat)) : (actRun C F es).1 ≤ es.length ∧ (actRun C F es).2 ≤ es.length := by
  induction es using snoc_ind with
  | h0 => exact ⟨Nat.le_refl _, Nat.le_refl _⟩
  | h1 l x ih =>
    rw [actRun_snoc, List.length_append, List.length_singleton]
    unfold actStep
    repeat' split
    all_goals first | omega | (dsimp only; omega)

/-- Two numbers told. -/
def Nums2 (w : World) (x y : Nat) (e : Ending) (w' : World) : Prop := e = .returned (.tuple #[.int .i64 (x : Nat), .int .i64 (y : Nat)]) ∧ Below w.heap.size w w'
set_option maxHeartbeats 8000000 in
theorem active_in (A : Option Addr) (c : Nat) (L : List Int) (ht : IsT L) (F : Nat) (hF : F < codesN L.length) (w : World) (h : Seen w A L) (hT : Tab w) :
    CallsIn Fence.wide 6 Tryd.prog 51 #[.slice A L.length c, .int .i64 F] w (Nums2 w (actP (codeOf L) F).1 (actP (codeOf L) F).2) := by
  have h1 := ht.1.1
  have h5 := ht.2
  have hE := edges_code ht
  have hE5 := edgesC_five h5 h1 (code_ltN ht)
  have hCl := code_ltN ht
  obtain ⟨n, hn⟩ : ∃ n, n = L.length := ⟨_, rfl⟩
  rw [← hn] at h1 h5 hE hE5 hF hCl ⊢
  have HN := Lib.hid hn
  have H := Lib.hid h
  have HG := Lib.hid ht
  have HE := Lib.hid (hE.trans hE5)
  have TB := Lib.hid hT
  have HC := Lib.hid (fun w h => callsIn_wide.1 (implCode_in A c L ht.1 w h))
  rw [← hn] at HC
  obtain ⟨C, eC⟩ : ∃ C, C = codeOf L := ⟨_, rfl⟩
  rw [← eC] at HE HC hCl ⊢
  have h6 : n ≤ 6 := by omega
  clear h ht hn hE hE5 hT eC
  refine callsIn_of_wp_marks Tryd.func51 rfl trivial ?_ rfl
  simp only [Tryd.ntmps51, List.size_toArray, List.length_cons, List.length_nil, Nat.reduceAdd, Nat.reduceSub, Array.replicate_succ, Array.replicate_zero, List.push_toArray, List.append_toArray, List.nil_append, List.cons_append]
  gi_wp2_with (refine ⟨trivial, ?_⟩; gi_at_call 77; refine (callsIn_wide.2 (edges_any _ _ _ _)).mono ?_; rintro e w' ⟨rfl, rfl⟩)
  obtain ⟨W, eW⟩ : ∃ W, W = ((((w.alloc (.cells #[.slice A n c] 41)).alloc (.cells #[.int .i64 (F : Nat)] 3)).alloc (.cells #[.int .i64 0] 3)).alloc (.cells #[.int .i64 0] 3)).alloc (.cells #[.slice A n c] 41) := ⟨_, rfl⟩
  have sW : W.heap.size = w.heap.size + 1 + 1 + 1 + 1 + 1 := by rw [eW]; simp
  have hBW : Below w.heap.size w W := by rw [eW]; exact (((((Below.refl _ w).alloc (Nat.le_refl _) _).alloc (by simp) _).alloc (by simp; omega) _).alloc (by simp; omega) _).alloc (by simp; omega) _
  have b0 : Boxed W w.heap.size 41 (.slice A n c) := by rw [eW]; exact ((((Boxed.new w _ _).alloc _).alloc _).alloc _).alloc _
  have b1 : Boxed W (w.heap.size + 1) 3 (.int .i64 (F : Nat)) := by
    rw [eW]; have h := Boxed.new (w.alloc (.cells #[.slice A n c] 41)) 3 (.int .i64 (F : Nat)); rw [World.size_alloc] at h; exact ((h.alloc _).alloc _).alloc _
  have b2 : Boxed W (w.heap.size + 1 + 1) 3 (.int .i64 0) := by
    rw [eW]; have h := Boxed.new ((w.alloc (.cells #[.slice A n c] 41)).alloc (.cells #[.int .i64 (F : Nat)] 3)) 3 (.int .i64 0); rw [World.size_alloc, World.size_alloc] at h; exact (h.alloc _).alloc _
  have b3 : Boxed W (w.heap.size + 1 + 1 + 1) 3 (.int .i64 0) := by
    rw [eW]; have h := Boxed.new (((w.alloc (.cells #[.slice A n c] 41)).alloc (.cells #[.int .i64 (F : Nat)] 3)).alloc (.cells #[.int .i64 0] 3)) 3 (.int .i64 0); rw [World.size_alloc, World.size_alloc, World.size_alloc] at h; exact h.alloc _
  have b4 : Boxed W (w.heap.size + 1 + 1 + 1 + 1) 41 (.slice A n c) := by
    rw [eW]; have h := Boxed.new ((((w.alloc (.cells #[.slice A n c] 41)).alloc (.cells #[.int .i64 (F : Nat)] 3)).alloc (.cells #[.int .i64 0] 3)).alloc (.cells #[.int .i64 0] 3)) 41 (.slice A n c); rw [World.size_alloc, World.size_alloc, World.size_alloc, World.size_alloc] at h; exact h
  rw [← eW]
  clear eW
  obtain ⟨n₀, en⟩ : ∃ n₀, n₀ = w.heap.size := ⟨_, rfl⟩
  have h2 : 2 ≤ n₀ := by have := TB.out.lt; omega
  rw [← en] at sW hBW b0 b1 b2 b3 b4 ⊢
  have hle : n₀ ≤ w.heap.size := by omega
  have EN := Lib.hid en
  have hsW : Seen W A L := H.out.below (by rw [← en]; exact hBW)
  clear en
  have SW := Lib.hid sW
  have hB4 : n₀ + 1 + 1 + 1 + 1 < W.heap.size := by omega
  clear sW
  refine wpIn_outer (α := Pr n) (encs := encP n) rfl (by omega) (gf := 97) (lb := #[.pointer (some ⟨n₀ + 1 + 1 + 1 + 1, 0, none⟩)]) rfl trivial (enters_of Tryd.func97 (by kernel_rfl) rfl)
    (edges_stops A c L n HN.out HG.out.1 (n₀ + 1 + 1 + 1 + 1) W hB4 b4 hsW) keepG_t (fun W l o o' _ ho hc _ => keepG_b W l o o' ho hc) (Below.refl _ _) (fun _ => rfl)
    (fun pre Z => ActI n₀ n C F (.slice A n c) pre Z ∧ Below n₀ w Z) (fun _ _ _ => False)
    (OwnFrom.and (Own.from (actI_own _ _ _ _ _) _) (ownFrom_below hle (by omega))) (fun _ _ _ _ _ hs _ _ => hs)
    ⟨⟨b0, b1, b2, b3, b4⟩, hBW⟩
    (fun x => { tmps := #[.slice A n c, .int .i64 F, .pointer (some ⟨n₀, 0, none⟩), .pointer (some ⟨n₀ + 1, 0, none⟩), .int .i64 0, .int .i64 0, .pointer (some ⟨n₀ + 1 + 1, 0, none⟩), .pointer (some ⟨n₀ + 1 + 1 + 1, 0, none⟩), .int .i64 (x.1.1 : Int), .int .i64 (x.1.2 : Int), undef, undef, .slice A n c,
      .func (.func 97) #[] #[.pointer (some ⟨n₀ + 1 + 1 + 1 + 1, 0, none⟩)], .int .i64 (x.1.1 : Int), .int .i64 (x.1.2 : Int), undef, undef, undef, undef, undef, undef, undef, undef, undef, undef, undef, undef, undef, undef, undef, undef, undef, undef, undef, undef, undef, undef, undef, undef, undef, undef, undef, undef, undef, undef, undef, undef, undef, undef, undef, undef], defers := [] }) ?assign ?body ?done ?stop
  case assign =>
    intro l x W K hK
    gi_wp2
    simpa [encP] using hK
  case body =>
    rintro l pre x Z ⟨⟨c0, c1, c2, c3, c4⟩, hB⟩ hlen
    have hin := pair_in x
    have hpr := place_row ⟨n, by omega⟩ x.1 hin
    have hst := actRun_snoc C F (vals pre) x.1
    rw [← vals_snoc] at hst
    have hsm := actRun_small C F (vals pre)
    have hvl : (vals pre).length = pre.length := by simp [vals]
    obtain ⟨pr, epr⟩ : ∃ pr, pr = pre ++ [x] := ⟨_, rfl⟩
    rw [← epr] at hst ⊢
    clear epr
    obtain ⟨⟨a, b⟩, ha, hb⟩ := x
    dsimp only at ha hb hst hin hpr ⊢
    have hpl := place_any a b (by omega) (by omega) (by omega)
    have hcc := codesN_eq ⟨n, by omega⟩ h1
    have htr : ∀ n : Fin 6, tri n.val ≤ 10 := by decide
    have htr2 := htr ⟨n, by omega⟩
    dsimp only at hcc hpr htr2
    have eth : b * (b - 1) / 2 + a = placeOf (a, b) := by
      have := tri_half ⟨b, by omega⟩ (by show 1 ≤ b; omega)
      dsimp only at this
      unfold placeOf
      dsimp only
      rw [this]
    rw [eth] at hpl
    have hle := codesN_le n
    obtain ⟨p, q, ah, s1, s2, t, hp, hp512, ⟨p1, p2⟩, ⟨q1, q2, q3⟩, fa, ft, ftn, fl, fo, fl2, hah, hs1, hs2, hact⟩ := act_words (C := C) (F := F) (i := placeOf (a, b)) (by omega) (by omega) (by omega)
    rw [hact] at hst
    have hl1 : s1 < codesN n := by
      rw [hs1, hcc]
      exact Nat.or_lt_two_pow (Nat.lt_of_le_of_lt (less_le F p) (by omega)) (by omega)
    have hl2 : s2 < codesN n := by omega
    have HL : Hid (∀ (s : Nat) (w1 : World), s < codesN n → Below n₀ w w1 → Calls Tryd.prog 79 #[.slice A n c, .int .i64 s, .int .i64 a, .int .i64 b] w1 (Said1 w1 (ldT s (placeOf (a, b)) == 1))) := Lib.hid fun s w1 hs hb1 => leads_any A n c s (a, b) h1 h5 hs hin w1 (TB.out.below hb1 (by omega))
    have hsh : wrap64 ((2 : Int) ^ min (placeOf (a, b)) 64) = (p : Int) := by rw [Nat.min_eq_left (show placeOf (a, b) ≤ 64 by omega)]; exact p1
    obtain ⟨i, ei⟩ : ∃ i, i = placeOf (a, b) := ⟨_, rfl⟩
    rw [← ei] at hsh hpl p1 p2 ftn hst HL
    obtain ⟨bl1, eb1⟩ : ∃ bl1, bl1 = (ldT s1 i == 1) := ⟨_, rfl⟩
    obtain ⟨bl2, eb2⟩ : ∃ bl2, bl2 = (ldT s2 i == 1) := ⟨_, rfl⟩
    have HL1 : Hid (∀ w1 : World, Below n₀ w w1 → Calls Tryd.prog 79 #[.slice A n c, .int .i64 s1, .int .i64 a, .int .i64 b] w1 (Said1 w1 bl1)) := Lib.hid fun w1 hb1 => by rw [eb1]; exact HL.out s1 w1 hl1 hb1
    have HL2 : Hid (∀ w1 : World, Below n₀ w w1 → Calls Tryd.prog 79 #[.slice A n c, .int .i64 s2, .int .i64 a, .int .i64 b] w1 (Said1 w1 bl2)) := Lib.hid fun w1 hb1 => by rw [eb2]; exact HL.out s2 w1 hl2 hb1
    have hst' : actRun C F (vals pr) = if bitN F i = 1 then (if bl1 = true then actRun C F (vals pre) else ((actRun C F (vals pre)).1 + 1, (actRun C F (vals pre)).2)) else if bl2 = true then ((actRun C F (vals pre)).1, (actRun C F (vals pre)).2 + 1) else actRun C F (vals pre) := by
      rw [hst, eb1, eb2]
      simp only [beq_iff_eq]
    obtain ⟨r, er⟩ : ∃ r, r = actRun C F (vals pre) := ⟨_, rfl⟩
    rw [← er] at hst' hsm c2 c3
    obtain ⟨k2, k3⟩ := r
    dsimp only at hst' hsm c2 c3
    have HST := Lib.hid hst'
    have HPL := Lib.hid hpl
    have hsZ : Seen Z A L := H.out.below (by rw [← EN.out]; exact hB)
    have HCZ := Lib.hid (HC.out Z hsZ)
    have z0 := c0.cell
    have z1 := c1.cell
    have z2 := c2.cell
    have z3 := c3.cell
    have C0 := Lib.hid c0
    have C1 := Lib.hid c1
    have C2 := Lib.hid c2
    have C3 := Lib.hid c3
    have C4 := Lib.hid c4
    have HBZ := Lib.hid hB
    have HNZ := Lib.hid (show n₀ ≤ Z.heap.size from Nat.le_of_lt c0.lt)
    have hk : k2 ≤ 15 ∧ k3 ≤ 15 := by omega
    obtain ⟨bit, ebit⟩ : ∃ bit : Bool, bit = decide (bitN F i = 1) := ⟨_, rfl⟩
    rw [← ebit] at ftn
    have EBIT := Lib.hid ebit
    obtain ⟨m, em⟩ : ∃ m, m = less F p := ⟨_, rfl⟩
    rw [← em] at fl fo
    clear p1 p2 q1 hst hst' hpl hact hsm hvl c0 c1 c2 c3 c4 hB hsZ hs1 hs2 hl1 hl2 hcc htr htr2 eth hpr hin ei eb1 eb2 er hp HL hah em ebit hlen hle b0 b1 b2 b3 b4 hBW hsW hB4 HC
    have HK := Lib.hid hk
    cases bit
    case' false =>
      have hne : ¬ bitN F i = 1 := fun h => by have := EBIT.out; rw [decide_eq_true h] at this; cases this
      have HST2 := Lib.hid (HST.out.trans (if_neg hne))
      have HLX := HL2
      clear hne HST EBIT HL1 HL2
      cases bl2
    case' true =>
      have hne : bitN F i = 1 := of_decide_eq_true EBIT.out.symm
      have HST2 := Lib.hid (HST.out.trans (if_pos hne))
      have HLX := HL1
      clear hne HST EBIT HL1 HL2
      cases bl1
    all_goals
      gi_wp2_with (first
        | (refine ⟨trivial, ?_⟩; gi_at_call 78; refine (CallsIn.inRound l (callsIn_wide.2 (HPL.out Z))).mono ?_; rintro e W3 ⟨rfl, rfl⟩)
        | (refine ⟨trivial, ?_⟩; gi_at_call 64; refine (CallsIn.inRound l (callsIn_wide.2 HCZ.out)).mono ?_; rintro e Z1 ⟨rfl, hb1⟩
           have y0' : Boxed Z1 n₀ 41 (.slice A n c) := (hb1.block n₀ C0.out.lt).trans C0.out
           have y1' : Boxed Z1 (n₀ + 1) 3 (.int .i64 (F : Nat)) := (hb1.block (n₀ + 1) C1.out.lt).trans C1.out
           have y0 := y0'.cell
           have y1 := y1'.cell
           clear y0' y1'
           clear z0 z1 z2 z3
           have hB1 := HBZ.out.trans (hb1.mono HNZ.out))
        | (refine ⟨trivial, ?_⟩; gi_at_call 79; refine (CallsIn.inRound l (callsIn_wide.2 (HLX.out Z1 hB1))).mono ?_; rintro e Z2 ⟨rfl, hb2⟩
           have hz := hb1.trans (hb2.mono hb1.size)
           have k2' : Boxed Z2 (n₀ + 1 + 1) 3 (.int .i64 (k2 : Nat)) := (hz.block (n₀ + 1 + 1) C2.out.lt).trans C2.out
           have k3' : Boxed Z2 (n₀ + 1 + 1 + 1) 3 (.int .i64 (k3 : Nat)) := (hz.block (n₀ + 1 + 1 + 1) C3.out.lt).trans C3.out
           have x2 := k2'.cell
           have f2 := k2'.frozen
           have x3 := k3'.cell
           have f3 := k3'.frozen
           have K2' := Lib.hid k2'
           have K3' := Lib.hid k3'
           clear k2' k3'))
    all_goals
      clear hsh q2 q3 fa ft ftn fl fo fl2
      have hnZ := HNZ.out
      have hBe : Below n₀ w Z2 := HBZ.out.trans (hz.mono hnZ)
      have k0 : Boxed Z2 n₀ 41 (.slice A n c) := (hz.block n₀ C0.out.lt).trans C0.out
      have k1 : Boxed Z2 (n₀ + 1) 3 (.int .i64 (F : Nat)) := (hz.block (n₀ + 1) C1.out.lt).trans C1.out
      have k2' := K2'.out
      have k3' := K3'.out
      have k4 : Boxed Z2 (n₀ + 1 + 1 + 1 + 1) 41 (.slice A n c) := (hz.block (n₀ + 1 + 1 + 1 + 1) C4.out.lt).trans C4.out
      have hko : KeepsOthers Z Z2 := KeepsOthers.of_grownBy (row := none) ⟨hz.os, hz.tape, hz.output, hz.size, fun k hk _ => hz.block k hk⟩ (fun _ _ e => by cases e)
      have hW2 : W.heap.size = n₀ + 1 + 1 + 1 + 1 + 1 := SW.out
    all_goals first
      | (refine ⟨⟨hko.from _, ⟨fun _ => k4, fun _ => H.out.below (by rw [← EN.out]; exact hBe)⟩, ⟨k0, k1, ?_, ?_, k4⟩, hBe⟩, fun k o h1 _ h3 => (hz.block k (Array.getElem?_eq_some_iff.1 h3).1).trans h3⟩
         · rw [HST2.out]; exact k2'
         · rw [HST2.out]; exact k3')
      | (have hS2 : Below n₀ w (Z2.setCell ⟨n₀ + 1 + 1, 0, none⟩ (.int .i64 ((k2 : Int) + 1))) := hBe.setCell (p := ⟨n₀ + 1 + 1, 0, none⟩) (by show n₀ ≤ n₀ + 1 + 1; omega) _
         refine ⟨⟨(hko.trans (KeepsOthers.setCell _ _ _)).from _, ⟨fun _ => k4.other (by omega) _, fun _ => H.out.below (by rw [← EN.out]; exact hS2)⟩, ⟨k0.other (by omega) _, k1.other (by omega) _, ?_, ?_, k4.other (by omega) _⟩, hS2⟩, fun k o h1 _ h3 => (Below.heap_setCell _ _ _ k (fun e => by dsimp only at e; omega)).trans ((hz.block k (Array.getElem?_eq_some_iff.1 h3).1).trans h3)⟩
         · rw [HST2.out]; exact k2'.set _
         · rw [HST2.out]; exact k3'.other (by omega) _)
      | (have hS2 : Below n₀ w (Z2.setCell ⟨n₀ + 1 + 1 + 1, 0, none⟩ (.int .i64 ((k3 : Int) + 1))) := hBe.setCell (p := ⟨n₀ + 1 + 1 + 1, 0, none⟩) (by show n₀ ≤ n₀ + 1 + 1 + 1; omega) _
         refine ⟨⟨(hko.trans (KeepsOthers.setCell _ _ _)).from _, ⟨fun _ => k4.other (by omega) _, fun _ => H.out.below (by rw [← EN.out]; exact hS2)⟩, ⟨k0.other (by omega) _, k1.other (by omega) _, ?_, ?_, k4.other (by omega) _⟩, hS2⟩, fun k o h1 _ h3 => (Below.heap_setCell _ _ _ k (fun e => by dsimp only at e; omega)).trans ((hz.block k (Array.getElem?_eq_some_iff.1 h3).1).trans h3)⟩
         · rw [HST2.out]; exact k2'.other (by omega) _
         · rw [HST2.out]; exact k3'.set _)
  case done =>
    rintro D xs Z hD hS ⟨⟨c0, c1, c2, c3, c4⟩, hB⟩ hK
    have z2 := c2.cell
    have z3 := c3.cell
    have HS := Lib.hid hS
    clear hS
    have hBq := Lib.hid hB
    clear hB
    have KK := Lib.hid hK
    clear hK
    gi_wp2
    rename_i K hKK
    refine wpIn_wide.2 ?_
    go_region
    all_goals
      refine hKK _ _ ?_
      gi_wp2
      refine ⟨by simp, .inl ⟨_, _, rfl, run_takeDeferred (show Z.drew.heap[D]? = some (.deferred (some [])) from KK.out), ?_⟩⟩
      refine ⟨_, results_tmp2 rfl _ _ _, ?_⟩
      have hv : vals xs = edgesC 5 C := by
        obtain ⟨ys, hy, rfl⟩ := HS.out
        rw [edgesOf_vals ys hy, HE.out]
      refine ⟨by rw [hv]; rfl, ?_⟩
      rw [← EN.out]
      exact (show Below n₀ w Z.drew from hBq.out.drew).trans (belowK_b (w := w) hle Z.drew D _ _ (by have := EN.out; omega) (show Z.drew.heap[D]? = some (.deferred (some [])) from KK.out) rfl rfl)
  case stop =>
    rintro D cd pre W _ _ h _
    exact h.elim
end Go.Proofs.YtpegeleidkfpbaaDoor
