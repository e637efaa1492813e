/- The program's stepTo: the next node on the way to another one. -/
import Derived.Test.YtkngijkhhonikaaDoorWayFacts
import Derived.Test.YtkngijkhhonikaaDoorFlipFn
import Derived.Test.YtkngijkhhonikaaDoorReachIn
import Derived.Test.YtkngijkhhonikaaDoorHeldOne
import Derived.Test.YtkngijkhhonikaaDoorBaseA
namespace Go.Proofs.YtkngijkhhonikaaDoor
open Go.RowKit Go.Shelf
attribute [local go_sem] Oper.semAt_some
set_option linter.unusedVariables false
set_option maxRecDepth 100000

theorem flip_ne {L : List Int} (hg : IsGraph L) {a b : Nat} (hab : a ≠ b) (ha : a < L.length) (hb : b < L.length) : IsGraph (flipG L a b) := by
  rcases Nat.lt_or_gt_of_ne hab with h | h
  · exact flip_graph hg h hb
  · have e : flipG L a b = flipG L b a := by
      unfold flipG
      rw [List.set_comm _ _ (by omega)]
    rw [e]; exact flip_graph hg h ha
theorem bey_lt {L : List Int} (hg : IsGraph L) {a v : Nat} (hab : a ≠ v) (ha : a < L.length) (hv : v < L.length) : beyT L a v < 64 := by
  have hG := flip_ne hg hab ha hv
  have hl := flipG_length L a v
  have h := reaches_lt (L := flipG L a v) (m := (flipG L a v).length) (Nat.pow_lt_pow_right (a := 2) (by omega) (show v < (flipG L a v).length by omega)) (fun u hu => ent_lt (hG.2.2 u hu).1) (flipG L a v).length
  have h64 := two_le (n := (flipG L a v).length) hG.2.1
  unfold beyT reachN
  omega
theorem valsN_prefix_get {n s : Nat} (pre : List (Nd n s)) (x : Nd n s) (h : valsN (pre ++ [x]) <+: nodesL s) : ∀ v, v ∈ nodesL s → v < x.1 → v ∈ valsN pre := fun v hv hlt => by
  obtain ⟨r, hr⟩ := h
  rw [valsN_snoc, List.append_assoc] at hr
  rw [← hr] at hv
  have hs : (nodesL s).Pairwise (· < ·) := List.Pairwise.filter _ List.pairwise_lt_range
  rw [← hr, List.pairwise_append] at hs
  rcases List.mem_append.1 hv with h1 | h1
  · exact h1
  · rcases List.mem_cons.1 h1 with h2 | h2
    · omega
    · have := (List.pairwise_cons.1 hs.2.1).1 v h2; omega

def StpI (n₀ a b : Nat) (S : Value) (L : List Int) (n s : Nat) (pre : List (Nd n s)) (W : World) : Prop :=
  (Boxed W n₀ 41 S ∧ Boxed W (n₀ + 1) 3 (.int .i64 (a : Nat)) ∧ Boxed W (n₀ + 1 + 1) 3 (.int .i64 (b : Nat)) ∧ Boxed W (n₀ + 1 + 1 + 1) 3 (.int .i64 0)) ∧ ∀ v ∈ valsN pre, ¬ beyT L a v / 2 ^ b % 2 = 1
theorem stpI_own (n₀ a b : Nat) (S : Value) (L : List Int) (n s : Nat) : Own (StpI n₀ a b S L n s) := fun pre X Y row hs hg hr =>
  ⟨⟨boxed_own _ _ (fun _ : Unit => _) () X Y row hs.1.1 hg hr, boxed_own _ _ (fun _ : Unit => _) () X Y row hs.1.2.1 hg hr, boxed_own _ _ (fun _ : Unit => _) () X Y row hs.1.2.2.1 hg hr, boxed_own _ _ (fun _ : Unit => _) () X Y row hs.1.2.2.2 hg hr⟩, hs.2⟩

/-- At the return: the node found. -/
def StpX (n₀ a b : Nat) (L : List Int) (n s : Nat) (cd : Code) (pr : List (Nd n s)) (W : World) : Prop :=
  ∃ (pre : List (Nd n s)) (x : Nd n s), pr = pre ++ [x] ∧ cd = .ret ∧ (∀ v ∈ valsN pre, ¬ beyT L a v / 2 ^ b % 2 = 1) ∧ beyT L a x.1 / 2 ^ b % 2 = 1 ∧ Boxed W (n₀ + 1 + 1 + 1) 3 (.int .i64 (x.1 : Nat))
theorem stpX_own (n₀ a b : Nat) (L : List Int) (n s : Nat) (cd : Code) : Own (StpX n₀ a b L n s cd) := fun pr X Y row hs hg hr => by
  obtain ⟨pre, x, e1, e2, e3, e4, h⟩ := hs
  exact ⟨pre, x, e1, e2, e3, e4, boxed_own _ _ (fun _ : Unit => _) () X Y row h hg hr⟩

set_option maxHeartbeats 8000000 in
theorem stepTo_in (A : Option Addr) (c : Nat) (L : List Int) (ht : IsTree L) (a b : Nat) (ha : a < L.length) (hb : b < L.length) (hne : a ≠ b) (w : World) (h : Seen w A L) (hT : Tab w) :
    CallsIn Fence.wide 9 Tryd.prog 78 #[.slice A L.length c, .int .i64 a, .int .i64 b] w (NumA w (stepW L b a)) := by
  have hg := ht.1.1
  have h1 := hg.1
  have h6 := hg.2.1
  have h2 := hT.lt
  obtain ⟨blk, off, hA0, hbl0, hc0⟩ := h a ha
  subst hA0
  have hina := (hg.2.2 a ha).1
  have hsa := ent_lt hina
  rw [ent_int hina] at hc0
  have hpair := way_pair ht ha hb hne
  have hfirst : ∀ u, u < L.length → stepQ L b a u = true → (∀ v, v < u → ¬ stepQ L b a v = true) → stepW L b a = u := fun u hu hq hno => stepW_first hu hq hno
  have hloop : bt L a a = 0 := (hg.2.2 a ha).2.1
  have hbe : ∀ v, v < L.length → bt L a v = 1 → a ≠ v ∧ beyT L a v < 64 := fun v hv hb1 => by
    have hn : a ≠ v := fun e => by rw [← e, hloop] at hb1; omega
    exact ⟨hn, bey_lt hg hn ha hv⟩
  have hbt : ∀ v, bt L a v = ent L a / 2 ^ v % 2 := fun _ => rfl
  obtain ⟨n, hn⟩ : ∃ n, n = L.length := ⟨_, rfl⟩
  rw [← hn] at h1 h6 hsa ha hb hpair hfirst hbe ⊢
  have HN := Lib.hid hn
  have H := Lib.hid h
  have HG := Lib.hid hg
  have TB := Lib.hid hT
  have HP := Lib.hid hpair
  have HFI := Lib.hid hfirst
  have HBE := Lib.hid hbe
  have HBT := Lib.hid hbt
  obtain ⟨s, es⟩ : ∃ s, s = ent L a := ⟨_, rfl⟩
  rw [← es] at hsa hc0
  have ES := Lib.hid es
  have hi0 : (0 : Int) ≤ (a : Int) ∧ (a : Int) < (n : Int) := by omega
  have HC0 := Lib.hid hc0
  have ca : (((w.alloc (.cells #[.slice (some ⟨blk, off, none⟩) n c] 41)).alloc (.cells #[.int .i64 (a : Nat)] 3)).alloc (.cells #[.int .i64 (b : Nat)] 3)).alloc (.cells #[.int .i64 0] 3) = (((w.alloc (.cells #[.slice (some ⟨blk, off, none⟩) n c] 41)).alloc (.cells #[.int .i64 (a : Nat)] 3)).alloc (.cells #[.int .i64 (b : Nat)] 3)).alloc (.cells #[.int .i64 0] 3) := rfl
  clear h hg ht hn hT hpair hfirst hbe hbt es hina hloop ca
  obtain ⟨W0, eW0⟩ : ∃ W0, W0 = (((w.alloc (.cells #[.slice (some ⟨blk, off, none⟩) n c] 41)).alloc (.cells #[.int .i64 (a : Nat)] 3)).alloc (.cells #[.int .i64 (b : Nat)] 3)).alloc (.cells #[.int .i64 0] 3) := ⟨_, rfl⟩
  have b0 : Boxed W0 w.heap.size 41 (.slice (some ⟨blk, off, none⟩) n c) := by rw [eW0]; exact (((Boxed.new w _ _).alloc _).alloc _).alloc _
  have b1 : Boxed W0 (w.heap.size + 1) 3 (.int .i64 (a : Nat)) := by
    rw [eW0]; have h := Boxed.new (w.alloc (.cells #[.slice (some ⟨blk, off, none⟩) n c] 41)) 3 (.int .i64 (a : Nat)); rw [World.size_alloc] at h; exact (h.alloc _).alloc _
  have b2 : Boxed W0 (w.heap.size + 1 + 1) 3 (.int .i64 (b : Nat)) := by
    rw [eW0]; have h := Boxed.new ((w.alloc (.cells #[.slice (some ⟨blk, off, none⟩) n c] 41)).alloc (.cells #[.int .i64 (a : Nat)] 3)) 3 (.int .i64 (b : Nat)); rw [World.size_alloc, World.size_alloc] at h; exact h.alloc _
  have b3 : Boxed W0 (w.heap.size + 1 + 1 + 1) 3 (.int .i64 0) := by
    rw [eW0]; have h := Boxed.new (((w.alloc (.cells #[.slice (some ⟨blk, off, none⟩) n c] 41)).alloc (.cells #[.int .i64 (a : Nat)] 3)).alloc (.cells #[.int .i64 (b : Nat)] 3)) 3 (.int .i64 0); rw [World.size_alloc, World.size_alloc, World.size_alloc] at h; exact h
  have s0 : W0.heap.size = w.heap.size + 1 + 1 + 1 + 1 := by rw [eW0]; simp
  have bB0 : Below w.heap.size w W0 := by rw [eW0]; exact ((((Below.refl _ w).alloc (Nat.le_refl _) _).alloc (by simp) _).alloc (by simp; omega) _).alloc (by simp; omega) _
  have q0 := b0.cell
  have q1 := b1.cell
  have q2 : W0.cell? ⟨blk, off + a, none⟩ = some (.int .i64 s) := (bB0.cell (p := ⟨blk, off + a, none⟩) hbl0).trans hc0
  rw [eW0] at q0 q1 q2
  refine callsIn_of_wp_marks Tryd.func78 rfl trivial ?_ rfl
  simp only [Tryd.ntmps78, List.size_toArray, List.length_cons, List.length_nil, Nat.reduceAdd, Nat.reduceSub, Array.replicate_succ, Array.replicate_zero, List.push_toArray, List.append_toArray, List.nil_append, List.cons_append]
  gi_wp2_with (refine ⟨trivial, ?_⟩; gi_at_call 62; refine (callsIn_wide.2 (nodesIn_any s _)).mono ?_; rintro e w' ⟨rfl, rfl⟩)
  rw [← eW0]
  clear q0 q1 q2 eW0 hc0
  obtain ⟨W, eW⟩ : ∃ W, W = W0.alloc (.cells #[.int .i64 s] 3) := ⟨_, rfl⟩
  have hBW : Below w.heap.size w W := by rw [eW]; exact bB0.alloc (by omega) _
  have c0 : Boxed W w.heap.size 41 (.slice (some ⟨blk, off, none⟩) n c) := by rw [eW]; exact b0.alloc _
  have c1 : Boxed W (w.heap.size + 1) 3 (.int .i64 (a : Nat)) := by rw [eW]; exact b1.alloc _
  have c2 : Boxed W (w.heap.size + 1 + 1) 3 (.int .i64 (b : Nat)) := by rw [eW]; exact b2.alloc _
  have c3 : Boxed W (w.heap.size + 1 + 1 + 1) 3 (.int .i64 0) := by rw [eW]; exact b3.alloc _
  have c4 : W.cell? ⟨w.heap.size + 1 + 1 + 1 + 1, 0, none⟩ = some (.int .i64 s) := by
    rw [eW]; have h := Boxed.new W0 3 (.int .i64 s); rw [s0] at h; exact h.cell
  have sW : W.heap.size = w.heap.size + 1 + 1 + 1 + 1 + 1 := by rw [eW]; simp [s0]
  rw [← eW]
  clear eW b0 b1 b2 b3 bB0 s0
  obtain ⟨n₀, en⟩ : ∃ n₀, n₀ = w.heap.size := ⟨_, rfl⟩
  rw [← en] at c0 c1 c2 c3 c4 sW hBW h2 hbl0 ⊢
  have EN := Lib.hid en
  have hle : n₀ ≤ w.heap.size := by omega
  have hTW : Tab W := TB.out.below hBW (by omega)
  clear en
  have SW := Lib.hid sW
  refine wpIn_rangeFunc_ownF (α := Nd n s) rfl (by omega) (gf := 82) (lb := #[.pointer (some ⟨n₀ + 1 + 1 + 1 + 1, 0, none⟩)]) rfl trivial (enters_of Tryd.func82 (by kernel_rfl) rfl)
    (nodes_stops _ (n₀ + 1 + 1 + 1 + 1) n s n₀ (by omega) h6 hsa W (by omega) c4 hTW (by omega) (by omega)) belowK_t (belowK_b (by omega)) (Below.refl _ _) (fun _ => rfl)
    (fun pre Z => StpI n₀ a b (.slice (some ⟨blk, off, none⟩) n c) L n s pre Z ∧ Below n₀ w Z)
    (fun cd pre Z => StpX n₀ a b L n s cd pre Z ∧ Below n₀ w Z)
    (OwnFrom.and (Own.from (stpI_own _ _ _ _ _ _ _) _) (ownFrom_below hle (by omega)))
    (fun cd => OwnFrom.and (Own.from (stpX_own _ _ _ _ _ _ cd) _) (ownFrom_below hle (by omega)))
    ⟨⟨⟨c0, c1, c2, c3⟩, fun v hv => by simp [valsN] at hv⟩, hBW⟩
    (fun x => { tmps := #[.slice (some ⟨blk, off, none⟩) n c, .int .i64 a, .int .i64 b, .pointer (some ⟨n₀, 0, none⟩), .pointer (some ⟨n₀ + 1, 0, none⟩), .pointer (some ⟨n₀ + 1 + 1, 0, none⟩), .pointer (some ⟨n₀ + 1 + 1 + 1, 0, none⟩), .int .i64 (x.1 : Int), .slice (some ⟨blk, off, none⟩) n c, .int .i64 a, .pointer (some ⟨blk, off + a, none⟩), .int .i64 s,
      .func (.func 82) #[] #[.pointer (some ⟨n₀ + 1 + 1 + 1 + 1, 0, none⟩)], .int .i64 (x.1 : Int), undef, undef, undef, undef, undef, undef, undef, undef, undef, undef, undef, undef, undef], defers := [] }) ?assign ?body ?done ?stop
  case assign =>
    intro l x Z K hK
    gi_wp2
    exact hK
  case body =>
    rintro l pre x Z ⟨⟨⟨d0, d1, d2, d3⟩, hno⟩, hB⟩ hlen
    have hno2 : ∀ (hx : ¬ beyT L a x.1 / 2 ^ b % 2 = 1), ∀ v ∈ valsN (pre ++ [x]), ¬ beyT L a v / 2 ^ b % 2 = 1 := fun hx v hv => by
      rw [valsN_snoc] at hv
      rcases List.mem_append.1 hv with h | h
      · exact hno v h
      · rw [List.mem_singleton.1 h]; exact hx
    have hyx : beyT L a x.1 / 2 ^ b % 2 = 1 → ∀ Z', Boxed Z' (n₀ + 1 + 1 + 1) 3 (.int .i64 (x.1 : Nat)) → StpX n₀ a b L n s .ret (pre ++ [x]) Z' := fun hx Z' hZ => ⟨pre, x, rfl, rfl, hno, hx, hZ⟩
    obtain ⟨pr, epr⟩ : ∃ pr, pr = pre ++ [x] := ⟨_, rfl⟩
    rw [← epr] at hno2 hyx ⊢
    clear epr
    obtain ⟨v, hvn, hvq⟩ := x
    dsimp only at hvn hvq hno2 hyx ⊢
    have hb1 : bt L a v = 1 := by rw [HBT.out, ← ES.out]; exact hvq
    obtain ⟨hav, hR64⟩ := HBE.out v hvn hb1
    have hsZ : Seen Z (some ⟨blk, off, none⟩) L := H.out.below (by rw [← EN.out]; exact hB)
    have HF : Hid (∀ w1, Below Z.heap.size Z w1 → Calls Tryd.prog 88 #[.slice (some ⟨blk, off, none⟩) n c, .int .i64 a, .int .i64 v] w1 (Gave w1 (flipG L a v))) := Lib.hid fun w1 hb => by
      have h := flipped_ne (some ⟨blk, off, none⟩) c L HG.out a v hav (by have := HN.out; omega) (by have := HN.out; omega) w1 (hsZ.below hb)
      rwa [← HN.out] at h
    obtain ⟨P, _, hP, _, _, p1, p2, _⟩ := shl_facts v (by omega)
    have HRE : Hid (∀ (B : Nat) (u : Value) (w1 : World), Row w1 B u (flipG L a v) → Below n₀ w w1 → Calls Tryd.prog 84 #[u, .int .i64 (P : Nat)] w1 fun e w' => e = .returned (.int .i64 (beyT L a v : Nat)) ∧ Below w1.heap.size w1 w') := Lib.hid (by
      intro B u w1 hr hb
      obtain ⟨A', c', rfl, hsn⟩ := hr.seen
      have hl := flipG_length L a v
      have hvl : v < (flipG L a v).length := by have := HN.out; omega
      rw [hP]
      exact callsIn_wide.1 (implReachedS_in A' c' (flipG L a v) (flip_ne HG.out hav (by have := HN.out; omega) (by have := HN.out; omega)) (2 ^ v) v hvl (by simp) (Nat.pow_lt_pow_right (by omega) hvl) w1 hsn (TB.out.below hb (by omega))))
    obtain ⟨R, eR⟩ : ∃ R, R = beyT L a v := ⟨_, rfl⟩
    rw [← eR] at hno2 hyx hR64 HRE
    obtain ⟨bit, ebit, hbit, f1⟩ := and_facts R b (by omega)
    rw [← ebit] at hno2 hyx
    have e1 : ((bit : Int) == 1) = (bit == 1) := by rw [Bool.eq_iff_iff]; simp; omega
    have q0 : Z.drew.cell? ⟨n₀, 0, none⟩ = some (.slice (some ⟨blk, off, none⟩) n c) := d0.cell
    have q1 : Z.drew.cell? ⟨n₀ + 1, 0, none⟩ = some (.int .i64 a) := d1.cell
    have q2 : Z.drew.cell? ⟨n₀ + 1 + 1, 0, none⟩ = some (.int .i64 b) := d2.cell
    have hS0 : Z.drew.cell? ⟨n₀, 0, none⟩ = some (.slice (some ⟨blk, off, none⟩) n c) ∧ Z.drew.cell? ⟨n₀ + 1, 0, none⟩ = some (.int .i64 a) ∧ Z.drew.cell? ⟨n₀ + 1 + 1, 0, none⟩ = some (.int .i64 b) := ⟨q0, q1, q2⟩
    have D0 := Lib.hid d0
    have D1 := Lib.hid d1
    have D2 := Lib.hid d2
    have D3 := Lib.hid d3
    have HB := Lib.hid hB
    have HNO2 := Lib.hid hno2
    have HYX := Lib.hid hyx
    have HFZ := Lib.hid (HF.out Z.drew ((Below.refl _ Z).drew))
    have HNZ := Lib.hid (show n₀ ≤ Z.heap.size from Nat.le_of_lt d0.lt)
    have hv64 : v < 64 := by omega
    have hb64 : b < 64 := by omega
    clear d0 d1 d2 d3 hB hno hno2 hyx hlen hsZ HF hP eR ebit hav hvq hb1 c0 c1 c2 c3 c4 hBW hTW
    gi_wp2
    refine wpIn_held_round 10 (fun W' => W'.cell? ⟨n₀, 0, none⟩ = some (.slice (some ⟨blk, off, none⟩) n c) ∧ W'.cell? ⟨n₀ + 1, 0, none⟩ = some (.int .i64 a) ∧ W'.cell? ⟨n₀ + 1 + 1, 0, none⟩ = some (.int .i64 b)) (by kernel_rfl) (by rfl) (by kernel_rfl) (by kernel_rfl) (by kernel_rfl) (by kernel_rfl) ?_
    simp only [List.take_succ_cons, List.take_zero, List.drop_succ_cons, List.drop_zero]
    refine wpAnyH_take (i := 0) (v := .slice (some ⟨blk, off, none⟩) n c) rfl (by kernel_rfl) (by kernel_rfl) (by kernel_rfl) (fun _ _ _ h => h) (Or.inl ⟨by rfl, ?_⟩) hS0 ?_
    · rintro w' ⟨a1, a2, a3⟩
      go_simp
    simp only [Act.put, List.setIfInBounds_toArray]
    refine wpAnyH_take (i := 1) (v := .int .i64 (a : Nat)) rfl (by kernel_rfl) (by kernel_rfl) (by kernel_rfl) (fun _ _ _ h => h) (Or.inl ⟨by rfl, ?_⟩) hS0 ?_
    · rintro w' ⟨a1, a2, a3⟩
      go_simp
    simp only [Act.put, List.setIfInBounds_toArray]
    refine wpAnyH_take (i := 2) (v := .int .i64 (v : Nat)) rfl (by kernel_rfl) (by kernel_rfl) (by kernel_rfl) (fun _ _ _ h => h) (Or.inl ⟨by rfl, ?_⟩) hS0 ?_
    · rintro w' ⟨a1, a2, a3⟩
      go_simp
    simp only [Act.put, List.setIfInBounds_toArray]
    refine wpAnyH_take (i := 4) (v := .int .i64 (v : Nat)) rfl (by kernel_rfl) (by kernel_rfl) (by kernel_rfl) (fun _ _ _ h => h) (Or.inl ⟨by rfl, ?_⟩) hS0 ?_
    · rintro w' ⟨a1, a2, a3⟩
      go_simp
    simp only [Act.put, List.setIfInBounds_toArray]
    refine wpAnyH_take (i := 5) (v := .int .i64 (P : Nat)) rfl (by kernel_rfl) (by kernel_rfl) (by kernel_rfl) (fun _ _ _ h => h) (Or.inl ⟨by rfl, ?_⟩) hS0 ?_
    · rintro w' ⟨a1, a2, a3⟩
      go_simp
    simp only [Act.put, List.setIfInBounds_toArray]
    refine wpAnyH_take (i := 7) (v := .int .i64 (b : Nat)) rfl (by kernel_rfl) (by kernel_rfl) (by kernel_rfl) (fun _ _ _ h => h) (Or.inl ⟨by rfl, ?_⟩) hS0 ?_
    · rintro w' ⟨a1, a2, a3⟩
      go_simp
    simp only [Act.put, List.setIfInBounds_toArray]
    refine wpAnyH_one (i := 3) (by kernel_rfl) rfl ?_
    go_wp2_with fail
    refine HFZ.out.mono ?_
    rintro e Z1 ⟨u, rfl, hru, hb1⟩
    have hz1 : Below Z.heap.size Z Z1 := (Below.refl _ Z).drew.trans hb1
    have r0 : Z1.cell? ⟨n₀, 0, none⟩ = some (.slice (some ⟨blk, off, none⟩) n c) := (hz1.cell (p := ⟨n₀, 0, none⟩) D0.out.lt).trans D0.out.cell
    have r1 : Z1.cell? ⟨n₀ + 1, 0, none⟩ = some (.int .i64 a) := (hz1.cell (p := ⟨n₀ + 1, 0, none⟩) D1.out.lt).trans D1.out.cell
    have r2 : Z1.cell? ⟨n₀ + 1 + 1, 0, none⟩ = some (.int .i64 b) := (hz1.cell (p := ⟨n₀ + 1 + 1, 0, none⟩) D2.out.lt).trans D2.out.cell
    have HRR := Lib.hid (HRE.out _ u Z1 hru (HB.out.trans (hz1.mono HNZ.out)))
    have HZ1 := Lib.hid hz1
    clear hru hb1 hz1
    go_wp2
    refine ⟨⟨r0, r1, r2⟩, ?_⟩
    refine wpAnyH_one (i := 6) (by kernel_rfl) rfl ?_
    go_wp2_with fail
    refine HRR.out.mono ?_
    rintro e Z2 ⟨rfl, hb2⟩
    have hz2 : Below Z.heap.size Z Z2 := HZ1.out.trans (hb2.mono HZ1.out.size)
    have t0 : Z2.cell? ⟨n₀, 0, none⟩ = some (.slice (some ⟨blk, off, none⟩) n c) := (hz2.cell (p := ⟨n₀, 0, none⟩) D0.out.lt).trans D0.out.cell
    have t1 : Z2.cell? ⟨n₀ + 1, 0, none⟩ = some (.int .i64 a) := (hz2.cell (p := ⟨n₀ + 1, 0, none⟩) D1.out.lt).trans D1.out.cell
    have t2 : Z2.cell? ⟨n₀ + 1 + 1, 0, none⟩ = some (.int .i64 b) := (hz2.cell (p := ⟨n₀ + 1 + 1, 0, none⟩) D2.out.lt).trans D2.out.cell
    have HZ2 := Lib.hid hz2
    clear hb2 hz2 r0 r1 r2
    go_wp2
    refine ⟨⟨t0, t1, t2⟩, ?_⟩
    refine wpAnyH_one (i := 8) (by kernel_rfl) rfl ?_
    go_wp2
    refine ⟨⟨t0, t1, t2⟩, ?_⟩
    refine wpAnyH_one (i := 9) (by kernel_rfl) rfl ?_
    go_wp2
    refine ⟨⟨t0, t1, t2⟩, ?_⟩
    refine wpAnyH_done (by kernel_rfl) ?_ 0
    clear q0 q1 q2 hS0 t0 t1 t2
    change wpListIn _ _ _ _ _ _ _ _
    have hko : KeepsOthers Z Z2 := KeepsOthers.of_grownBy (row := none) ⟨HZ2.out.os, HZ2.out.tape, HZ2.out.output, HZ2.out.size, fun k hk _ => HZ2.out.block k hk⟩ (fun _ _ e => by cases e)
    have k3 : Boxed Z2 (n₀ + 1 + 1 + 1) 3 (.int .i64 0) := (HZ2.out.block _ D3.out.lt).trans D3.out
    have z3 := k3.cell
    have f3 := k3.frozen
    have K3 := Lib.hid k3
    have HKO := Lib.hid hko
    clear k3 hko
    have hbit' : bit = 0 ∨ bit = 1 := by omega
    rcases hbit' with rfl | rfl
    · gi_wp2
      refine ⟨HKO.out, HZ2.out.mono HNZ.out, ⟨⟨(HZ2.out.block _ D0.out.lt).trans D0.out, (HZ2.out.block _ D1.out.lt).trans D1.out, (HZ2.out.block _ D2.out.lt).trans D2.out, K3.out⟩, HNO2.out (by decide)⟩, HB.out.trans (HZ2.out.mono HNZ.out)⟩
    · gi_wp2
      have hbe : Below n₀ w (Z2.setCell ⟨n₀ + 1 + 1 + 1, 0, none⟩ (.int .i64 (v : Nat))) := (HB.out.trans (HZ2.out.mono HNZ.out)).setCell (p := ⟨n₀ + 1 + 1 + 1, 0, none⟩) (by show n₀ ≤ n₀ + 1 + 1 + 1; omega) _
      exact ⟨HKO.out.trans (KeepsOthers.setCell _ _ _), HYX.out (by first | trivial | rfl) _ (K3.out.set _), hbe⟩
  case done =>
    rintro D xs Z hD hS ⟨⟨_, hno⟩, hB⟩ hK
    exfalso
    obtain ⟨v, hvn, hq⟩ := HP.out.2
    unfold stepQ at hq
    rw [Bool.and_eq_true, beq_iff_eq, beq_iff_eq] at hq
    have hm : v ∈ nodesL s := nodes_mem.2 ⟨by omega, by rw [ES.out, ← HBT.out]; exact hq.1⟩
    rw [← hS] at hm
    exact hno v hm ((HP.out.1 v hvn hq.1).2 hq.2)
  case stop =>
    rintro D cd pre' Z hD hpre ⟨⟨pre, x, rfl, rfl, hno, hx, bb⟩, hB⟩ hK
    have hq : stepW L b a = x.1 := by
      have hxn := x.2.1
      have hpg := valsN_prefix_get pre x hpre
      have hb1 : bt L a x.1 = 1 := by rw [HBT.out, ← ES.out]; exact x.2.2
      refine HFI.out x.1 hxn ?_ (fun v hv hq => ?_)
      · unfold stepQ
        rw [Bool.and_eq_true, beq_iff_eq, beq_iff_eq]
        exact ⟨hb1, (HP.out.1 x.1 hxn hb1).1 hx⟩
      · unfold stepQ at hq
        rw [Bool.and_eq_true, beq_iff_eq, beq_iff_eq] at hq
        have hvn : v < n := by omega
        have hm : v ∈ nodesL s := nodes_mem.2 ⟨by omega, by rw [ES.out, ← HBT.out]; exact hq.1⟩
        exact hno v (hpg v hm hv) ((HP.out.1 v hvn hq.1).2 hq.2)
    rw [← hq] at bb
    gi_wp2
    refine ⟨by simp, .inl ⟨_, _, rfl, run_takeDeferred hK, ?_⟩⟩
    have z0 := cell_kept bb.cell (grownBy_putObj' _ D (.deferred none)) (fun r e => by cases e; exact ⟨_, hK, rfl⟩)
    refine ⟨.int .i64 (stepW L b a : Nat), by simp [results, Tryd.f78, go_sem, z0], rfl, ?_⟩
    rw [← EN.out]
    exact hB.trans (belowK_b (w := w) hle _ D _ _ (by have := EN.out; omega) hK rfl rfl)
end Go.Proofs.YtkngijkhhonikaaDoor
