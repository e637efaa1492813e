/- The program's iterator over the edges of a graph. -/
import Derived.Test.YtamabhdbcmjbjaaDoorSeqO
import Derived.Test.YtamabhdbcmjbjaaDoorBaseA
namespace Go.Proofs.YtamabhdbcmjbjaaDoor
open Go.RowKit Go.Shelf
attribute [local go_sem] Oper.semAt_some
set_option linter.unusedVariables false

/-- What a round over the edges keeps: the graph's box, and the graph. -/
def KeepG (B : Nat) (A : Option Addr) (c n : Nat) (L : List Int) (X Y : World) : Prop :=
  (Boxed X B 41 (.slice A n c) → Boxed Y B 41 (.slice A n c)) ∧ (Seen X A L → Seen Y A L)
/-- The edges among some pairs. -/
def edgesOf {m : Nat} (L : List Int) (l : List (Pr m)) : List (Pr m) := l.filter (fun x => bt L x.1.1 x.1.2 == 1)

theorem edgesOf_snoc {m : Nat} (L : List Int) (l : List (Pr m)) (x : Pr m) : edgesOf L (l ++ [x]) = edgesOf L l ++ (if bt L x.1.1 x.1.2 = 1 then [x] else []) := by
  unfold edgesOf
  rw [List.filter_append]
  by_cases h : bt L x.1.1 x.1.2 = 1 <;> simp [h]
theorem edgesOf_length {m : Nat} (L : List Int) (l : List (Pr m)) : (edgesOf L l).length ≤ l.length := List.length_filter_le _ _
theorem seen_own {β : Type} (A : Option Addr) (L : List Int) : Own (fun (_ : β) W => Seen W A L) := fun s X Y row hs hg hr k hk => by
  obtain ⟨b, off, hA, hlt, hc⟩ := hs k hk
  have e : Y.heap[b]? = X.heap[b]? := hg.block b hlt (fun e => by
    obtain ⟨o, ho, hco⟩ := hr b e.symm
    cases o <;> simp [World.cell?, ho, Obj.isCells] at hc hco)
  exact ⟨b, off, hA, Nat.lt_of_lt_of_le hlt hg.size, by unfold World.cell? at hc ⊢; dsimp only at hc ⊢; rw [e]; exact hc⟩
theorem ownFrom_up {β : Type} {B B' : Nat} {I : β → World → Prop} (h : OwnFrom B I) (hb : B ≤ B') : OwnFrom B' I := fun s X Y row hs hg hr => h s X Y row hs hg (fun r e => ⟨Nat.le_trans hb (hr r e).1, (hr r e).2⟩)
theorem ownFrom_map {β γ : Type} {B : Nat} {I : β → World → Prop} (h : OwnFrom B I) (f : γ → β) : OwnFrom B (fun s W => I (f s) W) := fun s X Y row hs hg hr => h (f s) X Y row hs hg hr

theorem roundIn_wide {n m : Nat} {P : Program} {l l2 : Nat} {f : FuncId} {tmps : Array Value} {assign body : Code} {w : World} {R : Ending → World → Prop} (h : RoundIn Fence.wide n P l f tmps assign body w R) : RoundIn (Fence.wide.inRound l2) m P l f tmps assign body w R :=
  ⟨h.1, fun c cs hr => h.2 c cs (by simp [Fence.room, Fence.wide])⟩

set_option maxRecDepth 100000 in
set_option maxHeartbeats 2000000 in
theorem edges_stops (A : Option Addr) (c : Nat) (L : List Int) (n : Nat) (hn : n = L.length) (hg : IsGraph L) (B : Nat) (w : World) (hB : B < w.heap.size) (hb : Boxed w B 41 (.slice A n c)) (hs : Seen w A L) :
    Outer 2 Fence.wide 5 Tryd.prog 87 #[.pointer (some ⟨B, 0, none⟩)] (encP n) (KeepG B A c n L) (fun xs => ∃ ys : List (Pr n), vals ys = rows n ∧ xs = edgesOf L ys) (fun _ => True) 15 w := fun l J Jx W hbW hJ hJx hY h0 => by
  have h1 := hg.1
  have h6 := hg.2.1
  obtain ⟨blk, off, hA0, hbl0, _⟩ := hs 0 (by omega)
  have hb1 : Boxed W B 41 (.slice A n c) := (hbW.block B hB).trans hb
  have hs1 : Seen W A L := hs.below hbW
  have HY := Lib.hid hY
  have HG := Lib.hid hg
  have HJ := Lib.hid hJ
  have HX := Lib.hid hJx
  clear hY hJ hJx hbW hg
  subst hA0
  rw [← hn] at h1 h6
  have HN := Lib.hid hn
  clear hn
  have x0 : ∀ o, (W.alloc o).cell? ⟨B, 0, none⟩ = some (.slice (some ⟨blk, off, none⟩) n c) := fun o => (hb1.alloc o).cell
  refine callsIn_of_wp_marks Tryd.func87 rfl trivial ?_ rfl
  simp only [Tryd.ntmps87, List.size_toArray, List.length_cons, List.length_nil, Nat.reduceAdd, Nat.reduceSub, Array.replicate_succ, Array.replicate_zero, List.push_toArray, List.append_toArray, List.nil_append, List.cons_append]
  gi_wp2_with (refine ⟨trivial, ?_⟩; gi_at_call 67; refine (callsIn_wide.2 (pairs_any n _)).mono ?_; rintro e w' ⟨rfl, rfl⟩)
  obtain ⟨W1, e1⟩ : ∃ W1, W1 = (W.alloc (.cells #[.func (.yield l) #[] #[]] 76)).alloc (.cells #[.int .i64 n] 3) := ⟨_, rfl⟩
  have s1 : W1.heap.size = W.heap.size + 2 := by rw [e1]; simp
  have i1 : J [] W1 := by rw [e1]; exact HJ.out.alloc _ (HJ.out.alloc _ h0)
  have y1 : Boxed W1 W.heap.size 76 (.func (.yield l) #[] #[]) := by rw [e1]; exact (Boxed.new W _ _).alloc _
  have g1 : Boxed W1 B 41 (.slice (some ⟨blk, off, none⟩) n c) := by rw [e1]; exact (hb1.alloc _).alloc _
  have q1 : Seen W1 (some ⟨blk, off, none⟩) L := hs1.below (by rw [e1]; exact ((Below.refl _ W).alloc (Nat.le_refl _) _).alloc (by simp) _)
  have m1 : W1.cell? ⟨W.heap.size + 1, 0, none⟩ = some (.int .i64 n) := by
    rw [e1]; have h := Boxed.new (W.alloc (.cells #[.func (.yield l) #[] #[]] 76)) 3 (.int .i64 n); rw [World.size_alloc] at h; exact h.cell
  rw [← e1]
  clear e1 x0
  obtain ⟨M, eM⟩ : ∃ M, M = W.heap.size := ⟨_, rfl⟩
  have hBM : B < M := by rw [eM]; exact hb1.lt
  rw [← eM] at s1 y1 m1 HJ HX HY ⊢
  clear eM
  refine wpIn_rangeFunc_ownG (α := Pr n) rfl (by omega) (gf := 80) (lb := #[.pointer (some ⟨M + 1, 0, none⟩)]) rfl trivial (enters_of Tryd.func80 (by kernel_rfl) rfl)
    (pairs_stops Fence.wide _ trivial rfl (by omega) (M + 1) n h6 W1 (by omega) m1) (fun _ _ => trivial) (fun _ _ _ _ _ _ _ _ => trivial) (Below.refl _ _) (fun _ => rfl)
    (fun pre Z => J (edgesOf L pre) Z ∧ (Boxed Z M 76 (.func (.yield l) #[] #[]) ∧ (Boxed Z B 41 (.slice (some ⟨blk, off, none⟩) n c) ∧ Seen Z (some ⟨blk, off, none⟩) L)))
    (fun cd pre Z => cd = .ret ∧ Jx (edgesOf L pre) Z)
    (OwnFrom.and (ownFrom_map (ownFrom_up HJ.out (by omega)) _) (OwnFrom.and (Own.from (boxed_own _ _ _) _) (OwnFrom.and (Own.from (boxed_own _ _ _) _) (Own.from (seen_own _ _) _))))
    (fun cd => OwnFrom.and (ownFrom_pure _ _) (ownFrom_map (ownFrom_up HX.out (by omega)) _))
    ⟨i1, y1, g1, q1⟩
    (fun x => { tmps := #[.func (.yield l) #[] #[], .pointer (some ⟨B, 0, none⟩), .pointer (some ⟨M, 0, none⟩), .int .i64 (x.1.1 : Int), .int .i64 (x.1.2 : Int), .slice (some ⟨blk, off, none⟩) n c, .int .i64 n,
      .func (.func 80) #[] #[.pointer (some ⟨M + 1, 0, none⟩)], .int .i64 (x.1.1 : Int), .int .i64 (x.1.2 : Int), undef, undef, undef, undef, undef, undef, undef, undef, undef, undef, undef], defers := [] }) ?assign ?body ?done ?stop
  case assign =>
    intro l x W K hK
    gi_wp2
    exact hK
  case body =>
    rintro l2 pre x Wr ⟨hj, hy, hgr, hse⟩ hlen
    obtain ⟨⟨u, v⟩, hu, hv⟩ := x
    dsimp only at hu hv ⊢
    have hsn := edgesOf_snoc L pre (⟨(u, v), hu, hv⟩ : Pr n)
    dsimp only at hsn
    obtain ⟨blk1, off1, hA1, hbl1, hc1⟩ := hse u (by have := HN.out; omega)
    have e1 : blk = blk1 ∧ off = off1 := by injection hA1 with e; injection e with e1 e2; exact ⟨e1, e2⟩
    obtain ⟨rfl, rfl⟩ := e1
    have hin := (HG.out.2.2 u (by have := HN.out; omega)).1
    have hX := ent_int hin
    have hXl := ent_lt hin
    have h64 := two_le (n := L.length) (by have := HN.out; omega)
    unfold bt at hsn
    obtain ⟨X, eX⟩ : ∃ X, X = ent L u := ⟨_, rfl⟩
    rw [← eX] at hX hXl hsn
    rw [hX] at hc1
    have hXs : X < 1048576 := by omega
    have hvs40 : v < 40 := by omega
    have hun : u < n := by omega
    have zg := hgr.cell
    have zy := hy.cell
    have hl15 : (edgesOf L pre).length < 15 := by have := edgesOf_length L pre; omega
    have HSN := Lib.hid hsn
    clear hin hX hXl h64 eX hsn hA1 hlen
    by_cases hbit : X / 2 ^ v % 2 = 1
    · have hbb : (X / 2 ^ v % 2 == 1) = true := by simp [hbit]
      have hs2 : edgesOf L (pre ++ [(⟨(u, v), hu, hv⟩ : Pr n)]) = edgesOf L pre ++ [(⟨(u, v), hu, hv⟩ : Pr n)] := by rw [HSN.out, if_pos hbit]
      have HS2 := Lib.hid hs2
      clear hbit hs2
      obtain ⟨fn, tmps, assign, body, hyy, hR⟩ := HY.out (edgesOf L pre) ⟨(u, v), hu, hv⟩ Wr hj hl15
      dsimp only [encP] at hyy
      gi_wp2_with (refine ⟨trivial, ?_⟩; gi_at_call 60; refine (CallsIn.inRound l2 (callsIn_wide.2 (edge_any blk off n c u v X _ hXs hun hvs40 hc1))).mono ?_; rw [hbb]; rintro e w' ⟨rfl, rfl⟩)
      refine (roundIn_wide hR).mono ?_
      rintro e W3 (⟨rfl, a1, a2, a3, a4⟩ | ⟨rfl, a1, a3, a4⟩)
      · gi_wp2
        refine ⟨keepsFrom_up a3 (by omega), trivial, ?_, a4 M _ (Nat.le_refl _) (by omega) hy, a2.1 hgr, a2.2 hse⟩
        rw [HS2.out]; exact a1
      · gi_wp2
        refine ⟨keepsFrom_up a3 (by omega), rfl, ?_⟩
        rw [HS2.out]; exact a1
    · have hbb : (X / 2 ^ v % 2 == 1) = false := by simp [hbit]
      have hs2 : edgesOf L (pre ++ [(⟨(u, v), hu, hv⟩ : Pr n)]) = edgesOf L pre := by rw [HSN.out, if_neg hbit, List.append_nil]
      have HS2 := Lib.hid hs2
      clear hbit hs2
      gi_wp2_with (refine ⟨trivial, ?_⟩; gi_at_call 60; refine (CallsIn.inRound l2 (callsIn_wide.2 (edge_any blk off n c u v X _ hXs hun hvs40 hc1))).mono ?_; rw [hbb]; rintro e w' ⟨rfl, rfl⟩)
      refine ⟨by simp, ?_⟩
      gi_wp2
      refine ⟨KeepsFrom.refl _ _, trivial, ?_, hy, hgr, hse⟩
      rw [HS2.out]; exact hj
  case done =>
    rintro D xs Z hD hS ⟨hj, hy, hgr, hse⟩ hK
    gi_wp2
    refine ⟨by simp, .inl ⟨_, _, rfl, run_takeDeferred hK, ?_⟩⟩
    refine ⟨_, results_none rfl _ _ _, ?_⟩
    exact ⟨⟨_, rfl⟩, .inl ⟨_, ⟨xs, hS, rfl⟩, HJ.out.putObj _ hj (by omega) hK rfl⟩⟩
  case stop =>
    rintro D cd pre Z hD _ ⟨rfl, hj⟩ hK
    gi_wp2
    refine ⟨by simp, .inl ⟨_, _, rfl, run_takeDeferred hK, ?_⟩⟩
    refine ⟨_, results_none rfl _ _ _, ?_⟩
    exact ⟨⟨_, rfl⟩, .inr ⟨_, trivial, HX.out.putObj _ hj (by omega) hK rfl⟩⟩
end Go.Proofs.YtamabhdbcmjbjaaDoor
