/- The program's named, by a range over its edges. -/
import Derived.Test.YtkngijkhhonikaaDoorBaseW
import Derived.Test.YtkngijkhhonikaaDoorBaseG
import Derived.Test.YtkngijkhhonikaaDoorBaseA
namespace Go.Proofs.YtkngijkhhonikaaDoor
open Go.RowKit Go.Shelf
attribute [local go_sem] Oper.semAt_some
set_option linter.unusedVariables false

theorem lrun_lt6 (n : Nat) (p : Nat → Nat) (es : List (Nat × Nat)) (h : ∀ e ∈ es, p e.1 < 6 ∧ p e.2 < 6) : ∀ x ∈ lrun n p es, x < 2 ^ 6 := by
  induction es using snoc_ind with
  | h0 => intro x hx; simp [lrun] at hx; omega
  | h1 l x ih =>
    rw [lrun_snoc]
    exact lnk_lt (ih (fun e he => h e (by simp [he]))) _ _ _ (h x (by simp)).1 (h x (by simp)).2 (Nat.le_refl 1)

/-- Between two rounds: the names' box, the list's box, the graph's box; the list holds the edges that have come. -/
def NmI (n₀ g n : Nat) (S S' : Value) (P : List Int) (pre : List (Pr n)) (W : World) : Prop :=
  Boxed W n₀ 23 S' ∧ Boxed W (n₀ + 1 + 1) 41 (.slice (some ⟨g, 0, none⟩) n n) ∧ Boxed W (n₀ + 1 + 1 + 1) 41 S ∧ Row W n₀ (.slice (some ⟨g, 0, none⟩) n n) (ints (lrun n (nm P) (vals pre)))
theorem nmI_own (n₀ g n : Nat) (S S' : Value) (P : List Int) : Own (NmI n₀ g n S S' P) := fun s X Y row hs hg hr =>
  ⟨boxed_own _ _ (fun _ : Unit => _) () X Y row hs.1 hg hr, boxed_own _ _ (fun _ : Unit => _) () X Y row hs.2.1 hg hr, boxed_own _ _ (fun _ : Unit => _) () X Y row hs.2.2.1 hg hr, row_kept hs.2.2.2 hg hr⟩

set_option maxRecDepth 100000 in
set_option maxHeartbeats 4000000 in
theorem implNamed_in (A A' : Option Addr) (c c' : Nat) (L P : List Int) (hg : IsGraph L) (hP : IsNames P L.length) (w : World) (h : Seen w A L) (h' : Seen w A' P) :
    CallsIn Fence.wide 6 Tryd.prog 59 #[.slice A L.length c, .slice A' P.length c'] w (Gave w (ints (lrun L.length (nm P) (edgesIn L (rows L.length))))) := by
  have h1 := hg.1
  have h6 := hg.2.1
  have hpl := hP.1
  obtain ⟨n, hn⟩ : ∃ n, n = L.length := ⟨_, rfl⟩
  rw [← hn] at h1 h6 hP hpl ⊢
  rw [hpl]
  have hmk := run_make_graph n (by omega)
  have hms : ∀ x, (madeW x n).heap.size = x.heap.size + 1 := fun x => madeW_size x n
  have HN := Lib.hid hn
  have HPL := Lib.hid hpl
  have H := Lib.hid h
  have H' := Lib.hid h'
  have HG := Lib.hid hg
  have HP := Lib.hid hP
  clear h h' hg hn hP hpl
  refine callsIn_of_wp_marks Tryd.func59 rfl trivial ?_ rfl
  simp only [Tryd.ntmps59, List.size_toArray, List.length_cons, List.length_nil, Nat.reduceAdd, Nat.reduceSub, Array.replicate_succ, Array.replicate_zero, List.push_toArray, List.append_toArray, List.nil_append, List.cons_append]
  gi_wp2_with (refine ⟨trivial, ?_⟩; gi_at_call 70; refine (callsIn_wide.2 (edges_any _ _ _ _)).mono ?_; rintro e w' ⟨rfl, rfl⟩)
  have R0 := madeW_row (w.alloc (.cells #[.slice A' n c'] 23)) n (by omega)
  have M0 := madeW_below (w.alloc (.cells #[.slice A' n c'] 23)) n
  have S0 := hms (w.alloc (.cells #[.slice A' n c'] 23))
  have X0 : Boxed (madeW (w.alloc (.cells #[.slice A' n c'] 23)) n) w.heap.size 23 (.slice A' n c') := (Boxed.new w 23 (.slice A' n c')).alloc _
  clear hmk hms
  obtain ⟨w1, e1⟩ : ∃ w1, w1 = madeW (w.alloc (.cells #[.slice A' n c'] 23)) n := ⟨_, rfl⟩
  rw [← e1] at R0 M0 S0 X0 ⊢
  rw [World.size_alloc] at R0 M0 S0
  have hB1 : Below w.heap.size w w1 := ((Below.refl _ w).alloc (Nat.le_refl _) _).trans (M0.mono (by omega))
  clear e1
  obtain ⟨W, eW⟩ : ∃ W, W = (w1.alloc (.cells #[.slice (some ⟨w.heap.size + 1, 0, none⟩) n n] 41)).alloc (.cells #[.slice A n c] 41) := ⟨_, rfl⟩
  have sW : W.heap.size = w.heap.size + 1 + 1 + 1 + 1 := by rw [eW]; simp [S0]
  have hBW : Below w.heap.size w W := by rw [eW]; exact (hB1.alloc (by omega) _).alloc (by simp; omega) _
  have b0 : Boxed W w.heap.size 23 (.slice A' n c') := by rw [eW]; exact (X0.alloc _).alloc _
  have b2 : Boxed W (w.heap.size + 1 + 1) 41 (.slice (some ⟨w.heap.size + 1, 0, none⟩) n n) := by
    rw [eW]; have h := Boxed.new w1 41 (.slice (some ⟨w.heap.size + 1, 0, none⟩) n n); rw [S0] at h; exact h.alloc _
  have b3 : Boxed W (w.heap.size + 1 + 1 + 1) 41 (.slice A n c) := by
    rw [eW]; have h := Boxed.new (w1.alloc (.cells #[.slice (some ⟨w.heap.size + 1, 0, none⟩) n n] 41)) 41 (.slice A n c); rw [World.size_alloc, S0] at h; exact h
  have r0 : Row W w.heap.size (.slice (some ⟨w.heap.size + 1, 0, none⟩) n n) (ints (List.replicate n 0)) := by
    rw [eW]; exact ((R0.mono (by omega)).alloc _).alloc _
  rw [← eW]
  clear eW S0 X0 R0 M0 hB1
  obtain ⟨n₀, en⟩ : ∃ n₀, n₀ = w.heap.size := ⟨_, rfl⟩
  rw [← en] at sW hBW b0 b2 b3 r0 ⊢
  have EN := Lib.hid en
  have SW := Lib.hid sW
  have hle : n₀ ≤ w.heap.size := by omega
  have hsW : Seen W A L := H.out.below (by rw [← en]; exact hBW)
  clear en
  refine wpIn_outer (α := Pr n) rfl (by omega) (gf := 86) (lb := #[.pointer (some ⟨n₀ + 1 + 1 + 1, 0, none⟩)]) rfl trivial (enters_of Tryd.func86 (by kernel_rfl) rfl)
    (edges_stops A c L n HN.out HG.out (n₀ + 1 + 1 + 1) W (by omega) b3 hsW) keepG_t (fun W l o o' _ ho hc _ => keepG_b W l o o' ho hc) (Below.refl _ _) (fun _ => rfl)
    (fun pre Z => NmI n₀ (n₀ + 1) n (.slice A n c) (.slice A' n c') P pre Z ∧ Below n₀ w Z) (fun _ _ _ => False)
    (OwnFrom.and (Own.from (nmI_own n₀ (n₀ + 1) n _ _ P) _) (ownFrom_below hle (by omega))) (fun _ _ _ _ _ hs _ _ => hs)
    ⟨⟨b0, b2, b3, r0⟩, hBW⟩
    (fun x => { tmps := #[.slice A n c, .slice A' n c', undef, .pointer (some ⟨n₀, 0, none⟩), .slice none 0 0, .pointer (some ⟨n₀ + 1 + 1, 0, none⟩), .int .i64 (x.1.1 : Int), .int .i64 (x.1.2 : Int), .slice A n c, .int .i64 n, .slice (some ⟨n₀ + 1, 0, none⟩) n n, .slice A n c,
      .func (.func 86) #[] #[.pointer (some ⟨n₀ + 1 + 1 + 1, 0, none⟩)], .int .i64 (x.1.1 : Int), .int .i64 (x.1.2 : Int), undef, undef, undef, undef, undef, undef, undef, undef, undef, undef, undef], defers := [] }) ?assign ?body ?done ?stop
  case assign =>
    intro l x W K hK
    gi_wp2
    simpa [encP] using hK
  case body =>
    rintro l pre x Z ⟨⟨c0, c2, c3, hr⟩, hB⟩ hlen
    have hmem : ∀ e ∈ vals pre, nm P e.1 < n ∧ nm P e.2 < n := fun e he => by
      simp only [vals, List.mem_map] at he
      obtain ⟨q, _, rfl⟩ := he
      have := q.2
      exact ⟨(nm_int HP.out (by omega)).2, (nm_int HP.out (by omega)).2⟩
    have hsm : ∀ y ∈ lrun n (nm P) (vals pre), y < 1048576 := fun y hy => Nat.lt_trans (lrun_lt6 n (nm P) (vals pre) (fun e he => by have := hmem e he; omega) y hy) (by decide)
    have hL : (lrun n (nm P) (vals pre)).length = n := lrun_length _ _ _
    have hst := lrun_snoc n (nm P) (vals pre) x.1
    rw [← vals_snoc] at hst
    obtain ⟨⟨u, v⟩, hu, hv⟩ := x
    dsimp only at hu hv hst ⊢
    obtain ⟨ea, ha⟩ := nm_int HP.out (show u < n by omega)
    obtain ⟨eb, hb⟩ := nm_int HP.out hv
    have hab := nm_ne HP.out (show u < n by omega) hv (by omega)
    obtain ⟨blk', off', rfl, hbl', hcP⟩ := H'.out u (by have := HPL.out; omega)
    obtain ⟨blk2, off2, e2b, hbl2, hcQ⟩ := H'.out v (by have := HPL.out; omega)
    obtain ⟨rfl, rfl⟩ : blk' = blk2 ∧ off' = off2 := by injection e2b with e; injection e with e1 e2; exact ⟨e1, e2⟩
    rw [ea] at hcP
    rw [eb] at hcQ
    obtain ⟨a, eaa⟩ : ∃ a, a = nm P u := ⟨_, rfl⟩
    obtain ⟨b, ebb⟩ : ∃ b, b = nm P v := ⟨_, rfl⟩
    obtain ⟨M, eM⟩ : ∃ M, M = lrun n (nm P) (vals pre) := ⟨_, rfl⟩
    rw [← eaa] at hcP ha hab hst
    rw [← ebb] at hcQ hb hab hst
    rw [← eM] at hsm hL hst hr
    have hPw : Z.cell? ⟨blk', off' + u, none⟩ = some (.int .i64 a) := (hB.cell (p := ⟨blk', off' + u, none⟩) (by rw [EN.out]; exact hbl')).trans hcP
    have hQw : Z.cell? ⟨blk', off' + v, none⟩ = some (.int .i64 b) := (hB.cell (p := ⟨blk', off' + v, none⟩) (by rw [EN.out]; exact hbl')).trans hcQ
    have hi1 : (0 : Int) ≤ (u : Int) ∧ (u : Int) < (n : Int) := by omega
    have hi2 : (0 : Int) ≤ (v : Int) ∧ (v : Int) < (n : Int) := by omega
    have z0 := c0.cell
    have z2 := c2.cell
    have ST := Lib.hid hst
    have C0 := Lib.hid c0
    have C2 := Lib.hid c2
    have C3 := Lib.hid c3
    have HR := Lib.hid hr
    have HL := Lib.hid hL
    have HS := Lib.hid hsm
    have HAB := Lib.hid hab
    clear hst c0 c2 c3 hr hL hsm hab hmem eM eaa ebb ea eb hcP hcQ hbl' hbl2 e2b
    gi_wp2
    refine wpIn_tail_round 9 (by kernel_rfl) (by kernel_rfl) (by kernel_rfl) ?_
    simp only [List.take_succ_cons, List.take_zero, List.drop_succ_cons, List.drop_zero]
    repeat still_step
    refine wpStill_nil ?_
    gi_wp2_with (refine ⟨trivial, ?_⟩; gi_at_call 74; refine (CallsIn.inRound l (callsIn_wide.2 (link_any n₀ (n₀ + 1) n n M a b Z.drew h6 HL.out ha hb HAB.out HS.out HR.out))).mono ?_; rintro e W3 ⟨⟨uu, rfl⟩, hr3, hg3⟩; have G3 := Lib.hid hg3; have R3 := Lib.hid hr3; clear hg3 hr3)
    have gz : Z.grownBy W3 (some (n₀ + 1)) := World.grownBy.trans (grown_drew (World.grownBy.refl Z (some (n₀ + 1)))) G3.out
    have hB3 : Below n₀ w W3 := hB.grown gz (by have := hB.size; omega) (fun j e => by cases e; omega)
    have d3 := C3.out.kept gz (ne_some (by omega))
    refine ⟨⟨(KeepsOthers.of_grownBy gz ?_).from _, ⟨fun _ => d3, fun _ => H.out.below (by rw [← EN.out]; exact hB3)⟩, ⟨C0.out.kept gz (ne_some (by omega)), C2.out.kept gz (ne_some (by omega)), d3, ?_⟩, hB3⟩, ?_⟩
    · intro j o ej hj
      cases ej
      rcases HR.out.2 with ⟨hv0, _⟩ | ⟨g, cap, cur, hv0, _, hgb, _⟩
      · cases hv0
      · cases hv0
        rw [hgb] at hj
        cases hj
        rfl
    · rw [ST.out]; exact R3.out
    · intro k o h1 _ h3
      exact (gz.block k (Array.getElem?_eq_some_iff.1 h3).1 (fun e => by injection e with e; have := SW.out; omega)).trans h3
  case done =>
    rintro D xs Z hD hS ⟨⟨c0, c2, c3, hr⟩, hB⟩ hK
    have z2 := c2.cell
    have HS := Lib.hid hS
    have HR := Lib.hid hr
    clear hS hr
    gi_wp2
    refine ⟨by simp, .inl ⟨_, _, rfl, run_takeDeferred hK, ?_⟩⟩
    refine ⟨_, results_tmp rfl _ _ _, ?_⟩
    refine ⟨_, rfl, ?_, ?_⟩
    · rw [← EN.out]
      have h0 := ownsRow_putObj HR.out (.deferred none) hK rfl
      obtain ⟨ys, hy, rfl⟩ := HS.out
      rw [vals_edgesOf, hy] at h0
      exact h0
    · rw [← EN.out]
      exact hB.trans (belowK_b (w := w) hle Z D _ _ (by have := EN.out; omega) hK rfl rfl)
  case stop =>
    rintro D cd pre W _ _ h _
    exact h.elim
#print axioms implNamed_in
end Go.Proofs.YtkngijkhhonikaaDoor
