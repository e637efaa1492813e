/- The number of trees of a graph, by the program: the degrees taken off the matrix, its polynomial, a quotient. -/
import Derived.Test.YtkngijkhhonikaaDoorBaseW
import Derived.Test.YtkngijkhhonikaaDoorDegL
import Derived.Test.YtkngijkhhonikaaDoorBaseA
import Derived.Test.YtkngijkhhonikaaDoorLapMath
namespace Go.Proofs.YtkngijkhhonikaaDoor
open Go Go.RowKit Go.Shelf
attribute [local go_sem] Oper.semAt_some sl_true sl_false
set_option linter.unusedVariables false
set_option maxRecDepth 100000

/-- The matrix of a graph where the degrees of some nodes are taken off. -/
def lapP (L : List Int) (ps : List Nat) : Mx := fun i j => if i = j ∧ i ∈ ps then -((cnt (ent L i) : Nat) : Int) else wmx (adj L) i j
theorem lapP_nil (L : List Int) : lapP L [] = wmx (adj L) := by funext i j; simp [lapP]
theorem lapP_snoc (L : List Int) (ps : List Nat) (v : Nat) : mset (lapP L ps) v v (-((cnt (ent L v) : Nat) : Int)) = lapP L (ps ++ [v]) := by
  funext i j
  unfold mset lapP
  by_cases h1 : i = v ∧ j = v
  · rw [if_pos h1, if_pos ⟨by omega, by rw [h1.1]; simp⟩, h1.1]
  · rw [if_neg h1]
    by_cases h2 : i = j ∧ i ∈ ps
    · rw [if_pos h2, if_pos ⟨h2.1, by simp [h2.2]⟩]
    · rw [if_neg h2, if_neg]
      rintro ⟨h3, h4⟩
      rcases List.mem_append.1 h4 with h5 | h5
      · exact h2 ⟨h3, h5⟩
      · rw [List.mem_singleton] at h5
        exact h1 ⟨h5, by omega⟩
theorem cnt_dg : ∀ (n : Fin 7) (x : Fin 64), x.val < 2 ^ n.val → cnt x.val = sumN (fun w => x.val / 2 ^ w % 2) n.val := by decide +kernel
theorem dg_cnt {L : List Int} (hg : IsGraph L) {v : Nat} (hv : v < L.length) : cnt (ent L v) = dg L v := by
  have h6 := hg.2.1
  have hl := ent_lt (hg.2.2 v hv).1
  have h64 := two_le h6
  exact cnt_dg ⟨L.length, by omega⟩ ⟨ent L v, by omega⟩ hl
theorem lapP_all {L : List Int} (hg : IsGraph L) : MEq (lapP L (List.range L.length)) (wmx (lapM L)) := fun i j _ _ => by
  unfold lapP
  have h6 := hg.2.1
  by_cases h : i = j ∧ i ∈ List.range L.length
  · obtain ⟨rfl, h2⟩ := h
    rw [List.mem_range] at h2
    rw [if_pos ⟨rfl, List.mem_range.2 h2⟩]
    show _ = wrap64 (lapM L i i)
    rw [lapM_in h2 h2, if_pos rfl, dg_cnt hg h2]
    have := dg_le L h6 hg h2
    exact (wrap_id (by omega) (by omega)).symm
  · rw [if_neg h]
    show wrap64 (adj L i j) = wrap64 (lapM L i j)
    by_cases hin : i < L.length ∧ j < L.length
    · have hne : i ≠ j := fun e => h ⟨e, List.mem_range.2 hin.1⟩
      rw [lapM_in hin.1 hin.2, if_neg hne, adj_in hin.1 hin.2]
    · rw [lapM_out hin, adj_out hin]

theorem opIn_load_mat {F : Fence} {k : Nat} {o : Oper} {a : Act} {w : World} {K : Act → World → Prop} {Q : Exit → Act → World → Prop} (x : Operand) (ho : o.op = .load 69 x) (g : Nat) (m : Mx) (hx : a.eval x = .pointer (some ⟨g, 0, none⟩)) (h : MatAt w g m)
    (hK : K (a.put o.dst (.agg (matC m))) w) : Oper.wpIn F k Tryd.prog o a w K Q := by
  unfold Oper.wpIn
  refine ⟨by simp [Oper.about, ho], ?_⟩
  rw [Oper.semAt_plain F _ _ (by rw [ho]; intro c hc'; cases hc')]
  simp only [execOp, ho, hx, Instr.loadAt, Instr.sureAddr, Sem.run_bind, Sem.run_pure, Result.andThen_ok, load_mat h]
  exact hK

def LapI (n₀ g n : Nat) (S : Value) (L : List Int) (Q : Nat) (pre : List (Nd n Q)) (W : World) : Prop := Boxed W n₀ 41 S ∧ MatAt W g (lapP L (valsN pre))
theorem lapI_own (n₀ g n : Nat) (S : Value) (L : List Int) (Q : Nat) : Own (LapI n₀ g n S L Q) := fun s X Y row hs hg hr =>
  ⟨boxed_own _ _ (fun _ : Unit => _) () X Y row hs.1 hg hr, mat_own _ (fun _ : Unit => _) () X Y row hs.2 hg hr⟩

set_option maxHeartbeats 8000000 in
theorem trees_in (A : Option Addr) (c : Nat) (L : List Int) (hg : IsGraph L) (t : Nat) (ht : ((pl (qN L) L.length L.length)[1]?.getD 0).tdiv ((L.length : Nat) : Int) = ((t : Nat) : Int)) (htb : t ≤ 32768) (w : World) (h : Seen w A L) (hT : Tab w) :
    CallsIn Fence.wide 6 Tryd.prog 38 #[.slice A L.length c] w (NumB w t) := by
  have h1 := hg.1
  have h6 := hg.2.1
  have hE := lapP_all hg
  have HP := Lib.hid (fun w => mpoly_any (lapM L) L.length h1 h6 (qN L) (fun _ => rfl) (fun i _ _ => qN_abs hg i) w)
  obtain ⟨blk, off, hA0, hbl0, _⟩ := h 0 (by omega)
  obtain ⟨n, hn⟩ : ∃ n, n = L.length := ⟨_, rfl⟩
  have hp := two_pos n
  obtain ⟨Q, hQ⟩ : ∃ Q, Q + 1 = 2 ^ n := ⟨2 ^ n - 1, by omega⟩
  subst hA0
  have HST := Lib.hid (fun w hs => steps_fn (some ⟨blk, off, none⟩) c L hg w hs)
  obtain ⟨ms, ems⟩ : ∃ ms, ms = wmx (adj L) := ⟨_, rfl⟩
  obtain ⟨ml, eml⟩ : ∃ ml, ml = wmx (lapM L) := ⟨_, rfl⟩
  obtain ⟨pq, epq⟩ : ∃ pq, pq = pl (qN L) L.length L.length := ⟨_, rfl⟩
  have hpl : pq.length = n + 1 := by rw [epq, pl_length, hn]
  rw [← epq] at HP ht
  rw [← ems] at HST
  rw [← eml] at HP hE
  rw [← hn] at h1 h6 HST HP hE ht ⊢
  have HN := Lib.hid hn
  have H := Lib.hid h
  have HG := Lib.hid hg
  have HQ := Lib.hid hQ
  have TB := Lib.hid hT
  have HE := Lib.hid hE
  have HMS := Lib.hid ems
  have HQT := Lib.hid ht
  have HPL := Lib.hid hpl
  have HTB := Lib.hid htb
  clear h hg hn hQ hT hp hE ems eml epq ht hpl htb
  have SW0 := Lib.hid (H.out.below ((Below.refl w.heap.size w).alloc (Nat.le_refl _) (.cells #[.slice (some ⟨blk, off, none⟩) n c] 41)))
  refine callsIn_of_wp_marks Tryd.func38 rfl trivial ?_ rfl
  simp only [Tryd.ntmps38, List.size_toArray, List.length_cons, List.length_nil, Nat.reduceAdd, Nat.reduceSub, Array.replicate_succ, Array.replicate_zero, List.push_toArray, List.append_toArray, List.nil_append, List.cons_append]
  have X0 : Boxed (w.alloc (.cells #[.slice (some ⟨blk, off, none⟩) n c] 41)) w.heap.size 41 (.slice (some ⟨blk, off, none⟩) n c) := Boxed.new w _ _
  have x0 := X0.cell
  have XX := Lib.hid X0
  clear X0
  gi_wp2_with (first
    | refine stepIn_alloc_mat rfl rfl ?_
    | refine stepIn_store_mat rfl (.tmp 3) (.tmp 6) rfl _ _ _ rfl rfl MM.out ?_
    | (refine ⟨trivial, ?_⟩; gi_at_call 61; refine (callsIn_wide.2 (nodes_any _ n c Q h6 HQ.out _)).mono ?_; rintro e w' ⟨rfl, rfl⟩)
    | (refine ⟨trivial, ?_⟩
       gi_at_call 67
       refine (callsIn_wide.2 (HST.out _ SW0.out)).mono ?_
       rintro e w1 ⟨rfl, b1⟩
       have hw1 := b1.size
       rw [World.size_alloc] at hw1
       obtain ⟨g, eg⟩ : ∃ g, g = w1.heap.size := ⟨_, rfl⟩
       have hB1 : Below w.heap.size w w1 := ((Below.refl _ w).alloc (Nat.le_refl _) _).trans (b1.mono (by rw [World.size_alloc]; omega))
       have X1 : Boxed w1 w.heap.size 41 (.slice (some ⟨blk, off, none⟩) n c) := (b1.block _ (by rw [World.size_alloc]; omega)).trans XX.out
       have M0 : MatAt (w1.alloc (.cells (matC fun _ _ => 0) 69)) w1.heap.size (fun _ _ => 0) := MatAt.new w1 _
       have M1 := M0.stored ms
       have X2 : Boxed ((w1.alloc (.cells (matC fun _ _ => 0) 69)).setRow w1.heap.size (matC ms)) w.heap.size 41 (.slice (some ⟨blk, off, none⟩) n c) := (setRow_other _ _ _ _ (by omega)).trans (X1.alloc _)
       have hB2 : Below w.heap.size w ((w1.alloc (.cells (matC fun _ _ => 0) 69)).setRow w1.heap.size (matC ms)) := below_setRow (hB1.alloc (by omega) _) (by omega) _
       have s2 : ((w1.alloc (.cells (matC fun _ _ => 0) 69)).setRow w1.heap.size (matC ms)).heap.size = g + 1 := by rw [eg]; simp
       have x2 := X2.cell
       have MM := Lib.hid M0
       have MS := Lib.hid M1
       have XS := Lib.hid X2
       have BB := Lib.hid hB2
       have SS := Lib.hid s2
       have EG := Lib.hid eg
       clear M0 M1 X2 hB2 s2 hB1 X1 b1 eg))
  obtain ⟨W, eW⟩ : ∃ W, W = ((w1.alloc (.cells (matC fun _ _ => 0) 69)).setRow w1.heap.size (matC ms)).alloc (.cells #[.int .i64 (Q : Nat)] 3) := ⟨_, rfl⟩
  have sW : W.heap.size = g + 1 + 1 := by rw [eW, World.size_alloc, SS.out]
  have hle0 : w.heap.size < g := by have := EG.out; omega
  have hBW : Below w.heap.size w W := by rw [eW]; exact BB.out.alloc (by rw [SS.out]; omega) _
  have b0 : Boxed W w.heap.size 41 (.slice (some ⟨blk, off, none⟩) n c) := by rw [eW]; exact XS.out.alloc _
  have b2 : MatAt W g (lapP L []) := by rw [eW, lapP_nil, ← HMS.out, EG.out]; exact MS.out.alloc _
  have b4 : W.cell? ⟨g + 1, 0, none⟩ = some (.int .i64 (Q : Nat)) := by
    rw [eW]; have h := Boxed.new ((w1.alloc (.cells (matC fun _ _ => 0) 69)).setRow w1.heap.size (matC ms)) 3 (.int .i64 (Q : Nat)); rw [SS.out] at h; exact h.cell
  rw [← eW]
  simp only [← EG.out]
  clear eW SS XS MS MM BB x2 XX x0
  obtain ⟨n₀, en⟩ : ∃ n₀, n₀ = w.heap.size := ⟨_, rfl⟩
  have h2 : 2 ≤ n₀ := by have := TB.out.lt; omega
  rw [← en] at hBW b0 hle0 hbl0 ⊢
  have EN := Lib.hid en
  have hle : n₀ ≤ w.heap.size := by omega
  have hleW : g + 1 < W.heap.size := by omega
  have hgW : g < W.heap.size := by omega
  have hn₀W : n₀ < W.heap.size := by omega
  clear en sW hw1 EG
  have hQ2 : Q < 2 ^ n := by have := HQ.out; omega
  have hT1 : Tab W := TB.out.below hBW h2
  refine wpIn_rangeFunc_ownF (α := Nd n Q) rfl (by omega) (gf := 82) (lb := #[.pointer (some ⟨g + 1, 0, none⟩)]) rfl trivial (enters_of Tryd.func82 (by kernel_rfl) rfl)
    (nodes_stops _ (g + 1) n Q n₀ (by omega) h6 hQ2 W hleW b4 hT1 h2 (by omega)) belowK_t (belowK_b (by omega)) (Below.refl _ _) (fun _ => rfl)
    (fun pre W => LapI n₀ g n (.slice (some ⟨blk, off, none⟩) n c) L Q pre W ∧ Below n₀ w W) (fun _ _ _ => False)
    (OwnFrom.and (Own.from (lapI_own _ _ _ _ _ _) _) (ownFrom_below hle (by omega))) (fun _ _ _ _ _ hs _ _ => hs)
    ⟨⟨b0, b2⟩, hBW⟩
    (fun x => { tmps := #[.slice (some ⟨blk, off, none⟩) n c, .pointer (some ⟨n₀, 0, none⟩), .int .i64 0, .pointer (some ⟨g, 0, none⟩), .int .i64 (x.1 : Int), .slice (some ⟨blk, off, none⟩) n c, .agg (matC ms), .slice (some ⟨blk, off, none⟩) n c,
      .func (.func 82) #[] #[.pointer (some ⟨g + 1, 0, none⟩)], .int .i64 (x.1 : Int), undef, undef, undef, undef, undef, undef, undef, undef, undef, undef, undef, undef, undef, undef, undef, undef, undef], defers := [] }) ?assign ?body ?done ?stop
  case assign =>
    intro l x W K hK
    gi_wp2
    exact hK
  case body =>
    rintro l pre x Z ⟨⟨c0, c2⟩, hB⟩ hlen
    obtain ⟨v, hvn, hvq⟩ := x
    dsimp only at hvn ⊢
    have hvL : v < L.length := by have := HN.out; omega
    have hv6 : v < 6 := by omega
    obtain ⟨blk1, off1, hA1, hbl1, hc1⟩ := H.out v hvL
    have e1 : blk = blk1 ∧ off = off1 := by injection hA1 with e; injection e with e1 e2; exact ⟨e1, e2⟩
    obtain ⟨rfl, rfl⟩ := e1
    have hin := (HG.out.2.2 v hvL).1
    have hX := ent_int hin
    have hXl := ent_lt hin
    have h64 := two_le (n := L.length) (by have := HN.out; omega)
    have hcl6 := cnt_le (ent L v)
    have dm := c2.set (-((cnt (ent L v) : Nat) : Int)) hv6 hv6
    rw [lapP_snoc, ← valsN_snoc (l := pre) (x := (⟨v, hvn, hvq⟩ : Nd n Q))] at dm
    obtain ⟨X, eX⟩ : ∃ X, X = ent L v := ⟨_, rfl⟩
    rw [← eX] at hX hXl hcl6 dm
    rw [hX] at hc1
    have hX64 : X < 64 := by omega
    have hcv : Z.cell? ⟨blk, off + v, none⟩ = some (.int .i64 X) := (hB.cell (p := ⟨blk, off + v, none⟩) hbl0).trans hc1
    have HD := fun (w : World) (hc : w.cell? ⟨blk, off + v, none⟩ = some (.int .i64 X)) => degree_any blk off n c v X w hX64 hvn hc
    obtain ⟨z, ez⟩ : ∃ z, z = cnt X := ⟨_, rfl⟩
    rw [← ez] at hcl6 dm HD
    have a1 := addr_mat g v hv6
    have a2 := addr_row g (v * 6) v hv6
    obtain ⟨old, eo⟩ : ∃ old, old = lapP L (valsN pre) v v := ⟨_, rfl⟩
    have z1 := c2.cell hv6 hv6
    have f1 := c2.frozen (v * 6 + v)
    rw [← eo] at z1
    have z0 := c0.cell
    have hng : IntKind.i64.wrap (-((z : Nat) : Int)) = -((z : Nat) : Int) := by rw [wrapK]; exact wrap_id (by omega) (by omega)
    have hng2 : wrap64 (-((z : Nat) : Int)) = -((z : Nat) : Int) := wrap_id (by omega) (by omega)
    obtain ⟨y, ey⟩ : ∃ y : Int, y = -((z : Nat) : Int) := ⟨_, rfl⟩
    rw [← ey] at dm
    have DM := Lib.hid dm
    have C0 := Lib.hid c0
    have HDD := Lib.hid HD
    have EY := Lib.hid ey
    have HNG := Lib.hid hng
    have HNG2 := Lib.hid hng2
    have hmx : Tryd.prog.follows .mixedOrders = true := by kernel_rfl
    clear c0 c2 dm eo ez eX HD hA1 hbl1 hc1 hvL hin hX hXl h64 hcl6 hlen ey hng hng2
    obtain ⟨p1, ep1⟩ : ∃ p1 : Addr, p1 = ⟨g, v * 6 + v, none⟩ := ⟨_, rfl⟩
    rw [← ep1] at a2 z1 f1 DM
    have EP1 := Lib.hid ep1
    clear ep1
    gi_wp2
    refine wpIn_region_inv hmx (fun listed a W => ∃ b0 b1 b2 b3 b4 b5 b6 b7 b8 : Bool, listed = #[b0, b1, b2, b3, b4, b5, b6, b7, b8] ∧
      a = { tmps := #[.slice (some ⟨blk, off, none⟩) n c, .pointer (some ⟨n₀, 0, none⟩), .int .i64 0, .pointer (some ⟨g, 0, none⟩), .int .i64 (v : Int), .slice (some ⟨blk, off, none⟩) n c, .agg (matC ms), .slice (some ⟨blk, off, none⟩) n c,
        .func (.func 82) #[] #[.pointer (some ⟨g + 1, 0, none⟩)], .int .i64 (v : Int),
        sl b0 (.int .i64 (v : Int)), sl b1 (.int .i64 (v : Int)), sl b2 (.slice (some ⟨blk, off, none⟩) n c), sl b3 (.int .i64 (v : Int)), sl b4 (.int .i64 (z : Nat)), sl b5 (.int .i64 y), sl b6 (.pointer (some ⟨g, v * 6, none⟩)), sl b7 (.pointer (some p1)), undef, undef, undef, undef, undef, undef, undef, undef, undef], defers := [] } ∧
      (b8 = true → b2 = true ∧ b4 = true) ∧ W = (if b8 then Z.setCell p1 (.int .i64 y) else Z).drew) ?h0 ?step ?hu ?hend
    case hu => decide +kernel
    case h0 => exact ⟨false, false, false, false, false, false, false, false, false, rfl, rfl, (fun h => by cases h), rfl⟩
    case step =>
      rintro listed a W i ⟨b0, b1, b2, b3, b4, b5, b6, b7, b8, rfl, rfl, hcl, rfl⟩ hi
      obtain ⟨hi0, o, ho, haf⟩ := mem_ready.1 hi
      have hlt : i < 9 := (Array.getElem?_eq_some_iff.1 ho).1
      obtain rfl | rfl | rfl | rfl | rfl | rfl | rfl | rfl | rfl : i = 0 ∨ i = 1 ∨ i = 2 ∨ i = 3 ∨ i = 4 ∨ i = 5 ∨ i = 6 ∨ i = 7 ∨ i = 8 := by omega
      all_goals
        cases ho
        simp [Region.binds] at hi0 haf
        clear hi hlt
      case inl.refl =>
        subst hi0
        refine wpOpIn_step rfl (fun K hK => ?_)
        rw [if_pos (by rfl)]
        go_simp
        exact hK _ _ ⟨true, b1, b2, b3, b4, b5, b6, b7, b8, rfl, rfl, hcl, rfl⟩
      case inr.inl.refl =>
        subst hi0
        refine wpOpIn_step rfl (fun K hK => ?_)
        rw [if_pos (by rfl)]
        go_simp
        exact hK _ _ ⟨b0, true, b2, b3, b4, b5, b6, b7, b8, rfl, rfl, hcl, rfl⟩
      case inr.inr.inl.refl =>
        subst hi0
        have h8 : b8 = false := by cases b8 <;> simp_all
        subst h8
        refine wpOpIn_step rfl (fun K hK => ?_)
        rw [if_pos (by rfl)]
        go_simp
        exact hK _ _ ⟨b0, b1, true, b3, b4, b5, b6, b7, false, rfl, rfl, (fun h => by cases h), rfl⟩
      case inr.inr.inr.inl.refl =>
        subst hi0
        refine wpOpIn_step rfl (fun K hK => ?_)
        rw [if_pos (by rfl)]
        go_simp
        exact hK _ _ ⟨b0, b1, b2, true, b4, b5, b6, b7, b8, rfl, rfl, hcl, rfl⟩
      case inr.inr.inr.inr.inl.refl =>
        subst hi0
        have h8 : b8 = false := by cases b8 <;> simp_all
        subst h8
        obtain ⟨h2', h3'⟩ := haf
        subst h2'
        subst h3'
        refine wpOpIn_step rfl (fun K hK => ?_)
        rw [if_pos (by rfl)]
        go_simp
        refine ⟨trivial, (CallsIn.inRound l (callsIn_wide.2 (HDD.out Z.drew hcv))).mono ?_⟩
        rintro e w' ⟨rfl, rfl⟩
        exact hK _ _ ⟨b0, b1, true, true, true, b5, b6, b7, false, rfl, rfl, (fun h => by cases h), rfl⟩
      case inr.inr.inr.inr.inr.inl.refl =>
        subst hi0
        have h4' : b4 = true := by first | exact haf | exact haf.1
        clear haf
        subst h4'
        refine wpOpIn_step rfl (fun K hK => ?_)
        rw [if_pos (by rfl)]
        go_simp
        exact hK _ _ ⟨b0, b1, b2, b3, true, true, b6, b7, b8, rfl, by simp only [EY.out, HNG.out, sl_true], hcl, rfl⟩
      case inr.inr.inr.inr.inr.inr.inl.refl =>
        subst hi0
        have h0' : b0 = true := by first | exact haf | exact haf.1
        clear haf
        subst h0'
        refine wpOpIn_step rfl (fun K hK => ?_)
        rw [if_pos (by rfl)]
        go_simp
        exact hK _ _ ⟨true, b1, b2, b3, b4, b5, true, b7, b8, rfl, rfl, hcl, rfl⟩
      case inr.inr.inr.inr.inr.inr.inr.inl.refl =>
        subst hi0
        have h1' : b1 = true := by cases b1 <;> simp_all
        have h6' : b6 = true := by cases b6 <;> simp_all
        clear haf
        subst h1'
        subst h6'
        refine wpOpIn_step rfl (fun K hK => ?_)
        rw [if_pos (by rfl)]
        go_simp
        exact hK _ _ ⟨b0, true, b2, b3, b4, b5, true, true, b8, rfl, rfl, hcl, rfl⟩
      case inr.inr.inr.inr.inr.inr.inr.inr.refl =>
        subst hi0
        have h2' : b2 = true := by cases b2 <;> simp_all
        have h4' : b4 = true := by cases b4 <;> simp_all
        have h5' : b5 = true := by cases b5 <;> simp_all
        have h7' : b7 = true := by cases b7 <;> simp_all
        clear haf
        subst h2'
        subst h4'
        subst h5'
        subst h7'
        refine wpOpIn_step rfl (fun K hK => ?_)
        rw [if_pos (by rfl)]
        go_simp
        exact hK _ _ ⟨b0, b1, true, b3, true, true, b6, true, true, rfl, rfl, fun _ => ⟨rfl, rfl⟩, rfl⟩
    case hend =>
      rintro listed a W ⟨b0, b1, b2, b3, b4, b5, b6, b7, b8, rfl, rfl, hcl, rfl⟩ hall
      have h8 : b8 = true := hall 8 (by decide)
      subst h8
      simp only [if_true]
      gi_wp2
      have e1 := EP1.out
      have q1 : p1.block = g := by rw [e1]
      have hB2 : Below n₀ Z (Z.setCell p1 (.int .i64 y)).drew := ((Below.refl n₀ Z).setCell (p := p1) (by omega) _).drew
      exact ⟨(KeepsOthers.setCell _ _ _).trans (KeepsOthers.drew _), hB2, ⟨(Below.heap_setCell _ _ _ _ (by omega)).trans C0.out, DM.out⟩, hB.trans hB2⟩
  case done =>
    rintro D xs Z hD hS ⟨⟨c0, c2⟩, hB⟩ hK
    have e0 : valsN xs = List.range n := by
      rw [hS]
      have e2 : Q = 2 ^ n - 1 := by have := HQ.out; omega
      have e3 := nodes_all ⟨n, by omega⟩
      dsimp only at e3
      rw [e2, e3]
    rw [e0] at c2
    have C1 := Lib.hid (c2.congr HE.out)
    have C0 := Lib.hid c0
    have hn₀Z : n₀ < Z.heap.size := (Array.getElem?_eq_some_iff.1 c0).1
    have hDZ : D < Z.heap.size := (Array.getElem?_eq_some_iff.1 hK).1
    have hmx : Tryd.prog.follows .mixedOrders = true := by kernel_rfl
    have hcS : ∀ W : World, Below Z.heap.size Z.drew W → W.cell? ⟨n₀, 0, none⟩ = some (.slice (some ⟨blk, off, none⟩) n c) := fun W hb => (hb.cell (p := ⟨n₀, 0, none⟩) hn₀Z).trans c0.cell
    have hcM : ∀ W : World, Below Z.heap.size Z.drew W → MatAt W g ml := fun W hb => MatAt.below (w := Z.drew) C1.out hb C1.out.lt
    have HCS := Lib.hid hcS
    have HCM := Lib.hid hcM
    have HB := Lib.hid hB
    have HK := Lib.hid hK
    have hk0 : (((n : Nat) : Int) == 0) = false := by simp; omega
    have hk1 : ((n : Nat) : Int) ≠ 0 := by omega
    have hnz : ¬ n = 0 := by omega
    obtain ⟨x, ex⟩ : ∃ x, x = pq[1]?.getD 0 := ⟨_, rfl⟩
    have hqt : x.tdiv ((n : Nat) : Int) = ((t : Nat) : Int) := by rw [ex]; exact HQT.out
    have hwt : wrap64 ((t : Nat) : Int) = ((t : Nat) : Int) := by have := HTB.out; exact wrap_id (by omega) (by omega)
    have hwk : IntKind.i64.wrap ((t : Nat) : Int) = ((t : Nat) : Int) := by rw [wrapK]; exact hwt
    have EX := Lib.hid ex
    have hi1 : (1 : Int) < (n : Int) + 1 := by omega
    have HD2 := Lib.hid hD
    clear c0 c2 hcS hcM hB hK e0 hS hD ex
    gi_wp2
    refine wpIn_region_inv hmx (fun listed a W => ∃ (b0 b1 b2 b3 b4 b5 b6 b7 b8 b9 : Bool) (pb pc : Nat), listed = #[b0, b1, b2, b3, b4, b5, b6, b7, b8, b9] ∧
      a = { tmps := #[.slice (some ⟨blk, off, none⟩) n c, .pointer (some ⟨n₀, 0, none⟩), .int .i64 (if b9 then (t : Int) else 0), .pointer (some ⟨g, 0, none⟩), undef, .slice (some ⟨blk, off, none⟩) n c, .agg (matC ms), .slice (some ⟨blk, off, none⟩) n c,
        .func (.func 82) #[] #[.pointer (some ⟨g + 1, 0, none⟩)], undef, undef, undef, undef, undef, undef, undef, undef, undef,
        sl b0 (.agg (matC ml)), sl b1 (.slice (some ⟨blk, off, none⟩) n c), sl b2 (.int .i64 (n : Nat)), sl b3 (.slice (some ⟨pb, 0, none⟩) (n + 1 : Nat) pc), sl b4 (.pointer (some ⟨pb, 1, none⟩)), sl b5 (.int .i64 x), sl b6 (.slice (some ⟨blk, off, none⟩) n c), sl b7 (.int .i64 (n : Nat)), sl b8 (.int .i64 (t : Nat))], defers := [{ target := .collected D, args := #[] }] } ∧
      (b3 = true → W.cell? ⟨pb, 1, none⟩ = some (.int .i64 x)) ∧ (b4 = true → b3 = true) ∧ Below Z.heap.size Z.drew W) ?h0 ?step ?hu ?hend
    case hu => decide +kernel
    case h0 => exact ⟨false, false, false, false, false, false, false, false, false, false, 0, 0, rfl, rfl, (fun h => by cases h), (fun h => by cases h), Below.refl _ _⟩
    case step =>
      rintro listed a W i ⟨b0, b1, b2, b3, b4, b5, b6, b7, b8, b9, pb, pc, rfl, rfl, hcx, h43, hW⟩ hi
      obtain ⟨hi0, o, ho, haf⟩ := mem_ready.1 hi
      have hlt : i < 10 := (Array.getElem?_eq_some_iff.1 ho).1
      obtain rfl | rfl | rfl | rfl | rfl | rfl | rfl | rfl | rfl | rfl : i = 0 ∨ i = 1 ∨ i = 2 ∨ i = 3 ∨ i = 4 ∨ i = 5 ∨ i = 6 ∨ i = 7 ∨ i = 8 ∨ i = 9 := by omega
      all_goals
        cases ho
        simp [Region.binds] at hi0 haf
        clear hi hlt
      case inl.refl =>
        subst hi0
        refine wpOpIn_step rfl (fun K hK => ?_)
        rw [if_pos (by rfl)]
        refine opIn_load_mat (.tmp 3) rfl g ml rfl (HCM.out W hW) ?_
        exact hK _ _ ⟨true, b1, b2, b3, b4, b5, b6, b7, b8, b9, pb, pc, rfl, rfl, hcx, h43, hW⟩
      case inr.inl.refl =>
        subst hi0
        have y0 := HCS.out W hW
        refine wpOpIn_step rfl (fun K hK => ?_)
        rw [if_pos (by rfl)]
        go_simp
        exact hK _ _ ⟨b0, true, b2, b3, b4, b5, b6, b7, b8, b9, pb, pc, rfl, rfl, hcx, h43, hW⟩
      case inr.inr.inl.refl =>
        subst hi0
        have h1' : b1 = true := by cases b1 <;> simp_all
        clear haf
        subst h1'
        refine wpOpIn_step rfl (fun K hK => ?_)
        rw [if_pos (by rfl)]
        go_simp
        exact hK _ _ ⟨b0, true, true, b3, b4, b5, b6, b7, b8, b9, pb, pc, rfl, rfl, hcx, h43, hW⟩
      case inr.inr.inr.inl.refl =>
        subst hi0
        have h0' : b0 = true := by cases b0 <;> simp_all
        have h2' : b2 = true := by cases b2 <;> simp_all
        have h4' : b4 = false := by cases b4 <;> simp_all
        clear haf hcx h43
        subst h0'
        subst h2'
        subst h4'
        refine wpOpIn_step rfl (fun K hK => ?_)
        rw [if_pos (by rfl)]
        go_simp
        refine ⟨trivial, (callsIn_wide.2 (HP.out W)).mono ?_⟩
        rintro e w' ⟨vv, rfl, hrow, bw⟩
        obtain ⟨A', c', rfl, hA'⟩ := hrow.see
        have hpl := HPL.out
        obtain ⟨g', rfl, _, hc', _⟩ := hA' 1 (by omega)
        rw [← EX.out] at hc'
        rw [hpl]
        exact hK _ _ ⟨true, b1, true, true, false, b5, b6, b7, b8, b9, g', c', rfl, rfl, fun _ => hc', (fun h => by cases h), hW.trans (bw.mono hW.size)⟩
      case inr.inr.inr.inr.inl.refl =>
        subst hi0
        have h3' : b3 = true := by cases b3 <;> simp_all
        clear haf
        subst h3'
        refine wpOpIn_step rfl (fun K hK => ?_)
        rw [if_pos (by rfl)]
        go_simp
        exact hK _ _ ⟨b0, b1, b2, true, true, b5, b6, b7, b8, b9, pb, pc, rfl, rfl, hcx, fun _ => rfl, hW⟩
      case inr.inr.inr.inr.inr.inl.refl =>
        subst hi0
        have h4' : b4 = true := by cases b4 <;> simp_all
        clear haf
        subst h4'
        have h3' : b3 = true := h43 rfl
        subst h3'
        have y0 := hcx rfl
        refine wpOpIn_step rfl (fun K hK => ?_)
        rw [if_pos (by rfl)]
        go_simp
        exact hK _ _ ⟨b0, b1, b2, true, true, true, b6, b7, b8, b9, pb, pc, rfl, rfl, hcx, h43, hW⟩
      case inr.inr.inr.inr.inr.inr.inl.refl =>
        subst hi0
        have y0 := HCS.out W hW
        refine wpOpIn_step rfl (fun K hK => ?_)
        rw [if_pos (by rfl)]
        go_simp
        exact hK _ _ ⟨b0, b1, b2, b3, b4, b5, true, b7, b8, b9, pb, pc, rfl, rfl, hcx, h43, hW⟩
      case inr.inr.inr.inr.inr.inr.inr.inl.refl =>
        subst hi0
        have h6' : b6 = true := by cases b6 <;> simp_all
        clear haf
        subst h6'
        refine wpOpIn_step rfl (fun K hK => ?_)
        rw [if_pos (by rfl)]
        go_simp
        exact hK _ _ ⟨b0, b1, b2, b3, b4, b5, true, true, b8, b9, pb, pc, rfl, rfl, hcx, h43, hW⟩
      case inr.inr.inr.inr.inr.inr.inr.inr.inl.refl =>
        subst hi0
        have h5' : b5 = true := by cases b5 <;> simp_all
        have h7' : b7 = true := by cases b7 <;> simp_all
        clear haf
        subst h5'
        subst h7'
        refine wpOpIn_step rfl (fun K hK => ?_)
        rw [if_pos (by rfl)]
        go_simp
        exact hK _ _ ⟨b0, b1, b2, b3, b4, true, b6, true, true, b9, pb, pc, rfl, rfl, hcx, h43, hW⟩
      case inr.inr.inr.inr.inr.inr.inr.inr.inr.refl =>
        subst hi0
        have h8' : b8 = true := by cases b8 <;> simp_all
        clear haf
        subst h8'
        refine wpOpIn_step rfl (fun K hK => ?_)
        rw [if_pos (by rfl)]
        go_simp
        exact hK _ _ ⟨b0, b1, b2, b3, b4, b5, b6, b7, true, true, pb, pc, rfl, rfl, hcx, h43, hW⟩
    case hend =>
      rintro listed a W ⟨b0, b1, b2, b3, b4, b5, b6, b7, b8, b9, pb, pc, rfl, rfl, hcx, h43, hW⟩ hall
      have h9 : b9 = true := hall 9 (by decide)
      subst h9
      simp only [if_true]
      have hK2 := (hW.block D hDZ).trans HK.out
      have hBW : Below n₀ w W := HB.out.drew.trans (hW.mono (Nat.le_of_lt hn₀Z))
      gi_wp2
      refine ⟨by simp, .inl ⟨_, _, rfl, run_takeDeferred hK2, ?_⟩⟩
      refine ⟨_, results_tmp rfl _ _ _, ?_⟩
      refine ⟨rfl, ?_⟩
      rw [← EN.out]
      exact hBW.trans (belowK_b (w := w) hle W D _ _ (by have := EN.out; have := HD2.out; omega) hK2 rfl rfl)
  case stop =>
    rintro D cd pre W _ _ h _
    exact h.elim
end Go.Proofs.YtkngijkhhonikaaDoor
