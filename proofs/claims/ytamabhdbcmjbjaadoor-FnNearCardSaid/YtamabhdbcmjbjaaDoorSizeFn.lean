/- The program's number of edges of a graph, by a range over its iterator. -/
import Derived.Test.YtamabhdbcmjbjaaDoorEdges
import Derived.Test.YtamabhdbcmjbjaaDoorBaseA
namespace Go.Proofs.YtamabhdbcmjbjaaDoor
open Go.RowKit Go.Shelf
attribute [local go_sem] Oper.semAt_some
set_option linter.unusedVariables false

/-- edges hands out its iterator; the graph lies in a box. -/
theorem edges_any (A : Option Addr) (n c : Nat) (w : World) : Calls Tryd.prog 71 #[.slice A n c] w fun e w' =>
    e = .returned (.func (.func 87) #[] #[.pointer (some ⟨w.heap.size, 0, none⟩)]) ∧ w.alloc (.cells #[.slice A n c] 41) = w' := by
  have hmf : ∀ (fn : Fn) (first cap : Array Value) (w : World), (Instr.makeFunc fn first cap).run Tryd.prog w = .ok (.func fn first cap) w := fun _ _ _ _ => rfl
  go_enter Tryd.func71, Tryd.ntmps71
  go_wp2
  go_ret
  exact ⟨rfl, rfl⟩

theorem edgesOf_all {L : List Int} {n : Nat} (ys : List (Pr n)) (h : vals ys = rows n) : (edgesOf L ys).length = (edgesIn L (rows n)).length := by
  rw [← h]
  unfold edgesIn vals edgesOf
  rw [List.filter_map, List.length_map]
  rfl
theorem edgesN_eq (L : List Int) (h : L.length ≤ 6) : edgesN L = (edgesIn L (rows L.length)).length := pc_crun L _ (rows_length _ h)

theorem keepG_t {B : Nat} {A : Option Addr} {c n : Nat} {L : List Int} {X Y Z : World} (h : KeepG B A c n L X Y) (k : KeepG B A c n L Y Z) : KeepG B A c n L X Z := ⟨fun x => k.1 (h.1 x), fun x => k.2 (h.2 x)⟩
theorem keepG_b {B : Nat} {A : Option Addr} {c n : Nat} {L : List Int} (W : World) (l : Nat) (o o' : Obj) (h : W.heap[l]? = some o) (ho : o.isCells = false) : KeepG B A c n L W (W.putObj l o') :=
  ⟨fun x => (boxed_own (β := Unit) B _ (fun _ => _)).putObj (s := ()) o' x h ho, fun x => (seen_own (β := Unit) A L).putObj (s := ()) o' x h ho⟩

set_option maxRecDepth 100000 in
set_option maxHeartbeats 2000000 in
theorem implSize_in (A : Option Addr) (c : Nat) (L : List Int) (hg : IsGraph L) (w : World) (h : Seen w A L) :
    CallsIn Fence.wide 6 Tryd.prog 46 #[.slice A L.length c] w (NumB w (edgesN L)) := by
  have h1 := hg.1
  have h6 := hg.2.1
  have hE := edgesN_eq L h6
  obtain ⟨n, hn⟩ : ∃ n, n = L.length := ⟨_, rfl⟩
  rw [← hn] at h1 h6 hE ⊢
  have HN := Lib.hid hn
  have H := Lib.hid h
  have HG := Lib.hid hg
  have HE := Lib.hid hE
  clear h hg hn hE
  refine callsIn_of_wp_marks Tryd.func46 rfl trivial ?_ rfl
  simp only [Tryd.ntmps46, List.size_toArray, List.length_cons, List.length_nil, Nat.reduceAdd, Nat.reduceSub, Array.replicate_succ, Array.replicate_zero, List.push_toArray, List.append_toArray, List.nil_append, List.cons_append]
  gi_wp2_with (refine ⟨trivial, ?_⟩; gi_at_call 71; refine (callsIn_wide.2 (edges_any _ _ _ _)).mono ?_; rintro e w' ⟨rfl, rfl⟩)
  obtain ⟨W, eW⟩ : ∃ W, W = (w.alloc (.cells #[.int .i64 0] 3)).alloc (.cells #[.slice A n c] 41) := ⟨_, rfl⟩
  have sW : W.heap.size = w.heap.size + 1 + 1 := by rw [eW]; simp
  have hBW : Below w.heap.size w W := by rw [eW]; exact ((Below.refl _ w).alloc (Nat.le_refl _) _).alloc (by simp) _
  have b0 : Boxed W w.heap.size 3 (.int .i64 0) := by rw [eW]; exact (Boxed.new w _ _).alloc _
  have b1 : Boxed W (w.heap.size + 1) 41 (.slice A n c) := by
    rw [eW]; have h := Boxed.new (w.alloc (.cells #[.int .i64 0] 3)) 41 (.slice A n c); rw [World.size_alloc] at h; exact h
  rw [← eW]
  clear eW
  obtain ⟨n₀, en⟩ : ∃ n₀, n₀ = w.heap.size := ⟨_, rfl⟩
  rw [← en] at sW hBW b0 b1 ⊢
  have hle : n₀ ≤ w.heap.size := by omega
  have EN := Lib.hid en
  have hsW : Seen W A L := H.out.below (by rw [← en]; exact hBW)
  clear en
  refine wpIn_outer (α := Pr n) rfl (by omega) (gf := 87) (lb := #[.pointer (some ⟨n₀ + 1, 0, none⟩)]) rfl trivial (enters_of Tryd.func87 (by kernel_rfl) rfl)
    (edges_stops A c L n HN.out HG.out (n₀ + 1) W (by omega) b1 hsW) keepG_t (fun W l o o' _ ho hc _ => keepG_b W l o o' ho hc) (Below.refl _ _) (fun _ => rfl)
    (fun pre Z => (Boxed Z n₀ 3 (.int .i64 (pre.length : Nat)) ∧ Boxed Z (n₀ + 1) 41 (.slice A n c)) ∧ Below n₀ w Z) (fun _ _ _ => False)
    (OwnFrom.and (OwnFrom.and (Own.from (boxed_own _ _ _) _) (Own.from (boxed_own _ _ _) _)) (ownFrom_below hle (by omega))) (fun _ _ _ _ _ hs _ _ => hs)
    ⟨⟨b0, b1⟩, hBW⟩
    (fun x => { tmps := #[.slice A n c, undef, .int .i64 0, .pointer (some ⟨n₀, 0, none⟩), .slice A n c,
      .func (.func 87) #[] #[.pointer (some ⟨n₀ + 1, 0, none⟩)], .int .i64 (x.1.1 : Int), .int .i64 (x.1.2 : Int), undef, undef, undef], defers := [] }) ?assign ?body ?done ?stop
  case assign =>
    intro l x W K hK
    gi_wp2
    simpa [encP] using hK
  case body =>
    rintro l pre x Z ⟨⟨c0, c1⟩, hB⟩ hlen
    obtain ⟨q, eq⟩ : ∃ q, q = pre.length := ⟨_, rfl⟩
    have hk1 : (pre ++ [x]).length = q + 1 := by rw [List.length_append, eq]; rfl
    rw [← eq] at c0 hlen
    have z0 := c0.cell
    have y0 := c0.frozen
    have K1 := Lib.hid hk1
    clear eq hk1
    gi_wp2
    have hB2 : Below n₀ w (Z.setCell ⟨n₀, 0, none⟩ (.int .i64 ((q + 1 : Nat) : Int))) := hB.setCell (p := ⟨n₀, 0, none⟩) (Nat.le_refl _) _
    have hG2 : Boxed (Z.setCell ⟨n₀, 0, none⟩ (.int .i64 ((q + 1 : Nat) : Int))) (n₀ + 1) 41 (.slice A n c) := c1.other (by omega) _
    refine ⟨⟨(KeepsOthers.setCell _ _ _).from _, ⟨fun _ => hG2, fun _ => H.out.below (by rw [← EN.out]; exact hB2)⟩, ⟨?_, hG2⟩, hB2⟩, ?_⟩
    · rw [K1.out]; exact c0.set _
    · intro k o h1 _ h3
      exact (Below.heap_setCell _ _ _ k (fun e => by dsimp only at e; omega)).trans h3
  case done =>
    rintro D xs Z hD hS ⟨⟨c0, c1⟩, hB⟩ hK
    have z0 := c0.cell
    have HS := Lib.hid hS
    clear hS
    gi_wp2
    refine ⟨by simp, .inl ⟨_, _, rfl, run_takeDeferred hK, ?_⟩⟩
    refine ⟨_, results_tmp rfl _ _ _, ?_⟩
    refine ⟨?_, ?_⟩
    · obtain ⟨ys, hy, rfl⟩ := HS.out
      rw [HE.out, ← edgesOf_all ys hy]
      rfl
    · rw [← EN.out]
      exact hB.trans (belowK_b (w := w) hle Z D _ _ (by have := EN.out; omega) hK rfl rfl)
  case stop =>
    rintro D cd pre W _ _ h _
    exact h.elim
end Go.Proofs.YtamabhdbcmjbjaaDoor
