/- The program's greedyColours and SetGreedy. -/
import Derived.Test.YtcblcifnpgmibaaDoorGreedyFn
import Derived.Test.YtcblcifnpgmibaaDoorAreNames
import Derived.Test.YtcblcifnpgmibaaDoorEdges
namespace Go.Proofs.YtcblcifnpgmibaaDoor
open Go.RowKit Go.Shelf
attribute [local go_sem] Oper.semAt_some
set_option linter.unusedVariables false
set_option maxRecDepth 100000

theorem greedy_any (A A' : Option Addr) (n c m c' : Nat) (w : World) : Calls Tryd.prog 69 #[.slice A n c, .slice A' m c'] w fun e w' =>
    e = .returned (.func (.func 77) #[] #[.pointer (some ⟨w.heap.size, 0, none⟩), .pointer (some ⟨w.heap.size + 1, 0, none⟩)]) ∧ (w.alloc (.cells #[.slice A n c] 36)).alloc (.cells #[.slice A' m c'] 22) = w' := by
  have hmf : ∀ (fn : Fn) (first cap : Array Value) (w : World), (Instr.makeFunc fn first cap).run Tryd.prog w = .ok (.func fn first cap) w := fun _ _ _ _ => rfl
  go_enter Tryd.func69, Tryd.ntmps69
  go_wp2
  go_ret
  exact ⟨rfl, rfl⟩
/-- Some nodes with colours, put into a list. -/
def outX (n : Nat) (xs : List (Nat × Nat)) : List Nat := xs.foldl (fun l x => l.set x.1 x.2) (List.replicate n 0)
theorem outX_snoc (n : Nat) (xs : List (Nat × Nat)) (x : Nat × Nat) : outX n (xs ++ [x]) = (outX n xs).set x.1 x.2 := by simp [outX]
theorem outX_length (n : Nat) (xs : List (Nat × Nat)) : (outX n xs).length = n := by
  induction xs using snoc_ind with
  | h0 => simp [outX]
  | h1 l x ih => rw [outX_snoc, List.length_set, ih]
theorem outX_gP (L : List Int) (n : Nat) (vs : List Nat) : outX n (gP L n vs) = (gS L n vs).2 := by
  have h : ∀ k, k ≤ vs.length → outX n (gP L n (vs.take k)) = (gS L n (vs.take k)).2 := fun k => by
    induction k with
    | zero => intro _; rfl
    | succ k ih =>
      intro hk
      rw [gP_take L n vs k (by omega), outX_snoc, ih (by omega), takeG (show k < vs.length by omega), gS_snoc]
      rfl
  have := h vs.length (Nat.le_refl _)
  rwa [List.take_length] at this
def GcI (n₀ n : Nat) (w : World) (pre : List (NC n)) (Z : World) : Prop :=
  (Row Z n₀ (.slice (some ⟨n₀, 0, none⟩) n n) (ints (outX n (valsG pre))) ∧ Boxed Z (n₀ + 1) 22 (.slice (some ⟨n₀, 0, none⟩) n n)) ∧ Below n₀ w Z
theorem row_lowB {X Y : World} {B g n cap m : Nat} {xs : List Int} (h : Row X B (.slice (some ⟨g, 0, none⟩) n cap) xs) (hb : Below m X Y) (hg : g < m) : Row Y B (.slice (some ⟨g, 0, none⟩) n cap) xs := by
  obtain ⟨h0, h1⟩ := h
  refine ⟨h0, ?_⟩
  rcases h1 with ⟨h1, _⟩ | ⟨g', cap', cur, a1, a2, a3, a4⟩
  · cases h1
  · refine .inr ⟨g', cap', cur, a1, a2, (hb.block _ ?_).trans a3, a4⟩
    injection a1 with e1; injection e1 with e1; injection e1 with e1; omega
theorem gcI_far (n₀ n B : Nat) (w : World) (hB : n₀ + 2 ≤ B) (hle : n₀ ≤ w.heap.size) : FarI B (GcI n₀ n w) := fun s X Y ⟨⟨h1, h2⟩, h3⟩ hb =>
  ⟨⟨row_lowB h1 hb (by omega), (hb.block (n₀ + 1) (by omega)).trans h2⟩, h3.trans (hb.mono (by omega))⟩

set_option maxHeartbeats 4000000 in
theorem greedyColours_in (A A' : Option Addr) (c c' : Nat) (L : List Int) (hg : IsGraph L) (vs : List Nat) (hl : vs.length ≤ L.length) (hl1 : 1 ≤ vs.length) (hv : ∀ v ∈ vs, v < L.length) (w : World) (h : Seen w A L) (h' : Seen w A' (ints vs)) :
    CallsIn Fence.wide 8 Tryd.prog 51 #[.slice A L.length c, .slice A' vs.length c'] w (Gave w (ints (gS L L.length vs).2)) := by
  have h1 := hg.1
  have h6 := hg.2.1
  have HAB : Hid (∀ b off, A = some ⟨b, off, none⟩ → b < w.heap.size) := Lib.hid fun b off a => by
    obtain ⟨b', off', a', hlt, _⟩ := h 0 (by omega)
    rw [a] at a'
    injection a' with a'
    injection a' with a1 a2
    rw [a1]; exact hlt
  have HAB' : Hid (∀ b off, A' = some ⟨b, off, none⟩ → b < w.heap.size) := Lib.hid fun b off a => by
    obtain ⟨b', off', a', hlt, _⟩ := h' 0 (by rw [ints_length]; omega)
    rw [a] at a'
    injection a' with a'
    injection a' with a1 a2
    rw [a1]; exact hlt
  have HO := Lib.hid (outX_gP L L.length vs)
  obtain ⟨n, hn⟩ : ∃ n, n = L.length := ⟨_, rfl⟩
  rw [← hn] at h1 h6 hl hv HO ⊢
  have hmk := run_make_ints n (by omega)
  have HN := Lib.hid hn
  have H := Lib.hid h
  have H' := Lib.hid h'
  have HG := Lib.hid hg
  have HV := Lib.hid hv
  have HL := Lib.hid hl
  clear h h' hg hn hv hl hl1
  refine callsIn_of_wp_marks Tryd.func51 rfl trivial ?_ rfl
  simp only [Tryd.ntmps51, List.size_toArray, List.length_cons, List.length_nil, Nat.reduceAdd, Nat.reduceSub, Array.replicate_succ, Array.replicate_zero, List.push_toArray, List.append_toArray, List.nil_append, List.cons_append]
  have hms : ∀ x, (madeW x n).heap.size = x.heap.size + 1 := fun x => madeW_size x n
  gi_wp2_with (refine ⟨trivial, ?_⟩; gi_at_call 69; refine (callsIn_wide.2 (greedy_any _ _ _ _ _ _ _)).mono ?_; rintro e w' ⟨rfl, rfl⟩)
  obtain ⟨W, eW⟩ : ∃ W, W = (((madeW w n).alloc (.cells #[.slice (some ⟨w.heap.size, 0, none⟩) n n] 22)).alloc (.cells #[.slice A n c] 36)).alloc (.cells #[.slice A' vs.length c'] 22) := ⟨_, rfl⟩
  have sW : W.heap.size = w.heap.size + 1 + 1 + 1 + 1 := by rw [eW]; simp [hms]
  have hBW : Below w.heap.size w W := by rw [eW]; exact (((madeW_below w n).alloc (by rw [hms]; omega) _).alloc (by simp [hms]; omega) _).alloc (by simp [hms]; omega) _
  have r0 : Row W w.heap.size (.slice (some ⟨w.heap.size, 0, none⟩) n n) (ints (outX n (valsG ([] : List (NC n))))) := by rw [eW]; exact (((madeW_row w n (by omega)).alloc _).alloc _).alloc _
  have b1 : Boxed W (w.heap.size + 1) 22 (.slice (some ⟨w.heap.size, 0, none⟩) n n) := by
    rw [eW]; have h := Boxed.new (madeW w n) 22 (.slice (some ⟨w.heap.size, 0, none⟩) n n); rw [hms] at h; exact (h.alloc _).alloc _
  have b2 : Boxed W (w.heap.size + 1 + 1) 36 (.slice A n c) := by
    rw [eW]; have h := Boxed.new ((madeW w n).alloc (.cells #[.slice (some ⟨w.heap.size, 0, none⟩) n n] 22)) 36 (.slice A n c); rw [World.size_alloc, hms] at h; exact h.alloc _
  have b3 : Boxed W (w.heap.size + 1 + 1 + 1) 22 (.slice A' vs.length c') := by
    rw [eW]; have h := Boxed.new (((madeW w n).alloc (.cells #[.slice (some ⟨w.heap.size, 0, none⟩) n n] 22)).alloc (.cells #[.slice A n c] 36)) 22 (.slice A' vs.length c'); rw [World.size_alloc, World.size_alloc, hms] at h; exact h
  rw [← eW]
  clear eW hmk hms
  obtain ⟨n₀, en⟩ : ∃ n₀, n₀ = w.heap.size := ⟨_, rfl⟩
  rw [← en] at sW hBW r0 b1 b2 b3 HAB HAB' ⊢
  have hle : n₀ ≤ w.heap.size := by omega
  have sA : Seen W A L := H.out.below (by rw [← en]; exact hBW)
  have sP : Seen W A' (ints vs) := H'.out.below (by rw [← en]; exact hBW)
  have EN := Lib.hid en
  have SW := Lib.hid sW
  have HBW : n₀ + 2 ≤ W.heap.size := by omega
  clear en sW
  refine wpIn_far (α := NC n) rfl (by omega) (gf := 77) (lb := #[.pointer (some ⟨n₀ + 1 + 1, 0, none⟩), .pointer (some ⟨n₀ + 1 + 1 + 1, 0, none⟩)]) rfl trivial (enters_of Tryd.func77 (by kernel_rfl) rfl)
    (greedy_farN A A' c c' L n HN.out HG.out vs HL.out HV.out (n₀ + 1 + 1) (n₀ + 1 + 1 + 1) W b2 b3 sA sP)
    (fun h k => ⟨fun x => k.1 (h.1 x), fun x => k.2.1 (h.2.1 x), fun x => k.2.2.1 (h.2.2.1 x), fun x => k.2.2.2 (h.2.2.2 x)⟩)
    (fun W l o o' _ ho hc _ => ⟨fun x => (boxed_own (β := Unit) _ _ (fun _ => _)).putObj (s := ()) o' x ho hc, fun x => (boxed_own (β := Unit) _ _ (fun _ => _)).putObj (s := ()) o' x ho hc, fun x => (seen_own (β := Unit) A L).putObj (s := ()) o' x ho hc, fun x => (seen_own (β := Unit) A' (ints vs)).putObj (s := ()) o' x ho hc⟩)
    (Below.refl _ _) (fun _ => rfl)
    (GcI n₀ n w) (fun _ _ _ => False) (gcI_far n₀ n _ w HBW hle) (fun _ _ _ _ h _ => h)
    ⟨⟨r0, b1⟩, hBW⟩
    (fun x => { tmps := #[.slice A n c, .slice A' vs.length c', undef, undef, .slice none 0 0, .pointer (some ⟨n₀ + 1, 0, none⟩), .int .i64 (x.1.1 : Int), .int .i64 (x.1.2 : Int), .slice A n c, .int .i64 n, .slice (some ⟨n₀, 0, none⟩) n n, .slice A n c, .slice A' vs.length c',
      .func (.func 77) #[] #[.pointer (some ⟨n₀ + 1 + 1, 0, none⟩), .pointer (some ⟨n₀ + 1 + 1 + 1, 0, none⟩)], .int .i64 (x.1.1 : Int), .int .i64 (x.1.2 : Int), undef, undef, undef, undef, undef], defers := [] }) ?assign ?body ?done ?stop
  case assign =>
    intro l x Z K hK
    gi_wp2
    exact hK
  case body =>
    rintro l pre x Z ⟨⟨hr, hb⟩, hB⟩ hlen
    have hst : outX n (valsG (pre ++ [x])) = (outX n (valsG pre)).set x.1.1 x.1.2 := by rw [valsG_snoc, outX_snoc]
    obtain ⟨pr, epr⟩ : ∃ pr, pr = pre ++ [x] := ⟨_, rfl⟩
    rw [← epr] at hst ⊢
    obtain ⟨⟨v, q⟩, hv, hq⟩ := x
    dsimp only at hv hq hst ⊢
    have z1 := hb.cell
    have z2 := hr.frozenAt v (by rw [ints_length, outX_length]; exact hv)
    have z3 := hr.cellAt v (by rw [ints_length, outX_length]; exact hv)
    have hvi : (0 : Int) ≤ (v : Int) ∧ (v : Int) < (n : Int) := by omega
    have RS : Hid (Row (Z.setCell ⟨n₀, v, none⟩ (.int .i64 (q : Int))) n₀ (.slice (some ⟨n₀, 0, none⟩) n n) (ints (outX n (valsG pr)))) := Lib.hid (by
      have := hr.set v (by rw [ints_length, outX_length]; exact hv) (q : Int)
      rw [ints_set] at this
      rw [hst]
      exact this)
    have gz : Z.grownBy (Z.setCell ⟨n₀, v, none⟩ (.int .i64 (q : Int))) (some n₀) := grown_set (World.grownBy.refl Z (some n₀)) v _
    have bz : Below n₀ Z (Z.setCell ⟨n₀, v, none⟩ (.int .i64 (q : Int))) := (Below.refl n₀ Z).setCell (p := ⟨n₀, v, none⟩) (Nat.le_refl n₀) _
    have HGZ := Lib.hid gz
    have HBZ := Lib.hid bz
    have HB2 := Lib.hid hb
    have HBB := Lib.hid hB
    clear hr hb hB hst epr gz bz hlen
    gi_wp2
    refine ⟨⟨(KeepsOthers.setCell _ _ _).from _, ⟨fun x => x.kept HGZ.out (fun e => by injection e; omega), fun x => x.kept HGZ.out (fun e => by injection e; omega), fun x => seen_lowB x HBZ.out HAB.out, fun x => seen_lowB x HBZ.out HAB'.out⟩, ⟨RS.out, HB2.out.kept HGZ.out (fun e => by injection e; omega)⟩, HBB.out.trans HBZ.out⟩, ?_⟩
    exact ⟨HGZ.out.size, fun k o hk ho => (HGZ.out.block k (Array.getElem?_eq_some_iff.1 ho).1 (fun e => by injection e; omega)).trans ho⟩
  case done =>
    rintro D xs Z hD hS ⟨⟨hr, hb⟩, hB⟩ hK
    rw [hS, HO.out] at hr
    have z1 := hb.cell
    have HR := Lib.hid hr
    clear hr hb hS
    gi_wp2
    refine ⟨by simp, .inl ⟨_, _, rfl, run_takeDeferred hK, ?_⟩⟩
    refine ⟨_, results_tmp rfl _ _ _, ?_⟩
    refine ⟨_, rfl, ?_, ?_⟩
    · rw [← EN.out]
      exact ownsRow_putObj HR.out (.deferred none) hK rfl
    · rw [← EN.out]
      exact hB.trans (belowK_b (w := w) hle Z D _ _ (by have := SW.out; have := EN.out; omega) hK rfl rfl)
  case stop =>
    rintro D cd pre W _ _ h _
    exact h.elim
theorem natOf_ints {P : List Int} {n : Nat} (h : IsNames P n) : ints (natOf P) = P ∧ (natOf P).length = n ∧ (∀ v ∈ natOf P, v < n) ∧ (natOf P).Nodup := by
  obtain ⟨h1, h2, h3⟩ := h
  refine ⟨?_, by simp [natOf, h1], ?_, h3⟩
  · refine List.ext_getElem? fun k => ?_
    unfold ints natOf
    rw [List.map_map, List.getElem?_map]
    by_cases hk : k < P.length
    · have := (h2 k hk).1
      rw [List.getElem?_eq_getElem hk] at this ⊢
      simp at this ⊢
      omega
    · rw [List.getElem?_eq_none (by omega)]; rfl
  · have := natOf_mem (P := P) (n := n) (k := P.length) h2 (Nat.le_refl _)
    rwa [show P.length = (natOf P).length by simp [natOf], List.take_length] at this
set_option maxHeartbeats 2000000 in
theorem implGr_yes (B B' : Nat) (v v' : Value) (L P : List Int) (hg : IsGraph L) (hp : IsNames P L.length) (w : World) (h : Row w B v L) (h' : Row w B' v' P) (hT : Tab w) :
    Calls Tryd.prog 30 #[v, v'] w (Told w (ints (gS L L.length (natOf P)).2) true) := by
  have h1 := hg.1
  have h6 := hg.2.1
  obtain ⟨e1, e2, e3, e4⟩ := natOf_ints hp
  have H1 := Lib.hid (asG_graph B v L hg w h hT)
  obtain ⟨A, c, rfl, hs⟩ := h.seen
  obtain ⟨A', c', rfl, hs'⟩ := h'.seen
  have hpl : P.length = L.length := hp.1
  have H2 := Lib.hid (fun w1 (b : Below w.heap.size w w1) => areNames_any A' c' L.length P true ⟨fun _ => hp, fun _ => rfl⟩ w1 (hs'.below b) h1 h6 (by omega))
  have H3 : Hid (∀ w1 (b : Below w.heap.size w w1), Calls Tryd.prog 51 #[.slice A L.length c, .slice A' P.length c'] w1 (Gave w1 (ints (gS L L.length (natOf P)).2))) := Lib.hid fun w1 b => by
    have hsP : Seen w1 A' (ints (natOf P)) := by rw [e1]; exact hs'.below b
    have := callsIn_wide.1 (greedyColours_in A A' c c' L hg (natOf P) (by omega) (by omega) e3 w1 (hs.below b) hsP)
    rw [e2] at this
    rw [hpl]
    exact this
  rw [hpl] at H2 H3 ⊢
  obtain ⟨x, ex⟩ : ∃ x, x = ints (gS L L.length (natOf P)).2 := ⟨_, rfl⟩
  rw [← ex] at H3 ⊢
  obtain ⟨n, hn⟩ : ∃ n, n = L.length := ⟨_, rfl⟩
  rw [← hn] at H1 H2 H3 ⊢
  clear hg hp h h' hs hs' hT e1 e2 e3 e4 ex hn hpl h1 h6
  go_enter Tryd.func30, Tryd.ntmps30
  go_wp2_with fail
  refine H1.out.mono ?_
  rintro e w1 ⟨rfl, b1⟩
  have B1 := Lib.hid b1
  go_wp2_with fail
  refine (H2.out _ b1).mono ?_
  rintro e w2 ⟨rfl, d, rfl⟩
  have B2 := Lib.hid (below_drewN B1.out d)
  go_wp2_with fail
  refine (H3.out _ B2.out).mono ?_
  rintro e w3 ⟨v3, rfl, r3, b3⟩
  go_wp2
  go_ret2
  exact ⟨_, rfl, Row.mono r3 B2.out.size, B2.out.trans (b3.mono B2.out.size)⟩
theorem implGr_bad (B B' : Nat) (v v' : Value) (L P : List Int) (hg : IsGraph L) (hp : ¬ IsNames P L.length) (hl : P.length ≤ 1048576) (w : World) (h : Row w B v L) (h' : Row w B' v' P) (hT : Tab w) :
    Calls Tryd.prog 30 #[v, v'] w (Told w [] false) := by
  have h1 := hg.1
  have h6 := hg.2.1
  have H1 := Lib.hid (asG_graph B v L hg w h hT)
  obtain ⟨A, c, rfl, hs⟩ := h.seen
  obtain ⟨A', c', rfl, hs'⟩ := h'.seen
  have H2 := Lib.hid (fun w1 (b : Below w.heap.size w w1) => areNames_any A' c' L.length P false ⟨fun h => (by cases h), fun h => absurd h hp⟩ w1 (hs'.below b) h1 h6 hl)
  obtain ⟨n, hn⟩ : ∃ n, n = L.length := ⟨_, rfl⟩
  rw [← hn] at H1 H2 ⊢
  clear hg hp h h' hs hs' hT hn h1 h6 hl
  go_enter Tryd.func30, Tryd.ntmps30
  go_wp2_with fail
  refine H1.out.mono ?_
  rintro e w1 ⟨rfl, b1⟩
  have B1 := Lib.hid b1
  go_wp2_with fail
  refine (H2.out _ b1).mono ?_
  rintro e w2 ⟨rfl, d, rfl⟩
  go_wp2
  go_ret2
  exact ⟨_, rfl, World.ownsRow_nil _ w.heap.size 3 1, below_drewN B1.out d⟩
theorem implGr_none (B B' : Nat) (v v' : Value) (L P : List Int) (hg : ¬ IsGraph L) (w : World) (h : Row w B v L) (h' : Row w B' v' P) (hT : Tab w) :
    Calls Tryd.prog 30 #[v, v'] w (Told w [] false) := by
  have H1 := Lib.hid (asG_none B v L hg w h hT)
  clear hg h h'
  go_enter Tryd.func30, Tryd.ntmps30
  go_wp2_with fail
  refine H1.out.mono ?_
  rintro e w1 ⟨rfl, b1⟩
  go_wp2
  go_ret2
  exact ⟨_, rfl, World.ownsRow_nil _ w.heap.size 3 1, b1⟩
end Go.Proofs.YtcblcifnpgmibaaDoor
