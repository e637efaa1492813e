/- The program's edge deck: by a range over the edges. -/
import Derived.Test.YtdhfnjpjccjkcaaDoorFlipFn
import Derived.Test.YtdhfnjpjccjkcaaDoorImplDeck
import Derived.Test.YtdhfnjpjccjkcaaDoorEdges
namespace Go.Proofs.YtdhfnjpjccjkcaaDoor
open Go.RowKit Go.Shelf
attribute [local go_sem] Oper.semAt_some
set_option linter.unusedVariables false
set_option maxRecDepth 100000

/-- edges hands out its iterator; the graph lies in a box. -/
theorem edgesIt_any (A : Option Addr) (n c : Nat) (w : World) : Calls Tryd.prog 71 #[.slice A n c] w fun e w' =>
    e = .returned (.func (.func 93) #[] #[.pointer (some ⟨w.heap.size, 0, none⟩)]) ∧ w.alloc (.cells #[.slice A n c] 46) = w' := by
  have hmf : ∀ (fn : Fn) (first cap : Array Value) (w : World), (Instr.makeFunc fn first cap).run Tryd.prog w = .ok (.func fn first cap) w := fun _ _ _ _ => rfl
  go_enter Tryd.func71, Tryd.ntmps71
  go_wp2
  go_ret
  exact ⟨rfl, rfl⟩
theorem keepG_tr {B : Nat} {A : Option Addr} {c n : Nat} {L : List Int} {X Y Z : World} (h : KeepG B A c n L X Y) (k : KeepG B A c n L Y Z) : KeepG B A c n L X Z := ⟨fun x => k.1 (h.1 x), fun x => k.2 (h.2 x)⟩
theorem keepG_bk {B : Nat} {A : Option Addr} {c n : Nat} {L : List Int} (W : World) (l : Nat) (o o' : Obj) (h : W.heap[l]? = some o) (ho : o.isCells = false) : KeepG B A c n L W (W.putObj l o') :=
  ⟨fun x => (boxed_own (β := Unit) B _ (fun _ => _)).putObj (s := ()) o' x h ho, fun x => (seen_own (β := Unit) A L).putObj (s := ()) o' x h ho⟩

theorem lie_append {Z w2 w3 : World} {o : Obj} {b B : Nat} {v v' : Value} (h1 : Below Z.heap.size Z w2) (hg : (w2.alloc o).grownBy w3 v.ownBlock) (hr : ∀ k, v.ownBlock = some k → b + 2 ≤ k) (hB : B < b) : Lie b 2 Z (w3.setCell ⟨B, 0, none⟩ v') := by
  intro k ob hb1 hb2 hk
  have hlt := (Array.getElem?_eq_some_iff.1 hk).1
  have hl2 : k < w2.heap.size := Nat.lt_of_lt_of_le hlt h1.size
  have e1 : (w3.setCell ⟨B, 0, none⟩ v').heap[k]? = w3.heap[k]? := Below.heap_setCell _ _ _ k (fun e => by dsimp only at e; omega)
  have e2 : w3.heap[k]? = (w2.alloc o).heap[k]? := hg.block k (by rw [World.size_alloc]; omega) (fun e => by have := hr k e.symm; omega)
  have e3 : (w2.alloc o).heap[k]? = w2.heap[k]? := Below.heap_alloc w2 o k hl2
  rw [e1, e2, e3, h1.block k hlt]
  exact hk
theorem vals_edgesOf {m : Nat} (L : List Int) (ys : List (Pr m)) : vals (edgesOf L ys) = edgesIn L (vals ys) := by
  unfold edgesIn vals edgesOf
  rw [List.filter_map]
  rfl

/-- Between two rounds: the boxes; the cards of the edges that have come. -/
def EdI (L : List Int) (n₀ m : Nat) (G : Value) (pre : List (Pr m)) (W : World) : Prop :=
  Boxed W n₀ 46 G ∧ Boxed W (n₀ + 1 + 1) 46 G ∧ ∃ v, Boxed W (n₀ + 1) 49 v ∧ Row W (n₀ + 7) v (ecards L (vals pre))
theorem edI_own (L : List Int) (n₀ m : Nat) (G : Value) : Own (EdI L n₀ m G) := fun pre X Y row ⟨hg0, hg2, v, hb, hr⟩ hg hrow =>
  ⟨boxed_own _ _ (fun _ : Unit => _) () X Y row hg0 hg hrow, boxed_own _ _ (fun _ : Unit => _) () X Y row hg2 hg hrow, v, boxed_own _ _ (fun _ : Unit => _) () X Y row hb hg hrow, row_kept hr hg hrow⟩
theorem size_own {β : Type} (m : Nat) : Own (fun (_ : β) (W : World) => m ≤ W.heap.size) := fun _ X Y row h hg _ => Nat.le_trans h hg.size

set_option maxHeartbeats 4000000 in
theorem implEdgeDeck_in (A : Option Addr) (c : Nat) (L : List Int) (hg : IsGraph L) (w : World) (h : Seen w A L) (hT : Tab w) :
    CallsIn Fence.wide 6 Tryd.prog 51 #[.slice A L.length c] w (Gave w (edgeDeckL L)) := by
  have h1 := hg.1
  have h6 := hg.2.1
  have ht2 := hT.lt
  have hED := edgeDeck_eq hg
  obtain ⟨n, hn⟩ : ∃ n, n = L.length := ⟨_, rfl⟩
  rw [← hn] at h1 h6 hED ⊢
  have HN := Lib.hid hn
  have H := Lib.hid h
  have HG := Lib.hid hg
  have HT := Lib.hid hT
  have HE := Lib.hid hED
  clear h hg hT hn hED
  refine callsIn_of_wp_marks Tryd.func51 rfl trivial ?_ rfl
  simp only [Tryd.ntmps51, List.size_toArray, List.length_cons, List.length_nil, Nat.reduceAdd, Nat.reduceSub, Array.replicate_succ, Array.replicate_zero, List.push_toArray, List.append_toArray, List.nil_append, List.cons_append]
  gi_wp2_with (refine ⟨trivial, ?_⟩; gi_at_call 71; refine (callsIn_wide.2 (edgesIt_any _ _ _ _)).mono ?_; rintro e w' ⟨rfl, rfl⟩)
  obtain ⟨W, eW⟩ : ∃ W, W = ((w.alloc (.cells #[.slice A n c] 46)).alloc (.cells #[.slice none 0 0] 49)).alloc (.cells #[.slice A n c] 46) := ⟨_, rfl⟩
  have sW : W.heap.size = w.heap.size + 1 + 1 + 1 := by rw [eW]; simp
  have hBW : Below w.heap.size w W := by rw [eW]; exact (((Below.refl _ w).alloc (Nat.le_refl _) _).alloc (by simp) _).alloc (by simp; omega) _
  have b0 : Boxed W w.heap.size 46 (.slice A n c) := by rw [eW]; exact ((Boxed.new w _ _).alloc _).alloc _
  have b1 : Boxed W (w.heap.size + 1) 49 (.slice none 0 0) := by
    rw [eW]; have h := Boxed.new (w.alloc (.cells #[.slice A n c] 46)) 49 (.slice none 0 0); rw [World.size_alloc] at h; exact h.alloc _
  have b2 : Boxed W (w.heap.size + 1 + 1) 46 (.slice A n c) := by
    rw [eW]; have h := Boxed.new ((w.alloc (.cells #[.slice A n c] 46)).alloc (.cells #[.slice none 0 0] 49)) 46 (.slice A n c); rw [World.size_alloc, World.size_alloc] at h; exact h
  have r0 : Row W (w.heap.size + 7) (.slice none 0 0) (ecards L (vals ([] : List (Pr n)))) := World.ownsRow_nil W (w.heap.size + 7) 3 1
  rw [← eW]
  clear eW
  obtain ⟨n₀, en⟩ : ∃ n₀, n₀ = w.heap.size := ⟨_, rfl⟩
  rw [← en] at sW hBW b0 b1 b2 r0 ht2 ⊢
  have hle : n₀ ≤ w.heap.size := by omega
  have hleW : n₀ + 1 + 1 < W.heap.size := by omega
  have hsW : Seen W A L := H.out.below (by rw [← en]; exact hBW)
  have EN := Lib.hid en
  have SW := Lib.hid sW
  have hs3 : n₀ + 3 ≤ W.heap.size := by omega
  clear en sW
  refine wpIn_outer (α := Pr n) rfl (by omega) (gf := 93) (lb := #[.pointer (some ⟨n₀ + 1 + 1, 0, none⟩)]) rfl trivial (enters_of Tryd.func93 (by kernel_rfl) rfl)
    (edges_stops A c L n HN.out HG.out (n₀ + 1 + 1) W hleW b2 hsW) keepG_tr (fun W l o o' _ ho hc _ => keepG_bk W l o o' ho hc) (Below.refl _ _) (fun _ => rfl)
    (fun pre Z => (EdI L n₀ n (.slice A n c) pre Z ∧ n₀ + 3 ≤ Z.heap.size) ∧ Below n₀ w Z) (fun _ _ _ => False)
    (OwnFrom.and (OwnFrom.and (Own.from (edI_own L n₀ n _) _) (Own.from (size_own _) _)) (ownFrom_below hle (by omega))) (fun _ _ _ _ _ hs _ _ => hs)
    ⟨⟨⟨b0, b2, _, b1, r0⟩, hs3⟩, hBW⟩
    (fun x => { tmps := #[.slice A n c, .pointer (some ⟨n₀, 0, none⟩), .slice none 0 0, .pointer (some ⟨n₀ + 1, 0, none⟩), .int .i64 (x.1.1 : Int), .int .i64 (x.1.2 : Int), .slice A n c,
      .func (.func 93) #[] #[.pointer (some ⟨n₀ + 1 + 1, 0, none⟩)], .int .i64 (x.1.1 : Int), .int .i64 (x.1.2 : Int), undef, undef, undef, undef, undef, undef, undef, undef, undef, undef], defers := [] }) ?assign ?body ?done ?stop
  case assign =>
    intro l x Z K hK
    gi_wp2
    simpa [encP] using hK
  case body =>
    rintro l pre x Z ⟨⟨⟨c0, c2, v, c1, hr⟩, hsz⟩, hB⟩ hlen
    have hl6 : (ecards L (vals pre)).length ≤ 100000 := by rw [ecards_length]; unfold vals; rw [List.length_map]; omega
    have hvs : ecards L (vals (pre ++ [x])) = ecards L (vals pre) ++ [((leastL (flipG L x.1.1 x.1.2) : Nat) : Int)] := by rw [vals_snoc, ecards_snoc]
    have hx1 : x.1.1 < x.1.2 := x.2.1
    have hx2 : x.1.2 < n := x.2.2
    obtain ⟨y, ey⟩ : ∃ y : Nat, y = x.1.1 := ⟨_, rfl⟩
    obtain ⟨z, ez⟩ : ∃ z : Nat, z = x.1.2 := ⟨_, rfl⟩
    rw [← ey, ← ez] at hvs hx1
    rw [← ez] at hx2
    rw [← ey, ← ez]
    have hnZ : n₀ ≤ Z.heap.size := by omega
    have hsZ : Seen Z A L := H.out.below (by rw [← EN.out]; exact hB)
    have hTZ : Tab Z := HT.out.below hB (by omega)
    have HDR := Lib.hid (flipped_fn A c L HG.out y z hx1 (by rw [← HN.out]; exact hx2) Z.drew hsZ)
    have hfl : (flipG L y z).length = n := by rw [flipG_length]; exact HN.out.symm
    rw [← HN.out] at HDR
    have hdg := flip_graph HG.out hx1 (by rw [← HN.out]; exact hx2)
    have HVS := Lib.hid hvs
    have HLL := Lib.hid hl6
    have C0 := Lib.hid c0
    have C1 := Lib.hid c1
    have C2 := Lib.hid c2
    have HR := Lib.hid hr
    have HTZ := Lib.hid hTZ
    have HDG := Lib.hid hdg
    have HBZ := Lib.hid hB
    have HSZ := Lib.hid hsz
    have HFL := Lib.hid hfl
    have z0 : Z.drew.cell? ⟨n₀, 0, none⟩ = some (.slice A n c) := c0.cell
    have z1 : Z.drew.cell? ⟨n₀ + 1, 0, none⟩ = some v := c1.cell
    have hS0 : Z.drew.cell? ⟨n₀, 0, none⟩ = some (.slice A n c) ∧ Z.drew.cell? ⟨n₀ + 1, 0, none⟩ = some v := ⟨z0, z1⟩
    clear hvs hl6 c0 c1 c2 hr ey ez hB hsZ hTZ hfl hdg hsz
    gi_wp2
    refine wpIn_held_round 7 (fun W' => W'.cell? ⟨n₀, 0, none⟩ = some (.slice A n c) ∧ W'.cell? ⟨n₀ + 1, 0, none⟩ = some v) (by kernel_rfl) (by rfl) (by kernel_rfl) (by kernel_rfl) (by kernel_rfl) (by kernel_rfl) ?_
    simp only [List.take_succ_cons, List.take_zero, List.drop_succ_cons, List.drop_zero]
    refine wpAnyH_take (i := 0) (v := v) rfl (by kernel_rfl) (by kernel_rfl) (by kernel_rfl) (fun _ _ _ h => h) (Or.inl ⟨by rfl, ?_⟩) hS0 ?_
    · rintro w' ⟨q0, q1⟩
      go_simp
    simp only [Act.put, List.setIfInBounds_toArray]
    refine wpAnyH_take (i := 1) (v := .slice A n c) rfl (by kernel_rfl) (by kernel_rfl) (by kernel_rfl) (fun _ _ _ h => h) (Or.inl ⟨by rfl, ?_⟩) hS0 ?_
    · rintro w' ⟨q0, q1⟩
      go_simp
    simp only [Act.put, List.setIfInBounds_toArray]
    refine wpAnyH_take (i := 2) (v := .int .i64 (y : Int)) rfl (by kernel_rfl) (by kernel_rfl) (by kernel_rfl) (fun _ _ _ h => h) (Or.inl ⟨by rfl, ?_⟩) hS0 ?_
    · rintro w' ⟨q0, q1⟩
      go_simp
    simp only [Act.put, List.setIfInBounds_toArray]
    refine wpAnyH_take (i := 3) (v := .int .i64 (z : Int)) rfl (by kernel_rfl) (by kernel_rfl) (by kernel_rfl) (fun _ _ _ h => h) (Or.inl ⟨by rfl, ?_⟩) hS0 ?_
    · rintro w' ⟨q0, q1⟩
      go_simp
    simp only [Act.put, List.setIfInBounds_toArray]
    refine wpAnyH_rest 4 3 (by rfl) (by kernel_rfl) ?_
    simp only [List.drop_succ_cons, List.drop_zero]
    refine tailH_cons ?_
    go_wp2_with fail
    refine HDR.out.mono ?_
    rintro e w1 ⟨v1, rfl, r1, hb1⟩
    obtain ⟨A1, c1, rfl, s1⟩ := r1.seen
    have hT1 : Tab w1 := Tab.below (w := Z.drew) HTZ.out hb1 (by show 2 ≤ Z.heap.size; omega)
    have C0d := C0.out.lt
    have C1d := C1.out.lt
    have q0 : w1.cell? ⟨n₀, 0, none⟩ = some (.slice A n c) := (hb1.cell (p := ⟨n₀, 0, none⟩) C0d).trans z0
    have q1 : w1.cell? ⟨n₀ + 1, 0, none⟩ = some v := (hb1.cell (p := ⟨n₀ + 1, 0, none⟩) C1d).trans z1
    have HLE := Lib.hid (callsIn_wide.1 (implLeast_big A1 c1 (flipG L y z) HDG.out w1 s1 hT1))
    have HB1 := Lib.hid hb1
    clear r1 s1 hT1 hb1
    go_wp2
    refine ⟨⟨q0, q1⟩, ?_⟩
    refine tailH_cons ?_
    go_wp2_with fail
    refine HLE.out.mono ?_
    rintro e w2 ⟨⟨rfl, hb2⟩, hbig⟩
    have hz1 : Below Z.heap.size Z w2 := (Below.refl _ Z).drew.trans (HB1.out.trans (hb2.mono HB1.out.size))
    have k0 := (hz1.block n₀ C0d).trans C0.out
    have k1 : Boxed w2 (n₀ + 1) 49 v := (hz1.block (n₀ + 1) C1d).trans C1.out
    have k2 := (hz1.block (n₀ + 1 + 1) C2.out.lt).trans C2.out
    have kr : Row w2 (n₀ + 7) v (ecards L (vals pre)) := HR.out.below hz1
    have q2 : w2.cell? ⟨n₀, 0, none⟩ = some (.slice A n c) := Boxed.cell (t := 46) k0
    have q3 : w2.cell? ⟨n₀ + 1, 0, none⟩ = some v := k1.cell
    have q4 : ∀ o, (w2.alloc o).cell? ⟨n₀, 0, none⟩ = some (.slice A n c) := fun o => (Boxed.alloc (t := 46) k0 o).cell
    have q5 : ∀ o, (w2.alloc o).cell? ⟨n₀ + 1, 0, none⟩ = some v := fun o => (k1.alloc o).cell
    have hn2 : n₀ ≤ w2.heap.size := Nat.le_trans hnZ hz1.size
    have hn7 : n₀ + 7 ≤ w2.heap.size := by
      have e1 : Z.heap.size ≤ w1.heap.size := HB1.out.size
      have := HSZ.out
      omega
    have HZ1 := Lib.hid hz1
    have K0 := Lib.hid k0
    have K1 := Lib.hid k1
    have KG := Lib.hid k2
    have KR := Lib.hid kr
    have HN7 := Lib.hid hn7
    clear hb2 hz1 k0 k1 k2 kr hbig hn7
    go_wp2
    refine ⟨⟨q2, q3⟩, ?_⟩
    refine tailH_cons ?_
    go_wp2
    refine ⟨⟨q4 _, q5 _⟩, ?_⟩
    clear z0 z1 hS0 q0 q1 q2 q3
    change wpListIn _ _ _ _ _ _ _ _
    obtain ⟨card, ec⟩ : ∃ card, card = leastL (flipG L y z) := ⟨_, rfl⟩
    have EC := Lib.hid ec
    rw [← ec]
    clear ec
    gi_wp2_with (gi_at_builtin; refine appendIn_deck rfl (.tmp 10) (.tmp 16) rfl w2 (n₀ + 7) v (ecards L (vals pre)) card rfl rfl KR.out HN7.out HLL.out ?_; intro v' w3 hr' hg'
                 obtain ⟨k1, k2, k3, k4, k5⟩ := K1.out.appended (n₀ := n₀) (by decide) (Row.mono KR.out (by omega)) hn2 (by omega) (Row.mono hr' (by omega)) hg'
                 have k6 : Boxed w3 n₀ 46 (.slice A n c) := (Boxed.alloc (t := 46) K0.out _).kept hg' (Boxed.not_row (t := 46) K0.out (by decide) KR.out)
                 have k7 : Boxed w3 (n₀ + 1 + 1) 46 (.slice A n c) := (Boxed.alloc (t := 46) KG.out _).kept hg' (Boxed.not_row (t := 46) KG.out (by decide) KR.out)
                 have k8 : Row (w3.setCell ⟨n₀ + 1, 0, none⟩ v') (n₀ + 7) v' (ecards L (vals pre) ++ [(card : Int)]) := World.ownsRow.kept hr' (grownBy_setCell' w3 (n₀ + 1) v') (.inr (k1.not_row (by decide) hr').symm)
                 have k9 : Lie (n₀ + 5) 2 Z (w3.setCell ⟨n₀ + 1, 0, none⟩ v') := lie_append HZ1.out hg' (fun k hk => by have := (KR.out.lt k hk).1; omega) (by omega)
                 obtain ⟨g, cap, rfl⟩ : ∃ g cap, v' = .slice (some ⟨g, 0, none⟩) ((ecards L (vals pre)).length + 1) cap := by
                   have h0 := hr'
                   unfold Row at h0
                   rw [List.length_append] at h0
                   exact ownsRow_succ h0
                 have y0 := k1.cell
                 have y1 := k1.frozen
                 have K2 := Lib.hid k2
                 have K4 := Lib.hid k4
                 have K5 := Lib.hid k5
                 have K6 := Lib.hid (Boxed.other (t := 46) k6 (B' := n₀ + 1) (by omega))
                 have K7 := Lib.hid (Boxed.other (t := 46) k7 (B' := n₀ + 1) (by omega))
                 have K8 := Lib.hid k8
                 have K9 := Lib.hid k9
                 clear hr' hg' k1 k2 k3 k4 k5 k6 k7 k8 k9)
    have hkz : KeepsOthers Z w2 := keeps_below HZ1.out
    have hbz : Below n₀ Z _ := (HZ1.out.mono hnZ).trans K5.out
    have hbw := HBZ.out.trans hbz
    have e5 : W.heap.size + 2 = n₀ + 5 := by have := SW.out; have := EN.out; omega
    rw [e5]
    refine ⟨⟨(hkz.trans K4.out).from _, ⟨fun _ => K7.out _, fun _ => H.out.below (by rw [← EN.out]; exact hbw)⟩, ⟨⟨K6.out _, K7.out _, _, K2.out, ?_⟩, ?_⟩, hbw⟩, K9.out⟩
    · rw [HVS.out, ← EC.out]
      exact K8.out
    · exact Nat.le_trans HSZ.out hbz.size
  case done =>
    rintro D xs Z hD hS ⟨⟨⟨c0, c2, v, c1, hr⟩, hsz⟩, hB⟩ hK
    obtain ⟨ys, hy, rfl⟩ := hS
    have hxs : sortL (ecards L (vals (edgesOf L ys))) = edgeDeckL L := by rw [vals_edgesOf, hy, HE.out]
    obtain ⟨xs, exs⟩ : ∃ xs, xs = ecards L (vals (edgesOf L ys)) := ⟨_, rfl⟩
    have hxl : xs.length ≤ 15 := by
      rw [exs, ecards_length, vals_edgesOf, hy]
      exact Nat.le_trans (List.length_filter_le _ _) (rows_length _ h6)
    rw [← exs] at hxs hr
    obtain ⟨A1, cc1, rfl, s1⟩ := hr.seen
    have HOR := Lib.hid (fun w hs => ordered_any A1 cc1 xs (by omega) w hs)
    have z1 := c1.cell
    have SS := Lib.hid s1
    have HBD := Lib.hid hB
    have HXS := Lib.hid hxs
    clear hxs hr s1 exs hy
    gi_wp2_with (refine ⟨trivial, ?_⟩; gi_at_call 64; refine (callsIn_wide.2 (HOR.out _ SS.out)).mono ?_; rintro e w3 ⟨v3, rfl, r3, b3⟩)
    have hDZ := (Array.getElem?_eq_some_iff.1 hK).1
    have hK3 : w3.heap[D]? = some (.deferred (some [])) := (b3.block D hDZ).trans hK
    refine ⟨by simp, .inl ⟨_, _, rfl, run_takeDeferred hK3, ?_⟩⟩
    refine ⟨_, results_tmp rfl _ _ _, ?_⟩
    have hnZ : n₀ ≤ Z.heap.size := by have := HBD.out.size; omega
    refine ⟨_, rfl, ?_, ?_⟩
    · rw [← EN.out, ← HXS.out]
      exact ownsRow_putObj (Row.mono r3 hnZ) (.deferred none) hK3 rfl
    · rw [← EN.out]
      exact (HBD.out.trans (b3.mono hnZ)).trans (belowK_b (w := w) hle w3 D _ _ (by have := SW.out; have := EN.out; omega) hK3 rfl rfl)
  case stop =>
    rintro D cd pre W _ _ h _
    exact h.elim
end Go.Proofs.YtdhfnjpjccjkcaaDoor
