/- The program's deck: by a range over the nodes. -/
import Derived.Test.YtogmfbhnnnoipaaDoorDropFn
import Derived.Test.YtogmfbhnnnoipaaDoorSortFn
namespace Go.Proofs.YtogmfbhnnnoipaaDoor
open Go.RowKit Go.Shelf
attribute [local go_sem] Oper.semAt_some
set_option linter.unusedVariables false
set_option maxRecDepth 100000

/-- The cards of some nodes. -/
def cardsOf (L : List Int) (vs : List Nat) : List Int := ints (vs.map (cardOf L))
theorem cardsOf_snoc (L : List Int) (vs : List Nat) (v : Nat) : cardsOf L (vs ++ [v]) = cardsOf L vs ++ [((cardOf L v : Nat) : Int)] := by simp [cardsOf, ints]
theorem cardsOf_length (L : List Int) (vs : List Nat) : (cardsOf L vs).length = vs.length := by simp [cardsOf, ints]
theorem cardsOf_all (L : List Int) : cardsOf L (List.range L.length) = deckTo L L.length := rfl

/-- Between two rounds: the boxes; the cards of the nodes that have come. -/
def DkI (L : List Int) (n₀ m s : Nat) (G : Value) (pre : List (Nd m s)) (W : World) : Prop :=
  Boxed W n₀ 52 G ∧ ∃ v, Boxed W (n₀ + 1) 63 v ∧ Row W n₀ v (cardsOf L (valsN pre))
theorem dkI_own (L : List Int) (n₀ m s : Nat) (G : Value) : Own (DkI L n₀ m s G) := fun pre X Y row ⟨hg0, v, hb, hr⟩ hg hrow =>
  ⟨boxed_own _ _ (fun _ : Unit => _) () X Y row hg0 hg hrow, v, boxed_own _ _ (fun _ : Unit => _) () X Y row hb hg hrow, row_kept hr hg hrow⟩

set_option maxHeartbeats 4000000 in
theorem implDeck_in (A : Option Addr) (c : Nat) (L : List Int) (hg : IsGraph L) (h2 : 2 ≤ L.length) (w : World) (h : Seen w A L) (hT : Tab w) :
    CallsIn Fence.wide 12 Tryd.prog 72 #[.slice A L.length c] w (Gave w (deckL L)) := by
  have h1 := hg.1
  have h6 := hg.2.1
  have ht2 := hT.lt
  obtain ⟨n, hn⟩ : ∃ n, n = L.length := ⟨_, rfl⟩
  rw [← hn] at h1 h2 h6 ⊢
  obtain ⟨Q, hQ⟩ : ∃ Q, Q + 1 = 2 ^ n := ⟨2 ^ n - 1, by have := two_pos n; omega⟩
  have hfull : nodesL Q = List.range n := by
    have h0 := fullN ⟨n, by omega⟩
    have e : 2 ^ n - 1 = Q := by omega
    rw [e] at h0
    exact h0
  have hQl : Q < 2 ^ n := by omega
  have HN := Lib.hid hn
  have H := Lib.hid h
  have HG := Lib.hid hg
  have HT := Lib.hid hT
  have HF := Lib.hid hfull
  have HQ := Lib.hid hQ
  have HQL := Lib.hid hQl
  clear h hg hT hn hfull hQ hQl
  refine callsIn_of_wp_marks Tryd.func72 rfl trivial ?_ rfl
  simp only [Tryd.ntmps72, List.size_toArray, List.length_cons, List.length_nil, Nat.reduceAdd, Nat.reduceSub, Array.replicate_succ, Array.replicate_zero, List.push_toArray, List.append_toArray, List.nil_append, List.cons_append]
  gi_wp2_with (refine ⟨trivial, ?_⟩; gi_at_call 77; refine (callsIn_wide.2 (nodes_any A n c Q h6 HQ.out _)).mono ?_; rintro e w' ⟨rfl, rfl⟩)
  obtain ⟨W, eW⟩ : ∃ W, W = ((w.alloc (.cells #[.slice A n c] 52)).alloc (.cells #[.slice none 0 0] 63)).alloc (.cells #[.int .i64 (Q : Nat)] 3) := ⟨_, rfl⟩
  have sW : W.heap.size = w.heap.size + 1 + 1 + 1 := by rw [eW]; simp
  have hBW : Below w.heap.size w W := by rw [eW]; exact (((Below.refl _ w).alloc (Nat.le_refl _) _).alloc (by simp) _).alloc (by simp; omega) _
  have b0 : Boxed W w.heap.size 52 (.slice A n c) := by rw [eW]; exact ((Boxed.new w _ _).alloc _).alloc _
  have b1 : Boxed W (w.heap.size + 1) 63 (.slice none 0 0) := by
    rw [eW]; have h := Boxed.new (w.alloc (.cells #[.slice A n c] 52)) 63 (.slice none 0 0); rw [World.size_alloc] at h; exact h.alloc _
  have b2 : W.cell? ⟨w.heap.size + 1 + 1, 0, none⟩ = some (.int .i64 (Q : Nat)) := by
    rw [eW]; have h := Boxed.new ((w.alloc (.cells #[.slice A n c] 52)).alloc (.cells #[.slice none 0 0] 63)) 3 (.int .i64 (Q : Nat)); rw [World.size_alloc, World.size_alloc] at h; exact h.cell
  have r0 : Row W w.heap.size (.slice none 0 0) (cardsOf L (valsN ([] : List (Nd n Q)))) := World.ownsRow_nil W w.heap.size 3 1
  rw [← eW]
  clear eW
  have hTW : Tab W := HT.out.below hBW (by omega)
  obtain ⟨n₀, en⟩ : ∃ n₀, n₀ = w.heap.size := ⟨_, rfl⟩
  rw [← en] at sW hBW b0 b1 b2 r0 ht2 ⊢
  have EN := Lib.hid en
  have SW := Lib.hid sW
  have hle : n₀ ≤ w.heap.size := by omega
  have hleW : n₀ + 1 + 1 < W.heap.size := by omega
  clear en sW
  refine wpIn_rangeFunc_ownF (α := Nd n Q) rfl (by omega) (gf := 119) (lb := #[.pointer (some ⟨n₀ + 1 + 1, 0, none⟩)]) rfl trivial (enters_of Tryd.func119 (by kernel_rfl) rfl)
    (nodes_stops _ (n₀ + 1 + 1) n Q n₀ (by omega) h6 HQL.out W (by omega) b2 hTW (by omega) (by omega)) belowK_t (belowK_b (by omega)) (Below.refl _ _) (fun _ => rfl)
    (fun pre Z => DkI L n₀ n Q (.slice A n c) pre Z ∧ Below n₀ w Z) (fun _ _ _ => False)
    (OwnFrom.and (Own.from (dkI_own L n₀ n Q _) _) (ownFrom_below hle (by omega))) (fun _ _ _ _ _ hs _ _ => hs)
    ⟨⟨b0, _, b1, r0⟩, hBW⟩
    (fun x => { tmps := #[.slice A n c, .pointer (some ⟨n₀, 0, none⟩), .slice none 0 0, .pointer (some ⟨n₀ + 1, 0, none⟩), .int .i64 (x.1 : Int), .slice A n c,
      .func (.func 119) #[] #[.pointer (some ⟨n₀ + 1 + 1, 0, none⟩)], .int .i64 (x.1 : Int), undef, undef, undef, undef, undef, undef, undef, undef, undef], defers := [] }) ?assign ?body ?done ?stop
  case assign =>
    intro l x Z K hK
    gi_wp2
    exact hK
  case body =>
    rintro l pre x Z ⟨⟨c0, v, c1, hr⟩, hB⟩ hlen
    have hl6 : (cardsOf L (valsN pre)).length ≤ 100000 := by rw [cardsOf_length, valsN_length]; omega
    have hvs : cardsOf L (valsN (pre ++ [x])) = cardsOf L (valsN pre) ++ [((cardOf L x.1 : Nat) : Int)] := by rw [valsN_snoc, cardsOf_snoc]
    have hxn := x.2.1
    obtain ⟨y, ey⟩ : ∃ y : Nat, y = x.1 := ⟨_, rfl⟩
    rw [← ey] at hvs hxn
    rw [← ey]
    have hnZ : n₀ ≤ Z.heap.size := by have := hB.size; omega
    have hsZ : Seen Z A L := H.out.below (by rw [← EN.out]; exact hB)
    have hTZ : Tab Z := HT.out.below hB (by omega)
    have HDR := Lib.hid (drop_fn A c L HG.out y (by rw [← HN.out]; exact hxn) Z.drew hsZ hTZ)
    rw [← HN.out] at HDR
    have hdl := dropG_length HG.out (v := y) (by rw [← HN.out]; exact hxn)
    have hdg := dropG_graph HG.out (v := y) (by rw [← HN.out]; exact h2) (by rw [← HN.out]; exact hxn)
    have HVS := Lib.hid hvs
    have HLL := Lib.hid hl6
    have C0 := Lib.hid c0
    have C1 := Lib.hid c1
    have HR := Lib.hid hr
    have HTZ := Lib.hid hTZ
    have HDG := Lib.hid hdg
    have HBZ := Lib.hid hB
    have z0 : Z.drew.cell? ⟨n₀, 0, none⟩ = some (.slice A n c) := c0.cell
    have z1 : Z.drew.cell? ⟨n₀ + 1, 0, none⟩ = some v := c1.cell
    have hS0 : Z.drew.cell? ⟨n₀, 0, none⟩ = some (.slice A n c) ∧ Z.drew.cell? ⟨n₀ + 1, 0, none⟩ = some v := ⟨z0, z1⟩
    clear hvs hl6 c0 c1 hr ey hB hsZ hTZ hdl hdg
    gi_wp2
    refine wpIn_held_round 6 (fun W' => W'.cell? ⟨n₀, 0, none⟩ = some (.slice A n c) ∧ W'.cell? ⟨n₀ + 1, 0, none⟩ = some v) (by kernel_rfl) (by rfl) (by kernel_rfl) (by kernel_rfl) (by kernel_rfl) (by kernel_rfl) ?_
    simp only [List.take_succ_cons, List.take_zero, List.drop_succ_cons, List.drop_zero]
    refine wpAnyH_take (i := 0) (v := v) rfl (by kernel_rfl) (by kernel_rfl) (by kernel_rfl) (fun _ _ _ h => h) (Or.inl ⟨by rfl, ?_⟩) hS0 ?_
    · rintro w' ⟨q0, q1⟩
      go_simp
    simp only [Act.put, List.setIfInBounds_toArray]
    refine wpAnyH_take (i := 1) (v := .slice A n c) rfl (by kernel_rfl) (by kernel_rfl) (by kernel_rfl) (fun _ _ _ h => h) (Or.inl ⟨by rfl, ?_⟩) hS0 ?_
    · rintro w' ⟨q0, q1⟩
      go_simp
    simp only [Act.put, List.setIfInBounds_toArray]
    refine wpAnyH_take (i := 2) (v := .int .i64 (y : Int)) rfl (by kernel_rfl) (by kernel_rfl) (by kernel_rfl) (fun _ _ _ h => h) (Or.inl ⟨by rfl, ?_⟩) hS0 ?_
    · rintro w' ⟨q0, q1⟩
      go_simp
    simp only [Act.put, List.setIfInBounds_toArray]
    refine wpAnyH_rest 3 3 (by rfl) (by kernel_rfl) ?_
    simp only [List.drop_succ_cons, List.drop_zero]
    refine tailH_cons ?_
    go_wp2_with fail
    refine HDR.out.mono ?_
    rintro e w1 ⟨v1, rfl, r1, hb1⟩
    obtain ⟨A1, c1, rfl, s1⟩ := r1.seen
    have hT1 : Tab w1 := Tab.below (w := Z.drew) HTZ.out hb1 (by show 2 ≤ Z.heap.size; omega)
    have C0d := C0.out.lt
    have C1d := C1.out.lt
    have q0 : w1.cell? ⟨n₀, 0, none⟩ = some (.slice A n c) := (hb1.cell (p := ⟨n₀, 0, none⟩) C0d).trans z0
    have q1 : w1.cell? ⟨n₀ + 1, 0, none⟩ = some v := (hb1.cell (p := ⟨n₀ + 1, 0, none⟩) C1d).trans z1
    have HLE := Lib.hid (least_fn A1 c1 (dropG L y) HDG.out w1 s1 hT1)
    have HB1 := Lib.hid hb1
    clear r1 s1 hT1 hb1
    go_wp2
    refine ⟨⟨q0, q1⟩, ?_⟩
    refine tailH_cons ?_
    go_wp2_with fail
    refine HLE.out.mono ?_
    rintro e w2 ⟨rfl, hb2⟩
    have hz1 : Below Z.heap.size Z w2 := (Below.refl _ Z).drew.trans (HB1.out.trans (hb2.mono HB1.out.size))
    have k0 := (hz1.block n₀ C0d).trans C0.out
    have k1 : Boxed w2 (n₀ + 1) 63 v := (hz1.block (n₀ + 1) C1d).trans C1.out
    have kr : Row w2 n₀ v (cardsOf L (valsN pre)) := HR.out.below hz1
    have q2 : w2.cell? ⟨n₀, 0, none⟩ = some (.slice A n c) := Boxed.cell (t := 52) k0
    have q3 : w2.cell? ⟨n₀ + 1, 0, none⟩ = some v := k1.cell
    have q4 : ∀ o, (w2.alloc o).cell? ⟨n₀, 0, none⟩ = some (.slice A n c) := fun o => (Boxed.alloc (t := 52) k0 o).cell
    have q5 : ∀ o, (w2.alloc o).cell? ⟨n₀ + 1, 0, none⟩ = some v := fun o => (k1.alloc o).cell
    have hn2 : n₀ ≤ w2.heap.size := Nat.le_trans hnZ hz1.size
    have HZ1 := Lib.hid hz1
    have K0 := Lib.hid k0
    have K1 := Lib.hid k1
    have KR := Lib.hid kr
    clear hb2 hz1 k0 k1 kr
    go_wp2
    refine ⟨⟨q2, q3⟩, ?_⟩
    refine tailH_cons ?_
    go_wp2
    refine ⟨⟨q4 _, q5 _⟩, ?_⟩
    clear z0 z1 hS0 q0 q1 q2 q3
    change wpListIn _ _ _ _ _ _ _ _
    obtain ⟨card, ec⟩ : ∃ card, card = leastL (dropG L y) := ⟨_, rfl⟩
    have EC := Lib.hid (show (card : Nat) = cardOf L y from ec)
    rw [← ec]
    clear ec
    gi_wp2_with (gi_at_builtin; refine appendIn_deck rfl (.tmp 8) (.tmp 13) rfl w2 n₀ v (cardsOf L (valsN pre)) card rfl rfl KR.out hn2 HLL.out ?_; intro v' w3 hr' hg'
                 obtain ⟨k1, k2, k3, k4, k5⟩ := K1.out.appended (by decide) KR.out hn2 (by omega) hr' hg'
                 have k6 : Boxed w3 n₀ 52 (.slice A n c) := (Boxed.alloc (t := 52) K0.out _).kept hg' (Boxed.not_row (t := 52) K0.out (by decide) KR.out)
                 obtain ⟨g, cap, rfl⟩ : ∃ g cap, v' = .slice (some ⟨g, 0, none⟩) ((cardsOf L (valsN pre)).length + 1) cap := by
                   have h0 := hr'
                   unfold Row at h0
                   rw [List.length_append] at h0
                   exact ownsRow_succ h0
                 have y0 := k1.cell
                 have y1 := k1.frozen
                 have K2 := Lib.hid k2
                 have K3 := Lib.hid k3
                 have K4 := Lib.hid k4
                 have K5 := Lib.hid k5
                 have K6 := Lib.hid (Boxed.other (t := 52) k6 (B' := n₀ + 1) (by omega))
                 clear hr' hg' k1 k2 k3 k4 k5 k6)
    have hkz : KeepsOthers Z w2 := keeps_below HZ1.out
    have hbz : Below n₀ Z _ := (HZ1.out.mono hnZ).trans K5.out
    refine ⟨hkz.trans K4.out, hbz, ⟨K6.out _, _, K2.out, ?_⟩, HBZ.out.trans hbz⟩
    rw [HVS.out, ← EC.out]
    exact K3.out
  case done =>
    rintro D xs Z hD hS ⟨⟨c0, v, c1, hr⟩, hB⟩ hK
    have hxs : cardsOf L (valsN xs) = deckTo L L.length := by rw [hS, HF.out, HN.out]; rfl
    rw [hxs] at hr
    obtain ⟨A1, cc1, rfl, s1⟩ := hr.seen
    rw [deckTo_length, ← HN.out] at c1
    have HOR := Lib.hid (fun w hs => ordered_any A1 cc1 (deckTo L L.length) (by rw [deckTo_length, ← HN.out]; omega) w hs)
    have hle2 : (deckTo L L.length).length = n := by rw [deckTo_length]; exact HN.out.symm
    rw [hle2] at HOR
    have z1 := c1.cell
    have SS := Lib.hid s1
    have HBD := Lib.hid hB
    clear hS hxs hr s1 hle2
    gi_wp2_with (refine ⟨trivial, ?_⟩; gi_at_call 100; refine (callsIn_wide.2 (HOR.out _ SS.out)).mono ?_; rintro e w3 ⟨v3, rfl, r3, b3⟩)
    have hDZ := (Array.getElem?_eq_some_iff.1 hK).1
    have hK3 : w3.heap[D]? = some (.deferred (some [])) := (b3.block D hDZ).trans hK
    refine ⟨by simp, .inl ⟨_, _, rfl, run_takeDeferred hK3, ?_⟩⟩
    refine ⟨_, results_tmp rfl _ _ _, ?_⟩
    have hnZ : n₀ ≤ Z.heap.size := by have := HBD.out.size; omega
    refine ⟨_, rfl, ?_, ?_⟩
    · rw [← EN.out]
      exact ownsRow_putObj (Row.mono r3 hnZ) (.deferred none) hK3 rfl
    · rw [← EN.out]
      exact (HBD.out.trans (b3.mono hnZ)).trans (belowK_b (w := w) hle w3 D _ _ (by have := SW.out; have := EN.out; omega) hK3 rfl rfl)
  case stop =>
    rintro D cd pre W _ _ h _
    exact h.elim
end Go.Proofs.YtogmfbhnnnoipaaDoor
