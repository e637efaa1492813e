/- The recurring closure of namings, at each number of nodes left. -/
import Derived.Test.YtamabhdbcmjbjaaDoorTry
namespace Go.Proofs.YtamabhdbcmjbjaaDoor
open Go.RowKit Go.Shelf
attribute [local go_sem] Oper.semAt_some
set_option linter.unusedVariables false

theorem fitsIn_one {F : Fence} {n : Nat} {ops : Array Oper} {rest : List Oper} {o : Oper} {a : Act} {Q : Exit → Act → World → Prop} (hgd : o.guard = none) (s x : Operand)
    (ho : o.op = .call { callee := .builtin .append, args := #[s, x], argTypes := #[23, 23] }) (w : World) (B g cap d : Nat) (xs : List Int) (y : Int) (hd : xs.length = d)
    (hs : a.eval s = .slice (some ⟨g, 0, none⟩) d cap) (hx : a.eval x = .slice (some ⟨w.heap.size, 0, none⟩) 1 1) (hr : Row w B (.slice (some ⟨g, 0, none⟩) d cap) xs) (hlen : d + 1 ≤ cap)
    (h : ∀ w', Row w' B (.slice (some ⟨g, 0, none⟩) (d + 1) cap) (xs ++ [y]) → (w.alloc (.cells #[.int .i64 y] 3)).grownBy w' (some g) → wpListIn F n Tryd.prog ops Q rest (a.put o.dst (.slice (some ⟨g, 0, none⟩) (d + 1) cap)) w') :
    wpListIn F n Tryd.prog ops Q (o :: rest) a (w.alloc (.cells #[.int .i64 y] 3)) := by
  subst hd
  obtain ⟨i0, hi, hz0, hz1, hz2⟩ := info_parts infoInt
  refine wpListIn_append_fits (w.alloc (.cells #[.int .i64 y] 3)) hgd s x 23 ho B 3 i0 1 Tryd.underlying23 hi hz1 g xs.length cap (xs.map (Value.int .i64)) hs (World.ownsRow.alloc hr _)
    ⟨w.heap.size, 0, none⟩ 1 1 [.int .i64 y] hx rfl (cell_one_new w _ _) (by simp [Value.oneCell']) hlen ?_
  intro w' hown hg
  refine h w' ?_ hg
  unfold Row
  rw [List.length_append, List.map_append]
  exact hown

/-- What the rounds carry. -/
def TI (B l n fx k s m0 : Nat) (fit : List (List Nat) → List Nat → Bool) (J : List (List Nat) → World → Prop) (acc : List (List Nat)) (P : List Nat) (W : World) (pre : List (Nd n s)) (Z : World) : Prop :=
  J (runF fit k P s acc (valsN pre)) Z ∧ St B l n fx P Z ∧ Boxed Z m0 3 (.int .i64 s) ∧ Boxed Z (m0 + 1) 4 (.bool false) ∧ RestP B W Z ∧ Below 2 W Z
def TX (B n k s m0 : Nat) (fit : List (List Nat) → List Nat → Bool) (Jx : List (List Nat) → World → Prop) (acc : List (List Nat)) (P : List Nat) (W : World) (cd : Code) (pre : List (Nd n s)) (Z : World) : Prop :=
  cd = .ret ∧ (∃ xs, Jx xs Z ∧ xs <+: runF fit k P s acc (valsN pre)) ∧ Boxed Z (m0 + 1) 4 (.bool false) ∧ RestP B W Z

/-- The end of a round: the last name goes. -/
theorem shut_round {B l n fx m0 b s v d : Nat} {J : List (List Nat) → World → Prop} {acc : List (List Nat)} {P : List Nat} {W Z Y : World} (hB2 : 2 ≤ B) (hm : B + 4 ≤ m0) (hb : B + 3 ≤ b) (hd : d = P.length)
    (hfar : ∀ s X Y, J s X → Below B X Y → Soft B X Y → J s Y) (hj : J acc Y) (hst : St B l n fx (P ++ [v]) Y) (h3 : Boxed Y m0 3 (.int .i64 s)) (h4 : Boxed Y (m0 + 1) 4 (.bool false)) (h5 : RestP B W Y) (h6 : Below 2 W Y) (h7 : RestP B Z Y) (h8 : Below 2 Z Y) :
    KeepsFrom b Z (Y.setCell ⟨B + 2, 0, none⟩ (.slice (some ⟨B + 1, 0, none⟩) d n)) ∧ Below 2 Z (Y.setCell ⟨B + 2, 0, none⟩ (.slice (some ⟨B + 1, 0, none⟩) d n)) ∧
    (J acc (Y.setCell ⟨B + 2, 0, none⟩ (.slice (some ⟨B + 1, 0, none⟩) d n)) ∧ St B l n fx P (Y.setCell ⟨B + 2, 0, none⟩ (.slice (some ⟨B + 1, 0, none⟩) d n)) ∧ Boxed (Y.setCell ⟨B + 2, 0, none⟩ (.slice (some ⟨B + 1, 0, none⟩) d n)) m0 3 (.int .i64 s) ∧
      Boxed (Y.setCell ⟨B + 2, 0, none⟩ (.slice (some ⟨B + 1, 0, none⟩) d n)) (m0 + 1) 4 (.bool false) ∧ RestP B W (Y.setCell ⟨B + 2, 0, none⟩ (.slice (some ⟨B + 1, 0, none⟩) d n)) ∧ Below 2 W (Y.setCell ⟨B + 2, 0, none⟩ (.slice (some ⟨B + 1, 0, none⟩) d n))) := by
  subst hd
  have g := grownBy_setCell' Y (B + 2) (.slice (some ⟨B + 1, 0, none⟩) P.length n)
  have r : RestP B Y (Y.setCell ⟨B + 2, 0, none⟩ (.slice (some ⟨B + 1, 0, none⟩) P.length n)) := restP_of_grown g (fun r e => by cases e; exact .inr (.inl rfl))
  have b0 : Below B Y (Y.setCell ⟨B + 2, 0, none⟩ (.slice (some ⟨B + 1, 0, none⟩) P.length n)) := (Below.refl B Y).setCell (p := ⟨B + 2, 0, none⟩) (by show B ≤ B + 2; omega) _
  have b2 : Below 2 Y (Y.setCell ⟨B + 2, 0, none⟩ (.slice (some ⟨B + 1, 0, none⟩) P.length n)) := (Below.refl 2 Y).setCell (p := ⟨B + 2, 0, none⟩) (by show 2 ≤ B + 2; omega) _
  refine ⟨keepsFrom_restP (h7.trans r) hb, h8.trans b2, hfar _ _ _ hj b0 (soft_rest r b0), ⟨boxed_restP hst.1 r (Nat.le_refl _) (by omega) (by omega), ?_, ?_, boxed_restP hst.2.2.2 r (by omega) (by omega) (by omega)⟩,
    boxed_restP h3 r (by omega) (by omega) (by omega), boxed_restP h4 r (by omega) (by omega) (by omega), h5.trans r, h6.trans b2⟩
  · exact hst.2.1.set _
  · have h9 := hst.2.2.1
    rw [show ints (P ++ [v]) = ints P ++ [(v : Int)] by simp [ints], List.length_append] at h9
    have h10 := cut_row (xs := ints P) (y := (v : Int)) (by rw [ints_length]; exact h9)
    rw [ints_length] at h10
    exact World.ownsRow.kept h10 g (.inr (fun e => by have e2 : some (B + 1) = some (B + 2) := e; injection e2; omega))

set_option maxRecDepth 100000 in
set_option maxHeartbeats 8000000 in
theorem try_succ {B l n fx fid : Nat} {fcap : Array Value} {fit : List (List Nat) → List Nat → Bool} {J Jx : List (List Nat) → World → Prop} (hn : n ≤ 6) (hB2 : 2 ≤ B) (hfx : fx < B) (hO : Owes B l n fx fid fcap fit J Jx) (k : Nat)
    (ih : ∀ (acc : List (List Nat)) (P : List Nat) (s : Nat) (W : World), s < 2 ^ n → (nodesL s).length = k → P.length + k = n → (∀ x ∈ P, x < n) → B + 4 ≤ W.heap.size → J acc W → St B l n fx P W →
      CallsIn Fence.wide 9 Tryd.prog 75 #[.int .i64 s, .pointer (some ⟨B, 0, none⟩), .pointer (some ⟨B + 2, 0, none⟩), .pointer (some ⟨fx, 0, none⟩), .pointer (some ⟨B + 3, 0, none⟩)] W (Tried B l n fx P (dfs fit k acc P s) J Jx W))
    (acc : List (List Nat)) (P : List Nat) (s : Nat) (W : World) (hs : s < 2 ^ n) (hk : (nodesL s).length = k + 1) (hPn : P.length + (k + 1) = n) (hPl : ∀ x ∈ P, x < n) (hBW : B + 4 ≤ W.heap.size) (hj : J acc W) (hst : St B l n fx P W) :
    CallsIn Fence.wide 9 Tryd.prog 75 #[.int .i64 s, .pointer (some ⟨B, 0, none⟩), .pointer (some ⟨B + 2, 0, none⟩), .pointer (some ⟨fx, 0, none⟩), .pointer (some ⟨B + 3, 0, none⟩)] W (Tried B l n fx P (dfs fit (k + 1) acc P s) J Jx W) := by
  obtain ⟨m0, em0⟩ : ∃ m0, m0 = W.heap.size := ⟨_, rfl⟩
  have hs0 : s ≠ 0 := fun e => by rw [e, nodes_zero] at hk; simp at hk
  have he0 : ((s : Int) == 0) = false := by simpa using hs0
  obtain ⟨W3, eW3⟩ : ∃ W3, W3 = ((W.alloc (.cells #[.int .i64 s] 3)).alloc (.cells #[.bool false] 4)).alloc (.cells #[.int .i64 s] 3) := ⟨_, rfl⟩
  have sW : W3.heap.size = m0 + 1 + 1 + 1 := by rw [eW3, em0]; simp
  have hR0 : Rest0 B W W3 := by rw [eW3]; exact ((rest0_alloc B W _).trans (rest0_alloc B _ _)).trans (rest0_alloc B _ _)
  have hBB : Below B W W3 := by rw [eW3]; exact (((Below.refl B W).alloc (by omega) _).alloc (by simp <;> omega) _).alloc (by simp <;> omega) _
  have hb2 : Below 2 W W3 := by rw [eW3]; exact (((Below.refl 2 W).alloc (by omega) _).alloc (by simp <;> omega) _).alloc (by simp <;> omega) _
  have bf : Boxed W3 m0 3 (.int .i64 s) := by rw [eW3, em0]; exact ((Boxed.new W _ _).alloc _).alloc _
  have br : Boxed W3 (m0 + 1) 4 (.bool false) := by
    rw [eW3, em0]; have h := Boxed.new (W.alloc (.cells #[.int .i64 s] 3)) 4 (.bool false); rw [World.size_alloc] at h; exact h.alloc _
  have bs : W3.cell? ⟨m0 + 1 + 1, 0, none⟩ = some (.int .i64 s) := by
    rw [eW3, em0]; have h := Boxed.new ((W.alloc (.cells #[.int .i64 s] 3)).alloc (.cells #[.bool false] 4)) 3 (.int .i64 s); rw [World.size_alloc, World.size_alloc] at h; exact h.cell
  have hst3 := st_rest0 hst hR0
  have hj3 := hO.far _ _ _ hj hBB (soft_rest hR0.p hBB)
  have hT3 := hO.tab _ _ hj3
  have HO := Lib.hid hO
  have IH := Lib.hid ih
  have HK := Lib.hid hk
  have HPL := Lib.hid hPl
  have HPN := Lib.hid hPn
  have EW3 := Lib.hid eW3
  have EM0 := Lib.hid em0
  have SW := Lib.hid sW
  have hmB : B + 4 ≤ m0 := by omega
  clear ih hk hPl hst hj hO eW3 hPn hBB em0 sW hBW hs0
  refine callsIn_of_wp_marks Tryd.func75 rfl trivial ?_ rfl
  simp only [Tryd.ntmps75, List.size_toArray, List.length_cons, List.length_nil, Nat.reduceAdd, Nat.reduceSub, Array.replicate_succ, Array.replicate_zero, List.push_toArray, List.append_toArray, List.nil_append, List.cons_append]
  gi_wp2_with (refine ⟨trivial, ?_⟩; gi_at_call 59; refine (callsIn_wide.2 (nodesIn_any s _)).mono ?_; rintro e w' ⟨rfl, rfl⟩)
  rw [← EW3.out]
  rw [← EM0.out]
  refine wpIn_rangeFunc_ownG (α := Nd n s) rfl (by omega) (gf := 76) (lb := #[.pointer (some ⟨m0 + 1 + 1, 0, none⟩)]) rfl trivial (enters_of Tryd.func76 (by kernel_rfl) rfl)
    (nodes_stops _ (m0 + 1 + 1) n s 2 (by omega) hn hs W3 (by have := SW.out; have := EM0.out; omega) bs hT3 (by omega) (by have := SW.out; have := EM0.out; omega)) belowK_t (belowK_b (by have := SW.out; have := EM0.out; omega)) (Below.refl _ _) (fun _ => rfl)
    (TI B l n fx k s m0 fit J acc P W) (TX B n k s m0 fit Jx acc P W) ?ownI ?ownX ⟨hj3, hst3, bf, br, hR0.p, hb2⟩
    (fun x => { tmps := #[.int .i64 s, .pointer (some ⟨B, 0, none⟩), .pointer (some ⟨B + 2, 0, none⟩), .pointer (some ⟨fx, 0, none⟩), .pointer (some ⟨B + 3, 0, none⟩), .pointer (some ⟨m0, 0, none⟩), .pointer (some ⟨m0 + 1, 0, none⟩), .int .i64 (x.1 : Int), .int .i64 s, .bool false, undef, undef, undef, .int .i64 s,
      .func (.func 76) #[] #[.pointer (some ⟨m0 + 1 + 1, 0, none⟩)], .int .i64 (x.1 : Int), undef, undef, undef, undef, undef, undef, undef, undef, undef, undef, undef, undef, undef, undef, undef, undef, undef, undef, undef, undef, undef], defers := [] }) ?assign ?body ?done ?stop
  case ownI =>
    rintro pre X Y row ⟨h1, h2, h3, h4, h5, h6⟩ hg hr
    have hsz := h2.1.lt
    refine ⟨HO.out.far _ X Y h1 ((Below.refl B X).grown hg (by omega) (fun r e => by have := (hr r e).1; have := SW.out; have := EM0.out; omega)) (soft_grown hg (fun r e => ⟨by have := (hr r e).1; have := SW.out; have := EM0.out; omega, .inr (.inr (by obtain ⟨o, ho, hc⟩ := (hr r e).2; exact ⟨o, ho, soft_of_not_cells hc⟩))⟩)), h2.grown hg (fun r e => by have := (hr r e).1; have := SW.out; have := EM0.out; omega), h3.kept hg (fun e => by have := (hr _ e.symm).1; have := SW.out; have := EM0.out; omega), h4.kept hg (fun e => by have := (hr _ e.symm).1; have := SW.out; have := EM0.out; omega), ?_, h6.grown hg (by have := h6.size; omega) (fun r e => by have := (hr r e).1; have := SW.out; have := EM0.out; omega)⟩
    exact restP_later h5 (Nat.le_refl _) (fun i o hi _ _ h7 => (hg.block i (Array.getElem?_eq_some_iff.1 h7).1 (fun e => by have := (hr _ e.symm).1; have := SW.out; have := EM0.out; omega)).trans h7) hg.size
  case ownX =>
    rintro cd pre X Y row ⟨h1, ⟨xs, h2, h3⟩, h4, h5⟩ hg hr
    refine ⟨h1, ⟨xs, HO.out.farx _ X Y row h2 hg (fun r e => ⟨by have := (hr r e).1; have := SW.out; have := EM0.out; omega, .inl (hr r e).2⟩), h3⟩, h4.kept hg (fun e => by have := (hr _ e.symm).1; have := SW.out; have := EM0.out; omega), ?_⟩
    exact restP_later h5 (Nat.le_refl _) (fun i o hi _ _ h7 => (hg.block i (Array.getElem?_eq_some_iff.1 h7).1 (fun e => by have := (hr _ e.symm).1; have := SW.out; have := EM0.out; omega)).trans h7) hg.size
  case assign =>
    intro l2 x Z K hK
    gi_wp2
    exact hK
  case done =>
    rintro D xs Z hD hS ⟨h1, h2, h3, h4, h5, h6⟩ hK
    have z1 := h4.cell
    have z2 := h4.frozen
    rw [hS] at h1
    have H1 := Lib.hid h1
    have H2 := Lib.hid h2
    have H4 := Lib.hid h4
    have H5 := Lib.hid h5
    have hDm : D ≠ m0 + 1 := by have := SW.out; have := EM0.out; omega
    have hK2 : (Z.setCell ⟨m0 + 1, 0, none⟩ (.bool true)).heap[D]? = some (.deferred (some [])) := (Below.heap_setCell _ _ _ D (fun e => hDm e)).trans hK
    clear h1 h2 h4 h5 hS hK
    gi_wp2
    refine ⟨by simp, .inl ⟨_, _, rfl, run_takeDeferred hK2, ?_⟩⟩
    have gD := grownBy_putObj' (Z.setCell ⟨m0 + 1, 0, none⟩ (.bool true)) D (.deferred none)
    have zc := (((H4.out.set (.bool true)).kept gD (fun e => hDm (by injection e with e; exact e.symm)))).cell
    refine ⟨.bool true, by simp [results, Tryd.f75, go_sem, zc], .inl ⟨rfl, ?_, ?_, ?_, ?_⟩⟩
    · rw [dfs_succ]
      refine HO.out.far _ Z _ H1.out ((((Below.refl B Z).setCell (p := ⟨m0 + 1, 0, none⟩) (by show B ≤ m0 + 1; omega) _)).grown gD (by have := H2.out.1.lt; simp [World.size_setCell]; omega) (fun r e => by cases e; have := SW.out; have := EM0.out; omega)) ((soft_grown (grownBy_setCell' Z _ _) (fun r e => by cases e; exact ⟨by omega, .inr (.inr (soft_bool H4.out))⟩)).trans (soft_grown gD (fun r e => by cases e; exact ⟨by have := SW.out; have := EM0.out; omega, .inr (.inr ⟨_, hK2, rfl⟩)⟩)))
    · exact (H2.out.grown (grownBy_setCell' Z _ _) (fun r e => by cases e; omega)).grown gD (fun r e => by cases e; have := SW.out; have := EM0.out; omega)
    · refine restP_later (restP_set H5.out (by have := EM0.out; omega)) (Nat.le_refl _) (fun i o hi _ _ h7 => (gD.block i (Array.getElem?_eq_some_iff.1 h7).1 (fun e => by injection e with e; have := SW.out; have := EM0.out; omega)).trans h7) gD.size
    · exact (h6.setCell (p := ⟨m0 + 1, 0, none⟩) (by show 2 ≤ m0 + 1; omega) _).grown gD (by have := h6.size; have := EM0.out; simp [World.size_setCell]; omega) (fun r e => by cases e; have := SW.out; have := EM0.out; omega)
  case stop =>
    rintro D cd pre Z hD hSp ⟨rfl, ⟨xs, h2, h3⟩, h4, h5⟩ hK
    have z1 := h4.cell
    gi_wp2
    refine ⟨by simp, .inl ⟨_, _, rfl, run_takeDeferred hK, ?_⟩⟩
    have gD := grownBy_putObj' Z D (.deferred none)
    have hDm : D ≠ m0 + 1 := by have := SW.out; have := EM0.out; omega
    have zc := (h4.kept gD (fun e => hDm (by injection e with e; exact e.symm))).cell
    refine ⟨.bool false, by simp [results, Tryd.f75, go_sem, zc], .inr ⟨rfl, ⟨xs, ?_, ?_⟩, ?_⟩⟩
    · exact HO.out.farx _ Z _ _ h2 gD (fun r e => by cases e; exact ⟨by have := SW.out; have := EM0.out; omega, .inl ⟨_, hK, rfl⟩⟩)
    · rw [dfs_succ]; exact h3.trans (runF_mono _ _ _ _ _ hSp)
    · exact restP_later h5 (Nat.le_refl _) (fun i o hi _ _ h7 => (gD.block i (Array.getElem?_eq_some_iff.1 h7).1 (fun e => by injection e with e; have := SW.out; have := EM0.out; omega)).trans h7) gD.size
  case body =>
    rintro l2 pre x Z ⟨h1, h2, h3, h4, h5, h6⟩ hlen
    clear hR0 hb2 bf br bs hst3 hj3 hT3 he0
    obtain ⟨v, hvn, hvq⟩ := x
    dsimp only at hvn hvq ⊢
    obtain ⟨accp, ea⟩ : ∃ accp, accp = runF fit k P s acc (valsN pre) := ⟨_, rfl⟩
    have hstep : runF fit k P s acc (valsN (pre ++ [(⟨v, hvn, hvq⟩ : Nd n s)])) = stepF fit k P s accp v := by rw [valsN_snoc, runF_snoc, ea]
    rw [← ea] at h1
    have hn64 := two_le hn
    have hs64 : s < 64 := by omega
    have hv6 : v < 6 := by omega
    obtain ⟨lb1, lb2⟩ := less_bit ⟨s, hs64⟩ ⟨v, hv6⟩
    dsimp only at lb1 lb2
    have hsl := less_lt s v n hs
    have hnl : (nodesL (less s (2 ^ v))).length = k := by have h7 := (lb2 hvq).2; have := HK.out; omega
    have w1 := wrap_pow v (by omega)
    have w2 : IntKind.i64.wrap ((2 : Int) ^ v) = ((2 ^ v : Nat) : Int) := by rw [IntKind.wrap_i64]; unfold wrap64 at w1; exact w1
    have hp64 : 2 ^ v < 1048576 := Nat.lt_of_le_of_lt (pow_le v 6 (by omega)) (by decide)
    have f1 := less_op s (2 ^ v) (by omega) hp64
    obtain ⟨p, ep⟩ : ∃ p, p = 2 ^ v := ⟨_, rfl⟩
    rw [← ep] at w1 w2 f1 hsl hnl
    obtain ⟨s', es'⟩ : ∃ s', s' = less s p := ⟨_, rfl⟩
    rw [← es'] at f1 hsl hnl
    obtain ⟨d, ed⟩ : ∃ d, d = P.length := ⟨_, rfl⟩
    have hdn : d + (k + 1) = n := by rw [ed]; exact HPN.out
    have hil : (ints P).length = d := by rw [ints_length, ed]
    have hiv : ints (P ++ [v]) = ints P ++ [(v : Int)] := by simp [ints]
    have hPv : (P ++ [v]).length = d + 1 := by simp [ed]
    have hPlv : ∀ x ∈ P ++ [v], x < n := fun x hx => by
      rcases List.mem_append.1 hx with h | h
      · exact HPL.out x h
      · rw [List.mem_singleton.1 h]; exact hvn
    have hdn1 : d + 1 ≤ n := by omega
    have z2 := h2.2.1.cell
    have hrw := h2.2.2.1
    rw [← ed] at z2 hrw
    have hZsz := h2.1.lt
    have H1 := Lib.hid h1
    have H2 := Lib.hid h2
    have H3 := Lib.hid h3
    have H4 := Lib.hid h4
    have H5 := Lib.hid h5
    have H6 := Lib.hid h6
    have HRW := Lib.hid hrw
    have HIL := Lib.hid hil
    have HIV := Lib.hid hiv
    have HPV := Lib.hid hPv
    have HPLV := Lib.hid hPlv
    have HST := Lib.hid hstep
    have HNL := Lib.hid hnl
    have HSL := Lib.hid hsl
    have ED := Lib.hid ed
    have ES := Lib.hid es'
    have EP := Lib.hid ep
    have W1 := Lib.hid w1
    have W2 := Lib.hid w2
    have F1 := Lib.hid f1
    clear h1 h2 h3 h4 h5 h6 hrw hil hiv hPv hPlv hstep hnl hsl ed es' ep lb1 lb2 hp64 hn64 hs64 ea hlen w1 w2 f1
    gi_wp2_with (gi_at_builtin; refine fitsIn_one rfl (.tmp 16) (.tmp 18) rfl Z B (B + 1) n d (ints P) (v : Int) HIL.out rfl rfl HRW.out hdn1 ?_; intro w1 hr' hg'
                 have q2 : Boxed w1 (B + 2) 23 (.slice (some ⟨B + 1, 0, none⟩) d n) := by
                   have h0 := H2.out.2.1
                   rw [← ED.out] at h0
                   exact (h0.alloc _).kept hg' (fun e => by injection e; omega)
                 have y2 := q2.cell
                 have y3 := q2.frozen
                 have HR' := Lib.hid hr'
                 have HG' := Lib.hid hg'
                 have Q2 := Lib.hid q2
                 clear hr' hg' q2)
    obtain ⟨Z1, eZ1⟩ : ∃ Z1, Z1 = w1.setCell ⟨B + 2, 0, none⟩ (.slice (some ⟨B + 1, 0, none⟩) (d + 1) n) := ⟨_, rfl⟩
    have gC : w1.grownBy Z1 (some (B + 2)) := by rw [eZ1]; exact grownBy_setCell' w1 _ _
    have rZ : RestP B Z Z1 := ((restP_alloc B Z _).trans (restP_of_grown HG'.out (fun r e => by cases e; exact .inl rfl))).trans (restP_of_grown gC (fun r e => by cases e; exact .inr (.inl rfl)))
    have bZ : Below B Z Z1 := (((Below.refl B Z).alloc (by omega) _).grown HG'.out (by rw [World.size_alloc]; omega) (fun r e => by cases e; omega)).grown gC (by have := HG'.out.size; rw [World.size_alloc] at this; omega) (fun r e => by cases e; omega)
    have q2 : Boxed Z1 (B + 2) 23 (.slice (some ⟨B + 1, 0, none⟩) (d + 1) n) := by rw [eZ1]; exact Q2.out.set _
    have q1 := boxed_restP H2.out.1 rZ (Nat.le_refl _) (by omega) (by omega)
    have q3 := boxed_restP H2.out.2.2.2 rZ (by omega) (by omega) (by omega)
    have q4 := boxed_restP H3.out rZ (by omega) (by omega) (by omega)
    have q5 := boxed_restP H4.out rZ (by omega) (by omega) (by omega)
    have qr : Row Z1 B (.slice (some ⟨B + 1, 0, none⟩) (d + 1) n) (ints (P ++ [v])) := by
      rw [HIV.out]
      exact World.ownsRow.kept HR'.out gC (.inr (fun e => by have e2 : some (B + 1) = some (B + 2) := e; injection e2; omega))
    have hst1 : St B l n fx (P ++ [v]) Z1 := by
      refine ⟨q1, ?_, ?_, q3⟩
      · rw [HPV.out]; exact q2
      · rw [HPV.out]; exact qr
    have hj1 : J accp Z1 := HO.out.far _ _ _ H1.out bZ (soft_rest rZ bZ)
    have hj1d : J accp Z1.drew := HO.out.far _ _ _ hj1 (Below.refl B Z1).drew (Soft.drew Z1)
    have hask := HO.out.asks accp (P ++ [v]) (.slice (some ⟨B + 1, 0, none⟩) (d + 1) n) Z1.drew hj1d qr (by rw [HPV.out]; omega) (by rw [HPV.out]; omega) HPLV.out
    have hen := HO.out.enters
    have zf := (HO.out.box _ _ hj1).cell
    have zq := q2.cell
    have RZ := Lib.hid rZ
    have BZ := Lib.hid bZ
    have QS := Lib.hid hst1
    have Q4 := Lib.hid q4
    have Q5 := Lib.hid q5
    have HJ1 := Lib.hid hj1
    have HASK := Lib.hid hask
    have EZ1 := Lib.hid eZ1
    rw [← eZ1]
    clear q2 q1 q3 q4 q5 qr hst1 hj1 hj1d hask rZ bZ gC y2 y3 z2 HR' HG' Q2 HRW eZ1
    have hZ1sz := QS.out.1.lt
    gi_wp2
    refine wpIn_guarded 5 (by kernel_rfl) (by kernel_rfl) ?_
    simp only [List.take_succ_cons, List.take_zero, List.drop_succ_cons, List.drop_zero]
    intro K1 hK1
    still_step
    still_step
    refine wpStill_nil ?_
    refine hK1 _ ?_
    clear hK1 K1
    intro K2 hK2
    clear zf zq
    by_cases hfit : fit accp (P ++ [v]) = true
    · rw [hfit] at HASK
      gi_wp2_with (refine ⟨trivial, ?_⟩; refine (CallsIn.inRound l2 (callsIn_wide.2 HASK.out)).mono ?_; rintro e Z2 ⟨rfl, hb⟩)
      have hb1 : Below Z1.heap.size Z1 Z2 := (Below.refl Z1.heap.size Z1).drew.trans hb
      have r2 := restP_below (B := B) hb1
      have bb : Below B Z1 Z2 := hb1.mono (by omega)
      have b22 : Below 2 Z1 Z2 := hb1.mono (by omega)
      have hst2 : St B l n fx (P ++ [v]) Z2 := by
        obtain ⟨a1, a2, a3, a4⟩ := QS.out
        exact ⟨(hb1.block _ (by omega)).trans a1, (hb1.block _ a2.lt).trans a2, Row.below a3 hb1, (hb1.block _ a4.lt).trans a4⟩
      have y1 := hst2.2.2.2.cell
      have q4 := boxed_restP Q4.out r2 (by omega) (by omega) (by omega)
      have q5 := boxed_restP Q5.out r2 (by omega) (by omega) (by omega)
      have y4 := q4.cell
      have R2 := Lib.hid ((RZ.out.trans r2))
      have R3 := Lib.hid ((H5.out.trans RZ.out).trans r2)
      have B3 := Lib.hid ((BZ.out.mono hB2).trans b22)
      have B4 := Lib.hid ((H6.out.trans (BZ.out.mono hB2)).trans b22)
      have Q42 := Lib.hid q4
      have Q52 := Lib.hid q5
      have hsz2 := hb1.size
      have hih := IH.out accp (P ++ [v]) s' Z2 HSL.out HNL.out (by rw [HPV.out]; omega) HPLV.out (by have := Q4.out.lt; omega) (HO.out.far _ _ _ HJ1.out bb (soft_rest r2 bb)) hst2
      have HIH := Lib.hid (callsIn_wide.1 hih)
      have w1 := W1.out
      have w2 := W2.out
      have f1 := F1.out
      clear hst2 q4 q5 r2 bb b22 hb1 hb hih
      intro K3 hK3
      repeat still_step
      refine wpStill_nil ?_
      refine hK3 _ ?_
      clear hK3 K3 w1 w2 f1 y1 y4
      gi_wp2_with fail
      refine ⟨trivial, ?_⟩
      refine (CallsIn.inRound l2 (callsIn_wide.2 HIH.out)).mono ?_
      rintro e Z3 (⟨rfl, t1, t2, t3, t4⟩ | ⟨rfl, ⟨xs, t1, t5⟩, t3⟩)
      · have q2 := t2.2.1
        rw [HPV.out] at q2
        have y2 := q2.cell
        have y3 := q2.frozen
        have hfin := shut_round (b := W3.heap.size) (Z := Z) (W := W) hB2 hmB (by have := SW.out; omega) ED.out HO.out.far t1 t2 (boxed_restP Q42.out t3 (by omega) (by omega) (by omega)) (boxed_restP Q52.out t3 (by omega) (by omega) (by omega))
          (R3.out.trans t3) (B4.out.trans t4) (R2.out.trans t3) (B3.out.trans t4)
        have HFIN := Lib.hid hfin
        clear q2 hfin t1 t2 t3 t4
        gi_wp2
        obtain ⟨a1, a2, a3⟩ := HFIN.out
        refine ⟨a1, a2, ?_⟩
        unfold TI
        rw [HST.out, show stepF fit k P s accp v = dfs fit k accp (P ++ [v]) s' by unfold stepF; rw [if_pos hfit, ES.out, EP.out]]
        exact a3
      · have q5 := boxed_restP Q52.out t3 (by omega) (by omega) (by omega)
        have y2 := q5.cell
        have y3 := q5.frozen
        have T1 := Lib.hid t1
        have T3 := Lib.hid t3
        have T5 := Lib.hid t5
        have Q53 := Lib.hid q5
        clear t1 t3 t5 q5
        gi_wp2
        refine ⟨(keepsFrom_restP (R2.out.trans T3.out) (by have := SW.out; omega)).trans ((KeepsOthers.setCell _ _ _).from _), rfl, ⟨xs, ?_, ?_⟩, ?_, ?_⟩
        · exact HO.out.farx _ Z3 _ _ T1.out (grownBy_setCell' Z3 _ _) (fun r e => by cases e; exact ⟨by omega, .inr ⟨_, Q53.out⟩⟩)
        · rw [HST.out, show stepF fit k P s accp v = dfs fit k accp (P ++ [v]) s' by unfold stepF; rw [if_pos hfit, ES.out, EP.out]]
          exact T5.out
        · exact Q53.out.set _
        · exact restP_set (R3.out.trans T3.out) (by have := EM0.out; omega)
    · have hff : fit accp (P ++ [v]) = false := by simpa using hfit
      rw [hff] at HASK
      gi_wp2_with (refine ⟨trivial, ?_⟩; refine (CallsIn.inRound l2 (callsIn_wide.2 HASK.out)).mono ?_; rintro e Z2 ⟨rfl, hb⟩)
      have hb1 : Below Z1.heap.size Z1 Z2 := (Below.refl Z1.heap.size Z1).drew.trans hb
      have r2 := restP_below (B := B) hb1
      have bb : Below B Z1 Z2 := hb1.mono (by omega)
      have b22 : Below 2 Z1 Z2 := hb1.mono (by omega)
      have hst2 : St B l n fx (P ++ [v]) Z2 := by
        obtain ⟨a1, a2, a3, a4⟩ := QS.out
        exact ⟨(hb1.block _ (by omega)).trans a1, (hb1.block _ a2.lt).trans a2, Row.below a3 hb1, (hb1.block _ a4.lt).trans a4⟩
      have q2 := hst2.2.1
      rw [HPV.out] at q2
      have y2 := q2.cell
      have y3 := q2.frozen
      have hfin := shut_round (b := W3.heap.size) (Z := Z) (W := W) hB2 hmB (by have := SW.out; omega) ED.out HO.out.far (HO.out.far _ _ _ HJ1.out bb (soft_rest r2 bb)) hst2 (boxed_restP Q4.out r2 (by omega) (by omega) (by omega)) (boxed_restP Q5.out r2 (by omega) (by omega) (by omega))
        ((H5.out.trans RZ.out).trans r2) ((H6.out.trans (BZ.out.mono hB2)).trans b22) (RZ.out.trans r2) ((BZ.out.mono hB2).trans b22)
      have HFIN := Lib.hid hfin
      clear hst2 q2 hfin r2 bb b22 hb1 hb
      intro K3 hK3
      repeat still_step
      refine wpStill_nil ?_
      refine hK3 _ ?_
      clear hK3 K3
      gi_wp2
      refine ⟨fun _ h => (by cases h), ?_⟩
      gi_wp2
      obtain ⟨a1, a2, a3⟩ := HFIN.out
      refine ⟨a1, a2, ?_⟩
      unfold TI
      rw [HST.out, show stepF fit k P s accp v = accp by unfold stepF; rw [if_neg hfit]]
      exact a3

theorem try_in {B l n fx fid : Nat} {fcap : Array Value} {fit : List (List Nat) → List Nat → Bool} {J Jx : List (List Nat) → World → Prop} (hn : n ≤ 6) (hB2 : 2 ≤ B) (hfx : fx < B) (hO : Owes B l n fx fid fcap fit J Jx) :
    ∀ (k : Nat) (acc : List (List Nat)) (P : List Nat) (s : Nat) (W : World), s < 2 ^ n → (nodesL s).length = k → P.length + k = n → (∀ x ∈ P, x < n) → B + 4 ≤ W.heap.size → J acc W → St B l n fx P W →
      CallsIn Fence.wide 9 Tryd.prog 75 #[.int .i64 s, .pointer (some ⟨B, 0, none⟩), .pointer (some ⟨B + 2, 0, none⟩), .pointer (some ⟨fx, 0, none⟩), .pointer (some ⟨B + 3, 0, none⟩)] W (Tried B l n fx P (dfs fit k acc P s) J Jx W) := by
  intro k
  induction k with
  | zero =>
    intro acc P s W hs hk hPn hPl hBW hj hst
    have h64 := two_le hn
    have h0 := nodes_none ⟨s, by omega⟩ hk
    dsimp only at h0
    subst h0
    exact try_zero hB2 hO acc P W hBW hj hst (by omega) hPl
  | succ k ih =>
    intro acc P s W hs hk hPn hPl hBW hj hst
    exact try_succ hn hB2 hfx hO k ih acc P s W hs hk hPn hPl hBW hj hst
#print axioms try_in
end Go.Proofs.YtamabhdbcmjbjaaDoor
