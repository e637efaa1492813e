/- The program's sortedWith: the texts in order, and brackets around them from the last one on. -/
import Derived.Test.YtkninejoliclcaaDoorSortT
import Derived.Test.YtkninejoliclcaaDoorBackFn
import Derived.Test.YtkninejoliclcaaDoorSortedFn
import Derived.RangeFuncWrites
import Derived.RangeFuncKeeps
namespace Go.Proofs.YtkninejoliclcaaDoor
open Go.RowKit Go.Shelf
attribute [local go_sem] Oper.semAt_some
set_option linter.unusedVariables false
set_option maxRecDepth 100000

/-- Brackets put around a text, one text at a place after the other. -/
def bkT (q : Bool) (S : List (List UInt8)) (is : List Nat) (t : List UInt8) : List UInt8 := is.foldl (fun t i => brk (S.getD i []) q t) t
theorem bkT_snoc (q : Bool) (S : List (List UInt8)) (is : List Nat) (i : Nat) (t : List UInt8) : bkT q S (is ++ [i]) t = brk (S.getD i []) q (bkT q S is t) := by unfold bkT; rw [List.foldl_append]; rfl
theorem getD_le {S : List (List UInt8)} (h : ∀ x ∈ S, x.length ≤ 100) (i : Nat) : (S.getD i []).length ≤ 100 := by
  by_cases hi : i < S.length
  · have e : S.getD i [] = S[i] := by simp [hi]
    rw [e]
    exact h _ (List.getElem_mem hi)
  · have e : S.getD i [] = [] := by simp [Nat.le_of_not_lt hi]
    rw [e]
    simp
theorem bkT_len (q : Bool) {S : List (List UInt8)} (h : ∀ x ∈ S, x.length ≤ 100) : ∀ (is : List Nat) (t : List UInt8), (bkT q S is t).length ≤ t.length + 103 * is.length
  | [], t => by simp [bkT]
  | i :: is, t => by
    have h1 := bkT_len q h is (brk (S.getD i []) q t)
    have h2 := brk_length (S.getD i []) q t
    have h3 := getD_le h i
    show (bkT q S is (brk (S.getD i []) q t)).length ≤ _
    rw [List.length_cons]
    omega
theorem bkT_end (q : Bool) (S : List (List UInt8)) (m : Nat) (hS : S.length = m + 1) : ∀ k, k ≤ m → bkT q S (List.range k).reverse (joinT q (S.drop k)) = joinT q S
  | 0, _ => rfl
  | k + 1, hk => by
    have hkl : k < S.length := by omega
    rw [range_rev]
    show bkT q S (List.range k).reverse (brk (S.getD k []) q (joinT q (S.drop (k + 1)))) = _
    rw [← bkT_end q S m hS k (by omega), List.drop_eq_getElem_cons hkl, joinT_cons q _ _ (fun h => by have := congrArg List.length h; simp at this; omega)]
    have e : S.getD k [] = S[k] := by simp [hkl]
    rw [e]
    rfl
theorem join_last (q : Bool) (S : List (List UInt8)) (m : Nat) (hS : S.length = m + 1) : joinT q (S.drop m) = S.getD m [] := by
  have hm : m < S.length := by omega
  rw [List.drop_eq_getElem_cons hm, List.drop_eq_nil_of_le (by omega)]
  simp [joinT, hm]

theorem Rw.fix {w : World} {B g n cap : Nat} {ys : List Value} (h : Rw 9 w B (.slice (some ⟨g, 0, none⟩) n cap) ys) : ∃ cur, Fix g cur w ∧ ∀ k, k < ys.length → cur[k]? = ys[k]? := by
  unfold Rw at h
  rcases h.2 with ⟨h1, _⟩ | ⟨g', cap', cur, e, hg, hb, h1, h2, h3, h4⟩
  · cases h1
  · cases e
    refine ⟨cur, hb, fun k hk => ?_⟩
    rw [← h4]
    rw [List.getElem?_take_of_lt (by omega), Array.getElem?_toList]

/-- Between two rounds: the sign's box, the text so far; all that was there at the range's begin, but for the text's box. -/
def BkInv (n₀ n₁ : Nat) (q : Bool) (S : List (List UInt8)) (t0 : List UInt8) {m : Nat} (pre : List (BkI m)) (W : World) : Prop :=
  Boxed W n₀ 9 (.string ⟨#[sgB q]⟩) ∧ Boxed W n₁ 9 (.string ⟨(bkT q S (valsK pre) t0).toArray⟩)
theorem bkInv_own (n₀ n₁ : Nat) (q : Bool) (S : List (List UInt8)) (t0 : List UInt8) (m : Nat) : Own (BkInv n₀ n₁ q S t0 (m := m)) := fun s X Y row hs hg hr =>
  ⟨boxed_own _ _ (fun _ : Unit => _) () X Y row hs.1 hg hr, boxed_own _ _ (fun _ : Unit => _) () X Y row hs.2 hg hr⟩

theorem grown_of {w w' : World} (b : Below w.heap.size w w') (row : Option Nat) : w.grownBy w' row := ⟨b.os, b.tape, b.output, b.size, fun k hk _ => b.block k hk⟩
theorem keeps_belowT {W W' : World} (h : Below W.heap.size W W') : KeepsOthers W W' := ⟨h.size, fun k o ho _ => (h.block k (Array.getElem?_eq_some_iff.1 ho).1).trans ho⟩

set_option maxHeartbeats 4000000 in
theorem sortedWith_in (q : Bool) (xs : List (List UInt8)) (B : Nat) (v : Value) (w : World) (hne : xs ≠ []) (h6 : xs.length ≤ 6) (hlong : ∀ x ∈ xs, x.length ≤ 100) (hr : Rw 9 w B v (xs.map str)) :
    CallsIn Fence.wide 6 Tryd.prog 51 #[v, .string ⟨#[sgB q]⟩] w fun e w' => e = .returned (.string ⟨(joinT q (srt xs)).toArray⟩) ∧ w.grownBy w' v.ownBlock := by
  obtain ⟨m, hm⟩ : ∃ m, m + 1 = xs.length := ⟨xs.length - 1, by have := List.length_pos_iff.2 hne; omega⟩
  have hSl : (srt xs).length = m + 1 := by rw [srt_length, hm]
  have hSs : ∀ x ∈ srt xs, x.length ≤ 100 := fun x hx => hlong x ((srt_perm xs).mem_iff.1 hx)
  have HS := Lib.hid (sortT_any B v xs (by omega) (w.alloc (.cells #[.string ⟨#[sgB q]⟩] 9)) (hr.below (bl_alloc (Below.refl _ _))))
  obtain ⟨S, eS⟩ : ∃ S, S = srt xs := ⟨_, rfl⟩
  rw [← eS] at HS hSl hSs ⊢
  have HSL := Lib.hid hSl
  have HSS := Lib.hid hSs
  have hm6 : m < 6 := by omega
  have HLT := Lib.hid (World.ownsRow.lt hr)
  have hml : (S.map str).length = m + 1 := by rw [List.length_map, hSl]
  have HML := Lib.hid hml
  obtain ⟨t0, et0⟩ : ∃ t0, t0 = S.getD m [] := ⟨_, rfl⟩
  have ET := Lib.hid et0
  clear hr hlong hne h6 hm hSl hSs eS hml et0
  refine callsIn_of_wp_marks Tryd.func51 rfl trivial ?_ rfl
  simp only [Tryd.ntmps51, List.size_toArray, List.length_cons, List.length_nil, Nat.reduceAdd, Nat.reduceSub, Array.replicate_succ, Array.replicate_zero, List.push_toArray, List.append_toArray, List.nil_append, List.cons_append]
  gi_wp2_with (first
    | (refine ⟨trivial, ?_⟩; gi_at_call 64; refine (callsIn_wide.2 HS.out).mono ?_; rintro e w1 ⟨rfl, r1, g1⟩
       obtain ⟨g, cap, ev, hBg, hgl, hcap, hcl, hcell⟩ := r1.form (fun h => by have := HML.out; rw [h] at this; cases this)
       rw [HML.out] at ev hcap
       subst ev
       have hlast : w1.cell? ⟨g, m, none⟩ = some (.string ⟨t0.toArray⟩) := by
         rw [ET.out]
         have hmS : m < S.length := by have := HSL.out; omega
         rw [hcell m (by rw [HML.out]; omega)]
         simp [hmS]
         rfl
       have hwm : wrap64 (((m + 1 : Nat) : Int) - 1) = (m : Int) := by unfold wrap64; omega
       have hmm : (0 : Int) ≤ (m : Int) ∧ (m : Int) < ((m + 1 : Nat) : Int) := by omega)
    | (refine ⟨trivial, ?_⟩; gi_at_call 65; refine (callsIn_wide.2 (backward_any _ _ _ _)).mono ?_; rintro e w' ⟨rfl, rfl⟩))
  obtain ⟨cur, fx1, hcur⟩ := r1.fix
  obtain ⟨W, eW⟩ : ∃ W, W = (w1.alloc (.cells #[.string ⟨t0.toArray⟩] 9)).alloc (.cells #[.slice (some ⟨g, 0, none⟩) m cap] 71) := ⟨_, rfl⟩
  have hgw := (HLT.out g rfl).2
  have sW : W.heap.size = w1.heap.size + 1 + 1 := by rw [eW]; simp
  have bW : Below w1.heap.size w1 W := by rw [eW]; exact bl_alloc (bl_alloc (Below.refl _ _))
  have s1 : w.heap.size < w1.heap.size := Nat.lt_of_lt_of_le (by simp) g1.size
  have b0 : Boxed W w.heap.size 9 (.string ⟨#[sgB q]⟩) := (bW.block _ s1).trans ((Boxed.new w _ _).kept g1 (fun e => by have e2 : w.heap.size = g := Option.some.inj e; omega))
  have b1 : Boxed W w1.heap.size 9 (.string ⟨t0.toArray⟩) := by rw [eW]; exact (Boxed.new w1 _ _).alloc _
  have b2 : Boxed W (w1.heap.size + 1) 71 (.slice (some ⟨g, 0, none⟩) m cap) := by
    rw [eW]; have h := Boxed.new (w1.alloc (.cells #[.string ⟨t0.toArray⟩] 9)) 71 (.slice (some ⟨g, 0, none⟩) m cap); rw [World.size_alloc] at h; exact h
  have fx : Fix g cur W := (bW.block g hgl).trans fx1
  have hck : ∀ k, k < m → cur[k]? = some (.string ⟨(S.getD k []).toArray⟩) := fun k hk => by
    have hkS : k < S.length := by have := HSL.out; omega
    rw [hcur k (by rw [HML.out]; omega)]
    simp [hkS]
    rfl
  rw [← eW]
  have HCK := Lib.hid hck
  have G1 := Lib.hid (World.grownBy.trans (grown_of (bl_alloc (Below.refl w.heap.size w)) (some g)) g1)
  have BW := Lib.hid bW
  have SW := Lib.hid sW
  have S1 := Lib.hid s1
  clear eW r1 hcell hlast g1 hcur fx1 bW sW hcap hcl hBg HS HLT hck
  refine wpIn_rangeFunc_ownF (α := BkI m) rfl (by omega) (gf := 76) (lb := #[.pointer (some ⟨w1.heap.size + 1, 0, none⟩)]) rfl trivial (enters_of Tryd.func76 (by kernel_rfl) rfl)
    (back_stops _ (w1.heap.size + 1) g cap m cur (by omega) (by omega) (fun k hk => ⟨_, HCK.out k hk⟩) W b2 fx) keepK_t (fun W l o o' _ ho hc _ => keepK_b W l o o' ho hc) (Below.refl _ _) (fun _ => rfl)
    (fun pre Z => BkInv w.heap.size w1.heap.size q S t0 pre Z ∧ Below w1.heap.size W Z) (fun _ _ _ => False)
    (OwnFrom.and (Own.from (bkInv_own _ _ _ _ _ _) _) (ownFrom_below (by have := SW.out; omega) (by have := SW.out; omega))) (fun _ _ _ _ _ hs _ _ => hs)
    ⟨⟨b0, b1⟩, Below.refl _ _⟩
    (fun x => { tmps := #[.slice (some ⟨g, 0, none⟩) (m + 1) cap, .string ⟨#[sgB q]⟩, undef, .pointer (some ⟨w.heap.size, 0, none⟩), .string ⟨#[]⟩, .int .i64 m, .pointer (some ⟨w1.heap.size, 0, none⟩), undef, cur[x.1]?.getD undef,
      .slice (some ⟨g, 0, none⟩) (m + 1) cap, .tuple #[], .slice (some ⟨g, 0, none⟩) (m + 1) cap, .int .i64 ((m : Int) + 1), .int .i64 m, .slice (some ⟨g, 0, none⟩) (m + 1) cap, .int .i64 m, .pointer (some ⟨g, m, none⟩), .string ⟨t0.toArray⟩, .slice (some ⟨g, 0, none⟩) (m + 1) cap, .int .i64 m,
      .slice (some ⟨g, 0, none⟩) m cap, .func (.func 76) #[] #[.pointer (some ⟨w1.heap.size + 1, 0, none⟩)], .int .i64 (x.1 : Int), cur[x.1]?.getD undef, undef, undef, undef, undef, undef], defers := [] }) ?assign ?body ?done ?stop
  case assign =>
    intro l x W K hK
    gi_wp2
    exact hK
  case body =>
    rintro l pre x Z ⟨⟨c0, c1⟩, hB⟩ hlen
    have hlp : (valsK pre).length = pre.length := by simp [valsK]
    have hb1 := bkT_len q HSS.out (valsK pre) t0
    have ht0 : t0.length ≤ 100 := by rw [ET.out]; exact getD_le HSS.out m
    have hpx : (S.getD x.1 []).length ≤ 100 := getD_le HSS.out x.1
    have hsn := bkT_snoc q S (valsK pre) x.1 t0
    rw [← valsK_snoc] at hsn
    have hx := HCK.out x.1 x.2
    rw [hx]
    have HBK := Lib.hid (fun W => bracketed_any (S.getD x.1 []) (bkT q S (valsK pre) t0) q (by omega) W)
    obtain ⟨p, ep⟩ : ∃ p, p = S.getD x.1 [] := ⟨_, rfl⟩
    obtain ⟨t, et⟩ : ∃ t, t = bkT q S (valsK pre) t0 := ⟨_, rfl⟩
    rw [← ep, ← et] at HBK hsn
    rw [← et] at c1
    rw [← ep, Option.getD_some]
    have y0 := c0.cell
    have y1 := c1.cell
    have C0 := Lib.hid c0
    have C1 := Lib.hid c1
    have HB := Lib.hid hB
    have HSN := Lib.hid hsn
    clear hlp hb1 ht0 hpx hx ep et hsn c0 c1 hB hlen
    gi_wp2_with (refine ⟨trivial, ?_⟩; gi_at_call 48; refine (CallsIn.inRound l (callsIn_wide.2 (HBK.out Z))).mono ?_; rintro e w2 ⟨rfl, hb2⟩
                 have k1 : Boxed w2 w1.heap.size 9 (.string ⟨t.toArray⟩) := (hb2.block _ C1.out.lt).trans C1.out
                 have q1 := k1.cell
                 have q2 := k1.frozen)
    refine ⟨(keeps_belowT hb2).trans (KeepsOthers.setCell _ _ _), fun x => ⟨Boxed.other ((hb2.block _ x.1.lt).trans x.1) (B' := w1.heap.size) (by omega) _, (Below.heap_setCell w2 ⟨w1.heap.size, 0, none⟩ _ g (by show g ≠ w1.heap.size; omega)).trans ((hb2.block g x.2.lt).trans x.2)⟩,
      ⟨Boxed.other ((hb2.block _ C0.out.lt).trans C0.out) (B' := w1.heap.size) (by have := S1.out; omega) _, ?_⟩, HB.out.trans ((hb2.mono (B' := w1.heap.size) (by have := HB.out.size; have := SW.out; omega)).setCell (p := ⟨w1.heap.size, 0, none⟩) (Nat.le_refl _) _)⟩
    rw [HSN.out]
    exact k1.set _
  case done =>
    rintro D xs Z hD hS ⟨⟨c0, c1⟩, hB⟩ hK
    have hend : bkT q S (valsK xs) t0 = joinT q S := by
      rw [hS, ET.out, ← join_last q S m HSL.out]
      exact bkT_end q S m HSL.out m (Nat.le_refl _)
    rw [hend] at c1
    have z1 := c1.cell
    have HB := Lib.hid hB
    clear hS c0 c1 hB hend
    gi_wp2
    refine ⟨by simp, .inl ⟨_, _, rfl, run_takeDeferred hK, ?_⟩⟩
    refine ⟨_, results_tmp rfl _ _ _, ?_⟩
    refine ⟨rfl, ?_⟩
    have hf := (BW.out.trans HB.out).trans (belowK_b (n₀ := w1.heap.size) (w := W) (by have := SW.out; omega) Z D _ (.deferred none) hD hK rfl rfl)
    exact World.grownBy.trans G1.out (grown_of hf _)
  case stop =>
    rintro D cd pre W _ _ h _
    exact h.elim

theorem sortsWith : SortsWith := fun q xs B v w hne h6 hlong hr => callsIn_wide.1 (sortedWith_in q xs B v w hne h6 hlong hr)
end Go.Proofs.YtkninejoliclcaaDoor
