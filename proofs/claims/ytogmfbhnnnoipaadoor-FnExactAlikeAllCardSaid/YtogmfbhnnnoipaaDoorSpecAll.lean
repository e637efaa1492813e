/- The least codes of all graphs of some nodes, by the model: all codes in a row, those that are alike to earlier ones marked. -/
import Derived.Test.YtogmfbhnnnoipaaDoorAllMath
import Derived.Test.YtogmfbhnnnoipaaDoorAppendAt
import Derived.Test.YtogmfbhnnnoipaaDoorSpecOf
import Derived.Test.YtogmfbhnnnoipaaDoorBaseB
namespace Go.Proofs.YtogmfbhnnnoipaaDoor
open Go Go.RowKit
set_option linter.unusedVariables false
set_option maxRecDepth 100000

/-! ### a row of marks in a block -/
def boolC (N : Nat) (M : Nat → Bool) : Array Value := (Array.range N).map fun t => .bool (M t)
theorem boolC_get (N : Nat) (M : Nat → Bool) {k : Nat} (hk : k < N) : (boolC N M)[k]? = some (.bool (M k)) := by
  unfold boolC
  rw [Array.getElem?_map, Array.getElem?_range, if_pos hk]
  rfl
theorem boolC_set (N : Nat) (M : Nat → Bool) (k : Nat) (x : Bool) (hk : k < N) : (boolC N M).setIfInBounds k (.bool x) = boolC N (fun t => if t = k then x else M t) := by
  apply Array.ext_getElem?
  intro t
  rw [Array.getElem?_setIfInBounds]
  unfold boolC
  rw [Array.size_map, Array.size_range]
  by_cases h : k = t
  · subst h
    rw [if_pos rfl, if_pos hk, Array.getElem?_map, Array.getElem?_range, if_pos hk]
    simp
  · rw [if_neg h, Array.getElem?_map, Array.getElem?_map, Array.getElem?_range]
    split
    · have : ¬ t = k := fun e => h e.symm
      simp [this]
    · rfl
theorem boolC_congr {N : Nat} {M M' : Nat → Bool} (h : ∀ k, k < N → M k = M' k) : boolC N M = boolC N M' := by
  unfold boolC
  apply Array.ext_getElem?
  intro t
  rw [Array.getElem?_map, Array.getElem?_map, Array.getElem?_range]
  split
  · rename_i ht; simp [h t ht]
  · rfl
def BoolAt (w : World) (g N : Nat) (M : Nat → Bool) : Prop := w.heap[g]? = some (.cells (boolC N M) 4 (0, 0))
theorem BoolAt.lt {w : World} {g N : Nat} {M : Nat → Bool} (h : BoolAt w g N M) : g < w.heap.size := (Array.getElem?_eq_some_iff.1 h).1
theorem BoolAt.cell {w : World} {g N : Nat} {M : Nat → Bool} (h : BoolAt w g N M) {k : Nat} (hk : k < N) : w.cell? ⟨g, k, none⟩ = some (.bool (M k)) := by
  rw [cell_of_row w g _ _ _ _ h, boolC_get N M hk]
theorem BoolAt.frozen {w : World} {g N : Nat} {M : Nat → Bool} (h : BoolAt w g N M) (k : Nat) : w.frozen? ⟨g, k, none⟩ = false := frozen_of_row w g k _ _ h
theorem BoolAt.set {w : World} {g N : Nat} {M : Nat → Bool} (h : BoolAt w g N M) {k : Nat} (hk : k < N) (x : Bool) : BoolAt (w.setCell ⟨g, k, none⟩ (.bool x)) g N (fun t => if t = k then x else M t) := by
  unfold BoolAt
  rw [heap_setCell_same w g _ _ _ _ h, boolC_set N M k x hk]
theorem BoolAt.congr {w : World} {g N : Nat} {M M' : Nat → Bool} (h : BoolAt w g N M) (e : ∀ k, k < N → M k = M' k) : BoolAt w g N M' := by unfold BoolAt; rw [← boolC_congr e]; exact h
theorem BoolAt.below {w w' : World} {B g N : Nat} {M : Nat → Bool} (h : BoolAt w g N M) (hb : Below B w w') (hg : g < B) : BoolAt w' g N M := (hb.block g hg).trans h
theorem infoBool : (Tryd.prog.info? 4).map (fun i => (i.zero, i.size, i.bytes)) = some (some (.bool false), 1, 1) := by kernel_rfl
theorem made_bools (n : Nat) : madeCells #[Value.bool false] (n * 1) = boolC n fun _ => false := by
  apply Array.ext_getElem?
  intro t
  unfold boolC madeCells
  simp only [Nat.mul_one, Array.getElem?_map, Array.getElem?_range]
  by_cases h : t < n
  · rw [if_pos h]; simp [Nat.mod_one]
  · rw [if_neg h]; rfl
theorem pairs_manyA : ∀ n : Fin 7, wrap64 ((wrap64 ((n.val : Int) * ((n.val : Int) - 1))).tdiv 2) = ((rows n.val).length : Int) := by decide +kernel
theorem run_make_bools (n : Nat) (hn : n ≤ 1048576) (w : World) :
    (Instr.makeSlice 68 (.int .i64 (n : Int)) (.int .i64 (n : Int))).run Tryd.prog w = .ok (.slice (some ⟨w.heap.size, 0, none⟩) n n) (w.alloc (.cells (boolC n fun _ => false) 4)) := by
  obtain ⟨i0, hi, hz0, hz1, hz2⟩ := info_parts infoBool
  have hr := run_make (P := Tryd.prog) w 68 4 i0 (.bool false) Tryd.underlying68 hi hz0 .i64 .i64 n n (by omega) (Int.le_refl _) (by rw [hz2]; omega) (by omega)
  simp only [Int.toNat_natCast, hz1] at hr
  rw [← made_bools]
  exact hr

theorem Still.below {b0 b1 : Nat} {W w w' : World} (h : Still b0 b1 W w) (hs : b1 ≤ w.heap.size) (hb : Below w.heap.size w w') : Still b0 b1 W w' := fun k hk hk1 => (hb.block k (by omega)).trans (h k hk hk1)
theorem Still.setCell {b0 b1 : Nat} {W w : World} (h : Still b0 b1 W w) {g i : Nat} (hg : b1 ≤ g) (x : Value) : Still b0 b1 W (w.setCell ⟨g, i, none⟩ x) := fun k hk hk1 => (Below.heap_setCell _ _ _ _ (by show k ≠ g; omega)).trans (h k hk hk1)
theorem seen_still {W w : World} {b0 : Nat} {v : Value} {xs : List Int} (h : Row W b0 v xs) (hs : Still b0 W.heap.size W w) (hz : W.heap.size ≤ w.heap.size) : ∃ A c, v = .slice A xs.length c ∧ Seen w A xs := by
  have hlt := h.lt
  obtain ⟨A, c, rfl, hA⟩ := h.see
  refine ⟨A, c, rfl, fun k hk => ?_⟩
  obtain ⟨g, e, hg, hc, _⟩ := hA k hk
  subst e
  have hgl := (hlt g rfl).2
  exact ⟨g, 0, rfl, by omega, by rw [Nat.zero_add, hs.cell hg hgl]; exact hc⟩

theorem at_worldS {P : World → Prop} (w : World) (h : ∀ W, W = w → P W) : P w := h w rfl
/-! ### the marks -/
open Classical in
noncomputable def dB (p : Prop) : Bool := decide p
theorem dB_true {p : Prop} : dB p = true ↔ p := by unfold dB; simp
theorem dB_yes {p : Prop} (h : p) : dB p = true := dB_true.2 h
theorem dB_no {p : Prop} (h : ¬ p) : dB p = false := by
  cases e : dB p
  · rfl
  · exact absurd (dB_true.1 e) h
theorem dB_congr {p q : Prop} (h : p ↔ q) : dB p = dB q := by
  by_cases hq : q
  · rw [dB_yes hq, dB_yes (h.2 hq)]
  · rw [dB_no hq, dB_no (fun x => hq (h.1 x))]
/-- What is marked when the first i names of code k have been marked. -/
def MkA (n k : Nat) (R : List (List Nat)) (i c : Nat) : Prop := leastL (codeG n c) < k ∨ ∃ P ∈ R.take i, c = codeOf (namedL (codeG n k) P)
theorem mkA_start (n k : Nat) (R : List (List Nat)) (c : Nat) : leastL (codeG n c) < k ↔ MkA n k R 0 c := by
  unfold MkA
  simp
theorem mkA_next {n k : Nat} {R : List (List Nat)} {i : Nat} (hi : i < R.length) (c : Nat) : (c = codeOf (namedL (codeG n k) (R[i]?.getD [])) ∨ MkA n k R i c) ↔ MkA n k R (i + 1) c := by
  unfold MkA
  rw [List.take_succ_eq_append_getElem hi, List.getElem?_eq_getElem hi, Option.getD_some]
  constructor
  · rintro (h | h | ⟨P, hP, h⟩)
    · exact .inr ⟨_, List.mem_append_right _ (List.mem_singleton.2 rfl), h⟩
    · exact .inl h
    · exact .inr ⟨P, List.mem_append_left _ hP, h⟩
  · rintro (h | ⟨P, hP, h⟩)
    · exact .inr (.inl h)
    · rcases List.mem_append.1 hP with h2 | h2
      · exact .inr (.inr ⟨P, h2, h⟩)
      · rw [List.mem_singleton] at h2
        exact .inl (by rw [← h2]; exact h)
theorem mkA_all {n k : Nat} (h1 : 1 ≤ n) (h6 : n ≤ 6) (hk : k < 2 ^ (rows n).length) (hle : leastL (codeG n k) = k) {c : Nat} (hc : c < 2 ^ (rows n).length) : MkA n k (permsTo n n) (permsTo n n).length c ↔ leastL (codeG n c) < k + 1 := by
  unfold MkA
  rw [List.take_length]
  have hg := codeG_graph (n := n) k h1 h6
  have hl := codeG_length n k
  have hgc := codeG_graph (n := n) c h1 h6
  have hlc := codeG_length n c
  constructor
  · rintro (h | ⟨P, hP, rfl⟩)
    · omega
    · have hPn : Names (codeG n k).length (codeG n k).length P := by rw [hl]; exact perms_names n n P hP
      have hM := named_graph hg hPn
      have h2 := codeG_of hM
      rw [namedL_length, hl] at h2
      rw [h2, least_named hg hPn, hle]
      omega
  · intro h
    by_cases h2 : leastL (codeG n c) < k
    · exact .inl h2
    · have e : leastL (codeG n c) = k := by omega
      obtain ⟨P, hP, eP⟩ := least_is hgc
      rw [e] at eP
      have hI := inv_names hP
      have h3 := named_inv hgc hP
      have h4 := codeG_of (named_graph hgc hP)
      rw [namedL_length, hlc, ← eP] at h4
      rw [hlc] at hI h3
      refine .inr ⟨invP n P, perms_all _ _ _ hI, ?_⟩
      rw [h4, h3, codeG_code h6 hc]
theorem least_self {n k : Nat} (h1 : 1 ≤ n) (h6 : n ≤ 6) (hk : k < 2 ^ (rows n).length) : leastL (codeG n k) ≤ k := by
  have hg := codeG_graph (n := n) k h1 h6
  have hr : Names (codeG n k).length (codeG n k).length (List.range (codeG n k).length) := perms_names _ _ _ (range_perms _ _ (Nat.le_refl _))
  have h := least_le hr
  rw [named_id hg, codeG_code h6 hk] at h
  exact h

/-! ### what stands in the loops -/
def AlI (w W1 wr : World) (sb N : Nat) (v : Value) (out : List Nat) (Q : Nat → Prop) : Prop :=
  Row wr w.heap.size v (ints out) ∧ (∀ g, v.ownBlock = some g → g ≤ w.heap.size ∨ sb < g) ∧ BoolAt wr sb N (fun c => dB (Q c)) ∧ Still (w.heap.size + 1) sb W1 wr ∧ Below w.heap.size w wr
theorem AlI.below {w W1 wr wr' : World} {sb N : Nat} {v : Value} {out : List Nat} {Q : Nat → Prop} (h : AlI w W1 wr sb N v out Q) (hb : Below wr.heap.size wr wr') : AlI w W1 wr' sb N v out Q :=
  ⟨h.1.below hb, h.2.1, h.2.2.1.below hb h.2.2.1.lt, h.2.2.2.1.below (Nat.le_of_lt h.2.2.1.lt) hb, h.2.2.2.2.trans (hb.mono h.2.2.2.2.size)⟩
theorem AlI.congr {w W1 wr : World} {sb N : Nat} {v : Value} {out : List Nat} {Q Q' : Nat → Prop} (h : AlI w W1 wr sb N v out Q) (e : ∀ c, c < N → (Q c ↔ Q' c)) : AlI w W1 wr sb N v out Q' :=
  ⟨h.1, h.2.1, h.2.2.1.congr fun c hc => dB_congr (e c hc), h.2.2.2⟩
theorem AlI.mark {w W1 wr : World} {sb N : Nat} {v : Value} {out : List Nat} {Q : Nat → Prop} (h : AlI w W1 wr sb N v out Q) (hsb : w.heap.size < sb) {k : Nat} (hk : k < N) : AlI w W1 (wr.setCell ⟨sb, k, none⟩ (.bool true)) sb N v out (fun c => c = k ∨ Q c) := by
  have gk : wr.grownBy (wr.setCell ⟨sb, k, none⟩ (.bool true)) (some sb) := grown_set (World.grownBy.refl wr (some sb)) k _
  refine ⟨World.ownsRow.kept h.1 gk ?_, h.2.1, (h.2.2.1.set hk true).congr fun c hc => ?_, h.2.2.2.1.setCell (Nat.le_refl _) _, h.2.2.2.2.setCell (p := ⟨sb, k, none⟩) (Nat.le_of_lt hsb) _⟩
  · cases e : v.ownBlock with
    | none => exact .inl rfl
    | some g =>
      refine .inr fun e2 => ?_
      injection e2 with e2
      have := h.2.1 g e
      omega
  · by_cases e : c = k
    · rw [if_pos e, dB_yes (.inl e)]
    · rw [if_neg e]
      exact dB_congr ⟨.inr, fun x => x.resolve_left e⟩
theorem AlI.app {w W1 wr wr' : World} {sb N : Nat} {v v' : Value} {out : List Nat} {Q : Nat → Prop} {k : Nat} {o : Obj} (h : AlI w W1 wr sb N v out Q) (hsb : w.heap.size < sb) (hr : Row wr' w.heap.size v' (ints out ++ [((k : Nat) : Int)])) (hb : Below w.heap.size wr wr')
    (hg : (wr.alloc o).grownBy wr' v.ownBlock) (hat : v'.ownBlock = v.ownBlock ∨ ∃ g, v'.ownBlock = some g ∧ wr.heap.size ≤ g) : AlI w W1 wr' sb N v' (out ++ [k]) Q := by
  have hs := h.2.2.1.lt
  refine ⟨by rw [show ints (out ++ [k]) = ints out ++ [((k : Nat) : Int)] by simp [ints]]; exact hr, fun g e => ?_, ?_, h.2.2.2.1.grown (Nat.le_of_lt hs) hg (fun g e => by have := h.2.1 g e; omega), h.2.2.2.2.trans hb⟩
  · rcases hat with h2 | ⟨g', h2, h3⟩
    · exact h.2.1 g (by rw [← h2]; exact e)
    · rw [h2] at e
      injection e with e
      omega
  · exact ((hg.block sb (by simp; omega) (fun e => by have := h.2.1 sb e.symm; omega)).trans (Below.heap_alloc _ _ _ hs)).trans h.2.2.1

set_option maxHeartbeats 8000000 in
theorem specAll_codes (n : Nat) (h1 : 1 ≤ n) (h5 : n ≤ 5) (w : World) :
    Calls Tryd.prog 33 #[.int .i64 (n : Nat)] w (Told w (ints (firstA n)) true) := by
  have HIN := Lib.hid (in_any (n : Int) 1 5)
  have HPA := Lib.hid (perms_any n h1 (by omega))
  have hd : decide (1 ≤ (n : Int) ∧ (n : Int) ≤ 5) = true := decide_eq_true (by omega)
  obtain ⟨R, eR⟩ : ∃ R, R = permsTo n n := ⟨_, rfl⟩
  rw [← eR] at HPA
  have hRl : R.length ≤ 46656 := by rw [eR]; exact perms_length n n (by omega) (by omega)
  have ER := Lib.hid eR
  have hpm := pairs_manyA ⟨n, by omega⟩
  dsimp only at hpm
  have hr10 : (rows n).length ≤ 10 := by
    have e := rowsN ⟨n, by omega⟩
    dsimp only at e
    rw [e]
    have h2 : ∀ x : Fin 6, x.val * (x.val - 1) / 2 ≤ 10 := by decide
    exact h2 ⟨n, by omega⟩
  obtain ⟨r, er⟩ : ∃ r, r = (rows n).length := ⟨_, rfl⟩
  rw [← er] at hpm hr10
  obtain ⟨N, eN⟩ : ∃ N, N = 2 ^ r := ⟨_, rfl⟩
  have hN : wrap64 ((2 : Int) ^ r) = (N : Nat) := by rw [wrap_pow r (by omega), eN]
  have hN1024 : N ≤ 1024 := by rw [eN]; exact pow_le r 10 hr10
  have hr64 : r < 64 := by omega
  have hr0 : (0 : Int) ≤ (r : Int) := by omega
  have hmk := run_make_bools N (by omega)
  have EN := Lib.hid eN
  have ERR := Lib.hid er
  clear eN er
  clear eR
  go_enter Tryd.func33, Tryd.ntmps33
  go_wp2_with fail
  refine (HIN.out _).mono ?_
  rintro e w0 ⟨rfl, rfl⟩
  rw [hd]
  go_wp2_with fail
  refine (HPA.out _).mono ?_
  rintro e w1 ⟨u, rfl, hu, hb⟩
  rw [World.size_alloc] at hu hb
  obtain ⟨ob, oc, rfl, hob⟩ := hu.shape
  obtain ⟨m, em⟩ : ∃ m, m = R.length := ⟨_, rfl⟩
  rw [← em] at hu hRl ⊢
  have EM := Lib.hid em
  have HU := Lib.hid hu
  have HB := Lib.hid hb
  clear hu hb em
  have hsb : w.heap.size < w1.heap.size := by have := HB.out.size; rw [World.size_alloc] at this; omega
  have hob1 : w.heap.size + 1 ≤ ob := by
    obtain ⟨vs, h0, _⟩ := HU.out
    exact (h0.lt ob rfl).1
  have hI0 : AlI w w1 (w1.alloc (.cells (boolC N fun _ => false) 4)) w1.heap.size N (.slice (some ⟨w.heap.size, 0, none⟩) 0 0) (lowA n 0) (fun c => leastL (codeG n c) < 0) := by
    have hB1 : Below w.heap.size w w1 := ((Below.refl _ w).alloc (Nat.le_refl _) _).trans (HB.out.mono (by omega))
    have r0 : Row (w.alloc (.cells #[] 3)) w.heap.size (.slice (some ⟨w.heap.size, 0, none⟩) 0 0) [] := World.ownsRow_lit (base := w.heap.size) (e := 3) (size := 1) w #[] 0 (Nat.le_refl _) (by unfold maxLen; omega) rfl
    refine ⟨(r0.below (show Below (w.alloc (.cells #[] 3)).heap.size (w.alloc (.cells #[] 3)) w1 by rw [World.size_alloc]; exact HB.out)).alloc _, fun g e => ?_, ?_, fun k hk hk1 => Below.heap_alloc _ _ _ hk1, hB1.alloc (by omega) _⟩
    · injection e with e; dsimp only at e; omega
    · have h : BoolAt (w1.alloc (.cells (boolC N fun _ => false) 4)) w1.heap.size N (fun _ => false) := heap_alloc_new w1 _
      exact h.congr fun c _ => (dB_no (by omega)).symm
  obtain ⟨sb, esb⟩ : ∃ sb, sb = w1.heap.size := ⟨_, rfl⟩
  have HI0 := Lib.hid hI0
  rw [← esb] at HI0 hsb
  have ESB := Lib.hid esb
  have HSB := Lib.hid hsb
  clear hI0 esb
  go_wp2
  rw [← ESB.out]
  clear hmk hpm hN
  refine at_worldS (P := fun W => Code.wp _ _ _ _ W) _ ?_
  intro W0 hW0
  rw [← hW0] at HI0
  clear hW0
  go_loopw [4, 7] (fun v i wr => ∃ k : Nat, k ≤ N ∧ i = .int .i64 k ∧ Hid (AlI w w1 wr sb N v (lowA n k) (fun c => leastL (codeG n c) < k))) (fun _ i _ => N - (intOf i).toNat)
  case atStart => exact ⟨0, by omega, rfl, HI0⟩
  case round =>
    obtain ⟨k, hk, rfl, hr⟩ := hrel
    by_cases hlt : k < N
    · have hk2 : k < 2 ^ (rows n).length := by rw [← ERR.out, ← EN.out]; exact hlt
      have hcell := hr.out.2.2.1.cell hlt
      have hi : (0 : Int) ≤ (k : Int) ∧ (k : Int) < (N : Int) := by omega
      have hself := least_self (n := n) (k := k) h1 (by omega) hk2
      have hlow := lowA_succ n k
      by_cases hle : leastL (codeG n k) < k
      · rw [dB_yes hle] at hcell
        rw [if_neg (by omega)] at hlow
        have I1 := Lib.hid (hr.out.congr (Q' := fun c => leastL (codeG n c) < k + 1) (fun c hc => by
          refine ⟨fun h => by omega, fun h => ?_⟩
          by_cases e : leastL (codeG n c) = k
          · have h2 := (least_code (n := n) (c := c) h1 (by omega)).2
            rw [e] at h2
            omega
          · omega))
        rw [← hlow] at I1
        clear hlow hle hself
        go_wp2
        go_roundw
        case rel => exact ⟨k + 1, by omega, by go_num, I1⟩
        case measure => simp [intOf]; omega
      · have hlk : leastL (codeG n k) = k := by omega
        rw [dB_no hle] at hcell
        rw [if_pos hlk] at hlow
        have HLOW := Lib.hid hlow
        have HLK := Lib.hid hlk
        have HK2 := Lib.hid hk2
        have hll : (ints (lowA n k)).length ≤ 100000 := by
          rw [ints_length]
          have : (lowA n k).length ≤ (List.range k).length := List.length_filter_le _ _
          rw [List.length_range] at this
          omega
        have HLL := Lib.hid hll
        have HOF := Lib.hid (fun w => specOf_any n k w (by omega) h1 (by omega))
        clear hlow hle hself hlk hk2 hll
        go_wp2_with (at_builtin; refine append_at rfl (.tmp 34) (.tmp 36) rfl wr w.heap.size u4 (ints (lowA n k)) ((k : Nat) : Int) rfl rfl hr.out.1 hr.out.2.2.2.2.size HLL.out ?_; intro v' w' hr' hb' hg' hat')
        have IA := Lib.hid (hr.out.app HSB.out (k := k) hr' hb' hg' hat')
        have hbs : sb < w'.heap.size := IA.out.2.2.1.lt
        clear hr' hb' hg' hat' hcell
        refine (HOF.out w').mono ?_
        rintro e w3 ⟨gv, rfl, rg, bg⟩
        change Row w3 w'.heap.size gv (codeG n k) at rg
        have hgl := codeG_length n k
        have hgr := codeG_graph (n := n) k h1 (by omega)
        have I3 := Lib.hid ((IA.out.below bg).congr (fun c _ => mkA_start n k R c))
        obtain ⟨A3, c3, rfl, _⟩ := rg.seen
        rw [hgl] at rg
        have RG := Lib.hid (rg.mono (B' := sb + 1) (by omega))
        have HGL := Lib.hid hgl
        have HGR := Lib.hid hgr
        rw [hgl]
        clear rg bg hgl hgr
        go_wp2
        go_loopw [9] (fun i wr => ∃ i' : Nat, i' ≤ m ∧ i = .int .i64 i' ∧ Hid (AlI w w1 wr sb N v' (lowA n k ++ [k]) (MkA n k R i')) ∧ Hid (Row wr (sb + 1) (.slice A3 n c3) (codeG n k))) (fun i _ => m - (intOf i).toNat)
        case atStart => exact ⟨0, by omega, rfl, I3, RG⟩
        case round =>
          obtain ⟨i', hi', rfl, hr3, hg3⟩ := hrel
          by_cases hli : i' < m
          · have hiR : i' < R.length := by rw [← EM.out]; exact hli
            obtain ⟨pv, hpc, hpr⟩ := Row2.at (by have h0 := HU.out; rw [EM.out] at h0; exact h0) hiR
            have hpw : wr.cell? ⟨ob, i', none⟩ = some pv := (hr3.out.2.2.2.1.cell hob1 (by rw [ESB.out]; exact hob)).trans hpc
            obtain ⟨AP, cP, rfl, sP⟩ := seen_still hpr.1 (by have h0 := hr3.out.2.2.2.1; rw [ESB.out] at h0; exact h0) (by have := hr3.out.2.2.1.lt; have := ESB.out; omega)
            have hnx := fun c => mkA_next (n := n) (k := k) hiR c
            obtain ⟨P, eP⟩ : ∃ P, P = R[i']?.getD [] := ⟨_, rfl⟩
            have hPm : P ∈ R := by rw [eP, List.getElem?_eq_getElem hiR]; exact List.getElem_mem _
            have hPn : Names n n P := perms_names n n P (by rw [← ER.out]; exact hPm)
            rw [← eP] at sP hnx hpw
            have hPl : (ints P).length = n := by rw [ints_length]; exact hPn.1
            have hPL : Names (codeG n k).length (codeG n k).length P := by rw [HGL.out]; exact hPn
            obtain ⟨A4, c4, e4, s4⟩ := hg3.out.seen
            injection e4 with e4 e5 e6
            subst e4
            have HNM := Lib.hid (specNamed_seen A3 AP c3 cP (codeG n k) (ints P) HGR.out (names_is hPL) wr s4 sP)
            rw [HGL.out, hPl] at HNM
            rw [hPl] at hpw
            have HPL := Lib.hid hPL
            have HNX := Lib.hid hnx
            have hjm : (0 : Int) ≤ (i' : Int) ∧ (i' : Int) < (m : Int) := by omega
            clear hPm hPn hPL sP s4 eP hpr hpc hPl hnx e5 e6 hiR
            go_wp2_with fail
            refine HNM.out.mono ?_
            rintro e w4 ⟨nv, rfl, nr, nb⟩
            have nr : Row w4 wr.heap.size nv (namedL (codeG n k) P) := by unfold namedL; rw [HGL.out]; exact nr
            obtain ⟨A2, c2, rfl, ns⟩ := nr.seen
            have hnl : (namedL (codeG n k) P).length = n := by rw [namedL_length]; exact HGL.out
            have HC1 := Lib.hid (specCode_seen A2 c2 (namedL (codeG n k) P) (named_graph HGR.out HPL.out) w4 ns)
            have hxlt := code_lt (namedL (codeG n k) P)
            rw [hnl, ← ERR.out, ← EN.out] at hxlt
            rw [hnl] at HC1 ⊢
            obtain ⟨x, ex⟩ : ∃ x, x = codeOf (namedL (codeG n k) P) := ⟨_, rfl⟩
            rw [← ex] at HC1 HNX hxlt
            have hI4 := hr3.out.below nb
            have hR4 := hg3.out.below nb
            have hcx := hI4.2.2.1.cell hxlt
            have hfx := hI4.2.2.1.frozen x
            obtain ⟨bx, ebx⟩ : ∃ bx, bx = dB (MkA n k R i' x) := ⟨_, rfl⟩
            rw [← ebx] at hcx
            have I5 := Lib.hid ((hI4.mark HSB.out hxlt).congr (fun c _ => HNX.out c))
            have R5 := Lib.hid (show Row (w4.setCell ⟨sb, x, none⟩ (.bool true)) (sb + 1) (.slice A3 n c3) (codeG n k) from World.ownsRow.kept hR4 (grown_set (World.grownBy.refl w4 (some sb)) x _) (by
              cases e : (Value.slice A3 n c3).ownBlock with
              | none => exact .inl rfl
              | some g =>
                refine .inr fun e2 => ?_
                injection e2 with e2
                have := (hR4.lt g e).1
                omega))
            have hix : (0 : Int) ≤ (x : Int) ∧ (x : Int) < (N : Int) := by omega
            clear nr nb ns hnl ex hI4 hR4 ebx hpw
            go_wp2_with fail
            refine HC1.out.mono ?_
            rintro e w5 ⟨rfl, rfl⟩
            go_wp2
            go_roundw
            case rel => exact ⟨i' + 1, by omega, by go_num, I5, R5⟩
            case measure => simp [intOf]; omega
          · have e : i' = m := by omega
            subst e
            have I6 := Lib.hid (hr3.out.congr (Q' := fun c => leastL (codeG n c) < k + 1) (fun c hc => by
              rw [EM.out, ER.out]
              exact mkA_all h1 (by omega) HK2.out HLK.out (by rw [← ERR.out, ← EN.out]; exact hc)))
            rw [← HLOW.out] at I6
            go_wp2
            go_roundw
            case rel => exact ⟨k + 1, by omega, by go_num, I6⟩
            case measure => simp [intOf]; omega
    · have e : k = N := by omega
      subst e
      have RR := Lib.hid (show Row wr w.heap.size u4 (ints (firstA n)) by
        have h := hr.out.1
        rw [EN.out, ERR.out, lowA_all h1 h5] at h
        exact h)
      have BB := Lib.hid hr.out.2.2.2.2
      go_wp2
      go_ret2
      exact ⟨_, rfl, RR.out, BB.out⟩
end Go.Proofs.YtogmfbhnnnoipaaDoor
