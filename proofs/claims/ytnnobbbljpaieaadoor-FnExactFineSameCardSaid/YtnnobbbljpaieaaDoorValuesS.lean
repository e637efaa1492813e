/- slices.Values over a list of slices, slices.Collect over it; slices.SortFunc by slices.Compare, by the contract of the shelf; slices.SortedFunc. -/
import Derived.RangeFuncBox
import Derived.Test.YtnnobbbljpaieaaDoorRowL
import Derived.Test.YtnnobbbljpaieaaDoorSortLayF
namespace Go.Proofs.YtnnobbbljpaieaaDoor
open Go.RowKit Go.Shelf Go.Sort
attribute [local go_sem] Oper.semAt_some
set_option linter.unusedVariables false
set_option maxRecDepth 100000
variable {m₀ : Nat} {w₀ : World}

abbrev encV (x : Sl m₀ w₀) : Array Value := #[encS x]
/-- A list of slices that lies below a bound. -/
def SeenLB (n₀ : Nat) (w : World) (A : Option Addr) (L : List (Sl m₀ w₀)) : Prop :=
  ∀ k, k < L.length → ∃ b off, A = some ⟨b, off, none⟩ ∧ b < n₀ ∧ w.cell? ⟨b, off + k, none⟩ = some (encS L[k]!)
theorem SeenLB.below {n₀ : Nat} {w w' : World} {A : Option Addr} {L : List (Sl m₀ w₀)} (h : SeenLB n₀ w A L) (hb : Below n₀ w w') : SeenLB n₀ w' A L := fun k hk => by
  obtain ⟨b, off, hA, hlt, hc⟩ := h k hk
  exact ⟨b, off, hA, hlt, (hb.cell (p := ⟨b, off + k, none⟩) hlt).trans hc⟩
abbrev SeenL (w : World) (A : Option Addr) (L : List (Sl m₀ w₀)) : Prop := SeenLB w.heap.size w A L
theorem take_snoc_sl {L : List (Sl m₀ w₀)} {k : Nat} (h : k < L.length) : L.take (k + 1) = L.take k ++ [L[k]!] := by
  rw [List.take_succ_eq_append_getElem h, getElem!_pos L k h]
theorem rowL_kept {W W' : World} {B : Nat} {v : Value} {L : List (Sl m₀ w₀)} {row : Option Nat} (h : RowL W B v L) (hg : W.grownBy W' row) (hr : ∀ r, row = some r → ∃ o : Obj, W.heap[r]? = some o ∧ o.isCells = false) : RowL W' B v L := by
  refine World.ownsRow.kept h hg ?_
  rcases h.2 with ⟨rfl, _⟩ | ⟨g, cap, cur, rfl, _, hgb, _⟩
  · exact .inl rfl
  · refine .inr fun e' => ?_
    obtain ⟨o, ho, hc⟩ := hr g (by simpa [Value.ownBlock] using e'.symm)
    rw [hgb] at ho
    cases ho
    cases hc
/-- Between two rounds: the box holds a list of the call's own: what has come. -/
def ColS (n₀ : Nat) (pre : List (Sl m₀ w₀)) (W : World) : Prop := ∃ v, Boxed W n₀ 28 v ∧ RowL W n₀ v pre
theorem colS_own (n₀ : Nat) : Own (ColS (m₀ := m₀) (w₀ := w₀) n₀) := fun pre X Y row ⟨v, hb, hr⟩ hg hrow =>
  ⟨v, boxed_own _ _ (fun _ : Unit => _) () X Y row hb hg hrow, rowL_kept hr hg hrow⟩
/-- How a call that makes a list of slices ends. -/
def GaveL (w : World) (L : List (Sl m₀ w₀)) (e : Ending) (w' : World) : Prop := ∃ v, e = .returned v ∧ RowL w' w.heap.size v L ∧ Below w.heap.size w w'

/-- Values hands out its iterator; the list lies in a box. -/
theorem valuesS_any (A : Option Addr) (n c : Nat) (w : World) : Calls Tryd.prog 53 #[.slice A n c] w fun e w' =>
    e = .returned (.func (.func 72) #[] #[.pointer (some ⟨w.heap.size, 0, none⟩)]) ∧ w.alloc (.cells #[.slice A n c] 28) = w' := by
  have hmf : ∀ (fn : Fn) (first cap : Array Value) (w : World), (Instr.makeFunc fn first cap).run Tryd.prog w = .ok (.func fn first cap) w := fun _ _ _ _ => rfl
  go_enter Tryd.func53, Tryd.ntmps53
  go_wp2
  go_ret
  exact ⟨rfl, rfl⟩

set_option maxHeartbeats 1000000 in
theorem valuesS_stops (n Bn n₀ : Nat) (A : Option Addr) (c : Nat) (L : List (Sl m₀ w₀)) (hn : 1 ≤ n) (hl : L.length ≤ 1000) (w : World) (hB : Bn < w.heap.size) (hc : w.cell? ⟨Bn, 0, none⟩ = some (.slice A L.length c)) (hS : SeenLB n₀ w A L) (hn₀ : n₀ ≤ w.heap.size) :
    SeqStopsK Fence.wide n Tryd.prog 72 #[.pointer (some ⟨Bn, 0, none⟩)] encV (Below n₀) (fun xs => xs = L) (fun pre => pre <+: L) L.length w := fun l J Jx W hb hJ hJx hY h0 => by
  obtain ⟨m, hm⟩ : ∃ m, m = L.length := ⟨_, rfl⟩
  rw [← hm] at hc hl hY
  have hcW : W.cell? ⟨Bn, 0, none⟩ = some (.slice A m c) := (hb.cell (p := ⟨Bn, 0, none⟩) hB).trans hc
  have HSW := Lib.hid (hS.below (hb.mono hn₀))
  have HY := Lib.hid hY
  have HM := Lib.hid hm
  clear hY hJ hJx hb hc hS hm
  refine callsIn_of_wp Tryd.func72 rfl trivial ?_ rfl
  simp only [Tryd.ntmps72, List.size_toArray, List.length_cons, List.length_nil, Nat.reduceAdd, Nat.reduceSub, Array.replicate_succ, Array.replicate_zero, List.push_toArray, List.append_toArray, List.nil_append, List.cons_append]
  gi_wp2
  gi_loopw [7] (fun b wr => ∃ k : Nat, k ≤ m ∧ b = .int .i64 k ∧ J (L.take k) wr ∧ Hid (SeenLB n₀ wr A L)) (fun b _ => m - (intOf b).toNat)
  case atStart => exact ⟨0, Nat.zero_le _, rfl, by simpa using h0, HSW⟩
  case round =>
    obtain ⟨k, hk, rfl, hJ, hs⟩ := hrel
    by_cases hlt : k < m
    · obtain ⟨b, off, rfl, hbl, hcx⟩ := hs.out k (by rw [← HM.out]; exact hlt)
      have hi1 : (0 : Int) ≤ (k : Int) ∧ (k : Int) < (m : Int) := by omega
      have htk := take_snoc_sl (L := L) (k := k) (by rw [← HM.out]; exact hlt)
      obtain ⟨x, ex⟩ : ∃ x, x = L[k]! := ⟨_, rfl⟩
      rw [← ex] at hcx htk
      have hlen : (L.take k).length < m := by rw [List.length_take]; omega
      obtain ⟨fn, tmps, assign, body, hy, hR⟩ := HY.out (L.take k) x wr hJ hlen
      dsimp only [encV] at hy
      have HTK := Lib.hid htk
      clear hlen ex htk hbl
      gi_wp2
      refine hR.mono ?_
      rintro e W3 (⟨rfl, hJ3, hk3⟩ | ⟨rfl, hJx3⟩)
      · have hS3 := Lib.hid (hs.out.below hk3)
        gi_wp2
        go_roundw
        case rel => exact ⟨k + 1, by omega, by go_num, by rw [HTK.out]; exact hJ3, hS3⟩
        case measure => simp [intOf]; omega
      · gi_wp2
        refine bodyPost_ret (results_none rfl _ _ _) rfl ?_
        exact ⟨⟨_, rfl⟩, .inr ⟨_, (by rw [← HTK.out]; exact List.take_prefix _ _), hJx3⟩⟩
    · have hke : k = m := by omega
      subst hke
      gi_wp2
      go_end0
      exact ⟨⟨_, rfl⟩, .inl ⟨_, rfl, by have h1 := hJ; rw [HM.out, List.take_length] at h1; exact h1⟩⟩

set_option maxHeartbeats 2000000 in
theorem appendSeqS_in (Bn : Nat) (A : Option Addr) (c : Nat) (L : List (Sl m₀ w₀)) (hl : L.length ≤ 1000) (w : World) (hB : Bn < w.heap.size) (hc : w.cell? ⟨Bn, 0, none⟩ = some (.slice A L.length c)) (hS : SeenL w A L) :
    CallsIn Fence.wide 5 Tryd.prog 81 #[.slice none 0 0, .func (.func 72) #[] #[.pointer (some ⟨Bn, 0, none⟩)]] w (GaveL w L) := by
  refine callsIn_of_wp_marks Tryd.func81 rfl trivial ?_ rfl
  simp only [Tryd.ntmps81, List.size_toArray, List.length_cons, List.length_nil, Nat.reduceAdd, Nat.reduceSub, Array.replicate_succ, Array.replicate_zero, List.push_toArray, List.append_toArray, List.nil_append, List.cons_append]
  gi_wp2
  obtain ⟨W, eW⟩ : ∃ W, W = w.alloc (.cells #[.slice none 0 0] 28) := ⟨_, rfl⟩
  have sW : W.heap.size = w.heap.size + 1 := by rw [eW]; simp
  have hBW : Below w.heap.size w W := by rw [eW]; exact (Below.refl _ w).alloc (Nat.le_refl _) _
  have b0 : Boxed W w.heap.size 28 (.slice none 0 0) := by rw [eW]; exact Boxed.new w _ _
  have r0 : RowL W w.heap.size (.slice none 0 0) ([] : List (Sl m₀ w₀)) := RowL.nil W _
  rw [← eW]
  clear eW
  have hsB : SeenLB w.heap.size W A L := hS.below hBW
  obtain ⟨n₀, en⟩ : ∃ n₀, n₀ = w.heap.size := ⟨_, rfl⟩
  rw [← en] at sW hBW b0 r0 hB hsB ⊢
  have EN := Lib.hid en
  have HL := Lib.hid hl
  have hle : n₀ ≤ w.heap.size := by omega
  have hcW : W.cell? ⟨Bn, 0, none⟩ = some (.slice A L.length c) := (hBW.cell (p := ⟨Bn, 0, none⟩) hB).trans hc
  clear en hc hS
  refine wpIn_rangeFunc_ownF (α := Sl m₀ w₀) rfl (by omega) (gf := 72) (lb := #[.pointer (some ⟨Bn, 0, none⟩)]) rfl trivial (enters_of Tryd.func72 (by kernel_rfl) rfl)
    (valuesS_stops _ Bn n₀ A c L (by omega) hl W (by omega) hcW hsB (by omega)) belowK_t (belowK_b (by omega)) (Below.refl _ _) (fun _ => rfl)
    (fun pre Z => ColS n₀ pre Z ∧ Below n₀ w Z) (fun _ _ _ => False)
    (OwnFrom.and (Own.from (colS_own n₀) _) (ownFrom_below hle (by omega))) (fun _ _ _ _ _ hs _ _ => hs)
    ⟨⟨_, b0, r0⟩, hBW⟩
    (fun x => { tmps := #[.slice none 0 0, .func (.func 72) #[] #[.pointer (some ⟨Bn, 0, none⟩)], .pointer (some ⟨n₀, 0, none⟩), undef, .slice none 0 0, encS x, .func (.func 72) #[] #[.pointer (some ⟨Bn, 0, none⟩)],
      encS x, undef, undef, undef, undef, undef], defers := [] }) ?assign ?body ?done ?stop
  case assign =>
    intro l x W K hK
    gi_wp2
    exact hK
  case body =>
    rintro l pre x Z ⟨⟨v, c0, hr⟩, hB⟩ hlen
    have hl6 : pre.length ≤ 100000 := by have := HL.out; omega
    have HLL := Lib.hid hl6
    have C0 := Lib.hid c0
    have HR := Lib.hid hr
    have hnZ : n₀ ≤ Z.heap.size := by have := hB.size; omega
    have z0 := c0.cell
    clear hl6 c0 hr hlen
    gi_wp2_with (gi_at_builtin; refine appendIn_sl rfl (.tmp 8) (.tmp 10) rfl Z n₀ v pre x rfl rfl HR.out hnZ HLL.out ?_; intro v' w1 hr' hg'
                 obtain ⟨k1, k2, k3, k4, k5⟩ := C0.out.appended (by decide) HR.out hnZ (Nat.le_refl _) hr' hg'
                 obtain ⟨g, cap, rfl⟩ : ∃ g cap, v' = .slice (some ⟨g, 0, none⟩) (pre.length + 1) cap := by
                   have h0 := hr'
                   unfold RowL at h0
                   rw [List.length_append] at h0
                   exact ownsRow_succ h0
                 have y0 := k1.cell
                 have y1 := k1.frozen
                 have K2 := Lib.hid k2
                 have K3 := Lib.hid k3
                 have K4 := Lib.hid k4
                 have K5 := Lib.hid k5
                 clear hr' hg' k1 k2 k3 k4 k5)
    exact ⟨K4.out, K5.out, ⟨_, K2.out, K3.out⟩, hB.trans (K5.out.mono (Nat.le_refl _))⟩
  case done =>
    rintro D xs Z hD hS ⟨⟨v, c0, hr⟩, hB⟩ hK
    have z0 := c0.cell
    have HS := Lib.hid hS
    have HR := Lib.hid hr
    clear hS hr
    gi_wp2
    refine ⟨by simp, .inl ⟨_, _, rfl, run_takeDeferred hK, ?_⟩⟩
    refine ⟨_, results_tmp rfl _ _ _, ?_⟩
    refine ⟨_, rfl, ?_, ?_⟩
    · rw [← EN.out]
      have h0 := ownsRow_putObj HR.out (.deferred none) hK rfl
      rw [HS.out] at h0
      exact h0
    · rw [← EN.out]
      exact hB.trans (belowK_b (w := w) hle Z D _ _ (by have := EN.out; omega) hK rfl rfl)
  case stop =>
    rintro D cd pre W _ _ h _
    exact h.elim

theorem collectS_any (Bn : Nat) (A : Option Addr) (c : Nat) (L : List (Sl m₀ w₀)) (hl : L.length ≤ 1000) (w : World) (hB : Bn < w.heap.size) (hc : w.cell? ⟨Bn, 0, none⟩ = some (.slice A L.length c)) (hS : SeenL w A L) :
    Calls Tryd.prog 70 #[.func (.func 72) #[] #[.pointer (some ⟨Bn, 0, none⟩)]] w (GaveL w L) := by
  have H := Lib.hid (callsIn_wide.1 (appendSeqS_in Bn A c L hl w hB hc hS))
  clear hc hS
  go_enter Tryd.func70, Tryd.ntmps70
  go_wp2_with fail
  refine H.out.mono ?_
  rintro e w1 ⟨v, rfl, r, b⟩
  go_wp2
  go_ret
  exact ⟨v, rfl, r, b⟩


/-- The list put in order by slices.Compare. -/
def Ordered (L : List (Sl m₀ w₀)) : Prop := L.Pairwise fun x y => 0 ≤ cmpL (lst y) (lst x)
theorem sortS_any (B g cap : Nat) (L : List (Sl m₀ w₀)) (h0 : 0 < L.length) (hl : L.length ≤ 100000) (w : World) (hb : Below m₀ w₀ w) (hB : m₀ ≤ B) (hBw : B ≤ w.heap.size) (h : RowL w B (.slice (some ⟨g, 0, none⟩) L.length cap) L) :
    Calls Tryd.prog 71 #[.slice (some ⟨g, 0, none⟩) L.length cap, .func (.func 54) #[] #[]] w fun e w' =>
      e = .returned (.tuple #[]) ∧ ∃ D : List (Sl m₀ w₀), D.Perm L ∧ Ordered D ∧ RowL w' B (.slice (some ⟨g, 0, none⟩) L.length cap) D ∧ w.grownBy w' (some g) := by
  obtain ⟨g', cap', cur, hv, hg, hgl, hblk, h1, h2, h3, h4⟩ := h.block h0
  cases hv
  have hH := holds_of hblk h4
  have eg : ∀ args w, (callFunc 54 args).run Tryd.prog w = .ok (.enter 54 args) w := enters_of Tryd.func54 (by kernel_rfl) rfl
  have hS := Any.slices_SortFunc Tryd.sortS encS encS_one cfS swoS 54 #[] g 0 cap L.toArray w eg (cmpReadsS hb (by omega) g 0 L.toArray.size (by omega)).lays hH hgl (by simp; omega)
  refine hS.mono fun e w' ⟨he, d', n, os, hp, hs, hw⟩ => ⟨he, d'.toList, ?_, ?_, ?_, ?_⟩
  · have h5 := hp.2.2
    simp only [List.size_toArray] at h5
    have e1 : d'.extract 0 L.length = d' := by rw [Array.extract_eq_self_of_le]; have := hp.1; simp at this; omega
    have e2 : L.toArray.extract 0 L.length = L.toArray := by rw [Array.extract_eq_self_of_le]; simp
    rw [e1, e2] at h5
    simpa using h5
  · have hsz : d'.size = L.toArray.size := hp.1
    refine List.pairwise_iff_getElem.2 fun i j hi hj hij => ?_
    have h5 := hs i j (Nat.zero_le _) hij (by rw [← hsz]; simpa using hj)
    rw [ltS, decide_eq_false_iff_not, getElem!_pos d' j (by simpa using hj), getElem!_pos d' i (by simpa using hi)] at h5
    simpa using Int.not_lt.1 h5
  · have hsz : d'.size = L.length := by have := hp.1; simpa using this
    rw [hw]
    have h5 := row_put (n := n) (os := os) (d := d') (m := d'.size) hg hblk (Nat.le_refl _) (by omega) h2 h3
    rw [List.take_of_length_le (by simp), hsz] at h5
    exact h5
  · rw [hw]
    exact grown_put d'

/-- slices.SortedFunc over slices.Values, by slices.Compare. -/
theorem sortedS_any (Bn : Nat) (A : Option Addr) (c : Nat) (L : List (Sl m₀ w₀)) (h0 : 0 < L.length) (hl : L.length ≤ 1000) (w : World) (hbw : Below m₀ w₀ w) (hm : m₀ ≤ w.heap.size) (hB : Bn < w.heap.size) (hc : w.cell? ⟨Bn, 0, none⟩ = some (.slice A L.length c)) (hS : SeenL w A L) :
    Calls Tryd.prog 52 #[.func (.func 72) #[] #[.pointer (some ⟨Bn, 0, none⟩)], .func (.func 54) #[] #[]] w fun e w' =>
      ∃ (v : Value) (D : List (Sl m₀ w₀)), e = .returned v ∧ D.Perm L ∧ Ordered D ∧ RowL w' w.heap.size v D ∧ Below w.heap.size w w' := by
  have H := Lib.hid (collectS_any Bn A c L hl w hB hc hS)
  have HL := Lib.hid hl
  have H0 := Lib.hid h0
  have HBW := Lib.hid hbw
  have HM := Lib.hid hm
  clear hc hS hl h0 hbw hm
  go_enter Tryd.func52, Tryd.ntmps52
  go_wp2_with fail
  refine H.out.mono ?_
  rintro e w1 ⟨v, rfl, r, b⟩
  have R := Lib.hid r
  have BB := Lib.hid b
  obtain ⟨g, cap, cur, hv, hg, hgl, _⟩ := r.block H0.out
  subst hv
  clear r b hg hgl
  go_wp2_with fail
  refine (sortS_any _ g cap L H0.out (by have := HL.out; omega) _ (HBW.out.trans (BB.out.mono HM.out)) HM.out BB.out.size R.out).mono ?_
  rintro e w2 ⟨rfl, D, hp, ho, r2, g2⟩
  have PP := Lib.hid hp
  have OO := Lib.hid ho
  have RR := Lib.hid r2
  have GG := Lib.hid g2
  clear hp ho r2 g2
  go_wp2
  go_ret
  exact ⟨_, D, rfl, PP.out, OO.out, RR.out, BB.out.grown GG.out BB.out.size (fun k hk => (R.out.lt k hk).1)⟩
end Go.Proofs.YtnnobbbljpaieaaDoor
