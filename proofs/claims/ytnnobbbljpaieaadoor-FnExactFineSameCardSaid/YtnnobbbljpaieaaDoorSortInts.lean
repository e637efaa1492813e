/- slices.Values over a plain list, slices.Collect over it, slices.Sort by the shelf's contract, slices.Sorted: the list in order. -/
import Derived.Test.YtnnobbbljpaieaaDoorSortLayI
import Derived.Sort.OwnSortedInts
import Derived.Test.YtnnobbbljpaieaaDoorBaseA
import Derived.Test.YtnnobbbljpaieaaDoorValKit
namespace Go.Proofs.YtnnobbbljpaieaaDoor
open Go.RowKit Go.Shelf Go.Sort
attribute [local go_sem] Oper.semAt_some
set_option linter.unusedVariables false
set_option maxRecDepth 100000

/-- Values hands out its iterator; the list lies in a box. -/
theorem valuesI_any (A : Option Addr) (n c : Nat) (w : World) : Calls Tryd.prog 28 #[.slice A n c] w fun e w' =>
    e = .returned (.func (.func 40) #[] #[.pointer (some ⟨w.heap.size, 0, none⟩)]) ∧ w.alloc (.cells #[.slice A n c] 22) = w' := by
  have hmf : ∀ (fn : Fn) (first cap : Array Value) (w : World), (Instr.makeFunc fn first cap).run Tryd.prog w = .ok (.func fn first cap) w := fun _ _ _ _ => rfl
  go_enter Tryd.func28, Tryd.ntmps28
  go_wp2
  go_ret
  exact ⟨rfl, rfl⟩

set_option maxHeartbeats 1000000 in
theorem valuesI_stops (n Bn n₀ : Nat) (A : Option Addr) (c : Nat) (L : List Int) (hn : 1 ≤ n) (hl : L.length ≤ 1000) (w : World) (hB : Bn < w.heap.size) (hc : w.cell? ⟨Bn, 0, none⟩ = some (.slice A L.length c)) (hS : SeenB n₀ w A L) (hn₀ : n₀ ≤ w.heap.size) :
    SeqStopsK Fence.wide n Tryd.prog 40 #[.pointer (some ⟨Bn, 0, none⟩)] encI (Below n₀) (fun xs => xs = L) (fun pre => pre <+: L) L.length w := fun l J Jx W hb hJ hJx hY h0 => by
  obtain ⟨m, hm⟩ : ∃ m, m = L.length := ⟨_, rfl⟩
  rw [← hm] at hc hl hY
  have hcW : W.cell? ⟨Bn, 0, none⟩ = some (.slice A m c) := (hb.cell (p := ⟨Bn, 0, none⟩) hB).trans hc
  have HSW := Lib.hid (hS.below (hb.mono hn₀))
  have HY := Lib.hid hY
  have HM := Lib.hid hm
  clear hY hJ hJx hb hc hS hm
  refine callsIn_of_wp Tryd.func40 rfl trivial ?_ rfl
  simp only [Tryd.ntmps40, List.size_toArray, List.length_cons, List.length_nil, Nat.reduceAdd, Nat.reduceSub, Array.replicate_succ, Array.replicate_zero, List.push_toArray, List.append_toArray, List.nil_append, List.cons_append]
  gi_wp2
  gi_loopw [7] (fun b wr => ∃ k : Nat, k ≤ m ∧ b = .int .i64 k ∧ J (L.take k) wr ∧ Hid (SeenB n₀ wr A L)) (fun b _ => m - (intOf b).toNat)
  case atStart => exact ⟨0, Nat.zero_le _, rfl, by simpa using h0, HSW⟩
  case round =>
    obtain ⟨k, hk, rfl, hJ, hs⟩ := hrel
    by_cases hlt : k < m
    · obtain ⟨b, off, rfl, hbl, hcx⟩ := hs.out k (by rw [← HM.out]; exact hlt)
      have hi1 : (0 : Int) ≤ (k : Int) ∧ (k : Int) < (m : Int) := by omega
      have htk := take_snoc_int (xs := L) (k := k) (by rw [← HM.out]; exact hlt)
      obtain ⟨x, ex⟩ : ∃ x, x = L[k]?.getD 0 := ⟨_, rfl⟩
      rw [← ex] at hcx htk
      have hlen : (L.take k).length < m := by rw [List.length_take]; omega
      obtain ⟨fn, tmps, assign, body, hy, hR⟩ := HY.out (L.take k) x wr hJ hlen
      dsimp only [encI] at hy
      have HTK := Lib.hid htk
      clear hlen ex htk hbl
      gi_wp2
      refine hR.mono ?_
      rintro e W3 (⟨rfl, hJ3, hk3⟩ | ⟨rfl, hJx3⟩)
      · have hS3 := Lib.hid (hs.out.below hk3)
        gi_wp2
        go_roundw
        case rel => exact ⟨k + 1, by omega, by go_num, by rw [HTK.out]; exact hJ3, hS3⟩
        case measure => simp [intOf]; omega
      · gi_wp2
        refine bodyPost_ret (results_none rfl _ _ _) rfl ?_
        exact ⟨⟨_, rfl⟩, .inr ⟨_, (by rw [← HTK.out]; exact List.take_prefix _ _), hJx3⟩⟩
    · have hke : k = m := by omega
      subst hke
      gi_wp2
      go_end0
      exact ⟨⟨_, rfl⟩, .inl ⟨_, rfl, by have h1 := hJ; rw [HM.out, List.take_length] at h1; exact h1⟩⟩

set_option maxHeartbeats 2000000 in
theorem appendSeqI_in (Bn : Nat) (A : Option Addr) (c : Nat) (L : List Int) (hl : L.length ≤ 1000) (w : World) (hB : Bn < w.heap.size) (hc : w.cell? ⟨Bn, 0, none⟩ = some (.slice A L.length c)) (hS : Seen w A L) :
    CallsIn Fence.wide 5 Tryd.prog 46 #[.slice none 0 0, .func (.func 40) #[] #[.pointer (some ⟨Bn, 0, none⟩)]] w (Gave w L) := by
  refine callsIn_of_wp_marks Tryd.func46 rfl trivial ?_ rfl
  simp only [Tryd.ntmps46, List.size_toArray, List.length_cons, List.length_nil, Nat.reduceAdd, Nat.reduceSub, Array.replicate_succ, Array.replicate_zero, List.push_toArray, List.append_toArray, List.nil_append, List.cons_append]
  gi_wp2
  obtain ⟨W, eW⟩ : ∃ W, W = w.alloc (.cells #[.slice none 0 0] 22) := ⟨_, rfl⟩
  have sW : W.heap.size = w.heap.size + 1 := by rw [eW]; simp
  have hBW : Below w.heap.size w W := by rw [eW]; exact (Below.refl _ w).alloc (Nat.le_refl _) _
  have b0 : Boxed W w.heap.size 22 (.slice none 0 0) := by rw [eW]; exact Boxed.new w _ _
  have r0 : Row W w.heap.size (.slice none 0 0) ([] : List Int) := World.ownsRow_nil W w.heap.size 3 1
  rw [← eW]
  clear eW
  have hsB : SeenB w.heap.size W A L := hS.seenB.below hBW
  obtain ⟨n₀, en⟩ : ∃ n₀, n₀ = w.heap.size := ⟨_, rfl⟩
  rw [← en] at sW hBW b0 r0 hB hsB ⊢
  have EN := Lib.hid en
  have HL := Lib.hid hl
  have hle : n₀ ≤ w.heap.size := by omega
  have hcW : W.cell? ⟨Bn, 0, none⟩ = some (.slice A L.length c) := (hBW.cell (p := ⟨Bn, 0, none⟩) hB).trans hc
  clear en hc hS
  refine wpIn_rangeFunc_ownF (α := Int) rfl (by omega) (gf := 40) (lb := #[.pointer (some ⟨Bn, 0, none⟩)]) rfl trivial (enters_of Tryd.func40 (by kernel_rfl) rfl)
    (valuesI_stops _ Bn n₀ A c L (by omega) hl W (by omega) hcW hsB (by omega)) belowK_t (belowK_b (by omega)) (Below.refl _ _) (fun _ => rfl)
    (fun pre Z => ColV n₀ pre Z ∧ Below n₀ w Z) (fun _ _ _ => False)
    (OwnFrom.and (Own.from (colV_own n₀) _) (ownFrom_below hle (by omega))) (fun _ _ _ _ _ hs _ _ => hs)
    ⟨⟨_, b0, r0⟩, hBW⟩
    (fun x => { tmps := #[.slice none 0 0, .func (.func 40) #[] #[.pointer (some ⟨Bn, 0, none⟩)], .pointer (some ⟨n₀, 0, none⟩), undef, .slice none 0 0, .int .i64 x, .func (.func 40) #[] #[.pointer (some ⟨Bn, 0, none⟩)],
      .int .i64 x, undef, undef, undef, undef, undef], defers := [] }) ?assign ?body ?done ?stop
  case assign =>
    intro l x W K hK
    gi_wp2
    exact hK
  case body =>
    rintro l pre x Z ⟨⟨v, c0, hr⟩, hB⟩ hlen
    have hl6 : pre.length ≤ 100000 := by have := HL.out; omega
    have HLL := Lib.hid hl6
    have C0 := Lib.hid c0
    have HR := Lib.hid hr
    have hnZ : n₀ ≤ Z.heap.size := by have := hB.size; omega
    have z0 := c0.cell
    clear hl6 c0 hr hlen
    gi_wp2_with (gi_at_builtin; refine appendIn_one rfl (.tmp 8) (.tmp 10) rfl Z n₀ v pre x rfl rfl HR.out hnZ HLL.out ?_; intro v' w1 hr' hg'
                 obtain ⟨k1, k2, k3, k4, k5⟩ := C0.out.appended (by decide) HR.out hnZ (Nat.le_refl _) hr' hg'
                 obtain ⟨g, cap, rfl⟩ : ∃ g cap, v' = .slice (some ⟨g, 0, none⟩) (pre.length + 1) cap := by
                   have h0 := hr'
                   unfold Row at h0
                   rw [List.length_append] at h0
                   exact ownsRow_succ h0
                 have y0 := k1.cell
                 have y1 := k1.frozen
                 have K2 := Lib.hid k2
                 have K3 := Lib.hid k3
                 have K4 := Lib.hid k4
                 have K5 := Lib.hid k5
                 clear hr' hg' k1 k2 k3 k4 k5)
    exact ⟨K4.out, K5.out, ⟨_, K2.out, K3.out⟩, hB.trans (K5.out.mono (Nat.le_refl _))⟩
  case done =>
    rintro D xs Z hD hS ⟨⟨v, c0, hr⟩, hB⟩ hK
    have z0 := c0.cell
    have HS := Lib.hid hS
    have HR := Lib.hid hr
    clear hS hr
    gi_wp2
    refine ⟨by simp, .inl ⟨_, _, rfl, run_takeDeferred hK, ?_⟩⟩
    refine ⟨_, results_tmp rfl _ _ _, ?_⟩
    refine ⟨_, rfl, ?_, ?_⟩
    · rw [← EN.out]
      have h0 := ownsRow_putObj HR.out (.deferred none) hK rfl
      rw [HS.out] at h0
      exact h0
    · rw [← EN.out]
      exact hB.trans (belowK_b (w := w) hle Z D _ _ (by have := EN.out; omega) hK rfl rfl)
  case stop =>
    rintro D cd pre W _ _ h _
    exact h.elim

theorem collectI_any (Bn : Nat) (A : Option Addr) (c : Nat) (L : List Int) (hl : L.length ≤ 1000) (w : World) (hB : Bn < w.heap.size) (hc : w.cell? ⟨Bn, 0, none⟩ = some (.slice A L.length c)) (hS : Seen w A L) :
    Calls Tryd.prog 38 #[.func (.func 40) #[] #[.pointer (some ⟨Bn, 0, none⟩)]] w (Gave w L) := by
  have H := Lib.hid (callsIn_wide.1 (appendSeqI_in Bn A c L hl w hB hc hS))
  clear hc hS
  go_enter Tryd.func38, Tryd.ntmps38
  go_wp2_with fail
  refine H.out.mono ?_
  rintro e w1 ⟨v, rfl, r, b⟩
  go_wp2
  go_ret
  exact ⟨v, rfl, r, b⟩

theorem sortI_any (B : Nat) (v : Value) (xs : List Int) (hl : xs.length ≤ 100000) (w : World) (h : Row w B v xs) :
    Calls Tryd.prog 39 #[v] w fun e w' => e = .returned (.tuple #[]) ∧ Row w' B v (sortL xs) ∧ w.grownBy w' v.ownBlock := by
  have h0 := h
  unfold Row at h0
  rcases h0.2 with ⟨rfl, hn⟩ | ⟨g, cap, cur, rfl, hg, hb, h1, h2, h3, h4⟩
  · have hx : xs = [] := List.eq_nil_of_length_eq_zero hn
    subst hx
    have hS := AnyM.slices_Sort_int_none (P := Tryd.prog) (ρ := Tryd.sortI_ren) { Tryd.sortI with } none 0 w
    exact hS.mono fun e w' ⟨he, hw⟩ => ⟨he, by rw [hw, sortL_nil]; exact h, by rw [hw]; exact World.grownBy.refl w _⟩
  · by_cases hz : xs.length = 0
    · have hx : xs = [] := List.eq_nil_of_length_eq_zero hz
      subst hx
      have hS := AnyM.slices_Sort_int_none (P := Tryd.prog) (ρ := Tryd.sortI_ren) { Tryd.sortI with } (some ⟨g, 0, none⟩) cap w
      exact hS.mono fun e w' ⟨he, hw⟩ => ⟨he, by rw [hw, sortL_nil]; exact h, by rw [hw]; exact World.grownBy.refl w _⟩
    · have hH := holds_of_blockI (ss := xs) hb (by simpa using h4)
      have hgl : g < w.heap.size := (Array.getElem?_eq_some_iff.1 hb).1
      have hS := AnyM.slices_Sort_int Tryd.sortI g 0 cap xs w hH hgl (by omega)
      refine hS.mono fun e w' ⟨he, n, os, hw⟩ => ⟨he, ?_, ?_⟩
      · rw [hw]
        have hr := ownsRow_sortedI (w := w) (base := B) (n := n) (os := os) (ss := xs) (ts := sortL xs) (sortL_length xs) hg hb (by simpa using h1) h2 (by simpa using h3)
        unfold Row
        rw [sortL_length]
        exact hr
      · rw [hw]
        exact grownBy_sortedI _

/-- slices.Sorted over slices.Values. -/
theorem sortedI_any (Bn : Nat) (A : Option Addr) (c : Nat) (L : List Int) (hl : L.length ≤ 1000) (w : World) (hB : Bn < w.heap.size) (hc : w.cell? ⟨Bn, 0, none⟩ = some (.slice A L.length c)) (hS : Seen w A L) :
    Calls Tryd.prog 27 #[.func (.func 40) #[] #[.pointer (some ⟨Bn, 0, none⟩)]] w (Gave w (sortL L)) := by
  have H := Lib.hid (collectI_any Bn A c L hl w hB hc hS)
  have HL := Lib.hid hl
  clear hc hS hl
  go_enter Tryd.func27, Tryd.ntmps27
  go_wp2_with fail
  refine H.out.mono ?_
  rintro e w1 ⟨v, rfl, r, b⟩
  have R := Lib.hid r
  have BB := Lib.hid b
  clear r b
  go_wp2_with fail
  refine (sortI_any _ v L (by have := HL.out; omega) _ R.out).mono ?_
  rintro e w2 ⟨rfl, r2, g2⟩
  go_wp2
  go_ret
  exact ⟨v, rfl, r2, BB.out.grown g2 BB.out.size (fun k hk => (R.out.lt k hk).1)⟩
end Go.Proofs.YtnnobbbljpaieaaDoor
