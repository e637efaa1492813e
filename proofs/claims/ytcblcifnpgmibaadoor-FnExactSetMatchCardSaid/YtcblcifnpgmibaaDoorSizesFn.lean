/- The sizes of the subsets that fit, as the program lists them, for any function that tells which fit. -/
import Derived.Test.YtcblcifnpgmibaaDoorSbFn
import Derived.Test.YtcblcifnpgmibaaDoorSetMath
import Derived.Test.YtcblcifnpgmibaaDoorOnesAll
import Derived.Test.YtcblcifnpgmibaaDoorAppOne
import Derived.Test.YtcblcifnpgmibaaDoorBaseA
import Derived.Test.YtcblcifnpgmibaaDoorEdgesIt
namespace Go.Proofs.YtcblcifnpgmibaaDoor
open Go.RowKit Go.Shelf
attribute [local go_sem] Oper.semAt_some
set_option linter.unusedVariables false
set_option maxRecDepth 100000

/-- Between two rounds: the function's box; the list of the sizes so far. -/
def SzI (n₀ : Nat) (fv : Value) (P : Nat → Bool) (C : Nat) (pre : List (SbS C)) (W : World) : Prop :=
  Boxed W n₀ 47 fv ∧ ∃ v, Boxed W (n₀ + 1) 22 v ∧ Row W (n₀ + 3) v (ints (szs P (valsB pre)))
theorem szI_own (n₀ : Nat) (fv : Value) (P : Nat → Bool) (C : Nat) : Own (SzI n₀ fv P C) := fun pre X Y row ⟨hf, v, hb, hr⟩ hg hrow =>
  ⟨boxed_own _ _ (fun _ : Unit => _) () X Y row hf hg hrow, v, boxed_own _ _ (fun _ : Unit => _) () X Y row hb hg hrow, row_kept hr hg hrow⟩
theorem keeps_belowS {W W' : World} (h : Below W.heap.size W W') : KeepsOthers W W' := ⟨h.size, fun k o ho _ => (h.block k (Array.getElem?_eq_some_iff.1 ho).1).trans ho⟩

set_option maxHeartbeats 4000000 in
theorem sizes_in (C : Nat) (hC : C < 32768) (fid : Nat) (V : Value) (P : Nat → Bool) (w : World) (eg : ∀ args w, (callFunc fid args).run Tryd.prog w = .ok (.enter fid args) w)
    (hf : ∀ W s, Below w.heap.size w W → s &&& C = s → Calls Tryd.prog fid #[V, .int .i64 (s : Nat)] W fun e w' => e = .returned (.bool (P s)) ∧ Below W.heap.size W w') :
    CallsIn Fence.wide 6 Tryd.prog 54 #[.int .i64 C, .func (.func fid) #[V] #[]] w (Gave w (ints (szs P (sbL C)))) := by
  have HF := Lib.hid hf
  have HC := Lib.hid hC
  clear hf hC
  refine callsIn_of_wp_marks Tryd.func54 rfl trivial ?_ rfl
  simp only [Tryd.ntmps54, List.size_toArray, List.length_cons, List.length_nil, Nat.reduceAdd, Nat.reduceSub, Array.replicate_succ, Array.replicate_zero, List.push_toArray, List.append_toArray, List.nil_append, List.cons_append]
  gi_wp2_with (refine ⟨trivial, ?_⟩; gi_at_call 70; refine (callsIn_wide.2 (subsetsB_any _ _)).mono ?_; rintro e w' ⟨rfl, rfl⟩)
  obtain ⟨W, eW⟩ : ∃ W, W = ((w.alloc (.cells #[.func (.func fid) #[V] #[]] 47)).alloc (.cells #[.slice none 0 0] 22)).alloc (.cells #[.int .i64 C] 3) := ⟨_, rfl⟩
  have sW : W.heap.size = w.heap.size + 1 + 1 + 1 := by rw [eW]; simp
  have hBW : Below w.heap.size w W := by rw [eW]; exact (((Below.refl _ w).alloc (Nat.le_refl _) _).alloc (by simp) _).alloc (by simp; omega) _
  have b0 : Boxed W w.heap.size 47 (.func (.func fid) #[V] #[]) := by rw [eW]; exact ((Boxed.new w _ _).alloc _).alloc _
  have b1 : Boxed W (w.heap.size + 1) 22 (.slice none 0 0) := by
    rw [eW]; have h := Boxed.new (w.alloc (.cells #[.func (.func fid) #[V] #[]] 47)) 22 (.slice none 0 0); rw [World.size_alloc] at h; exact h.alloc _
  have b2 : Boxed W (w.heap.size + 1 + 1) 3 (.int .i64 C) := by
    rw [eW]; have h := Boxed.new ((w.alloc (.cells #[.func (.func fid) #[V] #[]] 47)).alloc (.cells #[.slice none 0 0] 22)) 3 (.int .i64 C); rw [World.size_alloc, World.size_alloc] at h; exact h
  have r0 : Row W (w.heap.size + 3) (.slice none 0 0) (ints (szs P (valsB ([] : List (SbS C))))) := World.ownsRow_nil W (w.heap.size + 3) 3 1
  rw [← eW]
  clear eW
  obtain ⟨n₀, en⟩ : ∃ n₀, n₀ = w.heap.size := ⟨_, rfl⟩
  rw [← en] at sW hBW b0 b1 b2 r0 HF ⊢
  have hle : n₀ ≤ w.heap.size := by omega
  have EN := Lib.hid en
  have SW := Lib.hid sW
  clear en sW
  refine wpIn_rangeFunc_ownF (α := SbS C) rfl (by omega) (gf := 78) (lb := #[.pointer (some ⟨n₀ + 1 + 1, 0, none⟩)]) rfl trivial (enters_of Tryd.func78 (by kernel_rfl) rfl)
    (sb_stops _ (n₀ + 1 + 1) C (by omega) HC.out W b2) keepB_t (fun W l o o' _ ho hc _ => keepB_b W l o o' ho hc) (Below.refl _ _) (fun _ => rfl)
    (fun pre Z => (SzI n₀ (.func (.func fid) #[V] #[]) P C pre Z ∧ n₀ + 3 ≤ Z.heap.size) ∧ Below n₀ w Z) (fun _ _ _ => False)
    (OwnFrom.and (OwnFrom.and (Own.from (szI_own _ _ _ _) _) (Own.from (size_own _) _)) (ownFrom_below hle (by have := SW.out; omega))) (fun _ _ _ _ _ hs _ _ => hs)
    ⟨⟨⟨b0, _, b1, r0⟩, by have := SW.out; omega⟩, hBW⟩
    (fun x => { tmps := #[.int .i64 C, .func (.func fid) #[V] #[], undef, .pointer (some ⟨n₀, 0, none⟩), .slice none 0 0, .pointer (some ⟨n₀ + 1, 0, none⟩), .int .i64 (x.1 : Int), .int .i64 C,
      .func (.func 78) #[] #[.pointer (some ⟨n₀ + 1 + 1, 0, none⟩)], .int .i64 (x.1 : Int), undef, undef, undef, undef, undef, undef, undef, undef, undef, undef], defers := [] }) ?assign ?body ?done ?stop
  case assign =>
    intro l x W K hK
    gi_wp2
    exact hK
  case body =>
    rintro l pre x Z ⟨⟨⟨c0, v, c1, hr⟩, hsz⟩, hB⟩ hlen
    have hst : szs P (valsB (pre ++ [x])) = szs P (valsB pre) ++ (if P x.1 = true then [pcf 15 x.1] else []) := by rw [valsB_snoc, szs_snoc]
    have hln : (ints (szs P (valsB pre))).length ≤ 100000 := by
      rw [ints_length]
      have h1 := szs_length P (valsB pre)
      have h2 : (valsB pre).length = pre.length := by simp [valsB]
      omega
    obtain ⟨pr, epr⟩ : ∃ pr, pr = pre ++ [x] := ⟨_, rfl⟩
    rw [← epr] at hst ⊢
    obtain ⟨s, hs⟩ := x
    dsimp only at hst ⊢
    have hs15 : s < 32768 := Nat.lt_of_le_of_lt (sub_le hs) HC.out
    have HFS := Lib.hid (HF.out Z s hB hs)
    obtain ⟨b, eb⟩ : ∃ b, b = P s := ⟨_, rfl⟩
    rw [← eb] at HFS hst
    have C0 := Lib.hid c0
    have C1 := Lib.hid c1
    have HR := Lib.hid hr
    have HB := Lib.hid hB
    have HST := Lib.hid hst
    have HLN := Lib.hid hln
    have HSZ := Lib.hid hsz
    have z0 := c0.cell
    clear c0 c1 hr hB hst hln hlen epr eb hs hsz
    cases b with
    | false =>
      have HV := Lib.hid (HST.out.trans (by rw [if_neg (by simp), List.append_nil]))
      gi_wp2_with (refine ⟨trivial, ?_⟩; refine (CallsIn.inRound l (callsIn_wide.2 HFS.out)).mono ?_; rintro e w1 ⟨rfl, hb1⟩)
      refine ⟨keeps_belowS hb1, fun x => (hb1.block _ x.lt).trans x, ⟨⟨(hb1.block _ C0.out.lt).trans C0.out, v, (hb1.block _ C1.out.lt).trans C1.out, ?_⟩, Nat.le_trans HSZ.out hb1.size⟩, HB.out.trans (hb1.mono (by have := HSZ.out; omega))⟩
      rw [HV.out]
      exact HR.out.below hb1
    | true =>
      have HV := Lib.hid (HST.out.trans (by rw [if_pos rfl]))
      clear HST
      have hcv : IntKind.u64.wrap (s : Int) = (s : Int) := by simp [IntKind.wrap, IntKind.bits, IntKind.signed]; omega
      have HON := Lib.hid (fun w => onesC s hs15 w)
      gi_wp2_with (refine ⟨trivial, ?_⟩; refine (CallsIn.inRound l (callsIn_wide.2 HFS.out)).mono ?_; rintro e w1 ⟨rfl, hb1⟩)
      obtain ⟨p, ep⟩ : ∃ p, p = pcf 15 s := ⟨_, rfl⟩
      rw [← ep] at HON HV
      have k0 : Boxed w1 n₀ 47 (.func (.func fid) #[V] #[]) := (hb1.block _ C0.out.lt).trans C0.out
      have k1 : Boxed w1 (n₀ + 1) 22 v := (hb1.block _ C1.out.lt).trans C1.out
      have kr : Row w1 (n₀ + 3) v (ints (szs P (valsB pre))) := HR.out.below hb1
      have hS0 : w1.drew.cell? ⟨n₀ + 1, 0, none⟩ = some v := k1.cell
      have hsz1 : n₀ + 3 ≤ w1.drew.heap.size := Nat.le_trans HSZ.out hb1.size
      have q1 : ∀ o, (w1.drew.alloc o).cell? ⟨n₀ + 1, 0, none⟩ = some v := fun o => ((show Boxed w1.drew (n₀ + 1) 22 v from k1).alloc o).cell
      have K0 := Lib.hid k0
      have K1 := Lib.hid k1
      have KR := Lib.hid kr
      have HB1 := Lib.hid hb1
      have HSZ1 := Lib.hid hsz1
      clear k0 k1 kr hb1 ep z0 C0 C1 HR hsz1
      refine wpIn_held_round 5 (fun W' => W'.cell? ⟨n₀ + 1, 0, none⟩ = some v) (by kernel_rfl) (by rfl) (by kernel_rfl) (by kernel_rfl) (by kernel_rfl) (by kernel_rfl) ?_
      simp only [List.take_succ_cons, List.take_zero, List.drop_succ_cons, List.drop_zero]
      refine wpAnyH_take (i := 0) (v := v) rfl (by kernel_rfl) (by kernel_rfl) (by kernel_rfl) (fun _ _ _ h => h) (Or.inl ⟨by rfl, ?_⟩) hS0 ?_
      · rintro w' q1
        go_simp
      simp only [Act.put, List.setIfInBounds_toArray]
      refine wpAnyH_take (i := 1) (v := .int .i64 (s : Int)) rfl (by kernel_rfl) (by kernel_rfl) (by kernel_rfl) (fun _ _ _ h => h) (Or.inl ⟨by rfl, ?_⟩) hS0 ?_
      · rintro w' q1
        go_simp
      simp only [Act.put, List.setIfInBounds_toArray]
      refine wpAnyH_rest 2 3 (by rfl) (by kernel_rfl) ?_
      simp only [List.drop_succ_cons, List.drop_zero]
      refine tailH_cons ?_
      go_wp2
      refine ⟨hS0, ?_⟩
      refine tailH_cons ?_
      go_wp2_with fail
      refine (HON.out _).mono ?_
      rintro e w2 ⟨rfl, rfl⟩
      go_wp2
      refine ⟨hS0, ?_⟩
      refine tailH_cons ?_
      go_wp2
      refine ⟨q1 _, ?_⟩
      change wpListIn _ _ _ _ _ _ _ _
      gi_wp2_with (gi_at_builtin; refine appendIn_one rfl (.tmp 13) (.tmp 17) rfl w1.drew (n₀ + 3) v (ints (szs P (valsB pre))) p rfl rfl KR.out HSZ1.out HLN.out ?_; intro v' w3 hr' hg'
                   obtain ⟨k1, k2, k3, k4, k5⟩ := (show Boxed w1.drew (n₀ + 1) 22 v from K1.out).appended (n₀ := n₀) (by decide) (Row.mono (show Row w1.drew (n₀ + 3) v _ from KR.out) (by omega)) (by have := HSZ1.out; omega) (by omega) (Row.mono hr' (by omega)) hg'
                   have k6 : Boxed w3 n₀ 47 (.func (.func fid) #[V] #[]) := (Boxed.alloc (W := w1.drew) (t := 47) K0.out _).kept hg' (Boxed.not_row (W := w1.drew) (t := 47) K0.out (by decide) KR.out)
                   have k8 : Row (w3.setCell ⟨n₀ + 1, 0, none⟩ v') (n₀ + 3) v' (ints (szs P (valsB pre)) ++ [(p : Int)]) := World.ownsRow.kept hr' (grownBy_setCell' w3 (n₀ + 1) v') (.inr (k1.not_row (by decide) hr').symm)
                   have k9 : KeepB (n₀ + 1 + 1) C w1.drew (w3.setCell ⟨n₀ + 1, 0, none⟩ v') := fun x => Boxed.other (((show Boxed w1.drew (n₀ + 1 + 1) 3 (.int .i64 C) from x).alloc _).kept hg' (fun e => by have := (KR.out.lt _ e.symm).1; omega)) (B' := n₀ + 1) (by omega) v'
                   obtain ⟨g, cap, rfl⟩ : ∃ g cap, v' = .slice (some ⟨g, 0, none⟩) ((ints (szs P (valsB pre))).length + 1) cap := by
                     have h0 := hr'
                     unfold Row at h0
                     rw [List.length_append] at h0
                     exact ownsRow_succ h0
                   have y0 := k1.cell
                   have y1 := k1.frozen
                   have K2 := Lib.hid k2
                   have K4 := Lib.hid k4
                   have K5 := Lib.hid k5
                   have K6 := Lib.hid (Boxed.other (t := 47) k6 (B' := n₀ + 1) (by omega))
                   have K8 := Lib.hid k8
                   have K9 := Lib.hid k9
                   clear hr' hg' k1 k2 k3 k4 k5 k6 k8 k9)
      have hbz : Below n₀ Z _ := (HB1.out.mono (by have := HSZ.out; omega)).trans (((Below.refl n₀ w1).drew).trans K5.out)
      refine ⟨(keeps_belowS HB1.out).trans ((KeepsOthers.drew _).trans K4.out), fun x => K9.out ((HB1.out.block _ x.lt).trans x), ⟨⟨K6.out _, _, K2.out, ?_⟩, Nat.le_trans HSZ.out hbz.size⟩, HB.out.trans hbz⟩
      rw [HV.out]
      unfold ints at K8 ⊢
      rw [List.map_append]
      exact K8.out
  case done =>
    rintro D xs Z hD hS ⟨⟨⟨c0, v, c1, hr⟩, hsz⟩, hB⟩ hK
    rw [hS] at hr
    have z1 := c1.cell
    obtain ⟨A1, cc1, rfl, s1⟩ := hr.seen
    have HR := Lib.hid hr
    clear hr hS c0 s1
    gi_wp2
    refine ⟨by simp, .inl ⟨_, _, rfl, run_takeDeferred hK, ?_⟩⟩
    refine ⟨_, results_tmp rfl _ _ _, ?_⟩
    refine ⟨_, rfl, ?_, ?_⟩
    · rw [← EN.out]
      exact ownsRow_putObj (Row.mono HR.out (by omega)) (.deferred none) hK rfl
    · rw [← EN.out]
      exact hB.trans (belowK_b (w := w) hle Z D _ _ (by have := SW.out; have := EN.out; omega) hK rfl rfl)
  case stop =>
    rintro D cd pre W _ _ h _
    exact h.elim
end Go.Proofs.YtcblcifnpgmibaaDoor
