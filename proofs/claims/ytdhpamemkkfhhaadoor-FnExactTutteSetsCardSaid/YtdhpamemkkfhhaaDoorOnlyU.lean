/- Texts in one: SubsFn, Place, ActiveFn, HeldOne, TreesTable, SetsTable. -/
import Derived.Test.YtdhpamemkkfhhaaDoorSubsMath
import Derived.Test.YtdhpamemkkfhhaaDoorBaseA
import Derived.Test.YtdhpamemkkfhhaaDoorLeadsFn
import Derived.Test.YtdhpamemkkfhhaaDoorActMath
import Derived.Test.YtdhpamemkkfhhaaDoorTreesSum
import Derived.Test.YtdhpamemkkfhhaaDoorSetsMath
import Derived.Test.YtdhpamemkkfhhaaDoorOnesBig

/- The iterator over the subsets of a set of edges. -/



namespace Go.Proofs.YtdhpamemkkfhhaaDoor
open Go.RowKit Go.Shelf
attribute [local go_sem] Oper.semAt_some
set_option linter.unusedVariables false
set_option maxRecDepth 100000

abbrev Sb (C : Nat) := { s : Nat // s &&& C = s }
abbrev encS (C : Nat) (x : Sb C) : Array Value := #[.int .i64 (x.1 : Int)]
def valsS {C : Nat} (l : List (Sb C)) : List Nat := l.map (·.1)
theorem valsS_snoc {C : Nat} (l : List (Sb C)) (x : Sb C) : valsS (l ++ [x]) = valsS l ++ [x.1] := by simp [valsS]
theorem subs_len {C s : Nat} (hC : C < 1024) (hs : s &&& C = s) : (subsOf C s).length ≤ C - s + 1 := by
  have h : ∀ f s, s &&& C = s → C - s ≤ f → (subsFrom C f s).length ≤ C - s + 1 := fun f => by
    induction f with
    | zero => intro s _ _; simp [subsFrom]
    | succ f ih =>
      intro s hs hf
      unfold subsFrom
      split
      · simp
      · rename_i hne
        obtain ⟨h1, h2⟩ := nxt_facts hC hs hne
        have hsC : s ≤ C := by rw [← hs]; exact Nat.and_le_right
        have hnC : nxt C s ≤ C := by rw [← h2]; exact Nat.and_le_right
        have := ih (nxt C s) h2 (by omega)
        rw [List.length_cons]
        omega
  exact h 1024 s hs (by omega)
/-- What a round owes to the iterator: its box stays. -/
def KeepS (B C : Nat) (X Y : World) : Prop := Boxed X B 3 (.int .i64 C) → Boxed Y B 3 (.int .i64 C)
theorem keepS_t {B C : Nat} {X Y Z : World} (h : KeepS B C X Y) (k : KeepS B C Y Z) : KeepS B C X Z := fun x => k (h x)
theorem keepS_b {B C : Nat} (W : World) (l : Nat) (o o' : Obj) (h : W.heap[l]? = some o) (ho : o.isCells = false) : KeepS B C W (W.putObj l o') := fun x => (boxed_own (β := Unit) B _ (fun _ => _)).putObj (s := ()) o' x h ho
set_option maxHeartbeats 1000000 in
theorem subs_stops (n Bn C : Nat) (hn : 1 ≤ n) (hC : C < 1024) (w : World) (hc : Boxed w Bn 3 (.int .i64 C)) :
    SeqStopsK Fence.wide n Tryd.prog 92 #[.pointer (some ⟨Bn, 0, none⟩)] (encS C) (KeepS Bn C) (fun xs => valsS xs = subsL C) (fun pre => True) 1024 w := fun l J Jx W hb hJ hJx hY h0 => by
  have hcW : Boxed W Bn 3 (.int .i64 C) := (hb.block Bn hc.lt).trans hc
  have HY := Lib.hid hY
  have HCW := Lib.hid (show True ∧ Boxed W Bn 3 (.int .i64 C) from ⟨trivial, hcW⟩)
  clear hY hJ hJx hb hc hcW
  refine callsIn_of_wp Tryd.func92 rfl trivial ?_ rfl
  simp only [Tryd.ntmps92, List.size_toArray, List.length_cons, List.length_nil, Nat.reduceAdd, Nat.reduceSub, Array.replicate_succ, Array.replicate_zero, List.push_toArray, List.append_toArray, List.nil_append, List.cons_append]
  gi_wp2
  gi_loopw [3] (fun b wr => ∃ (s : Nat) (pre : List (Sb C)), s &&& C = s ∧ b = .int .i64 s ∧ Hid (valsS pre ++ subsOf C s = subsL C) ∧ J pre wr ∧ Hid (Boxed wr Bn 3 (.int .i64 C))) (fun b _ => C - (intOf b).toNat)
  case atStart => exact ⟨0, [], by simp, rfl, Lib.hid rfl, h0, Lib.hid HCW.out.2⟩
  case round =>
    obtain ⟨s, pre, hs, rfl, hp, hJ, hcr⟩ := hrel
    have hsC : s ≤ C := by rw [← hs]; exact Nat.and_le_right
    have hlen : pre.length < 1024 := by
      have h1 := subs_len (s := 0) hC (by simp)
      have h2 := congrArg List.length hp.out
      rw [List.length_append, subsL_eq] at h2
      have h3 : 1 ≤ (subsOf C s).length := by
        show 1 ≤ (subsFrom C 1024 s).length
        unfold subsFrom
        split <;> simp
      have h4 : (valsS pre).length = pre.length := by simp [valsS]
      omega
    obtain ⟨fn, tmps, assign, body, hy, hR⟩ := HY.out pre ⟨s, hs⟩ wr hJ hlen
    dsimp only [encS] at hy
    clear hlen
    gi_wp2
    refine hR.mono ?_
    rintro e W3 (⟨rfl, hJ3, hk3⟩ | ⟨rfl, hJx3⟩)
    · have hC3 := Lib.hid (hk3 hcr.out)
      have hc3 := hC3.out.cell
      by_cases hne : s = C
      · have hd : ((s : Int) != (C : Int)) = false := by simp; omega
        have HP := Lib.hid (show valsS (pre ++ [(⟨s, hs⟩ : Sb C)]) = subsL C by
          have h := hp.out
          rw [hne, subsOf_end] at h
          rw [valsS_snoc]
          show valsS pre ++ [s] = subsL C
          rw [hne]
          exact h)
        clear hp
        gi_wp2
        go_end0
        exact ⟨⟨_, rfl⟩, .inl ⟨_, HP.out, hJ3⟩⟩
      · have hd : ((s : Int) != (C : Int)) = true := by simp; omega
        have hnx := nxt_facts hC hs hne
        have hop := nxt_op hC hsC
        have hwr : wrap64 ((s : Int) - (C : Int)) = (s : Int) - (C : Int) := by unfold wrap64; omega
        have HP := Lib.hid (show valsS (pre ++ [(⟨s, hs⟩ : Sb C)]) ++ subsOf C (nxt C s) = subsL C by
          rw [valsS_snoc, List.append_assoc, List.singleton_append, ← subsOf_next hC hs hne]
          exact hp.out)
        obtain ⟨t, et⟩ : ∃ t, t = nxt C s := ⟨_, rfl⟩
        rw [← et] at hnx hop HP
        clear hp et
        gi_wp2
        go_roundw
        case rel => exact ⟨t, _, hnx.2, rfl, HP, hJ3, hC3⟩
        case measure =>
          have htC : t ≤ C := by rw [← hnx.2]; exact Nat.and_le_right
          simp [intOf]
          omega
    · gi_wp2
      go_end0
      exact ⟨⟨_, rfl⟩, .inr ⟨_, trivial, hJx3⟩⟩
theorem subsets_any (C : Nat) (w : World) : Calls Tryd.prog 70 #[.int .i64 C] w fun e w' =>
    e = .returned (.func (.func 92) #[] #[.pointer (some ⟨w.heap.size, 0, none⟩)]) ∧ w.alloc (.cells #[.int .i64 C] 3) = w' := by
  have hmf : ∀ (fn : Fn) (first cap : Array Value) (w : World), (Instr.makeFunc fn first cap).run Tryd.prog w = .ok (.func fn first cap) w := fun _ _ _ _ => rfl
  go_enter Tryd.func70, Tryd.ntmps70
  go_wp2
  go_ret
  exact ⟨rfl, rfl⟩
end Go.Proofs.YtdhpamemkkfhhaaDoor

/- The place of a pair. -/


namespace Go.Proofs.YtdhpamemkkfhhaaDoor
open Go Go.RowKit Go.Shelf
attribute [local go_sem] Oper.semAt_some
set_option linter.unusedVariables false
set_option maxRecDepth 100000

set_option maxHeartbeats 1000000 in
theorem place_any (a b : Nat) (ha : a ≤ 6) (h1 : 1 ≤ b) (hb : b ≤ 5) (w : World) : Calls Tryd.prog 78 #[.int .i64 a, .int .i64 b] w fun e w' => e = .returned (.int .i64 ((b * (b - 1) / 2 + a : Nat) : Int)) ∧ w = w' := by
  have hc : b = 1 ∨ b = 2 ∨ b = 3 ∨ b = 4 ∨ b = 5 := by omega
  clear h1 hb
  rcases hc with rfl | rfl | rfl | rfl | rfl
  all_goals
    go_enter Tryd.func78, Tryd.ntmps78
    go_wp2
    go_ret
    refine ⟨ret_int ?_, rfl⟩
    try simp
    try (unfold wrap64; omega)
end Go.Proofs.YtdhpamemkkfhhaaDoor

/- The program's active edges, counted in a range over the edges. -/




namespace Go.Proofs.YtdhpamemkkfhhaaDoor
open Go.RowKit Go.Shelf
attribute [local go_sem] Oper.semAt_some
set_option linter.unusedVariables false
set_option maxRecDepth 100000

theorem tri_half : ∀ b : Fin 6, 1 ≤ b.val → tri b.val = b.val * (b.val - 1) / 2 := by decide
theorem place_row : ∀ n : Fin 6, ∀ e ∈ rows n.val, (rows n.val)[placeOf e]? = some e ∧ placeOf e < tri n.val := by decide
theorem pair_in {n : Nat} (x : Pr n) : x.1 ∈ rows n := by
  obtain ⟨k, hk⟩ := rows_at (n := n) (a := x.1.1) (b := x.1.2) x.2.1 x.2.2
  exact List.mem_of_getElem? hk
theorem edges_code {L : List Int} (ht : IsT L) : edgesIn L (rows L.length) = edgesC L.length (codeOf L) := by
  unfold edgesIn edgesC
  refine List.filter_congr fun e he => ?_
  have h := (place_row ⟨L.length, by have := ht.2; omega⟩ e he).1
  have h2 := code_bit (L := L) h
  unfold bitN
  rw [h2]
theorem edgesOf_vals {L : List Int} {n : Nat} (ys : List (Pr n)) (h : vals ys = rows n) : vals (edgesOf L ys) = edgesIn L (rows n) := by
  rw [← h]
  unfold edgesIn vals edgesOf
  rw [List.filter_map]
  rfl
theorem and_mask (C i : Nat) : C &&& (2 ^ i - 1) ≤ C := Nat.and_le_left
theorem wrap_i (x p : Int) (h : wrap64 x = p) : IntKind.i64.wrap x = p := by rw [IntKind.wrap_i64]; unfold wrap64 at h; exact h
theorem and_pow_all : ∀ F : Fin 1024, ∀ i : Fin 10, (F.val &&& 2 ^ i.val != 0) = decide (bitN F.val i.val = 1) := by decide +kernel
theorem and_pow {F i : Nat} (hF : F < 1024) (hi : i < 10) : (((F &&& 2 ^ i : Nat) : Int) != 0) = decide (bitN F i = 1) := by
  have h := and_pow_all ⟨F, hF⟩ ⟨i, hi⟩
  dsimp only at h
  rw [← h, Bool.eq_iff_iff]
  simp
/-- What the round computes at an edge's place. -/
theorem act_words {C F i : Nat} (hC : C < 1024) (hF : F < 1024) (hi : i < 10) : ∃ p q ah s1 s2 t : Nat, p = 2 ^ i ∧ p ≤ 512 ∧
    (wrap64 ((2 : Int) ^ i) = (p : Int) ∧ IntKind.i64.wrap ((2 : Int) ^ i) = (p : Int)) ∧ ((p : Int) - 1 = (q : Int) ∧ IntKind.i64.wrap ((p : Int) - 1) = (q : Int) ∧ wrap64 ((p : Int) - 1) = (q : Int)) ∧
    bits .and .i64 (C : Int) (q : Int) = (ah : Int) ∧ bits .and .i64 (F : Int) (p : Int) = (t : Int) ∧ (((t : Int) != 0) = decide (bitN F i = 1)) ∧
    bits .andNot .i64 (F : Int) (p : Int) = ((less F p : Nat) : Int) ∧ bits .or .i64 ((less F p : Nat) : Int) (ah : Int) = (s1 : Int) ∧ bits .andNot .i64 (F : Int) (ah : Int) = (s2 : Int) ∧
    ah ≤ C ∧ s1 = less F p ||| ah ∧ s2 ≤ F ∧
    ∀ wb, actStep C F wb i = if bitN F i = 1 then (if ldT s1 i = 1 then wb else (wb.1 + 1, wb.2)) else if ldT s2 i = 1 then (wb.1, wb.2 + 1) else wb := by
  have h1 := pow_le i 9 (by omega)
  have hw := wrap_pow i (by omega)
  have hp := two_pos i
  obtain ⟨p, ep⟩ : ∃ p, p = 2 ^ i := ⟨_, rfl⟩
  have ha := and_mask C i
  have hap := and_pow hF hi
  rw [← ep] at h1 hw hp ha hap
  have hl := less_le F p
  refine ⟨p, p - 1, C &&& (p - 1), less F p ||| (C &&& (p - 1)), less F (C &&& (p - 1)), F &&& p, ep, by omega, ⟨hw, wrap_i _ _ hw⟩, ⟨by omega, by rw [IntKind.wrap_i64]; omega, by unfold wrap64; omega⟩,
    i64_and_nat _ _ (by omega) (by omega), i64_and_nat _ _ (by omega) (by omega), hap, less_op _ _ (by omega) (by omega), i64_or_nat _ _ (by omega) (by omega), less_op _ _ (by omega) (by omega), ha, rfl, less_le _ _, fun wb => ?_⟩
  unfold actStep
  rw [← ep]

def ActI (n₀ n C F : Nat) (S : Value) (pre : List (Pr n)) (W : World) : Prop :=
  Boxed W n₀ 41 S ∧ Boxed W (n₀ + 1) 3 (.int .i64 (F : Nat)) ∧ Boxed W (n₀ + 1 + 1) 3 (.int .i64 ((actRun C F (vals pre)).1 : Nat)) ∧ Boxed W (n₀ + 1 + 1 + 1) 3 (.int .i64 ((actRun C F (vals pre)).2 : Nat)) ∧ Boxed W (n₀ + 1 + 1 + 1 + 1) 41 S
theorem actI_own (n₀ n C F : Nat) (S : Value) : Own (ActI n₀ n C F S) := fun s X Y row hs hg hr =>
  ⟨boxed_own _ _ (fun _ : Unit => _) () X Y row hs.1 hg hr, boxed_own _ _ (fun _ : Unit => _) () X Y row hs.2.1 hg hr, boxed_own _ _ (fun _ : Unit => _) () X Y row hs.2.2.1 hg hr, boxed_own _ _ (fun _ : Unit => _) () X Y row hs.2.2.2.1 hg hr, boxed_own _ _ (fun _ : Unit => _) () X Y row hs.2.2.2.2 hg hr⟩
theorem actRun_small (C F : Nat) (es : List (Nat × Nat)) : (actRun C F es).1 ≤ es.length ∧ (actRun C F es).2 ≤ es.length := by
  induction es using snoc_ind with
  | h0 => exact ⟨Nat.le_refl _, Nat.le_refl _⟩
  | h1 l x ih =>
    rw [actRun_snoc, List.length_append, List.length_singleton]
    unfold actStep
    repeat' split
    all_goals first | omega | (dsimp only; omega)

/-- Two numbers told. -/
def Nums2 (w : World) (x y : Nat) (e : Ending) (w' : World) : Prop := e = .returned (.tuple #[.int .i64 (x : Nat), .int .i64 (y : Nat)]) ∧ Below w.heap.size w w'
set_option maxHeartbeats 8000000 in
theorem active_in (A : Option Addr) (c : Nat) (L : List Int) (ht : IsT L) (F : Nat) (hF : F < codesN L.length) (w : World) (h : Seen w A L) (hT : Tab w) :
    CallsIn Fence.wide 6 Tryd.prog 51 #[.slice A L.length c, .int .i64 F] w (Nums2 w (actP (codeOf L) F).1 (actP (codeOf L) F).2) := by
  have h1 := ht.1.1
  have h5 := ht.2
  have hE := edges_code ht
  have hE5 := edgesC_five h5 h1 (code_ltN ht)
  have hCl := code_ltN ht
  obtain ⟨n, hn⟩ : ∃ n, n = L.length := ⟨_, rfl⟩
  rw [← hn] at h1 h5 hE hE5 hF hCl ⊢
  have HN := Lib.hid hn
  have H := Lib.hid h
  have HG := Lib.hid ht
  have HE := Lib.hid (hE.trans hE5)
  have TB := Lib.hid hT
  have HC := Lib.hid (fun w h => callsIn_wide.1 (implCode_in A c L ht.1 w h))
  rw [← hn] at HC
  obtain ⟨C, eC⟩ : ∃ C, C = codeOf L := ⟨_, rfl⟩
  rw [← eC] at HE HC hCl ⊢
  have h6 : n ≤ 6 := by omega
  clear h ht hn hE hE5 hT eC
  refine callsIn_of_wp_marks Tryd.func51 rfl trivial ?_ rfl
  simp only [Tryd.ntmps51, List.size_toArray, List.length_cons, List.length_nil, Nat.reduceAdd, Nat.reduceSub, Array.replicate_succ, Array.replicate_zero, List.push_toArray, List.append_toArray, List.nil_append, List.cons_append]
  gi_wp2_with (refine ⟨trivial, ?_⟩; gi_at_call 77; refine (callsIn_wide.2 (edges_any _ _ _ _)).mono ?_; rintro e w' ⟨rfl, rfl⟩)
  obtain ⟨W, eW⟩ : ∃ W, W = ((((w.alloc (.cells #[.slice A n c] 41)).alloc (.cells #[.int .i64 (F : Nat)] 3)).alloc (.cells #[.int .i64 0] 3)).alloc (.cells #[.int .i64 0] 3)).alloc (.cells #[.slice A n c] 41) := ⟨_, rfl⟩
  have sW : W.heap.size = w.heap.size + 1 + 1 + 1 + 1 + 1 := by rw [eW]; simp
  have hBW : Below w.heap.size w W := by rw [eW]; exact (((((Below.refl _ w).alloc (Nat.le_refl _) _).alloc (by simp) _).alloc (by simp; omega) _).alloc (by simp; omega) _).alloc (by simp; omega) _
  have b0 : Boxed W w.heap.size 41 (.slice A n c) := by rw [eW]; exact ((((Boxed.new w _ _).alloc _).alloc _).alloc _).alloc _
  have b1 : Boxed W (w.heap.size + 1) 3 (.int .i64 (F : Nat)) := by
    rw [eW]; have h := Boxed.new (w.alloc (.cells #[.slice A n c] 41)) 3 (.int .i64 (F : Nat)); rw [World.size_alloc] at h; exact ((h.alloc _).alloc _).alloc _
  have b2 : Boxed W (w.heap.size + 1 + 1) 3 (.int .i64 0) := by
    rw [eW]; have h := Boxed.new ((w.alloc (.cells #[.slice A n c] 41)).alloc (.cells #[.int .i64 (F : Nat)] 3)) 3 (.int .i64 0); rw [World.size_alloc, World.size_alloc] at h; exact (h.alloc _).alloc _
  have b3 : Boxed W (w.heap.size + 1 + 1 + 1) 3 (.int .i64 0) := by
    rw [eW]; have h := Boxed.new (((w.alloc (.cells #[.slice A n c] 41)).alloc (.cells #[.int .i64 (F : Nat)] 3)).alloc (.cells #[.int .i64 0] 3)) 3 (.int .i64 0); rw [World.size_alloc, World.size_alloc, World.size_alloc] at h; exact h.alloc _
  have b4 : Boxed W (w.heap.size + 1 + 1 + 1 + 1) 41 (.slice A n c) := by
    rw [eW]; have h := Boxed.new ((((w.alloc (.cells #[.slice A n c] 41)).alloc (.cells #[.int .i64 (F : Nat)] 3)).alloc (.cells #[.int .i64 0] 3)).alloc (.cells #[.int .i64 0] 3)) 41 (.slice A n c); rw [World.size_alloc, World.size_alloc, World.size_alloc, World.size_alloc] at h; exact h
  rw [← eW]
  clear eW
  obtain ⟨n₀, en⟩ : ∃ n₀, n₀ = w.heap.size := ⟨_, rfl⟩
  have h2 : 2 ≤ n₀ := by have := TB.out.lt; omega
  rw [← en] at sW hBW b0 b1 b2 b3 b4 ⊢
  have hle : n₀ ≤ w.heap.size := by omega
  have EN := Lib.hid en
  have hsW : Seen W A L := H.out.below (by rw [← en]; exact hBW)
  clear en
  have SW := Lib.hid sW
  have hB4 : n₀ + 1 + 1 + 1 + 1 < W.heap.size := by omega
  clear sW
  refine wpIn_outer (α := Pr n) (encs := encP n) rfl (by omega) (gf := 97) (lb := #[.pointer (some ⟨n₀ + 1 + 1 + 1 + 1, 0, none⟩)]) rfl trivial (enters_of Tryd.func97 (by kernel_rfl) rfl)
    (edges_stops A c L n HN.out HG.out.1 (n₀ + 1 + 1 + 1 + 1) W hB4 b4 hsW) keepG_t (fun W l o o' _ ho hc _ => keepG_b W l o o' ho hc) (Below.refl _ _) (fun _ => rfl)
    (fun pre Z => ActI n₀ n C F (.slice A n c) pre Z ∧ Below n₀ w Z) (fun _ _ _ => False)
    (OwnFrom.and (Own.from (actI_own _ _ _ _ _) _) (ownFrom_below hle (by omega))) (fun _ _ _ _ _ hs _ _ => hs)
    ⟨⟨b0, b1, b2, b3, b4⟩, hBW⟩
    (fun x => { tmps := #[.slice A n c, .int .i64 F, .pointer (some ⟨n₀, 0, none⟩), .pointer (some ⟨n₀ + 1, 0, none⟩), .int .i64 0, .int .i64 0, .pointer (some ⟨n₀ + 1 + 1, 0, none⟩), .pointer (some ⟨n₀ + 1 + 1 + 1, 0, none⟩), .int .i64 (x.1.1 : Int), .int .i64 (x.1.2 : Int), undef, undef, .slice A n c,
      .func (.func 97) #[] #[.pointer (some ⟨n₀ + 1 + 1 + 1 + 1, 0, none⟩)], .int .i64 (x.1.1 : Int), .int .i64 (x.1.2 : Int), undef, undef, undef, undef, undef, undef, undef, undef, undef, undef, undef, undef, undef, undef, undef, undef, undef, undef, undef, undef, undef, undef, undef, undef, undef, undef, undef, undef, undef, undef, undef, undef, undef, undef, undef, undef], defers := [] }) ?assign ?body ?done ?stop
  case assign =>
    intro l x W K hK
    gi_wp2
    simpa [encP] using hK
  case body =>
    rintro l pre x Z ⟨⟨c0, c1, c2, c3, c4⟩, hB⟩ hlen
    have hin := pair_in x
    have hpr := place_row ⟨n, by omega⟩ x.1 hin
    have hst := actRun_snoc C F (vals pre) x.1
    rw [← vals_snoc] at hst
    have hsm := actRun_small C F (vals pre)
    have hvl : (vals pre).length = pre.length := by simp [vals]
    obtain ⟨pr, epr⟩ : ∃ pr, pr = pre ++ [x] := ⟨_, rfl⟩
    rw [← epr] at hst ⊢
    clear epr
    obtain ⟨⟨a, b⟩, ha, hb⟩ := x
    dsimp only at ha hb hst hin hpr ⊢
    have hpl := place_any a b (by omega) (by omega) (by omega)
    have hcc := codesN_eq ⟨n, by omega⟩ h1
    have htr : ∀ n : Fin 6, tri n.val ≤ 10 := by decide
    have htr2 := htr ⟨n, by omega⟩
    dsimp only at hcc hpr htr2
    have eth : b * (b - 1) / 2 + a = placeOf (a, b) := by
      have := tri_half ⟨b, by omega⟩ (by show 1 ≤ b; omega)
      dsimp only at this
      unfold placeOf
      dsimp only
      rw [this]
    rw [eth] at hpl
    have hle := codesN_le n
    obtain ⟨p, q, ah, s1, s2, t, hp, hp512, ⟨p1, p2⟩, ⟨q1, q2, q3⟩, fa, ft, ftn, fl, fo, fl2, hah, hs1, hs2, hact⟩ := act_words (C := C) (F := F) (i := placeOf (a, b)) (by omega) (by omega) (by omega)
    rw [hact] at hst
    have hl1 : s1 < codesN n := by
      rw [hs1, hcc]
      exact Nat.or_lt_two_pow (Nat.lt_of_le_of_lt (less_le F p) (by omega)) (by omega)
    have hl2 : s2 < codesN n := by omega
    have HL : Hid (∀ (s : Nat) (w1 : World), s < codesN n → Below n₀ w w1 → Calls Tryd.prog 79 #[.slice A n c, .int .i64 s, .int .i64 a, .int .i64 b] w1 (Said1 w1 (ldT s (placeOf (a, b)) == 1))) := Lib.hid fun s w1 hs hb1 => leads_any A n c s (a, b) h1 h5 hs hin w1 (TB.out.below hb1 (by omega))
    have hsh : wrap64 ((2 : Int) ^ min (placeOf (a, b)) 64) = (p : Int) := by rw [Nat.min_eq_left (show placeOf (a, b) ≤ 64 by omega)]; exact p1
    obtain ⟨i, ei⟩ : ∃ i, i = placeOf (a, b) := ⟨_, rfl⟩
    rw [← ei] at hsh hpl p1 p2 ftn hst HL
    obtain ⟨bl1, eb1⟩ : ∃ bl1, bl1 = (ldT s1 i == 1) := ⟨_, rfl⟩
    obtain ⟨bl2, eb2⟩ : ∃ bl2, bl2 = (ldT s2 i == 1) := ⟨_, rfl⟩
    have HL1 : Hid (∀ w1 : World, Below n₀ w w1 → Calls Tryd.prog 79 #[.slice A n c, .int .i64 s1, .int .i64 a, .int .i64 b] w1 (Said1 w1 bl1)) := Lib.hid fun w1 hb1 => by rw [eb1]; exact HL.out s1 w1 hl1 hb1
    have HL2 : Hid (∀ w1 : World, Below n₀ w w1 → Calls Tryd.prog 79 #[.slice A n c, .int .i64 s2, .int .i64 a, .int .i64 b] w1 (Said1 w1 bl2)) := Lib.hid fun w1 hb1 => by rw [eb2]; exact HL.out s2 w1 hl2 hb1
    have hst' : actRun C F (vals pr) = if bitN F i = 1 then (if bl1 = true then actRun C F (vals pre) else ((actRun C F (vals pre)).1 + 1, (actRun C F (vals pre)).2)) else if bl2 = true then ((actRun C F (vals pre)).1, (actRun C F (vals pre)).2 + 1) else actRun C F (vals pre) := by
      rw [hst, eb1, eb2]
      simp only [beq_iff_eq]
    obtain ⟨r, er⟩ : ∃ r, r = actRun C F (vals pre) := ⟨_, rfl⟩
    rw [← er] at hst' hsm c2 c3
    obtain ⟨k2, k3⟩ := r
    dsimp only at hst' hsm c2 c3
    have HST := Lib.hid hst'
    have HPL := Lib.hid hpl
    have hsZ : Seen Z A L := H.out.below (by rw [← EN.out]; exact hB)
    have HCZ := Lib.hid (HC.out Z hsZ)
    have z0 := c0.cell
    have z1 := c1.cell
    have z2 := c2.cell
    have z3 := c3.cell
    have C0 := Lib.hid c0
    have C1 := Lib.hid c1
    have C2 := Lib.hid c2
    have C3 := Lib.hid c3
    have C4 := Lib.hid c4
    have HBZ := Lib.hid hB
    have HNZ := Lib.hid (show n₀ ≤ Z.heap.size from Nat.le_of_lt c0.lt)
    have hk : k2 ≤ 15 ∧ k3 ≤ 15 := by omega
    obtain ⟨bit, ebit⟩ : ∃ bit : Bool, bit = decide (bitN F i = 1) := ⟨_, rfl⟩
    rw [← ebit] at ftn
    have EBIT := Lib.hid ebit
    obtain ⟨m, em⟩ : ∃ m, m = less F p := ⟨_, rfl⟩
    rw [← em] at fl fo
    clear p1 p2 q1 hst hst' hpl hact hsm hvl c0 c1 c2 c3 c4 hB hsZ hs1 hs2 hl1 hl2 hcc htr htr2 eth hpr hin ei eb1 eb2 er hp HL hah em ebit hlen hle b0 b1 b2 b3 b4 hBW hsW hB4 HC
    have HK := Lib.hid hk
    cases bit
    case' false =>
      have hne : ¬ bitN F i = 1 := fun h => by have := EBIT.out; rw [decide_eq_true h] at this; cases this
      have HST2 := Lib.hid (HST.out.trans (if_neg hne))
      have HLX := HL2
      clear hne HST EBIT HL1 HL2
      cases bl2
    case' true =>
      have hne : bitN F i = 1 := of_decide_eq_true EBIT.out.symm
      have HST2 := Lib.hid (HST.out.trans (if_pos hne))
      have HLX := HL1
      clear hne HST EBIT HL1 HL2
      cases bl1
    all_goals
      gi_wp2_with (first
        | (refine ⟨trivial, ?_⟩; gi_at_call 78; refine (CallsIn.inRound l (callsIn_wide.2 (HPL.out Z))).mono ?_; rintro e W3 ⟨rfl, rfl⟩)
        | (refine ⟨trivial, ?_⟩; gi_at_call 64; refine (CallsIn.inRound l (callsIn_wide.2 HCZ.out)).mono ?_; rintro e Z1 ⟨rfl, hb1⟩
           have y0' : Boxed Z1 n₀ 41 (.slice A n c) := (hb1.block n₀ C0.out.lt).trans C0.out
           have y1' : Boxed Z1 (n₀ + 1) 3 (.int .i64 (F : Nat)) := (hb1.block (n₀ + 1) C1.out.lt).trans C1.out
           have y0 := y0'.cell
           have y1 := y1'.cell
           clear y0' y1'
           clear z0 z1 z2 z3
           have hB1 := HBZ.out.trans (hb1.mono HNZ.out))
        | (refine ⟨trivial, ?_⟩; gi_at_call 79; refine (CallsIn.inRound l (callsIn_wide.2 (HLX.out Z1 hB1))).mono ?_; rintro e Z2 ⟨rfl, hb2⟩
           have hz := hb1.trans (hb2.mono hb1.size)
           have k2' : Boxed Z2 (n₀ + 1 + 1) 3 (.int .i64 (k2 : Nat)) := (hz.block (n₀ + 1 + 1) C2.out.lt).trans C2.out
           have k3' : Boxed Z2 (n₀ + 1 + 1 + 1) 3 (.int .i64 (k3 : Nat)) := (hz.block (n₀ + 1 + 1 + 1) C3.out.lt).trans C3.out
           have x2 := k2'.cell
           have f2 := k2'.frozen
           have x3 := k3'.cell
           have f3 := k3'.frozen
           have K2' := Lib.hid k2'
           have K3' := Lib.hid k3'
           clear k2' k3'))
    all_goals
      clear hsh q2 q3 fa ft ftn fl fo fl2
      have hnZ := HNZ.out
      have hBe : Below n₀ w Z2 := HBZ.out.trans (hz.mono hnZ)
      have k0 : Boxed Z2 n₀ 41 (.slice A n c) := (hz.block n₀ C0.out.lt).trans C0.out
      have k1 : Boxed Z2 (n₀ + 1) 3 (.int .i64 (F : Nat)) := (hz.block (n₀ + 1) C1.out.lt).trans C1.out
      have k2' := K2'.out
      have k3' := K3'.out
      have k4 : Boxed Z2 (n₀ + 1 + 1 + 1 + 1) 41 (.slice A n c) := (hz.block (n₀ + 1 + 1 + 1 + 1) C4.out.lt).trans C4.out
      have hko : KeepsOthers Z Z2 := KeepsOthers.of_grownBy (row := none) ⟨hz.os, hz.tape, hz.output, hz.size, fun k hk _ => hz.block k hk⟩ (fun _ _ e => by cases e)
      have hW2 : W.heap.size = n₀ + 1 + 1 + 1 + 1 + 1 := SW.out
    all_goals first
      | (refine ⟨⟨hko.from _, ⟨fun _ => k4, fun _ => H.out.below (by rw [← EN.out]; exact hBe)⟩, ⟨k0, k1, ?_, ?_, k4⟩, hBe⟩, fun k o h1 _ h3 => (hz.block k (Array.getElem?_eq_some_iff.1 h3).1).trans h3⟩
         · rw [HST2.out]; exact k2'
         · rw [HST2.out]; exact k3')
      | (have hS2 : Below n₀ w (Z2.setCell ⟨n₀ + 1 + 1, 0, none⟩ (.int .i64 ((k2 : Int) + 1))) := hBe.setCell (p := ⟨n₀ + 1 + 1, 0, none⟩) (by show n₀ ≤ n₀ + 1 + 1; omega) _
         refine ⟨⟨(hko.trans (KeepsOthers.setCell _ _ _)).from _, ⟨fun _ => k4.other (by omega) _, fun _ => H.out.below (by rw [← EN.out]; exact hS2)⟩, ⟨k0.other (by omega) _, k1.other (by omega) _, ?_, ?_, k4.other (by omega) _⟩, hS2⟩, fun k o h1 _ h3 => (Below.heap_setCell _ _ _ k (fun e => by dsimp only at e; omega)).trans ((hz.block k (Array.getElem?_eq_some_iff.1 h3).1).trans h3)⟩
         · rw [HST2.out]; exact k2'.set _
         · rw [HST2.out]; exact k3'.other (by omega) _)
      | (have hS2 : Below n₀ w (Z2.setCell ⟨n₀ + 1 + 1 + 1, 0, none⟩ (.int .i64 ((k3 : Int) + 1))) := hBe.setCell (p := ⟨n₀ + 1 + 1 + 1, 0, none⟩) (by show n₀ ≤ n₀ + 1 + 1 + 1; omega) _
         refine ⟨⟨(hko.trans (KeepsOthers.setCell _ _ _)).from _, ⟨fun _ => k4.other (by omega) _, fun _ => H.out.below (by rw [← EN.out]; exact hS2)⟩, ⟨k0.other (by omega) _, k1.other (by omega) _, ?_, ?_, k4.other (by omega) _⟩, hS2⟩, fun k o h1 _ h3 => (Below.heap_setCell _ _ _ k (fun e => by dsimp only at e; omega)).trans ((hz.block k (Array.getElem?_eq_some_iff.1 h3).1).trans h3)⟩
         · rw [HST2.out]; exact k2'.other (by omega) _
         · rw [HST2.out]; exact k3'.set _)
  case done =>
    rintro D xs Z hD hS ⟨⟨c0, c1, c2, c3, c4⟩, hB⟩ hK
    have z2 := c2.cell
    have z3 := c3.cell
    have HS := Lib.hid hS
    clear hS
    have hBq := Lib.hid hB
    clear hB
    have KK := Lib.hid hK
    clear hK
    gi_wp2
    rename_i K hKK
    refine wpIn_wide.2 ?_
    go_region
    all_goals
      refine hKK _ _ ?_
      gi_wp2
      refine ⟨by simp, .inl ⟨_, _, rfl, run_takeDeferred (show Z.drew.heap[D]? = some (.deferred (some [])) from KK.out), ?_⟩⟩
      refine ⟨_, results_tmp2 rfl _ _ _, ?_⟩
      have hv : vals xs = edgesC 5 C := by
        obtain ⟨ys, hy, rfl⟩ := HS.out
        rw [edgesOf_vals ys hy, HE.out]
      refine ⟨by rw [hv]; rfl, ?_⟩
      rw [← EN.out]
      exact (show Below n₀ w Z.drew from hBq.out.drew).trans (belowK_b (w := w) hle Z.drew D _ _ (by have := EN.out; omega) (show Z.drew.heap[D]? = some (.deferred (some [])) from KK.out) rfl rfl)
  case stop =>
    rintro D cd pre W _ _ h _
    exact h.elim
end Go.Proofs.YtdhpamemkkfhhaaDoor

/- A region that draws its order, inside a round of a range over a function, under a condition on the world: one operation alone may come up. -/

namespace Go.Proofs.YtdhpamemkkfhhaaDoor
open Go
set_option linter.unusedVariables false

section
variable {P : Program} {ops : Array Oper} {md : Region.Mode} {S : World → Prop}
theorem wpAnyH_one {K : Act → World → Prop} {i f : Nat} {o : Oper} {listed : Array Bool} {a : Act} {w : World} (hr : Region.ready md ops listed = [i]) (ho : ops[i]? = some o)
    (h : wpList P ops (AtN fun a' w' => S w' ∧ wpAnyH P md ops (AtN K) S f (listed.setIfInBounds i true) a' w') [o] a w) : wpAnyH P md ops (AtN K) S (f + 1) listed a w := by
  refine ⟨fun h1 => (by rw [hr] at h1; cases h1), fun j hj => ?_⟩
  rw [hr] at hj
  have hji : j = i := by simpa using hj
  subst hji
  have hw : wpOp P ops (AtN fun a' w' => S w' ∧ wpAnyH P md ops (AtN K) S f (listed.setIfInBounds j true) a' w') j (fun a' w' => S w' ∧ wpAnyH P md ops (AtN K) S f (listed.setIfInBounds j true) a' w') a w := by
    unfold wpOp; simp only [ho]; exact h
  exact wpOp_atN (fun a' w' h' => h') hw
end
end Go.Proofs.YtdhpamemkkfhhaaDoor

/- The program's table by forests: a range over the subsets. -/




namespace Go.Proofs.YtdhpamemkkfhhaaDoor
open Go.RowKit Go.Shelf
attribute [local go_sem] Oper.semAt_some
set_option linter.unusedVariables false
set_option maxRecDepth 100000

/-- Between two rounds: the graph's box, those of x and y, the sum's. -/
def TrI (n₀ bx by_ bs C : Nat) (S vx vy : Value) (pre : List (Sb C)) (W : World) : Prop :=
  Boxed W n₀ 41 S ∧ Boxed W bx 64 vx ∧ Boxed W by_ 64 vy ∧ TV W vx tabX ∧ TV W vy tabY ∧ ∃ v, Boxed W bs 64 v ∧ TV W v (trRun C (valsS pre))
theorem trI_own (n₀ bx by_ bs C : Nat) (S vx vy : Value) : Own (TrI n₀ bx by_ bs C S vx vy) := fun s X Y row hs hg hr => by
  obtain ⟨h0, h1, h2, h3, h4, v, h5, h6⟩ := hs
  exact ⟨boxed_own _ _ (fun _ : Unit => _) () X Y row h0 hg hr, boxed_own _ _ (fun _ : Unit => _) () X Y row h1 hg hr, boxed_own _ _ (fun _ : Unit => _) () X Y row h2 hg hr, tv_kept h3 hg hr, tv_kept h4 hg hr, v, boxed_own _ _ (fun _ : Unit => _) () X Y row h5 hg hr, tv_kept h6 hg hr⟩

set_option maxHeartbeats 8000000 in
theorem treesT_in (A : Option Addr) (c : Nat) (L : List Int) (ht : IsT L) (w : World) (h : Seen w A L) (hT : Tab w) :
    CallsIn Fence.wide 12 Tryd.prog 52 #[.slice A L.length c] w (GaveT w (treesP (codeOf L))) := by
  have h2 := hT.lt
  have hCl := code_ltN ht
  have hle := codesN_le L.length
  have HU := Lib.hid unknowns_any
  have HC : Hid (∀ w1, Below w.heap.size w w1 → Calls Tryd.prog 64 #[.slice A L.length c] w1 (NumB w1 (codeOf L))) := Lib.hid (fun w1 hb => callsIn_wide.1 (implCode_in A c L ht.1 w1 (h.below hb)))
  have HF : Hid (∀ F, F < codesN L.length → ∀ w1, Below w.heap.size w w1 → Calls Tryd.prog 50 #[.slice A L.length c, .int .i64 (F : Nat)] w1 (Said1 w1 (forB (codeOf L) F))) := Lib.hid (fun F hF w1 hb => isForest_any A c L ht F hF w1 (h.below hb) (hT.below hb (by omega)))
  have HA : Hid (∀ F, F < codesN L.length → ∀ w1, Below w.heap.size w w1 → Calls Tryd.prog 51 #[.slice A L.length c, .int .i64 (F : Nat)] w1 (Nums2 w1 (actP (codeOf L) F).1 (actP (codeOf L) F).2)) := Lib.hid (fun F hF w1 hb => callsIn_wide.1 (active_in A c L ht F hF w1 (h.below hb) (hT.below hb (by omega))))
  obtain ⟨n, hn⟩ : ∃ n, n = L.length := ⟨_, rfl⟩
  rw [← hn] at HC HF HA hCl hle ⊢
  obtain ⟨C, eC⟩ : ∃ C, C = codeOf L := ⟨_, rfl⟩
  rw [← eC] at HC HF HA hCl ⊢
  have hC : C < 1024 := by omega
  have HCL := Lib.hid hCl
  have H2 := Lib.hid h2
  clear h ht hn hT eC hCl hle
  refine callsIn_of_wp_marks Tryd.func52 rfl trivial ?_ rfl
  simp only [Tryd.ntmps52, List.size_toArray, List.length_cons, List.length_nil, Nat.reduceAdd, Nat.reduceSub, Array.replicate_succ, Array.replicate_zero, List.push_toArray, List.append_toArray, List.nil_append, List.cons_append]
  gi_wp2_with fail
  refine ⟨trivial, ?_⟩
  refine (callsIn_wide.2 (HU.out (w.alloc (.cells #[.slice A n c] 41)))).mono ?_
  rintro e wB ⟨vx, vy, rfl, hx, hy, hbB⟩
  rw [World.size_alloc] at hbB
  have b0 : Boxed wB w.heap.size 41 (.slice A n c) := (hbB.block w.heap.size (by omega)).trans (Boxed.new w 41 (.slice A n c))
  have bB : Below w.heap.size w wB := ((Below.refl _ w).alloc (Nat.le_refl _) _).trans (hbB.mono (by omega))
  obtain ⟨Ax, nx, cx, rfl⟩ := hx.shape
  obtain ⟨Ay, ny, cy, rfl⟩ := hy.shape
  have hsB : w.heap.size + 1 ≤ wB.heap.size := by
    have h := hbB.size
    rw [World.size_alloc] at h
    exact h
  obtain ⟨W3, e3⟩ : ∃ W3, W3 = ((wB.alloc (.cells #[.slice Ax nx cx] 64)).alloc (.cells #[.slice Ay ny cy] 64)).alloc (.cells #[.slice none 0 0] 64) := ⟨_, rfl⟩
  have c0 : Boxed W3 w.heap.size 41 (.slice A n c) := by rw [e3]; exact ((b0.alloc _).alloc _).alloc _
  have c1 : Boxed W3 wB.heap.size 64 (.slice Ax nx cx) := by rw [e3]; exact ((Boxed.new wB _ _).alloc _).alloc _
  have c2 : Boxed W3 (wB.heap.size + 1) 64 (.slice Ay ny cy) := by
    rw [e3]; have h := Boxed.new (wB.alloc (.cells #[.slice Ax nx cx] 64)) 64 (.slice Ay ny cy); rw [World.size_alloc] at h; exact h.alloc _
  have c3 : Boxed W3 (wB.heap.size + 1 + 1) 64 (.slice none 0 0) := by
    rw [e3]; have h := Boxed.new ((wB.alloc (.cells #[.slice Ax nx cx] 64)).alloc (.cells #[.slice Ay ny cy] 64)) 64 (.slice none 0 0); rw [World.size_alloc, World.size_alloc] at h; exact h
  have s3 : W3.heap.size = wB.heap.size + 1 + 1 + 1 := by rw [e3]; simp
  have d3 : Below wB.heap.size wB W3 := by rw [e3]; exact (((Below.refl _ wB).alloc (Nat.le_refl _) _).alloc (by simp) _).alloc (by simp; omega) _
  have x3 := hx.below d3
  have y3 := hy.below d3
  have bW3 := bB.trans (d3.mono (by omega))
  have q0 : (((wB.alloc (.cells #[.slice Ax nx cx] 64)).alloc (.cells #[.slice Ay ny cy] 64)).alloc (.cells #[.slice none 0 0] 64)).cell? ⟨w.heap.size, 0, none⟩ = some (.slice A n c) := by rw [← e3]; exact c0.cell
  gi_wp2_with fail
  rw [← e3]
  refine ⟨trivial, ?_⟩
  refine (callsIn_wide.2 (HC.out W3 bW3)).mono ?_
  rintro e wC ⟨rfl, hbC⟩
  gi_wp2_with fail
  refine ⟨trivial, ?_⟩
  refine (callsIn_wide.2 (subsets_any C wC)).mono ?_
  rintro e wD ⟨rfl, rfl⟩
  gi_wp2_with fail
  obtain ⟨W, eW⟩ : ∃ W, W = wC.alloc (.cells #[.int .i64 C] 3) := ⟨_, rfl⟩
  have dW : Below W3.heap.size W3 W := by rw [eW]; exact hbC.trans ((Below.refl _ wC).alloc (Nat.le_refl _) _ |>.mono hbC.size)
  have sW : W.heap.size = wC.heap.size + 1 := by rw [eW]; simp
  have hcW : Boxed W wC.heap.size 3 (.int .i64 C) := by rw [eW]; exact Boxed.new wC 3 (.int .i64 C)
  rw [← eW]
  have g0 : Boxed W w.heap.size 41 (.slice A n c) := (dW.block _ (by omega)).trans c0
  have g1 : Boxed W wB.heap.size 64 (.slice Ax nx cx) := (dW.block _ (by omega)).trans c1
  have g2 : Boxed W (wB.heap.size + 1) 64 (.slice Ay ny cy) := (dW.block _ (by omega)).trans c2
  have g3 : Boxed W (wB.heap.size + 1 + 1) 64 (.slice none 0 0) := (dW.block _ (by omega)).trans c3
  have gx := x3.below dW
  have gy := y3.below dW
  have gB : Below w.heap.size w W := bW3.trans (dW.mono (by omega))
  obtain ⟨n₀, en⟩ : ∃ n₀, n₀ = w.heap.size := ⟨_, rfl⟩
  obtain ⟨bx, ebx⟩ : ∃ bx, bx = wB.heap.size := ⟨_, rfl⟩
  obtain ⟨bc, ebc⟩ : ∃ bc, bc = wC.heap.size := ⟨_, rfl⟩
  have hbcs := hbC.size
  rw [← en] at g0 gB hsB ⊢
  rw [← ebx] at g1 g2 g3 hsB s3 ⊢
  rw [← ebc] at hcW sW hbcs ⊢
  have hord : n₀ + 1 ≤ bx ∧ bx + 1 + 1 + 1 ≤ bc ∧ W.heap.size = bc + 1 := ⟨by omega, by omega, by omega⟩
  have EN := Lib.hid en
  have hle : n₀ ≤ w.heap.size := by omega
  have h2n : 2 ≤ n₀ := by have := H2.out; omega
  clear e3 c0 c1 c2 c3 s3 d3 x3 y3 bW3 q0 eW dW sW b0 bB hx hy hbB hbC hbcs hsB ebx ebc en
  have HORD := Lib.hid hord
  refine wpIn_rangeFunc_ownF (α := Sb C) rfl (by omega) (gf := 92) (lb := #[.pointer (some ⟨bc, 0, none⟩)]) rfl trivial (enters_of Tryd.func92 (by kernel_rfl) rfl)
    (subs_stops _ bc C (by omega) hC W hcW) keepS_t (fun W l o o' _ ho hc _ => keepS_b W l o o' ho hc) (Below.refl _ _) (fun _ => rfl)
    (fun pre Z => TrI n₀ bx (bx + 1) (bx + 1 + 1) C (.slice A n c) (.slice Ax nx cx) (.slice Ay ny cy) pre Z ∧ Below n₀ w Z) (fun _ _ _ => False)
    (OwnFrom.and (Own.from (trI_own _ _ _ _ _ _ _ _) _) (ownFrom_below hle (by omega))) (fun _ _ _ _ _ hs _ _ => hs)
    ⟨⟨g0, g1, g2, gx, gy, _, g3, tv_nil _⟩, gB⟩
    (fun x => { tmps := #[.slice A n c, .pointer (some ⟨n₀, 0, none⟩), .slice none 0 0, .pointer (some ⟨bx, 0, none⟩), .pointer (some ⟨bx + 1, 0, none⟩), .pointer (some ⟨bx + 1 + 1, 0, none⟩), .int .i64 (x.1 : Int), undef, undef,
      .tuple #[.slice Ax nx cx, .slice Ay ny cy], .tuple #[.slice Ax nx cx, .slice Ay ny cy], .slice Ax nx cx, .slice Ay ny cy, .slice A n c, .int .i64 C,
      .func (.func 92) #[] #[.pointer (some ⟨bc, 0, none⟩)], .int .i64 (x.1 : Int), undef, undef, undef, undef, undef, undef, undef, undef, undef, undef, undef, undef, undef, undef, undef, undef, undef], defers := [] }) ?assign ?body ?done ?stop
  case assign =>
    intro l x W K hK
    gi_wp2
    exact hK
  case body =>
    rintro l pre x Z ⟨⟨k0, k1, k2, kx, ky, v, k3, kv⟩, hB⟩ hlen
    have hst : trRun C (valsS (pre ++ [x])) = trStep C (trRun C (valsS pre)) x.1 := by rw [valsS_snoc, trRun_snoc]
    obtain ⟨pr, epr⟩ : ∃ pr, pr = pre ++ [x] := ⟨_, rfl⟩
    rw [← epr] at hst ⊢
    clear epr
    obtain ⟨s, hs⟩ := x
    dsimp only at hst ⊢
    have hsC : s ≤ C := by rw [← hs]; exact Nat.and_le_right
    have hsN : s < codesN n := Nat.lt_of_le_of_lt hsC HCL.out
    have hTs := trRun_small C (valsS pre)
    obtain ⟨T, eT⟩ : ∃ T, T = trRun C (valsS pre) := ⟨_, rfl⟩
    rw [← eT] at hst hTs kv
    have hBZ : Below w.heap.size w Z := by rw [← EN.out]; exact hB
    have HFZ := Lib.hid (HF.out s hsN Z hBZ)
    have HAZ : Hid (∀ w1, Below w.heap.size w w1 → Calls Tryd.prog 51 #[.slice A n c, .int .i64 (s : Nat)] w1 (Nums2 w1 (actP C s).1 (actP C s).2)) := Lib.hid (fun w1 hb => HA.out s hsN w1 hb)
    have hal := actP_le C s
    have hMs := mono_small hal.1 hal.2
    have hrs := fun i j (hi : i ≤ 10) (hj : j ≤ 10) => rows_small ⟨i, by omega⟩ ⟨j, by omega⟩
    obtain ⟨Av, nv, cv, rfl⟩ := kv.shape
    unfold trStep at hst
    obtain ⟨f, ef⟩ : ∃ f, f = forB C s := ⟨_, rfl⟩
    rw [← ef] at hst HFZ
    obtain ⟨i, ei⟩ : ∃ i, i = (actP C s).1 := ⟨_, rfl⟩
    obtain ⟨j, ej⟩ : ∃ j, j = (actP C s).2 := ⟨_, rfl⟩
    rw [← ei, ← ej] at hst HAZ hal hMs
    have HR : Hid (∀ w1 : World, TV w1 (.slice Ax nx cx) tabX → TV w1 (.slice Ay ny cy) tabY → Calls Tryd.prog 71 #[.slice Ax nx cx, .int .i64 i, .slice Ay ny cy, .int .i64 j] w1 (GaveT w1 (monoXY i j))) := Lib.hid (fun w1 h1 h2 =>
      raised_any _ _ tabX tabY i j (by omega) (by omega) (by decide) (by decide) (fun a ha => (hrs a 0 (by omega) (by omega)).2.1) (fun a ha => (hrs i a (by omega) (by omega)).2.2) w1 h1 h2)
    obtain ⟨M, eM⟩ : ∃ M, M = monoXY i j := ⟨_, rfl⟩
    rw [← eM] at hst HR hMs
    have HPl : Hid (∀ (w1 : World) (u : Value), TV w1 (.slice Av nv cv) T → TV w1 u M → Calls Tryd.prog 69 #[.slice Av nv cv, u] w1 (GaveT w1 (plusT T M))) := Lib.hid (fun w1 u h1 h2 =>
      plusT_any _ u T M (by have := hTs.1; omega) (by have := hMs.1; omega) (fun k => Nat.le_trans (hTs.2 k) (by decide)) (fun k => Nat.le_trans (hMs.2 k) (by decide)) w1 h1 h2)
    have z0 := k0.cell
    have HST := Lib.hid hst
    have K0 := Lib.hid k0
    have K1 := Lib.hid k1
    have K2 := Lib.hid k2
    have K3 := Lib.hid k3
    have KX := Lib.hid kx
    have KY := Lib.hid ky
    have KV := Lib.hid kv
    have HB := Lib.hid hB
    have HNZ := Lib.hid (show n₀ ≤ Z.heap.size from Nat.le_of_lt k0.lt)
    clear hst k0 k1 k2 k3 kx ky kv hB hal hMs hrs ei ej eM ef eT hTs hsN hsC hBZ hlen g0 g1 g2 g3 gx gy gB hcW
    cases f with
    | false =>
      have HST2 : Hid (trRun C (valsS pr) = T) := Lib.hid (by rw [HST.out]; rfl)
      gi_wp2_with (refine ⟨trivial, ?_⟩; gi_at_call 50; refine (CallsIn.inRound l (callsIn_wide.2 HFZ.out)).mono ?_; rintro e Z1 ⟨rfl, hb1⟩)
      have hko : KeepsOthers Z Z1 := KeepsOthers.of_grownBy (row := none) ⟨hb1.os, hb1.tape, hb1.output, hb1.size, fun k hk _ => hb1.block k hk⟩ (fun _ _ e => by cases e)
      refine ⟨hko, fun x => (hb1.block _ x.lt).trans x, ⟨(hb1.block _ K0.out.lt).trans K0.out, (hb1.block _ K1.out.lt).trans K1.out, (hb1.block _ K2.out.lt).trans K2.out, KX.out.below hb1, KY.out.below hb1, _, (hb1.block _ K3.out.lt).trans K3.out, ?_⟩, HB.out.trans (hb1.mono HNZ.out)⟩
      rw [HST2.out]
      exact KV.out.below hb1
    | true =>
      have HST2 : Hid (trRun C (valsS pr) = plusT T M) := Lib.hid (by rw [HST.out]; rfl)
      gi_wp2_with (first
        | (refine ⟨trivial, ?_⟩; gi_at_call 50; refine (CallsIn.inRound l (callsIn_wide.2 HFZ.out)).mono ?_; rintro e Z1 ⟨rfl, hb1⟩
           have k1' : Boxed Z1 n₀ 41 (.slice A n c) := (hb1.block _ K0.out.lt).trans K0.out
           have z1 := k1'.cell
           have hB1 : Below w.heap.size w Z1 := by rw [← EN.out]; exact HB.out.trans (hb1.mono HNZ.out)
           clear k1')
        | (refine ⟨trivial, ?_⟩; gi_at_call 51; refine (CallsIn.inRound l (callsIn_wide.2 (HAZ.out Z1 hB1))).mono ?_; rintro e Z2 ⟨rfl, hb2⟩))
      have hz := hb1.trans (hb2.mono hb1.size)
      have e1 : Boxed Z2 bx 64 (.slice Ax nx cx) := (hz.block _ K1.out.lt).trans K1.out
      have e2 : Boxed Z2 (bx + 1) 64 (.slice Ay ny cy) := (hz.block _ K2.out.lt).trans K2.out
      have e3 : Boxed Z2 (bx + 1 + 1) 64 (.slice Av nv cv) := (hz.block _ K3.out.lt).trans K3.out
      have q1 : Z2.drew.cell? ⟨bx, 0, none⟩ = some (.slice Ax nx cx) := e1.cell
      have q2 : Z2.drew.cell? ⟨bx + 1, 0, none⟩ = some (.slice Ay ny cy) := e2.cell
      have q3 : Z2.drew.cell? ⟨bx + 1 + 1, 0, none⟩ = some (.slice Av nv cv) := e3.cell
      have hzd : Below Z.heap.size Z Z2.drew := hz.drew
      have HRR := Lib.hid (HR.out Z2.drew (KX.out.below hzd) (KY.out.below hzd))
      have hS0 : Z2.drew.cell? ⟨bx, 0, none⟩ = some (.slice Ax nx cx) ∧ Z2.drew.cell? ⟨bx + 1, 0, none⟩ = some (.slice Ay ny cy) ∧ Z2.drew.cell? ⟨bx + 1 + 1, 0, none⟩ = some (.slice Av nv cv) := ⟨q1, q2, q3⟩
      have HZ := Lib.hid hz
      have E1 := Lib.hid e1
      have E2 := Lib.hid e2
      have E3 := Lib.hid e3
      clear hz e1 e2 e3 hzd z0 z1 hb1 hb2 hB1
      refine wpIn_held_round 7 (fun W' => W'.cell? ⟨bx, 0, none⟩ = some (.slice Ax nx cx) ∧ W'.cell? ⟨bx + 1, 0, none⟩ = some (.slice Ay ny cy) ∧ W'.cell? ⟨bx + 1 + 1, 0, none⟩ = some (.slice Av nv cv)) (by kernel_rfl) (by rfl) (by kernel_rfl) (by kernel_rfl) (by kernel_rfl) (by kernel_rfl) ?_
      simp only [List.take_succ_cons, List.take_zero, List.drop_succ_cons, List.drop_zero]
      refine wpAnyH_take (i := 0) (v := .slice Av nv cv) rfl (by kernel_rfl) (by kernel_rfl) (by kernel_rfl) (fun _ _ _ h => h) (Or.inl ⟨by rfl, ?_⟩) hS0 ?_
      · rintro w' ⟨a1, a2, a3⟩
        go_simp
      simp only [Act.put, List.setIfInBounds_toArray]
      refine wpAnyH_take (i := 1) (v := .slice Ax nx cx) rfl (by kernel_rfl) (by kernel_rfl) (by kernel_rfl) (fun _ _ _ h => h) (Or.inl ⟨by rfl, ?_⟩) hS0 ?_
      · rintro w' ⟨a1, a2, a3⟩
        go_simp
      simp only [Act.put, List.setIfInBounds_toArray]
      refine wpAnyH_take (i := 2) (v := .int .i64 (i : Nat)) rfl (by kernel_rfl) (by kernel_rfl) (by kernel_rfl) (fun _ _ _ h => h) (Or.inl ⟨by rfl, ?_⟩) hS0 ?_
      · rintro w' ⟨a1, a2, a3⟩
        go_simp
      simp only [Act.put, List.setIfInBounds_toArray]
      refine wpAnyH_take (i := 3) (v := .slice Ay ny cy) rfl (by kernel_rfl) (by kernel_rfl) (by kernel_rfl) (fun _ _ _ h => h) (Or.inl ⟨by rfl, ?_⟩) hS0 ?_
      · rintro w' ⟨a1, a2, a3⟩
        go_simp
      simp only [Act.put, List.setIfInBounds_toArray]
      refine wpAnyH_take (i := 4) (v := .int .i64 (j : Nat)) rfl (by kernel_rfl) (by kernel_rfl) (by kernel_rfl) (fun _ _ _ h => h) (Or.inl ⟨by rfl, ?_⟩) hS0 ?_
      · rintro w' ⟨a1, a2, a3⟩
        go_simp
      simp only [Act.put, List.setIfInBounds_toArray]
      refine wpAnyH_one (i := 5) (by kernel_rfl) rfl ?_
      go_wp2_with fail
      refine HRR.out.mono ?_
      rintro e Z3 ⟨v3, rfl, hv3, hb3⟩
      have hz3 : Below Z2.heap.size Z2 Z3 := (Below.refl _ Z2).drew.trans hb3
      obtain ⟨A3, n3, c3, rfl⟩ := hv3.shape
      have HPP := Lib.hid (HPl.out Z3 _ ((KV.out.below HZ.out).below hz3) hv3)
      have r1 : Z3.cell? ⟨bx, 0, none⟩ = some (.slice Ax nx cx) := (hz3.cell (p := ⟨bx, 0, none⟩) E1.out.lt).trans q1
      have r2 : Z3.cell? ⟨bx + 1, 0, none⟩ = some (.slice Ay ny cy) := (hz3.cell (p := ⟨bx + 1, 0, none⟩) E2.out.lt).trans q2
      have r3 : Z3.cell? ⟨bx + 1 + 1, 0, none⟩ = some (.slice Av nv cv) := (hz3.cell (p := ⟨bx + 1 + 1, 0, none⟩) E3.out.lt).trans q3
      have HZ3 := Lib.hid (HZ.out.trans (hz3.mono HZ.out.size))
      clear hv3 hb3 hz3
      go_wp2
      refine ⟨⟨r1, r2, r3⟩, ?_⟩
      refine wpAnyH_one (i := 6) (by kernel_rfl) rfl ?_
      go_wp2_with fail
      refine HPP.out.mono ?_
      rintro e Z4 ⟨v4, rfl, hv4, hb4⟩
      obtain ⟨A4, n4, c4, rfl⟩ := hv4.shape
      have hz4 : Below Z.heap.size Z Z4 := HZ3.out.trans (hb4.mono HZ3.out.size)
      have t1 : Z4.cell? ⟨bx, 0, none⟩ = some (.slice Ax nx cx) := (hz4.cell (p := ⟨bx, 0, none⟩) K1.out.lt).trans K1.out.cell
      have t2 : Z4.cell? ⟨bx + 1, 0, none⟩ = some (.slice Ay ny cy) := (hz4.cell (p := ⟨bx + 1, 0, none⟩) K2.out.lt).trans K2.out.cell
      have f3 : Boxed Z4 (bx + 1 + 1) 64 (.slice Av nv cv) := (hz4.block _ K3.out.lt).trans K3.out
      have t3 := f3.cell
      have u3 := f3.frozen
      have F3 := Lib.hid f3
      have HV4 := Lib.hid hv4
      have HZ4 := Lib.hid hz4
      clear hv4 hb4 hz4 f3
      go_wp2
      refine ⟨⟨t1, t2, t3⟩, ?_⟩
      refine wpAnyH_done (by kernel_rfl) ?_ 0
      clear q1 q2 q3 r1 r2 r3 hS0 t1 t2
      change wpListIn _ _ _ _ _ _ _ _
      gi_wp2
      have hty : TypedAt Z4 (bx + 1 + 1) 64 := ⟨_, _, F3.out⟩
      have hko : KeepsOthers Z Z4 := KeepsOthers.of_grownBy (row := none) ⟨HZ4.out.os, HZ4.out.tape, HZ4.out.output, HZ4.out.size, fun k hk _ => HZ4.out.block k hk⟩ (fun _ _ e => by cases e)
      have hOR := HORD.out
      have hbe : Below n₀ w (Z4.setCell ⟨bx + 1 + 1, 0, none⟩ (.slice A4 n4 c4)) := (HB.out.trans (HZ4.out.mono HNZ.out)).setCell (p := ⟨bx + 1 + 1, 0, none⟩) (by show n₀ ≤ bx + 1 + 1; omega) _
      refine ⟨hko.trans (KeepsOthers.setCell _ _ _), fun x => Boxed.other ((HZ4.out.block _ x.lt).trans x) (by omega) _, ⟨?_, ?_, ?_, (KX.out.below HZ4.out).other hty (by decide) (by decide), (KY.out.below HZ4.out).other hty (by decide) (by decide), _, F3.out.set _, ?_⟩, hbe⟩
      · exact Boxed.other ((HZ4.out.block _ K0.out.lt).trans K0.out) (by omega) _
      · exact Boxed.other ((HZ4.out.block _ K1.out.lt).trans K1.out) (by omega) _
      · exact Boxed.other ((HZ4.out.block _ K2.out.lt).trans K2.out) (by omega) _
      · rw [HST2.out]
        exact HV4.out.other hty (by decide) (by decide)
  case done =>
    rintro D xs Z hD hS ⟨⟨k0, k1, k2, kx, ky, v, k3, kv⟩, hB⟩ hK
    have z3 := k3.cell
    have hfin : TV Z v (treesP C) := by
      unfold treesP
      rw [← hS]
      exact kv
    have HF2 := Lib.hid hfin
    have KK := Lib.hid hK
    have HB := Lib.hid hB
    clear hS k0 k1 k2 kx ky k3 kv hB hK hfin
    gi_wp2
    refine ⟨by simp, .inl ⟨_, _, rfl, run_takeDeferred KK.out, ?_⟩⟩
    refine ⟨_, results_tmp rfl _ _ _, ?_⟩
    refine ⟨_, rfl, tv_kept HF2.out (row := some D) (grownBy_putObj' Z D _) (fun r e => by cases e; exact ⟨_, KK.out, rfl⟩), ?_⟩
    rw [← EN.out]
    exact HB.out.trans (belowK_b (w := w) hle Z D _ _ (by have := EN.out; omega) KK.out rfl rfl)
  case stop =>
    rintro D cd pre W _ _ h _
    exact h.elim
end Go.Proofs.YtdhpamemkkfhhaaDoor

/- The program's table by sets: a range over the subsets. -/



namespace Go.Proofs.YtdhpamemkkfhhaaDoor
open Go.RowKit Go.Shelf
attribute [local go_sem] Oper.semAt_some
set_option linter.unusedVariables false
set_option maxRecDepth 100000

theorem pcf_ten_all : allN (fun s => decide (pcf 15 s ≤ 10 ∧ rkT s ≤ pcf 15 s ∧ rkT s ≤ 4)) 1024 = true := by decide +kernel
theorem pcf_ten {s : Nat} (h : s < 1024) : pcf 15 s ≤ 10 ∧ rkT s ≤ pcf 15 s ∧ rkT s ≤ 4 := of_decide_eq_true (allN_spec pcf_ten_all s h)
theorem rk_one_all : allN (fun s => allN (fun i => decide (rkT s ≤ rkT (s ||| 2 ^ i))) 10) 1024 = true := by decide +kernel
theorem rk_one {s i : Nat} (hs : s < 1024) (hi : i < 10) : rkT s ≤ rkT (s ||| 2 ^ i) := of_decide_eq_true (allN_spec (allN_spec rk_one_all s hs) i hi)
theorem rk_up {C s : Nat} (hs : s < 1024) (i : Nat) (hi : i ≤ 10) : rkT s ≤ rkT (s ||| C % 2 ^ i) ∧ s ||| C % 2 ^ i < 1024 := by
  induction i with
  | zero => rw [Nat.pow_zero, Nat.mod_one, Nat.or_zero]; exact ⟨Nat.le_refl _, hs⟩
  | succ i ih =>
    obtain ⟨h1, h2⟩ := ih (by omega)
    have hlt : C % 2 ^ i < 2 ^ i := Nat.mod_lt _ (Nat.two_pow_pos i)
    rw [Nat.mod_pow_succ]
    have hb : C / 2 ^ i % 2 = 0 ∨ C / 2 ^ i % 2 = 1 := by omega
    rcases hb with hb | hb
    · rw [hb, Nat.mul_zero, Nat.add_zero]; exact ⟨h1, h2⟩
    · have e := Nat.two_pow_add_eq_or_of_lt hlt 1
      rw [Nat.mul_one] at e
      have e2 : s ||| (C % 2 ^ i + 2 ^ i * 1) = (s ||| C % 2 ^ i) ||| 2 ^ i := by
        rw [Nat.mul_one, Nat.add_comm, e, Nat.or_comm (2 ^ i), Nat.or_assoc]
      rw [hb, e2]
      exact ⟨Nat.le_trans h1 (rk_one h2 (by omega)), Nat.or_lt_two_pow (n := 10) h2 (Nat.pow_lt_pow_right (by omega) (by omega))⟩
theorem rows_lit : RowsLe tabX 250 ∧ RowsLe tabY 250 ∧ RowsLe [[-1]] 250 := by
  refine ⟨fun k => ?_, fun k => ?_, fun k => ?_⟩
  · unfold tabX; rcases k with _ | _ | k <;> simp
  · unfold tabY; rcases k with _ | k <;> simp
  · rcases k with _ | k <;> simp
theorem sub_rank {C s : Nat} (hC : C < 1024) (hs : s &&& C = s) : rkT s ≤ rkT C := by
  have hsC : s ≤ C := by rw [← hs]; exact Nat.and_le_right
  have h := (rk_up (C := C) (s := s) (by omega) 10 (Nat.le_refl _)).1
  rw [Nat.mod_eq_of_lt (show C < 2 ^ 10 from hC)] at h
  have e : s ||| C = C := by
    refine Nat.eq_of_testBit_eq fun i => ?_
    have h1 : (s &&& C).testBit i = s.testBit i := by rw [hs]
    rw [Nat.testBit_and] at h1
    rw [Nat.testBit_or]
    cases h2 : s.testBit i <;> cases h3 : C.testBit i <;> simp_all
  rwa [e] at h
theorem stRun_small {C : Nat} (hC : C < 1024) (ss : List Nat) (hs : ∀ s ∈ ss, s < 1024) : Small 12 (stRun C ss) := by
  induction ss using snoc_ind with
  | h0 => exact ⟨by simp [stRun], fun k => by simp [stRun]⟩
  | h1 l x ih =>
    rw [stRun_snoc]
    have h1 := pcf_ten hC
    have h2 := pcf_ten (hs x (by simp))
    exact small_plus (ih fun s h => hs s (by simp [h])) (less_small (by omega) (by omega))
theorem valsS_lt {C : Nat} (hC : C < 1024) (l : List (Sb C)) : ∀ s ∈ valsS l, s < 1024 := fun s hs => by
  unfold valsS at hs
  obtain ⟨q, _, rfl⟩ := List.mem_map.1 hs
  have : q.1 ≤ C := by rw [← q.2]; exact Nat.and_le_right
  omega
/-- Between two rounds: the graph's box, those of x - 1 and y - 1, of the rank, the sum's. -/
def SeI (n₀ bx br C r : Nat) (S vx vy : Value) (pre : List (Sb C)) (W : World) : Prop :=
  Boxed W n₀ 41 S ∧ Boxed W bx 64 vx ∧ Boxed W (bx + 1) 64 vy ∧ TV W vx tabXl ∧ TV W vy tabYl ∧ Boxed W br 3 (.int .i64 (r : Nat)) ∧ ∃ v, Boxed W (bx + 1 + 1) 64 v ∧ TV W v (stRun C (valsS pre))
theorem seI_own (n₀ bx br C r : Nat) (S vx vy : Value) : Own (SeI n₀ bx br C r S vx vy) := fun s X Y row hs hg hr => by
  obtain ⟨h0, h1, h2, h3, h4, hb, v, h5, h6⟩ := hs
  exact ⟨boxed_own _ _ (fun _ : Unit => _) () X Y row h0 hg hr, boxed_own _ _ (fun _ : Unit => _) () X Y row h1 hg hr, boxed_own _ _ (fun _ : Unit => _) () X Y row h2 hg hr, tv_kept h3 hg hr, tv_kept h4 hg hr, boxed_own _ _ (fun _ : Unit => _) () X Y row hb hg hr, v, boxed_own _ _ (fun _ : Unit => _) () X Y row h5 hg hr, tv_kept h6 hg hr⟩
/-- The table that is -1 alone. -/
theorem tv_neg (w w1 w2 : World) (e1 : w1 = w.alloc (.cells #[.int .i64 (-1)] 70)) (e2 : w2 = w1.alloc (.cells #[.slice (some ⟨w.heap.size, 0, none⟩) 1 1] 69)) :
    TV w2 (.slice (some ⟨w.heap.size + 1, 0, none⟩) 1 1) [[-1]] ∧ Below w.heap.size w w2 := by
  have s1 : w1.heap.size = w.heap.size + 1 := by rw [e1]; simp
  have b1 : Below w.heap.size w w1 := by rw [e1]; exact (Below.refl _ w).alloc (Nat.le_refl _) _
  have b2 : Below w1.heap.size w1 w2 := by rw [e2]; exact (Below.refl _ w1).alloc (Nat.le_refl _) _
  have p1 : PV w1 (.slice (some ⟨w.heap.size, 0, none⟩) 1 1) [-1] := pv_lit (by rw [e1]; exact typed_new _ _ _) rfl (fun k hk => by
    obtain rfl : k = 0 := by simpa using hk
    rw [e1]; exact cells_new w _ _ 0 _ rfl)
  refine ⟨tv_lit (by rw [e2, ← s1]; exact typed_new _ _ _) rfl (fun k hk => ?_), b1.trans (b2.mono (by omega))⟩
  obtain rfl : k = 0 := by simpa using hk
  exact ⟨_, by rw [e2, ← s1]; exact cells_new w1 _ _ 0 _ rfl, p1.below b2⟩

set_option maxHeartbeats 16000000 in
theorem setsT_in (A : Option Addr) (c : Nat) (L : List Int) (ht : IsT L) (w : World) (h : Seen w A L) (hT : Tab w) :
    CallsIn Fence.wide 13 Tryd.prog 43 #[.slice A L.length c] w (GaveT w (setsP (codeOf L))) := by
  have h2 := hT.lt
  have hn1 := ht.1.1
  have hn5 := ht.2
  have hCl := code_ltN ht
  have hle := codesN_le L.length
  have HU := Lib.hid unknowns_any
  have HC : Hid (∀ w1, Below w.heap.size w w1 → Calls Tryd.prog 64 #[.slice A L.length c] w1 (NumB w1 (codeOf L))) := Lib.hid (fun w1 hb => callsIn_wide.1 (implCode_in A c L ht.1 w1 (h.below hb)))
  have HK : Hid (∀ w1, Below w.heap.size w w1 → Calls Tryd.prog 66 #[.slice A L.length c] w1 fun e w' => e = .returned (.int .i64 (rkT (codeOf L) : Nat)) ∧ Below w1.heap.size w1 w') := Lib.hid (fun w1 hb => by
    rw [← rankP_code ht]
    exact callsIn_wide.1 (rank_in A c L ht.1 w1 (h.below hb) (hT.below hb (by omega))))
  obtain ⟨n, hn⟩ : ∃ n, n = L.length := ⟨_, rfl⟩
  rw [← hn] at HC HK hCl hle hn1 hn5 ⊢
  have HF : Hid (∀ s, s < codesN n → ∀ w1, Below w.heap.size w w1 → Calls Tryd.prog 38 #[.slice A n c, .int .i64 (s : Nat)] w1 (NumB w1 (rkT s))) := Lib.hid (fun s hs w1 hb => rankOf_any A n c s hn1 hn5 hs w1 (hT.below hb (by omega)))
  obtain ⟨C, eC⟩ : ∃ C, C = codeOf L := ⟨_, rfl⟩
  rw [← eC] at HC HK hCl ⊢
  have hC : C < 1024 := by omega
  have hrC := (pcf_ten hC).2.2
  obtain ⟨r, er⟩ : ∃ r, r = rkT C := ⟨_, rfl⟩
  rw [← er] at HK hrC
  have ER := Lib.hid er
  have HCL := Lib.hid hCl
  have H2 := Lib.hid h2
  clear h ht hn hT eC hCl hle hn1 hn5 er
  refine callsIn_of_wp_marks Tryd.func43 rfl trivial ?_ rfl
  simp only [Tryd.ntmps43, List.size_toArray, List.length_cons, List.length_nil, Nat.reduceAdd, Nat.reduceSub, Array.replicate_succ, Array.replicate_zero, List.push_toArray, List.append_toArray, List.nil_append, List.cons_append]
  gi_wp2_with fail
  refine ⟨trivial, ?_⟩
  refine (callsIn_wide.2 (HU.out (w.alloc (.cells #[.slice A n c] 41)))).mono ?_
  rintro e wB ⟨vx, vy, rfl, hx, hy, hbB⟩
  rw [World.size_alloc] at hbB
  have b0 : Boxed wB w.heap.size 41 (.slice A n c) := (hbB.block w.heap.size (by omega)).trans (Boxed.new w 41 (.slice A n c))
  have bB : Below w.heap.size w wB := ((Below.refl _ w).alloc (Nat.le_refl _) _).trans (hbB.mono (by omega))
  have hsB : w.heap.size + 1 ≤ wB.heap.size := by
    have h := hbB.size
    rw [World.size_alloc] at h
    exact h
  gi_wp2_with fail
  obtain ⟨V1, eV1⟩ : ∃ V1, V1 = wB.alloc (.cells #[.int .i64 (-1)] 70) := ⟨_, rfl⟩
  obtain ⟨V2, eV2⟩ : ∃ V2, V2 = V1.alloc (.cells #[.slice (some ⟨wB.heap.size, 0, none⟩) 1 1] 69) := ⟨_, rfl⟩
  obtain ⟨hneg, bV2⟩ := tv_neg wB V1 V2 eV1 eV2
  rw [← eV1, ← eV2]
  refine ⟨trivial, ?_⟩
  refine (callsIn_wide.2 (plusT_any vx _ tabX [[-1]] (by decide) (by decide) rows_lit.1 rows_lit.2.2 V2 (hx.below bV2) hneg)).mono ?_
  rintro e V3 ⟨vxl, rfl, hxl, bV3⟩
  change TV V3 vxl tabXl at hxl
  have cV3 : Below wB.heap.size wB V3 := bV2.trans (bV3.mono bV2.size)
  have hy3 := hy.below cV3
  clear eV1 eV2 hneg bV2 bV3
  gi_wp2_with fail
  obtain ⟨V4, eV4⟩ : ∃ V4, V4 = V3.alloc (.cells #[.int .i64 (-1)] 70) := ⟨_, rfl⟩
  obtain ⟨V5, eV5⟩ : ∃ V5, V5 = V4.alloc (.cells #[.slice (some ⟨V3.heap.size, 0, none⟩) 1 1] 69) := ⟨_, rfl⟩
  obtain ⟨hneg, bV5⟩ := tv_neg V3 V4 V5 eV4 eV5
  rw [← eV4, ← eV5]
  refine ⟨trivial, ?_⟩
  refine (callsIn_wide.2 (plusT_any vy _ tabY [[-1]] (by decide) (by decide) rows_lit.2.1 rows_lit.2.2 V5 (hy3.below bV5) hneg)).mono ?_
  rintro e V6 ⟨vyl, rfl, hyl, bV6⟩
  change TV V6 vyl tabYl at hyl
  have dV6 : Below V3.heap.size V3 V6 := bV5.trans (bV6.mono bV5.size)
  have cV6 : Below wB.heap.size wB V6 := cV3.trans (dV6.mono cV3.size)
  have hxl6 := hxl.below dV6
  have b06 : Boxed V6 w.heap.size 41 (.slice A n c) := (cV6.block _ (by omega)).trans b0
  have bW6 : Below w.heap.size w V6 := bB.trans (cV6.mono (by omega))
  have hs6 : w.heap.size + 1 ≤ V6.heap.size := Nat.le_trans hsB cV6.size
  clear eV4 eV5 hneg bV5 bV6 dV6 cV6 hxl hy3 cV3 hx hy hbB b0 bB hsB
  obtain ⟨Ax, nx, cx, rfl⟩ := hxl6.shape
  obtain ⟨Ay, ny, cy, rfl⟩ := hyl.shape
  obtain ⟨W3, e3⟩ : ∃ W3, W3 = ((V6.alloc (.cells #[.slice Ax nx cx] 64)).alloc (.cells #[.slice Ay ny cy] 64)).alloc (.cells #[.slice none 0 0] 64) := ⟨_, rfl⟩
  have c0 : Boxed W3 w.heap.size 41 (.slice A n c) := by rw [e3]; exact ((b06.alloc _).alloc _).alloc _
  have c1 : Boxed W3 V6.heap.size 64 (.slice Ax nx cx) := by rw [e3]; exact ((Boxed.new V6 _ _).alloc _).alloc _
  have c2 : Boxed W3 (V6.heap.size + 1) 64 (.slice Ay ny cy) := by
    rw [e3]; have h := Boxed.new (V6.alloc (.cells #[.slice Ax nx cx] 64)) 64 (.slice Ay ny cy); rw [World.size_alloc] at h; exact h.alloc _
  have c3 : Boxed W3 (V6.heap.size + 1 + 1) 64 (.slice none 0 0) := by
    rw [e3]; have h := Boxed.new ((V6.alloc (.cells #[.slice Ax nx cx] 64)).alloc (.cells #[.slice Ay ny cy] 64)) 64 (.slice none 0 0); rw [World.size_alloc, World.size_alloc] at h; exact h
  have s3 : W3.heap.size = V6.heap.size + 1 + 1 + 1 := by rw [e3]; simp
  have d3 : Below V6.heap.size V6 W3 := by rw [e3]; exact (((Below.refl _ V6).alloc (Nat.le_refl _) _).alloc (by simp) _).alloc (by simp; omega) _
  have x3 := hxl6.below d3
  have y3 := hyl.below d3
  have bW3 := bW6.trans (d3.mono (by omega))
  have q0 : (((V6.alloc (.cells #[.slice Ax nx cx] 64)).alloc (.cells #[.slice Ay ny cy] 64)).alloc (.cells #[.slice none 0 0] 64)).cell? ⟨w.heap.size, 0, none⟩ = some (.slice A n c) := by rw [← e3]; exact c0.cell
  gi_wp2_with fail
  rw [← e3]
  refine ⟨trivial, ?_⟩
  refine (callsIn_wide.2 (HK.out W3 bW3)).mono ?_
  rintro e wK ⟨rfl, hbK⟩
  have g0K : Boxed wK w.heap.size 41 (.slice A n c) := (hbK.block _ (by omega)).trans c0
  have q1 : (wK.alloc (.cells #[.int .i64 r] 3)).cell? ⟨w.heap.size, 0, none⟩ = some (.slice A n c) := (g0K.alloc _).cell
  obtain ⟨wL, eL⟩ : ∃ wL, wL = wK.alloc (.cells #[.int .i64 r] 3) := ⟨_, rfl⟩
  have bL : Below W3.heap.size W3 wL := by rw [eL]; exact hbK.alloc hbK.size _
  have sL : wL.heap.size = wK.heap.size + 1 := by rw [eL]; simp
  have cL : Boxed wL wK.heap.size 3 (.int .i64 (r : Nat)) := by rw [eL]; exact Boxed.new wK 3 (.int .i64 (r : Nat))
  gi_wp2_with fail
  rw [← eL]
  refine ⟨trivial, ?_⟩
  refine (callsIn_wide.2 (HC.out wL (bW3.trans (bL.mono (by omega))))).mono ?_
  rintro e wC ⟨rfl, hbC⟩
  gi_wp2_with fail
  refine ⟨trivial, ?_⟩
  refine (callsIn_wide.2 (subsets_any C wC)).mono ?_
  rintro e wD ⟨rfl, rfl⟩
  gi_wp2_with fail
  obtain ⟨W, eW⟩ : ∃ W, W = wC.alloc (.cells #[.int .i64 C] 3) := ⟨_, rfl⟩
  have dL : Below wL.heap.size wL W := by rw [eW]; exact hbC.alloc hbC.size _
  have dW : Below W3.heap.size W3 W := bL.trans (dL.mono bL.size)
  have sW : W.heap.size = wC.heap.size + 1 := by rw [eW]; simp
  have hcW : Boxed W wC.heap.size 3 (.int .i64 C) := by rw [eW]; exact Boxed.new wC 3 (.int .i64 C)
  rw [← eW]
  have g0 : Boxed W w.heap.size 41 (.slice A n c) := (dW.block _ (by omega)).trans c0
  have g1 : Boxed W V6.heap.size 64 (.slice Ax nx cx) := (dW.block _ (by omega)).trans c1
  have g2 : Boxed W (V6.heap.size + 1) 64 (.slice Ay ny cy) := (dW.block _ (by omega)).trans c2
  have g3 : Boxed W (V6.heap.size + 1 + 1) 64 (.slice none 0 0) := (dW.block _ (by omega)).trans c3
  have gr : Boxed W wK.heap.size 3 (.int .i64 (r : Nat)) := (dL.block _ (by omega)).trans cL
  have gx := x3.below dW
  have gy := y3.below dW
  have gB : Below w.heap.size w W := bW3.trans (dW.mono (by omega))
  obtain ⟨n₀, en⟩ : ∃ n₀, n₀ = w.heap.size := ⟨_, rfl⟩
  obtain ⟨bx, ebx⟩ : ∃ bx, bx = V6.heap.size := ⟨_, rfl⟩
  obtain ⟨br, ebr⟩ : ∃ br, br = wK.heap.size := ⟨_, rfl⟩
  obtain ⟨bc, ebc⟩ : ∃ bc, bc = wC.heap.size := ⟨_, rfl⟩
  have hbks := hbK.size
  have hbcs := hbC.size
  rw [← en] at g0 gB hs6 ⊢
  rw [← ebx] at g1 g2 g3 hs6 s3 ⊢
  rw [← ebr] at gr sL hbks ⊢
  rw [← ebc] at hcW sW hbcs ⊢
  have hord : n₀ + 1 ≤ bx ∧ bx + 1 + 1 + 1 ≤ br ∧ br + 1 ≤ bc ∧ W.heap.size = bc + 1 := ⟨by omega, by omega, by omega, by omega⟩
  have EN := Lib.hid en
  have hle : n₀ ≤ w.heap.size := by omega
  have h2n : 2 ≤ n₀ := by have := H2.out; omega
  clear e3 c0 c1 c2 c3 s3 d3 x3 y3 bW3 q0 q1 eW dW dL sW b06 bW6 hxl6 hyl hbK hbC hbcs hbks hs6 ebx ebr ebc en eL bL sL cL g0K
  have HORD := Lib.hid hord
  refine wpIn_rangeFunc_ownF (α := Sb C) rfl (by omega) (gf := 92) (lb := #[.pointer (some ⟨bc, 0, none⟩)]) rfl trivial (enters_of Tryd.func92 (by kernel_rfl) rfl)
    (subs_stops _ bc C (by omega) hC W hcW) keepS_t (fun W l o o' _ ho hc _ => keepS_b W l o o' ho hc) (Below.refl _ _) (fun _ => rfl)
    (fun pre Z => SeI n₀ bx br C r (.slice A n c) (.slice Ax nx cx) (.slice Ay ny cy) pre Z ∧ Below n₀ w Z) (fun _ _ _ => False)
    (OwnFrom.and (Own.from (seI_own _ _ _ _ _ _ _ _) _) (ownFrom_below hle (by omega))) (fun _ _ _ _ _ hs _ _ => hs)
    ⟨⟨g0, g1, g2, gx, gy, gr, _, g3, tv_nil _⟩, gB⟩
    (fun x => { tmps := #[.slice A n c, .pointer (some ⟨n₀, 0, none⟩), .slice none 0 0, vx, vy, .pointer (some ⟨bx, 0, none⟩), .pointer (some ⟨bx + 1, 0, none⟩), .pointer (some ⟨bx + 1 + 1, 0, none⟩), .pointer (some ⟨br, 0, none⟩), .int .i64 (x.1 : Int), undef,
      .tuple #[vx, vy], .tuple #[vx, vy], vx, vy, vx, .slice (some ⟨wB.heap.size, 0, none⟩) 1 1, .slice (some ⟨wB.heap.size + 1, 0, none⟩) 1 1, .slice Ax nx cx, vy, .slice (some ⟨V3.heap.size, 0, none⟩) 1 1, .slice (some ⟨V3.heap.size + 1, 0, none⟩) 1 1, .slice Ay ny cy, .slice A n c, .int .i64 r, .slice A n c, .int .i64 C,
      .func (.func 92) #[] #[.pointer (some ⟨bc, 0, none⟩)], .int .i64 (x.1 : Int), undef, undef, undef, undef, undef, undef, undef, undef, undef, undef, undef, undef, undef, undef, undef, undef, undef], defers := [] }) ?assign ?body ?done ?stop
  case assign =>
    intro l x W K hK
    gi_wp2
    exact hK
  case body =>
    rintro l pre x Z ⟨⟨k0, k1, k2, kx, ky, kr, v, k3, kv⟩, hB⟩ hlen
    have hst : stRun C (valsS (pre ++ [x])) = stStep C (stRun C (valsS pre)) x.1 := by rw [valsS_snoc, stRun_snoc]
    obtain ⟨pr, epr⟩ : ∃ pr, pr = pre ++ [x] := ⟨_, rfl⟩
    rw [← epr] at hst ⊢
    clear epr
    obtain ⟨s, hs⟩ := x
    dsimp only at hst ⊢
    have hsC : s ≤ C := by rw [← hs]; exact Nat.and_le_right
    have hs10 : s < 1024 := by omega
    have hsN : s < codesN n := Nat.lt_of_le_of_lt hsC HCL.out
    have hTs := stRun_small hC (valsS pre) (valsS_lt hC pre)
    obtain ⟨T, eT⟩ : ∃ T, T = stRun C (valsS pre) := ⟨_, rfl⟩
    rw [← eT] at hst hTs kv
    have hBZ : Below w.heap.size w Z := by rw [← EN.out]; exact hB
    have HFZ := Lib.hid (HF.out s hsN Z hBZ)
    have HON := Lib.hid (fun w1 => onesB s hs10 w1)
    have hp10 := pcf_ten hs10
    obtain ⟨Av, nv, cv, rfl⟩ := kv.shape
    unfold stStep at hst
    rw [← ER.out] at hst
    obtain ⟨k, ek⟩ : ∃ k, k = rkT s := ⟨_, rfl⟩
    obtain ⟨z, ez⟩ : ∃ z, z = pcf 15 s := ⟨_, rfl⟩
    rw [← ek] at hst HFZ hp10
    rw [← ez] at hst HON hp10
    have hkr : k ≤ r := by
      have h := sub_rank (C := C) (s := s) hC hs
      rwa [← ek, ← ER.out] at h
    obtain ⟨i, ei⟩ : ∃ i, i = r - k := ⟨_, rfl⟩
    obtain ⟨j, ej⟩ : ∃ j, j = z - k := ⟨_, rfl⟩
    rw [← ei, ← ej] at hst
    have hij : i ≤ 5 ∧ j ≤ 10 := by omega
    have hMs := less_small hij.1 hij.2
    have HR : Hid (∀ w1 : World, TV w1 (.slice Ax nx cx) tabXl → TV w1 (.slice Ay ny cy) tabYl → Calls Tryd.prog 71 #[.slice Ax nx cx, .int .i64 ((r : Int) - (k : Int)), .slice Ay ny cy, .int .i64 ((z : Int) - (k : Int))] w1 (GaveT w1 (lessXY i j))) := Lib.hid (fun w1 h1 h2 => by
      have h := raised_any _ _ tabXl tabYl i j (by omega) (by omega) (by decide +kernel) (by decide +kernel) (fun a ha => (less_outer_all ⟨a, by omega⟩ ⟨0, by omega⟩).2.2.1) (fun a ha => (less_outer_all ⟨i, by omega⟩ ⟨a, by omega⟩).2.2.2) w1 h1 h2
      rwa [show (i : Int) = (r : Int) - (k : Int) by omega, show (j : Int) = (z : Int) - (k : Int) by omega] at h)
    obtain ⟨M, eM⟩ : ∃ M, M = lessXY i j := ⟨_, rfl⟩
    rw [← eM] at hst HR hMs
    have HPl : Hid (∀ (w1 : World) (u : Value), TV w1 (.slice Av nv cv) T → TV w1 u M → Calls Tryd.prog 69 #[.slice Av nv cv, u] w1 (GaveT w1 (plusT T M))) := Lib.hid (fun w1 u h1 h2 =>
      plusT_any _ u T M (by have := hTs.1; omega) (by have := hMs.1; omega) (fun k => Nat.le_trans (hTs.2 k) (by decide)) (fun k => Nat.le_trans (hMs.2 k) (by decide)) w1 h1 h2)
    have hcv : IntKind.u64.wrap (s : Int) = (s : Int) := by simp [IntKind.wrap, IntKind.bits, IntKind.signed]; omega
    have z0 := k0.cell
    have HST := Lib.hid hst
    have K0 := Lib.hid k0
    have K1 := Lib.hid k1
    have K2 := Lib.hid k2
    have K3 := Lib.hid k3
    have KR := Lib.hid kr
    have KX := Lib.hid kx
    have KY := Lib.hid ky
    have KV := Lib.hid kv
    have HB := Lib.hid hB
    have HNZ := Lib.hid (show n₀ ≤ Z.heap.size from Nat.le_of_lt k0.lt)
    have hkz : k ≤ 4 ∧ z ≤ 10 ∧ k ≤ z := by omega
    clear hst k0 k1 k2 k3 kr kx ky kv hB hMs ei ej eM eT hTs hsN hsC hBZ hlen g0 g1 g2 g3 gr gx gy gB hcW ek ez hp10 hij
    gi_wp2_with (first
      | (refine ⟨trivial, ?_⟩; gi_at_call 38; refine (CallsIn.inRound l (callsIn_wide.2 HFZ.out)).mono ?_; rintro e Z2 ⟨rfl, hb1⟩))
    have hz := hb1
    have e1 : Boxed Z2 bx 64 (.slice Ax nx cx) := (hz.block _ K1.out.lt).trans K1.out
    have e2 : Boxed Z2 (bx + 1) 64 (.slice Ay ny cy) := (hz.block _ K2.out.lt).trans K2.out
    have e3 : Boxed Z2 (bx + 1 + 1) 64 (.slice Av nv cv) := (hz.block _ K3.out.lt).trans K3.out
    have e4 : Boxed Z2 br 3 (.int .i64 (r : Nat)) := (hz.block _ KR.out.lt).trans KR.out
    have q1 : Z2.drew.cell? ⟨bx, 0, none⟩ = some (.slice Ax nx cx) := e1.cell
    have q2 : Z2.drew.cell? ⟨bx + 1, 0, none⟩ = some (.slice Ay ny cy) := e2.cell
    have q3 : Z2.drew.cell? ⟨bx + 1 + 1, 0, none⟩ = some (.slice Av nv cv) := e3.cell
    have q4 : Z2.drew.cell? ⟨br, 0, none⟩ = some (.int .i64 r) := e4.cell
    have hzd : Below Z.heap.size Z Z2.drew := hz.drew
    have HRR := Lib.hid (HR.out Z2.drew (KX.out.below hzd) (KY.out.below hzd))
    have hS0 : Z2.drew.cell? ⟨bx, 0, none⟩ = some (.slice Ax nx cx) ∧ Z2.drew.cell? ⟨bx + 1, 0, none⟩ = some (.slice Ay ny cy) ∧ Z2.drew.cell? ⟨bx + 1 + 1, 0, none⟩ = some (.slice Av nv cv) ∧ Z2.drew.cell? ⟨br, 0, none⟩ = some (.int .i64 r) := ⟨q1, q2, q3, q4⟩
    have HZ := Lib.hid hz
    have E1 := Lib.hid e1
    have E2 := Lib.hid e2
    have E3 := Lib.hid e3
    have E4 := Lib.hid e4
    clear hz e1 e2 e3 e4 hzd z0 hb1
    refine wpIn_held_round 13 (fun W' => W'.cell? ⟨bx, 0, none⟩ = some (.slice Ax nx cx) ∧ W'.cell? ⟨bx + 1, 0, none⟩ = some (.slice Ay ny cy) ∧ W'.cell? ⟨bx + 1 + 1, 0, none⟩ = some (.slice Av nv cv) ∧ W'.cell? ⟨br, 0, none⟩ = some (.int .i64 r)) (by kernel_rfl) (by rfl) (by kernel_rfl) (by kernel_rfl) (by kernel_rfl) (by kernel_rfl) ?_
    simp only [List.take_succ_cons, List.take_zero, List.drop_succ_cons, List.drop_zero]
    refine wpAnyH_take (i := 0) (v := .slice Av nv cv) rfl (by kernel_rfl) (by kernel_rfl) (by kernel_rfl) (fun _ _ _ h => h) (Or.inl ⟨by rfl, ?_⟩) hS0 ?_
    · rintro w' ⟨a1, a2, a3, a4⟩
      go_simp
    simp only [Act.put, List.setIfInBounds_toArray]
    refine wpAnyH_take (i := 1) (v := .slice Ax nx cx) rfl (by kernel_rfl) (by kernel_rfl) (by kernel_rfl) (fun _ _ _ h => h) (Or.inl ⟨by rfl, ?_⟩) hS0 ?_
    · rintro w' ⟨a1, a2, a3, a4⟩
      go_simp
    simp only [Act.put, List.setIfInBounds_toArray]
    refine wpAnyH_take (i := 2) (v := .int .i64 (r : Nat)) rfl (by kernel_rfl) (by kernel_rfl) (by kernel_rfl) (fun _ _ _ h => h) (Or.inl ⟨by rfl, ?_⟩) hS0 ?_
    · rintro w' ⟨a1, a2, a3, a4⟩
      go_simp
    simp only [Act.put, List.setIfInBounds_toArray]
    refine wpAnyH_take (i := 3) (v := .int .i64 (k : Nat)) rfl (by kernel_rfl) (by kernel_rfl) (by kernel_rfl) (fun _ _ _ h => h) (Or.inl ⟨by rfl, ?_⟩) hS0 ?_
    · rintro w' ⟨a1, a2, a3, a4⟩
      go_simp
    simp only [Act.put, List.setIfInBounds_toArray]
    refine wpAnyH_take (i := 4) (v := .int .i64 ((r : Int) - (k : Int))) rfl (by kernel_rfl) (by kernel_rfl) (by kernel_rfl) (fun _ _ _ h => h) (Or.inl ⟨by rfl, ?_⟩) hS0 ?_
    · rintro w' ⟨a1, a2, a3, a4⟩
      go_simp
      rw [IntKind.wrap_i64]
      omega
    simp only [Act.put, List.setIfInBounds_toArray]
    refine wpAnyH_take (i := 5) (v := .slice Ay ny cy) rfl (by kernel_rfl) (by kernel_rfl) (by kernel_rfl) (fun _ _ _ h => h) (Or.inl ⟨by rfl, ?_⟩) hS0 ?_
    · rintro w' ⟨a1, a2, a3, a4⟩
      go_simp
    simp only [Act.put, List.setIfInBounds_toArray]
    refine wpAnyH_take (i := 6) (v := .int .i64 (s : Nat)) rfl (by kernel_rfl) (by kernel_rfl) (by kernel_rfl) (fun _ _ _ h => h) (Or.inl ⟨by rfl, ?_⟩) hS0 ?_
    · rintro w' ⟨a1, a2, a3, a4⟩
      go_simp
    simp only [Act.put, List.setIfInBounds_toArray]
    refine wpAnyH_take (i := 7) (v := .int .u64 (s : Nat)) rfl (by kernel_rfl) (by kernel_rfl) (by kernel_rfl) (fun _ _ _ h => h) (Or.inl ⟨by rfl, ?_⟩) hS0 ?_
    · rintro w' ⟨a1, a2, a3, a4⟩
      go_simp
    simp only [Act.put, List.setIfInBounds_toArray]
    refine wpAnyH_take (i := 9) (v := .int .i64 (k : Nat)) rfl (by kernel_rfl) (by kernel_rfl) (by kernel_rfl) (fun _ _ _ h => h) (Or.inl ⟨by rfl, ?_⟩) hS0 ?_
    · rintro w' ⟨a1, a2, a3, a4⟩
      go_simp
    simp only [Act.put, List.setIfInBounds_toArray]
    refine wpAnyH_one (i := 8) (by kernel_rfl) rfl ?_
    go_wp2_with fail
    refine (HON.out _).mono ?_
    rintro e Z3 ⟨rfl, rfl⟩
    go_wp2
    refine ⟨hS0, ?_⟩
    refine wpAnyH_one (i := 10) (by kernel_rfl) rfl ?_
    go_wp2
    refine ⟨hS0, ?_⟩
    refine wpAnyH_one (i := 11) (by kernel_rfl) rfl ?_
    go_wp2_with fail
    refine HRR.out.mono ?_
    rintro e Z3 ⟨v3, rfl, hv3, hb3⟩
    have hz3 : Below Z2.heap.size Z2 Z3 := (Below.refl _ Z2).drew.trans hb3
    obtain ⟨A3, n3, c3, rfl⟩ := hv3.shape
    have HPP := Lib.hid (HPl.out Z3 _ ((KV.out.below HZ.out).below hz3) hv3)
    have r1 : Z3.cell? ⟨bx, 0, none⟩ = some (.slice Ax nx cx) := (hz3.cell (p := ⟨bx, 0, none⟩) E1.out.lt).trans q1
    have r2 : Z3.cell? ⟨bx + 1, 0, none⟩ = some (.slice Ay ny cy) := (hz3.cell (p := ⟨bx + 1, 0, none⟩) E2.out.lt).trans q2
    have r3 : Z3.cell? ⟨bx + 1 + 1, 0, none⟩ = some (.slice Av nv cv) := (hz3.cell (p := ⟨bx + 1 + 1, 0, none⟩) E3.out.lt).trans q3
    have r4 : Z3.cell? ⟨br, 0, none⟩ = some (.int .i64 r) := (hz3.cell (p := ⟨br, 0, none⟩) E4.out.lt).trans q4
    have HZ3 := Lib.hid (HZ.out.trans (hz3.mono HZ.out.size))
    clear hv3 hb3 hz3
    go_wp2
    refine ⟨⟨r1, r2, r3, r4⟩, ?_⟩
    refine wpAnyH_one (i := 12) (by kernel_rfl) rfl ?_
    go_wp2_with fail
    refine HPP.out.mono ?_
    rintro e Z4 ⟨v4, rfl, hv4, hb4⟩
    obtain ⟨A4, n4, c4, rfl⟩ := hv4.shape
    have hz4 : Below Z.heap.size Z Z4 := HZ3.out.trans (hb4.mono HZ3.out.size)
    have t1 : Z4.cell? ⟨bx, 0, none⟩ = some (.slice Ax nx cx) := (hz4.cell (p := ⟨bx, 0, none⟩) K1.out.lt).trans K1.out.cell
    have t2 : Z4.cell? ⟨bx + 1, 0, none⟩ = some (.slice Ay ny cy) := (hz4.cell (p := ⟨bx + 1, 0, none⟩) K2.out.lt).trans K2.out.cell
    have t4 : Z4.cell? ⟨br, 0, none⟩ = some (.int .i64 r) := (hz4.cell (p := ⟨br, 0, none⟩) KR.out.lt).trans KR.out.cell
    have f3 : Boxed Z4 (bx + 1 + 1) 64 (.slice Av nv cv) := (hz4.block _ K3.out.lt).trans K3.out
    have t3 := f3.cell
    have u3 := f3.frozen
    have F3 := Lib.hid f3
    have HV4 := Lib.hid hv4
    have HZ4 := Lib.hid hz4
    clear hv4 hb4 hz4 f3
    go_wp2
    refine ⟨⟨t1, t2, t3, t4⟩, ?_⟩
    refine wpAnyH_done (by kernel_rfl) ?_ 0
    clear q1 q2 q3 q4 r1 r2 r3 r4 hS0 t1 t2 t4
    change wpListIn _ _ _ _ _ _ _ _
    gi_wp2
    have hty : TypedAt Z4 (bx + 1 + 1) 64 := ⟨_, _, F3.out⟩
    have hko : KeepsOthers Z Z4 := KeepsOthers.of_grownBy (row := none) ⟨HZ4.out.os, HZ4.out.tape, HZ4.out.output, HZ4.out.size, fun k hk _ => HZ4.out.block k hk⟩ (fun _ _ e => by cases e)
    have hOR := HORD.out
    have hbe : Below n₀ w (Z4.setCell ⟨bx + 1 + 1, 0, none⟩ (.slice A4 n4 c4)) := (HB.out.trans (HZ4.out.mono HNZ.out)).setCell (p := ⟨bx + 1 + 1, 0, none⟩) (by show n₀ ≤ bx + 1 + 1; omega) _
    refine ⟨hko.trans (KeepsOthers.setCell _ _ _), fun x => Boxed.other ((HZ4.out.block _ x.lt).trans x) (by omega) _, ⟨?_, ?_, ?_, (KX.out.below HZ4.out).other hty (by decide) (by decide), (KY.out.below HZ4.out).other hty (by decide) (by decide), ?_, _, F3.out.set _, ?_⟩, hbe⟩
    · exact Boxed.other ((HZ4.out.block _ K0.out.lt).trans K0.out) (by omega) _
    · exact Boxed.other ((HZ4.out.block _ K1.out.lt).trans K1.out) (by omega) _
    · exact Boxed.other ((HZ4.out.block _ K2.out.lt).trans K2.out) (by omega) _
    · exact Boxed.other ((HZ4.out.block _ KR.out.lt).trans KR.out) (by omega) _
    · rw [HST.out]
      exact HV4.out.other hty (by decide) (by decide)
  case done =>
    rintro D xs Z hD hS ⟨⟨k0, k1, k2, kx, ky, kr, v, k3, kv⟩, hB⟩ hK
    have z3 := k3.cell
    have hfin : TV Z v (setsP C) := by
      unfold setsP
      rw [← hS]
      exact kv
    have HF2 := Lib.hid hfin
    have KK := Lib.hid hK
    have HB := Lib.hid hB
    clear hS k0 k1 k2 kx ky kr k3 kv hB hK hfin
    gi_wp2
    refine ⟨by simp, .inl ⟨_, _, rfl, run_takeDeferred KK.out, ?_⟩⟩
    refine ⟨_, results_tmp rfl _ _ _, ?_⟩
    refine ⟨_, rfl, tv_kept HF2.out (row := some D) (grownBy_putObj' Z D _) (fun r e => by cases e; exact ⟨_, KK.out, rfl⟩), ?_⟩
    rw [← EN.out]
    exact HB.out.trans (belowK_b (w := w) hle Z D _ _ (by have := EN.out; omega) KK.out rfl rfl)
  case stop =>
    rintro D cd pre W _ _ h _
    exact h.elim
end Go.Proofs.YtdhpamemkkfhhaaDoor
