/- The iterator over names, and what a loop over it owes. -/
import Derived.Test.YtamabhdbcmjbjaaDoorTrySucc
import Derived.Test.YtamabhdbcmjbjaaDoorSeqO
import Derived.Test.YtamabhdbcmjbjaaDoorBaseG
import Derived.Laws.EntriesVeiled
namespace Go.Proofs.YtamabhdbcmjbjaaDoor
open Go.RowKit Go.Shelf
attribute [local go_sem] Oper.semAt_some
set_option linter.unusedVariables false

theorem full_nodes : ∀ n : Fin 7, (nodesL (2 ^ n.val - 1)).length = n.val := by decide

theorem run_make_none (n : Nat) (hn : n ≤ 1048576) (w : World) :
    (Instr.makeSlice 23 (.int .i64 0) (.int .i64 (n : Int))).run Tryd.prog w = .ok (.slice (some ⟨w.heap.size, 0, none⟩) 0 n) (madeW w n) := by
  obtain ⟨i0, hi, hz0, hz1, hz2⟩ := info_parts infoInt
  have hr := run_make (P := Tryd.prog) w 23 3 i0 (.int .i64 0) Tryd.underlying23 hi hz0 .i64 .i64 0 n (by omega) (by omega) (by rw [hz2]; omega) (by omega)
  simp only [Int.toNat_natCast, Int.toNat_zero, hz1] at hr
  exact hr
theorem row_none (w : World) (n : Nat) (hn : n ≤ 1048576) : Row (madeW w n) w.heap.size (.slice (some ⟨w.heap.size, 0, none⟩) 0 n) [] := by
  refine ⟨by simp, .inr ⟨w.heap.size, n, madeCells #[.int .i64 0] (n * 1), rfl, Nat.le_refl _, World.alloc_heap_new w _, by simp, by unfold maxLen; omega, size_madeCells _ _, by simp⟩⟩

set_option maxRecDepth 100000 in
set_option maxHeartbeats 4000000 in
theorem namings_in {l n nb fx fid : Nat} {fcap : Array Value} {fit : List (List Nat) → List Nat → Bool} {J Jx : List (List Nat) → World → Prop} (h1 : 1 ≤ n) (hn : n ≤ 6) (W : World) (h2 : 2 ≤ W.heap.size) (hfx : fx < W.heap.size) (hnb : W.cell? ⟨nb, 0, none⟩ = some (.int .i64 n)) (hnl : nb < W.heap.size)
    (hO : Owes W.heap.size l n fx fid fcap fit J Jx) (hj : J [] W) :
    CallsIn Fence.wide 10 Tryd.prog 74 #[.func (.yield l) #[] #[], .pointer (some ⟨nb, 0, none⟩), .pointer (some ⟨fx, 0, none⟩)] W fun e W' =>
      (∃ v, e = .returned v) ∧ (J (allNames fit n) W' ∨ ∃ xs, Jx xs W' ∧ xs <+: allNames fit n) := by
  have hmk := run_make_none n (by omega)
  have hms : ∀ x, (madeW x n).heap.size = x.heap.size + 1 := fun x => madeW_size x n
  obtain ⟨P, Q, hP, hQ, hP64, p1, p2, p3, p4, p5⟩ := shl_facts n hn
  have hQ2 : Q = 2 ^ n - 1 := by omega
  have HO := Lib.hid hO
  have HJ := Lib.hid hj
  have HQ2 := Lib.hid hQ2
  obtain ⟨B, eB⟩ : ∃ B, B = W.heap.size := ⟨_, rfl⟩
  have EB := Lib.hid eB
  obtain ⟨U, eU⟩ : ∃ U, U = (madeW (W.alloc (.cells #[.func (.yield l) #[] #[]] 42)) n).alloc (.cells #[.slice (some ⟨W.heap.size + 1, 0, none⟩) 0 n] 23) := ⟨_, rfl⟩
  have sU : U.heap.size = W.heap.size + 1 + 1 + 1 := by rw [eU, World.size_alloc, hms, World.size_alloc]
  have bU : Below W.heap.size W U := by
    rw [eU]
    exact (((Below.refl W.heap.size W).alloc (Nat.le_refl _) _).trans ((madeW_below _ n).mono (by simp))).alloc (by rw [hms]; simp <;> omega) _
  have u0 : Boxed U W.heap.size 42 (.func (.yield l) #[] #[]) := by rw [eU]; exact ((Boxed.new W _ _).alloc _).alloc _
  have u1 : Row U W.heap.size (.slice (some ⟨W.heap.size + 1, 0, none⟩) 0 n) [] := by
    rw [eU]
    have h := row_none (W.alloc (.cells #[.func (.yield l) #[] #[]] 42)) n (by omega)
    rw [World.size_alloc] at h
    exact (Row.mono h (by omega)).alloc _
  have u2 : Boxed U (W.heap.size + 2) 23 (.slice (some ⟨W.heap.size + 1, 0, none⟩) 0 n) := by
    rw [eU]
    have h := Boxed.new (madeW (W.alloc (.cells #[.func (.yield l) #[] #[]] 42)) n) 23 (.slice (some ⟨W.heap.size + 1, 0, none⟩) 0 n)
    rw [hms, World.size_alloc] at h
    exact h
  have c3 := Boxed.new U 47 (.func (.func 75) #[] #[.pointer (some ⟨W.heap.size, 0, none⟩), .pointer (some ⟨W.heap.size + 1 + 1, 0, none⟩), .pointer (some ⟨fx, 0, none⟩), .pointer (some ⟨W.heap.size + 1 + 1 + 1, 0, none⟩)])
  rw [sU] at c3
  have v0 := u0.alloc (.cells #[(.func (.func 75) #[] #[.pointer (some ⟨W.heap.size, 0, none⟩), .pointer (some ⟨W.heap.size + 1 + 1, 0, none⟩), .pointer (some ⟨fx, 0, none⟩), .pointer (some ⟨W.heap.size + 1 + 1 + 1, 0, none⟩)])] 47)
  have v1 := Row.alloc u1 (.cells #[(.func (.func 75) #[] #[.pointer (some ⟨W.heap.size, 0, none⟩), .pointer (some ⟨W.heap.size + 1 + 1, 0, none⟩), .pointer (some ⟨fx, 0, none⟩), .pointer (some ⟨W.heap.size + 1 + 1 + 1, 0, none⟩)])] 47)
  have v2 := u2.alloc (.cells #[(.func (.func 75) #[] #[.pointer (some ⟨W.heap.size, 0, none⟩), .pointer (some ⟨W.heap.size + 1 + 1, 0, none⟩), .pointer (some ⟨fx, 0, none⟩), .pointer (some ⟨W.heap.size + 1 + 1 + 1, 0, none⟩)])] 47)
  have bV : Below W.heap.size W (U.alloc (.cells #[(.func (.func 75) #[] #[.pointer (some ⟨W.heap.size, 0, none⟩), .pointer (some ⟨W.heap.size + 1 + 1, 0, none⟩), .pointer (some ⟨fx, 0, none⟩), .pointer (some ⟨W.heap.size + 1 + 1 + 1, 0, none⟩)])] 47)) := bU.alloc (by omega) _
  have sV : (U.alloc (.cells #[(.func (.func 75) #[] #[.pointer (some ⟨W.heap.size, 0, none⟩), .pointer (some ⟨W.heap.size + 1 + 1, 0, none⟩), .pointer (some ⟨fx, 0, none⟩), .pointer (some ⟨W.heap.size + 1 + 1 + 1, 0, none⟩)])] 47)).heap.size = W.heap.size + 4 := by rw [World.size_alloc, sU]
  obtain ⟨V, eV⟩ : ∃ V, V = U.alloc (.cells #[(.func (.func 75) #[] #[.pointer (some ⟨W.heap.size, 0, none⟩), .pointer (some ⟨W.heap.size + 1 + 1, 0, none⟩), .pointer (some ⟨fx, 0, none⟩), .pointer (some ⟨W.heap.size + 1 + 1 + 1, 0, none⟩)])] 47) := ⟨_, rfl⟩
  rw [← eV] at c3 v0 v1 v2 bV sV
  rw [eU] at eV
  have EV := Lib.hid eV
  have C3 := Lib.hid c3
  have V0 := Lib.hid v0
  have V1 := Lib.hid v1
  have V2 := Lib.hid v2
  have BV := Lib.hid bV
  have SV := Lib.hid sV
  clear eU sU bU u0 u1 u2 c3 v0 v1 v2 bV sV eV
  clear hO hj hQ hP hQ2 eB
  refine callsIn_of_wp Tryd.func74 rfl trivial ?_ rfl
  simp only [Tryd.ntmps74, List.size_toArray, List.length_cons, List.length_nil, Nat.reduceAdd, Nat.reduceSub, Array.replicate_succ, Array.replicate_zero, List.push_toArray, List.append_toArray, List.nil_append, List.cons_append]
  gi_wp2
  rw [← EV.out]
  have x1 : V.cell? ⟨nb, 0, none⟩ = some (.int .i64 n) := (BV.out.cell (p := ⟨nb, 0, none⟩) hnl).trans hnb
  have x2 := C3.out.cell
  have hT : Fence.wide = Fence.wide := rfl
  have hjV : J [] V.drew := HO.out.far _ _ _ HJ.out BV.out.drew (soft_new BV.out.drew)
  have hst : St W.heap.size l n fx [] V.drew := ⟨V0.out, V2.out, V1.out, C3.out⟩
  have hfull := full_nodes ⟨n, by omega⟩
  dsimp only at hfull
  rw [← HQ2.out] at hfull
  have htry := try_in hn h2 hfx HO.out n [] [] Q V.drew (by have := two_pos n; have := HQ2.out; omega) hfull (by simp) (fun x hx => by cases hx) (by have := SV.out; show W.heap.size + 4 ≤ V.heap.size; omega) hjV hst
  have HTRY := Lib.hid (callsIn_wide.1 htry)
  obtain ⟨B, eB⟩ : ∃ B, B = W.heap.size := ⟨_, rfl⟩
  rw [← eB] at HTRY x2 ⊢
  have EB := Lib.hid eB
  clear hjV hst htry hfull hT EV C3 V0 V1 V2 BV eB hmk hms
  refine wpIn_wide.2 (wp_region_still_tail 4 (by kernel_rfl) (by kernel_rfl) ?_)
  simp only [List.take_succ_cons, List.take_zero, List.drop_succ_cons, List.drop_zero]
  repeat still_step
  refine wpStill_nil ?_
  change wpList _ _ _ _ _ V.drew
  go_wp2_with fail
  refine HTRY.out.mono ?_
  rintro e Z (⟨rfl, t1, _, _, _⟩ | ⟨rfl, ⟨xs, t1, t5⟩, _⟩)
  · have T1 := Lib.hid (show J (allNames fit n) Z by unfold allNames; rw [← HQ2.out]; exact t1)
    clear t1
    go_wp2
    go_end0
    exact ⟨⟨_, rfl⟩, .inl T1.out⟩
  · have T1 := Lib.hid (show ∃ xs, Jx xs Z ∧ xs <+: allNames fit n from ⟨xs, t1, by unfold allNames; rw [← HQ2.out]; exact t5⟩)
    clear t1 t5
    go_wp2
    go_end0
    exact ⟨⟨_, rfl⟩, .inr T1.out⟩

/-- What a round of a loop over names owes. -/
def namePost (m : Nat) (I : List (List Nat) → World → Prop) (Ix : Code → List (List Nat) → World → Prop) (xs : List (List Nat)) (W : World) : Exit → Act → World → Prop
  | .normal, _, W' => KeepsFrom m W W' ∧ Rest0 (m + 2) W W' ∧ Below 2 W W' ∧ I xs W'
  | .ret, _, W' => KeepsFrom m W W' ∧ Rest0 (m + 2) W W' ∧ Ix .ret xs W'
  | _, _, _ => False

/-- **A loop over names.** -/
theorem wpIn_namesS {N n nb fx fid : Nat} {fcap : Array Value} {fit : List (List Nat) → List Nat → Bool} {g : Operand} {ps : Array Tmp} {assign body : Code} {Q : Exit → Act → World → Prop} {a : Act} {w : World}
    (h1 : 1 ≤ n) (hn : n ≤ 6) (h2 : 2 ≤ w.heap.size) (hps : ps.size = 1) (hfx : fx < w.heap.size) (hnb : w.cell? ⟨nb, 0, none⟩ = some (.int .i64 n)) (hnl : nb < w.heap.size)
    (hg : a.eval g = .func (.func 74) #[] #[.pointer (some ⟨nb, 0, none⟩), .pointer (some ⟨fx, 0, none⟩)])
    (I : List (List Nat) → World → Prop) (Ix : Code → List (List Nat) → World → Prop)
    (hfar : ∀ s X Y, I s X → Below w.heap.size X Y → SoftN w.heap.size X Y → I s Y)
    (hfarx : ∀ c s X Y row, Ix c s X → X.grownBy Y row → (∀ r, row = some r → w.heap.size ≤ r ∧ ((∃ o : Obj, X.heap[r]? = some o ∧ o.isCells = false) ∨ ∃ v, Boxed X r 4 v)) → Ix c s Y)
    (hbox : ∀ s X, I s X → Boxed X fx 42 (.func (.func fid) #[] fcap)) (htab : ∀ s X, I s X → Tab X) (hen : ∀ args w, (callFunc fid args).run Tryd.prog w = .ok (.enter fid args) w)
    (hask : ∀ acc P v W, I acc W → Row W w.heap.size v (ints P) → 1 ≤ P.length → P.length ≤ n → (∀ x ∈ P, x < n) → Calls Tryd.prog fid (#[v] ++ fcap) W fun e W' => e = .returned (.bool (fit acc P)) ∧ Below W.heap.size W W')
    (h0 : I [] w) (a₁ : Value → Act)
    (hassign : ∀ (l : Nat) (v : Value) (W : World) (K : Act → World → Prop), K (a₁ v) W → assign.wpIn (Fence.wide.inRound l) 8 Tryd.prog (Exit.then K (fun _ _ _ => False)) { tmps := (ps.zip #[v]).foldl (fun t (p, v) => t.setIfInBounds p v) a.tmps, defers := [] } W)
    (hbody : ∀ (l : Nat) (acc : List (List Nat)) (P : List Nat) (v : Value) (W : World), w.heap.size + 6 ≤ W.heap.size → I acc W → Row W w.heap.size v (ints P) → P.length = n → (∀ x ∈ P, x < n) → body.wpIn (Fence.wide.inRound l) 8 Tryd.prog (namePost w.heap.size I Ix (acc ++ [P]) W) (a₁ v) W)
    (hdone : ∀ (D : Nat) (W : World), w.heap.size ≤ D → I (allNames fit n) W → W.heap[D]? = some (.deferred (some [])) → Q .normal { a with defers := { target := .collected D, args := #[] } :: a.defers } W)
    (hstop : ∀ (D : Nat) (xs : List (List Nat)) (W : World), w.heap.size ≤ D → xs <+: allNames fit n → Ix .ret xs W → W.heap[D]? = some (.deferred (some [])) → Code.ret.wpIn Fence.wide N Tryd.prog Q { a with defers := { target := .collected D, args := #[] } :: a.defers } W) :
    (Code.rangeFunc g ps assign body).wpIn Fence.wide N Tryd.prog Q a w := by
  refine wpIn_rangeFunc ?_
  intro fn hfn
  obtain ⟨m, hm⟩ : ∃ m, m = w.heap.size := ⟨_, rfl⟩
  obtain ⟨at_, hat⟩ : ∃ at_ : LoopState → Option Code → Obj, at_ = fun st pe => .loop { state := st, pending := pe, fn, tmps := a.tmps, params := ps, assign, body, defers := m } := ⟨_, rfl⟩
  obtain ⟨V, hV⟩ : ∃ V, V = (w.alloc (.deferred (some []))).alloc (at_ .ready none) := ⟨_, rfl⟩
  have sV : V.heap.size = m + 2 := by rw [hV, hm]; simp
  have rV : V.heap[m + 1]? = some (at_ .ready none) := by
    have e := World.alloc_heap_new (w.alloc (.deferred (some []))) (at_ .ready none)
    rw [World.size_alloc, ← hm] at e
    rw [hV]; exact e
  have dV : V.heap[m]? = some (.deferred (some [])) := by
    rw [hV, hm]; exact (Below.heap_alloc _ _ _ (by simp)).trans (World.alloc_heap_new w _)
  have bV : Below w.heap.size w V := by
    rw [hV]; exact ((Below.refl _ w).alloc (Nat.le_refl _) _).alloc (by simp) _
  have iV : I [] V := hfar _ _ _ h0 bV (softN_new bV)
  refine ⟨m + 1, [{ target := .collected m, args := #[] }], V, { target := .fn (.func 74) #[.pointer (some ⟨nb, 0, none⟩), .pointer (some ⟨fx, 0, none⟩)], args := #[.func (.yield (m + 1)) #[] #[]] }, V, 74, #[.func (.yield (m + 1)) #[] #[]] ++ #[.pointer (some ⟨nb, 0, none⟩), .pointer (some ⟨fx, 0, none⟩)], V, ?_, ?_, ?_, ?_, fun e => (by cases e), ?_⟩
  · rw [hV, hat, hm]; exact run_enterLoop_outer _ _ _ _ _
  · simp only [resolve, hg]
    simp [go_sem]
  · intro f' hf'; trivial
  · simp [invoke, go_sem]
  · rw [← hm] at hfar hfarx hbody hdone hstop hask hfx hnl h2 bV
    have hnbV : V.cell? ⟨nb, 0, none⟩ = some (.int .i64 n) := (bV.cell (p := ⟨nb, 0, none⟩) hnl).trans hnb
    have far2 : ∀ {X Y : World} {k : Nat} {o : Obj}, Below (m + 2) X Y → k < m + 2 → X.heap[k]? = some o → Y.heap[k]? = some o := fun hb hk e => (hb.block _ hk).trans e
    have hO : Owes V.heap.size (m + 1) n fx fid fcap fit (fun pre W => I pre W ∧ W.heap[m + 1]? = some (at_ .ready none) ∧ W.heap[m]? = some (.deferred (some []))) (fun pre W => Ix .ret pre W ∧ W.heap[m + 1]? = some (at_ .done (some .ret)) ∧ W.heap[m]? = some (.deferred (some []))) := by
      rw [sV]
      refine ⟨?_, ?_, fun s X h => hbox s X h.1, fun s X h => htab s X h.1, hen, ?_, ?_⟩
      · rintro s X Y ⟨q1, q2, q3⟩ hb hsf
        exact ⟨hfar s X Y q1 (hb.mono (by omega)) (softN_of hsf), far2 hb (by omega) q2, far2 hb (by omega) q3⟩
      · rintro s X Y row ⟨q1, q2, q3⟩ hgr hr
        refine ⟨hfarx .ret s X Y row q1 hgr (fun r e => ⟨by have := (hr r e).1; omega, (hr r e).2⟩), ?_, ?_⟩
        · exact (hgr.block _ (Array.getElem?_eq_some_iff.1 q2).1 (fun e => by have := (hr _ e.symm).1; omega)).trans q2
        · exact (hgr.block _ (Array.getElem?_eq_some_iff.1 q3).1 (fun e => by have := (hr _ e.symm).1; omega)).trans q3
      · rintro acc P v W ⟨q1, _, _⟩ hr p1 p2 p3
        exact hask acc P v W q1 (hr.mono (by omega)) p1 p2 p3
      · rintro acc P v W hsz6 ⟨hi, hl, hd⟩ hr p1 p2
        have hlt : m + 1 < W.heap.size := (Array.getElem?_eq_some_iff.1 hl).1
        have hl' := hl
        rw [hat] at hl'
        have hy := run_yield (P := Tryd.prog) (args := #[v]) hl' (by rw [hps]; rfl)
        refine ⟨fn, _, assign, body, hy, roundIn_of_wpIn hfn (hassign _ v W _ ⟨_, run_beginRound hl' rfl, ?_⟩)⟩
        obtain ⟨U, hU⟩ : ∃ U, U = W.putObj (m + 1) (at_ .busy none) := ⟨_, rfl⟩
        have gU : W.grownBy U (some (m + 1)) := by rw [hU]; exact grownBy_putObj' W _ _
        have rU : U.heap[m + 1]? = some (at_ .busy none) := by rw [hU]; exact World.putObj_heap_same hlt
        have dU : U.heap[m]? = some (.deferred (some [])) := by rw [hU]; exact (World.putObj_heap_other (by omega)).trans hd
        have bU : Below m W U := (Below.refl m W).grown gU (by omega) (fun r e => by cases e; omega)
        have iU : I acc U := hfar _ _ _ hi bU (softN_put gU (by omega) ⟨_, hl, by rw [hat]; rfl⟩)
        have r0U : Rest0 (m + 2) W U := ⟨gU.size, fun k o hk h => (gU.block k (Array.getElem?_eq_some_iff.1 h).1 (fun e => by injection e; omega)).trans h⟩
        have hrU : Row U m v (ints P) := by
          have hne : v.ownBlock = none ∨ v.ownBlock ≠ some (m + 1) := by
            rcases hr.2 with ⟨rfl, _⟩ | ⟨gg, cap, cur, rfl, hgb, _⟩
            · exact .inl rfl
            · exact .inr (fun e => by have e2 : some gg = some (m + 1) := e; injection e2; omega)
          exact Row.mono (World.ownsRow.kept hr gU hne) (by omega)
        have eU : W.putObj (m + 1) (.loop { state := .busy, pending := none, fn, tmps := a.tmps, params := ps, assign, body, defers := m }) = U := by rw [hU, hat]
        show body.wpIn _ _ _ _ _ (W.putObj (m + 1) (.loop { state := .busy, pending := none, fn, tmps := a.tmps, params := ps, assign, body, defers := m }))
        rw [eU]
        refine wpIn_mono (hbody _ acc P v U (by have := gU.size; omega) iU hrU p1 p2) ?_
        have fin : ∀ (jump : Option Code) (Z : World), KeepsFrom m U Z → Rest0 (m + 2) U Z →
            (Instr.endRound (m + 1) jump).run Tryd.prog Z = .ok (.bool jump.isNone) (Z.putObj (m + 1) (at_ (if jump.isNone then .ready else .done) jump)) ∧ Z.heap[m + 1]? = some (at_ .busy none) ∧
            (Z.putObj (m + 1) (at_ (if jump.isNone then .ready else .done) jump)).heap[m + 1]? = some (at_ (if jump.isNone then .ready else .done) jump) ∧
            (Z.putObj (m + 1) (at_ (if jump.isNone then .ready else .done) jump)).heap[m]? = some (.deferred (some [])) ∧ Rest0 (m + 2) W (Z.putObj (m + 1) (at_ (if jump.isNone then .ready else .done) jump)) := fun jump Z hk hz => by
          have h3 := hk.same _ _ (by omega) rU (by rw [hat]; rfl)
          have h4 := h3
          rw [hat] at h4
          have h5 := run_endRound (P := Tryd.prog) jump h4
          have gZ := grownBy_putObj' Z (m + 1) (at_ (if jump.isNone then .ready else .done) jump)
          refine ⟨by rw [hat]; exact h5, h3, World.putObj_heap_same (Array.getElem?_eq_some_iff.1 h3).1, (World.putObj_heap_other (by omega)).trans (hk.same _ _ (Nat.le_refl _) dU rfl), (r0U.trans hz).trans ⟨gZ.size, fun k o hk h => (gZ.block k (Array.getElem?_eq_some_iff.1 h).1 (fun e => by injection e; omega)).trans h⟩⟩
        rintro e a3 Z hp
        cases e with
        | normal =>
          obtain ⟨k1, k2, k3, k4⟩ := hp
          obtain ⟨r1, r2, r3, r4, r5⟩ := fin none Z k1 k2
          have gZ := grownBy_putObj' Z (m + 1) (at_ .ready none)
          have bZ : Below m Z (Z.putObj (m + 1) (at_ .ready none)) := (Below.refl m Z).grown gZ (by have := k1.size; have := gU.size; omega) (fun r e => by cases e; omega)
          exact ⟨_, _, r1, .inl ⟨rfl, ⟨hfar _ _ _ k4 bZ (softN_put gZ (by omega) ⟨_, r2, by rw [hat]; rfl⟩), r3, r4⟩, r5, ((bU.mono (by omega)).trans k3).trans (bZ.mono (by omega))⟩⟩
        | ret =>
          obtain ⟨k1, k2, k3⟩ := hp
          obtain ⟨r1, r2, r3, r4, r5⟩ := fin (some .ret) Z k1 k2
          exact ⟨_, _, r1, .inr ⟨rfl, ⟨hfarx .ret _ _ _ _ k3 (grownBy_putObj' Z (m + 1) _) (fun r e => by cases e; exact ⟨by omega, .inl ⟨_, r2, by rw [hat]; rfl⟩⟩), r3, r4⟩, r5⟩⟩
        | exit id => exact hp.elim
        | goto t => exact hp.elim
        | panic ch => exact hp.elim
        | outgrown => exact hp.elim
    refine (callsIn_wide.2 (callsIn_wide.1 (namings_in h1 hn V (by omega) (by omega) hnbV (by omega) hO ⟨iV, rV, dV⟩))).mono ?_
    rintro e Z ⟨⟨v, rfl⟩, (⟨hi, hl, hd⟩ | ⟨xs, ⟨hi, hl, hd⟩, hpre⟩)⟩
    · have hl' := hl
      rw [hat] at hl'
      have gZ := grownBy_putObj' Z (m + 1) (.loop { state := .exhausted, pending := none, fn, tmps := a.tmps, params := ps, assign, body, defers := m })
      exact ⟨none, _, run_endLoop (P := Tryd.prog) hl' (by simp), hdone m _ (Nat.le_refl _) (hfar _ _ _ hi ((Below.refl m Z).grown gZ (by have := (Array.getElem?_eq_some_iff.1 hl).1; omega) (fun r e => by cases e; omega)) (softN_put gZ (by omega) ⟨_, hl, by rw [hat]; rfl⟩)) ((World.putObj_heap_other (by omega)).trans hd)⟩
    · have hl' := hl
      rw [hat] at hl'
      exact ⟨some .ret, _, run_endLoop (P := Tryd.prog) hl' (by simp), hstop m xs _ (Nat.le_refl _) hpre (hfarx .ret _ _ _ _ hi (grownBy_putObj' Z (m + 1) _) (fun r e => by cases e; exact ⟨by omega, .inl ⟨_, hl, by rw [hat]; rfl⟩⟩)) ((World.putObj_heap_other (by omega)).trans hd)⟩
/-- **The same, where nothing is told of lists made in rounds.** -/
theorem wpIn_names {N n nb fx fid : Nat} {fcap : Array Value} {fit : List (List Nat) → List Nat → Bool} {g : Operand} {ps : Array Tmp} {assign body : Code} {Q : Exit → Act → World → Prop} {a : Act} {w : World}
    (h1 : 1 ≤ n) (hn : n ≤ 6) (h2 : 2 ≤ w.heap.size) (hps : ps.size = 1) (hfx : fx < w.heap.size) (hnb : w.cell? ⟨nb, 0, none⟩ = some (.int .i64 n)) (hnl : nb < w.heap.size)
    (hg : a.eval g = .func (.func 74) #[] #[.pointer (some ⟨nb, 0, none⟩), .pointer (some ⟨fx, 0, none⟩)])
    (I : List (List Nat) → World → Prop) (Ix : Code → List (List Nat) → World → Prop)
    (hfar : ∀ s X Y, I s X → Below w.heap.size X Y → I s Y)
    (hfarx : ∀ c s X Y row, Ix c s X → X.grownBy Y row → (∀ r, row = some r → w.heap.size ≤ r ∧ ((∃ o : Obj, X.heap[r]? = some o ∧ o.isCells = false) ∨ ∃ v, Boxed X r 4 v)) → Ix c s Y)
    (hbox : ∀ s X, I s X → Boxed X fx 42 (.func (.func fid) #[] fcap)) (htab : ∀ s X, I s X → Tab X) (hen : ∀ args w, (callFunc fid args).run Tryd.prog w = .ok (.enter fid args) w)
    (hask : ∀ acc P v W, I acc W → Row W w.heap.size v (ints P) → 1 ≤ P.length → P.length ≤ n → (∀ x ∈ P, x < n) → Calls Tryd.prog fid (#[v] ++ fcap) W fun e W' => e = .returned (.bool (fit acc P)) ∧ Below W.heap.size W W')
    (h0 : I [] w) (a₁ : Value → Act)
    (hassign : ∀ (l : Nat) (v : Value) (W : World) (K : Act → World → Prop), K (a₁ v) W → assign.wpIn (Fence.wide.inRound l) 8 Tryd.prog (Exit.then K (fun _ _ _ => False)) { tmps := (ps.zip #[v]).foldl (fun t (p, v) => t.setIfInBounds p v) a.tmps, defers := [] } W)
    (hbody : ∀ (l : Nat) (acc : List (List Nat)) (P : List Nat) (v : Value) (W : World), I acc W → Row W w.heap.size v (ints P) → P.length = n → (∀ x ∈ P, x < n) → body.wpIn (Fence.wide.inRound l) 8 Tryd.prog (namePost w.heap.size I Ix (acc ++ [P]) W) (a₁ v) W)
    (hdone : ∀ (D : Nat) (W : World), w.heap.size ≤ D → I (allNames fit n) W → W.heap[D]? = some (.deferred (some [])) → Q .normal { a with defers := { target := .collected D, args := #[] } :: a.defers } W)
    (hstop : ∀ (D : Nat) (xs : List (List Nat)) (W : World), w.heap.size ≤ D → xs <+: allNames fit n → Ix .ret xs W → W.heap[D]? = some (.deferred (some [])) → Code.ret.wpIn Fence.wide N Tryd.prog Q { a with defers := { target := .collected D, args := #[] } :: a.defers } W) :
    (Code.rangeFunc g ps assign body).wpIn Fence.wide N Tryd.prog Q a w := by
  exact wpIn_namesS h1 hn h2 hps hfx hnb hnl hg I Ix (fun s X Y h hb _ => hfar s X Y h hb) hfarx hbox htab hen hask h0 a₁ hassign (fun l acc P v W _ => hbody l acc P v W) hdone hstop
end Go.Proofs.YtamabhdbcmjbjaaDoor
