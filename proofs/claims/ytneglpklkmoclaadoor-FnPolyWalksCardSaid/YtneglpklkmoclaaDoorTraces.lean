/- Seven numbers as the cells of a box hold them (the traces); the program's traces. -/
import Derived.Test.YtneglpklkmoclaaDoorBaseW
namespace Go.Proofs.YtneglpklkmoclaaDoor
open Go Go.RowKit
set_option linter.unusedVariables false
set_option maxRecDepth 100000

def vecC (r : Nat → Int) : Array Value := (Array.range 7).map fun t => .int .i64 (r t)
theorem vecC_size (r : Nat → Int) : (vecC r).size = 7 := by simp [vecC]
theorem vecC_get (r : Nat → Int) {j : Nat} (hj : j < 7) : (vecC r)[j]? = some (.int .i64 (r j)) := by
  unfold vecC
  rw [Array.getElem?_map, Array.getElem?_range, if_pos (by omega)]
  rfl
theorem vecC_congr {r s : Nat → Int} (h : ∀ j, j < 7 → r j = s j) : vecC r = vecC s := by
  unfold vecC
  apply Array.ext_getElem?
  intro t
  rw [Array.getElem?_map, Array.getElem?_map, Array.getElem?_range]
  split
  · simp [h t (by omega)]
  · rfl
theorem vecC_set (r : Nat → Int) {j : Nat} (x : Int) (hj : j < 7) : (vecC r).setIfInBounds j (.int .i64 x) = vecC (fun i => if i = j then x else r i) := by
  apply Array.ext_getElem?
  intro t
  rw [Array.getElem?_setIfInBounds, vecC_size]
  unfold vecC
  by_cases h : j = t
  · subst h
    rw [if_pos rfl, if_pos (by omega), Array.getElem?_map, Array.getElem?_range, if_pos (by omega)]
    simp
  · rw [if_neg h, Array.getElem?_map, Array.getElem?_map, Array.getElem?_range]
    split
    · have : ¬ (t = j) := fun e => h e.symm
      simp [this]
    · rfl
theorem vecC_one (r : Nat → Int) : (vecC r).all (·.oneCell') = true := Array.all_eq_true_iff_forall_mem.2 fun v hv => by obtain ⟨t, _, rfl⟩ := Array.mem_map.1 hv; rfl
def VecAt (w : World) (g : Nat) (r : Nat → Int) : Prop := w.heap[g]? = some (.cells (vecC r) 87 (0, 0))
theorem VecAt.lt {w : World} {g : Nat} {r : Nat → Int} (h : VecAt w g r) : g < w.heap.size := (Array.getElem?_eq_some_iff.1 h).1
theorem VecAt.cell {w : World} {g : Nat} {r : Nat → Int} (h : VecAt w g r) {j : Nat} (hj : j < 7) : w.cell? ⟨g, j, none⟩ = some (.int .i64 (r j)) := by
  rw [cell_of_row w g _ _ _ _ h, vecC_get r hj]
theorem VecAt.frozen {w : World} {g : Nat} {r : Nat → Int} (h : VecAt w g r) (k : Nat) : w.frozen? ⟨g, k, none⟩ = false := frozen_of_row w g k _ _ h
theorem VecAt.set {w : World} {g : Nat} {r : Nat → Int} (h : VecAt w g r) {j : Nat} (x : Int) (hj : j < 7) : VecAt (w.setCell ⟨g, j, none⟩ (.int .i64 x)) g (fun i => if i = j then x else r i) := by
  unfold VecAt
  rw [heap_setCell_same w g _ _ _ _ h, vecC_set r x hj]
theorem VecAt.congr {w : World} {g : Nat} {r s : Nat → Int} (h : VecAt w g r) (e : ∀ j, j < 7 → r j = s j) : VecAt w g s := by unfold VecAt; rw [← vecC_congr e]; exact h
theorem VecAt.other {w : World} {g : Nat} {r : Nat → Int} (h : VecAt w g r) {a : Addr} (v : Value) (hne : g ≠ a.block) : VecAt (w.setCell a v) g r := (heap_setCell_other w a g v hne).trans h
theorem VecAt.setRow {w : World} {g : Nat} {r : Nat → Int} (h : VecAt w g r) {b : Nat} (cs : Array Value) (hne : g ≠ b) : VecAt (w.setRow b cs) g r := (setRow_other w b g cs hne).trans h
theorem VecAt.alloc {w : World} {g : Nat} {r : Nat → Int} (h : VecAt w g r) (o : Obj) : VecAt (w.alloc o) g r := (Below.heap_alloc w o g h.lt).trans h
theorem VecAt.below {w w' : World} {B g : Nat} {r : Nat → Int} (h : VecAt w g r) (hb : Below B w w') (hg : g < B) : VecAt w' g r := (hb.block g hg).trans h
theorem VecAt.new (w : World) (r : Nat → Int) : VecAt (w.alloc (.cells (vecC r) 87)) w.heap.size r := heap_alloc_new w _
theorem VecAt.stored {w : World} {g : Nat} {r : Nat → Int} (s : Nat → Int) (h : VecAt w g r) : VecAt (w.setRow g (vecC s)) g s := setRow_heap w g _ _ _ _ h
theorem vec_desc : Tryd.prog.underlying 87 = some (.array 7 3) := by kernel_rfl
theorem vec_info : (Tryd.prog.info? 87).map (·.size) = some 7 := by kernel_rfl
theorem addr_vec (g k : Nat) (hk : k < 7) (W : World) : (Instr.indexAt 87 (.pointer (some ⟨g, 0, none⟩)) (.int .i64 k)).run Tryd.prog W = .ok (.pointer (some ⟨g, k, none⟩)) W := by
  have hs : ∀ W, (sizeOf 3).run Tryd.prog W = .ok 1 W := fun W => by kernel_rfl
  have h1 : (0 : Int) ≤ (k : Int) ∧ (k : Int) < ((7 : Nat) : Int) := by omega
  simp only [Instr.indexAt, Instr.sureAddr, asIntOf, Sem.run_bind, Sem.run_pure, Result.andThen_ok, run_underlying vec_desc, if_pos h1, hs, Int.toNat_natCast, Addr.add, Nat.mul_one, Nat.zero_add]
  congr 3
  split
  · rename_i e; rw [e]
  · rfl
theorem vecC_zero : vecC (fun _ => 0) = #[.int .i64 0, .int .i64 0, .int .i64 0, .int .i64 0, .int .i64 0, .int .i64 0, .int .i64 0] := by kernel_rfl
section
variable {ops : Array Oper} {rest : List Oper} {o : Oper} {a : Act} {w : World} {Q : Exit → Act → World → Prop}
theorem step_load_vec (hgd : o.guard = none) (x : Operand) (ho : o.op = .load 87 x) (g : Nat) (r : Nat → Int) (hx : a.eval x = .pointer (some ⟨g, 0, none⟩)) (h : VecAt w g r)
    (hK : wpList Tryd.prog ops Q rest (a.put o.dst (.agg (vecC r))) w) : wpList Tryd.prog ops Q (o :: rest) a w :=
  wpList_load_row hgd _ x ho g hx _ _ _ _ h vec_desc rfl (by rw [vecC_size]; exact vec_info) hK
theorem step_store_vec (hgd : o.guard = none) (x y : Operand) (ho : o.op = .store 87 x y) (g : Nat) (r s : Nat → Int) (hx : a.eval x = .pointer (some ⟨g, 0, none⟩)) (hy : a.eval y = .agg (vecC s)) (h : VecAt w g r)
    (hK : wpList Tryd.prog ops Q rest (a.put o.dst undef) (w.setRow g (vecC s))) : wpList Tryd.prog ops Q (o :: rest) a w :=
  wpList_store_row hgd _ x y ho g _ hx hy _ _ h (by rw [vecC_size]; exact vec_info) (by rw [vecC_size, vecC_size]) (vecC_one s) hK
theorem step_alloc_vec (hgd : o.guard = none) (ho : o.op = .alloc 87)
    (hK : wpList Tryd.prog ops Q rest (a.put o.dst (.pointer (some ⟨w.heap.size, 0, none⟩))) (w.alloc (.cells (vecC fun _ => 0) 87))) : wpList Tryd.prog ops Q (o :: rest) a w :=
  wpList_plain hgd fun _ hK' => by
    have h : (Instr.alloc 87 true (.tuple #[])).run Tryd.prog w = .ok (.pointer (some ⟨w.heap.size, 0, none⟩)) (w.alloc (.cells (vecC fun _ => 0) 87)) := by rw [vecC_zero]; rfl
    unfold Oper.wp execOp
    simp only [ho, h, Sem.run_bind, Sem.run_pure, Result.andThen_ok]
    exact hK' _ _ hK
end
/-- How a call that tells seven numbers ends. -/
def Vec1 (w : World) (r : Nat → Int) (e : Ending) (w' : World) : Prop := e = .returned (.agg (vecC r)) ∧ Below w.heap.size w w'
/-- Between two rounds: the matrix, the empty result, the traces so far. -/
def VRel (w wr : World) (g : Nat) (q : Mx) (r : Nat → Int) : Prop := MatAt wr g q ∧ VecAt wr (g + 1) (fun _ => 0) ∧ VecAt wr (g + 1 + 1) r ∧ Below g w wr
theorem VRel.below {w wr wr' : World} {g : Nat} {q : Mx} {r : Nat → Int} (h : VRel w wr g q r) (hb : Below wr.heap.size wr wr') : VRel w wr' g q r :=
  ⟨h.1.below hb h.1.lt, h.2.1.below hb h.2.1.lt, h.2.2.1.below hb h.2.2.1.lt, h.2.2.2.trans (hb.mono (Nat.le_of_lt h.1.lt))⟩
theorem VRel.set {w wr : World} {g : Nat} {q : Mx} {r : Nat → Int} (h : VRel w wr g q r) {j : Nat} (hj : j < 7) (x : Int) : VRel w (wr.setCell ⟨g + 1 + 1, j, none⟩ (.int .i64 x)) g q (fun i => if i = j then x else r i) :=
  ⟨h.1.other _ (by show g ≠ g + 1 + 1; omega), h.2.1.other _ (by show g + 1 ≠ g + 1 + 1; omega), h.2.2.1.set x hj, h.2.2.2.setCell (p := ⟨g + 1 + 1, j, none⟩) (by show g ≤ g + 1 + 1; omega) _⟩
theorem VRel.congr {w wr : World} {g : Nat} {q : Mx} {r s : Nat → Int} (h : VRel w wr g q r) (e : ∀ j, j < 7 → r j = s j) : VRel w wr g q s := ⟨h.1, h.2.1, h.2.2.1.congr e, h.2.2.2⟩
def trTo (m : Mx) (n k : Nat) : Nat → Int := fun i => if i < k then wrap64 (mtr (mpow m n i)) else 0

set_option maxHeartbeats 4000000 in
theorem traces_any (m : Mx) (n : Nat) (hn : n ≤ 6) (w : World) :
    Calls Tryd.prog 77 #[.agg (matC (wmx m)), .int .i64 n] w (Vec1 w (trTo m n 7)) := by
  obtain ⟨q, eq⟩ : ∃ q, q = wmx m := ⟨_, rfl⟩
  have HP := Lib.hid (fun k (hk : k ≤ 1000) w => power_any m n k hn hk w)
  have HT := Lib.hid (fun k w => trace_any (mpow m n k) w)
  rw [← eq] at HP ⊢
  have T0 : ∀ W, W = ((w.alloc (.cells (matC q) 38)).alloc (.cells (vecC fun _ => 0) 87)).alloc (.cells (vecC fun _ => 0) 87) → VRel w W w.heap.size q (trTo m n 0) := fun W e => by
    rw [e]
    have h0 := MatAt.new w q
    have h1 := VecAt.new (w.alloc (.cells (matC q) 38)) (fun _ => 0)
    have h2 := VecAt.new ((w.alloc (.cells (matC q) 38)).alloc (.cells (vecC fun _ => 0) 87)) (fun _ => 0)
    simp only [World.size_alloc] at h0 h1 h2
    have hz : trTo m n 0 = fun _ => 0 := by funext i; unfold trTo; rw [if_neg (by omega)]
    rw [hz]
    refine ⟨(h0.alloc _).alloc _, h1.alloc _, h2, ?_⟩
    exact (((Below.refl _ w).alloc (Nat.le_refl _) _).alloc (by rw [World.size_alloc]; omega) _).alloc (by simp only [World.size_alloc]; omega) _
  have HT0 := Lib.hid T0
  clear eq T0
  go_enter Tryd.func77, Tryd.ntmps77
  go_wp2_with (refine step_alloc_vec rfl rfl ?_)
  refine at_world (P := fun W => Code.wp _ _ _ _ W) _ ?_
  intro W hW
  have T1 := Lib.hid (HT0.out W hW)
  clear hW HT0
  obtain ⟨g, eg⟩ : ∃ g, g = w.heap.size := ⟨_, rfl⟩
  rw [← eg] at T1 ⊢
  have HG := Lib.hid eg
  clear eg
  go_loopw [7] (fun i wr => ∃ k : Nat, k ≤ 7 ∧ i = .int .i64 k ∧ Hid (VRel w wr g q (trTo m n k))) (fun i _ => 7 - (intOf i).toNat)
  case atStart => exact ⟨0, Nat.zero_le _, rfl, T1⟩
  case round =>
    obtain ⟨k, hk, rfl, hr⟩ := hrel
    by_cases hlt : k < 7
    · have had := addr_vec (g + 1 + 1) k hlt
      have hp := HP.out k (by omega)
      have ht := HT.out k
      obtain ⟨r, er⟩ : ∃ r, r = wmx (mpow m n k) := ⟨_, rfl⟩
      rw [← er] at hp ht
      have hnx : ∀ j, j < 7 → (if j = k then wrap64 (mtr (mpow m n k)) else trTo m n k j) = trTo m n (k + 1) j := fun j _ => by
        unfold trTo
        by_cases e : j = k
        · rw [if_pos e, e, if_pos (by omega)]
        · rw [if_neg e]
          by_cases e2 : j < k
          · rw [if_pos e2, if_pos (by omega)]
          · rw [if_neg e2, if_neg (by omega)]
      obtain ⟨x, ex⟩ : ∃ x, x = wrap64 (mtr (mpow m n k)) := ⟨_, rfl⟩
      rw [← ex] at ht hnx
      have HP1 := Lib.hid hp
      have HT1 := Lib.hid ht
      have HNX := Lib.hid hnx
      have hki : (0 : Int) ≤ (k : Int) ∧ (k : Int) < 7 := by omega
      clear hp ht hnx er ex
      go_wp2_with (refine step_load_mat rfl (.tmp 2) rfl _ _ rfl hr.out.1 ?_)
      refine (HP1.out _).mono ?_
      rintro e w1 ⟨rfl, b1⟩
      have R1 := Lib.hid (hr.out.below b1)
      clear b1
      go_wp2_with fail
      refine (HT1.out _).mono ?_
      rintro e w2 ⟨rfl, b2⟩
      have R2 := Lib.hid (R1.out.below b2)
      have hc := R2.out.2.2.1.cell hlt
      have hf := R2.out.2.2.1.frozen k
      have R3 := Lib.hid ((R2.out.set hlt x).congr HNX.out)
      obtain ⟨y, ey⟩ : ∃ y, y = trTo m n k k := ⟨_, rfl⟩
      rw [← ey] at hc
      clear b2 ey
      go_wp2
      go_roundw
      case rel => exact ⟨k + 1, by omega, by go_num, R3⟩
      case measure => simp [intOf]; omega
    · have hk7 : k = 7 := by omega
      subst hk7
      go_wp2_with (first | refine step_load_vec rfl (.tmp 5) rfl _ _ rfl hr.out.2.2.1 ?_ | refine step_store_vec rfl (.tmp 4) (.tmp 18) rfl _ _ _ rfl rfl hr.out.2.1 ?_)
      refine bodyPost_ret (results_cell_row rfl _ _ _ _ _ _ _ rfl (hr.out.2.1.stored (trTo m n 7)) vec_desc rfl (by rw [vecC_size]; exact vec_info)) rfl ?_
      refine ⟨rfl, ?_⟩
      rw [← HG.out]
      exact below_setRow hr.out.2.2.2 (by omega) _
end Go.Proofs.YtneglpklkmoclaaDoor
