/- The model's l3Sorted: a list in order. -/
import Derived.Test.YtogmfbhnnnoipaaDoorPartGraph
import Derived.Test.YtogmfbhnnnoipaaDoorBaseA
import Derived.Test.YtogmfbhnnnoipaaDoorBaseB
import Derived.Deep.RegionHeldLaw
import Derived.WideShapes
import Derived.BigQuiet
namespace Go.Proofs.YtogmfbhnnnoipaaDoor
open Go.RowKit
set_option linter.unusedVariables false
set_option maxRecDepth 100000

/-- A number put in at a place. -/
def putAt (xs : List Int) (x : Int) (k : Nat) : List Int := xs.take k ++ [x] ++ xs.drop k
theorem putAt_length (xs : List Int) (x : Int) (k : Nat) (hk : k ≤ xs.length) : (putAt xs x k).length = xs.length + 1 := by simp [putAt]; omega
theorem putAt_perm (xs : List Int) (x : Int) (k : Nat) : (putAt xs x k).Perm (x :: xs) := by
  unfold putAt
  rw [List.append_assoc, List.singleton_append]
  refine List.perm_middle.trans ?_
  rw [List.take_append_drop]
theorem putAt_sorted {xs : List Int} {x : Int} {k : Nat} (hk : k ≤ xs.length) (hs : xs.Pairwise (· ≤ ·)) (hl : ∀ j, k ≤ j → j < xs.length → x < xs[j]?.getD 0) (hr : k = 0 ∨ ¬ x < xs[k - 1]?.getD 0) : (putAt xs x k).Pairwise (· ≤ ·) := by
  have e : xs.take k ++ xs.drop k = xs := List.take_append_drop _ _
  have hp := List.pairwise_append.1 (e ▸ hs)
  have h1 : ∀ a ∈ xs.take k, a ≤ x := fun a ha => by
    rcases hr with h0 | h0
    · subst h0; simp at ha
    · obtain ⟨j, hj, rfl⟩ := List.mem_iff_getElem.1 ha
      rw [List.length_take] at hj
      rw [List.getElem_take]
      have hk1 : k - 1 < xs.length := by omega
      have h2 : xs[k - 1]?.getD 0 = xs[k - 1] := by simp [hk1]
      rw [h2] at h0
      by_cases hjk : j = k - 1
      · have h3 : xs[j] = xs[k - 1] := by congr 1
        omega
      · have h3 := List.pairwise_iff_getElem.1 hs j (k - 1) (by omega) hk1 (by omega)
        omega
  have h2 : ∀ a ∈ xs.drop k, x ≤ a := fun a ha => by
    obtain ⟨j, hj, rfl⟩ := List.mem_iff_getElem.1 ha
    rw [List.length_drop] at hj
    rw [List.getElem_drop]
    have h3 := hl (k + j) (by omega) (by omega)
    rw [List.getElem?_eq_getElem (by omega)] at h3
    exact Int.le_of_lt h3
  unfold putAt
  refine List.pairwise_append.2 ⟨List.pairwise_append.2 ⟨hp.1, List.pairwise_singleton _ _, fun a ha b hb => by rw [List.mem_singleton.1 hb]; exact h1 a ha⟩, hp.2.1, fun a ha b hb => ?_⟩
  rcases List.mem_append.1 ha with h | h
  · exact hp.2.2 a h b hb
  · rw [List.mem_singleton.1 h]; exact h2 b hb
theorem sortL_sorted (xs : List Int) : (sortL xs).Pairwise (· ≤ ·) := by
  have h := List.pairwise_mergeSort (le := fun x y : Int => decide (x ≤ y)) (fun a b c h1 h2 => by simp at *; omega) (fun a b => by simp; omega) xs
  exact h.imp (fun h => by simpa using h)
theorem sortL_put {xs : List Int} {i k : Nat} (hi : i < xs.length) (hk : k ≤ i) (hl : ∀ j, k ≤ j → j < i → xs[i]?.getD 0 < (sortL (xs.take i))[j]?.getD 0) (hr : k = 0 ∨ ¬ xs[i]?.getD 0 < (sortL (xs.take i))[k - 1]?.getD 0) :
    putAt (sortL (xs.take i)) (xs[i]?.getD 0) k = sortL (xs.take (i + 1)) := by
  have hlen : (sortL (xs.take i)).length = i := by rw [sortL_length, List.length_take]; omega
  refine sortL_of ?_ (putAt_sorted (by omega) (sortL_sorted _) (fun j h1 h2 => hl j h1 (by omega)) hr)
  refine (putAt_perm _ _ _).trans (((sortL_perm _).cons _).trans ?_)
  rw [List.take_succ_eq_append_getElem hi, List.getElem?_eq_getElem hi]
  exact (List.perm_append_singleton _ _).symm

/-- append of a list that lies somewhere, as a step of a region that draws its order. -/
theorem step_list {ops : Array Oper} {o : Oper} {a : Act} {K : Act → World → Prop} {Q : Exit → Act → World → Prop} {E : Prop} (hgd : o.guard = none) (s x : Operand)
    (ho : o.op = .call { callee := .builtin .append, args := #[s, x], argTypes := #[22, 22] }) (w : World) (B : Nat) (v : Value) (xs ys : List Int) (b off m c : Nat)
    (hs : a.eval s = v) (hm : ys.length = m) (hx : a.eval x = .slice (some ⟨b, off, none⟩) m c) (hr : Row w B v xs) (hy : ∀ k, k < ys.length → w.cell? ⟨b, off + k, none⟩ = some (.int .i64 (ys[k]?.getD 0))) (hB : B ≤ w.heap.size) (hlen : xs.length + ys.length ≤ 100000)
    (h : ∀ v' w', Hid (Row w' B v' (xs ++ ys)) → Hid (Below B w w') → Hid (w.grownBy w' v.ownBlock) → Hid (v'.ownBlock = v.ownBlock ∨ v'.ownBlock = some w.heap.size) → K (a.put o.dst v') w') :
    if Region.wanted o (yielded ops a.tmps) = true then Oper.wp Tryd.prog o a w K Q else E := by
  rw [if_pos (by simp [Region.wanted, hgd])]
  obtain ⟨i0, hi, hz0, hz1, hz2⟩ := info_parts infoInt
  obtain ⟨v', w', hrun, hown, hg, _, hat⟩ := run_append_own_at (P := Tryd.prog) w B 22 o.type 3 i0 (.int .i64 0) 1 8 Tryd.underlying22 hi hz0 hz1 hz2 rfl (by decide) v xs.length (xs.map (Value.int .i64)) hr
    ⟨b, off, none⟩ m c (ys.map (Value.int .i64)) (by simp [hm]) (fun j u hu => by
      rw [List.getElem?_map] at hu
      cases hj : ys[j]? with
      | none => rw [hj] at hu; simp at hu
      | some y =>
        rw [hj] at hu
        have hjl : j < ys.length := (List.getElem?_eq_some_iff.1 hj).1
        have h1 := hy j hjl
        rw [hj] at h1
        rw [Go.WideShapes.add_plain, h1]
        simpa using hu) (by simp [Value.oneCell']) (by unfold maxLen; omega) (by omega) hB
  unfold Oper.wp execOp
  simp only [ho, resolve, invoke, builtin, Sem.run_bind, Sem.run_pure, Result.andThen_ok, List.map_toArray, List.map_cons, List.map_nil, hs, hx, hrun]
  refine h v' w' ?_ ?_ hg hat
  · unfold Hid Row
    rw [List.length_append, List.map_append, hm]
    exact hown
  · exact (Below.refl B w).grown hg hB (fun k hk => (hr.lt k hk).1)

theorem row_shape {w : World} {B : Nat} {v : Value} {xs : List Int} {m : Nat} (h : Row w B v xs) (hl : xs.length = m + 1) : ∃ g cap, m + 1 ≤ cap ∧ v = .slice (some ⟨g, 0, none⟩) (m + 1) cap := by
  rcases h.2 with ⟨_, h0⟩ | ⟨g, cap, cur, rfl, _, _, h1, _⟩
  · omega
  · exact ⟨g, cap, by omega, by rw [hl]⟩
theorem one_cells {W : World} {g : Nat} {x : Int} (h : W.cell? ⟨g, 0, none⟩ = some (.int .i64 x)) : ∀ k, k < [x].length → W.cell? ⟨g, 0 + k, none⟩ = some (.int .i64 ([x][k]?.getD 0)) := fun k hk => by
  have hk0 : k = 0 := by simpa using hk
  subst hk0
  exact h
set_option maxHeartbeats 4000000 in
theorem specSorted_seen (A : Option Addr) (c : Nat) (L : List Int) (hl : L.length ≤ 1000) (w : World) (h : Seen w A L) :
    Calls Tryd.prog 57 #[.slice A L.length c] w (Gave w (sortL L)) := by
  obtain ⟨n, hn⟩ : ∃ n, n = L.length := ⟨_, rfl⟩
  rw [← hn] at hl ⊢
  have HN := Lib.hid hn
  have H := Lib.hid h
  have R0 : Hid (Row (w.alloc (.cells #[] 3)) w.heap.size (.slice (some ⟨w.heap.size, 0, none⟩) 0 0) (sortL (L.take 0))) := Lib.hid (by
    rw [List.take_zero, sortL_nil]
    exact World.ownsRow_lit (base := w.heap.size) (e := 3) (size := 1) w #[] 0 (Nat.le_refl _) (by unfold maxLen; omega) rfl)
  have B0 := Lib.hid ((Below.refl w.heap.size w).alloc (Nat.le_refl _) (.cells #[] 3))
  clear hn h
  go_enter Tryd.func57, Tryd.ntmps57
  go_wp2
  go_loopw [3, 4] (fun o i wr => ∃ k b cp : Nat, k ≤ n ∧ i = .int .i64 k ∧ o = .slice (some ⟨b, 0, none⟩) k cp ∧ k ≤ cp ∧ Hid (Row wr w.heap.size (.slice (some ⟨b, 0, none⟩) k cp) (sortL (L.take k))) ∧ Hid (Below w.heap.size w wr)) (fun _ i _ => n - (intOf i).toNat)
  case atStart => exact ⟨0, _, 0, Nat.zero_le _, rfl, rfl, Nat.le_refl _, R0, B0⟩
  case round =>
    obtain ⟨k, b, cp, hk, rfl, rfl, hkc, hr, hb⟩ := hrel
    by_cases hlt : k < n
    · obtain ⟨blk, off, rfl, hbl, hc⟩ := H.out k (by have := HN.out; omega)
      have hcw : wr.cell? ⟨blk, off + k, none⟩ = some (.int .i64 (L[k]?.getD 0)) := (hb.out.cell (p := ⟨blk, off + k, none⟩) hbl).trans hc
      have hi1 : (0 : Int) ≤ (k : Int) ∧ (k : Int) < (n : Int) := by omega
      have hxs : (sortL (L.take k)).length = k := by rw [sortL_length, List.length_take]; have := HN.out; omega
      have hput := fun q h1 h2 h3 => sortL_put (xs := L) (i := k) (k := q) (by have := HN.out; omega) h1 h2 h3
      obtain ⟨x, ex⟩ : ∃ x, x = L[k]?.getD 0 := ⟨_, rfl⟩
      obtain ⟨xs, exs⟩ : ∃ xs, xs = sortL (L.take k) := ⟨_, rfl⟩
      rw [← exs] at hxs hput hr
      rw [← ex] at hput hcw
      have HX := Lib.hid hxs
      have HP := Lib.hid hput
      have HBL := Lib.hid hbl
      clear hput ex exs hc hbl hxs R0 B0
      obtain ⟨wo, rfl⟩ : ∃ wo : World, wo = wr := ⟨_, rfl⟩
      go_wp2
      go_loopw [5] (fun i wr => ∃ q d : Nat, q ≤ k ∧ i = .int .i64 q ∧ Hid (∀ j, q ≤ j → j < k → x < xs[j]?.getD 0) ∧ wr = wo.drewN d) (fun i _ => (intOf i).toNat)
      case atStart => exact ⟨k, 0, Nat.le_refl _, rfl, Lib.hid (fun j h1 h2 => absurd h2 (by omega)), rfl⟩
      case round =>
        obtain ⟨q, d, hq, rfl, hgt, ew⟩ := hrel
        have EW := Lib.hid ew
        have hcx : wr.cell? ⟨blk, off + k, none⟩ = some (.int .i64 x) := by rw [ew]; exact hcw
        have hrx : Row wr w.heap.size (.slice (some ⟨b, 0, none⟩) k cp) xs := by rw [ew]; exact hr.out.drewN d
        have HRX := Lib.hid hrx
        have hbx : Below w.heap.size w wr := by rw [ew]; exact below_drewN hb.out d
        have HBX := Lib.hid hbx
        have hst : q = 0 ∨ (∃ p, q = p + 1 ∧ ¬ x < xs[p]?.getD 0) ∨ (∃ p, q = p + 1 ∧ x < xs[p]?.getD 0) := by
          rcases Nat.eq_zero_or_pos q with h0 | h0
          · exact .inl h0
          · by_cases h1 : x < xs[q - 1]?.getD 0
            · exact .inr (.inr ⟨q - 1, by omega, h1⟩)
            · exact .inr (.inl ⟨q - 1, by omega, h1⟩)
        clear hrx hbx ew
        rcases hst with h0 | ⟨p, hp, hno⟩ | ⟨p, hp, hyes⟩
        rotate_left 2
        · subst hp
          have hcp : wr.cell? ⟨b, p, none⟩ = some (.int .i64 (xs[p]?.getD 0)) := HRX.out.cellAt p (by have := HX.out; omega)
          obtain ⟨y, ey⟩ : ∃ y, y = xs[p]?.getD 0 := ⟨_, rfl⟩
          have HY := Lib.hid ey
          rw [← ey] at hcp hyes
          have hd0 : decide ((0 : Int) < ((p + 1 : Nat) : Int)) = true := decide_eq_true (by omega)
          have hd1 : decide (x < y) = true := decide_eq_true hyes
          have hs1 : ((p + 1 : Nat) : Int) - 1 = (p : Int) := by omega
          have hpi : (0 : Int) ≤ (p : Int) ∧ (p : Int) < (k : Int) := by omega
          have HYES := Lib.hid hyes
          clear hyes ey
          go_wp2
          go_quiet (fail)
          go_wp2
          go_roundw
          case rel => exact ⟨p, _, by omega, by go_num, Lib.hid (fun j h1 h2 => by
            rcases Nat.eq_or_lt_of_le h1 with h3 | h3
            · subst h3; rw [← HY.out]; exact HYES.out
            · exact hgt.out j h3 h2), by rw [EW.out, World.drewN_drewN]⟩
          case measure => simp [intOf]
        case' inl =>
          have hd0 : decide (0 < q) = false := decide_eq_false (by omega)
          have HPUT := Lib.hid (HP.out q hq hgt.out (.inl h0))
          clear h0
          go_wp2
          go_quiet (fail)
          obtain ⟨W8, eW8⟩ : ∃ W8 : World, W8 = wr.drewN nq := ⟨_, rfl⟩
          rw [← eW8]
          have HW8 := Lib.hid eW8
          clear eW8
          go_wp2
        case' inr.inl =>
          have HPUT := Lib.hid (HP.out q hq hgt.out (.inr (by rw [hp]; simpa using hno)))
          subst hp
          have hcp : wr.cell? ⟨b, p, none⟩ = some (.int .i64 (xs[p]?.getD 0)) := HRX.out.cellAt p (by have := HX.out; omega)
          obtain ⟨y, ey⟩ : ∃ y, y = xs[p]?.getD 0 := ⟨_, rfl⟩
          rw [← ey] at hcp hno
          have hd0 : decide ((0 : Int) < ((p + 1 : Nat) : Int)) = true := decide_eq_true (by omega)
          have hd1 : decide (x < y) = false := decide_eq_false hno
          have hs1 : ((p + 1 : Nat) : Int) - 1 = (p : Int) := by omega
          have hpi : (0 : Int) ≤ (p : Int) ∧ (p : Int) < (k : Int) := by omega
          clear hno ey
          go_wp2
          go_quiet (fail)
          obtain ⟨W8, eW8⟩ : ∃ W8 : World, W8 = wr.drewN nq := ⟨_, rfl⟩
          rw [← eW8]
          have HW8 := Lib.hid eW8
          clear eW8 hd0 hd1 hs1 hpi hcp
          obtain ⟨q, eq⟩ : ∃ q, q = p + 1 := ⟨_, rfl⟩
          rw [← eq] at hq HPUT hgt ⊢
          clear eq
          go_wp2
        all_goals
          have hs8 : W8.heap.size = wr.heap.size := by rw [HW8.out]; rfl
          have B8 : Below W8.heap.size wr W8.drew := by rw [HW8.out]; exact (below_drewN (Below.refl _ wr) nq).drew
          have R8 : Row W8.drew w.heap.size (.slice (some ⟨b, 0, none⟩) k cp) xs := by rw [HW8.out]; exact HRX.out.drewN nq
          have BW8 : Below w.heap.size w W8.drew := by rw [HW8.out]; exact (below_drewN HBX.out nq).drew
          have hblk8 : blk < W8.heap.size := by rw [hs8]; exact Nat.lt_of_lt_of_le HBL.out HBX.out.size
          have hc8 : W8.cell? ⟨blk, off + k, none⟩ = some (.int .i64 x) := by rw [HW8.out]; exact hcx
          have hq1 : (0 : Int) ≤ (q : Int) ∧ (q : Int) ≤ (k : Int) ∧ (q : Int) ≤ (cp : Int) ∧ (k : Int) ≤ (cp : Int) := by omega
          obtain ⟨N8, eN8⟩ : ∃ N8, N8 = W8.heap.size := ⟨_, rfl⟩
          obtain ⟨V, eV⟩ : ∃ V : World, V = W8.drew := ⟨_, rfl⟩
          have hVs : V.heap.size = N8 := by rw [eV, eN8]; rfl
          rw [← eV] at B8 R8 BW8
          rw [← eN8] at B8 hblk8
          have hbV : b < V.heap.size := by
            have h0 := R8.lt b (by rfl)
            exact h0.2
          -- the cells of the list, wherever the elder blocks lie as they lay
          have HCT : Hid (∀ W, Below N8 V W → ∀ j, j < (xs.take q).length → W.cell? ⟨b, 0 + j, none⟩ = some (.int .i64 ((xs.take q)[j]?.getD 0))) := Lib.hid (fun W hW j hj => by
            rw [List.length_take] at hj
            rw [Nat.zero_add, hW.cell (p := ⟨b, j, none⟩) (by show b < N8; omega), R8.cellAt j (by omega), List.getElem?_take_of_lt (by omega)])
          obtain ⟨oq, eoq⟩ : ∃ oq, oq = if cp = q then 0 else q := ⟨_, rfl⟩
          have HIF : Hid (∀ l c', Value.slice (if cp = q then some ⟨b, 0, none⟩ else some ⟨b, q, none⟩) l c' = .slice (some ⟨b, oq, none⟩) l c') := Lib.hid (fun l c' => by rw [eoq]; split <;> rfl)
          have HCD : Hid (∀ W, Below N8 V W → ∀ j, j < (xs.drop q).length → W.cell? ⟨b, oq + j, none⟩ = some (.int .i64 ((xs.drop q)[j]?.getD 0))) := Lib.hid (fun W hW j hj => by
            rw [List.length_drop] at hj
            have hxk := HX.out
            have hoq : oq = q := by rw [eoq, if_neg (by omega)]
            rw [hoq, hW.cell (p := ⟨b, q + j, none⟩) (by show b < N8; omega), R8.cellAt (q + j) (by omega), List.getElem?_drop])
          have HTQ : Hid ((xs.take q).length = q) := Lib.hid (by rw [List.length_take, HX.out]; omega)
          have HDQ : Hid ((xs.drop q).length = k - q) := Lib.hid (by rw [List.length_drop, HX.out])
          have RE : ∀ U : World, V.heap.size ≤ U.heap.size → Row (U.alloc (.cells #[] 3)) N8 (.slice (some ⟨U.heap.size, 0, none⟩) 0 0) [] := fun U hU =>
            Row.mono (World.ownsRow_lit (base := U.heap.size) (e := 3) (size := 1) U #[] 0 (Nat.le_refl _) (by unfold maxLen; omega) rfl) (by omega)
          have RA := Lib.hid (RE V (Nat.le_refl _))
          have RB := Lib.hid ((RE V (Nat.le_refl _)).alloc (.cells #[.int .i64 x] 3))
          have rc := RE (V.alloc (.cells #[.int .i64 x] 3)) (by rw [World.size_alloc]; omega)
          rw [World.size_alloc] at rc
          have RC := Lib.hid rc
          have BA := Lib.hid ((Below.refl N8 V).alloc (by omega) (.cells #[] 3))
          have BB := Lib.hid (((Below.refl N8 V).alloc (by omega) (.cells #[] 3)).alloc (by rw [World.size_alloc]; omega) (.cells #[.int .i64 x] 3))
          have BC := Lib.hid (((Below.refl N8 V).alloc (by omega) (.cells #[.int .i64 x] 3)).alloc (by rw [World.size_alloc]; omega) (.cells #[] 3))
          have xb := Boxed.new (V.alloc (.cells #[] 3)) 3 (.int .i64 x)
          rw [World.size_alloc] at xb
          have XB := Lib.hid xb
          have XC := Lib.hid ((Boxed.new V 3 (.int .i64 x)).alloc (.cells #[] 3))
          have HV8 : Hid (V = W8.drew) := Lib.hid eV
          have HN8 : Hid (N8 = W8.heap.size) := Lib.hid eN8
          have BV := Lib.hid (Below.refl N8 V)
          have HBW8 := Lib.hid BW8
          have HNW : Hid (w.heap.size ≤ W8.heap.size) := Lib.hid (by rw [hs8]; exact HBX.out.size)
          have hcV : V.cell? ⟨blk, off + k, none⟩ = some (.int .i64 x) := by rw [eV]; exact hc8
          have far : ∀ W, Below N8 V W → W.cell? ⟨blk, off + k, none⟩ = some (.int .i64 x) := fun W hW => (hW.cell (p := ⟨blk, off + k, none⟩) hblk8).trans hcV
          have hcA : ∀ o, (V.alloc o).cell? ⟨blk, off + k, none⟩ = some (.int .i64 x) := fun o => far _ ((Below.refl N8 V).alloc (by omega) o)
          have hcB : ∀ o o', ((V.alloc o).alloc o').cell? ⟨blk, off + k, none⟩ = some (.int .i64 x) := fun o o' => far _ (((Below.refl N8 V).alloc (by omega) o).alloc (by rw [World.size_alloc]; omega) o')
          have FAR := Lib.hid far
          have HNL : Hid (N8 ≤ V.heap.size) := Lib.hid (by omega)
          clear eoq eN8 far hs8 B8 R8 BW8 RE hVs hcx hbV hc8 HV8
          subst eV
          have NEB : some (W8.drew.heap.size + 1) ≠ (Value.slice (some ⟨W8.heap.size, 0, none⟩) 0 0).ownBlock := fun e => by
            have e2 : some (W8.heap.size + 1) = some W8.heap.size := e
            injection e2 with e3
            omega
          have NEC : some W8.drew.heap.size ≠ (Value.slice (some ⟨W8.heap.size + 1, 0, none⟩) 0 0).ownBlock := fun e => by
            have e2 : some W8.heap.size = some (W8.heap.size + 1) := e
            injection e2 with e3
            omega
          clear xb rc
          go_region_held_law (fun w' => w'.cell? ⟨blk, off + k, none⟩ = some (.int .i64 x)) (first | assumption | exact hcA _ | exact hcB _ _ | exact hx1a _) (first
            | (refine step_list rfl (.tmp 31) (.tmp 34) rfl (W8.drew.alloc (.cells #[] 3)) N8 (.slice (some ⟨W8.heap.size, 0, none⟩) 0 0) [] (xs.take q) b 0 q _ rfl HTQ.out rfl RA.out (HCT.out _ BA.out) (Nat.le_trans HNL.out BA.out.size) (by rw [List.length_nil, HTQ.out]; omega) ?_
               intro v1 w1 hv1 hb1 hg1 ha1
               rw [List.nil_append] at hv1
               have R1 := Lib.hid hv1.out
               have B1 := Lib.hid (BA.out.trans hb1.out)
               have hx1 := FAR.out _ B1.out
               have hx1a : ∀ o, (w1.alloc o).cell? ⟨blk, off + k, none⟩ = some (.int .i64 x) := fun o => FAR.out _ (B1.out.alloc (Nat.le_trans HNL.out B1.out.size) o)
               clear hv1 hb1 hg1 ha1)
            | (refine step_list rfl (.tmp 31) (.tmp 34) rfl ((W8.drew.alloc (.cells #[] 3)).alloc (.cells #[.int .i64 x] 3)) N8 (.slice (some ⟨W8.heap.size, 0, none⟩) 0 0) [] (xs.take q) b 0 q _ rfl HTQ.out rfl RB.out (HCT.out _ BB.out) (Nat.le_trans HNL.out BB.out.size) (by rw [List.length_nil, HTQ.out]; omega) ?_
               intro v1 w1 hv1 hb1 hg1 ha1
               rw [List.nil_append] at hv1
               have R1 := Lib.hid hv1.out
               have B1 := Lib.hid (BB.out.trans hb1.out)
               have hx1 := FAR.out _ B1.out
               have hx1a : ∀ o, (w1.alloc o).cell? ⟨blk, off + k, none⟩ = some (.int .i64 x) := fun o => FAR.out _ (B1.out.alloc (Nat.le_trans HNL.out B1.out.size) o)
               have H40 := Lib.hid ((XB.out.kept hg1.out NEB).cell)
               clear hv1 hb1 hg1 ha1)
            | (refine step_list rfl (.tmp 31) (.tmp 34) rfl ((W8.drew.alloc (.cells #[.int .i64 x] 3)).alloc (.cells #[] 3)) N8 (.slice (some ⟨W8.heap.size + 1, 0, none⟩) 0 0) [] (xs.take q) b 0 q _ rfl HTQ.out rfl RC.out (HCT.out _ BC.out) (Nat.le_trans HNL.out BC.out.size) (by rw [List.length_nil, HTQ.out]; omega) ?_
               intro v1 w1 hv1 hb1 hg1 ha1
               rw [List.nil_append] at hv1
               have R1 := Lib.hid hv1.out
               have B1 := Lib.hid (BC.out.trans hb1.out)
               have hx1 := FAR.out _ B1.out
               have hx1a : ∀ o, (w1.alloc o).cell? ⟨blk, off + k, none⟩ = some (.int .i64 x) := fun o => FAR.out _ (B1.out.alloc (Nat.le_trans HNL.out B1.out.size) o)
               have H40 := Lib.hid ((XC.out.kept hg1.out NEC).cell)
               clear hv1 hb1 hg1 ha1)
            | (refine step_list rfl (.tmp 35) (.tmp 40) rfl (w1.alloc (.cells #[.int .i64 x] 3)) N8 v1 (xs.take q) [x] w1.heap.size 0 1 1 rfl rfl rfl (Row.alloc R1.out _) (one_cells (Boxed.new w1 3 (.int .i64 x)).cell) (Nat.le_trans HNL.out (B1.out.alloc (Nat.le_trans HNL.out B1.out.size) _).size) (by rw [HTQ.out, List.length_singleton]; omega) ?_
               intro v2 w2 hv2 hb2 hg2 ha2
               have R2 := Lib.hid hv2.out
               have B2 := Lib.hid (B1.out.trans (((Below.refl N8 w1).alloc (Nat.le_trans HNL.out B1.out.size) _).trans hb2.out))
               have hx2 := FAR.out _ B2.out
               clear hv2 hb2 hg2 ha2)
            | (refine step_list rfl (.tmp 35) (.tmp 40) rfl w1 N8 v1 (xs.take q) [x] (W8.heap.size + 1) 0 1 1 rfl rfl rfl R1.out (one_cells H40.out) (Nat.le_trans HNL.out B1.out.size) (by rw [HTQ.out, List.length_singleton]; omega) ?_
               intro v2 w2 hv2 hb2 hg2 ha2
               have R2 := Lib.hid hv2.out
               have B2 := Lib.hid (B1.out.trans (hb2.out))
               have hx2 := FAR.out _ B2.out
               clear hv2 hb2 hg2 ha2)
            | (refine step_list rfl (.tmp 35) (.tmp 40) rfl w1 N8 v1 (xs.take q) [x] (W8.heap.size) 0 1 1 rfl rfl rfl R1.out (one_cells H40.out) (Nat.le_trans HNL.out B1.out.size) (by rw [HTQ.out, List.length_singleton]; omega) ?_
               intro v2 w2 hv2 hb2 hg2 ha2
               have R2 := Lib.hid hv2.out
               have B2 := Lib.hid (B1.out.trans (hb2.out))
               have hx2 := FAR.out _ B2.out
               clear hv2 hb2 hg2 ha2)
            | (refine step_list rfl (.tmp 41) (.tmp 44) rfl w2 N8 v2 (xs.take q ++ [x]) (xs.drop q) b oq (k - q) _ rfl HDQ.out (HIF.out _ _) R2.out (HCD.out _ B2.out) (Nat.le_trans HNL.out B2.out.size) (by rw [List.length_append, HTQ.out, HDQ.out, List.length_singleton]; omega) ?_
               intro v3 w3 hv3 hb3 hg3 ha3
               obtain ⟨gb, gc, hgc, rfl⟩ := row_shape (m := k) hv3.out (by rw [List.length_append, List.length_append, HTQ.out, HDQ.out, List.length_singleton]; omega)
               have R3 := Lib.hid hv3.out
               have B3 := Lib.hid (B2.out.trans hb3.out)
               have hx3 := FAR.out _ B3.out
               clear hv3 hb3 hg3 ha3))
          all_goals
            go_wp2
            go_roundw
            case rel => exact ⟨k + 1, gb, gc, by omega, by go_num, rfl, hgc, Lib.hid (by
              have h0 := R3.out
              have h1 := HPUT.out
              unfold putAt at h1
              rw [h1] at h0
              exact Row.mono h0 (by have := HN8.out; have := HNW.out; omega)), Lib.hid (HBW8.out.trans (B3.out.mono (by have := HN8.out; have := HNW.out; omega)))⟩
            case measure => simp [intOf]; omega
    · have hkn : k = n := by omega
      subst hkn
      go_wp2
      go_ret
      exact ⟨_, rfl, by have h0 := hr.out; rw [HN.out, List.take_length] at h0; rw [HN.out]; exact h0, hb.out⟩
end Go.Proofs.YtogmfbhnnnoipaaDoor
