/- Texts in one: PutIn, Draw, DrawGraph, DrawOpen, Rdr, RdrGraph, RdrBelow, CameBytes. -/
import Derived.Test.YtamabhdbcmjbjaaDoorBaseA
import Derived.Deep.RegionHeldLaw
import Derived.WideShapes
import Derived.BigQuiet
import Derived.StillTailTactics

/- append of a list that lies somewhere, in a region that draws its order. -/





namespace Go.Proofs.YtamabhdbcmjbjaaDoor
open Go.RowKit
set_option linter.unusedVariables false
set_option maxRecDepth 100000

/-- append of a list that lies somewhere, as a step of a region that draws its order. -/
theorem step_list {ops : Array Oper} {o : Oper} {a : Act} {K : Act → World → Prop} {Q : Exit → Act → World → Prop} {E : Prop} (hgd : o.guard = none) (s x : Operand)
    (ho : o.op = .call { callee := .builtin .append, args := #[s, x], argTypes := #[23, 23] }) (w : World) (B : Nat) (v : Value) (xs ys : List Int) (b off m c : Nat)
    (hs : a.eval s = v) (hm : ys.length = m) (hx : a.eval x = .slice (some ⟨b, off, none⟩) m c) (hr : Row w B v xs) (hy : ∀ k, k < ys.length → w.cell? ⟨b, off + k, none⟩ = some (.int .i64 (ys[k]?.getD 0))) (hB : B ≤ w.heap.size) (hlen : xs.length + ys.length ≤ 100000)
    (h : ∀ v' w', Hid (Row w' B v' (xs ++ ys)) → Hid (Below B w w') → Hid (w.grownBy w' v.ownBlock) → Hid (v'.ownBlock = v.ownBlock ∨ v'.ownBlock = some w.heap.size) → K (a.put o.dst v') w') :
    if Region.wanted o (yielded ops a.tmps) = true then Oper.wp Tryd.prog o a w K Q else E := by
  rw [if_pos (by simp [Region.wanted, hgd])]
  obtain ⟨i0, hi, hz0, hz1, hz2⟩ := info_parts infoInt
  obtain ⟨v', w', hrun, hown, hg, _, hat⟩ := run_append_own_at (P := Tryd.prog) w B 23 o.type 3 i0 (.int .i64 0) 1 8 Tryd.underlying23 hi hz0 hz1 hz2 rfl (by decide) v xs.length (xs.map (Value.int .i64)) hr
    ⟨b, off, none⟩ m c (ys.map (Value.int .i64)) (by simp [hm]) (fun j u hu => by
      rw [List.getElem?_map] at hu
      cases hj : ys[j]? with
      | none => rw [hj] at hu; simp at hu
      | some y =>
        rw [hj] at hu
        have hjl : j < ys.length := (List.getElem?_eq_some_iff.1 hj).1
        have h1 := hy j hjl
        rw [hj] at h1
        rw [Go.WideShapes.add_plain, h1]
        simpa using hu) (by simp [Value.oneCell']) (by unfold maxLen; omega) (by omega) hB
  unfold Oper.wp execOp
  simp only [ho, resolve, invoke, builtin, Sem.run_bind, Sem.run_pure, Result.andThen_ok, List.map_toArray, List.map_cons, List.map_nil, hs, hx, hrun]
  refine h v' w' ?_ ?_ hg hat
  · unfold Hid Row
    rw [List.length_append, List.map_append, hm]
    exact hown
  · exact (Below.refl B w).grown hg hB (fun k hk => (hr.lt k hk).1)

theorem row_shape {w : World} {B : Nat} {v : Value} {xs : List Int} {m : Nat} (h : Row w B v xs) (hl : xs.length = m + 1) : ∃ g cap, m + 1 ≤ cap ∧ v = .slice (some ⟨g, 0, none⟩) (m + 1) cap := by
  rcases h.2 with ⟨_, h0⟩ | ⟨g, cap, cur, rfl, _, _, h1, _⟩
  · omega
  · exact ⟨g, cap, by omega, by rw [hl]⟩
theorem one_cells {W : World} {g : Nat} {x : Int} (h : W.cell? ⟨g, 0, none⟩ = some (.int .i64 x)) : ∀ k, k < [x].length → W.cell? ⟨g, 0 + k, none⟩ = some (.int .i64 ([x][k]?.getD 0)) := fun k hk => by
  have hk0 : k = 0 := by simpa using hk
  subst hk0
  exact h
end Go.Proofs.YtamabhdbcmjbjaaDoor

/- Drawing: a reader of bytes answers numbers below a bound. -/






namespace Go.Proofs.YtamabhdbcmjbjaaDoor
open Go Go.RowKit
set_option linter.unusedVariables false
set_option maxRecDepth 100000

theorem i64_xor_natD (a b : Nat) (ha : a < 9223372036854775808) (hb : b < 9223372036854775808) : bits .xor .i64 (a : Int) (b : Int) = ((a ^^^ b : Nat) : Int) :=
  unword (BitVec.ofInt 64 (a : Int) ^^^ BitVec.ofInt 64 (b : Int)) _ (by rw [BitVec.toNat_xor, word a ha, word b hb]) (Nat.xor_lt_two_pow ha hb)
theorem xor_powD (x k : Nat) (h : k ≤ 40) (hx : x < 9223372036854775808) : bits .xor .i64 (x : Int) (wrap64 ((2 : Int) ^ k)) = ((x ^^^ 2 ^ k : Nat) : Int) := by
  have h1 := pow_le k 40 h
  rw [wrap_pow k h, i64_xor_natD x _ hx (by omega)]


/-- Bytes as a slice shows them. -/
def Byts (w : World) (A : Option Addr) (bs : List Nat) : Prop :=
  ∀ k, k < bs.length → ∃ b off, A = some ⟨b, off, none⟩ ∧ b < w.heap.size ∧ bs[k]?.getD 0 < 256 ∧ w.cell? ⟨b, off + k, none⟩ = some (.int .u8 (bs[k]?.getD 0 : Nat))
/-- The bytes, if any, lie in a block below B. -/
def Under (A : Option Addr) (bs : List Nat) (B : Nat) : Prop := 0 < bs.length → ∀ b off, A = some ⟨b, off, none⟩ → b < B
theorem Under.mono {A : Option Addr} {bs : List Nat} {B B' : Nat} (h : Under A bs B) (hB : B ≤ B') : Under A bs B' := fun h0 b off e => Nat.lt_of_lt_of_le (h h0 b off e) hB
theorem Byts.below {w w' : World} {B : Nat} {A : Option Addr} {bs : List Nat} (h : Byts w A bs) (hb : Below B w w') (hB : Under A bs B) : Byts w' A bs := fun k hk => by
  obtain ⟨b, off, hA, hlt, h256, hc⟩ := h k hk
  exact ⟨b, off, hA, Nat.lt_of_lt_of_le hlt hb.size, h256, (hb.cell (p := ⟨b, off + k, none⟩) (hB (by omega) b off hA)).trans hc⟩
/-- The reader's box. -/
def RdAt (w : World) (R : Nat) (A : Option Addr) (n c p : Nat) : Prop := w.heap[R]? = some (.cells #[.slice A n c, .int .i64 (p : Nat)] 88 (0, 0))
theorem RdAt.cell0 {w : World} {R : Nat} {A : Option Addr} {n c p : Nat} (h : RdAt w R A n c p) : w.cell? ⟨R, 0, none⟩ = some (.slice A n c) := by rw [cell_of_row w R _ _ _ _ h]; rfl
theorem RdAt.cell1 {w : World} {R : Nat} {A : Option Addr} {n c p : Nat} (h : RdAt w R A n c p) : w.cell? ⟨R, 1, none⟩ = some (.int .i64 (p : Nat)) := by rw [cell_of_row w R _ _ _ _ h]; rfl
theorem RdAt.frozen {w : World} {R : Nat} {A : Option Addr} {n c p : Nat} (h : RdAt w R A n c p) (k : Nat) : w.frozen? ⟨R, k, none⟩ = false := frozen_of_row w R k _ _ h
theorem RdAt.next {w : World} {R : Nat} {A : Option Addr} {n c p : Nat} (h : RdAt w R A n c p) (q : Nat) : RdAt (w.setCell ⟨R, 1, none⟩ (.int .i64 (q : Nat))) R A n c q := by
  unfold RdAt
  rw [heap_setCell_same w R _ _ _ _ h]
  rfl
theorem RdAt.lt {w : World} {R : Nat} {A : Option Addr} {n c p : Nat} (h : RdAt w R A n c p) : R < w.heap.size := (Array.getElem?_eq_some_iff.1 h).1

/-- A number below m is picked; the reader alone has changed. -/
def Picked (w : World) (R m p : Nat) (e : Ending) (w' : World) : Prop := ∃ x d : Nat, x < m ∧ e = .returned (.int .i64 (x : Nat)) ∧ w' = (w.setCell ⟨R, 1, none⟩ (.int .i64 ((p + 1 : Nat) : Nat))).drewN d

theorem wrap_idD {x : Int} (h1 : -9223372036854775808 ≤ x) (h2 : x < 9223372036854775808) : wrap64 x = x := by unfold wrap64; omega
theorem wrapN (a : Nat) (h : a < 9223372036854775808) : IntKind.i64.wrap ((a : Nat) : Int) = ((a : Nat) : Int) := by
  have e : ∀ x, IntKind.i64.wrap x = wrap64 x := fun x => by rw [IntKind.wrap_i64]; unfold wrap64; rfl
  rw [e]
  exact wrap_idD (by omega) (by omega)
theorem tmodN (a b : Nat) : ((a : Nat) : Int).tmod ((b : Nat) : Int) = ((a % b : Nat) : Int) := by rw [Int.tmod_eq_emod_of_nonneg (by omega)]; exact (Int.natCast_emod a b).symm
theorem tdivN (a b : Nat) : ((a : Nat) : Int).tdiv ((b : Nat) : Int) = ((a / b : Nat) : Int) := by rw [Int.tdiv_eq_ediv_of_nonneg (by omega)]; exact (Int.natCast_ediv a b).symm

set_option maxHeartbeats 4000000 in
theorem pick_any (R : Nat) (A : Option Addr) (c p m : Nat) (bs : List Nat) (hm : 1 ≤ m) (hm2 : m ≤ 1000) (hp : p ≤ 100000) (hl : bs.length ≤ 2000) (w : World) (hR : RdAt w R A bs.length c p) (hb : Byts w A bs) (hAR : Under A bs R) :
    Calls Tryd.prog 51 #[.pointer (some ⟨R, 0, none⟩), .int .i64 (m : Nat)] w (Picked w R m p) := by
  have c0 := hR.cell0
  have c1 := hR.cell1
  have f1 := hR.frozen 1
  have hR2 := hR.next (p + 1)
  have hp1 : ((p : Nat) : Int) + 1 = ((p + 1 : Nat) : Int) := by omega
  have wp1 := wrapN (p + 1) (by omega)
  obtain ⟨P, eP⟩ : ∃ P, P = p + 1 := ⟨_, rfl⟩
  have hcB : ∀ k, k < bs.length → ∃ b off, A = some ⟨b, off, none⟩ ∧ bs[k]?.getD 0 < 256 ∧ (w.setCell ⟨R, 1, none⟩ (.int .i64 (P : Nat))).cell? ⟨b, off + k, none⟩ = some (.int .u8 (bs[k]?.getD 0 : Nat)) := fun k hk => by
    obtain ⟨b, off, hA, hlt, h256, hc⟩ := hb k hk
    exact ⟨b, off, hA, h256, (World.cell?_setCell_other w _ _ _ (by intro e; injection e with e1; have := hAR (by omega) b off hA; omega)).trans hc⟩
  rw [← eP] at hR2 hp1 wp1
  have g0 := hR2.cell0
  have g1 := hR2.cell1
  have hP1 : ((P : Nat) : Int) - 1 = ((p : Nat) : Int) := by omega
  have wp := wrapN p (by omega)
  have hml : decide (((m : Nat) : Int) < 1) = false := decide_eq_false (by omega)
  have hm0 : (((m : Nat) : Int) == 0) = false := by simp; omega
  obtain ⟨n, hn⟩ : ∃ n, n = bs.length := ⟨_, rfl⟩
  rw [← hn] at c0 g0 hcB hl
  have HC := Lib.hid hcB
  have EP := Lib.hid eP
  have HF := Lib.hid (show ∀ x d : Nat, x < m → Picked w R m p (.returned (.int .i64 (x : Nat))) ((w.setCell ⟨R, 1, none⟩ (.int .i64 (P : Nat))).drewN d) from fun x d hx => ⟨x, d, hx, rfl, by rw [eP]⟩)
  clear hcB hb hR hR2 hn hAR eP
  by_cases h0 : n = 0
  · have hn0 : (((n : Nat) : Int) == 0) = true := by simp; omega
    go_enter Tryd.func51, Tryd.ntmps51
    go_wp2
    go_ret
    exact HF.out 0 0 (by omega)
  · have hn0 : (((n : Nat) : Int) == 0) = false := by simp; omega
    by_cases hk : p < n
    · have hkd : decide (((p : Nat) : Int) < ((n : Nat) : Int)) = true := decide_eq_true (by omega)
      obtain ⟨b, off, rfl, h256, hc⟩ := HC.out p hk
      obtain ⟨y, ey⟩ : ∃ y, y = bs[p]?.getD 0 := ⟨_, rfl⟩
      rw [← ey] at h256 hc
      have hi : (0 : Int) ≤ (p : Int) ∧ (p : Int) < (n : Int) := by omega
      have r1 := tmodN y m
      have q1 := Nat.mod_lt y (show 0 < m by omega)
      obtain ⟨x, ex⟩ : ∃ x, x = y % m := ⟨_, rfl⟩
      rw [← ex] at r1 q1
      have wy := wrapN y (by omega)
      have wx := wrapN x (by omega)
      clear ey ex
      go_enter Tryd.func51, Tryd.ntmps51
      go_wp2
      go_ret
      exact HF.out x 0 q1
    · have hkd : decide (((p : Nat) : Int) < ((n : Nat) : Int)) = false := decide_eq_false (by omega)
      obtain ⟨i1, e1⟩ : ∃ i1, i1 = p % n := ⟨_, rfl⟩
      have hi1 : i1 < n := by rw [e1]; exact Nat.mod_lt _ (by omega)
      obtain ⟨i2, e2⟩ : ∃ i2, i2 = (p * 7 + 3) % n := ⟨_, rfl⟩
      have hi2 : i2 < n := by rw [e2]; exact Nat.mod_lt _ (by omega)
      obtain ⟨b, off, rfl, h256, hc1⟩ := HC.out i1 hi1
      obtain ⟨b', off', hA, h256', hc2⟩ := HC.out i2 hi2
      obtain ⟨rfl, rfl⟩ : b = b' ∧ off = off' := by injection hA with e; injection e with e1 e2; exact ⟨e1, e2⟩
      clear hA
      obtain ⟨y1, ey1⟩ : ∃ y1, y1 = bs[i1]?.getD 0 := ⟨_, rfl⟩
      rw [← ey1] at h256 hc1
      obtain ⟨y2, ey2⟩ : ∃ y2, y2 = bs[i2]?.getD 0 := ⟨_, rfl⟩
      rw [← ey2] at h256' hc2
      have j1 : (0 : Int) ≤ (i1 : Int) ∧ (i1 : Int) < (n : Int) := by omega
      have j2 : (0 : Int) ≤ (i2 : Int) ∧ (i2 : Int) < (n : Int) := by omega
      have t1 : ((p : Nat) : Int).tmod ((n : Nat) : Int) = (i1 : Nat) := by rw [tmodN, e1]
      have u1 : wrap64 ((i1 : Nat) : Int) = (i1 : Nat) := wrap_idD (by omega) (by omega)
      obtain ⟨a1, ea1⟩ : ∃ a, a = y1 * 131 := ⟨_, rfl⟩
      have t2 : ((y1 : Nat) : Int) * 131 = (a1 : Nat) := by omega
      obtain ⟨b1, eb1⟩ : ∃ a, a = p * 7 := ⟨_, rfl⟩
      have t3 : ((p : Nat) : Int) * 7 = (b1 : Nat) := by omega
      obtain ⟨b2, eb2⟩ : ∃ a, a = b1 + 3 := ⟨_, rfl⟩
      have t4 : ((b1 : Nat) : Int) + 3 = (b2 : Nat) := by omega
      have t5 : ((b2 : Nat) : Int).tmod ((n : Nat) : Int) = (i2 : Nat) := by rw [tmodN, e2, eb2, eb1]
      obtain ⟨a2, ea2⟩ : ∃ a, a = y2 * 1117 := ⟨_, rfl⟩
      have t6 : ((y2 : Nat) : Int) * 1117 = (a2 : Nat) := by omega
      obtain ⟨a3, ea3⟩ : ∃ a, a = a1 + a2 := ⟨_, rfl⟩
      have t7 : ((a1 : Nat) : Int) + ((a2 : Nat) : Int) = (a3 : Nat) := by omega
      obtain ⟨a4, ea4⟩ : ∃ a, a = p * 29 := ⟨_, rfl⟩
      have t8 : ((p : Nat) : Int) * 29 = (a4 : Nat) := by omega
      obtain ⟨a5, ea5⟩ : ∃ a, a = a3 + a4 := ⟨_, rfl⟩
      have t9 : ((a3 : Nat) : Int) + ((a4 : Nat) : Int) = (a5 : Nat) := by omega
      obtain ⟨a6, ea6⟩ : ∃ a, a = p / n := ⟨_, rfl⟩
      have t10 : ((p : Nat) : Int).tdiv ((n : Nat) : Int) = (a6 : Nat) := by rw [tdivN, ea6]
      have l6 : a6 ≤ p := by rw [ea6]; exact Nat.div_le_self _ _
      obtain ⟨a7, ea7⟩ : ∃ a, a = a6 * 53 := ⟨_, rfl⟩
      have t11 : ((a6 : Nat) : Int) * 53 = (a7 : Nat) := by omega
      obtain ⟨a8, ea8⟩ : ∃ a, a = a5 + a7 := ⟨_, rfl⟩
      have t12 : ((a5 : Nat) : Int) + ((a7 : Nat) : Int) = (a8 : Nat) := by omega
      obtain ⟨a9, ea9⟩ : ∃ a, a = a8 / 64 := ⟨_, rfl⟩
      have t13 : ((a8 : Nat) : Int).tdiv 64 = (a9 : Nat) := by rw [ea9]; exact tdivN a8 64
      have l9 : a9 ≤ a8 := by rw [ea9]; exact Nat.div_le_self _ _
      have s8 : a8 < 100000000 := by omega
      obtain ⟨x0, ex0⟩ : ∃ a, a = a8 ^^^ a9 := ⟨_, rfl⟩
      have t14 : bits .xor .i64 ((a8 : Nat) : Int) ((a9 : Nat) : Int) = (x0 : Nat) := by rw [ex0]; exact i64_xor_natD a8 a9 (by omega) (by omega)
      have lx : x0 < 2 ^ 62 := by rw [ex0]; exact Nat.xor_lt_two_pow (by omega) (by omega)
      have lx2 : x0 < 9223372036854775808 := Nat.lt_trans lx (by decide)
      obtain ⟨x, ex⟩ : ∃ x, x = x0 % m := ⟨_, rfl⟩
      have t15 : ((x0 : Nat) : Int).tmod ((m : Nat) : Int) = (x : Nat) := by rw [tmodN, ex]
      have q1 : x < m := by rw [ex]; exact Nat.mod_lt _ (by omega)
      have w1 := wrapN a1 (by omega)
      have w2 := wrapN b1 (by omega)
      have w3 := wrapN b2 (by omega)
      have w4 := wrapN a2 (by omega)
      have w5 := wrapN a3 (by omega)
      have w6 := wrapN a4 (by omega)
      have w7 := wrapN a5 (by omega)
      have w8 := wrapN a6 (by omega)
      have w9 := wrapN a7 (by omega)
      have w10 := wrapN a8 (by omega)
      have w11 := wrapN a9 (by omega)
      have w12 := wrapN i1 (Nat.lt_trans hi1 (Nat.lt_of_le_of_lt hl (by decide)))
      have w13 := wrapN i2 (Nat.lt_trans hi2 (Nat.lt_of_le_of_lt hl (by decide)))
      have w14 := wrapN x (Nat.lt_trans q1 (Nat.lt_of_le_of_lt hm2 (by decide)))
      have w15 := wrapN y1 (Nat.lt_trans h256 (by decide))
      have w16 := wrapN y2 (Nat.lt_trans h256' (by decide))
      have w17 := wrapN x0 lx2
      clear e1 e2 ey1 ey2 ea1 eb1 eb2 ea2 ea3 ea4 ea5 ea6 ea7 ea8 ea9 ex0 ex lx lx2 l6 l9 s8 u1
      go_enter Tryd.func51, Tryd.ntmps51
      go_wp2
      go_quiet (fail)
      go_wp2
      go_ret
      exact HF.out x _ q1
end Go.Proofs.YtamabhdbcmjbjaaDoor

/- A list of some nodes is drawn: a graph, seldom another list. What holds: it is a list of its own of that length. -/


namespace Go.Proofs.YtamabhdbcmjbjaaDoor
open Go Go.RowKit
set_option linter.unusedVariables false
set_option maxRecDepth 100000

theorem at_worldD {P : World → Prop} (w : World) (h : ∀ W, W = w → P W) : P w := h w rfl
/-- What stands while a list is drawn. -/
def GrI (w wr : World) (R G n : Nat) (A : Option Addr) (c lim : Nat) (bs : List Nat) : Prop :=
  (∃ p, p ≤ lim ∧ RdAt wr R A bs.length c p) ∧ (∃ xs, xs.length = n ∧ Row wr R (.slice (some ⟨G, 0, none⟩) n n) xs) ∧ Byts wr A bs ∧ Below R w wr ∧ w.heap.size ≤ G ∧ w.grownBy wr (some R)
theorem GrI.more {w wr : World} {R G n : Nat} {A : Option Addr} {c lim lim' : Nat} {bs : List Nat} (h : GrI w wr R G n A c lim bs) (hl : lim ≤ lim') : GrI w wr R G n A c lim' bs := by
  obtain ⟨⟨p, hp, hR⟩, h2⟩ := h
  exact ⟨⟨p, by omega, hR⟩, h2⟩
theorem GrI.drew {w wr : World} {R G n : Nat} {A : Option Addr} {c lim : Nat} {bs : List Nat} (h : GrI w wr R G n A c lim bs) : GrI w wr.drew R G n A c lim bs := by
  obtain ⟨⟨p, hp, hR⟩, ⟨xs, hl, hr⟩, hb, hbe, hG, hgr⟩ := h
  exact ⟨⟨p, hp, hR⟩, ⟨xs, hl, hr⟩, hb, hbe.drew, hG, grown_drew hgr⟩
theorem GrI.set {w wr : World} {R G n : Nat} {A : Option Addr} {c lim : Nat} {bs : List Nat} (h : GrI w wr R G n A c lim bs) (hRG : R < G) (hAR : Under A bs R) {k : Nat} (hk : k < n) (x : Int) :
    GrI w (wr.setCell ⟨G, k, none⟩ (.int .i64 x)) R G n A c lim bs := by
  obtain ⟨⟨p, hp, hR⟩, ⟨xs, hl, hr⟩, hb, hbe, hG, hgr⟩ := h
  have hbG : Below G wr (wr.setCell ⟨G, k, none⟩ (.int .i64 x)) := (Below.refl G wr).setCell (p := ⟨G, k, none⟩) (Nat.le_refl _) _
  refine ⟨⟨p, hp, (hbG.block R hRG).trans hR⟩, ⟨xs.set k x, by rw [List.length_set]; exact hl, hr.set k (by omega) x⟩, hb.below hbG (hAR.mono (Nat.le_of_lt hRG)), hbe.setCell (p := ⟨G, k, none⟩) (Nat.le_of_lt hRG) _, hG, World.grownBy.andThen hgr (grown_set (World.grownBy.refl wr (some G)) k _) (fun j hj => .inl (by cases hj; exact hG))⟩
theorem GrI.cells {w wr : World} {R G n : Nat} {A : Option Addr} {c lim : Nat} {bs : List Nat} (h : GrI w wr R G n A c lim bs) {k : Nat} (hk : k < n) : ∃ o, wr.cell? ⟨G, k, none⟩ = some (.int .i64 o) ∧ wr.frozen? ⟨G, k, none⟩ = false := by
  obtain ⟨_, ⟨xs, hl, hr⟩, _⟩ := h
  exact ⟨_, hr.cellAt k (by omega), hr.frozenAt k (by omega)⟩
/-- How a list is drawn: it is its own, and the reader goes on. -/
def Drawn (w : World) (R n : Nat) (A : Option Addr) (c lim : Nat) (bs : List Nat) (e : Ending) (w' : World) : Prop :=
  ∃ v L, e = .returned v ∧ L.length = n ∧ Row w' R v L ∧ Below R w w' ∧ (∃ q, q ≤ lim ∧ RdAt w' R A bs.length c q) ∧ Byts w' A bs ∧ (∃ g, R < g ∧ (w.heap.size ≤ g ∧ w.grownBy w' (some R)) ∧ v.ownBlock = some g)
theorem GrI.done {w wr : World} {R G n : Nat} {A : Option Addr} {c lim lim' : Nat} {bs : List Nat} (h : GrI w wr R G n A c lim bs) (hl : lim ≤ lim') (hG : R < G) (hG2 : w.heap.size ≤ G) :
    Drawn w R n A c lim' bs (.returned (.slice (some ⟨G, 0, none⟩) n n)) wr := by
  obtain ⟨⟨p, hp, hR⟩, ⟨xs, hxl, hr⟩, hb, hbe, _, hgr⟩ := h
  exact ⟨_, _, rfl, hxl, hr, hbe, ⟨p, by omega, hR⟩, hb, G, hG, ⟨hG2, hgr⟩, rfl⟩
theorem GrI.pick {w wr : World} {R G n : Nat} {A : Option Addr} {c lim : Nat} {bs : List Nat} (h : GrI w wr R G n A c lim bs) (hRG : R < G) (hAR : Under A bs R) (m : Nat) (hm : 1 ≤ m) (hm2 : m ≤ 1000) (hlim : lim ≤ 100000) (hl : bs.length ≤ 2000) :
    Calls Tryd.prog 51 #[.pointer (some ⟨R, 0, none⟩), .int .i64 (m : Nat)] wr fun e w' => ∃ x : Nat, x < m ∧ e = .returned (.int .i64 (x : Nat)) ∧ Hid (GrI w w' R G n A c (lim + 1) bs) := by
  obtain ⟨⟨p, hp, hR⟩, ⟨xs, hxl, hr⟩, hb, hbe, hG, hgr⟩ := h
  refine (pick_any R A c p m bs hm hm2 (by omega) hl wr hR hb hAR).mono ?_
  rintro e w' ⟨x, d, hx, rfl, rfl⟩
  refine ⟨x, hx, rfl, Lib.hid ?_⟩
  have hbR : Below R wr (wr.setCell ⟨R, 1, none⟩ (.int .i64 ((p + 1 : Nat) : Nat))) := (Below.refl R wr).setCell (p := ⟨R, 1, none⟩) (Nat.le_refl _) _
  have gk : wr.grownBy (wr.setCell ⟨R, 1, none⟩ (.int .i64 ((p + 1 : Nat) : Nat))) (some R) := grown_set (World.grownBy.refl wr (some R)) 1 _
  have hr2 : Row (wr.setCell ⟨R, 1, none⟩ (.int .i64 ((p + 1 : Nat) : Nat))) R (.slice (some ⟨G, 0, none⟩) n n) xs := World.ownsRow.kept hr gk (.inr (by intro e; injection e with e; dsimp only at e; omega))
  exact ⟨⟨p + 1, by omega, hR.next (p + 1)⟩, ⟨xs, hxl, hr2.drewN d⟩, hb.below (below_drewN hbR d) hAR, below_drewN (hbe.trans hbR) d, hG, grown_drewN (World.grownBy.trans hgr gk) d⟩

theorem grown_madeW (w : World) (n R : Nat) : w.grownBy (madeW w n) (some R) :=
  ⟨rfl, rfl, rfl, by rw [madeW_size]; omega, fun k hk _ => (madeW_below w n).block k hk⟩
set_option maxHeartbeats 16000000 in
theorem drawGraph_any7 (R : Nat) (A : Option Addr) (c p P0 n : Nat) (bs : List Nat) (h1 : 1 ≤ n) (h6 : n ≤ 7) (hp : p ≤ P0) (hP0 : P0 ≤ 10000) (hl : bs.length ≤ 2000) (w : World) (hR : RdAt w R A bs.length c p) (hb : Byts w A bs) (hAR : Under A bs R) :
    Calls Tryd.prog 50 #[.pointer (some ⟨R, 0, none⟩), .int .i64 (n : Nat)] w (Drawn w R n A c (P0 + 200) bs) := by
  have hmk := run_make_ints n (by omega)
  have hRl := hR.lt
  have hI0 : GrI w (madeW w n) R w.heap.size n A c P0 bs :=
    ⟨⟨p, hp, ((madeW_below w n).block R hRl).trans hR⟩, ⟨_, by rw [ints_length, List.length_replicate], (madeW_row w n (by omega)).mono (Nat.le_of_lt hRl)⟩, hb.below (madeW_below w n) (hAR.mono (Nat.le_of_lt hRl)), (madeW_below w n).mono (Nat.le_of_lt hRl), Nat.le_refl _, grown_madeW w n R⟩
  obtain ⟨G, eG⟩ : ∃ G, G = w.heap.size := ⟨_, rfl⟩
  rw [← eG] at hI0 hRl
  have HP := Lib.hid (fun (wr : World) (lim m : Nat) (h : GrI w wr R G n A c lim bs) (hm : 1 ≤ m) (hm2 : m ≤ 1000) (hlim : lim ≤ 100000) => h.pick hRl hAR m hm hm2 hlim hl)
  have HS := Lib.hid (fun (wr : World) (lim k : Nat) (h : GrI w wr R G n A c lim bs) (hk : k < n) (x : Int) => h.set hRl hAR hk x)
  have HI0 := Lib.hid hI0
  have EG := Lib.hid eG
  have HGG := Lib.hid (Nat.le_of_eq eG.symm)
  have HRG := Lib.hid hRl
  clear hI0 hl hR hb hAR hp eG
  go_enter Tryd.func50, Tryd.ntmps50
  go_wp2_with fail
  refine (HP.out _ P0 4 HI0.out (by omega) (by omega) (by omega)).mono ?_
  rintro e w1 ⟨kind, hk4, rfl, hr1⟩
  rw [← EG.out]
  clear hmk EG
  go_wp2
  go_loopw [7] (fun i wr => ∃ b : Nat, 1 ≤ b ∧ b ≤ n ∧ i = .int .i64 b ∧ Hid (GrI w wr R G n A c (P0 + 1 + 20 * b) bs)) (fun i _ => n + 1 - (intOf i).toNat)
  case atStart => exact ⟨1, by omega, by omega, rfl, Lib.hid (hr1.out.more (by omega))⟩
  case round =>
    obtain ⟨b, hb1, hbn, rfl, hr⟩ := hrel
    by_cases hlt : b < n
    · obtain ⟨wo, rfl⟩ : ∃ wo : World, wo = wr := ⟨_, rfl⟩
      go_wp2
      go_loopw [8] (fun i wr => ∃ a : Nat, a ≤ b ∧ i = .int .i64 a ∧ Hid (GrI w wr R G n A c (P0 + 1 + 20 * b + 2 * a) bs)) (fun i _ => b + 1 - (intOf i).toNat)
      case atStart => exact ⟨0, by omega, rfl, hr⟩
      case round =>
        obtain ⟨a, hab, rfl, hr⟩ := hrel
        by_cases hla : a < b
        · go_wp2_with fail
          refine (HP.out _ _ 2 hr.out (by omega) (by omega) (by omega)).mono ?_
          rintro e w2 ⟨x, hx2, rfl, hr2⟩
          have hne : a ≠ b := by omega
          have ha6 : a < 64 := by omega
          have hb6 : b < 64 := by omega
          have i1 : (0 : Int) ≤ (a : Int) ∧ (a : Int) < (n : Int) := by omega
          have i2 : (0 : Int) ≤ (b : Int) ∧ (b : Int) < (n : Int) := by omega
          have hw1 : wrap64 ((a : Int) + 1) = (a : Int) + 1 := wrap_idD (by omega) (by omega)
          have hw2 : wrap64 ((n : Int) - 1) = (n : Int) - 1 := wrap_idD (by omega) (by omega)
          by_cases k1 : kind = 1
          · have c0 : (((kind : Nat) : Int) == 0) = false := by simp; omega
            have c1 : (((kind : Nat) : Int) == 1) = true := by simp; omega
            clear k1
            go_wp2_with fail
            refine (HP.out _ _ 3 hr2.out (by omega) (by omega) (by omega)).mono ?_
            rintro e w3 ⟨y, hy3, rfl, hr3⟩
            obtain ⟨oa, ga, fa⟩ := hr3.out.cells (k := a) (by omega)
            obtain ⟨ob, gb, fb⟩ := hr3.out.cells (k := b) (by omega)
            have gb2 : ∀ z, (w3.setCell ⟨G, a, none⟩ z).cell? ⟨G, b, none⟩ = some (.int .i64 ob) := fun z => (World.cell?_setCell_other _ _ _ _ (by simp)).trans gb
            clear gb
            go_wp2
            all_goals first
              | exact ⟨⟨a + 1, by omega, congrArg (Value.int .i64) (by omega), Lib.hid (hr3.out.more (by omega))⟩, by simp [intOf]; omega⟩
              | (go_still_tail 10, (by kernel_rfl)
                 change wpList _ _ _ _ _ (World.drew _)
                 go_wp2
                 refine at_worldD (P := fun W => Code.wp _ _ _ _ W) _ ?_
                 intro w4 hw4
                 have hr4 : Hid (GrI w w4 R G n A c _ bs) := Lib.hid (by rw [hw4]; exact (HS.out _ _ a hr3.out (by omega) _).drew)
                 clear hw4 ga fa fb gb2
                 obtain ⟨ob4, gb4, fb4⟩ := hr4.out.cells (k := b) hlt
                 go_still_tail 10, (by kernel_rfl)
                 change wpList _ _ _ _ _ (World.drew _)
                 go_wp2
                 exact ⟨⟨a + 1, by omega, congrArg (Value.int .i64) (by omega), Lib.hid ((HS.out _ _ b hr4.out hlt _).drew.more (by omega))⟩, by simp [intOf]; omega⟩)
            
          · have c1 : (((kind : Nat) : Int) == 1) = false := by simp; omega
            obtain ⟨oa, ga, fa⟩ := hr2.out.cells (k := a) (by omega)
            obtain ⟨ob, gb, fb⟩ := hr2.out.cells (k := b) (by omega)
            have gb2 : ∀ z, (w2.setCell ⟨G, a, none⟩ z).cell? ⟨G, b, none⟩ = some (.int .i64 ob) := fun z => (World.cell?_setCell_other _ _ _ _ (by simp)).trans gb
            clear gb
            by_cases k0 : kind = 0
            · have c0 : (((kind : Nat) : Int) == 0) = true := by simp; omega
              clear k0 k1
              by_cases e1 : b = a + 1
              · have d1 : (((b : Nat) : Int) == (a : Int) + 1) = true := by simp; omega
                clear e1
                go_wp2
                go_still_tail 10, (by kernel_rfl)
                change wpList _ _ _ _ _ (World.drew _)
                go_wp2
                refine at_worldD (P := fun W => Code.wp _ _ _ _ W) _ ?_
                intro w4 hw4
                have hr4 : Hid (GrI w w4 R G n A c _ bs) := Lib.hid (by rw [hw4]; exact (HS.out _ _ a hr2.out (by omega) _).drew)
                clear hw4 ga fa fb gb2
                obtain ⟨ob4, gb4, fb4⟩ := hr4.out.cells (k := b) hlt
                go_still_tail 10, (by kernel_rfl)
                change wpList _ _ _ _ _ (World.drew _)
                go_wp2
                exact ⟨⟨a + 1, by omega, congrArg (Value.int .i64) (by omega), Lib.hid ((HS.out _ _ b hr4.out hlt _).drew.more (by omega))⟩, by simp [intOf]; omega⟩
              · have d1 : (((b : Nat) : Int) == (a : Int) + 1) = false := by simp; omega
                clear e1
                by_cases e2 : a = 0
                · have d2 : (((a : Nat) : Int) == 0) = true := by simp; omega
                  clear e2
                  by_cases e3 : (b : Int) = (n : Int) - 1
                  · have d3 : (((b : Nat) : Int) == (n : Int) - 1) = true := by simp; omega
                    clear e3
                    go_wp2
                    go_still_tail 10, (by kernel_rfl)
                    change wpList _ _ _ _ _ (World.drew _)
                    go_wp2
                    refine at_worldD (P := fun W => Code.wp _ _ _ _ W) _ ?_
                    intro w4 hw4
                    have hr4 : Hid (GrI w w4 R G n A c _ bs) := Lib.hid (by rw [hw4]; exact (HS.out _ _ a hr2.out (by omega) _).drew)
                    clear hw4 ga fa fb gb2
                    obtain ⟨ob4, gb4, fb4⟩ := hr4.out.cells (k := b) hlt
                    go_still_tail 10, (by kernel_rfl)
                    change wpList _ _ _ _ _ (World.drew _)
                    go_wp2
                    exact ⟨⟨a + 1, by omega, congrArg (Value.int .i64) (by omega), Lib.hid ((HS.out _ _ b hr4.out hlt _).drew.more (by omega))⟩, by simp [intOf]; omega⟩
                  · have d3 : (((b : Nat) : Int) == (n : Int) - 1) = false := by simp; omega
                    clear e3
                    go_wp2
                    exact ⟨⟨a + 1, by omega, congrArg (Value.int .i64) (by omega), Lib.hid (hr2.out.more (by omega))⟩, by simp [intOf]; omega⟩
                · have d2 : (((a : Nat) : Int) == 0) = false := by simp; omega
                  clear e2
                  go_wp2
                  exact ⟨⟨a + 1, by omega, congrArg (Value.int .i64) (by omega), Lib.hid (hr2.out.more (by omega))⟩, by simp [intOf]; omega⟩
            · have c0 : (((kind : Nat) : Int) == 0) = false := by simp; omega
              clear k0 k1
              go_wp2
              all_goals first
                | exact ⟨⟨a + 1, by omega, congrArg (Value.int .i64) (by omega), Lib.hid (hr2.out.more (by omega))⟩, by simp [intOf]; omega⟩
                | (go_still_tail 10, (by kernel_rfl)
                   change wpList _ _ _ _ _ (World.drew _)
                   go_wp2
                   refine at_worldD (P := fun W => Code.wp _ _ _ _ W) _ ?_
                   intro w4 hw4
                   have hr4 : Hid (GrI w w4 R G n A c _ bs) := Lib.hid (by rw [hw4]; exact (HS.out _ _ a hr2.out (by omega) _).drew)
                   clear hw4 ga fa fb gb2
                   obtain ⟨ob4, gb4, fb4⟩ := hr4.out.cells (k := b) hlt
                   go_still_tail 10, (by kernel_rfl)
                   change wpList _ _ _ _ _ (World.drew _)
                   go_wp2
                   exact ⟨⟨a + 1, by omega, congrArg (Value.int .i64) (by omega), Lib.hid ((HS.out _ _ b hr4.out hlt _).drew.more (by omega))⟩, by simp [intOf]; omega⟩)
              
        · have e : a = b := by omega
          subst e
          go_wp2
          exact ⟨⟨a + 1, by omega, by omega, congrArg (Value.int .i64) (by omega), Lib.hid (hr.out.more (by omega))⟩, by simp [intOf]; omega⟩
    · have e : b = n := by omega
      subst e
      go_wp2_with fail
      refine (HP.out _ _ 40 hr.out (by omega) (by omega) (by omega)).mono ?_
      rintro e w2 ⟨x, hx, rfl, hr2⟩
      obtain ⟨oa, ga, fa⟩ := hr2.out.cells (k := 0) (by omega)
      have i0 : (0 : Int) < (b : Int) := by omega
      have hw2 : wrap64 ((b : Int) - 1) = (b : Int) - 1 := wrap_idD (by omega) (by omega)
      have hb6 : b < 64 := by omega
      by_cases hx0 : x = 0
      · have c0 : (((x : Nat) : Int) == 0) = true := by simp; omega
        clear hx0
        go_wp2
        go_region
        all_goals go_wp2
        all_goals go_ret
        all_goals exact (HS.out _ _ 0 hr2.out.drew (by omega) _).done (by omega) HRG.out HGG.out
      · have c0 : (((x : Nat) : Int) == 0) = false := by simp; omega
        clear hx0
        go_wp2
        go_ret
        exact hr2.out.done (by omega) HRG.out HGG.out
theorem drawGraph_any (R : Nat) (A : Option Addr) (c p P0 n : Nat) (bs : List Nat) (h1 : 1 ≤ n) (h6 : n ≤ 6) (hp : p ≤ P0) (hP0 : P0 ≤ 10000) (hl : bs.length ≤ 2000) (w : World) (hR : RdAt w R A bs.length c p) (hb : Byts w A bs) (hAR : Under A bs R) :
    Calls Tryd.prog 50 #[.pointer (some ⟨R, 0, none⟩), .int .i64 (n : Nat)] w (Drawn w R n A c (P0 + 200) bs) := drawGraph_any7 R A c p P0 n bs h1 (by omega) hp hP0 hl w hR hb hAR
end Go.Proofs.YtamabhdbcmjbjaaDoor

/- Bytes are opened for reading. -/

namespace Go.Proofs.YtamabhdbcmjbjaaDoor
open Go Go.RowKit
set_option linter.unusedVariables false
set_option maxRecDepth 100000

/-- How l6Open ends: a reader's box, new. -/
def Opens (w : World) (A : Option Addr) (e : Ending) (w' : World) : Prop :=
  ∃ (bs : List Nat) (c : Nat), e = .returned (.pointer (some ⟨w.heap.size, 0, none⟩)) ∧ bs.length ≤ 2000 ∧ RdAt w' w.heap.size A bs.length c 0 ∧ Byts w' A bs ∧ Under A bs w.heap.size ∧ Below w.heap.size w w'
theorem Byts.take {w : World} {A : Option Addr} {bs : List Nat} (h : Byts w A bs) (n : Nat) : Byts w A (bs.take n) := fun k hk => by
  rw [List.length_take] at hk
  have e : (bs.take n)[k]?.getD 0 = bs[k]?.getD 0 := by rw [List.getElem?_take_of_lt (by omega)]
  rw [e]
  exact h k (by omega)
theorem opens_of {w : World} {A : Option Addr} {bs : List Nat} {c : Nat} (h : Byts w A bs) (hl : bs.length ≤ 2000) (hA : Under A bs w.heap.size) :
    Opens w A (.returned (.pointer (some ⟨w.heap.size, 0, none⟩))) (w.alloc (.cells #[.slice A bs.length c, .int .i64 0] 88)) :=
  ⟨bs, c, rfl, hl, heap_alloc_new w _, h.below ((Below.refl _ _).alloc (Nat.le_refl _) _) hA, hA, (Below.refl _ _).alloc (Nat.le_refl _) _⟩

theorem open_any (A : Option Addr) (c : Nat) (bs : List Nat) (w : World) (h : Byts w A bs) (hc : bs.length ≤ c) (hA : Under A bs w.heap.size) :
    Calls Tryd.prog 49 #[.slice A bs.length c] w (Opens w A) := by
  by_cases hl : bs.length ≤ 2000
  · have hd : decide ((2000 : Int) < (bs.length : Int)) = false := decide_eq_false (by omega)
    have HO := Lib.hid (opens_of (c := c) h hl hA)
    obtain ⟨n, hn⟩ : ∃ n, n = bs.length := ⟨_, rfl⟩
    rw [← hn] at hd HO ⊢
    clear hl h hA hc hn
    go_enter Tryd.func49, Tryd.ntmps49
    go_wp2
    go_ret
    exact HO.out
  · have hd : decide ((2000 : Int) < (bs.length : Int)) = true := decide_eq_true (by omega)
    have hlt : (bs.take 2000).length = 2000 := by rw [List.length_take]; omega
    have ho := opens_of (c := c) (h.take 2000) (by omega) (fun h0 => hA (by omega))
    rw [hlt] at ho
    have HO := Lib.hid ho
    obtain ⟨b, off, rfl, _⟩ := h 0 (by omega)
    obtain ⟨n, hn⟩ : ∃ n, n = bs.length := ⟨_, rfl⟩
    rw [← hn] at hd hl hc ⊢
    have hc2 : 2000 ≤ c := by omega
    have hi : (0 : Int) ≤ 2000 ∧ (2000 : Int) ≤ (c : Int) := by omega
    clear hl h hA hn ho hlt
    go_enter Tryd.func49, Tryd.ntmps49
    go_wp2
    go_ret
    exact HO.out
end Go.Proofs.YtamabhdbcmjbjaaDoor

/- A reader goes on: numbers picked behind a list that was drawn. -/

namespace Go.Proofs.YtamabhdbcmjbjaaDoor
open Go Go.RowKit
set_option linter.unusedVariables false
set_option maxRecDepth 100000

/-- The reader, somewhere in its bytes. -/
def Rdr (w : World) (R : Nat) (A : Option Addr) (c lim : Nat) (bs : List Nat) : Prop := (∃ q, q ≤ lim ∧ RdAt w R A bs.length c q) ∧ Byts w A bs
theorem Rdr.more {w : World} {R : Nat} {A : Option Addr} {c lim lim' : Nat} {bs : List Nat} (h : Rdr w R A c lim bs) (hl : lim ≤ lim') : Rdr w R A c lim' bs := by
  obtain ⟨⟨q, hq, hR⟩, hb⟩ := h
  exact ⟨⟨q, by omega, hR⟩, hb⟩
/-- A number is picked: the reader's box alone has changed. -/
def PickedN (w : World) (R : Nat) (A : Option Addr) (c lim m : Nat) (bs : List Nat) (e : Ending) (w' : World) : Prop := ∃ x : Nat, x < m ∧ e = .returned (.int .i64 (x : Nat)) ∧ Rdr w' R A c (lim + 1) bs ∧ w.grownBy w' (some R)
theorem rdr_pick {w : World} {R : Nat} {A : Option Addr} {c lim : Nat} {bs : List Nat} (h : Rdr w R A c lim bs) (m : Nat) (hm : 1 ≤ m) (hm2 : m ≤ 1000) (hlim : lim ≤ 100000) (hl : bs.length ≤ 2000) (hAR : Under A bs R) :
    Calls Tryd.prog 51 #[.pointer (some ⟨R, 0, none⟩), .int .i64 (m : Nat)] w (PickedN w R A c lim m bs) := by
  obtain ⟨⟨q, hq, hR⟩, hb⟩ := h
  refine (pick_any R A c q m bs hm hm2 (by omega) hl w hR hb hAR).mono ?_
  rintro e w' ⟨x, d, hx, rfl, rfl⟩
  have hbR : Below R w (w.setCell ⟨R, 1, none⟩ (.int .i64 ((q + 1 : Nat) : Nat))) := (Below.refl R w).setCell (p := ⟨R, 1, none⟩) (Nat.le_refl _) _
  exact ⟨x, hx, rfl, ⟨⟨q + 1, by omega, hR.next (q + 1)⟩, hb.below (below_drewN hbR d) hAR⟩, grown_drewN (grown_set (World.grownBy.refl w (some R)) 1 _) d⟩
theorem Row.reads {w w' : World} {B R g : Nat} {v : Value} {L : List Int} (h : Row w B v L) (hv : v.ownBlock = some g) (hg : R < g) (hgr : w.grownBy w' (some R)) : Row w' B v L :=
  World.ownsRow.kept h hgr (.inr (by rw [hv]; intro e; injection e with e; omega))
theorem div23 (x : Nat) (h : x < 24) : ∃ q : Nat, q ≤ 1 ∧ ((x : Nat) : Int).tdiv 23 = (q : Int) := ⟨x / 23, by omega, tdivN x 23⟩

/-- What a draw of a graph and a number gives. -/
def DrewZ (w : World) (e : Ending) (w' : World) : Prop := ∃ v L z, e = .returned (.tuple #[v, .int .i64 z]) ∧ 1 ≤ L.length ∧ L.length ≤ 6 ∧ -100 ≤ z ∧ z ≤ 100 ∧ Row w' w.heap.size v L ∧ Below w.heap.size w w'
end Go.Proofs.YtamabhdbcmjbjaaDoor

/- A graph is drawn from a reader somewhere in its bytes. -/

namespace Go.Proofs.YtamabhdbcmjbjaaDoor
open Go Go.RowKit
set_option linter.unusedVariables false
set_option maxRecDepth 100000

/-- What a draw of two graphs gives. -/
def DrewTwo (p q : Nat) (w : World) (e : Ending) (w' : World) : Prop := ∃ v L v' L', e = .returned (.tuple #[v, v']) ∧ (1 ≤ L.length ∧ L.length ≤ p) ∧ (1 ≤ L'.length ∧ L'.length ≤ q) ∧ Row w' w.heap.size v L ∧ Row w' w.heap.size v' L' ∧ Below w.heap.size w w'
/-- A list is drawn from a reader somewhere in its bytes. -/
def DrewOn (w : World) (R n : Nat) (A : Option Addr) (c lim : Nat) (bs : List Nat) (e : Ending) (w' : World) : Prop :=
  ∃ v L g, e = .returned v ∧ L.length = n ∧ Row w' R v L ∧ Rdr w' R A c lim bs ∧ w.grownBy w' (some R) ∧ R < g ∧ v.ownBlock = some g
theorem rdr_graph {w : World} {R : Nat} {A : Option Addr} {c lim : Nat} {bs : List Nat} (h : Rdr w R A c lim bs) (n : Nat) (h1 : 1 ≤ n) (h6 : n ≤ 6) (hlim : lim ≤ 10000) (hl : bs.length ≤ 2000) (hAR : Under A bs R) :
    Calls Tryd.prog 50 #[.pointer (some ⟨R, 0, none⟩), .int .i64 (n : Nat)] w (DrewOn w R n A c (lim + 200) bs) := by
  obtain ⟨⟨q, hq, hR⟩, hb⟩ := h
  refine (drawGraph_any R A c q lim n bs h1 h6 hq hlim hl w hR hb hAR).mono ?_
  rintro e w' ⟨v, L, rfl, hL, hr, hbe, hq', hby, g, hg, ⟨_, hgr⟩, hv⟩
  exact ⟨v, L, g, rfl, hL, hr, ⟨hq', hby⟩, hgr, hg, hv⟩
theorem rdr_graph7 {w : World} {R : Nat} {A : Option Addr} {c lim : Nat} {bs : List Nat} (h : Rdr w R A c lim bs) (n : Nat) (h1 : 1 ≤ n) (h6 : n ≤ 7) (hlim : lim ≤ 10000) (hl : bs.length ≤ 2000) (hAR : Under A bs R) :
    Calls Tryd.prog 50 #[.pointer (some ⟨R, 0, none⟩), .int .i64 (n : Nat)] w (DrewOn w R n A c (lim + 200) bs) := by
  obtain ⟨⟨q, hq, hR⟩, hb⟩ := h
  refine (drawGraph_any7 R A c q lim n bs h1 h6 hq hlim hl w hR hb hAR).mono ?_
  rintro e w' ⟨v, L, rfl, hL, hr, hbe, hq', hby, g, hg, ⟨_, hgr⟩, hv⟩
  exact ⟨v, L, g, rfl, hL, hr, ⟨hq', hby⟩, hgr, hg, hv⟩
end Go.Proofs.YtamabhdbcmjbjaaDoor

/- A reader stays while other blocks are written. -/


namespace Go.Proofs.YtamabhdbcmjbjaaDoor
open Go Go.RowKit
set_option linter.unusedVariables false
set_option maxRecDepth 100000

theorem Rdr.below {w w' : World} {R N : Nat} {A : Option Addr} {c lim : Nat} {bs : List Nat} (h : Rdr w R A c lim bs) (hb : Below N w w') (hN : R < N) (hA : Under A bs R) : Rdr w' R A c lim bs := by
  obtain ⟨⟨q, hq, hR⟩, hby⟩ := h
  exact ⟨⟨q, hq, (hb.block R hN).trans hR⟩, hby.below hb (hA.mono (Nat.le_of_lt hN))⟩
theorem Rdr.lt {w : World} {R : Nat} {A : Option Addr} {c lim : Nat} {bs : List Nat} (h : Rdr w R A c lim bs) : R < w.heap.size := by
  obtain ⟨⟨q, hq, hR⟩, hby⟩ := h
  exact hR.lt
theorem grown_below {w w' : World} {N : Nat} (hb : Below N w w') (hN : w.heap.size ≤ N) (r : Nat) : w.grownBy w' (some r) :=
  ⟨hb.os, hb.tape, hb.output, hb.size, fun k hk _ => hb.block k (Nat.lt_of_lt_of_le hk hN)⟩

end Go.Proofs.YtamabhdbcmjbjaaDoor

/- Bytes that came in: their numbers; and they read behind the call as they did. -/


namespace Go.Proofs.YtamabhdbcmjbjaaDoor
open Go.ChangeShapes Go.WideShapes Go.ChangeAt Go.RowKit
set_option linter.unusedVariables false

set_option maxRecDepth 100000 in
/-- Bytes that came in. -/
theorem cameBytes {H : Type} {enc : TypeId × Value → H} {W : World} {base : Nat} {v : Value} {d : DataW H} {ps : List MemPlace}
    (hv : Value.okWide Tryd.prog W .any base 22 v) (h : DataW.Trod enc Tryd.prog W 0 (fun _ => true) true 22 v d ps) (hlt : ∀ x ∈ ps, x.block < W.heap.size) :
    ∃ (A : Option Addr) (c : Nat) (bs : List Nat), v = .slice A bs.length c ∧ Byts W A bs ∧ bs.length ≤ maxLen ∧ bs.length ≤ c ∧ Under A bs W.heap.size ∧
      ∀ W', Below W.heap.size W W' → DataW.Trod enc Tryd.prog W' 0 (fun b => decide (b < W.heap.size)) true 22 v d ps := by
  have hback : ∀ W', Below W.heap.size W W' → DataW.Trod enc Tryd.prog W' 0 (fun b => decide (b < W.heap.size)) true 22 v d ps := fun W' hb =>
    Below.trod laidOut (by kernel_rfl) (of_decide_eq_true (by kernel_rfl)) h hb hlt
  obtain ⟨A, len, cap, rfl⟩ := okWide_slice Tryd.underlying22 hv
  obtain ⟨fuel, hf⟩ := h
  rcases open_ints Tryd.underlying22 Tryd.underlying5 cellsByte hf with ⟨hcs, _⟩ | ⟨a, len', cap', zs, hcs, _, hl, hm, hz, hx, hcell, hwf⟩
  · simp [Value.cells] at hcs
    obtain ⟨rfl, rfl, rfl⟩ := hcs
    exact ⟨none, 0, [], rfl, fun k hk => absurd hk (by simp), by simp [maxLen], by simp, (fun h0 => absurd h0 (by simp)), hback⟩
  · simp [Value.cells] at hcs
    obtain ⟨rfl, rfl, rfl⟩ := hcs
    simp only [if_true] at hz
    have hlen : ((zs.take len).map Int.toNat).length = len := by rw [List.length_map, List.length_take]; omega
    simp only [Prod.mk.injEq] at hx
    obtain ⟨rfl, rfl⟩ := hx
    have hbyt : ∀ k, k < len → ((zs.take len).map Int.toNat)[k]?.getD 0 = (zs[k]?.getD 0).toNat := fun k hk => by
      rw [List.getElem?_map, List.getElem?_take_of_lt hk]
      cases hzk : zs[k]? with
      | none => rfl
      | some z => rfl
    by_cases h0 : zs.length = 0
    · have hc0 : cap = 0 := by omega
      have hl0 : len = 0 := by omega
      refine ⟨some a, cap, [], by rw [hl0]; rfl, fun k hk => absurd hk (by simp), by simp [maxLen], by simp, (fun h0 => absurd h0 (by simp)), by rw [hl0] at hback ⊢; exact hback⟩
    · obtain ⟨b, off, spot⟩ := a
      have hspot : spot = none := by simpa [Addr.add] using World.cell?_spot (hcell 0 (by omega))
      subst hspot
      have hbW : b < W.heap.size := hlt (.cell b off) (MemPlace.mem_row.2 ⟨0, by omega, by simp⟩)
      refine ⟨some ⟨b, off, none⟩, cap, (zs.take len).map Int.toNat, by rw [hlen], fun k hk => ?_, by rw [hlen]; omega, by rw [hlen]; exact hl, (fun _ b' off' e => by injection e with e; injection e with e1 e2; omega), hback⟩
      rw [hlen] at hk
      have hr := range_u8 hwf k
      refine ⟨b, off, rfl, hbW, by rw [hbyt k hk]; omega, ?_⟩
      rw [hbyt k hk, ← add_plain, hcell k (by omega), Int.toNat_of_nonneg hr.1]
      simp [List.getD]
end Go.Proofs.YtamabhdbcmjbjaaDoor
