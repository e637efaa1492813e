/- Sets of up to twelve nodes: the least one, their number, the iterator over them; all, nodes and degree of a graph of up to twelve nodes. -/
import Derived.Test.YtnnobbbljpaieaaDoorBaseA
namespace Go.Proofs.YtnnobbbljpaieaaDoor
open Go.RowKit Go.Shelf
attribute [local go_sem] Oper.semAt_some
set_option linter.unusedVariables false
set_option maxRecDepth 100000

/-- The place of the table that a power of two reaches. -/
def tabIx (k : Nat) : Nat := (2 ^ k * 285870213051353865) % 18446744073709551616 / 288230376151711744
/-- The places of deBruijn64tab that powers of two below 4096 reach. -/
def TabT (w : World) : Prop := Tab w ∧ ∀ k : Nat, k < 12 → w.cell? ⟨1, tabIx k, none⟩ = some (.int .u8 (k : Nat))
theorem TabT.below {w w' : World} {B : Nat} (h : TabT w) (hb : Below B w w') (hB : 2 ≤ B) : TabT w' :=
  ⟨h.1.below hb hB, fun k hk => (hb.cell (p := ⟨1, tabIx k, none⟩) (by show 1 < B; omega)).trans (h.2 k hk)⟩
theorem TabT.drewN {w : World} (h : TabT w) (n : Nat) : TabT (w.drewN n) := h
theorem TabT.lt {w : World} (h : TabT w) : 1 < w.heap.size := h.1.lt

/-- The least node of a set. -/
def tzT (x : Nat) : Nat := ((List.range 12).find? fun i => x / 2 ^ i % 2 == 1).getD 0
theorem tzT_lt (x : Nat) : tzT x < 12 := by
  unfold tzT
  cases h : (List.range 12).find? fun i => x / 2 ^ i % 2 == 1 with
  | none => simp
  | some k => have := List.mem_of_find?_eq_some h; simpa using this
theorem tabIx_lt : ∀ k : Fin 12, tabIx k.val < 64 := by decide +kernel
theorem zerosT_word : ∀ x : Fin 4096, 0 < x.val → IntKind.u64.wrap (bits .and .u64 (x.val : Int) (IntKind.u64.wrap (-(x.val : Int))) * 285870213051353865) / 288230376151711744 = ((tabIx (tzT x.val) : Nat) : Int) := by decide +kernel

set_option maxHeartbeats 1000000 in
theorem zerosT64 (x : Nat) (w : World) (hx0 : 0 < x) (hx : x < 4096) (h : TabT w) :
    Calls Tryd.prog 50 #[.int .u64 x] w fun e w' => e = .returned (.int .i64 (tzT x)) ∧ w = w' := by
  have hz : ((x : Int) == 0) = false := by simp; omega
  have hE := zerosT_word ⟨x, hx⟩ hx0
  dsimp only at hE
  have hc := h.2 (tzT x) (tzT_lt x)
  have hk := tzT_lt x
  have hp : tabIx (tzT x) < 64 := tabIx_lt ⟨tzT x, hk⟩
  obtain ⟨r, er⟩ : ∃ r, r = tabIx (tzT x) := ⟨_, rfl⟩
  rw [← er] at hE hc hp
  obtain ⟨k, ek⟩ : ∃ k, k = tzT x := ⟨_, rfl⟩
  rw [← ek] at hc hk ⊢
  clear er ek h
  go_enter Tryd.func50, Tryd.ntmps50
  go_wp2
  go_ret
  exact ⟨rfl, rfl⟩
set_option maxHeartbeats 1000000 in
theorem zerosT_any (x : Nat) (w : World) (hx0 : 0 < x) (hx : x < 4096) (h : TabT w) :
    Calls Tryd.prog 43 #[.int .u64 x] w fun e w' => e = .returned (.int .i64 (tzT x)) ∧ w = w' := by
  go_enter Tryd.func43, Tryd.ntmps43
  go_wp2_with fail
  refine (zerosT64 x _ hx0 hx h).mono ?_
  rintro e w1 ⟨rfl, rfl⟩
  go_wp2
  go_ret
  exact ⟨rfl, rfl⟩
/-- The nodes of a set, the least one first. -/
def nodesT (s : Nat) : List Nat := (List.range 12).filter fun i => s / 2 ^ i % 2 == 1
theorem nodesT_zero : nodesT 0 = [] := by decide
theorem nodesT_step : ∀ s : Fin 4096, 0 < s.val → nodesT s.val = tzT s.val :: nodesT (s.val &&& (s.val - 1)) ∧ s.val &&& (s.val - 1) < s.val ∧
    bits .and .u64 (s.val : Int) ((s.val : Int) - 1) = ((s.val &&& (s.val - 1) : Nat) : Int) := by decide +kernel
theorem nodesT_mem {s v : Nat} : v ∈ nodesT s ↔ v < 12 ∧ s / 2 ^ v % 2 = 1 := by simp [nodesT]
theorem nodesT_length (s : Nat) : (nodesT s).length ≤ 12 := by
  unfold nodesT
  exact Nat.le_trans (List.length_filter_le _ _) (by simp)

set_option maxHeartbeats 1000000 in
theorem nodesT_stops (n Bn m s n₀ : Nat) (hn : 1 ≤ n) (hm : m ≤ 12) (hs : s < 2 ^ m) (w : World) (hB : Bn < w.heap.size) (hc : w.cell? ⟨Bn, 0, none⟩ = some (.int .i64 s)) (hT : TabT w) (h2 : 2 ≤ n₀) (hn₀ : n₀ ≤ w.heap.size) :
    SeqStopsK Fence.wide n Tryd.prog 42 #[.pointer (some ⟨Bn, 0, none⟩)] (encN m s) (Below n₀) (fun xs => valsN xs = nodesT s) (fun pre => valsN pre <+: nodesT s) 12 w := fun l J Jx W hb hJ hJx hY h0 => by
  have hcW : W.cell? ⟨Bn, 0, none⟩ = some (.int .i64 s) := (hb.cell (p := ⟨Bn, 0, none⟩) hB).trans hc
  have hTW := Lib.hid (hT.below hb (by omega))
  have HY := Lib.hid hY
  have h64 := pow_le m 12 hm
  have hs0 : s < 4096 := by omega
  have HS := Lib.hid hs
  clear hY hJ hJx hb hT hc h64 hs
  refine callsIn_of_wp Tryd.func42 rfl trivial ?_ rfl
  simp only [Tryd.ntmps42, List.size_toArray, List.length_cons, List.length_nil, Nat.reduceAdd, Nat.reduceSub, Array.replicate_succ, Array.replicate_zero, List.push_toArray, List.append_toArray, List.nil_append, List.cons_append]
  gi_wp2
  gi_loopw [3] (fun b wr => ∃ (r : Nat) (pre : List (Nd m s)), r < 4096 ∧ b = .int .u64 r ∧ Hid (valsN pre ++ nodesT r = nodesT s) ∧ J pre wr ∧ Hid (TabT wr)) (fun b _ => (intOf b).toNat)
  case atStart => exact ⟨s, [], hs0, rfl, Lib.hid rfl, h0, hTW⟩
  case round =>
    obtain ⟨r, pre, hr64, rfl, hp, hJ, hT⟩ := hrel
    by_cases hr0 : 0 < r
    · have hz : ((r : Int) != 0) = true := by simp; omega
      obtain ⟨st1, st2, st3⟩ := nodesT_step ⟨r, hr64⟩ hr0
      dsimp only at st1 st2 st3
      obtain ⟨q, eq⟩ : ∃ q, q = r &&& (r - 1) := ⟨_, rfl⟩
      rw [← eq] at st1 st2 st3
      have hmem : tzT r ∈ nodesT s := by rw [← hp.out, st1]; simp
      have hbt := (nodesT_mem.1 hmem).2
      have hlt : tzT r < m := bit_lt HS.out hbt
      have hlen : pre.length < 12 := by
        have h1 := nodesT_length s
        rw [← hp.out, st1, List.length_append, valsN_length] at h1
        simp at h1
        omega
      obtain ⟨fn, tmps, assign, body, hy, hR⟩ := HY.out pre ⟨tzT r, hlt, hbt⟩ wr hJ hlen
      dsimp only [encN] at hy
      have ST := Lib.hid st1
      clear hlen hmem st1 eq
      gi_wp2_with (refine ⟨trivial, ?_⟩; gi_at_call 43; refine (callsIn_wide.2 (zerosT_any r _ hr0 hr64 hT.out)).mono ?_; rintro e w' ⟨rfl, rfl⟩)
      refine hR.mono ?_
      rintro e W3 (⟨rfl, hJ3, hk3⟩ | ⟨rfl, hJx3⟩)
      · have hT3 := Lib.hid (hT.out.below hk3 h2)
        gi_wp2
        go_roundw
        case rel => exact ⟨q, _, by omega, rfl, Lib.hid (by rw [valsN_snoc, List.append_assoc, List.singleton_append, ← ST.out]; exact hp.out), hJ3, hT3⟩
        case measure => simp [intOf]; omega
      · gi_wp2
        refine bodyPost_ret (results_none rfl _ _ _) rfl ?_
        exact ⟨⟨_, rfl⟩, .inr ⟨_, ⟨nodesT q, (by rw [valsN_snoc, List.append_assoc, List.singleton_append, ← ST.out]; exact hp.out)⟩, hJx3⟩⟩
    · have hre : r = 0 := by omega
      subst hre
      gi_wp2
      go_end0
      exact ⟨⟨_, rfl⟩, .inl ⟨pre, by have h0 := hp.out; rw [nodesT_zero, List.append_nil] at h0; exact h0, hJ⟩⟩

/-- all: the set of all nodes. -/
theorem allT_any (A : Option Addr) (n c Q : Nat) (hn : n ≤ 12) (hQ : Q + 1 = 2 ^ n) (w : World) : Calls Tryd.prog 41 #[.slice A n c] w fun e w' => e = .returned (.int .i64 (Q : Nat)) ∧ w = w' := by
  have p1 := wrap_pow n (by omega)
  rw [← hQ] at p1
  have p2 : ((Q + 1 : Nat) : Int) - 1 = (Q : Int) := by omega
  obtain ⟨P, eP⟩ : ∃ P : Nat, P = Q + 1 := ⟨_, rfl⟩
  rw [← eP] at p1 p2
  have hP : P ≤ 4096 := by have := pow_le n 12 hn; omega
  clear hQ eP
  go_enter Tryd.func41, Tryd.ntmps41
  go_wp2
  go_ret
  exact ⟨rfl, rfl⟩
/-- nodes hands out the iterator over all nodes. -/
theorem nodesT_any (A : Option Addr) (n c Q : Nat) (hn : n ≤ 12) (hQ : Q + 1 = 2 ^ n) (w : World) : Calls Tryd.prog 33 #[.slice A n c] w fun e w' =>
    e = .returned (.func (.func 42) #[] #[.pointer (some ⟨w.heap.size, 0, none⟩)]) ∧ w.alloc (.cells #[.int .i64 (Q : Nat)] 3) = w' := by
  have HQ := Lib.hid hQ
  clear hQ
  go_enter Tryd.func33, Tryd.ntmps33
  go_wp2_with fail
  refine (allT_any A n c Q hn HQ.out _).mono ?_
  rintro e w1 ⟨rfl, rfl⟩
  go_wp2_with fail
  refine (nodesIn_any Q _).mono ?_
  rintro e w1 ⟨rfl, rfl⟩
  go_wp2
  go_ret
  exact ⟨rfl, rfl⟩
/-- How many members a set has. -/
def cntT12 (x : Nat) : Nat := (nodesT x).length
end Go.Proofs.YtnnobbbljpaieaaDoor
