/- asGraph: it hands a graph on as it came, and refuses each other list. -/
import Derived.RangeFuncBox
import Derived.Test.YtedjnenbmhajiaaDoorGraphFns
namespace Go.Proofs.YtedjnenbmhajiaaDoor
open Go.RowKit Go.Shelf
attribute [local go_sem] Oper.semAt_some
set_option linter.unusedVariables false

theorem isGraph_of_pairs {L : List Int} (h1 : 1 ≤ L.length) (h6 : L.length ≤ 6) (hr : ∀ v, v < L.length → InR L v)
    (h : ∀ v, v < L.length → ∀ u ∈ nodesL (ent L v), u ≠ v ∧ bt L u v = 1) : IsGraph L := by
  have key : ∀ v u, v < L.length → u < L.length → bt L v u = 1 → u ≠ v ∧ bt L u v = 1 := fun v u hv hu hb =>
    h v hv u (nodes_mem.2 ⟨by omega, hb⟩)
  refine ⟨h1, h6, fun v hv => ⟨hr v hv, ?_, fun w hw => ?_⟩⟩
  · have h0 : bt L v v = 0 ∨ bt L v v = 1 := by unfold bt; omega
    rcases h0 with h0 | h0
    · exact h0
    · exact absurd rfl (key v v hv hv h0).1
  · have h0 : bt L v w = 0 ∨ bt L v w = 1 := by unfold bt; omega
    have h2 : bt L w v = 0 ∨ bt L w v = 1 := by unfold bt; omega
    rcases h0 with h0 | h0
    · rcases h2 with h2 | h2
      · rw [h0, h2]
      · have := (key w v (by omega) hv h2).2; omega
    · have := (key v w hv (by omega) h0).2; omega
theorem pairs_of_isGraph {L : List Int} (hg : IsGraph L) {v u : Nat} (hv : v < L.length) (hu : u ∈ nodesL (ent L v)) : u ≠ v ∧ bt L u v = 1 := by
  have hb := (nodes_mem.1 hu).2
  have hlt : u < L.length := bit_lt (ent_lt (hg.2.2 v hv).1) hb
  have e : bt L v u = 1 := hb
  have hne : u ≠ v := fun e' => by
    subst e'
    have := (hg.2.2 u hv).2.1
    omega
  refine ⟨hne, ?_⟩
  by_cases h : u < v
  · rw [← (hg.2.2 v hv).2.2 u h]; exact e
  · rw [(hg.2.2 u hlt).2.2 v (by omega)]; exact e

theorem full_bit {Q n v : Nat} (hQ : Q + 1 = 2 ^ n) (hv : v < n) : Q / 2 ^ v % 2 = 1 := by
  have hp := Nat.two_pow_pos v
  have e : 2 ^ n = 2 ^ v * (2 * 2 ^ (n - v - 1)) := by
    rw [← Nat.mul_assoc, ← Nat.pow_succ, ← Nat.pow_add]
    congr 1
    omega
  have e2 : Q = (2 ^ v - 1) + 2 ^ v * (2 * 2 ^ (n - v - 1) - 1) := by
    have h1 : 1 ≤ 2 ^ (n - v - 1) := Nat.one_le_two_pow
    obtain ⟨m, hm⟩ : ∃ m, 2 * 2 ^ (n - v - 1) = m + 1 := ⟨2 * 2 ^ (n - v - 1) - 1, by omega⟩
    rw [hm] at e ⊢
    rw [Nat.mul_add] at e
    simp only [Nat.add_sub_cancel]
    omega
  rw [e2, Nat.add_mul_div_left _ _ hp, Nat.div_eq_of_lt (by omega)]
  have h1 : 1 ≤ 2 ^ (n - v - 1) := Nat.one_le_two_pow
  omega

/-- How asGraph ends. -/
def AsG (w : World) (v : Value) (b : Bool) (e : Ending) (w' : World) : Prop := e = .returned (.tuple #[if b then v else .slice none 0 0, .bool b]) ∧ Below w.heap.size w w'

theorem asG_no {w w' : World} {v : Value} {L : List Int} {b : Bool} (hb : b = true ↔ IsGraph L) (hno : ¬ IsGraph L) (h : Below w.heap.size w w') : AsG w v b (.returned (.tuple #[.slice none 0 0, .bool false])) w' := by
  have hf : b = false := by
    cases b with
    | false => rfl
    | true => exact absurd (hb.1 rfl) hno
  subst hf
  exact ⟨rfl, h⟩
theorem asG_yes {w w' : World} {v : Value} {L : List Int} {b : Bool} (hb : b = true ↔ IsGraph L) (hg : IsGraph L) (h : Below w.heap.size w w') : AsG w v b (.returned (.tuple #[v, .bool true])) w' := by
  have hf : b = true := hb.2 hg
  subst hf
  exact ⟨rfl, h⟩

/-- The boxes of asGraph's two results and of its graph. -/
def Boxed3 (n₀ : Nat) (S : Value) (W : World) : Prop := Boxed W n₀ 38 (.slice none 0 0) ∧ Boxed W (n₀ + 1) 4 (.bool false) ∧ Boxed W (n₀ + 1 + 1) 38 S
theorem Boxed3.alloc {n₀ : Nat} {S : Value} {W : World} (h : Boxed3 n₀ S W) (o : Obj) : Boxed3 n₀ S (W.alloc o) := ⟨h.1.alloc o, h.2.1.alloc o, h.2.2.alloc o⟩
theorem boxed3_own {β : Type} (n₀ : Nat) (S : Value) : Own (fun (_ : β) W => Boxed3 n₀ S W) := fun s X Y row hs hg hr =>
  ⟨boxed_own _ _ (fun _ : Unit => _) () X Y row hs.1 hg hr, boxed_own _ _ (fun _ : Unit => _) () X Y row hs.2.1 hg hr, boxed_own _ _ (fun _ : Unit => _) () X Y row hs.2.2 hg hr⟩
/-- The results set to none and false again. -/
theorem Boxed3.reset {n₀ : Nat} {S : Value} {W : World} (h : Boxed3 n₀ S W) : Boxed3 n₀ S ((W.setCell ⟨n₀, 0, none⟩ (.slice none 0 0)).setCell ⟨n₀ + 1, 0, none⟩ (.bool false)) :=
  ⟨(h.1.set _).other (by omega) _, (h.2.1.other (by omega) _).set _, (h.2.2.other (by omega) _).other (by omega) _⟩

set_option maxRecDepth 100000 in
set_option maxHeartbeats 4000000 in
theorem asG_seen (A : Option Addr) (c : Nat) (L : List Int) (b : Bool) (hb : b = true ↔ IsGraph L) (w : World) (h : Seen w A L) (hT : Tab w) (h1 : 1 ≤ L.length) (h6 : L.length ≤ 6) :
    CallsIn Fence.wide 9 Tryd.prog 49 #[.slice A L.length c] w (AsG w (.slice A L.length c) b) := by
  obtain ⟨blk, off, hA0, hbl0, _⟩ := h 0 (by omega)
  obtain ⟨n, hn⟩ : ∃ n, n = L.length := ⟨_, rfl⟩
  have hp := two_pos n
  obtain ⟨Q, hQ⟩ : ∃ Q, Q + 1 = 2 ^ n := ⟨2 ^ n - 1, by omega⟩
  rw [← hn] at h1 h6 ⊢
  subst hA0
  have HN := Lib.hid hn
  have H := Lib.hid h
  have HB := Lib.hid hb
  have HQ := Lib.hid hQ
  have TB := Lib.hid hT
  have hd1 : decide ((n : Int) < 1) = false := by simp; omega
  have hd2 : decide ((6 : Int) < (n : Int)) = false := by simp; omega
  clear h hb hn hQ hT hp
  refine callsIn_of_wp_marks Tryd.func49 rfl trivial ?_ rfl
  simp only [Tryd.ntmps49, List.size_toArray, List.length_cons, List.length_nil, Nat.reduceAdd, Nat.reduceSub, Array.replicate_succ, Array.replicate_zero, List.push_toArray, List.append_toArray, List.nil_append, List.cons_append]
  gi_wp2
  obtain ⟨W0, e0⟩ : ∃ W0, W0 = ((w.alloc (.cells #[.slice none 0 0] 38)).alloc (.cells #[.bool false] 4)).alloc (.cells #[.slice (some ⟨blk, off, none⟩) n c] 38) := ⟨_, rfl⟩
  have X0 : Boxed W0 w.heap.size 38 (.slice none 0 0) := by rw [e0]; exact ((Boxed.new w 38 (.slice none 0 0)).alloc _).alloc _
  have X1 : Boxed W0 (w.heap.size + 1) 4 (.bool false) := by
    rw [e0]; have h := Boxed.new (w.alloc (.cells #[.slice none 0 0] 38)) 4 (.bool false); rw [World.size_alloc] at h; exact h.alloc _
  have X2 : Boxed W0 (w.heap.size + 1 + 1) 38 (.slice (some ⟨blk, off, none⟩) n c) := by
    rw [e0]; have h := Boxed.new ((w.alloc (.cells #[.slice none 0 0] 38)).alloc (.cells #[.bool false] 4)) 38 (.slice (some ⟨blk, off, none⟩) n c); rw [World.size_alloc, World.size_alloc] at h; exact h
  have hB0 : Below w.heap.size w W0 := by rw [e0]; exact ((((Below.refl _ w).alloc (Nat.le_refl _) _).alloc (by simp) _).alloc (by simp; omega) _)
  have hs0 : W0.heap.size = w.heap.size + 1 + 1 + 1 := by rw [e0]; simp
  rw [← e0]
  clear e0
  obtain ⟨n₀, en⟩ : ∃ n₀, n₀ = w.heap.size := ⟨_, rfl⟩
  have h2 : 2 ≤ n₀ := by have := TB.out.lt; omega
  rw [← en] at X0 X1 X2 hB0 hs0 hbl0 ⊢
  have EN := Lib.hid en
  have HS0 := Lib.hid hs0
  have hle : n₀ ≤ w.heap.size := by omega
  have hleW : n₀ + 1 + 1 < W0.heap.size := by omega
  have Y0 := Lib.hid X0
  have Y1 := Lib.hid X1
  have Y2 := Lib.hid X2
  have x0 := X0.cell
  have x1 := X1.cell
  have x2 := X2.cell
  have g0 := X0.frozen
  have g1 := X1.frozen
  clear en hs0 X0 X1 X2
  gi_loopw [20] (fun i wr => ∃ k : Nat, k ≤ n ∧ i = .int .i64 k ∧ Hid (∀ v, v < k → InR L v) ∧ wr = W0) (fun i _ => n - (intOf i).toNat)
  case atStart => exact ⟨0, Nat.zero_le _, rfl, Lib.hid (fun u hu => absurd hu (by omega)), rfl⟩
  case round =>
    obtain ⟨k, hk, rfl, hok, rfl⟩ := hrel
    by_cases hlt : k < n
    · obtain ⟨blk1, off1, hA1, hbl1, hc1⟩ := H.out k (by have := HN.out; omega)
      have e1 : blk = blk1 ∧ off = off1 := by injection hA1 with e; injection e with e1 e2; exact ⟨e1, e2⟩
      obtain ⟨rfl, rfl⟩ := e1
      have hcw : wr.cell? ⟨blk, off + k, none⟩ = some (.int .i64 (L[k]?.getD 0)) := (hB0.cell (p := ⟨blk, off + k, none⟩) hbl0).trans hc1
      obtain ⟨x, ex⟩ : ∃ x, x = L[k]?.getD 0 := ⟨_, rfl⟩
      rw [← ex] at hcw
      have hi1 : (0 : Int) ≤ (k : Int) ∧ (k : Int) < (n : Int) := by omega
      have EX := Lib.hid ex
      clear hA1 hbl1 hc1 ex
      by_cases hin : 0 ≤ x ∧ x < ((2 ^ n : Nat) : Int)
      · have hd : decide (0 ≤ x ∧ x < ((2 ^ n : Nat) : Int)) = true := decide_eq_true hin
        have HI := Lib.hid hin
        clear hin
        gi_wp2_with (refine ⟨trivial, ?_⟩; gi_at_call 65; refine (callsIn_wide.2 (hasSet_any _ n c x h6 _)).mono ?_; rw [hd]; rintro e w' ⟨rfl, rfl⟩)
        go_roundw
        case rel => exact ⟨k + 1, by omega, by go_num, Lib.hid (fun v hv => by
          rcases Nat.lt_succ_iff_lt_or_eq.1 hv with h | h
          · exact hok.out v h
          · subst h; unfold InR; rw [← EX.out, ← HN.out]; exact HI.out), trivial⟩
        case measure => simp [intOf]; omega
      · have hd : decide (0 ≤ x ∧ x < ((2 ^ n : Nat) : Int)) = false := decide_eq_false hin
        have hno : ¬ IsGraph L := fun hg => hin (by have h0 := (hg.2.2 k (by have := HN.out; omega)).1; unfold InR at h0; rw [← EX.out, ← HN.out] at h0; exact h0)
        clear hin
        gi_wp2_with (refine ⟨trivial, ?_⟩; gi_at_call 65; refine (callsIn_wide.2 (hasSet_any _ n c x h6 _)).mono ?_; rw [hd]; rintro e w' ⟨rfl, rfl⟩)
        have z0 := (((Y0.out.set (.slice none 0 0)).other (show n₀ ≠ n₀ + 1 by omega) (.bool false))).cell
        have z1 := ((Y1.out.other (show n₀ + 1 ≠ n₀ by omega) (.slice none 0 0)).set (.bool false)).cell
        refine ⟨.tuple #[.slice none 0 0, .bool false], by simp [results, Tryd.f49, go_sem, z0, z1], ?_⟩
        exact asG_no HB.out hno (by rw [← EN.out]; exact (hB0.setCell (p := ⟨n₀, 0, none⟩) (Nat.le_refl _) _).setCell (p := ⟨n₀ + 1, 0, none⟩) (by show n₀ ≤ n₀ + 1; omega) _)
    · have hkn : k = n := by omega
      subst hkn
      gi_wp2_with (refine ⟨trivial, ?_⟩; gi_at_call 66; refine (callsIn_wide.2 (nodes_any _ k c Q h6 HQ.out _)).mono ?_; rintro e w' ⟨rfl, rfl⟩)
      have hsz := HS0.out
      rw [hsz]
      have hQ2 : Q < 2 ^ k := by have := HQ.out; omega
      have hTw : Tab wr := TB.out.below hB0 h2
      obtain ⟨W1, eW1⟩ : ∃ W1, W1 = wr.alloc (.cells #[.int .i64 (Q : Nat)] 3) := ⟨_, rfl⟩
      have hBW : Below n₀ w W1 := by rw [eW1]; exact hB0.alloc (by omega) _
      have hT1 : Tab W1 := TB.out.below hBW h2
      have sz1 : n₀ + 1 + 1 + 1 < W1.heap.size := by rw [eW1]; simp [hsz]
      have bQ : W1.cell? ⟨n₀ + 1 + 1 + 1, 0, none⟩ = some (.int .i64 (Q : Nat)) := by
        rw [eW1]; have h := Boxed.new wr 3 (.int .i64 (Q : Nat)); rw [hsz] at h; exact h.cell
      have b3 : Boxed3 n₀ (.slice (some ⟨blk, off, none⟩) k c) W1 := by rw [eW1]; exact ⟨Y0.out.alloc _, Y1.out.alloc _, Y2.out.alloc _⟩
      rw [← eW1]
      clear eW1 Y0 Y1 Y2 x0 x1 x2 g0 g1 hTw hsz HS0 hleW hB0 hd1 hd2
      refine wpIn_rangeFunc_ownH (α := Nd k Q) rfl (by omega) (gf := 79) (lb := #[.pointer (some ⟨n₀ + 1 + 1 + 1, 0, none⟩)]) rfl trivial (enters_of Tryd.func79 (by kernel_rfl) rfl)
        (nodes_stops _ (n₀ + 1 + 1 + 1) k Q n₀ (by omega) h6 hQ2 W1 sz1 bQ hT1 h2 (by omega)) belowK_t (belowK_b (by omega)) (Below.refl _ _) (fun _ => rfl)
        (fun pre W => ((∀ v ∈ valsN pre, ∀ u ∈ nodesL (ent L v), u ≠ v ∧ bt L u v = 1) ∧ Boxed3 n₀ (.slice (some ⟨blk, off, none⟩) k c) W) ∧ Below n₀ w W)
        (fun cd pre W => ((cd = .ret ∧ ¬ IsGraph L) ∧ Boxed3 n₀ (.slice (some ⟨blk, off, none⟩) k c) W) ∧ Below n₀ w W)
        (OwnFrom.and (OwnFrom.and (ownFrom_pure _ _) (Own.from (boxed3_own _ _) _)) (ownFrom_below hle (by omega)))
        (fun cd => OwnFrom.and (OwnFrom.and (ownFrom_pure _ _) (Own.from (boxed3_own _ _) _)) (ownFrom_below hle (by omega)))
        ⟨⟨fun v hv => by simp [valsN] at hv, b3⟩, hBW⟩
        (fun x a' W => ∃ Bx, n₀ + 1 + 1 < Bx ∧ Boxed W Bx 3 (.int .i64 (x.1 : Int)) ∧ a' = { tmps := #[.slice (some ⟨blk, off, none⟩) k c, undef, .pointer (some ⟨n₀, 0, none⟩), .pointer (some ⟨n₀ + 1, 0, none⟩), .pointer (some ⟨n₀ + 1 + 1, 0, none⟩), undef, u6, .pointer (some ⟨Bx, 0, none⟩), undef, .slice (some ⟨blk, off, none⟩) k c, .slice (some ⟨blk, off, none⟩) k c, .int .i64 k, .bool false, .bool false,
          .slice (some ⟨blk, off, none⟩) k c, .int .i64 k, .bool false, .bool false, .slice (some ⟨blk, off, none⟩) k c, .int .i64 k, .int .i64 k, .bool false, u22, u23, u24, u25, u26, u27, u28, .slice (some ⟨blk, off, none⟩) k c, .func (.func 79) #[] #[.pointer (some ⟨n₀ + 1 + 1 + 1, 0, none⟩)], .int .i64 (x.1 : Int),
          undef, undef, undef, undef, undef, undef, undef, undef, undef, undef, undef, undef, undef, undef, undef, undef, undef], defers := [] })
        (fun x a' _ X Y row hs hg hr => by obtain ⟨Bx, e1, e2, e3⟩ := hs; exact ⟨Bx, e1, boxed_own Bx 3 (fun (_ : Unit) => Value.int .i64 (x.1 : Int)) () X Y row e2 hg (fun r e => (hr r e).2), e3⟩)
        ?assign ?body ?done ?stop
      case assign =>
        rintro l pre x W K ⟨⟨hp, bb⟩, hB1⟩ hK
        gi_wp2
        exact hK _ _ ((KeepsOthers.alloc _ _).from _) ((Below.refl _ W).alloc (by have := bb.1.lt; omega) _) ⟨⟨hp, bb.alloc _⟩, hB1.alloc (by have := bb.1.lt; omega) _⟩ ⟨W.heap.size, bb.2.2.lt, Boxed.new W 3 _, rfl⟩
      case body =>
        rintro l pre x a' W hl ⟨r, hr⟩ ⟨⟨hp, bb⟩, hB1⟩ ⟨Bx, hBx, bX, rfl⟩ hlt
        obtain ⟨v, hvk, hvq⟩ := x
        dsimp only at bX ⊢
        obtain ⟨blk1, off1, hA1, hbl1, hc1⟩ := H.out v (by have := HN.out; omega)
        have e1 : blk = blk1 ∧ off = off1 := by injection hA1 with e; injection e with e1 e2; exact ⟨e1, e2⟩
        obtain ⟨rfl, rfl⟩ := e1
        have hin := hok.out v hvk
        have hX := ent_int hin
        have hXl := ent_lt hin
        obtain ⟨X, eX⟩ : ∃ X, X = ent L v := ⟨_, rfl⟩
        rw [← eX] at hX hXl
        rw [hX] at hc1
        rw [← HN.out] at hXl
        have hcv : W.cell? ⟨blk, off + v, none⟩ = some (.int .i64 X) := (hB1.cell (p := ⟨blk, off + v, none⟩) hbl0).trans hc1
        have hi1 : (0 : Int) ≤ (v : Int) ∧ (v : Int) < (k : Int) := by omega
        have EX := Lib.hid eX
        have HI := Lib.hid hin
        have c2 := bb.2.2.cell
        have cX := bX.cell
        clear hA1 hbl1 hc1 hin hX eX
        gi_wp2_with (refine ⟨trivial, ?_⟩; gi_at_call 67; refine (CallsIn.inRound l (callsIn_wide.2 (nodesIn_any X _))).mono ?_; rintro e w' ⟨rfl, rfl⟩)
        have hsW : n₀ ≤ W.heap.size := by have := bb.1.lt; omega
        have bN := Boxed.new W 3 (.int .i64 (X : Nat))
        have hr' : (W.alloc (.cells #[.int .i64 (X : Nat)] 3)).heap[l]? = some (.loop r) := (Below.heap_alloc W _ l (Array.getElem?_eq_some_iff.1 hr).1).trans hr
        have hT2 : Tab (W.alloc (.cells #[.int .i64 (X : Nat)] 3)) := TB.out.below (hB1.alloc hsW _) h2
        refine wpIn_rangeFunc_ownN (α := Nd k X) (l₀ := l) (r₀ := r) rfl hr' (by omega) (gf := 79) (lb := #[.pointer (some ⟨W.heap.size, 0, none⟩)]) rfl trivial (enters_of Tryd.func79 (by kernel_rfl) rfl)
          ((nodes_stops _ W.heap.size k X n₀ (by omega) h6 hXl _ (by simp) bN.cell hT2 h2 (by simp; omega)).inRound l) belowK_t (belowK_b (by simp; omega)) (Below.refl _ _) (fun _ => rfl)
          (fun pre' W' => (((∀ u ∈ valsN pre', u ≠ v ∧ bt L u v = 1) ∧ Boxed3 n₀ (.slice (some ⟨blk, off, none⟩) k c) W') ∧ Boxed W' Bx 3 (.int .i64 (v : Nat))) ∧ (Below n₀ W W' ∧ KeepsFrom W1.heap.size W W'))
          (fun cd pre' W' => ((cd = .ret ∧ ¬ IsGraph L) ∧ Boxed3 n₀ (.slice (some ⟨blk, off, none⟩) k c) W') ∧ (Below n₀ W W' ∧ KeepsFrom W1.heap.size W W'))
          (OwnFrom.and (OwnFrom.and (OwnFrom.and (ownFrom_pure _ _) (Own.from (boxed3_own _ _) _)) (Own.from (boxed_own _ _ _) _)) (OwnFrom.and (ownFrom_below hsW (by simp; omega)) (ownFrom_keepsFrom (by simp))))
          (fun cd => OwnFrom.and (OwnFrom.and (ownFrom_pure _ _) (Own.from (boxed3_own _ _) _)) (OwnFrom.and (ownFrom_below hsW (by simp; omega)) (ownFrom_keepsFrom (by simp))))
          ⟨⟨⟨fun u hu => by simp [valsN] at hu, bb.alloc _⟩, bX.alloc _⟩, (Below.refl _ W).alloc hsW _, (KeepsOthers.alloc _ _).from _⟩
          (fun y a'' _ => a'' = { tmps := #[.slice (some ⟨blk, off, none⟩) k c, undef, .pointer (some ⟨n₀, 0, none⟩), .pointer (some ⟨n₀ + 1, 0, none⟩), .pointer (some ⟨n₀ + 1 + 1, 0, none⟩), undef, u6, .pointer (some ⟨Bx, 0, none⟩), .int .i64 (y.1 : Int), .slice (some ⟨blk, off, none⟩) k c, .slice (some ⟨blk, off, none⟩) k c, .int .i64 k, .bool false, .bool false,
            .slice (some ⟨blk, off, none⟩) k c, .int .i64 k, .bool false, .bool false, .slice (some ⟨blk, off, none⟩) k c, .int .i64 k, .int .i64 k, .bool false, u22, u23, u24, u25, u26, u27, u28, .slice (some ⟨blk, off, none⟩) k c, .func (.func 79) #[] #[.pointer (some ⟨n₀ + 1 + 1 + 1, 0, none⟩)], .int .i64 (v : Int),
            .slice (some ⟨blk, off, none⟩) k c, .int .i64 (v : Int), .pointer (some ⟨blk, off + v, none⟩), .int .i64 (X : Nat), .func (.func 79) #[] #[.pointer (some ⟨W.heap.size, 0, none⟩)], .int .i64 (y.1 : Int), undef, undef, undef, undef, undef, undef, undef, undef, undef, undef, undef], defers := [] })
          (fun _ _ _ _ _ _ hs _ _ => hs)
          ?assign2 ?body2 ?done2 ?stop2
        case assign2 =>
          rintro l2 pre' y W' K hi hK
          gi_wp2
          exact hK _ _ (KeepsFrom.refl _ _) (Below.refl _ _) hi rfl
        case body2 =>
          rintro l2 pre' y a'' W' _ _ ⟨⟨⟨hq, b2⟩, bX2⟩, hBW2, hKF⟩ rfl _
          obtain ⟨u, huk, hux⟩ := y
          have cX2 := bX2.cell
          have d0 := b2.1.cell
          have d1 := b2.2.1.cell
          have d2 := b2.2.2.cell
          have e0 := b2.1.frozen
          have e1 := b2.2.1.frozen
          have hbt : u ∈ nodesL (ent L v) := by rw [← EX.out]; exact nodes_mem.2 ⟨by omega, hux⟩
          by_cases huv : u = v
          · have hee : ((u : Int) == (v : Int)) = true := by simp [huv]
            have hno : ¬ IsGraph L := fun hg => (pairs_of_isGraph hg (by have := HN.out; omega) hbt).1 huv
            clear huv hbt
            gi_wp2
            refine ⟨trivial, ?_⟩
            gi_wp2
            exact ⟨((KeepsOthers.setCell _ _ _).trans (KeepsOthers.setCell _ _ _)).from _, ⟨⟨rfl, hno⟩, b2.reset⟩, (hBW2.setCell (p := ⟨n₀, 0, none⟩) (Nat.le_refl _) _).setCell (p := ⟨n₀ + 1, 0, none⟩) (by show n₀ ≤ n₀ + 1; omega) _,
              hKF.trans (((KeepsOthers.setCell _ _ _).trans (KeepsOthers.setCell _ _ _)).from _)⟩
          · have hee : ((u : Int) == (v : Int)) = false := by simp; omega
            obtain ⟨blk1, off1, hA1, hbl1, hc1⟩ := H.out u (by have := HN.out; omega)
            have e1' : blk = blk1 ∧ off = off1 := by injection hA1 with e; injection e with e1 e2; exact ⟨e1, e2⟩
            obtain ⟨rfl, rfl⟩ := e1'
            have hin := hok.out u huk
            have hY := ent_int hin
            have hYl := ent_lt hin
            obtain ⟨Y, eY⟩ : ∃ Y, Y = ent L u := ⟨_, rfl⟩
            rw [← eY] at hY hYl
            rw [hY] at hc1
            have h64 := two_le (n := L.length) (by have := HN.out; omega)
            have hcu : W'.cell? ⟨blk, off + u, none⟩ = some (.int .i64 Y) := ((hB1.trans hBW2).cell (p := ⟨blk, off + u, none⟩) hbl0).trans hc1
            have hYs : Y < 1048576 := by omega
            have hvs : v < 40 := by omega
            have EY := Lib.hid eY
            have HU := Lib.hid hbt
            have HV := Lib.hid huv
            clear hA1 hbl1 hc1 hin hY hYl eY h64 hbt huv
            by_cases hbit : Y / 2 ^ v % 2 = 1
            · have hbb : (Y / 2 ^ v % 2 == 1) = true := by simp [hbit]
              have HBT := Lib.hid hbit
              clear hbit
              gi_wp2_with (refine ⟨trivial, ?_⟩; gi_at_call 68; refine (CallsIn.inRound l2 (CallsIn.inRound l (callsIn_wide.2 (edge_any blk off k c u v Y _ hYs huk hvs hcu)))).mono ?_; rw [hbb]; rintro e w' ⟨rfl, rfl⟩)
              exact ⟨KeepsFrom.refl _ _, Below.refl _ _, ⟨⟨fun z hz => by
                rw [valsN_snoc] at hz
                rcases List.mem_append.1 hz with h | h
                · exact hq z h
                · simp at h
                  subst h
                  exact ⟨HV.out, by unfold bt; rw [← EY.out]; exact HBT.out⟩, b2⟩, bX2⟩, hBW2, hKF⟩
            · have hbb : (Y / 2 ^ v % 2 == 1) = false := by simp [hbit]
              have hno : ¬ IsGraph L := fun hg => hbit (by have h0 := (pairs_of_isGraph hg (by have := HN.out; omega) HU.out).2; unfold bt at h0; rw [← EY.out] at h0; exact h0)
              clear hbit
              gi_wp2_with (refine ⟨trivial, ?_⟩; gi_at_call 68; refine (CallsIn.inRound l2 (CallsIn.inRound l (callsIn_wide.2 (edge_any blk off k c u v Y _ hYs huk hvs hcu)))).mono ?_; rw [hbb]; rintro e w' ⟨rfl, rfl⟩)
              exact ⟨((KeepsOthers.setCell _ _ _).trans (KeepsOthers.setCell _ _ _)).from _, ⟨⟨rfl, hno⟩, b2.reset⟩, (hBW2.setCell (p := ⟨n₀, 0, none⟩) (Nat.le_refl _) _).setCell (p := ⟨n₀ + 1, 0, none⟩) (by show n₀ ≤ n₀ + 1; omega) _,
                hKF.trans (((KeepsOthers.setCell _ _ _).trans (KeepsOthers.setCell _ _ _)).from _)⟩
        case done2 =>
          rintro ys W' hS ⟨⟨⟨hq, b2⟩, bX2⟩, hBW2, hKF⟩
          gi_wp2
          exact ⟨hKF, hBW2, ⟨fun z hz => by
            rw [valsN_snoc] at hz
            rcases List.mem_append.1 hz with h | h
            · exact hp z h
            · simp at h
              subst h
              intro u hu
              rw [← EX.out, ← hS] at hu
              exact hq u hu, b2⟩, hB1.trans hBW2⟩
        case stop2 =>
          rintro cd pre' W' hpre ⟨⟨⟨rfl, hno⟩, b2⟩, hBW2, hKF⟩
          gi_wp2
          exact ⟨hKF, ⟨⟨rfl, hno⟩, b2⟩, hB1.trans hBW2⟩
      case done =>
        rintro D xs W hD hS ⟨⟨hp, bb⟩, hB1⟩ hK
        have c0 := bb.1.cell
        have c1 := bb.2.1.cell
        have c2 := bb.2.2.cell
        have f0 := bb.1.frozen
        have f1 := bb.2.1.frozen
        have HSS := Lib.hid hS
        clear hS
        gi_wp2
        have hK' := ((KeepsOthers.setCell W ⟨n₀, 0, none⟩ (.slice (some ⟨blk, off, none⟩) k c)).trans (KeepsOthers.setCell _ ⟨n₀ + 1, 0, none⟩ (.bool true))).same D _ hK rfl
        refine ⟨by simp, .inl ⟨_, _, rfl, run_takeDeferred hK', ?_⟩⟩
        have z0 := cell_kept ((bb.1.set (.slice (some ⟨blk, off, none⟩) k c)).other (show n₀ ≠ n₀ + 1 by omega) (.bool true)).cell (grownBy_putObj' _ D (.deferred none)) (fun r e => by cases e; exact ⟨_, hK', rfl⟩)
        have z1 := cell_kept ((bb.2.1.other (show n₀ + 1 ≠ n₀ by omega) (.slice (some ⟨blk, off, none⟩) k c)).set (.bool true)).cell (grownBy_putObj' _ D (.deferred none)) (fun r e => by cases e; exact ⟨_, hK', rfl⟩)
        refine ⟨.tuple #[.slice (some ⟨blk, off, none⟩) k c, .bool true], by simp [results, Tryd.f49, go_sem, z0, z1], ?_⟩
        refine asG_yes HB.out ?_ ?_
        · refine isGraph_of_pairs (by have := HN.out; omega) (by have := HN.out; omega) (fun v hv => hok.out v (by have := HN.out; omega)) (fun v hv => hp v ?_)
          rw [HSS.out]
          refine nodes_mem.2 ⟨by have := HN.out; omega, ?_⟩
          exact full_bit (by have := HQ.out; exact this) (by have := HN.out; omega)
        · rw [← EN.out]
          exact ((hB1.setCell (p := ⟨n₀, 0, none⟩) (Nat.le_refl _) _).setCell (p := ⟨n₀ + 1, 0, none⟩) (by show n₀ ≤ n₀ + 1; omega) _).trans (belowK_b (w := w) hle _ D _ _ (by have := EN.out; omega) hK' rfl rfl)
      case stop =>
        rintro D cd pre W hD hpre ⟨⟨⟨rfl, hno⟩, bb⟩, hB1⟩ hK
        gi_wp2
        refine ⟨by simp, .inl ⟨_, _, rfl, run_takeDeferred hK, ?_⟩⟩
        have z0 := cell_kept bb.1.cell (grownBy_putObj' _ D (.deferred none)) (fun r e => by cases e; exact ⟨_, hK, rfl⟩)
        have z1 := cell_kept bb.2.1.cell (grownBy_putObj' _ D (.deferred none)) (fun r e => by cases e; exact ⟨_, hK, rfl⟩)
        refine ⟨.tuple #[.slice none 0 0, .bool false], by simp [results, Tryd.f49, go_sem, z0, z1], ?_⟩
        exact asG_no HB.out hno (by rw [← EN.out]; exact hB1.trans (belowK_b (w := w) hle _ D _ _ (by have := EN.out; omega) hK rfl rfl))
end Go.Proofs.YtedjnenbmhajiaaDoor
