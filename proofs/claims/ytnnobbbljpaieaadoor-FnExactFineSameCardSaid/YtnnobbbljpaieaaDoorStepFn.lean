/- The model's l5Step. -/
import Derived.Test.YtnnobbbljpaieaaDoorStepMath
import Derived.Test.YtnnobbbljpaieaaDoorRegionInvP
import Derived.Test.YtnnobbbljpaieaaDoorValuesS
import Derived.Test.YtnnobbbljpaieaaDoorBefore
import Derived.Test.YtnnobbbljpaieaaDoorL3Equal
namespace Go.Proofs.YtnnobbbljpaieaaDoor
open Go Go.RowKit Go.Shelf Go.Sort
set_option linter.unusedVariables false
set_option maxRecDepth 100000

variable {m₀ : Nat} {w₀ : World}
theorem ddp_le (ls : List (List Int)) : (ddp ls).length ≤ ls.length := by
  refine list_snoc_ind (P := fun ls => (ddp ls).length ≤ ls.length) (by simp [ddp]) (fun l x ih => ?_) ls
  rw [ddp_snoc]
  by_cases h : x ∈ ddp l
  · rw [if_pos h]; simp; omega
  · rw [if_neg h]; simp; omega
theorem RowL.see {W : World} {B : Nat} {v : Value} {L : List (Sl m₀ w₀)} (h : RowL W B v L) :
    ∃ A c, v = .slice A L.length c ∧ ∀ k, k < L.length → ∃ g, A = some ⟨g, 0, none⟩ ∧ B ≤ g ∧ g < W.heap.size ∧ W.cell? ⟨g, k, none⟩ = some (encS L[k]!) := by
  have h0 := h
  unfold RowL at h0
  rcases h0.2 with ⟨rfl, hn⟩ | ⟨g, cap, cur, rfl, hg, hb, _⟩
  · exact ⟨none, 0, by rw [hn], fun k hk => absurd hk (by omega)⟩
  · exact ⟨_, cap, rfl, fun k hk => ⟨g, rfl, hg, (Array.getElem?_eq_some_iff.1 hb).1, by rw [World.ownsRow.cellAt h0 k (by omega)]; exact mapS_get L k hk⟩⟩
theorem append_sl {ops : Array Oper} {rest : List Oper} {o : Oper} {a : Act} {Q : Exit → Act → World → Prop} (hgd : o.guard = none) (s x : Operand)
    (ho : o.op = .call { callee := .builtin .append, args := #[s, x], argTypes := #[28, 28] }) (W : World) (B : Nat) (v : Value) (L : List (Sl m₀ w₀)) (y : Sl m₀ w₀)
    (hs : a.eval s = v) (hx : a.eval x = .slice (some ⟨W.heap.size, 0, none⟩) 1 1) (hr : RowL W B v L) (hB : B ≤ W.heap.size) (hlen : L.length ≤ 100000)
    (h : ∀ v' W', RowL W' B v' (L ++ [y]) → Below B W W' → wpList Tryd.prog ops Q rest (a.put o.dst v') W') :
    wpList Tryd.prog ops Q (o :: rest) a (W.alloc (.cells #[encS y] 22)) := by
  obtain ⟨i0, hi, hz0, hz1, hz2⟩ := info_parts infoSlice
  refine wpList_append_own (W.alloc (.cells #[encS y] 22)) hgd s x 28 ho B 22 i0 (.slice none 0 0) 1 24 Tryd.underlying28 hi hz0 hz1 hz2 rfl (by decide) v L.length (L.map encS) hs (World.ownsRow.alloc hr _)
    ⟨W.heap.size, 0, none⟩ 1 1 [encS y] hx rfl (cell_one_new W _ _) (by simp [encS_one y]) (by unfold maxLen; omega) (by omega) (by simp; omega) ?_
  intro v' w' hown hg _
  refine h v' w' ?_ (((Below.refl B W).alloc hB _).grown hg (by simp; omega) (fun k hk => (hr.lt k hk).1))
  unfold RowL
  rw [List.length_append, List.map_append]
  exact hown
theorem exists_list {α : Type} [Inhabited α] : ∀ (n : Nat) (P : Nat → α → Prop), (∀ i, i < n → ∃ x, P i x) → ∃ l : List α, l.length = n ∧ ∀ i, i < n → P i l[i]!
  | 0, _, _ => ⟨[], rfl, fun i h => absurd h (Nat.not_lt_zero _)⟩
  | n + 1, P, h => by
    obtain ⟨l, h1, h2⟩ := exists_list n P (fun i hi => h i (by omega))
    obtain ⟨x, hx⟩ := h n (by omega)
    refine ⟨l ++ [x], by rw [List.length_append, h1]; rfl, fun i hi => ?_⟩
    by_cases e : i < n
    · rw [getElem!_pos _ i (by rw [List.length_append, h1]; simp; omega), List.getElem_append_left (by omega)]
      have := h2 i e
      rwa [getElem!_pos l i (by omega)] at this
    · have hin : i = n := by omega
      subst hin
      rw [getElem!_pos _ i (by rw [List.length_append, h1]; simp), List.getElem_append_right (by omega)]
      simpa [h1] using hx
/-- A slot that is laid once its operation has come up. -/
def pk (b : Bool) (v u : Value) : Value := if b then v else u
theorem pk_true (v u : Value) : pk true v u = v := rfl
theorem pk_false (v u : Value) : pk false v u = u := rfl
/-- What stands while a look is being made and listed. -/
structure StepI (wr : World) (s : Nat) (u5 : Value) (Ls : List (List Int)) (ar : List Int) (col : Int) (q0 q1 q2 q3 q4 q5 q6 q7 q8 q9 q10 q11 : Bool) (g5 g8 kl c8 e9 : Nat) (v54 v57 : Value) (W : World) : Prop where
  d3 : q3 = true → q1 = true ∧ q2 = true
  d4 : q4 = true → q3 = true
  d5 : q5 = true → q4 = true
  d7 : q7 = true → q6 = true
  d8 : q8 = true → q5 = true ∧ q7 = true
  d9 : q9 = true → q8 = true
  d10 : q10 = true → q0 = true ∧ q9 = true
  d11 : q11 = true → q10 = true
  below : q10 = false → Below wr.drew.heap.size wr.drew W
  row5 : q5 = true → q8 = false → RowS W wr.drew.heap.size (.slice (some ⟨g5, 0, none⟩) 1 1) [col]
  row7 : q7 = true → q8 = false → Row W wr.drew.heap.size v54 (sortL ar)
  row8 : q8 = true → q10 = false → RowS W wr.drew.heap.size (.slice (some ⟨g8, 0, none⟩) kl c8) (col :: sortL ar)
  cell9 : q9 = true → q10 = false → W.cell? ⟨e9, 0, none⟩ = some (.slice (some ⟨g8, 0, none⟩) kl c8)
  done : q10 = true → Row2Z W s v57 (Ls ++ [col :: sortL ar]) ∧ Below s wr W
section
variable {wr : World} {s : Nat} {u5 : Value} {Ls : List (List Int)} {ar : List Int} {col : Int} {q0 q1 q2 q3 q4 q5 q6 q7 q8 q9 q10 q11 : Bool} {g5 g8 kl c8 e9 : Nat} {v54 v57 : Value} {W : World}
theorem StepI.start : StepI wr s u5 Ls ar col false false false false false false false false false false false false 0 0 kl 0 0 undef undef wr.drew := by
  constructor <;> intro h <;> first | (cases h; done) | exact Below.refl _ _
theorem StepI.flip0 (h : StepI wr s u5 Ls ar col false q1 q2 q3 q4 q5 q6 q7 q8 q9 false false g5 g8 kl c8 e9 v54 v57 W) : StepI wr s u5 Ls ar col true q1 q2 q3 q4 q5 q6 q7 q8 q9 false false g5 g8 kl c8 e9 v54 v57 W := by
  obtain ⟨d3, d4, d5, d7, d8, d9, d10, d11, hb, r5, r7, r8, c9, hd⟩ := h
  constructor <;> simp_all
theorem StepI.flip1 (h : StepI wr s u5 Ls ar col q0 false q2 false false false q6 q7 false false false false g5 g8 kl c8 e9 v54 v57 W) : StepI wr s u5 Ls ar col q0 true q2 false false false q6 q7 false false false false g5 g8 kl c8 e9 v54 v57 W := by
  obtain ⟨d3, d4, d5, d7, d8, d9, d10, d11, hb, r5, r7, r8, c9, hd⟩ := h
  constructor <;> simp_all
theorem StepI.flip2 (h : StepI wr s u5 Ls ar col q0 q1 false false false false q6 q7 false false false false g5 g8 kl c8 e9 v54 v57 W) : StepI wr s u5 Ls ar col q0 q1 true false false false q6 q7 false false false false g5 g8 kl c8 e9 v54 v57 W := by
  obtain ⟨d3, d4, d5, d7, d8, d9, d10, d11, hb, r5, r7, r8, c9, hd⟩ := h
  constructor <;> simp_all
theorem StepI.flip3 (h : StepI wr s u5 Ls ar col q0 true true false false false q6 q7 false false false false g5 g8 kl c8 e9 v54 v57 W) : StepI wr s u5 Ls ar col q0 true true true false false q6 q7 false false false false g5 g8 kl c8 e9 v54 v57 W := by
  obtain ⟨d3, d4, d5, d7, d8, d9, d10, d11, hb, r5, r7, r8, c9, hd⟩ := h
  constructor <;> simp_all
theorem StepI.flip4 (h : StepI wr s u5 Ls ar col q0 true true true false false q6 q7 false false false false g5 g8 kl c8 e9 v54 v57 W) : StepI wr s u5 Ls ar col q0 true true true true false q6 q7 false false false false g5 g8 kl c8 e9 v54 v57 W := by
  obtain ⟨d3, d4, d5, d7, d8, d9, d10, d11, hb, r5, r7, r8, c9, hd⟩ := h
  constructor <;> simp_all
theorem StepI.flip5 (h : StepI wr s u5 Ls ar col q0 true true true true false q6 q7 false false false false g5 g8 kl c8 e9 v54 v57 W) : StepI wr s u5 Ls ar col q0 true true true true true q6 q7 false false false false W.heap.size g8 kl c8 e9 v54 v57 (W.alloc (.cells #[.int .i64 col] 3)) := by
  have hW := h.below rfl
  obtain ⟨d3, d4, d5, d7, d8, d9, d10, d11, hb, r5, r7, r8, c9, hd⟩ := h
  refine ⟨by simp_all, by simp_all, by simp_all, by simp_all, by simp_all, by simp_all, by simp_all, by simp_all, fun _ => hW.alloc hW.size _, fun _ _ => ⟨?_, fun e => by cases e⟩, fun e1 e2 => (r7 e1 e2).alloc _, by simp_all, by simp_all, by simp_all⟩
  exact World.ownsRow_lit (base := wr.drew.heap.size) (e := 3) (size := 1) W #[.int .i64 col] 1 hW.size (by unfold maxLen; omega) rfl
theorem StepI.flip6 (h : StepI wr s u5 Ls ar col q0 q1 q2 q3 q4 q5 false false false false false false g5 g8 kl c8 e9 v54 v57 W) : StepI wr s u5 Ls ar col q0 q1 q2 q3 q4 q5 true false false false false false g5 g8 kl c8 e9 v54 v57 W := by
  obtain ⟨d3, d4, d5, d7, d8, d9, d10, d11, hb, r5, r7, r8, c9, hd⟩ := h
  constructor <;> simp_all
theorem StepI.flip7 {w' : World} {vv : Value} (h : StepI wr s u5 Ls ar col q0 q1 q2 q3 q4 q5 true false false false false false g5 g8 kl c8 e9 v54 v57 W) (hr : Row w' W.heap.size vv (sortL ar)) (hw : Below W.heap.size W w') : StepI wr s u5 Ls ar col q0 q1 q2 q3 q4 q5 true true false false false false g5 g8 kl c8 e9 vv v57 w' := by
  have hW := h.below rfl
  obtain ⟨d3, d4, d5, d7, d8, d9, d10, d11, hb, r5, r7, r8, c9, hd⟩ := h
  exact ⟨by simp_all, by simp_all, by simp_all, by simp_all, by simp_all, by simp_all, by simp_all, by simp_all, fun _ => hW.trans (hw.mono hW.size), fun e1 e2 => (r5 e1 e2).below hw, fun _ _ => hr.mono hW.size, by simp_all, by simp_all, by simp_all⟩
theorem StepI.flip8 {w' : World} {g' c8' : Nat} (h : StepI wr s u5 Ls ar col q0 true true true true true true true false false false false g5 g8 kl c8 e9 v54 v57 W) (hr : RowS w' wr.drew.heap.size (.slice (some ⟨g', 0, none⟩) kl c8') ([col] ++ sortL ar)) (hg : W.grownBy w' (Value.slice (some ⟨g5, 0, none⟩) 1 1).ownBlock) : StepI wr s u5 Ls ar col q0 true true true true true true true true false false false g5 g' kl c8' e9 v54 v57 w' := by
  have hW := h.below rfl
  have h5 := h.row5 rfl rfl
  obtain ⟨d3, d4, d5, d7, d8, d9, d10, d11, hb, r5, r7, r8, c9, hd⟩ := h
  exact ⟨by simp_all, by simp_all, by simp_all, by simp_all, by simp_all, by simp_all, by simp_all, by simp_all, fun _ => hW.grown hg hW.size (fun k hk => (h5.1.lt k hk).1), by simp, by simp, fun _ _ => hr, by simp_all, by simp_all⟩
theorem StepI.flip9 (h : StepI wr s u5 Ls ar col q0 true true true true true true true true false false false g5 g8 kl c8 e9 v54 v57 W) : StepI wr s u5 Ls ar col q0 true true true true true true true true true false false g5 g8 kl c8 W.heap.size v54 v57 (W.alloc (.cells #[.slice (some ⟨g8, 0, none⟩) kl c8] 22)) := by
  have hW := h.below rfl
  obtain ⟨d3, d4, d5, d7, d8, d9, d10, d11, hb, r5, r7, r8, c9, hd⟩ := h
  exact ⟨by simp_all, by simp_all, by simp_all, by simp_all, by simp_all, by simp_all, by simp_all, by simp_all, fun _ => hW.alloc hW.size _, by simp, by simp, fun e1 e2 => ⟨(r8 e1 e2).1.alloc _, (r8 e1 e2).2⟩, fun _ _ => (Boxed.new W 22 (.slice (some ⟨g8, 0, none⟩) kl c8)).cell, by simp_all⟩
theorem StepI.flip10 {w' : World} {v' : Value} (h : StepI wr s u5 Ls ar col true true true true true true true true true true false false g5 g8 kl c8 e9 v54 v57 W) (hr : Row2Z w' s v' (Ls ++ [col :: sortL ar])) (hw : Below s W w') (hs : s ≤ wr.drew.heap.size) : StepI wr s u5 Ls ar col true true true true true true true true true true true false g5 g8 kl c8 e9 v54 v' w' := by
  have hW := h.below rfl
  obtain ⟨d3, d4, d5, d7, d8, d9, d10, d11, hb, r5, r7, r8, c9, hd⟩ := h
  exact ⟨by simp_all, by simp_all, by simp_all, by simp_all, by simp_all, by simp_all, by simp_all, by simp_all, by simp, by simp, by simp, by simp, by simp, fun _ => ⟨hr, ((Below.refl s wr).drew.trans (hW.mono hs)).trans hw⟩⟩
theorem StepI.flip11 (h : StepI wr s u5 Ls ar col true true true true true true true true true true true false g5 g8 kl c8 e9 v54 v57 W) : StepI wr s u5 Ls ar col true true true true true true true true true true true true g5 g8 kl c8 e9 v54 v57 W := by
  obtain ⟨d3, d4, d5, d7, d8, d9, d10, d11, hb, r5, r7, r8, c9, hd⟩ := h
  constructor <;> simp_all
end

theorem around_succ (Ns : List (List Int)) (C : List Int) (v j : Nat) (h : j < (Ns[v]?.getD []).length) (u : Nat) (hu : (Ns[v]?.getD [])[j]?.getD 0 = (u : Int)) :
    (aroundL Ns C v).take (j + 1) = (aroundL Ns C v).take j ++ [hue C u] := by
  have hl : j < (aroundL Ns C v).length := by unfold aroundL; rw [List.length_map]; exact h
  rw [List.take_succ_eq_append_getElem hl]
  have e : (aroundL Ns C v)[j] = hue C u := by
    have h1 : (aroundL Ns C v)[j]? = some (hue C u) := by
      unfold aroundL
      rw [List.getElem?_map, List.getElem?_eq_getElem h, Option.map_some]
      rw [List.getElem?_eq_getElem h, Option.getD_some] at hu
      rw [hu]
      rfl
    rw [List.getElem?_eq_getElem hl] at h1
    injection h1
  rw [e]

set_option maxHeartbeats 8000000 in
theorem specStep_seen (A A' : Option Addr) (c c' : Nat) (Ns : List (List Int)) (C : List Int) (hN : Near Ns) (hl : C.length = Ns.length) (w : World) (hA : NearSeen w A Ns) (hC : Seen w A' C) :
    Calls Tryd.prog 22 #[.slice A Ns.length c, .slice A' C.length c'] w (Gave w (stepL Ns C)) := by
  rw [hl]
  obtain ⟨n, hn⟩ : ∃ n, n = Ns.length := ⟨_, rfl⟩
  have h12 := hN.1
  rw [← hn] at h12 hl ⊢
  have HN := Lib.hid hn
  have HNE := Lib.hid hN
  have HA := Lib.hid hA
  have HC := Lib.hid hC
  have HL := Lib.hid hl
  have R0 : Hid (Row2Z (w.alloc (.cells #[] 22)) w.heap.size (.slice (some ⟨w.heap.size, 0, none⟩) 0 0) (stepLooks Ns C 0)) := Lib.hid (row2Z_new w)
  have B0 := Lib.hid ((Below.refl w.heap.size w).alloc (Nat.le_refl _) (.cells #[] 22))
  clear hn hN hA hC hl
  go_enter Tryd.func22, Tryd.ntmps22
  go_wp2
  go_loopw [5, 6] (fun o i wr => ∃ k : Nat, k ≤ n ∧ i = .int .i64 k ∧ Hid (Row2Z wr w.heap.size o (stepLooks Ns C k)) ∧ Hid (Below w.heap.size w wr)) (fun _ i _ => n - (intOf i).toNat)
  case atStart => exact ⟨0, Nat.zero_le _, rfl, R0, B0⟩
  case round =>
    clear R0 B0
    obtain ⟨k, hk, rfl, hr, hb⟩ := hrel
    by_cases hlt : k < n
    · obtain ⟨blk, off, An, cn, rfl, hbl, hcn, hsn⟩ := HA.out k (by have := HN.out; omega)
      have hnk := HNE.out.2 k (by have := HN.out; omega)
      obtain ⟨K, eK⟩ : ∃ K, K = Ns[k]?.getD [] := ⟨_, rfl⟩
      rw [← eK] at hcn hsn hnk
      obtain ⟨p, ep⟩ : ∃ p, p = K.length := ⟨_, rfl⟩
      rw [← ep] at hcn hnk
      have hp12 := hnk.1
      have hi1 : (0 : Int) ≤ (k : Int) ∧ (k : Int) < (n : Int) := by omega
      have hcw : wr.cell? ⟨blk, off + k, none⟩ = some (.slice An p cn) := (hb.out.cell (p := ⟨blk, off + k, none⟩) hbl).trans hcn
      have hcb : blk < wr.heap.size := Nat.lt_of_lt_of_le hbl hb.out.size
      have HSN := Lib.hid (hsn.below hb.out)
      have HCW := Lib.hid (HC.out.below hb.out)
      have HK := Lib.hid eK
      have HPL := Lib.hid ep
      have HNK := Lib.hid hnk.2
      have R1 : Hid (RowS (wr.alloc (.cells #[] 3)) wr.heap.size (.slice (some ⟨wr.heap.size, 0, none⟩) 0 0) ((aroundL Ns C k).take 0)) := Lib.hid (rowS_new wr)
      have B1 := Lib.hid ((Below.refl wr.heap.size wr).alloc (Nat.le_refl _) (.cells #[] 3))
      clear eK hcn hsn hnk ep
      obtain ⟨wo, rfl⟩ : ∃ wo : World, wo = wr := ⟨_, rfl⟩
      go_wp2
      go_loopw [7, 8] (fun o i wr => ∃ j : Nat, j ≤ p ∧ i = .int .i64 j ∧ Hid (RowS wr wo.heap.size o ((aroundL Ns C k).take j)) ∧ Hid (Below wo.heap.size wo wr)) (fun _ i _ => p - (intOf i).toNat)
      case atStart => exact ⟨0, Nat.zero_le _, rfl, R1, B1⟩
      case round =>
        clear R1 B1
        obtain ⟨j, hj, rfl, hr1, hb1⟩ := hrel
        have hcw1 : wr.cell? ⟨blk, off + k, none⟩ = some (.slice An p cn) := (hb1.out.cell (p := ⟨blk, off + k, none⟩) hcb).trans hcw
        by_cases hlj : j < p
        · obtain ⟨bq, oq, rfl, hbq, hcq⟩ := (HSN.out.below hb1.out) j (by have := HPL.out; omega)
          obtain ⟨u, hu, hun⟩ := HNK.out j (by have := HPL.out; omega)
          have hst := around_succ Ns C k j (by rw [← HK.out, ← HPL.out]; exact hlj) u (by rw [← HK.out]; exact hu)
          rw [hu] at hcq
          rw [← HN.out] at hun
          obtain ⟨bc, oc, hAc, hbc, hcc⟩ := (HCW.out.below hb1.out) u (by have := HL.out; omega)
          subst hAc
          obtain ⟨x, ex⟩ : ∃ x, x = hue C u := ⟨_, rfl⟩
          have hxc : C[u]?.getD 0 = x := ex.symm
          rw [hxc] at hcc
          rw [← ex] at hst
          have hj1 : (0 : Int) ≤ (j : Int) ∧ (j : Int) < (p : Int) := by omega
          have hu1 : (0 : Int) ≤ (u : Int) ∧ (u : Int) < (n : Int) := by omega
          have HST := Lib.hid hst
          have HL1 := Lib.hid (show ((aroundL Ns C k).take j).length ≤ 100000 by rw [List.length_take]; omega)
          clear hst ex hxc hu hbq hbc
          go_wp2_with (at_builtin; refine append_oneS rfl (.tmp 34) (.tmp 45) rfl wr wo.heap.size u7 _ x rfl rfl hr1.out hb1.out.size HL1.out ?_; intro v3 w3 hv3 hb3)
          go_roundw
          case rel => exact ⟨j + 1, by omega, by go_num, Lib.hid (by rw [HST.out]; exact hv3.out), Lib.hid (hb1.out.trans hb3.out)⟩
          case measure => simp [intOf]; omega
        · have hjp : p = j := by omega
          subst hjp
          obtain ⟨b7, c7, e7⟩ := hr1.out.shape
          subst e7
          obtain ⟨ar, ear⟩ : ∃ ar, ar = aroundL Ns C k := ⟨_, rfl⟩
          have harl : ar.length = p := by rw [ear]; unfold aroundL; rw [List.length_map, ← HK.out, ← HPL.out]
          rw [← ear, List.take_of_length_le (by omega)] at hr1 ⊢
          obtain ⟨ml, eml⟩ : ∃ ml, ml = ar.length := ⟨_, rfl⟩
          rw [← eml] at hr1 ⊢
          have hs7 := hr1.out.1.seen
          obtain ⟨A7, c7', e7', hs7⟩ := hs7
          have e7'' : A7 = some ⟨b7, 0, none⟩ := by injection e7' with e; exact e.symm
          subst e7''
          obtain ⟨bc, oc, hAc, hbc, hcc⟩ := (HCW.out.below hb1.out) k (by have := HL.out; omega)
          subst hAc
          obtain ⟨col, ecol⟩ : ∃ col, col = hue C k := ⟨_, rfl⟩
          have hcol : C[k]?.getD 0 = col := ecol.symm
          rw [hcol] at hcc
          have HQ4 := Lib.hid (fun (W : World) (hb : Below wr.drew.heap.size wr.drew W) => (hb.cell (p := ⟨bc, oc + k, none⟩) hbc).trans hcc)
          have HSRT := Lib.hid (fun (W : World) (hb : Below wr.drew.heap.size wr.drew W) => specSorted_seen (some ⟨b7, 0, none⟩) c7 ar (by omega) W (Seen.below (w := wr.drew) hs7 hb))
          rw [← eml] at HSRT
          have HR2 : Hid (Row2Z wr.drew w.heap.size u5 (stepLooks Ns C k)) := Lib.hid (hr.out.below hb1.out.drew)
          have HSN2 : Hid (w.heap.size ≤ wr.drew.heap.size) := Lib.hid (Nat.le_trans hb.out.size hb1.out.size)
          have HBW := Lib.hid (hb.out.trans (hb1.out.mono hb.out.size))
          have HAR := Lib.hid ear
          have HCOL := Lib.hid ecol
          have HARL := Lib.hid harl
          obtain ⟨kl, ekl⟩ : ∃ kl, kl = ml + 1 := ⟨_, rfl⟩
          have HKL := Lib.hid (show kl = ar.length + 1 by rw [ekl, eml])
          have hmx : Tryd.prog.follows .mixedOrders = true := by kernel_rfl
          clear ear harl eml hs7 e7' hcol hcc hr hr1 ekl ecol
          go_wp2
          refine wp_region_inv hmx (fun listed a W => ∃ (q0 q1 q2 q3 q4 q5 q6 q7 q8 q9 q10 q11 : Bool) (g5 g8 c8 e9 : Nat) (v54 v57 : Value), listed = #[q0, q1, q2, q3, q4, q5, q6, q7, q8, q9, q10, q11] ∧ a = { tmps := #[.slice (some ⟨blk, off, none⟩) n c, .slice (some ⟨bc, oc, none⟩) n c', undef, undef, .slice none 0 0, pk q11 v57 u5, .int .i64 (k : Int), .slice (some ⟨b7, 0, none⟩) ml c7, .int .i64 (p : Int), undef, undef, undef, undef, undef, undef, undef, undef, .slice (some ⟨w.heap.size, 0, none⟩) 0 0, .int .i64 (k : Int), .slice (some ⟨blk, off, none⟩) n c, .int .i64 (n : Int), .bool true, u22, u23, .slice (some ⟨wo.heap.size, 0, none⟩) 0 0, .int .i64 (p : Int), .slice (some ⟨blk, off, none⟩) n c, .int .i64 (k : Int), .pointer (some ⟨blk, off + k, none⟩), .slice An p cn, .int .i64 (p : Int), .bool false, u32, u33, u34, u35, u36, u37, u38, u39, u40, u41, u42, u43, u44, u45, u46, pk q0 (u5) u47, pk q1 (.slice (some ⟨bc, oc, none⟩) n c') u48, pk q2 (.int .i64 (k : Int)) u49, pk q3 (.pointer (some ⟨bc, oc + k, none⟩)) u50, pk q4 (.int .i64 col) u51, pk q5 (.slice (some ⟨g5, 0, none⟩) 1 1) u52, pk q6 (.slice (some ⟨b7, 0, none⟩) ml c7) u53, pk q7 (v54) u54, pk q8 (.slice (some ⟨g8, 0, none⟩) kl c8) u55, pk q9 (.slice (some ⟨e9, 0, none⟩) 1 1) u56, pk q10 (v57) u57, undef, undef, undef, undef, undef, undef, undef, undef, undef, undef, undef, undef, undef, undef, undef, undef, undef, undef, undef, undef, undef, undef, undef, undef, undef, undef, undef, undef, undef, undef, undef, undef, undef, undef, undef, undef, undef, undef, undef, undef, undef, undef, undef, undef, undef, undef, undef, undef, undef, undef, undef, undef, undef, undef, undef, undef, undef, undef, undef, undef, undef, undef, undef], defers := [] } ∧ StepI wr w.heap.size u5 (stepLooks Ns C k) ar col q0 q1 q2 q3 q4 q5 q6 q7 q8 q9 q10 q11 g5 g8 kl c8 e9 v54 v57 W) ?h0 ?step ?hu ?hend
          case hu => decide +kernel
          case h0 => exact ⟨false, false, false, false, false, false, false, false, false, false, false, false, 0, 0, 0, 0, undef, undef, rfl, rfl, StepI.start⟩
          case step =>
            rintro listed a W i ⟨q0, q1, q2, q3, q4, q5, q6, q7, q8, q9, q10, q11, g5, g8, c8, e9, v54, v57, rfl, rfl, hI⟩ hi
            obtain ⟨hi0, o, ho, haf⟩ := mem_ready.1 hi
            have hlt : i < 12 := (Array.getElem?_eq_some_iff.1 ho).1
            obtain rfl | rfl | rfl | rfl | rfl | rfl | rfl | rfl | rfl | rfl | rfl | rfl : i = 0 ∨ i = 1 ∨ i = 2 ∨ i = 3 ∨ i = 4 ∨ i = 5 ∨ i = 6 ∨ i = 7 ∨ i = 8 ∨ i = 9 ∨ i = 10 ∨ i = 11 := by omega
            all_goals
              cases ho
              simp [Region.binds] at hi0 haf
              clear hi hlt
            case inl.refl =>
              subst hi0
              have f10 : q10 = false := by
                cases e : q10 with
                | false => rfl
                | true => exact absurd (hI.d10 e).1 (by decide)
              have f11 : q11 = false := by
                cases e : q11 with
                | false => rfl
                | true => exact absurd (hI.d10 (hI.d11 e)).1 (by decide)
              clear haf
              subst f10
              subst f11
              refine wpOp_step rfl (fun K hK => ?_)
              rw [if_pos (by rfl)]
              simp only [pk_false]
              go_simp
              exact hK _ _ ⟨true, q1, q2, q3, q4, q5, q6, q7, q8, q9, false, false, g5, g8, c8, e9, v54, v57, rfl, rfl, hI.flip0⟩
            case inr.inl.refl =>
              subst hi0
              have f3 : q3 = false := by
                cases e : q3 with
                | false => rfl
                | true => exact absurd (hI.d3 e).1 (by decide)
              have f4 : q4 = false := by
                cases e : q4 with
                | false => rfl
                | true => exact absurd (hI.d3 (hI.d4 e)).1 (by decide)
              have f5 : q5 = false := by
                cases e : q5 with
                | false => rfl
                | true => exact absurd (hI.d3 (hI.d4 (hI.d5 e))).1 (by decide)
              have f8 : q8 = false := by
                cases e : q8 with
                | false => rfl
                | true => exact absurd (hI.d3 (hI.d4 (hI.d5 (hI.d8 e).1))).1 (by decide)
              have f9 : q9 = false := by
                cases e : q9 with
                | false => rfl
                | true => exact absurd (hI.d3 (hI.d4 (hI.d5 (hI.d8 (hI.d9 e)).1))).1 (by decide)
              have f10 : q10 = false := by
                cases e : q10 with
                | false => rfl
                | true => exact absurd (hI.d3 (hI.d4 (hI.d5 (hI.d8 (hI.d9 (hI.d10 e).2)).1))).1 (by decide)
              have f11 : q11 = false := by
                cases e : q11 with
                | false => rfl
                | true => exact absurd (hI.d3 (hI.d4 (hI.d5 (hI.d8 (hI.d9 (hI.d10 (hI.d11 e)).2)).1))).1 (by decide)
              clear haf
              subst f3
              subst f4
              subst f5
              subst f8
              subst f9
              subst f10
              subst f11
              refine wpOp_step rfl (fun K hK => ?_)
              rw [if_pos (by rfl)]
              go_simp
              exact hK _ _ ⟨q0, true, q2, false, false, false, q6, q7, false, false, false, false, g5, g8, c8, e9, v54, v57, rfl, rfl, hI.flip1⟩
            case inr.inr.inl.refl =>
              subst hi0
              have f3 : q3 = false := by
                cases e : q3 with
                | false => rfl
                | true => exact absurd (hI.d3 e).2 (by decide)
              have f4 : q4 = false := by
                cases e : q4 with
                | false => rfl
                | true => exact absurd (hI.d3 (hI.d4 e)).2 (by decide)
              have f5 : q5 = false := by
                cases e : q5 with
                | false => rfl
                | true => exact absurd (hI.d3 (hI.d4 (hI.d5 e))).2 (by decide)
              have f8 : q8 = false := by
                cases e : q8 with
                | false => rfl
                | true => exact absurd (hI.d3 (hI.d4 (hI.d5 (hI.d8 e).1))).2 (by decide)
              have f9 : q9 = false := by
                cases e : q9 with
                | false => rfl
                | true => exact absurd (hI.d3 (hI.d4 (hI.d5 (hI.d8 (hI.d9 e)).1))).2 (by decide)
              have f10 : q10 = false := by
                cases e : q10 with
                | false => rfl
                | true => exact absurd (hI.d3 (hI.d4 (hI.d5 (hI.d8 (hI.d9 (hI.d10 e).2)).1))).2 (by decide)
              have f11 : q11 = false := by
                cases e : q11 with
                | false => rfl
                | true => exact absurd (hI.d3 (hI.d4 (hI.d5 (hI.d8 (hI.d9 (hI.d10 (hI.d11 e)).2)).1))).2 (by decide)
              clear haf
              subst f3
              subst f4
              subst f5
              subst f8
              subst f9
              subst f10
              subst f11
              refine wpOp_step rfl (fun K hK => ?_)
              rw [if_pos (by rfl)]
              go_simp
              exact hK _ _ ⟨q0, q1, true, false, false, false, q6, q7, false, false, false, false, g5, g8, c8, e9, v54, v57, rfl, rfl, hI.flip2⟩
            case inr.inr.inr.inl.refl =>
              subst hi0
              have f4 : q4 = false := by
                cases e : q4 with
                | false => rfl
                | true => exact absurd (hI.d4 e) (by decide)
              have f5 : q5 = false := by
                cases e : q5 with
                | false => rfl
                | true => exact absurd (hI.d4 (hI.d5 e)) (by decide)
              have f8 : q8 = false := by
                cases e : q8 with
                | false => rfl
                | true => exact absurd (hI.d4 (hI.d5 (hI.d8 e).1)) (by decide)
              have f9 : q9 = false := by
                cases e : q9 with
                | false => rfl
                | true => exact absurd (hI.d4 (hI.d5 (hI.d8 (hI.d9 e)).1)) (by decide)
              have f10 : q10 = false := by
                cases e : q10 with
                | false => rfl
                | true => exact absurd (hI.d4 (hI.d5 (hI.d8 (hI.d9 (hI.d10 e).2)).1)) (by decide)
              have f11 : q11 = false := by
                cases e : q11 with
                | false => rfl
                | true => exact absurd (hI.d4 (hI.d5 (hI.d8 (hI.d9 (hI.d10 (hI.d11 e)).2)).1)) (by decide)
              have f1 : q1 = true := by first | exact haf | exact haf.1 | exact haf.2 | exact haf.2.1 | exact haf.2.2 | exact haf.1.1 | exact haf.1.2
              have f2 : q2 = true := by first | exact haf | exact haf.1 | exact haf.2 | exact haf.2.1 | exact haf.2.2 | exact haf.1.1 | exact haf.1.2
              clear haf
              subst f4
              subst f5
              subst f8
              subst f9
              subst f10
              subst f11
              subst f1
              subst f2
              refine wpOp_step rfl (fun K hK => ?_)
              rw [if_pos (by rfl)]
              simp only [pk_true]
              go_simp
              exact hK _ _ ⟨q0, true, true, true, false, false, q6, q7, false, false, false, false, g5, g8, c8, e9, v54, v57, rfl, rfl, hI.flip3⟩
            case inr.inr.inr.inr.inl.refl =>
              subst hi0
              have f5 : q5 = false := by
                cases e : q5 with
                | false => rfl
                | true => exact absurd (hI.d5 e) (by decide)
              have f8 : q8 = false := by
                cases e : q8 with
                | false => rfl
                | true => exact absurd (hI.d5 (hI.d8 e).1) (by decide)
              have f9 : q9 = false := by
                cases e : q9 with
                | false => rfl
                | true => exact absurd (hI.d5 (hI.d8 (hI.d9 e)).1) (by decide)
              have f10 : q10 = false := by
                cases e : q10 with
                | false => rfl
                | true => exact absurd (hI.d5 (hI.d8 (hI.d9 (hI.d10 e).2)).1) (by decide)
              have f11 : q11 = false := by
                cases e : q11 with
                | false => rfl
                | true => exact absurd (hI.d5 (hI.d8 (hI.d9 (hI.d10 (hI.d11 e)).2)).1) (by decide)
              have f3 : q3 = true := by first | exact haf | exact haf.1 | exact haf.2 | exact haf.2.1 | exact haf.2.2 | exact haf.1.1 | exact haf.1.2
              have f1 : q1 = true := (hI.d3 f3).1
              have f2 : q2 = true := (hI.d3 f3).2
              clear haf
              subst f5
              subst f8
              subst f9
              subst f10
              subst f11
              subst f1
              subst f2
              subst f3
              have y4 := HQ4.out W (hI.below rfl)
              refine wpOp_step rfl (fun K hK => ?_)
              rw [if_pos (by rfl)]
              simp only [pk_true]
              go_simp
              exact hK _ _ ⟨q0, true, true, true, true, false, q6, q7, false, false, false, false, g5, g8, c8, e9, v54, v57, rfl, rfl, hI.flip4⟩
            case inr.inr.inr.inr.inr.inl.refl =>
              subst hi0
              have f8 : q8 = false := by
                cases e : q8 with
                | false => rfl
                | true => exact absurd (hI.d8 e).1 (by decide)
              have f9 : q9 = false := by
                cases e : q9 with
                | false => rfl
                | true => exact absurd (hI.d8 (hI.d9 e)).1 (by decide)
              have f10 : q10 = false := by
                cases e : q10 with
                | false => rfl
                | true => exact absurd (hI.d8 (hI.d9 (hI.d10 e).2)).1 (by decide)
              have f11 : q11 = false := by
                cases e : q11 with
                | false => rfl
                | true => exact absurd (hI.d8 (hI.d9 (hI.d10 (hI.d11 e)).2)).1 (by decide)
              have f4 : q4 = true := by first | exact haf | exact haf.1 | exact haf.2 | exact haf.2.1 | exact haf.2.2 | exact haf.1.1 | exact haf.1.2
              have f1 : q1 = true := (hI.d3 (hI.d4 f4)).1
              have f2 : q2 = true := (hI.d3 (hI.d4 f4)).2
              have f3 : q3 = true := (hI.d4 f4)
              clear haf
              subst f8
              subst f9
              subst f10
              subst f11
              subst f1
              subst f2
              subst f3
              subst f4
              refine wpOp_step rfl (fun K hK => ?_)
              rw [if_pos (by rfl)]
              simp only [pk_true]
              go_simp
              exact hK _ _ ⟨q0, true, true, true, true, true, q6, q7, false, false, false, false, W.heap.size, g8, c8, e9, v54, v57, rfl, rfl, hI.flip5⟩
            case inr.inr.inr.inr.inr.inr.inl.refl =>
              subst hi0
              have f7 : q7 = false := by
                cases e : q7 with
                | false => rfl
                | true => exact absurd (hI.d7 e) (by decide)
              have f8 : q8 = false := by
                cases e : q8 with
                | false => rfl
                | true => exact absurd (hI.d7 (hI.d8 e).2) (by decide)
              have f9 : q9 = false := by
                cases e : q9 with
                | false => rfl
                | true => exact absurd (hI.d7 (hI.d8 (hI.d9 e)).2) (by decide)
              have f10 : q10 = false := by
                cases e : q10 with
                | false => rfl
                | true => exact absurd (hI.d7 (hI.d8 (hI.d9 (hI.d10 e).2)).2) (by decide)
              have f11 : q11 = false := by
                cases e : q11 with
                | false => rfl
                | true => exact absurd (hI.d7 (hI.d8 (hI.d9 (hI.d10 (hI.d11 e)).2)).2) (by decide)
              clear haf
              subst f7
              subst f8
              subst f9
              subst f10
              subst f11
              refine wpOp_step rfl (fun K hK => ?_)
              rw [if_pos (by rfl)]
              go_simp
              exact hK _ _ ⟨q0, q1, q2, q3, q4, q5, true, false, false, false, false, false, g5, g8, c8, e9, v54, v57, rfl, rfl, hI.flip6⟩
            case inr.inr.inr.inr.inr.inr.inr.inl.refl =>
              subst hi0
              have f8 : q8 = false := by
                cases e : q8 with
                | false => rfl
                | true => exact absurd (hI.d8 e).2 (by decide)
              have f9 : q9 = false := by
                cases e : q9 with
                | false => rfl
                | true => exact absurd (hI.d8 (hI.d9 e)).2 (by decide)
              have f10 : q10 = false := by
                cases e : q10 with
                | false => rfl
                | true => exact absurd (hI.d8 (hI.d9 (hI.d10 e).2)).2 (by decide)
              have f11 : q11 = false := by
                cases e : q11 with
                | false => rfl
                | true => exact absurd (hI.d8 (hI.d9 (hI.d10 (hI.d11 e)).2)).2 (by decide)
              have f6 : q6 = true := by first | exact haf | exact haf.1 | exact haf.2 | exact haf.2.1 | exact haf.2.2 | exact haf.1.1 | exact haf.1.2
              clear haf
              subst f8
              subst f9
              subst f10
              subst f11
              subst f6
              refine wpOp_step rfl (fun K hK => ?_)
              rw [if_pos (by rfl)]
              simp only [pk_true]
              go_simp
              refine (HSRT.out W (hI.below rfl)).mono ?_
              rintro e w' ⟨vv, rfl, hrow, hbw⟩
              exact hK _ _ ⟨q0, q1, q2, q3, q4, q5, true, true, false, false, false, false, g5, g8, c8, e9, vv, v57, rfl, rfl, hI.flip7 hrow hbw⟩
            case inr.inr.inr.inr.inr.inr.inr.inr.inl.refl =>
              subst hi0
              have f9 : q9 = false := by
                cases e : q9 with
                | false => rfl
                | true => exact absurd (hI.d9 e) (by decide)
              have f10 : q10 = false := by
                cases e : q10 with
                | false => rfl
                | true => exact absurd (hI.d9 (hI.d10 e).2) (by decide)
              have f11 : q11 = false := by
                cases e : q11 with
                | false => rfl
                | true => exact absurd (hI.d9 (hI.d10 (hI.d11 e)).2) (by decide)
              have f5 : q5 = true := by first | exact haf | exact haf.1 | exact haf.2 | exact haf.2.1 | exact haf.2.2 | exact haf.1.1 | exact haf.1.2
              have f7 : q7 = true := by first | exact haf | exact haf.1 | exact haf.2 | exact haf.2.1 | exact haf.2.2 | exact haf.1.1 | exact haf.1.2
              have f1 : q1 = true := (hI.d3 (hI.d4 (hI.d5 f5))).1
              have f2 : q2 = true := (hI.d3 (hI.d4 (hI.d5 f5))).2
              have f3 : q3 = true := (hI.d4 (hI.d5 f5))
              have f4 : q4 = true := (hI.d5 f5)
              have f6 : q6 = true := (hI.d7 f7)
              clear haf
              subst f9
              subst f10
              subst f11
              subst f1
              subst f2
              subst f3
              subst f4
              subst f5
              subst f6
              subst f7
              refine wpOp_step rfl (fun K hK => ?_)
              rw [if_pos (by rfl)]
              refine op_append_row (.tmp 52) (.tmp 54) rfl rfl rfl (hI.row5 rfl rfl) (hI.row7 rfl rfl) (hI.below rfl).size (by rw [sortL_length]; have := HARL.out; simp; omega) ?_
              intro v' w' hr' hg'
              obtain ⟨g', c8', e'⟩ := hr'.shape
              subst e'
              rw [show ([col] ++ sortL ar).length = kl by rw [List.length_append, sortL_length, HKL.out]; simp; omega] at hr' ⊢
              exact hK _ _ ⟨q0, true, true, true, true, true, true, true, true, false, false, false, g5, g', c8', e9, v54, v57, rfl, rfl, hI.flip8 hr' hg'⟩
            case inr.inr.inr.inr.inr.inr.inr.inr.inr.inl.refl =>
              subst hi0
              have f10 : q10 = false := by
                cases e : q10 with
                | false => rfl
                | true => exact absurd (hI.d10 e).2 (by decide)
              have f11 : q11 = false := by
                cases e : q11 with
                | false => rfl
                | true => exact absurd (hI.d10 (hI.d11 e)).2 (by decide)
              have f8 : q8 = true := by first | exact haf | exact haf.1 | exact haf.2 | exact haf.2.1 | exact haf.2.2 | exact haf.1.1 | exact haf.1.2
              have f1 : q1 = true := (hI.d3 (hI.d4 (hI.d5 (hI.d8 f8).1))).1
              have f2 : q2 = true := (hI.d3 (hI.d4 (hI.d5 (hI.d8 f8).1))).2
              have f3 : q3 = true := (hI.d4 (hI.d5 (hI.d8 f8).1))
              have f4 : q4 = true := (hI.d5 (hI.d8 f8).1)
              have f5 : q5 = true := (hI.d8 f8).1
              have f6 : q6 = true := (hI.d7 (hI.d8 f8).2)
              have f7 : q7 = true := (hI.d8 f8).2
              clear haf
              subst f10
              subst f11
              subst f1
              subst f2
              subst f3
              subst f4
              subst f5
              subst f6
              subst f7
              subst f8
              refine wpOp_step rfl (fun K hK => ?_)
              rw [if_pos (by rfl)]
              simp only [pk_true]
              go_simp
              exact hK _ _ ⟨q0, true, true, true, true, true, true, true, true, true, false, false, g5, g8, c8, W.heap.size, v54, v57, rfl, rfl, hI.flip9⟩
            case inr.inr.inr.inr.inr.inr.inr.inr.inr.inr.inl.refl =>
              subst hi0
              have f11 : q11 = false := by
                cases e : q11 with
                | false => rfl
                | true => exact absurd (hI.d11 e) (by decide)
              have f0 : q0 = true := by first | exact haf | exact haf.1 | exact haf.2 | exact haf.2.1 | exact haf.2.2 | exact haf.1.1 | exact haf.1.2
              have f9 : q9 = true := by first | exact haf | exact haf.1 | exact haf.2 | exact haf.2.1 | exact haf.2.2 | exact haf.1.1 | exact haf.1.2
              have f1 : q1 = true := (hI.d3 (hI.d4 (hI.d5 (hI.d8 (hI.d9 f9)).1))).1
              have f2 : q2 = true := (hI.d3 (hI.d4 (hI.d5 (hI.d8 (hI.d9 f9)).1))).2
              have f3 : q3 = true := (hI.d4 (hI.d5 (hI.d8 (hI.d9 f9)).1))
              have f4 : q4 = true := (hI.d5 (hI.d8 (hI.d9 f9)).1)
              have f5 : q5 = true := (hI.d8 (hI.d9 f9)).1
              have f6 : q6 = true := (hI.d7 (hI.d8 (hI.d9 f9)).2)
              have f7 : q7 = true := (hI.d8 (hI.d9 f9)).2
              have f8 : q8 = true := (hI.d9 f9)
              clear haf
              subst f11
              subst f0
              subst f1
              subst f2
              subst f3
              subst f4
              subst f5
              subst f6
              subst f7
              subst f8
              subst f9
              refine wpOp_step rfl (fun K hK => ?_)
              rw [if_pos (by rfl)]
              refine op_append_rows (.tmp 47) (.tmp 56) rfl rfl rfl ((HR2.out).below (hI.below rfl)) ((hI.row8 rfl rfl).mono HSN2.out) (hI.cell9 rfl rfl) (Nat.le_trans HSN2.out (hI.below rfl).size) (by rw [stepLooks_length]; omega) ?_
              intro v' w' hr' hb'
              exact hK _ _ ⟨true, true, true, true, true, true, true, true, true, true, true, false, g5, g8, c8, e9, v54, v', rfl, rfl, hI.flip10 hr' hb' HSN2.out⟩
            case inr.inr.inr.inr.inr.inr.inr.inr.inr.inr.inr.refl =>
              subst hi0
              have f10 : q10 = true := by first | exact haf | exact haf.1 | exact haf.2 | exact haf.2.1 | exact haf.2.2 | exact haf.1.1 | exact haf.1.2
              have f0 : q0 = true := (hI.d10 f10).1
              have f1 : q1 = true := (hI.d3 (hI.d4 (hI.d5 (hI.d8 (hI.d9 (hI.d10 f10).2)).1))).1
              have f2 : q2 = true := (hI.d3 (hI.d4 (hI.d5 (hI.d8 (hI.d9 (hI.d10 f10).2)).1))).2
              have f3 : q3 = true := (hI.d4 (hI.d5 (hI.d8 (hI.d9 (hI.d10 f10).2)).1))
              have f4 : q4 = true := (hI.d5 (hI.d8 (hI.d9 (hI.d10 f10).2)).1)
              have f5 : q5 = true := (hI.d8 (hI.d9 (hI.d10 f10).2)).1
              have f6 : q6 = true := (hI.d7 (hI.d8 (hI.d9 (hI.d10 f10).2)).2)
              have f7 : q7 = true := (hI.d8 (hI.d9 (hI.d10 f10).2)).2
              have f8 : q8 = true := (hI.d9 (hI.d10 f10).2)
              have f9 : q9 = true := (hI.d10 f10).2
              clear haf
              subst f0
              subst f1
              subst f2
              subst f3
              subst f4
              subst f5
              subst f6
              subst f7
              subst f8
              subst f9
              subst f10
              refine wpOp_step rfl (fun K hK => ?_)
              rw [if_pos (by rfl)]
              simp only [pk_true]
              go_simp
              exact hK _ _ ⟨true, true, true, true, true, true, true, true, true, true, true, true, g5, g8, c8, e9, v54, v57, rfl, rfl, hI.flip11⟩
          case hend =>
            rintro listed a W ⟨q0, q1, q2, q3, q4, q5, q6, q7, q8, q9, q10, q11, g5, g8, c8, e9, v54, v57, rfl, rfl, hI⟩ hall
            have h11 : q11 = true := hall 11 (by decide)
            subst h11
            obtain ⟨hR, hBl⟩ := hI.done (hI.d11 rfl)
            have HR := Lib.hid hR
            have HBL := Lib.hid hBl
            clear hI hR hBl
            simp only [pk_true]
            go_wp2
            go_roundw
            case rel => exact ⟨k + 1, by omega, by go_num, Lib.hid (by rw [stepLooks_succ]; unfold stepLook; rw [← HCOL.out, ← HAR.out]; exact HR.out), Lib.hid (HBW.out.trans HBL.out)⟩
            case measure => simp [intOf]; omega
    · have hkn : n = k := by omega
      subst hkn
      obtain ⟨b5, c5, e5, hb5⟩ := hr.out.shape
      rw [stepLooks_length] at e5
      subst e5
      obtain ⟨Lk, hLkl, hLk⟩ := exists_list n (fun i x => wr.cell? ⟨b5, i, none⟩ = some (encS (n₀ := wr.heap.size) (w := wr) x) ∧ lst x = stepLook Ns C i) (fun i hi => by
        have hr5 := hr.out
        rw [show (Value.slice (some ⟨b5, 0, none⟩) n c5) = Value.slice (some ⟨b5, 0, none⟩) (stepLooks Ns C n).length c5 by rw [stepLooks_length]] at hr5
        obtain ⟨v, hv, hrs⟩ := hr5.at (k := i) (by rw [stepLooks_length]; exact hi)
        have hget : (stepLooks Ns C n)[i]?.getD [] = stepLook Ns C i := by simp [stepLooks, hi]
        rw [hget] at hrs
        obtain ⟨A', c', hv', hs⟩ := hrs.1.seen
        subst hv'
        exact ⟨⟨((A', c'), stepLook Ns C i), by
          have h1 := (HNE.out.2 i (by rw [← HN.out]; exact hi)).1
          show (stepLook Ns C i).length ≤ 100000
          unfold stepLook aroundL
          rw [List.length_cons, sortL_length, List.length_map]
          omega, hs.seenB⟩, hv, rfl⟩)
      have hbase : Below w.heap.size w wr := hb.out
      obtain ⟨W1, eW1⟩ : ∃ W1, W1 = wr := ⟨_, rfl⟩
      have R3 : Hid (RowL (wr.alloc (.cells #[] 22)) wr.heap.size (.slice (some ⟨wr.heap.size, 0, none⟩) 0 0) ([] : List (Sl wr.heap.size wr))) :=
        Lib.hid (World.ownsRow_lit (base := wr.heap.size) (e := 22) (size := 1) wr #[] 0 (Nat.le_refl _) (by unfold maxLen; omega) rfl)
      have B3 := Lib.hid ((Below.refl wr.heap.size wr).alloc (Nat.le_refl _) (.cells #[] 22))
      have HBA := Lib.hid hbase
      have HLK := Lib.hid hLk
      have HLKL := Lib.hid hLkl
      clear hbase hLk hLkl hr hb eW1 HA HC
      obtain ⟨w1, rfl⟩ : ∃ w1 : World, w1 = wr := ⟨_, rfl⟩
      go_wp2
      go_loopw [9, 10] (fun o i wr => ∃ j : Nat, j ≤ n ∧ i = .int .i64 j ∧ Hid (Below w1.heap.size w1 wr) ∧ Hid (∃ D : List (Sl w1.heap.size w1), RowL wr w1.heap.size o D ∧ D.map lst = ddp (stepLooks Ns C j))) (fun _ i _ => n - (intOf i).toNat)
      case atStart => exact ⟨0, Nat.zero_le _, rfl, B3, Lib.hid ⟨[], R3.out, rfl⟩⟩
      case round =>
        clear R3 B3
        obtain ⟨j, hj, rfl, hB, hD⟩ := hrel
        by_cases hlt : j < n
        · obtain ⟨D, hR, hDl⟩ := hD.out
          obtain ⟨A9, c9, e9, hc9⟩ := hR.see
          subst e9
          obtain ⟨m, em⟩ : ∃ m, m = D.length := ⟨_, rfl⟩
          obtain ⟨hlk, hlst⟩ := HLK.out j hlt
          have hlw : wr.cell? ⟨b5, j, none⟩ = some (encS Lk[j]!) := (hB.out.cell (p := ⟨b5, j, none⟩) hb5).trans hlk
          obtain ⟨K, eK⟩ : ∃ K, K = stepLook Ns C j := ⟨_, rfl⟩
          rw [← eK] at hlst
          obtain ⟨y, ey⟩ : ∃ y, y = Lk[j]! := ⟨_, rfl⟩
          rw [← ey] at hlw hlst
          have hm12 : m ≤ 12 := by
            have h1 := congrArg List.length hDl
            rw [List.length_map] at h1
            have h2 : (ddp (stepLooks Ns C j)).length ≤ (stepLooks Ns C j).length := ddp_le _
            rw [stepLooks_length] at h2
            omega
          rw [← em]
          have EM := Lib.hid em
          have HR := Lib.hid hR
          have HDL := Lib.hid hDl
          have HC9 := Lib.hid hc9
          have EK := Lib.hid eK
          have HLST := Lib.hid hlst
          have hj1 : (0 : Int) ≤ (j : Int) ∧ (j : Int) < (n : Int) := by omega
          clear hR hDl hc9 em eK hlk hlst ey hD
          obtain ⟨wo, rfl⟩ : ∃ wo : World, wo = wr := ⟨_, rfl⟩
          go_wp2
          go_loopw [11, 12] (fun f i wr => ∃ k q : Nat, k ≤ m ∧ i = .int .i64 k ∧ f = .bool ((D.take k).all fun x => !decide (lst x = K)) ∧ wr = wo.drewN q) (fun _ i _ => m - (intOf i).toNat)
          case atStart => exact ⟨0, 0, Nat.zero_le _, rfl, by simp, rfl⟩
          case round =>
            obtain ⟨k, q, hk, rfl, rfl, rfl⟩ := hrel
            by_cases hlk : k < m
            · obtain ⟨g, rfl, hgB, hgl, hcx⟩ := HC9.out k (by have := EM.out; omega)
              obtain ⟨x, ex⟩ : ∃ x, x = D[k]! := ⟨_, rfl⟩
              rw [← ex] at hcx
              have hst : ((D.take (k + 1)).all fun x => !decide (lst x = K)) = (((D.take k).all fun x => !decide (lst x = K)) && !decide (lst x = K)) := by
                rw [take_snoc_sl (L := D) (k := k) (by have := EM.out; omega), List.all_append, ← ex]
                simp
              have hsx : Seen (wo.drewN q) x.1.1.1 x.1.2 := (x.seenB hB.out).seen (by have := hB.out.size; exact this)
              have hsy : Seen (wo.drewN q) y.1.1.1 y.1.2 := (y.seenB hB.out).seen (by have := hB.out.size; exact this)
              have hc := fun q' : Nat => specEq_any x.1.1.1 y.1.1.1 x.1.1.2 y.1.1.2 x.1.2 y.1.2 ((wo.drewN q).drewN q') hsx hsy (by have := x.2.1; omega)
              have hxy : x.1.2 = y.1.2 ↔ lst x = K := by rw [← HLST.out]
              obtain ⟨b, eb⟩ : ∃ b, b = decide (x.1.2 = y.1.2) := ⟨_, rfl⟩
              have ebK : decide (lst x = K) = b := by rw [eb, decide_eq_decide]; exact hxy.symm
              have hc' : ∀ q' : Nat, Calls Tryd.prog 14 #[encS x, encS y] ((wo.drewN q).drewN q') fun e w' => e = .returned (.bool b) ∧ ∃ q'', w' = ((wo.drewN q).drewN q').drewN q'' := fun q' => (hc q').mono fun e w' ⟨he, hw⟩ => ⟨by rw [he, eb], hw⟩
              rw [ebK] at hst
              have HST := Lib.hid hst
              have hk1 : (0 : Int) ≤ (k : Int) ∧ (k : Int) < (m : Int) := by omega
              obtain ⟨fr, efr⟩ : ∃ fr, fr = (D.take k).all fun x => !decide (lst x = K) := ⟨_, rfl⟩
              have EFR := Lib.hid efr
              rw [← efr]
              clear hst ex hsx hsy hc hxy eb ebK efr hgB hgl
              obtain ⟨w2, ew2⟩ : ∃ w2, w2 = wo.drewN q := ⟨_, rfl⟩
              have hcx2 : w2.cell? ⟨g, k, none⟩ = some (encS x) := by rw [ew2]; exact hcx
              have hlw2 : w2.cell? ⟨b5, j, none⟩ = some (encS y) := by rw [ew2]; exact hlw
              rw [← ew2] at hc' ⊢
              have EW2 := Lib.hid ew2
              clear ew2
              cases fr with
              | true =>
                go_wp2
                go_quiet (first | (go_at_call 14; refine Calls.quiet_of (hc' _)))
                go_wp2
                go_roundw
                case rel => exact ⟨k + 1, q + _, by omega, by go_num, by rw [HST.out, ← EFR.out]; simp, by rw [EW2.out, World.drewN_drewN]⟩
                case measure => simp [intOf]; omega
              | false =>
                go_wp2
                go_region
                all_goals go_wp2
                all_goals go_roundw
                all_goals first
                  | exact ⟨k + 1, q + 1, by omega, by go_num, by rw [HST.out, ← EFR.out]; simp, by rw [EW2.out]; rfl⟩
                  | (simp [intOf]; omega)
            · have hkm : m = k := by omega
              subst hkm
              have hall : (D.take m).all (fun x => !decide (lst x = K)) = !decide (K ∈ D.map lst) := by
                rw [List.take_of_length_le (by have := EM.out; omega)]
                rw [Bool.eq_iff_iff, List.all_eq_true]
                simp only [Bool.not_eq_true', decide_eq_false_iff_not, List.mem_map, not_exists, not_and]
              rw [hall, HDL.out]
              have hB2 : Below w1.heap.size w1 (wo.drewN q) := below_drewN hB.out q
              by_cases hin : K ∈ ddp (stepLooks Ns C j)
              · rw [decide_eq_true hin]
                have hdd : ddp (stepLooks Ns C (j + 1)) = ddp (stepLooks Ns C j) := by rw [stepLooks_succ, ddp_snoc, ← EK.out, if_pos hin]
                have HDD := Lib.hid hdd
                have HB2 := Lib.hid hB2
                clear hin hall hdd hB2
                go_wp2
                go_roundw
                case rel => exact ⟨j + 1, by omega, by go_num, HB2, Lib.hid ⟨D, by rw [EM.out]; exact HR.out, by rw [HDD.out, HDL.out]⟩⟩
                case measure => simp [intOf]; omega
              · rw [decide_eq_false hin]
                have hdd : ddp (stepLooks Ns C (j + 1)) = ddp (stepLooks Ns C j) ++ [K] := by rw [stepLooks_succ, ddp_snoc, ← EK.out, if_neg hin]
                have HDD := Lib.hid hdd
                have hR2 : RowL (wo.drewN q) w1.heap.size (.slice A9 m c9) D := by rw [EM.out]; exact HR.out
                have HR2 := Lib.hid hR2
                have HB2 := Lib.hid hB2
                have HML := Lib.hid (show D.length ≤ 100000 by have := EM.out; omega)
                obtain ⟨w2, ew2⟩ : ∃ w2, w2 = wo.drewN q := ⟨_, rfl⟩
                have hlw2 : w2.cell? ⟨b5, j, none⟩ = some (encS y) := by rw [ew2]; exact hlw
                rw [← ew2] at HR2 HB2 ⊢
                clear hin hall hdd hB2 hR2 ew2
                go_wp2_with (at_builtin; refine append_sl rfl (.tmp 85) (.tmp 90) rfl w2 w1.heap.size (.slice A9 m c9) D y rfl rfl HR2.out HB2.out.size HML.out ?_; intro v3 w3 hv3 hb3; have HV3 := Lib.hid hv3; have HB3 := Lib.hid hb3; clear hv3 hb3)
                go_roundw
                case rel => exact ⟨j + 1, by omega, by go_num, Lib.hid (HB2.out.trans HB3.out), Lib.hid ⟨D ++ [y], HV3.out, by rw [List.map_append, HDL.out, HDD.out]; simp [HLST.out]⟩⟩
                case measure => simp [intOf]; omega
        · have hjn : n = j := by omega
          subst hjn
          obtain ⟨D, hR, hDl⟩ := hD.out
          obtain ⟨A9, c9, e9, hc9⟩ := hR.see
          subst e9
          obtain ⟨m, em⟩ : ∃ m, m = D.length := ⟨_, rfl⟩
          have hm12 : m ≤ 12 := by
            have h1 := congrArg List.length hDl
            rw [List.length_map] at h1
            have h2 : (ddp (stepLooks Ns C n)).length ≤ (stepLooks Ns C n).length := ddp_le _
            rw [stepLooks_length] at h2
            omega
          have hrank : ∀ K : List Int, D.countP (fun x => decide (cmpL (lst x) K < 0)) = rankOf (stepLooks Ns C n) K := fun K => by
            unfold rankOf
            rw [← hDl, List.countP_map]
            rfl
          rw [← em]
          have EM := Lib.hid em
          have HC9 := Lib.hid hc9
          have HRK := Lib.hid hrank
          have hb59 : b5 < wr.heap.size := Nat.lt_of_lt_of_le hb5 hB.out.size
          have HB1 := Lib.hid hB.out
          have R5 : Hid (Row (wr.alloc (.cells #[] 3)) wr.heap.size (.slice (some ⟨wr.heap.size, 0, none⟩) 0 0) ((stepL Ns C).take 0)) := Lib.hid (rowS_new wr).1
          have B5 := Lib.hid ((Below.refl wr.heap.size wr).alloc (Nat.le_refl _) (.cells #[] 3))
          clear hR hDl hc9 em hD hB hrank
          obtain ⟨w3, rfl⟩ : ∃ w3 : World, w3 = wr := ⟨_, rfl⟩
          go_wp2
          go_loopw [13, 14] (fun o i wr => ∃ v : Nat, v ≤ n ∧ i = .int .i64 v ∧ Hid (Row wr w3.heap.size o ((stepL Ns C).take v)) ∧ Hid (Below w3.heap.size w3 wr)) (fun _ i _ => n - (intOf i).toNat)
          case atStart => exact ⟨0, Nat.zero_le _, rfl, R5, B5⟩
          case round =>
            clear R5 B5
            obtain ⟨v, hv, rfl, hR, hB⟩ := hrel
            by_cases hlt : v < n
            · obtain ⟨hlk, hlst⟩ := HLK.out v hlt
              have hB1w : Below w1.heap.size w1 wr := HB1.out.trans (hB.out.mono HB1.out.size)
              have hlw : wr.cell? ⟨b5, v, none⟩ = some (encS Lk[v]!) := (hB1w.cell (p := ⟨b5, v, none⟩) hb5).trans hlk
              obtain ⟨K, eK⟩ : ∃ K, K = stepLook Ns C v := ⟨_, rfl⟩
              rw [← eK] at hlst
              obtain ⟨y, ey⟩ : ∃ y, y = Lk[v]! := ⟨_, rfl⟩
              rw [← ey] at hlw hlst
              have hst : (stepL Ns C).take (v + 1) = (stepL Ns C).take v ++ [((rankOf (stepLooks Ns C n) K : Nat) : Int)] := by
                have hl : v < (stepL Ns C).length := by rw [stepL_length, ← HN.out]; exact hlt
                rw [List.take_succ_eq_append_getElem hl]
                congr 2
                simp only [stepL, List.getElem_map, List.getElem_range]
                rw [← HN.out, eK]
              have HST := Lib.hid hst
              have HLST := Lib.hid hlst
              have HBW := Lib.hid hB1w
              have hv1 : (0 : Int) ≤ (v : Int) ∧ (v : Int) < (n : Int) := by omega
              clear hst hlk hlst eK ey hB1w
              obtain ⟨wo, rfl⟩ : ∃ wo : World, wo = wr := ⟨_, rfl⟩
              go_wp2
              go_loopw [15, 16] (fun c i wr => ∃ k q : Nat, k ≤ m ∧ i = .int .i64 k ∧ c = .int .i64 (((D.take k).countP (fun x => decide (cmpL (lst x) K < 0)) : Nat) : Int) ∧ wr = wo.drewN q) (fun _ i _ => m - (intOf i).toNat)
              case atStart => exact ⟨0, 0, Nat.zero_le _, rfl, by simp, rfl⟩
              case round =>
                obtain ⟨k, q, hk, rfl, rfl, rfl⟩ := hrel
                by_cases hlk : k < m
                · obtain ⟨g, rfl, hgB, hgl, hcx⟩ := HC9.out k (by have := EM.out; omega)
                  obtain ⟨x, ex⟩ : ∃ x, x = D[k]! := ⟨_, rfl⟩
                  rw [← ex] at hcx
                  have hst : (D.take (k + 1)).countP (fun x => decide (cmpL (lst x) K < 0)) = (D.take k).countP (fun x => decide (cmpL (lst x) K < 0)) + (if cmpL (lst x) K < 0 then 1 else 0) := by
                    rw [take_snoc_sl (L := D) (k := k) (by have := EM.out; omega), List.countP_append, ← ex]
                    simp [List.countP_cons]
                  obtain ⟨w2, ew2⟩ : ∃ w2, w2 = wo.drewN q := ⟨_, rfl⟩
                  have hcx2 : w2.cell? ⟨g, k, none⟩ = some (encS x) := by rw [ew2]; exact (hB.out.cell (p := ⟨g, k, none⟩) hgl).trans hcx
                  have hlw2 : w2.cell? ⟨b5, v, none⟩ = some (encS y) := by rw [ew2]; exact hlw
                  have hsx : Seen w2 x.1.1.1 x.1.2 := by rw [ew2]; exact (x.seenB HBW.out).seen (by have := HBW.out.size; exact this)
                  have hsy : Seen w2 y.1.1.1 y.1.2 := by rw [ew2]; exact (y.seenB HBW.out).seen (by have := HBW.out.size; exact this)
                  have hc := fun q' : Nat => before_any x.1.1.1 y.1.1.1 x.1.1.2 y.1.1.2 x.1.2 y.1.2 x.2.1 y.2.1 (w2.drewN q') hsx hsy
                  rw [← ew2]
                  obtain ⟨b, eb⟩ : ∃ b, b = decide (cmpL x.1.2 y.1.2 < 0) := ⟨_, rfl⟩
                  have hc' : ∀ q' : Nat, Calls Tryd.prog 31 #[encS x, encS y] (w2.drewN q') fun e w' => e = .returned (.bool b) ∧ ∃ q'', w' = (w2.drewN q').drewN q'' := fun q' => (hc q').mono fun e w' ⟨he, hw⟩ => ⟨by rw [he, eb], hw⟩
                  have ebK : b = decide (cmpL (lst x) K < 0) := by rw [eb, ← HLST.out]
                  have HST2 := Lib.hid hst
                  have EBK := Lib.hid ebK
                  have EW2 := Lib.hid ew2
                  have hk1 : (0 : Int) ≤ (k : Int) ∧ (k : Int) < (m : Int) := by omega
                  have hcl : (D.take k).countP (fun x => decide (cmpL (lst x) K < 0)) ≤ 12 := by
                    have h := List.countP_le_length (p := fun x => decide (cmpL (lst x) K < 0)) (l := D.take k)
                    rw [List.length_take] at h
                    omega
                  obtain ⟨cn, ecn⟩ : ∃ cn, cn = (D.take k).countP (fun x => decide (cmpL (lst x) K < 0)) := ⟨_, rfl⟩
                  rw [← ecn] at hcl ⊢
                  have ECN := Lib.hid ecn
                  clear hst ex hsx hsy hc eb ebK ew2 hgB hgl ecn
                  cases b with
                  | true =>
                    go_wp2
                    go_quiet (first | (go_at_call 31; refine Calls.quiet_of (hc' _)))
                    go_wp2
                    go_roundw
                    case rel => exact ⟨k + 1, q + _, by omega, by go_num, by rw [HST2.out, if_pos (of_decide_eq_true EBK.out.symm), ← ECN.out]; go_num, by rw [EW2.out, World.drewN_drewN]⟩
                    case measure => simp [intOf]; omega
                  | false =>
                    go_wp2
                    go_quiet (first | (go_at_call 31; refine Calls.quiet_of (hc' _)))
                    go_wp2
                    go_roundw
                    case rel => exact ⟨k + 1, q + _, by omega, by go_num, by rw [HST2.out, if_neg (of_decide_eq_false EBK.out.symm), ← ECN.out]; rfl, by rw [EW2.out, World.drewN_drewN]⟩
                    case measure => simp [intOf]; omega
                · have hkm : m = k := by omega
                  subst hkm
                  have hall : (D.take m).countP (fun x => decide (cmpL (lst x) K < 0)) = rankOf (stepLooks Ns C n) K := by
                    rw [List.take_of_length_le (by have := EM.out; omega)]
                    exact HRK.out K
                  rw [hall]
                  have hrl : rankOf (stepLooks Ns C n) K ≤ 12 := by
                    have h := rank_le (stepLooks Ns C n) K
                    rw [stepLooks_length] at h
                    omega
                  obtain ⟨r, er⟩ : ∃ r, r = rankOf (stepLooks Ns C n) K := ⟨_, rfl⟩
                  have hst := HST.out
                  rw [← er] at hrl hst ⊢
                  have HST3 := Lib.hid hst
                  obtain ⟨w2, ew2⟩ : ∃ w2, w2 = wo.drewN q := ⟨_, rfl⟩
                  have HR2 : Hid (Row w2 w3.heap.size u13 ((stepL Ns C).take v)) := Lib.hid (by rw [ew2]; exact hR.out.drewN q)
                  have HB2 : Hid (Below w3.heap.size w3 w2) := Lib.hid (by rw [ew2]; exact below_drewN hB.out q)
                  have HL2 := Lib.hid (show ((stepL Ns C).take v).length ≤ 100000 by rw [List.length_take]; omega)
                  rw [← ew2]
                  clear hall er hst ew2
                  go_wp2_with (at_builtin; refine append_one rfl (.tmp 116) (.tmp 118) rfl w2 w3.heap.size u13 ((stepL Ns C).take v) (r : Int) rfl rfl HR2.out HB2.out.size HL2.out ?_; intro v4 w4 hv4 hb4)
                  go_roundw
                  case rel => exact ⟨v + 1, by omega, by go_num, Lib.hid (by rw [HST3.out]; exact hv4.out), Lib.hid (HB2.out.trans hb4.out)⟩
                  case measure => simp [intOf]; omega
            · have hvn : n = v := by omega
              subst hvn
              have hfin : Row wr w3.heap.size u13 (stepL Ns C) := by
                have h := hR.out
                rw [List.take_of_length_le (by rw [stepL_length, ← HN.out]; exact Nat.le_refl _)] at h
                exact h
              have h31 : w.heap.size ≤ w3.heap.size := Nat.le_trans HBA.out.size HB1.out.size
              have HF := Lib.hid (hfin.mono h31)
              have HBB := Lib.hid ((HBA.out.trans (HB1.out.mono HBA.out.size)).trans (hB.out.mono h31))
              clear hfin hR hB
              go_wp2
              go_ret
              exact ⟨_, rfl, HF.out, HBB.out⟩
end Go.Proofs.YtnnobbbljpaieaaDoor
