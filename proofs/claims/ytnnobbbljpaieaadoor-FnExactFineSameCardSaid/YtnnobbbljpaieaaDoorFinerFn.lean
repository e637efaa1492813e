/- The program's finer: looks are listed, put in order, those that are equal dropped, and each one looked up. -/
import Derived.Test.YtnnobbbljpaieaaDoorFinerKit
namespace Go.Proofs.YtnnobbbljpaieaaDoor
open Go Go.RowKit Go.Shelf Go.Sort
attribute [local go_sem] Oper.semAt_some
set_option linter.unusedVariables false
set_option maxRecDepth 100000

set_option maxHeartbeats 8000000 in
theorem finer_in (A A' : Option Addr) (c c' : Nat) (L C : List Int) (hN : Net L) (hlen : C.length = L.length) (hC : Hues C) (w : World) (hL : Seen w A L) (hCs : Seen w A' C) (hT : TabT w) :
    CallsIn Fence.wide 7 Tryd.prog 44 #[.slice A L.length c, .slice A' C.length c'] w (Gave w (finerL L C)) := by
  rw [hlen]
  obtain ⟨n, hn⟩ : ∃ n, n = L.length := ⟨_, rfl⟩
  obtain ⟨Q, hQ⟩ : ∃ Q, Q + 1 = 2 ^ n := ⟨2 ^ n - 1, by have := two_pos n; omega⟩
  have h12 := hN.2.1
  have h1n := hN.1
  rw [← hn] at h12 h1n ⊢
  have HN := Lib.hid hn
  have HNET := Lib.hid hN
  have HLEN := Lib.hid hlen
  have HC := Lib.hid hC
  have HL := Lib.hid hL
  have HCS := Lib.hid hCs
  have HQ := Lib.hid hQ
  have TB := Lib.hid hT
  clear hN hlen hC hL hCs hQ hT hn
  obtain ⟨n₀, en⟩ : ∃ n₀, n₀ = w.heap.size := ⟨_, rfl⟩
  have h2 : 2 ≤ n₀ := by have := TB.out.lt; omega
  have EN := Lib.hid en
  have hle : n₀ ≤ w.heap.size := by omega
  have hsz : w.heap.size = n₀ := en.symm
  obtain ⟨w1, e1⟩ : ∃ w1, w1 = (w.alloc (.cells #[.slice A n c] 31)).alloc (.cells #[.slice A' n c'] 22) := ⟨_, rfl⟩
  obtain ⟨gl, egl⟩ : ∃ gl, gl = n₀ + 1 + 1 := ⟨_, rfl⟩
  have s1 : w1.heap.size = gl := by rw [e1, World.size_alloc, World.size_alloc]; omega
  have g1 : Boxed w1 n₀ 31 (.slice A n c) := by rw [e1, en]; exact (Boxed.new w _ _).alloc _
  have c1 : Boxed w1 (n₀ + 1) 22 (.slice A' n c') := by
    rw [e1, en]; have h := Boxed.new (w.alloc (.cells #[.slice A n c] 31)) 22 (.slice A' n c'); rw [World.size_alloc] at h; exact h
  have b1 : Below n₀ w w1 := by rw [e1]; exact ((Below.refl n₀ w).alloc hle _).alloc (by rw [World.size_alloc]; omega) _
  obtain ⟨w2, e2⟩ : ∃ w2, w2 = madeS w1 n := ⟨_, rfl⟩
  obtain ⟨bl, ebl⟩ : ∃ bl, bl = gl + 1 := ⟨_, rfl⟩
  have s2 : w2.heap.size = bl := by rw [e2, madeS_size, s1, ebl]
  have m2 : Below w1.heap.size w1 w2 := by rw [e2]; exact madeS_below w1 n
  have r2 : w2.ownsRow n₀ 22 1 (.slice (some ⟨gl, 0, none⟩) n n) n (List.replicate n (.slice none 0 0)) := by
    have h := madeS_row w1 n (by omega)
    rw [s1, ← e2] at h
    exact ⟨h.1, by
      rcases h.2 with h | ⟨g, cap, cur, hv, hg, r⟩
      · exact .inl h
      · exact .inr ⟨g, cap, cur, hv, by omega, r⟩⟩
  have g2 : Boxed w2 n₀ 31 (.slice A n c) := (m2.block n₀ (by omega)).trans g1
  have c2 : Boxed w2 (n₀ + 1) 22 (.slice A' n c') := (m2.block (n₀ + 1) (by omega)).trans c1
  have b2 : Below n₀ w w2 := b1.trans (m2.mono (by omega))
  have hmk : (Instr.makeSlice 28 (.int .i64 (n : Int)) (.int .i64 (n : Int))).run Tryd.prog ((w.alloc (.cells #[.slice A n c] 31)).alloc (.cells #[.slice A' n c'] 22)) = .ok (.slice (some ⟨gl, 0, none⟩) n n) w2 := by
    rw [← e1, e2, ← s1]; exact run_makeS n (by omega) w1
  obtain ⟨W, eW⟩ : ∃ W, W = (w2.alloc (.cells #[.slice (some ⟨gl, 0, none⟩) n n] 28)).alloc (.cells #[.int .i64 (Q : Nat)] 3) := ⟨_, rfl⟩
  have sW : W.heap.size = bl + 1 + 1 := by rw [eW, World.size_alloc, World.size_alloc, s2]
  have gW : Boxed W n₀ 31 (.slice A n c) := by rw [eW]; exact (g2.alloc _).alloc _
  have cW : Boxed W (n₀ + 1) 22 (.slice A' n c') := by rw [eW]; exact (c2.alloc _).alloc _
  have lW : Boxed W bl 28 (.slice (some ⟨gl, 0, none⟩) n n) := by
    rw [eW]; have h := Boxed.new w2 28 (.slice (some ⟨gl, 0, none⟩) n n); rw [s2] at h; exact h.alloc _
  have qW : W.cell? ⟨bl + 1, 0, none⟩ = some (.int .i64 (Q : Nat)) := by
    rw [eW]; have h := Boxed.new (w2.alloc (.cells #[.slice (some ⟨gl, 0, none⟩) n n] 28)) 3 (.int .i64 (Q : Nat)); rw [World.size_alloc, s2] at h; exact h.cell
  have rW : W.ownsRow n₀ 22 1 (.slice (some ⟨gl, 0, none⟩) n n) n (List.replicate n (.slice none 0 0)) := by rw [eW]; exact World.ownsRow.alloc (World.ownsRow.alloc r2 _) _
  have bW : Below n₀ w W := by rw [eW]; exact (b2.alloc (by omega) _).alloc (by rw [World.size_alloc]; omega) _
  have x1 := (g2.alloc (.cells #[.slice (some ⟨gl, 0, none⟩) n n] 28)).cell
  have hND := Lib.hid (fun w => nodesT_any A n c Q h12 HQ.out w)
  have eW' := Lib.hid eW
  have hg1 : n₀ + 1 < gl := by omega
  have hg2 : gl < bl := by omega
  clear e1 e2 eW en g1 c1 b1 m2 r2 b2 egl ebl
  refine callsIn_of_wp_marks Tryd.func44 rfl trivial ?_ rfl
  simp only [Tryd.ntmps44, List.size_toArray, List.length_cons, List.length_nil, Nat.reduceAdd, Nat.reduceSub, Array.replicate_succ, Array.replicate_zero, List.push_toArray, List.append_toArray, List.nil_append, List.cons_append]
  gi_wp2_with (refine ⟨trivial, ?_⟩; gi_at_call 33; refine (callsIn_wide.2 (hND.out _)).mono ?_; rintro e w' ⟨rfl, rfl⟩)
  rw [← eW'.out]
  have hleW : bl + 1 < W.heap.size := by omega
  have hT1 : TabT W := TB.out.below bW h2
  have hQ2 : Q < 2 ^ n := by have := HQ.out; omega
  clear eW' s2 g2 c2 hmk x1 hND s1
  refine wpIn_rangeFunc_ownF (α := Nd n Q) rfl (by omega) (gf := 42) (lb := #[.pointer (some ⟨bl + 1, 0, none⟩)]) rfl trivial (enters_of Tryd.func42 (by kernel_rfl) rfl)
    (nodesT_stops _ (bl + 1) n Q n₀ (by omega) h12 hQ2 W hleW qW hT1 h2 (by omega)) belowK_t (belowK_b (by omega)) (Below.refl _ _) (fun _ => rfl)
    (fun pre W => FinI n₀ gl bl n n Q (.slice A n c) (.slice A' n c') L C pre W ∧ Below n₀ w W) (fun _ _ _ => False)
    (OwnFrom.and (Own.from (finI_own _ _ _ _ _ _ _ _ _ _) _) (ownFrom_below hle (by omega))) (fun _ _ _ _ _ hs _ _ => hs)
    ⟨⟨gW, cW, lW, _, rW, fun i hi => by simp [valsN] at hi⟩, bW⟩
    (fun x => { tmps := #[.slice A n c, .slice A' n c', .pointer (some ⟨n₀, 0, none⟩), .pointer (some ⟨n₀ + 1, 0, none⟩), .slice none 0 0, .pointer (some ⟨bl, 0, none⟩), .int .i64 (x.1 : Int), undef, undef, undef, undef, .slice A n c, .int .i64 (n : Int), .slice (some ⟨gl, 0, none⟩) n n, .slice A n c,
        .func (.func 42) #[] #[.pointer (some ⟨bl + 1, 0, none⟩)], .int .i64 (x.1 : Int), undef, undef, undef, undef, undef, undef, undef, undef, undef, undef, undef, undef, undef, undef, undef, undef, undef, undef, undef, undef, undef, undef, undef, undef, undef, undef, undef, undef, undef, undef, undef, undef, undef], defers := [] }) ?assign ?body ?done ?stop
  case assign =>
    intro l x W K hK
    gi_wp2
    exact hK
  case body =>
    rintro l pre x Z ⟨⟨b0, b1, b3, vs, hr, hlk⟩, hB⟩ hlen
    obtain ⟨v, hvn, hvq⟩ := x
    dsimp only at hvn ⊢
    have hZs : bl < Z.heap.size := (Array.getElem?_eq_some_iff.1 b3).1
    have hvl : vs.length = n := by have := hr.1; omega
    obtain ⟨Kv, eKv⟩ : ∃ Kv, Kv = lookOf L C v := ⟨_, rfl⟩
    have HQ0 := Lib.hid (fun (W : World) (hb : Below Z.heap.size Z.drew W) => (hb.cell (p := ⟨bl, 0, none⟩) hZs).trans b3.cell)
    have HQ2 := Lib.hid (fun (W : World) (hb : Below Z.heap.size Z.drew W) => (hb.cell (p := ⟨n₀, 0, none⟩) (by show n₀ < Z.heap.size; omega)).trans b0.cell)
    have HQ4 := Lib.hid (fun (W : World) (hb : Below Z.heap.size Z.drew W) => (hb.cell (p := ⟨n₀ + 1, 0, none⟩) (by show n₀ + 1 < Z.heap.size; omega)).trans b1.cell)
    have HROW := Lib.hid (fun (W : World) (hb : Below Z.heap.size Z.drew W) => World.ownsRow.kept (row := none) hr ⟨hb.os, hb.tape, hb.output, hb.size, fun k hk _ => hb.block k hk⟩ (.inr (by simp [Value.ownBlock])))
    have HLOOK : Hid (∀ W : World, Below Z.heap.size Z.drew W → Calls Tryd.prog 51 #[.slice A n c, .int .i64 v, .slice A' n c'] W (LookOut W Kv)) := Lib.hid (fun W hb => by
      have hbw : Below w.heap.size w W := by rw [hsz]; exact hB.drew.trans (hb.mono (by omega))
      have h := look_in A A' c c' L C HNET.out HLEN.out HC.out v (by have := HN.out; omega) W (HL.out.below hbw) (HCS.out.below hbw) (TB.out.below hbw (by omega))
      rw [HLEN.out, ← HN.out, ← eKv] at h
      exact callsIn_wide.1 h)
    have HR := Lib.hid hr
    have HLK := Lib.hid hlk
    have HB := Lib.hid hB
    have HB0 := Lib.hid b0
    have HB1 := Lib.hid b1
    have HB3 := Lib.hid b3
    have HKV := Lib.hid eKv
    have hi1 : (0 : Int) ≤ (v : Int) ∧ (v : Int) < (n : Int) := by omega
    have hmx : Tryd.prog.follows .mixedOrders = true := by kernel_rfl
    obtain ⟨kl, ekl⟩ : ∃ kl, kl = Kv.length := ⟨_, rfl⟩
    have HKL := Lib.hid ekl
    clear b0 b1 b3 hr hlk hB hlen eKv ekl
    gi_wp2
    refine wpIn_region_inv hmx (fun listed a W => ∃ (q0 q1 q2 q3 q4 q5 q6 q7 : Bool) (gk : Nat) (Wp : World), listed = #[q0, q1, q2, q3, q4, q5, q6, q7] ∧
      a = { tmps := #[.slice A n c, .slice A' n c', .pointer (some ⟨n₀, 0, none⟩), .pointer (some ⟨n₀ + 1, 0, none⟩), .slice none 0 0, .pointer (some ⟨bl, 0, none⟩), .int .i64 (v : Int), undef, undef, undef, undef, .slice A n c, .int .i64 (n : Int), .slice (some ⟨gl, 0, none⟩) n n, .slice A n c,
        .func (.func 42) #[] #[.pointer (some ⟨bl + 1, 0, none⟩)], .int .i64 (v : Int), sl q0 (.slice (some ⟨gl, 0, none⟩) n n), sl q1 (.int .i64 (v : Int)), sl q2 (.slice A n c), sl q3 (.int .i64 (v : Int)), sl q4 (.slice A' n c'), sl q5 (.slice (some ⟨gk, 0, none⟩) kl kl), sl q6 (.pointer (some ⟨gl, v, none⟩)), undef, undef, undef, undef, undef, undef, undef, undef, undef, undef, undef, undef, undef, undef, undef, undef, undef, undef, undef, undef, undef, undef, undef, undef, undef, undef], defers := [] } ∧
      (q5 = true → q2 = true ∧ q3 = true ∧ q4 = true ∧ LookV Wp bl (.slice (some ⟨gk, 0, none⟩) kl kl) Kv) ∧ (q6 = true → q0 = true ∧ q1 = true) ∧ (q7 = true → q5 = true ∧ q6 = true) ∧ Below Z.heap.size Z.drew Wp ∧
      W = (if q7 then Wp.setCell ⟨gl, v, none⟩ (.slice (some ⟨gk, 0, none⟩) kl kl) else Wp)) ?h0 ?step ?hu ?hend
    case hu => decide +kernel
    case h0 => exact ⟨false, false, false, false, false, false, false, false, 0, Z.drew, rfl, rfl, (fun h => by cases h), (fun h => by cases h), (fun h => by cases h), Below.refl _ _, rfl⟩
    case step =>
      rintro listed a W i ⟨q0, q1, q2, q3, q4, q5, q6, q7, gk, Wp, rfl, rfl, h5, h6, h7, hW, rfl⟩ hi
      obtain ⟨hi0, o, ho, haf⟩ := mem_ready.1 hi
      have hlt : i < 8 := (Array.getElem?_eq_some_iff.1 ho).1
      obtain rfl | rfl | rfl | rfl | rfl | rfl | rfl | rfl : i = 0 ∨ i = 1 ∨ i = 2 ∨ i = 3 ∨ i = 4 ∨ i = 5 ∨ i = 6 ∨ i = 7 := by omega
      all_goals
        cases ho
        simp [Region.binds] at hi0 haf
        clear hi hlt
      case inl.refl =>
        subst hi0
        have h7' : q7 = false := by cases q7 <;> simp_all
        have h6' : q6 = false := by cases q6 <;> simp_all
        subst h7'
        subst h6'
        have y0 := HQ0.out Wp hW
        refine wpOpIn_step rfl (fun K hK => ?_)
        rw [if_pos (by rfl)]
        go_simp
        exact hK _ _ ⟨true, q1, q2, q3, q4, q5, false, false, gk, Wp, rfl, rfl, h5, (fun h => by cases h), (fun h => by cases h), hW, rfl⟩
      case inr.inl.refl =>
        subst hi0
        have h7' : q7 = false := by cases q7 <;> simp_all
        have h6' : q6 = false := by cases q6 <;> simp_all
        subst h7'
        subst h6'
        refine wpOpIn_step rfl (fun K hK => ?_)
        rw [if_pos (by rfl)]
        go_simp
        exact hK _ _ ⟨q0, true, q2, q3, q4, q5, false, false, gk, Wp, rfl, rfl, h5, (fun h => by cases h), (fun h => by cases h), hW, rfl⟩
      case inr.inr.inl.refl =>
        subst hi0
        have h5' : q5 = false := by cases q5 <;> simp_all
        have h7' : q7 = false := by cases q7 <;> simp_all
        subst h7'
        subst h5'
        have y0 := HQ2.out Wp hW
        refine wpOpIn_step rfl (fun K hK => ?_)
        rw [if_pos (by rfl)]
        go_simp
        exact hK _ _ ⟨q0, q1, true, q3, q4, false, q6, false, gk, Wp, rfl, rfl, (fun h => by cases h), h6, (fun h => by cases h), hW, rfl⟩
      case inr.inr.inr.inl.refl =>
        subst hi0
        have h5' : q5 = false := by cases q5 <;> simp_all
        have h7' : q7 = false := by cases q7 <;> simp_all
        subst h7'
        subst h5'
        refine wpOpIn_step rfl (fun K hK => ?_)
        rw [if_pos (by rfl)]
        go_simp
        exact hK _ _ ⟨q0, q1, q2, true, q4, false, q6, false, gk, Wp, rfl, rfl, (fun h => by cases h), h6, (fun h => by cases h), hW, rfl⟩
      case inr.inr.inr.inr.inl.refl =>
        subst hi0
        have h5' : q5 = false := by cases q5 <;> simp_all
        have h7' : q7 = false := by cases q7 <;> simp_all
        subst h7'
        subst h5'
        have y0 := HQ4.out Wp hW
        refine wpOpIn_step rfl (fun K hK => ?_)
        rw [if_pos (by rfl)]
        go_simp
        exact hK _ _ ⟨q0, q1, q2, q3, true, false, q6, false, gk, Wp, rfl, rfl, (fun h => by cases h), h6, (fun h => by cases h), hW, rfl⟩
      case inr.inr.inr.inr.inr.inl.refl =>
        subst hi0
        have a2 : q2 = true := by cases q2 <;> simp_all
        have a3 : q3 = true := by cases q3 <;> simp_all
        have a4 : q4 = true := by cases q4 <;> simp_all
        clear haf
        subst a2
        subst a3
        subst a4
        have h7' : q7 = false := by cases q7 <;> simp_all
        subst h7'
        refine wpOpIn_step rfl (fun K hK => ?_)
        rw [if_pos (by rfl)]
        go_simp
        refine ⟨trivial, (CallsIn.inRound l (callsIn_wide.2 (HLOOK.out Wp hW))).mono ?_⟩
        rintro e w' ⟨g', rfl, hg', hs', hb'⟩
        rw [← HKL.out]
        exact hK _ _ ⟨q0, q1, true, true, true, true, q6, false, g', w', rfl, rfl, fun _ => ⟨rfl, rfl, rfl, g', by rw [HKL.out], by have := hW.size; have h9 : Z.drew.heap.size = Z.heap.size := rfl; omega, hs'⟩, h6, (fun h => by cases h), hW.trans (hb'.mono hW.size), rfl⟩
      case inr.inr.inr.inr.inr.inr.inl.refl =>
        subst hi0
        have a0 : q0 = true := by cases q0 <;> simp_all
        have a1 : q1 = true := by cases q1 <;> simp_all
        clear haf
        subst a0
        subst a1
        have h7' : q7 = false := by cases q7 <;> simp_all
        subst h7'
        refine wpOpIn_step rfl (fun K hK => ?_)
        rw [if_pos (by rfl)]
        simp only [sl_true]
        go_simp
        exact hK _ _ ⟨true, true, q2, q3, q4, q5, true, false, gk, Wp, rfl, rfl, h5, fun _ => ⟨rfl, rfl⟩, (fun h => by cases h), hW, rfl⟩
      case inr.inr.inr.inr.inr.inr.inr.refl =>
        subst hi0
        have a6 : q6 = true := by cases q6 <;> simp_all
        have a5 : q5 = true := by cases q5 <;> simp_all
        clear haf
        subst a6
        subst a5
        obtain ⟨a0, a1⟩ := h6 rfl
        obtain ⟨a2, a3, a4, hlv⟩ := h5 rfl
        subst a0
        subst a1
        subst a2
        subst a3
        subst a4
        have HLV := Lib.hid hlv
        clear h5 h6 hlv
        have hro := HROW.out Wp hW
        have yc := hro.cellAt v (by omega)
        have yf := hro.frozenAt v
        rw [List.getElem?_eq_getElem (by omega)] at yc
        refine wpOpIn_step rfl (fun K hK => ?_)
        rw [if_pos (by rfl)]
        simp only [sl_true]
        go_simp
        exact hK _ _ ⟨true, true, true, true, true, true, true, true, gk, Wp, rfl, rfl, fun _ => ⟨rfl, rfl, rfl, HLV.out⟩, fun _ => ⟨rfl, rfl⟩, fun _ => ⟨rfl, rfl⟩, hW, rfl⟩
    case hend =>
      rintro listed a W ⟨q0, q1, q2, q3, q4, q5, q6, q7, gk, Wp, rfl, rfl, h5, h6, h7, hW, rfl⟩ hall
      have h7' : q7 = true := hall 7 (by decide)
      subst h7'
      obtain ⟨h5', h6'⟩ := h7 rfl
      obtain ⟨_, _, _, hlv⟩ := h5 h5'
      simp only [if_true]
      have hro := HROW.out Wp hW
      obtain ⟨hro2, hgb⟩ := hro.stored v (.slice (some ⟨gk, 0, none⟩) kl kl)
      have hBp : Below n₀ w Wp := HB.out.drew.trans (hW.mono (by omega))
      have hkz : KeepsOthers Z Wp := (KeepsOthers.drew Z).trans ⟨hW.size, fun k o hk _ => (hW.block k (Array.getElem?_eq_some_iff.1 hk).1).trans hk⟩
      refine ⟨hkz.trans (KeepsOthers.setCell _ _ _), ((Below.refl n₀ Z).drew.trans (hW.mono (by omega))).setCell (p := ⟨gl, v, none⟩) (by show n₀ ≤ gl; omega) _, ⟨?_, ?_, ?_, _, hro2, fun i hi => ?_⟩, hBp.setCell (p := ⟨gl, v, none⟩) (by show n₀ ≤ gl; omega) _⟩
      · exact Boxed.kept ((hW.block n₀ (by show n₀ < Z.heap.size; omega)).trans HB0.out) hgb (fun e => by injection e; omega)
      · exact Boxed.kept ((hW.block (n₀ + 1) (by show n₀ + 1 < Z.heap.size; omega)).trans HB1.out) hgb (fun e => by injection e; omega)
      · exact Boxed.kept ((hW.block bl (by show bl < Z.heap.size; omega)).trans HB3.out) hgb (fun e => by injection e; omega)
      · by_cases hiv : i = v
        · subst hiv
          refine ⟨_, List.getElem?_set_self (by omega), ?_⟩
          rw [← HKV.out]
          exact hlv.kept hgb (fun r e => by injection e with e; exact .inl (by omega))
        · rw [valsN_snoc, List.mem_append, List.mem_singleton] at hi
          rcases hi with hi | hi
          · obtain ⟨u, hu, hk⟩ := HLK.out i hi
            refine ⟨u, by rw [List.getElem?_set_ne (Ne.symm hiv)]; exact hu, ?_⟩
            have hk1 : LookV Z.drew bl u (lookOf L C i) := hk
            exact (hk1.below hW).kept hgb (fun r e => by injection e with e; exact .inl (by omega))
          · exact absurd hi hiv
  case done =>
    rintro D xs Z hD hS ⟨⟨b0, b1, b3, vs, hr, hlk⟩, hB⟩ hK
    have hZs : bl < Z.heap.size := (Array.getElem?_eq_some_iff.1 b3).1
    have hDl : D < Z.heap.size := (Array.getElem?_eq_some_iff.1 hK).1
    have hvl : vs.length = n := by have := hr.1; omega
    obtain ⟨Ls, hLs, hLl⟩ := build_list (encS (n₀ := Z.heap.size) (w := Z)) lst vs (looksL L C) (by rw [hvl, looksL_length, HN.out]) (fun i h1 h2 => by
      obtain ⟨u, hu, g, hug, hgB, hse⟩ := hlk i (by rw [hS]; exact nodesT_full h12 HQ.out (by omega))
      rw [List.getElem?_eq_getElem h1] at hu
      injection hu with hu
      refine ⟨⟨((some ⟨g, 0, none⟩, (lookOf L C i).length), lookOf L C i), by have := lookOf_small L C i; show (lookOf L C i).length ≤ 100000; omega, hse⟩, ?_, ?_⟩
      · rw [hu, hug]
      · simp [looksL])
    have hLn : Ls.length = n := by have h := congrArg List.length hLs; rw [List.length_map] at h; omega
    rw [← hLs] at hr
    have hRL : RowL Z n₀ (.slice (some ⟨gl, 0, none⟩) n n) Ls := by unfold RowL; rw [hLn]; exact hr
    have hSL : ∀ k, k < Ls.length → Z.cell? ⟨gl, k, none⟩ = some (encS Ls[k]!) := fun k hk => by
      rw [World.ownsRow.cellAt hr k (by omega), mapS_get Ls k hk]
    have hSeenL : SeenLB Z.heap.size Z (some ⟨gl, 0, none⟩) Ls := fun k hk => ⟨gl, 0, rfl, by omega, by rw [Nat.zero_add]; exact hSL k hk⟩
    obtain ⟨m, em⟩ : ∃ m, m = Z.heap.size := ⟨_, rfl⟩
    have hB1 : Below Z.heap.size Z (Z.alloc (.cells #[.slice (some ⟨gl, 0, none⟩) n n] 28)) := (Below.refl _ Z).alloc (Nat.le_refl _) _
    have HSO := Lib.hid (sortedS_any Z.heap.size (some ⟨gl, 0, none⟩) n Ls (by omega) (by omega) (Z.alloc (.cells #[.slice (some ⟨gl, 0, none⟩) n n] 28)) hB1 hB1.size (by simp) (by rw [hLn]; exact (Boxed.new Z 28 (.slice (some ⟨gl, 0, none⟩) n n)).cell)
      (fun k hk => by
        obtain ⟨b, off, hA, hlt, hc⟩ := hSeenL.below hB1 k hk
        exact ⟨b, off, hA, Nat.lt_of_lt_of_le hlt hB1.size, hc⟩))
    have HB0 := Lib.hid b0
    have HB1 := Lib.hid b1
    have HB3 := Lib.hid b3
    have HB := Lib.hid hB
    have HK := Lib.hid hK
    have HD := Lib.hid hD
    have HSL := Lib.hid hSL
    have HLL := Lib.hid hLl
    have HLN := Lib.hid hLn
    have hz3 := b3.cell
    have HA1 := Lib.hid hB1
    clear b0 b1 b3 hlk hS hB hK hr hRL hSeenL hLs hLl hD hSL hB1 hvl hLn
    gi_wp2_with (refine ⟨trivial, ?_⟩; gi_at_call 53; refine (callsIn_wide.2 (valuesS_any _ _ _ _)).mono ?_; rintro e w' ⟨rfl, rfl⟩)
    refine ⟨trivial, ?_⟩
    refine (callsIn_wide.2 HSO.out).mono ?_
    rintro e w4 ⟨v, Dl, rfl, hp, ho, hr4, hb4⟩
    have hDn : Dl.length = n := by rw [hp.length_eq, HLN.out]
    obtain ⟨g, cap, cur, rfl, hgB, hgl, hblk, h1, h2', h3, h4⟩ := hr4.block (by omega)
    have hgm : Z.heap.size ≤ g := Nat.le_trans HA1.out.size hgB
    have hH := holds_of hblk h4
    have hZ4 : Below Z.heap.size Z w4 := HA1.out.trans (hb4.mono HA1.out.size)
    have hsz4 : Z.heap.size ≤ w4.heap.size := hZ4.size
    have HCF := compactF_any g cap Dl.toArray w4 hZ4 hsz4 hgm hH (asc_of ho) (by simp; omega) (by simp; omega) (by simp; omega)
    rw [List.size_toArray, hDn] at HCF
    rw [hDn]
    have HCFH := Lib.hid HCF
    have HH4 := Lib.hid hH
    have HP := Lib.hid hp
    have HZ4 := Lib.hid hZ4
    have HDN := Lib.hid hDn
    clear HSO hr4 hb4 hblk h1 h2' h3 h4 hH ho hp HCF hZ4 hDn
    gi_wp2
    refine ⟨trivial, ?_⟩
    refine (callsIn_wide.2 HCFH.out).mono ?_
    rintro e w5 ⟨k, dk, dz, q, rfl, hcmp, hdz, hlow, hw5⟩
    have hnD : n = Dl.toArray.size := by rw [List.size_toArray, HDN.out]
    rw [hnD] at hcmp hdz
    obtain ⟨hs2, hdiff⟩ := diff_of HP.out hcmp hdz hlow
    rw [HLL.out] at hdiff
    have hkn : k ≤ n := by have := hcmp.le; omega
    obtain ⟨d2, ed2⟩ : ∃ d2, d2 = dz.extract 0 k := ⟨_, rfl⟩
    rw [← ed2] at hs2 hdiff
    have hH5 : Holds encS w5 g 0 d2 := by
      have h := holds_putRow encS (Sort.ahead w4 q) g 0 Dl.toArray dz (holds_ahead encS w4 q g 0 Dl.toArray HH4.out) hdz
      rw [← hw5] at h
      intro j hj
      rw [hs2] at hj
      have h6 := h j (by omega)
      have e : d2[j]! = dz[j]! := by rw [ed2, getElem!_pos _ j (by rw [Array.size_extract]; omega), getElem!_pos dz j (by omega)]; simp
      rw [e]
      exact h6
    have hg5 : w4.grownBy w5 (some g) := by
      have h := grown_put (W := w4) (g := g) (n := q) (os := #[]) dz
      unfold sortWorld at h
      rw [grow_empty, ← hw5] at h
      exact h
    have hZ5 : Below Z.heap.size Z w5 := HZ4.out.grown hg5 hsz4 (fun k hk => by injection hk with hk; omega)
    have hg5l : g < w5.heap.size := Nat.lt_of_lt_of_le hgl hg5.size
    have hsz5 : Z.heap.size ≤ w5.heap.size := hZ5.size
    obtain ⟨N2, eN2⟩ : ∃ N2, N2 = w5.heap.size := ⟨_, rfl⟩
    obtain ⟨w6, e6⟩ : ∃ w6, w6 = madeW w5 n := ⟨_, rfl⟩
    have hmk5 : (Instr.makeSlice 22 (.int .i64 (n : Int)) (.int .i64 (n : Int))).run Tryd.prog w5 = .ok (.slice (some ⟨N2, 0, none⟩) n n) w6 := by rw [e6, eN2]; exact run_make_ints n (by omega) w5
    have R6 : Row w6 N2 (.slice (some ⟨N2, 0, none⟩) n n) (ints (List.replicate n 0)) := by rw [e6, eN2]; exact madeW_row w5 n (by omega)
    have M6 : Below N2 w5 w6 := by rw [e6, eN2]; exact madeW_below w5 n
    have S6 : w6.heap.size = N2 + 1 := by rw [e6, eN2]; exact madeW_size w5 n
    have y2 : w5.cell? ⟨n₀, 0, none⟩ = some (.slice A n c) := (hZ5.cell (p := ⟨n₀, 0, none⟩) (by show n₀ < Z.heap.size; omega)).trans HB0.out.cell
    have y5 : w6.cell? ⟨bl, 0, none⟩ = some (.slice (some ⟨gl, 0, none⟩) n n) := (M6.cell (p := ⟨bl, 0, none⟩) (by show bl < N2; omega)).trans ((hZ5.cell (p := ⟨bl, 0, none⟩) hZs).trans HB3.out.cell)
    have HH5 := Lib.hid hH5
    have HDF := Lib.hid hdiff
    have HZ5 := Lib.hid hZ5
    have HM6 := Lib.hid M6
    have HR6 := Lib.hid R6
    have HS2 := Lib.hid hs2
    have hg5N : g < N2 := by omega
    have hmN : Z.heap.size ≤ N2 := by omega
    have EN2 := Lib.hid eN2
    clear HCFH HH4 HP HZ4 HDN hcmp hdz hlow hw5 hnD ed2 hH5 hdiff hZ5 M6 R6 hs2 hg5 hg5l e6 eN2 hsz5
    gi_wp2
    obtain ⟨F, eF⟩ : ∃ F, F = finerL L C := ⟨_, rfl⟩
    have hFl : F.length = n := by rw [eF, finerL_length, HN.out]
    have HFL := Lib.hid hFl
    have HEF := Lib.hid eF
    have R7 : Row w6 N2 (.slice (some ⟨N2, 0, none⟩) n n) (F.take 0 ++ List.replicate (F.length - 0) 0) := by
      have h := HR6.out
      rw [hFl, List.take_zero, List.nil_append, Nat.sub_zero]
      simpa [ints] using h
    have HR7 := Lib.hid R7
    clear hFl eF HR6 R7 y2 y5 hmk5 hz3
    gi_loopw [34] (fun i wr => ∃ j : Nat, j ≤ n ∧ i = .int .i64 j ∧ Hid (Row wr N2 (.slice (some ⟨N2, 0, none⟩) n n) (F.take j ++ List.replicate (F.length - j) 0)) ∧ Hid (Below N2 w6 wr)) (fun i _ => n - (intOf i).toNat)
    case atStart => exact ⟨0, Nat.zero_le _, rfl, HR7, Lib.hid (Below.refl _ _)⟩
    case round =>
      obtain ⟨j, hj, rfl, hR, hW⟩ := hrel
      by_cases hlt : j < n
      · have h56 : Below w5.heap.size w5 wr := by have h := HM6.out.trans hW.out; rw [EN2.out] at h; exact h
        have hZr : Below Z.heap.size Z wr := HZ5.out.trans (h56.mono (by have := EN2.out; omega))
        have hcL : wr.cell? ⟨gl, j, none⟩ = some (encS Ls[j]!) := (hZr.cell (p := ⟨gl, j, none⟩) (by show gl < Z.heap.size; omega)).trans (HSL.out j (by have := HLN.out; omega))
        have hSE := search_any hZr hZr.size g cap d2 (looksL L C) HDF.out (holds_below HH5.out h56 (by have := EN2.out; omega)) hgm (by have := h56.size; have := EN2.out; omega) (by have := HS2.out; omega) Ls[j]!
        rw [HS2.out] at hSE
        have hlst : lst Ls[j]! = lookOf L C j := by
          have hjl : j < Ls.length := by have := HLN.out; omega
          have h := congrArg (fun l => l[j]?.getD []) HLL.out
          simp only [List.getElem?_map, List.getElem?_eq_getElem hjl, Option.map_some, Option.getD_some] at h
          rw [getElem!_pos Ls j hjl, h]
          simp [looksL]
          rw [List.getElem?_range (by have := HN.out; omega)]
          rfl
        rw [hlst] at hSE
        have hval : ((rankOf (looksL L C) (lookOf L C j) : Nat) : Int) = F[j]?.getD 0 := by
          rw [HEF.out, finerL_get L C (by have := HN.out; omega)]
        have hrk : rankOf (looksL L C) (lookOf L C j) ≤ 12 := by
          have h := rank_le (looksL L C) (lookOf L C j)
          rw [looksL_length, ← HN.out] at h
          omega
        obtain ⟨r, er⟩ : ∃ r, r = rankOf (looksL L C) (lookOf L C j) := ⟨_, rfl⟩
        rw [← er] at hSE hval hrk
        obtain ⟨x, ex⟩ : ∃ x, x = Ls[j]! := ⟨_, rfl⟩
        rw [← ex] at hcL hSE
        have HVAL := Lib.hid hval
        have HSE := Lib.hid hSE
        have HR := Lib.hid hR.out
        have hi1 : (0 : Int) ≤ (j : Int) ∧ (j : Int) < (n : Int) := by omega
        clear h56 hZr hSE hlst hval er ex
        gi_wp2
        refine ⟨trivial, ?_⟩
        refine (callsIn_wide.2 HSE.out).mono ?_
        rintro e w7 ⟨⟨b, rfl⟩, hb7⟩
        have hR7 := HR.out.below hb7
        have hjl : j < (F.take j ++ List.replicate (F.length - j) 0).length := by rw [fill_length F (by have := HFL.out; omega)]; have := HFL.out; omega
        obtain ⟨old, eo⟩ : ∃ old, old = (F.take j ++ List.replicate (F.length - j) 0)[j]?.getD 0 := ⟨_, rfl⟩
        have hgc : w7.cell? ⟨N2, j, none⟩ = some (.int .i64 old) := by rw [eo]; exact hR7.cellAt j hjl
        have hgf : w7.frozen? ⟨N2, j, none⟩ = false := hR7.frozenAt j hjl
        have hrs := hR7.set j hjl (r : Int)
        have es : (F.take j ++ List.replicate (F.length - j) 0).set j (r : Int) = F.take (j + 1) ++ List.replicate (F.length - (j + 1)) 0 := by
          rw [HVAL.out]; exact fill_step F (by have := HFL.out; omega)
        rw [es] at hrs
        have HRS := Lib.hid hrs
        have HB7 := Lib.hid ((hW.out.trans (hb7.mono (by have := hW.out.size; omega))).setCell (p := ⟨N2, j, none⟩) (Nat.le_refl _) (.int .i64 (r : Int)))
        clear hR7 hjl eo hrs es hb7 hcL
        gi_wp2
        go_roundw
        case rel => exact ⟨j + 1, by omega, by go_num, HRS, HB7⟩
        case measure => simp [intOf]; omega
      · have hjn : j = n := by omega
        subst hjn
        have h56 : Below w5.heap.size w5 wr := by have h := HM6.out.trans hW.out; rw [EN2.out] at h; exact h
        have hZr : Below Z.heap.size Z wr := HZ5.out.trans (h56.mono (by have := EN2.out; omega))
        have hKr := Lib.hid ((hZr.block D hDl).trans HK.out)
        have hBr := Lib.hid (HB.out.trans (hZr.mono (by omega)))
        have hRr : Row wr N2 (.slice (some ⟨N2, 0, none⟩) j j) F := by
          have h := hR.out
          rw [← HFL.out, List.take_length, Nat.sub_self, List.replicate_zero, List.append_nil] at h
          rw [← HFL.out]
          exact h
        have HRR := Lib.hid hRr
        clear h56 hZr hRr hR hW
        gi_wp2
        refine ⟨by simp, .inl ⟨_, _, rfl, run_takeDeferred hKr.out, ?_⟩⟩
        refine ⟨_, results_tmp rfl _ _ _, ?_⟩
        have hR := ownsRow_putObj HRR.out (.deferred none) hKr.out rfl
        have hRow : Row (wr.putObj D (.deferred none)) N2 (.slice (some ⟨N2, 0, none⟩) j j) F := hR
        refine ⟨_, rfl, ?_, ?_⟩
        · rw [← EN.out, ← HEF.out]
          exact hRow.mono (by omega)
        · rw [← EN.out]
          exact hBr.out.trans (belowK_b (w := w) hle wr D _ _ (by have := EN.out; have := HD.out; omega) hKr.out rfl rfl)
  case stop =>
    rintro D cd pre W _ _ h _
    exact h.elim
end Go.Proofs.YtnnobbbljpaieaaDoor
