/- The model's TreeWay. -/
import Derived.Test.YtkngijkhhonikaaDoorWayFacts
import Derived.Test.YtkngijkhhonikaaDoorSpecMiddle
import Derived.Test.YtkngijkhhonikaaDoorStepsFn
import Derived.StillTailTactics
import Derived.Test.YtkngijkhhonikaaDoorBaseA
namespace Go.Proofs.YtkngijkhhonikaaDoor
open Go Go.RowKit
set_option linter.unusedVariables false
set_option maxRecDepth 100000

theorem steps_cells {w : World} {B : Nat} {A' : Option Addr} {c' n : Nat} {S : List Nat} (hr : Row w B (.slice A' n c') (ints S)) (hl : S.length = n) : ∀ j, j < n → ∃ blk off, A' = some ⟨blk, off, none⟩ ∧ blk < w.heap.size ∧ w.cell? ⟨blk, off + j, none⟩ = some (.int .i64 (S[j]?.getD 0 : Nat)) := fun j hj => by
  obtain ⟨A2, c2, e, hs⟩ := hr.seen
  obtain ⟨blk, off, a, hb, hc⟩ := hs j (by rw [ints_length]; omega)
  injection e with e1 e2 e3
  refine ⟨blk, off, by rw [e1]; exact a, hb, ?_⟩
  rw [hc]
  congr 2
  unfold ints
  rw [List.getElem?_map]
  cases S[j]? <;> simp

set_option maxHeartbeats 8000000 in
theorem specWay_yes (B : Nat) (v : Value) (L : List Int) (a b : Nat) (ht : IsTree L) (ha : a < L.length) (hb : b < L.length) (w : World) (h : Row w B v L) :
    Calls Tryd.prog 25 #[v, .int .i64 a, .int .i64 b] w (Told w (ints (wayT L a b)) true) := by
  have hg := ht.1.1
  have h1 := hg.1
  have h6 := hg.2.1
  have H1 := Lib.hid (l9Tree_any B v L true ⟨fun _ => ht, fun _ => rfl⟩ w h)
  obtain ⟨A, c, rfl, hs⟩ := h.seen
  have HS := Lib.hid fun w1 (k : Below w.heap.size w w1) => steps_any A c L hg b hb w1 (hs.below k)
  have HE : Hid (∀ u, u < L.length → L[u]?.getD 0 = ((ent L u : Nat) : Int) ∧ ent L u < 64) := Lib.hid fun u hu => ⟨ent_int (hg.2.2 u hu).1, by have h1 := ent_lt (hg.2.2 u hu).1; have := two_le h6; omega⟩
  have HLe := Lib.hid fun j => stepsT_le L b j
  have HLS := Lib.hid (stepsT_len L b)
  have hIT : ∀ k, k ≤ dB L b a → itW L b a k < L.length ∧ dB L b (itW L b a k) + k = dB L b a := fun k hk => it_facts ht ha hb k hk
  have hEN : ∀ k, k ≤ dB L b a → (itW L b a k = b ↔ k = dB L b a) := fun k hk => it_end ht ha hb k hk
  have hSW : ∀ x, x < L.length → x ≠ b → stepW L b x < L.length ∧ stepQ L b x (stepW L b x) = true := fun x hx hne => ⟨(stepW_is ht hx hb hne).1, (stepW_is ht hx hb hne).2.1⟩
  have hFI : ∀ x u, u < L.length → stepQ L b x u = true → (∀ v, v < u → ¬ stepQ L b x v = true) → stepW L b x = u := fun x u hu hq hno => stepW_first hu hq hno
  have hK : dB L b a ≤ 6 := Nat.le_trans (stepsT_le L b a) h6
  obtain ⟨n, hn⟩ : ∃ n, n = L.length := ⟨_, rfl⟩
  rw [← hn] at h1 h6 H1 HS HE HLe HLS ha hb hIT hSW hFI ⊢
  have HN := Lib.hid hn
  have H := Lib.hid hs
  have hQ : ∀ x v, stepQ L b x v = (bt L x v == 1 && (stepsT L b)[v]?.getD 0 + 1 == (stepsT L b)[x]?.getD 0) := fun _ _ => rfl
  have hdB : ∀ x, dB L b x = (stepsT L b)[x]?.getD 0 := fun _ => rfl
  obtain ⟨S, eS⟩ : ∃ S, S = stepsT L b := ⟨_, rfl⟩
  rw [← eS] at HS HLe HLS hQ hdB
  obtain ⟨K, eK⟩ : ∃ K, K = dB L b a := ⟨_, rfl⟩
  rw [← eK] at hIT hEN hK
  have hWT : wayT L a b = (List.range (K + 1)).map (itW L b a) := by rw [eK]; rfl
  have HIT := Lib.hid hIT
  have HEN := Lib.hid hEN
  have HSW := Lib.hid hSW
  have HFI := Lib.hid hFI
  have HQ := Lib.hid hQ
  have HDB := Lib.hid hdB
  have HWT := Lib.hid hWT
  obtain ⟨m, hm⟩ : ∃ m : Nat, (n : Int) - 1 = (m : Int) := ⟨n - 1, by omega⟩
  have hw : wrap64 ((n : Int) - 1) = (m : Int) := by unfold wrap64; omega
  clear h hn hs hg ht hIT hEN hSW hFI hQ hdB hWT eS eK
  go_enter Tryd.func25, Tryd.ntmps25
  go_wp2_with fail
  refine H1.out.mono ?_
  rintro e w1 ⟨rfl, d, rfl⟩
  go_wp2_with fail
  refine (in_yes _ _ _ _ (by omega) (by omega)).mono ?_
  rintro e w1 ⟨rfl, rfl⟩
  go_wp2_with fail
  refine (in_yes _ _ _ _ (by omega) (by omega)).mono ?_
  rintro e w1 ⟨rfl, rfl⟩
  have B0 := below_drewN (Below.refl w.heap.size w) d
  go_wp2_with fail
  refine (HS.out _ B0).mono ?_
  rintro e w2 ⟨vs, rfl, hr, hb2⟩
  obtain ⟨A', c', rfl, _⟩ := hr.seen
  have hlS : (ints S).length = n := by rw [ints_length, HLS.out]
  rw [hlS] at hr ⊢
  have hBw2 := B0.trans (hb2.mono B0.size)
  have S2 := Lib.hid (steps_cells hr HLS.out)
  have hws := hBw2.size
  have R0 := Lib.hid (World.ownsRow_lit (base := w2.heap.size) (e := 3) (size := 1) w2 #[.int .i64 a] 1 (Nat.le_refl _) (by unfold maxLen; omega) rfl)
  have BB0 := Lib.hid (hBw2.alloc hws (.cells #[.int .i64 a] 3))
  have BS0 := Lib.hid ((Below.refl w2.heap.size w2).alloc (Nat.le_refl _) (.cells #[.int .i64 a] 3))
  clear hr hb2 hlS B0 H1 HS
  have HWS := Lib.hid hws
  have HBW2 := Lib.hid hBw2
  clear hws hBw2
  go_wp2
  go_loopw [1, 9, 10] (fun x o _ wr => ∃ k : Nat, k ≤ K ∧ x = .int .i64 (itW L b a k : Nat) ∧ Hid (Row wr w2.heap.size o (ints ((List.range (k + 1)).map (itW L b a)))) ∧ Hid (Below w.heap.size w wr) ∧ Hid (Below w2.heap.size w2 wr)) (fun x _ _ _ => S[(intOf x).toNat]?.getD 0)
  case atStart => exact ⟨0, Nat.zero_le _, rfl, R0, BB0, BS0⟩
  case round =>
    obtain ⟨k, hk, rfl, hr, hb', hs'⟩ := hrel
    obtain ⟨hx, hdx⟩ := HIT.out k hk
    have hen := HEN.out k hk
    have hsx := HSW.out (itW L b a k) hx
    have hfi := HFI.out (itW L b a k)
    have hq := HQ.out (itW L b a k)
    have hnext : itW L b a (k + 1) = stepW L b (itW L b a k) := rfl
    have hwt := wayTo_succ L a b (k + 1)
    have hlk : (ints ((List.range (k + 1)).map (itW L b a))).length ≤ 100000 := by rw [ints_length, List.length_map, List.length_range]; omega
    obtain ⟨x, ex⟩ : ∃ x, x = itW L b a k := ⟨_, rfl⟩
    rw [← ex] at hx hdx hen hsx hfi hq hnext ⊢
    rw [HDB.out] at hdx
    by_cases hxb : x = b
    · have hkK : k = K := hen.1 hxb
      have hd : ((x : Int) != (b : Int)) = false := by simp; omega
      have hfin : Hid (Row wr w.heap.size u9 (ints (wayT L a b))) := Lib.hid (by rw [HWT.out, ← hkK]; exact hr.out.mono HWS.out)
      clear hkK hen hsx hfi hq hnext hwt hlk ex hr hdx
      subst hxb
      go_wp2
      go_ret2
      exact ⟨_, rfl, hfin.out, hb'.out⟩
    · have hkK : k < K := by
        rcases Nat.lt_or_ge k K with h | h
        · exact h
        · exact absurd (hen.2 (by omega)) hxb
      have hd : ((x : Int) != (b : Int)) = true := by simp; omega
      obtain ⟨hsl, hsq⟩ := hsx hxb
      have HN2 := Lib.hid hnext
      have HWT2 := Lib.hid hwt
      have HQX := Lib.hid hq
      have HFX := Lib.hid hfi
      have HSL := Lib.hid hsl
      have HSQ := Lib.hid hsq
      have HLK := Lib.hid hlk
      obtain ⟨eX, hX⟩ := HE.out x hx
      obtain ⟨blk, off, rfl, hbl, hc⟩ := H.out x (by have := HN.out; omega)
      rw [eX] at hc
      obtain ⟨blk2, off2, rfl, hbl2, hc2⟩ := S2.out x hx
      have hSx := HLe.out x
      obtain ⟨dx, edx⟩ : ∃ dx, dx = S[x]?.getD 0 := ⟨_, rfl⟩
      rw [← edx] at hc2 hdx hSx
      obtain ⟨X, eX'⟩ : ∃ X, X = ent L x := ⟨_, rfl⟩
      rw [← eX'] at hc hX
      have hbt : ∀ v, bt L x v = X / 2 ^ v % 2 := fun v => by rw [eX']; rfl
      have HBT := Lib.hid hbt
      have HBL := Lib.hid hbl
      have HBL2 := Lib.hid hbl2
      have HC := Lib.hid hc
      have HC2 := Lib.hid hc2
      have EDX := Lib.hid edx
      have hdx1 : 1 ≤ dx := by omega
      have hdx6 : dx ≤ 6 := by omega
      clear hen hsx hfi hq hnext hwt hlk eX eX' hbt hsl hsq hdx hSx ex hbl hbl2 hc hc2 edx hk
      go_wp2
      obtain ⟨wo, ewo⟩ : ∃ wo : World, wo = wr := ⟨_, rfl⟩
      subst ewo
      go_loopw [1, 10] (fun y i wr => ∃ u q : Nat, u ≤ n ∧ y = .int .i64 x ∧ i = .int .i64 u ∧ Hid (∀ v, v < u → ¬ stepQ L b x v = true) ∧ wr = wo.drewN q) (fun _ i _ => n - (intOf i).toNat)
      case atStart => exact ⟨0, 0, Nat.zero_le _, rfl, rfl, Lib.hid fun v hv => absurd hv (by omega), rfl⟩
      case round =>
        obtain ⟨u, q, hu, rfl, rfl, hno, ew⟩ := hrel
        have hun : u < n := by
          rcases Nat.lt_or_ge u n with h | h
          · exact h
          · exact absurd HSQ.out (hno.out _ (by have := HSL.out; omega))
        have hbw : Below w.heap.size w wr := by rw [ew]; exact below_drewN hb'.out q
        have hbs : Below w2.heap.size w2 wr := by rw [ew]; exact below_drewN hs'.out q
        obtain ⟨blk3, off3, hA3, hbl3, hc3⟩ := S2.out u hun
        have e3 : blk2 = blk3 ∧ off2 = off3 := by injection hA3 with e; injection e with e1 e2; exact ⟨e1, e2⟩
        obtain ⟨rfl, rfl⟩ := e3
        have cg : wr.cell? ⟨blk, off + x, none⟩ = some (.int .i64 X) := (hbw.cell (p := ⟨blk, off + x, none⟩) HBL.out).trans HC.out
        have cx : wr.cell? ⟨blk2, off2 + x, none⟩ = some (.int .i64 dx) := (hbs.cell (p := ⟨blk2, off2 + x, none⟩) HBL2.out).trans HC2.out
        have cu : wr.cell? ⟨blk2, off2 + u, none⟩ = some (.int .i64 (S[u]?.getD 0 : Nat)) := (hbs.cell (p := ⟨blk2, off2 + u, none⟩) HBL2.out).trans hc3
        have hq := HQX.out u
        rw [HBT.out, ← EDX.out] at hq
        have hSu := HLe.out u
        obtain ⟨du, edu⟩ : ∃ du, du = S[u]?.getD 0 := ⟨_, rfl⟩
        rw [← edu] at hq hSu cu
        have DU := Lib.hid edu
        obtain ⟨bit, ebit, hbit, f1⟩ := and_facts X u (by omega)
        rw [← ebit] at hq
        have hi1 : (0 : Int) ≤ (x : Int) ∧ (x : Int) < (n : Int) := by omega
        have hi2 : (0 : Int) ≤ (u : Int) ∧ (u : Int) < (n : Int) := by omega
        have hu64 : u < 64 := by omega
        have EW := Lib.hid ew
        have HBW := Lib.hid hbw
        have HBS := Lib.hid hbs
        have hbit' : bit = 0 ∨ bit = 1 := by omega
        clear hA3 hbl3 hc3 edu ebit hbit ew hbw hbs hSu
        rcases hbit' with rfl | rfl
        · have HNO : Hid (∀ v, v < u + 1 → ¬ stepQ L b x v = true) := Lib.hid fun v hv => by
            by_cases e : v = u
            · rw [e, hq]; simp
            · exact hno.out v (by omega)
          clear hq
          go_wp2
          go_quiet (fail)
          go_wp2
          go_roundw
          case rel => exact ⟨u + 1, q + nq, by omega, rfl, by go_num, HNO, by rw [EW.out, World.drewN_drewN]⟩
          case measure => simp [intOf]; omega
        · by_cases he : du + 1 = dx
          · have e1 : ((du : Int) == (dx : Int) - 1) = true := by simp; omega
            have hqt : stepQ L b x u = true := by rw [hq]; simp [he]
            have hxu : stepW L b x = u := HFX.out u hun hqt hno.out
            have HXU : Hid (itW L b a (k + 1) = u) := Lib.hid (by rw [HN2.out]; exact hxu)
            have HR := Lib.hid (hr.out.below (show Below wo.heap.size wo (wo.drewN q) from below_drewN (Below.refl _ _) q))
            rw [← EW.out] at HR
            have HWZ := Lib.hid HBS.out.size
            have HDU := Lib.hid (show du < dx by omega)
            clear hq hqt hxu
            go_wp2
            go_quiet (fail)
            have HRN := Lib.hid (HR.out.drewN nq)
            obtain ⟨wn, ewn⟩ : ∃ wn, wn = wr.drewN nq := ⟨_, rfl⟩
            rw [← ewn] at HRN ⊢
            have HBN : Hid (Below w2.heap.size w2 wn) := Lib.hid (by rw [ewn]; exact below_drewN HBS.out nq)
            have HZN := Lib.hid HBN.out.size
            clear ewn cg cx cu
            go_wp2_with (at_builtin; refine append_one rfl (.tmp 66) (.tmp 68) rfl wn w2.heap.size u9 (ints ((List.range (k + 1)).map (itW L b a))) (u : Int) rfl rfl HRN.out HZN.out HLK.out ?_; intro v' w' hr' hb'')
            go_roundw
            case rel => exact ⟨k + 1, by omega, by rw [HXU.out], Lib.hid (by rw [HWT2.out, HXU.out]; have h := hr'.out; unfold ints at h ⊢; rw [List.map_append]; exact h), Lib.hid (HBW2.out.trans ((HBN.out.trans hb''.out).mono HWS.out)), Lib.hid (HBN.out.trans hb''.out)⟩
            case measure =>
              have h1 := HDU.out
              rw [DU.out, EDX.out] at h1
              simpa [intOf] using h1
          · have e1 : ((du : Int) == (dx : Int) - 1) = false := by simp; omega
            have HNO : Hid (∀ v, v < u + 1 → ¬ stepQ L b x v = true) := Lib.hid fun v hv => by
              by_cases e : v = u
              · rw [e, hq]; simp; omega
              · exact hno.out v (by omega)
            clear hq
            go_wp2
            go_quiet (fail)
            go_wp2
            go_roundw
            case rel => exact ⟨u + 1, q + nq, by omega, rfl, by go_num, HNO, by rw [EW.out, World.drewN_drewN]⟩
            case measure => simp [intOf]; omega
end Go.Proofs.YtkngijkhhonikaaDoor
