/- The model's GraphIn: it tells graphs from other lists. -/
import Derived.Test.YtedjnenbmhajiaaDoorIn
import Derived.Test.YtedjnenbmhajiaaDoorIsGraph
namespace Go.Proofs.YtedjnenbmhajiaaDoor
open Go.RowKit
set_option linter.unusedVariables false

theorem Row.seen {w : World} {B : Nat} {v : Value} {xs : List Int} (h : Row w B v xs) : ∃ A c, v = .slice A xs.length c ∧ Seen w A xs := by
  obtain ⟨A, c, hv, hA⟩ := h.see
  refine ⟨A, c, hv, fun k hk => ?_⟩
  obtain ⟨g, hg, _, hc, _⟩ := hA k hk
  exact ⟨g, 0, hg, World.block_lt_of_cell? w _ hc, by rw [Nat.zero_add]; exact hc⟩
/-- How a call that only looks, and tells a bool, ends. -/
def Looked (w : World) (b : Bool) (e : Ending) (w' : World) : Prop := e = .returned (.bool b) ∧ ∃ n, w' = w.drewN n
theorem quiet_same {P : Program} {f : FuncId} {args : Array Value} {w : World} {v : Value} (h : Calls P f args w fun e w' => e = .returned v ∧ w = w') :
    Calls P f args w fun e w' => e = .returned v ∧ ∃ m, w' = w.drewN m := h.mono fun _ _ ⟨he, hw⟩ => ⟨he, 0, hw.symm⟩
theorem quiet_drewN {P : Program} {f : FuncId} {args : Array Value} {w : World} {v : Value} {k : Nat} (h : Calls P f args (w.drewN k) fun e w' => e = .returned v ∧ w.drewN k = w') :
    Calls P f args (w.drewN k) fun e w' => e = .returned v ∧ ∃ m, w' = w.drewN m := h.mono fun _ _ ⟨he, hw⟩ => ⟨he, k, hw.symm⟩

theorem looked_no {w wr : World} {L : List Int} {b : Bool} {m : Nat} (hb : b = true ↔ IsGraph L) (hno : ¬ IsGraph L) (ew : wr = w.drewN m) (k : Nat) : Looked w b (.returned (.bool false)) (wr.drewN k) := by
  have hf : b = false := by
    cases b with
    | false => rfl
    | true => exact absurd (hb.1 rfl) hno
  exact ⟨ret_bool hf.symm, m + k, by rw [ew, World.drewN_drewN]⟩

set_option maxHeartbeats 1000000 in
theorem specIn_size (A : Option Addr) (n c : Nat) (w : World) (h : n = 0 ∨ 6 < n) :
    Calls Tryd.prog 28 #[.slice A n c] w (Looked w false) := by
  rcases h with rfl | h
  · go_enter Tryd.func28, Tryd.ntmps28
    go_wp2_with fail
    refine (in_low _ _ _ _ (by omega)).mono ?_
    rintro e w1 ⟨rfl, rfl⟩
    go_wp2
    go_ret
    exact ⟨rfl, 0, rfl⟩
  · go_enter Tryd.func28, Tryd.ntmps28
    go_wp2_with fail
    refine (in_high _ _ _ _ (by omega) (by omega)).mono ?_
    rintro e w1 ⟨rfl, rfl⟩
    go_wp2
    go_ret
    exact ⟨rfl, 0, rfl⟩

set_option maxHeartbeats 4000000 in
theorem specIn_seen (A : Option Addr) (c : Nat) (L : List Int) (b : Bool) (hb : b = true ↔ IsGraph L) (w : World) (h : Seen w A L) (h1 : 1 ≤ L.length) (h6 : L.length ≤ 6) :
    Calls Tryd.prog 28 #[.slice A L.length c] w (Looked w b) := by
  obtain ⟨P, Q, hP, hQ, hP64, p1, p2, p3, p4, p5⟩ := shl_facts L.length h6
  obtain ⟨n, hn⟩ : ∃ n, n = L.length := ⟨_, rfl⟩
  rw [← hn] at h1 h6 p1 p2 hP ⊢
  have HN := Lib.hid hn
  have H := Lib.hid h
  have HB := Lib.hid hb
  have HP := Lib.hid hP
  have HQ := Lib.hid hQ
  have PF := Lib.hid (And.intro p1 (And.intro p2 (And.intro p3 (And.intro p4 p5))))
  clear h hb hn hP hQ p1 p2 p3 p4 p5
  go_enter Tryd.func28, Tryd.ntmps28
  go_wp2_with fail
  refine (in_yes _ _ _ _ (by omega) (by omega)).mono ?_
  rintro e w1 ⟨rfl, rfl⟩
  go_wp2
  go_loopw [3] (fun i wr => ∃ v m : Nat, v ≤ n ∧ i = .int .i64 v ∧ Hid (∀ u, u < v → RowOk L u) ∧ wr = w.drewN m) (fun i _ => n - (intOf i).toNat)
  case atStart => exact ⟨0, 0, Nat.zero_le _, rfl, Lib.hid (fun u hu => absurd hu (by omega)), rfl⟩
  case round =>
    obtain ⟨v, m, hv, rfl, hok, ew⟩ := hrel
    have EW := Lib.hid ew
    by_cases hlt : v < n
    · obtain ⟨blk, off, rfl, hbl, hc⟩ := H.out v (by have := HN.out; omega)
      have hcw : wr.cell? ⟨blk, off + v, none⟩ = some (.int .i64 (L[v]?.getD 0)) := by rw [ew]; exact hc
      have hi1 : (0 : Int) ≤ (v : Int) ∧ (v : Int) < (n : Int) := by omega
      clear hc hbl ew
      by_cases hin : InR L v
      · have hX := ent_int hin
        have hX2 := ent_lt hin
        obtain ⟨X, eX⟩ : ∃ X, X = ent L v := ⟨_, rfl⟩
        rw [← eX] at hX hX2
        rw [hX] at hcw
        rw [← HN.out, ← HP.out] at hX2
        obtain ⟨p1, p2, p3, p4, p5⟩ := PF.out
        have hXQ : (X : Int) ≤ (Q : Int) := by have := HQ.out; omega
        have hX0 : (0 : Int) ≤ (X : Int) := by omega
        obtain ⟨bit, ebit, hbit, f1⟩ := and_facts X v (by omega)
        have EX := Lib.hid eX
        have EB := Lib.hid ebit
        have HI := Lib.hid hin
        clear hin hX hX2 eX ebit
        by_cases hb1 : bit = 1
        · have hno : ¬ IsGraph L := fun hg => by
            have h0 := (hg.2.2 v (by have := HN.out; omega)).2.1
            unfold bt at h0
            rw [← EX.out, ← EB.out] at h0
            omega
          subst hb1
          go_wp2
          go_quiet ((go_at_call 41; exact quiet_drewN (in_yes _ _ _ _ hX0 hXQ)))
          go_wp2
          go_ret
          exact looked_no HB.out hno EW.out _
        · have hb0 : bit = 0 := by omega
          subst hb0
          go_wp2
          go_quiet ((go_at_call 41; exact quiet_drewN (in_yes _ _ _ _ hX0 hXQ)))
          go_wp2
          clear p1 p2 p3 p4 p5 f1 hcw
          obtain ⟨wo, ewo⟩ : ∃ wo : World, wo = wr.drewN nq := ⟨_, rfl⟩
          rw [← ewo]
          have EO := Lib.hid ewo
          clear ewo
          obtain ⟨wq, rfl⟩ : ∃ wq : World, wq = wr := ⟨_, rfl⟩
          go_loopw [4] (fun i wr => ∃ u m : Nat, u ≤ v ∧ i = .int .i64 u ∧ Hid (∀ t, t < u → bt L v t = bt L t v) ∧ wr = wo.drewN m) (fun i _ => v - (intOf i).toNat)
          case atStart => exact ⟨0, 0, Nat.zero_le _, rfl, Lib.hid (fun u hu => absurd hu (by omega)), rfl⟩
          case round =>
            obtain ⟨u, m2, hu, rfl, hsy, ew2⟩ := hrel
            have EW2 := Lib.hid ew2
            have ALL : wr = w.drewN (m + nq + m2) := by rw [ew2, EO.out, EW.out, World.drewN_drewN, World.drewN_drewN, Nat.add_assoc]
            have EA := Lib.hid ALL
            clear ALL ew2
            by_cases hlu : u < v
            · obtain ⟨blk2, off2, hA2, hbl2, hc2⟩ := H.out u (by have := HN.out; omega)
              obtain ⟨blk1, off1, hA1, hbl1, hc1⟩ := H.out v (by have := HN.out; omega)
              have e1 : blk = blk1 ∧ off = off1 := by injection hA1 with e; injection e with e1 e2; exact ⟨e1, e2⟩
              have e2 : blk = blk2 ∧ off = off2 := by injection hA2 with e; injection e with e1 e2; exact ⟨e1, e2⟩
              obtain ⟨rfl, rfl⟩ := e1
              obtain ⟨rfl, rfl⟩ := e2
              have hinu := (hok.out u hlu).1
              have hY := ent_int hinu
              have hY2 := ent_lt hinu
              obtain ⟨Y, eY⟩ : ∃ Y, Y = ent L u := ⟨_, rfl⟩
              have hX := ent_int HI.out
              rw [← EX.out] at hX
              rw [← eY] at hY hY2
              rw [hX] at hc1
              rw [hY] at hc2
              have h64 := two_le (n := L.length) (by have := HN.out; omega)
              have hcv : wr.cell? ⟨blk, off + v, none⟩ = some (.int .i64 X) := by rw [EA.out]; exact hc1
              have hcu : wr.cell? ⟨blk, off + u, none⟩ = some (.int .i64 Y) := by rw [EA.out]; exact hc2
              obtain ⟨b1, eb1, hb1, f1⟩ := and_facts X u (by have := HQ.out; omega)
              obtain ⟨b2, eb2, hb2, f2⟩ := and_facts Y v (by omega)
              have E1 : b1 = bt L v u := by unfold bt; rw [← EX.out]; exact eb1
              have E2 : b2 = bt L u v := by unfold bt; rw [← eY]; exact eb2
              have D1 := Lib.hid E1
              have D2 := Lib.hid E2
              have hi2 : (0 : Int) ≤ (u : Int) ∧ (u : Int) < (n : Int) := by omega
              clear hA1 hA2 hbl1 hbl2 hc1 hc2 hinu hX hY hY2 eY eb1 eb2 E1 E2 h64 hb1 hb2
              by_cases hbb : b1 = b2
              · have hne : ((b1 : Int) != (b2 : Int)) = false := by simp [hbb]
                have HBB := Lib.hid hbb
                clear hbb
                go_wp2
                go_quiet (fail)
                go_wp2
                go_roundw
                case rel => exact ⟨u + 1, _, by omega, by go_num, Lib.hid (fun t ht => by
                  rcases Nat.lt_succ_iff_lt_or_eq.1 ht with h | h
                  · exact hsy.out t h
                  · subst h; rw [← D1.out, ← D2.out, HBB.out]), by rw [EW2.out, World.drewN_drewN]⟩
                case measure => simp [intOf]; omega
              · have hne : ((b1 : Int) != (b2 : Int)) = true := by simp; omega
                have hno : ¬ IsGraph L := fun hg => hbb (by rw [D1.out, D2.out]; exact (hg.2.2 v (by have := HN.out; omega)).2.2 u hlu)
                clear hbb
                go_wp2
                go_quiet (fail)
                go_wp2
                go_ret
                exact looked_no HB.out hno EA.out _
            · have huv : u = v := by omega
              subst huv
              go_wp2
              go_roundw
              case rel => exact ⟨u + 1, _, by omega, by go_num, Lib.hid (fun t ht => by
                rcases Nat.lt_succ_iff_lt_or_eq.1 ht with h | h
                · exact hok.out t h
                · subst h; exact ⟨HI.out, by unfold bt; rw [← EX.out, ← EB.out], hsy.out⟩), EA.out⟩
              case measure => simp [intOf]; omega
      · obtain ⟨x, ex⟩ : ∃ x, x = L[v]?.getD 0 := ⟨_, rfl⟩
        have hx : x < 0 ∨ (Q : Int) < x := by
          have h0 := HP.out
          have h2 := HQ.out
          have h3 := HN.out
          unfold InR at hin
          rw [← ex, ← h3, ← h0] at hin
          omega
        rw [← ex] at hcw
        have hno : ¬ IsGraph L := fun hg => hin (hg.2.2 v (by have := HN.out; omega)).1
        obtain ⟨p1, p2, p3, p4, p5⟩ := PF.out
        clear hin ex
        by_cases hx0 : x < 0
        · clear hx
          go_wp2
          go_quiet ((go_at_call 41; exact quiet_drewN (in_low _ _ _ _ hx0)))
          go_wp2
          go_ret
          exact looked_no HB.out hno EW.out _
        · have hx1 : (0 : Int) ≤ x := by omega
          have hx2 : (Q : Int) < x := by omega
          clear hx hx0
          go_wp2
          go_quiet ((go_at_call 41; exact quiet_drewN (in_high _ _ _ _ hx1 hx2)))
          go_wp2
          go_ret
          exact looked_no HB.out hno EW.out _
    · have hvn : v = n := by omega
      subst hvn
      go_wp2
      go_ret
      have hyes : IsGraph L := ⟨by have := HN.out; omega, by have := HN.out; omega, by rw [← HN.out]; exact hok.out⟩
      exact ⟨ret_bool (HB.out.2 hyes).symm, m, by first | exact EW.out | rfl⟩

/-- **The model's GraphIn, at each list.** -/
theorem specIn_any (B : Nat) (v : Value) (L : List Int) (b : Bool) (hb : b = true ↔ IsGraph L) (w : World) (h : Row w B v L) :
    Calls Tryd.prog 28 #[v] w (Looked w b) := by
  obtain ⟨A, c, rfl, hs⟩ := h.seen
  by_cases hl : 1 ≤ L.length ∧ L.length ≤ 6
  · exact specIn_seen A c L b hb w hs hl.1 hl.2
  · have hf : b = false := by
      cases b with
      | false => rfl
      | true => exact absurd ((hb.1 rfl)) (fun hg => hl ⟨hg.1, hg.2.1⟩)
    subst hf
    exact specIn_size A L.length c w (by omega)
#print axioms specIn_any
end Go.Proofs.YtedjnenbmhajiaaDoor
