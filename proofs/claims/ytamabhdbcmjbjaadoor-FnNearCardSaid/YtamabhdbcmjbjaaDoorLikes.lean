/- Whether a beginning of names fits two graphs: the closure of likenesses. -/
import Derived.Test.YtamabhdbcmjbjaaDoorBaseA
import Derived.Test.YtamabhdbcmjbjaaDoorBaseG
import Derived.Test.YtamabhdbcmjbjaaDoorLikeMath
namespace Go.Proofs.YtamabhdbcmjbjaaDoor
open Go.RowKit Go.Shelf
set_option linter.unusedVariables false

set_option maxHeartbeats 2000000 in
set_option maxRecDepth 100000 in
theorem likes_any (A A' : Option Addr) (c c' gx hx n B : Nat) (L M : List Int) (hL : IsGraph L) (hM : IsGraph M) (hn : n = L.length) (hm : n = M.length) (P : List Nat) (v : Value) (W : World) (hr : Row W B v (ints P)) (h1 : 1 ≤ P.length) (h2 : P.length ≤ n) (hP : ∀ x ∈ P, x < n)
    (bg : Boxed W gx 41 (.slice A n c)) (bh : Boxed W hx 41 (.slice A' n c')) (sL : Seen W A L) (sM : Seen W A' M) :
    Calls Tryd.prog 93 #[v, .pointer (some ⟨gx, 0, none⟩), .pointer (some ⟨hx, 0, none⟩)] W fun e W' => e = .returned (.bool (fitB L M P)) ∧ Below W.heap.size W W' := by
  have hn6 : n ≤ 6 := by rw [hn]; exact hL.2.1
  obtain ⟨Ap, cp, rfl, sP⟩ := hr.seen
  rw [ints_length]
  obtain ⟨blk, off, hA0, hbl0, _⟩ := sL 0 (by have := hL.1; omega)
  obtain ⟨blk', off', hA0', hbl0', _⟩ := sM 0 (by have := hM.1; omega)
  subst hA0
  subst hA0'
  obtain ⟨d, ed⟩ : ∃ d, d = P.length := ⟨_, rfl⟩
  obtain ⟨bp, op, hAp, hblp, _⟩ := sP 0 (by rw [ints_length]; omega)
  subst hAp
  rw [← ed] at h1 h2 ⊢
  obtain ⟨q, eq⟩ : ∃ q, d = q + 1 := ⟨d - 1, by omega⟩
  have hq : P.length - 1 = q := by omega
  have hds : ((d : Nat) : Int) - 1 = (q : Int) := by omega
  have hqd : (0 : Int) ≤ (q : Int) ∧ (q : Int) ≤ (cp : Int) := by
    refine ⟨by omega, ?_⟩
    rcases hr.2 with ⟨h0, _⟩ | ⟨g, cap, cur, h0, _, _, h3, _⟩
    · cases h0
    · injection h0 with e1 e2 e3
      rw [ints_length] at h3
      omega
  have hqc : q ≤ cp := by omega
  have HL := Lib.hid hL
  have HM := Lib.hid hM
  have HN := Lib.hid hn
  have HMM := Lib.hid hm
  have HP := Lib.hid hP
  have SL := Lib.hid sL
  have SM := Lib.hid sM
  have SP := Lib.hid sP
  have BG := Lib.hid bg
  have BH := Lib.hid bh
  have ED := Lib.hid ed
  have HQ := Lib.hid hq
  have EQ := Lib.hid eq
  clear hL hM hn hm hP sL sM sP bg bh hr ed hq eq
  go_enter Tryd.func93, Tryd.ntmps93
  go_wp2
  go_loopw [15] (fun i wr => ∃ k : Nat, k ≤ q ∧ i = .int .i64 k ∧ Hid (∀ v, v < k → okAt L M P v = true) ∧ Hid (Below W.heap.size W wr)) (fun i _ => q - (intOf i).toNat)
  case atStart => exact ⟨0, Nat.zero_le _, rfl, Lib.hid (fun v hv => absurd hv (by omega)), Lib.hid (Below.refl _ _)⟩
  case round =>
    obtain ⟨k, hk, rfl, hok, hb⟩ := hrel
    by_cases hlt : k < q
    · have hkP : k < P.length := by have := ED.out; have := EQ.out; omega
      have hqP : q < P.length := by have := ED.out; have := EQ.out; omega
      have hak := at_lt HP.out hkP
      have haq := at_lt HP.out hqP
      have hcP := seen_at SP.out (k := k) (by rw [ints_length]; exact hkP)
      have hcQ := seen_at SP.out (k := q) (by rw [ints_length]; exact hqP)
      rw [ints_at hkP] at hcP
      rw [ints_at hqP] at hcQ
      obtain ⟨a, ea⟩ : ∃ a, a = at_ P k := ⟨_, rfl⟩
      obtain ⟨b, eb⟩ : ∃ b, b = at_ P q := ⟨_, rfl⟩
      rw [← ea] at hak hcP
      rw [← eb] at haq hcQ
      have hkL : k < L.length := by have := HN.out; omega
      have haM : a < M.length := by have := HMM.out; omega
      have hinL := (HL.out.2.2 k hkL).1
      have hinM := (HM.out.2.2 a haM).1
      have hX := ent_int hinL
      have hY := ent_int hinM
      have hXl := ent_lt hinL
      have hYl := ent_lt hinM
      have h64 := two_le HL.out.2.1
      have h64' := two_le HM.out.2.1
      have hcL := seen_at SL.out hkL
      have hcM := seen_at SM.out haM
      have hst : okAt L M P k = (ent L k / 2 ^ q % 2 == ent M a / 2 ^ b % 2) := by unfold okAt bt; rw [HQ.out, ← ea, ← eb]
      obtain ⟨X, eX⟩ : ∃ X, X = ent L k := ⟨_, rfl⟩
      obtain ⟨Y, eY⟩ : ∃ Y, Y = ent M a := ⟨_, rfl⟩
      rw [← eX] at hX hXl hst
      rw [← eY] at hY hYl hst
      rw [hX] at hcL
      rw [hY] at hcM
      have bb := hb.out
      have rP : wr.cell? ⟨bp, op + k, none⟩ = some (.int .i64 a) := (bb.cell (p := ⟨bp, op + k, none⟩) hblp).trans hcP
      have rQ : wr.cell? ⟨bp, op + q, none⟩ = some (.int .i64 b) := (bb.cell (p := ⟨bp, op + q, none⟩) hblp).trans hcQ
      have rL : wr.drew.cell? ⟨blk, off + k, none⟩ = some (.int .i64 X) := (bb.cell (p := ⟨blk, off + k, none⟩) hbl0).trans hcL
      have rM : wr.drew.cell? ⟨blk', off' + a, none⟩ = some (.int .i64 Y) := (bb.cell (p := ⟨blk', off' + a, none⟩) hbl0').trans hcM
      have rg := ((bb.block gx BG.out.lt).trans BG.out : wr.heap[gx]? = _)
      have rh := ((bb.block hx BH.out.lt).trans BH.out : wr.heap[hx]? = _)
      have zg := (show Boxed wr gx 41 (.slice (some ⟨blk, off, none⟩) n c) from rg).cell
      have zh := (show Boxed wr hx 41 (.slice (some ⟨blk', off', none⟩) n c') from rh).cell
      have hkd : (0 : Int) ≤ (k : Int) ∧ (k : Int) < (q : Int) := by omega
      have hqd2 : (0 : Int) ≤ (q : Int) ∧ (q : Int) < (d : Int) := by have := EQ.out; omega
      have hXs : X < 1048576 := by omega
      have hYs : Y < 1048576 := by omega
      have hkn : k < n := by have := HN.out; omega
      have han : a < n := hak
      have hq40 : q < 40 := by have := EQ.out; omega
      have hb40 : b < 40 := by omega
      have E1 := Lib.hid (edge_any blk off n c k q X wr.drew hXs hkn hq40 rL)
      have E2 := Lib.hid (edge_any blk' off' n c' a b Y wr.drew hYs han hb40 rM)
      have HST := Lib.hid hst
      have hbd := Lib.hid bb.drew
      obtain ⟨x1, ex1⟩ : ∃ x1 : Bool, x1 = (X / 2 ^ q % 2 == 1) := ⟨_, rfl⟩
      obtain ⟨x2, ex2⟩ : ∃ x2 : Bool, x2 = (Y / 2 ^ b % 2 == 1) := ⟨_, rfl⟩
      rw [← ex1] at E1
      rw [← ex2] at E2
      have hiff : okAt L M P k = (x1 == x2) := by
        rw [hst, ex1, ex2]
        exact bits_eq (Nat.mod_lt _ (by omega)) (Nat.mod_lt _ (by omega))
      have HIFF := Lib.hid hiff
      clear hst hiff ex1 ex2 eX eY ea eb hcP hcQ hcL hcM hX hY hXl hYl h64 h64' hinL hinM rL rM rg rh hb bb
      go_wp2
      refine wp_region_still_lit (by kernel_rfl) (by kernel_rfl) ?_
      still_step
      still_step
      still_step
      still_call (E1.out.mono fun e w' ⟨he, hw⟩ => ⟨he, hw.symm⟩)
      still_step
      still_step
      still_step
      still_step
      still_step
      still_step
      still_call (E2.out.mono fun e w' ⟨he, hw⟩ => ⟨he, hw.symm⟩)
      clear E1 E2
      cases x1 <;> cases x2
      all_goals
        repeat still_step
        refine wpStill_nil ?_
      · have hok2 := Lib.hid (show okAt L M P k = true by rw [HIFF.out]; rfl)
        clear zg zh rP rQ
        go_wp2
        go_roundw
        case rel => exact ⟨k + 1, by omega, by go_num, Lib.hid (fun v hv => by
          rcases Nat.lt_succ_iff_lt_or_eq.1 hv with h | h
          · exact hok.out v h
          · rw [h]; exact hok2.out), hbd⟩
        case measure => simp [intOf]; omega
      · have hok2 := Lib.hid (fit_not (P := P) (by rw [HQ.out]; exact hlt) (show okAt L M P k = false by rw [HIFF.out]; rfl))
        clear zg zh rP rQ
        go_wp2
        go_ret
        exact ⟨ret_bool hok2.out.symm, hbd.out⟩
      · have hok2 := Lib.hid (fit_not (P := P) (by rw [HQ.out]; exact hlt) (show okAt L M P k = false by rw [HIFF.out]; rfl))
        clear zg zh rP rQ
        go_wp2
        go_ret
        exact ⟨ret_bool hok2.out.symm, hbd.out⟩
      · have hok2 := Lib.hid (show okAt L M P k = true by rw [HIFF.out]; rfl)
        clear zg zh rP rQ
        go_wp2
        go_roundw
        case rel => exact ⟨k + 1, by omega, by go_num, Lib.hid (fun v hv => by
          rcases Nat.lt_succ_iff_lt_or_eq.1 hv with h | h
          · exact hok.out v h
          · rw [h]; exact hok2.out), hbd⟩
        case measure => simp [intOf]; omega
    · have hkq : k = q := by omega
      have hok2 := Lib.hid (fit_of (L := L) (M := M) (P := P) (fun v hv => hok.out v (by rw [HQ.out] at hv; omega)))
      have hbd := Lib.hid hb.out
      clear hb hok
      subst hkq
      go_wp2
      go_ret
      exact ⟨ret_bool hok2.out.symm, hbd.out⟩
#print axioms likes_any
end Go.Proofs.YtamabhdbcmjbjaaDoor
