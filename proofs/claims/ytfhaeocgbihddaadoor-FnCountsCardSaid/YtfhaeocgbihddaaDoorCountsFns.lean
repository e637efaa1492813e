/- SetCounts: the model and the program. -/
import Derived.Test.YtfhaeocgbihddaaDoorBaseS
import Derived.Test.YtfhaeocgbihddaaDoorBaseA
namespace Go.Proofs.YtfhaeocgbihddaaDoor
open Go Go.RowKit
set_option linter.unusedVariables false
set_option maxRecDepth 100000

/-- The numbers of free sets up to some set. -/
def cntF (L : List Int) (t : Nat) : List Nat := cntR (mostN L + 1) (szs (freeB L) (List.range t))
theorem cntF_succ (L : List Int) (t : Nat) : cntF L (t + 1) = if freeB L t = true then cntStep (cntF L t) (pcf 15 t) else cntF L t := by
  unfold cntF
  rw [List.range_succ, szs_snoc]
  split
  · rw [cntR_snoc]
  · rw [List.append_nil]
theorem cntF_small (L : List Int) (t i : Nat) (ht : t ≤ 64) : (cntF L t)[i]?.getD 0 ≤ 64 := by
  have h1 := cntR_le (mostN L + 1) (szs (freeB L) (List.range t)) i
  have h2 := szs_length (freeB L) (List.range t)
  rw [List.length_range] at h2
  unfold cntF
  omega
theorem specCn_no (B : Nat) (v : Value) (L : List Int) (hg : ¬ IsGraph L) (w : World) (h : Row w B v L) :
    Calls Tryd.prog 26 #[v] w (Told w [] false) := by
  have H1 := Lib.hid (specIn_any B v L false ⟨fun h => (by cases h), fun h => absurd h hg⟩ w h)
  clear hg h
  go_enter Tryd.func26, Tryd.ntmps26
  go_wp2_with fail
  refine H1.out.mono ?_
  rintro e w1 ⟨rfl, d, rfl⟩
  go_wp2
  go_ret2
  exact ⟨_, rfl, World.ownsRow_lit (base := w.heap.size) (e := 3) (size := 1) (w.drewN d) #[] 0 (Nat.le_refl _) (by unfold maxLen; omega) rfl, (below_drewN (Below.refl _ w) d).alloc (Nat.le_refl _) _⟩

set_option maxHeartbeats 4000000 in
theorem specCn_yes (B : Nat) (v : Value) (L : List Int) (hg : IsGraph L) (w : World) (h : Row w B v L) :
    Calls Tryd.prog 26 #[v] w (Told w (countsL L) true) := by
  have h1 := hg.1
  have h6 := hg.2.1
  have H1 := Lib.hid (specIn_any B v L true ⟨fun _ => hg, fun _ => rfl⟩ w h)
  obtain ⟨A, c, rfl, hs⟩ := h.seen
  obtain ⟨P, Q, hP, hQ, hP64, s1, s2, s3, s4, s5⟩ := shl_facts L.length h6
  have HM := Lib.hid (fun w1 (b : Below w.heap.size w w1) => specMost_seen A c L hg w1 (hs.below b))
  have HF := Lib.hid (fun w1 (b : Below w.heap.size w w1) s h64 => specFree_seen A c L hg s h64 w1 (hs.below b))
  have HC : Hid (countsL L = ints (cntF L P)) := Lib.hid (by unfold countsL cntF allS; rw [hP])
  have HS := Lib.hid (cntF_succ L)
  have HB : Hid (∀ t, t < P → freeB L t = true → pcf 15 t < mostN L + 1) := Lib.hid fun t ht hf =>
    Nat.lt_succ_of_le ((most_max L).2 _ (szs_mem.2 ⟨t, List.mem_range.2 (by rw [← hP]; exact ht), hf, rfl⟩))
  have HLN : Hid (∀ t, (cntF L t).length = mostN L + 1) := Lib.hid fun t => cntR_length _ _
  have HX := Lib.hid (cntF_small L)
  have h0 : cntF L 0 = List.replicate (mostN L + 1) 0 := rfl
  have hm15 : mostN L ≤ 15 := mx_le _ _
  rw [HC.out]
  obtain ⟨n, hn⟩ : ∃ n, n = L.length := ⟨_, rfl⟩
  rw [← hn] at h1 h6 s1 s2 H1 HM HF ⊢
  obtain ⟨m, em⟩ : ∃ m, m = mostN L := ⟨_, rfl⟩
  rw [← em] at HM HB HLN hm15 h0
  obtain ⟨M, eM⟩ : ∃ M, M = m + 1 := ⟨_, rfl⟩
  rw [← eM] at HB HLN h0
  have hM : (m : Int) + 1 = (M : Int) := by omega
  have hmk := run_make_ints M (by omega)
  have hM16 : M ≤ 16 := by omega
  have H0 := Lib.hid h0
  clear hg h hs hP hQ hn HC em eM h0
  go_enter Tryd.func26, Tryd.ntmps26
  go_wp2_with fail
  refine H1.out.mono ?_
  rintro e w1 ⟨rfl, d, rfl⟩
  have B1 := Lib.hid (below_drewN (Below.refl w.heap.size w) d)
  go_wp2_with fail
  refine (HM.out _ B1.out).mono ?_
  rintro e w2 ⟨rfl, rfl⟩
  obtain ⟨wd, ewd⟩ : ∃ wd, wd = w.drewN d := ⟨_, rfl⟩
  rw [← ewd] at B1 ⊢
  have hge : w.heap.size ≤ wd.heap.size := B1.out.size
  have R0 := Lib.hid (Row.mono (madeW_row wd M (by omega)) hge)
  have B2 := Lib.hid (B1.out.trans ((madeW_below wd M).mono hge))
  clear ewd H1 HM hm15
  go_wp2
  clear hM hmk
  obtain ⟨W1, eW1⟩ : ∃ W1, W1 = madeW wd M := ⟨_, rfl⟩
  obtain ⟨g, eg⟩ : ∃ g, g = wd.heap.size := ⟨_, rfl⟩
  rw [← eW1, ← eg] at R0
  rw [← eW1] at B2
  rw [← eW1, ← eg]
  rw [← H0.out] at R0
  clear eW1 eg hge B1 H0
  go_loopw [5, 6] (fun i x wr => ∃ t : Nat, t ≤ P ∧ i = .int .i64 t ∧ Hid (Row wr w.heap.size (.slice (some ⟨g, 0, none⟩) M M) (ints (cntF L t))) ∧ Hid (Below w.heap.size w wr)) (fun i _ _ => P - (intOf i).toNat)
  case atStart => exact ⟨0, Nat.zero_le _, rfl, R0, B2⟩
  case round =>
    obtain ⟨t, ht, rfl, hr, hb⟩ := hrel
    by_cases hlt : t < P
    · have hst := HS.out t
      have F := HF.out wr hb.out t (by omega)
      have G := Lib.hid (fun w => size_code t (by omega) w)
      have hq := HB.out t hlt
      have hln := HLN.out t
      have hx64 := HX.out t (pcf 15 t) (by omega)
      obtain ⟨q, eq⟩ : ∃ q, q = pcf 15 t := ⟨_, rfl⟩
      rw [← eq] at G hst hq hx64
      obtain ⟨f, ef⟩ : ∃ f, f = freeB L t := ⟨_, rfl⟩
      rw [← ef] at F hst hq
      have FF := Lib.hid F
      clear F eq ef
      cases f with
      | false =>
        have ST := Lib.hid (hst.trans (if_neg (by simp)))
        clear hst hq hln hx64
        go_wp2_with fail
        refine FF.out.mono ?_
        rintro e w3 ⟨rfl, rfl⟩
        go_wp2
        go_roundw
        case rel => exact ⟨t + 1, by omega, by go_num, Lib.hid (by rw [ST.out]; exact hr.out), hb⟩
        case measure => simp [intOf]; omega
      | true =>
        have hqM := hq rfl
        have hc := hr.out.cellAt q (by rw [ints_length, hln]; exact hqM)
        have hfz := hr.out.frozenAt q (by rw [ints_length, hln]; exact hqM)
        rw [ints_get] at hc
        have hst2 := hst.trans (if_pos rfl)
        unfold cntStep at hst2
        have RS := Lib.hid (fun y : Nat => hr.out.set q (by rw [ints_length, hln]; exact hqM) ((y : Nat) : Int))
        obtain ⟨x, ex⟩ : ∃ x, x = (cntF L t)[q]?.getD 0 := ⟨_, rfl⟩
        rw [← ex] at hc hst2 hx64
        obtain ⟨y, ey⟩ : ∃ y, y = x + 1 := ⟨_, rfl⟩
        rw [← ey] at hst2
        have hy : (x : Int) + 1 = (y : Int) := by omega
        have hqi : (0 : Int) ≤ (q : Int) ∧ (q : Int) < (M : Int) := by omega
        have RS2 : Hid (Row (wr.setCell ⟨g, q, none⟩ (.int .i64 (y : Int))) w.heap.size (.slice (some ⟨g, 0, none⟩) M M) (ints (cntF L (t + 1)))) := Lib.hid (by
          have := RS.out y
          rw [ints_set] at this
          rw [hst2]
          exact this)
        have hgB : w.heap.size ≤ g := (hr.out.lt g rfl).1
        have BS := Lib.hid (hb.out.setCell (p := ⟨g, q, none⟩) hgB (.int .i64 (y : Int)))
        clear hst hst2 hq hln RS ex ey hgB
        go_wp2_with fail
        refine FF.out.mono ?_
        rintro e w3 ⟨rfl, rfl⟩
        go_wp2_with fail
        refine (G.out _).mono ?_
        rintro e w3 ⟨rfl, rfl⟩
        go_wp2
        go_roundw
        case rel => exact ⟨t + 1, by omega, by go_num, RS2, BS⟩
        case measure => simp [intOf]; omega
    · have hke : t = P := by omega
      subst hke
      go_wp2
      go_ret2
      exact ⟨_, rfl, hr.out, hb.out⟩

theorem takeS_succ (zs : List Nat) (k : Nat) (hk : k < zs.length) : zs.take (k + 1) = zs.take k ++ [zs[k]?.getD 0] := by
  rw [List.take_succ_eq_append_getElem hk, List.getElem?_eq_getElem hk]
  rfl
set_option maxHeartbeats 4000000 in
theorem counts_fn (A : Option Addr) (c : Nat) (L : List Int) (hg : IsGraph L) (w : World) (h : Seen w A L) (hT : Tab w) :
    Calls Tryd.prog 45 #[.slice A L.length c] w (Gave w (countsL L)) := by
  have h6 := hg.2.1
  have ht := hT.lt
  have hp := two_pos L.length
  obtain ⟨Q, hQ⟩ : ∃ Q, Q + 1 = 2 ^ L.length := ⟨2 ^ L.length - 1, by omega⟩
  have hQ64 : Q < 32768 := by have := two_le h6; omega
  have HA := Lib.hid (fun w => all_any A L.length c Q h6 hQ w)
  have HS := Lib.hid (callsIn_wide.1 (sizes_in Q hQ64 54 (.slice A L.length c) (freeB L) w (enters_of Tryd.func54 (by kernel_rfl) rfl) (fun W s hb hs => isFree_fn A c L hg s (sub64 h6 hQ hs).2 W (h.below hb))))
  rw [sbL_of h6 hQ] at HS
  have hm := most_max L
  have hl64 : (szs (freeB L) (allS L.length)).length ≤ 64 := Nat.le_trans (szs_length _ _) (allS_length _ h6)
  have hCL : countsL L = ints (cntR (mostN L + 1) (szs (freeB L) (allS L.length))) := rfl
  have hm15 : mostN L ≤ 15 := mx_le _ _
  obtain ⟨zs, ez⟩ : ∃ zs, zs = szs (freeB L) (allS L.length) := ⟨_, rfl⟩
  have h15 : ∀ x ∈ zs, x ≤ 15 := by rw [ez]; exact szs_le
  rw [← ez] at HS hm hl64 hCL
  obtain ⟨m, em⟩ : ∃ m, m = mostN L := ⟨_, rfl⟩
  rw [← em] at hm hCL hm15
  have HM := Lib.hid (fun A c w hs => slicesMax A c zs m hm h15 (by omega) w hs)
  have hmf : ∀ (fn : Fn) (first cap : Array Value) (w : World), (Instr.makeFunc fn first cap).run Tryd.prog w = .ok (.func fn first cap) w := fun _ _ _ _ => rfl
  obtain ⟨M, eM⟩ : ∃ M, M = m + 1 := ⟨_, rfl⟩
  rw [← eM] at hCL
  have hM : (m : Int) + 1 = (M : Int) := by omega
  have hmk := run_make_ints M (by omega)
  have hM16 : M ≤ 16 := by omega
  obtain ⟨N, eN⟩ : ∃ N, N = zs.length := ⟨_, rfl⟩
  rw [← eN] at hl64
  have HZ : Hid (∀ k, k < N → zs[k]?.getD 0 < M) := Lib.hid fun k hk => by
    have := hm.2 (zs[k]?.getD 0) (by rw [List.getElem?_eq_getElem (by omega)]; exact List.getElem_mem _)
    omega
  have HK : Hid (∀ k, k < N → cntR M (zs.take (k + 1)) = cntStep (cntR M (zs.take k)) (zs[k]?.getD 0)) := Lib.hid fun k hk => by rw [takeS_succ zs k (by omega), cntR_snoc]
  have HLN : Hid (∀ k, (cntR M (zs.take k)).length = M) := Lib.hid fun k => cntR_length _ _
  have HX : Hid (∀ k i, k ≤ N → (cntR M (zs.take k))[i]?.getD 0 ≤ 64) := Lib.hid fun k i hk => Nat.le_trans (cntR_le _ _ _) (by rw [List.length_take]; omega)
  have HE : Hid (countsL L = ints (cntR M (zs.take N))) := Lib.hid (by rw [hCL, eN, List.take_length])
  have HR0 : Hid (List.replicate M 0 = cntR M (zs.take 0)) := Lib.hid rfl
  have HSE : Hid (∀ (A1 : Option Addr) (w1 : World), Seen w1 A1 (ints zs) → ∀ k, k < N → ∃ b off, A1 = some ⟨b, off, none⟩ ∧ b < w1.heap.size ∧ w1.cell? ⟨b, off + k, none⟩ = some (.int .i64 (zs[k]?.getD 0 : Nat))) := Lib.hid fun A1 w1 hs k hk => by
    obtain ⟨b, off, a, hb, hc⟩ := hs k (by rw [ints_length]; omega)
    rw [ints_get] at hc
    exact ⟨b, off, a, hb, hc⟩
  have hzl : (ints zs).length = N := by rw [ints_length, eN]
  rw [HE.out]
  obtain ⟨n, hn⟩ : ∃ n, n = L.length := ⟨_, rfl⟩
  rw [← hn] at HA HS ⊢
  have HZL := Lib.hid hzl
  clear hg h hT h6 ht hp hQ hQ64 hm h15 ez em hn eM eN hCL hm15 HE hzl
  go_enter Tryd.func45, Tryd.ntmps45
  go_wp2_with fail
  refine (HA.out _).mono ?_
  rintro e w1 ⟨rfl, rfl⟩
  go_wp2_with fail
  refine HS.out.mono ?_
  rintro e w1 ⟨v1, rfl, r1, b1⟩
  obtain ⟨A1, c1, rfl, s1⟩ := r1.seen
  have HM1 := Lib.hid (HM.out A1 c1 w1 s1)
  rw [HZL.out] at HM1 ⊢
  have SE := Lib.hid (HSE.out A1 w1 s1)
  have B1 := Lib.hid b1
  clear r1 s1 b1 HSE HM HS HA
  go_wp2_with fail
  refine HM1.out.mono ?_
  rintro e w2 ⟨rfl, rfl⟩
  have hge : w.heap.size ≤ w1.heap.size := B1.out.size
  have R0 := Lib.hid (madeW_row w1 M (by omega))
  have B2 := Lib.hid (madeW_below w1 M)
  clear HM1
  go_wp2
  clear hM hmk hmf
  obtain ⟨W1, eW1⟩ : ∃ W1, W1 = madeW w1 M := ⟨_, rfl⟩
  obtain ⟨g, eg⟩ : ∃ g, g = w1.heap.size := ⟨_, rfl⟩
  rw [← eW1, ← eg] at R0 B2
  rw [← eW1, ← eg]
  rw [HR0.out] at R0
  rw [← eg] at hge SE
  have EG := Lib.hid eg
  clear eW1 eg HR0
  go_loopw [6, 18] (fun x i wr => ∃ k : Nat, k ≤ N ∧ i = .int .i64 k ∧ Hid (Row wr g (.slice (some ⟨g, 0, none⟩) M M) (ints (cntR M (zs.take k)))) ∧ Hid (Below g w1 wr)) (fun _ i _ => N - (intOf i).toNat)
  case atStart => exact ⟨0, Nat.zero_le _, rfl, R0, B2⟩
  case round =>
    obtain ⟨k, hk, rfl, hr, hb⟩ := hrel
    by_cases hlt : k < N
    · obtain ⟨b, off, rfl, hbl, hcz⟩ := SE.out k hlt
      have hcz2 : wr.cell? ⟨b, off + k, none⟩ = some (.int .i64 (zs[k]?.getD 0 : Nat)) := (hb.out.cell (p := ⟨b, off + k, none⟩) hbl).trans hcz
      have hqM := HZ.out k hlt
      have hst := HK.out k hlt
      have hln := HLN.out k
      have hx64 := HX.out k (zs[k]?.getD 0) hk
      obtain ⟨q, eq⟩ : ∃ q, q = zs[k]?.getD 0 := ⟨_, rfl⟩
      rw [← eq] at hcz2 hqM hst hx64
      have hc := hr.out.cellAt q (by rw [ints_length, hln]; exact hqM)
      have hfz := hr.out.frozenAt q (by rw [ints_length, hln]; exact hqM)
      rw [ints_get] at hc
      unfold cntStep at hst
      have RS := Lib.hid (fun y : Nat => hr.out.set q (by rw [ints_length, hln]; exact hqM) ((y : Nat) : Int))
      obtain ⟨x, ex⟩ : ∃ x, x = (cntR M (zs.take k))[q]?.getD 0 := ⟨_, rfl⟩
      rw [← ex] at hc hst hx64
      obtain ⟨y, ey⟩ : ∃ y, y = x + 1 := ⟨_, rfl⟩
      rw [← ey] at hst
      have hy : (x : Int) + 1 = (y : Int) := by omega
      have hqi : (0 : Int) ≤ (q : Int) ∧ (q : Int) < (M : Int) := by omega
      have hki : (0 : Int) ≤ (k : Int) ∧ (k : Int) < (N : Int) := by omega
      have RS2 : Hid (Row (wr.setCell ⟨g, q, none⟩ (.int .i64 (y : Int))) g (.slice (some ⟨g, 0, none⟩) M M) (ints (cntR M (zs.take (k + 1))))) := Lib.hid (by
        have := RS.out y
        rw [ints_set] at this
        rw [hst]
        exact this)
      have BS := Lib.hid (hb.out.setCell (p := ⟨g, q, none⟩) (Nat.le_refl g) (.int .i64 (y : Int)))
      clear hcz hst hln RS ex ey eq hbl
      go_wp2
      go_roundw
      case rel => exact ⟨k + 1, by omega, by go_num, RS2, BS⟩
      case measure => simp [intOf]; omega
    · have hke : k = N := by omega
      subst hke
      go_wp2
      go_ret
      exact ⟨_, rfl, Row.mono hr.out hge, B1.out.trans (by rw [EG.out] at hb hge; exact hb.out.mono hge)⟩

theorem implCn_yes (B : Nat) (v : Value) (L : List Int) (hg : IsGraph L) (w : World) (h : Row w B v L) (hT : Tab w) :
    Calls Tryd.prog 25 #[v] w (Told w (countsL L) true) := by
  have ht := hT.lt
  have H1 := Lib.hid (asG_graph B v L hg w h hT)
  obtain ⟨A, c, rfl, hs⟩ := h.seen
  have H2 := Lib.hid (fun w1 (b : Below w.heap.size w w1) => counts_fn A c L hg w1 (hs.below b) (hT.below b ht))
  obtain ⟨x, ex⟩ : ∃ x, x = countsL L := ⟨_, rfl⟩
  rw [← ex] at H2 ⊢
  clear hg h hs hT ht ex
  go_enter Tryd.func25, Tryd.ntmps25
  go_wp2_with fail
  go_enter Tryd.func44, Tryd.ntmps44
  go_wp2_with fail
  refine H1.out.mono ?_
  rintro e w1 ⟨rfl, b1⟩
  go_wp2_with fail
  refine (H2.out _ b1).mono ?_
  rintro e w2 ⟨v2, rfl, r2, b2⟩
  go_wp2
  go_ret2
  exact ⟨_, rfl, Row.mono r2 b1.size, b1.trans (b2.mono b1.size)⟩
theorem implCn_no (B : Nat) (v : Value) (L : List Int) (hg : ¬ IsGraph L) (w : World) (h : Row w B v L) (hT : Tab w) :
    Calls Tryd.prog 25 #[v] w (Told w [] false) := by
  have H1 := Lib.hid (asG_none B v L hg w h hT)
  clear hg h
  go_enter Tryd.func25, Tryd.ntmps25
  go_wp2_with fail
  go_enter Tryd.func44, Tryd.ntmps44
  go_wp2_with fail
  refine H1.out.mono ?_
  rintro e w1 ⟨rfl, b1⟩
  go_wp2
  go_ret2
  exact ⟨_, rfl, World.ownsRow_nil _ w.heap.size 3 1, b1⟩
end Go.Proofs.YtfhaeocgbihddaaDoor
