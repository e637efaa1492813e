/- The model's pictures. -/
import Derived.Test.YtnnobbbljpaieaaDoorPicMath
import Derived.Test.YtnnobbbljpaieaaDoorRegionInvP
import Derived.Test.YtnnobbbljpaieaaDoorBaseA
namespace Go.Proofs.YtnnobbbljpaieaaDoor
open Go Go.RowKit
set_option linter.unusedVariables false
set_option maxRecDepth 100000

/-- append of a list of the call's own to another one, as a step. -/
theorem append_rowL {ops : Array Oper} {rest : List Oper} {o : Oper} {a : Act} {Q : Exit → Act → World → Prop} (hgd : o.guard = none) (s x : Operand)
    (ho : o.op = .call { callee := .builtin .append, args := #[s, x], argTypes := #[22, 22] }) {w : World} {B B' : Nat} {v u : Value} {xs ys : List Int} (hs : a.eval s = v) (hx : a.eval x = u)
    (hr : RowS w B v xs) (hy : Row w B' u ys) (hB : B ≤ w.heap.size) (hlen : xs.length + ys.length ≤ 100000)
    (h : ∀ v' w', RowS w' B v' (xs ++ ys) → w.grownBy w' v.ownBlock → wpList Tryd.prog ops Q rest (a.put o.dst v') w') : wpList Tryd.prog ops Q (o :: rest) a w :=
  wpList_plain hgd fun _ hK => op_append_row s x ho hs hx hr hy hB hlen fun v' w' h1 h2 => hK _ _ (h v' w' h1 h2)

theorem rowS_newP (w : World) : RowS (w.alloc (.cells #[] 3)) w.heap.size (.slice (some ⟨w.heap.size, 0, none⟩) 0 0) [] :=
  ⟨World.ownsRow_lit (base := w.heap.size) (e := 3) (size := 1) w #[] 0 (Nat.le_refl _) (by unfold maxLen; omega) rfl, fun h => by cases h⟩

set_option maxHeartbeats 4000000 in
theorem specPics_seen (H G : List Int) (hH : IsGraph H) (hG : IsGraph G) : ∀ (r : Nat) (A A' : Option Addr) (c c' B : Nat) (v : Value) (P : List Nat) (w : World), P.length + r = H.length → (∀ p ∈ P, p < G.length) → Seen w A H → Seen w A' G → Row w B v (ints P) →
    Calls Tryd.prog 18 #[.slice A H.length c, .slice A' G.length c', v] w (NumA w (pics H G r P)) := by
  intro r
  induction r with
  | zero =>
    intro A A' c c' B v P w hr hp hA hA' hv
    obtain ⟨Ab, cb, rfl, sb⟩ := hv.seen
    have hpl : (ints P).length = H.length := by rw [ints_length]; omega
    rw [hpl]
    go_enter Tryd.func18, Tryd.ntmps18
    go_wp2_with fail
    go_ret
    exact ⟨rfl, Below.refl _ _⟩
  | succ r ih =>
    intro A A' c c' B v P w hr hp hA hA' hv
    obtain ⟨k, hk⟩ : ∃ k, k = P.length := ⟨_, rfl⟩
    obtain ⟨h, hh⟩ : ∃ h, h = H.length := ⟨_, rfl⟩
    obtain ⟨g, hg⟩ : ∃ g, g = G.length := ⟨_, rfl⟩
    have h6 := hH.2.1
    have g6 := hG.2.1
    have hkh : k < h := by omega
    simp only [← hh, ← hg] at ih
    rw [← hh] at h6 ⊢
    rw [← hg] at g6 ⊢
    have IH := Lib.hid (fun (i : Nat) (hi : i < g) (B : Nat) (v : Value) (W : World) (h1 : Seen W A H) (h2 : Seen W A' G) (h3 : Row W B v (ints (P ++ [i]))) => ih A A' c c' B v (P ++ [i]) W (by rw [List.length_append]; simp; omega) (fun p hp' => by
      rcases List.mem_append.1 hp' with h | h
      · rw [hg]; exact hp p h
      · simp at h; omega) h1 h2 h3)
    have HVR := Lib.hid hv
    obtain ⟨Ab, cb, rfl, sb⟩ := hv.seen
    have hpl : (ints P).length = k := by rw [ints_length]; omega
    rw [hpl] at HVR ⊢
    have hXr := (hH.2.2 k (by omega)).1
    have hX := ent_int hXr
    have hXl := ent_lt hXr
    have h64 := two_le (n := H.length) (by omega)
    obtain ⟨X, eX⟩ : ∃ X, X = ent H k := ⟨_, rfl⟩
    rw [← eX] at hX hXl
    obtain ⟨bh, oh, rfl, hbh, hch⟩ := hA k (by omega)
    rw [hX] at hch
    have HA := Lib.hid hA
    have HA' := Lib.hid hA'
    have SB := Lib.hid sb
    have HH := Lib.hid hh
    have HG := Lib.hid hg
    have HK := Lib.hid hk
    have HGG := Lib.hid hG
    have HP := Lib.hid hp
    have EX := Lib.hid eX
    have hX64 : X < 64 := by omega
    have hb : ((k : Int) == (h : Int)) = false := by simp; omega
    have hk1 : (0 : Int) ≤ (k : Int) ∧ (k : Int) < (h : Int) := by omega
    have HPL := Lib.hid (fun i => picTo_le H (G := G) (by omega) r P i)
    have hpow : 6 ^ r ≤ 46656 := Nat.le_trans (Nat.pow_le_pow_right (by omega) (show r ≤ 6 by omega)) (by decide)
    have HPW := Lib.hid hpow
    rw [show pics H G (r + 1) P = picTo H G r P g by rw [hg]; rfl]
    clear hA hA' sb hp hv ih hr hH hG hXr hX hXl h64 eX hpow hpl hh hg hk
    go_enter Tryd.func18, Tryd.ntmps18
    go_wp2
    go_loopw [8, 9] (fun s i wr => ∃ x : Nat, x ≤ g ∧ i = .int .i64 x ∧ s = .int .i64 ((picTo H G r P x : Nat) : Int) ∧ Hid (Below w.heap.size w wr)) (fun _ i _ => g - (intOf i).toNat)
    case atStart => exact ⟨0, Nat.zero_le _, rfl, rfl, Lib.hid (Below.refl _ _)⟩
    case round =>
      obtain ⟨x, hx, rfl, rfl, hb1⟩ := hrel
      have hpx := HPL.out x
      obtain ⟨px, epx⟩ : ∃ px, px = picTo H G r P x := ⟨_, rfl⟩
      rw [← epx] at hpx ⊢
      have EPX := Lib.hid epx
      clear epx
      have hpx2 : px ≤ 279936 := Nat.le_trans hpx (Nat.le_trans (Nat.mul_le_mul (show x ≤ 6 by omega) HPW.out) (by decide))
      clear hpx
      by_cases hlt : x < g
      · obtain ⟨bg, og, rfl, hbg, hcg⟩ := HA'.out x (by have := HG.out; omega)
        have hYr := (HGG.out.2.2 x (by have := HG.out; omega)).1
        have hY := ent_int hYr
        have hYl := ent_lt hYr
        have h64 := two_le (n := G.length) (by have := HG.out; omega)
        obtain ⟨Y, eY⟩ : ∃ Y, Y = ent G x := ⟨_, rfl⟩
        rw [← eY] at hY hYl
        rw [hY] at hcg
        have hY64 : Y < 64 := by omega
        have EY := Lib.hid eY
        have hchw : wr.cell? ⟨bh, oh + k, none⟩ = some (.int .i64 X) := (hb1.out.cell (p := ⟨bh, oh + k, none⟩) hbh).trans hch
        have hcgw : wr.cell? ⟨bg, og + x, none⟩ = some (.int .i64 Y) := (hb1.out.cell (p := ⟨bg, og + x, none⟩) hbg).trans hcg
        have SBW := Lib.hid (SB.out.below hb1.out)
        have hx1 : (0 : Int) ≤ (x : Int) ∧ (x : Int) < (g : Int) := by omega
        clear hYr hY hYl h64 eY hcg
        obtain ⟨wo, rfl⟩ : ∃ wo : World, wo = wr := ⟨_, rfl⟩
        go_wp2
        go_loopw [10, 11] (fun o i wr => ∃ j d : Nat, j ≤ k ∧ i = .int .i64 j ∧ o = .bool (fitB H G P x j) ∧ wr = wo.drewN d) (fun _ i _ => k - (intOf i).toNat)
        case atStart => exact ⟨0, 0, Nat.zero_le _, rfl, rfl, rfl⟩
        case round =>
          obtain ⟨j, d, hj, rfl, rfl, ew⟩ := hrel
          have EW := Lib.hid ew
          by_cases hjk : j < k
          · have hst := fitB_succ H G P x j
            obtain ⟨fb, efb⟩ : ∃ fb, fb = fitB H G P x j := ⟨_, rfl⟩
            rw [← efb] at hst ⊢
            obtain ⟨bp, op, hAb, hbp, hcp⟩ := SBW.out j (by rw [ints_length, ← HK.out]; exact hjk)
            subst hAb
            have hqe : (ints P)[j]?.getD 0 = ((P[j]?.getD 0 : Nat) : Int) := by
              have hjl : j < P.length := by rw [← HK.out]; exact hjk
              simp [ints, hjl]
            rw [hqe] at hcp
            have hql : P[j]?.getD 0 < G.length := by
              rw [List.getElem?_eq_getElem (by rw [← HK.out]; exact hjk)]
              exact HP.out _ (List.getElem_mem _)
            obtain ⟨q, eq⟩ : ∃ q, q = P[j]?.getD 0 := ⟨_, rfl⟩
            rw [← eq] at hcp hql hst
            obtain ⟨b1, eb1, hb1l, f1⟩ := and_facts X j (by omega)
            obtain ⟨b2, eb2, hb2l, f2⟩ := and_facts Y q (by omega)
            rw [show bt H P.length j = b1 by unfold bt; rw [← HK.out, ← EX.out, eb1], show bt G x q = b2 by unfold bt; rw [← EY.out, eb2]] at hst
            have hcp2 : wr.cell? ⟨bp, op + j, none⟩ = some (.int .i64 q) := by rw [ew]; exact hcp
            have hch2 : wr.cell? ⟨bh, oh + k, none⟩ = some (.int .i64 X) := by rw [ew]; exact hchw
            have hcg2 : wr.cell? ⟨bg, og + x, none⟩ = some (.int .i64 Y) := by rw [ew]; exact hcgw
            have hj1 : (0 : Int) ≤ (j : Int) ∧ (j : Int) < (k : Int) := by omega
            have hq6 : q < 6 := by have := HG.out; omega
            have HST := Lib.hid hst
            clear hst efb hqe hcp eq eb1 eb2 ew hql hbp
            cases fb with
            | false =>
              go_wp2
              go_quiet (fail)
              go_wp2
              go_roundw
              case rel => exact ⟨j + 1, d + _, by omega, by go_num, by rw [HST.out]; rfl, by rw [EW.out, World.drewN_drewN]⟩
              case measure => simp [intOf]; omega
            | true =>
              by_cases h0 : b1 = 0
              · subst h0
                go_wp2
                go_quiet (fail)
                go_wp2
                go_roundw
                case rel => exact ⟨j + 1, d + _, by omega, by go_num, by rw [HST.out]; rfl, by rw [EW.out, World.drewN_drewN]⟩
                case measure => simp [intOf]; omega
              · have h1 : b1 = 1 := by omega
                subst h1
                clear h0
                by_cases h2 : b2 = 1
                · subst h2
                  go_wp2
                  go_quiet (fail)
                  go_wp2
                  go_roundw
                  case rel => exact ⟨j + 1, d + _, by omega, by go_num, by rw [HST.out]; rfl, by rw [EW.out, World.drewN_drewN]⟩
                  case measure => simp [intOf]; omega
                · have h3 : b2 = 0 := by omega
                  subst h3
                  clear h2
                  go_wp2
                  go_quiet (fail)
                  go_wp2
                  go_roundw
                  case rel => exact ⟨j + 1, d + _, by omega, by go_num, by rw [HST.out]; rfl, by rw [EW.out, World.drewN_drewN]⟩
                  case measure => simp [intOf]; omega
          · have hjk2 : k = j := by omega
            subst hjk2
            have hpt := picTo_succ H G r P x
            rw [← EPX.out, ← HK.out] at hpt
            obtain ⟨fb, efb⟩ : ∃ fb, fb = fitB H G P x k := ⟨_, rfl⟩
            rw [← efb] at hpt ⊢
            have HBW : Hid (Below w.heap.size w wr) := Lib.hid (by rw [ew]; exact below_drewN hb1.out d)
            cases fb with
            | false =>
              rw [if_neg (by decide), Nat.add_zero] at hpt
              have HPT := Lib.hid hpt
              clear hpt efb ew
              go_wp2
              go_roundw
              case rel => exact ⟨x + 1, by omega, by go_num, by rw [HPT.out]; rfl, HBW⟩
              case measure => simp [intOf]; omega
            | true =>
              rw [if_pos rfl] at hpt
              have hpb := pics_le H (G := G) (by have := HG.out; omega) r (P ++ [x])
              have hpb2 : pics H G r (P ++ [x]) ≤ 46656 := Nat.le_trans hpb HPW.out
              have R0 := Lib.hid (rowS_newP wr)
              have hvr : Row (wr.alloc (.cells #[] 3)) B (.slice Ab k cb) (ints P) := (HVR.out.below HBW.out).alloc _
              have HV2 := Lib.hid hvr
              have HL2 := Lib.hid (show ([] : List Int).length + (ints P).length ≤ 100000 by rw [ints_length, ← HK.out]; simp; omega)
              have IHX := Lib.hid (IH.out x hlt)
              obtain ⟨py, epy⟩ : ∃ py, py = pics H G r (P ++ [x]) := ⟨_, rfl⟩
              rw [← epy] at hpt hpb2 IHX
              have HPT := Lib.hid hpt
              have HPB2 := Lib.hid hpb2
              clear hpt efb hpb hpb2 epy hvr ew
              go_wp2_with (first
                | (at_builtin
                   refine append_rowL rfl (.tmp 57) (.tmp 58) rfl rfl rfl R0.out HV2.out (by simp) HL2.out ?_
                   intro v1 w1 hr1 hg1
                   have xb1 := Lib.hid (((Below.refl wr.heap.size wr).alloc (Nat.le_refl _) (.cells #[] 3)).grown hg1 (by simp) (fun k hk => by cases hk; exact Nat.le_refl _))
                   have xr1 := Lib.hid hr1
                   have xl1 := Lib.hid (show ([] ++ ints P : List Int).length ≤ 100000 by rw [List.nil_append, ints_length, ← HK.out]; omega)
                   clear hr1 hg1)
                | (at_builtin
                   refine append_oneS rfl (.tmp 59) (.tmp 61) rfl _ wr.heap.size _ _ (x : Int) rfl rfl xr1.out xb1.out.size xl1.out ?_
                   intro v2 w2 hr2 hb2
                   have xr2 := hr2.out.1
                   rw [List.nil_append, show ints P ++ [(x : Int)] = ints (P ++ [x]) by simp [ints]] at xr2
                   have XR2 := Lib.hid xr2
                   have XB2 := Lib.hid (HBW.out.trans ((xb1.out.trans hb2.out).mono HBW.out.size))
                   clear xr2 hr2 hb2)
                | (refine (IHX.out _ _ _ (HA.out.below XB2.out) (HA'.out.below XB2.out) XR2.out).mono ?_
                   rintro e w3 ⟨rfl, hb3⟩))
              have HB3 := Lib.hid (XB2.out.trans (hb3.mono XB2.out.size))
              have F3 : Hid (wrap64 ((px : Int) + (py : Int)) = ((px + py : Nat) : Int)) := Lib.hid (by have := HPB2.out; unfold wrap64; omega)
              go_wp2
              go_roundw
              case rel => exact ⟨x + 1, by omega, by go_num, by rw [HPT.out, F3.out], HB3⟩
              case measure => simp [intOf]; omega
      · have hxg : x = g := by omega
        subst hxg
        go_wp2
        go_ret
        exact ⟨by rw [EPX.out]; rfl, hb1.out⟩
end Go.Proofs.YtnnobbbljpaieaaDoor
