/- The model's TutteTrees. -/
import Derived.Test.YtpegeleidkfpbaaDoorSpecTable
import Derived.Test.YtpegeleidkfpbaaDoorForTab
import Derived.Test.YtpegeleidkfpbaaDoorRowsKeep
import Derived.StillTailTactics
namespace Go.Proofs.YtpegeleidkfpbaaDoor
open Go Go.RowKit
set_option linter.unusedVariables false
set_option maxRecDepth 100000

/-- The table keeps its form. -/
def FormT (r m : Nat) (T : List (List Int)) : Prop := T.length = r + 1 ∧ ∀ k, k < r + 1 → (T[k]?.getD []).length = m
theorem form_zero (r s : Nat) : FormT r (s - r + 1) (zeroT r s) := by
  refine ⟨by simp [zeroT], fun k hk => ?_⟩
  unfold zeroT
  rw [List.getElem?_replicate, if_pos hk]
  simp
theorem form_inc {r m : Nat} {T : List (List Int)} (h : FormT r m T) (i j : Nat) : FormT r m (incS T i j) := by
  unfold incS
  refine ⟨by rw [List.length_set]; exact h.1, fun k hk => ?_⟩
  by_cases hik : i = k
  · subst hik
    rw [List.getElem?_set_self (by rw [h.1]; exact hk)]
    simp only [Option.getD_some, List.length_set]
    exact h.2 i hk
  · rw [List.getElem?_set_ne hik]
    exact h.2 k hk
set_option maxHeartbeats 1000000 in
theorem specTreesF_no (B : Nat) (v : Value) (L : List Int) (ht : ¬ IsT L) (w : World) (h : Row w B v L) :
    Calls Tryd.prog 25 #[v] w (ToldR w [] false) := by
  have H1 := Lib.hid (given_any B v L false ⟨fun q => (by cases q), fun q => absurd q ht⟩ w h)
  clear h ht
  go_enter Tryd.func25, Tryd.ntmps25
  go_wp2_with fail
  refine H1.out.mono ?_
  rintro e w1 ⟨rfl, d, rfl⟩
  have b1 := below_drewN (Below.refl w.heap.size w) d
  go_wp2
  go_ret2
  refine ⟨_, rfl, ⟨[], VRow.mono (World.ownsRow_lit (base := (w.drewN d).heap.size) (e := 22) (size := 1) (w.drewN d) #[] 0 (Nat.le_refl _) (by unfold maxLen; omega) rfl) b1.size, rfl, (fun k hk => absurd hk (by simp)), (fun i j gg hi => absurd hi (by simp))⟩, b1.alloc b1.size _⟩
theorem wrap_pred {s : Nat} (h0 : s ≠ 0) (hs : s ≤ 1024) : wrap64 ((s : Int) - 1) = (s : Int) - 1 := by unfold wrap64; omega
set_option maxHeartbeats 8000000 in
theorem specTreesF_yes (B : Nat) (v : Value) (L : List Int) (ht : IsT L) (w : World) (h : Row w B v L) :
    Calls Tryd.prog 25 #[v] w (ToldR w (treesS (codeOf L)) true) := by
  have H1 := Lib.hid (given_any B v L true ⟨fun _ => ht, fun _ => rfl⟩ w h)
  obtain ⟨A, c, rfl, hs⟩ := h.seen
  have hCl := code_ltN ht
  have hle := codesN_le L.length
  have HT := Lib.hid (fun w1 (b : Below w.heap.size w w1) => specTable_any A c L ht w1 (hs.below b))
  have HC := Lib.hid (fun w1 (b : Below w.heap.size w w1) => specCode_seen A c L ht.1 w1 (hs.below b))
  have HF : Hid (∀ s, s < codesN L.length → ∀ w1, Below w.heap.size w w1 → Calls Tryd.prog 48 #[.slice A L.length c, .int .i64 (s : Nat)] w1 (Said1 w1 (forB (codeOf L) s))) := Lib.hid (fun s hF w1 b => specForest_any A c L ht s hF w1 (hs.below b))
  have HA : Hid (∀ s, s < codesN L.length → s &&& codeOf L = s → forB (codeOf L) s = true → ∀ w1, Below w.heap.size w w1 → Calls Tryd.prog 49 #[.slice A L.length c, .int .i64 (s : Nat)] w1 fun e w' => e = .returned (.tuple #[.int .i64 ((actP (codeOf L) s).1 : Nat), .int .i64 ((actP (codeOf L) s).2 : Nat)]) ∧ Below w1.heap.size w1 w') := Lib.hid (fun s hF hsub hf w1 b => by
    rw [act_eq (by omega) (by omega) hsub hf]
    exact specActive_any A c L ht s hF w1 (hs.below b))
  have hfacts := forT_facts (C := codeOf L) (by omega)
  have hrs := rank_size (C := codeOf L) (by omega)
  have hpl := pcf_le 15 (codeOf L)
  obtain ⟨n, hn⟩ : ∃ n, n = L.length := ⟨_, rfl⟩
  rw [← hn] at H1 HT HC HF HA hCl hle ⊢
  obtain ⟨C, eC⟩ : ∃ C, C = codeOf L := ⟨_, rfl⟩
  rw [← eC] at HT HC HF HA hCl hfacts hrs hpl ⊢
  have hC : C < 1024 := by omega
  have HCL := Lib.hid hCl
  have HLE := Lib.hid hle
  have HOK := Lib.hid hfacts.1
  have hSS : treesS C = spFrom C 1024 C (zeroT (rkT C) (pcf 15 C)) := rfl
  have hF0 := form_zero (rkT C) (pcf 15 C)
  have hok : ∀ s, okAtS C s = true → forB C s = true → (actP C s).1 ≤ rkT C ∧ (actP C s).2 ≤ pcf 15 C - rkT C := fun s h1 h2 => by
    unfold okAtS at h1
    rw [if_pos h2, Bool.and_eq_true, decide_eq_true_eq, decide_eq_true_eq] at h1
    exact h1
  have HAT := Lib.hid hok
  obtain ⟨T0, eT0⟩ : ∃ T0, T0 = zeroT (rkT C) (pcf 15 C) := ⟨_, rfl⟩
  rw [← eT0] at HT hSS hF0
  obtain ⟨r, er⟩ : ∃ r, r = rkT C := ⟨_, rfl⟩
  obtain ⟨m, em⟩ : ∃ m, m = pcf 15 C - rkT C + 1 := ⟨_, rfl⟩
  rw [← em, ← er] at hF0
  have hm16 : m ≤ 16 ∧ r ≤ 4 := by omega
  have HM := Lib.hid (And.intro er em)
  have HSS := Lib.hid hSS
  have HF0 := Lib.hid hF0
  clear ht h hs hn eC hCl hle hfacts hrs hpl hSS hF0 hok er em eT0
  go_enter Tryd.func25, Tryd.ntmps25
  go_wp2_with fail
  refine H1.out.mono ?_
  rintro e w1 ⟨rfl, d, rfl⟩
  have b1 := below_drewN (Below.refl w.heap.size w) d
  go_wp2_with fail
  refine (HT.out _ b1).mono ?_
  rintro e w2 ⟨u, rfl, hu, b2'⟩
  have b2 := b1.trans (b2'.mono b1.size)
  have hu2 := hu.mono b1.size
  obtain ⟨R, eR⟩ : ∃ R, R = r + 1 := ⟨_, rfl⟩
  obtain ⟨g, cap, rfl⟩ : ∃ g cap, u = .slice (some ⟨g, 0, none⟩) R cap := by
    obtain ⟨vs, q1, q2, _⟩ := hu
    have hl := HF0.out.1
    rcases q1.shape with ⟨e1, e2⟩ | ⟨g, cap, e1, _, _⟩
    · rw [e2] at q2; simp at q2; omega
    · exact ⟨g, cap, by rw [e1, q2, hl, eR]⟩
  have R0 := Lib.hid hu2
  have ER := Lib.hid eR
  clear eR
  have B0 := Lib.hid b2
  go_wp2_with fail
  refine (HC.out _ b2).mono ?_
  rintro e w3 ⟨rfl, rfl⟩
  clear hu hu2 b2 b2' b1
  go_wp2
  go_loopw [6, 7, 8] (fun i _ _ wr => ∃ (s f : Nat) (T : List (List Int)), s &&& C = s ∧ i = .int .i64 s ∧ Hid (okFromS C f s = true) ∧ Hid (spFrom C f s T = treesS C) ∧ Hid (FormT r m T) ∧ Hid (R2 wr w.heap.size (.slice (some ⟨g, 0, none⟩) R cap) T) ∧ Hid (Below w.heap.size w wr)) (fun i _ _ _ => (intOf i).toNat)
  case atStart => exact ⟨C, 1024, T0, by simp, rfl, HOK, Lib.hid HSS.out.symm, HF0, R0, B0⟩
  case round =>
    obtain ⟨s, f, T, hsub, rfl, hok, hsp, hft, hr, hb⟩ := hrel
    have hsC : s ≤ C := by rw [← hsub]; exact Nat.and_le_right
    have hsN : s < codesN n := Nat.lt_of_le_of_lt hsC HCL.out
    obtain ⟨f', rfl⟩ : ∃ f', f = f' + 1 := by
      cases f with
      | zero => have := hok.out; cases this
      | succ f' => exact ⟨f', rfl⟩
    have hok1 : okAtS C s = true ∧ (s = 0 ∨ okFromS C f' ((s - 1) &&& C) = true) := by
      have h : (okAtS C s && (if s = 0 then true else okFromS C f' ((s - 1) &&& C))) = true := hok.out
      rw [Bool.and_eq_true] at h
      refine ⟨h.1, ?_⟩
      by_cases h0 : s = 0
      · exact .inl h0
      · exact .inr (by have h2 := h.2; rwa [if_neg h0] at h2)
    have hsp1 : (if s = 0 then spStep C T s else spFrom C f' ((s - 1) &&& C) (spStep C T s)) = treesS C := hsp.out
    have hand : ((s - 1) &&& C) &&& C = (s - 1) &&& C := by rw [Nat.and_assoc, Nat.and_self]
    have hlt2 : s ≠ 0 → (s - 1) &&& C < s := fun h0 => Nat.lt_of_le_of_lt Nat.and_le_left (by omega)
    have HFS := Lib.hid (HF.out s hsN wr hb.out)
    have HAS : Hid (forB C s = true → ∀ w1, Below w.heap.size w w1 → Calls Tryd.prog 49 #[.slice A n c, .int .i64 (s : Nat)] w1 fun e w' => e = .returned (.tuple #[.int .i64 ((actP C s).1 : Nat), .int .i64 ((actP C s).2 : Nat)]) ∧ Below w1.heap.size w1 w') := Lib.hid (fun hf w1 b => HA.out s hsN hsub hf w1 b)
    have hat := HAT.out s hok1.1
    have hstep : spStep C T s = if forB C s = true then incS T (actP C s).1 (actP C s).2 else T := rfl
    have hop : 0 < s → bits .and .i64 ((s : Int) - 1) (C : Int) = (((s - 1) &&& C : Nat) : Int) := fun h0 => by
      have e : (s : Int) - 1 = ((s - 1 : Nat) : Int) := by omega
      rw [e]
      exact i64_and_nat _ _ (by omega) (by omega)
    obtain ⟨b, eb⟩ : ∃ b, b = forB C s := ⟨_, rfl⟩
    rw [← eb] at HFS HAS hat hstep
    obtain ⟨i, ei⟩ : ∃ i, i = (actP C s).1 := ⟨_, rfl⟩
    obtain ⟨j, ej⟩ : ∃ j, j = (actP C s).2 := ⟨_, rfl⟩
    rw [← ei, ← ej] at HAS hat hstep
    rw [← HM.out.1] at hat
    have hj2 : b = true → i < r + 1 ∧ j < m := fun hbt => by
      have h1 := hat hbt
      have h2 := HM.out.2
      have h3 := HM.out.1
      omega
    obtain ⟨q, eq⟩ : ∃ q, q = (s - 1) &&& C := ⟨_, rfl⟩
    rw [← eq] at hok1 hsp1 hand hlt2 hop
    obtain ⟨T', eT'⟩ : ∃ T', T' = spStep C T s := ⟨_, rfl⟩
    rw [← eT'] at hsp1 hstep
    -- both ways behind the forest: a world, and the table T'
    have HSP := Lib.hid hsp1
    have HOK2 := Lib.hid hok1.2
    have HAND := Lib.hid hand
    have HLT := Lib.hid hlt2
    have HOP := Lib.hid hop
    have hsN : s ≤ 1024 := by have h1 := hsN; have h2 := HLE.out; omega
    clear hok hsp hok1 hsp1 hand hlt2 hop eq eT' eb ei ej hsC hat
    cases b with
    | false =>
      have hTT : T' = T := by rw [hstep]; rfl
      subst hTT
      clear hstep hj2
      go_wp2_with fail
      refine HFS.out.mono ?_
      rintro e w4 ⟨rfl, b4⟩
      have hr4 := Lib.hid (hr.out.below b4)
      have hb4 := Lib.hid (hb.out.trans (b4.mono hb.out.size))
      clear b4 hr hb
      by_cases h0 : s = 0
      · subst h0
        have hfin := Lib.hid (show T' = treesS C from HSP.out)
        go_wp2
        go_ret2
        exact ⟨_, rfl, by rw [← hfin.out]; exact hr4.out, hb4.out⟩
      · have hd : ((s : Int) == 0) = false := by simp; omega
        have hs2 := Lib.hid (show spFrom C f' q T' = treesS C by have h := HSP.out; rwa [if_neg h0] at h)
        have hk2 := Lib.hid (show okFromS C f' q = true from HOK2.out.elim (fun h => absurd h h0) id)
        have hop2 := HOP.out (by omega)
        have hlt := HLT.out h0
        have hw1 := wrap_pred h0 hsN
        go_wp2
        go_roundw
        case rel => exact ⟨q, f', T', HAND.out, rfl, hk2, hs2, hft, hr4, hb4⟩
        case measure => simp [intOf]; omega
    | true =>
      have hTT : T' = incS T i j := by rw [hstep]; rfl
      subst hTT
      obtain ⟨hi, hj⟩ := hj2 rfl
      have HAZ : Hid (∀ w1, Below w.heap.size w w1 → Calls Tryd.prog 49 #[.slice A n c, .int .i64 (s : Nat)] w1 fun e w' => e = .returned (.tuple #[.int .i64 (i : Nat), .int .i64 (j : Nat)]) ∧ Below w1.heap.size w1 w') := Lib.hid (HAS.out rfl)
      clear HAS
      clear hstep hj2
      go_wp2_with fail
      refine HFS.out.mono ?_
      rintro e w4 ⟨rfl, b4⟩
      have hr4 := Lib.hid (hr.out.below b4)
      have hb4 := Lib.hid (hb.out.trans (b4.mono hb.out.size))
      clear b4 hr hb
      go_wp2_with fail
      refine (HAZ.out w4 hb4.out).mono ?_
      rintro e w5 ⟨rfl, b5⟩
      have hr5 := hr4.out.below b5
      have hb5 := hb4.out.trans (b5.mono hb4.out.size)
      clear b5 hr4 hb4
      have hlT : T.length = r + 1 := hft.out.1
      have hlR : (T[i]?.getD []).length = m := hft.out.2 i hi
      obtain ⟨u, hcu, hru, hfu⟩ := hr5.at i (by omega)
      have hjl : j < (T[i]?.getD []).length := by omega
      obtain ⟨b, cu, rfl⟩ : ∃ b cu, u = .slice (some ⟨b, 0, none⟩) m cu := by
        obtain ⟨A5, c5, e5, hA5⟩ := hru.see
        obtain ⟨b, eb5, _⟩ := hA5 j hjl
        exact ⟨b, c5, by rw [e5, eb5, hlR]⟩
      have hbb : w.heap.size ≤ b := (hru.lt b rfl).1
      have hcj := hru.cellAt j hjl
      have hfj := hru.frozenAt j hjl
      have hr6 := (hr5.below ((Below.refl w5.heap.size w5).drew)).set2 i (by omega) hcu j hjl (wrap64 ((T[i]?.getD [])[j]?.getD 0 + 1))
      have hr7 : R2 (w5.drew.setCell ⟨b, j, none⟩ (.int .i64 (wrap64 ((T[i]?.getD [])[j]?.getD 0 + 1)))) w.heap.size (.slice (some ⟨g, 0, none⟩) R cap) (incS T i j) := hr6
      have hft7 := Lib.hid (form_inc hft.out i j)
      obtain ⟨T', eT'⟩ : ∃ T', T' = incS T i j := ⟨_, rfl⟩
      rw [← eT'] at hr7 hft7 HSP
      obtain ⟨x, ex⟩ : ∃ x, x = (T[i]?.getD [])[j]?.getD 0 := ⟨_, rfl⟩
      rw [← ex] at hr7 hcj
      have HR7 := Lib.hid hr7
      have HB7 := Lib.hid ((hb5.drew).setCell (p := ⟨b, j, none⟩) hbb (.int .i64 (wrap64 (x + 1))))
      have hi1 : (0 : Int) ≤ (i : Int) ∧ (i : Int) < (R : Int) := by have := ER.out; omega
      have hj1 : (0 : Int) ≤ (j : Int) ∧ (j : Int) < (m : Int) := by omega
      have hcud : w5.drew.cell? ⟨g, i, none⟩ = some (.slice (some ⟨b, 0, none⟩) m cu) := hcu
      have hcjd : w5.drew.cell? ⟨b, j, none⟩ = some (.int .i64 x) := hcj
      have hfjd : w5.drew.frozen? ⟨b, j, none⟩ = false := hfj
      clear hr5 hb5 hr6 hr7 hlT hlR hjl hru hbb eT' ex hft
      by_cases h0 : s = 0
      · subst h0
        have hfin := Lib.hid (show T' = treesS C from HSP.out)
        go_wp2
        go_still_tail 14, (by kernel_rfl)
        change wpList _ _ _ _ _ w5.drew
        go_wp2
        go_ret2
        exact ⟨_, rfl, by rw [← hfin.out]; exact HR7.out, HB7.out⟩
      · have hd : ((s : Int) == 0) = false := by simp; omega
        have hs2 := Lib.hid (show spFrom C f' q T' = treesS C by have h := HSP.out; rwa [if_neg h0] at h)
        have hk2 := Lib.hid (show okFromS C f' q = true from HOK2.out.elim (fun h => absurd h h0) id)
        have hop2 := HOP.out (by omega)
        have hlt := HLT.out h0
        have hw1 := wrap_pred h0 hsN
        go_wp2
        go_still_tail 14, (by kernel_rfl)
        change wpList _ _ _ _ _ w5.drew
        go_wp2
        go_roundw
        case rel => exact ⟨q, f', T', HAND.out, rfl, hk2, hs2, hft7, HR7, HB7⟩
        case measure => simp [intOf]; omega
end Go.Proofs.YtpegeleidkfpbaaDoor
