/- Texts in one: SetsFacts, SpecSets, TreesBoth, SetsBoth, TutteSetsOf. -/
import Derived.Test.YtdhpamemkkfhhaaDoorOnlyP
import Derived.Test.YtdhpamemkkfhhaaDoorOnlyQ
import Derived.Test.YtdhpamemkkfhhaaDoorOnlyR
import Derived.Test.YtdhpamemkkfhhaaDoorOnlyT
import Derived.Test.YtdhpamemkkfhhaaDoorOnlyS
import Derived.Test.YtdhpamemkkfhhaaDoorOnlyU
import Derived.Test.YtdhpamemkkfhhaaDoorRowsOf
import Derived.Test.YtdhpamemkkfhhaaDoorBaseA

/- The table by sets: what is decided of all codes. -/









namespace Go.Proofs.YtdhpamemkkfhhaaDoor
open Go Go.RowKit
set_option linter.unusedVariables false
set_option maxRecDepth 100000

theorem setsT_ok {C : Nat} (hC : C < 1024) : setsOk C = true := by
  have h : ∀ k, k < 64 → allN (fun c => setsOk (16 * k + c)) 16 = true := fun k hk => by
    match k, hk with
    | 0, _ => exact setsT_0
    | 1, _ => exact setsT_1
    | 2, _ => exact setsT_2
    | 3, _ => exact setsT_3
    | 4, _ => exact setsT_4
    | 5, _ => exact setsT_5
    | 6, _ => exact setsT_6
    | 7, _ => exact setsT_7
    | 8, _ => exact setsT_8
    | 9, _ => exact setsT_9
    | 10, _ => exact setsT_10
    | 11, _ => exact setsT_11
    | 12, _ => exact setsT_12
    | 13, _ => exact setsT_13
    | 14, _ => exact setsT_14
    | 15, _ => exact setsT_15
    | 16, _ => exact setsT_16
    | 17, _ => exact setsT_17
    | 18, _ => exact setsT_18
    | 19, _ => exact setsT_19
    | 20, _ => exact setsT_20
    | 21, _ => exact setsT_21
    | 22, _ => exact setsT_22
    | 23, _ => exact setsT_23
    | 24, _ => exact setsT_24
    | 25, _ => exact setsT_25
    | 26, _ => exact setsT_26
    | 27, _ => exact setsT_27
    | 28, _ => exact setsT_28
    | 29, _ => exact setsT_29
    | 30, _ => exact setsT_30
    | 31, _ => exact setsT_31
    | 32, _ => exact setsT_32
    | 33, _ => exact setsT_33
    | 34, _ => exact setsT_34
    | 35, _ => exact setsT_35
    | 36, _ => exact setsT_36
    | 37, _ => exact setsT_37
    | 38, _ => exact setsT_38
    | 39, _ => exact setsT_39
    | 40, _ => exact setsT_40
    | 41, _ => exact setsT_41
    | 42, _ => exact setsT_42
    | 43, _ => exact setsT_43
    | 44, _ => exact setsT_44
    | 45, _ => exact setsT_45
    | 46, _ => exact setsT_46
    | 47, _ => exact setsT_47
    | 48, _ => exact setsT_48
    | 49, _ => exact setsT_49
    | 50, _ => exact setsT_50
    | 51, _ => exact setsT_51
    | 52, _ => exact setsT_52
    | 53, _ => exact setsT_53
    | 54, _ => exact setsT_54
    | 55, _ => exact setsT_55
    | 56, _ => exact setsT_56
    | 57, _ => exact setsT_57
    | 58, _ => exact setsT_58
    | 59, _ => exact setsT_59
    | 60, _ => exact setsT_60
    | 61, _ => exact setsT_61
    | 62, _ => exact setsT_62
    | 63, _ => exact setsT_63
    | n + 64, h => exact absurd h (by omega)
  have := allN_spec (h (C / 16) (by omega)) (C % 16) (by omega)
  have e : 16 * (C / 16) + C % 16 = C := by omega
  rwa [e] at this
theorem sets_facts {C : Nat} (hC : C < 1024) : okFromR C 1024 C = true ∧ (setsP C).length ≤ rkT C + 1 ∧ RowsLe (setsP C) (pcf 15 C - rkT C + 1) ∧ rowsP (rkT C) (pcf 15 C) (setsP C) = setsS C := by
  have h := setsT_ok hC
  unfold setsOk at h
  rw [Bool.and_eq_true] at h
  have h2 := dims_of h.1
  exact ⟨setsR_ok hC, h2.1, h2.2, eq_of_beq h.2⟩
end Go.Proofs.YtdhpamemkkfhhaaDoor

/- The model's TutteSets. -/


namespace Go.Proofs.YtdhpamemkkfhhaaDoor
open Go Go.RowKit
set_option linter.unusedVariables false
set_option maxRecDepth 100000

theorem R2S.set2 {w : World} {B S g n cap m c b : Nat} {T : List (List Int)} (h : R2S w B S (.slice (some ⟨g, 0, none⟩) n cap) T) (i : Nat) (hi : i < T.length) (hc : w.cell? ⟨g, i, none⟩ = some (.slice (some ⟨b, 0, none⟩) m c)) (j : Nat) (hj : j < (T[i]?.getD []).length) (x : Int) :
    R2S (w.setCell ⟨b, j, none⟩ (.int .i64 x)) B S (.slice (some ⟨g, 0, none⟩) n cap) (T.set i ((T[i]?.getD []).set j x)) := by
  obtain ⟨vs, h1, h2, h3, h4, h5, h6⟩ := h
  have hcell := h1.cellAt i (by omega)
  rw [hc] at hcell
  have hvi : vs[i]?.getD undef = .slice (some ⟨b, 0, none⟩) m c := (Option.some.inj hcell).symm
  have hri := h3 i hi
  rw [hvi] at hri
  have hbt := row_typed hri b rfl
  have hgb : b ≠ g := hbt.ne (h1.typed g rfl) (by decide)
  refine ⟨vs, World.ownsRow.kept (row := some b) h1 (grown_set (World.grownBy.refl w (some b)) j _) (.inr (fun e => by have e2 : some g = some b := e; injection e2; omega)), by rw [List.length_set, h2], fun k hk => ?_, fun a b' gg ha hb => ?_, h5, fun k hk => h6 k (by rwa [List.length_set] at hk)⟩
  · rw [List.length_set] at hk
    by_cases hik : i = k
    · subst hik
      rw [List.getElem?_set_self hi, hvi]
      exact hri.set j hj x
    · rw [List.getElem?_set_ne hik]
      refine row_other (h3 k hk) (fun e => ?_)
      exact h4 i k b hi hk hik (by rw [hvi]; rfl) e
  · rw [List.length_set] at ha hb
    exact h4 a b' gg ha hb
/-- What lies at a place, and below what. -/
theorem R2S.at {w : World} {B S g n cap : Nat} {T : List (List Int)} (h : R2S w B S (.slice (some ⟨g, 0, none⟩) n cap) T) (k : Nat) (hk : k < T.length) : ∃ u, w.cell? ⟨g, k, none⟩ = some u ∧ Row w B u (T[k]?.getD []) ∧ ∀ b, u.ownBlock = some b → b < S := by
  obtain ⟨vs, h1, h2, h3, h4, h5, h6⟩ := h
  exact ⟨_, h1.cellAt k (by omega), h3 k hk, h6 k hk⟩

theorem addRow_length (p : Int) (q R : List Int) (j : Nat) : (addRow p q R j).length = R.length := by
  induction j with
  | zero => rfl
  | succ j ih => unfold addRow; rw [List.length_set, ih]
theorem addRows_form {r m : Nat} {p q : List Int} {T : List (List Int)} (h : FormT r m T) (i : Nat) : FormT r m (addRows p q T i) := by
  induction i with
  | zero => exact h
  | succ i ih =>
    unfold addRows
    refine ⟨by rw [List.length_set]; exact ih.1, fun k hk => ?_⟩
    by_cases hik : i = k
    · subst hik
      rw [List.getElem?_set_self (by rw [ih.1]; exact hk)]
      simp only [Option.getD_some, addRow_length]
      exact ih.2 i hk
    · rw [List.getElem?_set_ne hik]
      exact ih.2 k hk
/-- The table with a row half added. -/
def halfT (p : Int) (q : List Int) (T : List (List Int)) (i j : Nat) : List (List Int) := T.set i (addRow p q (T[i]?.getD []) j)
theorem halfT_zero (p : Int) (q : List Int) (T : List (List Int)) (i : Nat) (hi : i < T.length) : halfT p q T i 0 = T := by
  unfold halfT
  show T.set i (T[i]?.getD []) = T
  rw [List.getElem?_eq_getElem hi, Option.getD_some, List.set_getElem_self]
theorem halfT_at (p : Int) (q : List Int) (T : List (List Int)) (i j : Nat) (hi : i < T.length) : (halfT p q T i j)[i]?.getD [] = addRow p q (T[i]?.getD []) j := by
  unfold halfT
  rw [List.getElem?_set_self hi, Option.getD_some]
theorem halfT_len (p : Int) (q : List Int) (T : List (List Int)) (i j : Nat) : (halfT p q T i j).length = T.length := by unfold halfT; rw [List.length_set]
theorem halfT_succ (p : Int) (q : List Int) (T : List (List Int)) (i j : Nat) (hi : i < T.length) : halfT p q T i (j + 1) = (halfT p q T i j).set i (((halfT p q T i j)[i]?.getD []).set j (wrap64 (((halfT p q T i j)[i]?.getD [])[j]?.getD 0 + wrap64 (p * q[j]?.getD 0)))) := by
  rw [halfT_at p q T i j hi]
  unfold halfT
  rw [List.set_set]
  rfl
theorem row_step {w w' : World} {S : Nat} {v : Value} {xs : List Int} (h : Row w S v xs) {b : Nat} (hb : b < S) (hg : w.grownBy w' (some b)) : Row w' S v xs := by
  refine World.ownsRow.kept h hg ?_
  cases e : v.ownBlock with
  | none => exact .inl rfl
  | some k => exact .inr fun e2 => by have := (h.lt k e).1; injection e2; omega

set_option maxHeartbeats 1000000 in
theorem specSetsF_no (B : Nat) (v : Value) (L : List Int) (ht : ¬ IsT L) (w : World) (h : Row w B v L) :
    Calls Tryd.prog 15 #[v] w (ToldR w [] false) := by
  have H1 := Lib.hid (given_any B v L false ⟨fun q => (by cases q), fun q => absurd q ht⟩ w h)
  clear h ht
  go_enter Tryd.func15, Tryd.ntmps15
  go_wp2_with fail
  refine H1.out.mono ?_
  rintro e w1 ⟨rfl, d, rfl⟩
  have b1 := below_drewN (Below.refl w.heap.size w) d
  go_wp2
  go_ret2
  refine ⟨_, rfl, ⟨[], VRow.mono (World.ownsRow_lit (base := (w.drewN d).heap.size) (e := 22) (size := 1) (w.drewN d) #[] 0 (Nat.le_refl _) (by unfold maxLen; omega) rfl) b1.size, rfl, (fun k hk => absurd hk (by simp)), (fun i j gg hi => absurd hi (by simp))⟩, b1.alloc b1.size _⟩

set_option maxHeartbeats 16000000 in
theorem specSetsF_yes (B : Nat) (v : Value) (L : List Int) (ht : IsT L) (w : World) (h : Row w B v L) :
    Calls Tryd.prog 15 #[v] w (ToldR w (setsS (codeOf L)) true) := by
  have hn1 := ht.1.1
  have hn5 := ht.2
  have H1 := Lib.hid (given_any B v L true ⟨fun _ => ht, fun _ => rfl⟩ w h)
  obtain ⟨A, c, rfl, hs⟩ := h.seen
  have hCl := code_ltN ht
  have hle := codesN_le L.length
  have HT := Lib.hid (fun w1 (b : Below w.heap.size w w1) => specTable_any A c L ht w1 (hs.below b))
  have HC := Lib.hid (fun w1 (b : Below w.heap.size w w1) => specCode_seen A c L ht.1 w1 (hs.below b))
  have hfacts := sets_facts (C := codeOf L) (by omega)
  have hrs := rank_size (C := codeOf L) (by omega)
  have hrz : ∀ s, s < 1024 → rkT s ≤ pcf 15 s ∧ pcf 15 s ≤ 15 ∧ rkT s ≤ 4 := fun s hs => ⟨(rank_size hs).1, pcf_le 15 s, (rank_size hs).2⟩
  have hpl := pcf_le 15 (codeOf L)
  obtain ⟨n, hn⟩ : ∃ n, n = L.length := ⟨_, rfl⟩
  rw [← hn] at H1 HT HC hCl hle hn1 hn5 ⊢
  have HR : Hid (∀ s, s < codesN n → ∀ w1, Calls Tryd.prog 35 #[.int .i64 n, .int .i64 (s : Nat)] w1 (NumB w1 (rkT s))) := Lib.hid (fun s h w1 => specRank_any n s hn1 hn5 h w1)
  have HZ := Lib.hid (fun s (h : s < 32768) w1 => size_code s h w1)
  have HL := Lib.hid (fun k (h : k ≤ 20) w1 => specLess_any k h w1)
  obtain ⟨C, eC⟩ : ∃ C, C = codeOf L := ⟨_, rfl⟩
  rw [← eC] at HT HC hCl hfacts hrs hpl ⊢
  have hC : C < 1024 := by omega
  have HCL := Lib.hid hCl
  have HLE := Lib.hid hle
  have HOK := Lib.hid hfacts.1
  have hSS : setsS C = smFrom C 1024 C (zeroT (rkT C) (pcf 15 C)) := rfl
  have hF0 := form_zero (rkT C) (pcf 15 C)
  have HRC := Lib.hid (HR.out C hCl)
  have HRZ := Lib.hid hrz
  obtain ⟨T0, eT0⟩ : ∃ T0, T0 = zeroT (rkT C) (pcf 15 C) := ⟨_, rfl⟩
  rw [← eT0] at HT hSS hF0
  obtain ⟨r, er⟩ : ∃ r, r = rkT C := ⟨_, rfl⟩
  obtain ⟨m, em⟩ : ∃ m, m = pcf 15 C - rkT C + 1 := ⟨_, rfl⟩
  rw [← em, ← er] at hF0
  rw [← er] at HRC
  have hm16 : m ≤ 16 ∧ r ≤ 4 := by omega
  have HM := Lib.hid (And.intro er em)
  have HSS := Lib.hid hSS
  have HF0 := Lib.hid hF0
  clear ht h hs hn eC hCl hle hfacts hrs hpl hSS hF0 er em eT0 hrz hn1
  go_enter Tryd.func15, Tryd.ntmps15
  go_wp2_with fail
  refine H1.out.mono ?_
  rintro e w1 ⟨rfl, d, rfl⟩
  have b1 := below_drewN (Below.refl w.heap.size w) d
  go_wp2_with fail
  refine (HT.out _ b1).mono ?_
  rintro e w2 ⟨u, rfl, hu, b2'⟩
  have b2 := b1.trans (b2'.mono b1.size)
  have hu2 := hu.mono b1.size
  obtain ⟨R, eR⟩ : ∃ R, R = r + 1 := ⟨_, rfl⟩
  obtain ⟨g, cap, rfl⟩ : ∃ g cap, u = .slice (some ⟨g, 0, none⟩) R cap := by
    obtain ⟨vs, q1, q2, _⟩ := hu
    have hl := HF0.out.1
    rcases q1.shape with ⟨e1, e2⟩ | ⟨g, cap, e1, _, _⟩
    · rw [e2] at q2; simp at q2; omega
    · exact ⟨g, cap, by rw [e1, q2, hl, eR]⟩
  have ER := Lib.hid eR
  clear eR
  go_wp2_with fail
  refine (HC.out _ b2).mono ?_
  rintro e w3 ⟨rfl, rfl⟩
  go_wp2_with fail
  refine (HRC.out _).mono ?_
  rintro e w3 ⟨rfl, b3'⟩
  have R0 := Lib.hid (hu2.below b3')
  have B0 := Lib.hid (b2.trans (b3'.mono b2.size))
  clear hu hu2 b2 b2' b1 b3' HT HC HRC H1
  go_wp2
  go_loopw [7, 8, 9, 10, 11, 12] (fun i _ _ _ _ _ wr => ∃ (s f : Nat) (T : List (List Int)), s &&& C = s ∧ i = .int .i64 s ∧ Hid (okFromR C f s = true) ∧ Hid (smFrom C f s T = setsS C) ∧ Hid (FormT r m T) ∧ Hid (R2 wr w.heap.size (.slice (some ⟨g, 0, none⟩) R cap) T) ∧ Hid (Below w.heap.size w wr)) (fun i _ _ _ _ _ _ => (intOf i).toNat)
  case atStart => exact ⟨C, 1024, T0, by simp, rfl, HOK, Lib.hid HSS.out.symm, HF0, R0, B0⟩
  case round =>
    obtain ⟨s, f, T, hsub, rfl, hok, hsp, hft, hr, hb⟩ := hrel
    have hsC : s ≤ C := by rw [← hsub]; exact Nat.and_le_right
    have hsN : s < codesN n := Nat.lt_of_le_of_lt hsC HCL.out
    obtain ⟨f', rfl⟩ : ∃ f', f = f' + 1 := by
      cases f with
      | zero => have := hok.out; cases this
      | succ f' => exact ⟨f', rfl⟩
    have hok1 : okAtR C s = true ∧ (s = 0 ∨ okFromR C f' ((s - 1) &&& C) = true) := by
      have h : (okAtR C s && (if s = 0 then true else okFromR C f' ((s - 1) &&& C))) = true := hok.out
      rw [Bool.and_eq_true] at h
      refine ⟨h.1, ?_⟩
      by_cases h0 : s = 0
      · exact .inl h0
      · exact .inr (by have h2 := h.2; rwa [if_neg h0] at h2)
    have hsp1 : (if s = 0 then smStep C T s else smFrom C f' ((s - 1) &&& C) (smStep C T s)) = setsS C := hsp.out
    have hand : ((s - 1) &&& C) &&& C = (s - 1) &&& C := by rw [Nat.and_assoc, Nat.and_self]
    have hlt2 : s ≠ 0 → (s - 1) &&& C < s := fun h0 => Nat.lt_of_le_of_lt Nat.and_le_left (by omega)
    have hat : rkT s ≤ rkT C ∧ pcf 15 s - rkT s ≤ pcf 15 C - rkT C := by
      have h := hok1.1
      unfold okAtR at h
      rw [Bool.and_eq_true, decide_eq_true_eq, decide_eq_true_eq] at h
      exact h
    have hz := HRZ.out s (by omega)
    have HRS := Lib.hid (HR.out s hsN)
    have HZS := Lib.hid (HZ.out s (by omega))
    have hstep : smStep C T s = addRows (lessL (rkT C - rkT s)) (lessL (pcf 15 s - rkT s)) T (lessL (rkT C - rkT s)).length := rfl
    have hop : 0 < s → bits .and .i64 ((s : Int) - 1) (C : Int) = (((s - 1) &&& C : Nat) : Int) := fun h0 => by
      have e : (s : Int) - 1 = ((s - 1 : Nat) : Int) := by omega
      rw [e]
      exact i64_and_nat _ _ (by omega) (by omega)
    have hpx := lessL_length (rkT C - rkT s)
    have hqx := lessL_length (pcf 15 s - rkT s)
    have hlim : rkT C - rkT s + 1 ≤ r + 1 ∧ pcf 15 s - rkT s + 1 ≤ m := by have h1 := HM.out.1; have h2 := HM.out.2; omega
    have hrr := HM.out.1
    obtain ⟨k, ek⟩ : ∃ k, k = rkT s := ⟨_, rfl⟩
    obtain ⟨z, ez⟩ : ∃ z, z = pcf 15 s := ⟨_, rfl⟩
    rw [← ek] at HRS hstep hpx hqx hlim hz hat
    rw [← ez] at HZS hstep hqx hlim hz hat
    rw [← hrr] at hstep hpx hlim hat
    obtain ⟨ax, eax⟩ : ∃ ax, ax = r - k := ⟨_, rfl⟩
    obtain ⟨ay, eay⟩ : ∃ ay, ay = z - k := ⟨_, rfl⟩
    rw [← eax] at hstep hpx hlim
    rw [← eay] at hstep hqx hlim
    have HLX : Hid (∀ w1, Calls Tryd.prog 40 #[.int .i64 ((r : Int) - (k : Int))] w1 (GaveL1 w1 (lessL ax))) := Lib.hid fun w1 => by
      have h := HL.out ax (by omega) w1
      rwa [show (ax : Int) = (r : Int) - (k : Int) by omega] at h
    have HLY : Hid (∀ w1, Calls Tryd.prog 40 #[.int .i64 ((z : Int) - (k : Int))] w1 (GaveL1 w1 (lessL ay))) := Lib.hid fun w1 => by
      have h := HL.out ay (by omega) w1
      rwa [show (ay : Int) = (z : Int) - (k : Int) by omega] at h
    obtain ⟨X, eX⟩ : ∃ X, X = lessL ax := ⟨_, rfl⟩
    obtain ⟨Y, eY⟩ : ∃ Y, Y = lessL ay := ⟨_, rfl⟩
    rw [← eX] at hstep hpx HLX
    rw [← eY] at hstep hqx HLY
    obtain ⟨q, eq⟩ : ∃ q, q = (s - 1) &&& C := ⟨_, rfl⟩
    rw [← eq] at hok1 hsp1 hand hlt2 hop
    obtain ⟨T', eT'⟩ : ∃ T', T' = smStep C T s := ⟨_, rfl⟩
    rw [← eT'] at hsp1 hstep
    obtain ⟨lx, elx⟩ : ∃ lx, lx = X.length := ⟨_, rfl⟩
    obtain ⟨ly, ely⟩ : ∃ ly, ly = Y.length := ⟨_, rfl⟩
    rw [← elx] at hstep hpx
    rw [← ely] at hqx
    have hlx : lx ≤ r + 1 ∧ 1 ≤ lx := by omega
    have hly : ly ≤ m ∧ 1 ≤ ly := by omega
    have HSP := Lib.hid hsp1
    have HOK2 := Lib.hid hok1.2
    have HAND := Lib.hid hand
    have HLT := Lib.hid hlt2
    have HOP := Lib.hid hop
    have HST := Lib.hid hstep
    have HLEN := Lib.hid (And.intro elx ely)
    have hsN2 : s ≤ 1024 := by omega
    have hkz : k ≤ r ∧ k ≤ z ∧ z ≤ 15 := by omega
    clear hok hsp hok1 hsp1 hand hlt2 hop eq eT' hsC hat hz hstep hpx hqx hlim hrr ek ez eax eay eX eY elx ely hsub
    go_wp2_with fail
    refine (HRS.out _).mono ?_
    rintro e w4 ⟨rfl, b4⟩
    have hr4 := hr.out.below b4
    have hb4 := hb.out.trans (b4.mono hb.out.size)
    have hR4 := hr4.s
    obtain ⟨S, eS⟩ : ∃ S, S = w4.heap.size := ⟨_, rfl⟩
    rw [← eS] at hR4
    have hSw : w.heap.size ≤ S := by rw [eS]; exact hb4.size
    go_wp2_with fail
    refine (HLX.out _).mono ?_
    rintro e w5 ⟨vx, rfl, hx, b5⟩
    rw [← eS] at hx b5
    have hR5 := hR4.step b5
    have hb5 := hb4.trans (b5.mono hSw)
    have hS5 : S ≤ w5.heap.size := by rw [eS]; exact b5.size
    go_wp2_with fail
    refine (HZS.out _).mono ?_
    rintro e w6 ⟨rfl, rfl⟩
    go_wp2_with fail
    refine (HLY.out _).mono ?_
    rintro e w7 ⟨vy, rfl, hy, b7⟩
    have hR7 := Lib.hid (hR5.step (b7.mono hS5))
    have hx7 := Lib.hid (hx.below b7)
    have hy7 := Lib.hid (hy.mono hS5)
    have hb7 := Lib.hid (hb5.trans (b7.mono (by omega)))
    obtain ⟨gx, cx, rfl⟩ : ∃ gx cx, vx = .slice (some ⟨gx, 0, none⟩) lx cx := by
      obtain ⟨A5, c5, e5, hA5⟩ := hx.see
      obtain ⟨b, eb5, _⟩ := hA5 0 (by have := HLEN.out.1; omega)
      exact ⟨b, c5, by rw [e5, eb5, HLEN.out.1]⟩
    obtain ⟨gy, cy, rfl⟩ : ∃ gy cy, vy = .slice (some ⟨gy, 0, none⟩) ly cy := by
      obtain ⟨A5, c5, e5, hA5⟩ := hy.see
      obtain ⟨b, eb5, _⟩ := hA5 0 (by have := HLEN.out.2; omega)
      exact ⟨b, c5, by rw [e5, eb5, HLEN.out.2]⟩
    have HSW := Lib.hid hSw
    clear hr4 hb4 hR4 eS hx hy b4 b5 b7 hR5 hb5 hS5 hr hb HRS HLX HZS HLY hSw
    go_wp2
    go_loopw [11, 12] (fun i _ wr => ∃ a : Nat, a ≤ lx ∧ i = .int .i64 a ∧ Hid (R2S wr w.heap.size S (.slice (some ⟨g, 0, none⟩) R cap) (addRows X Y T a)) ∧ Hid (Row wr S (.slice (some ⟨gx, 0, none⟩) lx cx) X) ∧ Hid (Row wr S (.slice (some ⟨gy, 0, none⟩) ly cy) Y) ∧ Hid (Below w.heap.size w wr)) (fun i _ _ => lx - (intOf i).toNat)
    case atStart => exact ⟨0, Nat.zero_le _, rfl, hR7, hx7, hy7, hb7⟩
    case round =>
      obtain ⟨a, ha, rfl, hR, hx, hy, hb⟩ := hrel
      by_cases halt : a < lx
      · have hfa := addRows_form (p := X) (q := Y) hft.out a
        have hsucc : addRows X Y T (a + 1) = halfT (X[a]?.getD 0) Y (addRows X Y T a) a ly := by
          show (addRows X Y T a).set a (addRow (X[a]?.getD 0) Y ((addRows X Y T a)[a]?.getD []) Y.length) = _
          rw [← HLEN.out.2]; rfl
        obtain ⟨Ta, eTa⟩ : ∃ Ta, Ta = addRows X Y T a := ⟨_, rfl⟩
        rw [← eTa] at hfa hsucc hR
        obtain ⟨P, eP⟩ : ∃ P, P = X[a]?.getD 0 := ⟨_, rfl⟩
        rw [← eP] at hsucc
        have hal : a < Ta.length := by rw [hfa.1]; omega
        have hRz : Hid (R2S wr w.heap.size S (.slice (some ⟨g, 0, none⟩) R cap) (halfT P Y Ta a 0)) := Lib.hid (by rw [halfT_zero P Y Ta a hal]; exact hR.out)
        have HFA := Lib.hid hfa
        have HAL := Lib.hid hal
        have HP := Lib.hid eP
        have HSU := Lib.hid hsucc
        clear hfa hal eP hsucc eTa hR
        go_wp2
        go_loopw [12] (fun j wr => ∃ b : Nat, b ≤ ly ∧ j = .int .i64 b ∧ Hid (R2S wr w.heap.size S (.slice (some ⟨g, 0, none⟩) R cap) (halfT P Y Ta a b)) ∧ Hid (Row wr S (.slice (some ⟨gx, 0, none⟩) lx cx) X) ∧ Hid (Row wr S (.slice (some ⟨gy, 0, none⟩) ly cy) Y) ∧ Hid (Below w.heap.size w wr)) (fun j _ => ly - (intOf j).toNat)
        case atStart => exact ⟨0, Nat.zero_le _, rfl, hRz, hx, hy, hb⟩
        case round =>
          obtain ⟨j, hj, rfl, hR, hx, hy, hb⟩ := hrel
          by_cases hjl : j < ly
          · have hhl := halfT_len P Y Ta a j
            have hha := halfT_at P Y Ta a j HAL.out
            have hhs := halfT_succ P Y Ta a j HAL.out
            have hrl : (addRow P Y (Ta[a]?.getD []) j).length = m := by rw [addRow_length]; exact HFA.out.2 a (by have := HFA.out.1; have := HAL.out; omega)
            obtain ⟨u, hcu, hru, hub⟩ := hR.out.at a (by rw [hhl]; exact HAL.out)
            rw [hha] at hru
            rw [hha] at hhs
            have hjr : j < (addRow P Y (Ta[a]?.getD []) j).length := by omega
            obtain ⟨b, cu, rfl⟩ : ∃ b cu, u = .slice (some ⟨b, 0, none⟩) m cu := by
              obtain ⟨A5, c5, e5, hA5⟩ := hru.see
              obtain ⟨b, eb5, _⟩ := hA5 j hjr
              exact ⟨b, c5, by rw [e5, eb5, hrl]⟩
            have hbS := hub b rfl
            have hbb : w.heap.size ≤ b := (hru.lt b rfl).1
            have hcj := hru.cellAt j hjr
            have hfj := hru.frozenAt j hjr
            obtain ⟨zz, ezz⟩ : ∃ zz, zz = (addRow P Y (Ta[a]?.getD []) j)[j]?.getD 0 := ⟨_, rfl⟩
            rw [← ezz] at hcj hhs
            obtain ⟨Q, eQ⟩ : ∃ Q, Q = Y[j]?.getD 0 := ⟨_, rfl⟩
            rw [← eQ] at hhs
            have hcx : wr.cell? ⟨gx, a, none⟩ = some (.int .i64 P) := by rw [HP.out]; exact hx.out.cellAt a (by have := HLEN.out.1; omega)
            have hcy : wr.cell? ⟨gy, j, none⟩ = some (.int .i64 Q) := by rw [eQ]; exact hy.out.cellAt j (by have := HLEN.out.2; omega)
            have hset := (hR.out.step ((Below.refl S wr).drew)).set2 a (by rw [hhl]; exact HAL.out) hcu j (by rw [hha]; exact hjr) (wrap64 (zz + wrap64 (P * Q)))
            rw [hha, ← hhs] at hset
            have gz : wr.grownBy (wr.drew.setCell ⟨b, j, none⟩ (.int .i64 (wrap64 (zz + wrap64 (P * Q))))) (some b) := grown_set (grown_drew (World.grownBy.refl wr (some b))) j _
            have HR2 := Lib.hid hset
            have HX2 := Lib.hid (row_step hx.out hbS gz)
            have HY2 := Lib.hid (row_step hy.out hbS gz)
            have HB2 := Lib.hid ((hb.out.drew).setCell (p := ⟨b, j, none⟩) hbb (.int .i64 (wrap64 (zz + wrap64 (P * Q)))))
            have hi1 : (0 : Int) ≤ (a : Int) ∧ (a : Int) < (R : Int) := by have := ER.out; omega
            have hi2 : (0 : Int) ≤ (a : Int) ∧ (a : Int) < (lx : Int) := by omega
            have hj1 : (0 : Int) ≤ (j : Int) ∧ (j : Int) < (m : Int) := by omega
            have hj2 : (0 : Int) ≤ (j : Int) ∧ (j : Int) < (ly : Int) := by omega
            have dcu : wr.drew.cell? ⟨g, a, none⟩ = some (.slice (some ⟨b, 0, none⟩) m cu) := hcu
            have dcj : wr.drew.cell? ⟨b, j, none⟩ = some (.int .i64 zz) := hcj
            have dfj : wr.drew.frozen? ⟨b, j, none⟩ = false := hfj
            have dcx : wr.drew.cell? ⟨gx, a, none⟩ = some (.int .i64 P) := hcx
            have dcy : wr.drew.cell? ⟨gy, j, none⟩ = some (.int .i64 Q) := hcy
            clear hhl hha hhs hrl hru hub hjr hset gz ezz eQ hbS hbb hR hx hy hb
            go_wp2
            go_still_tail 23, (by kernel_rfl)
            change wpList _ _ _ _ _ wr.drew
            go_wp2
            go_roundw
            case rel => exact ⟨j + 1, by omega, by go_num, HR2, HX2, HY2, HB2⟩
            case measure => simp [intOf]; omega
          · have hje : j = ly := by omega
            subst hje
            have hR2 : Hid (R2S wr w.heap.size S (.slice (some ⟨g, 0, none⟩) R cap) (addRows X Y T (a + 1))) := Lib.hid (by rw [HSU.out]; exact hR.out)
            go_wp2
            go_roundw
            case rel => exact ⟨a + 1, by omega, by go_num, hR2, hx, hy, hb⟩
            case measure => simp [intOf]; omega
      · have hae : a = lx := by omega
        have hRf : R2 wr w.heap.size (.slice (some ⟨g, 0, none⟩) R cap) T' := by
          have h0 := hR.out.r2
          rw [hae, ← HST.out] at h0
          exact h0
        have hFf : FormT r m T' := by rw [HST.out]; exact addRows_form hft.out lx
        have HRf := Lib.hid hRf
        have HFf := Lib.hid hFf
        clear hRf hFf hR hae hx hy
        by_cases h0 : s = 0
        · subst h0
          have hfin := Lib.hid (show T' = setsS C from HSP.out)
          go_wp2
          go_ret2
          exact ⟨_, rfl, by rw [← hfin.out]; exact HRf.out, hb.out⟩
        · have hd : ((s : Int) == 0) = false := by simp; omega
          have hs2 := Lib.hid (show smFrom C f' q T' = setsS C by have h := HSP.out; rwa [if_neg h0] at h)
          have hk2 := Lib.hid (show okFromR C f' q = true from HOK2.out.elim (fun h => absurd h h0) id)
          have hop2 := HOP.out (by omega)
          have hlt := HLT.out h0
          have hw1 := wrap_pred h0 hsN2
          go_wp2
          go_roundw
          case rel => exact ⟨q, f', T', HAND.out, rfl, hk2, hs2, HFf, HRf, hb⟩
          case measure => simp [intOf]; omega
end Go.Proofs.YtdhpamemkkfhhaaDoor

/- TutteTrees, by the program and by the model, at all lists. -/



namespace Go.Proofs.YtdhpamemkkfhhaaDoor
open Go Go.RowKit
set_option linter.unusedVariables false
set_option maxRecDepth 100000

theorem implTrees_no (B : Nat) (v : Value) (L : List Int) (ht : ¬ IsT L) (w : World) (h : Row w B v L) (hT : Tab w) :
    Calls Tryd.prog 26 #[v] w (ToldR w [] false) := by
  have H1 := Lib.hid (asT_no B v L ht w h hT)
  clear h hT ht
  go_enter Tryd.func26, Tryd.ntmps26
  go_wp2_with fail
  go_enter Tryd.func42, Tryd.ntmps42
  go_wp2_with fail
  refine H1.out.mono ?_
  rintro e w1 ⟨rfl, b1⟩
  go_wp2
  go_ret2
  exact ⟨_, rfl, ⟨[], World.ownsRow_nil _ _ _ _, rfl, (fun k hk => absurd hk (by simp)), (fun i j gg hi => absurd hi (by simp))⟩, b1⟩
theorem implTrees_yes (B : Nat) (v : Value) (L : List Int) (ht : IsT L) (w : World) (h : Row w B v L) (hT : Tab w) :
    Calls Tryd.prog 26 #[v] w (ToldR w (treesS (codeOf L)) true) := by
  have h2 := hT.lt
  have hCl := code_ltN ht
  have hle := codesN_le L.length
  have hf := forT_facts (C := codeOf L) (by omega)
  have H1 := Lib.hid (asT_yes B v L ht w h hT)
  obtain ⟨A, c, rfl, hs⟩ := h.seen
  have H2 := Lib.hid (fun w1 (b : Below w.heap.size w w1) => callsIn_wide.1 (treesT_in A c L ht w1 (hs.below b) (hT.below b (by omega))))
  have H3 := Lib.hid (fun w1 (b : Below w.heap.size w w1) u (hu : TV w1 u (treesP (codeOf L))) => rowsOf_any A c L ht u (treesP (codeOf L)) hf.2.1 hf.2.2.1 w1 (hs.below b) (hT.below b (by omega)) hu)
  rw [hf.2.2.2] at H3
  obtain ⟨n, hn⟩ : ∃ n, n = L.length := ⟨_, rfl⟩
  rw [← hn] at H1 H2 H3 ⊢
  clear h hs hT ht hn hCl hle hf
  go_enter Tryd.func26, Tryd.ntmps26
  go_wp2_with fail
  go_enter Tryd.func42, Tryd.ntmps42
  go_wp2_with fail
  refine H1.out.mono ?_
  rintro e w1 ⟨rfl, b1⟩
  go_wp2_with fail
  refine (H2.out w1 b1).mono ?_
  rintro e w2 ⟨v2, rfl, hv2, b2'⟩
  have b2 := b1.trans (b2'.mono b1.size)
  have HV := Lib.hid hv2
  clear hv2 b2'
  go_wp2_with fail
  refine (H3.out w2 b2 v2 HV.out).mono ?_
  rintro e w3 ⟨v3, rfl, hv3, b3'⟩
  have HR := Lib.hid (hv3.mono b2.size)
  have b3 := Lib.hid (b2.trans (b3'.mono b2.size))
  clear hv3 b3'
  go_wp2
  go_ret2
  exact ⟨_, rfl, HR.out, b3.out⟩
theorem form_small {r m : Nat} {T : List (List Int)} (h : FormT r m T) (hr : r ≤ 4) (hm : m ≤ 16) : T.length ≤ 100 ∧ RowsLe T 100 := by
  refine ⟨by have := h.1; omega, fun k => ?_⟩
  by_cases hk : k < r + 1
  · rw [h.2 k hk]; omega
  · rw [List.getElem?_eq_none (by have := h.1; omega)]; simp
theorem form_from {C r m : Nat} (f : Nat) : ∀ (s : Nat) (T : List (List Int)), FormT r m T → FormT r m (spFrom C f s T) := by
  induction f with
  | zero => intro s T h; exact h
  | succ f ih =>
    intro s T h
    have h2 : FormT r m (spStep C T s) := by
      unfold spStep
      split
      · exact form_inc h _ _
      · exact h
    unfold spFrom
    split
    · exact h2
    · exact ih _ _ h2
theorem treesS_small {L : List Int} (ht : IsT L) : (treesS (codeOf L)).length ≤ 100 ∧ RowsLe (treesS (codeOf L)) 100 := by
  have hCl := code_ltN ht
  have hle := codesN_le L.length
  have hrs := rank_size (C := codeOf L) (by omega)
  have hpl := pcf_le 15 (codeOf L)
  exact form_small (form_from 1024 (codeOf L) _ (form_zero (rkT (codeOf L)) (pcf 15 (codeOf L)))) hrs.2 (by omega)
theorem tutteTrees_both (L : List Int) : ∃ (T : List (List Int)) (ok : Bool), (T.length ≤ 100 ∧ RowsLe T 100) ∧
    (∀ B v w, Row w B v L → Calls Tryd.prog 25 #[v] w (ToldR w T ok)) ∧
    (∀ B v w, Row w B v L → Tab w → Calls Tryd.prog 26 #[v] w (ToldR w T ok)) := by
  by_cases ht : IsT L
  · exact ⟨_, true, treesS_small ht, fun B v w h => specTreesF_yes B v L ht w h, fun B v w h hT => implTrees_yes B v L ht w h hT⟩
  · exact ⟨[], false, ⟨by simp, fun k => by simp⟩, fun B v w h => specTreesF_no B v L ht w h, fun B v w h hT => implTrees_no B v L ht w h hT⟩
end Go.Proofs.YtdhpamemkkfhhaaDoor

/- TutteSets, by the program and by the model, at all lists. -/




namespace Go.Proofs.YtdhpamemkkfhhaaDoor
open Go Go.RowKit
set_option linter.unusedVariables false
set_option maxRecDepth 100000

theorem implSets_no (B : Nat) (v : Value) (L : List Int) (ht : ¬ IsT L) (w : World) (h : Row w B v L) (hT : Tab w) :
    Calls Tryd.prog 16 #[v] w (ToldR w [] false) := by
  have H1 := Lib.hid (asT_no B v L ht w h hT)
  clear h hT ht
  go_enter Tryd.func16, Tryd.ntmps16
  go_wp2_with fail
  go_enter Tryd.func42, Tryd.ntmps42
  go_wp2_with fail
  refine H1.out.mono ?_
  rintro e w1 ⟨rfl, b1⟩
  go_wp2
  go_ret2
  exact ⟨_, rfl, ⟨[], World.ownsRow_nil _ _ _ _, rfl, (fun k hk => absurd hk (by simp)), (fun i j gg hi => absurd hi (by simp))⟩, b1⟩
theorem implSets_yes (B : Nat) (v : Value) (L : List Int) (ht : IsT L) (w : World) (h : Row w B v L) (hT : Tab w) :
    Calls Tryd.prog 16 #[v] w (ToldR w (setsS (codeOf L)) true) := by
  have h2 := hT.lt
  have hCl := code_ltN ht
  have hle := codesN_le L.length
  have hf := sets_facts (C := codeOf L) (by omega)
  have H1 := Lib.hid (asT_yes B v L ht w h hT)
  obtain ⟨A, c, rfl, hs⟩ := h.seen
  have H2 := Lib.hid (fun w1 (b : Below w.heap.size w w1) => callsIn_wide.1 (setsT_in A c L ht w1 (hs.below b) (hT.below b (by omega))))
  have H3 := Lib.hid (fun w1 (b : Below w.heap.size w w1) u (hu : TV w1 u (setsP (codeOf L))) => rowsOf_any A c L ht u (setsP (codeOf L)) hf.2.1 hf.2.2.1 w1 (hs.below b) (hT.below b (by omega)) hu)
  rw [hf.2.2.2] at H3
  obtain ⟨n, hn⟩ : ∃ n, n = L.length := ⟨_, rfl⟩
  rw [← hn] at H1 H2 H3 ⊢
  clear h hs hT ht hn hCl hle hf
  go_enter Tryd.func16, Tryd.ntmps16
  go_wp2_with fail
  go_enter Tryd.func42, Tryd.ntmps42
  go_wp2_with fail
  refine H1.out.mono ?_
  rintro e w1 ⟨rfl, b1⟩
  go_wp2_with fail
  refine (H2.out w1 b1).mono ?_
  rintro e w2 ⟨v2, rfl, hv2, b2'⟩
  have b2 := b1.trans (b2'.mono b1.size)
  have HV := Lib.hid hv2
  clear hv2 b2'
  go_wp2_with fail
  refine (H3.out w2 b2 v2 HV.out).mono ?_
  rintro e w3 ⟨v3, rfl, hv3, b3'⟩
  have HR := Lib.hid (hv3.mono b2.size)
  have b3 := Lib.hid (b2.trans (b3'.mono b2.size))
  clear hv3 b3'
  go_wp2
  go_ret2
  exact ⟨_, rfl, HR.out, b3.out⟩
theorem form_sets {C r m : Nat} (f : Nat) : ∀ (s : Nat) (T : List (List Int)), FormT r m T → FormT r m (smFrom C f s T) := by
  induction f with
  | zero => intro s T h; exact h
  | succ f ih =>
    intro s T h
    have h2 : FormT r m (smStep C T s) := addRows_form h _
    unfold smFrom
    split
    · exact h2
    · exact ih _ _ h2
theorem setsS_small {L : List Int} (ht : IsT L) : (setsS (codeOf L)).length ≤ 100 ∧ RowsLe (setsS (codeOf L)) 100 := by
  have hCl := code_ltN ht
  have hle := codesN_le L.length
  have hrs := rank_size (C := codeOf L) (by omega)
  have hpl := pcf_le 15 (codeOf L)
  exact form_small (form_sets 1024 (codeOf L) _ (form_zero (rkT (codeOf L)) (pcf 15 (codeOf L)))) hrs.2 (by omega)
theorem tutteSets_both (L : List Int) : ∃ (T : List (List Int)) (ok : Bool), (T.length ≤ 100 ∧ RowsLe T 100) ∧
    (∀ B v w, Row w B v L → Calls Tryd.prog 15 #[v] w (ToldR w T ok)) ∧
    (∀ B v w, Row w B v L → Tab w → Calls Tryd.prog 16 #[v] w (ToldR w T ok)) := by
  by_cases ht : IsT L
  · exact ⟨_, true, setsS_small ht, fun B v w h => specSetsF_yes B v L ht w h, fun B v w h hT => implSets_yes B v L ht w h hT⟩
  · exact ⟨[], false, ⟨by simp, fun k => by simp⟩, fun B v w h => specSetsF_no B v L ht w h, fun B v w h hT => implSets_no B v L ht w h hT⟩
end Go.Proofs.YtdhpamemkkfhhaaDoor

/- The law FnExactTutteSets returns true at each list, and leaves all that was there as it was; out of what the two functions tell. -/





namespace Go.Proofs.YtdhpamemkkfhhaaDoor
open Go.RowKit
set_option linter.unusedVariables false
set_option maxRecDepth 100000

set_option maxHeartbeats 800000 in
theorem lawTutteSets_long (A : Option Addr) (n c : Nat) (w : World) (h : 1048576 < n) (hm : n ≤ maxLen) :
    Calls Tryd.prog 4 #[.slice A n c] w (Fine w) := by
  unfold maxLen at hm
  have hd : decide ((1048576 : Int) < (n : Int)) = true := by simp; omega
  go_enter Tryd.func4, Tryd.ntmps4
  go_wp2
  go_ret
  exact ⟨rfl, Below.refl _ _⟩

set_option maxHeartbeats 2000000 in
theorem lawTutteSets_of (A : Option Addr) (c : Nat) (L : List Int) (w : World) (h : Seen w A L) (hT : Tab w) (hs : L.length ≤ 1048576) (T : List (List Int)) (ok : Bool) (hl : T.length ≤ 100) (hr : RowsLe T 100)
    (hS : ∀ B v w, Row w B v L → Calls Tryd.prog 15 #[v] w (ToldR w T ok))
    (hI : ∀ B v w, Row w B v L → Tab w → Calls Tryd.prog 16 #[v] w (ToldR w T ok)) :
    Calls Tryd.prog 4 #[.slice A L.length c] w (Fine w) := by
  have h2 := hT.lt
  have hd : decide ((1048576 : Int) < (L.length : Int)) = false := by simp; omega
  have HS := Lib.hid hS
  have HI := Lib.hid hI
  have HT := Lib.hid hT
  have H := Lib.hid h
  have HL := Lib.hid hl
  have HR := Lib.hid hr
  have HR2 : Hid (RowsLe T 1000) := Lib.hid (fun k => Nat.le_trans (hr k) (by omega))
  have htl : totL T T.length ≤ 10000 := Nat.le_trans (totL_le hr T.length) (Nat.mul_le_mul_right 100 hl)
  have HTOT : Hid (∀ B v w, R2 w B v (mkT T 1 T.length) → Calls Tryd.prog 20 #[v, .int .i64 1] w fun e w' => e = .returned (.int .i64 (1 + totL T T.length)) ∧ w = w') := Lib.hid (fun B v w h => heldSS_any B v T w h hl hr)
  have HMK : Hid (∀ B v w, B ≤ w.heap.size → R2 w B v T → Calls Tryd.prog 19 #[v, .int .i64 1] w (SaidMarkSS w B v 1 T)) := Lib.hid (fun B v w hB h => markSS_any B v T w hB h hl hr)
  unfold SaidMarkSS at HMK
  obtain ⟨N, hN⟩ : ∃ N, N = totL T T.length := ⟨_, rfl⟩
  rw [← hN] at HTOT HMK htl
  have hlt2 : decide ((1 : Int) + (N : Int) < 0) = false := by simp; omega
  clear hS hI hT h hl hr hN htl
  cases ok
  all_goals
    go_enter Tryd.func4, Tryd.ntmps4
    go_wp2_with fail
    refine (to_seen A c L _ hs H.out).mono ?_
    rintro e w1 ⟨v0, rfl, r0, b1⟩
    go_wp2_with fail
    refine (HS.out _ v0 _ r0).mono ?_
    rintro e w2 ⟨u0, rfl, ru, bb2⟩
    have b2 := b1.trans (bb2.mono b1.size)
    have US2 := ru.s
    go_wp2_with fail
    refine (to_seen A c L _ hs (H.out.below b2)).mono ?_
    rintro e w3 ⟨x0, rfl, rx, bb3⟩
    have b3 := b2.trans (bb3.mono b2.size)
    have s23 : w2.heap.size ≤ w3.heap.size := bb3.size
    have US3 := US2.step bb3
    go_wp2_with fail
    refine (HI.out _ x0 _ rx (HT.out.below b3 (by omega))).mono ?_
    rintro e w4 ⟨g0, rfl, rg, bb4⟩
    have b4 := b3.trans (bb4.mono b3.size)
    have s34 : w3.heap.size ≤ w4.heap.size := bb4.size
    have LX := Lib.hid rx.lt
    have US4 := US3.step (bb4.mono s23)
    have rx4 := rx.below bb4
    go_wp2_with fail
    refine (eqSS_yes _ _ g0 u0 T _ rg US4.r2 (Nat.le_trans HL.out (by omega)) HR2.out).mono ?_
    rintro e w5 ⟨rfl, d1, rfl⟩
    have b5 := below_drewN b4 d1
    go_wp2_with fail
    refine (to_seen A c L _ hs (H.out.below b5)).mono ?_
    rintro e w6 ⟨y1, rfl, ry, bb6⟩
    have b6 := b5.trans (bb6.mono b5.size)
    have s46 : w4.heap.size ≤ w6.heap.size := bb6.size
    have US6 := (US4.drewN d1).step (bb6.mono (Nat.le_trans s23 s34))
    have rx6 := (rx4.drewN d1).below bb6
    have rg6 := (rg.drewN d1).below bb6
    go_wp2_with fail
    refine (eq_yes _ _ x0 y1 L _ rx6 ry hs).mono ?_
    rintro e w7 ⟨rfl, d2, rfl⟩
    have b7 := below_drewN b6 d2
    go_wp2_with fail
    refine (mark_any _ x0 L 1 _ (by omega) (by omega) (by omega) (rx6.drewN d2)).mono ?_
    rintro e w8 ⟨rfl, _, hg8⟩
    have s68 : w6.heap.size ≤ w8.heap.size := hg8.size
    have US8 := (US6.drewN d2).step (Below.grown (Below.refl _ _) hg8 (Nat.le_trans s23 (Nat.le_trans s34 s46)) (fun k hk => (LX.out k hk).1))
    have rg8 := (rg6.drewN d2).keep hg8 (fun k hk => (LX.out k hk).2)
    have b8 : Below w.heap.size w w8 := Below.grown b7 hg8 b7.size (fun k hk => Nat.le_trans b2.size (LX.out k hk).1)
    have hlt1 : decide ((1 : Int) + (L.length : Int) < 0) = false := by simp; omega
    go_wp2_with fail
    refine (eqSS_yes _ _ g0 u0 T _ rg8 US8.r2 (Nat.le_trans HL.out (by omega)) HR2.out).mono ?_
    rintro e w9 ⟨rfl, d3, rfl⟩
    have b9 := below_drewN b8 d3
    go_wp2_with fail
    refine (HMK.out _ g0 (w8.drewN d3) (Nat.le_trans s34 (Nat.le_trans s46 s68)) (rg8.drewN d3)).mono ?_
    rintro e w10 ⟨rfl, rgm, bb10⟩
    have US10 := (US8.drewN d3).step (bb10.mono s23)
    have b10 := b9.trans (bb10.mono b3.size)
    have s810 : w8.heap.size ≤ w10.heap.size := bb10.size
    go_wp2_with fail
    refine (HTOT.out _ g0 _ rgm).mono ?_
    rintro e w11 ⟨rfl, rfl⟩
    go_wp2_with fail
    refine (to_seen A c L _ hs (H.out.below b10)).mono ?_
    rintro e w12 ⟨z1, rfl, rz, bb12⟩
    have b12 := b10.trans (bb12.mono b10.size)
    have s1012 : w10.heap.size ≤ w12.heap.size := bb12.size
    have US12 := US10.step (bb12.mono (by omega))
    go_wp2_with fail
    refine (HI.out _ z1 _ rz (HT.out.below b12 (by omega))).mono ?_
    rintro e w13 ⟨h0, rfl, rh, bb13⟩
    have b13 := b12.trans (bb13.mono b12.size)
    have US13 := US12.step (bb13.mono (by omega))
    have rg13 := (rgm.below bb12).below bb13
    go_wp2_with fail
    refine (eqSS_yes _ _ h0 u0 T _ rh US13.r2 (Nat.le_trans HL.out (by omega)) HR2.out).mono ?_
    rintro e w14 ⟨rfl, d4, rfl⟩
    go_wp2_with fail
    refine (HTOT.out _ g0 _ (rg13.drewN d4)).mono ?_
    rintro e w15 ⟨rfl, rfl⟩
    go_wp2
    go_ret
    exact ⟨rfl, below_drewN b13 d4⟩
theorem lawTutteSets_short (A : Option Addr) (c : Nat) (L : List Int) (w : World) (h : Seen w A L) (hT : Tab w) (hs : L.length ≤ 1048576) :
    Calls Tryd.prog 4 #[.slice A L.length c] w (Fine w) := by
  obtain ⟨T, ok, ⟨q1, q2⟩, q3, q4⟩ := tutteSets_both L
  exact lawTutteSets_of A c L w h hT hs T ok q1 q2 q3 q4
end Go.Proofs.YtdhpamemkkfhhaaDoor
