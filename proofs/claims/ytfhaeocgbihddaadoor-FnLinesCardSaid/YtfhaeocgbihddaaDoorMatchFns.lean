/- The program's SetMatch and SetLines, and their methods. -/
import Derived.Test.YtfhaeocgbihddaaDoorAboutFn
import Derived.Test.YtfhaeocgbihddaaDoorBaseS
import Derived.Test.YtfhaeocgbihddaaDoorBaseA
namespace Go.Proofs.YtfhaeocgbihddaaDoor
open Go Go.RowKit
set_option linter.unusedVariables false
set_option maxRecDepth 100000

theorem eql_pair2 (a q E : Int) (W : World) : (binOp .eql 67 (.agg (prC a E)) (.agg (prC q E))).run Tryd.prog W = .ok (.bool (a == q)) W := by
  have ht : Tryd.prog.underlying 67 = some (.struct (Tryd.prog.fieldsOf 67)) := by kernel_rfl
  have hp : Tryd.prog.stoodInHeld 67 = false := by kernel_rfl
  have hi : Tryd.prog.underlying 3 = some (.int .i64) := Tryd.underlying3
  rw [run_eql_struct, run_equalIn_agg _ 9999 _ _ _ ht hp]
  have h3 : ∀ W, (isAgg 3).run Tryd.prog W = .ok false W := fun W => by kernel_rfl
  unfold Program.fieldsOf
  rw [Tryd.underlying67]
  simp [Op.eqFields, part, h3, run_equalIn_int _ _ _ _ _ _ _ hi]
  by_cases h : a = q <;> simp [h]
theorem build_pair2 (x y : Int) (W : World) : (Instr.build 67 #[(0, .int .i64 x), (1, .int .i64 y)]).run Tryd.prog W = .ok (.agg (prC x y)) W := by kernel_rfl
theorem fieldv_pair (x y : Int) (W : World) : (Instr.field 67 (.agg (prC x y)) 0).run Tryd.prog W = .ok (.int .i64 x) W := by kernel_rfl
theorem about_nd {L : List Int} (hg : IsGraph L) {E : Nat} (hE : E &&& codeOf L = E) : abt E (edgesIn L (rows L.length)) = nd (esL L.length E) := by rw [abt_nd, esL_edges hg hE]

theorem isMatching_fn (A : Option Addr) (c : Nat) (L : List Int) (hg : IsGraph L) (E : Nat) (hE : E &&& codeOf L = E) (w : World) (h : Seen w A L) :
    Calls Tryd.prog 61 #[.slice A L.length c, .int .i64 E] w fun e w' => e = .returned (.bool (matchB L E)) ∧ Below w.heap.size w w' := by
  have h6 := hg.2.1
  have hC : codeOf L < 32768 := crun_small L _ (rows_length _ h6)
  have h15 : E < 32768 := Nat.lt_of_le_of_lt (sub_le hE) hC
  have HW := Lib.hid (callsIn_wide.1 (about_in A c L hg E h15 w h))
  rw [about_nd hg hE] at HW
  have hM : matchB L E = (pcf 15 (nd (esL L.length E)) == 2 * pcf 15 E) := rfl
  have hn64 := nd_lt (rows_prs h6 (esL_rows L.length E))
  obtain ⟨n, hn⟩ : ∃ n, n = L.length := ⟨_, rfl⟩
  rw [← hn] at HW hM hn64 ⊢
  obtain ⟨D, eD⟩ : ∃ D, D = nd (esL n E) := ⟨_, rfl⟩
  rw [← eD] at HW hM hn64
  have H1 := Lib.hid (fun w => onesC D (by omega) w)
  have H2 := Lib.hid (fun w => onesC E h15 w)
  have g1 := pcf_le 15 D
  have g2 := pcf_le 15 E
  obtain ⟨p, ep⟩ : ∃ p, p = pcf 15 D := ⟨_, rfl⟩
  obtain ⟨q, eq⟩ : ∃ q, q = pcf 15 E := ⟨_, rfl⟩
  rw [← ep] at H1 hM g1
  rw [← eq] at H2 hM g2
  have hcv1 : IntKind.u64.wrap (D : Int) = (D : Int) := by simp [IntKind.wrap, IntKind.bits, IntKind.signed]; omega
  have hcv2 : IntKind.u64.wrap (E : Int) = (E : Int) := by simp [IntKind.wrap, IntKind.bits, IntKind.signed]; omega
  have hfd := fieldv_pair (D : Int) (E : Int)
  have HM := Lib.hid hM
  clear hg h hn eD ep eq hM hE hC h6
  go_enter Tryd.func61, Tryd.ntmps61
  go_wp2_with fail
  refine HW.out.mono ?_
  rintro e w1 ⟨rfl, b1⟩
  go_wp2_with fail
  refine (H1.out _).mono ?_
  rintro e w2 ⟨rfl, rfl⟩
  go_wp2_with fail
  refine (H2.out _).mono ?_
  rintro e w3 ⟨rfl, rfl⟩
  go_wp2
  go_ret
  refine ⟨?_, b1⟩
  rw [HM.out]
  show Ending.returned (.bool ((p : Int) == 2 * (q : Int))) = Ending.returned (.bool (p == 2 * q))
  rw [show ((p : Int) == 2 * (q : Int)) = (p == 2 * q) from by rw [Bool.eq_iff_iff, beq_iff_eq, beq_iff_eq]; omega]
theorem hasAll_fn (A : Option Addr) (c : Nat) (L : List Int) (hg : IsGraph L) (E : Nat) (hE : E &&& codeOf L = E) (w : World) (h : Seen w A L) :
    Calls Tryd.prog 64 #[.slice A L.length c, .int .i64 E] w fun e w' => e = .returned (.bool (coverEB L E)) ∧ Below w.heap.size w w' := by
  have h6 := hg.2.1
  have hC : codeOf L < 32768 := crun_small L _ (rows_length _ h6)
  have h15 : E < 32768 := Nat.lt_of_le_of_lt (sub_le hE) hC
  have hp := two_pos L.length
  obtain ⟨Q, hQ⟩ : ∃ Q, Q + 1 = 2 ^ L.length := ⟨2 ^ L.length - 1, by omega⟩
  have HA := Lib.hid (fun w => all_any A L.length c Q h6 hQ w)
  have HW := Lib.hid (callsIn_wide.1 (about_in A c L hg E h15 w h))
  rw [about_nd hg hE] at HW
  have hM : coverEB L E = (nd (esL L.length E) == Q) := by unfold coverEB; rw [show 2 ^ L.length - 1 = Q by omega]
  obtain ⟨n, hn⟩ : ∃ n, n = L.length := ⟨_, rfl⟩
  rw [← hn] at HW HA hM ⊢
  obtain ⟨D, eD⟩ : ∃ D, D = nd (esL n E) := ⟨_, rfl⟩
  rw [← eD] at HW hM
  have hbu := build_pair2 (Q : Int) (E : Int)
  have hel := eql_pair2 (D : Int) (Q : Int) (E : Int)
  have hgd := guard_pair
  have HM := Lib.hid hM
  clear hg h hn eD hM hE hC h6 hp hQ h15
  go_enter Tryd.func64, Tryd.ntmps64
  go_wp2_with fail
  refine HW.out.mono ?_
  rintro e w1 ⟨rfl, b1⟩
  go_wp2_with fail
  refine (HA.out _).mono ?_
  rintro e w2 ⟨rfl, rfl⟩
  go_wp2
  go_ret
  refine ⟨?_, b1⟩
  rw [HM.out]
  show Ending.returned (.bool ((D : Int) == (Q : Int))) = Ending.returned (.bool (D == Q))
  rw [show ((D : Int) == (Q : Int)) = (D == Q) from by rw [Bool.eq_iff_iff, beq_iff_eq, beq_iff_eq]; omega]
theorem sbL_length {C : Nat} (hC : C < 32768) : (sbL C).length ≤ 32768 := by
  have := (sbOf_len (s := 0) hC (by simp)).1
  rw [sbL_eq]
  omega

theorem match_fn (A : Option Addr) (c : Nat) (L : List Int) (hg : IsGraph L) (w : World) (h : Seen w A L) :
    Calls Tryd.prog 39 #[.slice A L.length c] w (NumA w (matN L)) := by
  have h6 := hg.2.1
  have hC : codeOf L < 32768 := crun_small L _ (rows_length _ h6)
  have HA := Lib.hid (callsIn_wide.1 (implCode_in A c L hg w h))
  have HS := Lib.hid (fun w1 (b : Below w.heap.size w w1) => callsIn_wide.1 (sizes_in (codeOf L) hC 61 (.slice A L.length c) (matchB L) w1 (enters_of Tryd.func61 (by kernel_rfl) rfl) (fun W s hb hs => isMatching_fn A c L hg s hs W ((h.below b).below hb))))
  have hm : IsMax (szs (matchB L) (sbL (codeOf L))) (matN L) := match_max hg
  have hl : (szs (matchB L) (sbL (codeOf L))).length ≤ 40000 := Nat.le_trans (szs_length _ _) (Nat.le_trans (sbL_length hC) (by decide))
  obtain ⟨C, eC⟩ : ∃ C, C = codeOf L := ⟨_, rfl⟩
  rw [← eC] at HA HS hm hl
  obtain ⟨zs, ez⟩ : ∃ zs, zs = szs (matchB L) (sbL C) := ⟨_, rfl⟩
  have h15 : ∀ x ∈ zs, x ≤ 15 := by rw [ez]; exact szs_le
  rw [← ez] at HS hm hl
  obtain ⟨m, em⟩ : ∃ m, m = matN L := ⟨_, rfl⟩
  rw [← em] at hm ⊢
  have HM := Lib.hid (fun A c w hs => slicesMax A c zs m hm h15 hl w hs)
  have hmf : ∀ (fn : Fn) (first cap : Array Value) (w : World), (Instr.makeFunc fn first cap).run Tryd.prog w = .ok (.func fn first cap) w := fun _ _ _ _ => rfl
  obtain ⟨n, hn⟩ : ∃ n, n = L.length := ⟨_, rfl⟩
  rw [← hn] at HA HS ⊢
  clear hg h h6 hC hm hl h15 ez em hn eC
  go_enter Tryd.func39, Tryd.ntmps39
  go_wp2_with fail
  refine HA.out.mono ?_
  rintro e w0 ⟨rfl, b0⟩
  have B0 := Lib.hid b0
  go_wp2_with fail
  refine (HS.out _ b0).mono ?_
  rintro e w1 ⟨v1, rfl, r1, b1⟩
  obtain ⟨A1, c1, rfl, s1⟩ := r1.seen
  go_wp2_with fail
  refine (HM.out _ _ _ s1).mono ?_
  rintro e w2 ⟨rfl, rfl⟩
  go_wp2
  go_ret
  exact ⟨rfl, B0.out.trans (b1.mono B0.out.size)⟩

theorem lines_fn (A : Option Addr) (c : Nat) (L : List Int) (hg : IsGraph L) (hi : ∀ v, v < L.length → ent L v ≠ 0) (w : World) (h : Seen w A L) :
    Calls Tryd.prog 43 #[.slice A L.length c] w (NumA w (L.length - matN L)) := by
  have h6 := hg.2.1
  have hC : codeOf L < 32768 := crun_small L _ (rows_length _ h6)
  have HA := Lib.hid (callsIn_wide.1 (implCode_in A c L hg w h))
  have HS := Lib.hid (fun w1 (b : Below w.heap.size w w1) => callsIn_wide.1 (sizes_in (codeOf L) hC 64 (.slice A L.length c) (coverEB L) w1 (enters_of Tryd.func64 (by kernel_rfl) rfl) (fun W s hb hs => hasAll_fn A c L hg s hs W ((h.below b).below hb))))
  have hm : IsMin (szs (coverEB L) (sbL (codeOf L))) (L.length - matN L) := (lines_min hg hi).2
  have hl : (szs (coverEB L) (sbL (codeOf L))).length ≤ 40000 := Nat.le_trans (szs_length _ _) (Nat.le_trans (sbL_length hC) (by decide))
  obtain ⟨C, eC⟩ : ∃ C, C = codeOf L := ⟨_, rfl⟩
  rw [← eC] at HA HS hm hl
  obtain ⟨zs, ez⟩ : ∃ zs, zs = szs (coverEB L) (sbL C) := ⟨_, rfl⟩
  have h15 : ∀ x ∈ zs, x ≤ 15 := by rw [ez]; exact szs_le
  rw [← ez] at HS hm hl
  obtain ⟨m, em⟩ : ∃ m, m = L.length - matN L := ⟨_, rfl⟩
  rw [← em] at hm ⊢
  have HM := Lib.hid (fun A c w hs => slicesMin A c zs m hm h15 hl w hs)
  have hmf : ∀ (fn : Fn) (first cap : Array Value) (w : World), (Instr.makeFunc fn first cap).run Tryd.prog w = .ok (.func fn first cap) w := fun _ _ _ _ => rfl
  obtain ⟨n, hn⟩ : ∃ n, n = L.length := ⟨_, rfl⟩
  rw [← hn] at HA HS ⊢
  clear hg h h6 hC hm hl h15 ez em hn eC
  go_enter Tryd.func43, Tryd.ntmps43
  go_wp2_with fail
  refine HA.out.mono ?_
  rintro e w0 ⟨rfl, b0⟩
  have B0 := Lib.hid b0
  go_wp2_with fail
  refine (HS.out _ b0).mono ?_
  rintro e w1 ⟨v1, rfl, r1, b1⟩
  obtain ⟨A1, c1, rfl, s1⟩ := r1.seen
  go_wp2_with fail
  refine (HM.out _ _ _ s1).mono ?_
  rintro e w2 ⟨rfl, rfl⟩
  go_wp2
  go_ret
  exact ⟨rfl, B0.out.trans (b1.mono B0.out.size)⟩

/-- Whether a list has a 0. -/
def HasZ (L : List Int) : Prop := ∃ k, k < L.length ∧ L[k]?.getD 0 = 0
set_option maxHeartbeats 1000000 in
theorem containsZ (A : Option Addr) (c : Nat) (L : List Int) (b : Bool) (hb : b = true ↔ HasZ L) (hl : L.length ≤ 1048576) (w : World) (h : Seen w A L) :
    Calls Tryd.prog 42 #[.slice A L.length c, .int .i64 0] w fun e w' => e = .returned (.bool b) ∧ w = w' := by
  obtain ⟨n, hn⟩ : ∃ n, n = L.length := ⟨_, rfl⟩
  have H : Hid (∀ k, k < n → ∃ b off, A = some ⟨b, off, none⟩ ∧ w.cell? ⟨b, off + k, none⟩ = some (.int .i64 (L[k]?.getD 0))) := Lib.hid fun k hk => by
    obtain ⟨b, off, a, _, hc⟩ := h k (by omega)
    exact ⟨b, off, a, hc⟩
  have HT : Hid (∀ k, k < n → L[k]?.getD 0 = 0 → b = true) := Lib.hid fun k hk hz => hb.2 ⟨k, by omega, hz⟩
  have HF : Hid ((∀ k, k < n → L[k]?.getD 0 ≠ 0) → b = false) := Lib.hid fun hz => by
    cases b with
    | false => rfl
    | true => obtain ⟨k, h1, h2⟩ := hb.1 rfl; exact absurd h2 (hz k (by omega))
  rw [← hn] at hl ⊢
  clear h hb hn
  go_enter Tryd.func42, Tryd.ntmps42
  go_wp2_with fail
  go_enter Tryd.func63, Tryd.ntmps63
  go_wp2
  go_loop [5, 8] (fun _ i => ∃ k : Nat, k ≤ n ∧ i = .int .i64 k ∧ Hid (∀ j, j < k → L[j]?.getD 0 ≠ 0)) (fun _ i => n - (intOf i).toNat)
  case atStart => exact ⟨0, Nat.zero_le _, rfl, Lib.hid fun j hj => absurd hj (by omega)⟩
  case round =>
    obtain ⟨k, hk, rfl, hz⟩ := hrel
    by_cases hlt : k < n
    · obtain ⟨b', off, rfl, hc⟩ := H.out k hlt
      have hT := HT.out k hlt
      have hnx : Hid (L[k]?.getD 0 ≠ 0 → ∀ j, j < k + 1 → L[j]?.getD 0 ≠ 0) := Lib.hid fun h0 j hj => by
        rcases Nat.lt_or_ge j k with hl | hl
        · exact hz.out j hl
        · rw [show j = k by omega]; exact h0
      obtain ⟨x, ex⟩ : ∃ x, x = L[k]?.getD 0 := ⟨_, rfl⟩
      rw [← ex] at hc hT hnx
      have hki : (0 : Int) ≤ (k : Int) ∧ (k : Int) < (n : Int) := by omega
      clear ex
      by_cases h0 : x = 0
      · have HB := Lib.hid (hT h0)
        have e0 : ((0 : Int) == x) = true := by rw [h0]; rfl
        have e1 : decide ((0 : Int) ≤ (k : Int)) = true := by simp
        clear hT hnx
        go_wp2
        go_ret
        exact ⟨by rw [HB.out]; rfl, rfl⟩
      · have HN := Lib.hid (hnx.out h0)
        have e0 : ((0 : Int) == x) = false := by simp; omega
        clear hT hnx
        go_wp2
        go_round
        case rel => exact ⟨k + 1, by omega, by go_num, HN⟩
        case measure => simp [intOf]; omega
    · have hke : k = n := by omega
      subst hke
      have HB := Lib.hid (HF.out hz.out)
      go_wp2
      go_ret
      exact ⟨by rw [HB.out]; rfl, rfl⟩

theorem implMa_yes (B : Nat) (v : Value) (L : List Int) (hg : IsGraph L) (w : World) (h : Row w B v L) (hT : Tab w) :
    Calls Tryd.prog 18 #[v] w (NumOkA w (matN L) true) := by
  have ht := hT.lt
  have H1 := Lib.hid (asG_graph B v L hg w h hT)
  obtain ⟨A, c, rfl, hs⟩ := h.seen
  have H2 := Lib.hid (fun w1 (b : Below w.heap.size w w1) => match_fn A c L hg w1 (hs.below b))
  obtain ⟨x, ex⟩ : ∃ x, x = matN L := ⟨_, rfl⟩
  rw [← ex] at H2 ⊢
  clear hg h hs hT ht ex
  go_enter Tryd.func18, Tryd.ntmps18
  go_wp2_with fail
  go_enter Tryd.func29, Tryd.ntmps29
  go_wp2_with fail
  refine H1.out.mono ?_
  rintro e w1 ⟨rfl, b1⟩
  go_wp2_with fail
  refine (H2.out _ b1).mono ?_
  rintro e w2 ⟨rfl, b2⟩
  go_wp2
  go_ret2
  exact ⟨rfl, b1.trans (b2.mono b1.size)⟩
theorem implMa_no (B : Nat) (v : Value) (L : List Int) (hg : ¬ IsGraph L) (w : World) (h : Row w B v L) (hT : Tab w) :
    Calls Tryd.prog 18 #[v] w (NumOkA w 0 false) := by
  have H1 := Lib.hid (asG_none B v L hg w h hT)
  clear hg h
  go_enter Tryd.func18, Tryd.ntmps18
  go_wp2_with fail
  go_enter Tryd.func29, Tryd.ntmps29
  go_wp2_with fail
  refine H1.out.mono ?_
  rintro e w1 ⟨rfl, b1⟩
  go_wp2
  go_ret2
  exact ⟨rfl, b1⟩

/-- No graph that has lines. -/
theorem nz_of {L : List Int} (hg : IsGraph L) (hz : ¬ HasZ L) : ∀ v, v < L.length → ent L v ≠ 0 := fun v hv h0 => hz ⟨v, hv, by rw [ent_int (hg.2.2 v hv).1, h0]; rfl⟩
theorem implLi_yes (B : Nat) (v : Value) (L : List Int) (hg : IsGraph L) (hz : ¬ HasZ L) (w : World) (h : Row w B v L) (hT : Tab w) :
    Calls Tryd.prog 22 #[v] w (NumOkA w (L.length - matN L) true) := by
  have ht := hT.lt
  have H1 := Lib.hid (asG_graph B v L hg w h hT)
  obtain ⟨A, c, rfl, hs⟩ := h.seen
  have H0 := Lib.hid (containsZ A c L false ⟨fun h => (by cases h), fun h => absurd h hz⟩ (Nat.le_trans hg.2.1 (by decide)) w hs)
  have H2 := Lib.hid (fun w1 (b : Below w.heap.size w w1) => lines_fn A c L hg (nz_of hg hz) w1 (hs.below b))
  obtain ⟨x, ex⟩ : ∃ x, x = L.length - matN L := ⟨_, rfl⟩
  rw [← ex] at H2 ⊢
  clear hg h hs hT ht ex hz
  go_enter Tryd.func22, Tryd.ntmps22
  go_wp2_with fail
  refine H0.out.mono ?_
  rintro e w0 ⟨rfl, rfl⟩
  go_wp2_with fail
  go_enter Tryd.func29, Tryd.ntmps29
  go_wp2_with fail
  refine H1.out.mono ?_
  rintro e w1 ⟨rfl, b1⟩
  go_wp2_with fail
  refine (H2.out _ b1).mono ?_
  rintro e w2 ⟨rfl, b2⟩
  go_wp2
  go_ret2
  exact ⟨rfl, b1.trans (b2.mono b1.size)⟩
theorem implLi_zero (B : Nat) (v : Value) (L : List Int) (hl : L.length ≤ 1048576) (hz : HasZ L) (w : World) (h : Row w B v L) (hT : Tab w) :
    Calls Tryd.prog 22 #[v] w (NumOkA w 0 false) := by
  obtain ⟨A, c, rfl, hs⟩ := h.seen
  have H0 := Lib.hid (containsZ A c L true ⟨fun _ => hz, fun _ => rfl⟩ hl w hs)
  clear h hs hT hz
  go_enter Tryd.func22, Tryd.ntmps22
  go_wp2_with fail
  refine H0.out.mono ?_
  rintro e w0 ⟨rfl, rfl⟩
  go_wp2
  go_ret2
  exact ⟨rfl, Below.refl _ _⟩
theorem implLi_no (B : Nat) (v : Value) (L : List Int) (hl : L.length ≤ 1048576) (hg : ¬ IsGraph L) (hz : ¬ HasZ L) (w : World) (h : Row w B v L) (hT : Tab w) :
    Calls Tryd.prog 22 #[v] w (NumOkA w 0 false) := by
  have H1 := Lib.hid (asG_none B v L hg w h hT)
  obtain ⟨A, c, rfl, hs⟩ := h.seen
  have H0 := Lib.hid (containsZ A c L false ⟨fun h => (by cases h), fun h => absurd h hz⟩ hl w hs)
  clear h hs hT hz hg
  go_enter Tryd.func22, Tryd.ntmps22
  go_wp2_with fail
  refine H0.out.mono ?_
  rintro e w0 ⟨rfl, rfl⟩
  go_wp2_with fail
  go_enter Tryd.func29, Tryd.ntmps29
  go_wp2_with fail
  refine H1.out.mono ?_
  rintro e w1 ⟨rfl, b1⟩
  go_wp2
  go_ret2
  exact ⟨rfl, b1⟩
end Go.Proofs.YtfhaeocgbihddaaDoor
