/- The polynomial by the model (l4Poly). -/
import Derived.Test.YtneglpklkmoclaaDoorPolyFn
import Derived.Test.YtneglpklkmoclaaDoorBaseA
import Derived.Test.YtneglpklkmoclaaDoorBaseG
import Derived.Test.YtneglpklkmoclaaDoorPutIn
import Derived.Deep.RegionHeldLaw
import Derived.WideShapes
import Derived.BigQuiet
namespace Go.Proofs.YtneglpklkmoclaaDoor
open Go Go.RowKit
attribute [local go_sem] Oper.semAt_some sl_true sl_false
set_option linter.unusedVariables false
set_option maxRecDepth 100000

/-- The list as the second loop leaves it after j rounds. -/
def pq (p : Nat → Int) (n : Nat) : Nat → List Int
  | 0 => ints (List.replicate (n + 1) 0)
  | j + 1 => pl p n j
theorem pq_length (p : Nat → Int) (n j : Nat) : (pq p n j).length = n + 1 := by
  cases j with
  | zero => show (ints _).length = _; rw [ints_length, List.length_replicate]
  | succ j => exact pl_length p n j
theorem pq_set (p : Nat → Int) (n j : Nat) (h : j ≤ n) : (pq p n j).set (n - j) (sg j * eN p j) = pq p n (j + 1) := by
  cases j with
  | zero => exact pl_start p n
  | succ j => exact pl_next p n j (by omega)
/-- A slot that is laid anew once its operation has come up. -/
def sw (b : Bool) (v u : Value) : Value := if b then v else u
theorem sw_true (v u : Value) : sw true v u = v := rfl
theorem sw_false (v u : Value) : sw false v u = u := rfl
attribute [local go_sem] sw_true sw_false
set_option maxHeartbeats 4000000 in
theorem specPoly_seen (A : Option Addr) (c : Nat) (L : List Int) (hg : IsGraph L) (w : World) (h : Seen w A L) :
    Calls Tryd.prog 46 #[.slice A L.length c] w (Gave w (polyL L)) := by
  have h1 := hg.1
  have h6 := hg.2.1
  have HC := Lib.hid (fun k hk w hs => specClosed_seen A c L hg k hk w hs)
  obtain ⟨p, ep⟩ : ∃ p, p = pN L := ⟨_, rfl⟩
  have hpd : ∀ i, ((closedN L i : Nat) : Int) = p i := fun i => by rw [ep]; rfl
  have hp := pN_abs L h6
  rw [← ep] at hp
  have hpo : polyL L = pl p L.length L.length := by rw [ep]; rfl
  have HTS := Lib.hid (fun k (hk : k < 6) => eT_small hp hk)
  have HNS := Lib.hid (fun k (hk : k ≤ 6) => eN_small hp hk)
  obtain ⟨n, hn⟩ : ∃ n, n = L.length := ⟨_, rfl⟩
  rw [← hn] at h1 h6 HC hpo ⊢
  rw [hpo]
  obtain ⟨N, eN'⟩ : ∃ N, N = n + 1 := ⟨_, rfl⟩
  have hmk := run_make_ints N (by omega)
  have HMR := Lib.hid (fun w => madeW_row w N (by omega))
  have HMB := Lib.hid (fun w => madeW_below w N)
  have hcn : ((n : Nat) : Int) + 1 = (N : Int) := by omega
  have HN := Lib.hid eN'
  have HPD := Lib.hid hpd
  have H := Lib.hid h
  have R0 : Hid (Row (w.alloc (.cells #[.int .i64 1] 3)) w.heap.size (.slice (some ⟨w.heap.size, 0, none⟩) 1 1) (eL p 0)) := Lib.hid
    (World.ownsRow_lit (base := w.heap.size) (e := 3) (size := 1) w #[.int .i64 1] 1 (Nat.le_refl _) (by unfold maxLen; omega) rfl)
  have B0 := Lib.hid ((Below.refl w.heap.size w).alloc (Nat.le_refl _) (.cells #[.int .i64 1] 3))
  clear hg h hn hpo ep hp hpd eN'
  go_enter Tryd.func46, Tryd.ntmps46
  go_wp2
  go_loopw [4, 5] (fun e i wr => ∃ k b cp : Nat, 1 ≤ k ∧ k ≤ N ∧ i = .int .i64 k ∧ e = .slice (some ⟨b, 0, none⟩) k cp ∧ Hid (Row wr w.heap.size (.slice (some ⟨b, 0, none⟩) k cp) (eL p (k - 1))) ∧ Hid (Below w.heap.size w wr)) (fun _ i _ => N - (intOf i).toNat)
  case atStart => exact ⟨1, _, _, by omega, by have := HN.out; omega, rfl, rfl, R0, B0⟩
  case round =>
    obtain ⟨k, b, cp, hk1, hkN, rfl, rfl, hr, hb⟩ := hrel
    by_cases hlt : k ≤ n
    · have hle : decide ((k : Int) ≤ (n : Int)) = true := decide_eq_true (by omega)
      obtain ⟨wo, ewo⟩ : ∃ wo : World, wo = wr := ⟨_, rfl⟩
      rw [← ewo] at hr hb ⊢
      have hlen : (eL p (k - 1)).length = k := by rw [eL_length]; omega
      have HLN := Lib.hid hlen
      clear R0 B0 ewo hlen
      go_wp2
      go_loopw [6, 7, 8] (fun s g i wr => ∃ i' : Nat, 1 ≤ i' ∧ i' ≤ k + 1 ∧ i = .int .i64 i' ∧ g = .int .i64 (sg (i' - 1)) ∧ s = .int .i64 (wrap64 (eT p k (i' - 1))) ∧ Hid (Below wo.heap.size wo wr)) (fun _ _ i _ => k + 1 - (intOf i).toNat)
      case atStart => exact ⟨1, by omega, by omega, rfl, rfl, by show _ = Value.int .i64 (wrap64 0); simp [wrap64], Lib.hid (Below.refl _ _)⟩
      case round =>
        obtain ⟨i, hi1, hik, rfl, rfl, rfl, hq⟩ := hrel
        by_cases hli : i ≤ k
        · have hle2 : decide ((i : Int) ≤ (k : Int)) = true := decide_eq_true (by omega)
          obtain ⟨d, ed⟩ : ∃ d, d = k - i := ⟨_, rfl⟩
          have hs1 : (k : Int) - (i : Int) = (d : Int) := by omega
          have hce : wr.cell? ⟨b, d, none⟩ = some (.int .i64 (eN p d)) := by
            have h := hr.out.cellAt d (by rw [HLN.out]; omega)
            have hbl := (hr.out.lt b rfl).2
            rw [hq.out.cell (p := ⟨b, d, none⟩) hbl, h, eL_get p (by omega)]
          have hbb : b < wr.heap.size := Nat.lt_of_lt_of_le (hr.out.lt b rfl).2 hq.out.size
          have hts := eT_succ p k (i - 1)
          rw [show i - 1 + 1 = i by omega, show k - 1 - (i - 1) = d by omega] at hts
          have hsn : sg i = - sg (i - 1) := by rw [show i = i - 1 + 1 by omega]; rfl
          have HCC := Lib.hid (fun w hs => HC.out i (by omega) w hs)
          have hpi := HPD.out i
          obtain ⟨cl, ecl⟩ : ∃ cl, cl = closedN L i := ⟨_, rfl⟩
          rw [← ecl] at HCC hpi
          have HSW := Lib.hid (fun W (hW : Below wr.heap.size wr W) => (H.out.below hb.out).below (hq.out.trans (hW.mono hq.out.size)))
          obtain ⟨T, eT'⟩ : ∃ T, T = wrap64 (eT p k (i - 1)) := ⟨_, rfl⟩
          obtain ⟨G, eG⟩ : ∃ G, G = sg (i - 1) := ⟨_, rfl⟩
          obtain ⟨E, eE⟩ : ∃ E, E = eN p d := ⟨_, rfl⟩
          have hnew : wrap64 (T + wrap64 (wrap64 (G * E) * (cl : Int))) = wrap64 (eT p k i) := by
            rw [wrap_mulL, wrap_addR, eT', wrap_addL, hts, eG, eE, hpi]
          rw [← eE] at hce
          rw [← eG] at hsn ⊢
          rw [← eT']
          obtain ⟨T2, eT2⟩ : ∃ T2, T2 = wrap64 (eT p k i) := ⟨_, rfl⟩
          rw [← eT2] at hnew
          obtain ⟨X, eX⟩ : ∃ X, X = IntKind.i64.wrap (G * E) := ⟨_, rfl⟩
          have hX : X = wrap64 (G * E) := by rw [eX, wrapK]
          rw [← hX] at hnew
          have HT2 := Lib.hid eT2
          have HSN := Lib.hid hsn
          have HNEW := Lib.hid hnew
          have hg1 := sg_or (i - 1)
          rw [← eG] at hg1
          have HG1 := Lib.hid hg1
          have HX := Lib.hid hX
          have hwd : IntKind.i64.wrap (d : Int) = (d : Int) := by rw [wrapK]; exact wrap_id (by omega) (by omega)
          have hdk : (0 : Int) ≤ (d : Int) ∧ (d : Int) < (k : Int) := by omega
          have hmx : Tryd.prog.follows .mixedOrders = true := by kernel_rfl
          have HBB := Lib.hid hbb
          have HCE := Lib.hid hce
          clear hg1 hts ecl eT' eG eE eT2 eX hX ed hpi hsn hnew hbb hce
          go_wp2
          refine (wpIn_wide (n := 9)).1 ?_
          refine wpIn_region_inv hmx (fun listed a W => ∃ b0 b1 b2 b3 b4 b5 b6 b7 b8 b9 b10 b11 b12 b13 b14 : Bool, listed = #[b0, b1, b2, b3, b4, b5, b6, b7, b8, b9, b10, b11, b12, b13, b14] ∧
            a = { tmps := #[.slice A n c, undef, .slice none 0 0, .int .i64 n, .slice (some ⟨b, 0, none⟩) k cp, .int .i64 k, sw b14 (.int .i64 (IntKind.i64.wrap (T + IntKind.i64.wrap (IntKind.i64.wrap (G * E) * (cl : Int))))) (.int .i64 T), .int .i64 G, .int .i64 i, undef, undef, undef, .slice A n c, .int .i64 n, .slice (some ⟨w.heap.size, 0, none⟩) 1 1, .int .i64 k, .int .i64 n, .bool true, u18, u19, .int .i64 i, .int .i64 k, .bool true, u23, u24, sw b0 (.int .i64 T) u25, sw b1 (.int .i64 G) u26, sw b2 (.slice (some ⟨b, 0, none⟩) k cp) u27, sw b3 (.int .i64 k) u28, sw b4 (.int .i64 i) u29, sw b5 (.int .i64 d) u30, sw b6 (.pointer (some ⟨b, d, none⟩)) u31, sw b7 (.int .i64 E) u32, sw b8 (.int .i64 (IntKind.i64.wrap (G * E))) u33, sw b9 (.slice A n c) u34, sw b10 (.int .i64 i) u35, sw b11 (.int .i64 (cl : Nat)) u36, sw b12 (.int .i64 (IntKind.i64.wrap (IntKind.i64.wrap (G * E) * (cl : Int)))) u37, sw b13 (.int .i64 (IntKind.i64.wrap (T + IntKind.i64.wrap (IntKind.i64.wrap (G * E) * (cl : Int))))) u38, u39, u40, u41, u42, u43, u44, u45, u46, undef, undef, undef, undef, undef, undef, undef, undef, undef, undef, undef, undef, undef, undef, undef, undef, undef, undef, undef, undef, undef, undef], defers := [] } ∧ (b14 = true → b0 = true) ∧ Below wr.heap.size wr W) ?h0 ?step ?hu ?hend
          case hu => decide +kernel
          case h0 => exact ⟨false, false, false, false, false, false, false, false, false, false, false, false, false, false, false, rfl, rfl, (fun h => h), (Below.refl _ wr).drew⟩
          case step =>
            rintro listed a W j ⟨b0, b1, b2, b3, b4, b5, b6, b7, b8, b9, b10, b11, b12, b13, b14, rfl, rfl, hcl, hW⟩ hi
            have hcW : W.cell? ⟨b, d, none⟩ = some (.int .i64 E) := (hW.cell (p := ⟨b, d, none⟩) HBB.out).trans HCE.out
            obtain ⟨hi0, o, ho, haf⟩ := mem_ready.1 hi
            have hlt : j < 15 := (Array.getElem?_eq_some_iff.1 ho).1
            obtain rfl | rfl | rfl | rfl | rfl | rfl | rfl | rfl | rfl | rfl | rfl | rfl | rfl | rfl | rfl : j = 0 ∨ j = 1 ∨ j = 2 ∨ j = 3 ∨ j = 4 ∨ j = 5 ∨ j = 6 ∨ j = 7 ∨ j = 8 ∨ j = 9 ∨ j = 10 ∨ j = 11 ∨ j = 12 ∨ j = 13 ∨ j = 14 := by omega
            all_goals
              cases ho
              simp [Region.binds] at hi0 haf
              clear hi hlt
            case inl.refl =>
              subst hi0
              have h14 : b14 = false := by
                cases b14 with
                | false => rfl
                | true => exact absurd (hcl rfl) (by decide)
              subst h14
              refine wpOpIn_step rfl (fun K hK => ?_)
              rw [if_pos (by rfl)]
              go_simp
              exact hK _ _ ⟨true, b1, b2, b3, b4, b5, b6, b7, b8, b9, b10, b11, b12, b13, false, rfl, rfl, fun _ => rfl, hW⟩
            case inr.inl.refl =>
              subst hi0
              refine wpOpIn_step rfl (fun K hK => ?_)
              rw [if_pos (by rfl)]
              go_simp
              exact hK _ _ ⟨b0, true, b2, b3, b4, b5, b6, b7, b8, b9, b10, b11, b12, b13, b14, rfl, rfl, hcl, hW⟩
            case inr.inr.inl.refl =>
              subst hi0
              refine wpOpIn_step rfl (fun K hK => ?_)
              rw [if_pos (by rfl)]
              go_simp
              exact hK _ _ ⟨b0, b1, true, b3, b4, b5, b6, b7, b8, b9, b10, b11, b12, b13, b14, rfl, rfl, hcl, hW⟩
            case inr.inr.inr.inl.refl =>
              subst hi0
              refine wpOpIn_step rfl (fun K hK => ?_)
              rw [if_pos (by rfl)]
              go_simp
              exact hK _ _ ⟨b0, b1, b2, true, b4, b5, b6, b7, b8, b9, b10, b11, b12, b13, b14, rfl, rfl, hcl, hW⟩
            case inr.inr.inr.inr.inl.refl =>
              subst hi0
              refine wpOpIn_step rfl (fun K hK => ?_)
              rw [if_pos (by rfl)]
              go_simp
              exact hK _ _ ⟨b0, b1, b2, b3, true, b5, b6, b7, b8, b9, b10, b11, b12, b13, b14, rfl, rfl, hcl, hW⟩
            case inr.inr.inr.inr.inr.inl.refl =>
              subst hi0
              obtain ⟨h3, h4⟩ := haf
              subst h3
              subst h4
              refine wpOpIn_step rfl (fun K hK => ?_)
              rw [if_pos (by rfl)]
              go_simp
              exact hK _ _ ⟨b0, b1, b2, true, true, true, b6, b7, b8, b9, b10, b11, b12, b13, b14, rfl, rfl, hcl, hW⟩
            case inr.inr.inr.inr.inr.inr.inl.refl =>
              subst hi0
              obtain ⟨h2, h5⟩ := haf
              subst h2
              subst h5
              refine wpOpIn_step rfl (fun K hK => ?_)
              rw [if_pos (by rfl)]
              go_simp
              exact hK _ _ ⟨b0, b1, true, b3, b4, true, true, b7, b8, b9, b10, b11, b12, b13, b14, rfl, rfl, hcl, hW⟩
            case inr.inr.inr.inr.inr.inr.inr.inl.refl =>
              subst hi0
              subst haf
              refine wpOpIn_step rfl (fun K hK => ?_)
              rw [if_pos (by rfl)]
              go_simp
              exact hK _ _ ⟨b0, b1, b2, b3, b4, b5, true, true, b8, b9, b10, b11, b12, b13, b14, rfl, rfl, hcl, hW⟩
            case inr.inr.inr.inr.inr.inr.inr.inr.inl.refl =>
              subst hi0
              obtain ⟨h1, h7⟩ := haf
              subst h1
              subst h7
              refine wpOpIn_step rfl (fun K hK => ?_)
              rw [if_pos (by rfl)]
              go_simp
              exact hK _ _ ⟨b0, true, b2, b3, b4, b5, b6, true, true, b9, b10, b11, b12, b13, b14, rfl, rfl, hcl, hW⟩
            case inr.inr.inr.inr.inr.inr.inr.inr.inr.inl.refl =>
              subst hi0
              refine wpOpIn_step rfl (fun K hK => ?_)
              rw [if_pos (by rfl)]
              go_simp
              exact hK _ _ ⟨b0, b1, b2, b3, b4, b5, b6, b7, b8, true, b10, b11, b12, b13, b14, rfl, rfl, hcl, hW⟩
            case inr.inr.inr.inr.inr.inr.inr.inr.inr.inr.inl.refl =>
              subst hi0
              refine wpOpIn_step rfl (fun K hK => ?_)
              rw [if_pos (by rfl)]
              go_simp
              exact hK _ _ ⟨b0, b1, b2, b3, b4, b5, b6, b7, b8, b9, true, b11, b12, b13, b14, rfl, rfl, hcl, hW⟩
            case inr.inr.inr.inr.inr.inr.inr.inr.inr.inr.inr.inl.refl =>
              subst hi0
              obtain ⟨h9, h10⟩ := haf
              subst h9
              subst h10
              refine wpOpIn_step rfl (fun K hK => ?_)
              rw [if_pos (by rfl)]
              go_simp
              refine ⟨trivial, (callsIn_wide.2 (HCC.out W (HSW.out W hW))).mono ?_⟩
              rintro e w' ⟨rfl, bw⟩
              exact hK _ _ ⟨b0, b1, b2, b3, b4, b5, b6, b7, b8, true, true, true, b12, b13, b14, rfl, rfl, hcl, hW.trans (bw.mono hW.size)⟩
            case inr.inr.inr.inr.inr.inr.inr.inr.inr.inr.inr.inr.inl.refl =>
              subst hi0
              obtain ⟨h8, h11⟩ := haf
              subst h8
              subst h11
              refine wpOpIn_step rfl (fun K hK => ?_)
              rw [if_pos (by rfl)]
              go_simp
              exact hK _ _ ⟨b0, b1, b2, b3, b4, b5, b6, b7, true, b9, b10, true, true, b13, b14, rfl, rfl, hcl, hW⟩
            case inr.inr.inr.inr.inr.inr.inr.inr.inr.inr.inr.inr.inr.inl.refl =>
              subst hi0
              obtain ⟨h0, h12⟩ := haf
              subst h0
              subst h12
              refine wpOpIn_step rfl (fun K hK => ?_)
              rw [if_pos (by rfl)]
              go_simp
              exact hK _ _ ⟨true, b1, b2, b3, b4, b5, b6, b7, b8, b9, b10, b11, true, true, b14, rfl, rfl, hcl, hW⟩
            case inr.inr.inr.inr.inr.inr.inr.inr.inr.inr.inr.inr.inr.inr.refl =>
              subst hi0
              have h0 : b0 = true := by
                cases b0 with
                | true => rfl
                | false => simp at haf
              have h13 := haf.1
              clear haf
              subst h13
              subst h0
              refine wpOpIn_step rfl (fun K hK => ?_)
              rw [if_pos (by rfl)]
              go_simp
              exact hK _ _ ⟨true, b1, b2, b3, b4, b5, b6, b7, b8, b9, b10, b11, b12, true, true, rfl, rfl, fun _ => rfl, hW⟩
          case hend =>
            rintro listed a W ⟨b0, b1, b2, b3, b4, b5, b6, b7, b8, b9, b10, b11, b12, b13, b14, rfl, rfl, hcl, hW⟩ hall
            have h14 : b14 = true := hall 14 (by decide)
            subst h14
            have HW := Lib.hid (hq.out.trans (hW.mono hq.out.size))
            clear hall hW hcl
            simp only [sw_true]
            go_wp2
            go_roundw
            case rel => exact ⟨i + 1, by omega, by omega, by go_num, by rw [show i + 1 - 1 = i by omega, HSN.out]; rcases HG1.out with h | h <;> rw [h] <;> simp [wrap64], by rw [show i + 1 - 1 = i by omega, ← HT2.out, ← HNEW.out, HX.out]; simp only [wrapK], HW⟩
            case measure => simp [intOf]; omega
        · have hik1 : i = k + 1 := by omega
          have hle2 : decide ((i : Int) ≤ (k : Int)) = false := decide_eq_false (by omega)
          have hts := HTS.out (k - 1) (by omega)
          have hes := eL_succ p (k - 1)
          rw [show k - 1 + 1 = k by omega] at hts hes
          have hwx : wrap64 (eT p k k) = eT p k k := wrap_abs hts
          rw [show i - 1 = k by omega, hwx]
          have hen := eN_succ p (k - 1)
          have hns := HNS.out k (by omega)
          rw [show k - 1 + 1 = k by omega] at hen
          have hwy : wrap64 (eN p k) = eN p k := wrap_abs hns
          rw [hen] at hwy
          have HWY := Lib.hid hwy
          have hk0 : ((k : Int) == 0) = false := by simp; omega
          have HES := Lib.hid hes
          have hsz := hq.out.size
          have RW := Lib.hid (hr.out.below hq.out)
          have HBW := Lib.hid (hb.out.trans (hq.out.mono hb.out.size))
          obtain ⟨Y, eY⟩ : ∃ Y, Y = eT p k k := ⟨_, rfl⟩
          rw [← eY] at HWY HES ⊢
          obtain ⟨Q, eQ⟩ : ∃ Q, Q = wrap64 (Y.tdiv (k : Int)) := ⟨_, rfl⟩
          have HQ := Lib.hid eQ
          clear hts hes hwx hen hns hwy eY eQ hsz
          go_wp2_with (at_builtin; refine append_one rfl (.tmp 41) (.tmp 45) rfl wr w.heap.size (.slice (some ⟨b, 0, none⟩) k cp) (eL p (k - 1)) (wrap64 (Y.tdiv (k : Int))) rfl rfl RW.out HBW.out.size (by rw [HLN.out]; omega) ?_; intro v' w' hr' hb'; obtain ⟨gb, gc, hgc, rfl⟩ := row_shape (m := k) hr'.out (by rw [List.length_append, HLN.out, List.length_singleton]))
          go_roundw
          case rel => exact ⟨k + 1, gb, gc, by omega, by have := HN.out; omega, by go_num, rfl, Lib.hid (by rw [show k + 1 - 1 = k by omega, HES.out, ← HWY.out]; exact hr'.out), Lib.hid (HBW.out.trans hb'.out)⟩
          case measure => simp [intOf]; omega
    · have hkn : k = N := by omega
      subst hkn
      have hle : decide ((k : Int) ≤ (n : Int)) = false := decide_eq_false (by have := HN.out; omega)
      obtain ⟨wo, ewo⟩ : ∃ wo : World, wo = wr := ⟨_, rfl⟩
      rw [← ewo] at hr hb ⊢
      have hkn1 : k - 1 = n := by have := HN.out; omega
      have hr0 := hr.out
      rw [hkn1] at hr0
      have hbl := (hr0.lt b rfl).2
      have R3 := HMR.out wo
      have B3 := HMB.out wo
      have hC3 : ∀ t, t ≤ n → (madeW wo k).cell? ⟨b, t, none⟩ = some (.int .i64 (eN p t)) := fun t ht => by
        rw [B3.cell (p := ⟨b, t, none⟩) hbl, hr0.cellAt t (by rw [eL_length]; omega), eL_get p ht]
      have HC3 := Lib.hid hC3
      have R4 : Hid (Row (madeW wo k) wo.heap.size (.slice (some ⟨wo.heap.size, 0, none⟩) k k) (pq p n 0)) := Lib.hid (by
        show Row _ _ _ (ints (List.replicate (n + 1) 0))
        have h := R3
        rw [HN.out] at h ⊢
        exact h)
      have B4 := Lib.hid (hb.out.trans (B3.mono hb.out.size))
      have HBL := Lib.hid hbl
      have HSZ := Lib.hid hb.out.size
      clear R0 B0 ewo hr hb hr0 hbl R3 B3 hC3 H HC HTS
      go_wp2
      refine at_world (P := fun W => Code.wp _ _ _ _ W) _ ?_
      intro W3 hW3
      rw [← hW3] at HC3 R4 B4
      clear hW3
      obtain ⟨lg, elg⟩ : ∃ lg, lg = wo.heap.size := ⟨_, rfl⟩
      rw [← elg] at R4 HBL HSZ ⊢
      clear elg
      go_loopw [10, 11] (fun g i wr => ∃ j : Nat, j ≤ k ∧ i = .int .i64 j ∧ g = .int .i64 (sg j) ∧ Hid (Row wr lg (.slice (some ⟨lg, 0, none⟩) k k) (pq p n j)) ∧ Hid (Below lg W3 wr)) (fun _ i _ => k - (intOf i).toNat)
      case atStart => exact ⟨0, by omega, rfl, rfl, R4, Lib.hid (Below.refl _ _)⟩
      case round =>
        obtain ⟨j, hjk, rfl, rfl, hr, hq⟩ := hrel
        by_cases hlj : j ≤ n
        · have hle2 : decide ((j : Int) ≤ (n : Int)) = true := decide_eq_true (by omega)
          obtain ⟨d, ed⟩ : ∃ d, d = n - j := ⟨_, rfl⟩
          have hs1 : (n : Int) - (j : Int) = (d : Int) := by omega
          have hns := HNS.out j (by omega)
          have hsg := sg_abs j (eN p j)
          have hpq := pq_set p n j hlj
          have hce : wr.cell? ⟨b, j, none⟩ = some (.int .i64 (eN p j)) := (hq.out.cell (p := ⟨b, j, none⟩) HBL.out).trans (HC3.out j hlj)
          have hln : (pq p n j).length = n + 1 := pq_length p n j
          have hnk := HN.out
          have hcd := hr.out.cellAt d (by omega)
          have hfd := hr.out.frozenAt d (by omega)
          have hr2 := hr.out.set d (by omega) (sg j * eN p j)
          rw [ed, hpq, ← ed] at hr2
          have hb2 := hq.out.setCell (p := ⟨lg, d, none⟩) (Nat.le_refl _) (.int .i64 (sg j * eN p j))
          have hsn : sg (j + 1) = - sg j := rfl
          have hg1 := sg_or j
          have hwv : wrap64 (sg j * eN p j) = sg j * eN p j := wrap_abs (by omega)
          obtain ⟨G, eG⟩ : ∃ G, G = sg j := ⟨_, rfl⟩
          obtain ⟨E, eE⟩ : ∃ E, E = eN p j := ⟨_, rfl⟩
          obtain ⟨Z, eZ⟩ : ∃ Z, Z = G * E := ⟨_, rfl⟩
          rw [← eE] at hce hr2 hb2 hwv
          rw [← eG] at hr2 hb2 hwv hsn hg1 ⊢
          rw [← eZ] at hr2 hb2 hwv
          have hwd : IntKind.i64.wrap (d : Int) = (d : Int) := by rw [wrapK]; exact wrap_id (by omega) (by omega)
          have hdk : (0 : Int) ≤ (d : Int) ∧ (d : Int) < (k : Int) := by omega
          have hjk2 : (0 : Int) ≤ (j : Int) ∧ (j : Int) < (k : Int) := by omega
          have HSN := Lib.hid hsn
          have HG1 := Lib.hid hg1
          have HWV := Lib.hid hwv
          have HR2 := Lib.hid hr2
          have HB2 := Lib.hid hb2
          have hge : G * E = Z := eZ.symm
          clear hr2 hb2 hsn hg1 hwv eG eE eZ hns hsg hpq hln hnk ed
          go_wp2
          rw [HWV.out]
          go_roundw
          case rel => exact ⟨j + 1, by omega, by go_num, by rw [HSN.out]; rcases HG1.out with h | h <;> rw [h] <;> simp [wrap64], HR2, HB2⟩
          case measure => simp [intOf]; omega
        · have hjn : j = k := by omega
          subst hjn
          have hle2 : decide ((j : Int) ≤ (n : Int)) = false := decide_eq_false (by have := HN.out; omega)
          have HRR := Lib.hid (show Row wr lg (.slice (some ⟨lg, 0, none⟩) j j) (pl p n n) by have h := hr.out; rw [HN.out] at h ⊢; exact h)
          go_wp2
          go_ret
          exact ⟨_, rfl, HRR.out.mono HSZ.out, B4.out.trans (hq.out.mono HSZ.out)⟩
end Go.Proofs.YtneglpklkmoclaaDoor
