/- The model's l8Forest and l8Active. -/
import Derived.Test.YtdhpamemkkfhhaaDoorSpecRank
import Derived.Test.YtdhpamemkkfhhaaDoorActMath
import Derived.Test.YtdhpamemkkfhhaaDoorBaseA
namespace Go.Proofs.YtdhpamemkkfhhaaDoor
open Go.RowKit
set_option linter.unusedVariables false
set_option maxRecDepth 100000

theorem specForest_any (A : Option Addr) (c : Nat) (L : List Int) (ht : IsT L) (F : Nat) (hF : F < codesN L.length) (w : World) (h : Seen w A L) :
    Calls Tryd.prog 48 #[.slice A L.length c, .int .i64 F] w (Said1 w (forB (codeOf L) F)) := by
  have hle := codesN_le L.length
  have hcl := code_ltN ht
  have H1 := Lib.hid (specCode_seen A c L ht.1 w h)
  have H2 := Lib.hid (fun w1 => specRank_any L.length (codeOf L) ht.1.1 ht.2 hcl w1)
  have H3 := Lib.hid (fun w1 => specRank_any L.length F ht.1.1 ht.2 hF w1)
  have H4 := Lib.hid (fun w1 => size_code F (by omega) w1)
  unfold forB
  obtain ⟨n, hn⟩ : ∃ n, n = L.length := ⟨_, rfl⟩
  rw [← hn] at H1 H2 H3 ⊢
  obtain ⟨C, eC⟩ : ∃ C, C = codeOf L := ⟨_, rfl⟩
  rw [← eC] at H1 H2 ⊢
  obtain ⟨r, er⟩ : ∃ r, r = rkT C := ⟨_, rfl⟩
  rw [← er] at H2 ⊢
  obtain ⟨q, eq⟩ : ∃ q, q = rkT F := ⟨_, rfl⟩
  rw [← eq] at H3 ⊢
  obtain ⟨p, ep⟩ : ∃ p, p = pcf 15 F := ⟨_, rfl⟩
  rw [← ep] at H4 ⊢
  have e1 : ((p : Int) == (r : Int)) = (p == r) := by rw [Bool.eq_iff_iff]; simp; omega
  have e2 : ((q : Int) == (r : Int)) = (q == r) := by rw [Bool.eq_iff_iff]; simp; omega
  clear ht h hF hle hcl hn er eq ep eC
  cases hqr : q == r with
  | false =>
    rw [hqr] at e2
    have HQ := Lib.hid hqr
    clear hqr
    go_enter Tryd.func48, Tryd.ntmps48
    go_wp2_with fail
    refine H1.out.mono ?_
    rintro e w1 ⟨rfl, rfl⟩
    go_wp2_with fail
    refine (H2.out _).mono ?_
    rintro e w2 ⟨rfl, b2⟩
    go_wp2_with fail
    refine (H3.out _).mono ?_
    rintro e w3 ⟨rfl, b3⟩
    go_wp2
    go_ret
    exact ⟨by simp, b2.trans (b3.mono b2.size)⟩
  | true =>
    rw [hqr] at e2
    have HQ := Lib.hid hqr
    clear hqr
    go_enter Tryd.func48, Tryd.ntmps48
    go_wp2_with fail
    refine H1.out.mono ?_
    rintro e w1 ⟨rfl, rfl⟩
    go_wp2_with fail
    refine (H2.out _).mono ?_
    rintro e w2 ⟨rfl, b2⟩
    go_wp2_with fail
    refine (H3.out _).mono ?_
    rintro e w3 ⟨rfl, b3⟩
    go_wp2_with fail
    refine (H4.out _).mono ?_
    rintro e w4 ⟨rfl, rfl⟩
    go_wp2
    go_ret
    exact ⟨by simp, b2.trans (b3.mono b2.size)⟩
theorem i64_xorN (a b : Nat) (ha : a < 9223372036854775808) (hb : b < 9223372036854775808) : bits .xor .i64 (a : Int) (b : Int) = ((a ^^^ b : Nat) : Int) :=
  unword (BitVec.ofInt 64 (a : Int) ^^^ BitVec.ofInt 64 (b : Int)) _ (by rw [BitVec.toNat_xor, word a ha, word b hb]) (Nat.xor_lt_two_pow ha hb)
theorem tri_ten : ∀ n : Fin 6, tri n.val ≤ 10 := by decide
set_option maxHeartbeats 8000000 in
theorem specActive_any (A : Option Addr) (c : Nat) (L : List Int) (ht : IsT L) (F : Nat) (hF : F < codesN L.length) (w : World) (h : Seen w A L) :
    Calls Tryd.prog 49 #[.slice A L.length c, .int .i64 F] w fun e w' => e = .returned (.tuple #[.int .i64 ((actTo (codeOf L) F 10).1 : Nat), .int .i64 ((actTo (codeOf L) F 10).2 : Nat)]) ∧ Below w.heap.size w w' := by
  have hcl := code_ltN ht
  have hcc := codesN_eq ⟨L.length, by have := ht.2; omega⟩ ht.1.1
  have htt := tri_ten ⟨L.length, by have := ht.2; omega⟩
  dsimp only at hcc htt
  have H1 := Lib.hid (specCode_seen A c L ht.1 w h)
  have H2 := Lib.hid (fun w1 => specRank_any L.length (codeOf L) ht.1.1 ht.2 hcl w1)
  have H3 := Lib.hid (fun S hS w1 => specRank_any L.length S ht.1.1 ht.2 hS w1)
  obtain ⟨n, hn⟩ : ∃ n, n = L.length := ⟨_, rfl⟩
  rw [← hn] at H1 H2 H3 hF hcl hcc htt ⊢
  obtain ⟨C, eC⟩ : ∃ C, C = codeOf L := ⟨_, rfl⟩
  rw [← eC] at H1 H2 hcl ⊢
  rw [hcc] at hcl hF H3
  have hp10 := pow_le (tri n) 10 htt
  have HF := Lib.hid hF
  have HCL := Lib.hid hcl
  have hC1 : C < 1024 := by omega
  have hF1 : F < 1024 := by omega
  clear ht h hn eC hcc hp10 hF hcl htt
  go_enter Tryd.func49, Tryd.ntmps49
  go_wp2_with fail
  refine H1.out.mono ?_
  rintro e w1 ⟨rfl, rfl⟩
  go_wp2
  go_loopw [8, 9, 10] (fun x y i wr => ∃ e : Nat, e ≤ 10 ∧ i = .int .i64 e ∧ x = .int .i64 ((actTo C F e).1 : Nat) ∧ y = .int .i64 ((actTo C F e).2 : Nat) ∧ Hid (Below w.heap.size w wr)) (fun _ _ i _ => 10 - (intOf i).toNat)
  case atStart => exact ⟨0, by omega, rfl, rfl, rfl, Lib.hid (Below.refl _ _)⟩
  case round =>
    obtain ⟨e, he, rfl, rfl, rfl, hb⟩ := hrel
    have hle := actTo_le C F e
    obtain ⟨P, hP⟩ : ∃ P, P = 2 ^ e := ⟨_, rfl⟩
    have hw := wrap_pow e (by omega)
    have hP10 := pow_le e 10 he
    have hwm : wrap64 ((2 : Int) ^ min e 64) = ((2 ^ e : Nat) : Int) := by rw [Nat.min_eq_left (show e ≤ 64 by omega)]; exact hw
    rw [← hP] at hw hwm hP10
    obtain ⟨x, ex⟩ : ∃ x, x = (actTo C F e).1 := ⟨_, rfl⟩
    obtain ⟨y, ey⟩ : ∃ y, y = (actTo C F e).2 := ⟨_, rfl⟩
    rw [← ex, ← ey] at hle ⊢
    have EX := Lib.hid ex
    have EY := Lib.hid ey
    have HP := Lib.hid hP
    clear ex ey hP
    by_cases hlt : P ≤ C
    · have hd : decide ((P : Int) ≤ (C : Int)) = true := by simp; omega
      have he10 : e < 10 := by
        refine Nat.lt_of_not_le fun hge => ?_
        have h10 : e = 10 := by omega
        have := HP.out
        rw [h10] at this
        omega
      have het : e < tri n := by
        refine Nat.lt_of_not_le fun hge => ?_
        have h1 := Nat.pow_le_pow_right (n := 2) (by omega) hge
        rw [← HP.out] at h1
        have := HCL.out
        omega
      obtain ⟨bit, ebit, hbit, fb⟩ := and_facts C e (by omega)
      have EB := Lib.hid ebit
      have HET := Lib.hid het
      clear ebit het
      rcases (by omega : bit = 0 ∨ bit = 1) with rfl | rfl
      · have hst : actTo C F (e + 1) = actTo C F e := by
          show (if bitN C e = 0 then _ else _) = _
          rw [if_pos (show bitN C e = 0 from EB.out.symm)]
        have HST := Lib.hid hst
        clear hst hbit
        go_wp2
        go_roundw
        case rel => exact ⟨e + 1, by omega, by go_num, by rw [HST.out, EX.out], by rw [HST.out, EY.out], hb⟩
        case measure => simp [intOf]; omega
      · have hin : ∀ f, f < e → ∃ xf : Nat, True := fun _ _ => ⟨0, trivial⟩
        clear hin
        obtain ⟨xe, exe, hxe, fe⟩ := and_facts F e (by omega)
        have hst : actTo C F (e + 1) = if firstTo C F e e = true then (if xe = 1 then (x + 1, y) else (x, y + 1)) else (x, y) := by
          have hxy : actTo C F e = (x, y) := by rw [EX.out, EY.out]
          show (if bitN C e = 0 then actTo C F e else if firstTo C F e e = true then (if bitN F e = 1 then ((actTo C F e).1 + 1, (actTo C F e).2) else ((actTo C F e).1, (actTo C F e).2 + 1)) else actTo C F e) = _
          rw [if_neg (show ¬ bitN C e = 0 by unfold bitN; rw [← EB.out]; decide), hxy, show bitN F e = xe from exe.symm]
        have HST := Lib.hid hst
        have HXE := Lib.hid exe
        clear hst exe hbit
        go_wp2
        rw [hw]
        go_loopw [11, 12, 13] (fun b i _ wr => ∃ f : Nat, f ≤ e ∧ i = .int .i64 f ∧ b = .bool (firstTo C F e f) ∧ Hid (Below w.heap.size w wr)) (fun _ i _ _ => e - (intOf i).toNat)
        case atStart => exact ⟨0, by omega, rfl, rfl, hb⟩
        case round =>
          obtain ⟨f, hf, rfl, rfl, hb⟩ := hrel
          by_cases hlf : f < e
          · obtain ⟨bf, ebf, hbf, ff⟩ := and_facts C f (by omega)
            obtain ⟨xf, exf, hxf, fxf⟩ := and_facts F f (by omega)
            have hfs : firstTo C F e (f + 1) = if bf = 0 ∨ xf = xe then firstTo C F e f else if rkT (F ^^^ 2 ^ e ^^^ 2 ^ f) = rkT C then false else firstTo C F e f := by
              show (if bitN C f = 0 ∨ bitN F f = bitN F e then firstTo C F e f else _) = _
              rw [show bitN C f = bf from ebf.symm, show bitN F f = xf from exf.symm, show bitN F e = xe from HXE.out.symm]
            have HFS := Lib.hid hfs
            clear hfs ebf exf
            rcases (by omega : bf = 0 ∨ bf = 1) with rfl | rfl
            · have hs2 := Lib.hid (HFS.out.trans (if_pos (.inl rfl)))
              have hb2 : Hid (Below w.heap.size w wr.drew) := Lib.hid hb.out.drew
              clear HFS hb hbf
              go_wp2
              go_region
              all_goals go_wp2
              all_goals go_roundw
              case rel => exact ⟨f + 1, by omega, by go_num, by rw [hs2.out], hb2⟩
              case measure => simp [intOf]; omega
            · by_cases hxx : xf = xe
              · have hs2 := Lib.hid (HFS.out.trans (if_pos (.inr hxx)))
                have e1 : ((xf : Int) == (xe : Int)) = true := by simp; omega
                have hb2 : Hid (Below w.heap.size w wr.drew) := Lib.hid hb.out.drew
                clear HFS hb hbf hxx
                go_wp2
                go_region
                all_goals go_wp2
                all_goals go_roundw
                case rel => exact ⟨f + 1, by omega, by go_num, by rw [hs2.out], hb2⟩
                case measure => simp [intOf]; omega
              · have hs2 := Lib.hid (HFS.out.trans (if_neg (fun h => h.elim (by decide) hxx)))
                have e1 : ((xf : Int) == (xe : Int)) = false := by simp; omega
                obtain ⟨Pf, hPf⟩ : ∃ Pf, Pf = 2 ^ f := ⟨_, rfl⟩
                have hwf := wrap_pow f (by omega)
                have hwfm : wrap64 ((2 : Int) ^ min f 64) = ((2 ^ f : Nat) : Int) := by rw [Nat.min_eq_left (show f ≤ 64 by omega)]; exact hwf
                have hPf10 := pow_le f 10 (by omega)
                rw [← hPf] at hwf hwfm hPf10
                have f1 := i64_xorN F P (Nat.lt_trans hF1 (by decide)) (Nat.lt_of_le_of_lt hP10 (by decide))
                have hz1 : F ^^^ P < 1024 := Nat.xor_lt_two_pow (n := 10) hF1 (Nat.lt_of_le_of_lt hlt hC1)
                have hz2l : F ^^^ P ^^^ Pf < 2 ^ tri n := by
                  refine Nat.xor_lt_two_pow (Nat.xor_lt_two_pow HF.out ?_) ?_
                  · rw [HP.out]; exact Nat.pow_lt_pow_right (by omega) HET.out
                  · rw [hPf]; exact Nat.pow_lt_pow_right (by omega) (by have := HET.out; omega)
                obtain ⟨z1, ez1⟩ : ∃ z1, z1 = F ^^^ P := ⟨_, rfl⟩
                rw [← ez1] at f1 hz1 hz2l
                have f2 := i64_xorN z1 Pf (Nat.lt_trans hz1 (by decide)) (Nat.lt_of_le_of_lt hPf10 (by decide))
                obtain ⟨z2, ez2⟩ : ∃ z2, z2 = z1 ^^^ Pf := ⟨_, rfl⟩
                rw [← ez2] at f2 hz2l
                have HZ := Lib.hid (fun w1 => H3.out z2 hz2l w1)
                have hs3 : firstTo C F e (f + 1) = if rkT z2 = rkT C then false else firstTo C F e f := by rw [hs2.out, ez2, ez1, HP.out, hPf]
                obtain ⟨r1, er1⟩ : ∃ r1, r1 = rkT z2 := ⟨_, rfl⟩
                obtain ⟨r2, er2⟩ : ∃ r2, r2 = rkT C := ⟨_, rfl⟩
                have H2' := H2
                rw [← er1] at HZ hs3
                rw [← er2] at H2' hs3
                have HS3 := Lib.hid hs3
                have hb2 : Hid (Below w.heap.size w wr.drew.drew) := Lib.hid hb.out.drew.drew
                clear hs3 hs2 HFS hb hbf hxx ez1 ez2 er1 er2 hPf hz2l H2
                by_cases hrr : r1 = r2
                · have e3 : ((r1 : Int) == (r2 : Int)) = true := by simp; omega
                  have hs4 := Lib.hid (HS3.out.trans (if_pos hrr))
                  clear hrr HS3
                  go_wp2
                  go_region
                  all_goals go_wp2
                  all_goals go_region
                  all_goals
                    go_wp2_with fail
                    refine (HZ.out _).mono ?_
                    rintro e' w2 ⟨rfl, b2⟩
                    go_wp2_with fail
                    refine (H2'.out _).mono ?_
                    rintro e' w3 ⟨rfl, b3⟩
                    have hb4 := Lib.hid (hb2.out.trans ((b2.trans (b3.mono b2.size)).mono hb2.out.size))
                    clear b2 b3
                    go_wp2
                    go_roundw
                  case rel => exact ⟨f + 1, by omega, by go_num, by rw [hs4.out], hb4⟩
                  case measure => simp [intOf]; omega
                · have e3 : ((r1 : Int) == (r2 : Int)) = false := by simp; omega
                  have hs4 := Lib.hid (HS3.out.trans (if_neg hrr))
                  clear hrr HS3
                  go_wp2
                  go_region
                  all_goals go_wp2
                  all_goals go_region
                  all_goals
                    go_wp2_with fail
                    refine (HZ.out _).mono ?_
                    rintro e' w2 ⟨rfl, b2⟩
                    go_wp2_with fail
                    refine (H2'.out _).mono ?_
                    rintro e' w3 ⟨rfl, b3⟩
                    have hb4 := Lib.hid (hb2.out.trans ((b2.trans (b3.mono b2.size)).mono hb2.out.size))
                    clear b2 b3
                    go_wp2
                    go_roundw
                  case rel => exact ⟨f + 1, by omega, by go_num, by rw [hs4.out], hb4⟩
                  case measure => simp [intOf]; omega
          · have hfe : f = e := by omega
            subst hfe
            obtain ⟨b1, eb1⟩ : ∃ b1, b1 = firstTo C F f f := ⟨_, rfl⟩
            rw [← eb1] at HST ⊢
            clear eb1
            cases b1 with
            | false =>
              have hs2 : Hid (actTo C F (f + 1) = (x, y)) := Lib.hid (by rw [HST.out]; rfl)
              clear HST
              go_wp2
              go_roundw
              case rel => exact ⟨f + 1, by omega, by go_num, by rw [hs2.out], by rw [hs2.out], hb⟩
              case measure => simp [intOf]; omega
            | true =>
              rcases (by omega : xe = 0 ∨ xe = 1) with rfl | rfl
              · have hs2 : Hid (actTo C F (f + 1) = (x, y + 1)) := Lib.hid (by rw [HST.out]; rfl)
                clear HST hxe
                go_wp2
                go_roundw
                case rel => exact ⟨f + 1, by omega, by go_num, by rw [hs2.out], by rw [hs2.out]; go_num, hb⟩
                case measure => simp [intOf]; omega
              · have hs2 : Hid (actTo C F (f + 1) = (x + 1, y)) := Lib.hid (by rw [HST.out]; rfl)
                clear HST hxe
                go_wp2
                go_roundw
                case rel => exact ⟨f + 1, by omega, by go_num, by rw [hs2.out]; go_num, by rw [hs2.out], hb⟩
                case measure => simp [intOf]; omega
    · have hd : decide ((P : Int) ≤ (C : Int)) = false := by simp; omega
      have htop : actTo C F 10 = actTo C F e := by
        have := actTo_top (F := F) (show C < 2 ^ e by rw [← HP.out]; omega) (10 - e)
        rwa [show e + (10 - e) = 10 by omega] at this
      have HT := Lib.hid htop
      clear htop
      go_wp2
      go_ret2
      exact ⟨by rw [HT.out, ← EX.out, ← EY.out]; rfl, hb.out⟩
end Go.Proofs.YtdhpamemkkfhhaaDoor
