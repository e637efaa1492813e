/- The model's greedy colours and SetGreedy. -/
import Derived.Test.YtcblcifnpgmibaaDoorGreedyFns
import Derived.Test.YtcblcifnpgmibaaDoorNamesFns
import Derived.Test.YtcblcifnpgmibaaDoorBaseA
import Derived.Test.YtcblcifnpgmibaaDoorSpecSet
namespace Go.Proofs.YtcblcifnpgmibaaDoor
open Go Go.RowKit
set_option linter.unusedVariables false
set_option maxRecDepth 100000

theorem pow_opsU {c x : Nat} (hc : c < 6) (hx : x < 64) : ∃ P F : Nat, F = x ||| 2 ^ c ∧ wrap64 ((2 : Int) ^ c) = (P : Int) ∧ IntKind.i64.wrap ((2 : Int) ^ c) = (P : Int) ∧ bits .or .i64 (x : Int) (P : Int) = (F : Int) := pow_ops hc hx
set_option maxHeartbeats 8000000 in
theorem specGreedy_seen (A A' : Option Addr) (c c' : Nat) (L : List Int) (hg : IsGraph L) (vs : List Nat) (hl : vs.length ≤ L.length) (hv : ∀ v ∈ vs, v < L.length) (hd : vs.Nodup) (w : World) (h : Seen w A L) (h' : Seen w A' (ints vs)) :
    Calls Tryd.prog 48 #[.slice A L.length c, .slice A' vs.length c'] w (Gave w (ints (gS L L.length vs).2)) := by
  have h1 := hg.1
  have h6 := hg.2.1
  obtain ⟨n, hn⟩ : ∃ n, n = L.length := ⟨_, rfl⟩
  obtain ⟨m, em⟩ : ∃ m, m = vs.length := ⟨_, rfl⟩
  have HE : Hid (∀ X : World, Below w.heap.size w X → ∀ k, k < n → ∃ b off, A = some ⟨b, off, none⟩ ∧ X.cell? ⟨b, off + k, none⟩ = some (.int .i64 (ent L k : Nat)) ∧ ent L k < 64) := Lib.hid fun X hb k hk => by
    obtain ⟨b, off, a, _, hc⟩ := (h.below hb) k (by omega)
    have hin := (hg.2.2 k (by omega)).1
    rw [ent_int hin] at hc
    exact ⟨b, off, a, hc, Nat.lt_of_lt_of_le (ent_lt hin) (two_le h6)⟩
  have HP : Hid (∀ X : World, Below w.heap.size w X → ∀ k, k < m → ∃ b off, A' = some ⟨b, off, none⟩ ∧ X.cell? ⟨b, off + k, none⟩ = some (.int .i64 (vs[k]?.getD 0 : Nat)) ∧ vs[k]?.getD 0 < n) := Lib.hid fun X hb k hk => by
    obtain ⟨b, off, a, _, hc⟩ := (h'.below hb) k (by rw [ints_length]; omega)
    rw [ints_get] at hc
    exact ⟨b, off, a, hc, by rw [hn]; exact hv _ (by rw [List.getElem?_eq_getElem (by omega)]; exact List.getElem_mem _)⟩
  have HT : Hid (∀ k, ∀ v ∈ vs.take k, v < n) := Lib.hid fun k v hm => by rw [hn]; exact hv v (List.mem_of_mem_take hm)
  have HOL : Hid (∀ k, k ≤ m → ∀ u : Nat, (gS L n (vs.take k)).2[u]?.getD 0 < 6) := Lib.hid fun k hk => gS_out_lt L (by omega) (by omega) _ (by rw [List.length_take]; omega)
  have HLN : Hid (∀ k, (gS L n (vs.take k)).2.length = n) := Lib.hid fun k => (gS_length L n _).2
  have HMET : Hid (∀ k, k < m → metG (vs.take (k + 1)) = metG (vs.take k) ||| 2 ^ (vs[k]?.getD 0)) := Lib.hid fun k hk => by rw [takeG (show k < vs.length by omega), metG_snoc]
  have HML : Hid (∀ k, metG (vs.take k) < 64) := Lib.hid fun k => metG_lt _ fun v hm => by have := hv v (List.mem_of_mem_take hm); omega
  have HST : Hid (∀ k, k < m → (gS L n (vs.take (k + 1))).2 = (gS L n (vs.take k)).2.set (vs[k]?.getD 0) (colN (gS L n (vs.take k)).1 (ent L (vs[k]?.getD 0)))) := Lib.hid fun k hk => by rw [takeG (show k < vs.length by omega), gS_snoc]; rfl
  have HZ : Hid (∀ k, k < m → (gS L n (vs.take k)).2[vs[k]?.getD 0]?.getD 0 = 0) := Lib.hid fun k hk => gS_zero L n _ _ (fun hm => by
    have h2 : (vs.take (k + 1)).Nodup := hd.sublist (List.take_sublist _ _)
    rw [takeG (show k < vs.length by omega), List.nodup_append] at h2
    exact h2.2.2 _ hm _ (by simp) rfl)
  have HUC : Hid (∀ k, k < m → (usTo (gS L n (vs.take k)).2 (ent L (vs[k]?.getD 0) &&& metG (vs.take k)) n).testBit (colN (gS L n (vs.take k)).1 (ent L (vs[k]?.getD 0))) = false ∧ (∀ j, j < colN (gS L n (vs.take k)).1 (ent L (vs[k]?.getD 0)) → (usTo (gS L n (vs.take k)).2 (ent L (vs[k]?.getD 0) &&& metG (vs.take k)) n).testBit j = true) ∧ colN (gS L n (vs.take k)).1 (ent L (vs[k]?.getD 0)) < 6) := Lib.hid fun k hk => by
    have hlk : (vs.take k).length = k := by rw [List.length_take]; omega
    have q := us_col (L := L) (n := n) (by omega) (vs.take k) (vs[k]?.getD 0) (by omega) (by rw [hn]; exact fun v hm => hv v (List.mem_of_mem_take hm)) (hd.sublist (List.take_sublist _ _))
    have q2 := (gS_col L (n := n) (by omega) (vs.take k) (vs[k]?.getD 0) (by omega)).2.1
    exact ⟨q.1, q.2, by omega⟩
  have HUL : Hid (∀ k j, k ≤ m → usTo (gS L n (vs.take k)).2 (ent L (vs[k]?.getD 0) &&& metG (vs.take k)) j < 64) := Lib.hid fun k j hk => usTo_lt _ _ _ (HOL.out k hk)
  have HEND : Hid (ints (gS L n vs).2 = ints (gS L n (vs.take m)).2) := Lib.hid (by rw [em, List.take_length])
  have H00 : Hid (ints (List.replicate n 0) = ints (gS L n (vs.take 0)).2) := Lib.hid rfl
  have hm6 : m ≤ 6 := by omega
  rw [← hn] at h1 h6 ⊢
  rw [← em, HEND.out]
  have hmk := run_make_ints n (by omega)
  have R0 := Lib.hid (madeW_row w n (by omega))
  have B0 := Lib.hid (madeW_below w n)
  clear h h' hg hn em hl hv hd
  go_enter Tryd.func48, Tryd.ntmps48
  go_wp2
  clear hmk
  obtain ⟨W1, eW1⟩ : ∃ W1, W1 = madeW w n := ⟨_, rfl⟩
  obtain ⟨g, eg⟩ : ∃ g, g = w.heap.size := ⟨_, rfl⟩
  rw [← eW1, ← eg] at R0 B0
  rw [H00.out] at R0
  rw [← eg] at HE HP
  rw [← eW1, ← eg]
  have EG := Lib.hid eg
  clear eW1 eg H00
  go_loopw [6, 7, 8, 9, 10] (fun mt i _ _ _ wr => ∃ k : Nat, k ≤ m ∧ i = .int .i64 k ∧ mt = .int .i64 (metG (vs.take k) : Nat) ∧ Hid (Row wr g (.slice (some ⟨g, 0, none⟩) n n) (ints (gS L n (vs.take k)).2)) ∧ Hid (Below g w wr)) (fun _ i _ _ _ _ => m - (intOf i).toNat)
  case atStart => exact ⟨0, Nat.zero_le _, rfl, rfl, R0, B0⟩
  case round =>
    obtain ⟨k, hk, rfl, rfl, hr, hb⟩ := hrel
    by_cases hlt : k < m
    · obtain ⟨bP, oP, rfl, cP, hvn⟩ := HP.out wr hb.out k hlt
      obtain ⟨bE, oE, rfl, cE, hX64⟩ := HE.out wr hb.out (vs[k]?.getD 0) hvn
      have hm64 := HML.out k
      have hmet := HMET.out k hlt
      have hst := HST.out k hlt
      have hz := HZ.out k hlt
      obtain ⟨u1, u2, u3⟩ := HUC.out k hlt
      have hul := fun j => HUL.out k j hk
      have hol := HOL.out k hk
      have hln := HLN.out k
      obtain ⟨v, ev⟩ : ∃ v, v = vs[k]?.getD 0 := ⟨_, rfl⟩
      rw [← ev] at cP cE hvn hX64 hmet hst hz u1 u2 u3 hul
      obtain ⟨X, eX⟩ : ∃ X, X = ent L v := ⟨_, rfl⟩
      rw [← eX] at cE hX64 hst u1 u2 u3 hul
      obtain ⟨q, eq⟩ : ∃ q, q = colN (gS L n (vs.take k)).1 X := ⟨_, rfl⟩
      rw [← eq] at hst u1 u2 u3
      obtain ⟨out, eo⟩ : ∃ out, out = (gS L n (vs.take k)).2 := ⟨_, rfl⟩
      rw [← eo] at hst hz u1 u2 hul hol hln hr
      obtain ⟨mt, emt⟩ : ∃ mt, mt = metG (vs.take k) := ⟨_, rfl⟩
      rw [← emt] at hm64 hmet u1 u2 hul ⊢
      have fx := i64_and_nat X mt (by omega) (by omega)
      obtain ⟨y, ey⟩ : ∃ y, y = X &&& mt := ⟨_, rfl⟩
      rw [← ey] at fx u1 u2 hul
      have hy64 : y < 64 := by rw [ey]; exact Nat.lt_of_le_of_lt Nat.and_le_right hm64
      have HUS := Lib.hid (usTo_succ out y)
      have HULT := Lib.hid hul
      have HOLT := Lib.hid hol
      have HLO := Lib.hid hln
      have HSTP := Lib.hid hst
      have HMT := Lib.hid hmet
      have HU1 := Lib.hid u1
      have HU2 := Lib.hid u2
      have HZ0 := Lib.hid hz
      have hvi : (0 : Int) ≤ (v : Int) ∧ (v : Int) < (n : Int) := by omega
      have hki : (0 : Int) ≤ (k : Int) ∧ (k : Int) < (m : Int) := by omega
      have hv6 : v < 6 := by omega
      obtain ⟨PV, FV, eFV, pv1, pv2, pv3⟩ := pow_opsU hv6 hm64
      have HFV := Lib.hid eFV
      have HPV := Lib.hid (And.intro pv1 (And.intro pv2 pv3))
      clear hmet hst hz u1 u2 hul hol hln ev eX eq eo emt ey eFV pv1 pv2 pv3 HST HMET HML HUC HUL HOL HLN HZ HT
      go_wp2
      go_loop [9, 10] (fun us j => ∃ t : Nat, t ≤ n ∧ j = .int .i64 t ∧ us = .int .i64 (usTo out y t : Nat)) (fun _ j => n - (intOf j).toNat)
      case atStart => exact ⟨0, Nat.zero_le _, rfl, rfl⟩
      case round =>
        obtain ⟨t, ht, rfl, rfl⟩ := hrel
        have hu64 := HULT.out t
        by_cases hlt2 : t < n
        · have hus := HUS.out t
          unfold usStep at hus
          have ho6 := HOLT.out t
          have cO := hr.out.cellAt t (by rw [ints_length, HLO.out]; exact hlt2)
          rw [ints_get] at cO
          obtain ⟨us, eus⟩ : ∃ us, us = usTo out y t := ⟨_, rfl⟩
          rw [← eus] at hu64 hus ⊢
          obtain ⟨o, eo⟩ : ∃ o, o = out[t]?.getD 0 := ⟨_, rfl⟩
          rw [← eo] at cO ho6 hus
          obtain ⟨r, er, hr1, fr⟩ := and_facts y t (by omega)
          rw [inS_bit er] at hus
          obtain ⟨P2, F2, eF, p1, p2, p3⟩ := pow_opsU ho6 hu64
          rw [← eF] at hus
          have HUN := Lib.hid hus
          have ht40 : t < 40 := by clear p1 p2 p3 fr fx; omega
          have hti : (0 : Int) ≤ (t : Int) ∧ (t : Int) < (n : Int) := by clear p1 p2 p3 fr fx; omega
          have ho40 : o < 40 := by clear p1 p2 p3 fr fx; omega
          have hrr : r = 0 ∨ r = 1 := by clear p1 p2 p3 fr fx; omega
          clear er eus eo eF hus hr1
          rcases hrr with rfl | rfl
          · have e0 : (((0 : Nat) : Int) == 1) = false := rfl
            have HN := Lib.hid (HUN.out.trans (if_neg (by simp)))
            clear HUN p1 p2 p3
            go_wp2
            go_round
            case rel => exact ⟨t + 1, by clear fr fx; omega, by go_num, by rw [HN.out]⟩
            case measure => clear fr fx; simp [intOf]; omega
          · have e0 : (((1 : Nat) : Int) == 1) = true := rfl
            have HN := Lib.hid (HUN.out.trans (if_pos (by simp)))
            clear HUN
            go_wp2
            go_round
            case rel => exact ⟨t + 1, by clear fr fx p1 p2 p3; omega, by go_num, by rw [HN.out]⟩
            case measure => clear fr fx p1 p2 p3; simp [intOf]; omega
        · have hte : t = n := by omega
          subst hte
          have hbit0 := HU1.out
          have hbit1 := HU2.out
          obtain ⟨U, eU⟩ : ∃ U, U = usTo out y t := ⟨_, rfl⟩
          rw [← eU] at hu64 hbit0 hbit1 ⊢
          have HB0 : Hid (U / 2 ^ q % 2 = 0) := Lib.hid (by
            have h2 : ¬ U / 2 ^ q % 2 = 1 := fun h => by rw [(tb U q).1 h] at hbit0; cases hbit0
            omega)
          have HB1 : Hid (∀ j, j < q → U / 2 ^ j % 2 = 1) := Lib.hid fun j hj => (tb U j).2 (hbit1 j hj)
          have hR0 : Hid (Row wr g (.slice (some ⟨g, 0, none⟩) t t) (ints (out.set v 0))) := Lib.hid (by
            have := set_same out v
            rw [HZ0.out] at this
            rw [this]
            exact hr.out)
          clear hbit0 hbit1 eU hr fx cE cP
          go_wp2
          go_loopw [] (fun wr => ∃ j : Nat, j ≤ q ∧ Hid (Row wr g (.slice (some ⟨g, 0, none⟩) t t) (ints (out.set v j))) ∧ Hid (Below g w wr) ∧ Hid (wr.cell? ⟨g, v, none⟩ = some (.int .i64 j))) (fun wr => q - (intOf ((wr.cell? ⟨g, v, none⟩).getD undef)).toNat)
          case atStart =>
            refine ⟨0, Nat.zero_le _, hR0, hb, Lib.hid ?_⟩
            have h := hR0.out.cellAt v (by rw [ints_length, List.length_set, HLO.out]; exact hvn)
            rw [ints_get, List.getElem?_set, if_pos rfl, if_pos (by rw [HLO.out]; exact hvn)] at h
            exact h
          case round =>
            obtain ⟨j, hj, hrj, hbj, hcj⟩ := hrel
            have c1 := hcj.out
            have c2 := hrj.out.frozenAt v (by rw [ints_length, List.length_set, HLO.out]; exact hvn)
            obtain ⟨r, er, hr1, fr⟩ := and_facts U j (by omega)
            have hj40 : j < 40 := by clear fr; omega
            by_cases hjq : j < q
            · have hr1' : r = 1 := by rw [er]; exact HB1.out j hjq
              subst hr1'
              have e0 : (((1 : Nat) : Int) == 1) = true := rfl
              have RS : Hid (Row (wr.setCell ⟨g, v, none⟩ (.int .i64 ((j : Int) + 1))) g (.slice (some ⟨g, 0, none⟩) t t) (ints (out.set v (j + 1)))) := Lib.hid (by
                have := hrj.out.set v (by rw [ints_length, List.length_set, HLO.out]; exact hvn) (((j + 1 : Nat)) : Int)
                rw [ints_set, List.set_set] at this
                exact this)
              have BS := Lib.hid (hbj.out.setCell (p := ⟨g, v, none⟩) (Nat.le_refl g) (.int .i64 ((j : Int) + 1)))
              have CS : Hid ((wr.setCell ⟨g, v, none⟩ (.int .i64 ((j : Int) + 1))).cell? ⟨g, v, none⟩ = some (.int .i64 ((j + 1 : Nat) : Int))) := Lib.hid (by
                have h := RS.out.cellAt v (by rw [ints_length, List.length_set, HLO.out]; exact hvn)
                rw [ints_get, List.getElem?_set, if_pos rfl, if_pos (by rw [HLO.out]; exact hvn)] at h
                exact h)
              have hj6 : j < 6 := by clear fr; omega
              clear er hr1
              go_wp2
              go_roundw
              case rel => exact ⟨j + 1, by clear fr; omega, RS, BS, CS⟩
              case measure =>
                rw [CS.out, hcj.out]
                clear fr
                simp [intOf]
                omega
            · have hje : j = q := by clear fr; omega
              subst hje
              have hr0' : r = 0 := by rw [er]; exact HB0.out
              subst hr0'
              have e0 : (((0 : Nat) : Int) == 1) = false := rfl
              obtain ⟨pv1, pv2, pv3⟩ := HPV.out
              have RF : Hid (Row wr g (.slice (some ⟨g, 0, none⟩) t t) (ints (gS L t (vs.take (k + 1))).2)) := Lib.hid (by rw [HSTP.out]; exact hrj.out)
              have hMF : Hid (metG (vs.take (k + 1)) = FV) := Lib.hid (by rw [HMT.out, ← HFV.out])
              clear er hr1
              go_wp2
              go_roundw
              case rel => exact ⟨k + 1, by clear fr pv1 pv2 pv3; omega, by go_num, by rw [hMF.out], RF, hbj⟩
              case measure => clear fr pv1 pv2 pv3; simp [intOf]; omega
    · have hke : k = m := by omega
      subst hke
      go_wp2
      go_ret
      exact ⟨_, rfl, by rw [← EG.out]; exact hr.out, by rw [← EG.out]; exact hb.out⟩
end Go.Proofs.YtcblcifnpgmibaaDoor
