/- The least codes of all graphs of some nodes, by the program: a map of those of one node more, its keys in order. -/
import Derived.Test.YtogmfbhnnnoipaaDoorMapSet
import Derived.Test.YtogmfbhnnnoipaaDoorAllMath
import Derived.Test.YtogmfbhnnnoipaaDoorImplSize
import Derived.Test.YtogmfbhnnnoipaaDoorDropFn
namespace Go.Proofs.YtogmfbhnnnoipaaDoor
open Go Go.RowKit
set_option linter.unusedVariables false
set_option maxRecDepth 100000

/-- The keys found so far: of the first j codes with all sets, of the next one with the first s. -/
def SeenA (k : Nat) (l : List Nat) (j s : Nat) (x : Int) : Prop := ∃ i t, x = ((leastL (codeG (k + 1) (overA k (l.getD i 0) t)) : Nat) : Int) ∧ ((i < j ∧ t < 2 ^ k) ∨ (i = j ∧ t < s))
theorem seenA_none (k : Nat) (l : List Nat) (x : Int) : False ↔ SeenA k l 0 0 x := by
  refine ⟨fun h => h.elim, ?_⟩
  rintro ⟨i, t, _, h | h⟩ <;> omega
theorem seenA_put (k : Nat) (l : List Nat) (j s : Nat) (x : Int) : (x = ((leastL (codeG (k + 1) (overA k (l.getD j 0) s)) : Nat) : Int) ∨ SeenA k l j s x) ↔ SeenA k l j (s + 1) x := by
  constructor
  · rintro (rfl | ⟨i, t, e, h⟩)
    · exact ⟨j, s, rfl, .inr ⟨rfl, by omega⟩⟩
    · exact ⟨i, t, e, by omega⟩
  · rintro ⟨i, t, e, h⟩
    by_cases h2 : i = j ∧ t = s
    · exact .inl (by rw [e, h2.1, h2.2])
    · exact .inr ⟨i, t, e, by omega⟩
theorem seenA_next (k : Nat) (l : List Nat) (j : Nat) (x : Int) : SeenA k l j (2 ^ k) x ↔ SeenA k l (j + 1) 0 x := by
  constructor
  · rintro ⟨i, t, e, h⟩; exact ⟨i, t, e, by omega⟩
  · rintro ⟨i, t, e, h⟩; exact ⟨i, t, e, by omega⟩
theorem seenA_all {k : Nat} (h1 : 1 ≤ k) (h4 : k ≤ 4) (x : Int) : SeenA k (firstA k) (firstA k).length 0 x ↔ x ∈ ints (firstA (k + 1)) := by
  unfold ints
  rw [List.mem_map]
  constructor
  · rintro ⟨i, t, e, h⟩
    refine ⟨_, (firstA_over h1 h4).2 ⟨(firstA k).getD i 0, ?_, t, by omega, rfl⟩, e.symm⟩
    rw [List.getD_eq_getElem?_getD, List.getElem?_eq_getElem (by omega)]
    exact List.getElem_mem _
  · rintro ⟨y, hy, rfl⟩
    obtain ⟨code, hc, t, ht, e⟩ := (firstA_over h1 h4).1 hy
    obtain ⟨i, hi, e2⟩ := List.getElem_of_mem hc
    refine ⟨i, t, ?_, .inl ⟨hi, ht⟩⟩
    rw [List.getD_eq_getElem?_getD, List.getElem?_eq_getElem hi, Option.getD_some, e2, e]

theorem rows_le10 {k : Nat} (h : k ≤ 5) : (rows k).length ≤ 10 := by
  have e := rowsN ⟨k, by omega⟩
  dsimp only at e
  rw [e]
  have h2 : ∀ x : Fin 6, x.val * (x.val - 1) / 2 ≤ 10 := by decide
  exact h2 ⟨k, by omega⟩
/-- What stands in the loops. -/
def LcI (w wr : World) (b g c k m : Nat) (S : Int → Prop) : Prop :=
  Row wr w.heap.size (.slice (some ⟨g, 0, none⟩) (firstA k).length c) (ints (firstA k)) ∧ SetAt wr b m S ∧ Below w.heap.size w wr
theorem LcI.below {w wr wr' : World} {b g c k m : Nat} {S : Int → Prop} (h : LcI w wr b g c k m S) (hb : Below wr.heap.size wr wr') : LcI w wr' b g c k m S :=
  ⟨h.1.below hb, h.2.1.below hb h.2.1.lt, h.2.2.trans (hb.mono h.2.2.size)⟩
theorem LcI.turned {w wr wr' : World} {b g c k m m' : Nat} {S S' : Int → Prop} (h : LcI w wr b g c k m S) (hgb : g ≠ b) (hwb : w.heap.size ≤ b) (hg : wr.grownBy wr' (some b)) (hs : SetAt wr' b m' S') : LcI w wr' b g c k m' S' :=
  ⟨World.ownsRow.kept h.1 hg (.inr (by intro e; injection e with e; exact hgb e)), hs, Below.grown h.2.2 hg h.2.2.size (fun j hj => by injection hj with hj; omega)⟩
theorem LcI.congr {w wr : World} {b g c k m : Nat} {S S' : Int → Prop} (h : LcI w wr b g c k m S) (e : ∀ x, S x ↔ S' x) : LcI w wr b g c k m S' := ⟨h.1, h.2.1.congr e, h.2.2⟩

set_option maxHeartbeats 8000000 in
theorem leastCodes_any (n : Nat) (h1 : 1 ≤ n) (h5 : n ≤ 5) (w : World) (hT : Tab w) :
    Calls Tryd.prog 69 #[.int .i64 (n : Nat)] w (Gave w (ints (firstA n))) := by
  have hr0 : Row (w.alloc (.cells #[.int .i64 0] 3)) w.heap.size (.slice (some ⟨w.heap.size, 0, none⟩) 1 1) [0] := World.ownsRow_lit (base := w.heap.size) (e := 3) (size := 1) w #[.int .i64 0] 1 (Nat.le_refl _) (by unfold maxLen; omega) rfl
  have hI0 : LcI w ((w.alloc (.cells #[.int .i64 0] 3)).alloc (.map #[] 0)) (w.heap.size + 1) w.heap.size 1 1 0 (fun _ => False) :=
    ⟨hr0.alloc _, by have h := SetAt.made (w.alloc (.cells #[.int .i64 0] 3)); rw [World.size_alloc] at h; exact h, ((Below.refl _ w).alloc (Nat.le_refl _) _).alloc (by simp) _⟩
  obtain ⟨b, eb⟩ : ∃ b, b = w.heap.size + 1 := ⟨_, rfl⟩
  rw [← eb] at hI0
  have HI0 := Lib.hid hI0
  have HT := Lib.hid hT
  have hwb : w.heap.size ≤ b := by omega
  have HWB := Lib.hid hwb
  have HTL := Lib.hid hT.lt
  have EB := Lib.hid eb
  have hmm := fun w => run_makeMap (P := Tryd.prog) 91 w
  clear hT hr0 hI0 eb hwb
  go_enter Tryd.func69, Tryd.ntmps69
  go_wp2
  clear hmm
  rw [← EB.out]
  go_loopw [3, 5] (fun v i wr => ∃ k g c m : Nat, ∃ S : Int → Prop, 1 ≤ k ∧ k ≤ n ∧ g ≠ b ∧ v = .slice (some ⟨g, 0, none⟩) (firstA k).length c ∧ i = .int .i64 k ∧ Hid (LcI w wr b g c k m S)) (fun _ i _ => n + 1 - (intOf i).toNat)
  case atStart => exact ⟨1, w.heap.size, 1, 0, _, by omega, by omega, by have := EB.out; omega, rfl, rfl, HI0⟩
  case round =>
    obtain ⟨k, g, c, m, S, hk1, hkn, hgb, rfl, rfl, hr⟩ := hrel
    by_cases hlt : k < n
    · obtain ⟨wo, rfl⟩ : ∃ wo : World, wo = wr := ⟨_, rfl⟩
      obtain ⟨w1, hcl, hs1, hg1⟩ := hr.out.2.1.clear
      have HC0 := Lib.hid ((hr.out.turned hgb HWB.out hg1 hs1).congr (seenA_none k (firstA k)))
      obtain ⟨lst, el⟩ : ∃ lst, lst = firstA k := ⟨_, rfl⟩
      have hln : (firstA k).length ≤ 34 := firstA_len (by omega)
      obtain ⟨N, eN⟩ : ∃ N, N = (firstA k).length := ⟨_, rfl⟩
      rw [← eN] at hln ⊢
      have EN := Lib.hid eN
      obtain ⟨P, eP⟩ : ∃ P, P = 2 ^ k := ⟨_, rfl⟩
      have hP16 : P ≤ 16 := by rw [eP]; exact pow_le k 4 (by omega)
      have hpw : wrap64 ((2 : Int) ^ k) = (P : Nat) := by rw [wrap_pow k (by omega), eP]
      have EP := Lib.hid eP
      have hk64 : k < 64 := by omega
      clear hs1 hg1 eN el eP
      go_wp2
      clear hcl
      go_loopw [19] (fun i wr => ∃ j m : Nat, j ≤ N ∧ m ≤ 32 * j ∧ i = .int .i64 j ∧ Hid (LcI w wr b g c k m (SeenA k (firstA k) j 0))) (fun i _ => N - (intOf i).toNat)
      case atStart => exact ⟨0, 0, by omega, by omega, rfl, HC0⟩
      case round =>
        obtain ⟨j, m2, hj, hm2, rfl, hr2⟩ := hrel
        by_cases hlj : j < N
        · obtain ⟨wo2, rfl⟩ : ∃ wo2 : World, wo2 = wr := ⟨_, rfl⟩
          have hjl : j < (firstA k).length := by rw [← EN.out]; exact hlj
          obtain ⟨code, ec⟩ : ∃ code, code = (firstA k).getD j 0 := ⟨_, rfl⟩
          have hmem : code ∈ firstA k := by
            rw [ec, List.getD_eq_getElem?_getD, List.getElem?_eq_getElem hjl]
            exact List.getElem_mem _
          have hcell : wo2.cell? ⟨g, j, none⟩ = some (.int .i64 (code : Nat)) := by
            have h := hr2.out.1.cellAt j (by rw [ints_length]; exact hjl)
            rw [h]
            unfold ints
            rw [List.getElem?_map, List.getElem?_eq_getElem hjl, ec, List.getD_eq_getElem?_getD, List.getElem?_eq_getElem hjl]
            rfl
          have hi : (0 : Int) ≤ (j : Int) ∧ (j : Int) < (N : Int) := by omega
          have HM := Lib.hid hmem
          have EC := Lib.hid ec
          have hcd : code < 1024 := by
            have h := ((firstA_mem (by omega) (by omega)).1 hmem).1
            have h3 : (2 : Nat) ^ (rows k).length ≤ 2 ^ 10 := Nat.pow_le_pow_right (by omega) (rows_le10 (by omega))
            exact Nat.lt_of_lt_of_le h h3
          clear hmem ec hjl
          go_wp2
          rw [hpw]
          clear hcell
          go_loopw [25] (fun i wr => ∃ s m : Nat, s ≤ P ∧ m ≤ 32 * j + s ∧ i = .int .i64 s ∧ Hid (LcI w wr b g c k m (SeenA k (firstA k) j s))) (fun i _ => P - (intOf i).toNat)
          case atStart => exact ⟨0, m2, by omega, by omega, rfl, hr2⟩
          case round =>
            obtain ⟨s, m3, hs, hm3, rfl, hr3⟩ := hrel
            by_cases hls : s < P
            · have hsP : s < 2 ^ k := by rw [← EP.out]; exact hls
              have HOV := Lib.hid (over_fn k code s hk1 (by omega) (by omega) (by omega) wr)
              have hlc := (least_code (n := k + 1) (c := overA k code s) (by omega) (by omega)).1
              have hl10 : (2 : Nat) ^ (rows (k + 1)).length ≤ 2 ^ 10 := Nat.pow_le_pow_right (by omega) (rows_le10 (by omega))
              have hgr := codeG_graph (n := k + 1) (overA k code s) (by omega) (by omega)
              have hgl := codeG_length (k + 1) (overA k code s)
              have HLS := Lib.hid (fun A c w hs ht => least_fn A c (codeG (k + 1) (overA k code s)) hgr w hs ht)
              have hput := seenA_put k (firstA k) j s
              rw [← EC.out] at hput
              change Hid (Calls _ _ _ _ (Gave _ (codeG (k + 1) (overA k code s)))) at HOV
              obtain ⟨y, ey⟩ : ∃ y, y = leastL (codeG (k + 1) (overA k code s)) := ⟨_, rfl⟩
              rw [← ey] at hlc hput HLS
              obtain ⟨CG, eCG⟩ : ∃ CG, CG = codeG (k + 1) (overA k code s) := ⟨_, rfl⟩
              rw [← eCG] at HOV HLS hgl
              rw [hgl] at HLS
              have hy : y < 100000 := by
                have := Nat.lt_of_lt_of_le hlc hl10
                omega
              have HY := Lib.hid hy
              have HPUT := Lib.hid hput
              have HGL := Lib.hid hgl
              clear hlc hl10 hgr hgl hput ey eCG hy hsP
              go_wp2_with fail
              refine HOV.out.mono ?_
              rintro e w2 ⟨v2, rfl, r2, b2⟩
              obtain ⟨A2, c2, rfl, s2⟩ := r2.seen
              rw [HGL.out]
              have S2 := Lib.hid s2
              have I2 := Lib.hid (hr3.out.below b2)
              clear r2 s2 b2
              go_wp2_with fail
              refine (HLS.out A2 c2 w2 S2.out (HT.out.below I2.out.2.2 (by have := HTL.out; omega))).mono ?_
              rintro e w3 ⟨rfl, b3⟩
              have hI3 := I2.out.below b3
              obtain ⟨w4, hrun, hs4, hg4⟩ := hI3.2.1.put (by omega) y HY.out
              have I4 := Lib.hid ((hI3.turned hgb HWB.out hg4 hs4).congr HPUT.out)
              clear hI3 hs4 hg4 b3
              go_wp2
              go_roundw
              case rel => exact ⟨s + 1, m3 + 1, by omega, by omega, by go_num, I4⟩
              case measure => simp [intOf]; omega
            · have e : s = P := by omega
              subst e
              have I3 := Lib.hid (hr3.out.congr (by rw [EP.out]; exact seenA_next k (firstA k) j))
              go_wp2
              go_roundw
              case rel => exact ⟨j + 1, m3, by omega, by omega, by go_num, I3⟩
              case measure => simp [intOf]; omega
        · have e : j = N := by omega
          subst e
          have hall := hr2.out.congr (S' := fun x => x ∈ ints (firstA (k + 1))) (fun x => by rw [EN.out]; exact seenA_all hk1 (by omega) x)
          obtain ⟨D, ho, hx⟩ := hall.2.1
          have hsz := ho.size_le
          have hbl := hall.2.1.lt
          have HKS := Lib.hid (keysSorted_fn b m2 D _ wr ho (by omega))
          have HK := Lib.hid (keys_fn b wr)
          have HSS := Lib.hid (fun ss hp => setSorted (ss := ss) ho hx (firstA_pw (by omega) (by omega)) hp)
          have IA := Lib.hid hall
          have HBL := Lib.hid hbl
          clear hall ho hx hsz hbl
          go_wp2_with fail
          refine HK.out.mono ?_
          rintro e w2 ⟨rfl, rfl⟩
          go_wp2_with fail
          refine HKS.out.mono ?_
          rintro e w3 ⟨v3, ss, rfl, hp, r3, b3⟩
          rw [HSS.out ss hp] at r3
          have hpos : 0 < (firstA (k + 1)).length := by
            have : ∀ x : Fin 5, 0 < (firstA (x.val + 1)).length := by decide
            exact this ⟨k, by omega⟩
          obtain ⟨A3, c3, rfl, hA3⟩ := r3.see
          obtain ⟨g3, rfl, hg3, _, _⟩ := hA3 0 (by rw [ints_length]; exact hpos)
          rw [ints_length] at r3
          have hB3 : Below wr.heap.size wr w3 := ((Below.refl _ wr).alloc (Nat.le_refl _) _).trans (b3.mono (by omega))
          have I3 := Lib.hid (show LcI w w3 b g3 c3 (k + 1) _ _ from ⟨r3.mono (by have := IA.out.2.2.size; omega), IA.out.2.1.below hB3 HBL.out, IA.out.2.2.trans (hB3.mono IA.out.2.2.size)⟩)
          have hg3b : g3 ≠ b := by have := HBL.out; omega
          rw [ints_length]
          clear r3 b3 hA3 hB3 hp
          go_wp2
          go_roundw
          case rel => exact ⟨k + 1, g3, c3, _, _, by omega, by omega, hg3b, rfl, by go_num, I3⟩
          case measure => simp [intOf]; omega
    · have e : k = n := by omega
      subst e
      go_wp2
      go_ret
      exact ⟨_, rfl, hr.out.1, hr.out.2.2⟩
end Go.Proofs.YtogmfbhnnnoipaaDoor
