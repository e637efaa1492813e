/- slices.CompactFunc of a list of slices in order, by slices.Equal: the different ones, in order. -/
import Derived.Lib.SliceRun
import Derived.Lib.SlicesCompact
import Derived.Shelf.SlicesE.Kit
import Derived.Sort.WalkB12
import Derived.Test.YtnnobbbljpaieaaDoorValuesS
namespace Go.Proofs.YtnnobbbljpaieaaDoor
open Go.RowKit Go.Shelf Go.Sort
set_option linter.unusedVariables false
set_option maxRecDepth 100000
variable {m₀ : Nat} {w₀ : World}

abbrev con (d : Array (Sl m₀ w₀)) (j : Nat) : List Int := lst d[j]!
/-- In order: no place holds less than one ahead of it. -/
def Asc (d : Array (Sl m₀ w₀)) : Prop := ∀ i j, i ≤ j → j < d.size → cmpL (con d i) (con d j) ≤ 0
/-- m places of d have been looked at; what is different lies at the k first places. -/
structure Cmp (d : Array (Sl m₀ w₀)) (m k : Nat) (dk : Array (Sl m₀ w₀)) : Prop where
  size : dk.size = d.size
  pos : 1 ≤ k
  le : k ≤ m
  top : m ≤ d.size
  high : ∀ j, k ≤ j → dk[j]! = d[j]!
  strict : ∀ i j, i < j → j < k → cmpL (con dk i) (con dk j) < 0
  all : ∀ j, j < m → ∃ i, i < k ∧ con dk i = con d j
  some : ∀ i, i < k → ∃ j, j < m ∧ dk[i]! = d[j]!
  last : con dk (k - 1) = con d (m - 1)
variable {d dk : Array (Sl m₀ w₀)} {m k : Nat}

theorem Cmp.start (h : 1 ≤ d.size) : Cmp d 1 1 d where
  size := rfl
  pos := Nat.le_refl _
  le := Nat.le_refl _
  top := h
  high _ _ := rfl
  strict i j h1 h2 := by omega
  all j hj := ⟨j, by omega, rfl⟩
  some i hi := ⟨i, by omega, rfl⟩
  last := rfl
theorem arr_same {d : Array (Sl m₀ w₀)} {k : Nat} (x : Sl m₀ w₀) (h : k < d.size) : (d.setIfInBounds k x)[k]! = x := by
  rw [getElem!_pos _ k (by simpa using h)]
  simp
theorem arr_other {d : Array (Sl m₀ w₀)} {k j : Nat} (x : Sl m₀ w₀) (h : j ≠ k) : (d.setIfInBounds k x)[j]! = d[j]! := by
  by_cases hj : j < d.size
  · rw [getElem!_pos _ j (by simpa using hj), getElem!_pos _ j hj, Array.getElem_setIfInBounds_ne _ (by omega)]
  · rw [getElem!_neg _ j (by simpa using hj), getElem!_neg _ j hj]
theorem Cmp.skip (h : Cmp d m k dk) (hm : m < d.size) (e : con d m = con d (m - 1)) : Cmp d (m + 1) k dk where
  size := h.size
  pos := h.pos
  le := by have := h.le; omega
  top := hm
  high := h.high
  strict := h.strict
  all j hj := by
    by_cases hjm : j < m
    · exact h.all j hjm
    · have hje : j = m := by omega
      subst hje
      exact ⟨k - 1, by have := h.pos; omega, by rw [h.last, e]⟩
  some i hi := by
    obtain ⟨j, hj, e1⟩ := h.some i hi
    exact ⟨j, by omega, e1⟩
  last := by rw [h.last, Nat.add_sub_cancel, e]
theorem Cmp.keep (h : Cmp d m k dk) (ha : Asc d) (hm : m < d.size) (e : con d m ≠ con d (m - 1)) : Cmp d (m + 1) (k + 1) (dk.setIfInBounds k d[m]!) := by
  have hk := h.le
  have hp := h.pos
  have hs := h.size
  have hsame : (dk.setIfInBounds k d[m]!)[k]! = d[m]! := arr_same _ (by omega)
  have hoth : ∀ j, j ≠ k → (dk.setIfInBounds k d[m]!)[j]! = dk[j]! := fun j hj => arr_other _ hj
  have hlt : cmpL (con d (m - 1)) (con d m) < 0 := by
    have h1 := ha (m - 1) m (by omega) hm
    have h2 : cmpL (con d (m - 1)) (con d m) ≠ 0 := fun h3 => e (cmpL_eq h3).symm
    omega
  refine { size := by simpa using hs, pos := by omega, le := by omega, top := hm, high := fun j hj => ?_, strict := fun i j h1 h2 => ?_, all := fun j hj => ?_, some := fun i hi => ?_, last := ?_ }
  · rw [hoth j (by omega)]; exact h.high j (by omega)
  · by_cases hjk : j = k
    · subst hjk
      unfold con
      rw [hsame, hoth i (by omega)]
      by_cases hi : i = j - 1
      · subst hi
        have h3 := h.last
        unfold con at h3
        rw [h3]
        exact hlt
      · have h3 := h.strict i (j - 1) (by omega) (by omega)
        rw [h.last] at h3
        exact cmpL_trans h3 hlt
    · unfold con
      rw [hoth i (by omega), hoth j hjk]
      exact h.strict i j h1 (by omega)
  · by_cases hjm : j < m
    · obtain ⟨i, hi, e1⟩ := h.all j hjm
      exact ⟨i, by omega, by unfold con; rw [hoth i (by omega)]; exact e1⟩
    · have hje : j = m := by omega
      subst hje
      exact ⟨k, by omega, by unfold con; rw [hsame]⟩
  · by_cases hik : i = k
    · subst hik
      exact ⟨m, by omega, hsame⟩
    · obtain ⟨j, hj, e1⟩ := h.some i (by omega)
      exact ⟨j, by omega, by rw [hoth i hik]; exact e1⟩
  · rw [Nat.add_sub_cancel, Nat.add_sub_cancel]
    unfold con
    rw [hsame]

/-- Nothing was put away so far, and the next one differs. -/
theorem Cmp.keepAll (h : Cmp d m m d) (ha : Asc d) (hm : m < d.size) (e : con d m ≠ con d (m - 1)) : Cmp d (m + 1) (m + 1) d := by
  have h1 := h.keep ha hm e
  have e2 : d.setIfInBounds m d[m]! = d := by
    rw [getElem!_pos d m hm]
    apply Array.ext_getElem?
    intro j
    rw [Array.getElem?_setIfInBounds]
    by_cases hj : m = j
    · subst hj
      rw [if_pos rfl, if_pos hm, Array.getElem?_eq_getElem hm]
    · rw [if_neg hj]
  rw [e2] at h1
  exact h1
theorem store_put {w wr : World} {n blk : Nat} {dk : Array (Sl m₀ w₀)} {i : Nat} (hi : i < dk.size) (hwr : wr = putRow encS (Sort.ahead w n) blk 0 dk) (x : Sl m₀ w₀) :
    wr.setCell ⟨blk, i, none⟩ (encS x) = putRow encS (Sort.ahead w n) blk 0 (dk.setIfInBounds i x) := by
  subst hwr
  have h := putRow_set encS (Sort.ahead w n) blk 0 dk i x hi
  rw [Nat.zero_add] at h
  exact h

theorem lay_size {α : Type} : ∀ (xs : List α) (d : Array α) (k : Nat), (Lib.lay d k xs).size = d.size
  | [], _, _ => rfl
  | x :: r, d, k => by rw [Lib.lay, lay_size r]; simp
theorem lay_low {d : Array (Sl m₀ w₀)} {k j : Nat} (xs : List (Sl m₀ w₀)) (hk : k + xs.length ≤ d.size) (h : j < k) : (Lib.lay d k xs)[j]! = d[j]! := by
  have h1 := Lib.lay_get? xs d k j hk
  rw [if_neg (by omega)] at h1
  rw [getElem!_pos _ j (by rw [lay_size]; omega), getElem!_pos d j (by omega)]
  rw [Array.getElem?_eq_getElem (by rw [lay_size]; omega), Array.getElem?_eq_getElem (by omega)] at h1
  injection h1

set_option maxHeartbeats 4000000 in
theorem compactF_any (blk cap : Nat) (d : Array (Sl m₀ w₀)) (w : World) (hb : Below m₀ w₀ w) (hn : m₀ ≤ w.heap.size) (hblk : m₀ ≤ blk) (hH : Holds encS w blk 0 d) (ha : Asc d) (h1 : 1 ≤ d.size) (hsz : d.size ≤ 100000) (hcap : d.size ≤ cap) :
    Calls Tryd.prog 55 #[.slice (some ⟨blk, 0, none⟩) d.size cap, .func (.func 29) #[] #[]] w fun e w' =>
      ∃ (k : Nat) (dk dz : Array (Sl m₀ w₀)) (q : Nat), e = .returned (.slice (some ⟨blk, 0, none⟩) k cap) ∧ Cmp d d.size k dk ∧ dz.size = d.size ∧ (∀ j, j < k → dz[j]! = dk[j]!) ∧ w' = putRow encS (Sort.ahead w q) blk 0 dz := by
  have HE := Lib.hid (fun m dk x y q => eqReadsS (W := w) hb hn blk 0 m hblk dk x y q)
  have HA := Lib.hid ha
  have H0 := Lib.hid (putRow_self encS w blk 0 d hH)
  have HQ := Lib.hid (fun q => (putRow_self encS (Sort.ahead w q) blk 0 d (holds_ahead encS w q blk 0 d hH)).symm)
  have HH := Lib.hid (fun q (dk : Array (Sl m₀ w₀)) (hs : dk.size = d.size) => holds_putRow encS _ blk 0 d dk (holds_ahead encS w q blk 0 d hH) hs)
  obtain ⟨n, en⟩ : ∃ n, n = d.size := ⟨_, rfl⟩
  rw [← en] at h1 hsz hcap ⊢
  have EN := Lib.hid en
  clear hb hn hblk hH ha en
  by_cases h2 : n < 2
  · have hd : decide ((n : Int) < 2) = true := decide_eq_true (by omega)
    have hn1 : n = 1 := by omega
    subst hn1
    go_enter Tryd.func55, Tryd.ntmps55
    go_wp2
    go_ret
    exact ⟨1, d, d, 0, rfl, by have h := Cmp.start (d := d) (by have := EN.out; omega); have := EN.out; exact h, EN.out.symm, fun _ _ => rfl, HQ.out 0⟩
  · have hd : decide ((n : Int) < 2) = false := decide_eq_false (by omega)
    go_enter Tryd.func55, Tryd.ntmps55
    go_wp2
    go_loopw [5] (fun s5 wr => ∃ k q : Nat, k < n ∧ s5 = .int .i64 ((k + 1 : Nat) : Int) ∧ Hid (wr = putRow encS (Sort.ahead w q) blk 0 d) ∧ Hid (Cmp d (k + 1) (k + 1) d)) (fun s5 _ => n - (intOf s5).toNat)
    case atStart => exact ⟨0, 0, by omega, rfl, Lib.hid (HQ.out 0), Lib.hid (Cmp.start (by have := EN.out; omega))⟩
    case round =>
      obtain ⟨k, q, hk, rfl, hwr, hI⟩ := hrel
      obtain ⟨K, eK⟩ : ∃ K, K = k + 1 := ⟨_, rfl⟩
      rw [← eK] at hI ⊢
      by_cases hlt : K < n
      · obtain ⟨c1, _⟩ := HH.out q d rfl K (by have := EN.out; omega)
        obtain ⟨c0, _⟩ := HH.out q d rfl k (by have := EN.out; omega)
        rw [← hwr.out, Nat.zero_add] at c1 c0
        have hc := fun q' => HE.out q d d[K]! d[k]! q'
        rw [← hwr.out] at hc
        obtain ⟨x, ex⟩ : ∃ x, x = d[K]! := ⟨_, rfl⟩
        obtain ⟨y, ey⟩ : ∃ y, y = d[k]! := ⟨_, rfl⟩
        rw [← ex] at c1 hc
        rw [← ey] at c0 hc
        obtain ⟨b, eb⟩ : ∃ b, b = decide (lst x = lst y) := ⟨_, rfl⟩
        rw [← eb] at hc
        have EX := Lib.hid ex
        have EY := Lib.hid ey
        have EB := Lib.hid eb
        have EKH := Lib.hid eK
        have hi1 : (0 : Int) ≤ (K : Int) ∧ (K : Int) < (n : Int) := by omega
        have hi2 : (0 : Int) ≤ (k : Int) ∧ (k : Int) < (n : Int) := by omega
        have hKk : (K : Int) - 1 = (k : Int) := by omega
        clear ex ey eb eK
        cases b with
        | false =>
          go_wp2
          go_quiet (first | (go_at_call 29; refine Calls.quiet_of (hc _)))
          go_wp2
          go_roundw
          case rel => exact ⟨K, q + nq, hlt, by go_num, Lib.hid (by rw [hwr.out, putRow_drewN]), Lib.hid (hI.out.keepAll HA.out (by have := EN.out; omega) (by have h := EB.out; rw [EX.out, EY.out] at h; have h' := of_decide_eq_false h.symm; have e := EKH.out; rw [show K - 1 = k by omega]; exact h'))⟩
          case measure => simp [intOf]; omega
        | true =>
          go_wp2
          go_quiet (first | (go_at_call 29; refine Calls.quiet_of (hc _)))
          go_wp2
          have hxy : con d K = con d (K - 1) := by
            have h := of_decide_eq_true EB.out.symm
            rw [EX.out, EY.out] at h
            have e := EKH.out
            rw [show K - 1 = k by omega]
            exact h
          have HI2 := Lib.hid (hI.out.skip (by have := EN.out; omega) hxy)
          have HW2 : Hid (wr.drewN nq = putRow encS (Sort.ahead w (q + nq)) blk 0 d) := Lib.hid (by rw [hwr.out, putRow_drewN])
          clear hc c1 c0 hI hwr EB EX EY hxy
          obtain ⟨w1, hw1⟩ : ∃ w1, w1 = wr.drewN nq := ⟨_, rfl⟩
          rw [← hw1] at HW2 ⊢
          clear hw1
          go_loopw [5, 7] (fun s5 s7 wi => ∃ kk j q : Nat, kk ≤ K + j ∧ K + (j + 1) ≤ n ∧ s5 = .int .i64 kk ∧ s7 = .int .i64 ((j + 1 : Nat) : Int) ∧ Hid (∃ dk, wi = putRow encS (Sort.ahead w q) blk 0 dk ∧ Cmp d (K + (j + 1)) kk dk)) (fun _ s7 _ => n - K - (intOf s7).toNat)
          case atStart => exact ⟨K, 0, q + nq, by omega, by omega, rfl, rfl, Lib.hid ⟨d, HW2.out, HI2.out⟩⟩
          case round =>
            obtain ⟨kk, j, q2, hkk, hle, rfl, rfl, hX⟩ := hrel
            obtain ⟨J, eJ⟩ : ∃ J, J = j + 1 := ⟨_, rfl⟩
            rw [← eJ] at hle hX ⊢
            by_cases hlt2 : K + J < n
            · obtain ⟨dk, hwi, hC⟩ := hX.out
              obtain ⟨c1, _⟩ := HH.out q2 dk hC.size (K + J) (by have := hC.size; have := EN.out; omega)
              obtain ⟨c0, _⟩ := HH.out q2 dk hC.size (K + j) (by have := hC.size; have := EN.out; omega)
              obtain ⟨ck, fk⟩ := HH.out q2 dk hC.size kk (by have := hC.size; have := EN.out; omega)
              rw [← hwi, Nat.zero_add] at c1 c0 ck fk
              rw [hC.high (K + J) (by omega)] at c1
              rw [hC.high (K + j) (by omega)] at c0
              have hc := fun q' => HE.out q2 dk d[K + J]! d[K + j]! q'
              rw [← hwi] at hc
              obtain ⟨x, ex⟩ : ∃ x, x = d[K + J]! := ⟨_, rfl⟩
              obtain ⟨y, ey⟩ : ∃ y, y = d[K + j]! := ⟨_, rfl⟩
              obtain ⟨z, ez⟩ : ∃ z, z = dk[kk]! := ⟨_, rfl⟩
              rw [← ex] at c1 hc
              rw [← ey] at c0 hc
              rw [← ez] at ck
              obtain ⟨b, eb⟩ : ∃ b, b = decide (lst x = lst y) := ⟨_, rfl⟩
              rw [← eb] at hc
              have EX := Lib.hid ex
              have EY := Lib.hid ey
              have EB := Lib.hid eb
              have EJ := Lib.hid eJ
              have HWI := Lib.hid hwi
              have HC := Lib.hid hC
              have hj1 : (0 : Int) ≤ (J : Int) ∧ (J : Int) < ((n - K : Nat) : Int) := by omega
              have hj2 : (0 : Int) ≤ (j : Int) ∧ (j : Int) < ((n - K : Nat) : Int) := by omega
              have hj3 : (J : Int) - 1 = (j : Int) := by omega
              have hj4 : (0 : Int) ≤ (kk : Int) ∧ (kk : Int) < (n : Int) := by omega
              clear ex ey eb eJ ez hwi hC hX
              cases b with
              | false =>
                go_wp2
                go_quiet (first | (go_at_call 29; refine Calls.quiet_of (hc _)))
                go_wp2
                go_roundw
                case rel =>
                  have hne : con d (K + J) ≠ con d (K + J - 1) := by
                    have h := of_decide_eq_false EB.out.symm
                    rw [EX.out, EY.out] at h
                    have e := EJ.out
                    rw [show K + J - 1 = K + j by omega]
                    exact h
                  have hk2 := HC.out.keep HA.out (by have := EN.out; omega) hne
                  refine ⟨kk + 1, J, q2 + nq, by have := EJ.out; omega, by omega, by go_num, by go_num, Lib.hid ⟨_, ?_, hk2⟩⟩
                  have h5 := store_put (w := w) (wr := wr.drewN nq) (n := q2 + nq) (blk := blk) (dk := dk) (i := kk) (by have := HC.out.size; have := EN.out; omega) (by rw [HWI.out, putRow_drewN]) x
                  rw [EX.out] at h5
                  rw [EX.out]
                  exact h5
                case measure => simp [intOf]; omega
              | true =>
                go_wp2
                go_quiet (first | (go_at_call 29; refine Calls.quiet_of (hc _)))
                go_wp2
                go_roundw
                case rel =>
                  have heq : con d (K + J) = con d (K + J - 1) := by
                    have h := of_decide_eq_true EB.out.symm
                    rw [EX.out, EY.out] at h
                    have e := EJ.out
                    rw [show K + J - 1 = K + j by omega]
                    exact h
                  exact ⟨kk, J, q2 + nq, by have := EJ.out; omega, by omega, rfl, by go_num, Lib.hid ⟨dk, by rw [HWI.out, putRow_drewN], HC.out.skip (by have := EN.out; omega) heq⟩⟩
                case measure => simp [intOf]; omega
            · have hend : K + J = n := by omega
              obtain ⟨dk, hwi, hC⟩ := hX.out
              have hkn : kk < n := by omega
              have hcl : ∀ ty, (Builtin.clear_ #[28] ty #[.slice (some ⟨blk, kk, none⟩) (n - kk) (cap - kk)]).run Tryd.prog wr = .ok (.tuple #[]) (wr.setCells blk kk (List.replicate (n - kk) (.slice none 0 0))) :=
                fun ty => Lib.run_clear_slice wr _ _ ty _ Tryd.underlying28 Tryd.zeroValue22 rfl rfl blk kk _ _ (by omega)
                  (fun j hj => by
                    have h := (HH.out q2 dk hC.size (kk + j) (by have := hC.size; have := EN.out; omega)).1
                    rw [← hwi, Nat.zero_add] at h
                    rw [h]; rfl)
                  (fun j hj => by
                    have h := (HH.out q2 dk hC.size (kk + j) (by have := hC.size; have := EN.out; omega)).2
                    rw [← hwi, Nat.zero_add] at h
                    exact h)
              have HWI := Lib.hid hwi
              have HC := Lib.hid hC
              have hj4 : (0 : Int) ≤ (kk : Int) ∧ (kk : Int) < (n : Int) := by omega
              clear hwi hC hX
              go_wp2
              go_ret
              have hC := HC.out
              rw [hend] at hC
              refine ⟨kk, dk, Lib.lay dk kk (List.replicate (n - kk) default), q2, rfl, hC, by rw [lay_size, hC.size, ← EN.out], fun j hj => lay_low _ (by have := hC.size; have := EN.out; simp; omega) hj, ?_⟩
              have h6 := Lib.putRow_setCells encS (Sort.ahead w q2) blk 0 (List.replicate (n - kk) (default : Sl m₀ w₀)) dk kk (by have := hC.size; have := EN.out; simp; omega)
              rw [← HWI.out, List.map_replicate, Nat.zero_add] at h6
              exact h6
      · have hKn : K = n := by omega
        subst hKn
        clear HE HH
        go_wp2
        go_ret
        exact ⟨K, d, d, q, rfl, hI.out, EN.out.symm, fun _ _ => rfl, hwr.out⟩
end Go.Proofs.YtnnobbbljpaieaaDoor
