/- The model's TreeMiddle. -/
import Derived.Test.YtkngijkhhonikaaDoorStepsFn
import Derived.Test.YtkngijkhhonikaaDoorBaseA
namespace Go.Proofs.YtkngijkhhonikaaDoor
open Go Go.RowKit
set_option linter.unusedVariables false
set_option maxRecDepth 100000

theorem stepsT_len (L : List Int) (v : Nat) : (stepsT L v).length = L.length := by simp [stepsT]
theorem stepsT_le (L : List Int) (v j : Nat) : (stepsT L v)[j]?.getD 0 ≤ L.length := by
  unfold stepsT
  rw [List.getElem?_map]
  cases h : (List.range L.length)[j]? with
  | none => simp
  | some x => simp; exact otT_le _ _ _ _
theorem farT_le {S : List Nat} {m : Nat} (h : ∀ j : Nat, S[j]?.getD 0 ≤ m) (j : Nat) : farT S j ≤ m := by
  induction j with
  | zero => simp [farT]
  | succ j ih => simp only [farT]; have := h j; omega
theorem mdT_ok (L : List Int) (h6 : L.length ≤ 6) (v : Nat) (hv : v ≤ L.length) : (mdT L v).1 ≤ 6 ∧ (mdT L v).2 < 64 := by
  induction v with
  | zero => exact ⟨h6, show 0 < 64 by omega⟩
  | succ v ih =>
    have h1 := ih (by omega)
    have h2 : 2 ^ v < 2 ^ 6 := Nat.pow_lt_pow_right (by omega) (by omega)
    simp only [mdT]
    unfold mdNext
    split
    · exact ⟨by dsimp only; omega, h2⟩
    · split
      · exact ⟨h1.1, Nat.or_lt_two_pow (n := 6) h1.2 h2⟩
      · exact h1

set_option maxHeartbeats 4000000 in
theorem specMid_yes (B : Nat) (v : Value) (L : List Int) (ht : IsTree L) (w : World) (h : Row w B v L) :
    Calls Tryd.prog 22 #[v] w (NumOkA w (mdT L L.length).2 true) := by
  have hg := ht.1.1
  have h1 := hg.1
  have h6 := hg.2.1
  have H1 := Lib.hid (l9Tree_any B v L true ⟨fun _ => ht, fun _ => rfl⟩ w h)
  obtain ⟨A, c, rfl, hs⟩ := h.seen
  have HS := Lib.hid fun u hu w1 (b : Below w.heap.size w w1) => steps_any A c L hg u hu w1 (hs.below b)
  have HO := Lib.hid fun u (hu : u ≤ L.length) => mdT_ok L h6 u hu
  have HF := Lib.hid fun u j => farT_le (stepsT_le L u) j
  have HL := Lib.hid fun u => stepsT_len L u
  have HI := Lib.hid fun u j => stepsT_le L u j
  have hM : ∀ u, mdT L (u + 1) = mdNext L.length (mdT L u) u (farT (stepsT L u) L.length) := fun _ => rfl
  have hM0 : mdT L 0 = (L.length, 0) := rfl
  obtain ⟨n, hn⟩ : ∃ n, n = L.length := ⟨_, rfl⟩
  rw [← hn] at h1 h6 H1 HS HO HF HL HI hM hM0 ⊢
  have HM := Lib.hid hM
  have HM0 := Lib.hid hM0
  clear h hn hs hg ht hM hM0
  go_enter Tryd.func22, Tryd.ntmps22
  go_wp2_with fail
  refine H1.out.mono ?_
  rintro e w1 ⟨rfl, d, rfl⟩
  have B0 := Lib.hid (below_drewN (Below.refl w.heap.size w) d)
  obtain ⟨wd, ewd⟩ : ∃ wd, wd = w.drewN d := ⟨_, rfl⟩
  rw [← ewd] at B0 ⊢
  clear ewd H1
  go_wp2
  go_loopw [4, 5, 6, 7, 8, 9] (fun s b i _ _ _ wr => ∃ u : Nat, u ≤ n ∧ i = .int .i64 u ∧ s = .int .i64 ((mdT L u).2 : Nat) ∧ b = .int .i64 ((mdT L u).1 : Nat) ∧ Hid (Below w.heap.size w wr)) (fun _ _ i _ _ _ _ => n - (intOf i).toNat)
  case atStart => exact ⟨0, Nat.zero_le _, rfl, by rw [HM0.out]; rfl, by rw [HM0.out], B0⟩
  case round =>
    obtain ⟨u, hu, rfl, rfl, rfl, hb⟩ := hrel
    have hok := HO.out u hu
    by_cases hlt : u < n
    · have hm := HM.out u
      obtain ⟨P, _, hP, _, _, p1, p2, _⟩ := shl_facts u (by omega)
      unfold mdNext at hm
      rw [← hP] at hm
      have hPl : P < 64 := by rw [hP]; exact Nat.pow_lt_pow_right (a := 2) (by omega) (show u < 6 by omega)
      obtain ⟨st, est⟩ : ∃ st, st = mdT L u := ⟨_, rfl⟩
      rw [← est] at hm hok ⊢
      clear est
      obtain ⟨b, s⟩ := st
      dsimp only at hm hok ⊢
      have hf0 := HF.out u
      have hl0 := HL.out u
      have hi0 := HI.out u
      have HSU := Lib.hid (HS.out u hlt wr hb.out)
      obtain ⟨S, eS⟩ : ∃ S, S = stepsT L u := ⟨_, rfl⟩
      rw [← eS] at hm hf0 hl0 hi0 HSU
      have HMU := Lib.hid hm
      have HI0 := Lib.hid hi0
      have HF0 := Lib.hid hf0
      have HL0 := Lib.hid hl0
      clear eS hm hi0 hf0 hl0 hP
      go_wp2_with fail
      refine HSU.out.mono ?_
      rintro e w2 ⟨d', rfl, hr, hb2⟩
      obtain ⟨A', c', rfl, hs'⟩ := hr.seen
      have hlS : (ints S).length = n := by rw [ints_length, HL0.out]
      rw [hlS]
      have B2 := Lib.hid (hb.out.trans (hb2.mono hb.out.size))
      have S2 : Hid (∀ j, j < n → ∃ blk off, A' = some ⟨blk, off, none⟩ ∧ w2.cell? ⟨blk, off + j, none⟩ = some (.int .i64 (S[j]?.getD 0 : Nat))) := Lib.hid fun j hj => by
        obtain ⟨blk, off, a, _, hc⟩ := hs' j (by omega)
        refine ⟨blk, off, a, ?_⟩
        rw [hc]
        congr 2
        unfold ints
        rw [List.getElem?_map]
        cases S[j]? <;> simp
      clear hr hb2 hs' hlS HSU hb
      go_wp2
      go_loop [7, 9] (fun f i => ∃ j : Nat, j ≤ n ∧ i = .int .i64 j ∧ f = .int .i64 (farT S j : Nat)) (fun _ i => n - (intOf i).toNat)
      case atStart => exact ⟨0, Nat.zero_le _, rfl, rfl⟩
      case round =>
        obtain ⟨j, hj, rfl, rfl⟩ := hrel
        have hfj := HF0.out j
        by_cases hjn : j < n
        · obtain ⟨blk, off, rfl, hc⟩ := S2.out j hjn
          have e2 : farT S (j + 1) = max (farT S j) (S[j]?.getD 0) := rfl
          have hx := HI0.out j
          obtain ⟨x, ex⟩ : ∃ x, x = S[j]?.getD 0 := ⟨_, rfl⟩
          obtain ⟨f, ef⟩ : ∃ f, f = farT S j := ⟨_, rfl⟩
          rw [← ex] at hc e2 hx
          rw [← ef] at e2 hfj ⊢
          have E2 := Lib.hid e2
          have hi1 : (0 : Int) ≤ (j : Int) ∧ (j : Int) < (n : Int) := by omega
          clear e2 ex ef
          go_wp2
          go_round
          case rel => exact ⟨j + 1, by omega, by go_num, by rw [E2.out]; congr 1; split <;> omega⟩
          case measure => simp [intOf]; omega
        · have hjn' : j = n := by omega
          subst hjn'
          have hMU := HMU.out
          obtain ⟨f, ef⟩ : ∃ f, f = farT S j := ⟨_, rfl⟩
          rw [← ef] at hMU hfj ⊢
          clear ef HMU
          by_cases h1' : f < b
          · rw [if_pos h1'] at hMU
            have hd1 : decide ((f : Int) < (b : Int)) = true := by simp; omega
            have he : ((f : Int) == (f : Int)) = true := by simp
            have ho := i64_or_nat 0 P (by omega) (by omega)
            rw [Nat.zero_or] at ho
            have ho' : bits .or .i64 0 (P : Int) = (P : Int) := ho
            have HU := Lib.hid hMU
            clear hMU ho
            go_wp2
            go_roundw
            case rel => exact ⟨u + 1, by omega, by go_num, by rw [HU.out], by rw [HU.out], B2⟩
            case measure => simp [intOf]; omega
          · rw [if_neg h1'] at hMU
            have hd1 : decide ((f : Int) < (b : Int)) = false := by simp; omega
            by_cases h2' : f = b
            · rw [if_pos h2'] at hMU
              subst h2'
              have ho := i64_or_nat s P (by omega) (by omega)
              have HU := Lib.hid hMU
              clear hMU hd1
              go_wp2
              go_roundw
              case rel => exact ⟨u + 1, by omega, by go_num, by rw [HU.out], by rw [HU.out], B2⟩
              case measure => simp [intOf]; omega
            · rw [if_neg h2'] at hMU
              have he : ((f : Int) == (b : Int)) = false := by simp; omega
              have HU := Lib.hid hMU
              have h3' : b < f := by omega
              have hbf : (f == b) = false := by simp; omega
              clear hMU h2'
              go_wp2
              go_roundw
              case rel => exact ⟨u + 1, by omega, by go_num, by rw [HU.out], by rw [HU.out], B2⟩
              case measure => simp [intOf]; omega
    · have hun : u = n := by omega
      subst hun
      go_wp2
      go_ret2
      exact ⟨rfl, hb.out⟩
theorem specMid_no (B : Nat) (v : Value) (L : List Int) (ht : ¬ IsTree L) (w : World) (h : Row w B v L) :
    Calls Tryd.prog 22 #[v] w (NumOkA w 0 false) := by
  have H1 := Lib.hid (l9Tree_any B v L false ⟨fun h => (by cases h), fun h => absurd h ht⟩ w h)
  clear ht h
  go_enter Tryd.func22, Tryd.ntmps22
  go_wp2_with fail
  refine H1.out.mono ?_
  rintro e w1 ⟨rfl, d, rfl⟩
  go_wp2
  go_ret2
  exact ⟨rfl, below_drewN (Below.refl _ _) d⟩
end Go.Proofs.YtkngijkhhonikaaDoor
