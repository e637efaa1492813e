/- FineEven by both; the law FnExactFineEven. -/
import Derived.Test.YtkccaajgdgdaaaaDoorSpecEven
import Derived.Test.YtkccaajgdgdaaaaDoorDiffFn
namespace Go.Proofs.YtkccaajgdgdaaaaDoor
open Go Go.RowKit
set_option linter.unusedVariables false
set_option maxRecDepth 100000

theorem near_cnt {L C : List Int} (hN : Net L) {v c : Nat} (hv : v < L.length) : cntC C ((nearL L L.length)[v]?.getD []) c = (nbHues L C v).count (hue C c) := by
  rw [nearL_get L hv, nearTo_nodes hN hv]
  unfold cntC nbHues List.count
  rw [List.countP_map, List.countP_map]
  rfl
theorem sortL_eq_iff (xs ys : List Int) : sortL xs = sortL ys ↔ xs.Perm ys :=
  ⟨fun h => (sortL_perm xs).symm.trans (h ▸ sortL_perm ys), fun h => sortL_of ((sortL_perm xs).trans h) (sortL_sorted xs)⟩
theorem finer_eq_iff {L C : List Int} {a b : Nat} (ha : a < L.length) (hb : b < L.length) : hue (finerL L C) a = hue (finerL L C) b ↔ lookOf L C a = lookOf L C b := by
  unfold hue
  rw [finerL_get L C ha, finerL_get L C hb]
  constructor
  · intro h; exact rank_inj (look_mem L C ha) (look_mem L C hb) (by omega)
  · intro h; rw [h]
/-- Colours are even just if no more come. -/
theorem even_iff {L C : List Int} (hN : Net L) : EvenN (nearL L L.length) C ↔ kinds L.length (finerL L C) = kinds L.length C := by
  rw [kinds_eq_iff (finer_refines L C)]
  unfold EvenN EvenAt
  rw [nearL_length]
  constructor
  · rintro h ⟨a, b, hab, hb, hc, hf⟩
    refine hf ((finer_eq_iff (by omega) hb).2 ?_)
    unfold lookOf
    rw [hc, (sortL_eq_iff _ _).2]
    refine List.perm_iff_count.2 fun x => ?_
    by_cases hx : ∃ c, c < L.length ∧ hue C c = x
    · obtain ⟨c, hcl, rfl⟩ := hx
      rw [← near_cnt hN (by omega), ← near_cnt hN hb]
      exact h a b c (by omega) hb hcl hc
    · have zero : ∀ v, v < L.length → (nbHues L C v).count x = 0 := fun v hv => by
        rw [List.count_eq_zero]
        intro hm
        obtain ⟨i, hi, e⟩ := List.mem_map.1 hm
        exact hx ⟨i, nodesT_lt hN.2.1 (hN.ent hv).2.1 i hi, e⟩
      rw [zero a (by omega), zero b hb]
  · intro h v w c hv hw hc he
    have key : lookOf L C v = lookOf L C w := by
      rw [← finer_eq_iff hv hw]
      refine Classical.byContradiction fun hne => ?_
      rcases Nat.lt_trichotomy v w with h1 | h1 | h1
      · exact h ⟨v, w, h1, hw, he, hne⟩
      · subst h1; exact hne rfl
      · exact h ⟨w, v, h1, hv, he.symm, fun e => hne e.symm⟩
    unfold lookOf at key
    injection key with _ key
    rw [near_cnt hN hv, near_cnt hN hw]
    exact List.perm_iff_count.1 ((sortL_eq_iff _ _).1 key) _

set_option maxHeartbeats 400000 in
theorem implEven_fn (A A' : Option Addr) (c c' : Nat) (L C : List Int) (hN : Net L) (hl : C.length = L.length) (hC : Hues C) (b : Bool) (hb : b = true ↔ EvenN (nearL L L.length) C) (w : World) (hL : Seen w A L) (hCs : Seen w A' C) (hT : TabT w) :
    Calls Tryd.prog 41 #[.slice A L.length c, .slice A' C.length c'] w (Said1 w b) := by
  have H1 := Lib.hid (callsIn_wide.1 (finer_in A A' c c' L C hN hl hC w hL hCs hT))
  have h12 := hN.2.1
  have hk1 : (Lib.compact (sortL (finerL L C))).length = kinds L.length (finerL L C) := by rw [different_kinds, finerL_length]
  have hk2 : (Lib.compact (sortL C)).length = kinds L.length C := by rw [different_kinds, hl]
  have hbe : (((kinds L.length (finerL L C) : Nat) : Int) == ((kinds L.length C : Nat) : Int)) = b := by
    rw [Bool.eq_iff_iff, hb, even_iff hN, beq_iff_eq]
    omega
  have H2 := Lib.hid (fun A c w hS => different_any A c (finerL L C) (by rw [finerL_length]; omega) w hS)
  have H3 := Lib.hid (fun w hS => different_any A' c' C (by omega) w hS)
  rw [hk1] at H2
  rw [hk2] at H3
  obtain ⟨k1, ek1⟩ : ∃ k1, k1 = kinds L.length (finerL L C) := ⟨_, rfl⟩
  obtain ⟨k2, ek2⟩ : ∃ k2, k2 = kinds L.length C := ⟨_, rfl⟩
  rw [← ek1] at H2 hbe
  rw [← ek2] at H3 hbe
  have HCS := Lib.hid hCs
  rw [hl] at H1 H3 ⊢
  obtain ⟨n, hn⟩ : ∃ n, n = L.length := ⟨_, rfl⟩
  obtain ⟨F, eF⟩ : ∃ F, F = finerL L C := ⟨_, rfl⟩
  have hFl : F.length = n := by rw [eF, finerL_length, hn]
  rw [← eF] at H1 H2
  rw [← hn] at H1 H3 ⊢
  rw [hFl] at H2
  have HFL := Lib.hid hFl
  clear hL hCs hT hk1 hk2 hb ek1 ek2 hC hN h12 hl hn eF hFl
  cases b
  all_goals
    go_enter Tryd.func41, Tryd.ntmps41
    go_wp2_with fail
    refine H1.out.mono ?_
    rintro e w1 ⟨u, rfl, hr, b1⟩
    obtain ⟨A1, c1, hu, hs1⟩ := hr.seen
    subst hu
    rw [HFL.out]
    go_wp2_with fail
    refine (H2.out A1 c1 w1 hs1).mono ?_
    rintro e w2 ⟨rfl, b2⟩
    have b12 : Below w.heap.size w w2 := b1.trans (b2.mono b1.size)
    go_wp2_with fail
    refine (H3.out w2 (HCS.out.below b12)).mono ?_
    rintro e w3 ⟨rfl, b3⟩
    have B3 := Lib.hid (b12.trans (b3.mono b12.size))
    clear b1 b2 b3 b12 hr hs1
    go_wp2
    go_ret
    exact ⟨rfl, B3.out⟩
theorem implEven_yes (B B' : Nat) (v v' : Value) (L C : List Int) (hg : GivenC L C) (b : Bool) (hb : b = true ↔ EvenN (nearL L L.length) C) (w : World) (h : Row w B v L) (h' : Row w B' v' C) (hT : TabT w) :
    Calls Tryd.prog 24 #[v, v'] w (Said1 w b) := by
  have H1 := Lib.hid (asC_any B B' v v' L C true ⟨fun _ => hg, fun _ => rfl⟩ w h h' hT.1)
  have h2 := hT.lt
  obtain ⟨A, c, rfl, hs⟩ := h.seen
  obtain ⟨A', c', rfl, hs'⟩ := h'.seen
  have H2 := Lib.hid (fun w hs hs' ht => implEven_fn A A' c c' L C (net_of hg.1) hg.2.1 hg.2.2 b hb w hs hs' ht)
  clear hg h h' hb
  go_enter Tryd.func24, Tryd.ntmps24
  go_wp2_with fail
  refine H1.out.mono ?_
  rintro e w1 ⟨rfl, b1⟩
  simp only [if_true]
  go_wp2_with fail
  refine (H2.out w1 (hs.below b1) (hs'.below b1) (hT.below b1 (by omega))).mono ?_
  rintro e w2 ⟨rfl, hb⟩
  have HB := Lib.hid (b1.trans (hb.mono b1.size))
  clear b1 hb
  cases b
  all_goals
    go_wp2
    go_ret
    exact ⟨rfl, HB.out⟩
theorem implEven_no (B B' : Nat) (v v' : Value) (L C : List Int) (hg : ¬ GivenC L C) (w : World) (h : Row w B v L) (h' : Row w B' v' C) (hT : TabT w) :
    Calls Tryd.prog 24 #[v, v'] w (Said1 w false) := by
  have H1 := Lib.hid (asC_any B B' v v' L C false ⟨fun h => (by cases h), fun h => absurd h hg⟩ w h h' hT.1)
  clear hg h h' hT
  go_enter Tryd.func24, Tryd.ntmps24
  go_wp2_with fail
  refine H1.out.mono ?_
  rintro e w1 ⟨rfl, b1⟩
  simp only [Bool.false_eq_true, if_false]
  go_wp2
  go_ret
  exact ⟨rfl, b1⟩
theorem specEven_no (B B' : Nat) (v v' : Value) (L C : List Int) (hg : ¬ GivenC L C) (w : World) (h : Row w B v L) (h' : Row w B' v' C) :
    Calls Tryd.prog 23 #[v, v'] w (Said1 w false) := by
  have H1 := Lib.hid (given_any B B' v v' L C false ⟨fun h => (by cases h), fun h => absurd h hg⟩ w h h')
  clear hg h h'
  go_enter Tryd.func23, Tryd.ntmps23
  go_wp2_with fail
  refine H1.out.mono ?_
  rintro e w1 ⟨rfl, d, rfl⟩
  go_wp2
  go_ret
  exact ⟨rfl, below_drewN (Below.refl w.heap.size w) d⟩
end Go.Proofs.YtkccaajgdgdaaaaDoor
