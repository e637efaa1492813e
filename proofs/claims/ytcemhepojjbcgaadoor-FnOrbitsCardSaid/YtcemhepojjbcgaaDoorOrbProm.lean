/- The orbits of a graph: classes of nodes, apart from one another, all nodes together; the size of each divides the number of automorphisms. -/
import Derived.Test.YtcemhepojjbcgaaDoorLagrange
import Derived.Test.YtcemhepojjbcgaaDoorOrbMath
namespace Go.Proofs.YtcemhepojjbcgaaDoor
open Go Go.RowKit
set_option linter.unusedVariables false
set_option maxRecDepth 100000

theorem at_invP {n : Nat} {P : List Nat} (hP : Names n n P) {j : Nat} (hj : j < n) : at_ P (at_ (invP n P) j) = j := by
  unfold invP
  rw [map_range_at _ _ hj]
  exact (invF_spec hP hj).2
theorem at_invP' {n : Nat} {P : List Nat} (hP : Names n n P) {j : Nat} (hj : j < n) : at_ (invP n P) (at_ P j) = j := by
  have h := at_invP hP (at_name hP hj)
  exact at_inj hP (at_name (inv_names hP) (at_name hP hj)) hj h
theorem at_comp {n : Nat} {P Q : List Nat} {v : Nat} (hv : v < n) : at_ (compP n P Q) v = at_ Q (at_ P v) := by
  unfold compP
  rw [map_range_at _ _ hv]
theorem at_plain {n v : Nat} (hv : v < n) : at_ (List.range n) v = v := by
  unfold at_
  rw [List.getElem?_range hv]
  rfl
/-- How many bits of o lie below v. -/
def cb (o : Nat) : Nat → Nat
  | 0 => 0
  | v + 1 => cb o v + o / 2 ^ v % 2
theorem setAt_bit (v u : Nat) : ∀ R : List (List Nat), (setAt R v).testBit u = true ↔ ∃ P ∈ R, at_ P v = u := by
  intro R
  induction R using snoc_ind with
  | h0 => simp [setAt]
  | h1 l x ih =>
    rw [setAt_snoc, Nat.testBit_or, Bool.or_eq_true, ih, Nat.testBit_two_pow]
    constructor
    · rintro (⟨P, hP, e⟩ | e)
      · exact ⟨P, by simp [hP], e⟩
      · exact ⟨x, by simp, by simpa using e⟩
    · rintro ⟨P, hP, e⟩
      rcases List.mem_append.1 hP with h | h
      · exact .inl ⟨P, h, e⟩
      · rw [List.mem_singleton] at h
        subst h
        exact .inr (by simpa using e)
theorem autos_mem {L : List Int} (hL : IsGraph L) {A : List Nat} : A ∈ autosL L ↔ (Names L.length L.length A ∧ namedL L A = L) := by
  unfold autosL
  rw [List.mem_filter]
  constructor
  · rintro ⟨h1, h2⟩
    have hN := perms_names _ _ _ h1
    exact ⟨hN, (okC_iff hL hL rfl hN).1 h2⟩
  · rintro ⟨h1, h2⟩
    exact ⟨perms_all _ _ _ h1, (okC_iff hL hL rfl h1).2 h2⟩
theorem autos_comp {L : List Int} (hL : IsGraph L) {A B : List Nat} (hA : A ∈ autosL L) (hB : B ∈ autosL L) : compP L.length A B ∈ autosL L := by
  rw [autos_mem hL] at hA hB ⊢
  refine ⟨comp_names hA.1 hB.1, ?_⟩
  rw [← named_comp hL hA.1 hB.1, hA.2, hB.2]
theorem autos_inv {L : List Int} (hL : IsGraph L) {A : List Nat} (hA : A ∈ autosL L) : invP L.length A ∈ autosL L := by
  rw [autos_mem hL] at hA ⊢
  refine ⟨inv_names hA.1, ?_⟩
  have h := named_inv hL hA.1
  rw [hA.2] at h
  exact h
def orb (L : List Int) (v : Nat) : Nat := setAt (autosL L) v
theorem orb_lt {L : List Int} (hL : IsGraph L) {v : Nat} (hv : v < L.length) : orb L v < 2 ^ L.length := setAt_lt hv _ fun P hP => ((autos_mem hL).1 hP).1
theorem orb_self {L : List Int} (hL : IsGraph L) {v : Nat} (hv : v < L.length) : (orb L v).testBit v = true := (setAt_bit v v _).2 ⟨_, id_auto hL, at_plain hv⟩
theorem orb_in {L : List Int} (hL : IsGraph L) {v u : Nat} (hv : v < L.length) (h : (orb L v).testBit u = true) : u < L.length := by
  obtain ⟨A, hA, e⟩ := (setAt_bit v u _).1 h
  rw [← e]
  exact at_name ((autos_mem hL).1 hA).1 hv
theorem orb_same {L : List Int} (hL : IsGraph L) {v u : Nat} (hv : v < L.length) (h : (orb L v).testBit u = true) : orb L u = orb L v := by
  have hu := orb_in hL hv h
  obtain ⟨A, hA, e⟩ := (setAt_bit v u _).1 h
  have hAN := ((autos_mem hL).1 hA).1
  refine Nat.eq_of_testBit_eq fun x => ?_
  rw [Bool.eq_iff_iff]
  constructor
  · intro hx
    obtain ⟨B, hB, e2⟩ := (setAt_bit u x _).1 hx
    exact (setAt_bit v x _).2 ⟨_, autos_comp hL hA hB, by rw [at_comp hv, e, e2]⟩
  · intro hx
    obtain ⟨B, hB, e2⟩ := (setAt_bit v x _).1 hx
    exact (setAt_bit u x _).2 ⟨_, autos_comp hL (autos_inv hL hA) hB, by rw [at_comp hu, ← e, at_invP' hAN hv, e2]⟩
theorem fibres_count {α : Type} (f : α → Nat) (s o : Nat) (R : List α) (h : ∀ x ∈ R, (R.filter fun y => f y == f x).length = s) (ho : ∀ c, o.testBit c = true ↔ ∃ x ∈ R, f x = c) : ∀ K, (R.filter fun x => decide (f x < K)).length = s * cb o K
  | 0 => by
    rw [List.filter_eq_nil_iff.2 (fun a _ => by simp)]
    rfl
  | K + 1 => by
    rw [split_count, fibres_count f s o R h ho K]
    show _ = s * (cb o K + o / 2 ^ K % 2)
    rw [Nat.mul_add]
    congr 1
    have hb : o.testBit K = true ↔ o / 2 ^ K % 2 = 1 := by rw [Nat.testBit_eq_decide_div_mod_eq, decide_eq_true_eq]
    by_cases hx : ∃ x ∈ R, f x = K
    · rw [hb.1 ((ho K).2 hx), Nat.mul_one]
      obtain ⟨x, hx, rfl⟩ := hx
      exact h x hx
    · have h0 : o / 2 ^ K % 2 = 0 := by
        rcases Nat.mod_two_eq_zero_or_one (o / 2 ^ K) with e | e
        · exact e
        · exact absurd ((ho K).1 (hb.2 e)) hx
      rw [h0, Nat.mul_zero]
      have : (R.filter fun x => f x == K) = [] := by
        rw [List.filter_eq_nil_iff]
        intro a ha e
        exact hx ⟨a, ha, by simpa using e⟩
      rw [this]
      rfl
theorem stab_same {L : List Int} (hL : IsGraph L) {v : Nat} (hv : v < L.length) {A0 : List Nat} (h0 : A0 ∈ autosL L) :
    ((autosL L).filter fun A => at_ A v == at_ A0 v).length = ((autosL L).filter fun A => at_ A v == v).length := by
  have hN := ((autos_mem hL).1 h0).1
  have hin := autos_inv hL h0
  have hiN := inv_names hN
  unfold autosL
  rw [List.filter_filter, List.filter_filter]
  refine Nat.le_antisymm (comp_count (p := fun A => (at_ A v == at_ A0 v) && okC L L A) hiN fun A hA h => ?_) (comp_count (p := fun A => (at_ A v == v) && okC L L A) hN fun A hA h => ?_)
  · rw [Bool.and_eq_true, beq_iff_eq] at h ⊢
    have hAm := (autos_mem hL).2 ⟨hA, (okC_iff hL hL rfl hA).1 h.2⟩
    have hC := (autos_mem hL).1 (autos_comp hL hAm hin)
    exact ⟨by rw [at_comp hv, h.1, at_invP' hN hv], (okC_iff hL hL rfl hC.1).2 hC.2⟩
  · rw [Bool.and_eq_true, beq_iff_eq] at h ⊢
    have hAm := (autos_mem hL).2 ⟨hA, (okC_iff hL hL rfl hA).1 h.2⟩
    have hC := (autos_mem hL).1 (autos_comp hL hAm h0)
    exact ⟨by rw [at_comp hv, h.1], (okC_iff hL hL rfl hC.1).2 hC.2⟩
theorem orb_divides {L : List Int} (hL : IsGraph L) {v : Nat} (hv : v < L.length) : cb (orb L v) L.length ∣ (autosL L).length := by
  have h := fibres_count (fun A => at_ A v) ((autosL L).filter fun A => at_ A v == v).length (orb L v) (autosL L) (fun A hA => stab_same hL hv hA) (fun c => setAt_bit v c _) L.length
  rw [List.filter_eq_self.2 fun A hA => ?_] at h
  · exact ⟨_, by rw [h, Nat.mul_comm]⟩
  · have := at_name ((autos_mem hL).1 hA).1 hv
    simpa using this
theorem cb_mono (o : Nat) : ∀ {a b : Nat}, a ≤ b → cb o a ≤ cb o b
  | a, 0, h => by have : a = 0 := by omega
                  subst this; exact Nat.le_refl _
  | a, b + 1, h => by
    by_cases e : a = b + 1
    · subst e; exact Nat.le_refl _
    · have := cb_mono o (show a ≤ b by omega)
      show _ ≤ cb o b + o / 2 ^ b % 2
      omega
theorem cb_le (o : Nat) : ∀ v, cb o v ≤ v
  | 0 => Nat.le_refl _
  | v + 1 => by
    have := cb_le o v
    show cb o v + o / 2 ^ v % 2 ≤ v + 1
    omega
theorem orb_some {L : List Int} (hL : IsGraph L) {v : Nat} (hv : v < L.length) : 1 ≤ cb (orb L v) L.length := by
  have h1 := orb_self hL hv
  rw [Nat.testBit_eq_decide_div_mod_eq, decide_eq_true_eq] at h1
  have h2 := cb_mono (orb L v) (show v + 1 ≤ L.length by omega)
  have h3 : cb (orb L v) (v + 1) = cb (orb L v) v + orb L v / 2 ^ v % 2 := rfl
  omega
/-- All of the first i sets. -/
def allOf (bs : List Nat) (i : Nat) : Nat := (bs.take i).foldl (fun s b => s ||| b) 0
theorem allOf_zero (bs : List Nat) : allOf bs 0 = 0 := rfl
theorem allOf_succ (bs : List Nat) {i : Nat} (hi : i < bs.length) : allOf bs (i + 1) = allOf bs i ||| bs[i]?.getD 0 := by
  unfold allOf
  rw [List.take_succ_eq_append_getElem hi, List.foldl_append, List.getElem?_eq_getElem hi]
  rfl
theorem allOf_snoc_lt (bs : List Nat) (b : Nat) {i : Nat} (hi : i ≤ bs.length) : allOf (bs ++ [b]) i = allOf bs i := by
  unfold allOf
  rw [List.take_append_of_le_length hi]
structure Blk (L : List Int) (v : Nat) (bs : List Nat) (s : Nat) : Prop where
  all : allOf bs bs.length = s
  bit : ∀ u, s.testBit u = true ↔ ∃ x, x < v ∧ (orb L x).testBit u = true
  each : ∀ i, i < bs.length → (∃ x, x < L.length ∧ bs[i]?.getD 0 = orb L x) ∧ allOf bs i &&& bs[i]?.getD 0 = 0
theorem blk_all {L : List Int} (hL : IsGraph L) : ∀ v, v ≤ L.length → Blk L v (blkTo (setAt (autosL L)) v).1 (blkTo (setAt (autosL L)) v).2
  | 0, _ => ⟨rfl, fun u => ⟨fun h => (by rw [show (blkTo (setAt (autosL L)) 0).2 = 0 from rfl, Nat.zero_testBit] at h; cases h), fun ⟨x, h, _⟩ => absurd h (Nat.not_lt_zero x)⟩, fun i h => absurd h (Nat.not_lt_zero i)⟩
  | v + 1, hv => by
    have ih := blk_all hL v (by omega)
    have hvl : v < L.length := by omega
    by_cases hb : (blkTo (setAt (autosL L)) v).2 / 2 ^ v % 2 = 1
    · rw [blkTo_yes hb]
      have hb2 : (blkTo (setAt (autosL L)) v).2.testBit v = true := by rw [Nat.testBit_eq_decide_div_mod_eq, decide_eq_true_eq]; exact hb
      refine ⟨ih.all, fun u => ?_, ih.each⟩
      rw [ih.bit]
      constructor
      · rintro ⟨x, hx, e⟩
        exact ⟨x, by omega, e⟩
      · rintro ⟨x, hx, e⟩
        by_cases hxv : x = v
        · subst hxv
          obtain ⟨y, hy, e2⟩ := (ih.bit x).1 hb2
          exact ⟨y, hy, by rw [← orb_same hL (by omega) e2]; exact e⟩
        · exact ⟨x, by omega, e⟩
    · rw [blkTo_no hb]
      have hb2 : ¬ (blkTo (setAt (autosL L)) v).2.testBit v = true := by rw [Nat.testBit_eq_decide_div_mod_eq, decide_eq_true_eq]; exact hb
      refine ⟨?_, fun u => ?_, fun i hi => ?_⟩
      · show allOf (_ ++ [_]) (_ ++ [_]).length = _
        rw [List.length_append, List.length_singleton, allOf_succ _ (by simp), allOf_snoc_lt _ _ (Nat.le_refl _), ih.all, List.getElem?_append_right (Nat.le_refl _), Nat.sub_self]
        rfl
      · show ((blkTo (setAt (autosL L)) v).2 ||| setAt (autosL L) v).testBit u = true ↔ _
        rw [Nat.testBit_or, Bool.or_eq_true, ih.bit]
        constructor
        · rintro (⟨x, hx, e⟩ | e)
          · exact ⟨x, by omega, e⟩
          · exact ⟨v, by omega, e⟩
        · rintro ⟨x, hx, e⟩
          by_cases hxv : x = v
          · subst hxv; exact .inr e
          · exact .inl ⟨x, by omega, e⟩
      · rw [List.length_append, List.length_singleton] at hi
        by_cases hib : i < (blkTo (setAt (autosL L)) v).1.length
        · obtain ⟨h1, h2⟩ := ih.each i hib
          show (∃ x, x < L.length ∧ ((blkTo (setAt (autosL L)) v).1 ++ [_])[i]?.getD 0 = orb L x) ∧ allOf ((blkTo (setAt (autosL L)) v).1 ++ [_]) i &&& ((blkTo (setAt (autosL L)) v).1 ++ [_])[i]?.getD 0 = 0
          rw [List.getElem?_append_left hib, allOf_snoc_lt _ _ (by omega)]
          exact ⟨h1, h2⟩
        · have hie : i = (blkTo (setAt (autosL L)) v).1.length := by omega
          subst hie
          show (∃ x, x < L.length ∧ ((blkTo (setAt (autosL L)) v).1 ++ [setAt (autosL L) v])[(blkTo (setAt (autosL L)) v).1.length]?.getD 0 = orb L x) ∧ allOf ((blkTo (setAt (autosL L)) v).1 ++ [_]) (blkTo (setAt (autosL L)) v).1.length &&& ((blkTo (setAt (autosL L)) v).1 ++ [setAt (autosL L) v])[(blkTo (setAt (autosL L)) v).1.length]?.getD 0 = 0
          rw [List.getElem?_append_right (Nat.le_refl _), Nat.sub_self, allOf_snoc_lt _ _ (Nat.le_refl _), ih.all]
          refine ⟨⟨v, hvl, rfl⟩, Nat.eq_of_testBit_eq fun u => ?_⟩
          rw [Nat.testBit_and, Nat.zero_testBit]
          show (_ && (setAt (autosL L) v).testBit u) = false
          rw [Bool.and_eq_false_iff]
          by_cases hu : (blkTo (setAt (autosL L)) v).2.testBit u = true
          · refine .inr ?_
            rw [← Bool.not_eq_true]
            intro hu2
            obtain ⟨x, hx, e⟩ := (ih.bit u).1 hu
            have e1 := orb_same hL (by omega) e
            have e2 := orb_same hL hvl hu2
            refine hb2 ((ih.bit v).2 ⟨x, hx, ?_⟩)
            rw [← e1, e2]
            exact orb_self hL hvl
          · exact .inl (by simpa using hu)
theorem orbits_facts {L : List Int} (hL : IsGraph L) :
    (∀ i, i < (orbitsL L).length → (orbitsL L)[i]?.getD 0 < 64 ∧ 1 ≤ cb ((orbitsL L)[i]?.getD 0) L.length ∧ cb ((orbitsL L)[i]?.getD 0) L.length ∣ (autosL L).length ∧ allOf (orbitsL L) i &&& (orbitsL L)[i]?.getD 0 = 0) ∧
    (∀ i, i ≤ (orbitsL L).length → allOf (orbitsL L) i < 64) ∧ allOf (orbitsL L) (orbitsL L).length = 2 ^ L.length - 1 := by
  have hB := blk_all hL L.length (Nat.le_refl _)
  have h64 := two_le hL.2.1
  have he : ∀ i, i < (orbitsL L).length → (orbitsL L)[i]?.getD 0 < 64 ∧ 1 ≤ cb ((orbitsL L)[i]?.getD 0) L.length ∧ cb ((orbitsL L)[i]?.getD 0) L.length ∣ (autosL L).length ∧ allOf (orbitsL L) i &&& (orbitsL L)[i]?.getD 0 = 0 := fun i hi => by
    obtain ⟨⟨x, hx, e⟩, h2⟩ := hB.each i hi
    have e' : (orbitsL L)[i]?.getD 0 = orb L x := e
    have h2' : allOf (orbitsL L) i &&& (orbitsL L)[i]?.getD 0 = 0 := h2
    rw [e'] at h2' ⊢
    have h3 := orb_lt hL hx
    exact ⟨by omega, orb_some hL hx, orb_divides hL hx, h2'⟩
  refine ⟨he, fun i => ?_, ?_⟩
  · induction i with
    | zero => intro _; show (0 : Nat) < 64; decide
    | succ i ih =>
      intro hi
      rw [allOf_succ _ (by omega)]
      exact Nat.or_lt_two_pow (n := 6) (ih (by omega)) (he i (by omega)).1
  · show allOf (blkTo (setAt (autosL L)) L.length).1 _ = _
    unfold orbitsL
    rw [hB.all]
    refine Nat.eq_of_testBit_eq fun u => ?_
    rw [Nat.testBit_two_pow_sub_one, Bool.eq_iff_iff, decide_eq_true_eq, hB.bit]
    constructor
    · rintro ⟨x, hx, e⟩
      exact orb_in hL hx e
    · intro hu
      exact ⟨u, hu, orb_self hL hu⟩
end Go.Proofs.YtcemhepojjbcgaaDoor
