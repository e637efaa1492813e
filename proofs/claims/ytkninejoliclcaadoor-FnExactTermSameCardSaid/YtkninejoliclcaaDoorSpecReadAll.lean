/- The model reads a term: l11Read at each place of a text. -/
import Derived.Test.YtkninejoliclcaaDoorSpecRead
namespace Go.Proofs.YtkninejoliclcaaDoor
open Go Go.RowKit
set_option linter.unusedVariables false
set_option maxRecDepth 100000

/-- Reading from a place on. -/
def rdq (L : List UInt8) (f p : Nat) : Option (Tm × Nat) :=
  match rd f (L.drop p) with
  | none => none
  | some (t, r) => some (t, L.length - r.length)
def SReadAt (L : List UInt8) (f : Nat) : Prop := ∀ (p : Nat) (w : World), p ≤ L.length → L.length ≤ p + f → Calls Tryd.prog 40 #[.string ⟨L.toArray⟩, .int .i64 (p : Nat)] w (SGot w (rdq L f p))
theorem idx_string (L : List UInt8) (p : Nat) (c : UInt8) (h : L[p]? = some c) (w : World) : (Instr.index 9 (.string ⟨L.toArray⟩) (.int .i64 (p : Nat))).run Tryd.prog w = .ok (.int .u8 (c.toNat : Int)) w := by
  obtain ⟨hp, hc⟩ := List.getElem?_eq_some_iff.1 h
  have hs : ({ data := L.toArray } : ByteArray).size = L.length := by show L.toArray.size = _; simp
  rw [run_index_string w 9 _ _ _ (by kernel_rfl), dif_pos (by rw [hs]; omega)]
  have he : ({ data := L.toArray } : ByteArray)[((p : Nat) : Int).toNat]'(by rw [hs]; omega) = c := by
    show L.toArray[((p : Nat) : Int).toNat]'_ = c
    simp [hc]
  rw [he]
theorem drop_cons {L : List UInt8} {p : Nat} {c : UInt8} {r : List UInt8} (h : L.drop p = c :: r) : L[p]? = some c ∧ L.drop (p + 1) = r ∧ p < L.length := by
  have h1 : p < L.length := by
    refine Nat.lt_of_not_le fun hl => ?_
    rw [List.drop_eq_nil_of_le hl] at h
    cases h
  rw [List.drop_eq_getElem_cons h1] at h
  obtain ⟨e1, e2⟩ := List.cons.inj h
  exact ⟨by rw [← e1]; simp [h1], e2, h1⟩
/-- What is left behind a reading is what is behind a place. -/
theorem rd_drop {L : List UInt8} {f p : Nat} {t : Tm} {r : List UInt8} (h : rd f (L.drop p) = some (t, r)) : r = L.drop (L.length - r.length) ∧ p < L.length - r.length ∧ L.length - r.length ≤ L.length ∧ r.length ≤ L.length := by
  obtain ⟨q, e, g, _⟩ := rd_len f (L.drop p) t r h
  have h1 : (L.drop p).length = q.length + r.length := by rw [e, List.length_append]
  rw [List.length_drop] at h1
  refine ⟨?_, by omega, by omega, by omega⟩
  have h2 : L.length - r.length = p + q.length := by omega
  rw [h2, ← List.drop_drop, e, List.drop_left]

theorem sread_all (L : List UInt8) (hL : L.length ≤ 60) : ∀ f, SReadAt L f := by
  have hS : ({ data := L.toArray } : ByteArray).size = L.length := by show L.toArray.size = _; simp
  intro f
  induction f with
  | zero =>
    intro p w hp hf
    rw [show rdq L 0 p = none from rfl]
    exact sread_end _ L.length p hS (by omega) w
  | succ f ih =>
    intro p w hp hf
    by_cases hpl : L.length ≤ p
    · have e0 : L.drop p = [] := List.drop_eq_nil_of_le hpl
      rw [show rdq L (f + 1) p = none by unfold rdq; rw [e0]; rfl]
      exact sread_end _ L.length p hS hpl w
    · have hw : ∀ q : Nat, q ≤ 60 → wrap64 ((q : Int) + 1) = ((q + 1 : Nat) : Int) := fun q hq => by unfold wrap64; omega
      cases hd : L.drop p with
      | nil =>
        have := congrArg List.length hd
        simp at this
        omega
      | cons c r =>
        obtain ⟨hc, hr, hp1⟩ := drop_cons hd
        have hrl : r.length = L.length - (p + 1) := by rw [← hr, List.length_drop]
        have hi := idx_string L p c hc
        have H0 := fun w => ih (p + 1) w (by omega) (by omega)
        have hrq : rdq L f (p + 1) = (match rd f r with | none => none | some (t, r') => some (t, L.length - r'.length)) := by unfold rdq; rw [hr]
        unfold rdq
        rw [hd]
        by_cases h1 : c = 49
        · rw [show rd (f + 1) (c :: r) = some (.one, r) by rw [rd, if_pos h1]]
          have := sread_one _ L.length p hS hpl (hw p (by omega)) (fun w => by have := hi w; rw [h1] at this; exact this) w
          rw [← show L.length - r.length = p + 1 by omega] at this
          exact this
        · by_cases h2 : c = 40
          · have hi40 : ∀ w, (Instr.index 9 (.string ⟨L.toArray⟩) (.int .i64 (p : Nat))).run Tryd.prog w = .ok (.int .u8 40) w := fun w => by have := hi w; rw [h2] at this; exact this
            rw [show rd (f + 1) (c :: r) = _ from by rw [rd, if_neg h1, if_pos h2]]
            cases ea : rd f r with
            | none =>
              refine sread_open_none1 _ L.length p hS hpl (hw p (by omega)) hi40 (fun w => ?_) w
              have := H0 w
              rw [hrq, ea] at this
              exact this
            | some y =>
              obtain ⟨a, m⟩ := y
              obtain ⟨k1, k2, k3, k4⟩ := rd_drop (L := L) (p := p + 1) (by rw [hr]; exact ea)
              have H1 : ∀ w, Calls Tryd.prog 40 #[.string ⟨L.toArray⟩, .int .i64 ((p + 1 : Nat) : Int)] w (SGot w (some (a, L.length - m.length))) := fun w => by
                have := H0 w
                rw [hrq, ea] at this
                exact this
              obtain ⟨q, eq⟩ : ∃ q, q = L.length - m.length := ⟨_, rfl⟩
              rw [← eq] at k1 k2 k3 H1
              cases m with
              | nil => exact sread_open_end1 _ L.length p hS hpl (hw p (by omega)) hi40 a q (by rw [eq]; simp) (by omega) H1 w
              | cons d mm =>
                obtain ⟨g1, g2, g3⟩ := drop_cons k1.symm
                have hj := idx_string L q d g1
                have hd43 : d ≠ 43 → ¬ (d.toNat : Int) = 43 := fun h e => h (UInt8.toNat_inj.1 (by rw [show (43 : UInt8).toNat = 43 from rfl]; omega))
                have hd42 : d ≠ 42 → ¬ (d.toNat : Int) = 42 := fun h e => h (UInt8.toNat_inj.1 (by rw [show (42 : UInt8).toNat = 42 from rfl]; omega))
                by_cases hds : d = 43 ∨ d = 42
                · have hsg : (d.toNat : Int) = 43 ∨ (d.toNat : Int) = 42 := hds.imp (fun h => by rw [h]; rfl) (fun h => by rw [h]; rfl)
                  have hsI : sgI (decide (d = 42)) = (d.toNat : Int) := by rcases hds with rfl | rfl <;> rfl
                  have K0 := fun w => ih (q + 1) w (by omega) (by omega)
                  have hkq : rdq L f (q + 1) = (match rd f mm with | none => none | some (t, r') => some (t, L.length - r'.length)) := by unfold rdq; rw [g2]
                  simp only [if_pos hds]
                  cases eb : rd f mm with
                  | none =>
                    refine sread_open_none2 _ L.length p hS hpl (hw p (by omega)) hi40 a q (by omega) (by omega) (hw q (by omega)) _ hsg hj H1 (fun w => ?_) w
                    have := K0 w
                    rw [hkq, eb] at this
                    exact this
                  | some z =>
                    obtain ⟨b, m2⟩ := z
                    obtain ⟨u1, u2, u3, u4⟩ := rd_drop (L := L) (p := q + 1) (by rw [g2]; exact eb)
                    have H2 : ∀ w, Calls Tryd.prog 40 #[.string ⟨L.toArray⟩, .int .i64 ((q + 1 : Nat) : Int)] w (SGot w (some (b, L.length - m2.length))) := fun w => by
                      have := K0 w
                      rw [hkq, eb] at this
                      exact this
                    obtain ⟨q2, eq2⟩ : ∃ q2, q2 = L.length - m2.length := ⟨_, rfl⟩
                    rw [← eq2] at u1 u2 u3 H2
                    cases m2 with
                    | nil => exact sread_open_end2 _ L.length p hS hpl (hw p (by omega)) hi40 a q (by omega) (by omega) (hw q (by omega)) _ hsg b q2 (by rw [eq2]; simp) (by omega) hj H1 H2 w
                    | cons e z =>
                      obtain ⟨v1, v2, v3⟩ := drop_cons u1.symm
                      have hk := idx_string L q2 e v1
                      by_cases he : e = 41
                      · simp only [if_pos he]
                        have := sread_open_yes _ L.length p hS hpl (hw p (by omega)) hi40 a q (by omega) (by omega) (hw q (by omega)) _ hsg b q2 (by omega) (by omega) (hw q2 (by omega)) (decide (d = 42)) hsI (fun w => by have := hk w; rw [he] at this; exact this) hj H1 H2 w
                        rw [← show L.length - z.length = q2 + 1 by have := congrArg List.length v2; rw [List.length_drop] at this; omega] at this
                        exact this
                      · simp only [if_neg he]
                        exact sread_open_bad2 _ L.length p hS hpl (hw p (by omega)) hi40 a q (by omega) (by omega) (hw q (by omega)) _ hsg b q2 (by omega) (by omega) _ (fun h => he (UInt8.toNat_inj.1 (by rw [show (41 : UInt8).toNat = 41 from rfl]; omega))) hk hj H1 H2 w
                · simp only [if_neg hds]
                  exact sread_open_bad1 _ L.length p hS hpl (hw p (by omega)) hi40 a q (by omega) (by omega) _ (hd43 fun h => hds (Or.inl h)) (hd42 fun h => hds (Or.inr h)) hj H1 w
          · by_cases h3 : c = 45
            · cases ea : rd f r with
              | none =>
                rw [show rd (f + 1) (c :: r) = none by rw [rd, if_neg h1, if_neg h2, if_pos h3, ea]]
                refine sread_minus_none _ L.length p hS hpl (hw p (by omega)) (fun w => by have := hi w; rw [h3] at this; exact this) (fun w => ?_) w
                have := H0 w
                rw [hrq, ea] at this
                exact this
              | some y =>
                obtain ⟨a, r'⟩ := y
                rw [show rd (f + 1) (c :: r) = some (.neg a, r') by rw [rd, if_neg h1, if_neg h2, if_pos h3, ea]]
                refine sread_minus_some _ L.length p hS hpl (hw p (by omega)) (fun w => by have := hi w; rw [h3] at this; exact this) a _ (fun w => ?_) w
                have := H0 w
                rw [hrq, ea] at this
                exact this
            · rw [show rd (f + 1) (c :: r) = none by rw [rd, if_neg h1, if_neg h2, if_neg h3]]
              exact sread_else _ L.length p (c.toNat : Int) hS hpl (fun h => h1 (UInt8.toNat_inj.1 (by rw [show (49 : UInt8).toNat = 49 from rfl]; omega))) (fun h => h3 (UInt8.toNat_inj.1 (by rw [show (45 : UInt8).toNat = 45 from rfl]; omega))) (fun h => h2 (UInt8.toNat_inj.1 (by rw [show (40 : UInt8).toNat = 40 from rfl]; omega))) hi w

end Go.Proofs.YtkninejoliclcaaDoor
