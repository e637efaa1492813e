/- The number of automorphisms of a graph divides the number of all names. -/
import Derived.Test.YtcemhepojjbcgaaDoorSpecAutos
import Derived.Test.YtcemhepojjbcgaaDoorBaseL
import Derived.Test.YtcemhepojjbcgaaDoorManyLaw
import Derived.Test.YtcemhepojjbcgaaDoorBaseE
namespace Go.Proofs.YtcemhepojjbcgaaDoor
open Go Go.RowKit
set_option linter.unusedVariables false
set_option maxRecDepth 100000

theorem perms_fac : ∀ n : Fin 7, (permsTo n.val n.val).length = fac n.val := by decide +kernel
theorem left_nodup (n : Nat) (P : List Nat) : (left n P).Nodup := List.nodup_range.filter _
theorem perms_nodup (n : Nat) : ∀ k, (permsTo n k).Nodup
  | 0 => by simp [permsTo, extK]
  | k + 1 => by
    rw [permsTo_succ]
    unfold List.Nodup
    rw [List.pairwise_flatMap]
    refine ⟨fun P hP => ?_, (perms_nodup n k).imp ?_⟩
    · unfold ext
      rw [List.pairwise_map]
      exact (left_nodup n P).imp fun h e => h (by simpa using e)
    · intro P Q hne x hx y hy e
      unfold ext at hx hy
      rw [List.mem_map] at hx hy
      obtain ⟨a, _, rfl⟩ := hx
      obtain ⟨b, _, rfl⟩ := hy
      have := List.append_inj' e rfl
      exact hne this.1
theorem names_ext {n : Nat} {A B : List Nat} (hA : Names n n A) (hB : Names n n B) (h : ∀ v, v < n → at_ A v = at_ B v) : A = B := by
  refine List.ext_getElem (hA.1.trans hB.1.symm) fun i h1 h2 => ?_
  have := h i (by rw [← hA.1]; exact h1)
  unfold at_ at this
  rw [List.getElem?_eq_getElem h1, List.getElem?_eq_getElem h2] at this
  exact this
theorem comp_inj {n : Nat} {A B Q : List Nat} (hA : Names n n A) (hB : Names n n B) (hQ : Names n n Q) (h : compP n A Q = compP n B Q) : A = B := by
  refine names_ext hA hB fun v hv => ?_
  have h1 : at_ (compP n A Q) v = at_ (compP n B Q) v := by rw [h]
  unfold compP at h1
  rw [map_range_at _ _ hv, map_range_at _ _ hv] at h1
  exact at_inj hQ (at_name hA hv) (at_name hB hv) h1
theorem nodup_map_on {α β : Type} {f : α → β} : ∀ {l : List α}, l.Nodup → (∀ a ∈ l, ∀ b ∈ l, f a = f b → a = b) → (l.map f).Nodup
  | [], _, _ => by simp
  | x :: l, hn, hi => by
    have hn' := List.nodup_cons.1 hn
    rw [List.map_cons, List.nodup_cons]
    refine ⟨fun hm => ?_, nodup_map_on hn'.2 fun a ha b hb => hi a (List.mem_cons_of_mem _ ha) b (List.mem_cons_of_mem _ hb)⟩
    obtain ⟨y, hy, e⟩ := List.mem_map.1 hm
    have := hi y (List.mem_cons_of_mem _ hy) x List.mem_cons_self e
    exact hn'.1 (this ▸ hy)
theorem comp_count {n : Nat} {p q : List Nat → Bool} {Q : List Nat} (hQ : Names n n Q) (h : ∀ A, Names n n A → p A = true → q (compP n A Q) = true) :
    ((permsTo n n).filter p).length ≤ ((permsTo n n).filter q).length := by
  have hnd : (((permsTo n n).filter p).map fun A => compP n A Q).Nodup := by
    refine nodup_map_on ((perms_nodup n n).filter _) fun a ha b hb e => ?_
    rw [List.mem_filter] at ha hb
    exact comp_inj (perms_names _ _ _ ha.1) (perms_names _ _ _ hb.1) hQ e
  have hsub : ∀ x ∈ ((permsTo n n).filter p).map (fun A => compP n A Q), x ∈ (permsTo n n).filter q := by
    intro x hx
    obtain ⟨A, hA, rfl⟩ := List.mem_map.1 hx
    rw [List.mem_filter] at hA
    have hN := perms_names _ _ _ hA.1
    exact List.mem_filter.2 ⟨perms_all _ _ _ (comp_names hN hQ), h A hN hA.2⟩
  have := count_le (fun _ => true) _ _ hnd hsub
  rw [List.filter_eq_self.2 (fun _ _ => rfl), List.filter_eq_self.2 (fun _ _ => rfl), List.length_map] at this
  exact this
theorem okC_iff {L M : List Int} (hL : IsGraph L) (hM : IsGraph M) (hl : L.length = M.length) {P : List Nat} (hP : Names L.length L.length P) : okC L M P = true ↔ namedL L P = M := by
  unfold okC
  rw [beq_iff_eq]
  exact ⟨fun h => code_inj (named_graph hL hP) hM ((namedL_length L P).trans hl) h, fun h => by rw [h]⟩
theorem fibre {L : List Int} (hL : IsGraph L) {P0 : List Nat} (h0 : Names L.length L.length P0) :
    ((permsTo L.length L.length).filter fun P => codeOf (namedL L P) == codeOf (namedL L P0)).length = (autosL L).length := by
  have hG := named_graph hL h0
  have hGl := namedL_length L P0
  have hi := inv_names h0
  refine Nat.le_antisymm (comp_count (p := fun P => codeOf (namedL L P) == codeOf (namedL L P0)) hi fun A hA h => ?_) (comp_count (p := okC L L) h0 fun A hA h => ?_)
  · rw [beq_iff_eq] at h
    have e : namedL L A = namedL L P0 := code_inj (named_graph hL hA) hG ((namedL_length L A).trans hGl.symm) h
    rw [okC_iff hL hL rfl (comp_names hA hi), ← named_comp hL hA hi, e]
    exact named_inv hL h0
  · rw [okC_iff hL hL rfl hA] at h
    rw [beq_iff_eq, ← named_comp hL hA h0, h]
theorem split_count {α : Type} (f : α → Nat) (K : Nat) : ∀ R : List α, (R.filter fun x => decide (f x < K + 1)).length = (R.filter fun x => decide (f x < K)).length + (R.filter fun x => f x == K).length
  | [] => rfl
  | x :: R => by
    have ih := split_count f K R
    rw [List.filter_cons, List.filter_cons, List.filter_cons]
    by_cases h1 : f x < K
    · have h2 : (f x == K) = false := by simp; omega
      have h3 : f x < K + 1 := by omega
      simp only [h1, h2, h3, decide_true, if_true, List.length_cons]
      simp
      omega
    · by_cases h2 : f x = K
      · have h3 : f x < K + 1 := by omega
        have h4 : (f x == K) = true := by simp [h2]
        simp only [h1, h3, h4, decide_true, decide_false, if_true, List.length_cons]
        simp
        omega
      · have h3 : ¬ f x < K + 1 := by omega
        have h4 : (f x == K) = false := by simp [h2]
        simp only [h1, h3, h4, decide_false]
        simpa using ih
theorem fibres_dvd {α : Type} (f : α → Nat) (s : Nat) (R : List α) (h : ∀ x ∈ R, (R.filter fun y => f y == f x).length = s) : ∀ K, s ∣ (R.filter fun x => decide (f x < K)).length
  | 0 => by
    rw [List.filter_eq_nil_iff.2 (fun a _ => by simp)]
    exact Nat.dvd_zero _
  | K + 1 => by
    rw [split_count]
    refine Nat.dvd_add (fibres_dvd f s R h K) ?_
    by_cases hx : ∃ x ∈ R, f x = K
    · obtain ⟨x, hx, rfl⟩ := hx
      rw [h x hx]
      exact Nat.dvd_refl _
    · have : (R.filter fun x => f x == K) = [] := by
        rw [List.filter_eq_nil_iff]
        intro a ha e
        exact hx ⟨a, ha, by simpa using e⟩
      rw [this]
      exact Nat.dvd_zero _
theorem autos_dvd {L : List Int} (hL : IsGraph L) : (autosL L).length ∣ fac L.length := by
  have h1 := fibres_dvd (fun P => codeOf (namedL L P)) (autosL L).length (permsTo L.length L.length) (fun P hP => fibre hL (perms_names _ _ _ hP)) (codes L.length)
  have h6 := hL.2.1
  have h2 : ((permsTo L.length L.length).filter fun P => decide (codeOf (namedL L P) < codes L.length)) = permsTo L.length L.length := by
    rw [List.filter_eq_self]
    intro P hP
    have h := code_codes (named_graph hL (perms_names _ _ _ hP))
    rw [namedL_length] at h
    simpa using h
  rw [h2] at h1
  rw [perms_fac ⟨L.length, by omega⟩] at h1
  exact h1
theorem same_many {L : List Int} (hL : IsGraph L) : (autosL L).length * manyN L = fac L.length := Nat.mul_div_cancel' (autos_dvd hL)
theorem named_other {L : List Int} (hL : IsGraph L) {P : List Nat} (hP : Names L.length L.length P) : namedL (otherL L L.length) P = otherL (namedL L P) (namedL L P).length := by
  have hO := other_graph hL
  have hN := named_graph hL hP
  have hl1 := otherL_length L L.length
  have hl2 := namedL_length L P
  have hP' : Names (otherL L L.length).length (otherL L L.length).length P := by rw [hl1]; exact hP
  refine graph_ext (named_graph hO hP') (other_graph hN) (by rw [namedL_length, otherL_length, otherL_length, namedL_length]) fun i j hi hj => ?_
  rw [namedL_length, hl1] at hi hj
  obtain ⟨a, ha, rfl⟩ := at_surj hP hi
  obtain ⟨b, hb, rfl⟩ := at_surj hP hj
  rw [named_at hP' (by rw [hl1]; exact ha) (by rw [hl1]; exact hb)]
  refine bt_eq ?_
  rw [other_bt hL ha b, other_bt hN (by rw [hl2]; exact at_name hP ha) (at_ P b), named_at hP ha hb, hl2]
  exact ⟨fun ⟨_, x, y⟩ => ⟨at_name hP hb, x, fun e => y (at_inj hP ha hb e)⟩, fun ⟨_, x, y⟩ => ⟨hb, x, fun e => y (by rw [e])⟩⟩
theorem autos_other {L : List Int} (hL : IsGraph L) : autosL (otherL L L.length) = autosL L := by
  have hO := other_graph hL
  have hl := otherL_length L L.length
  unfold autosL
  rw [hl]
  refine List.filter_congr fun P hP => ?_
  have hN := perms_names _ _ _ hP
  rw [Bool.eq_iff_iff, okC_iff hO hO rfl (by rw [hl]; exact hN), okC_iff hL hL rfl hN, named_other hL hN]
  constructor
  · intro e
    have h1 := other_other (named_graph hL hN)
    rw [e] at h1
    have h2 := other_other hL
    rw [namedL_length] at e
    rw [← h1]
    exact h2
  · intro e
    rw [e]
end Go.Proofs.YtcemhepojjbcgaaDoor
