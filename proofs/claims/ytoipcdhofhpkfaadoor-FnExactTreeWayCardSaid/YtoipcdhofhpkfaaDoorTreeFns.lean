/- Trees: the program's isTree and TreeIn, the model's l9Tree and TreeIn, at each list. -/
import Derived.Test.YtoipcdhofhpkfaaDoorSpecLinkedAny
import Derived.Test.YtoipcdhofhpkfaaDoorLinkedLaw
import Derived.Test.YtoipcdhofhpkfaaDoorBaseA
import Derived.Test.YtoipcdhofhpkfaaDoorSpecSize
namespace Go.Proofs.YtoipcdhofhpkfaaDoor
open Go Go.RowKit
set_option linter.unusedVariables false
set_option maxRecDepth 100000

/-- A linked graph with one edge less than nodes. -/
def IsTree (L : List Int) : Prop := IsLinked L ∧ edgesN L + 1 = L.length

set_option maxHeartbeats 1000000 in
theorem isTree_any (A : Option Addr) (c : Nat) (L : List Int) (hg : IsGraph L) (b : Bool) (hb : b = true ↔ IsTree L) (w : World) (h : Seen w A L) (hT : Tab w) :
    Calls Tryd.prog 39 #[.slice A L.length c] w (Said1 w b) := by
  have h1 := hg.1
  have h6 := hg.2.1
  have h2 := hT.lt
  have H1 := Lib.hid (callsIn_wide.1 (implSize_in A c L hg w h))
  have H2 := Lib.hid (fun w1 (b : Below w.heap.size w w1) => linked_any A c L hg w1 (h.below b) (hT.below b (by omega)))
  obtain ⟨q, eq⟩ : ∃ q, q = decide (turns L L.length = 2 ^ L.length - 1) := ⟨_, rfl⟩
  have hq : q = true ↔ IsLinked L := by rw [eq, decide_eq_true_eq]; exact ⟨fun h => ⟨hg, h⟩, fun h => h.2⟩
  rw [← eq] at H2
  obtain ⟨p, ep⟩ : ∃ p, p = edgesN L := ⟨_, rfl⟩
  have hbb : b = (decide (p + 1 = L.length) && q) := by
    rw [Bool.eq_iff_iff, hb, Bool.and_eq_true, decide_eq_true_eq, hq, ep]
    exact ⟨fun h => ⟨h.2, h.1⟩, fun h => ⟨h.2, h.1⟩⟩
  rw [← ep] at H1
  obtain ⟨n, hn⟩ : ∃ n, n = L.length := ⟨_, rfl⟩
  rw [← hn] at h1 h6 H1 H2 hbb ⊢
  obtain ⟨m, hm⟩ : ∃ m : Nat, (n : Int) - 1 = (m : Int) := ⟨n - 1, by omega⟩
  have hw : wrap64 ((n : Int) - 1) = (m : Int) := by unfold wrap64; omega
  have e1 : ((p : Int) == (m : Int)) = decide (p + 1 = n) := by rw [Bool.eq_iff_iff]; simp; omega
  obtain ⟨t, et⟩ : ∃ t, t = decide (p + 1 = n) := ⟨_, rfl⟩
  rw [← et] at e1 hbb
  have HB := Lib.hid hbb
  clear hb hg h hT eq hq ep hn hbb et
  go_enter Tryd.func39, Tryd.ntmps39
  go_wp2_with fail
  refine H1.out.mono ?_
  rintro e w1 ⟨rfl, b1⟩
  cases t with
  | false =>
    go_wp2
    go_ret
    exact ⟨by rw [HB.out]; rfl, b1⟩
  | true =>
    go_wp2_with fail
    refine (H2.out w1 b1).mono ?_
    rintro e w2 ⟨rfl, b2⟩
    go_wp2
    go_ret
    exact ⟨by rw [HB.out]; rfl, b1.trans (b2.mono b1.size)⟩

set_option maxHeartbeats 1000000 in
theorem implTreeIn_any (B : Nat) (v : Value) (L : List Int) (b : Bool) (hb : b = true ↔ IsTree L) (w : World) (h : Row w B v L) (hT : Tab w) :
    Calls Tryd.prog 17 #[v] w (Said1 w b) := by
  by_cases hL : IsGraph L
  · have h2 := hT.lt
    have H1 := Lib.hid (asG_graph B v L hL w h hT)
    obtain ⟨A, c, rfl, hs⟩ := h.seen
    have H2 := Lib.hid (fun w1 (k : Below w.heap.size w w1) => isTree_any A c L hL b hb w1 (hs.below k) (hT.below k (by omega)))
    clear hL h hs hT hb
    go_enter Tryd.func17, Tryd.ntmps17
    go_wp2_with fail
    refine H1.out.mono ?_
    rintro e w1 ⟨rfl, b1⟩
    go_wp2_with fail
    refine (H2.out w1 b1).mono ?_
    rintro e w2 ⟨rfl, b3⟩
    go_wp2
    go_ret
    exact ⟨rfl, b1.trans (b3.mono b1.size)⟩
  · have e : b = false := by
      cases b
      · rfl
      · exact absurd (hb.1 rfl).1.1 hL
    subst e
    have H1 := Lib.hid (asG_none B v L hL w h hT)
    clear hL h hb
    go_enter Tryd.func17, Tryd.ntmps17
    go_wp2_with fail
    refine H1.out.mono ?_
    rintro e w1 ⟨rfl, b1⟩
    go_wp2
    go_ret
    exact ⟨rfl, b1⟩

open Classical in
set_option maxHeartbeats 1000000 in
theorem l9Tree_any (B : Nat) (v : Value) (L : List Int) (b : Bool) (hb : b = true ↔ IsTree L) (w : World) (h : Row w B v L) :
    Calls Tryd.prog 36 #[v] w (Looked w b) := by
  obtain ⟨k, hk⟩ : ∃ k : Bool, k = true ↔ IsLinked L := ⟨decide (IsLinked L), by simp⟩
  have H1 := Lib.hid (specLinked_any B v L k hk w h)
  obtain ⟨A, c, rfl, hs⟩ := h.seen
  have h' := h
  cases k with
  | false =>
    have e : b = false := by
      cases b
      · rfl
      · exact absurd (hk.2 (hb.1 rfl).1) (by simp)
    subst e
    clear hb h hs h' hk
    go_enter Tryd.func36, Tryd.ntmps36
    go_wp2_with fail
    refine H1.out.mono ?_
    rintro e w1 ⟨rfl, d1, rfl⟩
    go_wp2
    go_ret
    exact ⟨rfl, d1, rfl⟩
  | true =>
    have hl : IsLinked L := hk.1 rfl
    have hg : IsGraph L := hl.1
    have h1 := hg.1
    have h6 := hg.2.1
    have H2 := Lib.hid (fun d => specEdges_seen A c L hg (w.drewN d) (fun k hk => by obtain ⟨b, off, a, lt, hc⟩ := hs k hk; exact ⟨b, off, a, lt, hc⟩))
    obtain ⟨p, ep⟩ : ∃ p, p = edgesN L := ⟨_, rfl⟩
    have hbb : b = decide (p + 1 = L.length) := by
      rw [Bool.eq_iff_iff, hb, decide_eq_true_eq, ep]
      exact ⟨fun h => h.2, fun h => ⟨hl, h⟩⟩
    rw [← ep] at H2
    obtain ⟨n, hn⟩ : ∃ n, n = L.length := ⟨_, rfl⟩
    rw [← hn] at h1 h6 H1 H2 hbb ⊢
    obtain ⟨m, hm⟩ : ∃ m : Nat, (n : Int) - 1 = (m : Int) := ⟨n - 1, by omega⟩
    have hw : wrap64 ((n : Int) - 1) = (m : Int) := by unfold wrap64; omega
    have e1 : ((p : Int) == (m : Int)) = b := by rw [hbb, Bool.eq_iff_iff]; simp; omega
    clear hb h hs h' hk hl hg hbb ep hn
    go_enter Tryd.func36, Tryd.ntmps36
    go_wp2_with fail
    refine H1.out.mono ?_
    rintro e w1 ⟨rfl, d1, rfl⟩
    go_wp2_with fail
    refine (H2.out d1).mono ?_
    rintro e w2 ⟨rfl, rfl⟩
    go_wp2
    go_ret
    exact ⟨rfl, d1, rfl⟩

theorem specTreeIn_any (B : Nat) (v : Value) (L : List Int) (b : Bool) (hb : b = true ↔ IsTree L) (w : World) (h : Row w B v L) :
    Calls Tryd.prog 15 #[v] w (Looked w b) := by
  have H1 := Lib.hid (l9Tree_any B v L b hb w h)
  clear hb h
  go_enter Tryd.func15, Tryd.ntmps15
  go_wp2_with fail
  refine H1.out.mono ?_
  rintro e w1 ⟨rfl, d1, rfl⟩
  go_wp2
  go_ret
  exact ⟨rfl, d1, rfl⟩
end Go.Proofs.YtoipcdhofhpkfaaDoor
