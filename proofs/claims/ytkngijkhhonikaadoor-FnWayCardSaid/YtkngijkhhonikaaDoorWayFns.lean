/- TreeWay: the program's way, and both halves at each list and numbers. -/
import Derived.Test.YtkngijkhhonikaaDoorWayFn
import Derived.Test.YtkngijkhhonikaaDoorWaySpec
import Derived.Test.YtkngijkhhonikaaDoorBaseG
namespace Go.Proofs.YtkngijkhhonikaaDoor
open Go Go.RowKit
set_option linter.unusedVariables false
set_option maxRecDepth 100000

set_option maxHeartbeats 4000000 in
theorem way_any (A : Option Addr) (c : Nat) (L : List Int) (a b : Nat) (ht : IsTree L) (ha : a < L.length) (hb : b < L.length) (w : World) (h : Seen w A L) (hT : Tab w) :
    Calls Tryd.prog 51 #[.slice A L.length c, .int .i64 a, .int .i64 b] w (Gave w (ints (wayT L a b))) := by
  have h6 := ht.1.1.2.1
  have h2 := hT.lt
  have HS : Hid (∀ x, x < L.length → x ≠ b → ∀ w1, Below w.heap.size w w1 → Calls Tryd.prog 78 #[.slice A L.length c, .int .i64 x, .int .i64 b] w1 (NumA w1 (stepW L b x))) := Lib.hid fun x hx hne w1 k => callsIn_wide.1 (stepTo_in A c L ht x b hx hb hne w1 (h.below k) (hT.below k (by omega)))
  have hIT : ∀ k, k ≤ dB L b a → itW L b a k < L.length ∧ dB L b (itW L b a k) + k = dB L b a := fun k hk => it_facts ht ha hb k hk
  have hEN : ∀ k, k ≤ dB L b a → (itW L b a k = b ↔ k = dB L b a) := fun k hk => it_end ht ha hb k hk
  have hK : dB L b a ≤ 6 := Nat.le_trans (stepsT_le L b a) h6
  have hdB : ∀ x, dB L b x = (stepsT L b)[x]?.getD 0 := fun _ => rfl
  obtain ⟨S, eS⟩ : ∃ S, S = stepsT L b := ⟨_, rfl⟩
  rw [← eS] at hdB
  obtain ⟨K, eK⟩ : ∃ K, K = dB L b a := ⟨_, rfl⟩
  rw [← eK] at hIT hEN hK
  have hWT : wayT L a b = (List.range (K + 1)).map (itW L b a) := by rw [eK]; rfl
  obtain ⟨n, hn⟩ : ∃ n, n = L.length := ⟨_, rfl⟩
  rw [← hn] at h6 HS hIT ha hb ⊢
  have HIT := Lib.hid hIT
  have HEN := Lib.hid hEN
  have HDB := Lib.hid hdB
  have HWT := Lib.hid hWT
  have R0 := Lib.hid (World.ownsRow_lit (base := w.heap.size) (e := 3) (size := 1) w #[.int .i64 a] 1 (Nat.le_refl _) (by unfold maxLen; omega) rfl)
  have B0 := Lib.hid ((Below.refl w.heap.size w).alloc (Nat.le_refl _) (.cells #[.int .i64 a] 3))
  clear ht h hT hIT hEN hdB hWT eS eK hn h2
  go_enter Tryd.func51, Tryd.ntmps51
  go_wp2
  go_loopw [1, 7] (fun x o wr => ∃ k : Nat, k ≤ K ∧ x = .int .i64 (itW L b a k : Nat) ∧ Hid (Row wr w.heap.size o (ints ((List.range (k + 1)).map (itW L b a)))) ∧ Hid (Below w.heap.size w wr)) (fun x _ _ => S[(intOf x).toNat]?.getD 0)
  case atStart => exact ⟨0, Nat.zero_le _, rfl, R0, B0⟩
  case round =>
    obtain ⟨k, hk, rfl, hr, hb'⟩ := hrel
    obtain ⟨hx, hdx⟩ := HIT.out k hk
    have hen := HEN.out k hk
    have hnext : itW L b a (k + 1) = stepW L b (itW L b a k) := rfl
    have hwt := wayTo_succ L a b (k + 1)
    have hlk : (ints ((List.range (k + 1)).map (itW L b a))).length ≤ 100000 := by rw [ints_length, List.length_map, List.length_range]; omega
    have hd2 : k < K → dB L b (itW L b a (k + 1)) < dB L b (itW L b a k) := fun h => by
      have := (HIT.out (k + 1) (by omega)).2
      omega
    rw [hnext, HDB.out, HDB.out] at hd2
    obtain ⟨x, ex⟩ : ∃ x, x = itW L b a k := ⟨_, rfl⟩
    rw [← ex] at hx hdx hen hnext hd2 ⊢
    by_cases hxb : x = b
    · have hkK : k = K := hen.1 hxb
      have hd : ((x : Int) != (b : Int)) = false := by simp; omega
      have hfin : Hid (Row wr w.heap.size u7 (ints (wayT L a b))) := Lib.hid (by rw [HWT.out, ← hkK]; exact hr.out)
      clear hkK hen hnext hwt hlk ex hr hdx hd2
      subst hxb
      go_wp2
      go_ret
      exact ⟨_, rfl, hfin.out, hb'.out⟩
    · have hkK : k < K := by
        rcases Nat.lt_or_ge k K with h | h
        · exact h
        · exact absurd (hen.2 (by omega)) hxb
      have hd : ((x : Int) != (b : Int)) = true := by simp; omega
      have HD2 := Lib.hid (hd2 hkK)
      have HSX := Lib.hid (HS.out x hx hxb wr hb'.out)
      obtain ⟨y, ey⟩ : ∃ y, y = stepW L b x := ⟨_, rfl⟩
      rw [← ey] at HSX hnext HD2
      have HN2 := Lib.hid hnext
      have HWT2 := Lib.hid hwt
      have HLK := Lib.hid hlk
      clear hen hnext hwt hlk ex hdx hd2 ey hk
      go_wp2_with fail
      refine HSX.out.mono ?_
      rintro e wn ⟨rfl, hbn⟩
      have HRN := Lib.hid (hr.out.below hbn)
      have HBN := Lib.hid (hb'.out.trans (hbn.mono hb'.out.size))
      have HZN := Lib.hid HBN.out.size
      clear hbn
      go_wp2_with (at_builtin; refine append_one rfl (.tmp 17) (.tmp 19) rfl wn w.heap.size u7 (ints ((List.range (k + 1)).map (itW L b a))) (y : Int) rfl rfl HRN.out HZN.out HLK.out ?_; intro v' w' hr' hb'')
      go_roundw
      case rel => exact ⟨k + 1, by omega, by rw [HN2.out], Lib.hid (by rw [HWT2.out, HN2.out]; have h := hr'.out; unfold ints at h ⊢; rw [List.map_append]; exact h), Lib.hid (HBN.out.trans hb''.out)⟩
      case measure => simpa [intOf] using HD2.out
/-- What both take: a tree, and two of its nodes. -/
def InWay (L : List Int) (z0 z1 : Int) : Prop := IsTree L ∧ (0 ≤ z0 ∧ z0 < (L.length : Int)) ∧ (0 ≤ z1 ∧ z1 < (L.length : Int))
theorem implWay_yes (B : Nat) (v : Value) (L : List Int) (a b : Nat) (ht : IsTree L) (ha : a < L.length) (hb : b < L.length) (w : World) (h : Row w B v L) (hT : Tab w) :
    Calls Tryd.prog 24 #[v, .int .i64 a, .int .i64 b] w (Told w (ints (wayT L a b)) true) := by
  have h2 := hT.lt
  have h6 := ht.1.1.2.1
  have H1 := Lib.hid (implTreeIn_any B v L true ⟨fun _ => ht, fun _ => rfl⟩ w h hT)
  obtain ⟨A, c, rfl, hs⟩ := h.seen
  have H2 := Lib.hid (fun w1 (k : Below w.heap.size w w1) => way_any A c L a b ht ha hb w1 (hs.below k) (hT.below k (by omega)))
  obtain ⟨T, eT⟩ : ∃ T, T = ints (wayT L a b) := ⟨_, rfl⟩
  rw [← eT] at H2 ⊢
  obtain ⟨n, hn⟩ : ∃ n, n = L.length := ⟨_, rfl⟩
  rw [← hn] at h6 ha hb H1 H2 ⊢
  clear ht h hs hT eT hn
  rcases Nat.lt_trichotomy a b with hab | rfl | hab
  all_goals
    go_enter Tryd.func24, Tryd.ntmps24
    go_wp2_with fail
    refine H1.out.mono ?_
    rintro e w1 ⟨rfl, b1⟩
    go_wp2_with fail
    refine (H2.out _ b1).mono ?_
    rintro e w2 ⟨u, rfl, hr, b2⟩
    go_wp2
    go_ret2
    exact ⟨_, rfl, hr.mono b1.size, b1.trans (b2.mono b1.size)⟩
end Go.Proofs.YtkngijkhhonikaaDoor
