/- The program's asTutte, hasEdges, rankOf, isForest, leads. -/
import Derived.Test.YtamabhdbcmjbjaaDoorRankFn
import Derived.Test.YtamabhdbcmjbjaaDoorSubMath
import Derived.Test.YtamabhdbcmjbjaaDoorBaseA
namespace Go.Proofs.YtamabhdbcmjbjaaDoor
open Go.RowKit
set_option linter.unusedVariables false
set_option maxRecDepth 100000

theorem asT_yes (B : Nat) (v : Value) (L : List Int) (ht : IsT L) (w : World) (h : Row w B v L) (hT : Tab w) :
    Calls Tryd.prog 33 #[v] w (AsYes w v) := by
  have H1 := Lib.hid (asG_graph B v L ht.1 w h hT)
  have h5 := ht.2
  obtain ⟨A, c, rfl, hs⟩ := h.seen
  have hd : decide ((5 : Int) < (L.length : Int)) = false := by simp; omega
  obtain ⟨n, hn⟩ : ∃ n, n = L.length := ⟨_, rfl⟩
  rw [← hn] at H1 hd ⊢
  clear h hs hT ht hn h5
  go_enter Tryd.func33, Tryd.ntmps33
  go_wp2_with fail
  refine H1.out.mono ?_
  rintro e w1 ⟨rfl, b1⟩
  go_wp2
  go_ret2
  exact ⟨rfl, b1⟩
theorem asT_no (B : Nat) (v : Value) (L : List Int) (ht : ¬ IsT L) (w : World) (h : Row w B v L) (hT : Tab w) :
    Calls Tryd.prog 33 #[v] w (AsNo w) := by
  by_cases hg : IsGraph L
  · have H1 := Lib.hid (asG_graph B v L hg w h hT)
    have h5 : ¬ L.length ≤ 5 := fun q => ht ⟨hg, q⟩
    obtain ⟨A, c, rfl, hs⟩ := h.seen
    have hd : decide ((5 : Int) < (L.length : Int)) = true := by simp; omega
    obtain ⟨n, hn⟩ : ∃ n, n = L.length := ⟨_, rfl⟩
    rw [← hn] at H1 hd ⊢
    clear h hs hT ht hn h5 hg
    go_enter Tryd.func33, Tryd.ntmps33
    go_wp2_with fail
    refine H1.out.mono ?_
    rintro e w1 ⟨rfl, b1⟩
    go_wp2
    go_ret2
    exact ⟨rfl, b1⟩
  · have H1 := Lib.hid (asG_none B v L hg w h hT)
    clear h hT ht hg
    go_enter Tryd.func33, Tryd.ntmps33
    go_wp2_with fail
    refine H1.out.mono ?_
    rintro e w1 ⟨rfl, b1⟩
    go_wp2
    go_ret2
    exact ⟨rfl, b1⟩
theorem hasEdges_any (A : Option Addr) (c : Nat) (L : List Int) (hg : IsGraph L) (z : Int) (h1 : -9223372036854775808 ≤ z) (h2 : z ≤ 9223372036854775807) (w : World) (h : Seen w A L) :
    Calls Tryd.prog 34 #[.slice A L.length c, .int .i64 z] w (Said1 w (hasE z (codeOf L))) := by
  have H1 := Lib.hid (callsIn_wide.1 (implCode_in A c L hg w h))
  have hc := crun_small L (rows L.length) (rows_length _ hg.2.1)
  have hop := hasE_op z (codeOf L) h1 h2 (Nat.lt_trans hc (by decide))
  obtain ⟨x, ex⟩ : ∃ x, x = codeOf L := ⟨_, rfl⟩
  rw [← ex] at H1 hop ⊢
  obtain ⟨n, hn⟩ : ∃ n, n = L.length := ⟨_, rfl⟩
  rw [← hn] at H1 ⊢
  obtain ⟨b, eb⟩ : ∃ b, b = hasE z x := ⟨_, rfl⟩
  rw [← eb] at hop ⊢
  clear hg h hc h1 h2 ex hn eb
  go_enter Tryd.func34, Tryd.ntmps34
  go_wp2_with fail
  refine H1.out.mono ?_
  rintro e w1 ⟨rfl, b1⟩
  go_wp2
  go_ret
  exact ⟨rfl, b1⟩
theorem rankOf_any (A : Option Addr) (n c s : Nat) (hn1 : 1 ≤ n) (hn5 : n ≤ 5) (hs : s < codesN n) (w : World) (hT : Tab w) :
    Calls Tryd.prog 35 #[.slice A n c, .int .i64 s] w (NumB w (rkT s)) := by
  have h2 := hT.lt
  have hle := codesN_le n
  have H1 := Lib.hid (implOf_any n s w hn1 (by omega) (by omega))
  have H2 : Hid (∀ w1 v, Row w1 w.heap.size v (ints (ofCode n s)) → Below w.heap.size w w1 → Calls Tryd.prog 65 #[v] w1 fun e w' => e = .returned (.int .i64 (rkT s : Nat)) ∧ Below w1.heap.size w1 w') := Lib.hid (by
    intro w1 v hr hb
    obtain ⟨A', c', rfl, hsn⟩ := hr.seen
    have h := callsIn_wide.1 (rank_in A' c' _ (codeG_graph (n := n) s hn1 (by omega)) w1 hsn (hT.below hb (by omega)))
    have e := rankP_eq hn1 hn5 hs
    unfold codeG at h
    rw [e] at h
    exact h)
  clear hs hT hle hn1 hn5
  go_enter Tryd.func35, Tryd.ntmps35
  go_wp2_with fail
  refine H1.out.mono ?_
  rintro e w1 ⟨v, rfl, hr, b1⟩
  have HR := Lib.hid hr
  clear hr
  go_wp2_with fail
  refine (H2.out w1 v HR.out b1).mono ?_
  rintro e w2 ⟨rfl, b2⟩
  go_wp2
  go_ret
  exact ⟨rfl, b1.trans (b2.mono b1.size)⟩
end Go.Proofs.YtamabhdbcmjbjaaDoor
