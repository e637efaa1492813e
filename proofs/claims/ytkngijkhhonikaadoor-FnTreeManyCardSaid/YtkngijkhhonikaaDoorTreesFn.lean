/- NumberTrees by the program. -/
import Derived.Test.YtkngijkhhonikaaDoorTreesIn
import Derived.Test.YtkngijkhhonikaaDoorTreesTab
import Derived.Test.YtkngijkhhonikaaDoorTreesSpec
import Derived.Test.YtkngijkhhonikaaDoorOneSaid
namespace Go.Proofs.YtkngijkhhonikaaDoor
open Go Go.RowKit
set_option linter.unusedVariables false
set_option maxRecDepth 100000

theorem treesN_le (L : List Int) : treesN L ≤ 32768 := by
  rw [treesN_len]
  exact Nat.le_trans (List.length_filter_le _ _) (by simp)
/-- What the program answers is the number of trees. -/
theorem trees_quot {L : List Int} (hg : IsGraph L) : ((pl (qN L) L.length L.length)[1]?.getD 0).tdiv ((L.length : Nat) : Int) = ((treesN L : Nat) : Int) := by
  have h1 := hg.1
  rw [pl_get _ _ _ (by omega), if_pos (by omega), trees_num hg, Int.natCast_mul]
  exact Int.mul_tdiv_cancel _ (by omega)
theorem implTrees_any (B : Nat) (v : Value) (L : List Int) (w : World) (h : Row w B v L) (hT : Tab w) :
    Calls Tryd.prog 13 #[v] w (NumOkA w (oneSaid treesN L).1 (oneSaid treesN L).2) := by
  by_cases hg : IsGraph L
  · rw [oneSaid_yes hg]
    have H1 := Lib.hid (asG_graph B v L hg w h hT)
    have HT := Lib.hid hT
    obtain ⟨A, c, rfl, hs⟩ := h.seen
    have H2 := Lib.hid (fun w hs ht => callsIn_wide.1 (trees_in A c L hg (treesN L) (trees_quot hg) (treesN_le L) w hs ht))
    have h2 := hT.lt
    clear hg h hT
    go_enter Tryd.func13, Tryd.ntmps13
    go_wp2_with fail
    go_enter Tryd.func37, Tryd.ntmps37
    go_wp2_with fail
    refine H1.out.mono ?_
    rintro e w1 ⟨rfl, b1⟩
    go_wp2_with fail
    refine (H2.out _ (hs.below b1) (HT.out.below b1 (by omega))).mono ?_
    rintro e w2 ⟨rfl, b2⟩
    go_wp2
    go_ret2
    exact ⟨rfl, b1.trans (b2.mono b1.size)⟩
  · rw [oneSaid_no hg]
    have H1 := Lib.hid (asG_none B v L hg w h hT)
    clear hg h
    go_enter Tryd.func13, Tryd.ntmps13
    go_wp2_with fail
    go_enter Tryd.func37, Tryd.ntmps37
    go_wp2_with fail
    refine H1.out.mono ?_
    rintro e w1 ⟨rfl, b1⟩
    go_wp2
    go_ret2
    exact ⟨rfl, b1⟩
end Go.Proofs.YtkngijkhhonikaaDoor
