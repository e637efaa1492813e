/- TutteRank at all lists and numbers. -/
import Derived.Test.YtamabhdbcmjbjaaDoorRankBoth
import Derived.Test.YtamabhdbcmjbjaaDoorNumsZ
namespace Go.Proofs.YtamabhdbcmjbjaaDoor
open Go.RowKit
set_option linter.unusedVariables false

theorem tutteRank_both (L : List Int) (z : Int) (hz : -9223372036854775808 ≤ z ∧ z ≤ 9223372036854775807) : ∃ (x : Int) (ok : Bool),
    (∀ B v w, Row w B v L → Calls Tryd.prog 14 #[v, .int .i64 z] w (NumsZ1 w x ok)) ∧
    (∀ B v w, Row w B v L → Tab w → Calls Tryd.prog 13 #[v, .int .i64 z] w (NumsZ1 w x ok)) := by
  by_cases ht : IsT L
  · cases hE : hasE z (codeOf L) with
    | false => exact ⟨0, false, fun B v w h => specRankF_set B v L ht z hz.1 hz.2 hE w h, fun B v w h hT => implRank_set B v L ht z hz.1 hz.2 hE w h hT⟩
    | true =>
      obtain ⟨s, rfl, _⟩ := hasE_nat hE
      exact ⟨(rkT s : Nat), true, fun B v w h => specRankF_yes B v L ht s hE w h, fun B v w h hT => implRank_yes B v L ht s hE w h hT⟩
  · exact ⟨0, false, fun B v w h => specRankF_no B v L ht z w h, fun B v w h hT => implRank_no B v L ht z w h hT⟩
end Go.Proofs.YtamabhdbcmjbjaaDoor
