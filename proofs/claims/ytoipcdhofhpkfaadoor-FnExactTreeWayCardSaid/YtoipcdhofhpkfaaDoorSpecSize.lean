/- The model's number of edges of a list that is a graph. -/
import Derived.Test.YtoipcdhofhpkfaaDoorBaseA
namespace Go.Proofs.YtoipcdhofhpkfaaDoor
open Go.RowKit
set_option linter.unusedVariables false
set_option maxRecDepth 100000

theorem specEdges_seen (A : Option Addr) (c : Nat) (L : List Int) (hg : IsGraph L) (w : World) (h : Seen w A L) :
    Calls Tryd.prog 61 #[.slice A L.length c] w (Num w (edgesN L)) := by
  have H := Lib.hid (specCode_seen A c L hg w h)
  have hx : codeOf L < 32768 := crun_small L _ (rows_length L.length hg.2.1)
  have hu : edgesN L = pcf 15 (codeOf L) := rfl
  rw [hu]
  obtain ⟨x, ex⟩ : ∃ x, x = codeOf L := ⟨_, rfl⟩
  rw [← ex] at H hx ⊢
  clear hg h ex hu
  go_enter Tryd.func61, Tryd.ntmps61
  go_wp2_with fail
  refine H.out.mono ?_
  rintro e w1 ⟨rfl, rfl⟩
  go_wp2_with fail
  refine (size_code x hx _).mono ?_
  rintro e w2 ⟨rfl, rfl⟩
  go_wp2
  go_ret
  exact ⟨rfl, rfl⟩

end Go.Proofs.YtoipcdhofhpkfaaDoor
