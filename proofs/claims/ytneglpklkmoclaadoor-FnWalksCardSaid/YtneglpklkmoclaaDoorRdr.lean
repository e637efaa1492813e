/- A reader goes on: numbers picked behind a list that was drawn. -/
import Derived.Test.YtneglpklkmoclaaDoorBaseF
namespace Go.Proofs.YtneglpklkmoclaaDoor
open Go Go.RowKit
set_option linter.unusedVariables false
set_option maxRecDepth 100000

/-- The reader, somewhere in its bytes. -/
def Rdr (w : World) (R : Nat) (A : Option Addr) (c lim : Nat) (bs : List Nat) : Prop := (∃ q, q ≤ lim ∧ RdAt w R A bs.length c q) ∧ Byts w A bs
theorem Rdr.more {w : World} {R : Nat} {A : Option Addr} {c lim lim' : Nat} {bs : List Nat} (h : Rdr w R A c lim bs) (hl : lim ≤ lim') : Rdr w R A c lim' bs := by
  obtain ⟨⟨q, hq, hR⟩, hb⟩ := h
  exact ⟨⟨q, by omega, hR⟩, hb⟩
/-- A number is picked: the reader's box alone has changed. -/
def PickedN (w : World) (R : Nat) (A : Option Addr) (c lim m : Nat) (bs : List Nat) (e : Ending) (w' : World) : Prop := ∃ x : Nat, x < m ∧ e = .returned (.int .i64 (x : Nat)) ∧ Rdr w' R A c (lim + 1) bs ∧ w.grownBy w' (some R)
theorem rdr_pick {w : World} {R : Nat} {A : Option Addr} {c lim : Nat} {bs : List Nat} (h : Rdr w R A c lim bs) (m : Nat) (hm : 1 ≤ m) (hm2 : m ≤ 1000) (hlim : lim ≤ 100000) (hl : bs.length ≤ 2000) (hAR : Under A bs R) :
    Calls Tryd.prog 59 #[.pointer (some ⟨R, 0, none⟩), .int .i64 (m : Nat)] w (PickedN w R A c lim m bs) := by
  obtain ⟨⟨q, hq, hR⟩, hb⟩ := h
  refine (pick_any R A c q m bs hm hm2 (by omega) hl w hR hb hAR).mono ?_
  rintro e w' ⟨x, d, hx, rfl, rfl⟩
  have hbR : Below R w (w.setCell ⟨R, 1, none⟩ (.int .i64 ((q + 1 : Nat) : Nat))) := (Below.refl R w).setCell (p := ⟨R, 1, none⟩) (Nat.le_refl _) _
  exact ⟨x, hx, rfl, ⟨⟨q + 1, by omega, hR.next (q + 1)⟩, hb.below (below_drewN hbR d) hAR⟩, grown_drewN (grown_set (World.grownBy.refl w (some R)) 1 _) d⟩
theorem Row.reads {w w' : World} {B R g : Nat} {v : Value} {L : List Int} (h : Row w B v L) (hv : v.ownBlock = some g) (hg : R < g) (hgr : w.grownBy w' (some R)) : Row w' B v L :=
  World.ownsRow.kept h hgr (.inr (by rw [hv]; intro e; injection e with e; omega))
theorem div23 (x : Nat) (h : x < 24) : ∃ q : Nat, q ≤ 1 ∧ ((x : Nat) : Int).tdiv 23 = (q : Int) := ⟨x / 23, by omega, tdivN x 23⟩

/-- What a draw of a graph and a number gives. -/
def DrewZ (w : World) (e : Ending) (w' : World) : Prop := ∃ v L z, e = .returned (.tuple #[v, .int .i64 z]) ∧ 1 ≤ L.length ∧ L.length ≤ 6 ∧ -100 ≤ z ∧ z ≤ 100 ∧ Row w' w.heap.size v L ∧ Below w.heap.size w w'
end Go.Proofs.YtneglpklkmoclaaDoor
