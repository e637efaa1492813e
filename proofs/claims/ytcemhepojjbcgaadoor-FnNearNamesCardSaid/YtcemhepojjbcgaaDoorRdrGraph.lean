/- A graph is drawn from a reader somewhere in its bytes. -/
import Derived.Test.YtcemhepojjbcgaaDoorRdr
namespace Go.Proofs.YtcemhepojjbcgaaDoor
open Go Go.RowKit
set_option linter.unusedVariables false
set_option maxRecDepth 100000

/-- What a draw of two graphs gives. -/
def DrewTwo (p q : Nat) (w : World) (e : Ending) (w' : World) : Prop := ∃ v L v' L', e = .returned (.tuple #[v, v']) ∧ (1 ≤ L.length ∧ L.length ≤ p) ∧ (1 ≤ L'.length ∧ L'.length ≤ q) ∧ Row w' w.heap.size v L ∧ Row w' w.heap.size v' L' ∧ Below w.heap.size w w'
/-- A list is drawn from a reader somewhere in its bytes. -/
def DrewOn (w : World) (R n : Nat) (A : Option Addr) (c lim : Nat) (bs : List Nat) (e : Ending) (w' : World) : Prop :=
  ∃ v L g, e = .returned v ∧ L.length = n ∧ Row w' R v L ∧ Rdr w' R A c lim bs ∧ w.grownBy w' (some R) ∧ R < g ∧ v.ownBlock = some g
theorem rdr_graph {w : World} {R : Nat} {A : Option Addr} {c lim : Nat} {bs : List Nat} (h : Rdr w R A c lim bs) (n : Nat) (h1 : 1 ≤ n) (h6 : n ≤ 6) (hlim : lim ≤ 10000) (hl : bs.length ≤ 2000) (hAR : Under A bs R) :
    Calls Tryd.prog 91 #[.pointer (some ⟨R, 0, none⟩), .int .i64 (n : Nat)] w (DrewOn w R n A c (lim + 200) bs) := by
  obtain ⟨⟨q, hq, hR⟩, hb⟩ := h
  refine (drawGraph_any R A c q lim n bs h1 h6 hq hlim hl w hR hb hAR).mono ?_
  rintro e w' ⟨v, L, rfl, hL, hr, hbe, hq', hby, g, hg, ⟨_, hgr⟩, hv⟩
  exact ⟨v, L, g, rfl, hL, hr, ⟨hq', hby⟩, hgr, hg, hv⟩
end Go.Proofs.YtcemhepojjbcgaaDoor
