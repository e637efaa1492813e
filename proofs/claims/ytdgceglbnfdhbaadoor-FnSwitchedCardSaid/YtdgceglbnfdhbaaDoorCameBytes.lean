/- Bytes that came in: their numbers; and they read behind the call as they did. -/
import Derived.Test.YtdgceglbnfdhbaaDoorBaseA
import Derived.Test.YtdgceglbnfdhbaaDoorDraw
namespace Go.Proofs.YtdgceglbnfdhbaaDoor
open Go.ChangeShapes Go.WideShapes Go.ChangeAt Go.RowKit
set_option linter.unusedVariables false

set_option maxRecDepth 100000 in
/-- Bytes that came in. -/
theorem cameBytes {H : Type} {enc : TypeId × Value → H} {W : World} {base : Nat} {v : Value} {d : DataW H} {ps : List MemPlace}
    (hv : Value.okWide Tryd.prog W .any base 35 v) (h : DataW.Trod enc Tryd.prog W 0 (fun _ => true) true 35 v d ps) (hlt : ∀ x ∈ ps, x.block < W.heap.size) :
    ∃ (A : Option Addr) (c : Nat) (bs : List Nat), v = .slice A bs.length c ∧ Byts W A bs ∧ bs.length ≤ maxLen ∧ bs.length ≤ c ∧ Under A bs W.heap.size ∧
      ∀ W', Below W.heap.size W W' → DataW.Trod enc Tryd.prog W' 0 (fun b => decide (b < W.heap.size)) true 35 v d ps := by
  have hback : ∀ W', Below W.heap.size W W' → DataW.Trod enc Tryd.prog W' 0 (fun b => decide (b < W.heap.size)) true 35 v d ps := fun W' hb =>
    Below.trod laidOut (by kernel_rfl) (of_decide_eq_true (by kernel_rfl)) h hb hlt
  obtain ⟨A, len, cap, rfl⟩ := okWide_slice Tryd.underlying35 hv
  obtain ⟨fuel, hf⟩ := h
  rcases open_ints Tryd.underlying35 Tryd.underlying5 cellsByte hf with ⟨hcs, _⟩ | ⟨a, len', cap', zs, hcs, _, hl, hm, hz, hx, hcell, hwf⟩
  · simp [Value.cells] at hcs
    obtain ⟨rfl, rfl, rfl⟩ := hcs
    exact ⟨none, 0, [], rfl, fun k hk => absurd hk (by simp), by simp [maxLen], by simp, (fun h0 => absurd h0 (by simp)), hback⟩
  · simp [Value.cells] at hcs
    obtain ⟨rfl, rfl, rfl⟩ := hcs
    simp only [if_true] at hz
    have hlen : ((zs.take len).map Int.toNat).length = len := by rw [List.length_map, List.length_take]; omega
    simp only [Prod.mk.injEq] at hx
    obtain ⟨rfl, rfl⟩ := hx
    have hbyt : ∀ k, k < len → ((zs.take len).map Int.toNat)[k]?.getD 0 = (zs[k]?.getD 0).toNat := fun k hk => by
      rw [List.getElem?_map, List.getElem?_take_of_lt hk]
      cases hzk : zs[k]? with
      | none => rfl
      | some z => rfl
    by_cases h0 : zs.length = 0
    · have hc0 : cap = 0 := by omega
      have hl0 : len = 0 := by omega
      refine ⟨some a, cap, [], by rw [hl0]; rfl, fun k hk => absurd hk (by simp), by simp [maxLen], by simp, (fun h0 => absurd h0 (by simp)), by rw [hl0] at hback ⊢; exact hback⟩
    · obtain ⟨b, off, spot⟩ := a
      have hspot : spot = none := by simpa [Addr.add] using World.cell?_spot (hcell 0 (by omega))
      subst hspot
      have hbW : b < W.heap.size := hlt (.cell b off) (MemPlace.mem_row.2 ⟨0, by omega, by simp⟩)
      refine ⟨some ⟨b, off, none⟩, cap, (zs.take len).map Int.toNat, by rw [hlen], fun k hk => ?_, by rw [hlen]; omega, by rw [hlen]; exact hl, (fun _ b' off' e => by injection e with e; injection e with e1 e2; omega), hback⟩
      rw [hlen] at hk
      have hr := range_u8 hwf k
      refine ⟨b, off, rfl, hbW, by rw [hbyt k hk]; omega, ?_⟩
      rw [hbyt k hk, ← add_plain, hcell k (by omega), Int.toNat_of_nonneg hr.1]
      simp [List.getD]
end Go.Proofs.YtdgceglbnfdhbaaDoor
