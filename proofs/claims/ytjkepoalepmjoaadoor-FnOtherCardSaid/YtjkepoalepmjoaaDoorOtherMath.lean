/- The other graph: by the model, of a list that is a graph. -/
import Derived.RangeFuncBox
import Derived.Test.YtjkepoalepmjoaaDoorBaseA
import Derived.Test.YtjkepoalepmjoaaDoorLink
import Derived.Test.YtjkepoalepmjoaaDoorLess
namespace Go.Proofs.YtjkepoalepmjoaaDoor
open Go.RowKit Go.Shelf
set_option linter.unusedVariables false
set_option maxRecDepth 100000

/-- The other neighbours of a node. -/
def oth (L : List Int) (k : Nat) : Nat := less (less (2 ^ L.length - 1) (ent L k)) (2 ^ k)
def otherL (L : List Int) (k : Nat) : List Int := (List.range k).map fun i => ((oth L i : Nat) : Int)
theorem otherL_zero (L : List Int) : otherL L 0 = [] := rfl
theorem otherL_succ (L : List Int) (k : Nat) : otherL L (k + 1) = otherL L k ++ [((oth L k : Nat) : Int)] := by simp [otherL, List.range_succ]
theorem otherL_length (L : List Int) (k : Nat) : (otherL L k).length = k := by simp [otherL]

/-- What the operations yield at one node. -/
theorem oth_step {L : List Int} (hg : IsGraph L) {k : Nat} (hk : k < L.length) : ∃ X P Q p y z : Nat, L[k]?.getD 0 = (X : Int) ∧ X < 64 ∧ Q + 1 = 2 ^ L.length ∧ (wrap64 ((2 : Int) ^ L.length) = (P : Int) ∧ IntKind.i64.wrap ((2 : Int) ^ L.length) = (P : Int) ∧ (P : Int) - 1 = (Q : Int) ∧ IntKind.i64.wrap ((P : Int) - 1) = (Q : Int) ∧ IntKind.i64.wrap (Q : Int) = (Q : Int)) ∧
    (wrap64 ((2 : Int) ^ k) = (p : Int) ∧ IntKind.i64.wrap ((2 : Int) ^ k) = (p : Int)) ∧ bits .andNot .i64 (Q : Int) (X : Int) = (y : Int) ∧ bits .andNot .i64 (y : Int) (p : Int) = (z : Int) ∧ z = oth L k := by
  have h6 := hg.2.1
  have hin := (hg.2.2 k hk).1
  have hX := ent_int hin
  have hXl := ent_lt hin
  have h64 := two_le h6
  have hX64 : ent L k < 64 := by omega
  have hk6 : k ≤ 6 := by omega
  clear hin hXl h64 hk
  obtain ⟨P, Q, hP, hQ, hP64, pf⟩ := shl_facts L.length h6
  have HPF := Lib.hid pf
  clear pf
  have hQ64 : Q < 64 := by omega
  have hQ2 : Q + 1 = 2 ^ L.length := by omega
  obtain ⟨P2, Q2, hP2, hQ22, hP264, qf⟩ := shl_facts k hk6
  have HQF := Lib.hid qf
  clear qf
  have f1 := less_op Q (ent L k) (Nat.lt_trans hQ64 (by decide)) (Nat.lt_trans hX64 (by decide))
  have hy : less Q (ent L k) < 64 := Nat.lt_of_le_of_lt (less_le Q (ent L k)) hQ64
  have f2 := less_op (less Q (ent L k)) P2 (Nat.lt_trans hy (by decide)) (Nat.lt_of_le_of_lt hP264 (by decide))
  have e : 2 ^ L.length - 1 = Q := by rw [← hQ2]; rfl
  obtain ⟨p1, p2, p3, p4, p5⟩ := HPF.out
  obtain ⟨q1, q2, _, _, _⟩ := HQF.out
  refine ⟨ent L k, P, Q, P2, less Q (ent L k), less (less Q (ent L k)) P2, hX, hX64, hQ2, ⟨p1, p2, p3, p4, p5⟩, ⟨q1, q2⟩, f1, f2, ?_⟩
  unfold oth
  rw [e, ← hP2]

set_option maxHeartbeats 1000000 in
theorem specOther_seen (A : Option Addr) (c : Nat) (L : List Int) (hg : IsGraph L) (w : World) (h : Seen w A L) :
    Calls Tryd.prog 61 #[.slice A L.length c] w (Gave w (otherL L L.length)) := by
  have h1 := hg.1
  have h6 := hg.2.1
  obtain ⟨n, hn⟩ : ∃ n, n = L.length := ⟨_, rfl⟩
  rw [← hn] at h1 h6 ⊢
  have HN := Lib.hid hn
  have H := Lib.hid h
  have HG := Lib.hid hg
  have R0 := Lib.hid (World.ownsRow_lit (base := w.heap.size) (e := 3) (size := 1) w #[] 0 (Nat.le_refl _) (by unfold maxLen; omega) rfl)
  have B0 := Lib.hid ((Below.refl w.heap.size w).alloc (Nat.le_refl _) (.cells #[] 3))
  clear h hg hn
  go_enter Tryd.func61, Tryd.ntmps61
  go_wp2
  go_loopw [3, 4] (fun v i wr => ∃ k : Nat, k ≤ n ∧ i = .int .i64 k ∧ Hid (Row wr w.heap.size v (otherL L k)) ∧ Hid (Below w.heap.size w wr)) (fun _ i _ => n - (intOf i).toNat)
  case atStart => exact ⟨0, Nat.zero_le _, rfl, R0, B0⟩
  case round =>
    obtain ⟨k, hk, rfl, hr, hb⟩ := hrel
    by_cases hlt : k < n
    · obtain ⟨blk, off, rfl, hbl, hc⟩ := H.out k (by have := HN.out; omega)
      have hi1 : (0 : Int) ≤ (k : Int) ∧ (k : Int) < (n : Int) := by omega
      have hlen1 : (otherL L k).length ≤ 100000 := by rw [otherL_length]; omega
      obtain ⟨X, P, Q, p, y, z, eX, hX64, hQ, ⟨p1, p2, p3, p4, p5⟩, ⟨q1, q2⟩, f1, f2, ez⟩ := oth_step HG.out (show k < L.length by have := HN.out; omega)
      rw [eX] at hc
      rw [← HN.out] at p1 p2 hQ
      have hcw : wr.cell? ⟨blk, off + k, none⟩ = some (.int .i64 X) := (hb.out.cell (p := ⟨blk, off + k, none⟩) hbl).trans hc
      have EZ := Lib.hid ez
      clear hc hbl eX ez hQ
      have hr2 : Row wr.drew w.heap.size u3 (otherL L k) := hr.out
      have hb2 : Below w.heap.size w wr.drew := hb.out.drew
      have HR2 := Lib.hid hr2
      have HB2 := Lib.hid hb2
      have hu : ∃ A' c', u3 = .slice A' k c' := by
        obtain ⟨A', c', e, _⟩ := hr.out.see
        exact ⟨A', c', by rw [e, otherL_length]⟩
      have HLN := Lib.hid hlen1
      clear hr2 hb2 hr hb hlen1
      go_wp2
      go_region_law (refine step_one rfl (.tmp 12) (.tmp 25) rfl wr.drew w.heap.size u3 (otherL L k) (z : Int) (by simp [Act.eval]) (by simp [Act.eval]) HR2.out HB2.out.size HLN.out ?_; intro v' w' hr' hb')
      all_goals
        clear f1 f2 p1 p2 p3 p4 p5 q1 q2 hcw
        go_wp2
        go_roundw
        case rel => exact ⟨k + 1, by omega, by go_num, Lib.hid (by rw [otherL_succ, ← EZ.out]; exact hr'.out), Lib.hid (HB2.out.trans hb'.out)⟩
        case measure => simp [intOf]; omega
    · have hkn : k = n := by omega
      subst hkn
      go_wp2
      go_ret
      exact ⟨_, rfl, hr.out, hb.out⟩

end Go.Proofs.YtjkepoalepmjoaaDoor
