/- Parts of a graph, and a node dropped: their edges. Plain mathematics, no condition. -/
import Derived.Test.YtjkepoalepmjoaaDoorDegMath
import Derived.Test.YtjkepoalepmjoaaDoorPromDeg
namespace Go.Proofs.YtjkepoalepmjoaaDoor
open Go Go.RowKit
set_option linter.unusedVariables false
set_option maxRecDepth 100000

def inside (s : Nat) (e : Nat × Nat) : Bool := s / 2 ^ e.1 % 2 == 1 && s / 2 ^ e.2 % 2 == 1
theorem part_rows : ∀ n : Fin 7, ∀ s : Fin 64, s.val < 2 ^ n.val → (rows (nodesL s.val).length).map (fun e => (at_ (nodesL s.val) e.1, at_ (nodesL s.val) e.2)) = (rows n.val).filter (inside s.val) := by decide +kernel
theorem nodes_few : ∀ n : Fin 7, ∀ s : Fin 64, s.val < 2 ^ n.val → (nodesL s.val).length ≤ n.val := by decide +kernel
theorem part_edges {L : List Int} (hg : IsGraph L) {s : Nat} (hs : s < 2 ^ L.length) : edgesN (partG L s) = (((rows L.length).filter (inside s)).filter (fun e => bt L e.1 e.2 == 1)).length := by
  have h6 := hg.2.1
  have h64 := two_le h6
  have hn := nodes_few ⟨L.length, by omega⟩ ⟨s, by omega⟩ hs
  dsimp only at hn
  rw [edges_in (by rw [partG_length]; omega), partG_length]
  have hr := part_rows ⟨L.length, by omega⟩ ⟨s, by omega⟩ hs
  dsimp only at hr
  rw [← hr, List.filter_map, List.length_map]
  unfold edgesIn
  congr 1
  refine List.filter_congr fun p hp => ?_
  have hpm := rows_mem _ p hp
  have h1 := partG_bt hg hs p.1 p.2
  show (bt (partG L s) p.1 p.2 == 1) = (bt L (at_ (nodesL s) p.1) (at_ (nodesL s) p.2) == 1)
  rw [Bool.eq_iff_iff, beq_iff_eq, beq_iff_eq, h1]
  constructor
  · exact fun h => h.2.2
  · exact fun h => ⟨by omega, by omega, h⟩
theorem part_le {L : List Int} (hg : IsGraph L) {s : Nat} (hs : s < 2 ^ L.length) : edgesN (partG L s) ≤ edgesN L := by
  rw [part_edges hg hs, edges_in hg.2.1]
  unfold edgesIn
  rw [List.filter_filter]
  refine List.Sublist.length_le ?_
  have : (List.filter (fun a => (bt L a.1 a.2 == 1) && inside s a) (rows L.length)) = ((rows L.length).filter (fun a => bt L a.1 a.2 == 1)).filter (inside s) := by
    rw [List.filter_filter]
    refine List.filter_congr fun x _ => ?_
    exact Bool.and_comm _ _
  first
    | (rw [this]; exact List.filter_sublist)
    | exact List.Sublist.trans (List.filter_sublist) (List.Sublist.refl _)
theorem fullP : ∀ n : Fin 7, nodesL (2 ^ n.val - 1) = List.range n.val := by decide +kernel
theorem part_full {L : List Int} (hg : IsGraph L) : partG L (2 ^ L.length - 1) = L := by
  have h6 := hg.2.1
  have hp := two_pos L.length
  have hs : 2 ^ L.length - 1 < 2 ^ L.length := by omega
  have hf := fullP ⟨L.length, by omega⟩
  dsimp only at hf
  have hl : (partG L (2 ^ L.length - 1)).length = L.length := by rw [partG_length, hf, List.length_range]
  refine graph_ext (partG_graph hg hs (by rw [hf, List.length_range]; exact hg.1)) hg hl fun a b ha hb => ?_
  rw [hl] at ha hb
  refine bt_eq ?_
  rw [partG_bt hg hs, hf, List.length_range, show at_ (List.range L.length) a = a by simp [at_, ha], show at_ (List.range L.length) b = b by simp [at_, hb]]
  exact ⟨fun h => h.2.2, fun h => ⟨ha, hb, h⟩⟩
theorem split_sum {α : Type} (p : α → Bool) (f : α → Nat) : ∀ l : List α, (l.map f).sum = ((l.filter p).map f).sum + ((l.filter fun x => !p x).map f).sum
  | [] => rfl
  | x :: l => by
    have ih := split_sum p f l
    by_cases h : p x = true
    · have h' : (!p x) = false := by rw [h]; rfl
      rw [List.filter_cons, if_pos h, List.filter_cons, if_neg (by rw [h']; decide), List.map_cons, List.sum_cons, List.map_cons, List.sum_cons, ih]; omega
    · have h' : (!p x) = true := by simpa using h
      rw [List.filter_cons, if_neg h, List.filter_cons, if_pos h', List.map_cons, List.sum_cons, List.map_cons, List.sum_cons, ih]; omega
theorem touch_rows : ∀ n : Fin 7, ∀ v : Fin 6, v.val < n.val → (rows n.val).filter (fun e => !away v.val e) = (List.range v.val).map (fun a => (a, v.val)) ++ ((List.range n.val).drop (v.val + 1)).map (fun b => (v.val, b)) := by decide +kernel
/-- A node's edges are those that go with it. -/
theorem drop_deg {L : List Int} (hg : IsGraph L) {v : Nat} (hv : v < L.length) : edgesN L = edgesN (dropG L v) + cnt (ent L v) := by
  have h6 := hg.2.1
  have ht := touch_rows ⟨L.length, by omega⟩ ⟨v, by omega⟩ hv
  dsimp only at ht
  have e1 := edges_in h6
  have e2 := drop_edges hg hv
  have e3 : (((rows L.length).filter (away v)).filter (fun e => bt L e.1 e.2 == 1)).length = (edgesIn L ((rows L.length).filter (away v))).length := rfl
  rw [e3, filter_bits] at e2
  rw [filter_bits, split_sum (away v), ht] at e1
  rw [e1, e2, cnt_bits]
  congr 1
  have f : ∀ j, L.length ≤ j → bt L v j = 0 := fun j hj => bt_far hg hv hj
  have s : ∀ j, j < L.length → bt L j v = bt L v j := fun j hj => bt_symD hg hj hv
  have d : bt L v v = 0 := (hg.2.2 v hv).2.1
  have f0 := f 0; have f1 := f 1; have f2 := f 2; have f3 := f 3; have f4 := f 4; have f5 := f 5
  have s0 := s 0; have s1 := s 1; have s2 := s 2; have s3 := s 3; have s4 := s 4; have s5 := s 5
  clear e1 e2 e3 ht f s
  have hn : L.length = 1 ∨ L.length = 2 ∨ L.length = 3 ∨ L.length = 4 ∨ L.length = 5 ∨ L.length = 6 := by omega
  have hvv : v = 0 ∨ v = 1 ∨ v = 2 ∨ v = 3 ∨ v = 4 ∨ v = 5 := by omega
  obtain ⟨m, em⟩ : ∃ m, m = L.length := ⟨_, rfl⟩
  rw [← em] at f0 f1 f2 f3 f4 f5 s0 s1 s2 s3 s4 s5 hn hv h6 ⊢
  rcases hvv with rfl | rfl | rfl | rfl | rfl | rfl <;> rcases hn with rfl | rfl | rfl | rfl | rfl | rfl <;> first | omega | (simp [List.range_succ]; omega)
end Go.Proofs.YtjkepoalepmjoaaDoor
