/- The deck put in an order by moreEdges: a permutation whose cards have no more edges than those ahead. -/
import Derived.Test.YtdhfnjpjccjkcaaDoorSortFn
import Derived.Test.YtdhfnjpjccjkcaaDoorOnesBig
import Derived.Test.YtdhfnjpjccjkcaaDoorDegMath
namespace Go.Proofs.YtdhfnjpjccjkcaaDoor
open Go.RowKit Go.Shelf Go.Sort
set_option linter.unusedVariables false
set_option maxRecDepth 100000

abbrev Cd := Fin 1024
def encC (i : Cd) : Value := .int .i64 ((i.val : Nat) : Int)
def cdInt (i : Cd) : Int := ((i.val : Nat) : Int)
def cfM (x y : Cd) : Int := cfI ((pcf 15 y.val : Nat) : Int) ((pcf 15 x.val : Nat) : Int)
theorem ltM (x y : Cd) : ltOf cfM x y = decide (pcf 15 y.val < pcf 15 x.val) := by
  have h := ltI ((pcf 15 y.val : Nat) : Int) ((pcf 15 x.val : Nat) : Int)
  unfold ltOf at h
  unfold ltOf cfM
  rw [h]
  by_cases h1 : pcf 15 y.val < pcf 15 x.val
  · rw [decide_eq_true h1]; exact decide_eq_true (by omega)
  · rw [decide_eq_false h1]; exact decide_eq_false (by omega)
theorem swoM : SWO (ltOf cfM) where
  irrefl x := by rw [ltM]; simp
  trans x y z h1 h2 := by rw [ltM] at *; simp at *; omega
  ntrans x y z h1 h2 := by rw [ltM] at *; simp at *; omega

set_option maxHeartbeats 1000000 in
theorem moreEdges_any (x y : Nat) (hx : x < 1024) (hy : y < 1024) (w : World) : Calls Tryd.prog 69 #[.int .i64 x, .int .i64 y] w
    fun e w' => e = .returned (.int .i64 (cfI ((pcf 15 y : Nat) : Int) ((pcf 15 x : Nat) : Int))) ∧ w = w' := by
  have H1 := Lib.hid (fun w => cardEdges_any x hx w)
  have H2 := Lib.hid (fun w => cardEdges_any y hy w)
  obtain ⟨p, ep⟩ : ∃ p, p = pcf 15 x := ⟨_, rfl⟩
  obtain ⟨q, eq⟩ : ∃ q, q = pcf 15 y := ⟨_, rfl⟩
  rw [← ep] at H1 ⊢
  rw [← eq] at H2 ⊢
  clear ep eq
  have H3 := Lib.hid (fun w => compare_any ((q : Nat) : Int) ((p : Nat) : Int) w)
  obtain ⟨r, er⟩ : ∃ r, r = cfI ((q : Nat) : Int) ((p : Nat) : Int) := ⟨_, rfl⟩
  rw [← er] at H3 ⊢
  clear er
  go_enter Tryd.func69, Tryd.ntmps69
  go_wp2_with fail
  refine (H2.out _).mono ?_
  rintro e w1 ⟨rfl, rfl⟩
  go_wp2_with fail
  refine (H1.out _).mono ?_
  rintro e w1 ⟨rfl, rfl⟩
  go_wp2_with fail
  refine (H3.out _).mono ?_
  rintro e w1 ⟨rfl, rfl⟩
  go_wp2
  go_ret
  exact ⟨rfl, rfl⟩
theorem cmpReadsM (blk off size : Nat) (w : World) : CmpReads Tryd.prog 69 #[] encC cfM blk off size w := fun _ _ _ _ x y =>
  (moreEdges_any x.val y.val x.2 y.2 _).mono fun e w' ⟨he, hw⟩ => ⟨he, 0, hw.symm⟩

theorem map_getE {d : Array Cd} {k : Nat} (hk : k < d.size) : (d.map cdInt)[k]! = cdInt d[k]! := by
  rw [getElem!_pos _ k (by simpa using hk), getElem!_pos _ k hk]
  simp
theorem putCells_enc (d : Array Cd) (c : Array Value) : putCells encC 0 d c = putCells (Value.int .i64) 0 (d.map cdInt) c := by
  unfold putCells
  congr 1
  funext k x
  have hs : (d.map cdInt).size = d.size := by simp
  rw [hs]
  by_cases h : 0 ≤ k ∧ k < 0 + d.size
  · rw [if_pos h, if_pos h, map_getE (by omega)]
    rfl
  · rw [if_neg h, if_neg h]
theorem putRow_enc (w : World) (g : Nat) (d : Array Cd) : putRow encC w g 0 d = putRow (Value.int .i64) w g 0 (d.map cdInt) := by
  unfold putRow
  congr 1
  funext c
  exact putCells_enc d c
/-- Codes as numbers below 1024. -/
theorem as_cd {xs : List Int} (h : ∀ x ∈ xs, 0 ≤ x ∧ x < 1024) : ∃ ds : List Cd, ds.map cdInt = xs := by
  refine ⟨xs.map fun x => ⟨x.toNat % 1024, Nat.mod_lt _ (by decide)⟩, ?_⟩
  rw [List.map_map]
  refine (List.map_congr_left fun x hx => ?_).trans (List.map_id xs)
  have h1 := h x hx
  show (((x.toNat % 1024 : Nat)) : Int) = x
  rw [Nat.mod_eq_of_lt (by omega)]
  omega
/-- No card has more edges than one ahead. -/
def Fewer (ys : List Int) : Prop := ys.Pairwise fun a b => pcf 15 b.toNat ≤ pcf 15 a.toNat
def PutMore (w : World) (B : Nat) (v : Value) (xs : List Int) (e : Ending) (w' : World) : Prop := e = .returned (.tuple #[]) ∧ ∃ ys, ys.Perm xs ∧ Fewer ys ∧ Row w' B v ys ∧ w.grownBy w' v.ownBlock

set_option maxHeartbeats 1000000 in
theorem sortMore_any (B : Nat) (v : Value) (xs : List Int) (hl : xs.length ≤ 1000) (hx : ∀ x ∈ xs, 0 ≤ x ∧ x < 1024) (w : World) (h : Row w B v xs) :
    Calls Tryd.prog 104 #[v, .func (.func 69) #[] #[]] w (PutMore w B v xs) := by
  have h0 := h
  unfold Row at h0
  rcases h0.2 with ⟨rfl, hn⟩ | ⟨g, cap, cur, rfl, hg, hb, h1, h2, h3, h4⟩
  · have hx0 : xs = [] := List.eq_nil_of_length_eq_zero hn
    subst hx0
    have hS := AnyF.slices_SortFunc_none (P := Tryd.prog) (ρ := Tryd.sortL_ren) { Tryd.sortL with } none 0 (.func (.func 69) #[] #[]) w
    exact hS.mono fun e w' ⟨he, hw⟩ => ⟨he, [], List.Perm.refl _, List.Pairwise.nil, by rw [hw]; exact h, by rw [hw]; exact World.grownBy.refl w _⟩
  · by_cases hz : xs.length = 0
    · have hx0 : xs = [] := List.eq_nil_of_length_eq_zero hz
      subst hx0
      have hS := AnyF.slices_SortFunc_none (P := Tryd.prog) (ρ := Tryd.sortL_ren) { Tryd.sortL with } (some ⟨g, 0, none⟩) cap (.func (.func 69) #[] #[]) w
      exact hS.mono fun e w' ⟨he, hw⟩ => ⟨he, [], List.Perm.refl _, List.Pairwise.nil, by rw [hw]; exact h, by rw [hw]; exact World.grownBy.refl w _⟩
    · obtain ⟨ds, rfl⟩ := as_cd hx
      have hds : ds.toArray.size = (ds.map cdInt).length := by simp
      have hHI := holds_of_blockI (ss := ds.map cdInt) hb (by simpa using h4)
      have hH : Holds encC w g 0 ds.toArray := fun j hj => by
        have h5 := hHI j (by simpa using hj)
        have h6 : (ds.map cdInt).toArray = ds.toArray.map cdInt := by simp
        rw [h6, map_getE hj] at h5
        exact h5
      have hgl : g < w.heap.size := (Array.getElem?_eq_some_iff.1 hb).1
      have eg : ∀ args w, (callFunc 69 args).run Tryd.prog w = .ok (.enter 69 args) w := enters_of Tryd.func69 (by kernel_rfl) rfl
      have hS := Any.slices_SortFunc Tryd.sortL encC (fun _ => rfl) cfM swoM 69 #[] g 0 cap ds.toArray w eg (cmpReadsM g 0 ds.toArray.size w).lays hH hgl (by rw [hds]; omega)
      rw [hds] at hS
      refine hS.mono fun e w' ⟨he, d', n, os, hp, hs, hw⟩ => ⟨he, d'.toList.map cdInt, ?_, ?_, ?_, ?_⟩
      · obtain ⟨hsz, _, hperm⟩ := hp
        have e1 : d'.extract 0 (ds.map cdInt).length = d' := by rw [← hds, ← hsz]; exact Array.extract_size
        have e2 : ds.toArray.extract 0 (ds.map cdInt).length = ds.toArray := by rw [← hds]; exact Array.extract_size
        rw [e1, e2] at hperm
        exact hperm.map cdInt
      · unfold Fewer
        rw [List.pairwise_map, List.pairwise_iff_getElem]
        intro i j hi hj hij
        have hi' : i < d'.size := by simpa using hi
        have hj' : j < d'.size := by simpa using hj
        have h5 := hs i j (Nat.zero_le _) hij (by rw [← hds, ← hp.1]; exact hj')
        rw [ltM, getElem!_pos _ i hi', getElem!_pos _ j hj', decide_eq_false_iff_not] at h5
        show pcf 15 (((d'.toList[j].val : Nat)) : Int).toNat ≤ pcf 15 (((d'.toList[i].val : Nat)) : Int).toNat
        rw [Int.toNat_natCast, Int.toNat_natCast, Array.getElem_toList, Array.getElem_toList]
        omega
      · rw [hw]
        have hlen : (d'.toList.map cdInt).length = (ds.map cdInt).length := by rw [List.length_map, Array.length_toList, hp.1, hds]
        have hr := ownsRow_sortedI (w := w) (base := B) (n := n) (os := os) (ss := ds.map cdInt) (ts := d'.toList.map cdInt) hlen hg hb (by simpa using h1) h2 (by simpa using h3)
        unfold Row
        rw [hlen]
        unfold sortWorld
        rw [putRow_enc]
        have e3 : d'.map cdInt = (d'.toList.map cdInt).toArray := Array.ext' (by rw [Array.toList_map])
        rw [e3]
        exact hr
      · rw [hw]
        unfold sortWorld
        rw [putRow_enc]
        exact grownBy_sortedI _

/-- How a call that hands back the list in that order ends. -/
def GaveMore (w : World) (xs : List Int) (e : Ending) (w' : World) : Prop := ∃ v ys, e = .returned v ∧ ys.Perm xs ∧ Fewer ys ∧ Row w' w.heap.size v ys ∧ Below w.heap.size w w'
theorem sortedMore_any (Bn : Nat) (A : Option Addr) (c : Nat) (L : List Int) (hl : L.length ≤ 1000) (hx : ∀ x ∈ L, 0 ≤ x ∧ x < 1024) (w : World) (hB : Bn < w.heap.size) (hc : w.cell? ⟨Bn, 0, none⟩ = some (.slice A L.length c)) (hS : Seen w A L) :
    Calls Tryd.prog 89 #[.func (.func 105) #[] #[.pointer (some ⟨Bn, 0, none⟩)], .func (.func 69) #[] #[]] w (GaveMore w L) := by
  have H := Lib.hid (collectV_any Bn A c L hl w hB hc hS)
  have HL := Lib.hid hl
  have HX := Lib.hid hx
  clear hc hS hl hx
  go_enter Tryd.func89, Tryd.ntmps89
  go_wp2_with fail
  refine H.out.mono ?_
  rintro e w1 ⟨v, rfl, r, b⟩
  have R := Lib.hid r
  have BB := Lib.hid b
  clear r b
  go_wp2_with fail
  refine (sortMore_any _ v L HL.out HX.out _ R.out).mono ?_
  rintro e w2 ⟨rfl, ys, p2, f2, r2, g2⟩
  go_wp2
  go_ret
  exact ⟨v, ys, rfl, p2, f2, r2, BB.out.grown g2 BB.out.size (fun k hk => (R.out.lt k hk).1)⟩
theorem orderedMore_any (A : Option Addr) (c : Nat) (L : List Int) (hl : L.length ≤ 1000) (hx : ∀ x ∈ L, 0 ≤ x ∧ x < 1024) (w : World) (hS : Seen w A L) :
    Calls Tryd.prog 64 #[.slice A L.length c, .func (.func 69) #[] #[]] w (GaveMore w L) := by
  have hb := Boxed.new w 49 (.slice A L.length c)
  have hB := (Below.refl w.heap.size w).alloc (Nat.le_refl _) (.cells #[.slice A L.length c] 49)
  have H := Lib.hid (sortedMore_any w.heap.size A c L hl hx (w.alloc (.cells #[.slice A L.length c] 49)) (by simp) hb.cell (hS.below hB))
  have HB := Lib.hid hB
  clear hb hB hS hx
  go_enter Tryd.func64, Tryd.ntmps64
  go_wp2_with fail
  refine (values_any _ _ _ _).mono ?_
  rintro e w' ⟨rfl, rfl⟩
  go_wp2_with fail
  refine H.out.mono ?_
  rintro e w2 ⟨v, ys, rfl, p2, f2, r, b⟩
  go_wp2
  go_ret
  exact ⟨v, ys, rfl, p2, f2, r.mono HB.out.size, HB.out.trans (b.mono HB.out.size)⟩
end Go.Proofs.YtdhfnjpjccjkcaaDoor
