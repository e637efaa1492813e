/- How many graphs are alike to one: the number of names by that of automorphisms. -/
import Derived.Test.YtedjnenbmhajiaaDoorSameLaw
import Derived.Test.YtedjnenbmhajiaaDoorManyOf
namespace Go.Proofs.YtedjnenbmhajiaaDoor
open Go Go.RowKit
set_option linter.unusedVariables false
set_option maxRecDepth 100000

theorem range_perms (n : Nat) : ∀ k, k ≤ n → List.range k ∈ permsTo n k
  | 0, _ => by simp [permsTo, extK]
  | k + 1, h => by
    rw [permsTo_succ]
    refine List.mem_flatMap.2 ⟨List.range k, range_perms n k (by omega), ?_⟩
    unfold ext
    exact List.mem_map.2 ⟨k, mem_left.2 ⟨by omega, by simp⟩, List.range_succ.symm⟩
theorem at_range {n i v : Nat} (hv : v < i) (hi : i ≤ n) : at_ ((List.range n).take i) v = v := by
  rw [take_at hv]
  unfold at_
  simp [show v < n by omega]
theorem id_auto {L : List Int} (hL : IsGraph L) : List.range L.length ∈ autosL L := by
  have hp := range_perms L.length L.length (Nat.le_refl _)
  refine List.mem_filter.2 ⟨hp, ?_⟩
  have hn := perms_names _ _ _ hp
  unfold okC
  rw [beq_iff_eq]
  refine (ok_iff hL hL rfl hn).1 ?_
  rw [okFrom_iff]
  intro i _ hi
  rw [List.length_range] at hi
  have hl : ((List.range L.length).take (i + 1)).length = i + 1 := by rw [List.length_take, List.length_range]; omega
  unfold fitB
  rw [List.all_eq_true]
  intro v hv
  rw [List.mem_range, hl] at hv
  unfold okAt
  rw [hl, at_range (by omega) (by omega), at_range (by omega) (by omega)]
  simp
theorem autos_pos {L : List Int} (hL : IsGraph L) : 0 < (autosL L).length := List.length_pos_of_mem (id_auto hL)

def fac : Nat → Nat
  | 0 => 1
  | k + 1 => fac k * (k + 1)
theorem fac_le : ∀ k : Fin 7, fac k.val ≤ 720 := by decide
def manyN (L : List Int) : Nat := fac L.length / (autosL L).length

theorem fac_step (k x : Nat) (hk : k ≤ 6) (h1 : x ≤ 720) (ex : x = fac k) : wrap64 ((x : Int) * ((k : Int) + 1)) = (fac (k + 1) : Nat) := by
  have e : (x : Int) * ((k : Int) + 1) = ((x * (k + 1) : Nat) : Int) := by rw [Int.natCast_mul]; rfl
  have hz : x * (k + 1) ≤ 720 * 7 := Nat.mul_le_mul h1 (by omega)
  have ef : fac (k + 1) = x * (k + 1) := by rw [ex]; rfl
  rw [e, ef]
  obtain ⟨z, ez⟩ : ∃ z, z = x * (k + 1) := ⟨_, rfl⟩
  rw [← ez] at hz ⊢
  clear e ef ez
  unfold wrap64
  omega
theorem quo_small (x y : Nat) (h : x ≤ 720) : wrap64 ((x : Int) / (y : Int)) = ((x / y : Nat) : Int) := by
  have e : (x : Int) / (y : Int) = ((x / y : Nat) : Int) := by rw [Int.natCast_ediv]
  have hz : x / y ≤ x := Nat.div_le_self _ _
  rw [e]
  obtain ⟨z, ez⟩ : ∃ z, z = x / y := ⟨_, rfl⟩
  rw [← ez] at hz ⊢
  clear e ez
  unfold wrap64
  omega
set_option maxHeartbeats 1000000 in
theorem factorial_any (n : Nat) (h6 : n ≤ 6) (w : World) : Calls Tryd.prog 61 #[.int .i64 n] w fun e w' => e = .returned (.int .i64 (fac n : Nat)) ∧ w = w' := by
  go_enter Tryd.func61, Tryd.ntmps61
  go_wp2
  go_loop [3, 6] (fun p i => ∃ k : Nat, k ≤ n ∧ i = .int .i64 k ∧ p = .int .i64 (fac k : Nat)) (fun _ i => n - (intOf i).toNat)
  case atStart => exact ⟨0, Nat.zero_le _, rfl, rfl⟩
  case round =>
    obtain ⟨k, hk, rfl, rfl⟩ := hrel
    have h1 := fac_le ⟨k, by omega⟩
    dsimp only at h1
    obtain ⟨x, ex⟩ : ∃ x, x = fac k := ⟨_, rfl⟩
    rw [← ex] at h1
    rw [← ex]
    have EX := Lib.hid ex
    clear ex
    by_cases hlt : k < n
    · go_wp2
      go_round
      case rel =>
        refine ⟨k + 1, by omega, by go_num, ?_⟩
        rw [fac_step k x (by omega) h1 EX.out]
      case measure => simp [intOf]; omega
    · have hke : k = n := by omega
      subst hke
      go_wp2
      go_ret
      exact ⟨ret_int (by rw [EX.out]), rfl⟩

set_option maxHeartbeats 1000000 in
theorem many_any (A : Option Addr) (c : Nat) (L : List Int) (hL : IsGraph L) (w : World) (sL : Seen w A L) (hT : Tab w) :
    Calls Tryd.prog 44 #[.slice A L.length c] w (NumA w (manyN L)) := by
  have h6 := hL.2.1
  have H1 := Lib.hid (fun w => factorial_any L.length h6 w)
  have H2 := Lib.hid (same_any A c L hL w sL hT)
  have hf := fac_le ⟨L.length, by omega⟩
  have hp := autos_pos hL
  dsimp only at hf
  unfold manyN
  obtain ⟨x, ex⟩ : ∃ x, x = fac L.length := ⟨_, rfl⟩
  obtain ⟨y, ey⟩ : ∃ y, y = (autosL L).length := ⟨_, rfl⟩
  rw [← ex] at hf H1 ⊢
  rw [← ey] at hp H2 ⊢
  have hy : ((y : Int) == 0) = false := by simp; omega
  clear hL sL hT ex ey
  go_enter Tryd.func44, Tryd.ntmps44
  go_wp2_with fail
  refine (H1.out _).mono ?_
  rintro e w1 ⟨rfl, rfl⟩
  go_wp2_with fail
  refine H2.out.mono ?_
  rintro e w2 ⟨rfl, b2⟩
  have hq := quo_small x y hf
  have HQ := Lib.hid hq
  clear hq
  go_wp2
  go_ret
  exact ⟨ret_int HQ.out, b2⟩

theorem implAlikeMany_yes (B : Nat) (v : Value) (L : List Int) (hg : IsGraph L) (w : World) (h : Row w B v L) (hT : Tab w) :
    Calls Tryd.prog 25 #[v] w (NumOkA w (manyN L) true) := by
  have ht := hT.lt
  have H1 := Lib.hid (asG_graph B v L hg w h hT)
  obtain ⟨A, c, rfl, hs⟩ := h.seen
  have H2 := Lib.hid (fun w1 (b : Below w.heap.size w w1) => many_any A c L hg w1 (hs.below b) (hT.below b (by omega)))
  clear hg h hs hT
  go_enter Tryd.func25, Tryd.ntmps25
  go_wp2_with fail
  go_enter Tryd.func35, Tryd.ntmps35
  go_wp2_with fail
  refine H1.out.mono ?_
  rintro e w1 ⟨rfl, b1⟩
  go_wp2_with fail
  refine (H2.out _ b1).mono ?_
  rintro e w2 ⟨rfl, b2⟩
  go_wp2
  go_ret2
  exact ⟨rfl, b1.trans (b2.mono b1.size)⟩
theorem implAlikeMany_no (B : Nat) (v : Value) (L : List Int) (hg : ¬ IsGraph L) (w : World) (h : Row w B v L) (hT : Tab w) :
    Calls Tryd.prog 25 #[v] w (NumOkA w 0 false) := by
  have H1 := Lib.hid (asG_none B v L hg w h hT)
  clear hg h
  go_enter Tryd.func25, Tryd.ntmps25
  go_wp2_with fail
  go_enter Tryd.func35, Tryd.ntmps35
  go_wp2_with fail
  refine H1.out.mono ?_
  rintro e w1 ⟨rfl, b1⟩
  go_wp2
  go_ret2
  exact ⟨rfl, b1⟩
set_option maxHeartbeats 1000000 in
theorem specAlikeMany_yes (B : Nat) (v : Value) (L : List Int) (hg : IsGraph L) (w : World) (h : Row w B v L) :
    Calls Tryd.prog 24 #[v] w (NumOkA w (manyN L) true) := by
  have h6 := hg.2.1
  have h1 := hg.1
  have H1 := Lib.hid (specIn_any B v L true ⟨fun _ => hg, fun _ => rfl⟩ w h)
  obtain ⟨A, c, rfl, hs⟩ := h.seen
  have H2 := Lib.hid (fun w1 (b : Below w.heap.size w w1) => specAutos_seen A c L hg w1 (hs.below b))
  have hp := autos_pos hg
  unfold manyN
  obtain ⟨R, eR⟩ : ∃ R, R = autosL L := ⟨_, rfl⟩
  rw [← eR] at hp H2 ⊢
  obtain ⟨n, hn⟩ : ∃ n, n = L.length := ⟨_, rfl⟩
  rw [← hn] at h6 h1 H1 H2 ⊢
  clear hg h hs eR hn
  go_enter Tryd.func24, Tryd.ntmps24
  go_wp2_with fail
  refine H1.out.mono ?_
  rintro e w1 ⟨rfl, d, rfl⟩
  have B0 := Lib.hid (below_drewN (Below.refl w.heap.size w) d)
  obtain ⟨wd, ewd⟩ : ∃ wd, wd = w.drewN d := ⟨_, rfl⟩
  rw [← ewd] at B0 ⊢
  clear ewd
  go_wp2
  go_loop [4, 5] (fun p i => ∃ k : Nat, 1 ≤ k ∧ k ≤ n ∧ i = .int .i64 ((k + 1 : Nat) : Int) ∧ p = .int .i64 (fac k : Nat)) (fun _ i => n + 1 - (intOf i).toNat)
  case atStart => exact ⟨1, Nat.le_refl _, h1, rfl, rfl⟩
  case round =>
    obtain ⟨k, hk1, hk, rfl, rfl⟩ := hrel
    have hf := fac_le ⟨k, by omega⟩
    dsimp only at hf
    obtain ⟨x, ex⟩ : ∃ x, x = fac k := ⟨_, rfl⟩
    rw [← ex] at hf
    rw [← ex]
    by_cases hlt : k < n
    · have hfs := Lib.hid (fac_step k x (by omega) hf ex)
      clear ex
      go_wp2
      go_round
      case rel =>
        refine ⟨k + 1, by omega, by omega, by go_num, ?_⟩
        have h0 := hfs.out
        rw [← h0]
      case measure => simp [intOf] <;> omega
    · have hke : k = n := by omega
      subst hke
      rw [ex] at hf
      obtain ⟨y, ey⟩ : ∃ y, y = R.length := ⟨_, rfl⟩
      have hy : ((y : Int) == 0) = false := by simp; omega
      have HQ := Lib.hid (quo_small x y (by rw [ex]; exact hf))
      have EX := Lib.hid ex
      have EY := Lib.hid ey
      rw [ey] at hy
      clear ex ey
      go_wp2_with fail
      refine (H2.out _ B0.out).mono ?_
      rintro e w2 ⟨u, rfl, hu, b2⟩
      obtain ⟨ob, oc, rfl, _⟩ := hu.shape
      go_wp2
      go_ret2
      have e : wrap64 ((x : Int) / (R.length : Int)) = ((fac k / R.length : Nat) : Int) := by rw [← EY.out, ← EX.out]; exact HQ.out
      refine ⟨?_, B0.out.trans (b2.mono B0.out.size)⟩
      show Ending.returned (.tuple #[.int .i64 (wrap64 ((x : Int) / (R.length : Int))), .bool true]) = _
      rw [e]
theorem specAlikeMany_no (B : Nat) (v : Value) (L : List Int) (hg : ¬ IsGraph L) (w : World) (h : Row w B v L) :
    Calls Tryd.prog 24 #[v] w (NumOkA w 0 false) := by
  have H1 := Lib.hid (specIn_any B v L false ⟨fun h => (by cases h), fun h => absurd h hg⟩ w h)
  clear hg h
  go_enter Tryd.func24, Tryd.ntmps24
  go_wp2_with fail
  refine H1.out.mono ?_
  rintro e w1 ⟨rfl, d, rfl⟩
  go_wp2
  go_ret2
  exact ⟨rfl, below_drewN (Below.refl _ w) d⟩
theorem manyLaw_short (A : Option Addr) (c : Nat) (L : List Int) (w : World) (h : Seen w A L) (hT : Tab w) (hs : L.length ≤ 1048576) :
    Calls Tryd.prog 8 #[.slice A L.length c] w (Fine w) := by
  by_cases hg : IsGraph L
  · exact manyLaw_of A c L w h hT hs (manyN L) true (fun B v w hr => specAlikeMany_yes B v L hg w hr) (fun B v w hr ht => implAlikeMany_yes B v L hg w hr ht)
  · exact manyLaw_of A c L w h hT hs 0 false (fun B v w hr => specAlikeMany_no B v L hg w hr) (fun B v w hr ht => implAlikeMany_no B v L hg w hr ht)
#print axioms manyLaw_short
end Go.Proofs.YtedjnenbmhajiaaDoor
