/- The first names that make one graph another one: firstLikeness. -/
import Derived.Test.YtamabhdbcmjbjaaDoorLikesFn
import Derived.Test.YtamabhdbcmjbjaaDoorCloneI
import Derived.Test.YtamabhdbcmjbjaaDoorNamings
import Derived.Test.YtamabhdbcmjbjaaDoorLikes
import Derived.Test.YtamabhdbcmjbjaaDoorCopy
import Derived.Test.YtamabhdbcmjbjaaDoorBaseA
namespace Go.Proofs.YtamabhdbcmjbjaaDoor
open Go.RowKit Go.Shelf
attribute [local go_sem] Oper.semAt_some
set_option linter.unusedVariables false
set_option maxRecDepth 100000

def FiI (n s0 : Nat) (A A' : Option Addr) (c c' : Nat) (w : World) (acc : List (List Nat)) (Z : World) : Prop :=
  acc = [] ∧ Boxed Z s0 23 (.slice none 0 0) ∧ Boxed Z (s0 + 1) 4 (.bool false) ∧ Boxed Z (s0 + 1 + 1) 41 (.slice A n c) ∧ Boxed Z (s0 + 1 + 1 + 1) 41 (.slice A' n c') ∧
    Boxed Z (s0 + 1 + 1 + 1 + 1 + 1) 42 (.func (.func 93) #[] #[.pointer (some ⟨s0 + 1 + 1, 0, none⟩), .pointer (some ⟨s0 + 1 + 1 + 1, 0, none⟩)]) ∧ Below s0 w Z
def FiX (s0 : Nat) (w : World) (cd : Code) (xs : List (List Nat)) (Z : World) : Prop :=
  cd = .ret ∧ ∃ P v, xs = [P] ∧ Boxed Z s0 23 v ∧ Row Z s0 v (ints P) ∧ Boxed Z (s0 + 1) 4 (.bool true) ∧ Below s0 w Z

/-- How firstLikeness ends. -/
def FirstR (w : World) (Ls : List (List Nat)) (e : Ending) (w' : World) : Prop :=
  match Ls with
  | [] => Told w [] false e w'
  | P :: _ => Told w (ints P) true e w'

set_option maxRecDepth 100000 in
set_option maxHeartbeats 4000000 in
theorem firstLike_in (A A' : Option Addr) (c c' : Nat) (L M : List Int) (hL : IsGraph L) (hM : IsGraph M) (hlm : L.length = M.length) (w : World) (sL : Seen w A L) (sM : Seen w A' M) (hT : Tab w) :
    CallsIn Fence.wide 12 Tryd.prog 72 #[.slice A L.length c, .slice A' M.length c'] w (FirstR w (likeL L M)) := by
  have h1 := hL.1
  have h6 := hL.2.1
  have h2 := hT.lt
  obtain ⟨n, hn⟩ : ∃ n, n = L.length := ⟨_, rfl⟩
  have hm : n = M.length := by rw [hn, hlm]
  have hdef : likeL L M = allNames (fun _ P => fitB L M P) n := by rw [hn]; rfl
  rw [hdef]
  rw [← hm, ← hn]
  rw [← hn] at h1 h6
  have HL := Lib.hid hL
  have HM := Lib.hid hM
  have HN := Lib.hid hn
  have HMM := Lib.hid hm
  have SL := Lib.hid sL
  have SM := Lib.hid sM
  have HT := Lib.hid hT
  clear hL hM hn hm sL sM hT hlm hdef
  refine callsIn_of_wp_marks Tryd.func72 rfl trivial ?_ rfl
  simp only [Tryd.ntmps72, List.size_toArray, List.length_cons, List.length_nil, Nat.reduceAdd, Nat.reduceSub, Array.replicate_succ, Array.replicate_zero, List.push_toArray, List.append_toArray, List.nil_append, List.cons_append]
  gi_wp2_with (refine ⟨trivial, ?_⟩; gi_at_call 88; refine (callsIn_wide.2 (likenesses_any _ _ _ _ _ _ _)).mono ?_; rintro e w' ⟨rfl, rfl⟩)
  obtain ⟨s0, es0⟩ : ∃ s0, s0 = w.heap.size := ⟨_, rfl⟩
  rw [← es0]
  obtain ⟨W, eW⟩ : ∃ W, W = (((((w.alloc (.cells #[.slice none 0 0] 23)).alloc (.cells #[.bool false] 4)).alloc (.cells #[.slice A n c] 41)).alloc (.cells #[.slice A' n c'] 41)).alloc (.cells #[.int .i64 n] 3)).alloc (.cells #[(.func (.func 93) #[] #[.pointer (some ⟨s0 + 1 + 1, 0, none⟩), .pointer (some ⟨s0 + 1 + 1 + 1, 0, none⟩)])] 42) := ⟨_, rfl⟩
  have sW : W.heap.size = s0 + 6 := by rw [eW, es0]; simp
  have hBW : Below s0 w W := by
    rw [eW, es0]
    refine Below.alloc (Below.alloc (Below.alloc (Below.alloc (Below.alloc (Below.alloc (Below.refl _ w) (Nat.le_refl _) _) ?_ _) ?_ _) ?_ _) ?_ _) ?_ _ <;> (simp <;> omega)
  have b0 : Boxed W s0 23 (.slice none 0 0) := by rw [eW, es0]; exact (((((Boxed.new w _ _).alloc _).alloc _).alloc _).alloc _).alloc _
  have b1 : Boxed W (s0 + 1) 4 (.bool false) := by
    rw [eW, es0]; have h := Boxed.new (w.alloc (.cells #[.slice none 0 0] 23)) 4 (.bool false); rw [World.size_alloc] at h; exact (((h.alloc _).alloc _).alloc _).alloc _
  have b2 : Boxed W (s0 + 1 + 1) 41 (.slice A n c) := by
    rw [eW, es0]; have h := Boxed.new ((w.alloc (.cells #[.slice none 0 0] 23)).alloc (.cells #[.bool false] 4)) 41 (.slice A n c); rw [World.size_alloc, World.size_alloc] at h; exact ((h.alloc _).alloc _).alloc _
  have b3 : Boxed W (s0 + 1 + 1 + 1) 41 (.slice A' n c') := by
    rw [eW, es0]; have h := Boxed.new (((w.alloc (.cells #[.slice none 0 0] 23)).alloc (.cells #[.bool false] 4)).alloc (.cells #[.slice A n c] 41)) 41 (.slice A' n c'); rw [World.size_alloc, World.size_alloc, World.size_alloc] at h; exact (h.alloc _).alloc _
  have b4 : Boxed W (s0 + 1 + 1 + 1 + 1) 3 (.int .i64 n) := by
    rw [eW, es0]; have h := Boxed.new ((((w.alloc (.cells #[.slice none 0 0] 23)).alloc (.cells #[.bool false] 4)).alloc (.cells #[.slice A n c] 41)).alloc (.cells #[.slice A' n c'] 41)) 3 (.int .i64 n); rw [World.size_alloc, World.size_alloc, World.size_alloc, World.size_alloc] at h; exact h.alloc _
  have b5 : Boxed W (s0 + 1 + 1 + 1 + 1 + 1) 42 (.func (.func 93) #[] #[.pointer (some ⟨s0 + 1 + 1, 0, none⟩), .pointer (some ⟨s0 + 1 + 1 + 1, 0, none⟩)]) := by
    rw [eW, es0]; have h := Boxed.new (((((w.alloc (.cells #[.slice none 0 0] 23)).alloc (.cells #[.bool false] 4)).alloc (.cells #[.slice A n c] 41)).alloc (.cells #[.slice A' n c'] 41)).alloc (.cells #[.int .i64 n] 3)) 42 (.func (.func 93) #[] #[.pointer (some ⟨w.heap.size + 1 + 1, 0, none⟩), .pointer (some ⟨w.heap.size + 1 + 1 + 1, 0, none⟩)]); rw [World.size_alloc, World.size_alloc, World.size_alloc, World.size_alloc, World.size_alloc] at h; exact h
  rw [← eW]
  have ES := Lib.hid es0
  have SW := Lib.hid sW
  have hle : s0 ≤ w.heap.size := by omega
  have h2s : 2 ≤ s0 := by omega
  clear eW es0 sW h2
  refine wpIn_names (n := n) (nb := s0 + 1 + 1 + 1 + 1) (fx := s0 + 1 + 1 + 1 + 1 + 1) (fid := 93) (fcap := #[.pointer (some ⟨s0 + 1 + 1, 0, none⟩), .pointer (some ⟨s0 + 1 + 1 + 1, 0, none⟩)]) (fit := fun _ P => fitB L M P)
    h1 h6 (by have := SW.out; omega) rfl (by have := SW.out; omega) b4.cell b4.lt rfl (FiI n s0 A A' c c' w) (FiX s0 w) ?far ?farx (fun s X h => h.2.2.2.2.2.1) (fun s X h => HT.out.below h.2.2.2.2.2.2 (by omega)) (enters_of Tryd.func93 (by kernel_rfl) rfl)
    ?asks ⟨rfl, b0, b1, b2, b3, b5, hBW⟩
    (fun v => { tmps := #[.slice A n c, .slice A' n c', undef, undef, .pointer (some ⟨s0, 0, none⟩), .pointer (some ⟨s0 + 1, 0, none⟩), v, .slice A n c, .int .i64 n, .slice A' n c', .int .i64 n, .bool false, .slice A n c, .slice A' n c',
      .func (.func 74) #[] #[.pointer (some ⟨s0 + 1 + 1 + 1 + 1, 0, none⟩), .pointer (some ⟨s0 + 1 + 1 + 1 + 1 + 1, 0, none⟩)], v, undef, undef], defers := [] }) ?assign ?body ?done ?stop
  case far =>
    rintro acc X Y ⟨q0, q1, q2, q3, q4, q5, q6⟩ hb
    have hs := SW.out
    refine ⟨q0, (hb.block _ (by omega)).trans q1, (hb.block _ (by omega)).trans q2, (hb.block _ (by omega)).trans q3, (hb.block _ (by omega)).trans q4, (hb.block _ (by omega)).trans q5, q6.trans (hb.mono (by omega))⟩
  case farx =>
    rintro cd xs X Y row ⟨q0, P, v, q1, q2, q3, q4, q5⟩ hg hr
    have hs := SW.out
    refine ⟨q0, P, v, q1, q2.kept hg (fun e => by have := (hr _ e.symm).1; omega), ?_, q4.kept hg (fun e => by have := (hr _ e.symm).1; omega), q5.grown hg (by have := q5.size; omega) (fun r e => by have := (hr r e).1; omega)⟩
    refine World.ownsRow.kept q3 hg ?_
    rcases q3.2 with ⟨rfl, _⟩ | ⟨g, cap, cur, rfl, _, hgb, _⟩
    · exact .inl rfl
    · refine .inr fun e => ?_
      have e2 : row = some g := e.symm
      obtain ⟨_, h⟩ := hr g e2
      rcases h with ⟨o, ho, hc⟩ | ⟨u, hu⟩
      · rw [hgb] at ho; cases ho; cases hc
      · have h3 : X.heap[g]? = some (.cells #[u] 4 (0, 0)) := hu
        rw [hgb] at h3
        injection h3 with h3
        injection h3 with _ h4
        exact absurd h4 (by decide)
  case asks =>
    rintro acc P v Z ⟨q0, q1, q2, q3, q4, q5, q6⟩ hr p1 p2 p3
    exact likes_any A A' c c' (s0 + 1 + 1) (s0 + 1 + 1 + 1) n W.heap.size L M HL.out HM.out HN.out HMM.out P v Z hr p1 p2 p3 q3 q4 (SL.out.below (by rw [← ES.out]; exact q6)) (SM.out.below (by rw [← ES.out]; exact q6))
  case assign =>
    intro l v Z K hK
    gi_wp2
    exact hK
  case body =>
    rintro l acc P v Z ⟨q0, q1, q2, q3, q4, q5, q6⟩ hr p1 p2
    subst q0
    have hs := SW.out
    have hZ := q6.size
    have hZW : W.heap.size ≤ Z.heap.size := by have := q5.lt; omega
    have hcl := clone_any W.heap.size v (ints P) (by rw [ints_length]; omega) (by rw [ints_length]; omega) Z hr
    have HCL := Lib.hid hcl
    have Q1 := Lib.hid q1
    have Q2 := Lib.hid q2
    have Q6 := Lib.hid q6
    have P1 := Lib.hid p1
    clear hcl q1 q2 q3 q4 q5 q6 hr p1 p2 b0 b1 b2 b3 b4 b5 hBW hs
    gi_wp2_with (refine ⟨trivial, ?_⟩; gi_at_call 86; refine (CallsIn.inRound l (callsIn_wide.2 HCL.out)).mono ?_; rintro e Z1 ⟨u, rfl, hu, hb⟩
                 have r1 : Boxed Z1 s0 23 (.slice none 0 0) := (hb.block s0 Q1.out.lt).trans Q1.out
                 have r2 : Boxed Z1 (s0 + 1) 4 (.bool false) := (hb.block (s0 + 1) Q2.out.lt).trans Q2.out
                 have y1 := r1.cell
                 have y2 := r1.frozen
                 have y3 := r2.cell
                 have y4 := r2.frozen
                 have y5 : ∀ z, (Z1.setCell ⟨s0, 0, none⟩ z).cell? ⟨s0 + 1, 0, none⟩ = some (.bool false) := fun z => (World.cell?_setCell_other _ _ _ _ (by simp)).trans y3
                 have y6 : ∀ z, (Z1.setCell ⟨s0, 0, none⟩ z).frozen? ⟨s0 + 1, 0, none⟩ = false := fun z => (World.frozen?_setCell _ _ _ _).trans y4
                 obtain ⟨g, cap, rfl⟩ : ∃ g cap, u = .slice (some ⟨g, 0, none⟩) n cap := by
                   rcases hu.2 with ⟨_, h0⟩ | ⟨g, cap, cur, rfl, _⟩
                   · rw [ints_length, P1.out] at h0; omega
                   · exact ⟨g, cap, by rw [ints_length, P1.out]⟩
                 have HU := Lib.hid hu
                 have HB := Lib.hid hb
                 have R1 := Lib.hid r1
                 have R2 := Lib.hid r2
                 clear hu hb r1 r2 y3 y4)
    have hs := SW.out
    have g1 := grownBy_setCell' Z1 s0 (.slice (some ⟨g, 0, none⟩) n cap)
    have g2 := grownBy_setCell' (Z1.setCell ⟨s0, 0, none⟩ (.slice (some ⟨g, 0, none⟩) n cap)) (s0 + 1) (.bool true)
    have hgZ : Z.heap.size ≤ g := by
      rcases HU.out.2 with ⟨h0, _⟩ | ⟨g', cap', cur, h0, h3, _⟩
      · cases h0
      · injection h0 with e1; injection e1 with e1; injection e1 with e1; omega
    refine ⟨?_, ?_, rfl, P, .slice (some ⟨g, 0, none⟩) n cap, rfl, (R1.out.set _).kept g2 (fun e => by injection e; omega), ?_, (R2.out.kept g1 (fun e => by injection e; omega)).set _, ?_⟩
    · refine (KeepsFrom.mk (HB.out.size) (fun k o _ h4 _ => (HB.out.block k (Array.getElem?_eq_some_iff.1 h4).1).trans h4)).trans (((KeepsOthers.setCell _ _ _).from _).trans ((KeepsOthers.setCell _ _ _).from _))
    · refine ⟨Nat.le_trans HB.out.size (Nat.le_trans g1.size g2.size), fun k o hk h4 => ?_⟩
      have h5 := (HB.out.block k (Array.getElem?_eq_some_iff.1 h4).1).trans h4
      have h6 := (g1.block k (Array.getElem?_eq_some_iff.1 h5).1 (fun e => by injection e; omega)).trans h5
      exact (g2.block k (Array.getElem?_eq_some_iff.1 h6).1 (fun e => by injection e; omega)).trans h6
    · have h5 := World.ownsRow.kept HU.out g1 (.inr (fun e => by have e2 : some g = some s0 := e; injection e2; omega))
      have h6 := World.ownsRow.kept h5 g2 (.inr (fun e => by have e2 : some g = some (s0 + 1) := e; injection e2; omega))
      exact Row.mono h6 (by omega)
    · exact ((Q6.out.trans (HB.out.mono (by omega))).setCell (p := ⟨s0, 0, none⟩) (Nat.le_refl _) _).setCell (p := ⟨s0 + 1, 0, none⟩) (by show s0 ≤ s0 + 1; omega) _
  case done =>
    rintro D Z hD ⟨q0, q1, q2, q3, q4, q5, q6⟩ hK
    have y1 := q1.cell
    have y2 := q1.frozen
    have y5 : ∀ z, (Z.setCell ⟨s0, 0, none⟩ z).cell? ⟨s0 + 1, 0, none⟩ = some (.bool false) := fun z => (World.cell?_setCell_other _ _ _ _ (by simp)).trans q2.cell
    have y6 : ∀ z, (Z.setCell ⟨s0, 0, none⟩ z).frozen? ⟨s0 + 1, 0, none⟩ = false := fun z => (World.frozen?_setCell _ _ _ _).trans q2.frozen
    have hs := SW.out
    have g1 := grownBy_setCell' Z s0 (.slice none 0 0)
    have g2 := grownBy_setCell' (Z.setCell ⟨s0, 0, none⟩ (.slice none 0 0)) (s0 + 1) (.bool false)
    have k1 := (g1.block D (Array.getElem?_eq_some_iff.1 hK).1 (fun e => by injection e; omega)).trans hK
    have k2 := (g2.block D (Array.getElem?_eq_some_iff.1 k1).1 (fun e => by injection e; omega)).trans k1
    have gD := grownBy_putObj' ((Z.setCell ⟨s0, 0, none⟩ (.slice none 0 0)).setCell ⟨s0 + 1, 0, none⟩ (.bool false)) D (.deferred none)
    have zc0 := ((((q1.set (.slice none 0 0)).kept g2 (fun e => by injection e; omega))).kept gD (fun e => by injection e; omega)).cell
    have zc1 := ((((q2.kept g1 (fun e => by injection e; omega)).set (.bool false))).kept gD (fun e => by injection e; omega)).cell
    have hB : Below s0 w (((Z.setCell ⟨s0, 0, none⟩ (.slice none 0 0)).setCell ⟨s0 + 1, 0, none⟩ (.bool false)).putObj D (.deferred none)) :=
      ((q6.setCell (p := ⟨s0, 0, none⟩) (Nat.le_refl _) _).setCell (p := ⟨s0 + 1, 0, none⟩) (by show s0 ≤ s0 + 1; omega) _).grown gD (by have := q6.size; have := g1.size; have := g2.size; omega) (fun r e => by cases e; omega)
    have K2 := Lib.hid k2
    have Z0 := Lib.hid zc0
    have Z1' := Lib.hid zc1
    have HB := Lib.hid hB
    have Q0 := Lib.hid q0
    clear k1 k2 zc0 zc1 hB q0 g1 g2 gD q1 q2 q3 q4 q5 q6 hK hs b0 b1 b2 b3 b4 b5 hBW
    gi_wp2
    refine ⟨by simp, .inl ⟨_, _, rfl, run_takeDeferred K2.out, ?_⟩⟩
    have zc0 := Z0.out
    have zc1 := Z1'.out
    refine ⟨.tuple #[.slice none 0 0, .bool false], by simp [results, Tryd.f72, go_sem, zc0, zc1], ?_⟩
    rw [Q0.out]
    exact ⟨_, rfl, World.ownsRow_nil _ w.heap.size 3 1, by rw [← ES.out]; exact HB.out⟩
  case stop =>
    rintro D xs Z hD ⟨t, ht⟩ ⟨_, P, v, rfl, q2, q3, q4, q5⟩ hK
    have hs := SW.out
    have gD := grownBy_putObj' Z D (.deferred none)
    have zc0 := (q2.kept gD (fun e => by injection e; omega)).cell
    have zc1 := (q4.kept gD (fun e => by injection e; omega)).cell
    have hr := ownsRow_putObj q3 (.deferred none) hK rfl
    have hB : Below s0 w (Z.putObj D (.deferred none)) := q5.grown gD (by have := q5.size; omega) (fun r e => by cases e; omega)
    clear b0 b1 b2 b3 b4 b5 hBW
    gi_wp2
    refine ⟨by simp, .inl ⟨_, _, rfl, run_takeDeferred hK, ?_⟩⟩
    refine ⟨.tuple #[v, .bool true], by simp [results, Tryd.f72, go_sem, zc0, zc1], ?_⟩
    rw [← ht]
    exact ⟨_, rfl, by rw [← ES.out]; exact hr, by rw [← ES.out]; exact hB⟩
#print axioms firstLike_in
end Go.Proofs.YtamabhdbcmjbjaaDoor
