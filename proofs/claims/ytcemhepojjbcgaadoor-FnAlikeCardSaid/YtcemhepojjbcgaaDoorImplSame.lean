/- The program's number of automorphisms, by a range over the names. -/
import Derived.Test.YtcemhepojjbcgaaDoorBaseL
import Derived.Test.YtcemhepojjbcgaaDoorBaseA
import Derived.Test.YtcemhepojjbcgaaDoorBaseE
namespace Go.Proofs.YtcemhepojjbcgaaDoor
open Go.RowKit Go.Shelf
attribute [local go_sem] Oper.semAt_some
set_option linter.unusedVariables false
set_option maxRecDepth 100000

def SaI (n s0 : Nat) (A : Option Addr) (c : Nat) (w : World) (acc : List (List Nat)) (Z : World) : Prop :=
  Boxed Z s0 3 (.int .i64 (wrap64 (acc.length : Nat))) ∧ Boxed Z (s0 + 1) 41 (.slice A n c) ∧ Boxed Z (s0 + 1 + 1) 41 (.slice A n c) ∧
    Boxed Z (s0 + 1 + 1 + 1 + 1) 38 (.func (.func 125) #[] #[.pointer (some ⟨s0 + 1, 0, none⟩), .pointer (some ⟨s0 + 1 + 1, 0, none⟩)]) ∧ Below s0 w Z

set_option maxHeartbeats 4000000 in
theorem implSame_in (A : Option Addr) (c : Nat) (L : List Int) (hL : IsGraph L) (hk : (likeL L L).length ≤ 1000000) (w : World) (sL : Seen w A L) (hT : Tab w) :
    CallsIn Fence.wide 12 Tryd.prog 80 #[.slice A L.length c] w (NumA w (likeL L L).length) := by
  have h1 := hL.1
  have h6 := hL.2.1
  have h2 := hT.lt
  obtain ⟨n, hn⟩ : ∃ n, n = L.length := ⟨_, rfl⟩
  have hdef : likeL L L = allNames (fun _ P => fitB L L P) n := by rw [hn]; rfl
  rw [hdef] at hk ⊢
  rw [← hn]
  rw [← hn] at h1 h6
  have HL := Lib.hid hL
  have HN := Lib.hid hn
  have SL := Lib.hid sL
  have HT := Lib.hid hT
  have HK := Lib.hid hk
  clear hL hn sL hT hdef hk
  refine callsIn_of_wp_marks Tryd.func80 rfl trivial ?_ rfl
  simp only [Tryd.ntmps80, List.size_toArray, List.length_cons, List.length_nil, Nat.reduceAdd, Nat.reduceSub, Array.replicate_succ, Array.replicate_zero, List.push_toArray, List.append_toArray, List.nil_append, List.cons_append]
  gi_wp2_with (refine ⟨trivial, ?_⟩; gi_at_call 102; refine (callsIn_wide.2 (likenesses_any _ _ _ _ _ _ _)).mono ?_; rintro e w' ⟨rfl, rfl⟩)
  obtain ⟨s0, es0⟩ : ∃ s0, s0 = w.heap.size := ⟨_, rfl⟩
  rw [← es0]
  obtain ⟨W, eW⟩ : ∃ W, W = ((((w.alloc (.cells #[.int .i64 0] 3)).alloc (.cells #[.slice A n c] 41)).alloc (.cells #[.slice A n c] 41)).alloc (.cells #[.int .i64 n] 3)).alloc (.cells #[(.func (.func 125) #[] #[.pointer (some ⟨s0 + 1, 0, none⟩), .pointer (some ⟨s0 + 1 + 1, 0, none⟩)])] 38) := ⟨_, rfl⟩
  have sW : W.heap.size = s0 + 5 := by rw [eW, es0]; simp
  have hBW : Below s0 w W := by
    rw [eW, es0]
    refine Below.alloc (Below.alloc (Below.alloc (Below.alloc (Below.alloc (Below.refl _ w) (Nat.le_refl _) _) ?_ _) ?_ _) ?_ _) ?_ _ <;> (simp <;> omega)
  have b0 : Boxed W s0 3 (.int .i64 0) := by rw [eW, es0]; exact ((((Boxed.new w _ _).alloc _).alloc _).alloc _).alloc _
  have b1 : Boxed W (s0 + 1) 41 (.slice A n c) := by
    rw [eW, es0]; have h := Boxed.new (w.alloc (.cells #[.int .i64 0] 3)) 41 (.slice A n c); rw [World.size_alloc] at h; exact ((h.alloc _).alloc _).alloc _
  have b2 : Boxed W (s0 + 1 + 1) 41 (.slice A n c) := by
    rw [eW, es0]; have h := Boxed.new ((w.alloc (.cells #[.int .i64 0] 3)).alloc (.cells #[.slice A n c] 41)) 41 (.slice A n c); rw [World.size_alloc, World.size_alloc] at h; exact (h.alloc _).alloc _
  have b3 : Boxed W (s0 + 1 + 1 + 1) 3 (.int .i64 n) := by
    rw [eW, es0]; have h := Boxed.new (((w.alloc (.cells #[.int .i64 0] 3)).alloc (.cells #[.slice A n c] 41)).alloc (.cells #[.slice A n c] 41)) 3 (.int .i64 n); rw [World.size_alloc, World.size_alloc, World.size_alloc] at h; exact h.alloc _
  have b4 : Boxed W (s0 + 1 + 1 + 1 + 1) 38 (.func (.func 125) #[] #[.pointer (some ⟨s0 + 1, 0, none⟩), .pointer (some ⟨s0 + 1 + 1, 0, none⟩)]) := by
    rw [eW, es0]; have h := Boxed.new ((((w.alloc (.cells #[.int .i64 0] 3)).alloc (.cells #[.slice A n c] 41)).alloc (.cells #[.slice A n c] 41)).alloc (.cells #[.int .i64 n] 3)) 38 (.func (.func 125) #[] #[.pointer (some ⟨w.heap.size + 1, 0, none⟩), .pointer (some ⟨w.heap.size + 1 + 1, 0, none⟩)]); rw [World.size_alloc, World.size_alloc, World.size_alloc, World.size_alloc] at h; exact h
  rw [← eW]
  have ES := Lib.hid es0
  have SW := Lib.hid sW
  have hle : s0 ≤ w.heap.size := by omega
  have h2s : 2 ≤ s0 := by omega
  clear eW es0 sW h2
  refine wpIn_names (n := n) (nb := s0 + 1 + 1 + 1) (fx := s0 + 1 + 1 + 1 + 1) (fid := 125) (fcap := #[.pointer (some ⟨s0 + 1, 0, none⟩), .pointer (some ⟨s0 + 1 + 1, 0, none⟩)]) (fit := fun _ P => fitB L L P)
    h1 h6 (by have := SW.out; omega) rfl (by have := SW.out; omega) b3.cell b3.lt rfl (SaI n s0 A c w) (fun _ _ _ => False) ?far ?farx (fun s X h => h.2.2.2.1) (fun s X h => HT.out.below h.2.2.2.2 (by omega)) (enters_of Tryd.func125 (by kernel_rfl) rfl)
    ?asks ⟨by rw [show wrap64 (([] : List (List Nat)).length : Nat) = 0 by unfold wrap64; simp]; exact b0, b1, b2, b4, hBW⟩
    (fun v => { tmps := #[.slice A n c, undef, .int .i64 0, .pointer (some ⟨s0, 0, none⟩), .slice A n c, .slice A n c,
      .func (.func 130) #[] #[.pointer (some ⟨s0 + 1 + 1 + 1, 0, none⟩), .pointer (some ⟨s0 + 1 + 1 + 1 + 1, 0, none⟩)], v, undef, undef, undef], defers := [] }) ?assign ?body ?done ?stop
  case far =>
    rintro acc X Y ⟨q1, q2, q3, q5, q6⟩ hb
    have hs := SW.out
    exact ⟨(hb.block _ (by omega)).trans q1, (hb.block _ (by omega)).trans q2, (hb.block _ (by omega)).trans q3, (hb.block _ (by omega)).trans q5, q6.trans (hb.mono (by omega))⟩
  case farx =>
    rintro cd xs X Y row h hg hr
    exact h
  case asks =>
    rintro acc P v Z ⟨q1, q2, q3, q5, q6⟩ hr p1 p2 p3
    exact likes_any A A c c (s0 + 1) (s0 + 1 + 1) n W.heap.size L L HL.out HL.out HN.out HN.out P v Z hr p1 p2 p3 q2 q3 (SL.out.below (by rw [← ES.out]; exact q6)) (SL.out.below (by rw [← ES.out]; exact q6))
  case assign =>
    intro l v Z K hK
    gi_wp2
    simpa using hK
  case body =>
    rintro l acc P v Z ⟨q1, q2, q3, q5, q6⟩ hr p1 p2
    have hs := SW.out
    have hZ := q6.size
    have y1 := q1.cell
    have y2 := q1.frozen
    have hw := wrap_next (acc.length : Nat)
    have Q1 := Lib.hid q1
    have Q2 := Lib.hid q2
    have Q3 := Lib.hid q3
    have Q5 := Lib.hid q5
    have Q6 := Lib.hid q6
    obtain ⟨x, ex⟩ : ∃ x, x = wrap64 (acc.length : Nat) := ⟨_, rfl⟩
    rw [← ex] at y1 hw
    have HW := Lib.hid hw
    clear hw ex q1 q2 q3 q5 q6 hr p1 p2 b0 b1 b2 b3 b4 hBW
    gi_wp2
    have g1 := grownBy_setCell' Z s0 (.int .i64 (wrap64 (x + 1)))
    refine ⟨(KeepsOthers.setCell _ _ _).from _, ⟨g1.size, fun k o hk h => (g1.block k (Array.getElem?_eq_some_iff.1 h).1 (fun e => by injection e; omega)).trans h⟩, (Below.refl 2 Z).grown g1 (by have := Q6.out.size; omega) (fun r e => by injection e; omega), ?_⟩
    refine ⟨?_, Q2.out.kept g1 (fun e => by injection e; omega), Q3.out.kept g1 (fun e => by injection e; omega), Q5.out.kept g1 (fun e => by injection e; omega), Q6.out.setCell (p := ⟨s0, 0, none⟩) (Nat.le_refl _) _⟩
    have e1 : wrap64 ((acc ++ [P]).length : Nat) = wrap64 (x + 1) := by rw [HW.out, List.length_append]; simp
    rw [e1]
    exact Q1.out.set _
  case done =>
    rintro D Z hD ⟨q1, q2, q3, q5, q6⟩ hK
    rw [wrap_small _ HK.out] at q1
    have y1 := q1.cell
    have hs := SW.out
    have gD := grownBy_putObj' Z D (.deferred none)
    have hB : Below s0 w (Z.putObj D (.deferred none)) := q6.grown gD (by have := q6.size; omega) (fun r e => by cases e; omega)
    have HB := Lib.hid hB
    have KK := Lib.hid hK
    obtain ⟨x, ex⟩ : ∃ x, x = (allNames (fun _ P => fitB L L P) n).length := ⟨_, rfl⟩
    rw [← ex] at y1
    have EX := Lib.hid ex
    clear ex q1 q2 q3 q5 q6 hK hB gD hs b0 b1 b2 b3 b4 hBW
    gi_wp2
    refine ⟨by simp, .inl ⟨_, _, rfl, run_takeDeferred KK.out, ?_⟩⟩
    refine ⟨_, results_tmp rfl _ _ _, ?_⟩
    exact ⟨by rw [← EX.out]; rfl, by rw [← ES.out]; exact HB.out⟩
  case stop =>
    rintro D xs Z hD _ h hK
    exact h.elim
#print axioms implSame_in
end Go.Proofs.YtcemhepojjbcgaaDoor
