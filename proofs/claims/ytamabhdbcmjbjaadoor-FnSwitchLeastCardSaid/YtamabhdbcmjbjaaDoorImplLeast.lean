/- The program's least code, by a search over the names. -/
import Derived.Test.YtamabhdbcmjbjaaDoorLikeMath
import Derived.Test.YtamabhdbcmjbjaaDoorCopy
import Derived.Test.YtamabhdbcmjbjaaDoorBaseA
import Derived.Test.YtamabhdbcmjbjaaDoorLesser
namespace Go.Proofs.YtamabhdbcmjbjaaDoor
open Go Go.RowKit Go.Shelf
attribute [local go_sem] Oper.semAt_some
set_option linter.unusedVariables false
set_option maxRecDepth 100000

def LeI (n s0 p : Nat) (A : Option Addr) (c : Nat) (L : List Int) (w : World) (acc : List (List Nat)) (Z : World) : Prop :=
  Boxed Z s0 41 (.slice A n c) ∧ Boxed Z p 3 (.int .i64 (bestOf L acc : Nat)) ∧ Boxed Z (p + 1 + 1) 42 (.func (.func 56) #[] #[.pointer (some ⟨s0, 0, none⟩), .pointer (some ⟨p, 0, none⟩)]) ∧ Below s0 w Z

set_option maxHeartbeats 4000000 in
theorem implLeast_big (A : Option Addr) (c : Nat) (L : List Int) (hL : IsGraph L) (w : World) (sL : Seen w A L) (hT : Tab w) :
    CallsIn Fence.wide 12 Tryd.prog 28 #[.slice A L.length c] w (fun e w' => NumA w (leastL L) e w' ∧ w.heap.size + 4 ≤ w'.heap.size) := by
  have h1 := hL.1
  have h6 := hL.2.1
  have h2 := hT.lt
  have hsl := search_least hL
  obtain ⟨s0, es0⟩ : ∃ s0, s0 = w.heap.size := ⟨_, rfl⟩
  have g0 : Boxed (w.alloc (.cells #[.slice A L.length c] 41)) s0 41 (.slice A L.length c) := by rw [es0]; exact Boxed.new w _ _
  have gB : Below s0 w (w.alloc (.cells #[.slice A L.length c] 41)) := by rw [es0]; exact (Below.refl _ w).alloc (Nat.le_refl _) _
  have HC0 := Lib.hid (callsIn_wide.1 (implCode_in A c L hL (w.alloc (.cells #[.slice A L.length c] 41)) (sL.below (by rw [← es0]; exact gB))))
  obtain ⟨x0, ex0⟩ : ∃ x0, x0 = codeOf L := ⟨_, rfl⟩
  rw [← ex0] at HC0
  have EX0 := Lib.hid ex0
  obtain ⟨n, hn⟩ : ∃ n, n = L.length := ⟨_, rfl⟩
  rw [← hn] at h1 h6 hsl g0 gB HC0 ⊢
  have HL := Lib.hid hL
  have HN := Lib.hid hn
  have SL := Lib.hid sL
  have HT := Lib.hid hT
  have HSL := Lib.hid hsl
  have G0 := Lib.hid g0
  have GB := Lib.hid gB
  have y0 := g0.cell
  rw [es0] at y0
  clear hL hn sL hT hsl ex0 g0 gB
  refine callsIn_of_wp_marks Tryd.func28 rfl trivial ?_ rfl
  simp only [Tryd.ntmps28, List.size_toArray, List.length_cons, List.length_nil, Nat.reduceAdd, Nat.reduceSub, Array.replicate_succ, Array.replicate_zero, List.push_toArray, List.append_toArray, List.nil_append, List.cons_append]
  have hmf : ∀ (fn : Fn) (first cap : Array Value) (w : World), (Instr.makeFunc fn first cap).run Tryd.prog w = .ok (.func fn first cap) w := fun _ _ _ _ => rfl
  gi_wp2_with (first
    | (refine ⟨trivial, ?_⟩; gi_at_call 39; refine (callsIn_wide.2 HC0.out).mono ?_; rintro e w1 ⟨rfl, hb1⟩
       have g1 : Boxed w1 s0 41 (.slice A n c) := (hb1.block s0 G0.out.lt).trans G0.out
       have k1 : w1.cell? ⟨w.heap.size, 0, none⟩ = some (.slice A n c) := by rw [← es0]; exact g1.cell
       have k2 : ∀ o, (w1.alloc o).cell? ⟨w.heap.size, 0, none⟩ = some (.slice A n c) := fun o => by rw [← es0]; exact (g1.alloc o).cell
       have G1 := Lib.hid g1
       have GB1 := Lib.hid (GB.out.trans (hb1.mono (by have := G0.out.lt; omega))))
    | (refine ⟨trivial, ?_⟩; gi_at_call 58; refine (callsIn_wide.2 (namings_any _ _ _ _)).mono ?_; rintro e w' ⟨rfl, rfl⟩))
  obtain ⟨p, ep⟩ : ∃ p, p = w1.heap.size := ⟨_, rfl⟩
  rw [← es0, ← ep]
  have hp : s0 < p := by rw [ep]; exact G1.out.lt
  obtain ⟨W, eW⟩ : ∃ W, W = ((w1.alloc (.cells #[.int .i64 (x0 : Nat)] 3)).alloc (.cells #[.int .i64 n] 3)).alloc (.cells #[(.func (.func 56) #[] #[.pointer (some ⟨s0, 0, none⟩), .pointer (some ⟨p, 0, none⟩)])] 42) := ⟨_, rfl⟩
  have sW : W.heap.size = p + 3 := by rw [eW, ep]; simp
  have hBW : Below s0 w W := by
    rw [eW]
    refine Below.alloc (Below.alloc (Below.alloc GB1.out ?_ _) ?_ _) ?_ _ <;> (first | omega | (simp <;> omega))
  have b0 : Boxed W s0 41 (.slice A n c) := by rw [eW]; exact ((G1.out.alloc _).alloc _).alloc _
  have b1 : Boxed W p 3 (.int .i64 (bestOf L [] : Nat)) := by
    rw [eW, ep, bestOf_nil, ← EX0.out]; exact ((Boxed.new w1 _ _).alloc _).alloc _
  have b2 : Boxed W (p + 1) 3 (.int .i64 n) := by
    rw [eW, ep]; have h := Boxed.new (w1.alloc (.cells #[.int .i64 (x0 : Nat)] 3)) 3 (.int .i64 n); rw [World.size_alloc] at h; exact h.alloc _
  have b3 : Boxed W (p + 1 + 1) 42 (.func (.func 56) #[] #[.pointer (some ⟨s0, 0, none⟩), .pointer (some ⟨p, 0, none⟩)]) := by
    rw [eW, ep]; have h := Boxed.new ((w1.alloc (.cells #[.int .i64 (x0 : Nat)] 3)).alloc (.cells #[.int .i64 n] 3)) 42 (.func (.func 56) #[] #[.pointer (some ⟨s0, 0, none⟩), .pointer (some ⟨w1.heap.size, 0, none⟩)]); rw [World.size_alloc, World.size_alloc] at h; exact h
  rw [← eW]
  have ES := Lib.hid es0
  have SW := Lib.hid sW
  have hle : s0 ≤ w.heap.size := by omega
  have h2s : 2 ≤ s0 := by omega
  clear eW es0 sW h2 ep g1 k1 k2 hb1 y0 G0 GB HC0
  refine wpIn_names (n := n) (nb := p + 1) (fx := p + 1 + 1) (fid := 56) (fcap := #[.pointer (some ⟨s0, 0, none⟩), .pointer (some ⟨p, 0, none⟩)]) (fit := fitD L)
    h1 h6 (by have := SW.out; omega) rfl (by have := SW.out; omega) b2.cell b2.lt rfl (LeI n s0 p A c L w) (fun _ _ _ => False) ?far ?farx (fun s X h => h.2.2.1) (fun s X h => HT.out.below h.2.2.2 (by omega)) (enters_of Tryd.func56 (by kernel_rfl) rfl)
    ?asks ⟨b0, b1, b3, hBW⟩
    (fun v => { tmps := #[.slice A n c, .pointer (some ⟨s0, 0, none⟩), .int .i64 0, .pointer (some ⟨p, 0, none⟩), .func (.func 56) #[] #[.pointer (some ⟨s0, 0, none⟩), .pointer (some ⟨p, 0, none⟩)], v, .slice A n c, .int .i64 (x0 : Nat),
      .func (.func 56) #[] #[.pointer (some ⟨s0, 0, none⟩), .pointer (some ⟨p, 0, none⟩)], .slice A n c, .int .i64 n, .func (.func 56) #[] #[.pointer (some ⟨s0, 0, none⟩), .pointer (some ⟨p, 0, none⟩)],
      .func (.func 74) #[] #[.pointer (some ⟨p + 1, 0, none⟩), .pointer (some ⟨p + 1 + 1, 0, none⟩)], v, undef, undef, undef, undef], defers := [] }) ?assign ?body ?done ?stop
  case far =>
    rintro acc X Y ⟨q0, q1, q2, q3⟩ hb
    have hs := SW.out
    exact ⟨(hb.block _ (by omega)).trans q0, (hb.block _ (by omega)).trans q1, (hb.block _ (by omega)).trans q2, q3.trans (hb.mono (by omega))⟩
  case farx =>
    rintro cd xs X Y row h hg hr
    exact h
  case asks =>
    rintro acc P v Z ⟨q0, q1, q2, q3⟩ hr p1 p2 p3
    rw [HN.out] at q0 p2 p3
    exact (lesser_any A c s0 p W.heap.size (bestOf L acc) L HL.out P v Z hr p1 p2 p3 q0 q1 (SL.out.below (by rw [← ES.out]; exact q3))).mono fun e w' ⟨he, hb⟩ => ⟨he, hb.mono (by have := q2.lt; have := SW.out; omega)⟩
  case assign =>
    intro l v Z K hK
    gi_wp2
    exact hK
  case body =>
    rintro l acc P v Z ⟨q0, q1, q2, q3⟩ hr p1 p2
    have hs := SW.out
    have hZ := q3.size
    have hZW : W.heap.size ≤ Z.heap.size := by have := q2.lt; omega
    have hcd := codeDown_row A c L HL.out W.heap.size v P (by omega) (by rw [← HN.out]; omega) (by rw [← HN.out]; exact p2) Z (SL.out.below (by rw [← ES.out]; exact q3)) hr
    rw [← HN.out] at hcd
    obtain ⟨x, ex⟩ : ∃ x, x = downC L P := ⟨_, rfl⟩
    rw [← ex] at hcd
    have EX := Lib.hid ex
    have HCD := Lib.hid hcd
    have y0 := q0.cell
    have Q0 := Lib.hid q0
    have Q1 := Lib.hid q1
    have Q2 := Lib.hid q2
    have Q3 := Lib.hid q3
    clear hcd ex q0 q1 q2 q3 hr p1 p2 b0 b1 b2 b3 hBW
    gi_wp2_with (refine ⟨trivial, ?_⟩; gi_at_call 57; refine (CallsIn.inRound l (callsIn_wide.2 HCD.out)).mono ?_; rintro e Z1 ⟨rfl, hb⟩
                 have r1 : Boxed Z1 p 3 (.int .i64 (bestOf L acc : Nat)) := (hb.block p Q1.out.lt).trans Q1.out
                 have y1 := r1.cell
                 have y2 := r1.frozen
                 have R1 := Lib.hid r1
                 have HB := Lib.hid hb
                 clear r1 hb)
    have g2 := grownBy_setCell' Z1 p (.int .i64 (x : Nat))
    have hB2 : Below 2 Z (Z1.setCell ⟨p, 0, none⟩ (.int .i64 (x : Nat))) := (HB.out.mono (by omega)).setCell (p := ⟨p, 0, none⟩) (by show 2 ≤ p; omega) _
    refine ⟨?_, ?_, hB2, ?_⟩
    · exact (KeepsFrom.mk (HB.out.size) (fun k o _ h4 _ => (HB.out.block k (Array.getElem?_eq_some_iff.1 h4).1).trans h4)).trans ((KeepsOthers.setCell _ _ _).from _)
    · refine ⟨Nat.le_trans HB.out.size g2.size, fun k o hk h4 => ?_⟩
      have h5 := (HB.out.block k (Array.getElem?_eq_some_iff.1 h4).1).trans h4
      exact (g2.block k (Array.getElem?_eq_some_iff.1 h5).1 (fun e => by injection e; omega)).trans h5
    · refine ⟨(show Boxed Z1 s0 41 (.slice A n c) from (HB.out.block _ Q0.out.lt).trans Q0.out).kept g2 (fun e => by injection e; omega), ?_, (show Boxed Z1 (p + 1 + 1) 42 (.func (.func 56) #[] #[.pointer (some ⟨s0, 0, none⟩), .pointer (some ⟨p, 0, none⟩)]) from (HB.out.block _ Q2.out.lt).trans Q2.out).kept g2 (fun e => by injection e; omega), (Q3.out.trans (HB.out.mono (by omega))).setCell (p := ⟨p, 0, none⟩) (by show s0 ≤ p; omega) _⟩
      rw [bestOf_snoc, ← EX.out]
      exact R1.out.set _
  case done =>
    rintro D Z hD ⟨q0, q1, q2, q3⟩ hK
    rw [HSL.out] at q1
    have y1 := q1.cell
    have hs := SW.out
    have gD := grownBy_putObj' Z D (.deferred none)
    have hB : Below s0 w (Z.putObj D (.deferred none)) := q3.grown gD (by have := q3.size; omega) (fun r e => by cases e; omega)
    have HB := Lib.hid hB
    have KK := Lib.hid hK
    have hbig : w.heap.size + 4 ≤ (Z.putObj D (.deferred none)).heap.size := by
      have hk1 := (Array.getElem?_eq_some_iff.1 hK).1
      have hk2 := gD.size
      have hk3 := ES.out
      omega
    have HBIG := Lib.hid hbig
    clear hbig
    obtain ⟨x, ex⟩ : ∃ x, x = leastL L := ⟨_, rfl⟩
    rw [← ex] at y1
    have EX := Lib.hid ex
    clear ex q0 q1 q2 q3 hK hB gD hs b0 b1 b2 b3 hBW
    gi_wp2
    refine ⟨by simp, .inl ⟨_, _, rfl, run_takeDeferred KK.out, ?_⟩⟩
    refine ⟨_, results_tmp rfl _ _ _, ?_⟩
    exact ⟨⟨by rw [← EX.out]; rfl, by rw [← ES.out]; exact HB.out⟩, HBIG.out⟩
  case stop =>
    rintro D xs Z hD _ h hK
    exact h.elim
theorem implLeast_in (A : Option Addr) (c : Nat) (L : List Int) (hL : IsGraph L) (w : World) (sL : Seen w A L) (hT : Tab w) :
    CallsIn Fence.wide 12 Tryd.prog 28 #[.slice A L.length c] w (NumA w (leastL L)) := (implLeast_big A c L hL w sL hT).mono fun _ _ h => h.1
end Go.Proofs.YtamabhdbcmjbjaaDoor
