/- The program's nearest: the first names by which a graph comes as near as it can, and their distance. -/
import Derived.Test.YtamabhdbcmjbjaaDoorNearerFn
import Derived.Test.YtamabhdbcmjbjaaDoorHeldOne
import Derived.Test.YtamabhdbcmjbjaaDoorCloneI
import Derived.Test.YtamabhdbcmjbjaaDoorCollect
import Derived.Test.YtamabhdbcmjbjaaDoorLikeMath
namespace Go.Proofs.YtamabhdbcmjbjaaDoor
open Go Go.RowKit Go.Shelf
attribute [local go_sem] Oper.semAt_some
set_option linter.unusedVariables false
set_option maxRecDepth 100000

/-- Names and their distance. -/
def GaveN (w : World) (P : List Nat) (d : Nat) (e : Ending) (w' : World) : Prop := ∃ v, e = .returned (.tuple #[v, .int .i64 (d : Nat)]) ∧ Row w' w.heap.size v (ints P) ∧ Below w.heap.size w w'
def NeI (n s0 p q fx m : Nat) (A A' : Option Addr) (c c' : Nat) (L M : List Int) (w : World) (acc : List (List Nat)) (Z : World) : Prop :=
  Boxed Z s0 41 (.slice A n c) ∧ Boxed Z (s0 + 1) 41 (.slice A' n c') ∧ Boxed Z q 3 (.int .i64 (unlike L M (bestN L acc) : Nat)) ∧
    Boxed Z fx 42 (.func (.func 85) #[] #[.pointer (some ⟨s0, 0, none⟩), .pointer (some ⟨s0 + 1, 0, none⟩), .pointer (some ⟨q, 0, none⟩)]) ∧
    (∃ v, Boxed Z p 23 v ∧ Row Z s0 v (ints (bestN L acc)) ∧ ∀ g, v.ownBlock = some g → s0 + 2 < g ∧ g ≠ p ∧ g ≠ q ∧ (g < m ∨ (g ≠ m + 3 ∧ g ≠ m + 4))) ∧ Below s0 w Z

set_option maxHeartbeats 8000000 in
theorem nearest_in (A A' : Option Addr) (c c' : Nat) (L M : List Int) (hL : IsGraph L) (hM : IsGraph M) (hlm : L.length = M.length) (w : World) (sL : Seen w A L) (sM : Seen w A' M) (hT : Tab w) :
    CallsIn Fence.wide 12 Tryd.prog 69 #[.slice A L.length c, .slice A' M.length c'] w (GaveN w (nearN L M) (unlike L M (nearN L M))) := by
  have h1 := hL.1
  have h6 := hL.2.1
  have h2 := hT.lt
  have hsn := search_near (M := M) hL
  have hpn : (List.range L.length).length = L.length := by simp
  have hpx : ∀ x ∈ List.range L.length, x < L.length := fun x hx => List.mem_range.1 hx
  rw [← hlm]
  obtain ⟨s0, es0⟩ : ∃ s0, s0 = w.heap.size := ⟨_, rfl⟩
  obtain ⟨n, hn⟩ : ∃ n, n = L.length := ⟨_, rfl⟩
  have hp := two_pos n
  obtain ⟨Q, hQ⟩ : ∃ Q, Q + 1 = 2 ^ n := ⟨2 ^ n - 1, by omega⟩
  have hQn : nodesL Q = List.range L.length := by
    have e2 : Q = 2 ^ n - 1 := by omega
    have e3 := full_comp ⟨n, by omega⟩
    dsimp only at e3
    rw [e2, e3, hn]
  obtain ⟨w1, ew1⟩ : ∃ w1, w1 = ((w.alloc (.cells #[.slice A n c] 41)).alloc (.cells #[.slice A' n c'] 41)).alloc (.cells #[.int .i64 (Q : Nat)] 3) := ⟨_, rfl⟩
  have s1 : w1.heap.size = s0 + 1 + 1 + 1 := by rw [ew1, es0]; simp
  have hB1 : Below s0 w w1 := by rw [ew1, es0]; exact (((Below.refl _ w).alloc (Nat.le_refl _) _).alloc (by simp) _).alloc (by simp <;> omega) _
  have x0 : Boxed w1 s0 41 (.slice A n c) := by rw [ew1, es0]; exact ((Boxed.new w _ _).alloc _).alloc _
  have x1 : Boxed w1 (s0 + 1) 41 (.slice A' n c') := by
    rw [ew1, es0]; have h := Boxed.new (w.alloc (.cells #[.slice A n c] 41)) 41 (.slice A' n c'); rw [World.size_alloc] at h; exact h.alloc _
  have x2 : w1.cell? ⟨s0 + 1 + 1, 0, none⟩ = some (.int .i64 (Q : Nat)) := by
    rw [ew1, es0]; have h := Boxed.new ((w.alloc (.cells #[.slice A n c] 41)).alloc (.cells #[.slice A' n c'] 41)) 3 (.int .i64 (Q : Nat)); rw [World.size_alloc, World.size_alloc] at h; exact h.cell
  have hT1 : Tab w1 := hT.below hB1 (by omega)
  have HCO := Lib.hid (collect_any (s0 + 1 + 1) n Q (by omega) (by omega) w1 (by omega) x2 hT1)
  rw [hQn] at HCO
  have y0 : ((w.alloc (.cells #[.slice A n c] 41)).alloc (.cells #[.slice A' n c'] 41)).cell? ⟨w.heap.size, 0, none⟩ = some (.slice A n c) := ((Boxed.new w _ _).alloc _).cell
  rw [← hn] at h1 h6 ⊢
  have HL := Lib.hid hL
  have HM := Lib.hid hM
  have HLM := Lib.hid hlm
  have HN := Lib.hid hn
  have SL := Lib.hid sL
  have SM := Lib.hid sM
  have HT := Lib.hid hT
  have HSN := Lib.hid hsn
  have HQ := Lib.hid hQ
  have EW1 := Lib.hid ew1
  have ES := Lib.hid es0
  have S1 := Lib.hid s1
  have B1 := Lib.hid hB1
  have X0 := Lib.hid x0
  have X1 := Lib.hid x1
  have h2s : 2 ≤ s0 := by omega
  have hle : s0 ≤ w.heap.size := by omega
  have hpn2 := Lib.hid hpn
  have hpx2 := Lib.hid hpx
  clear hL hM hlm hn sL sM hT hsn hp hQ hQn ew1 es0 s1 hB1 x0 x1 x2 hT1 hpn hpx h2
  refine callsIn_of_wp_marks Tryd.func69 rfl trivial ?_ rfl
  simp only [Tryd.ntmps69, List.size_toArray, List.length_cons, List.length_nil, Nat.reduceAdd, Nat.reduceSub, Array.replicate_succ, Array.replicate_zero, List.push_toArray, List.append_toArray, List.nil_append, List.cons_append]
  have hmf : ∀ (fn : Fn) (first cap : Array Value) (w : World), (Instr.makeFunc fn first cap).run Tryd.prog w = .ok (.func fn first cap) w := fun _ _ _ _ => rfl
  gi_wp2_with (first
    | (refine ⟨trivial, ?_⟩; gi_at_call 52; refine (callsIn_wide.2 (nodes_any _ n c Q h6 HQ.out _)).mono ?_; rintro e w' ⟨rfl, rfl⟩)
    | (refine ⟨trivial, ?_⟩; gi_at_call 83; rw [← EW1.out]; rw [show w.heap.size + 1 + 1 = s0 + 1 + 1 by rw [ES.out]]; refine (callsIn_wide.2 HCO.out).mono ?_; rintro e w2 ⟨v0, rfl, r0, b2⟩
       obtain ⟨g0, cap0, rfl⟩ : ∃ g cap, v0 = .slice (some ⟨g, 0, none⟩) n cap := by
         rcases r0.2 with ⟨_, h0⟩ | ⟨g, cap, cur, h0, _⟩
         · rw [ints_length, hpn2.out] at h0; have := HN.out; omega
         · exact ⟨g, cap, by rw [h0, ints_length, hpn2.out, ← HN.out]⟩
       have R0 := Lib.hid r0
       have B2 := Lib.hid b2
       have k0 : Boxed w2 s0 41 (.slice A n c) := (b2.block s0 X0.out.lt).trans X0.out
       have k1 : Boxed w2 (s0 + 1) 41 (.slice A' n c') := (b2.block (s0 + 1) X1.out.lt).trans X1.out
       have q0 : ∀ o, (w2.alloc o).cell? ⟨w.heap.size, 0, none⟩ = some (.slice A n c) := fun o => by rw [← ES.out]; exact (k0.alloc o).cell
       have q1 : ∀ o, (w2.alloc o).cell? ⟨w.heap.size + 1, 0, none⟩ = some (.slice A' n c') := fun o => by rw [← ES.out]; exact (k1.alloc o).cell
       have hBA : Below s0 w (w2.alloc (.cells #[.slice (some ⟨g0, 0, none⟩) n cap0] 23)) := (B1.out.trans (b2.mono (by rw [S1.out]; omega))).alloc (by have := b2.size; rw [S1.out] at this; omega) _
       have HUN := Lib.hid (unlike_row A A' c c' L M HL.out HM.out HLM.out w1.heap.size (.slice (some ⟨g0, 0, none⟩) n cap0) (List.range L.length) (by rw [hpn2.out, ← HN.out]; exact h1) (by rw [hpn2.out]; exact Nat.le_refl _) hpx2.out _ (SL.out.below (by rw [← ES.out]; exact hBA)) (SM.out.below (by rw [← ES.out]; exact hBA)) (r0.alloc (.cells #[.slice (some ⟨g0, 0, none⟩) n cap0] 23)))
       rw [← HN.out] at HUN
       have K0 := Lib.hid k0
       have K1 := Lib.hid k1
       have HBA := Lib.hid hBA
       clear r0 b2 k0 k1 hBA)
    | (refine ⟨trivial, ?_⟩; gi_at_call 84; refine (callsIn_wide.2 HUN.out).mono ?_; rintro e w3 ⟨rfl, b3⟩
       have k0 : Boxed w3 s0 41 (.slice A n c) := (b3.block s0 (K0.out.alloc _).lt).trans (K0.out.alloc _)
       have y3 : ∀ o, (w3.alloc o).cell? ⟨w.heap.size, 0, none⟩ = some (.slice A n c) := fun o => by rw [← ES.out]; exact (k0.alloc o).cell
       have B3 := Lib.hid b3
       clear b3 k0)
    | (refine ⟨trivial, ?_⟩; gi_at_call 58; refine (callsIn_wide.2 (namings_any _ _ _ _)).mono ?_; rintro e w' ⟨rfl, rfl⟩))
  obtain ⟨p, ep⟩ : ∃ p, p = w2.heap.size := ⟨_, rfl⟩
  obtain ⟨q, eq⟩ : ∃ q, q = w3.heap.size := ⟨_, rfl⟩
  have hpq : p < q := by have := B3.out.size; rw [World.size_alloc] at this; omega
  have hsp : s0 + 3 ≤ p := by have := B2.out.size; rw [S1.out] at this; omega
  have hg0 : s0 + 3 ≤ g0 ∧ g0 < p := by
    have h := R0.out.lt g0 rfl
    rw [S1.out] at h
    exact ⟨by omega, by rw [ep]; exact h.2⟩
  have hrl : unlike L M (List.range n) = unlike L M (bestN L []) := by rw [bestN_nil, HN.out]
  have bp : Boxed w3 p 23 (.slice (some ⟨g0, 0, none⟩) n cap0) := by
    have h := Boxed.new w2 23 (.slice (some ⟨g0, 0, none⟩) n cap0)
    rw [← ep] at h
    exact (B3.out.block p h.lt).trans h
  have k0 : Boxed w3 s0 41 (.slice A n c) := (B3.out.block s0 (K0.out.alloc _).lt).trans (K0.out.alloc _)
  have k1 : Boxed w3 (s0 + 1) 41 (.slice A' n c') := (B3.out.block (s0 + 1) (K1.out.alloc _).lt).trans (K1.out.alloc _)
  have r3 : Row w3 s0 (.slice (some ⟨g0, 0, none⟩) n cap0) (ints (bestN L [])) := by
    rw [bestN_nil]
    exact ((R0.out.mono (by rw [S1.out]; omega)).alloc _).below B3.out
  have bw3 : Below s0 w w3 := HBA.out.trans (B3.out.mono (by rw [World.size_alloc]; omega))
  obtain ⟨W, eW⟩ : ∃ W, W = ((w3.alloc (.cells #[.int .i64 (unlike L M (List.range n) : Nat)] 3)).alloc (.cells #[.int .i64 n] 3)).alloc (.cells #[(.func (.func 85) #[] #[.pointer (some ⟨s0, 0, none⟩), .pointer (some ⟨s0 + 1, 0, none⟩), .pointer (some ⟨q, 0, none⟩)])] 42) := ⟨_, rfl⟩
  have sW : W.heap.size = q + 3 := by rw [eW, eq]; simp
  have b0 : Boxed W s0 41 (.slice A n c) := by rw [eW]; exact ((k0.alloc _).alloc _).alloc _
  have b1 : Boxed W (s0 + 1) 41 (.slice A' n c') := by rw [eW]; exact ((k1.alloc _).alloc _).alloc _
  have b2 : Boxed W q 3 (.int .i64 (unlike L M (bestN L []) : Nat)) := by rw [eW, eq, hrl]; exact ((Boxed.new w3 _ _).alloc _).alloc _
  have b3 : Boxed W (q + 1) 3 (.int .i64 n) := by
    rw [eW, eq]; have h := Boxed.new (w3.alloc (.cells #[.int .i64 (unlike L M (List.range n) : Nat)] 3)) 3 (.int .i64 n); rw [World.size_alloc] at h; exact h.alloc _
  have b4 : Boxed W (q + 1 + 1) 42 (.func (.func 85) #[] #[.pointer (some ⟨s0, 0, none⟩), .pointer (some ⟨s0 + 1, 0, none⟩), .pointer (some ⟨q, 0, none⟩)]) := by
    rw [eW]; have h := Boxed.new ((w3.alloc (.cells #[.int .i64 (unlike L M (List.range n) : Nat)] 3)).alloc (.cells #[.int .i64 n] 3)) 42 (.func (.func 85) #[] #[.pointer (some ⟨s0, 0, none⟩), .pointer (some ⟨s0 + 1, 0, none⟩), .pointer (some ⟨q, 0, none⟩)]); rw [World.size_alloc, World.size_alloc, ← eq] at h; exact h
  have b5 : Boxed W p 23 (.slice (some ⟨g0, 0, none⟩) n cap0) := by rw [eW]; exact ((bp.alloc _).alloc _).alloc _
  have r5 : Row W s0 (.slice (some ⟨g0, 0, none⟩) n cap0) (ints (bestN L [])) := by rw [eW]; exact ((r3.alloc _).alloc _).alloc _
  have hBW : Below s0 w W := by
    rw [eW]
    refine Below.alloc (Below.alloc (Below.alloc bw3 ?_ _) ?_ _) ?_ _ <;> (first | omega | (simp <;> omega))
  rw [← ES.out, ← ep, ← eq, ← eW]
  have SW := Lib.hid sW
  clear eW ep eq sW bp k0 k1 r3 bw3 hrl B3 B2 K0 K1 HBA R0 HUN HCO EW1 B1 X0 X1 S1 q0 q1 y0 y3
  refine wpIn_namesS (n := n) (nb := q + 1) (fx := q + 1 + 1) (fid := 85) (fcap := #[.pointer (some ⟨s0, 0, none⟩), .pointer (some ⟨s0 + 1, 0, none⟩), .pointer (some ⟨q, 0, none⟩)]) (fit := fitN L M)
    h1 h6 (by have := SW.out; omega) rfl (by have := SW.out; omega) b3.cell b3.lt rfl (NeI n s0 p q (q + 1 + 1) W.heap.size A A' c c' L M w) (fun _ _ _ => False) ?far ?farx (fun s X h => h.2.2.2.1) (fun s X h => HT.out.below h.2.2.2.2.2 (by omega)) (enters_of Tryd.func85 (by kernel_rfl) rfl)
    ?asks ⟨b0, b1, b2, b4, ⟨_, b5, r5, fun g hg => by have e : g0 = g := Option.some.inj hg; exact ⟨by omega, by omega, by omega, .inl (by have := SW.out; omega)⟩⟩, hBW⟩
    (fun v => { tmps := #[.slice A n c, .slice A' n c', .pointer (some ⟨s0, 0, none⟩), .pointer (some ⟨s0 + 1, 0, none⟩), .slice none 0 0, .int .i64 0, .pointer (some ⟨p, 0, none⟩), .pointer (some ⟨q, 0, none⟩),
      .func (.func 85) #[] #[.pointer (some ⟨s0, 0, none⟩), .pointer (some ⟨s0 + 1, 0, none⟩), .pointer (some ⟨q, 0, none⟩)], v, .slice A n c,
      .func (.func 76) #[] #[.pointer (some ⟨s0 + 1 + 1, 0, none⟩)], .slice (some ⟨g0, 0, none⟩) n cap0, .slice A n c, .slice A' n c', .slice (some ⟨g0, 0, none⟩) n cap0, .int .i64 (unlike L M (List.range n) : Nat),
      .func (.func 85) #[] #[.pointer (some ⟨s0, 0, none⟩), .pointer (some ⟨s0 + 1, 0, none⟩), .pointer (some ⟨q, 0, none⟩)], .slice A n c, .int .i64 n,
      .func (.func 85) #[] #[.pointer (some ⟨s0, 0, none⟩), .pointer (some ⟨s0 + 1, 0, none⟩), .pointer (some ⟨q, 0, none⟩)],
      .func (.func 74) #[] #[.pointer (some ⟨q + 1, 0, none⟩), .pointer (some ⟨q + 1 + 1, 0, none⟩)], v, undef, undef, undef, undef, undef, undef, undef, undef], defers := [] }) ?assign ?body ?done ?stop
  case far =>
    rintro acc X Y ⟨q0, q1, q2, q3, ⟨v, q4, q5, q6⟩, q7⟩ hb hs
    have hsz := SW.out
    refine ⟨hs.box q0 (.inl (by omega)), hs.box q1 (.inl (by omega)), hs.box q2 (.inl (by omega)), hs.box q3 (.inl (by omega)), ⟨v, hs.box q4 (.inl (by omega)), hs.row q5 (fun g hg => (q6 g hg).2.2.2), q6⟩, q7.trans (hb.mono (by omega))⟩
  case farx =>
    rintro cd xs X Y row h hg hr
    exact h
  case asks =>
    rintro acc P v Z ⟨q0, q1, q2, q3, _, q7⟩ hr p1 p2 p3
    rw [HN.out] at q0 q1 p2 p3
    exact (nearer_any A A' c c' s0 (s0 + 1) q W.heap.size (unlike L M (bestN L acc)) L M HL.out HM.out HLM.out P v Z hr p1 p2 p3 q0 q1 q2 (SL.out.below (by rw [← ES.out]; exact q7)) (SM.out.below (by rw [← ES.out]; exact q7))).mono fun e W' ⟨he, hb⟩ => ⟨he, hb⟩
  case assign =>
    intro l v Z K hK
    gi_wp2
    exact hK
  case body =>
    rintro l acc P v Z hsz6 ⟨q0, q1, q2, q3, ⟨v0, q4, q5, q6⟩, q7⟩ hr p1 p2
    have hs := SW.out
    have hcl := clone_any W.heap.size v (ints P) (by rw [ints_length]; omega) (by rw [ints_length]; omega) Z.drew hr
    have hsLd : Seen Z.drew A L := SL.out.below (by rw [← ES.out]; exact q7.drew)
    have hsMd : Seen Z.drew A' M := SM.out.below (by rw [← ES.out]; exact q7.drew)
    have HUN := Lib.hid (fun (Z1 : World) (hb : Below Z.drew.heap.size Z.drew Z1) => unlike_row A A' c c' L M HL.out HM.out HLM.out W.heap.size v P (by omega) (by rw [← HN.out]; omega) (by rw [← HN.out]; exact p2) Z1 (hsLd.below hb) (hsMd.below hb) ((show Row Z.drew W.heap.size v (ints P) from hr).below hb))
    rw [← HN.out] at HUN
    have HCL := Lib.hid hcl
    have z0 : Z.drew.cell? ⟨s0, 0, none⟩ = some (.slice A n c) := q0.cell
    have z1 : Z.drew.cell? ⟨s0 + 1, 0, none⟩ = some (.slice A' n c') := q1.cell
    have hS0 : Z.drew.cell? ⟨s0, 0, none⟩ = some (.slice A n c) ∧ Z.drew.cell? ⟨s0 + 1, 0, none⟩ = some (.slice A' n c') := ⟨z0, z1⟩
    obtain ⟨d, ed⟩ : ∃ d, d = unlike L M P := ⟨_, rfl⟩
    rw [← ed] at HUN
    have ED := Lib.hid ed
    have Q0 := Lib.hid q0
    have Q1 := Lib.hid q1
    have Q2 := Lib.hid q2
    have Q3 := Lib.hid q3
    have Q4 := Lib.hid q4
    have Q7 := Lib.hid q7
    have HSZ := Lib.hid hsz6
    have P1 := Lib.hid p1
    clear hcl ed q0 q1 q2 q3 q4 q5 q6 q7 hr p1 p2 hsz6 hsLd hsMd b0 b1 b2 b3 b4 b5 r5 hBW hs
    gi_wp2
    refine wpIn_held_round 6 (fun W' => W'.cell? ⟨s0, 0, none⟩ = some (.slice A n c) ∧ W'.cell? ⟨s0 + 1, 0, none⟩ = some (.slice A' n c')) (by kernel_rfl) (by rfl) (by kernel_rfl) (by kernel_rfl) (by kernel_rfl) (by kernel_rfl) ?_
    simp only [List.take_succ_cons, List.take_zero, List.drop_succ_cons, List.drop_zero]
    refine wpAnyH_take (i := 0) (v := v) rfl (by kernel_rfl) (by kernel_rfl) (by kernel_rfl) (fun _ _ _ h => h) (Or.inl ⟨by rfl, ?_⟩) hS0 ?_
    · rintro w' ⟨a0, a1⟩
      go_simp
    simp only [Act.put, List.setIfInBounds_toArray]
    refine wpAnyH_take (i := 2) (v := .slice A n c) rfl (by kernel_rfl) (by kernel_rfl) (by kernel_rfl) (fun _ _ _ h => h) (Or.inl ⟨by rfl, ?_⟩) hS0 ?_
    · rintro w' ⟨a0, a1⟩
      go_simp
    simp only [Act.put, List.setIfInBounds_toArray]
    refine wpAnyH_take (i := 3) (v := .slice A' n c') rfl (by kernel_rfl) (by kernel_rfl) (by kernel_rfl) (fun _ _ _ h => h) (Or.inl ⟨by rfl, ?_⟩) hS0 ?_
    · rintro w' ⟨a0, a1⟩
      go_simp
    simp only [Act.put, List.setIfInBounds_toArray]
    refine wpAnyH_take (i := 4) (v := v) rfl (by kernel_rfl) (by kernel_rfl) (by kernel_rfl) (fun _ _ _ h => h) (Or.inl ⟨by rfl, ?_⟩) hS0 ?_
    · rintro w' ⟨a0, a1⟩
      go_simp
    simp only [Act.put, List.setIfInBounds_toArray]
    refine wpAnyH_one (i := 1) (by kernel_rfl) rfl ?_
    go_wp2_with fail
    refine HCL.out.mono ?_
    rintro e Z1 ⟨u, rfl, hu, hb1⟩
    obtain ⟨g, cap, rfl⟩ : ∃ g cap, u = .slice (some ⟨g, 0, none⟩) n cap := by
      rcases hu.2 with ⟨_, h0⟩ | ⟨g, cap, cur, h0, _⟩
      · rw [ints_length, P1.out] at h0; omega
      · exact ⟨g, cap, by rw [h0, ints_length, P1.out]⟩
    have a0 : Z1.cell? ⟨s0, 0, none⟩ = some (.slice A n c) := (hb1.cell (p := ⟨s0, 0, none⟩) Q0.out.lt).trans z0
    have a1 : Z1.cell? ⟨s0 + 1, 0, none⟩ = some (.slice A' n c') := (hb1.cell (p := ⟨s0 + 1, 0, none⟩) Q1.out.lt).trans z1
    have HU2 := Lib.hid (HUN.out Z1 hb1)
    have HU := Lib.hid hu
    have HB1 := Lib.hid hb1
    clear hu hb1
    go_wp2
    refine ⟨⟨a0, a1⟩, ?_⟩
    refine wpAnyH_one (i := 5) (by kernel_rfl) rfl ?_
    go_wp2_with fail
    refine HU2.out.mono ?_
    rintro e Z2 ⟨rfl, hb2⟩
    have hz : Below Z.heap.size Z Z2 := (Below.refl _ Z).drew.trans (HB1.out.trans (hb2.mono HB1.out.size))
    have t0 : Z2.cell? ⟨s0, 0, none⟩ = some (.slice A n c) := (hb2.cell (p := ⟨s0, 0, none⟩) (Nat.lt_of_lt_of_le Q0.out.lt HB1.out.size)).trans a0
    have t1 : Z2.cell? ⟨s0 + 1, 0, none⟩ = some (.slice A' n c') := (hb2.cell (p := ⟨s0 + 1, 0, none⟩) (Nat.lt_of_lt_of_le Q1.out.lt HB1.out.size)).trans a1
    have hgZ : Z.heap.size ≤ g := (HU.out.lt g rfl).1
    have s2 : Boxed Z2 p 23 v0 := (hz.block p Q4.out.lt).trans Q4.out
    have s3 : Boxed Z2 q 3 (.int .i64 (unlike L M (bestN L acc) : Nat)) := (hz.block q Q2.out.lt).trans Q2.out
    have c2 := s2.cell
    have f2 := s2.frozen
    have c3 : ∀ z, (Z2.setCell ⟨p, 0, none⟩ z).cell? ⟨q, 0, none⟩ = some (.int .i64 (unlike L M (bestN L acc) : Nat)) := fun z => (World.cell?_setCell_other _ _ _ _ (by simp <;> omega)).trans s3.cell
    have f3 : ∀ z, (Z2.setCell ⟨p, 0, none⟩ z).frozen? ⟨q, 0, none⟩ = false := fun z => (World.frozen?_setCell _ _ _ _).trans s3.frozen
    have HZ := Lib.hid hz
    have T2 := Lib.hid s2
    have T3 := Lib.hid s3
    have HB2 := Lib.hid hb2
    clear hz s2 s3 hb2 a0 a1
    go_wp2
    refine ⟨⟨t0, t1⟩, ?_⟩
    refine wpAnyH_done (by kernel_rfl) ?_ 0
    clear z0 z1 hS0 t0 t1
    change wpListIn _ _ _ _ _ _ _ _
    gi_wp2
    have hsz := SW.out
    have h6z := HSZ.out
    have g1 := grownBy_setCell' Z2 p (.slice (some ⟨g, 0, none⟩) n cap)
    have g2 := grownBy_setCell' (Z2.setCell ⟨p, 0, none⟩ (.slice (some ⟨g, 0, none⟩) n cap)) q (.int .i64 (d : Nat))
    have kz : KeepsOthers Z Z2 := KeepsOthers.of_grownBy (row := none) ⟨HZ.out.os, HZ.out.tape, HZ.out.output, HZ.out.size, fun k hk _ => HZ.out.block k hk⟩ (fun _ _ e => by cases e)
    have ru : Row Z2 s0 (.slice (some ⟨g, 0, none⟩) n cap) (ints P) := (HU.out.below HB2.out).mono (by show s0 ≤ Z.heap.size; omega)
    have hb2z : Below 2 Z ((Z2.setCell ⟨p, 0, none⟩ (.slice (some ⟨g, 0, none⟩) n cap)).setCell ⟨q, 0, none⟩ (.int .i64 (d : Nat))) := ((HZ.out.mono (by omega)).setCell (p := ⟨p, 0, none⟩) (by show 2 ≤ p; omega) _).setCell (p := ⟨q, 0, none⟩) (by show 2 ≤ q; omega) _
    have hsb : Below s0 w ((Z2.setCell ⟨p, 0, none⟩ (.slice (some ⟨g, 0, none⟩) n cap)).setCell ⟨q, 0, none⟩ (.int .i64 (d : Nat))) := ((Q7.out.trans (HZ.out.mono (by omega))).setCell (p := ⟨p, 0, none⟩) (by show s0 ≤ p; omega) _).setCell (p := ⟨q, 0, none⟩) (by show s0 ≤ q; omega) _
    refine ⟨((kz.trans (KeepsOthers.setCell _ _ _)).trans (KeepsOthers.setCell _ _ _)).from _, ⟨Nat.le_trans HZ.out.size (Nat.le_trans g1.size g2.size), fun k o hk h4 => ?_⟩, hb2z, ?_⟩
    · have h5 := (HZ.out.block k (Array.getElem?_eq_some_iff.1 h4).1).trans h4
      have h6 := (g1.block k (Array.getElem?_eq_some_iff.1 h5).1 (fun e => by injection e; omega)).trans h5
      exact (g2.block k (Array.getElem?_eq_some_iff.1 h6).1 (fun e => by injection e; omega)).trans h6
    · refine ⟨?_, ?_, ?_, ?_, ⟨.slice (some ⟨g, 0, none⟩) n cap, (T2.out.set _).kept g2 (fun e => by injection e; omega), ?_, fun g' hg' => ?_⟩, hsb⟩
      · exact ((show Boxed Z2 s0 41 (.slice A n c) from (HZ.out.block s0 Q0.out.lt).trans Q0.out).kept g1 (fun e => by injection e; omega)).kept g2 (fun e => by injection e; omega)
      · exact ((show Boxed Z2 (s0 + 1) 41 (.slice A' n c') from (HZ.out.block (s0 + 1) Q1.out.lt).trans Q1.out).kept g1 (fun e => by injection e; omega)).kept g2 (fun e => by injection e; omega)
      · rw [bestN_snoc, ← ED.out]
        exact (T3.out.kept g1 (fun e => by injection e; omega)).set _
      · exact ((show Boxed Z2 (q + 1 + 1) 42 _ from (HZ.out.block (q + 1 + 1) Q3.out.lt).trans Q3.out).kept g1 (fun e => by injection e; omega)).kept g2 (fun e => by injection e; omega)
      · rw [bestN_snoc]
        exact World.ownsRow.kept (World.ownsRow.kept ru g1 (.inr (fun e => by have e2 : some g = some p := e; injection e2; omega))) g2 (.inr (fun e => by have e2 : some g = some q := e; injection e2; omega))
      · have e : g = g' := Option.some.inj hg'
        exact ⟨by omega, by omega, by omega, .inr ⟨by omega, by omega⟩⟩
  case done =>
    rintro D Z hD ⟨q0, q1, q2, q3, ⟨v, q4, q5, q6⟩, q7⟩ hK
    have hsn2 := HSN.out
    rw [← HN.out] at hsn2
    rw [hsn2] at q2 q5
    have y1 := q4.cell
    have y2 := q2.cell
    have hs := SW.out
    have gD := grownBy_putObj' Z.drew D (.deferred none)
    have hB : Below s0 w (Z.drew.putObj D (.deferred none)) := q7.drew.grown gD (by have := q7.drew.size; omega) (fun r e => by cases e; omega)
    have hr2 := ownsRow_putObj q5 (.deferred none) hK rfl
    have HB := Lib.hid hB
    have KK := Lib.hid hK
    have HR2 := Lib.hid hr2
    obtain ⟨x, ex⟩ : ∃ x, x = unlike L M (nearN L M) := ⟨_, rfl⟩
    rw [← ex] at y2
    have EX := Lib.hid ex
    clear ex q0 q1 q2 q3 q4 q5 q6 q7 hK hB gD hs hr2 hsn2 b0 b1 b2 b3 b4 b5 r5 hBW
    gi_wp2
    rename_i K hKK
    refine wpIn_wide.2 ?_
    go_region
    all_goals
      refine hKK _ _ ?_
      gi_wp2
      refine ⟨by simp, .inl ⟨_, _, rfl, run_takeDeferred (show Z.drew.heap[D]? = some (.deferred (some [])) from KK.out), ?_⟩⟩
      refine ⟨.tuple #[v, .int .i64 (x : Nat)], by simp [results, Tryd.f69, go_sem], ?_⟩
      exact ⟨v, by rw [← EX.out], by rw [← ES.out]; exact HR2.out, by rw [← ES.out]; exact HB.out⟩
  case stop =>
    rintro D xs Z hD _ h hK
    exact h.elim
end Go.Proofs.YtamabhdbcmjbjaaDoor
