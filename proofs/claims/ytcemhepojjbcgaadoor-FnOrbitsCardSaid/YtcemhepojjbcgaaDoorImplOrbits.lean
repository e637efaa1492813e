/- The program's orbits, by a range over the automorphisms. -/
import Derived.Test.YtcemhepojjbcgaaDoorBaseL
import Derived.Test.YtcemhepojjbcgaaDoorBaseA
import Derived.Test.YtcemhepojjbcgaaDoorBlocks
namespace Go.Proofs.YtcemhepojjbcgaaDoor
open Go Go.RowKit Go.Shelf
attribute [local go_sem] Oper.semAt_some
set_option linter.unusedVariables false
set_option maxRecDepth 100000

def setsL (n : Nat) (acc : List (List Nat)) : List Nat := (List.range n).map (setAt acc)
/-- The first k of the sets brought up to date. -/
def updL (n : Nat) (acc : List (List Nat)) (P : List Nat) (k : Nat) : List Nat := (List.range n).map fun v => if v < k then setAt (acc ++ [P]) v else setAt acc v
theorem updL_zero (n : Nat) (acc : List (List Nat)) (P : List Nat) : updL n acc P 0 = setsL n acc := by
  unfold updL setsL
  exact List.map_congr_left fun v _ => by simp
theorem updL_all (n : Nat) (acc : List (List Nat)) (P : List Nat) : updL n acc P n = setsL n (acc ++ [P]) := by
  unfold updL setsL
  exact List.map_congr_left fun v hv => by rw [if_pos (List.mem_range.1 hv)]
theorem updL_length (n : Nat) (acc : List (List Nat)) (P : List Nat) (k : Nat) : (updL n acc P k).length = n := by simp [updL]
theorem updL_at {n k : Nat} (acc : List (List Nat)) (P : List Nat) (hk : k < n) : at_ (updL n acc P k) k = setAt acc k := by
  unfold at_ updL
  simp [hk]
theorem updL_set {n k : Nat} (acc : List (List Nat)) (P : List Nat) (hk : k < n) : (updL n acc P k).set k (setAt acc k ||| 2 ^ at_ P k) = updL n acc P (k + 1) := by
  have e : ∀ k i (h : i < (updL n acc P k).length), (updL n acc P k)[i] = if i < k then setAt (acc ++ [P]) i else setAt acc i := fun k i h => by simp [updL]
  refine List.ext_getElem (by simp [updL_length]) fun i h1 h2 => ?_
  rw [List.getElem_set, e (k + 1) i h2]
  by_cases h : k = i
  · subst h
    rw [if_pos rfl, if_pos (by omega), setAt_snoc]
  · rw [if_neg h, e k i (by simpa using h1)]
    by_cases h3 : i < k
    · rw [if_pos h3, if_pos (by omega)]
    · rw [if_neg h3, if_neg (by omega)]

theorem setAt_lt2 {n v : Nat} (hv : v < n) : ∀ R : List (List Nat), (∀ P ∈ R, P.length = n ∧ ∀ x ∈ P, x < n) → setAt R v < 2 ^ n := by
  intro R
  induction R using snoc_ind with
  | h0 => intro _; exact two_pos n
  | h1 l x ih =>
    intro h
    rw [setAt_snoc]
    have hx := h x (by simp)
    exact Nat.or_lt_two_pow (ih fun P hP => h P (by simp [hP])) (Nat.pow_lt_pow_right (by omega) (at_lt hx.2 (by rw [hx.1]; exact hv)))
theorem row_far {X Y : World} {B g n cap m : Nat} {xs : List Int} (h : Row X B (.slice (some ⟨g, 0, none⟩) n cap) xs) (hb : ∀ k o, k < m → X.heap[k]? = some o → Y.heap[k]? = some o) (hg : g < m) : Row Y B (.slice (some ⟨g, 0, none⟩) n cap) xs := by
  obtain ⟨h0, h1⟩ := h
  refine ⟨h0, ?_⟩
  rcases h1 with ⟨h1, _⟩ | ⟨g', cap', cur, a1, a2, a3, a4⟩
  · cases h1
  · refine .inr ⟨g', cap', cur, a1, a2, hb _ _ ?_ a3, a4⟩
    injection a1 with e1; injection e1 with e1; injection e1 with e1; omega
theorem ownBlock_slice (g n cap : Nat) : (Value.slice (some ⟨g, 0, none⟩) n cap).ownBlock = some g := rfl

def OrI (n s0 : Nat) (A : Option Addr) (c : Nat) (w : World) (acc : List (List Nat)) (Z : World) : Prop :=
  (∀ P ∈ acc, P.length = n ∧ ∀ x ∈ P, x < n) ∧ Row Z s0 (.slice (some ⟨s0, 0, none⟩) n n) (ints (setsL n acc)) ∧ Boxed Z (s0 + 1) 23 (.slice (some ⟨s0, 0, none⟩) n n) ∧ Boxed Z (s0 + 1 + 1) 41 (.slice A n c) ∧ Boxed Z (s0 + 1 + 1 + 1) 41 (.slice A n c) ∧
    Boxed Z (s0 + 1 + 1 + 1 + 1 + 1) 38 (.func (.func 125) #[] #[.pointer (some ⟨s0 + 1 + 1, 0, none⟩), .pointer (some ⟨s0 + 1 + 1 + 1, 0, none⟩)]) ∧ Below s0 w Z

set_option maxHeartbeats 4000000 in
theorem implOrbits_in (A : Option Addr) (c : Nat) (L : List Int) (hL : IsGraph L) (w : World) (sL : Seen w A L) (hT : Tab w) :
    CallsIn Fence.wide 12 Tryd.prog 84 #[.slice A L.length c] w (Gave w (ints (blkTo (setAt (likeL L L)) L.length).1)) := by
  have h1 := hL.1
  have h6 := hL.2.1
  have h2 := hT.lt
  obtain ⟨n, hn⟩ : ∃ n, n = L.length := ⟨_, rfl⟩
  have hdef : likeL L L = allNames (fun _ P => fitB L L P) n := by rw [hn]; rfl
  rw [hdef]
  rw [← hn]
  rw [← hn] at h1 h6
  have hmk := run_make_ints n (by omega)
  have hms : ∀ x, (madeW x n).heap.size = x.heap.size + 1 := fun x => madeW_size x n
  have HL := Lib.hid hL
  have HN := Lib.hid hn
  have SL := Lib.hid sL
  have HT := Lib.hid hT
  clear hL hn sL hT hdef
  refine callsIn_of_wp_marks Tryd.func84 rfl trivial ?_ rfl
  simp only [Tryd.ntmps84, List.size_toArray, List.length_cons, List.length_nil, Nat.reduceAdd, Nat.reduceSub, Array.replicate_succ, Array.replicate_zero, List.push_toArray, List.append_toArray, List.nil_append, List.cons_append]
  gi_wp2_with (refine ⟨trivial, ?_⟩; gi_at_call 102; refine (callsIn_wide.2 (likenesses_any _ _ _ _ _ _ _)).mono ?_; rintro e w' ⟨rfl, rfl⟩)
  have R0 := madeW_row w n (by omega)
  have M0 := madeW_below w n
  have S0 := hms w
  clear hmk hms
  obtain ⟨w1, e1⟩ : ∃ w1, w1 = madeW w n := ⟨_, rfl⟩
  rw [← e1] at R0 M0 S0 ⊢
  clear e1
  obtain ⟨s0, es0⟩ : ∃ s0, s0 = w.heap.size := ⟨_, rfl⟩
  rw [← es0] at R0 M0 S0 ⊢
  obtain ⟨W, eW⟩ : ∃ W, W = ((((w1.alloc (.cells #[.slice (some ⟨s0, 0, none⟩) n n] 23)).alloc (.cells #[.slice A n c] 41)).alloc (.cells #[.slice A n c] 41)).alloc (.cells #[.int .i64 n] 3)).alloc (.cells #[(.func (.func 125) #[] #[.pointer (some ⟨s0 + 1 + 1, 0, none⟩), .pointer (some ⟨s0 + 1 + 1 + 1, 0, none⟩)])] 38) := ⟨_, rfl⟩
  have sW : W.heap.size = s0 + 6 := by rw [eW]; simp [S0]
  have hBW : Below s0 w W := by
    rw [eW]
    refine Below.alloc (Below.alloc (Below.alloc (Below.alloc (Below.alloc M0 ?_ _) ?_ _) ?_ _) ?_ _) ?_ _ <;> (simp [S0] <;> omega)
  have r0 : Row W s0 (.slice (some ⟨s0, 0, none⟩) n n) (ints (setsL n [])) := by
    have e : setsL n [] = List.replicate n 0 := by
      unfold setsL
      refine List.ext_getElem (by simp) fun i h1 h2 => ?_
      simp [setAt]
    rw [eW, e]; exact ((((R0.alloc _).alloc _).alloc _).alloc _).alloc _
  have b1 : Boxed W (s0 + 1) 23 (.slice (some ⟨s0, 0, none⟩) n n) := by
    rw [eW]; have h := Boxed.new w1 23 (.slice (some ⟨s0, 0, none⟩) n n); rw [S0] at h; exact (((h.alloc _).alloc _).alloc _).alloc _
  have b2 : Boxed W (s0 + 1 + 1) 41 (.slice A n c) := by
    rw [eW]; have h := Boxed.new (w1.alloc (.cells #[.slice (some ⟨s0, 0, none⟩) n n] 23)) 41 (.slice A n c); rw [World.size_alloc, S0] at h; exact ((h.alloc _).alloc _).alloc _
  have b3 : Boxed W (s0 + 1 + 1 + 1) 41 (.slice A n c) := by
    rw [eW]; have h := Boxed.new ((w1.alloc (.cells #[.slice (some ⟨s0, 0, none⟩) n n] 23)).alloc (.cells #[.slice A n c] 41)) 41 (.slice A n c); rw [World.size_alloc, World.size_alloc, S0] at h; exact (h.alloc _).alloc _
  have b4 : Boxed W (s0 + 1 + 1 + 1 + 1) 3 (.int .i64 n) := by
    rw [eW]; have h := Boxed.new (((w1.alloc (.cells #[.slice (some ⟨s0, 0, none⟩) n n] 23)).alloc (.cells #[.slice A n c] 41)).alloc (.cells #[.slice A n c] 41)) 3 (.int .i64 n); rw [World.size_alloc, World.size_alloc, World.size_alloc, S0] at h; exact h.alloc _
  have b5 : Boxed W (s0 + 1 + 1 + 1 + 1 + 1) 38 (.func (.func 125) #[] #[.pointer (some ⟨s0 + 1 + 1, 0, none⟩), .pointer (some ⟨s0 + 1 + 1 + 1, 0, none⟩)]) := by
    rw [eW]; have h := Boxed.new ((((w1.alloc (.cells #[.slice (some ⟨s0, 0, none⟩) n n] 23)).alloc (.cells #[.slice A n c] 41)).alloc (.cells #[.slice A n c] 41)).alloc (.cells #[.int .i64 n] 3)) 38 (.func (.func 125) #[] #[.pointer (some ⟨s0 + 1 + 1, 0, none⟩), .pointer (some ⟨s0 + 1 + 1 + 1, 0, none⟩)]); rw [World.size_alloc, World.size_alloc, World.size_alloc, World.size_alloc, S0] at h; exact h
  rw [← eW]
  have ES := Lib.hid es0
  have SW := Lib.hid sW
  have hle : s0 ≤ w.heap.size := by omega
  have h2s : 2 ≤ s0 := by omega
  clear eW es0 sW h2 R0 M0 S0
  refine wpIn_names (n := n) (nb := s0 + 1 + 1 + 1 + 1) (fx := s0 + 1 + 1 + 1 + 1 + 1) (fid := 125) (fcap := #[.pointer (some ⟨s0 + 1 + 1, 0, none⟩), .pointer (some ⟨s0 + 1 + 1 + 1, 0, none⟩)]) (fit := fun _ P => fitB L L P)
    h1 h6 (by have := SW.out; omega) rfl (by have := SW.out; omega) b4.cell b4.lt rfl (OrI n s0 A c w) (fun _ _ _ => False) ?far ?farx (fun s X h => h.2.2.2.2.2.1) (fun s X h => HT.out.below h.2.2.2.2.2.2 (by omega)) (enters_of Tryd.func125 (by kernel_rfl) rfl)
    ?asks ⟨fun P hP => (by cases hP), r0, b1, b2, b3, b5, hBW⟩
    (fun v => { tmps := #[.slice A n c, undef, .slice none 0 0, .pointer (some ⟨s0 + 1, 0, none⟩), v, undef, undef, .slice A n c, .int .i64 n, .slice (some ⟨s0, 0, none⟩) n n, .slice A n c, .slice A n c,
      .func (.func 130) #[] #[.pointer (some ⟨s0 + 1 + 1 + 1 + 1, 0, none⟩), .pointer (some ⟨s0 + 1 + 1 + 1 + 1 + 1, 0, none⟩)], v, undef, undef, undef, undef, undef, undef, undef, undef, undef, undef, undef, undef, undef, undef, undef, undef, undef, undef], defers := [] }) ?assign ?body ?done ?stop
  case far =>
    rintro acc X Y ⟨q0, q1, q2, q3, q4, q5, q6⟩ hb
    have hs := SW.out
    exact ⟨q0, row_far q1 (fun k o hk h => (hb.block k hk).trans h) (by omega), (hb.block _ (by omega)).trans q2, (hb.block _ (by omega)).trans q3, (hb.block _ (by omega)).trans q4, (hb.block _ (by omega)).trans q5, q6.trans (hb.mono (by omega))⟩
  case farx =>
    rintro cd xs X Y row h hg hr
    exact h
  case asks =>
    rintro acc P v Z ⟨q0, q1, q2, q3, q4, q5, q6⟩ hr p1 p2 p3
    exact likes_any A A c c (s0 + 1 + 1) (s0 + 1 + 1 + 1) n W.heap.size L L HL.out HL.out HN.out HN.out P v Z hr p1 p2 p3 q3 q4 (SL.out.below (by rw [← ES.out]; exact q6)) (SL.out.below (by rw [← ES.out]; exact q6))
  case assign =>
    intro l v Z K hK
    gi_wp2
    exact hK
  case body =>
    rintro l acc P v Z ⟨q0, q1, q2, q3, q4, q5, q6⟩ hr p1 p2
    have hs := SW.out
    have hZ := q6.size
    obtain ⟨g, cap, rfl⟩ : ∃ g cap, v = .slice (some ⟨g, 0, none⟩) n cap := by
      rcases hr.2 with ⟨_, h0⟩ | ⟨g, cap, cur, rfl, _⟩
      · rw [ints_length, p1] at h0; omega
      · exact ⟨g, cap, by rw [ints_length, p1]⟩
    have hgb := row_block hr
    have hcell : ∀ k, k < n → Z.cell? ⟨g, k, none⟩ = some (.int .i64 (at_ P k : Nat)) := fun k hk => by
      rw [hr.cellAt k (by rw [ints_length, p1]; exact hk), ints_at (by rw [p1]; exact hk)]
    have HC := Lib.hid hcell
    have P1 := Lib.hid p1
    have P2 := Lib.hid p2
    have Q0 := Lib.hid q0
    have Q1 := Lib.hid (show Row Z s0 (.slice (some ⟨s0, 0, none⟩) n n) (ints (updL n acc P 0)) by rw [updL_zero]; exact q1)
    have Q2 := Lib.hid q2
    have Q3 := Lib.hid q3
    have Q4 := Lib.hid q4
    have Q5 := Lib.hid q5
    have Q6 := Lib.hid q6
    have G0 := Lib.hid (World.grownBy.refl Z (some s0))
    clear hcell p1 p2 q0 q1 q2 q3 q4 q5 q6 hr r0 b1 b2 b3 b4 b5 hBW
    gi_wp2
    gi_loopw [16] (fun i wr => ∃ k : Nat, k ≤ n ∧ i = .int .i64 k ∧ Hid (Z.grownBy wr (some s0)) ∧ Hid (Row wr s0 (.slice (some ⟨s0, 0, none⟩) n n) (ints (updL n acc P k)))) (fun i _ => n - (intOf i).toNat)
    case atStart => exact ⟨0, Nat.zero_le _, rfl, G0, Q1⟩
    case round =>
      obtain ⟨k, hk, rfl, hg, hq⟩ := hrel
      by_cases hlt : k < n
      · have rP : wr.cell? ⟨g, k, none⟩ = some (.int .i64 (at_ P k : Nat)) := by
          rw [← HC.out k hlt]
          have h0 := hg.out.block g hgb.2 (fun e => by injection e; omega)
          unfold World.cell?
          rw [h0]
        have rB := (Q2.out.kept hg.out (fun e => by injection e; omega)).cell
        have hkl : k < (ints (updL n acc P k)).length := by rw [ints_length, updL_length]; exact hlt
        have rS := hq.out.cellAt k hkl
        have rF := hq.out.frozenAt k hkl
        rw [ints_at (by rw [updL_length]; exact hlt), updL_at acc P hlt] at rS
        have hx := at_lt P2.out (show k < P.length by rw [P1.out]; exact hlt)
        have hz := setAt_lt2 hlt acc Q0.out
        have hset := updL_set acc P hlt
        obtain ⟨x, ex⟩ : ∃ x, x = at_ P k := ⟨_, rfl⟩
        obtain ⟨z, ez⟩ : ∃ z, z = setAt acc k := ⟨_, rfl⟩
        rw [← ex] at rP hx hset
        rw [← ez] at rS hz hset
        have hp64 := two_le h6
        have hx6 : x ≤ 6 := by omega
        have wp1 := wrap_pow x (Nat.le_trans hx6 (by decide))
        have hxp := two_le (n := x) hx6
        obtain ⟨p, ep⟩ : ∃ p, p = 2 ^ x := ⟨_, rfl⟩
        rw [← ep] at wp1 hset hxp
        have wp2 : IntKind.i64.wrap ((2 : Int) ^ x) = (p : Int) := by rw [IntKind.wrap_i64]; unfold wrap64 at wp1; exact wp1
        have wor := i64_or_nat z p (Nat.lt_of_lt_of_le hz (Nat.le_trans hp64 (by decide))) (Nat.lt_of_le_of_lt hxp (by decide))
        have rs := hq.out.set k hkl ((z ||| p : Nat) : Int)
        rw [ints_set, hset] at rs
        have RS := Lib.hid rs
        have hi1 : (0 : Int) ≤ (k : Int) ∧ (k : Int) < (n : Int) := by omega
        obtain ⟨w2, ew2⟩ : ∃ w2, w2 = wr.drew := ⟨_, rfl⟩
        have rS2 : w2.cell? ⟨s0, k, none⟩ = some (.int .i64 z) := by rw [ew2]; exact rS
        have rF2 : w2.frozen? ⟨s0, k, none⟩ = false := by rw [ew2]; exact rF
        have EW2 := Lib.hid ew2
        clear ew2 rs hset ez ex ep hxp hz hx hkl
        gi_wp2
        refine wpIn_tail_round 8 (by kernel_rfl) (by kernel_rfl) (by kernel_rfl) ?_
        simp only [List.take_succ_cons, List.take_zero, List.drop_succ_cons, List.drop_zero]
        repeat still_step
        refine wpStill_nil ?_
        rw [← EW2.out]
        gi_wp2
        rw [EW2.out]
        go_roundw
        case rel => exact ⟨k + 1, by omega, by go_num, Lib.hid (grown_set (grown_drew hg.out) k _), Lib.hid RS.out⟩
        case measure => simp [intOf]; omega
      · have hke : k = n := by omega
        subst hke
        gi_wp2
        have hgk := hg.out
        refine ⟨KeepsFrom.of_grownBy hgk (fun j e => by injection e; omega), ⟨hgk.size, fun j o hj h => (hgk.block j (Array.getElem?_eq_some_iff.1 h).1 (fun e => by injection e; omega)).trans h⟩, (Below.refl 2 Z).grown hgk (by omega) (fun r e => by injection e; omega), ?_⟩
        refine ⟨?_, by rw [← updL_all]; exact hq.out, Q2.out.kept hgk (fun e => by injection e; omega), Q3.out.kept hgk (fun e => by injection e; omega), Q4.out.kept hgk (fun e => by injection e; omega), Q5.out.kept hgk (fun e => by injection e; omega), Q6.out.grown hgk (by omega) (fun r e => by injection e; omega)⟩
        intro P' hP'
        rcases List.mem_append.1 hP' with h0 | h0
        · exact Q0.out P' h0
        · have e := List.mem_singleton.1 h0
          subst e
          exact ⟨P1.out, P2.out⟩
  case done =>
    rintro D Z hD ⟨q0, q1, q2, q3, q4, q5, q6⟩ hK
    have hs := SW.out
    obtain ⟨R, eR⟩ : ∃ R, R = allNames (fun _ P => fitB L L P) n := ⟨_, rfl⟩
    rw [← eR] at q0 q1
    have ha : ∀ u, u < n → at_ (setsL n R) u = setAt R u := fun u hu => by unfold at_ setsL; simp [hu]
    obtain ⟨A2, c2, e2, hsn⟩ := q1.seen
    have hSl : (setsL n R).length = n := by simp [setsL]
    rw [ints_length, hSl] at e2
    injection e2 with e3 e4 e5
    subst e3
    have HBL := Lib.hid (blocks_any _ n n (setsL n R) hSl h6 (fun u hu => by rw [ha u hu]; exact setAt_lt2 hu R q0) Z hsn)
    rw [blkTo_congr ha n (Nat.le_refl _)] at HBL
    have y2 := q2.cell
    have Q6 := Lib.hid q6
    have KK := Lib.hid hK
    have ER := Lib.hid eR
    clear eR q0 q1 q2 q3 q4 q5 q6 hK ha hsn e5 r0 b1 b2 b3 b4 b5 hBW
    gi_wp2_with (refine ⟨trivial, ?_⟩; gi_at_call 116; refine (callsIn_wide.2 HBL.out).mono ?_; rintro e Z1 ⟨u, rfl, hu, hb⟩
                 have k1 := (hb.block D (Array.getElem?_eq_some_iff.1 KK.out).1).trans KK.out
                 have K1 := Lib.hid k1
                 have HU := Lib.hid hu
                 have HB := Lib.hid hb
                 clear hu hb k1)
    refine ⟨by simp, .inl ⟨_, _, rfl, run_takeDeferred K1.out, ?_⟩⟩
    refine ⟨_, results_tmp rfl _ _ _, ?_⟩
    have gD := grownBy_putObj' Z1 D (.deferred none)
    refine ⟨u, rfl, ?_, ?_⟩
    · rw [← ER.out, ← ES.out]
      exact Row.mono (ownsRow_putObj HU.out (.deferred none) K1.out rfl) (by have := Q6.out.size; omega)
    · rw [← ES.out]
      exact (Q6.out.trans (HB.out.mono (by have := Q6.out.size; omega))).grown gD (by have := Q6.out.size; have := HB.out.size; omega) (fun r e => by cases e; omega)
  case stop =>
    rintro D xs Z hD _ h hK
    exact h.elim
#print axioms implOrbits_in
end Go.Proofs.YtcemhepojjbcgaaDoor
