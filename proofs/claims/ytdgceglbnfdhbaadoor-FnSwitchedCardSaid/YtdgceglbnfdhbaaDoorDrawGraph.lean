/- A list of some nodes is drawn: a graph, seldom another list. What holds: it is a list of its own of that length. -/
import Derived.Test.YtdgceglbnfdhbaaDoorDraw
import Derived.StillTailTactics
namespace Go.Proofs.YtdgceglbnfdhbaaDoor
open Go Go.RowKit
set_option linter.unusedVariables false
set_option maxRecDepth 100000

theorem at_worldD {P : World → Prop} (w : World) (h : ∀ W, W = w → P W) : P w := h w rfl
/-- What stands while a list is drawn. -/
def GrI (w wr : World) (R G n : Nat) (A : Option Addr) (c lim : Nat) (bs : List Nat) : Prop :=
  (∃ p, p ≤ lim ∧ RdAt wr R A bs.length c p) ∧ (∃ xs, xs.length = n ∧ Row wr R (.slice (some ⟨G, 0, none⟩) n n) xs) ∧ Byts wr A bs ∧ Below R w wr ∧ w.heap.size ≤ G ∧ w.grownBy wr (some R)
theorem GrI.more {w wr : World} {R G n : Nat} {A : Option Addr} {c lim lim' : Nat} {bs : List Nat} (h : GrI w wr R G n A c lim bs) (hl : lim ≤ lim') : GrI w wr R G n A c lim' bs := by
  obtain ⟨⟨p, hp, hR⟩, h2⟩ := h
  exact ⟨⟨p, by omega, hR⟩, h2⟩
theorem GrI.drew {w wr : World} {R G n : Nat} {A : Option Addr} {c lim : Nat} {bs : List Nat} (h : GrI w wr R G n A c lim bs) : GrI w wr.drew R G n A c lim bs := by
  obtain ⟨⟨p, hp, hR⟩, ⟨xs, hl, hr⟩, hb, hbe, hG, hgr⟩ := h
  exact ⟨⟨p, hp, hR⟩, ⟨xs, hl, hr⟩, hb, hbe.drew, hG, grown_drew hgr⟩
theorem GrI.set {w wr : World} {R G n : Nat} {A : Option Addr} {c lim : Nat} {bs : List Nat} (h : GrI w wr R G n A c lim bs) (hRG : R < G) (hAR : Under A bs R) {k : Nat} (hk : k < n) (x : Int) :
    GrI w (wr.setCell ⟨G, k, none⟩ (.int .i64 x)) R G n A c lim bs := by
  obtain ⟨⟨p, hp, hR⟩, ⟨xs, hl, hr⟩, hb, hbe, hG, hgr⟩ := h
  have hbG : Below G wr (wr.setCell ⟨G, k, none⟩ (.int .i64 x)) := (Below.refl G wr).setCell (p := ⟨G, k, none⟩) (Nat.le_refl _) _
  refine ⟨⟨p, hp, (hbG.block R hRG).trans hR⟩, ⟨xs.set k x, by rw [List.length_set]; exact hl, hr.set k (by omega) x⟩, hb.below hbG (hAR.mono (Nat.le_of_lt hRG)), hbe.setCell (p := ⟨G, k, none⟩) (Nat.le_of_lt hRG) _, hG, World.grownBy.andThen hgr (grown_set (World.grownBy.refl wr (some G)) k _) (fun j hj => .inl (by cases hj; exact hG))⟩
theorem GrI.cells {w wr : World} {R G n : Nat} {A : Option Addr} {c lim : Nat} {bs : List Nat} (h : GrI w wr R G n A c lim bs) {k : Nat} (hk : k < n) : ∃ o, wr.cell? ⟨G, k, none⟩ = some (.int .i64 o) ∧ wr.frozen? ⟨G, k, none⟩ = false := by
  obtain ⟨_, ⟨xs, hl, hr⟩, _⟩ := h
  exact ⟨_, hr.cellAt k (by omega), hr.frozenAt k (by omega)⟩
/-- How a list is drawn: it is its own, and the reader goes on. -/
def Drawn (w : World) (R n : Nat) (A : Option Addr) (c lim : Nat) (bs : List Nat) (e : Ending) (w' : World) : Prop :=
  ∃ v L, e = .returned v ∧ L.length = n ∧ Row w' R v L ∧ Below R w w' ∧ (∃ q, q ≤ lim ∧ RdAt w' R A bs.length c q) ∧ Byts w' A bs ∧ (∃ g, R < g ∧ (w.heap.size ≤ g ∧ w.grownBy w' (some R)) ∧ v.ownBlock = some g)
theorem GrI.done {w wr : World} {R G n : Nat} {A : Option Addr} {c lim lim' : Nat} {bs : List Nat} (h : GrI w wr R G n A c lim bs) (hl : lim ≤ lim') (hG : R < G) (hG2 : w.heap.size ≤ G) :
    Drawn w R n A c lim' bs (.returned (.slice (some ⟨G, 0, none⟩) n n)) wr := by
  obtain ⟨⟨p, hp, hR⟩, ⟨xs, hxl, hr⟩, hb, hbe, _, hgr⟩ := h
  exact ⟨_, _, rfl, hxl, hr, hbe, ⟨p, by omega, hR⟩, hb, G, hG, ⟨hG2, hgr⟩, rfl⟩
theorem GrI.pick {w wr : World} {R G n : Nat} {A : Option Addr} {c lim : Nat} {bs : List Nat} (h : GrI w wr R G n A c lim bs) (hRG : R < G) (hAR : Under A bs R) (m : Nat) (hm : 1 ≤ m) (hm2 : m ≤ 1000) (hlim : lim ≤ 100000) (hl : bs.length ≤ 2000) :
    Calls Tryd.prog 63 #[.pointer (some ⟨R, 0, none⟩), .int .i64 (m : Nat)] wr fun e w' => ∃ x : Nat, x < m ∧ e = .returned (.int .i64 (x : Nat)) ∧ Hid (GrI w w' R G n A c (lim + 1) bs) := by
  obtain ⟨⟨p, hp, hR⟩, ⟨xs, hxl, hr⟩, hb, hbe, hG, hgr⟩ := h
  refine (pick_any R A c p m bs hm hm2 (by omega) hl wr hR hb hAR).mono ?_
  rintro e w' ⟨x, d, hx, rfl, rfl⟩
  refine ⟨x, hx, rfl, Lib.hid ?_⟩
  have hbR : Below R wr (wr.setCell ⟨R, 1, none⟩ (.int .i64 ((p + 1 : Nat) : Nat))) := (Below.refl R wr).setCell (p := ⟨R, 1, none⟩) (Nat.le_refl _) _
  have gk : wr.grownBy (wr.setCell ⟨R, 1, none⟩ (.int .i64 ((p + 1 : Nat) : Nat))) (some R) := grown_set (World.grownBy.refl wr (some R)) 1 _
  have hr2 : Row (wr.setCell ⟨R, 1, none⟩ (.int .i64 ((p + 1 : Nat) : Nat))) R (.slice (some ⟨G, 0, none⟩) n n) xs := World.ownsRow.kept hr gk (.inr (by intro e; injection e with e; dsimp only at e; omega))
  exact ⟨⟨p + 1, by omega, hR.next (p + 1)⟩, ⟨xs, hxl, hr2.drewN d⟩, hb.below (below_drewN hbR d) hAR, below_drewN (hbe.trans hbR) d, hG, grown_drewN (World.grownBy.trans hgr gk) d⟩

theorem grown_madeW (w : World) (n R : Nat) : w.grownBy (madeW w n) (some R) :=
  ⟨rfl, rfl, rfl, by rw [madeW_size]; omega, fun k hk _ => (madeW_below w n).block k hk⟩
set_option maxHeartbeats 16000000 in
theorem drawGraph_any (R : Nat) (A : Option Addr) (c p P0 n : Nat) (bs : List Nat) (h1 : 1 ≤ n) (h6 : n ≤ 6) (hp : p ≤ P0) (hP0 : P0 ≤ 10000) (hl : bs.length ≤ 2000) (w : World) (hR : RdAt w R A bs.length c p) (hb : Byts w A bs) (hAR : Under A bs R) :
    Calls Tryd.prog 64 #[.pointer (some ⟨R, 0, none⟩), .int .i64 (n : Nat)] w (Drawn w R n A c (P0 + 200) bs) := by
  have hmk := run_make_ints n (by omega)
  have hRl := hR.lt
  have hI0 : GrI w (madeW w n) R w.heap.size n A c P0 bs :=
    ⟨⟨p, hp, ((madeW_below w n).block R hRl).trans hR⟩, ⟨_, by rw [ints_length, List.length_replicate], (madeW_row w n (by omega)).mono (Nat.le_of_lt hRl)⟩, hb.below (madeW_below w n) (hAR.mono (Nat.le_of_lt hRl)), (madeW_below w n).mono (Nat.le_of_lt hRl), Nat.le_refl _, grown_madeW w n R⟩
  obtain ⟨G, eG⟩ : ∃ G, G = w.heap.size := ⟨_, rfl⟩
  rw [← eG] at hI0 hRl
  have HP := Lib.hid (fun (wr : World) (lim m : Nat) (h : GrI w wr R G n A c lim bs) (hm : 1 ≤ m) (hm2 : m ≤ 1000) (hlim : lim ≤ 100000) => h.pick hRl hAR m hm hm2 hlim hl)
  have HS := Lib.hid (fun (wr : World) (lim k : Nat) (h : GrI w wr R G n A c lim bs) (hk : k < n) (x : Int) => h.set hRl hAR hk x)
  have HI0 := Lib.hid hI0
  have EG := Lib.hid eG
  have HGG := Lib.hid (Nat.le_of_eq eG.symm)
  have HRG := Lib.hid hRl
  clear hI0 hl hR hb hAR hp eG
  go_enter Tryd.func64, Tryd.ntmps64
  go_wp2_with fail
  refine (HP.out _ P0 4 HI0.out (by omega) (by omega) (by omega)).mono ?_
  rintro e w1 ⟨kind, hk4, rfl, hr1⟩
  rw [← EG.out]
  clear hmk EG
  go_wp2
  go_loopw [7] (fun i wr => ∃ b : Nat, 1 ≤ b ∧ b ≤ n ∧ i = .int .i64 b ∧ Hid (GrI w wr R G n A c (P0 + 1 + 20 * b) bs)) (fun i _ => n + 1 - (intOf i).toNat)
  case atStart => exact ⟨1, by omega, by omega, rfl, Lib.hid (hr1.out.more (by omega))⟩
  case round =>
    obtain ⟨b, hb1, hbn, rfl, hr⟩ := hrel
    by_cases hlt : b < n
    · obtain ⟨wo, rfl⟩ : ∃ wo : World, wo = wr := ⟨_, rfl⟩
      go_wp2
      go_loopw [8] (fun i wr => ∃ a : Nat, a ≤ b ∧ i = .int .i64 a ∧ Hid (GrI w wr R G n A c (P0 + 1 + 20 * b + 2 * a) bs)) (fun i _ => b + 1 - (intOf i).toNat)
      case atStart => exact ⟨0, by omega, rfl, hr⟩
      case round =>
        obtain ⟨a, hab, rfl, hr⟩ := hrel
        by_cases hla : a < b
        · go_wp2_with fail
          refine (HP.out _ _ 2 hr.out (by omega) (by omega) (by omega)).mono ?_
          rintro e w2 ⟨x, hx2, rfl, hr2⟩
          have hne : a ≠ b := by omega
          have ha6 : a < 64 := by omega
          have hb6 : b < 64 := by omega
          have i1 : (0 : Int) ≤ (a : Int) ∧ (a : Int) < (n : Int) := by omega
          have i2 : (0 : Int) ≤ (b : Int) ∧ (b : Int) < (n : Int) := by omega
          have hw1 : wrap64 ((a : Int) + 1) = (a : Int) + 1 := wrap_idD (by omega) (by omega)
          have hw2 : wrap64 ((n : Int) - 1) = (n : Int) - 1 := wrap_idD (by omega) (by omega)
          by_cases k1 : kind = 1
          · have c0 : (((kind : Nat) : Int) == 0) = false := by simp; omega
            have c1 : (((kind : Nat) : Int) == 1) = true := by simp; omega
            clear k1
            go_wp2_with fail
            refine (HP.out _ _ 3 hr2.out (by omega) (by omega) (by omega)).mono ?_
            rintro e w3 ⟨y, hy3, rfl, hr3⟩
            obtain ⟨oa, ga, fa⟩ := hr3.out.cells (k := a) (by omega)
            obtain ⟨ob, gb, fb⟩ := hr3.out.cells (k := b) (by omega)
            have gb2 : ∀ z, (w3.setCell ⟨G, a, none⟩ z).cell? ⟨G, b, none⟩ = some (.int .i64 ob) := fun z => (World.cell?_setCell_other _ _ _ _ (by simp)).trans gb
            clear gb
            go_wp2
            all_goals first
              | exact ⟨⟨a + 1, by omega, congrArg (Value.int .i64) (by omega), Lib.hid (hr3.out.more (by omega))⟩, by simp [intOf]; omega⟩
              | (go_still_tail 10, (by kernel_rfl)
                 change wpList _ _ _ _ _ (World.drew _)
                 go_wp2
                 refine at_worldD (P := fun W => Code.wp _ _ _ _ W) _ ?_
                 intro w4 hw4
                 have hr4 : Hid (GrI w w4 R G n A c _ bs) := Lib.hid (by rw [hw4]; exact (HS.out _ _ a hr3.out (by omega) _).drew)
                 clear hw4 ga fa fb gb2
                 obtain ⟨ob4, gb4, fb4⟩ := hr4.out.cells (k := b) hlt
                 go_still_tail 10, (by kernel_rfl)
                 change wpList _ _ _ _ _ (World.drew _)
                 go_wp2
                 exact ⟨⟨a + 1, by omega, congrArg (Value.int .i64) (by omega), Lib.hid ((HS.out _ _ b hr4.out hlt _).drew.more (by omega))⟩, by simp [intOf]; omega⟩)
            
          · have c1 : (((kind : Nat) : Int) == 1) = false := by simp; omega
            obtain ⟨oa, ga, fa⟩ := hr2.out.cells (k := a) (by omega)
            obtain ⟨ob, gb, fb⟩ := hr2.out.cells (k := b) (by omega)
            have gb2 : ∀ z, (w2.setCell ⟨G, a, none⟩ z).cell? ⟨G, b, none⟩ = some (.int .i64 ob) := fun z => (World.cell?_setCell_other _ _ _ _ (by simp)).trans gb
            clear gb
            by_cases k0 : kind = 0
            · have c0 : (((kind : Nat) : Int) == 0) = true := by simp; omega
              clear k0 k1
              by_cases e1 : b = a + 1
              · have d1 : (((b : Nat) : Int) == (a : Int) + 1) = true := by simp; omega
                clear e1
                go_wp2
                go_still_tail 10, (by kernel_rfl)
                change wpList _ _ _ _ _ (World.drew _)
                go_wp2
                refine at_worldD (P := fun W => Code.wp _ _ _ _ W) _ ?_
                intro w4 hw4
                have hr4 : Hid (GrI w w4 R G n A c _ bs) := Lib.hid (by rw [hw4]; exact (HS.out _ _ a hr2.out (by omega) _).drew)
                clear hw4 ga fa fb gb2
                obtain ⟨ob4, gb4, fb4⟩ := hr4.out.cells (k := b) hlt
                go_still_tail 10, (by kernel_rfl)
                change wpList _ _ _ _ _ (World.drew _)
                go_wp2
                exact ⟨⟨a + 1, by omega, congrArg (Value.int .i64) (by omega), Lib.hid ((HS.out _ _ b hr4.out hlt _).drew.more (by omega))⟩, by simp [intOf]; omega⟩
              · have d1 : (((b : Nat) : Int) == (a : Int) + 1) = false := by simp; omega
                clear e1
                by_cases e2 : a = 0
                · have d2 : (((a : Nat) : Int) == 0) = true := by simp; omega
                  clear e2
                  by_cases e3 : (b : Int) = (n : Int) - 1
                  · have d3 : (((b : Nat) : Int) == (n : Int) - 1) = true := by simp; omega
                    clear e3
                    go_wp2
                    go_still_tail 10, (by kernel_rfl)
                    change wpList _ _ _ _ _ (World.drew _)
                    go_wp2
                    refine at_worldD (P := fun W => Code.wp _ _ _ _ W) _ ?_
                    intro w4 hw4
                    have hr4 : Hid (GrI w w4 R G n A c _ bs) := Lib.hid (by rw [hw4]; exact (HS.out _ _ a hr2.out (by omega) _).drew)
                    clear hw4 ga fa fb gb2
                    obtain ⟨ob4, gb4, fb4⟩ := hr4.out.cells (k := b) hlt
                    go_still_tail 10, (by kernel_rfl)
                    change wpList _ _ _ _ _ (World.drew _)
                    go_wp2
                    exact ⟨⟨a + 1, by omega, congrArg (Value.int .i64) (by omega), Lib.hid ((HS.out _ _ b hr4.out hlt _).drew.more (by omega))⟩, by simp [intOf]; omega⟩
                  · have d3 : (((b : Nat) : Int) == (n : Int) - 1) = false := by simp; omega
                    clear e3
                    go_wp2
                    exact ⟨⟨a + 1, by omega, congrArg (Value.int .i64) (by omega), Lib.hid (hr2.out.more (by omega))⟩, by simp [intOf]; omega⟩
                · have d2 : (((a : Nat) : Int) == 0) = false := by simp; omega
                  clear e2
                  go_wp2
                  exact ⟨⟨a + 1, by omega, congrArg (Value.int .i64) (by omega), Lib.hid (hr2.out.more (by omega))⟩, by simp [intOf]; omega⟩
            · have c0 : (((kind : Nat) : Int) == 0) = false := by simp; omega
              clear k0 k1
              go_wp2
              all_goals first
                | exact ⟨⟨a + 1, by omega, congrArg (Value.int .i64) (by omega), Lib.hid (hr2.out.more (by omega))⟩, by simp [intOf]; omega⟩
                | (go_still_tail 10, (by kernel_rfl)
                   change wpList _ _ _ _ _ (World.drew _)
                   go_wp2
                   refine at_worldD (P := fun W => Code.wp _ _ _ _ W) _ ?_
                   intro w4 hw4
                   have hr4 : Hid (GrI w w4 R G n A c _ bs) := Lib.hid (by rw [hw4]; exact (HS.out _ _ a hr2.out (by omega) _).drew)
                   clear hw4 ga fa fb gb2
                   obtain ⟨ob4, gb4, fb4⟩ := hr4.out.cells (k := b) hlt
                   go_still_tail 10, (by kernel_rfl)
                   change wpList _ _ _ _ _ (World.drew _)
                   go_wp2
                   exact ⟨⟨a + 1, by omega, congrArg (Value.int .i64) (by omega), Lib.hid ((HS.out _ _ b hr4.out hlt _).drew.more (by omega))⟩, by simp [intOf]; omega⟩)
              
        · have e : a = b := by omega
          subst e
          go_wp2
          exact ⟨⟨a + 1, by omega, by omega, congrArg (Value.int .i64) (by omega), Lib.hid (hr.out.more (by omega))⟩, by simp [intOf]; omega⟩
    · have e : b = n := by omega
      subst e
      go_wp2_with fail
      refine (HP.out _ _ 40 hr.out (by omega) (by omega) (by omega)).mono ?_
      rintro e w2 ⟨x, hx, rfl, hr2⟩
      obtain ⟨oa, ga, fa⟩ := hr2.out.cells (k := 0) (by omega)
      have i0 : (0 : Int) < (b : Int) := by omega
      have hw2 : wrap64 ((b : Int) - 1) = (b : Int) - 1 := wrap_idD (by omega) (by omega)
      have hb6 : b < 64 := by omega
      by_cases hx0 : x = 0
      · have c0 : (((x : Nat) : Int) == 0) = true := by simp; omega
        clear hx0
        go_wp2
        go_region
        all_goals go_wp2
        all_goals go_ret
        all_goals exact (HS.out _ _ 0 hr2.out.drew (by omega) _).done (by omega) HRG.out HGG.out
      · have c0 : (((x : Nat) : Int) == 0) = false := by simp; omega
        clear hx0
        go_wp2
        go_ret
        exact hr2.out.done (by omega) HRG.out HGG.out
end Go.Proofs.YtdgceglbnfdhbaaDoor
