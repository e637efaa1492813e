/- The degrees as a deck tells them: the program's. -/
import Derived.Test.YtdhfnjpjccjkcaaDoorSortMore
import Derived.Test.YtdhfnjpjccjkcaaDoorDeckEdges
namespace Go.Proofs.YtdhfnjpjccjkcaaDoor
open Go Go.RowKit
set_option linter.unusedVariables false
set_option maxRecDepth 100000

/-- The edges that are missing on a card. -/
def missing (E : Nat) (x : Int) : Int := ((E : Nat) : Int) - ((pcf 15 x.toNat : Nat) : Int)
def degTo (E : Nat) (ys : List Int) (k : Nat) : List Int := (ys.take k).map (missing E) ++ List.replicate (ys.length - k) 0
theorem degTo_length (E : Nat) (ys : List Int) (k : Nat) (h : k ≤ ys.length) : (degTo E ys k).length = ys.length := by simp [degTo]; omega
theorem degTo_zero (E : Nat) (ys : List Int) : degTo E ys 0 = ints (List.replicate ys.length 0) := by simp [degTo, ints]
theorem degTo_all (E : Nat) (ys : List Int) : degTo E ys ys.length = ys.map (missing E) := by simp [degTo]
theorem degTo_succ (E : Nat) (ys : List Int) (k : Nat) (h : k < ys.length) : (degTo E ys k).set k (missing E (ys[k]?.getD 0)) = degTo E ys (k + 1) := by
  unfold degTo
  have hl : ((ys.take k).map (missing E)).length = k := by simp; omega
  have e : ys.length - k = (ys.length - (k + 1)) + 1 := by omega
  rw [List.set_append_right _ _ (by omega), hl, Nat.sub_self, e, List.replicate_succ, List.set_cons_zero, List.take_succ_eq_append_getElem h, List.map_append, List.append_assoc, List.getElem?_eq_getElem h]
  rfl
theorem missing_sorted {E : Nat} {xs ys : List Int} (hp : ys.Perm xs) (hf : Fewer ys) : ys.map (missing E) = sortL (xs.map (missing E)) := by
  refine sortL_of (hp.map _) ?_
  rw [List.pairwise_map]
  exact hf.imp fun h => by unfold missing; omega
/-- The degrees of a graph, as its deck tells them. -/
def degL (L : List Int) : List Int := sortL ((deckL L).map (missing (edgesN L)))
theorem degL_length (L : List Int) : (degL L).length = L.length := by unfold degL; rw [sortL_length, List.length_map, deckL_length]

set_option maxHeartbeats 4000000 in
theorem degrees_fn (A : Option Addr) (c : Nat) (L : List Int) (hg : IsGraph L) (h3 : 3 ≤ L.length) (w : World) (h : Seen w A (deckL L)) :
    Calls Tryd.prog 48 #[.slice A L.length c] w (Gave w (degL L)) := by
  have h6 := hg.2.1
  have hde := fun w hs => deckEdges_any L.length A c (deckL L) (deck_isDeck hg h3) w hs
  rw [deck_E hg h3] at hde
  have hE15 := edgesN_le L
  have hmem : ∀ x ∈ deckL L, 0 ≤ x ∧ x < 1024 := fun x hx => by
    obtain ⟨y, rfl, hy⟩ := deck_mem hg (by omega) x hx
    have h5 : codes (L.length - 1) ≤ 1024 := by
      have : ∀ m ≤ 5, codes m ≤ 1024 := by decide
      exact this _ (by omega)
    omega
  have hdl := deckL_length L
  have hor := fun w hs => orderedMore_any A c (deckL L) (by omega) hmem w hs
  rw [hdl] at hor
  have hfin := fun ys hp hf => missing_sorted (E := edgesN L) (xs := deckL L) (ys := ys) hp hf
  obtain ⟨E, eE⟩ : ∃ E, E = edgesN L := ⟨_, rfl⟩
  have hdeg : degL L = sortL ((deckL L).map (missing E)) := by rw [eE]; rfl
  rw [← eE] at hde hE15 hfin
  obtain ⟨n, hn⟩ : ∃ n, n = L.length := ⟨_, rfl⟩
  rw [← hn] at hde h6 hor hdl h3 ⊢
  have HDE := Lib.hid hde
  have HOR := Lib.hid hor
  have HFIN := Lib.hid hfin
  have HDEG := Lib.hid hdeg
  have HMEM := Lib.hid hmem
  have HDL := Lib.hid hdl
  have H := Lib.hid h
  have hmk := run_make_ints n (by omega)
  have R0 := Lib.hid (madeW_row w n (by omega))
  have B0 := Lib.hid (madeW_below w n)
  have hms : (madeW w n).heap.size = w.heap.size + 1 := madeW_size w n
  obtain ⟨g, eg⟩ : ∃ g, g = w.heap.size := ⟨_, rfl⟩
  have HG := Lib.hid eg
  have HMS := Lib.hid hms
  clear hde hor hfin hdeg hmem hdl h hn eE hg eg hms
  go_enter Tryd.func48, Tryd.ntmps48
  go_wp2_with fail
  refine (HDE.out _ H.out).mono ?_
  rintro e w1 ⟨rfl, rfl⟩
  go_wp2_with fail
  clear hmk
  obtain ⟨w0, hw0⟩ : ∃ w0, w0 = madeW w n := ⟨_, rfl⟩
  rw [← hw0] at R0 B0 HMS ⊢
  rw [← HG.out] at R0 ⊢
  clear hw0
  refine (HOR.out _ (H.out.below B0.out)).mono ?_
  rintro e w2 ⟨v, ys, rfl, hp, hf, r2, b2⟩
  have hyl : ys.length = n := by rw [hp.length_eq]; exact HDL.out
  obtain ⟨Ay, cy, rfl, sy⟩ := r2.seen
  rw [hyl]
  have R2 := Lib.hid (R0.out.below b2)
  have BB := Lib.hid (B0.out.trans (b2.mono B0.out.size))
  have SY := Lib.hid sy
  have HYL := Lib.hid hyl
  have HFY := Lib.hid (HFIN.out ys hp hf)
  have hym : ∀ x ∈ ys, 0 ≤ x ∧ x < 1024 := fun x hx => HMEM.out x (hp.mem_iff.1 hx)
  have HYM := Lib.hid hym
  have hgA : ∀ b o, Ay = some ⟨b, o, none⟩ → 0 < n → b ≠ g := fun b o e h0 e2 => by
    have hlt := r2.lt b (by rw [e]; rfl)
    have hm := HMS.out
    have hgg := HG.out
    omega
  have HGA := Lib.hid hgA
  clear hp hf r2 b2 sy hyl hym hgA
  go_wp2
  obtain ⟨wo, rfl⟩ : ∃ wo : World, wo = w2 := ⟨_, rfl⟩
  go_loopw [19] (fun i wr => ∃ k : Nat, k ≤ n ∧ i = .int .i64 k ∧ Hid (Row wr w.heap.size (.slice (some ⟨g, 0, none⟩) n n) (degTo E ys k)) ∧ Hid (Seen wr Ay ys) ∧ Hid (Below w.heap.size w wr)) (fun i _ => n - (intOf i).toNat)
  case atStart => exact ⟨0, Nat.zero_le _, rfl, Lib.hid (by rw [degTo_zero, HYL.out]; have h0 := R2.out; rw [← HG.out]; exact h0), SY, BB⟩
  case round =>
    obtain ⟨k, hk, rfl, hr, hs, hb⟩ := hrel
    by_cases hlt : k < n
    · have hky : k < ys.length := by rw [HYL.out]; exact hlt
      obtain ⟨blk, off, eA, hbl, hc⟩ := hs.out k hky
      have hne := HGA.out blk off eA (by omega)
      subst eA
      have hx := HYM.out (ys[k]?.getD 0) (by rw [List.getElem?_eq_getElem hky]; exact List.getElem_mem hky)
      have hst := degTo_succ E ys k hky
      obtain ⟨x, ex⟩ : ∃ x : Nat, ys[k]?.getD 0 = (x : Int) := ⟨(ys[k]?.getD 0).toNat, by omega⟩
      rw [ex] at hc hst hx
      have hx2 : x < 1024 := by omega
      have hCE := fun w => cardEdges_any x hx2 w
      have hp15 := pcf_le 15 x
      have hmiss : missing E ((x : Nat) : Int) = (E : Int) - ((pcf 15 x : Nat) : Int) := by unfold missing; rw [Int.toNat_natCast]
      rw [hmiss] at hst
      obtain ⟨p, ep⟩ : ∃ p, p = pcf 15 x := ⟨_, rfl⟩
      rw [← ep] at hCE hp15 hst
      have HCE := Lib.hid hCE
      have HST := Lib.hid hst
      have hi1 : (0 : Int) ≤ (k : Int) ∧ (k : Int) < (n : Int) := by omega
      have hlen : k < (degTo E ys k).length := by rw [degTo_length E ys k (by omega)]; exact hky
      obtain ⟨y, ey⟩ : ∃ y, y = (degTo E ys k)[k]?.getD 0 := ⟨_, rfl⟩
      have hgc : wr.cell? ⟨g, k, none⟩ = some (.int .i64 y) := by rw [ey]; exact hr.out.cellAt k hlen
      have hgf : wr.frozen? ⟨g, k, none⟩ = false := hr.out.frozenAt k hlen
      have r3 := hr.out.set k hlen ((E : Int) - (p : Int))
      have R3 := Lib.hid r3
      have hwr : wrap64 ((E : Int) - (p : Int)) = (E : Int) - (p : Int) := by unfold wrap64; omega
      have HNE := Lib.hid hne
      have HBL := Lib.hid hbl
      clear hx hx2 hCE hmiss ep hst hlen ey r3 ex hbl hky hne
      go_wp2_with fail
      refine (HCE.out _).mono ?_
      rintro e w3 ⟨rfl, rfl⟩
      go_wp2
      go_roundw
      case rel => exact ⟨k + 1, by omega, by go_num, Lib.hid (by rw [← HST.out]; exact R3.out), Lib.hid (fun j hj => by
        obtain ⟨b2, o2, e2, hb2, hc2⟩ := hs.out j hj
        refine ⟨b2, o2, e2, ?_, ?_⟩
        · exact Nat.lt_of_lt_of_le hb2 (KeepsOthers.setCell _ _ _).size
        · injection e2 with e3
          injection e3 with e4 e5
          subst e4
          exact (World.cell?_setCell_other _ _ _ _ (fun e => HNE.out (by injection e with e6; exact e6.symm))).trans hc2), Lib.hid (hb.out.setCell (p := ⟨g, k, none⟩) (by show w.heap.size ≤ g; have := HG.out; omega) _)⟩
      case measure => simp [intOf]; omega
    · have hkn : k = n := by omega
      subst hkn
      go_wp2
      go_ret
      refine ⟨_, rfl, ?_, hb.out⟩
      have h0 := hr.out
      rw [← HYL.out, degTo_all, HYL.out, HFY.out, ← HDEG.out] at h0
      exact h0
end Go.Proofs.YtdhfnjpjccjkcaaDoor
