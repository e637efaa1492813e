/- The program's owner: the least code of the graphs with a deck. -/
import Derived.Test.YtogmfbhnnnoipaaDoorImplSize
import Derived.Test.YtogmfbhnnnoipaaDoorOwnerMath
import Derived.Test.YtogmfbhnnnoipaaDoorDropFn
import Derived.Test.YtogmfbhnnnoipaaDoorDeckEdges
import Derived.Test.YtogmfbhnnnoipaaDoorListEq
namespace Go.Proofs.YtogmfbhnnnoipaaDoor
open Go Go.RowKit
set_option linter.unusedVariables false
set_option maxRecDepth 100000

theorem no_deck {n x : Nat} (h3 : 3 ≤ n) (h5 : n ≤ 5) {d : List Int} (h : deckE n d = (x, false)) : ¬ ∃ c, HasDeck n d c := fun ⟨c, hc⟩ => by
  have h1 := hasDeck_E h3 h5 hc
  rw [h] at h1
  exact Bool.noConfusion (congrArg Prod.snd h1)
theorem has_size {n x : Nat} (h3 : 3 ≤ n) (h5 : n ≤ 5) {d : List Int} (h : deckE n d = (x, true)) {c : Nat} (hc : HasDeck n d c) : edgesN (codeG n c) = x := by
  have h1 := hasDeck_E h3 h5 hc
  rw [h] at h1
  exact (congrArg Prod.fst h1).symm
/-- The loop of owner: how it goes on, or ends. -/
def OwnRel (w wr : World) (m : Nat) (d : List Int) (k : Nat) : Prop := (∀ s, s < k → deckL (codeG (m + 1) (cardN d 0 ||| s * 2 ^ (m * (m - 1) / 2))) ≠ d) ∧ Below w.heap.size w wr
theorem OwnRel.next {w wr wr' : World} {m k : Nat} {d : List Int} (h : OwnRel w wr m d k) (hb : Below wr.heap.size wr wr') (q : deckL (codeG (m + 1) (cardN d 0 ||| k * 2 ^ (m * (m - 1) / 2))) ≠ d) : OwnRel w wr' m d (k + 1) :=
  ⟨fun s hs => by
    by_cases e : s = k
    · subst e; exact q
    · exact h.1 s (by omega), h.2.trans (hb.mono h.2.size)⟩

set_option maxHeartbeats 4000000 in
theorem owner_any (m : Nat) (h2 : 2 ≤ m) (h4 : m ≤ 4) (A : Option Addr) (c : Nat) (d : List Int) (hd : IsDeck (m + 1) d) (w : World) (h : Seen w A d) (hT : Tab w) :
    Calls Tryd.prog 66 #[.slice A (m + 1 : Nat) c] w (TwoB w (ownSaid (m + 1) d)) := by
  have ht := hT.lt
  have hl : d.length = m + 1 := hd.2.2.1
  have HE := Lib.hid (deckEdges_any (m + 1) A c d hd)
  have HD := Lib.hid hd
  have H := Lib.hid h
  have HT := Lib.hid hT
  have HL := Lib.hid hl
  obtain ⟨x, ok, eE⟩ : ∃ x ok, deckE (m + 1) d = (x, ok) := ⟨_, _, rfl⟩
  rw [eE] at HE
  have EE := Lib.hid eE
  clear hd h hT hl eE
  cases ok
  · rw [ownSaid_no (no_deck (by omega) (by omega) EE.out)]
    clear ht EE
    go_enter Tryd.func66, Tryd.ntmps66
    go_wp2_with fail
    refine (HE.out _ H.out).mono ?_
    rintro e w1 ⟨rfl, rfl⟩
    go_wp2
    go_ret2
    exact ⟨rfl, Below.refl _ _⟩
  · obtain ⟨S, eS⟩ : ∃ S, S = 2 ^ m := ⟨_, rfl⟩
    have hS16 : S ≤ 16 := by
      have : ∀ m ≤ 4, 2 ^ m ≤ 16 := by decide
      rw [eS]; exact this m h4
    have hS : wrap64 ((2 : Int) ^ m) = (S : Int) := by rw [eS, wrap_pow m (by omega)]
    have HS16 := Lib.hid hS16
    have HSE := Lib.hid eS
    have hca := HD.out.2.2.2 0 (by omega)
    obtain ⟨blk, off, rfl, hbl, hc0⟩ := H.out 0 (by have := HL.out; omega)
    rw [cardN_int hca] at hc0
    have HBL := Lib.hid hbl
    have hd1024 : cardN d 0 < 1024 := cardN_lt hca (by omega)
    have HD32 : Hid (cardN d 0 < 32768) := Lib.hid (by omega)
    have HD0 : Hid (cardN d 0 < codes m) := Lib.hid (by have h1 := hca.2; have h2 := hca.1; unfold cardN; rw [Nat.add_sub_cancel] at h1; omega)
    obtain ⟨D0, eD⟩ : ∃ D0, D0 = cardN d 0 := ⟨_, rfl⟩
    have HDD := Lib.hid eD
    rw [← eD] at hc0
    have HC0 := Lib.hid hc0
    have hm64 : m < 64 := by omega
    have HTT := Lib.hid ht
    clear hca hbl hd1024 eD hc0 eS hS16 ht
    go_enter Tryd.func66, Tryd.ntmps66
    go_wp2_with fail
    refine (HE.out _ H.out).mono ?_
    rintro e w1 ⟨rfl, rfl⟩
    go_wp2
    rw [hS]
    go_loopw [19] (fun i wr => ∃ k : Nat, k ≤ S ∧ i = .int .i64 k ∧ Hid (OwnRel w wr m d k)) (fun i _ => S - (intOf i).toNat)
    case atStart => exact ⟨0, Nat.zero_le _, rfl, Lib.hid ⟨fun s hs => absurd hs (by omega), Below.refl _ _⟩⟩
    case round =>
      obtain ⟨k, hk, rfl, hr⟩ := hrel
      by_cases hlt : k < S
      · have hk32 : k < 32 := by have := HS16.out; omega
        have hCl := cand_lt (m := m) (d := cardN d 0) (s := k) (by omega) HD0.out (by rw [← HSE.out]; exact hlt)
        have HOV := Lib.hid (over_fn m (cardN d 0) k (by omega) (by omega) HD32.out hk32 wr)
        have HNX := Lib.hid (fun (wr' : World) hb q => OwnRel.next (wr' := wr') hr.out hb q)
        obtain ⟨C, eC⟩ : ∃ C, C = cardN d 0 ||| k * 2 ^ (m * (m - 1) / 2) := ⟨_, rfl⟩
        rw [← eC] at hCl HOV HNX
        have hg := codeG_graph (n := m + 1) C (by omega) (by omega)
        have hgl := codeG_length (m + 1) C
        have hc0 : wr.cell? ⟨blk, off, none⟩ = some (.int .i64 ((D0 : Nat) : Int)) := (hr.out.2.cell (p := ⟨blk, off + 0, none⟩) HBL.out).trans HC0.out
        have HCL := Lib.hid hCl
        have HGG := Lib.hid hg
        have HGL := Lib.hid hgl
        have HTW := Lib.hid (HT.out.below hr.out.2 (by have := HTT.out; omega))
        have HSD := Lib.hid (H.out.below hr.out.2)
        rw [← HDD.out] at HOV
        have HSI := Lib.hid (fun A c w hs => size_fn A c (codeG (m + 1) C) HGG.out w hs)
        have HDK := Lib.hid (fun A c w hs ht => deck_fn A c (codeG (m + 1) C) ⟨HGG.out, by rw [HGL.out]; omega⟩ w hs ht)
        have HLS := Lib.hid (fun A c w hs ht => least_fn A c (codeG (m + 1) C) HGG.out w hs ht)
        rw [HGL.out] at HSI HDK HLS
        have HDL := Lib.hid (deckL_length (codeG (m + 1) C))
        rw [HGL.out] at HDL
        have hhas : ∀ q : deckL (codeG (m + 1) C) = d, HasDeck (m + 1) d C := fun q => ⟨HCL.out, q⟩
        have hsz : deckL (codeG (m + 1) C) = d → edgesN (codeG (m + 1) C) = x := fun q => has_size (by omega) (by omega) EE.out (hhas q)
        have hown : deckL (codeG (m + 1) C) = d → ownSaid (m + 1) d = (leastL (codeG (m + 1) C), true) := fun q => ownSaid_yes (by omega) (by omega) (hhas q)
        obtain ⟨le, ele⟩ : ∃ le, le = leastL (codeG (m + 1) C) := ⟨_, rfl⟩
        obtain ⟨sz, esz⟩ : ∃ sz, sz = edgesN (codeG (m + 1) C) := ⟨_, rfl⟩
        obtain ⟨dk, edk⟩ : ∃ dk, dk = deckL (codeG (m + 1) C) := ⟨_, rfl⟩
        rw [← ele] at HLS hown
        rw [← esz] at HSI hsz
        rw [← edk] at HDK HDL HNX hsz hown
        have HOWN := Lib.hid hown
        have HSZ := Lib.hid hsz
        have htw : 2 ≤ wr.heap.size := by have := HTT.out; have := hr.out.2.size; omega
        have HTW2 := Lib.hid htw
        clear eC hCl hg hgl hhas hsz hown ele esz edk htw HCL
        go_wp2_with fail
        refine HOV.out.mono ?_
        rintro e w1 ⟨v1, rfl, r1, b1⟩
        obtain ⟨A1, c1, rfl, s1⟩ := r1.seen
        rw [HGL.out]
        have B1 := Lib.hid b1
        have S1 := Lib.hid s1
        clear r1 s1 b1
        go_wp2_with fail
        refine (HSI.out A1 c1 w1 S1.out).mono ?_
        rintro e w2 ⟨rfl, b2⟩
        have B2 := Lib.hid (B1.out.trans (b2.mono B1.out.size))
        have S2 := Lib.hid (S1.out.below b2)
        clear b2
        by_cases hE : sz = x
        · have hbe : (((sz : Nat) : Int) == (x : Int)) = true := by simp [hE]
          clear hE
          go_wp2_with fail
          refine (HDK.out A1 c1 w2 S2.out (HTW.out.below B2.out HTW2.out)).mono ?_
          rintro e w3 ⟨v3, rfl, r3, b3⟩
          obtain ⟨A3, c3, rfl, s3⟩ := r3.seen
          rw [HDL.out]
          have B3 := Lib.hid (B2.out.trans (b3.mono B2.out.size))
          have S3 := Lib.hid s3
          have G3 := Lib.hid (S2.out.below b3)
          have D3 := Lib.hid (HSD.out.below B3.out)
          have HEQ := implEq_any A3 (some ⟨blk, off, none⟩) c3 c dk d w3 S3.out D3.out (by rw [HDL.out]; omega)
          rw [HDL.out, HL.out] at HEQ
          have HEQ2 := Lib.hid HEQ
          clear r3 s3 b3 HEQ
          by_cases hQ : dk = d
          · have hb2 : decide (dk = d) = true := decide_eq_true hQ
            have HO := Lib.hid (HOWN.out hQ)
            have HEQ3 := HEQ2.out
            unfold SaidEq at HEQ3
            rw [hb2] at HEQ3
            have HEQ4 := Lib.hid HEQ3
            clear hQ hb2 HEQ3
            go_wp2_with fail
            refine HEQ4.out.mono ?_
            rintro e w4 ⟨rfl, q, rfl⟩
            go_wp2_with fail
            refine (HLS.out A1 c1 (w3.drewN q) G3.out ((HTW.out.below B3.out HTW2.out).drewN q)).mono ?_
            rintro e w5 ⟨rfl, b5⟩
            go_wp2
            go_ret2
            rw [HO.out]
            exact ⟨rfl, hr.out.2.trans (((below_drewN B3.out q).trans (b5.mono B3.out.size)).mono hr.out.2.size)⟩
          · have hb2 : decide (dk = d) = false := decide_eq_false hQ
            have HN2 := Lib.hid (fun wr' hb => HNX.out wr' hb hQ)
            have HEQ3 := HEQ2.out
            unfold SaidEq at HEQ3
            rw [hb2] at HEQ3
            have HEQ4 := Lib.hid HEQ3
            clear hQ hb2 HEQ3
            go_wp2_with fail
            refine HEQ4.out.mono ?_
            rintro e w4 ⟨rfl, q, rfl⟩
            have N4 := Lib.hid (HN2.out _ (below_drewN B3.out q))
            go_wp2
            go_roundw
            case rel => exact ⟨k + 1, by omega, by go_num, N4⟩
            case measure => simp [intOf]; omega
        · have hbe : (((sz : Nat) : Int) == (x : Int)) = false := by simp; omega
          have HN2 := Lib.hid (HNX.out w2 B2.out (fun q => hE (HSZ.out q)))
          clear hE
          go_wp2
          go_roundw
          case rel => exact ⟨k + 1, by omega, by go_num, HN2⟩
          case measure => simp [intOf]; omega
      · have hkS : k = S := by omega
        subst hkS
        have hno2 : ¬ ∃ c, HasDeck (m + 1) d c := fun h => by
          obtain ⟨s, hs, q⟩ := has_cand h2 h4 h
          exact hr.out.1 s (by rw [HSE.out]; exact hs) q
        have HNO := Lib.hid hno2
        clear hno2
        go_wp2
        go_ret2
        rw [ownSaid_no HNO.out]
        exact ⟨rfl, hr.out.2⟩
end Go.Proofs.YtogmfbhnnnoipaaDoor
