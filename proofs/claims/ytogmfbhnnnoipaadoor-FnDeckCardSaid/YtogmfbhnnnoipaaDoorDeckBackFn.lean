/- DeckBack, by the program and by the model. -/
import Derived.Test.YtogmfbhnnnoipaaDoorOwner
import Derived.Test.YtogmfbhnnnoipaaDoorAsDeck
import Derived.Test.YtogmfbhnnnoipaaDoorSpecDeckEdges
import Derived.Test.YtogmfbhnnnoipaaDoorSpecDeck
import Derived.Test.YtogmfbhnnnoipaaDoorSizeCode
import Derived.Test.YtogmfbhnnnoipaaDoorSpecOf
import Derived.Test.YtogmfbhnnnoipaaDoorBaseB
namespace Go.Proofs.YtogmfbhnnnoipaaDoor
open Go Go.RowKit
set_option linter.unusedVariables false
set_option maxRecDepth 100000

theorem pairs_manyB : ∀ n : Fin 7, wrap64 ((wrap64 ((n.val : Int) * ((n.val : Int) - 1))).tdiv 2) = ((rows n.val).length : Int) := by decide +kernel
open Classical in
/-- What DeckBack answers. -/
noncomputable def backSaid (n : Int) (d : List Int) : Nat × Bool := if 3 ≤ n ∧ n ≤ 5 ∧ IsDeck n.toNat d then ownSaid n.toNat d else (0, false)
theorem backSaid_yes {n : Nat} {d : List Int} (h3 : 3 ≤ n) (h5 : n ≤ 5) (hd : IsDeck n d) : backSaid n d = ownSaid n d := by
  unfold backSaid
  rw [if_pos ⟨by omega, by omega, by rw [Int.toNat_natCast]; exact hd⟩, Int.toNat_natCast]
theorem backSaid_no {n : Int} {d : List Int} (h : ¬ (3 ≤ n ∧ n ≤ 5 ∧ IsDeck n.toNat d)) : backSaid n d = (0, false) := if_neg h

set_option maxHeartbeats 2000000 in
theorem implBack_any (n : Int) (B : Nat) (v : Value) (L : List Int) (w : World) (h : Row w B v L) (hT : Tab w) :
    Calls Tryd.prog 32 #[.int .i64 n, v] w (NumOkA w (backSaid n L).1 (backSaid n L).2) := by
  obtain ⟨A, c, rfl, hs⟩ := h.seen
  by_cases hd : n = (n.toNat : Int) ∧ IsDeck n.toNat L
  · have H1 := Lib.hid ((asDeck_any n A c L w hs).mono fun e w' h => h.1 hd)
    obtain ⟨hn, hdk⟩ := hd
    obtain ⟨m, hm⟩ : ∃ m, n.toNat = m + 1 := ⟨n.toNat - 1, by have := hdk.1; omega⟩
    rw [hm] at hdk hn
    by_cases h5 : n ≤ 5
    · have h3 := hdk.1
      have hb : decide (5 < n) = false := decide_eq_false (by omega)
      have hbs : backSaid n L = ownSaid (m + 1) L := by rw [hn]; exact backSaid_yes hdk.1 (by omega) hdk
      have H2 := Lib.hid (owner_any m (by omega) (by omega) A c L hdk w hs hT)
      have hl : L.length = m + 1 := hdk.2.2.1
      rw [hbs]
      rw [hl] at H1 ⊢
      obtain ⟨x, ok, exo⟩ : ∃ x ok, ownSaid (m + 1) L = (x, ok) := ⟨_, _, rfl⟩
      rw [exo] at H2 ⊢
      clear hs hn hdk h5 hT h h3 hbs exo hl hm
      go_enter Tryd.func32, Tryd.ntmps32
      go_wp2_with fail
      refine H1.out.mono ?_
      rintro e w1 ⟨rfl, rfl⟩
      go_wp2_with fail
      refine H2.out.mono ?_
      rintro e w2 ⟨rfl, b2⟩
      go_wp2
      go_ret2
      exact ⟨rfl, b2⟩
    · have hb : decide (5 < n) = true := decide_eq_true (by omega)
      rw [backSaid_no (fun h => h5 h.2.1)]
      clear hs hn hdk h5 hT h hm
      go_enter Tryd.func32, Tryd.ntmps32
      go_wp2_with fail
      refine H1.out.mono ?_
      rintro e w1 ⟨rfl, rfl⟩
      go_wp2
      go_ret2
      exact ⟨rfl, Below.refl _ _⟩
  · have H1 := Lib.hid ((asDeck_any n A c L w hs).mono fun e w' h => h.2 hd)
    rw [backSaid_no (fun h => hd ⟨by omega, h.2.2⟩)]
    clear hs hd hT h
    go_enter Tryd.func32, Tryd.ntmps32
    go_wp2_with fail
    refine H1.out.mono ?_
    rintro e w1 ⟨rfl, rfl⟩
    go_wp2
    go_ret2
    exact ⟨rfl, Below.refl _ _⟩

/-- The first code with the deck is the least one of its graphs. -/
theorem first_least {n : Nat} (h3 : 3 ≤ n) (h5 : n ≤ 5) {d : List Int} {c : Nat} (h : HasDeck n d c) (hf : ∀ c', c' < c → ¬ HasDeck n d c') : ownSaid n d = (c, true) := by
  rw [ownSaid_yes h3 h5 h]
  have hb := back_facts h3 h5 h.1
  have h2 := hb.2.1
  rcases Nat.lt_or_ge (leastL (codeG n c)) c with h4 | h4
  · exact absurd ⟨Nat.lt_trans h4 h.1, hb.2.2.1.trans h.2⟩ (hf _ h4)
  · rw [show leastL (codeG n c) = c by omega]
theorem code_size {n c : Nat} (hn : n ≤ 6) (hc : c < 2 ^ (rows n).length) : edgesN (codeG n c) = pcf 15 c := by
  unfold edgesN
  rw [codeG_code hn hc]

set_option maxHeartbeats 4000000 in
theorem specBack_deck (n : Nat) (h3 : 3 ≤ n) (h5 : n ≤ 5) (A : Option Addr) (c : Nat) (d : List Int) (hd : IsDeck n d) (w : World) (h : Seen w A d) :
    Calls Tryd.prog 31 #[.int .i64 n, .slice A n c] w (TwoB w (ownSaid n d)) := by
  have H1 := Lib.hid (specDeckEdges_any n A c d w h)
  rw [deSaid_yes hd] at H1
  have hl : d.length = n := hd.2.2.1
  rw [hl] at H1
  obtain ⟨x, ok, eE⟩ : ∃ x ok, deckE n d = (x, ok) := ⟨_, _, rfl⟩
  rw [eE] at H1
  have hb : decide (5 < (n : Int)) = false := decide_eq_false (by omega)
  cases ok
  · rw [ownSaid_no (no_deck h3 h5 eE)]
    clear hd h hl eE
    go_enter Tryd.func31, Tryd.ntmps31
    go_wp2_with fail
    refine H1.out.mono ?_
    rintro e w1 ⟨rfl, q, rfl⟩
    go_wp2
    go_ret2
    exact ⟨rfl, below_drewN (Below.refl _ _) q⟩
  · obtain ⟨P, eP⟩ : ∃ P, P = (rows n).length := ⟨_, rfl⟩
    have hP10 : P ≤ 10 := by
      have : ∀ n ≤ 5, (rows n).length ≤ 10 := by decide
      rw [eP]; exact this n h5
    have hm : wrap64 ((wrap64 ((n : Int) * ((n : Int) - 1))).tdiv 2) = (P : Int) := by rw [eP]; exact pairs_manyB ⟨n, by omega⟩
    obtain ⟨S, eS⟩ : ∃ S, S = 2 ^ P := ⟨_, rfl⟩
    have hS1024 : S ≤ 1024 := by
      have : ∀ P ≤ 10, 2 ^ P ≤ 1024 := by decide
      rw [eS]; exact this P hP10
    have hS : wrap64 ((2 : Int) ^ P) = (S : Int) := by rw [eS, wrap_pow P (by omega)]
    have hP64 : P < 64 := by omega
    have HS := Lib.hid (show S = 2 ^ (rows n).length by rw [eS, eP])
    have HS1 := Lib.hid hS1024
    have EE := Lib.hid eE
    have HL := Lib.hid hl
    have H := Lib.hid h
    clear hd h hl eE eP eS hP10 hS1024
    go_enter Tryd.func31, Tryd.ntmps31
    go_wp2_with fail
    refine H1.out.mono ?_
    rintro e w1 ⟨rfl, q, rfl⟩
    have B0 := Lib.hid (below_drewN (Below.refl w.heap.size w) q)
    go_wp2
    go_loopw [8] (fun i wr => ∃ k : Nat, k ≤ S ∧ i = .int .i64 k ∧ Hid (∀ c', c' < k → ¬ HasDeck n d c') ∧ Hid (Below w.heap.size w wr)) (fun i _ => S - (intOf i).toNat)
    case atStart => exact ⟨0, Nat.zero_le _, rfl, Lib.hid (fun c' h => absurd h (by omega)), B0⟩
    case round =>
      obtain ⟨k, hk, rfl, hf, hb'⟩ := hrel
      by_cases hlt : k < S
      · have hkS : k < 2 ^ (rows n).length := by rw [← HS.out]; exact hlt
        have hk15 : k < 32768 := by have := HS1.out; omega
        have hk2 : k < 2000 := by have := HS1.out; omega
        have hes := code_size (n := n) (by omega) hkS
        have hgg := codeG_graph (n := n) k (by omega) (by omega)
        have hgl := codeG_length n k
        have HGL := Lib.hid hgl
        have HSC := Lib.hid (fun w => size_code k hk15 w)
        have HOF := Lib.hid (specOf_any n k wr (by omega) (by omega) (Nat.lt_trans hk15 (by decide)))
        have HDK := Lib.hid (fun A c w hs => specDeck_seen A c (codeG n k) hgg (by rw [hgl]; omega) w hs)
        rw [hgl] at HDK
        have HDL := Lib.hid (deckL_length (codeG n k))
        rw [hgl] at HDL
        have HSD := Lib.hid (H.out.below hb'.out)
        have hnx : ∀ q : ¬ HasDeck n d k, ∀ c', c' < k + 1 → ¬ HasDeck n d c' := fun q c' hc => by
          rcases Nat.lt_or_ge c' k with h1 | h1
          · exact hf.out c' h1
          · have : c' = k := by omega
            subst this; exact q
        have HNX := Lib.hid hnx
        have HFN := Lib.hid (fun q : deckL (codeG n k) = d => first_least h3 h5 (c := k) ⟨hkS, q⟩ hf.out)
        have HSZ := Lib.hid (fun q : HasDeck n d k => (has_size h3 h5 EE.out q).symm.trans hes)
        obtain ⟨dk, edk⟩ : ∃ dk, dk = deckL (codeG n k) := ⟨_, rfl⟩
        have HDD := Lib.hid edk
        rw [← edk] at HDK HDL HFN
        obtain ⟨sz, esz⟩ : ∃ sz, sz = pcf 15 k := ⟨_, rfl⟩
        rw [← esz] at HSC HSZ
        clear hkS hk15 hes hgg hgl edk esz hnx
        by_cases hE : sz = x
        · have hbe : (((sz : Nat) : Int) == (x : Int)) = true := by simp [hE]
          clear hE
          go_wp2_with fail
          refine (HSC.out _).mono ?_
          rintro e w2 ⟨rfl, rfl⟩
          go_wp2_with fail
          refine HOF.out.mono ?_
          rintro e w3 ⟨v3, rfl, r3, b3⟩
          have r3' : Row w3 wr.heap.size v3 (codeG n k) := r3
          obtain ⟨A3, c3, rfl, s3⟩ := r3'.seen
          rw [HGL.out]
          have B3 := Lib.hid b3
          have S3 := Lib.hid s3
          clear r3 r3' s3 b3
          go_wp2_with fail
          refine (HDK.out A3 c3 w3 S3.out).mono ?_
          rintro e w4 ⟨v4, rfl, r4, b4⟩
          obtain ⟨A4, c4, rfl, s4⟩ := r4.seen
          rw [HDL.out]
          have B4 := Lib.hid (B3.out.trans (b4.mono B3.out.size))
          have S4 := Lib.hid s4
          have D4 := Lib.hid (HSD.out.below B4.out)
          have HEQ := specEq_any A4 A c4 c dk d w4 S4.out D4.out (by rw [HDL.out]; omega)
          rw [HDL.out, HL.out] at HEQ
          have HEQ2 := Lib.hid HEQ
          clear r4 s4 b4 HEQ
          by_cases hQ : dk = d
          · have hb2 : decide (dk = d) = true := decide_eq_true hQ
            have HO := Lib.hid (HFN.out hQ)
            have HEQ3 := HEQ2.out
            unfold SaidEq at HEQ3
            rw [hb2] at HEQ3
            have HEQ4 := Lib.hid HEQ3
            clear hQ hb2 HEQ3
            go_wp2_with fail
            refine HEQ4.out.mono ?_
            rintro e w5 ⟨rfl, q5, rfl⟩
            go_wp2
            go_ret2
            rw [HO.out]
            exact ⟨rfl, hb'.out.trans ((below_drewN B4.out q5).mono hb'.out.size)⟩
          · have hb2 : decide (dk = d) = false := decide_eq_false hQ
            have HN2 := Lib.hid (HNX.out (fun q => hQ (HDD.out.trans q.2)))
            have HEQ3 := HEQ2.out
            unfold SaidEq at HEQ3
            rw [hb2] at HEQ3
            have HEQ4 := Lib.hid HEQ3
            clear hQ hb2 HEQ3
            go_wp2_with fail
            refine HEQ4.out.mono ?_
            rintro e w5 ⟨rfl, q5, rfl⟩
            have B5 := Lib.hid (hb'.out.trans ((below_drewN B4.out q5).mono hb'.out.size))
            go_wp2
            go_roundw
            case rel => exact ⟨k + 1, by omega, by go_num, HN2, B5⟩
            case measure => simp [intOf]; omega
        · have hbe : (((sz : Nat) : Int) == (x : Int)) = false := by simp; omega
          have HN2 := Lib.hid (HNX.out (fun q => hE (HSZ.out q).symm))
          clear hE
          go_wp2_with fail
          refine (HSC.out _).mono ?_
          rintro e w2 ⟨rfl, rfl⟩
          go_wp2
          go_roundw
          case rel => exact ⟨k + 1, by omega, by go_num, HN2, hb'⟩
          case measure => simp [intOf]; omega
      · have hkS : k = S := by omega
        have HNO := Lib.hid (show ¬ ∃ c, HasDeck n d c from fun ⟨c1, h1⟩ => hf.out c1 (by rw [hkS, HS.out]; exact h1.1) h1)
        have hbk : decide ((k : Int) < (S : Int)) = false := decide_eq_false (by omega)
        go_wp2
        go_ret2
        rw [ownSaid_no HNO.out]
        exact ⟨rfl, hb'.out⟩

set_option maxHeartbeats 2000000 in
theorem specBack_any (n : Int) (B : Nat) (v : Value) (L : List Int) (w : World) (h : Row w B v L) :
    Calls Tryd.prog 31 #[.int .i64 n, v] w (NumOkA w (backSaid n L).1 (backSaid n L).2) := by
  obtain ⟨A, c, rfl, hs⟩ := h.seen
  by_cases hd : n = (n.toNat : Int) ∧ IsDeck n.toNat L
  · obtain ⟨hn, hdk⟩ := hd
    obtain ⟨m, hm⟩ : ∃ m, n.toNat = m := ⟨n.toNat, rfl⟩
    rw [hm] at hdk hn
    by_cases h5 : n ≤ 5
    · have hbs : backSaid n L = ownSaid m L := by rw [hn]; exact backSaid_yes hdk.1 (by omega) hdk
      have h1 := specBack_deck m hdk.1 (by omega) A c L hdk w hs
      rw [hbs, hn]
      rw [← hdk.2.2.1] at h1 ⊢
      exact h1
    · have hb : decide (5 < n) = true := decide_eq_true (by omega)
      have H1 := Lib.hid (specDeckEdges_any n A c L w hs)
      rw [backSaid_no (fun h => h5 h.2.1)]
      obtain ⟨x, ok, eE⟩ : ∃ x ok, deSaid n L = (x, ok) := ⟨_, _, rfl⟩
      rw [eE] at H1
      clear hs hn hdk h5 h hm eE
      cases ok
      all_goals
        go_enter Tryd.func31, Tryd.ntmps31
        go_wp2_with fail
        refine H1.out.mono ?_
        rintro e w1 ⟨rfl, q, rfl⟩
        go_wp2
        go_ret2
        exact ⟨rfl, below_drewN (Below.refl _ _) q⟩
  · have H1 := Lib.hid (specDeckEdges_any n A c L w hs)
    rw [deSaid_no hd] at H1
    rw [backSaid_no (fun h => hd ⟨by omega, h.2.2⟩)]
    clear hs hd h
    go_enter Tryd.func31, Tryd.ntmps31
    go_wp2_with fail
    refine H1.out.mono ?_
    rintro e w1 ⟨rfl, q, rfl⟩
    go_wp2
    go_ret2
    exact ⟨rfl, below_drewN (Below.refl _ _) q⟩
end Go.Proofs.YtogmfbhnnnoipaaDoor
