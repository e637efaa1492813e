/- The model's deck. -/
import Derived.Test.YtogmfbhnnnoipaaDoorSpecSorted
import Derived.Test.YtogmfbhnnnoipaaDoorBaseB
import Derived.Test.YtogmfbhnnnoipaaDoorDropFn
namespace Go.Proofs.YtogmfbhnnnoipaaDoor
open Go.RowKit
set_option linter.unusedVariables false
set_option maxRecDepth 100000

set_option maxHeartbeats 4000000 in
theorem specDeck_seen (A : Option Addr) (c : Nat) (L : List Int) (hg : IsGraph L) (h2 : 2 ≤ L.length) (w : World) (h : Seen w A L) :
    Calls Tryd.prog 64 #[.slice A L.length c] w (Gave w (deckL L)) := by
  have h1 := hg.1
  have h6 := hg.2.1
  obtain ⟨n, hn⟩ : ∃ n, n = L.length := ⟨_, rfl⟩
  rw [← hn] at h1 h2 h6 ⊢
  have HN := Lib.hid hn
  have H := Lib.hid h
  have HG := Lib.hid hg
  have R0 : Hid (Row (w.alloc (.cells #[] 3)) w.heap.size (.slice (some ⟨w.heap.size, 0, none⟩) 0 0) (deckTo L 0)) := Lib.hid (World.ownsRow_lit (base := w.heap.size) (e := 3) (size := 1) w #[] 0 (Nat.le_refl _) (by unfold maxLen; omega) rfl)
  have B0 := Lib.hid ((Below.refl w.heap.size w).alloc (Nat.le_refl _) (.cells #[] 3))
  clear hn h hg
  go_enter Tryd.func64, Tryd.ntmps64
  go_wp2
  go_loopw [3, 4] (fun o i wr => ∃ k b cp : Nat, k ≤ n ∧ i = .int .i64 k ∧ o = .slice (some ⟨b, 0, none⟩) k cp ∧ Hid (Row wr w.heap.size (.slice (some ⟨b, 0, none⟩) k cp) (deckTo L k)) ∧ Hid (Below w.heap.size w wr)) (fun _ i _ => n - (intOf i).toNat)
  case atStart => exact ⟨0, _, 0, Nat.zero_le _, rfl, rfl, R0, B0⟩
  case round =>
    obtain ⟨k, b, cp, hk, rfl, rfl, hr, hb⟩ := hrel
    by_cases hlt : k < n
    · obtain ⟨P, Q, p, s, hQ, ⟨p1, p2, p3, p4, p5⟩, ⟨q1, q2⟩, f1, es⟩ := drop_step h6 hlt
      have hsl : dropSet n k < 2 ^ n := dropSet_lt h6 hlt
      have hsn : Seen wr.drew A L := H.out.below hb.out.drew
      have HPA := Lib.hid (specPart_seen A c L HG.out (dropSet n k) (by rw [← HN.out]; exact hsl) wr.drew hsn)
      rw [← partG_eq HG.out (by rw [← HN.out]; exact hsl), ← HN.out] at HPA
      have hdr : partG L (dropSet n k) = dropG L k := by unfold dropG; rw [HN.out]
      rw [hdr, ← es] at HPA
      have hdg := dropG_graph HG.out (v := k) (by rw [← HN.out]; exact h2) (by rw [← HN.out]; exact hlt)
      have HDG := Lib.hid hdg
      have hst := deckTo_succ L k
      have HST := Lib.hid hst
      have hk64 : k < 64 := by omega
      have hn64 : n < 64 := by omega
      have hsz : w.heap.size ≤ wr.heap.size := hb.out.size
      have R2 := Lib.hid (Row.drewN hr.out 1)
      clear hQ es hsl hsn hdr hdg hst R0 B0
      go_wp2
      go_region_held_law (fun w' => True) (trivial) (first
        | (refine step_list rfl (.tmp 12) (.tmp 23) rfl (w2.alloc (.cells #[.int .i64 card] 3)) w.heap.size (.slice (some ⟨b, 0, none⟩) k cp) (deckTo L k) [(card : Int)] w2.heap.size 0 1 1 rfl rfl rfl (Row.alloc KR.out _) (one_cells (Boxed.new w2 3 (.int .i64 card)).cell) (Nat.le_trans hsz2.out (World.size_alloc _ _ ▸ Nat.le_succ _)) (by rw [deckTo_length, List.length_singleton]; omega) ?_
           intro v3 w3 hv3 hb3 hg3 ha3
           obtain ⟨gb, gc, hgc, rfl⟩ := row_shape (m := k) hv3.out (by rw [List.length_append, deckTo_length, List.length_singleton])
           have R3 := Lib.hid hv3.out
           have B3 := Lib.hid (B2.out.trans (((Below.refl w.heap.size w2).alloc hsz2.out _).trans hb3.out))
           clear hv3 hb3 hg3 ha3)
        | (go_at_call 86; refine HPA.out.mono ?_; rintro e w1 ⟨v1, rfl, r1, hb1⟩
           obtain ⟨A1, c1, rfl, s1⟩ := r1.seen
           have HLE := Lib.hid (specLeast_seen A1 c1 (dropG L k) HDG.out w1 s1)
           have HB1 := Lib.hid hb1
           clear r1 s1 hb1)
        | (go_at_call 85; refine HLE.out.mono ?_; rintro e w2 ⟨rfl, hb2⟩
           have hz : Below wr.heap.size wr w2 := (Below.refl _ wr).drew.trans (HB1.out.trans (hb2.mono HB1.out.size))
           have KR := Lib.hid (Row.below hr.out hz)
           have B2 := Lib.hid (hb.out.trans (hz.mono hsz))
           have hsz2 : Hid (w.heap.size ≤ w2.heap.size) := Lib.hid (Nat.le_trans hsz hz.size)
           obtain ⟨card, ec⟩ : ∃ card, card = leastL (dropG L k) := ⟨_, rfl⟩
           have EC := Lib.hid (show (card : Nat) = cardOf L k from ec)
           rw [← ec]
           clear ec hb2 hz))
      all_goals
        go_wp2
        go_roundw
        case rel => exact ⟨k + 1, gb, gc, by omega, by go_num, rfl, Lib.hid (by rw [HST.out, ← EC.out]; exact R3.out), B3⟩
        case measure => simp [intOf]; omega
    · have hkn : k = n := by omega
      subst hkn
      have hsn : Seen wr (some ⟨b, 0, none⟩) (deckTo L k) := by
        obtain ⟨A1, c1, e1, s1⟩ := hr.out.seen
        injection e1 with e2
        rw [e2]
        exact s1
      have HSO := Lib.hid (specSorted_seen (some ⟨b, 0, none⟩) cp (deckTo L k) (by rw [deckTo_length]; omega) wr hsn)
      rw [deckTo_length] at HSO
      clear hsn
      go_wp2_with fail
      refine HSO.out.mono ?_
      rintro e w1 ⟨v1, rfl, r1, b1⟩
      go_wp2
      go_ret
      have he : deckL L = sortL (deckTo L k) := by unfold deckL; rw [← HN.out]
      exact ⟨_, rfl, by rw [he]; exact r1.mono hb.out.size, hb.out.trans (b1.mono hb.out.size)⟩
end Go.Proofs.YtogmfbhnnnoipaaDoor
