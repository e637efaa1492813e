/- The law FnExactDeckDegrees at each list. -/
import Derived.Test.YtdhfnjpjccjkcaaDoorDegFn
import Derived.Test.YtdhfnjpjccjkcaaDoorDeckOfFn
import Derived.Test.YtdhfnjpjccjkcaaDoorDeckDegreesOf
import Derived.Deep.RegionHeldLaw
import Derived.Test.YtdhfnjpjccjkcaaDoorSpecSize
namespace Go.Proofs.YtdhfnjpjccjkcaaDoor
open Go Go.RowKit
set_option linter.unusedVariables false
set_option maxRecDepth 100000

def Three (L : List Int) : Prop := IsGraph L ∧ 3 ≤ L.length
theorem Three.two {L : List Int} (h : Three L) : Two L := ⟨h.1, by have := h.2; omega⟩
open Classical in
noncomputable def degSaid (L : List Int) : List Int × Bool := if Three L then (degL L, true) else ([], false)
theorem degSaid_yes {L : List Int} (h : Three L) : degSaid L = (degL L, true) := if_pos h
theorem degSaid_no {L : List Int} (h : ¬ Three L) : degSaid L = ([], false) := if_neg h
theorem degSaid_length (L : List Int) : (degSaid L).1.length ≤ 1000 := by
  by_cases h : Three L
  · rw [degSaid_yes h]
    show (degL L).length ≤ 1000
    rw [degL_length]
    have := h.1.2.1
    omega
  · rw [degSaid_no h]; simp

set_option maxHeartbeats 1000000 in
theorem implDeckDegrees_any (B : Nat) (v : Value) (L : List Int) (w : World) (h : Row w B v L) (hT : Tab w) :
    Calls Tryd.prog 23 #[v] w (Told w (degSaid L).1 (degSaid L).2) := by
  have ht := hT.lt
  by_cases hg : IsGraph L
  · have H1 := Lib.hid (asG_graph B v L hg w h hT)
    obtain ⟨A, c, rfl, hs⟩ := h.seen
    by_cases h3 : 3 ≤ L.length
    · have hTh : Three L := ⟨hg, h3⟩
      rw [degSaid_yes hTh]
      have hd : decide ((L.length : Int) < 3) = false := decide_eq_false (by omega)
      have H2 := Lib.hid (fun w1 (b : Below w.heap.size w w1) => deck_fn A c L hTh.two w1 (hs.below b) (hT.below b (by omega)))
      have H3 := Lib.hid (fun A1 c1 w1 hs1 => degrees_fn A1 c1 L hg h3 w1 hs1)
      clear hg h hs hT h3 hTh
      go_enter Tryd.func23, Tryd.ntmps23
      go_wp2_with fail
      refine H1.out.mono ?_
      rintro e w1 ⟨rfl, b1⟩
      go_wp2_with fail
      refine (H2.out _ b1).mono ?_
      rintro e w2 ⟨u, rfl, hu, b2⟩
      obtain ⟨A1, c1, rfl, s1⟩ := hu.seen
      rw [deckL_length]
      have B2 := Lib.hid (b1.trans (b2.mono b1.size))
      have H4 := Lib.hid (H3.out A1 c1 _ s1)
      clear hu s1 b1 b2
      go_wp2_with fail
      refine H4.out.mono ?_
      rintro e w3 ⟨u3, rfl, hu3, b3⟩
      go_wp2
      go_ret2
      exact ⟨_, rfl, hu3.mono B2.out.size, B2.out.trans (b3.mono B2.out.size)⟩
    · rw [degSaid_no (fun h => h3 h.2)]
      have hd : decide ((L.length : Int) < 3) = true := decide_eq_true (by omega)
      clear hg h hs hT h3
      go_enter Tryd.func23, Tryd.ntmps23
      go_wp2_with fail
      refine H1.out.mono ?_
      rintro e w1 ⟨rfl, b1⟩
      go_wp2
      go_ret2
      exact ⟨_, rfl, World.ownsRow_nil w1 w.heap.size 3 1, b1⟩
  · have H1 := Lib.hid (asG_none B v L hg w h hT)
    rw [degSaid_no (fun h => hg h.1)]
    clear hg h
    go_enter Tryd.func23, Tryd.ntmps23
    go_wp2_with fail
    refine H1.out.mono ?_
    rintro e w1 ⟨rfl, b1⟩
    go_wp2
    go_ret2
    exact ⟨_, rfl, World.ownsRow_nil w1 w.heap.size 3 1, b1⟩

def missTo (E : Nat) (xs : List Int) (k : Nat) : List Int := (xs.take k).map (missing E)
theorem missTo_length (E : Nat) (xs : List Int) (k : Nat) (h : k ≤ xs.length) : (missTo E xs k).length = k := by simp [missTo]; omega
theorem missTo_succ (E : Nat) (xs : List Int) (k : Nat) (h : k < xs.length) : missTo E xs (k + 1) = missTo E xs k ++ [missing E (xs[k]?.getD 0)] := by
  unfold missTo
  rw [List.take_succ_eq_append_getElem h, List.map_append, List.getElem?_eq_getElem h]
  rfl
set_option maxHeartbeats 4000000 in
theorem specDeckDegrees_yes (B : Nat) (v : Value) (L : List Int) (hTh : Three L) (w : World) (h : Row w B v L) :
    Calls Tryd.prog 22 #[v] w (Told w (degL L) true) := by
  have H1 := Lib.hid (specDeckOf_any B v L w h)
  rw [deckSaid_yes hTh.two] at H1
  obtain ⟨A, c, rfl, hs⟩ := h.seen
  have h3 := hTh.2
  have hg := hTh.1
  have h6 := hg.2.1
  have hd : decide ((L.length : Int) < 3) = false := decide_eq_false (by omega)
  have HSE := Lib.hid (fun w hs => specEdges_seen A c L hg w hs)
  have hE15 := edgesN_le L
  have hmem : ∀ x ∈ deckL L, ∃ c : Nat, x = (c : Int) ∧ c < 1024 := fun x hx => by
    obtain ⟨y, rfl, hy⟩ := deck_mem hg (by omega) x hx
    have h5 : codes (L.length - 1) ≤ 1024 := by
      have : ∀ m ≤ 5, codes m ≤ 1024 := by decide
      exact this _ (by omega)
    exact ⟨y, rfl, by omega⟩
  have hdl := deckL_length L
  have hdeg : degL L = sortL ((deckL L).map (missing (edgesN L))) := rfl
  obtain ⟨E, eE⟩ : ∃ E, E = edgesN L := ⟨_, rfl⟩
  obtain ⟨D, eD⟩ : ∃ D, D = deckL L := ⟨_, rfl⟩
  rw [← eE] at HSE hE15 hdeg
  rw [← eD] at H1 hmem hdl hdeg
  obtain ⟨n, hn⟩ : ∃ n, n = L.length := ⟨_, rfl⟩
  rw [← hn] at HSE hdl h6 h3 hd ⊢
  rw [← hn] at H1
  have HDEG := Lib.hid hdeg
  have HMEM := Lib.hid hmem
  have HDL := Lib.hid hdl
  have H := Lib.hid hs
  clear hdeg hmem hdl hs hn eE eD hg hTh h
  go_enter Tryd.func22, Tryd.ntmps22
  go_wp2_with fail
  refine H1.out.mono ?_
  rintro e w1 ⟨u, rfl, hu, b1⟩
  obtain ⟨Ad, cd, rfl, sd⟩ := hu.seen
  rw [HDL.out]
  have R0 : Hid (Row (w1.alloc (.cells #[] 3)) w1.heap.size (.slice (some ⟨w1.heap.size, 0, none⟩) 0 0) (missTo E D 0)) := Lib.hid (World.ownsRow_lit (base := w1.heap.size) (e := 3) (size := 1) w1 #[] 0 (Nat.le_refl _) (by unfold maxLen; omega) rfl)
  have B0 := Lib.hid ((Below.refl w1.heap.size w1).alloc (Nat.le_refl _) (.cells #[] 3))
  have B1 := Lib.hid b1
  have S0 := Lib.hid (sd.seenB.below ((Below.refl _ w1).alloc (Nat.le_refl _) (.cells #[] 3)))
  clear hu sd b1
  go_wp2
  obtain ⟨wz, rfl⟩ : ∃ wz : World, wz = w1 := ⟨_, rfl⟩
  go_loopw [6, 7] (fun o i wr => ∃ k b cp : Nat, k ≤ n ∧ i = .int .i64 k ∧ o = .slice (some ⟨b, 0, none⟩) k cp ∧ Hid (Row wr wz.heap.size (.slice (some ⟨b, 0, none⟩) k cp) (missTo E D k)) ∧ Hid (SeenB wz.heap.size wr Ad D) ∧ Hid (Below wz.heap.size wz wr)) (fun _ i _ => n - (intOf i).toNat)
  case atStart => exact ⟨0, _, 0, Nat.zero_le _, rfl, rfl, R0, S0, B0⟩
  case round =>
    obtain ⟨k, b, cp, hk, rfl, rfl, hr, hs, hb⟩ := hrel
    by_cases hlt : k < n
    · have hkD : k < D.length := by rw [HDL.out]; exact hlt
      obtain ⟨bd, od, rfl, hbd, hc⟩ := hs.out k hkD
      have hmk := HMEM.out (D[k]?.getD 0) (by rw [List.getElem?_eq_getElem hkD]; exact List.getElem_mem hkD)
      obtain ⟨x, ex, hx⟩ := hmk
      have hst := missTo_succ E D k hkD
      rw [ex] at hc hst
      have hSC := fun w => size_code x (by omega) w
      have hp15 := pcf_le 15 x
      have hmiss : missing E ((x : Nat) : Int) = (E : Int) - ((pcf 15 x : Nat) : Int) := by unfold missing; rw [Int.toNat_natCast]
      rw [hmiss] at hst
      obtain ⟨p, ep⟩ : ∃ p, p = pcf 15 x := ⟨_, rfl⟩
      rw [← ep] at hSC hp15 hst
      have HSC := Lib.hid hSC
      have HST := Lib.hid hst
      have HS1 := Lib.hid (HSE.out wr.drew (H.out.below (B1.out.trans (hb.out.drew.mono B1.out.size))))
      have hi1 : (0 : Int) ≤ (k : Int) ∧ (k : Int) < (n : Int) := by omega
      have KR : Hid (Row wr.drew wz.heap.size (.slice (some ⟨b, 0, none⟩) k cp) (missTo E D k)) := Lib.hid (Row.drewN hr.out 1)
      have hlk := missTo_length E D k (by omega)
      have HLK := Lib.hid hlk
      have hsz : wz.heap.size ≤ wr.heap.size := hb.out.size
      have HSZ := Lib.hid hsz
      obtain ⟨z, ez⟩ : ∃ z, z = (E : Int) - (p : Int) := ⟨_, rfl⟩
      have hwr : wrap64 ((E : Int) - (p : Int)) = z := by rw [ez]; unfold wrap64; omega
      have hwr2 : IntKind.i64.wrap ((E : Int) - (p : Int)) = z := by rw [ez, IntKind.wrap_i64]; omega
      have HZ := Lib.hid ez
      have hcd : wr.drew.cell? ⟨bd, od + k, none⟩ = some (.int .i64 x) := hc
      have hcA : ∀ o, (wr.drew.alloc o).cell? ⟨bd, od + k, none⟩ = some (.int .i64 x) := fun o => (((Below.refl wz.heap.size wr).drew.alloc hsz o).cell (p := ⟨bd, od + k, none⟩) hbd).trans hc
      have HBD := Lib.hid hbd
      have HCC := Lib.hid hc
      clear hSC hst hmiss ep hlk hsz ex ez R0 B0 S0 hkD hbd
      go_wp2
      go_region_held_law (fun w' => w'.cell? ⟨bd, od + k, none⟩ = some (.int .i64 x)) (first | assumption | exact hcA _) (first
        | (refine step_list rfl (.tmp 28) (.tmp 37) rfl (wr.drew.alloc (.cells #[.int .i64 z] 3)) wz.heap.size (.slice (some ⟨b, 0, none⟩) k cp) (missTo E D k) [z] wr.heap.size 0 1 1 rfl rfl rfl (Row.alloc KR.out _) (one_cells (Boxed.new wr.drew 3 (.int .i64 z)).cell) (Nat.le_trans HSZ.out (World.size_alloc wr.drew _ ▸ Nat.le_succ _)) (by rw [HLK.out, List.length_singleton]; omega) ?_
           intro v3 w3 hv3 hb3 hg3 ha3
           obtain ⟨gb, gc, hgc, rfl⟩ := row_shape (m := k) hv3.out (by rw [List.length_append, HLK.out, List.length_singleton])
           have R3 := Lib.hid hv3.out
           have B3 := Lib.hid (((Below.refl wz.heap.size wr).drew.alloc HSZ.out (.cells #[.int .i64 z] 3)).trans hb3.out)
           have hx3 : w3.cell? ⟨bd, od + k, none⟩ = some (.int .i64 x) := (B3.out.cell (p := ⟨bd, od + k, none⟩) HBD.out).trans HCC.out
           clear hv3 hb3 hg3 ha3)
        | (go_at_call 46; refine HS1.out.mono ?_; rintro e w3 ⟨rfl, rfl⟩)
        | (go_at_call 43; refine (HSC.out _).mono ?_; rintro e w3 ⟨rfl, rfl⟩))
      all_goals
        go_wp2
        go_roundw
        case rel => exact ⟨k + 1, gb, gc, by omega, by go_num, rfl, Lib.hid (by rw [HST.out, ← HZ.out]; exact R3.out), Lib.hid (hs.out.below B3.out), Lib.hid (hb.out.trans B3.out)⟩
        case measure => simp [intOf]; omega
    · have hkn : k = n := by omega
      subst hkn
      have hsn : Seen wr (some ⟨b, 0, none⟩) (missTo E D k) := by
        obtain ⟨A1, c1, e1, s1⟩ := hr.out.seen
        injection e1 with e2
        rw [e2]
        exact s1
      have hlk := missTo_length E D k (by rw [HDL.out]; omega)
      have HSO := Lib.hid (specSorted_seen (some ⟨b, 0, none⟩) cp (missTo E D k) (by rw [hlk]; omega) wr hsn)
      rw [hlk] at HSO
      have HBB := Lib.hid (B1.out.trans (hb.out.mono B1.out.size))
      clear hsn hlk
      go_wp2_with fail
      refine HSO.out.mono ?_
      rintro e w3 ⟨v3, rfl, r3, b3⟩
      go_wp2
      go_ret2
      have he : degL L = sortL (missTo E D k) := by
        rw [HDEG.out]
        unfold missTo
        rw [← HDL.out, List.take_length]
      exact ⟨_, rfl, by rw [he]; exact r3.mono HBB.out.size, HBB.out.trans (b3.mono HBB.out.size)⟩

theorem specDeckDegrees_any (B : Nat) (v : Value) (L : List Int) (w : World) (h : Row w B v L) :
    Calls Tryd.prog 22 #[v] w (Told w (degSaid L).1 (degSaid L).2) := by
  by_cases h3 : Three L
  · rw [degSaid_yes h3]
    exact specDeckDegrees_yes B v L h3 w h
  · rw [degSaid_no h3]
    have H1 := Lib.hid (specDeckOf_any B v L w h)
    obtain ⟨A, c, rfl, hs⟩ := h.seen
    by_cases h2 : Two L
    · rw [deckSaid_yes h2] at H1
      have hd : decide ((L.length : Int) < 3) = true := decide_eq_true (by
        have h4 : ¬ 3 ≤ L.length := fun h => h3 ⟨h2.1, h⟩
        omega)
      clear h hs h2 h3
      go_enter Tryd.func22, Tryd.ntmps22
      go_wp2_with fail
      refine H1.out.mono ?_
      rintro e w1 ⟨u, rfl, hu, b1⟩
      go_wp2
      go_ret2
      exact ⟨_, rfl, Row.mono (emptyRow w1) b1.size, b1.alloc b1.size _⟩
    · rw [deckSaid_no h2] at H1
      clear h hs h2 h3
      go_enter Tryd.func22, Tryd.ntmps22
      go_wp2_with fail
      refine H1.out.mono ?_
      rintro e w1 ⟨u, rfl, hu, b1⟩
      go_wp2
      go_ret2
      exact ⟨_, rfl, Row.mono (emptyRow w1) b1.size, b1.alloc b1.size _⟩
theorem degLaw_short (A : Option Addr) (c : Nat) (L : List Int) (w : World) (h : Seen w A L) (hT : Tab w) (hs : L.length ≤ 1048576) :
    Calls Tryd.prog 7 #[.slice A L.length c] w (Fine w) :=
  degLaw_of A c L w h hT hs _ _ (degSaid_length L) (fun B v w hr => specDeckDegrees_any B v L w hr) (fun B v w hr ht => implDeckDegrees_any B v L w hr ht)
#print axioms degLaw_short
end Go.Proofs.YtdhfnjpjccjkcaaDoor
