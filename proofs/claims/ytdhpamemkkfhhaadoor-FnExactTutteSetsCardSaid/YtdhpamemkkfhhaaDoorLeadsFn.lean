/- The program's isForest and leads. -/
import Derived.Test.YtdhpamemkkfhhaaDoorRankFns
import Derived.Test.YtdhpamemkkfhhaaDoorLinkTab
import Derived.Test.YtdhpamemkkfhhaaDoorOnesBig
namespace Go.Proofs.YtdhpamemkkfhhaaDoor
open Go Go.RowKit
set_option linter.unusedVariables false
set_option maxRecDepth 100000

theorem rankP_code {L : List Int} (ht : IsT L) : rankP L = rkT (codeOf L) := by
  have h := rankP_eq ht.1.1 ht.2 (code_ltN ht)
  have e := codeG_of ht.1
  unfold codeG at e
  rwa [e] at h
theorem isForest_any (A : Option Addr) (c : Nat) (L : List Int) (ht : IsT L) (F : Nat) (hF : F < codesN L.length) (w : World) (h : Seen w A L) (hT : Tab w) :
    Calls Tryd.prog 50 #[.slice A L.length c, .int .i64 F] w (Said1 w (forB (codeOf L) F)) := by
  have h2 := hT.lt
  have hle := codesN_le L.length
  have H1 := Lib.hid (callsIn_wide.1 (rank_in A c L ht.1 w h hT))
  rw [rankP_code ht] at H1
  have H2 := Lib.hid (fun w1 => onesB F (by omega) w1)
  have H3 := Lib.hid (fun w1 (b : Below w.heap.size w w1) => rankOf_any A L.length c F ht.1.1 ht.2 hF w1 (hT.below b (by omega)))
  have hcv : IntKind.u64.wrap (F : Int) = (F : Int) := by simp [IntKind.wrap, IntKind.bits, IntKind.signed]; omega
  unfold forB
  obtain ⟨n, hn⟩ : ∃ n, n = L.length := ⟨_, rfl⟩
  rw [← hn] at H1 H3 ⊢
  obtain ⟨r, er⟩ : ∃ r, r = rkT (codeOf L) := ⟨_, rfl⟩
  rw [← er] at H1 ⊢
  obtain ⟨q, eq⟩ : ∃ q, q = rkT F := ⟨_, rfl⟩
  rw [← eq] at H3 ⊢
  obtain ⟨p, ep⟩ : ∃ p, p = pcf 15 F := ⟨_, rfl⟩
  rw [← ep] at H2 ⊢
  have e1 : ((p : Int) == (r : Int)) = (p == r) := by rw [Bool.eq_iff_iff]; simp; omega
  have e2 : ((q : Int) == (r : Int)) = (q == r) := by rw [Bool.eq_iff_iff]; simp; omega
  clear ht h hT hF hle hn er eq ep
  go_enter Tryd.func50, Tryd.ntmps50
  go_wp2_with fail
  refine H1.out.mono ?_
  rintro e w1 ⟨rfl, b1⟩
  go_wp2_with fail
  refine (H2.out w1).mono ?_
  rintro e w2 ⟨rfl, rfl⟩
  cases hpr : p == r with
  | false =>
    rw [hpr] at e1
    have HP := Lib.hid hpr
    clear hpr
    go_wp2
    go_ret
    exact ⟨by rw [HP.out]; rfl, b1⟩
  | true =>
    rw [hpr] at e1
    have HP := Lib.hid hpr
    clear hpr
    go_wp2_with fail
    refine (H3.out w1 b1).mono ?_
    rintro e w3 ⟨rfl, b3⟩
    go_wp2
    go_ret
    exact ⟨by rw [HP.out]; rfl, b1.trans (b3.mono b1.size)⟩

theorem rows_pair {n : Nat} {e : Nat × Nat} (he : e ∈ rows n) : e.1 < e.2 ∧ e.2 < n := rows_mem n e he
set_option maxHeartbeats 2000000 in
theorem leads_any (A : Option Addr) (n c s : Nat) (e : Nat × Nat) (hn1 : 1 ≤ n) (hn5 : n ≤ 5) (hs : s < codesN n) (he : e ∈ rows n) (w : World) (hT : Tab w) :
    Calls Tryd.prog 79 #[.slice A n c, .int .i64 s, .int .i64 e.1, .int .i64 e.2] w (Said1 w (ldT s (placeOf e) == 1)) := by
  have h2 := hT.lt
  have hle := codesN_le n
  have hpr := rows_pair he
  have hlk := link_eq hn1 hn5 hs he
  have hg : IsGraph (codeG n s) := codeG_graph s hn1 (by omega)
  have hlen : (codeG n s).length = n := codeG_length n s
  obtain ⟨a, ea⟩ : ∃ a, a = e.1 := ⟨_, rfl⟩
  obtain ⟨b, eb⟩ : ∃ b, b = e.2 := ⟨_, rfl⟩
  have hal : a < (codeG n s).length := by rw [hlen]; omega
  have HO := Lib.hid (implOf_any n s w.drew hn1 (by omega) (by omega))
  obtain ⟨P, Q', hP, _, hP64, p1, p2, _⟩ := shl_facts a (by omega)
  have HR : Hid (∀ (w1 : World) (v : Value), Row w1 w.drew.heap.size v (ints (ofCode n s)) → Below w.drew.heap.size w.drew w1 → Calls Tryd.prog 89 #[v, .int .i64 (P : Nat)] w1 fun e w' => e = .returned (.int .i64 (reachN (ints (ofCode n s)) P : Nat)) ∧ Below w1.heap.size w1 w') := Lib.hid (by
    intro w1 v hr hb1
    obtain ⟨A', c', rfl, hsn⟩ := hr.seen
    rw [hP]
    exact callsIn_wide.1 (implReachedS_in A' c' (codeG n s) hg (2 ^ a) a hal (by simp) (Nat.pow_lt_pow_right (by omega) hal) w1 hsn (hT.below ((Below.refl w.heap.size w).drew.trans (show Below w.heap.size w.drew w1 from hb1)) (by omega))))
  rw [← ea, ← eb] at hlk hpr ⊢
  rw [← hP] at hlk
  have hrl : reachN (codeG n s) P < 2 ^ (codeG n s).length := by rw [hP]; exact reachN_lt hg hal
  have h64 := two_le (n := (codeG n s).length) (by rw [hlen]; omega)
  unfold codeG at hrl h64
  obtain ⟨R, eR⟩ : ∃ R, R = reachN (ints (ofCode n s)) P := ⟨_, rfl⟩
  rw [← eR] at hlk HR hrl
  obtain ⟨bit, ebit, hbit, f1⟩ := and_facts R b (by omega)
  rw [← ebit] at hlk
  rw [← hlk]
  have e1 : ((bit : Int) == 1) = (bit == 1) := by rw [Bool.eq_iff_iff]; simp; omega
  clear hg hlen hal hrl h64 hlk hT hs he ebit eR hP ea eb hle hP64
  go_enter Tryd.func79, Tryd.ntmps79
  go_wp2
  go_region_with (first
    | (go_at_call 65; refine HO.out.mono ?_; rintro e w1 ⟨v, rfl, hr, hb1⟩; have HR1 := Lib.hid hr; clear hr)
    | (go_at_call 89; refine (HR.out w1 v HR1.out hb1).mono ?_; rintro e w2 ⟨rfl, hb2⟩))
  all_goals go_wp2
  all_goals go_ret
  all_goals exact ⟨rfl, (Below.refl w.heap.size w).drew.trans (hb1.trans (hb2.mono hb1.size))⟩
end Go.Proofs.YtdhpamemkkfhhaaDoor
