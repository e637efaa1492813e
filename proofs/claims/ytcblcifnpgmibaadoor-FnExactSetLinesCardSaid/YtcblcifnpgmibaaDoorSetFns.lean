/- The program's SetFree, SetFull, SetCover, SetWatch and SetCounts, and their methods. -/
import Derived.Test.YtcblcifnpgmibaaDoorFitsFn
import Derived.Test.YtcblcifnpgmibaaDoorSizesFn
import Derived.Test.YtcblcifnpgmibaaDoorMaxMin
import Derived.Test.YtcblcifnpgmibaaDoorWatchFn
import Derived.Test.YtcblcifnpgmibaaDoorOtherGraph
namespace Go.Proofs.YtcblcifnpgmibaaDoor
open Go Go.RowKit
set_option linter.unusedVariables false
set_option maxRecDepth 100000

theorem sbL_of {n Q : Nat} (h6 : n ≤ 6) (hQ : Q + 1 = 2 ^ n) : sbL Q = allS n := by
  have h := sbL_all ⟨n, by omega⟩
  dsimp only at h
  rw [show 2 ^ n - 1 = Q by omega] at h
  exact h
theorem allS_length (n : Nat) (h6 : n ≤ 6) : (allS n).length ≤ 64 := by unfold allS; rw [List.length_range]; exact two_le h6
theorem sub64 {n Q s : Nat} (h6 : n ≤ 6) (hQ : Q + 1 = 2 ^ n) (hs : s &&& Q = s) : s < 2 ^ n ∧ s < 64 := by
  have := sub_le hs
  have := two_le h6
  omega

theorem free_fn (A : Option Addr) (c : Nat) (L : List Int) (hg : IsGraph L) (w : World) (h : Seen w A L) (hT : Tab w) :
    Calls Tryd.prog 34 #[.slice A L.length c] w (NumA w (mostN L)) := by
  have h6 := hg.2.1
  have ht := hT.lt
  have hp := two_pos L.length
  obtain ⟨Q, hQ⟩ : ∃ Q, Q + 1 = 2 ^ L.length := ⟨2 ^ L.length - 1, by omega⟩
  have hQ64 : Q < 32768 := by have := two_le h6; omega
  have HA := Lib.hid (fun w => all_any A L.length c Q h6 hQ w)
  have HS := Lib.hid (callsIn_wide.1 (sizes_in Q hQ64 56 (.slice A L.length c) (freeB L) w (enters_of Tryd.func56 (by kernel_rfl) rfl) (fun W s hb hs => isFree_fn A c L hg s (sub64 h6 hQ hs).2 W (h.below hb))))
  rw [sbL_of h6 hQ] at HS
  have hm : IsMax (szs (freeB L) (allS L.length)) (mostN L) := most_max L
  have hl : (szs (freeB L) (allS L.length)).length ≤ 40000 := Nat.le_trans (szs_length _ _) (Nat.le_trans (allS_length _ h6) (by decide))
  obtain ⟨zs, ez⟩ : ∃ zs, zs = szs (freeB L) (allS L.length) := ⟨_, rfl⟩
  have h15 : ∀ x ∈ zs, x ≤ 15 := by rw [ez]; exact szs_le
  rw [← ez] at HS hm hl
  obtain ⟨m, em⟩ : ∃ m, m = mostN L := ⟨_, rfl⟩
  rw [← em] at hm ⊢
  have HM := Lib.hid (fun A c w hs => slicesMax A c zs m hm h15 hl w hs)
  have hmf : ∀ (fn : Fn) (first cap : Array Value) (w : World), (Instr.makeFunc fn first cap).run Tryd.prog w = .ok (.func fn first cap) w := fun _ _ _ _ => rfl
  obtain ⟨n, hn⟩ : ∃ n, n = L.length := ⟨_, rfl⟩
  rw [← hn] at HA HS ⊢
  clear hg h hT h6 ht hp hQ hQ64 hm hl h15 ez em hn
  go_enter Tryd.func34, Tryd.ntmps34
  go_wp2_with fail
  refine (HA.out _).mono ?_
  rintro e w1 ⟨rfl, rfl⟩
  go_wp2_with fail
  refine HS.out.mono ?_
  rintro e w1 ⟨v1, rfl, r1, b1⟩
  obtain ⟨A1, c1, rfl, s1⟩ := r1.seen
  go_wp2_with fail
  refine (HM.out _ _ _ s1).mono ?_
  rintro e w2 ⟨rfl, rfl⟩
  go_wp2
  go_ret
  exact ⟨rfl, b1⟩

theorem cover_fn (A : Option Addr) (c : Nat) (L : List Int) (hg : IsGraph L) (w : World) (h : Seen w A L) (hT : Tab w) :
    Calls Tryd.prog 37 #[.slice A L.length c] w (NumA w (L.length - mostN L)) := by
  have h6 := hg.2.1
  have ht := hT.lt
  have hp := two_pos L.length
  obtain ⟨Q, hQ⟩ : ∃ Q, Q + 1 = 2 ^ L.length := ⟨2 ^ L.length - 1, by omega⟩
  have hQ64 : Q < 32768 := by have := two_le h6; omega
  have HA := Lib.hid (fun w => all_any A L.length c Q h6 hQ w)
  have HS := Lib.hid (callsIn_wide.1 (sizes_in Q hQ64 59 (.slice A L.length c) (coverB L) w (enters_of Tryd.func59 (by kernel_rfl) rfl) (fun W s hb hs => isCover_fn A c L hg s (sub64 h6 hQ hs).2 W (h.below hb))))
  rw [sbL_of h6 hQ] at HS
  have hm : IsMin (szs (coverB L) (allS L.length)) (L.length - mostN L) := (cover_min h6).2
  have hl : (szs (coverB L) (allS L.length)).length ≤ 40000 := Nat.le_trans (szs_length _ _) (Nat.le_trans (allS_length _ h6) (by decide))
  obtain ⟨zs, ez⟩ : ∃ zs, zs = szs (coverB L) (allS L.length) := ⟨_, rfl⟩
  have h15 : ∀ x ∈ zs, x ≤ 15 := by rw [ez]; exact szs_le
  rw [← ez] at HS hm hl
  obtain ⟨m, em⟩ : ∃ m, m = L.length - mostN L := ⟨_, rfl⟩
  rw [← em] at hm ⊢
  have HM := Lib.hid (fun A c w hs => slicesMin A c zs m hm h15 hl w hs)
  have hmf : ∀ (fn : Fn) (first cap : Array Value) (w : World), (Instr.makeFunc fn first cap).run Tryd.prog w = .ok (.func fn first cap) w := fun _ _ _ _ => rfl
  obtain ⟨n, hn⟩ : ∃ n, n = L.length := ⟨_, rfl⟩
  rw [← hn] at HA HS ⊢
  clear hg h hT h6 ht hp hQ hQ64 hm hl h15 ez em hn
  go_enter Tryd.func37, Tryd.ntmps37
  go_wp2_with fail
  refine (HA.out _).mono ?_
  rintro e w1 ⟨rfl, rfl⟩
  go_wp2_with fail
  refine HS.out.mono ?_
  rintro e w1 ⟨v1, rfl, r1, b1⟩
  obtain ⟨A1, c1, rfl, s1⟩ := r1.seen
  go_wp2_with fail
  refine (HM.out _ _ _ s1).mono ?_
  rintro e w2 ⟨rfl, rfl⟩
  go_wp2
  go_ret
  exact ⟨rfl, b1⟩

theorem watch_fn (A : Option Addr) (c : Nat) (L : List Int) (hg : IsGraph L) (w : World) (h : Seen w A L) (hT : Tab w) :
    Calls Tryd.prog 39 #[.slice A L.length c] w (NumA w (watchN L)) := by
  have h6 := hg.2.1
  have ht := hT.lt
  have hp := two_pos L.length
  obtain ⟨Q, hQ⟩ : ∃ Q, Q + 1 = 2 ^ L.length := ⟨2 ^ L.length - 1, by omega⟩
  have hQ64 : Q < 32768 := by have := two_le h6; omega
  have HA := Lib.hid (fun w => all_any A L.length c Q h6 hQ w)
  have HS := Lib.hid (callsIn_wide.1 (sizes_in Q hQ64 60 (.slice A L.length c) (watB L) w (enters_of Tryd.func60 (by kernel_rfl) rfl) (fun W s hb hs => callsIn_wide.1 (isWatching_in A c L hg s (sub64 h6 hQ hs).1 W (h.below hb) (hT.below hb ht)))))
  rw [sbL_of h6 hQ] at HS
  have hm : IsMin (szs (watB L) (allS L.length)) (watchN L) := (watch_min hg).2
  have hl : (szs (watB L) (allS L.length)).length ≤ 40000 := Nat.le_trans (szs_length _ _) (Nat.le_trans (allS_length _ h6) (by decide))
  obtain ⟨zs, ez⟩ : ∃ zs, zs = szs (watB L) (allS L.length) := ⟨_, rfl⟩
  have h15 : ∀ x ∈ zs, x ≤ 15 := by rw [ez]; exact szs_le
  rw [← ez] at HS hm hl
  obtain ⟨m, em⟩ : ∃ m, m = watchN L := ⟨_, rfl⟩
  rw [← em] at hm ⊢
  have HM := Lib.hid (fun A c w hs => slicesMin A c zs m hm h15 hl w hs)
  have hmf : ∀ (fn : Fn) (first cap : Array Value) (w : World), (Instr.makeFunc fn first cap).run Tryd.prog w = .ok (.func fn first cap) w := fun _ _ _ _ => rfl
  obtain ⟨n, hn⟩ : ∃ n, n = L.length := ⟨_, rfl⟩
  rw [← hn] at HA HS ⊢
  clear hg h hT h6 ht hp hQ hQ64 hm hl h15 ez em hn
  go_enter Tryd.func39, Tryd.ntmps39
  go_wp2_with fail
  refine (HA.out _).mono ?_
  rintro e w1 ⟨rfl, rfl⟩
  go_wp2_with fail
  refine HS.out.mono ?_
  rintro e w1 ⟨v1, rfl, r1, b1⟩
  obtain ⟨A1, c1, rfl, s1⟩ := r1.seen
  go_wp2_with fail
  refine (HM.out _ _ _ s1).mono ?_
  rintro e w2 ⟨rfl, rfl⟩
  go_wp2
  go_ret
  exact ⟨rfl, b1⟩

theorem full_fn (A : Option Addr) (c : Nat) (L : List Int) (hg : IsGraph L) (w : World) (h : Seen w A L) (hT : Tab w) :
    Calls Tryd.prog 36 #[.slice A L.length c] w (NumA w (mostN (otherL L L.length))) := by
  have ht := hT.lt
  have HO := Lib.hid (callsIn_wide.1 (implOther_in A c L hg w h hT))
  have hl := otherL_length L L.length
  obtain ⟨M, eM⟩ : ∃ M, M = otherL L L.length := ⟨_, rfl⟩
  have hM : IsGraph M := by rw [eM]; exact other_graph hg
  rw [← eM] at HO ⊢
  have HF := Lib.hid (fun A c w hs ht => free_fn A c M hM w hs ht)
  have HT := Lib.hid hT
  have HL := Lib.hid ht
  clear hg h hT hl eM hM ht
  go_enter Tryd.func36, Tryd.ntmps36
  go_wp2_with fail
  refine HO.out.mono ?_
  rintro e w1 ⟨v1, rfl, r1, b1⟩
  obtain ⟨A1, c1, rfl, s1⟩ := r1.seen
  go_wp2_with fail
  refine (HF.out _ _ _ s1 (HT.out.below b1 HL.out)).mono ?_
  rintro e w2 ⟨rfl, b2⟩
  go_wp2
  go_ret
  exact ⟨rfl, b1.trans (b2.mono b1.size)⟩

theorem implFr_yes (B : Nat) (v : Value) (L : List Int) (hg : IsGraph L) (w : World) (h : Row w B v L) (hT : Tab w) :
    Calls Tryd.prog 13 #[v] w (NumOkA w (mostN L) true) := by
  have ht := hT.lt
  have H1 := Lib.hid (asG_graph B v L hg w h hT)
  obtain ⟨A, c, rfl, hs⟩ := h.seen
  have H2 := Lib.hid (fun w1 (b : Below w.heap.size w w1) => free_fn A c L hg w1 (hs.below b) (hT.below b ht))
  obtain ⟨x, ex⟩ : ∃ x, x = mostN L := ⟨_, rfl⟩
  rw [← ex] at H2 ⊢
  clear hg h hs hT ht ex
  go_enter Tryd.func13, Tryd.ntmps13
  go_wp2_with fail
  go_enter Tryd.func33, Tryd.ntmps33
  go_wp2_with fail
  refine H1.out.mono ?_
  rintro e w1 ⟨rfl, b1⟩
  go_wp2_with fail
  refine (H2.out _ b1).mono ?_
  rintro e w2 ⟨rfl, b2⟩
  go_wp2
  go_ret2
  exact ⟨rfl, b1.trans (b2.mono b1.size)⟩
theorem implFr_no (B : Nat) (v : Value) (L : List Int) (hg : ¬ IsGraph L) (w : World) (h : Row w B v L) (hT : Tab w) :
    Calls Tryd.prog 13 #[v] w (NumOkA w 0 false) := by
  have H1 := Lib.hid (asG_none B v L hg w h hT)
  clear hg h
  go_enter Tryd.func13, Tryd.ntmps13
  go_wp2_with fail
  go_enter Tryd.func33, Tryd.ntmps33
  go_wp2_with fail
  refine H1.out.mono ?_
  rintro e w1 ⟨rfl, b1⟩
  go_wp2
  go_ret2
  exact ⟨rfl, b1⟩

theorem implFu_yes (B : Nat) (v : Value) (L : List Int) (hg : IsGraph L) (w : World) (h : Row w B v L) (hT : Tab w) :
    Calls Tryd.prog 16 #[v] w (NumOkA w (mostN (otherL L L.length)) true) := by
  have ht := hT.lt
  have H1 := Lib.hid (asG_graph B v L hg w h hT)
  obtain ⟨A, c, rfl, hs⟩ := h.seen
  have H2 := Lib.hid (fun w1 (b : Below w.heap.size w w1) => full_fn A c L hg w1 (hs.below b) (hT.below b ht))
  obtain ⟨x, ex⟩ : ∃ x, x = mostN (otherL L L.length) := ⟨_, rfl⟩
  rw [← ex] at H2 ⊢
  clear hg h hs hT ht ex
  go_enter Tryd.func16, Tryd.ntmps16
  go_wp2_with fail
  go_enter Tryd.func33, Tryd.ntmps33
  go_wp2_with fail
  refine H1.out.mono ?_
  rintro e w1 ⟨rfl, b1⟩
  go_wp2_with fail
  refine (H2.out _ b1).mono ?_
  rintro e w2 ⟨rfl, b2⟩
  go_wp2
  go_ret2
  exact ⟨rfl, b1.trans (b2.mono b1.size)⟩
theorem implFu_no (B : Nat) (v : Value) (L : List Int) (hg : ¬ IsGraph L) (w : World) (h : Row w B v L) (hT : Tab w) :
    Calls Tryd.prog 16 #[v] w (NumOkA w 0 false) := by
  have H1 := Lib.hid (asG_none B v L hg w h hT)
  clear hg h
  go_enter Tryd.func16, Tryd.ntmps16
  go_wp2_with fail
  go_enter Tryd.func33, Tryd.ntmps33
  go_wp2_with fail
  refine H1.out.mono ?_
  rintro e w1 ⟨rfl, b1⟩
  go_wp2
  go_ret2
  exact ⟨rfl, b1⟩

theorem implCo_yes (B : Nat) (v : Value) (L : List Int) (hg : IsGraph L) (w : World) (h : Row w B v L) (hT : Tab w) :
    Calls Tryd.prog 18 #[v] w (NumOkA w (L.length - mostN L) true) := by
  have ht := hT.lt
  have H1 := Lib.hid (asG_graph B v L hg w h hT)
  obtain ⟨A, c, rfl, hs⟩ := h.seen
  have H2 := Lib.hid (fun w1 (b : Below w.heap.size w w1) => cover_fn A c L hg w1 (hs.below b) (hT.below b ht))
  obtain ⟨x, ex⟩ : ∃ x, x = L.length - mostN L := ⟨_, rfl⟩
  rw [← ex] at H2 ⊢
  clear hg h hs hT ht ex
  go_enter Tryd.func18, Tryd.ntmps18
  go_wp2_with fail
  go_enter Tryd.func33, Tryd.ntmps33
  go_wp2_with fail
  refine H1.out.mono ?_
  rintro e w1 ⟨rfl, b1⟩
  go_wp2_with fail
  refine (H2.out _ b1).mono ?_
  rintro e w2 ⟨rfl, b2⟩
  go_wp2
  go_ret2
  exact ⟨rfl, b1.trans (b2.mono b1.size)⟩
theorem implCo_no (B : Nat) (v : Value) (L : List Int) (hg : ¬ IsGraph L) (w : World) (h : Row w B v L) (hT : Tab w) :
    Calls Tryd.prog 18 #[v] w (NumOkA w 0 false) := by
  have H1 := Lib.hid (asG_none B v L hg w h hT)
  clear hg h
  go_enter Tryd.func18, Tryd.ntmps18
  go_wp2_with fail
  go_enter Tryd.func33, Tryd.ntmps33
  go_wp2_with fail
  refine H1.out.mono ?_
  rintro e w1 ⟨rfl, b1⟩
  go_wp2
  go_ret2
  exact ⟨rfl, b1⟩

theorem implWa_yes (B : Nat) (v : Value) (L : List Int) (hg : IsGraph L) (w : World) (h : Row w B v L) (hT : Tab w) :
    Calls Tryd.prog 20 #[v] w (NumOkA w (watchN L) true) := by
  have ht := hT.lt
  have H1 := Lib.hid (asG_graph B v L hg w h hT)
  obtain ⟨A, c, rfl, hs⟩ := h.seen
  have H2 := Lib.hid (fun w1 (b : Below w.heap.size w w1) => watch_fn A c L hg w1 (hs.below b) (hT.below b ht))
  obtain ⟨x, ex⟩ : ∃ x, x = watchN L := ⟨_, rfl⟩
  rw [← ex] at H2 ⊢
  clear hg h hs hT ht ex
  go_enter Tryd.func20, Tryd.ntmps20
  go_wp2_with fail
  go_enter Tryd.func33, Tryd.ntmps33
  go_wp2_with fail
  refine H1.out.mono ?_
  rintro e w1 ⟨rfl, b1⟩
  go_wp2_with fail
  refine (H2.out _ b1).mono ?_
  rintro e w2 ⟨rfl, b2⟩
  go_wp2
  go_ret2
  exact ⟨rfl, b1.trans (b2.mono b1.size)⟩
theorem implWa_no (B : Nat) (v : Value) (L : List Int) (hg : ¬ IsGraph L) (w : World) (h : Row w B v L) (hT : Tab w) :
    Calls Tryd.prog 20 #[v] w (NumOkA w 0 false) := by
  have H1 := Lib.hid (asG_none B v L hg w h hT)
  clear hg h
  go_enter Tryd.func20, Tryd.ntmps20
  go_wp2_with fail
  go_enter Tryd.func33, Tryd.ntmps33
  go_wp2_with fail
  refine H1.out.mono ?_
  rintro e w1 ⟨rfl, b1⟩
  go_wp2
  go_ret2
  exact ⟨rfl, b1⟩
end Go.Proofs.YtcblcifnpgmibaaDoor
