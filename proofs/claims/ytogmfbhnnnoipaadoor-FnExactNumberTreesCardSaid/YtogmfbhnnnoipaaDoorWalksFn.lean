/- The numbers of walks, by the program: walks, walksOf, NumberWalks, NumberClosed. -/
import Derived.Test.YtogmfbhnnnoipaaDoorSteps
import Derived.Test.YtogmfbhnnnoipaaDoorPower
import Derived.Test.YtogmfbhnnnoipaaDoorMatSum
import Derived.Test.YtogmfbhnnnoipaaDoorBaseA
namespace Go.Proofs.YtogmfbhnnnoipaaDoor
open Go Go.RowKit
set_option linter.unusedVariables false
set_option maxRecDepth 100000

set_option maxHeartbeats 2000000 in
theorem walks_fn (A : Option Addr) (c : Nat) (L : List Int) (hg : IsGraph L) (k : Nat) (hk : k ≤ 1000) (w : World) (h : Seen w A L) :
    Calls Tryd.prog 74 #[.slice A L.length c, .int .i64 k] w (Mat1 w (wmx (mpow (adj L) L.length k))) := by
  have H1 := Lib.hid (fun w hs => steps_fn A c L hg w hs)
  have H2 := Lib.hid (fun w => power_any (adj L) L.length k hg.2.1 hk w)
  have H := Lib.hid h
  obtain ⟨n, hn⟩ : ∃ n, n = L.length := ⟨_, rfl⟩
  obtain ⟨q, eq⟩ : ∃ q, q = wmx (adj L) := ⟨_, rfl⟩
  obtain ⟨r, er⟩ : ∃ r, r = wmx (mpow (adj L) L.length k) := ⟨_, rfl⟩
  rw [← er] at H2 ⊢
  rw [← eq] at H1 H2
  rw [← hn] at H1 H2 ⊢
  clear hg h hn eq er
  have M0 := Lib.hid (MatAt.new w (fun _ _ => 0))
  have B0 := Lib.hid ((Below.refl w.heap.size w).alloc (Nat.le_refl _) (.cells (matC fun _ _ => 0) 45))
  go_enter Tryd.func74, Tryd.ntmps74
  go_wp2_with (refine step_alloc_mat rfl rfl ?_)
  refine (H1.out _ (H.out.below B0.out)).mono ?_
  rintro e w1 ⟨rfl, b1⟩
  have M1 := Lib.hid (M0.out.below b1 M0.out.lt)
  have B1 := Lib.hid (B0.out.trans (b1.mono B0.out.size))
  clear b1
  go_wp2_with fail
  refine (H2.out _).mono ?_
  rintro e w2 ⟨rfl, b2⟩
  have M2 := Lib.hid (M1.out.below b2 M1.out.lt)
  have B2 := Lib.hid (B1.out.trans (b2.mono B1.out.size))
  clear b2
  go_wp2_with (refine step_store_mat rfl (.tmp 4) (.tmp 10) rfl _ _ _ rfl rfl M2.out ?_)
  refine bodyPost_ret (results_cell_row rfl _ _ _ _ _ _ _ rfl (M2.out.stored r) mat_desc rfl (by rw [matC_size]; exact mat_info)) rfl ?_
  exact ⟨rfl, below_setRow B2.out (Nat.le_refl _) _⟩

theorem results_cell_tmp {fn : Func} {p q : Tmp} (h : fn.results = #[.cell p 45, .tmp q]) (tmps : Array Value) (w : World) (g : Nat) (m : Mx)
    (hp : tmps.getD p undef = .pointer (some ⟨g, 0, none⟩)) (hg : MatAt w g m) :
    (results fn tmps).run Tryd.prog w = .ok (.tuple #[.agg (matC m), tmps.getD q undef]) w := by
  have hp' : tmps[p]?.getD undef = .pointer (some ⟨g, 0, none⟩) := by simpa using hp
  simp [results, h, hp', asAddr, load_mat hg]
/-- How a call ends that tells a matrix and a bool. -/
def MatB (w : World) (m : Mx) (ok : Bool) (e : Ending) (w' : World) : Prop := e = .returned (.tuple #[.agg (matC m), .bool ok]) ∧ Below w.heap.size w w'

set_option maxHeartbeats 2000000 in
theorem walksOf_none (B : Nat) (v : Value) (L : List Int) (k : Int) (hg : ¬ IsGraph L) (w : World) (h : Row w B v L) (hT : Tab w) :
    Calls Tryd.prog 43 #[v, .int .i64 k] w (MatB w (fun _ _ => 0) false) := by
  have ht := hT.lt
  have M0 := Lib.hid (MatAt.new w (fun _ _ => 0))
  have B0 := Lib.hid ((Below.refl w.heap.size w).alloc (Nat.le_refl _) (.cells (matC fun _ _ => 0) 45))
  have H1 := Lib.hid (asG_none B v L hg _ (h.below B0.out) (hT.below B0.out (by omega)))
  clear hg h hT ht
  go_enter Tryd.func43, Tryd.ntmps43
  go_wp2_with (refine step_alloc_mat rfl rfl ?_)
  refine H1.out.mono ?_
  rintro e w1 ⟨rfl, b1⟩
  have M1 := Lib.hid (M0.out.below b1 M0.out.lt)
  have B1 := Lib.hid (B0.out.trans (b1.mono B0.out.size))
  clear b1
  go_wp2_with (refine step_store_mat rfl (.tmp 4) (.tmp 23) rfl _ _ (fun _ _ => 0) rfl (by rw [matC_zero]; rfl) M1.out ?_)
  refine bodyPost_ret (results_cell_tmp rfl _ _ _ _ rfl (M1.out.stored _)) rfl ?_
  exact ⟨rfl, below_setRow B1.out (Nat.le_refl _) _⟩

set_option maxHeartbeats 2000000 in
theorem walksOf_out (B : Nat) (v : Value) (L : List Int) (k : Int) (hk : k < 0 ∨ 12 < k) (hg : IsGraph L) (w : World) (h : Row w B v L) (hT : Tab w) :
    Calls Tryd.prog 43 #[v, .int .i64 k] w (MatB w (fun _ _ => 0) false) := by
  have ht := hT.lt
  have M0 := Lib.hid (MatAt.new w (fun _ _ => 0))
  have B0 := Lib.hid ((Below.refl w.heap.size w).alloc (Nat.le_refl _) (.cells (matC fun _ _ => 0) 45))
  have H1 := Lib.hid (asG_graph B v L hg _ (h.below B0.out) (hT.below B0.out (by omega)))
  clear hg h hT ht
  rcases hk with hk | hk
  · have d1 : decide (k < 0) = true := decide_eq_true hk
    clear hk
    go_enter Tryd.func43, Tryd.ntmps43
    go_wp2_with (refine step_alloc_mat rfl rfl ?_)
    refine H1.out.mono ?_
    rintro e w1 ⟨rfl, b1⟩
    have M1 := Lib.hid (M0.out.below b1 M0.out.lt)
    have B1 := Lib.hid (B0.out.trans (b1.mono B0.out.size))
    clear b1
    go_wp2_with (refine step_store_mat rfl (.tmp 4) (.tmp 23) rfl _ _ (fun _ _ => 0) rfl (by rw [matC_zero]; rfl) M1.out ?_)
    refine bodyPost_ret (results_cell_tmp rfl _ _ _ _ rfl (M1.out.stored _)) rfl ?_
    exact ⟨rfl, below_setRow B1.out (Nat.le_refl _) _⟩
  · have d1 : decide (k < 0) = false := decide_eq_false (by omega)
    have d2 : decide (12 < k) = true := decide_eq_true hk
    clear hk
    go_enter Tryd.func43, Tryd.ntmps43
    go_wp2_with (refine step_alloc_mat rfl rfl ?_)
    refine H1.out.mono ?_
    rintro e w1 ⟨rfl, b1⟩
    have M1 := Lib.hid (M0.out.below b1 M0.out.lt)
    have B1 := Lib.hid (B0.out.trans (b1.mono B0.out.size))
    clear b1
    go_wp2_with (refine step_store_mat rfl (.tmp 4) (.tmp 23) rfl _ _ (fun _ _ => 0) rfl (by rw [matC_zero]; rfl) M1.out ?_)
    refine bodyPost_ret (results_cell_tmp rfl _ _ _ _ rfl (M1.out.stored _)) rfl ?_
    exact ⟨rfl, below_setRow B1.out (Nat.le_refl _) _⟩

set_option maxHeartbeats 2000000 in
theorem walksOf_yes (B : Nat) (v : Value) (L : List Int) (k : Nat) (hk : k ≤ 12) (hg : IsGraph L) (w : World) (h : Row w B v L) (hT : Tab w) :
    Calls Tryd.prog 43 #[v, .int .i64 k] w (MatB w (wmx (mpow (adj L) L.length k)) true) := by
  have ht := hT.lt
  have M0 := Lib.hid (MatAt.new w (fun _ _ => 0))
  have B0 := Lib.hid ((Below.refl w.heap.size w).alloc (Nat.le_refl _) (.cells (matC fun _ _ => 0) 45))
  have H1 := Lib.hid (asG_graph B v L hg _ (h.below B0.out) (hT.below B0.out (by omega)))
  obtain ⟨A, c, rfl, hs⟩ := h.seen
  have H2 := Lib.hid (fun w hs => walks_fn A c L hg k (by omega) w hs)
  have H := Lib.hid hs
  obtain ⟨r, er⟩ : ∃ r, r = wmx (mpow (adj L) L.length k) := ⟨_, rfl⟩
  rw [← er] at H2 ⊢
  have d1 : decide ((k : Int) < 0) = false := decide_eq_false (by omega)
  have d2 : decide (12 < (k : Int)) = false := decide_eq_false (by omega)
  clear hg h hT ht hs er hk
  go_enter Tryd.func43, Tryd.ntmps43
  go_wp2_with (refine step_alloc_mat rfl rfl ?_)
  refine H1.out.mono ?_
  rintro e w1 ⟨rfl, b1⟩
  have M1 := Lib.hid (M0.out.below b1 M0.out.lt)
  have B1 := Lib.hid (B0.out.trans (b1.mono B0.out.size))
  clear b1
  go_wp2_with fail
  refine (H2.out _ (H.out.below B1.out)).mono ?_
  rintro e w2 ⟨rfl, b2⟩
  have M2 := Lib.hid (M1.out.below b2 M1.out.lt)
  have B2 := Lib.hid (B1.out.trans (b2.mono B1.out.size))
  clear b2
  go_wp2_with (refine step_store_mat rfl (.tmp 4) (.tmp 26) rfl _ _ r rfl rfl M2.out ?_)
  refine bodyPost_ret (results_cell_tmp rfl _ _ _ _ rfl (M2.out.stored _)) rfl ?_
  exact ⟨rfl, below_setRow B2.out (Nat.le_refl _) _⟩

def NumOkI (w : World) (x : Int) (ok : Bool) (e : Ending) (w' : World) : Prop := e = .returned (.tuple #[.int .i64 x, .bool ok]) ∧ Below w.heap.size w w'
set_option maxHeartbeats 2000000 in
theorem numberWalks_of (v : Value) (k : Int) (m : Mx) (ok : Bool) (w : World) (h : Calls Tryd.prog 43 #[v, .int .i64 k] w (MatB w (wmx m) ok)) :
    Calls Tryd.prog 15 #[v, .int .i64 k] w (NumOkI w (wrap64 (msum m)) ok) := by
  have H := Lib.hid h
  have HS := Lib.hid (fun w => sum_any m w)
  obtain ⟨q, eq⟩ : ∃ q, q = wmx m := ⟨_, rfl⟩
  rw [← eq] at H HS
  obtain ⟨x, ex⟩ : ∃ x, x = wrap64 (msum m) := ⟨_, rfl⟩
  rw [← ex] at HS ⊢
  clear h eq ex
  go_enter Tryd.func15, Tryd.ntmps15
  go_wp2_with fail
  refine H.out.mono ?_
  rintro e w1 ⟨rfl, b1⟩
  have M0 := Lib.hid (MatAt.new w1 (fun _ _ => 0))
  have M1 := Lib.hid (M0.out.stored q)
  have B1 := Lib.hid (below_setRow (b1.alloc b1.size (.cells (matC fun _ _ => 0) 45)) b1.size (matC q))
  clear b1
  go_wp2_with (first | refine step_alloc_mat rfl rfl ?_ | refine step_store_mat rfl (.tmp 6) (.tmp 12) rfl _ _ _ rfl rfl M0.out ?_ | refine step_load_mat rfl (.tmp 6) rfl _ _ rfl M1.out ?_)
  refine (HS.out _).mono ?_
  rintro e w2 ⟨rfl, b2⟩
  go_wp2
  go_ret2
  exact ⟨rfl, B1.out.trans (b2.mono B1.out.size)⟩
set_option maxHeartbeats 2000000 in
theorem numberClosed_of (v : Value) (k : Int) (m : Mx) (ok : Bool) (w : World) (h : Calls Tryd.prog 43 #[v, .int .i64 k] w (MatB w (wmx m) ok)) :
    Calls Tryd.prog 18 #[v, .int .i64 k] w (NumOkI w (wrap64 (mtr m)) ok) := by
  have H := Lib.hid h
  have HS := Lib.hid (fun w => trace_any m w)
  obtain ⟨q, eq⟩ : ∃ q, q = wmx m := ⟨_, rfl⟩
  rw [← eq] at H HS
  obtain ⟨x, ex⟩ : ∃ x, x = wrap64 (mtr m) := ⟨_, rfl⟩
  rw [← ex] at HS ⊢
  clear h eq ex
  go_enter Tryd.func18, Tryd.ntmps18
  go_wp2_with fail
  refine H.out.mono ?_
  rintro e w1 ⟨rfl, b1⟩
  have M0 := Lib.hid (MatAt.new w1 (fun _ _ => 0))
  have M1 := Lib.hid (M0.out.stored q)
  have B1 := Lib.hid (below_setRow (b1.alloc b1.size (.cells (matC fun _ _ => 0) 45)) b1.size (matC q))
  clear b1
  go_wp2_with (first | refine step_alloc_mat rfl rfl ?_ | refine step_store_mat rfl (.tmp 6) (.tmp 12) rfl _ _ _ rfl rfl M0.out ?_ | refine step_load_mat rfl (.tmp 6) rfl _ _ rfl M1.out ?_)
  refine (HS.out _).mono ?_
  rintro e w2 ⟨rfl, b2⟩
  go_wp2
  go_ret2
  exact ⟨rfl, B1.out.trans (b2.mono B1.out.size)⟩

/-- What is told of walks: a number, or 0 and false. -/
def InLen (L : List Int) (k : Int) : Prop := IsGraph L ∧ 0 ≤ k ∧ k ≤ 12
open Classical in
noncomputable def walkSaid (f : List Int → Nat → Nat) (L : List Int) (k : Int) : Nat × Bool := if InLen L k then (f L k.toNat, true) else (0, false)
theorem walkSaid_yes {f : List Int → Nat → Nat} {L : List Int} {k : Nat} (hg : IsGraph L) (hk : k ≤ 12) : walkSaid f L k = (f L k, true) := by
  unfold walkSaid
  rw [if_pos ⟨hg, by omega, by omega⟩, Int.toNat_natCast]
theorem walkSaid_no {f : List Int → Nat → Nat} {L : List Int} {k : Int} (h : ¬ InLen L k) : walkSaid f L k = (0, false) := if_neg h
theorem wmx_zero : wmx (fun _ _ => 0) = fun _ _ => 0 := by funext i j; simp [wmx, wrap64]
theorem walksOf_no (B : Nat) (v : Value) (L : List Int) (k : Int) (hn : ¬ InLen L k) (w : World) (h : Row w B v L) (hT : Tab w) :
    Calls Tryd.prog 43 #[v, .int .i64 k] w (MatB w (wmx fun _ _ => 0) false) := by
  rw [wmx_zero]
  by_cases hg : IsGraph L
  · exact walksOf_out B v L k (by
      have : ¬ (0 ≤ k ∧ k ≤ 12) := fun e => hn ⟨hg, e⟩
      omega) hg w h hT
  · exact walksOf_none B v L k hg w h hT
theorem implWalks_any (B : Nat) (v : Value) (L : List Int) (k : Int) (w : World) (h : Row w B v L) (hT : Tab w) :
    Calls Tryd.prog 15 #[v, .int .i64 k] w (NumOkA w (walkSaid walksN L k).1 (walkSaid walksN L k).2) := by
  by_cases hin : InLen L k
  · obtain ⟨hg, h0, h12⟩ := hin
    obtain ⟨n, rfl⟩ : ∃ n : Nat, k = n := ⟨k.toNat, by omega⟩
    rw [walkSaid_yes hg (by omega)]
    have h1 := numberWalks_of v n _ true w (walksOf_yes B v L n (by omega) hg w h hT)
    have hs := walks_small L hg.2.1 n (by omega)
    rw [msum_walks L hg.2.1, wrap_id (by omega) (by omega)] at h1
    exact h1
  · rw [walkSaid_no hin]
    have h1 := numberWalks_of v k _ false w (walksOf_no B v L k hin w h hT)
    have hz : wrap64 (msum fun _ _ => 0) = 0 := by unfold msum; rw [sumTo_zero (fun i _ => sumTo_zero fun j _ => rfl)]; simp [wrap64]
    rw [hz] at h1
    exact h1
theorem implClosed_any (B : Nat) (v : Value) (L : List Int) (k : Int) (w : World) (h : Row w B v L) (hT : Tab w) :
    Calls Tryd.prog 18 #[v, .int .i64 k] w (NumOkA w (walkSaid closedN L k).1 (walkSaid closedN L k).2) := by
  by_cases hin : InLen L k
  · obtain ⟨hg, h0, h12⟩ := hin
    obtain ⟨n, rfl⟩ : ∃ n : Nat, k = n := ⟨k.toNat, by omega⟩
    rw [walkSaid_yes hg (by omega)]
    have h1 := numberClosed_of v n _ true w (walksOf_yes B v L n (by omega) hg w h hT)
    have hs := closed_small L hg.2.1 n (by omega)
    rw [mtr_closed L hg.2.1, wrap_id (by omega) (by omega)] at h1
    exact h1
  · rw [walkSaid_no hin]
    have h1 := numberClosed_of v k _ false w (walksOf_no B v L k hin w h hT)
    have hz : wrap64 (mtr fun _ _ => 0) = 0 := by unfold mtr; rw [sumTo_zero (fun i _ => rfl)]; simp [wrap64]
    rw [hz] at h1
    exact h1
end Go.Proofs.YtogmfbhnnnoipaaDoor
