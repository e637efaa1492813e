/- The model's l1Part. -/
import Derived.Test.YtjkepoalepmjoaaDoorPartMath
import Derived.Test.YtjkepoalepmjoaaDoorBaseA
import Derived.Test.YtjkepoalepmjoaaDoorCodeMath
namespace Go.Proofs.YtjkepoalepmjoaaDoor
open Go.RowKit
set_option linter.unusedVariables false
set_option maxRecDepth 100000

def upN (s k : Nat) : List Nat := (List.range k).filter fun i => s / 2 ^ i % 2 == 1
theorem upN_zero (s : Nat) : upN s 0 = [] := rfl
theorem upN_succ (s k : Nat) : upN s (k + 1) = upN s k ++ (if s / 2 ^ k % 2 = 1 then [k] else []) := by
  unfold upN
  rw [List.range_succ, List.filter_append]
  by_cases h : s / 2 ^ k % 2 = 1 <;> simp [h]
theorem upN_length (s k : Nat) : (upN s k).length ≤ k := by
  have := List.length_filter_le (fun i => s / 2 ^ i % 2 == 1) (List.range k)
  simpa [upN] using this
theorem upN_all : ∀ (n : Fin 7) (s : Fin 64), s.val < 2 ^ n.val → upN s.val n.val = nodesL s.val := by decide +kernel
theorem nodes_lt {s n : Nat} (hs : s < 2 ^ n) : ∀ x ∈ nodesL s, x < n := fun x hx => bit_lt hs (nodes_mem.1 hx).2
/-- What one place's round asks. -/
theorem row_step {L : List Int} (hg : IsGraph L) {ns : List Nat} (hns : ∀ x ∈ ns, x < L.length) {i k : Nat} (h6 : ns.length ≤ 6) (hi : i < ns.length) (hk : k < ns.length) :
    ∃ a b X bit p q r : Nat, at_ ns i = a ∧ at_ ns k = b ∧ a < L.length ∧ b < L.length ∧ L[a]?.getD 0 = (X : Int) ∧ bits .and .i64 ((X : Int) / 2 ^ b) 1 = (bit : Int) ∧ (wrap64 ((bit : Int) * 2 ^ k) = (p : Int) ∧ IntKind.i64.wrap ((bit : Int) * 2 ^ k) = (p : Int)) ∧
      rowTo L ns (at_ ns i) k = r ∧ bits .or .i64 (r : Int) (p : Int) = (q : Int) ∧ rowTo L ns (at_ ns i) (k + 1) = q := by
  have ha := at_lt hns hi
  have hb := at_lt hns hk
  have hin := (hg.2.2 _ ha).1
  have hX := ent_int hin
  have hXl := ent_lt hin
  have h64 := two_le hg.2.1
  obtain ⟨bit, eb, hb1, f1⟩ := and_facts (ent L (at_ ns i)) (at_ ns k) (by omega)
  have e1 : bt L (at_ ns i) (at_ ns k) = bit := by unfold bt; exact eb.symm
  have hp6 := bit_pow (k := k) hb1 (by omega)
  have f2 := wrap_bit bit k _ hb1 (by omega) rfl
  have hr6 := rowTo_lt L ns (at_ ns i) k (by omega)
  have f3 := i64_or_nat (rowTo L ns (at_ ns i) k) (bit * 2 ^ k) (Nat.lt_trans hr6 (by decide)) (Nat.lt_trans hp6 (by decide))
  refine ⟨at_ ns i, at_ ns k, ent L (at_ ns i), bit, bit * 2 ^ k, _, rowTo L ns (at_ ns i) k, rfl, rfl, ha, hb, hX, f1, ⟨f2, by rw [IntKind.wrap_i64]; unfold wrap64 at f2; exact f2⟩, rfl, f3, ?_⟩
  rw [rowTo_succ, e1]

set_option maxHeartbeats 2000000 in
theorem specPart_seen (A : Option Addr) (c : Nat) (L : List Int) (hg : IsGraph L) (s : Nat) (hs : s < 2 ^ L.length) (w : World) (h : Seen w A L) :
    Calls Tryd.prog 73 #[.slice A L.length c, .int .i64 s] w (Gave w (ints (partTo L (nodesL s) (nodesL s).length))) := by
  have h1 := hg.1
  have h6 := hg.2.1
  have h64 := two_le h6
  have hall := upN_all ⟨L.length, by omega⟩ ⟨s, by omega⟩ hs
  dsimp only at hall
  have hnl := Lib.hid (nodes_lt hs)
  have hs64 : s < 64 := by omega
  obtain ⟨n, hn⟩ : ∃ n, n = L.length := ⟨_, rfl⟩
  rw [← hn] at h1 h6 hall ⊢
  have HN := Lib.hid hn
  have H := Lib.hid h
  have HG := Lib.hid hg
  have HA := Lib.hid hall
  have R0 := Lib.hid (World.ownsRow_lit (base := w.heap.size) (e := 3) (size := 1) w #[] 0 (Nat.le_refl _) (by unfold maxLen; omega) rfl)
  have B0 := Lib.hid ((Below.refl w.heap.size w).alloc (Nat.le_refl _) (.cells #[] 3))
  clear h hg hn hall hs h64
  go_enter Tryd.func73, Tryd.ntmps73
  go_wp2
  go_loopw [5, 6] (fun v i wr => ∃ k : Nat, k ≤ n ∧ i = .int .i64 k ∧ Hid (Row wr w.heap.size v (ints (upN s k))) ∧ Hid (Below w.heap.size w wr)) (fun _ i _ => n - (intOf i).toNat)
  case atStart => exact ⟨0, Nat.zero_le _, rfl, R0, B0⟩
  case round =>
    obtain ⟨k, hk, rfl, hr, hb⟩ := hrel
    by_cases hlt : k < n
    · obtain ⟨bit, eb, hb1, f1⟩ := and_facts s k (by omega)
      have hlen1 : (ints (upN s k)).length ≤ 100000 := by rw [ints_length]; have := upN_length s k; omega
      have hus := upN_succ s k
      rw [← eb] at hus
      have HU := Lib.hid hus
      have HLN := Lib.hid hlen1
      have HW := Lib.hid hb.out.size
      have hbit : bit = 0 ∨ bit = 1 := by omega
      clear hus hlen1 eb
      rcases hbit with rfl | rfl
      · go_wp2
        go_roundw
        case rel => exact ⟨k + 1, by omega, by go_num, Lib.hid (by rw [HU.out]; simpa using hr.out), hb⟩
        case measure => simp [intOf]; omega
      · go_wp2_with (at_builtin; refine append_one rfl (.tmp 23) (.tmp 25) rfl wr w.heap.size u5 (ints (upN s k)) (k : Int) rfl rfl hr.out HW.out HLN.out ?_; intro v' w' hr' hb')
        go_roundw
        case rel => exact ⟨k + 1, by omega, by go_num, Lib.hid (by rw [HU.out, if_pos rfl, show ints (upN s k ++ [k]) = ints (upN s k) ++ [(k : Int)] by simp [ints]]; exact hr'.out), Lib.hid (hb.out.trans hb'.out)⟩
        case measure => simp [intOf]; omega
    · have hkn : k = n := by omega
      subst hkn
      have hr1 := hr.out
      rw [HA.out] at hr1
      obtain ⟨An, cn, eu, hsn⟩ := hr1.seen
      rw [ints_length] at eu
      obtain ⟨ns, ens⟩ : ∃ ns, ns = nodesL s := ⟨_, rfl⟩
      rw [← ens] at eu hsn hnl ⊢
      have hm6 : ns.length ≤ 6 := by rw [ens]; exact nodes_length s
      obtain ⟨m, em⟩ : ∃ m, m = ns.length := ⟨_, rfl⟩
      rw [← em] at eu hm6 ⊢
      have EM := Lib.hid em
      have ENS := Lib.hid ens
      have SN := Lib.hid hsn
      subst eu
      have HB := Lib.hid hb.out
      obtain ⟨W1, eW1⟩ : ∃ W1 : World, W1 = wr := ⟨_, rfl⟩
      rw [← eW1] at HB SN ⊢
      have R1 := Lib.hid (World.ownsRow_lit (base := W1.heap.size) (e := 3) (size := 1) W1 #[] 0 (Nat.le_refl _) (by unfold maxLen; omega) rfl)
      have B1 := Lib.hid ((Below.refl W1.heap.size W1).alloc (Nat.le_refl _) (.cells #[] 3))
      clear hr hb hr1 hsn em ens eW1 HA R0 B0
      go_wp2
      go_loopw [7, 8] (fun v i wr => ∃ j : Nat, j ≤ m ∧ i = .int .i64 j ∧ Hid (Row wr W1.heap.size v (ints (partTo L ns j))) ∧ Hid (Below W1.heap.size W1 wr)) (fun _ i _ => m - (intOf i).toNat)
      case atStart => exact ⟨0, Nat.zero_le _, rfl, R1, B1⟩
      case round =>
        obtain ⟨j, hj, rfl, hr, hb⟩ := hrel
        by_cases hlj : j < m
        · go_wp2
          go_loopw [9, 10] (fun r i wr => ∃ q k : Nat, k ≤ m ∧ i = .int .i64 k ∧ r = .int .i64 q ∧ Hid (rowTo L ns (at_ ns j) k = q) ∧ Hid (Row wr W1.heap.size u7 (ints (partTo L ns j))) ∧ Hid (Below W1.heap.size W1 wr)) (fun _ i _ => m - (intOf i).toNat)
          case atStart => exact ⟨0, 0, Nat.zero_le _, rfl, rfl, Lib.hid rfl, hr, hb⟩
          case round =>
            obtain ⟨q, k2, hk2, rfl, rfl, hq, hr2, hb2⟩ := hrel
            by_cases hlk : k2 < m
            · obtain ⟨a, b, X, bit, p, q2, r, ea, eb, ha, hbb, eX, f1, ⟨f2, f2'⟩, er, f3, f4⟩ := row_step HG.out hnl.out (by have := EM.out; omega) (show j < ns.length by have := EM.out; omega) (show k2 < ns.length by have := EM.out; omega)
              have hqr : r = q := by rw [← er]; exact hq.out
              subst hqr
              obtain ⟨blk, off, rfl, hbl, hcL⟩ := H.out a ha
              obtain ⟨blk', off', rfl, hbl', hcP⟩ := SN.out j (by rw [ints_length]; have := EM.out; omega)
              obtain ⟨blk2, off2, e2b, hbl2, hcQ⟩ := SN.out k2 (by rw [ints_length]; have := EM.out; omega)
              obtain ⟨rfl, rfl⟩ : blk' = blk2 ∧ off' = off2 := by injection e2b with e; injection e with e1 e2; exact ⟨e1, e2⟩
              rw [eX] at hcL
              rw [ints_at (by have := EM.out; omega), ea] at hcP
              rw [ints_at (by have := EM.out; omega), eb] at hcQ
              have hLw : wr.cell? ⟨blk, off + a, none⟩ = some (.int .i64 X) := (hb2.out.cell (p := ⟨blk, off + a, none⟩) (Nat.lt_of_lt_of_le hbl HB.out.size)).trans ((HB.out.cell (p := ⟨blk, off + a, none⟩) hbl).trans hcL)
              have hPw : wr.cell? ⟨blk', off' + j, none⟩ = some (.int .i64 a) := (hb2.out.cell (p := ⟨blk', off' + j, none⟩) hbl').trans hcP
              have hQw : wr.cell? ⟨blk', off' + k2, none⟩ = some (.int .i64 b) := (hb2.out.cell (p := ⟨blk', off' + k2, none⟩) hbl').trans hcQ
              have hi1 : (0 : Int) ≤ (j : Int) ∧ (j : Int) < (m : Int) := by omega
              have hi2 : (0 : Int) ≤ (k2 : Int) ∧ (k2 : Int) < (m : Int) := by omega
              have hi3 : (0 : Int) ≤ (a : Int) ∧ (a : Int) < (k : Int) := by have := HN.out; omega
              have hb6 : b < 6 := by have := HG.out.2.1; omega
              have hk6 : k2 < 6 := by omega
              have F4 := Lib.hid f4
              have hr3 := Lib.hid (show Row wr.drew W1.heap.size u7 (ints (partTo L ns j)) from hr2.out)
              have hb3 := Lib.hid (show Below W1.heap.size W1 wr.drew from hb2.out.drew)
              clear hr2 hb2 hq er f4 ea eb ha hbb eX hbl hbl' hbl2 hcL hcP hcQ e2b
              go_wp2
              go_still (by kernel_rfl)
              go_wp2
              go_roundw
              case rel => exact ⟨q2, k2 + 1, by omega, by go_num, rfl, F4, hr3, hb3⟩
              case measure => simp [intOf]; omega
            · have hkm : k2 = m := by omega
              subst hkm
              have hlen1 : (ints (partTo L ns j)).length ≤ 100000 := by rw [ints_length, partTo_length]; omega
              have HLN := Lib.hid hlen1
              have HW := Lib.hid hb2.out.size
              have hps := partTo_succ L ns j
              rw [← EM.out, hq.out] at hps
              have HPS := Lib.hid (show ints (partTo L ns (j + 1)) = ints (partTo L ns j) ++ [(q : Int)] by rw [hps]; simp [ints])
              clear hps hlen1
              go_wp2_with (at_builtin; refine append_one rfl (.tmp 57) (.tmp 59) rfl wr W1.heap.size u7 (ints (partTo L ns j)) (q : Int) rfl rfl hr2.out HW.out HLN.out ?_; intro v' w' hr' hb')
              go_roundw
              case rel => exact ⟨j + 1, by omega, by go_num, Lib.hid (by rw [HPS.out]; exact hr'.out), Lib.hid (hb2.out.trans hb'.out)⟩
              case measure => simp [intOf]; omega
        · have hjm : j = m := by omega
          subst hjm
          go_wp2
          go_ret
          exact ⟨_, rfl, by have h0 := hr.out.mono HB.out.size; rw [EM.out, ENS.out] at h0; exact h0, HB.out.trans (hb.out.mono HB.out.size)⟩
#print axioms specPart_seen
end Go.Proofs.YtjkepoalepmjoaaDoor
