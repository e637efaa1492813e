/- The iterator over the pairs of up to twelve nodes. -/
import Derived.Test.YtnnobbbljpaieaaDoorBaseA
namespace Go.Proofs.YtnnobbbljpaieaaDoor
open Go.RowKit Go.Shelf
attribute [local go_sem] Oper.semAt_some
set_option linter.unusedVariables false

theorem uptoT_length (b a : Nat) (hb : b ≤ 11) (ha : a ≤ b) : (upto b a).length ≤ 66 := by
  have : ∀ b : Fin 12, ∀ a : Fin 12, a.val ≤ b.val → (upto b.val a.val).length ≤ 66 := by decide +kernel
  exact this ⟨b, by omega⟩ ⟨a, by omega⟩ ha

set_option maxHeartbeats 1000000 in
theorem pairsT_stops (F : Fence) (n : Nat) (hF : F.fn 57) (hro : F.round = none) (hn : 1 ≤ n) (Bn m : Nat) (hm : m ≤ 12) (w : World) (hB : Bn < w.heap.size) (hc : w.cell? ⟨Bn, 0, none⟩ = some (.int .i64 m)) :
    SeqStopsK F n Tryd.prog 57 #[.pointer (some ⟨Bn, 0, none⟩)] (encP m) (fun _ _ => True) (fun xs => vals xs = rows m) (fun pre => vals pre <+: rows m) 66 w := fun l J Jx W hb hJ hJx hY h0 => by
  have hcW : W.cell? ⟨Bn, 0, none⟩ = some (.int .i64 m) := (hb.cell (p := ⟨Bn, 0, none⟩) hB).trans hc
  have HY := Lib.hid hY
  clear hY hJ hJx hb
  refine callsIn_of_wp Tryd.func57 rfl hF ?_ hro
  simp only [Tryd.ntmps57, List.size_toArray, List.length_cons, List.length_nil, Nat.reduceAdd, Nat.reduceSub, Array.replicate_succ, Array.replicate_zero, List.push_toArray, List.append_toArray, List.nil_append, List.cons_append]
  gi_wp2
  gi_loopw [6] (fun b wr => ∃ (y : Nat) (pre : List (Pr m)), y ≤ m ∧ b = .int .i64 y ∧ Hid (vals pre = rows y) ∧ J pre wr) (fun b _ => m - (intOf b).toNat)
  case atStart => exact ⟨0, [], Nat.zero_le _, rfl, Lib.hid rfl, h0⟩
  case round =>
    obtain ⟨y, pre, hym, rfl, hp, hJ⟩ := hrel
    obtain ⟨wo, rfl⟩ : ∃ wo : World, wo = wr := ⟨_, rfl⟩
    by_cases hlt : y < m
    · gi_wp2
      gi_loopw [10] (fun a wr' => ∃ (x : Nat) (pre : List (Pr m)), x ≤ y ∧ a = .int .i64 x ∧ Hid (vals pre = upto y x) ∧ J pre wr') (fun a _ => y - (intOf a).toNat)
      case atStart => exact ⟨0, pre, Nat.zero_le _, rfl, Lib.hid (by rw [upto_zero]; exact hp.out), hJ⟩
      case round =>
        obtain ⟨x, pre', hxy, rfl, hp', hJ'⟩ := hrel
        by_cases hlx : x < y
        · have hlen : pre'.length < 66 := by
            have h1 := uptoT_length y (x + 1) (by omega) (by omega)
            rw [upto_succ, List.length_append, ← hp'.out, vals_length] at h1
            simp at h1
            omega
          obtain ⟨fn, tmps, assign, body, hy, hR⟩ := HY.out pre' ⟨(x, y), hlx, hlt⟩ wr hJ' hlen
          dsimp only [encP] at hy
          clear hlen
          gi_wp2
          refine hR.mono ?_
          rintro e W3 (⟨rfl, hJ3, _⟩ | ⟨rfl, hJx3⟩)
          · gi_wp2
            go_roundw
            case rel => exact ⟨x + 1, _, by omega, by go_num, Lib.hid (by rw [vals_snoc, hp'.out, upto_succ]), hJ3⟩
            case measure => simp [intOf]; omega
          · gi_wp2
            refine bodyPost_ret (results_none rfl _ _ _) rfl ?_
            exact ⟨⟨_, rfl⟩, .inr ⟨_, (by rw [vals_snoc, hp'.out, ← upto_succ]; exact upto_pre y (x + 1) m (by omega) (by omega)), hJx3⟩⟩
        · have hxe : x = y := by omega
          subst hxe
          gi_wp2
          go_roundw
          case rel => exact ⟨x + 1, pre', by omega, by go_num, Lib.hid (by rw [hp'.out, upto_end]), hJ'⟩
          case measure => simp [intOf]; omega
    · have hye : y = m := by omega
      subst hye
      gi_wp2
      go_end0
      exact ⟨⟨_, rfl⟩, .inl ⟨pre, hp.out, hJ⟩⟩

end Go.Proofs.YtnnobbbljpaieaaDoor
