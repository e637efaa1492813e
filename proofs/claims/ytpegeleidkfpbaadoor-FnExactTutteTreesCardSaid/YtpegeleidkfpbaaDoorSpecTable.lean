/- The model's l8Table: rows of noughts. -/
import Derived.Test.YtpegeleidkfpbaaDoorRowsKit
import Derived.Test.YtpegeleidkfpbaaDoorSpecActive
import Derived.Test.YtpegeleidkfpbaaDoorBaseA
import Derived.Test.YtpegeleidkfpbaaDoorRowsOf
namespace Go.Proofs.YtpegeleidkfpbaaDoor
open Go Go.RowKit
set_option linter.unusedVariables false
set_option maxRecDepth 100000

/-- append of one list to a list of lists. -/
theorem app_R2 {ops : Array Oper} {rest : List Oper} {o : Oper} {a : Act} {Q : Exit → Act → World → Prop} (hgd : o.guard = none) (s x : Operand)
    (ho : o.op = .call { callee := .builtin .append, args := #[s, x], argTypes := #[28, 28] }) (w : World) (B : Nat) (v y : Value) (T : List (List Int)) (P : List Int)
    (hs : a.eval s = v) (hx : a.eval x = .slice (some ⟨w.heap.size, 0, none⟩) 1 1) (hr : R2 w B v T) (hy : Row w B y P) (hyn : ∀ b, y.ownBlock = some b → ∀ vs : List Value, VRow 22 w B v vs → ∀ k, k < T.length → (vs[k]?.getD undef).ownBlock ≠ some b) (hB : B ≤ w.heap.size) (hlen : T.length ≤ 1000000)
    (h : ∀ v' w', R2 w' B v' (T ++ [P]) → Below B w w' → wpList Tryd.prog ops Q rest (a.put o.dst v') w') :
    wpList Tryd.prog ops Q (o :: rest) a (w.alloc (.cells #[y] 22)) := by
  obtain ⟨i0, hi, hz0, hz1, hz2⟩ := info_parts infoRows
  obtain ⟨vs, h1, h2, h3, h4⟩ := hr
  obtain ⟨yA, yc, ey, _⟩ := hy.see
  have h1' : (w.alloc (.cells #[y] 22)).ownsRow B 22 1 v vs.length vs := World.ownsRow.alloc h1 (.cells #[y] 22)
  refine wpList_append_own (w.alloc (.cells #[y] 22)) hgd s x 28 ho B 22 i0 (.slice none 0 0) 1 24 Tryd.underlying28 hi hz0 hz1 hz2 rfl (by decide) v vs.length vs hs h1'
    ⟨w.heap.size, 0, none⟩ 1 1 [y] hx rfl (cell_one_new w _ _) (by rw [ey]; simp [Value.oneCell']) (by unfold maxLen; omega) (by omega) (by simp; omega) ?_
  intro v' w' hown hg hnil
  have keep : ∀ u xs, Row w B u xs → Row w' B u xs := fun u xs hu => by
    have hu' := Row.alloc hu (.cells #[y] 22)
    refine World.ownsRow.kept hu' hg ?_
    cases e : u.ownBlock with
    | none => exact .inl rfl
    | some b =>
      refine .inr fun e2 => ?_
      have hv : v.ownBlock = some b := e2.symm
      exact (row_typed hu b e).ne (VRow.typed h1 b hv) (by decide) rfl
  refine h v' w' ⟨vs ++ [y], ?_, by rw [List.length_append, List.length_append, h2]; rfl, fun k hk => ?_, fun i j gg hi' hj hij => ?_⟩ (((Below.refl B w).alloc hB _).grown hg (by simp; omega) (fun r e => (World.ownsRow.lt h1 r e).1))
  · unfold VRow
    rw [List.length_append]
    exact hown
  · rw [List.length_append, List.length_singleton] at hk
    by_cases hkl : k < T.length
    · rw [List.getElem?_append_left (by omega), List.getElem?_append_left hkl]
      exact keep _ _ (h3 k hkl)
    · have hkk : k = T.length := by omega
      subst hkk
      rw [List.getElem?_append_right (by omega), List.getElem?_append_right (Nat.le_refl _), h2, Nat.sub_self]
      exact keep _ _ hy
  · rw [List.length_append, List.length_singleton] at hi' hj
    by_cases hil : i < T.length
    · rw [List.getElem?_append_left (l₁ := vs) (by omega)]
      by_cases hjl : j < T.length
      · rw [List.getElem?_append_left (l₁ := vs) (by omega)]
        exact h4 i j gg hil hjl hij
      · have hjj : j = T.length := by omega
        subst hjj
        rw [List.getElem?_append_right (l₁ := vs) (by omega), h2, Nat.sub_self]
        intro e1 e2
        exact hyn gg e2 vs h1 i hil e1
    · have hii : i = T.length := by omega
      subst hii
      rw [List.getElem?_append_right (l₁ := vs) (by omega), h2, Nat.sub_self, List.getElem?_append_left (l₁ := vs) (by omega)]
      intro e1 e2
      exact hyn gg e1 vs h1 j (by omega) e2
set_option maxHeartbeats 4000000 in
theorem specTable_any (A : Option Addr) (c : Nat) (L : List Int) (ht : IsT L) (w : World) (h : Seen w A L) :
    Calls Tryd.prog 39 #[.slice A L.length c] w (GaveR w (zeroT (rkT (codeOf L)) (pcf 15 (codeOf L)))) := by
  have hCl := code_ltN ht
  have hle := codesN_le L.length
  have hrs := rank_size (C := codeOf L) (by omega)
  have hpl := pcf_le 15 (codeOf L)
  have H1 := Lib.hid (specCode_seen A c L ht.1 w h)
  have H2 := Lib.hid (fun w1 => specRank_any L.length (codeOf L) ht.1.1 ht.2 hCl w1)
  have H3 := Lib.hid (fun w1 => size_code (codeOf L) (by omega) w1)
  obtain ⟨n, hn⟩ : ∃ n, n = L.length := ⟨_, rfl⟩
  rw [← hn] at H1 H2 ⊢
  obtain ⟨C, eC⟩ : ∃ C, C = codeOf L := ⟨_, rfl⟩
  rw [← eC] at H1 H2 H3 hrs hpl ⊢
  obtain ⟨r, er⟩ : ∃ r, r = rkT C := ⟨_, rfl⟩
  obtain ⟨s, es⟩ : ∃ s, s = pcf 15 C := ⟨_, rfl⟩
  rw [← er] at H2 hrs ⊢
  rw [← es] at H3 hrs hpl ⊢
  obtain ⟨m, em⟩ : ∃ m, m = s - r + 1 := ⟨_, rfl⟩
  obtain ⟨d, ed⟩ : ∃ d, d = s - r := ⟨_, rfl⟩
  have a2 : (s : Int) - (r : Int) = (d : Int) := by omega
  have a3 : (d : Int) + 1 = (m : Int) := by omega
  have hNm : r ≤ 4 ∧ m ≤ 16 := by omega
  unfold zeroT
  rw [← em]
  have hmi := run_make_ints m (by omega)
  have hms : ∀ x, (madeW x m).heap.size = x.heap.size + 1 := fun x => madeW_size x m
  clear ht h hn eC er es em ed hCl hle hrs hpl
  go_enter Tryd.func39, Tryd.ntmps39
  go_wp2_with fail
  refine H1.out.mono ?_
  rintro e w1 ⟨rfl, rfl⟩
  go_wp2_with fail
  refine (H2.out _).mono ?_
  rintro e w2 ⟨rfl, b2⟩
  have R0 : Hid (R2 (w2.alloc (.cells #[] 22)) w.heap.size (.slice (some ⟨w2.heap.size, 0, none⟩) 0 0) (List.replicate 0 (List.replicate m 0))) := Lib.hid ⟨[], VRow.mono (World.ownsRow_lit (base := w2.heap.size) (e := 22) (size := 1) w2 #[] 0 (Nat.le_refl _) (by unfold maxLen; omega) rfl) b2.size, rfl, (fun k hk => absurd hk (by simp)), (fun i j gg hi => absurd hi (by simp))⟩
  have B0 := Lib.hid (b2.alloc b2.size (.cells #[] 22))
  clear b2
  go_wp2
  go_loopw [5, 6] (fun v i wr => ∃ k : Nat, k ≤ r + 1 ∧ i = .int .i64 k ∧ Hid (R2 wr w.heap.size v (List.replicate k (List.replicate m 0))) ∧ Hid (Below w.heap.size w wr)) (fun _ i _ => r + 1 - (intOf i).toNat)
  case atStart => exact ⟨0, Nat.zero_le _, rfl, R0, B0⟩
  case round =>
    obtain ⟨k, hk, rfl, hr, hb⟩ := hrel
    by_cases hkN : k ≤ r
    · have HM := Lib.hid (madeW_row wr m (by omega))
      have HMB := Lib.hid (madeW_below wr m)
      have hbz := hb.out.size
      have HYN : Hid (∀ b, (Value.slice (some ⟨wr.heap.size, 0, none⟩) m m).ownBlock = some b → ∀ vs : List Value, VRow 22 (madeW wr m) w.heap.size u5 vs → ∀ j, j < (List.replicate k (List.replicate m (0 : Int))).length → (vs[j]?.getD undef).ownBlock ≠ some b) := Lib.hid (by
        intro b hb1 vs hvs j hj e
        have hbe : b = wr.heap.size := by injection hb1 with e5; exact e5.symm
        obtain ⟨vs0, q1, q2, q3, q4⟩ := hr.out
        have q1' := q1.below HMB.out
        have hvv : vs = vs0 := by
          rcases hvs.2 with ⟨e1, e2⟩ | ⟨g1, c1, cur1, e1, _, e3, _, _, _, e6⟩
          · rcases q1'.2 with ⟨f1, f2⟩ | ⟨g2, c2, cur2, f1, _⟩
            · rw [List.eq_nil_of_length_eq_zero e2, List.eq_nil_of_length_eq_zero f2]
            · rw [e1] at f1; cases f1
          · rcases q1'.2 with ⟨f1, f2⟩ | ⟨g2, c2, cur2, f1, _, f3, _, _, _, f6⟩
            · rw [e1] at f1; cases f1
            · rw [e1] at f1
              injection f1 with f1 f1b
              injection f1 with f1
              injection f1 with f1
              subst f1
              rw [e3] at f3
              injection f3 with f3
              injection f3 with f3
              subst f3
              rw [← e6, ← f6, f1b]
        subst hvv
        have := (q3 j hj).lt b e
        omega)
      go_wp2_with (first
        | (go_at_call 41; refine (H3.out _).mono ?_; rintro e w3 ⟨rfl, rfl⟩)
        | (at_builtin; refine app_R2 rfl (.tmp 19) (.tmp 26) rfl (madeW wr m) w.heap.size u5 (.slice (some ⟨wr.heap.size, 0, none⟩) m m) (List.replicate k (List.replicate m 0)) (List.replicate m 0) rfl (by simp [Act.eval, hms]) (hr.out.below HMB.out) (by have h := HM.out; rw [show ints (List.replicate m 0) = List.replicate m (0 : Int) by simp [ints]] at h; exact h.mono hbz) HYN.out (Nat.le_trans hbz HMB.out.size) (by rw [List.length_replicate]; omega) ?_; intro v' w' hr' hb'))
      go_roundw
      case rel => exact ⟨k + 1, by omega, by go_num, Lib.hid (by rw [List.replicate_succ']; exact hr'), Lib.hid (hb.out.trans ((HMB.out.mono hbz).trans hb'))⟩
      case measure => simp [intOf]; omega
    · have hke : k = r + 1 := by omega
      subst hke
      go_wp2
      go_ret
      exact ⟨_, rfl, hr.out, hb.out⟩
end Go.Proofs.YtpegeleidkfpbaaDoor
