/- Whatever number is given, FnExactTreeMany returns true and leaves what was there as it was. No condition. -/
import Derived.Test.YtoipcdhofhpkfaaTreeMany
import Derived.ProofKit
import Derived.OpenShut
import Derived.ChangeSame
namespace Go.Proofs.Ytoipcdhofhpkfaa.fnExactTreeMany
open Go.ChangeShapes Go.WideShapes Go.ChangeAt Go.RowKit
set_option linter.unusedVariables false

theorem own : ownKnob Try.prog.godebug = none := by kernel_rfl

/-- A call that returns a bool, took plain numbers alone, and left all elder blocks as they were, ends as the row asks. -/
theorem ends {H : Type} {enc : TypeId × Value → H} {s : ChangeSpec} {f : Func} {W W' : World} {args : Array Value} {ds : List (DataW H)} {b : Bool}
    (hs : s.vars = []) (hr : f.resultTypes = #[4]) (hspec : s.fn H (ds ++ []) = { results := [.lit (.bool b)], args := ds })
    (hW : DataW.Whole enc Try.prog f.params.toList s.vars false W args.toList ds [] [])
    (hargs : ∀ sp : Nat → Bool, DataW.TrodAll enc Try.prog W' 0 sp true f.params.toList args.toList ds [])
    (hb : Below W.heap.size W W') : s.post enc Try.prog f false true false false W args (.bool b) W' := by
  have hv : ∀ sp : Nat → Bool, DataW.TrodVars enc Try.prog W' sp s.vars (s.fn H (ds ++ [])).vars [] := fun sp => by rw [hs, hspec]; exact rfl
  have hres : ∀ (x : Nat) (sp : Nat → Bool) (hd : Bool), DataW.TrodAll enc Try.prog W' x sp hd f.resultTypes.toList ((Value.bool b).resultList f.resultTypes.size) (s.fn H (ds ++ [])).results [] := fun x sp hd => by
    rw [hr, hspec]
    exact trodAll_cons_mk (shut_bool Try.underlying4 _) trodAll_mk0
  have ha : ∀ sp : Nat → Bool, DataW.TrodAll enc Try.prog W' 0 sp true f.params.toList args.toList (s.fn H (ds ++ [])).args [] := fun sp => by rw [hspec]; exact hargs sp
  refine ⟨ds, [], [], [], [], [], hW, hres _ _ _, ha _, hv _, World.keptBut_mono (fun p hp => ⟨hp, .inr (.inl hp)⟩) (hb.frame (· ∈ [])), fun _ => ?_⟩
  refine ⟨ok_one (by rw [hr]) rfl (okWide_bool_mk Try.underlying4 _), _, _, _, ⟨_, _, trodAll_append (ha _) (hres 0 (fun _ => true) true), hv _, rfl, ?_, ?_⟩, ?_⟩
  · intro x off hp
    simp at hp
  · intro h
    simp at h
  · intro p hp
    simp at hp

/-! ### THE ROW's STEP: WRITTEN OUT: LEAVE IT -/
set_option maxRecDepth 100000 in
theorem lifted (os : Os) (started : os.Started) (H : Type) (enc : TypeId × Value → H) :
    ReturnsInHanded {} Try.checked os 3 .any (Rows.fnExactTreeManySpec.pre6 enc Try.prog Try.f3 Rows.fnExactTreeManyRow.domain false) (Rows.fnExactTreeManySpec.post enc Try.prog Try.f3 false true false false) := by
  refine returnsInHanded_of_change (C := Try.checked) own started (by kernel_rfl) Try.func3
    (ChangeSpec.witness6 (enc := enc) (C := Try.checked) false ⟨#[], #[.int .i64 0], []⟩ 8 (by kernel_rfl) (by kernel_rfl) (by kernel_rfl) (by kernel_rfl)) ?_
  intro W base args ds gs before hval0 hW hcnd _
  have hval : ∀ (j : Nat) t v, Try.f3.params[j]? = some t → args[j]? = some v → Value.okWide Try.prog W .any base t v := hval0
  have hW' := hW
  obtain ⟨p, q, hA0, hV, rfl, hfz, hnd⟩ := hW
  have hA : DataW.TrodAll enc Try.prog W 0 (fun _ => true) true Try.f3.params.toList args.toList ds p := hA0
  rw [Try.params3] at hA hval
  obtain ⟨v0, vs0, d0, ds0, p0, q0, hargs, rfl, rfl, h0, r0⟩ := trodAll_cons hA
  obtain ⟨rfl, rfl, rfl⟩ := trodAll_nil r0
  obtain rfl : args = #[v0] := by cases args; simp_all
  obtain ⟨rfl, rfl⟩ := trodVars_none hV
  obtain ⟨a0, rfl, rfl, rfl, w0⟩ := open_int Try.underlying3 (hval 0 3 v0 rfl rfl) h0
  clear hA0 hval0
  simp only [List.append_nil] at hW'
  refine (treeManyLaw_any a0 W).mono fun e W' ⟨he, hb⟩ => ?_
  subst he
  exact ⟨_, rfl, ends rfl rfl rfl hW' (fun sp => trodAll_mk1 (shut_int Try.underlying3 w0)) hb⟩

theorem over : Rows.fnExactTreeManyRow.holds Try.pinned (OpenSpec.ofChange Rows.fnExactTreeManySpec) :=
  OpenClaim.holds_of_wide 3 Try.f3 rfl rfl rfl rfl rfl rfl rfl ⟨rfl, rfl, rfl, rfl, rfl⟩ rfl rfl rfl rfl rfl (by kernel_rfl) Try.func3 (by kernel_rfl)
    (of_decide_eq_true (by kernel_rfl)) (by unfold Func.isWrapper; first | (rw [if_pos (by decide +kernel)]; kernel_rfl) | (rw [if_neg (by decide +kernel)]; exact ⟨rfl, rfl⟩))
    (fun os started H enc _ => lifted os started H enc)

/-- ████ THE STATEMENT ████ -/
theorem proved : Rows.FnExactTreeManySaid :=
  over
#print axioms proved
end Go.Proofs.Ytoipcdhofhpkfaa.fnExactTreeMany
