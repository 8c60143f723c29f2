/-
  FnExactWaiting: for every argument the law returns true and leaves its arguments as they were.
-/
import Derived.Test.YtilljhmkjlnnbaaRows
import Derived.Test.YtilljhmkjlnnbaaFrW
import Derived.HandedShaped
import Derived.WalkKit
import Derived.ProofKit
import Derived.OpenShut
import Derived.ShutString
import Derived.ChangeOld
import Derived.Below
namespace Go.Proofs.Ytilljhmkjlnnbaa.fnExactWaiting
open Go.ChangeShapes Go.WideShapes Go.ChangeAt Go.RowKit
open Go.ChangeMaps (open_string shut_string)
set_option linter.unusedVariables false

theorem own : ownKnob Try.prog.godebug = none := by kernel_rfl
theorem laidOut : laidOutB Try.prog = true := by kernel_rfl

set_option maxRecDepth 100000 in
theorem lifted (os : Os) (started : os.Started) (H : Type) (enc : TypeId × Value → H) :
    ReturnsInHanded {} Try.checked os 4 .any (Rows.fnExactWaitingSpec.pre6 enc Try.prog Try.f4 Rows.fnExactWaitingRow.domain false) (Rows.fnExactWaitingSpec.post enc Try.prog Try.f4 false true false false) := by
  refine returnsInHanded_of_change (C := Try.checked) own started (by kernel_rfl) Try.func4
    (ChangeSpec.witness6 (enc := enc) (C := Try.checked) false ⟨#[], #[.agg #[.string ⟨#[]⟩, .int .i64 0, .int .i64 0, .int .i64 0, .bool false]], []⟩ 8 (by kernel_rfl) (by kernel_rfl) (by kernel_rfl) (by kernel_rfl)) ?_
  intro W base args ds gs before hval0 hW hcnd _
  have hval : ∀ (j : Nat) t v, Try.f4.params[j]? = some t → args[j]? = some v → Value.okWide Try.prog W .any base t v := hval0
  have hW' := hW
  obtain ⟨p, q, hA0, hV, rfl, hfz, hnd⟩ := hW
  have hA : DataW.TrodAll enc Try.prog W 0 (fun _ => true) true Try.f4.params.toList args.toList ds p := hA0
  rw [Try.params4] at hA hval
  obtain ⟨v0, vs0, d0, ds0, p0, q0, hargs, rfl, rfl, h0, r0⟩ := trodAll_cons hA
  obtain ⟨rfl, rfl, rfl⟩ := trodAll_nil r0
  obtain rfl : args = #[v0] := by cases args; simp_all
  obtain ⟨rfl, rfl⟩ := trodVars_none hV
  have k0 := h0
  have lt0 : ∀ x ∈ p0, x.block < W.heap.size := by obtain ⟨m, hm⟩ := k0; exact DataW.trod_lt m _ _ _ hm
  obtain ⟨vs0', xs0', n0', rfl, hvl0, hxl0, hff0⟩ := open_record Try.underlying32 (by kernel_rfl) (by kernel_rfl) (hval 0 32 v0 rfl rfl) h0
  obtain ⟨c0_0, c0_1, c0_2, c0_3, c0_4, rfl⟩ := five_of hvl0
  obtain ⟨x0_0, x0_1, x0_2, x0_3, x0_4, rfl⟩ := five_of hxl0
  obtain ⟨f0_0, e0_0, _, w0_0⟩ := DataW.trod_string Try.underlying9 (hff0 0 _ c0_0 x0_0 rfl rfl rfl)
  obtain rfl := List.singleton_inj.1 e0_0
  obtain ⟨f0_1, e0_1, _, w0_1⟩ := DataW.trod_int Try.underlying3 (hff0 1 _ c0_1 x0_1 rfl rfl rfl)
  obtain rfl := List.singleton_inj.1 e0_1
  obtain ⟨f0_2, e0_2, _, w0_2⟩ := DataW.trod_int Try.underlying3 (hff0 2 _ c0_2 x0_2 rfl rfl rfl)
  obtain rfl := List.singleton_inj.1 e0_2
  obtain ⟨f0_3, e0_3, _, w0_3⟩ := DataW.trod_int Try.underlying3 (hff0 3 _ c0_3 x0_3 rfl rfl rfl)
  obtain rfl := List.singleton_inj.1 e0_3
  obtain ⟨f0_4, e0_4, _⟩ := DataW.trod_bool Try.underlying4 (hff0 4 _ c0_4 x0_4 rfl rfl rfl)
  obtain rfl := List.singleton_inj.1 e0_4
  clear hA0 hval0
  refine (Ytilljhmkjlnnbaa.exactWaiting_walk ((Fr.mk f0_0 f0_1 f0_2 f0_3 f0_4)) W ⟨w0_0, w0_1, w0_2, w0_3⟩).mono fun e W' ⟨he, bel⟩ => ?_
  subst he
  exact ⟨_, rfl, _, _, _, [], _, [], hW', trodAll_mk1 (shut_bool Try.underlying4 _), (trodAll_cons_mk (Below.trod laidOut (by kernel_rfl) (of_decide_eq_true (by kernel_rfl)) k0 bel lt0) trodAll_mk0), rfl, bel.frame _, fun h => by cases h⟩

theorem over : Rows.fnExactWaitingRow.holds Try.pinned (OpenSpec.ofChange Rows.fnExactWaitingSpec) :=
  OpenClaim.holds_of_wide 4 Try.f4 rfl rfl rfl rfl rfl rfl rfl ⟨rfl, rfl, rfl, rfl, rfl⟩ rfl rfl rfl rfl rfl (by kernel_rfl) Try.func4 (by kernel_rfl)
    (of_decide_eq_true (by kernel_rfl)) (by unfold Func.isWrapper; first | (rw [if_pos (by decide +kernel)]; kernel_rfl) | (rw [if_neg (by decide +kernel)]; exact ⟨rfl, rfl⟩))
    (fun os started H enc _ => lifted os started H enc)

theorem proved : Rows.FnExactWaitingSaid := over
end Go.Proofs.Ytilljhmkjlnnbaa.fnExactWaiting
