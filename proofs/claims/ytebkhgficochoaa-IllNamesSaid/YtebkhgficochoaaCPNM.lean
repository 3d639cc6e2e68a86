/- IllNames: for every input the call returns true, and each argument reads afterwards as it did; no condition. -/
import Derived.Test.YtebkhgficochoaaRows
import Derived.Test.YtebkhgficochoaaXF
import Derived.Test.YtebkhgficochoaaXM
namespace Go.Proofs.Ytebkhgficochoaa
open Go.ChangeShapes Go.WideShapes Go.ChangeAt Go.RowKit

set_option maxRecDepth 100000 in
theorem illNames_lifted (os : Os) (started : os.Started) (H : Type) (enc : TypeId × Value → H) :
    ReturnsInHanded {} Try.checked os 6 .any (Rows.illNamesSpec.pre6 enc Try.prog Try.f6 Rows.illNamesRow.domain false) (Rows.illNamesSpec.post enc Try.prog Try.f6 false true false false) := by
  refine returnsInHanded_of_change (C := Try.checked) ownP started (by kernel_rfl) Try.func6
    (ChangeSpec.witness6 (enc := enc) (C := Try.checked) false ⟨#[], #[], []⟩ 8 (by kernel_rfl) (by kernel_rfl) (by kernel_rfl) (by kernel_rfl)) ?_
  intro W base args ds gs before hval0 hW0 hcnd _
  have hval : ∀ (j : Nat) t v, Try.f6.params[j]? = some t → args[j]? = some v → Value.okWide Try.prog W .any base t v := hval0
  have hW' := hW0
  obtain ⟨p, q, hA0, hV, rfl, _, _⟩ := hW0
  have hA : DataW.TrodAll enc Try.prog W 0 (fun _ => true) true Try.f6.params.toList args.toList ds p := hA0
  rw [Try.params6] at hA hval
  obtain ⟨h0, rfl, rfl⟩ := trodAll_nil hA
  obtain rfl : args = #[] := by cases args; simp_all
  refine (IllNames_walk  W).mono fun e W' ⟨he, hb⟩ => ⟨_, he, law_post laidOutP hW' rfl rfl Try.underlying4 (fun t ht => ?_) ⟨rfl, rfl, rfl⟩ hb⟩
  have h := ht
  rw [Try.params6] at h
  simp at h

theorem illNames_holds : Rows.IllNamesSaid :=
  OpenClaim.holds_of_wide 6 Try.f6 rfl rfl rfl rfl rfl rfl rfl ⟨rfl, rfl, rfl, rfl, rfl⟩ rfl rfl rfl rfl rfl (by kernel_rfl) Try.func6 (by kernel_rfl)
    (of_decide_eq_true (by kernel_rfl)) (by unfold Func.isWrapper; first | (rw [if_pos (by decide +kernel)]; kernel_rfl) | (rw [if_neg (by decide +kernel)]; exact ⟨rfl, rfl⟩))
    (fun os started H enc _ => illNames_lifted os started H enc)
#print axioms illNames_holds
end Go.Proofs.Ytebkhgficochoaa
