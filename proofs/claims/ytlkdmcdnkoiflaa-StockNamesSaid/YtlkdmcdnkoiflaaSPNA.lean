/- StockNames: for every input the call returns true, and each argument reads afterwards as it did; no condition. -/
import Derived.Test.YtlkdmcdnkoiflaaRows
import Derived.Test.YtlkdmcdnkoiflaaGF
import Derived.Test.YtlkdmcdnkoiflaaYG
namespace Go.Proofs.Ytlkdmcdnkoiflaa
open Go.ChangeShapes Go.WideShapes Go.ChangeAt Go.RowKit

set_option maxRecDepth 100000 in
theorem stockNames_lifted (os : Os) (started : os.Started) (H : Type) (enc : TypeId × Value → H) :
    ReturnsInHanded {} Try.checked os 8 .any (Rows.stockNamesSpec.pre6 enc Try.prog Try.f8 Rows.stockNamesRow.domain false) (Rows.stockNamesSpec.post enc Try.prog Try.f8 false true false false) := by
  refine returnsInHanded_of_change (C := Try.checked) ownP started (by kernel_rfl) Try.func8
    (ChangeSpec.witness6 (enc := enc) (C := Try.checked) false ⟨#[], #[], []⟩ 8 (by kernel_rfl) (by kernel_rfl) (by kernel_rfl) (by kernel_rfl)) ?_
  intro W base args ds gs before hval0 hW0 hcnd _
  have hval : ∀ (j : Nat) t v, Try.f8.params[j]? = some t → args[j]? = some v → Value.okWide Try.prog W .any base t v := hval0
  have hW' := hW0
  obtain ⟨p, q, hA0, hV, rfl, _, _⟩ := hW0
  have hA : DataW.TrodAll enc Try.prog W 0 (fun _ => true) true Try.f8.params.toList args.toList ds p := hA0
  rw [Try.params8] at hA hval
  obtain ⟨h0, rfl, rfl⟩ := trodAll_nil hA
  obtain rfl : args = #[] := by cases args; simp_all
  refine (StockNames_walk  W).mono fun e W' ⟨he, hb⟩ => ⟨_, he, law_post laidOutP hW' rfl rfl Try.underlying4 (fun t ht => ?_) ⟨rfl, rfl, rfl⟩ hb⟩
  have h := ht
  rw [Try.params8] at h
  simp at h

theorem stockNames_holds : Rows.StockNamesSaid :=
  OpenClaim.holds_of_wide 8 Try.f8 rfl rfl rfl rfl rfl rfl rfl ⟨rfl, rfl, rfl, rfl, rfl⟩ rfl rfl rfl rfl rfl (by kernel_rfl) Try.func8 (by kernel_rfl)
    (of_decide_eq_true (by kernel_rfl)) (by unfold Func.isWrapper; first | (rw [if_pos (by decide +kernel)]; kernel_rfl) | (rw [if_neg (by decide +kernel)]; exact ⟨rfl, rfl⟩))
    (fun os started H enc _ => stockNames_lifted os started H enc)
#print axioms stockNames_holds
end Go.Proofs.Ytlkdmcdnkoiflaa
