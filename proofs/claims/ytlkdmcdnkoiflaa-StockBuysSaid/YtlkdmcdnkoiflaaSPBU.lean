/- StockBuys: for every input the call returns true, and each argument reads afterwards as it did; no condition. -/
import Derived.Test.YtlkdmcdnkoiflaaRows
import Derived.Test.YtlkdmcdnkoiflaaXE
import Derived.Test.YtlkdmcdnkoiflaaXF
namespace Go.Proofs.Ytlkdmcdnkoiflaa
open Go.ChangeShapes Go.WideShapes Go.ChangeAt Go.RowKit

set_option maxRecDepth 100000 in
theorem stockBuys_lifted (os : Os) (started : os.Started) (H : Type) (enc : TypeId × Value → H) :
    ReturnsInHanded {} Try.checked os 7 .any (Rows.stockBuysSpec.pre6 enc Try.prog Try.f7 Rows.stockBuysRow.domain false) (Rows.stockBuysSpec.post enc Try.prog Try.f7 false true false false) := by
  refine returnsInHanded_of_change (C := Try.checked) ownP started (by kernel_rfl) Try.func7
    (ChangeSpec.witness6 (enc := enc) (C := Try.checked) false ⟨#[], #[.agg #[.slice none 0 0, .slice none 0 0, .slice none 0 0, .slice none 0 0, .slice none 0 0, .int .i64 0, .int .i64 0, .int .i64 0], .slice none 0 0, .slice none 0 0, .int .i64 0, .int .i64 0], []⟩ 8 (by kernel_rfl) (by kernel_rfl) (by kernel_rfl) (by kernel_rfl)) ?_
  intro W base args ds gs before hval0 hW0 hcnd _
  have hval : ∀ (j : Nat) t v, Try.f7.params[j]? = some t → args[j]? = some v → Value.okWide Try.prog W .any base t v := hval0
  have hW' := hW0
  obtain ⟨p, q, hA0, hV, rfl, _, _⟩ := hW0
  have hA : DataW.TrodAll enc Try.prog W 0 (fun _ => true) true Try.f7.params.toList args.toList ds p := hA0
  rw [Try.params7] at hA hval
  obtain ⟨v0, vs0, d0, ds0, p0, q0, hargs, rfl, rfl, h0, r0⟩ := trodAll_cons hA
  obtain ⟨v1, vs1, d1, ds1, p1, q1, rfl, rfl, rfl, h1, r1⟩ := trodAll_cons r0
  obtain ⟨v2, vs2, d2, ds2, p2, q2, rfl, rfl, rfl, h2, r2⟩ := trodAll_cons r1
  obtain ⟨v3, vs3, d3, ds3, p3, q3, rfl, rfl, rfl, h3, r3⟩ := trodAll_cons r2
  obtain ⟨v4, vs4, d4, ds4, p4, q4, rfl, rfl, rfl, h4, r4⟩ := trodAll_cons r3
  obtain ⟨rfl, rfl, rfl⟩ := trodAll_nil r4
  obtain rfl : args = #[v0, v1, v2, v3, v4] := by cases args; simp_all
  obtain ⟨cs0, rfl, _⟩ := okWide_struct Try.underlying28 (hval 0 28 v0 rfl rfl)
  obtain ⟨f0, h0⟩ := h0
  obtain ⟨a0, e0, l0⟩ := open_plan h0
  obtain rfl : cs0 = a0.cells.toArray := by have e := congrArg List.toArray e0; simpa [Value.cells] using e
  obtain ⟨A1, n1, c1, rfl⟩ := okWide_slice Try.underlying73 (hval 1 73 v1 rfl rfl)
  obtain ⟨f1, h1⟩ := h1
  obtain ⟨a1, e1, m1, l1⟩ := open_crates h1
  obtain ⟨rfl, rfl, rfl⟩ : A1 = a1.A ∧ n1 = a1.l.length ∧ c1 = a1.c := by simpa [Value.cells, Sv.val] using e1
  obtain ⟨A2, n2, c2, rfl⟩ := okWide_slice Try.underlying23 (hval 2 23 v2 rfl rfl)
  obtain ⟨f2, h2⟩ := h2
  obtain ⟨a2, e2, m2, l2⟩ := open_nums h2
  obtain ⟨rfl, rfl, rfl⟩ : A2 = a2.A ∧ n2 = a2.l.length ∧ c2 = a2.c := by simpa [Value.cells, Sv.val] using e2
  obtain ⟨a3, rfl, _, _, w3⟩ := open_int Try.underlying3 (hval 3 3 v3 rfl rfl) h3
  have b3 := bounds_i64 w3
  obtain ⟨a4, rfl, _, _, w4⟩ := open_int Try.underlying3 (hval 4 3 v4 rfl rfl) h4
  have b4 := bounds_i64 w4
  refine (StockBuys_walk a0 a1 a2 a3 a4 W l0 m1 l1 m2 l2 b3 b4).mono fun e W' ⟨he, hb⟩ => ⟨_, he, law_post laidOutP hW' rfl rfl Try.underlying4 (fun t ht => ?_) ⟨rfl, rfl, rfl⟩ hb⟩
  have ht' : t ∈ [28, 73, 23, 3, 3] := by have h := ht; rw [Try.params7] at h; simpa using h
  simp only [List.mem_cons, List.not_mem_nil, or_false] at ht'
  rcases ht' with rfl | rfl | rfl | rfl | rfl
  · exact ⟨by kernel_rfl, of_decide_eq_true (by kernel_rfl)⟩
  · exact ⟨by kernel_rfl, of_decide_eq_true (by kernel_rfl)⟩
  · exact ⟨by kernel_rfl, of_decide_eq_true (by kernel_rfl)⟩
  · exact ⟨by kernel_rfl, of_decide_eq_true (by kernel_rfl)⟩
  · exact ⟨by kernel_rfl, of_decide_eq_true (by kernel_rfl)⟩

theorem stockBuys_holds : Rows.StockBuysSaid :=
  OpenClaim.holds_of_wide 7 Try.f7 rfl rfl rfl rfl rfl rfl rfl ⟨rfl, rfl, rfl, rfl, rfl⟩ rfl rfl rfl rfl rfl (by kernel_rfl) Try.func7 (by kernel_rfl)
    (of_decide_eq_true (by kernel_rfl)) (by unfold Func.isWrapper; first | (rw [if_pos (by decide +kernel)]; kernel_rfl) | (rw [if_neg (by decide +kernel)]; exact ⟨rfl, rfl⟩))
    (fun os started H enc _ => stockBuys_lifted os started H enc)
#print axioms stockBuys_holds
end Go.Proofs.Ytlkdmcdnkoiflaa
