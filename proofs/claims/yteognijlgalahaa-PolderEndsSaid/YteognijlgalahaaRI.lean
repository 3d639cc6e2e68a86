/- What Hold and Best tell of each other: the mathematics. -/
import Derived.Test.YteognijlgalahaaRE
import Derived.Test.YteognijlgalahaaPO
namespace Go.Proofs.Yteognijlgalahaa
open Go.RowKit

theorem bestR_kept {p : PoD} (h : p.Ok) {d : Nat} {lv : Int} (hd : d < p.ds.length) (hk : p.kept lv) : ∃ a c : Int, c = p.vals (p.ds.drop d) lv ∧ -1 ≤ c ∧ p.bestR d lv = if c = -1 then (0, 0, 9) else (a, c, 0) := by
  obtain ⟨dy, hdy⟩ : ∃ dy, p.ds[d]? = some dy := ⟨p.ds[d], by simp [hd]⟩
  obtain ⟨b, hb⟩ : ∃ b, b = p.bestD (p.vals (p.ds.drop (d + 1))) dy lv := ⟨_, rfl⟩
  have hdr : p.ds.drop d = dy :: p.ds.drop (d + 1) := by rw [List.drop_eq_getElem_cons hd, (List.getElem?_eq_some_iff.1 hdy).2]
  have hv : p.vals (p.ds.drop d) lv = b.2 := by rw [hdr, hb]; rfl
  have hge : -1 ≤ b.2 := by rw [← hv]; exact h.cstDrop d lv
  refine ⟨b.1, b.2, hv.symm, hge, ?_⟩
  have h0 : p.levR d lv = 0 := PoD.levR_zero.2 ⟨h, by unfold PoD.levB; rw [Bool.and_eq_true, Bool.and_eq_true, decide_eq_true_eq, decide_eq_true_eq, inB_iff]; unfold PoD.kept at hk; omega⟩
  unfold PoD.bestR
  rw [h0, if_neg (by simp)]
  have e : p.ds.getD (d : Int).toNat ⟨0, 0, 0, 0, 0⟩ = dy := by rw [Int.toNat_natCast, List.getD, hdy]; rfl
  rw [e, Int.toNat_natCast, ← hb]
theorem bestR_out {p : PoD} (h : p.Ok) {d : Nat} {lv : Int} (hk : ¬ p.kept lv) : p.bestR d lv = (0, 0, 2) := by
  have h0 : p.levR d lv = 2 := by
    unfold PoD.levR
    rw [PoD.fault_iff.2 h, if_neg (by simp), if_neg]
    unfold PoD.levB
    rw [Bool.and_eq_true, Bool.and_eq_true, inB_iff]
    exact fun hh => hk hh.2
  unfold PoD.bestR
  rw [h0, if_pos (by decide)]
theorem ends_all {p : PoD} (h : p.Ok) {d : Nat} (hd : d < p.ds.length) :
    (p.holdR = ([], 9) ∧ ∀ lv, p.kept lv → p.bestR 0 lv = (0, 0, 9)) ∨
      (∃ lo hi, p.holdR = (p.holdL, 0) ∧ p.holdL.length = p.ds.length ∧ p.holdL[d]? = some (lo, hi) ∧ p.low ≤ lo ∧ lo ≤ hi ∧ hi ≤ p.high ∧
        ∀ lv, (p.kept lv ∧ inB lv lo hi = true ∧ ∃ a c, 0 ≤ c ∧ p.bestR d lv = (a, c, 0)) ∨ (p.kept lv ∧ inB lv lo hi = false ∧ p.bestR d lv = (0, 0, 9)) ∨ (¬ p.kept lv ∧ inB lv lo hi = false ∧ p.bestR d lv = (0, 0, 2))) := by
  have hf := PoD.fault_iff.2 h
  cases hc : p.canHold with
  | false =>
    refine .inl ⟨?_, fun lv hk => ?_⟩
    · unfold PoD.holdR
      rw [hf, hc, if_neg (by simp), if_neg (by simp)]
    · obtain ⟨j, hj, hlt⟩ : ∃ j, j < p.ds.length ∧ ¬ (p.rangeAt j).1 ≤ (p.rangeAt j).2 := by
        unfold PoD.canHold at hc
        rw [List.all_eq_false] at hc
        obtain ⟨j, hj, hd⟩ := hc
        exact ⟨j, List.mem_range.1 hj, by simpa using hd⟩
      have hno : ∀ lv, p.kept lv → p.vals (p.ds.drop j) lv = -1 := by
        unfold PoD.rangeAt at hlt
        rcases PoD.heldD_spec (p := p) h.l1 (p.vals (p.ds.drop j)) with ⟨h1, -⟩ | ⟨lo, hi, h1, -, h3, -⟩
        · exact h1
        · rw [h1] at hlt; exact absurd h3 hlt
      have h0 := PoD.none_before h.p0 h.i0 j h.d (by omega) hno lv hk
      obtain ⟨a, c, e1, e2, e3⟩ := bestR_kept h (d := 0) h.n1 hk
      rw [List.drop_zero, h0] at e1
      have e4 : p.bestR 0 lv = if c = -1 then (0, 0, 9) else (a, c, 0) := e3
      rw [e4, if_pos e1]
  | true =>
    obtain ⟨lo, hi, hr⟩ : ∃ lo hi, p.rangeAt d = (lo, hi) := ⟨_, _, rfl⟩
    have hle : lo ≤ hi := by
      unfold PoD.canHold at hc
      rw [List.all_eq_true] at hc
      have := hc d (List.mem_range.2 hd)
      rw [decide_eq_true_eq, hr] at this
      exact this
    have hr2 := hr
    unfold PoD.rangeAt at hr2
    rcases PoD.heldD_spec (p := p) h.l1 (p.vals (p.ds.drop d)) with ⟨-, h2⟩ | ⟨lo', hi', h1, h2, h3, h4, h5, h6, h7⟩
    · rw [hr2] at h2
      cases h2
      have := h.l1
      omega
    · rw [hr2] at h1
      cases h1
      refine .inr ⟨lo, hi, ?_, PoD.holdL_length p, by rw [PoD.holdL_at p hd, hr], h2, h3, h4, fun lv => ?_⟩
      · unfold PoD.holdR
        rw [hf, hc, if_neg (by simp), if_pos rfl]
      · by_cases hk : p.kept lv
        · obtain ⟨a, c, e1, e2, e3⟩ := bestR_kept h hd hk
          by_cases hin : lo ≤ lv ∧ lv ≤ hi
          · have hv : c ≠ -1 := by rw [e1]; exact PoD.convex h.p0 h.i0 (fun x hx => h.d x (List.mem_of_mem_drop hx)) lo hi lv hin.1 hin.2 h5 h6
            exact .inl ⟨hk, inB_iff.2 hin, a, c, by omega, by rw [e3, if_neg hv]⟩
          · have hv : c = -1 := Classical.byContradiction fun hv => hin (h7 lv hk (by rw [← e1]; exact hv))
            exact .inr (.inl ⟨hk, by rw [Bool.eq_false_iff]; intro hb; exact hin (inB_iff.1 hb), by rw [e3, if_pos hv]⟩)
        · refine .inr (.inr ⟨hk, ?_, bestR_out h hk⟩)
          rw [Bool.eq_false_iff]
          intro hb
          obtain ⟨h8, h9⟩ := inB_iff.1 hb
          exact hk ⟨by omega, by omega⟩
end Go.Proofs.Yteognijlgalahaa
