/- The ranges of the levels that can be held: the mathematics. -/
import Derived.Test.YteognijlgalahaaMB
namespace Go.Proofs.Yteognijlgalahaa
open Go.RowKit

/-- The range of the first levels that can be held. -/
def PoD.heldTo (p : PoD) (nx : Int → Int) : Nat → Int × Int
  | 0 => (p.high + 1, p.low - 1)
  | i + 1 => if nx (p.low + (i : Int)) = -1 then p.heldTo nx i else (min (p.heldTo nx i).1 (p.low + (i : Int)), max (p.heldTo nx i).2 (p.low + (i : Int)))
def PoD.heldD (p : PoD) (nx : Int → Int) : Int × Int := p.heldTo nx (p.high + 1 - p.low).toNat
theorem PoD.heldTo_spec (p : PoD) (nx : Int → Int) : ∀ i : Nat, p.low + (i : Int) ≤ p.high + 1 →
    ((∀ k : Nat, k < i → nx (p.low + (k : Int)) = -1) ∧ p.heldTo nx i = (p.high + 1, p.low - 1)) ∨
      (∃ lo hi, p.heldTo nx i = (lo, hi) ∧ p.low ≤ lo ∧ lo ≤ hi ∧ hi < p.low + (i : Int) ∧ nx lo ≠ -1 ∧ nx hi ≠ -1 ∧ ∀ k : Nat, k < i → nx (p.low + (k : Int)) ≠ -1 → lo ≤ p.low + (k : Int) ∧ p.low + (k : Int) ≤ hi)
  | 0, _ => .inl ⟨fun k h => by omega, rfl⟩
  | i + 1, hi => by
    have ih := PoD.heldTo_spec p nx i (by omega)
    rw [PoD.heldTo]
    by_cases hc : nx (p.low + (i : Int)) = -1
    · rw [if_pos hc]
      rcases ih with ⟨h1, h2⟩ | ⟨lo, hi', h1, h2, h3, h4, h5, h6, h7⟩
      · refine .inl ⟨fun k hk => ?_, h2⟩
        by_cases e : k = i
        · subst e; exact hc
        · exact h1 k (by omega)
      · refine .inr ⟨lo, hi', h1, h2, h3, by omega, h5, h6, fun k hk hn => ?_⟩
        by_cases e : k = i
        · subst e; exact absurd hc hn
        · exact h7 k (by omega) hn
    · rw [if_neg hc]
      rcases ih with ⟨h1, h2⟩ | ⟨lo, hi', h1, h2, h3, h4, h5, h6, h7⟩
      · rw [h2]
        refine .inr ⟨p.low + (i : Int), p.low + (i : Int), ?_, by omega, by omega, by omega, hc, hc, fun k hk hn => ?_⟩
        · show (min (p.high + 1) (p.low + (i : Int)), max (p.low - 1) (p.low + (i : Int))) = _
          rw [Int.min_eq_right (by omega), Int.max_eq_right (by omega)]
        · by_cases e : k = i
          · subst e; exact ⟨Int.le_refl _, Int.le_refl _⟩
          · exact absurd (h1 k (by omega)) hn
      · rw [h1]
        refine .inr ⟨lo, p.low + (i : Int), ?_, by omega, by omega, by omega, h5, hc, fun k hk hn => ?_⟩
        · show (min lo (p.low + (i : Int)), max hi' (p.low + (i : Int))) = _
          rw [Int.min_eq_left (by omega), Int.max_eq_right (by omega)]
        · by_cases e : k = i
          · subst e; exact ⟨by omega, Int.le_refl _⟩
          · have := h7 k (by omega) hn; omega
/-- No level can be held, and then the range is empty; or just those of the range may be. -/
theorem PoD.heldD_spec {p : PoD} (hl : p.low ≤ p.high) (nx : Int → Int) : ((∀ lv, p.kept lv → nx lv = -1) ∧ p.heldD nx = (p.high + 1, p.low - 1)) ∨
    (∃ lo hi, p.heldD nx = (lo, hi) ∧ p.low ≤ lo ∧ lo ≤ hi ∧ hi ≤ p.high ∧ nx lo ≠ -1 ∧ nx hi ≠ -1 ∧ ∀ lv, p.kept lv → nx lv ≠ -1 → lo ≤ lv ∧ lv ≤ hi) := by
  have key : ∀ lv, p.kept lv → ∃ k : Nat, k < (p.high + 1 - p.low).toNat ∧ lv = p.low + (k : Int) := fun lv h => by
    unfold PoD.kept at h
    exact ⟨(lv - p.low).toNat, by omega, by omega⟩
  unfold PoD.heldD
  rcases PoD.heldTo_spec p nx (p.high + 1 - p.low).toNat (by omega) with ⟨h1, h2⟩ | ⟨lo, hi, h1, h2, h3, h4, h5, h6, h7⟩
  · refine .inl ⟨fun lv hkp => ?_, h2⟩
    obtain ⟨k, hk, rfl⟩ := key lv hkp
    exact h1 k hk
  · refine .inr ⟨lo, hi, h1, h2, h3, by omega, h5, h6, fun lv hkp hn => ?_⟩
    obtain ⟨k, hk, rfl⟩ := key lv hkp
    exact h7 k hk hn
/-- The ranges of the first days, if there are any levels on all of them. -/
def PoD.rangeAt (p : PoD) (day : Nat) : Int × Int := p.heldD (p.vals (p.ds.drop day))
def PoD.holdL (p : PoD) : List (Int × Int) := (List.range p.ds.length).map p.rangeAt
def PoD.canHold (p : PoD) : Bool := (List.range p.ds.length).all fun day => decide ((p.rangeAt day).1 ≤ (p.rangeAt day).2)
/-- What Hold tells. -/
def PoD.holdR (p : PoD) : List (Int × Int) × Int := if p.fault ≠ 0 then ([], p.fault) else if p.canHold then (p.holdL, 0) else ([], 9)
theorem PoD.holdL_at (p : PoD) {day : Nat} (h : day < p.ds.length) : p.holdL[day]? = some (p.rangeAt day) := by
  unfold PoD.holdL
  rw [List.getElem?_map, List.getElem?_range h]; rfl
theorem PoD.holdL_length (p : PoD) : p.holdL.length = p.ds.length := by unfold PoD.holdL; simp
theorem PoD.rangeAt_b {p : PoD} (hl : p.low ≤ p.high) (day : Nat) : p.low ≤ (p.rangeAt day).1 ∧ (p.rangeAt day).1 ≤ p.high + 1 ∧ p.low - 1 ≤ (p.rangeAt day).2 ∧ (p.rangeAt day).2 ≤ p.high := by
  unfold PoD.rangeAt
  rcases PoD.heldD_spec (p := p) hl (p.vals (p.ds.drop day)) with ⟨-, h2⟩ | ⟨lo, hi, h1, h2, h3, h4, -⟩
  · rw [h2]; dsimp only; omega
  · rw [h1]; dsimp only; omega
theorem PoD.heldTo_b (p : PoD) (nx : Int → Int) (i : Nat) (h : p.low + (i : Int) ≤ p.high + 1) : p.low ≤ (p.heldTo nx i).1 ∧ (p.heldTo nx i).1 ≤ p.high + 1 ∧ p.low - 1 ≤ (p.heldTo nx i).2 ∧ (p.heldTo nx i).2 ≤ p.high := by
  rcases PoD.heldTo_spec p nx i h with ⟨-, h2⟩ | ⟨lo, hi, h1, h2, h3, h4, -⟩
  · rw [h2]; dsimp only; omega
  · rw [h1]; dsimp only; omega
end Go.Proofs.Yteognijlgalahaa
