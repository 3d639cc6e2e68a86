/- The reference's way: what comes behind a day, the best amount from above, tables: the mathematics. -/
import Derived.Test.YteognijlgalahaaPU
namespace Go.Proofs.Yteognijlgalahaa
open Go.RowKit

/-- A day's worst, rain by rain, as the reference has it: once never, always never. -/
theorem greTo_no {f : Nat → Int} : ∀ {i j : Nat}, i ≤ j → greTo f i = -1 → greTo f j = -1
  | i, 0, h, e => by have : i = 0 := by omega
                     subst this; exact e
  | i, j + 1, h, e => by
    by_cases hij : i = j + 1
    · subst hij; exact e
    · rw [greTo, greTo_no (i := i) (j := j) (by omega) e]
      rfl
theorem greTo_next {f : Nat → Int} {i : Nat} (h1 : greTo f i ≠ -1) (h2 : f i ≠ -1) : greTo f (i + 1) = max (greTo f i) (f i) := by
  rw [greTo]; unfold gre; rw [if_neg h1, if_neg h2]
theorem greTo_stop {f : Nat → Int} {i : Nat} (h2 : f i = -1) : greTo f (i + 1) = -1 := by
  rw [greTo]; unfold gre
  split
  · rfl
  · rfl
/-- The best of the first amounts from above, the lesser one of several. -/
def PoD.amtTo (p : PoD) (nx : Int → Int) (d : Dy) (lv : Int) : Nat → Int × Int
  | 0 => (0, -1)
  | i + 1 => if p.wor nx d (lv - (p.pump - (i : Int))) = -1 then p.amtTo nx d lv i else
      if (p.amtTo nx d lv i).2 < 0 ∨ p.wor nx d (lv - (p.pump - (i : Int))) + d.price (p.pump - (i : Int)) ≤ (p.amtTo nx d lv i).2 then (p.pump - (i : Int), p.wor nx d (lv - (p.pump - (i : Int))) + d.price (p.pump - (i : Int))) else p.amtTo nx d lv i
theorem PoD.amtTo_spec {p : PoD} {nx : Int → Int} (h : Cst nx) {d : Dy} (hd : d.Ok) (lv : Int) : ∀ i,
    ((p.amtTo nx d lv i = (0, -1) ∧ ∀ k : Nat, k < i → ¬ p.can1 nx d lv (p.pump - (k : Int))) ∨
      (∃ k : Nat, k < i ∧ (p.amtTo nx d lv i).1 = p.pump - (k : Int) ∧ p.can1 nx d lv (p.pump - (k : Int)) ∧ (p.amtTo nx d lv i).2 = p.cost1 nx d lv (p.pump - (k : Int)) ∧ 0 ≤ (p.amtTo nx d lv i).2 ∧
        ∀ j : Nat, j < i → p.can1 nx d lv (p.pump - (j : Int)) → (p.amtTo nx d lv i).2 ≤ p.cost1 nx d lv (p.pump - (j : Int)) ∧ (k < j → (p.amtTo nx d lv i).2 < p.cost1 nx d lv (p.pump - (j : Int)))))
  | 0 => .inl ⟨rfl, fun k h => by omega⟩
  | i + 1 => by
    have ih := PoD.amtTo_spec (p := p) h hd lv i
    have hw := PoD.wor_ge (p := p) h (d := d) (lv - (p.pump - (i : Int)))
    have hp := d.price_nonneg hd (p.pump - (i : Int))
    rw [PoD.amtTo]
    by_cases hc : p.wor nx d (lv - (p.pump - (i : Int))) = -1
    · rw [if_pos hc]
      rcases ih with ⟨h1, h2⟩ | ⟨k, hk, h1, h2, h3, h4, h5⟩
      · refine .inl ⟨h1, fun j hj => ?_⟩
        by_cases e : j = i
        · subst e; exact fun hcan => hcan hc
        · exact h2 j (by omega)
      · refine .inr ⟨k, by omega, h1, h2, h3, h4, fun j hj hcan => ?_⟩
        by_cases e : j = i
        · subst e; exact absurd hc hcan
        · exact h5 j (by omega) hcan
    · rw [if_neg hc]
      rcases ih with ⟨h1, h2⟩ | ⟨k, hk, h1, h2, h3, h4, h5⟩
      · rw [h1, if_pos (.inl (by decide))]
        refine .inr ⟨i, by omega, rfl, hc, rfl, by dsimp only; omega, fun j hj hcan => ?_⟩
        by_cases e : j = i
        · subst e; exact ⟨Int.le_refl _, fun hlt => by omega⟩
        · exact absurd hcan (h2 j (by omega))
      · by_cases hlt : p.wor nx d (lv - (p.pump - (i : Int))) + d.price (p.pump - (i : Int)) ≤ (p.amtTo nx d lv i).2
        · rw [if_pos (.inr hlt)]
          refine .inr ⟨i, by omega, rfl, hc, rfl, by dsimp only; omega, fun j hj hcan => ?_⟩
          by_cases e : j = i
          · subst e; exact ⟨Int.le_refl _, fun hlt => by omega⟩
          · have := (h5 j (by omega) hcan).1
            dsimp only
            exact ⟨by omega, fun _ => by omega⟩
        · rw [if_neg (by omega)]
          refine .inr ⟨k, by omega, h1, h2, h3, h4, fun j hj hcan => ?_⟩
          by_cases e : j = i
          · subst e
            have e2 : p.cost1 nx d lv (p.pump - (j : Int)) = p.wor nx d (lv - (p.pump - (j : Int))) + d.price (p.pump - (j : Int)) := rfl
            exact ⟨by omega, fun _ => by omega⟩
          · exact h5 j (by omega) hcan
/-- From above or from below: the same. -/
theorem PoD.amt_best {p : PoD} (hp : 0 ≤ p.pump) (hi : 0 ≤ p.inl) {nx : Int → Int} (h : Cst nx) {d : Dy} (hd : d.Ok) (lv : Int) : p.amtTo nx d lv p.amts = p.bestD nx d lv := by
  have key : ∀ a, -p.inl ≤ a → a ≤ p.pump → ∃ k : Nat, k < p.amts ∧ a = p.pump - (k : Int) := fun a h1 h2 => ⟨(p.pump - a).toNat, by unfold PoD.amts; omega, by omega⟩
  rcases PoD.amtTo_spec (p := p) h hd lv p.amts with ⟨h1, h2⟩ | ⟨k, hk, h1, h2, h3, h4, h5⟩
  · rcases PoD.best_spec hp hi h hd lv with ⟨b1, -⟩ | ⟨b1, b2, b3, -⟩
    · rw [h1, b1]
    · obtain ⟨k, hk, e⟩ := key _ b1 b2
      rw [e] at b3
      exact absurd b3 (h2 k hk)
  · have ha : -p.inl ≤ p.pump - (k : Int) := by unfold PoD.amts at hk; omega
    rw [PoD.best_uniq hp hi h hd ha (by omega) h2 (fun b hb1 hb2 hbc => ?_)]
    · rw [← h3, ← h1]
    · obtain ⟨j, hj, rfl⟩ := key b hb1 hb2
      obtain ⟨h6, h7⟩ := h5 j hj hbc
      rw [← h3]
      exact ⟨h6, fun hlt => h7 (by omega)⟩
end Go.Proofs.Yteognijlgalahaa
