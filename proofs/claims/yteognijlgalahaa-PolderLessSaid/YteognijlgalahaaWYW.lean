/- A law for drawn regions that go in several ways to their very end. -/
import Derived.Test.YteognijlgalahaaTW3
namespace Go.Proofs.Yteognijlgalahaa
open Go.RowKit Go.Lib

section
variable {P : Program} {Q : Exit → Act → World → Prop}
def wayWB (l : List Oper) (rs : List Nat) (t : Wy) : Bool :=
  Region.noSelect l.toArray && takes3B .any l.toArray (Array.replicate l.toArray.size false) rs && wysB .any l.toArray true (takenB (Array.replicate l.toArray.size false) rs) t && decide (t.depth + rs.length = l.toArray.size)
/-- A drawn region that goes in several ways to its very end. -/
theorem wp_region_wayw {id : Nat} {l : List Oper} {a : Act} {w : World} (rs : List Nat) (t : Wy) (S : World → Prop) (hm : P.follows .mixedOrders = true) (hB : wayWB l rs t = true) (hS : S w.drew)
    (h : wpQuiet P l.toArray S (fun a' => wpWy P l.toArray S (fun a w => Q .normal a w) true t a' w.drew) (rs.filterMap (l.toArray[·]?)) a) :
    (Code.region id l.toArray true).wp P Q a w := by
  simp only [wayWB, Bool.and_eq_true, decide_eq_true_eq] at hB
  obtain ⟨⟨⟨b6, b7⟩, b8⟩, b9⟩ := hB
  refine wp_region_any hm (wpAny_of_ends (T := fun a w => Q .normal a w) (fun _ _ h => h) _ _ _ _ ?_)
  refine wpAny_of_held (S := S) _ _ _ _ ?_
  rw [← b9]
  refine wpAnyH_takes3 b6 rs _ a _ t.depth hS (by rw [b9]; exact b7) ?_
  refine wpQuiet_mono (fun a' ha => ?_) _ _ h
  exact wpAnyH_wy b6 _ t _ a' _ (Nat.le_refl _) hS (by rw [b9]; exact b8) ha
end
end Go.Proofs.Yteognijlgalahaa
