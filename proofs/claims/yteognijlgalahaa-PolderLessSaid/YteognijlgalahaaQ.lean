/- A law for a region that draws its order: its first operations by hand, the rest in the order of the text, quietly. -/
import Derived.Test.YteognijlgalahaaB
namespace Go.Proofs.Yteognijlgalahaa
open Go.RowKit Go.Lib

section
variable {P : Program} {ops : Array Oper} {md : Region.Mode} {C S : World → Prop}
theorem wpAnyH_of_quiet {Q : Act → Prop} {Q' : Exit → Act → World → Prop} (hQ : ∀ a w, C w → Q a → Q' .normal a w) (hS : ∀ w, C w → S w) : ∀ (fuel : Nat) (listed : Array Bool) (a : Act) (w : World), C w →
    wpAnyQ P md ops C Q fuel listed a → wpAnyH P md ops Q' S fuel listed a w
  | 0, _, _, _, hw, h => ⟨h.1, hQ _ _ hw h.2⟩
  | fuel + 1, _, _, _, hw, h => ⟨fun h0 => hQ _ _ hw (h.1 h0), fun i hi => wpOp_of_qOp hw (fun a' w' hw' hk => ⟨hS w' hw', wpAnyH_of_quiet hQ hS fuel _ a' w' hw' hk⟩) (h.2 i hi)⟩
theorem wpAnyH_quiet_from {l : List Oper} {Q' : Exit → Act → World → Prop} (k fuel : Nat) {listed : Array Bool} {a : Act} {w : World} (hf : fuel = (l.drop k).length) (hns : Region.noSelect l.toArray = true) (hB : Region.lexFrom md l.toArray (l.drop k).length k listed = true)
    (hC : C w) (hS : ∀ w, C w → S w) (h : wpQuiet P l.toArray C (fun a' => ∀ w', C w' → Q' .normal a' w') (l.drop k) a) : wpAnyH P md l.toArray Q' S fuel listed a w := by
  subst hf
  exact wpAnyH_of_quiet (Q := fun a' => ∀ w', C w' → Q' .normal a' w') (fun _ w' hw' h => h w' hw') hS _ _ _ _ hC (wpAnyQ_lex hns (l.drop k) k listed a (fun j => by simp [List.getElem?_drop]) hB h)
/-- At the class 'Below'. -/
theorem wpAnyH_below_from {l : List Oper} {Q' : Exit → Act → World → Prop} (k fuel : Nat) {listed : Array Bool} {a : Act} {w : World} (hf : fuel = (l.drop k).length) (hns : Region.noSelect l.toArray = true) (hB : Region.lexFrom md l.toArray (l.drop k).length k listed = true)
    (hS : ∀ p : Regrown, S (Go.Sort.grow (redrawn w p.d) p.os))
    (h : wpQuiet P l.toArray (fun w' => ∃ p : Regrown, w' = Go.Sort.grow (redrawn w p.d) p.os) (fun a' => ∀ w', (∃ p : Regrown, w' = Go.Sort.grow (redrawn w p.d) p.os) → Q' .normal a' w') (l.drop k) a) : wpAnyH P md l.toArray Q' S fuel listed a w :=
  wpAnyH_quiet_from k fuel hf hns hB ⟨⟨w.drawn, #[]⟩, by rw [Go.Sort.grow_empty]; rfl⟩ (fun _ ⟨p, e⟩ => e ▸ hS p) h
end
end Go.Proofs.Yteognijlgalahaa
