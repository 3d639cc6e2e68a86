/- Loops whose rounds range over functions: each round leaves a mark. -/
import Derived.Test.YteognijlgalahaaBK
namespace Go.Proofs.Yteognijlgalahaa
open Go.RowKit Go.Lib

def markOf (D : Nat) : Deferred := { target := .collected D, args := #[] }
/-- A function leaves with the marks of all its ranges over functions. -/
theorem leave_marks {P : Program} {F : Fence} {n : Nat} {fn : Func} {tmps : Array Value} {R : Ending → World → Prop} {B : Nat} (J : World → Prop) (hJ : ∀ A A', J A → Recs B A A' → J A')
    (hend : ∀ A, J A → ∃ v, (results fn tmps).run P A = .ok v A ∧ R (.returned v) A) : ∀ (Ds : List Nat) (w : World), J w → Ds.Nodup → (∀ D, D ∈ Ds → B ≤ D ∧ w.heap[D]? = some (.deferred (some []))) → LeavesInM F n P fn tmps R (Ds.map markOf) .returning w
  | [], w, hj, _, _ => hend w hj
  | D :: Ds, w, hj, hn, hd => by
    obtain ⟨h1, h2⟩ := hd D (by simp)
    obtain ⟨n1, n2⟩ := List.nodup_cons.1 hn
    refine ⟨by simp, .inl ⟨_, _, rfl, run_takeDeferred h2, leave_marks J hJ hend Ds _ (hJ _ _ hj (Recs.put _ h1 h2 rfl)) n2 fun D' h' => ?_⟩⟩
    obtain ⟨h3, h4⟩ := hd D' (by simp [h'])
    exact ⟨h3, (World.putObj_heap_other (by intro e; subst e; exact n1 h')).trans h4⟩
/-- A loop whose rounds are counted by a number that no variable holds. -/
theorem wp_loop_ghost {P : Program} {Q : Exit → Act → World → Prop} {a : Act} {w : World} {c : Code} (R : Nat → Act → World → Prop) {N : Nat} (h0 : R N a w)
    (hr : ∀ N a w, R N a w → c.wp P (Exit.then (fun a' w' => ∃ M, M < N ∧ R M a' w') Q) a w) : (Code.loop c).wp P Q a w := by
  refine wp_loop_rounds (N + 1) ?_
  have key : ∀ n N, N < n → ∀ a w, R N a w → Code.rounds P c Q n a w := by
    intro n
    induction n with
    | zero => intro N h; omega
    | succ n ih =>
      intro N hN a w h
      rw [rounds_succ]
      refine wp_mono (hr N a w h) ?_
      intro e a' w' he
      cases e with
      | normal =>
        obtain ⟨M, hM, h'⟩ := he
        exact ih M (by omega) a' w' h'
      | exit id => exact he
      | goto l => exact he
      | ret => exact he
      | panic ch => exact he
      | outgrown => exact he
  exact key _ N (by omega) a w h0
end Go.Proofs.Yteognijlgalahaa
