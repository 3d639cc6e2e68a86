/- A range over a function whose iterator makes nothing that turns: the law for the caller. -/
import Derived.Test.YteognijlgalahaaBN
import Derived.Test.YteognijlgalahaaZH
namespace Go.Proofs.Yteognijlgalahaa
open Go.RowKit Go.Lib

/-- The iterator gives just the elements of xs, in their order; it makes nothing of its own that turns. -/
def GivesN {α : Type} (n : Nat) (P : Program) (g : Nat) (lb : Array Value) (encs : Nat → α → Array Value) (xs : List α) (w : World) (Own : Nat → α → World → Prop) (St : World → Prop) : Prop :=
  ∀ (l : Nat) (J : Nat → World → Prop) (Jx : Nat → World → Prop) (W : World), Below w.heap.size w W → (∀ k A, J k A → St A) →
    (∀ k A A', J k A → Below A.heap.size A A' → J k A') →
    (∀ k x A, xs[k]? = some x → J k A → Own W.heap.size x A → YieldAt Fence.wide (n - 1) P l (encs W.heap.size x) A fun e A' =>
      (e = .returned (.bool true) ∧ J (k + 1) A' ∧ Own W.heap.size x A') ∨ (e = .returned (.bool false) ∧ Jx (k + 1) A')) →
    J 0 W →
    CallsIn Fence.wide n P g (#[.func (.yield l) #[] #[]] ++ lb) W fun e A => (∃ v, e = .returned v) ∧ (J xs.length A ∨ ∃ k, k ≤ xs.length ∧ Jx k A)
section
variable {P : Program}
theorem range_givesN {α : Type} {g : Operand} {ps : Array Tmp} {assign body : Code} {Q : Exit → Act → World → Prop} {a : Act} {w : World} (n : Nat) {gf : Nat} {lb : Array Value} (hg : a.eval g = .func (.func gf) #[] lb) (eg : ∀ args w, (callFunc gf args).run P w = .ok (.enter gf args) w)
    {encs : Nat → α → Array Value} {xs : List α} {w0 : World} {Own : Nat → α → World → Prop} {St : World → Prop} (hseq : GivesN (n - 1) P gf lb encs xs w0 Own St) (hb0 : Below w0.heap.size w0 w) (hps : ∀ b x, (encs b x).size = ps.size)
    (hO : ∀ b x A A', Own b x A → Recs w.heap.size A A' → Own b x A')
    (I : Nat → World → Prop) (Ix : Code → Nat → World → Prop) (hI : ∀ k A A', I k A → Recs w.heap.size A A' → I k A') (hIs : ∀ k A A', I k A → Below A.heap.size A A' → I k A') (hIx : ∀ c k A A', Ix c k A → Recs w.heap.size A A' → Ix c k A') (h0 : I 0 w) (hSt : ∀ k A, I k A → St A)
    (Ax : α → Act → World → Prop) (hAx : ∀ x a' A A', Ax x a' A → Recs w.heap.size A A' → Ax x a' A')
    (hassign : ∀ (l : Nat) (k : Nat) (x : α) (W : World) (K : Act → World → Prop), xs[k]? = some x → I k W → Own (w.heap.size + 2) x W → (∀ a' W', KeepsFrom w.heap.size W W' → I k W' → Own (w.heap.size + 2) x W' → Ax x a' W' → K a' W') →
      assign.wpIn (Fence.wide.inRound l) (n - 1 - 1) P (Exit.then K (fun _ _ _ => False)) { tmps := (ps.zip (encs (w.heap.size + 2) x)).foldl (fun t (p, v) => t.setIfInBounds p v) a.tmps, defers := [] } W)
    (hbody : ∀ (l : Nat) (k : Nat) (x : α) (a' : Act) (W : World), w.heap.size ≤ l → xs[k]? = some x → I k W → Own (w.heap.size + 2) x W → Ax x a' W → body.wpIn (Fence.wide.inRound l) (n - 1 - 1) P (bodyPostB w.heap.size I Ix (Own (w.heap.size + 2) x) (k + 1) W) a' W)
    (hdone : ∀ (D : Nat) (W : World), w.heap.size ≤ D → I xs.length W → W.heap[D]? = some (.deferred (some [])) → Q .normal { a with defers := { target := .collected D, args := #[] } :: a.defers } W)
    (hstop : ∀ (D : Nat) (c : Code) (k : Nat) (W : World), w.heap.size ≤ D → k ≤ xs.length → Ix c k W → W.heap[D]? = some (.deferred (some [])) → c.wpIn Fence.wide n P Q { a with defers := { target := .collected D, args := #[] } :: a.defers } W) :
    (Code.rangeFunc g ps assign body).wp P Q a w := by
  refine (wpIn_wide (n := n)).1 (wpIn_rangeFunc fun fn hfn => ?_)
  have hro : Fence.wide.round = none := rfl
  rw [hro]
  obtain ⟨rec, hrec⟩ : ∃ rec : LoopState → Option Code → Loop, rec = fun st pe => { state := st, pending := pe, fn, tmps := a.tmps, params := ps, assign, body, defers := w.heap.size } := ⟨_, rfl⟩
  obtain ⟨W1, hW1⟩ : ∃ W1, (w.alloc (.deferred (some []))).alloc (.loop (rec .ready none)) = W1 := ⟨_, rfl⟩
  have hs1 : W1.heap.size = w.heap.size + 2 := by rw [← hW1]; simp
  have hl1 : W1.heap[w.heap.size + 1]? = some (.loop (rec .ready none)) := by
    rw [← hW1]
    have := heap_alloc_new (w.alloc (.deferred (some []))) (.loop (rec .ready none))
    rwa [World.size_alloc] at this
  have hd1 : W1.heap[w.heap.size]? = some (.deferred (some [])) := by
    rw [← hW1, heap_alloc_old _ _ (by simp)]; exact heap_alloc_new _ _
  have hi1 : I 0 W1 := by rw [← hW1]; exact hI _ _ _ (hI _ _ _ h0 (Recs.alloc _ _ _)) (Recs.alloc _ _ _)
  have hb1 : Below w0.heap.size w0 W1 := by
    rw [← hW1]; exact (hb0.alloc hb0.size _).alloc (by simp; have := hb0.size; omega) _
  refine ⟨w.heap.size + 1, [{ target := .collected w.heap.size, args := #[] }], W1, { target := .fn (.func gf) lb, args := #[.func (.yield (w.heap.size + 1)) #[] #[]] }, W1, gf, #[.func (.yield (w.heap.size + 1)) #[] #[]] ++ lb, W1, ?_, ?_, fun _ _ => trivial, ?_, (fun h => by cases h), ?_⟩
  · rw [← hW1, hrec]; exact run_enterLoop_outer _ _ _ _ _
  · simp only [resolve, hg]; simp [go_sem]
  · simp [invoke, go_sem, eg]
  have hcall := hseq (w.heap.size + 1) (fun k A => I k A ∧ A.heap[w.heap.size + 1]? = some (.loop (rec .ready none)) ∧ A.heap[w.heap.size]? = some (.deferred (some [])))
    (fun k A => ∃ c, Ix c k A ∧ A.heap[w.heap.size + 1]? = some (.loop (rec .done (some c))) ∧ A.heap[w.heap.size]? = some (.deferred (some []))) W1 hb1 (fun k A hs => hSt k A hs.1)
  rw [hs1] at hcall
  refine (hcall (fun k A A' hs ht => ⟨hIs _ _ _ hs.1 ht, (ht.block _ (Array.getElem?_eq_some_iff.1 hs.2.1).1).trans hs.2.1, (ht.block _ (Array.getElem?_eq_some_iff.1 hs.2.2).1).trans hs.2.2⟩) ?_ ⟨hi1, hl1, hd1⟩).mono ?_
  · rintro k x A hx ⟨hi, hl, hd⟩ ho
    have hy := run_yield (P := P) (args := encs (w.heap.size + 2) x) hl (by rw [hrec]; exact hps _ x)
    rw [hrec] at hy
    refine ⟨fn, _, assign, body, hy, roundIn_of_wpIn hfn (hassign _ k x A _ hx hi ho ?_)⟩
    intro a' A' hkf hi' ho' hax
    have hl' := hkf.same _ _ (by omega) hl rfl
    have hd' := hkf.same _ _ (Nat.le_refl _) hd rfl
    have hbd := hbody (w.heap.size + 1) k x a' (A'.putObj (w.heap.size + 1) (.loop { rec .ready none with state := .busy })) (by omega) hx (hI _ _ _ hi' (Recs.put _ (by omega) hl' rfl)) (hO _ _ _ _ ho' (Recs.put _ (by omega) hl' rfl)) (hAx _ _ _ _ hax (Recs.put _ (by omega) hl' rfl))
    obtain ⟨W2, hbeg, hrun⟩ := round_givesB (l := w.heap.size + 1) rec hrec (by omega) hI hIx (hO _ _) hl' hd' hbd
    refine ⟨W2, hbeg, wpIn_mono hrun ?_⟩
    rintro e a3 W3 ⟨jump, W4, hj, hend, hd4, hm⟩
    cases e with
    | normal =>
      subst hj
      obtain ⟨⟨hi4, ho4⟩, hl4⟩ := hm
      exact ⟨_, _, hend, .inl ⟨rfl, ⟨hi4, hl4, hd4⟩, ho4⟩⟩
    | ret =>
      subst hj
      exact ⟨_, _, hend, .inr ⟨rfl, .ret, hm.1, hm.2, hd4⟩⟩
    | exit id =>
      subst hj
      exact ⟨_, _, hend, .inr ⟨rfl, .exit id, hm.1, hm.2, hd4⟩⟩
    | goto t =>
      subst hj
      exact ⟨_, _, hend, .inr ⟨rfl, .goto t, hm.1, hm.2, hd4⟩⟩
    | panic ch => exact hj.elim
    | outgrown => exact hj.elim
  · rintro e A ⟨⟨v, rfl⟩, (⟨hi, hl, hd⟩ | ⟨k, hk, c, hi, hl, hd⟩)⟩
    · refine ⟨none, _, by have := run_endLoop (P := P) hl (by rw [hrec]; simp); rw [hrec] at this; exact this, hdone _ _ (Nat.le_refl _) (hI _ _ _ hi (Recs.put _ (by omega) hl rfl)) ((World.putObj_heap_other (by omega)).trans hd)⟩
    · refine ⟨some c, _, by have := run_endLoop (P := P) hl (by rw [hrec]; simp); rw [hrec] at this; exact this, hstop _ c k _ (Nat.le_refl _) hk (hIx _ _ _ _ hi (Recs.put _ (by omega) hl rfl)) ((World.putObj_heap_other (by omega)).trans hd)⟩
end
theorem own_recs {w w' : World} {base D : Nat} {e : TypeId} {size : Nat} {v : Value} {n : Nat} {xs : List Value} (h : w.ownsRow base e size v n xs) (hr : Recs D w w') : w'.ownsRow base e size v n xs :=
  own_keep h fun k hv => by
    obtain ⟨_, _, cs, hl⟩ := own_at h hv
    have h1 : w.heap[k]? = some _ := hl
    have h2 : w'.heap[k]? = some _ := hr.lies hl
    rw [h1, h2]
end Go.Proofs.Yteognijlgalahaa
