/- A range over a function, whose rounds leave alone all that was made since it began: the law for the caller. The iterator may make records that turn (it may itself range over a function). -/
import Derived.Test.YteognijlgalahaaBN2
namespace Go.Proofs.Yteognijlgalahaa
open Go.RowKit Go.Lib

/-- All blocks from B on lie as they lay; more may have been made. -/
structure Keep (B : Nat) (W W' : World) : Prop where
  size : W.heap.size ≤ W'.heap.size
  same : ∀ k, B ≤ k → k < W.heap.size → W'.heap[k]? = W.heap[k]?
theorem Keep.refl (B : Nat) (W : World) : Keep B W W := ⟨Nat.le_refl _, fun _ _ _ => rfl⟩
theorem Keep.trans {B : Nat} {A W W' : World} (h : Keep B A W) (h' : Keep B W W') : Keep B A W' := ⟨Nat.le_trans h.size h'.size, fun k h1 h2 => (h'.same k h1 (Nat.lt_of_lt_of_le h2 h.size)).trans (h.same k h1 h2)⟩
theorem Keep.mono {B B' : Nat} {W W' : World} (h : Keep B W W') (hB : B ≤ B') : Keep B' W W' := ⟨h.size, fun k h1 h2 => h.same k (Nat.le_trans hB h1) h2⟩
theorem Keep.of_below {B : Nat} {W W' : World} (h : Below W.heap.size W W') : Keep B W W' := ⟨h.size, fun k _ h2 => h.block k h2⟩
theorem Keep.of_only {B g : Nat} {W W' : World} (h : Only g W W') (hg : g < B) : Keep B W W' := ⟨by rw [h.size]; exact Nat.le_refl _, fun k h1 _ => h.block k (by omega)⟩
theorem Keep.of_grown {B : Nat} {W W' : World} {row : Option Nat} (h : W.grownBy W' row) (hg : ∀ r, row = some r → r < B) : Keep B W W' := ⟨h.size, fun k h1 h2 => h.block k h2 fun e => by have := hg k e.symm; omega⟩
theorem Keep.put {B l : Nat} {W : World} (o : Obj) (hl : l < B) : Keep B W (W.putObj l o) := ⟨by simp, fun k h1 _ => World.putObj_heap_other (by omega)⟩
theorem Keep.at_ {B k : Nat} {W W' : World} {o : Obj} (h : Keep B W W') (hB : B ≤ k) (hk : W.heap[k]? = some o) : W'.heap[k]? = some o := (h.same k hB (Array.getElem?_eq_some_iff.1 hk).1).trans hk
theorem Keep.lies {B g : Nat} {W W' : World} {t : TypeId} {cs : Array Value} (h : Keep B W W') (hB : B ≤ g) (hl : Lies W g t cs) : Lies W' g t cs := h.at_ hB hl
theorem Recs.mono {D D' : Nat} {A A' : World} (h : Recs D' A A') (hD : D ≤ D') : Recs D A A' := by
  obtain ⟨row, h1, h2⟩ := h
  exact ⟨row, h1, fun r e => ⟨Nat.le_trans hD (h2 r e).1, (h2 r e).2⟩⟩
theorem Recs.of_below {D : Nat} {A A' : World} (h : Below A.heap.size A A') : Recs D A A' := ⟨none, ⟨h.os, h.tape, h.output, h.size, fun k hk _ => h.block k hk⟩, fun r e => by cases e⟩
theorem Recs.old {D k : Nat} {A A' : World} {o : Obj} (h : Recs D A A') (hk : k < D) (ho : A.heap[k]? = some o) : A'.heap[k]? = some o := by
  obtain ⟨row, h1, h2⟩ := h
  exact (h1.block k (Array.getElem?_eq_some_iff.1 ho).1 fun e => by have := (h2 k e.symm).1; omega).trans ho
/-- The iterator gives just the elements of xs, in their order. -/
def GivesK {α : Type} (n : Nat) (P : Program) (g : Nat) (lb : Array Value) (encs : α → Array Value) (xs : List α) (w : World) (St : World → Prop) : Prop :=
  ∀ (l : Nat) (J Jx : Nat → World → Prop) (W : World), Below w.heap.size w W → (∀ k A, J k A → St A) →
    (∀ k A A', J k A → Recs W.heap.size A A' → J k A') → (∀ k A A', Jx k A → Recs W.heap.size A A' → Jx k A') →
    (∀ k x A, xs[k]? = some x → J k A → YieldAt Fence.wide (n - 1) P l (encs x) A fun e A' =>
      ((e = .returned (.bool true) ∧ J (k + 1) A') ∨ (e = .returned (.bool false) ∧ Jx (k + 1) A')) ∧ Keep W.heap.size A A') →
    J 0 W →
    CallsIn Fence.wide n P g (#[.func (.yield l) #[] #[]] ++ lb) W fun e A => (∃ v, e = .returned v) ∧ (J xs.length A ∨ ∃ k, k ≤ xs.length ∧ Jx k A)
/-- How the body of a round may be left. -/
def bodyPostK (D : Nat) (I : Nat → World → Prop) (Ix : Code → Nat → World → Prop) (k : Nat) (W : World) : Exit → Act → World → Prop
  | .normal, _, W' => Keep D W W' ∧ I k W'
  | .ret, _, W' => Keep D W W' ∧ Ix .ret k W'
  | .exit id, _, W' => Keep D W W' ∧ Ix (.exit id) k W'
  | .goto t, _, W' => Keep D W W' ∧ Ix (.goto t) k W'
  | .panic _, _, _ => False
  | .outgrown, _, _ => False
section
variable {P : Program}
theorem round_givesK {D l m : Nat} {fn : FuncId} {tmps : Array Value} {assign body : Code} {ps : Array Tmp} {I : Nat → World → Prop} {Ix : Code → Nat → World → Prop} {k : Nat} {W : World}
    (rec : LoopState → Option Code → Loop) (hrec : rec = fun st pe => { state := st, pending := pe, fn, tmps, params := ps, assign, body, defers := D }) (hDl : D < l)
    (hI : ∀ k A A', I k A → Recs D A A' → I k A') (hIx : ∀ c k A A', Ix c k A → Recs D A A' → Ix c k A')
    (hl : W.heap[l]? = some (.loop (rec .ready none))) (hd : W.heap[D]? = some (.deferred (some []))) {a' : Act}
    (hbody : body.wpIn (Fence.wide.inRound l) m P (bodyPostK D I Ix k (W.putObj l (.loop { rec .ready none with state := .busy }))) a' (W.putObj l (.loop { rec .ready none with state := .busy }))) :
    ∃ W1, (Instr.beginRound l).run P W = .ok () W1 ∧ body.wpIn (Fence.wide.inRound l) m P (fun e _ W3 => ∃ (jump : Option Code) (W4 : World), (match e with | .normal => jump = none | .ret => jump = some .ret | .exit id => jump = some (.exit id) | .goto t => jump = some (.goto t) | _ => False) ∧
      (Instr.endRound l jump).run P W3 = .ok (.bool jump.isNone) W4 ∧ W4.heap[D]? = some (.deferred (some [])) ∧ Keep (l + 1) W W4 ∧
      (match jump with
        | none => I k W4 ∧ W4.heap[l]? = some (.loop (rec .ready none))
        | some c => Ix c k W4 ∧ W4.heap[l]? = some (.loop (rec .done (some c))))) a' W1 := by
  have hlt := (Array.getElem?_eq_some_iff.1 hl).1
  refine ⟨_, run_beginRound hl (by rw [hrec]), wpIn_mono hbody ?_⟩
  have hl2 : (W.putObj l (.loop { rec .ready none with state := .busy })).heap[l]? = some (.loop { rec .ready none with state := .busy }) := World.putObj_heap_same hlt
  have hd2 : (W.putObj l (.loop { rec .ready none with state := .busy })).heap[D]? = some (.deferred (some [])) := (World.putObj_heap_other (by omega)).trans hd
  have hk0 : Keep (l + 1) W (W.putObj l (.loop { rec .ready none with state := .busy })) := Keep.put _ (by omega)
  have close : ∀ (jump : Option Code) (W3 : World), Keep D (W.putObj l (.loop { rec .ready none with state := .busy })) W3 →
      W3.heap[l]? = some (.loop { rec .ready none with state := .busy }) ∧ ∃ W4, W4 = W3.putObj l (.loop (rec (if jump.isNone then .ready else .done) jump)) ∧ (Instr.endRound l jump).run P W3 = .ok (.bool jump.isNone) W4 ∧ W4.heap[D]? = some (.deferred (some [])) ∧ Keep (l + 1) W W4 ∧ W4.heap[l]? = some (.loop (rec (if jump.isNone then .ready else .done) jump)) := by
    intro jump W3 hk
    have h3 := hk.at_ (by omega) hl2
    refine ⟨h3, _, rfl, ?_, (World.putObj_heap_other (by omega)).trans (hk.at_ (Nat.le_refl _) hd2), hk0.trans ((hk.mono (by omega)).trans (Keep.put _ (by omega))), World.putObj_heap_same (Array.getElem?_eq_some_iff.1 h3).1⟩
    have := run_endRound (P := P) jump h3
    rw [hrec] at this ⊢
    exact this
  intro e _ W3 hp
  match e, hp with
  | .normal, ⟨hk, hi⟩ =>
    obtain ⟨h3, W4, rfl, hr, h4, h6, h5⟩ := close none W3 hk
    exact ⟨none, _, rfl, hr, h4, h6, hI _ _ _ hi (Recs.put _ (by omega) h3 rfl), h5⟩
  | .ret, ⟨hk, hi⟩ =>
    obtain ⟨h3, W4, rfl, hr, h4, h6, h5⟩ := close (some .ret) W3 hk
    exact ⟨some .ret, _, rfl, hr, h4, h6, hIx _ _ _ _ hi (Recs.put _ (by omega) h3 rfl), h5⟩
  | .exit id, ⟨hk, hi⟩ =>
    obtain ⟨h3, W4, rfl, hr, h4, h6, h5⟩ := close (some (.exit id)) W3 hk
    exact ⟨some (.exit id), _, rfl, hr, h4, h6, hIx _ _ _ _ hi (Recs.put _ (by omega) h3 rfl), h5⟩
  | .goto t, ⟨hk, hi⟩ =>
    obtain ⟨h3, W4, rfl, hr, h4, h6, h5⟩ := close (some (.goto t)) W3 hk
    exact ⟨some (.goto t), _, rfl, hr, h4, h6, hIx _ _ _ _ hi (Recs.put _ (by omega) h3 rfl), h5⟩
  | .panic _, hp => exact hp.elim
  | .outgrown, hp => exact hp.elim

theorem range_givesK {α : Type} {g : Operand} {ps : Array Tmp} {assign body : Code} {Q : Exit → Act → World → Prop} {a : Act} {w : World} (n : Nat) {gf : Nat} {lb : Array Value} (hg : a.eval g = .func (.func gf) #[] lb) (eg : ∀ args w, (callFunc gf args).run P w = .ok (.enter gf args) w)
    {encs : α → Array Value} {xs : List α} {w0 : World} {St : World → Prop} (hseq : GivesK (n - 1) P gf lb encs xs w0 St) (hb0 : Below w0.heap.size w0 w) (hps : ∀ x, (encs x).size = ps.size)
    (I : Nat → World → Prop) (Ix : Code → Nat → World → Prop) (hI : ∀ k A A', I k A → Recs w.heap.size A A' → I k A') (hIx : ∀ c k A A', Ix c k A → Recs w.heap.size A A' → Ix c k A') (h0 : I 0 w) (hSt : ∀ k A, I k A → St A)
    (Ax : α → Act → World → Prop) (hAx : ∀ x a' A A', Ax x a' A → Recs w.heap.size A A' → Ax x a' A')
    (hassign : ∀ (l : Nat) (k : Nat) (x : α) (W : World) (K : Act → World → Prop), xs[k]? = some x → I k W → (∀ a' W', Keep w.heap.size W W' → I k W' → Ax x a' W' → K a' W') →
      assign.wpIn (Fence.wide.inRound l) (n - 1 - 1) P (Exit.then K (fun _ _ _ => False)) { tmps := (ps.zip (encs x)).foldl (fun t (p, v) => t.setIfInBounds p v) a.tmps, defers := [] } W)
    (hbody : ∀ (l : Nat) (k : Nat) (x : α) (a' : Act) (W : World), w.heap.size ≤ l → xs[k]? = some x → I k W → Ax x a' W → body.wpIn (Fence.wide.inRound l) (n - 1 - 1) P (bodyPostK w.heap.size I Ix (k + 1) W) a' W)
    (hdone : ∀ (D : Nat) (W : World), w.heap.size ≤ D → I xs.length W → W.heap[D]? = some (.deferred (some [])) → Q .normal { a with defers := { target := .collected D, args := #[] } :: a.defers } W)
    (hstop : ∀ (D : Nat) (c : Code) (k : Nat) (W : World), w.heap.size ≤ D → k ≤ xs.length → Ix c k W → W.heap[D]? = some (.deferred (some [])) → c.wpIn Fence.wide n P Q { a with defers := { target := .collected D, args := #[] } :: a.defers } W) :
    (Code.rangeFunc g ps assign body).wp P Q a w := by
  refine (wpIn_wide (n := n)).1 (wpIn_rangeFunc fun fn hfn => ?_)
  have hro : Fence.wide.round = none := rfl
  rw [hro]
  obtain ⟨rec, hrec⟩ : ∃ rec : LoopState → Option Code → Loop, rec = fun st pe => { state := st, pending := pe, fn, tmps := a.tmps, params := ps, assign, body, defers := w.heap.size } := ⟨_, rfl⟩
  obtain ⟨W1, hW1⟩ : ∃ W1, (w.alloc (.deferred (some []))).alloc (.loop (rec .ready none)) = W1 := ⟨_, rfl⟩
  have hs1 : W1.heap.size = w.heap.size + 2 := by rw [← hW1]; simp
  have hl1 : W1.heap[w.heap.size + 1]? = some (.loop (rec .ready none)) := by
    rw [← hW1]
    have := heap_alloc_new (w.alloc (.deferred (some []))) (.loop (rec .ready none))
    rwa [World.size_alloc] at this
  have hd1 : W1.heap[w.heap.size]? = some (.deferred (some [])) := by
    rw [← hW1, heap_alloc_old _ _ (by simp)]; exact heap_alloc_new _ _
  have hi1 : I 0 W1 := by rw [← hW1]; exact hI _ _ _ (hI _ _ _ h0 (Recs.alloc _ _ _)) (Recs.alloc _ _ _)
  have hb1 : Below w0.heap.size w0 W1 := by
    rw [← hW1]; exact (hb0.alloc hb0.size _).alloc (by simp; have := hb0.size; omega) _
  refine ⟨w.heap.size + 1, [{ target := .collected w.heap.size, args := #[] }], W1, { target := .fn (.func gf) lb, args := #[.func (.yield (w.heap.size + 1)) #[] #[]] }, W1, gf, #[.func (.yield (w.heap.size + 1)) #[] #[]] ++ lb, W1, ?_, ?_, fun _ _ => trivial, ?_, (fun h => by cases h), ?_⟩
  · rw [← hW1, hrec]; exact run_enterLoop_outer _ _ _ _ _
  · simp only [resolve, hg]; simp [go_sem]
  · simp [invoke, go_sem, eg]
  have hcall := hseq (w.heap.size + 1) (fun k A => I k A ∧ A.heap[w.heap.size + 1]? = some (.loop (rec .ready none)) ∧ A.heap[w.heap.size]? = some (.deferred (some [])))
    (fun k A => ∃ c, Ix c k A ∧ A.heap[w.heap.size + 1]? = some (.loop (rec .done (some c))) ∧ A.heap[w.heap.size]? = some (.deferred (some []))) W1 hb1 (fun k A hs => hSt k A hs.1)
  rw [hs1] at hcall
  refine (hcall (fun k A A' hs ht => ⟨hI _ _ _ hs.1 (ht.mono (by omega)), ht.old (by omega) hs.2.1, ht.old (by omega) hs.2.2⟩) (fun k A A' ⟨c, h1, h2, h3⟩ ht => ⟨c, hIx _ _ _ _ h1 (ht.mono (by omega)), ht.old (by omega) h2, ht.old (by omega) h3⟩) ?_ ⟨hi1, hl1, hd1⟩).mono ?_
  · rintro k x A hx ⟨hi, hl, hd⟩
    have hy := run_yield (P := P) (args := encs x) hl (by rw [hrec]; exact hps x)
    rw [hrec] at hy
    refine ⟨fn, _, assign, body, hy, roundIn_of_wpIn hfn (hassign _ k x A _ hx hi ?_)⟩
    intro a' A' hkf hi' hax
    have hl' := hkf.at_ (by omega) hl
    have hd' := hkf.at_ (Nat.le_refl _) hd
    have hbd := hbody (w.heap.size + 1) k x a' (A'.putObj (w.heap.size + 1) (.loop { rec .ready none with state := .busy })) (by omega) hx (hI _ _ _ hi' (Recs.put _ (by omega) hl' rfl)) (hAx _ _ _ _ hax (Recs.put _ (by omega) hl' rfl))
    obtain ⟨W2, hbeg, hrun⟩ := round_givesK (l := w.heap.size + 1) rec hrec (by omega) hI hIx hl' hd' hbd
    refine ⟨W2, hbeg, wpIn_mono hrun ?_⟩
    rintro e a3 W3 ⟨jump, W4, hj, hend, hd4, hk4, hm⟩
    have hkk := (hkf.mono (show w.heap.size ≤ w.heap.size + 2 by omega)).trans (hk4.mono (by omega))
    cases e with
    | normal =>
      subst hj
      obtain ⟨hi4, hl4⟩ := hm
      exact ⟨_, _, hend, .inl ⟨rfl, hi4, hl4, hd4⟩, hkk⟩
    | ret =>
      subst hj
      exact ⟨_, _, hend, .inr ⟨rfl, .ret, hm.1, hm.2, hd4⟩, hkk⟩
    | exit id =>
      subst hj
      exact ⟨_, _, hend, .inr ⟨rfl, .exit id, hm.1, hm.2, hd4⟩, hkk⟩
    | goto t =>
      subst hj
      exact ⟨_, _, hend, .inr ⟨rfl, .goto t, hm.1, hm.2, hd4⟩, hkk⟩
    | panic ch => exact hj.elim
    | outgrown => exact hj.elim
  · rintro e A ⟨⟨v, rfl⟩, (⟨hi, hl, hd⟩ | ⟨k, hk, c, hi, hl, hd⟩)⟩
    · refine ⟨none, _, by have := run_endLoop (P := P) hl (by rw [hrec]; simp); rw [hrec] at this; exact this, hdone _ _ (Nat.le_refl _) (hI _ _ _ hi (Recs.put _ (by omega) hl rfl)) ((World.putObj_heap_other (by omega)).trans hd)⟩
    · refine ⟨some c, _, by have := run_endLoop (P := P) hl (by rw [hrec]; simp); rw [hrec] at this; exact this, hstop _ c k _ (Nat.le_refl _) hk (hIx _ _ _ _ hi (Recs.put _ (by omega) hl rfl)) ((World.putObj_heap_other (by omega)).trans hd)⟩
end
end Go.Proofs.Yteognijlgalahaa
