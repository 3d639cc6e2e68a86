/- A law for a region that draws its order: some operations only read, and are taken first; the others come one behind the other; a tail waits for all. -/
import Derived.Test.YteognijlgalahaaT
import Derived.OrdersHeld
namespace Go.Proofs.Yteognijlgalahaa
open Go.RowKit Go.Lib

section
variable {P : Program} {ops : Array Oper} {md : Region.Mode} {S : World → Prop} {Q : Exit → Act → World → Prop} {T : Act → World → Prop}
/-- Only at a normal end. -/
def Ends (T : Act → World → Prop) : Exit → Act → World → Prop
  | .normal, a, w => T a w
  | _, _, _ => False
theorem Ends.intro {a : Act} {w : World} (h : T a w) : Ends T .normal a w := h
theorem Oper.wp_ends {o : Oper} {a : Act} {w : World} {K K' : Act → World → Prop} (h : ∀ a w, K a w → K' a w) (hh : o.wp P a w K (Ends T)) : o.wp P a w K' Q := by
  unfold Oper.wp at *
  generalize (execOp a.eval o).run P w = r at *
  cases r with
  | ok n w' =>
    cases n <;> simp only [Oper.upon] at hh ⊢ <;>
      first
        | exact h _ _ hh
        | (refine Calls.mono hh (fun e w'' he => ?_)
           cases e with
           | returned v => exact h _ _ he
           | panicked c => exact (show False from he).elim
           | outgrown => obtain ⟨a1, w1, h1⟩ := (show LetsOut (Ends T) from he); exact (show False from h1).elim)
        | exact Rows.mono hh (fun _ _ he => h _ _ he)
  | halt x w' =>
    cases x <;> simp only [Oper.upon] at hh ⊢
    exact (show False from hh).elim
theorem wpOp_trunc {n i : Nat} {K K' : Act → World → Prop} {a : Act} {w : World} (hi : i < n) (hh : headOk ops n = true) (hK : ∀ a w, K a w → K' a w) (h : wpOp P (ops.extract 0 n) (Ends T) i K a w) : wpOp P ops Q i K' a w := by
  have e : (ops.extract 0 n)[i]? = ops[i]? := ext0 _ hi
  unfold wpOp at *
  rw [e] at h
  cases ho : ops[i]? with
  | none => simp only [ho] at h ⊢; exact hK _ _ h
  | some o =>
    simp only [ho] at h ⊢
    have hg : Region.wanted o (yielded (ops.extract 0 n) a.tmps) = Region.wanted o (yielded ops a.tmps) := by
      unfold Region.wanted
      cases hq : o.guard with
      | none => rfl
      | some q =>
        obtain ⟨j, b⟩ := q
        have hj := (headOk_spec hh ho).2 hi j b hq
        simp only [yielded]
        rw [show (ops.extract 0 n)[j]? = ops[j]? from ext0 _ hj]
    rw [hg] at h
    split
    · rename_i hw
      rw [if_pos hw] at h
      rcases h with h | ⟨_, a1, w1, h1⟩
      · exact .inl (Oper.wp_ends hK h)
      · exact (show False from h1).elim
    · rename_i hw
      rw [if_neg hw] at h
      exact hK _ _ h
theorem wpAny_of_truncE {n m : Nat} (hs : Region.sinkB md ops n = true) (hc : Region.chainB md ops n = true) (hh : headOk ops n = true) (hn : n < ops.size)
    (hT : ∀ L a w, HeadInv md ops n L → unl n L = 0 → T a w → wpAny P md ops Q m L a w) :
    ∀ (f : Nat) (L : Array Bool) (a : Act) (w : World), HeadInv md ops n L → unl n L = f → wpAny P md (ops.extract 0 n) (Ends T) f (L.extract 0 n) a w → wpAny P md ops Q (f + m) L a w
  | 0, L, a, w, inv, hu, h => by rw [Nat.zero_add]; exact hT L a w inv hu h.2
  | f + 1, L, a, w, inv, hu, h => by
    rw [show f + 1 + m = (f + m) + 1 by omega]
    obtain ⟨k, hk, hku, hkl⟩ := unl_pos (n := n) (L := L) (by omega)
    refine ⟨fun h0 => ?_, fun i hi => ?_⟩
    · exfalso
      have hks : k < ops.size := by omega
      have hko : ops[k]? = some ops[k] := by simp [hks]
      have : k ∈ Region.ready md ops L := mem_ready.2 ⟨hku, _, hko, fun e he _ => by
        have h1 := (headOk_spec hh hko).1 e he
        have h2 := hkl _ h1
        have hsz : e.on < L.size := by rw [inv.size]; omega
        simp [hsz] at h2 ⊢
        exact h2⟩
      rw [h0] at this; cases this
    · have hin : i < n := by
        rcases Nat.lt_or_ge i n with h1 | h1
        · exact h1
        · exact absurd hi (tail_waits hs hc hn inv _ k rfl hk hku i h1)
      have ht : ∀ t, n ≤ t → L.getD t false = false := fun t ht => by
        rcases Nat.lt_or_ge t ops.size with h1 | h1
        · exact getD_both (inv.tail t ht h1)
        · have : L.size ≤ t := by rw [inv.size]; exact h1
          simp [Array.getElem?_eq_none this]
      refine wpOp_trunc hin hh (fun a' w' hK => ?_) (h.2 i (ready_trunc hin ht hi))
      have hiu := (mem_ready.1 hi).1
      have his : i < L.size := by rw [inv.size]; omega
      rw [set_ext0 hin his] at hK
      exact wpAny_of_truncE hs hc hh hn hT f _ a' w' (inv.set hi hin) (by have := unl_set hin his hiu; omega) hK

/-- Operations that yield a value and do no more. -/
def valueB : Op → Bool
  | .load .. | .fieldAddr .. | .move _ | .indexAddr .. | .binOp .. | .unOp .. | .convert .. | .extract .. | .pick .. | .field .. | .index .. => true
  | _ => false
theorem exec_value {o : Oper} (hv : valueB o.op = true) (ρ : Operand → Value) (w : World) : (∃ u w', (execOp ρ o).run P w = .ok (.value u) w') ∨ (∃ x w', (execOp ρ o).run P w = .halt x w') := by
  have key : ∀ s : Sem Value, (∃ u w', (do pure (.value (← s)) : Sem Next).run P w = .ok (.value u) w') ∨ (∃ x w', (do pure (.value (← s)) : Sem Next).run P w = .halt x w') := fun s => by
    rw [Sem.run_bind]
    cases h : s.run P w with
    | ok u w' => left; exact ⟨u, w', by simp [Result.andThen, Sem.run_pure]⟩
    | halt x w' => right; exact ⟨x, w', by simp [Result.andThen]⟩
  unfold execOp
  cases ho : o.op <;> simp only [ho, valueB, Bool.false_eq_true] at hv ⊢
  case move x => left; exact ⟨_, _, Sem.run_pure _ _ _⟩
  case pick c a b =>
    rw [Sem.run_bind]
    cases h : (asBool (ρ c)).run P w with
    | ok u w' => left; exact ⟨if u then ρ a else ρ b, w', by simp [Result.andThen, Sem.run_pure]⟩
    | halt x w' => right; exact ⟨x, w', by simp [Result.andThen]⟩
  all_goals exact key _
theorem yieldsIf_of_quiet {o : Oper} {a : Act} {v : Value} {C : World → Prop} (hv : valueB o.op = true) (hw : Region.wanted o (yielded ops a.tmps) = true) (h : ∀ w, C w → o.quietAt P a C w v) : YieldsIf P ops C o v a :=
  .inl ⟨hw, fun w hC => by
    have h1 := h w hC
    unfold Oper.quietAt at h1
    rcases exec_value (P := P) hv a.eval w with ⟨u, w', e⟩ | ⟨x, w', e⟩
    · rw [e] at h1 ⊢
      obtain ⟨rfl, rfl⟩ := h1
      rfl
    · rw [e] at h1; exact h1.elim⟩
/-- These may be taken, one behind the other. -/
def takesB (md : Region.Mode) (ops : Array Oper) : Array Bool → List Nat → Bool
  | _, [] => true
  | L, i :: rs => (Region.ready md ops L).contains i && Region.free md ops L i && (match ops[i]? with | some o => valueB o.op | none => false) && takesB md ops (L.setIfInBounds i true) rs
def takenB : Array Bool → List Nat → Array Bool
  | L, [] => L
  | L, i :: rs => takenB (L.setIfInBounds i true) rs
/-- These come one behind the other, and then none. -/
def forcedB (md : Region.Mode) (ops : Array Oper) : Array Bool → List Nat → Bool
  | L, [] => (Region.ready md ops L).isEmpty
  | L, i :: cs => decide (Region.ready md ops L = [i]) && forcedB md ops (L.setIfInBounds i true) cs
def wpForce (P : Program) (ops : Array Oper) (S : World → Prop) (T : Act → World → Prop) : List Oper → Act → World → Prop
  | [], a, w => T a w
  | o :: cs, a, w => wpList P ops (Ends fun a' w' => S w' ∧ wpForce P ops S T cs a' w') [o] a w
theorem wpAnyH_forced : ∀ (cs : List Nat) (L : Array Bool) (a : Act) (w : World), forcedB md ops L cs = true → wpForce P ops S T (cs.filterMap (ops[·]?)) a w → wpAnyH P md ops (Ends T) S cs.length L a w
  | [], L, a, w, hB, h => ⟨by simpa [forcedB] using hB, h⟩
  | i :: cs, L, a, w, hB, h => by
    simp only [forcedB, Bool.and_eq_true, decide_eq_true_eq] at hB
    obtain ⟨h1, h2⟩ := hB
    have hi : i ∈ Region.ready md ops L := by rw [h1]; simp
    obtain ⟨_, o, ho, _⟩ := mem_ready.1 hi
    rw [List.filterMap_cons, ho] at h
    refine ⟨fun h0 => by rw [h1] at h0; (exact absurd h0 (by simp)), fun j hj => ?_⟩
    rw [h1, List.mem_singleton] at hj
    subst hj
    simp only [wpForce, wpList] at h
    unfold wpOp
    simp only [ho]
    split
    · rename_i hw
      rw [if_pos hw] at h
      rcases h with h | ⟨_, a1, w1, h1⟩
      case inr => exact (show False from h1).elim
      refine .inl (Oper.wp_ends (fun a' w' h' => ?_) h)
      have h'' : S w' ∧ wpForce P ops S T (cs.filterMap (ops[·]?)) a' w' := h'
      exact ⟨h''.1, wpAnyH_forced cs _ a' w' h2 h''.2⟩
    · rename_i hw
      rw [if_neg hw] at h
      have h'' : S w ∧ wpForce P ops S T (cs.filterMap (ops[·]?)) (a.put o.dst undef) w := h
      exact ⟨h''.1, wpAnyH_forced cs _ _ _ h2 h''.2⟩
theorem wpAnyH_takes (hns : Region.noSelect ops = true) : ∀ (rs : List Nat) (L : Array Bool) (a : Act) (w : World) (f : Nat), S w → takesB md ops L rs = true →
    wpQuiet P ops S (fun a' => wpAnyH P md ops (Ends T) S f (takenB L rs) a' w) (rs.filterMap (ops[·]?)) a → wpAnyH P md ops (Ends T) S (f + rs.length) L a w
  | [], L, a, w, f, _, _, h => h
  | i :: rs, L, a, w, f, hS, hB, h => by
    simp only [takesB, Bool.and_eq_true] at hB
    obtain ⟨⟨⟨h1, h2⟩, h3⟩, h4⟩ := hB
    have hi : i ∈ Region.ready md ops L := by simpa using h1
    obtain ⟨_, o, ho, _⟩ := mem_ready.1 hi
    rw [List.filterMap_cons, ho] at h
    rw [ho] at h3
    simp only [wpQuiet] at h
    have hstep : ∃ v, YieldsIf P ops S o v a ∧ wpQuiet P ops S (fun a' => wpAnyH P md ops (Ends T) S f (takenB L (i :: rs)) a' w) (rs.filterMap (ops[·]?)) (a.put o.dst v) := by
      by_cases hw : Region.wanted o (yielded ops a.tmps) = true
      · rw [if_pos hw] at h
        obtain ⟨v, hv, hk⟩ := h
        exact ⟨v, yieldsIf_of_quiet h3 hw hv, hk⟩
      · rw [if_neg hw] at h
        exact ⟨undef, .inr ⟨by simpa using hw, rfl⟩, h⟩
    obtain ⟨v, hy, hk⟩ := hstep
    exact wpAnyH_take (i := i) ho hns h2 (by simpa using h1) (fun _ _ _ h => h) hy hS (wpAnyH_takes hns rs _ _ w f hS h4 hk)
theorem wpQuiet_mono {C : World → Prop} {Q Q' : Act → Prop} (h : ∀ a, Q a → Q' a) : ∀ (l : List Oper) (a : Act), wpQuiet P ops C Q l a → wpQuiet P ops C Q' l a
  | [], a, hh => h a hh
  | o :: l, a, hh => by
    simp only [wpQuiet] at hh ⊢
    split
    · rename_i hw; rw [if_pos hw] at hh; exact Oper.quiet_mono (wpQuiet_mono h l) hh
    · rename_i hw; rw [if_neg hw] at hh; exact wpQuiet_mono h l _ hh
theorem wpForce_mono {S S' : World → Prop} (h : ∀ w, S w → S' w) : ∀ (l : List Oper) (a : Act) (w : World), wpForce P ops S T l a w → wpForce P ops S' T l a w
  | [], a, w, hh => hh
  | o :: l, a, w, hh => by
    simp only [wpForce, wpList] at hh ⊢
    split
    · rename_i hw
      rw [if_pos hw] at hh
      rcases hh with hh | ⟨_, a1, w1, h1⟩
      case inr => exact (show False from h1).elim
      refine .inl (Oper.wp_ends (fun a' w' h' => ?_) hh)
      have h'' : S w' ∧ wpForce P ops S T l a' w' := h'
      exact (show S' w' ∧ wpForce P ops S' T l a' w' from ⟨h _ h''.1, wpForce_mono h l _ _ h''.2⟩)
    · rename_i hw
      rw [if_neg hw] at hh
      have h'' : S w ∧ wpForce P ops S T l (a.put o.dst undef) w := hh
      exact (show S' w ∧ wpForce P ops S' T l (a.put o.dst undef) w from ⟨h _ h''.1, wpForce_mono h l _ _ h''.2⟩)
def readsB (l : List Oper) (n : Nat) (rs cs : List Nat) : Bool :=
  Region.sinkB .any l.toArray n && Region.chainB .any l.toArray n && headOk l.toArray n && Region.seqB .any l.toArray (l.drop n).length n ((Array.replicate l.length false).mapIdx fun i _ => decide (i < n)) && decide (n < l.length) &&
    Region.noSelect (l.take n).toArray && takesB .any (l.take n).toArray (Array.replicate n false) rs && forcedB .any (l.take n).toArray (takenB (Array.replicate n false) rs) cs && decide (cs.length + rs.length = n)
/-- THE LAW. -/
theorem wp_region_reads {id : Nat} {l : List Oper} {a : Act} {w : World} (n : Nat) (rs cs : List Nat) (hm : P.follows .mixedOrders = true) (hB : readsB l n rs cs = true)
    (h : wpQuiet P (l.take n).toArray (fun w' => ∃ p : Regrown, w' = Go.Sort.grow (redrawn w p.d) p.os) (fun a' => ∀ w', Below w.heap.size w w' → w'.heap.size = w.heap.size → wpForce P (l.take n).toArray (fun w' => Below w.heap.size w w') (fun a w => wpList P l.toArray Q (l.drop n) a w) (cs.filterMap ((l.take n).toArray[·]?)) a' w') (rs.filterMap ((l.take n).toArray[·]?)) a) :
    (Code.region id l.toArray true).wp P Q a w := by
  simp only [readsB, Bool.and_eq_true, decide_eq_true_eq] at hB
  obtain ⟨⟨⟨⟨⟨⟨⟨⟨b1, b2⟩, b3⟩, b4⟩, b5⟩, b6⟩, b7⟩, b8⟩, b9⟩ := hB
  have hn : n < l.toArray.size := by simpa using b5
  have e : l.toArray.extract 0 n = (l.take n).toArray := by simp
  have hsz : (l.take n).toArray.size = n := by simp; omega
  refine wp_region_any hm ?_
  have inv : HeadInv .any l.toArray n (Array.replicate l.toArray.size false) := ⟨by simp, (fun j oj _ hl => by rw [getD_replicate_false] at hl; cases hl), fun t _ ht => by simp at ht; simp [ht]⟩
  have hu : unl n (Array.replicate l.toArray.size false) = n := by
    unfold unl
    rw [List.countP_eq_length.2 (fun i hi => by
      have h1 := List.mem_range.1 hi
      have h2 : i < l.length := by omega
      simp [h2]), List.length_range]
  have e1 : (Array.replicate l.toArray.size false).extract 0 n = Array.replicate n false := by
    apply Array.ext_getElem?
    intro j
    by_cases hj : j < n
    · rw [ext0 _ hj, Array.getElem?_replicate, Array.getElem?_replicate, if_pos hj, if_pos (by omega)]
    · rw [Array.getElem?_eq_none (by simp; omega), Array.getElem?_eq_none (by simp; omega)]
  have hbd : Below w.heap.size w { w with drawn := w.drawn + 1 } := (Below.refl w.heap.size w).drew
  have hlen : n + (l.drop n).length = l.toArray.size := by simp; omega
  suffices hg : wpAny P .any l.toArray Q (n + (l.drop n).length) (Array.replicate l.toArray.size false) a { w with drawn := w.drawn + 1 } by rw [hlen] at hg; exact hg
  refine wpAny_of_truncE (T := fun a w => wpList P l.toArray Q (l.drop n) a w) b1 b2 b3 hn (fun L a' w' inv' hu' hT => ?_) n _ a _ inv hu ?_
  · have eL : L = (Array.replicate l.length false).mapIdx fun i _ => decide (i < n) := by
      apply Array.ext (by simp [inv'.size])
      intro i h1 h2
      simp only [Array.getElem_mapIdx]
      by_cases hi : i < n
      · have := unl_zero hu' i hi; simp [h1] at this; simp [hi, this]
      · have := inv'.tail i (by omega) (by rw [← inv'.size]; exact h1); simp [h1] at this; simp [hi, this]
    subst eL
    exact wpAny_of_seq (l.drop n) n _ a' w' (fun j => by simp [List.getElem?_drop]) b4 hT
  · rw [e1, e]
    refine wpAny_of_held (S := fun w' => ∃ p : Regrown, w' = Go.Sort.grow (redrawn w p.d) p.os) _ _ _ _ ?_
    suffices hg : wpAnyH P .any (l.take n).toArray (Ends fun a w => wpList P l.toArray Q (l.drop n) a w) (fun w' => ∃ p : Regrown, w' = Go.Sort.grow (redrawn w p.d) p.os) (cs.length + rs.length) (Array.replicate n false) a { w with drawn := w.drawn + 1 } by rw [b9] at hg; exact hg
    refine wpAnyH_takes b6 rs _ a _ cs.length ⟨⟨w.drawn + 1, #[]⟩, by rw [Go.Sort.grow_empty]; rfl⟩ b7 ?_
    refine wpQuiet_mono (fun a' ha => ?_) _ _ h
    exact wpAnyH_forced cs _ a' _ b8 (wpForce_mono (fun w' hb => regrown_of_below hb) _ _ _ (ha _ hbd rfl))
end
end Go.Proofs.Yteognijlgalahaa
