/- The law of TT where one operation makes a variable at whatever moment. -/
import Derived.Test.YteognijlgalahaaIS
namespace Go.Proofs.Yteognijlgalahaa
open Go.RowKit Go.Lib

section
variable {P : Program} {ops : Array Oper} {md : Region.Mode} {S : World → Prop} {Q : Exit → Act → World → Prop} {T : Act → World → Prop}
theorem Oper.wp_put {o : Oper} {a : Act} {w : World} {K : Act → World → Prop} (hh : o.wp P a w K (Ends T)) : o.wp P a w (fun a' w' => K a' w' ∧ ∃ v, a'.tmps = (a.put o.dst v).tmps) (Ends T) := by
  unfold Oper.wp at *
  generalize (execOp a.eval o).run P w = r at *
  cases r with
  | ok n w' =>
    cases n <;> simp only [Oper.upon] at hh ⊢
    case value v => exact ⟨hh, v, rfl⟩
    case skip => exact ⟨hh, _, rfl⟩
    case defer d => exact ⟨hh, undef, by cases o.dst <;> rfl⟩
    case enter f args =>
      refine Calls.mono hh (fun e w'' he => ?_)
      cases e with
      | returned v => exact ⟨he, v, rfl⟩
      | panicked c => exact he
      | outgrown => exact he
    case row row args => exact Rows.mono hh (fun v _ he => ⟨he, v, rfl⟩)
  | halt x w' =>
    cases x <;> simp only [Oper.upon] at hh ⊢
    exact hh
theorem put_self {a : Act} {f : Nat} : a.put (some f) (a.tmps.getD f undef) = a := by
  obtain ⟨t, d⟩ := a
  simp only [Act.put]
  congr 1
  apply Array.ext_getElem?
  intro i
  rw [Array.getElem?_setIfInBounds]
  by_cases h : f = i
  · subst h
    by_cases hs : f < t.size
    · simp [hs]
    · simp [hs]
  · rw [if_neg h]
/-- A chain of operations, between any two of which slot f may turn, and memory may grow. -/
def wpFloat (P : Program) (ops : Array Oper) (f : Nat) (T : Act → World → Prop) : List Oper → Act → World → Prop
  | [], a, w => T a w
  | o :: cs, a, w => wpList P ops (Ends fun a' w' => Below w.heap.size w w' ∧ ∀ vf w'', Below w'.heap.size w' w'' → wpFloat P ops f T cs (a'.put (some f) vf) w'') [o] a w
/-- What is asked at the end: the variable lies in block G. -/
def AtG (f : Nat) (t : TypeId) (z : Array Value) (B : Nat) (T : Act → World → Prop) (a : Act) (w : World) : Prop :=
  ∀ G w'', Below w.heap.size w w'' → B ≤ G → Lies w'' G t z → T (a.put (some f) (.pointer (some ⟨G, 0, none⟩))) w''
def forcedFB (md : Region.Mode) (ops : Array Oper) (fi : Nat) : Array Bool → List Nat → Bool
  | L, [] => decide (Region.ready md ops L = [fi]) && forcedB md ops (L.setIfInBounds fi true) []
  | L, i :: cs => (Region.ready md ops L).all (fun j => j == i || j == fi) && (Region.ready md ops L).contains i && (Region.ready md ops L).contains fi && forcedFB md ops fi (L.setIfInBounds i true) cs && forcedB md ops (L.setIfInBounds fi true) (i :: cs)
theorem wpList_one {o : Oper} {a : Act} {w : World} {K : Act → World → Prop} (h : wpList P ops (Ends K) [o] a w) : if Region.wanted o (yielded ops a.tmps) then o.wp P a w K (Ends K) else K (a.put o.dst undef) w := by
  simp only [wpList] at h
  split
  · rename_i hw
    rw [if_pos hw] at h
    rcases h with h | ⟨_, a1, w1, h1⟩
    case inr => exact (show False from h1).elim
    exact Oper.wp_ends (fun a' w' h' => h') h
  · rename_i hw
    rw [if_neg hw] at h
    exact h
/-- The variable is made: the rest of the chain. -/
theorem wpAnyH_done {f : Nat} {t : TypeId} {z : Array Value} {B G : Nat} (hS : ∀ w w', S w → Below w.heap.size w w' → S w') (hB : B ≤ G) : ∀ (cs : List Nat) (L : Array Bool) (a : Act) (w : World), forcedB md ops L cs = true → S w → (∀ i o, i ∈ cs → ops[i]? = some o → o.dst ≠ some f) →
    Lies w G t z → a.tmps.getD f undef = .pointer (some ⟨G, 0, none⟩) → f < a.tmps.size → wpFloat P ops f (AtG f t z B T) (cs.filterMap (ops[·]?)) a w → wpAnyH P md ops (Ends T) S cs.length L a w
  | [], L, a, w, hb, _, _, hl, hf, _, h => ⟨by simpa [forcedB] using hb, by
      have h1 := h G w (Below.refl _ _) hB hl
      rw [← hf, put_self] at h1
      exact h1⟩
  | i :: cs, L, a, w, hb, hs, hd, hl, hf, hfs, h => by
    simp only [forcedB, Bool.and_eq_true, decide_eq_true_eq] at hb
    obtain ⟨h1, h2⟩ := hb
    have hi : i ∈ Region.ready md ops L := by rw [h1]; simp
    obtain ⟨_, o, ho, _⟩ := mem_ready.1 hi
    rw [List.filterMap_cons, ho] at h
    have hdo := hd i o (by simp) ho
    refine ⟨fun h0 => by rw [h1] at h0; (exact absurd h0 (by simp)), fun j hj => ?_⟩
    rw [h1, List.mem_singleton] at hj
    subst hj
    have h3 := wpList_one (show wpList P ops (Ends fun a' w' => Below w.heap.size w w' ∧ ∀ vf w'', Below w'.heap.size w' w'' → wpFloat P ops f (AtG f t z B T) (cs.filterMap (ops[·]?)) (a'.put (some f) vf) w'') [o] a w from h)
    have step : ∀ (a' : Act) (w' : World) (v : Value), a'.tmps = (a.put o.dst v).tmps → (Below w.heap.size w w' ∧ ∀ vf w'', Below w'.heap.size w' w'' → wpFloat P ops f (AtG f t z B T) (cs.filterMap (ops[·]?)) (a'.put (some f) vf) w'') → S w' ∧ wpAnyH P md ops (Ends T) S cs.length (L.setIfInBounds j true) a' w' := by
      intro a' w' v he ⟨hbw, hk⟩
      have hg : a'.tmps.getD f undef = .pointer (some ⟨G, 0, none⟩) := by
        rw [he, ← hf]
        cases hd2 : o.dst with
        | none => rfl
        | some d =>
          have : d ≠ f := fun e => hdo (by rw [hd2, e])
          simp [Act.put, this]
      have hsz : f < a'.tmps.size := by
        rw [he]
        cases o.dst <;> simpa [Act.put] using hfs
      have h4 := hk (a'.tmps.getD f undef) w' (Below.refl _ _)
      rw [put_self] at h4
      exact ⟨hS _ _ hs hbw, wpAnyH_done hS hB cs _ a' w' h2 (hS _ _ hs hbw) (fun i o hi ho => hd i o (List.mem_cons_of_mem _ hi) ho) (hl.call hbw) hg hsz h4⟩
    unfold wpOp
    simp only [ho]
    split
    · rename_i hw
      rw [if_pos hw] at h3
      exact .inl (Oper.wp_ends (fun a' w' h' => step a' w' _ h'.2.choose_spec h'.1) (Oper.wp_put h3))
    · rename_i hw
      rw [if_neg hw] at h3
      exact step _ _ undef rfl h3
/-- The variable is not yet made. -/
theorem wpAnyH_float {f fi : Nat} {t : TypeId} {z : Array Value} {B : Nat} {og : Oper} (hS : ∀ w w', S w → Below w.heap.size w w' → S w') (hSB : ∀ w, S w → B ≤ w.heap.size) (hof : ops[fi]? = some og) (hod : og.dst = some f) (hgu : og.guard = none) (hoo : og.op = .alloc t)
    (hal : ∀ w, (Instr.alloc t true (.tuple #[])).run P w = .ok (.pointer (some ⟨w.heap.size, 0, none⟩)) (w.alloc (.cells z t))) : ∀ (cs : List Nat) (L : Array Bool) (a : Act) (w : World), forcedFB md ops fi L cs = true → S w → (∀ i o, i ∈ cs → ops[i]? = some o → o.dst ≠ some f) → f < a.tmps.size →
    (∀ vf w'', Below w.heap.size w w'' → wpFloat P ops f (AtG f t z B T) (cs.filterMap (ops[·]?)) (a.put (some f) vf) w'') → wpAnyH P md ops (Ends T) S (cs.length + 1) L a w := by
  have alloc : ∀ (cs : List Nat) (L : Array Bool) (a : Act) (w : World), forcedB md ops (L.setIfInBounds fi true) cs = true → S w → (∀ i o, i ∈ cs → ops[i]? = some o → o.dst ≠ some f) → f < a.tmps.size → (∀ vf w'', Below w.heap.size w w'' → wpFloat P ops f (AtG f t z B T) (cs.filterMap (ops[·]?)) (a.put (some f) vf) w'') →
      wpOp P ops (Ends T) fi (fun a' w' => S w' ∧ wpAnyH P md ops (Ends T) S cs.length (L.setIfInBounds fi true) a' w') a w := by
    intro cs L a w hb hs hd hfs h
    have hbw : Below w.heap.size w (w.alloc (.cells z t)) := (Below.refl _ _).alloc (Nat.le_refl _) _
    unfold wpOp
    simp only [hof]
    rw [if_pos (by simp [Region.wanted, hgu])]
    refine .inl ?_
    unfold Oper.wp execOp
    simp only [hoo, Sem.run_bind, hal w, Result.andThen, Sem.run_pure, Oper.upon, hod]
    refine ⟨hS _ _ hs hbw, wpAnyH_done hS (hSB w hs) cs _ _ _ hb (hS _ _ hs hbw) hd (Lies.fresh w t z) ?_ (by simpa [Act.put] using hfs) (h _ _ hbw)⟩
    simp [Act.put, hfs]
  intro cs
  induction cs with
  | nil =>
    intro L a w hb hs hd hfs h
    simp only [forcedFB, Bool.and_eq_true, decide_eq_true_eq] at hb
    refine ⟨fun h0 => by rw [hb.1] at h0; (exact absurd h0 (by simp)), fun j hj => ?_⟩
    rw [hb.1, List.mem_singleton] at hj
    rw [hj]
    exact alloc [] L a w hb.2 hs (fun i o hi => by cases hi) hfs h
  | cons i cs ih =>
    intro L a w hb hs hd hfs h
    simp only [forcedFB, Bool.and_eq_true] at hb
    obtain ⟨⟨⟨⟨h1, h2⟩, h3⟩, h4⟩, h5⟩ := hb
    have hi : i ∈ Region.ready md ops L := by simpa using h2
    obtain ⟨_, o, ho, _⟩ := mem_ready.1 hi
    have hdo := hd i o (by simp) ho
    refine ⟨fun h0 => (by rw [h0] at hi; cases hi), fun j hj => ?_⟩
    have hj2 := List.all_eq_true.1 h1 j hj
    simp only [Bool.or_eq_true, beq_iff_eq] at hj2
    by_cases hji : j = i
    · subst hji
      have h' := h (a.tmps.getD f undef) w (Below.refl _ _)
      rw [put_self, List.filterMap_cons, ho] at h'
      have h3 := wpList_one (show wpList P ops (Ends fun a' w' => Below w.heap.size w w' ∧ ∀ vf w'', Below w'.heap.size w' w'' → wpFloat P ops f (AtG f t z B T) (cs.filterMap (ops[·]?)) (a'.put (some f) vf) w'') [o] a w from h')
      have step : ∀ (a' : Act) (w' : World) (v : Value), a'.tmps = (a.put o.dst v).tmps → (Below w.heap.size w w' ∧ ∀ vf w'', Below w'.heap.size w' w'' → wpFloat P ops f (AtG f t z B T) (cs.filterMap (ops[·]?)) (a'.put (some f) vf) w'') → S w' ∧ wpAnyH P md ops (Ends T) S (cs.length + 1) (L.setIfInBounds j true) a' w' := by
        intro a' w' v he ⟨hbw, hk⟩
        have hsz : f < a'.tmps.size := by
          rw [he]
          cases o.dst <;> simpa [Act.put] using hfs
        exact ⟨hS _ _ hs hbw, ih _ a' w' h4 (hS _ _ hs hbw) (fun i o hi ho => hd i o (List.mem_cons_of_mem _ hi) ho) hsz hk⟩
      unfold wpOp
      simp only [ho]
      split
      · rename_i hw
        rw [if_pos hw] at h3
        exact .inl (Oper.wp_ends (fun a' w' h' => step a' w' _ h'.2.choose_spec h'.1) (Oper.wp_put h3))
      · rename_i hw
        rw [if_neg hw] at h3
        exact step _ _ undef rfl h3
    · have hjf : j = fi := by rcases hj2 with e | e; exact absurd e hji; exact e
      rw [hjf]
      exact alloc (i :: cs) L a w h5 hs hd hfs h
def floatB (l : List Oper) (n : Nat) (rs cs : List Nat) (fi f : Nat) (t : TypeId) : Bool :=
  Region.sinkB .any l.toArray n && Region.chainB .any l.toArray n && headOk l.toArray n && Region.seqB .any l.toArray (l.drop n).length n ((Array.replicate l.length false).mapIdx fun i _ => decide (i < n)) && decide (n < l.length) &&
    Region.noSelect (l.take n).toArray && takesB .any (l.take n).toArray (Array.replicate n false) rs && forcedFB .any (l.take n).toArray fi (takenB (Array.replicate n false) rs) cs && decide (cs.length + 1 + rs.length = n) &&
    cs.all (fun i => match (l.take n)[i]? with | some o => o.dst != some f | none => true) && (match (l.take n)[fi]? with | some o => decide (o.dst = some f) && o.guard.isNone && (match o.op with | .alloc t' => t' == t | _ => false) | none => false)
/-- THE LAW. -/
theorem wp_region_float {id : Nat} {l : List Oper} {a : Act} {w : World} (n : Nat) (rs cs : List Nat) (fi f : Nat) (t : TypeId) (z : Array Value) (hm : P.follows .mixedOrders = true) (hB : floatB l n rs cs fi f t = true) (_hfs : f < a.tmps.size)
    (hal : ∀ w, (Instr.alloc t true (.tuple #[])).run P w = .ok (.pointer (some ⟨w.heap.size, 0, none⟩)) (w.alloc (.cells z t)))
    (h : wpQuiet P (l.take n).toArray (fun w' => ∃ p : Regrown, w' = Go.Sort.grow (redrawn w p.d) p.os) (fun a' => f < a'.tmps.size ∧ ∀ vf w', Below w.heap.size w w' → wpFloat P (l.take n).toArray f (AtG f t z w.heap.size fun a w => wpList P l.toArray Q (l.drop n) a w) (cs.filterMap ((l.take n).toArray[·]?)) (a'.put (some f) vf) w') (rs.filterMap ((l.take n).toArray[·]?)) a) :
    (Code.region id l.toArray true).wp P Q a w := by
  simp only [floatB, Bool.and_eq_true, decide_eq_true_eq] at hB
  obtain ⟨⟨⟨⟨⟨⟨⟨⟨⟨⟨b1, b2⟩, b3⟩, b4⟩, b5⟩, b6⟩, b7⟩, b8⟩, b9⟩, b10⟩, b11⟩ := hB
  have hn : n < l.toArray.size := by simpa using b5
  have e : l.toArray.extract 0 n = (l.take n).toArray := by simp
  have hsz : (l.take n).toArray.size = n := by simp; omega
  refine wp_region_any hm ?_
  have inv : HeadInv .any l.toArray n (Array.replicate l.toArray.size false) := ⟨by simp, (fun j oj _ hl => by rw [getD_replicate_false] at hl; cases hl), fun t _ ht => by simp at ht; simp [ht]⟩
  have hu : unl n (Array.replicate l.toArray.size false) = n := by
    unfold unl
    rw [List.countP_eq_length.2 (fun i hi => by
      have h1 := List.mem_range.1 hi
      have h2 : i < l.length := by omega
      simp [h2]), List.length_range]
  have e1 : (Array.replicate l.toArray.size false).extract 0 n = Array.replicate n false := by
    apply Array.ext_getElem?
    intro j
    by_cases hj : j < n
    · rw [ext0 _ hj, Array.getElem?_replicate, Array.getElem?_replicate, if_pos hj, if_pos (by omega)]
    · rw [Array.getElem?_eq_none (by simp; omega), Array.getElem?_eq_none (by simp; omega)]
  have hbd : Below w.heap.size w { w with drawn := w.drawn + 1 } := (Below.refl w.heap.size w).drew
  have hlen : n + (l.drop n).length = l.toArray.size := by simp; omega
  suffices hg : wpAny P .any l.toArray Q (n + (l.drop n).length) (Array.replicate l.toArray.size false) a { w with drawn := w.drawn + 1 } by rw [hlen] at hg; exact hg
  refine wpAny_of_truncE (T := fun a w => wpList P l.toArray Q (l.drop n) a w) b1 b2 b3 hn (fun L a' w' inv' hu' hT => ?_) n _ a _ inv hu ?_
  · have eL : L = (Array.replicate l.length false).mapIdx fun i _ => decide (i < n) := by
      apply Array.ext (by simp [inv'.size])
      intro i h1 h2
      simp only [Array.getElem_mapIdx]
      by_cases hi : i < n
      · have := unl_zero hu' i hi; simp [h1] at this; simp [hi, this]
      · have := inv'.tail i (by omega) (by rw [← inv'.size]; exact h1); simp [h1] at this; simp [hi, this]
    subst eL
    exact wpAny_of_seq (l.drop n) n _ a' w' (fun j => by simp [List.getElem?_drop]) b4 hT
  · rw [e1, e]
    refine wpAny_of_held (S := fun w' => ∃ p : Regrown, w' = Go.Sort.grow (redrawn w p.d) p.os) _ _ _ _ ?_
    suffices hg : wpAnyH P .any (l.take n).toArray (Ends fun a w => wpList P l.toArray Q (l.drop n) a w) (fun w' => ∃ p : Regrown, w' = Go.Sort.grow (redrawn w p.d) p.os) (cs.length + 1 + rs.length) (Array.replicate n false) a { w with drawn := w.drawn + 1 } by rw [b9] at hg; exact hg
    refine wpAnyH_takes b6 rs _ a _ (cs.length + 1) ⟨⟨w.drawn + 1, #[]⟩, by rw [Go.Sort.grow_empty]; rfl⟩ b7 ?_
    refine wpQuiet_mono (fun a' ha => ?_) _ _ h
    cases ho : (l.take n)[fi]? with
    | none => rw [ho] at b11; cases b11
    | some og =>
      rw [ho] at b11
      simp only [Bool.and_eq_true, decide_eq_true_eq] at b11
      have hgu : og.guard = none := by simpa using b11.1.2
      have hoo : og.op = .alloc t := by
        have h3 := b11.2
        split at h3
        · rename_i t' hq; rw [hq]; congr 1; simpa using h3
        · cases h3
      refine wpAnyH_float (f := f) (B := w.heap.size) (z := z) (t := t) (og := og) (fun w1 w2 h1 h2 => ?_) (fun w1 h1 => ?_) (by simpa using ho) b11.1.1 hgu hoo hal cs _ a' _ b8 ⟨⟨w.drawn + 1, #[]⟩, by rw [Go.Sort.grow_empty]; rfl⟩ (fun i o hi ho2 => ?_) ha.1 (fun vf w'' hb => ha.2 vf w'' (hbd.trans (hb.mono (Nat.le_refl _))))
      · obtain ⟨p, rfl⟩ := h1
        have hb1 := below_regrown w p.d p.os
        exact regrown_of_below (hb1.trans (h2.mono hb1.size))
      · obtain ⟨p, rfl⟩ := h1
        exact (below_regrown w p.d p.os).size
      · have := List.all_eq_true.1 b10 i hi
        rw [show (l.take n)[i]? = some o by simpa using ho2] at this
        simpa using this
end
end Go.Proofs.Yteognijlgalahaa
