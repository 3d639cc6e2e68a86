/- The laws for drawn regions in a round of a loop over a function. -/
import Derived.Test.YteognijlgalahaaTT
import Derived.Test.YteognijlgalahaaB2
namespace Go.Proofs.Yteognijlgalahaa
open Go.RowKit Go.Lib

section
variable {P : Program} {ops : Array Oper} {md : Region.Mode} {Q : Exit → Act → World → Prop} {T : Act → World → Prop} {n r : Nat}
theorem rowsIn_wide {n : Nat} {row : String} {args : Array Value} {w : World} {R : Value → World → Prop} (h : Rows P row args w R) : RowsIn Fence.wide n P row args w R :=
  fun c cs _ => let ⟨v, w', x, s⟩ := h c cs; ⟨v, w', x, stepsIn_wide.2 s⟩
def noDefer (o : Oper) : Bool := match o.op with | .defer _ => false | _ => true
theorem Oper.wpIn_of_ends {o : Oper} {a : Act} {w : World} {K K' : Act → World → Prop} (hd : noDefer o = true) (h : ∀ a w, K a w → K' a w) (hh : o.wp P a w K (Ends T)) : o.wpIn (Fence.wide.inRound r) n P a w K' Q := by
  have hd' : ∀ c, o.op ≠ .defer c := fun c hc => by unfold noDefer at hd; rw [hc] at hd; cases hd
  unfold Oper.wp at hh
  refine ⟨fun _ _ => trivial, ?_⟩
  rw [show (Fence.wide.inRound r).round = some r from rfl, Oper.semAt_some r _ _ hd']
  generalize (execOp a.eval o).run P w = x at *
  cases x with
  | ok y w' =>
    cases y <;> simp only [Oper.upon, Oper.uponIn] at hh ⊢ <;> first
      | exact h _ _ hh
      | (refine ⟨(fun hd => by cases hd), CallsIn.inRound r (callsIn_wide.2 (Calls.mono hh (fun e w'' he => ?_)))⟩
         cases e with
         | returned v => exact h _ _ he
         | panicked c => exact (show False from he).elim
         | outgrown => obtain ⟨a1, w1, h1⟩ := (show LetsOut (Ends T) from he); exact (show False from h1).elim)
      | exact ⟨(fun hd => by cases hd), rowsIn_wide (Rows.mono hh (fun _ _ he => h _ _ he))⟩
  | halt y w' =>
    cases y <;> simp only [Oper.upon, Oper.uponIn] at hh ⊢ <;> exact (show False from hh).elim
theorem wpOpIn_of_ends {i : Nat} {K K' : Act → World → Prop} {a : Act} {w : World} (hd : ∀ o, ops[i]? = some o → noDefer o = true) (hK : ∀ a w, K a w → K' a w) (h : wpOp P ops (Ends T) i K a w) : wpOpIn (Fence.wide.inRound r) n P ops Q i K' a w := by
  unfold wpOp at h
  unfold wpOpIn
  cases ho : ops[i]? with
  | none => simp only [ho] at h ⊢; exact hK _ _ h
  | some o =>
    simp only [ho] at h ⊢
    split
    · rename_i hw
      rw [if_pos hw] at h
      rcases h with h | ⟨_, a1, w1, h1⟩
      · exact Oper.wpIn_of_ends (hd o ho) hK h
      · exact (show False from h1).elim
    · rename_i hw
      rw [if_neg hw] at h
      exact ⟨fun _ _ => trivial, hK _ _ h⟩
theorem wpAnyIn_of_ends (hd : ∀ (i : Nat) (o : Oper), ops[i]? = some o → noDefer o = true) (hT : ∀ a w, T a w → Q .normal a w) : ∀ (f : Nat) (L : Array Bool) (a : Act) (w : World), wpAny P md ops (Ends T) f L a w → wpAnyIn (Fence.wide.inRound r) n P md ops Q f L a w
  | 0, _L, _a, _w, h => ⟨h.1, hT _ _ h.2⟩
  | f + 1, _L, _a, _w, h => ⟨fun h0 => hT _ _ (h.1 h0), fun i hi => wpOpIn_of_ends (hd i) (fun a w h' => wpAnyIn_of_ends hd hT f _ a w h') (h.2 i hi)⟩
theorem wpIn_region_of_any {id : Nat} {l : List Oper} {a : Act} {w : World} (hm : P.follows .mixedOrders = true) (hd : l.all noDefer = true)
    (h : wpAny P .any l.toArray (Ends fun a w => Q .normal a w) l.toArray.size (Array.replicate l.toArray.size false) a { w with drawn := w.drawn + 1 }) : (Code.region id l.toArray true).wpIn (Fence.wide.inRound r) n P Q a w :=
  wpIn_region_any hm (wpAnyIn_of_ends (fun i o ho => List.all_eq_true.1 hd o (List.mem_of_getElem? (by simpa using ho))) (fun _ _ h => h) _ _ _ _ h)
/-- The law of TT, for the orders. -/
theorem wpAny_reads {l : List Oper} {a : Act} {w : World} (n : Nat) (rs cs : List Nat) (hB : readsB l n rs cs = true)
    (h : wpQuiet P (l.take n).toArray (fun w' => ∃ p : Regrown, w' = Go.Sort.grow (redrawn w p.d) p.os) (fun a' => ∀ w', Below w.heap.size w w' → w'.heap.size = w.heap.size → wpForce P (l.take n).toArray (fun w' => Below w.heap.size w w') (fun a w => wpList P l.toArray Q (l.drop n) a w) (cs.filterMap ((l.take n).toArray[·]?)) a' w') (rs.filterMap ((l.take n).toArray[·]?)) a) :
    wpAny P .any l.toArray Q l.toArray.size (Array.replicate l.toArray.size false) a { w with drawn := w.drawn + 1 } := by
  simp only [readsB, Bool.and_eq_true, decide_eq_true_eq] at hB
  obtain ⟨⟨⟨⟨⟨⟨⟨⟨b1, b2⟩, b3⟩, b4⟩, b5⟩, b6⟩, b7⟩, b8⟩, b9⟩ := hB
  have hn : n < l.toArray.size := by simpa using b5
  have e : l.toArray.extract 0 n = (l.take n).toArray := by simp
  have hsz : (l.take n).toArray.size = n := by simp; omega
  have inv : HeadInv .any l.toArray n (Array.replicate l.toArray.size false) := ⟨by simp, (fun j oj _ hl => by rw [getD_replicate_false] at hl; cases hl), fun t _ ht => by simp at ht; simp [ht]⟩
  have hu : unl n (Array.replicate l.toArray.size false) = n := by
    unfold unl
    rw [List.countP_eq_length.2 (fun i hi => by
      have h1 := List.mem_range.1 hi
      have h2 : i < l.length := by omega
      simp [h2]), List.length_range]
  have e1 : (Array.replicate l.toArray.size false).extract 0 n = Array.replicate n false := by
    apply Array.ext_getElem?
    intro j
    by_cases hj : j < n
    · rw [ext0 _ hj, Array.getElem?_replicate, Array.getElem?_replicate, if_pos hj, if_pos (by omega)]
    · rw [Array.getElem?_eq_none (by simp; omega), Array.getElem?_eq_none (by simp; omega)]
  have hbd : Below w.heap.size w { w with drawn := w.drawn + 1 } := (Below.refl w.heap.size w).drew
  have hlen : n + (l.drop n).length = l.toArray.size := by simp; omega
  suffices hg : wpAny P .any l.toArray Q (n + (l.drop n).length) (Array.replicate l.toArray.size false) a { w with drawn := w.drawn + 1 } by rw [hlen] at hg; exact hg
  refine wpAny_of_truncE (T := fun a w => wpList P l.toArray Q (l.drop n) a w) b1 b2 b3 hn (fun L a' w' inv' hu' hT => ?_) n _ a _ inv hu ?_
  · have eL : L = (Array.replicate l.length false).mapIdx fun i _ => decide (i < n) := by
      apply Array.ext (by simp [inv'.size])
      intro i h1 h2
      simp only [Array.getElem_mapIdx]
      by_cases hi : i < n
      · have := unl_zero hu' i hi; simp [h1] at this; simp [hi, this]
      · have := inv'.tail i (by omega) (by rw [← inv'.size]; exact h1); simp [h1] at this; simp [hi, this]
    subst eL
    exact wpAny_of_seq (l.drop n) n _ a' w' (fun j => by simp [List.getElem?_drop]) b4 hT
  · rw [e1, e]
    refine wpAny_of_held (S := fun w' => ∃ p : Regrown, w' = Go.Sort.grow (redrawn w p.d) p.os) _ _ _ _ ?_
    suffices hg : wpAnyH P .any (l.take n).toArray (Ends fun a w => wpList P l.toArray Q (l.drop n) a w) (fun w' => ∃ p : Regrown, w' = Go.Sort.grow (redrawn w p.d) p.os) (cs.length + rs.length) (Array.replicate n false) a { w with drawn := w.drawn + 1 } by rw [b9] at hg; exact hg
    refine wpAnyH_takes b6 rs _ a _ cs.length ⟨⟨w.drawn + 1, #[]⟩, by rw [Go.Sort.grow_empty]; rfl⟩ b7 ?_
    refine wpQuiet_mono (fun a' ha => ?_) _ _ h
    exact wpAnyH_forced cs _ a' _ b8 (wpForce_mono (fun w' hb => regrown_of_below hb) _ _ _ (ha _ hbd rfl))
/-- Reads first, as they are in all worlds that meet S; then the others, one behind the other. -/
theorem wpAny_seq {l : List Oper} {a : Act} {w : World} (n : Nat) (rs cs : List Nat) (S : World → Prop) (hS : S w.drew) (hB : readsB l n rs cs = true)
    (h : wpQuiet P (l.take n).toArray S (fun a' => wpForce P (l.take n).toArray S (fun a w => wpList P l.toArray Q (l.drop n) a w) (cs.filterMap ((l.take n).toArray[·]?)) a' w.drew) (rs.filterMap ((l.take n).toArray[·]?)) a) :
    wpAny P .any l.toArray Q l.toArray.size (Array.replicate l.toArray.size false) a { w with drawn := w.drawn + 1 } := by
  simp only [readsB, Bool.and_eq_true, decide_eq_true_eq] at hB
  obtain ⟨⟨⟨⟨⟨⟨⟨⟨b1, b2⟩, b3⟩, b4⟩, b5⟩, b6⟩, b7⟩, b8⟩, b9⟩ := hB
  have hn : n < l.toArray.size := by simpa using b5
  have e : l.toArray.extract 0 n = (l.take n).toArray := by simp
  have hsz : (l.take n).toArray.size = n := by simp; omega
  have inv : HeadInv .any l.toArray n (Array.replicate l.toArray.size false) := ⟨by simp, (fun j oj _ hl => by rw [getD_replicate_false] at hl; cases hl), fun t _ ht => by simp at ht; simp [ht]⟩
  have hu : unl n (Array.replicate l.toArray.size false) = n := by
    unfold unl
    rw [List.countP_eq_length.2 (fun i hi => by
      have h1 := List.mem_range.1 hi
      have h2 : i < l.length := by omega
      simp [h2]), List.length_range]
  have e1 : (Array.replicate l.toArray.size false).extract 0 n = Array.replicate n false := by
    apply Array.ext_getElem?
    intro j
    by_cases hj : j < n
    · rw [ext0 _ hj, Array.getElem?_replicate, Array.getElem?_replicate, if_pos hj, if_pos (by omega)]
    · rw [Array.getElem?_eq_none (by simp; omega), Array.getElem?_eq_none (by simp; omega)]
  have hlen : n + (l.drop n).length = l.toArray.size := by simp; omega
  suffices hg : wpAny P .any l.toArray Q (n + (l.drop n).length) (Array.replicate l.toArray.size false) a { w with drawn := w.drawn + 1 } by rw [hlen] at hg; exact hg
  refine wpAny_of_truncE (T := fun a w => wpList P l.toArray Q (l.drop n) a w) b1 b2 b3 hn (fun L a' w' inv' hu' hT => ?_) n _ a _ inv hu ?_
  · have eL : L = (Array.replicate l.length false).mapIdx fun i _ => decide (i < n) := by
      apply Array.ext (by simp [inv'.size])
      intro i h1 h2
      simp only [Array.getElem_mapIdx]
      by_cases hi : i < n
      · have := unl_zero hu' i hi; simp [h1] at this; simp [hi, this]
      · have := inv'.tail i (by omega) (by rw [← inv'.size]; exact h1); simp [h1] at this; simp [hi, this]
    subst eL
    exact wpAny_of_seq (l.drop n) n _ a' w' (fun j => by simp [List.getElem?_drop]) b4 hT
  · rw [e1, e]
    refine wpAny_of_held (S := S) _ _ _ _ ?_
    suffices hg : wpAnyH P .any (l.take n).toArray (Ends fun a w => wpList P l.toArray Q (l.drop n) a w) S (cs.length + rs.length) (Array.replicate n false) a { w with drawn := w.drawn + 1 } by rw [b9] at hg; exact hg
    refine wpAnyH_takes b6 rs _ a _ cs.length hS b7 ?_
    refine wpQuiet_mono (fun a' ha => ?_) _ _ h
    exact wpAnyH_forced cs _ a' _ b8 ha
theorem wp_region_seq {id : Nat} {l : List Oper} {a : Act} {w : World} (n : Nat) (rs cs : List Nat) (S : World → Prop) (hS : S w.drew) (hm : P.follows .mixedOrders = true) (hB : readsB l n rs cs = true)
    (h : wpQuiet P (l.take n).toArray S (fun a' => wpForce P (l.take n).toArray S (fun a w => wpList P l.toArray Q (l.drop n) a w) (cs.filterMap ((l.take n).toArray[·]?)) a' w.drew) (rs.filterMap ((l.take n).toArray[·]?)) a) :
    (Code.region id l.toArray true).wp P Q a w :=
  wp_region_any hm (wpAny_seq n rs cs S hS hB h)
theorem wpIn_region_seq {id : Nat} {l : List Oper} {a : Act} {w : World} (m : Nat) (rs cs : List Nat) (S : World → Prop) (hS : S w.drew) (hm : P.follows .mixedOrders = true) (hB : readsB l m rs cs = true) (hd : l.all noDefer = true)
    (h : wpQuiet P (l.take m).toArray S (fun a' => wpForce P (l.take m).toArray S (fun a w => wpList P l.toArray (Ends fun a w => Q .normal a w) (l.drop m) a w) (cs.filterMap ((l.take m).toArray[·]?)) a' w.drew) (rs.filterMap ((l.take m).toArray[·]?)) a) :
    (Code.region id l.toArray true).wpIn (Fence.wide.inRound r) n P Q a w :=
  wpIn_region_of_any hm hd (wpAny_seq m rs cs S hS hB h)
theorem wpIn_region_reads {id : Nat} {l : List Oper} {a : Act} {w : World} (m : Nat) (rs cs : List Nat) (hm : P.follows .mixedOrders = true) (hB : readsB l m rs cs = true) (hd : l.all noDefer = true)
    (h : wpQuiet P (l.take m).toArray (fun w' => ∃ p : Regrown, w' = Go.Sort.grow (redrawn w p.d) p.os) (fun a' => ∀ w', Below w.heap.size w w' → w'.heap.size = w.heap.size → wpForce P (l.take m).toArray (fun w' => Below w.heap.size w w') (fun a w => wpList P l.toArray (Ends fun a w => Q .normal a w) (l.drop m) a w) (cs.filterMap ((l.take m).toArray[·]?)) a' w') (rs.filterMap ((l.take m).toArray[·]?)) a) :
    (Code.region id l.toArray true).wpIn (Fence.wide.inRound r) n P Q a w :=
  wpIn_region_of_any hm hd (wpAny_reads m rs cs hB h)
end
end Go.Proofs.Yteognijlgalahaa
