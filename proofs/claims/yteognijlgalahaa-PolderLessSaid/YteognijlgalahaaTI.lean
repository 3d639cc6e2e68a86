/- The law of T for a region in a round of a loop over a function. -/
import Derived.Test.YteognijlgalahaaT
import Derived.TacticsInMore
import Derived.OwnWalkIn
import Derived.RangeFuncCalls
import Derived.RangeFuncLeaves
namespace Go.Proofs.Yteognijlgalahaa
open Go.RowKit Go.Lib

section
variable {P : Program} {ops : Array Oper} {md : Region.Mode} {C : World → Prop} {Q : Exit → Act → World → Prop} {n l : Nat}
theorem wpOpIn_of_qOp {i : Nat} {a : Act} {K : Act → Prop} {K' : Act → World → Prop} {w : World} (hC : C w) (h : ∀ a w', C w' → K a → K' a w') (hh : qOp P ops C i K a) : wpOpIn (Fence.wide.inRound l) n P ops Q i K' a w := by
  unfold qOp at hh
  unfold wpOpIn
  cases ho : ops[i]? with
  | none => simp only [ho] at hh; exact h _ _ hC hh
  | some o =>
    simp only [ho] at hh ⊢
    by_cases hw : Region.wanted o (yielded ops a.tmps) = true
    · rw [if_pos hw] at hh ⊢
      obtain ⟨v, h1, h2⟩ := hh
      have h3 := h1 w hC
      refine ⟨fun _ _ => trivial, ?_⟩
      have hd : ∀ c, o.op ≠ .defer c := by
        intro c hc
        unfold Oper.quietAt execOp at h3
        simp only [hc] at h3
        cases hS : Sem.run P (resolve a.eval c o.type) w <;> simp [hS, Oper.quietUpon, Result.andThen] at h3
      rw [show (Fence.wide.inRound l).round = some l from rfl, Oper.semAt_some l _ _ hd]
      unfold Oper.quietAt at h3
      generalize (execOp a.eval o).run P w = r at *
      cases r with
      | halt x w' => exact h3.elim
      | ok x w' =>
        cases x <;> first
          | (obtain ⟨e1, e2⟩ := h3; subst e1 e2; exact h _ _ hC h2)
          | (obtain ⟨e1, e2⟩ := h3
             subst e1
             refine ⟨(fun hd => by cases hd), CallsIn.inRound l (callsIn_wide.2 (e2.mono ?_))⟩
             rintro e w'' ⟨rfl, hw''⟩
             exact h _ _ hw'' h2)
          | exact h3.elim
    · rw [if_neg hw] at hh ⊢
      exact ⟨fun _ _ => trivial, h _ _ hC hh⟩
theorem wpAnyIn_of_trunc {k m : Nat} (hs : Region.sinkB md ops k = true) (hc : Region.chainB md ops k = true) (hh : headOk ops k = true) (hn : k < ops.size)
    (T : Act → World → Prop) (hT : ∀ L a w, HeadInv md ops k L → unl k L = 0 → T a w → wpAnyIn (Fence.wide.inRound l) n P md ops Q m L a w) :
    ∀ (f : Nat) (L : Array Bool) (a : Act) (w : World), HeadInv md ops k L → unl k L = f → C w → wpAnyQ P md (ops.extract 0 k) C (fun a' => ∀ w', C w' → T a' w') f (L.extract 0 k) a → wpAnyIn (Fence.wide.inRound l) n P md ops Q (f + m) L a w
  | 0, L, a, w, inv, hu, hw, h => by rw [Nat.zero_add]; exact hT L a w inv hu (h.2 w hw)
  | f + 1, L, a, w, inv, hu, hw, h => by
    rw [show f + 1 + m = (f + m) + 1 by omega]
    obtain ⟨j, hk, hku, hkl⟩ := unl_pos (n := k) (L := L) (by omega)
    refine ⟨fun h0 => ?_, fun i hi => ?_⟩
    · exfalso
      have hks : j < ops.size := by omega
      have hko : ops[j]? = some ops[j] := by simp [hks]
      have : j ∈ Region.ready md ops L := mem_ready.2 ⟨hku, _, hko, fun e he _ => by
        have h1 := (headOk_spec hh hko).1 e he
        have h2 := hkl _ h1
        have hsz : e.on < L.size := by rw [inv.size]; omega
        simp [hsz] at h2 ⊢
        exact h2⟩
      rw [h0] at this; cases this
    · have hin : i < k := by
        rcases Nat.lt_or_ge i k with h1 | h1
        · exact h1
        · exact absurd hi (tail_waits hs hc hn inv _ j rfl hk hku i h1)
      have ht : ∀ t, k ≤ t → L.getD t false = false := fun t ht => by
        rcases Nat.lt_or_ge t ops.size with h1 | h1
        · exact getD_both (inv.tail t ht h1)
        · have : L.size ≤ t := by rw [inv.size]; exact h1
          simp [Array.getElem?_eq_none this]
      have hq := qOp_trunc hin hh (h.2 i (ready_trunc hin ht hi))
      refine wpOpIn_of_qOp hw (fun a' w' hw' hK => ?_) hq
      have hiu := (mem_ready.1 hi).1
      have his : i < L.size := by rw [inv.size]; omega
      rw [set_ext0 hin his] at hK
      exact wpAnyIn_of_trunc hs hc hh hn T hT f _ a' w' (inv.set hi hin) (by have := unl_set hin his hiu; omega) hw' hK
theorem wpAnyIn_of_seq : ∀ (tl : List Oper) (k : Nat) (L : Array Bool) (a : Act) (w : World), (∀ j, tl[j]? = ops[k + j]?) → Region.seqB md ops tl.length k L = true → wpListIn (Fence.wide.inRound l) n P ops Q tl a w → wpAnyIn (Fence.wide.inRound l) n P md ops Q tl.length L a w
  | [], k, L, a, w, _, hB, h => ⟨by simpa [Region.seqB] using hB, h⟩
  | o :: tl, k, L, a, w, hl, hB, h => by
    have ho : ops[k]? = some o := by simpa using (hl 0).symm
    simp only [List.length_cons, Region.seqB, Bool.and_eq_true, decide_eq_true_eq] at hB
    refine ⟨(fun h0 => by rw [hB.1] at h0; cases h0), fun i hi => ?_⟩
    rw [hB.1, List.mem_singleton] at hi
    subst hi
    have ih := fun a w => wpAnyIn_of_seq tl (i + 1) (L.setIfInBounds i true) a w (fun j => by have := hl (j + 1); simpa [Nat.add_assoc, Nat.add_comm 1 j] using this) hB.2
    unfold wpOpIn
    rw [ho]
    simp only [wpListIn] at h
    show if Region.wanted o (yielded ops a.tmps) = true then _ else _
    split
    · rename_i hw; rw [if_pos hw] at h; exact Oper.wpIn_mono ih h
    · rename_i hw; rw [if_neg hw] at h; exact ⟨h.1, ih _ _ h.2⟩
theorem wpIn_region_tail {id : Nat} {lo : List Oper} {a : Act} {w : World} (k : Nat) (hm : P.follows .mixedOrders = true) (hs : Region.sinkB .any lo.toArray k = true) (hc : Region.chainB .any lo.toArray k = true) (hh : headOk lo.toArray k = true)
    (hB : Region.lexB .any (lo.take k).toArray = true) (hq : Region.seqB .any lo.toArray (lo.drop k).length k ((Array.replicate lo.length false).mapIdx fun i _ => decide (i < k)) = true) (hn : k < lo.length)
    (h : wpQuiet P (lo.take k).toArray (fun w' => ∃ p : Regrown, w' = Go.Sort.grow (redrawn w p.d) p.os) (fun a' => ∀ w', (∃ p : Regrown, w' = Go.Sort.grow (redrawn w p.d) p.os) → wpListIn (Fence.wide.inRound l) n P lo.toArray Q (lo.drop k) a' w') (lo.take k) a) :
    (Code.region id lo.toArray true).wpIn (Fence.wide.inRound l) n P Q a w := by
  have e : lo.toArray.extract 0 k = (lo.take k).toArray := by simp
  have hsz : (lo.take k).toArray.size = k := by simp; omega
  simp only [Region.lexB, Bool.and_eq_true] at hB
  refine wpIn_region_any hm ?_
  have h1 := wpAnyQ_lex (C := fun w' => ∃ p : Regrown, w' = Go.Sort.grow (redrawn w p.d) p.os) (md := .any) hB.1 (lo.take k) 0 (Array.replicate (lo.take k).toArray.size false) a (fun j => by simp) (by simpa using hB.2) h
  have e1 : Array.replicate (lo.take k).toArray.size false = (Array.replicate lo.toArray.size false).extract 0 k := by
    apply Array.ext_getElem?
    intro j
    by_cases hj : j < k
    · rw [ext0 _ hj, hsz, Array.getElem?_replicate, Array.getElem?_replicate, if_pos hj, if_pos (by simp; omega)]
    · rw [Array.getElem?_eq_none (by simp; omega), Array.getElem?_eq_none (by simp; omega)]
  rw [e1, show (lo.take k).length = k by simp; omega] at h1
  have hu : unl k (Array.replicate lo.toArray.size false) = k := by
    unfold unl
    rw [List.countP_eq_length.2 (fun i hi => by
      have h1 := List.mem_range.1 hi
      have h2 : i < lo.length := by omega
      simp [h2]), List.length_range]
  have inv : HeadInv .any lo.toArray k (Array.replicate lo.toArray.size false) := ⟨by simp, (fun j oj _ hl => by rw [getD_replicate_false] at hl; cases hl), fun t _ ht => by simp at ht; simp [ht]⟩
  have hC : ∃ p : Regrown, { w with drawn := w.drawn + 1 } = Go.Sort.grow (redrawn w p.d) p.os := ⟨⟨w.drawn + 1, #[]⟩, by rw [Go.Sort.grow_empty]; rfl⟩
  have := wpAnyIn_of_trunc (l := l) (n := n) (Q := Q) (C := fun w' => ∃ p : Regrown, w' = Go.Sort.grow (redrawn w p.d) p.os) (m := (lo.drop k).length) hs hc hh (by simpa using hn) (fun a' w' => wpListIn (Fence.wide.inRound l) n P lo.toArray Q (lo.drop k) a' w') (fun L a' w' inv' hu' hT => by
    have eL : L = (Array.replicate lo.length false).mapIdx fun i _ => decide (i < k) := by
      apply Array.ext (by simp [inv'.size])
      intro i h1 h2
      simp only [Array.getElem_mapIdx]
      by_cases hi : i < k
      · have := unl_zero hu' i hi; simp [h1] at this; simp [hi, this]
      · have := inv'.tail i (by omega) (by rw [← inv'.size]; exact h1); simp [h1] at this; simp [hi, this]
    subst eL
    exact wpAnyIn_of_seq (lo.drop k) k _ a' w' (fun j => by simp [List.getElem?_drop]) hq hT) k _ a _ inv hu hC (by rw [e]; exact h1)
  have hlen : k + (lo.drop k).length = lo.toArray.size := by simp; omega
  rw [hlen] at this
  exact this
end
end Go.Proofs.Yteognijlgalahaa
