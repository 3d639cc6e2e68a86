/- A law for a region that draws its order: reads first; then whatever ways are left, as a tree; then the tail in its order. -/
import Derived.Test.YteognijlgalahaaTF
namespace Go.Proofs.Yteognijlgalahaa
open Go.RowKit Go.Lib

/-- The ways in which operations may come: 'way i next rest': i and then next; or one of rest. -/
inductive Ways
  | fin
  | way (i : Nat) (next rest : Ways)
namespace Ways
def heads : Ways → List Nat
  | fin => []
  | way i _ rest => i :: rest.heads
def depth : Ways → Nat
  | fin => 0
  | way _ next rest => max (next.depth + 1) rest.depth
/-- A chain. -/
def chain : List Nat → Ways → Ways
  | [], w => w
  | i :: l, w => way i (chain l w) fin
end Ways
section
variable {P : Program} {ops : Array Oper} {md : Region.Mode} {S : World → Prop} {Q : Exit → Act → World → Prop} {T : Act → World → Prop}
/-- Are these all the ways from here? -/
def waysB (md : Region.Mode) (ops : Array Oper) : Bool → Array Bool → Ways → Bool
  | true, L, .fin => (Region.ready md ops L).isEmpty
  | false, _, .fin => true
  | b, L, .way i next rest => (!b || ((Region.ready md ops L).all fun j => (Ways.way i next rest).heads.contains j) && !(Region.ready md ops L).isEmpty) && waysB md ops true (L.setIfInBounds i true) next && waysB md ops false L rest
/-- What is owed along the ways. -/
def wpWays (P : Program) (ops : Array Oper) (S : World → Prop) (T : Act → World → Prop) : Bool → Ways → Act → World → Prop
  | true, .fin, a, w => T a w
  | false, .fin, _, _ => True
  | _, .way i next rest, a, w => (match ops[i]? with | some o => wpList P ops (Ends fun a' w' => S w' ∧ wpWays P ops S T true next a' w') [o] a w | none => False) ∧ wpWays P ops S T false rest a w
theorem waysB_way (b : Bool) (L : Array Bool) (i : Nat) (next rest : Ways) : waysB md ops b L (.way i next rest) = ((!b || ((Region.ready md ops L).all fun j => (Ways.way i next rest).heads.contains j) && !(Region.ready md ops L).isEmpty) && waysB md ops true (L.setIfInBounds i true) next && waysB md ops false L rest) := by
  cases b <;> rfl
theorem wpWays_way (b : Bool) (i : Nat) (next rest : Ways) (a : Act) (w : World) : wpWays P ops S T b (.way i next rest) a w = ((match ops[i]? with | some o => wpList P ops (Ends fun a' w' => S w' ∧ wpWays P ops S T true next a' w') [o] a w | none => False) ∧ wpWays P ops S T false rest a w) := by
  cases b <;> rfl
theorem wpWays_fin (a : Act) (w : World) : wpWays P ops S T true .fin a w = T a w := rfl
theorem wpWays_none (a : Act) (w : World) : wpWays P ops S T false .fin a w = True := rfl
theorem wpWays_alt : ∀ (t : Ways) (b : Bool) (L : Array Bool) (a : Act) (w : World) (i : Nat), waysB md ops b L t = true → wpWays P ops S T b t a w → i ∈ t.heads →
    ∃ next o, ops[i]? = some o ∧ waysB md ops true (L.setIfInBounds i true) next = true ∧ next.depth + 1 ≤ t.depth ∧ wpList P ops (Ends fun a' w' => S w' ∧ wpWays P ops S T true next a' w') [o] a w
  | .fin, _, _, _, _, _, _, _, hi => by cases hi
  | .way j next rest, b, L, a, w, i, hB, h, hi => by
    rw [waysB_way] at hB
    rw [wpWays_way] at h
    simp only [Bool.and_eq_true] at hB
    obtain ⟨⟨_, h1⟩, h2⟩ := hB
    rcases List.mem_cons.1 hi with e | hi
    · subst e
      have h3 := h.1
      cases ho : ops[i]? with
      | none => rw [ho] at h3; exact h3.elim
      | some o =>
        rw [ho] at h3
        exact ⟨next, o, rfl, h1, Nat.le_max_left _ _, h3⟩
    · obtain ⟨n', o, e1, e2, e3, e4⟩ := wpWays_alt rest false L a w i h2 h.2 hi
      exact ⟨n', o, e1, e2, Nat.le_trans e3 (Nat.le_max_right _ _), e4⟩
theorem wpAnyH_ways : ∀ (m : Nat) (t : Ways) (L : Array Bool) (a : Act) (w : World), t.depth ≤ m → waysB md ops true L t = true → wpWays P ops S T true t a w → wpAnyH P md ops (Ends T) S m L a w
  | m, .fin, L, a, w, _, hB, h => by
    have hr : Region.ready md ops L = [] := by simpa [waysB] using hB
    exact Go.wpAnyH_done hr h m
  | 0, .way i next rest, L, a, w, hd, _, _ => by unfold Ways.depth at hd; omega
  | m + 1, .way i next rest, L, a, w, hd, hB, h => by
    have hB' := hB
    rw [waysB_way] at hB'
    simp only [Bool.not_true, Bool.false_or, Bool.and_eq_true] at hB'
    obtain ⟨⟨⟨hall, hne⟩, _⟩, _⟩ := hB'
    refine ⟨fun h0 => (by rw [h0] at hne; cases hne), fun j hj => ?_⟩
    have hjh : j ∈ (Ways.way i next rest).heads := by simpa using List.all_eq_true.1 hall j hj
    obtain ⟨n', o, ho, h1, h2, h3⟩ := wpWays_alt _ true L a w j hB h hjh
    have h4 := wpList_one h3
    have step : ∀ (a' : Act) (w' : World), (S w' ∧ wpWays P ops S T true n' a' w') → S w' ∧ wpAnyH P md ops (Ends T) S m (L.setIfInBounds j true) a' w' := fun a' w' h' =>
      ⟨h'.1, wpAnyH_ways m n' _ a' w' (by omega) h1 h'.2⟩
    unfold wpOp
    simp only [ho]
    split
    · rename_i hw
      rw [if_pos hw] at h4
      exact .inl (Oper.wp_ends (fun a' w' h' => step a' w' h') h4)
    · rename_i hw
      rw [if_neg hw] at h4
      exact step _ _ h4
def partB (l : List Oper) (n : Nat) (rs : List Nat) (t : Ways) : Bool :=
  Region.sinkB .any l.toArray n && Region.chainB .any l.toArray n && headOk l.toArray n && Region.seqB .any l.toArray (l.drop n).length n ((Array.replicate l.length false).mapIdx fun i _ => decide (i < n)) && decide (n < l.length) &&
    Region.noSelect (l.take n).toArray && takesB .any (l.take n).toArray (Array.replicate n false) rs && waysB .any (l.take n).toArray true (takenB (Array.replicate n false) rs) t && decide (t.depth + rs.length = n)
/-- THE LAW. -/
theorem wp_region_ways {id : Nat} {l : List Oper} {a : Act} {w : World} (n : Nat) (rs : List Nat) (t : Ways) (S : World → Prop) (hm : P.follows .mixedOrders = true) (hB : partB l n rs t = true) (hS : S w.drew)
    (h : wpQuiet P (l.take n).toArray S (fun a' => wpWays P (l.take n).toArray S (fun a w => wpList P l.toArray Q (l.drop n) a w) true t a' w.drew) (rs.filterMap ((l.take n).toArray[·]?)) a) :
    (Code.region id l.toArray true).wp P Q a w := by
  simp only [partB, Bool.and_eq_true, decide_eq_true_eq] at hB
  obtain ⟨⟨⟨⟨⟨⟨⟨⟨b1, b2⟩, b3⟩, b4⟩, b5⟩, b6⟩, b7⟩, b8⟩, b9⟩ := hB
  have hn : n < l.toArray.size := by simpa using b5
  have e : l.toArray.extract 0 n = (l.take n).toArray := by simp
  have hsz : (l.take n).toArray.size = n := by simp; omega
  refine wp_region_any hm ?_
  have inv : HeadInv .any l.toArray n (Array.replicate l.toArray.size false) := ⟨by simp, (fun j oj _ hl => by rw [getD_replicate_false] at hl; cases hl), fun t _ ht => by simp at ht; simp [ht]⟩
  have hu : unl n (Array.replicate l.toArray.size false) = n := by
    unfold unl
    rw [List.countP_eq_length.2 (fun i hi => by
      have h1 := List.mem_range.1 hi
      have h2 : i < l.length := by omega
      simp [h2]), List.length_range]
  have e1 : (Array.replicate l.toArray.size false).extract 0 n = Array.replicate n false := by
    apply Array.ext_getElem?
    intro j
    by_cases hj : j < n
    · rw [ext0 _ hj, Array.getElem?_replicate, Array.getElem?_replicate, if_pos hj, if_pos (by omega)]
    · rw [Array.getElem?_eq_none (by simp; omega), Array.getElem?_eq_none (by simp; omega)]
  have hlen : n + (l.drop n).length = l.toArray.size := by simp; omega
  suffices hg : wpAny P .any l.toArray Q (n + (l.drop n).length) (Array.replicate l.toArray.size false) a { w with drawn := w.drawn + 1 } by rw [hlen] at hg; exact hg
  refine wpAny_of_truncE (T := fun a w => wpList P l.toArray Q (l.drop n) a w) b1 b2 b3 hn (fun L a' w' inv' hu' hT => ?_) n _ a _ inv hu ?_
  · have eL : L = (Array.replicate l.length false).mapIdx fun i _ => decide (i < n) := by
      apply Array.ext (by simp [inv'.size])
      intro i h1 h2
      simp only [Array.getElem_mapIdx]
      by_cases hi : i < n
      · have := unl_zero hu' i hi; simp [h1] at this; simp [hi, this]
      · have := inv'.tail i (by omega) (by rw [← inv'.size]; exact h1); simp [h1] at this; simp [hi, this]
    subst eL
    exact wpAny_of_seq (l.drop n) n _ a' w' (fun j => by simp [List.getElem?_drop]) b4 hT
  · rw [e1, e]
    refine wpAny_of_held (S := S) _ _ _ _ ?_
    suffices hg : wpAnyH P .any (l.take n).toArray (Ends fun a w => wpList P l.toArray Q (l.drop n) a w) S (t.depth + rs.length) (Array.replicate n false) a { w with drawn := w.drawn + 1 } by rw [b9] at hg; exact hg
    refine wpAnyH_takes b6 rs _ a _ t.depth hS b7 ?_
    refine wpQuiet_mono (fun a' ha => ?_) _ _ h
    exact wpAnyH_ways _ t _ a' _ (Nat.le_refl _) b8 ha
end
end Go.Proofs.Yteognijlgalahaa
