/- A law for drawn regions in phases: reads that may be taken first, then what is forced; and again; then a tail. -/
import Derived.Test.YteognijlgalahaaIR
namespace Go.Proofs.Yteognijlgalahaa
open Go.RowKit Go.Lib

/-- The worlds that meet P, as a class of its own. -/
structure Cls (P : World → Prop) where
  val : World
  h : P val
theorem Cls.here {P : World → Prop} {w : World} (h : P w) : ∃ c : Cls P, w = c.val := ⟨⟨w, h⟩, rfl⟩
section
variable {P : Program} {ops : Array Oper} {md : Region.Mode} {S : World → Prop} {Q : Exit → Act → World → Prop} {T : Act → World → Prop} {r : Nat}
/-- As valueB, assignments let in. -/
def value2B : Op → Bool
  | .assign _ => true
  | o => valueB o
theorem yieldsIf_of_quiet2 {o : Oper} {a : Act} {v : Value} {C : World → Prop} (hv : value2B o.op = true) (hw : Region.wanted o (yielded ops a.tmps) = true) (h : ∀ w, C w → o.quietAt P a C w v) : YieldsIf P ops C o v a := by
  cases ho : o.op with
  | assign x =>
    refine .inl ⟨hw, fun w hC => ?_⟩
    have h1 := h w hC
    unfold Oper.quietAt at h1
    rw [BigFrame.run_assign x ho] at h1 ⊢
    rw [h1.2]
  | _ => exact yieldsIf_of_quiet (by rw [ho] at hv ⊢; exact hv) hw h
def takes2B (md : Region.Mode) (ops : Array Oper) : Array Bool → List Nat → Bool
  | _, [] => true
  | L, i :: rs => (Region.ready md ops L).contains i && Region.free md ops L i && (match ops[i]? with | some o => value2B o.op | none => false) && takes2B md ops (L.setIfInBounds i true) rs
theorem wpAnyH_takes2 (hns : Region.noSelect ops = true) : ∀ (rs : List Nat) (L : Array Bool) (a : Act) (w : World) (f : Nat), S w → takes2B md ops L rs = true →
    wpQuiet P ops S (fun a' => wpAnyH P md ops (Ends T) S f (takenB L rs) a' w) (rs.filterMap (ops[·]?)) a → wpAnyH P md ops (Ends T) S (f + rs.length) L a w
  | [], L, a, w, f, _, _, h => h
  | i :: rs, L, a, w, f, hS, hB, h => by
    simp only [takes2B, Bool.and_eq_true] at hB
    obtain ⟨⟨⟨h1, h2⟩, h3⟩, h4⟩ := hB
    have hi : i ∈ Region.ready md ops L := by simpa using h1
    obtain ⟨_, o, ho, _⟩ := mem_ready.1 hi
    rw [List.filterMap_cons, ho] at h
    rw [ho] at h3
    simp only [wpQuiet] at h
    have hstep : ∃ v, YieldsIf P ops S o v a ∧ wpQuiet P ops S (fun a' => wpAnyH P md ops (Ends T) S f (takenB L (i :: rs)) a' w) (rs.filterMap (ops[·]?)) (a.put o.dst v) := by
      by_cases hw : Region.wanted o (yielded ops a.tmps) = true
      · rw [if_pos hw] at h
        obtain ⟨v, hv, hk⟩ := h
        exact ⟨v, yieldsIf_of_quiet2 h3 hw hv, hk⟩
      · rw [if_neg hw] at h
        exact ⟨undef, .inr ⟨by simpa using hw, rfl⟩, h⟩
    obtain ⟨v, hy, hk⟩ := hstep
    exact wpAnyH_take (i := i) ho hns h2 (by simpa using h1) (fun _ _ _ h => h) hy hS (wpAnyH_takes2 hns rs _ _ w f hS h4 hk)
def forcesB (md : Region.Mode) (ops : Array Oper) : Array Bool → List Nat → Bool
  | _, [] => true
  | L, i :: cs => decide (Region.ready md ops L = [i]) && forcesB md ops (L.setIfInBounds i true) cs
theorem wpAnyH_forces {K : Act → World → Prop} {f : Nat} : ∀ (cs : List Nat) (L : Array Bool) (a : Act) (w : World), forcesB md ops L cs = true → S w → wpForce P ops S K (cs.filterMap (ops[·]?)) a w →
    (∀ a w, S w → K a w → wpAnyH P md ops (Ends T) S f (takenB L cs) a w) → wpAnyH P md ops (Ends T) S (f + cs.length) L a w
  | [], _, a, w, _, hS, h, hK => hK a w hS h
  | i :: cs, L, a, w, hB, hS, h, hK => by
    simp only [forcesB, Bool.and_eq_true, decide_eq_true_eq] at hB
    obtain ⟨h1, h2⟩ := hB
    have hi : i ∈ Region.ready md ops L := by rw [h1]; simp
    obtain ⟨_, o, ho, _⟩ := mem_ready.1 hi
    rw [List.filterMap_cons, ho] at h
    refine ⟨fun h0 => by rw [h1] at h0; (exact absurd h0 (by simp)), fun j hj => ?_⟩
    rw [h1, List.mem_singleton] at hj
    subst hj
    simp only [wpForce, wpList] at h
    unfold wpOp
    simp only [ho]
    split
    · rename_i hw
      rw [if_pos hw] at h
      rcases h with h | ⟨_, a1, w1, h1⟩
      case inr => exact (show False from h1).elim
      refine .inl (Oper.wp_ends (fun a' w' h' => ?_) h)
      have h'' : S w' ∧ wpForce P ops S K (cs.filterMap (ops[·]?)) a' w' := h'
      exact ⟨h''.1, wpAnyH_forces cs _ a' w' h2 h''.1 h''.2 hK⟩
    · rename_i hw
      rw [if_neg hw] at h
      have h'' : S w ∧ wpForce P ops S K (cs.filterMap (ops[·]?)) (a.put o.dst undef) w := h
      exact ⟨h''.1, wpAnyH_forces cs _ _ _ h2 h''.1 h''.2 hK⟩
def phB (md : Region.Mode) (ops : Array Oper) : Array Bool → List (List Nat × List Nat) → Bool
  | L, [] => (Region.ready md ops L).isEmpty
  | L, (rs, cs) :: t => takes2B md ops L rs && forcesB md ops (takenB L rs) cs && phB md ops (takenB (takenB L rs) cs) t
def phLen : List (List Nat × List Nat) → Nat
  | [] => 0
  | (rs, cs) :: t => phLen t + cs.length + rs.length
/-- What is owed, phase by phase. -/
def wpPhases (P : Program) (ops : Array Oper) (S : World → Prop) (T : Act → World → Prop) : List (List Nat × List Nat) → Act → World → Prop
  | [], a, w => T a w
  | (rs, cs) :: t, a, w => wpQuiet P ops S (fun a' => wpForce P ops S (wpPhases P ops S T t) (cs.filterMap (ops[·]?)) a' w) (rs.filterMap (ops[·]?)) a
theorem wpAnyH_phases (hns : Region.noSelect ops = true) : ∀ (t : List (List Nat × List Nat)) (L : Array Bool) (a : Act) (w : World), phB md ops L t = true → S w → wpPhases P ops S T t a w → wpAnyH P md ops (Ends T) S (phLen t) L a w
  | [], L, a, w, hB, _, h => ⟨by simpa [phB] using hB, h⟩
  | (rs, cs) :: t, L, a, w, hB, hS, h => by
    simp only [phB, Bool.and_eq_true] at hB
    obtain ⟨⟨h1, h2⟩, h3⟩ := hB
    refine wpAnyH_takes2 hns rs L a w (phLen t + cs.length) hS h1 (wpQuiet_mono (fun a' ha => ?_) _ _ h)
    exact wpAnyH_forces cs _ a' w h2 hS ha (fun a w hS' hk => wpAnyH_phases hns t _ a w h3 hS' hk)
def phasesB (l : List Oper) (n : Nat) (t : List (List Nat × List Nat)) : Bool :=
  Region.sinkB .any l.toArray n && Region.chainB .any l.toArray n && headOk l.toArray n && Region.seqB .any l.toArray (l.drop n).length n ((Array.replicate l.length false).mapIdx fun i _ => decide (i < n)) && decide (n < l.length) &&
    Region.noSelect (l.take n).toArray && phB .any (l.take n).toArray (Array.replicate n false) t && decide (phLen t = n)
/-- Phase by phase. -/
theorem wpAny_phases {l : List Oper} {a : Act} {w : World} (n : Nat) (t : List (List Nat × List Nat)) (S : World → Prop) (hS : S w.drew) (hB : phasesB l n t = true)
    (h : wpPhases P (l.take n).toArray S (fun a w => wpList P l.toArray Q (l.drop n) a w) t a w.drew) :
    wpAny P .any l.toArray Q l.toArray.size (Array.replicate l.toArray.size false) a { w with drawn := w.drawn + 1 } := by
  simp only [phasesB, Bool.and_eq_true, decide_eq_true_eq] at hB
  obtain ⟨⟨⟨⟨⟨⟨⟨b1, b2⟩, b3⟩, b4⟩, b5⟩, b6⟩, b7⟩, b9⟩ := hB
  have hn : n < l.toArray.size := by simpa using b5
  have e : l.toArray.extract 0 n = (l.take n).toArray := by simp
  have hsz : (l.take n).toArray.size = n := by simp; omega
  have inv : HeadInv .any l.toArray n (Array.replicate l.toArray.size false) := ⟨by simp, (fun j oj _ hl => by rw [getD_replicate_false] at hl; cases hl), fun t _ ht => by simp at ht; simp [ht]⟩
  have hu : unl n (Array.replicate l.toArray.size false) = n := by
    unfold unl
    rw [List.countP_eq_length.2 (fun i hi => by
      have h1 := List.mem_range.1 hi
      have h2 : i < l.length := by omega
      simp [h2]), List.length_range]
  have e1 : (Array.replicate l.toArray.size false).extract 0 n = Array.replicate n false := by
    apply Array.ext_getElem?
    intro j
    by_cases hj : j < n
    · rw [ext0 _ hj, Array.getElem?_replicate, Array.getElem?_replicate, if_pos hj, if_pos (by omega)]
    · rw [Array.getElem?_eq_none (by simp; omega), Array.getElem?_eq_none (by simp; omega)]
  have hlen : n + (l.drop n).length = l.toArray.size := by simp; omega
  suffices hg : wpAny P .any l.toArray Q (n + (l.drop n).length) (Array.replicate l.toArray.size false) a { w with drawn := w.drawn + 1 } by rw [hlen] at hg; exact hg
  refine wpAny_of_truncE (T := fun a w => wpList P l.toArray Q (l.drop n) a w) b1 b2 b3 hn (fun L a' w' inv' hu' hT => ?_) n _ a _ inv hu ?_
  · have eL : L = (Array.replicate l.length false).mapIdx fun i _ => decide (i < n) := by
      apply Array.ext (by simp [inv'.size])
      intro i h1 h2
      simp only [Array.getElem_mapIdx]
      by_cases hi : i < n
      · have := unl_zero hu' i hi; simp [h1] at this; simp [hi, this]
      · have := inv'.tail i (by omega) (by rw [← inv'.size]; exact h1); simp [h1] at this; simp [hi, this]
    subst eL
    exact wpAny_of_seq (l.drop n) n _ a' w' (fun j => by simp [List.getElem?_drop]) b4 hT
  · rw [e1, e]
    refine wpAny_of_held (S := S) _ _ _ _ ?_
    suffices hg : wpAnyH P .any (l.take n).toArray (Ends fun a w => wpList P l.toArray Q (l.drop n) a w) S (phLen t) (Array.replicate n false) a { w with drawn := w.drawn + 1 } by rw [b9] at hg; exact hg
    exact wpAnyH_phases b6 t _ a _ b7 hS h
theorem wp_region_phases {id : Nat} {l : List Oper} {a : Act} {w : World} (n : Nat) (t : List (List Nat × List Nat)) (S : World → Prop) (hS : S w.drew) (hm : P.follows .mixedOrders = true) (hB : phasesB l n t = true)
    (h : wpPhases P (l.take n).toArray S (fun a w => wpList P l.toArray Q (l.drop n) a w) t a w.drew) : (Code.region id l.toArray true).wp P Q a w :=
  wp_region_any hm (wpAny_phases n t S hS hB h)
theorem wpIn_region_phases {n id : Nat} {l : List Oper} {a : Act} {w : World} (m : Nat) (t : List (List Nat × List Nat)) (S : World → Prop) (hS : S w.drew) (hm : P.follows .mixedOrders = true) (hB : phasesB l m t = true) (hd : l.all noDefer = true)
    (h : wpPhases P (l.take m).toArray S (fun a w => wpList P l.toArray (Ends fun a w => Q .normal a w) (l.drop m) a w) t a w.drew) : (Code.region id l.toArray true).wpIn (Fence.wide.inRound r) n P Q a w :=
  wpIn_region_of_any hm hd (wpAny_phases m t S hS hB h)
/-- From an end that is normal. -/
theorem wpAny_of_ends (hT : ∀ a w, T a w → Q .normal a w) : ∀ (f : Nat) (L : Array Bool) (a : Act) (w : World), wpAny P md ops (Ends T) f L a w → wpAny P md ops Q f L a w
  | 0, L, a, w, h => ⟨h.1, hT _ _ h.2⟩
  | f + 1, L, a, w, h => ⟨fun h0 => hT _ _ (h.1 h0), fun i hi => by
    have h1 := h.2 i hi
    have step : ∀ a' w', wpAny P md ops (Ends T) f (L.setIfInBounds i true) a' w' → wpAny P md ops Q f (L.setIfInBounds i true) a' w' := fun a' w' h' => wpAny_of_ends hT f _ a' w' h'
    unfold wpOp at h1 ⊢
    cases ho : ops[i]? with
    | none => simp only [ho] at h1 ⊢; exact step _ _ h1
    | some o =>
      simp only [ho] at h1 ⊢
      split
      · rename_i hw
        rw [if_pos hw] at h1
        rcases h1 with h1 | ⟨_, a1, w1, h2⟩
        · exact .inl (Oper.wp_ends step h1)
        · exact (show False from h2).elim
      · rename_i hw
        rw [if_neg hw] at h1
        exact step _ _ h1⟩
def wholeB (l : List Oper) (t : List (List Nat × List Nat)) : Bool := Region.noSelect l.toArray && phB .any l.toArray (Array.replicate l.toArray.size false) t && decide (phLen t = l.toArray.size)
theorem wpAny_whole {l : List Oper} {a : Act} {w : World} (t : List (List Nat × List Nat)) (S : World → Prop) (hS : S w.drew) (hB : wholeB l t = true) (h : wpPhases P l.toArray S T t a w.drew) :
    wpAny P .any l.toArray (Ends T) l.toArray.size (Array.replicate l.toArray.size false) a { w with drawn := w.drawn + 1 } := by
  simp only [wholeB, Bool.and_eq_true, decide_eq_true_eq] at hB
  obtain ⟨⟨b1, b2⟩, b3⟩ := hB
  refine wpAny_of_held (S := S) _ _ _ _ ?_
  rw [← b3]
  exact wpAnyH_phases b1 t _ a _ (by rw [b3]; exact b2) hS h
/-- A region that comes in phases as a whole. -/
theorem wp_region_whole {id : Nat} {l : List Oper} {a : Act} {w : World} (t : List (List Nat × List Nat)) (S : World → Prop) (hS : S w.drew) (hm : P.follows .mixedOrders = true) (hB : wholeB l t = true)
    (h : wpPhases P l.toArray S (fun a w => Q .normal a w) t a w.drew) : (Code.region id l.toArray true).wp P Q a w :=
  wp_region_any hm (wpAny_of_ends (fun _ _ h => h) _ _ _ _ (wpAny_whole t S hS hB h))
theorem wpIn_region_whole {n id : Nat} {l : List Oper} {a : Act} {w : World} (t : List (List Nat × List Nat)) (S : World → Prop) (hS : S w.drew) (hm : P.follows .mixedOrders = true) (hB : wholeB l t = true) (hd : l.all noDefer = true)
    (h : wpPhases P l.toArray S (fun a w => Q .normal a w) t a w.drew) : (Code.region id l.toArray true).wpIn (Fence.wide.inRound r) n P Q a w :=
  wpIn_region_of_any hm hd (wpAny_whole t S hS hB h)
end
end Go.Proofs.Yteognijlgalahaa
