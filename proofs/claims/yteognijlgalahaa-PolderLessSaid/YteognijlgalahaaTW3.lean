/- The law of TW where built-in min, max and len, and assignments, are let in among the reads. -/
import Derived.Test.YteognijlgalahaaTW
import Derived.Test.YteognijlgalahaaIS
namespace Go.Proofs.Yteognijlgalahaa
open Go.RowKit Go.Lib

section
variable {P : Program} {ops : Array Oper} {md : Region.Mode} {S : World → Prop} {Q : Exit → Act → World → Prop} {T : Act → World → Prop}
/-- As valueB, with assignments and three built-in functions. -/
def value3B : Op → Bool
  | .assign _ => true
  | .build .. => true
  | .call c => (match c.callee with | .builtin .min => true | .builtin .max => true | .builtin .len => true | _ => false)
  | o => valueB o
theorem exec_call3 {o : Oper} {c : Call} (ho : o.op = .call c) (hv : value3B (.call c) = true) (ρ : Operand → Value) (w : World) : (∃ u w', (execOp ρ o).run P w = .ok (.value u) w') ∨ (∃ x w', (execOp ρ o).run P w = .halt x w') := by
  have key : ∀ s : Sem Value, (∃ u w', (do pure (.value (← s)) : Sem Next).run P w = .ok (.value u) w') ∨ (∃ x w', (do pure (.value (← s)) : Sem Next).run P w = .halt x w') := fun s => by
    rw [Sem.run_bind]
    cases h : s.run P w with
    | ok u w' => left; exact ⟨u, w', by simp [Result.andThen, Sem.run_pure]⟩
    | halt x w' => right; exact ⟨x, w', by simp [Result.andThen]⟩
  unfold execOp
  simp only [ho]
  unfold resolve
  simp only [value3B] at hv
  split at hv <;> rename_i hc
  · simp only [hc, pure_bind]; exact key _
  · simp only [hc, pure_bind]; exact key _
  · simp only [hc, pure_bind]; exact key _
  · cases hv
theorem exec_build3 {o : Oper} {t : TypeId} {parts : Array (Nat × Operand)} (ho : o.op = .build t parts) (ρ : Operand → Value) (w : World) : (∃ u w', (execOp ρ o).run P w = .ok (.value u) w') ∨ (∃ x w', (execOp ρ o).run P w = .halt x w') := by
  have key : ∀ s : Sem Value, (∃ u w', (do pure (.value (← s)) : Sem Next).run P w = .ok (.value u) w') ∨ (∃ x w', (do pure (.value (← s)) : Sem Next).run P w = .halt x w') := fun s => by
    rw [Sem.run_bind]
    cases h : s.run P w with
    | ok u w' => left; exact ⟨u, w', by simp [Result.andThen, Sem.run_pure]⟩
    | halt x w' => right; exact ⟨x, w', by simp [Result.andThen]⟩
  unfold execOp
  simp only [ho]
  exact key _
theorem yieldsIf_of_quiet3 {o : Oper} {a : Act} {v : Value} {C : World → Prop} (hv : value3B o.op = true) (hw : Region.wanted o (yielded ops a.tmps) = true) (h : ∀ w, C w → o.quietAt P a C w v) : YieldsIf P ops C o v a := by
  cases ho : o.op with
  | assign x => exact yieldsIf_of_quiet2 (by rw [ho]; rfl) hw h
  | build t parts =>
    refine .inl ⟨hw, fun w hC => ?_⟩
    have h1 := h w hC
    unfold Oper.quietAt at h1
    rcases exec_build3 (P := P) ho a.eval w with ⟨u, w', e⟩ | ⟨x, w', e⟩
    · rw [e] at h1 ⊢
      obtain ⟨rfl, rfl⟩ := h1
      rfl
    · rw [e] at h1; exact h1.elim
  | call c =>
    refine .inl ⟨hw, fun w hC => ?_⟩
    have h1 := h w hC
    unfold Oper.quietAt at h1
    rcases exec_call3 (P := P) ho (by rw [ho] at hv; exact hv) a.eval w with ⟨u, w', e⟩ | ⟨x, w', e⟩
    · rw [e] at h1 ⊢
      obtain ⟨rfl, rfl⟩ := h1
      rfl
    · rw [e] at h1; exact h1.elim
  | _ => exact yieldsIf_of_quiet (by rw [ho] at hv ⊢; exact hv) hw h
def takes3B (md : Region.Mode) (ops : Array Oper) : Array Bool → List Nat → Bool
  | _, [] => true
  | L, i :: rs => (Region.ready md ops L).contains i && Region.free md ops L i && (match ops[i]? with | some o => value3B o.op | none => false) && takes3B md ops (L.setIfInBounds i true) rs
theorem wpAnyH_takes3 (hns : Region.noSelect ops = true) : ∀ (rs : List Nat) (L : Array Bool) (a : Act) (w : World) (f : Nat), S w → takes3B md ops L rs = true →
    wpQuiet P ops S (fun a' => wpAnyH P md ops (Ends T) S f (takenB L rs) a' w) (rs.filterMap (ops[·]?)) a → wpAnyH P md ops (Ends T) S (f + rs.length) L a w
  | [], L, a, w, f, _, _, h => h
  | i :: rs, L, a, w, f, hS, hB, h => by
    simp only [takes3B, Bool.and_eq_true] at hB
    obtain ⟨⟨⟨h1, h2⟩, h3⟩, h4⟩ := hB
    have hi : i ∈ Region.ready md ops L := by simpa using h1
    obtain ⟨_, o, ho, _⟩ := mem_ready.1 hi
    rw [List.filterMap_cons, ho] at h
    rw [ho] at h3
    simp only [wpQuiet] at h
    have hstep : ∃ v, YieldsIf P ops S o v a ∧ wpQuiet P ops S (fun a' => wpAnyH P md ops (Ends T) S f (takenB L (i :: rs)) a' w) (rs.filterMap (ops[·]?)) (a.put o.dst v) := by
      by_cases hw : Region.wanted o (yielded ops a.tmps) = true
      · rw [if_pos hw] at h
        obtain ⟨v, hv, hk⟩ := h
        exact ⟨v, yieldsIf_of_quiet3 h3 hw hv, hk⟩
      · rw [if_neg hw] at h
        exact ⟨undef, .inr ⟨by simpa using hw, rfl⟩, h⟩
    obtain ⟨v, hy, hk⟩ := hstep
    exact wpAnyH_take (i := i) ho hns h2 (by simpa using h1) (fun _ _ _ h => h) hy hS (wpAnyH_takes3 hns rs _ _ w f hS h4 hk)
/-- The ways in which operations may come; 'take i next': i may be taken at once. -/
inductive Wy
  | fin
  | take (i : Nat) (next : Wy)
  | way (i : Nat) (next rest : Wy)
namespace Wy
def heads : Wy → List Nat
  | fin => []
  | take _ _ => []
  | way i _ rest => i :: rest.heads
def depth : Wy → Nat
  | fin => 0
  | take _ next => next.depth + 1
  | way _ next rest => max (next.depth + 1) rest.depth
end Wy
/-- Are these all the ways from here? -/
def wysB (md : Region.Mode) (ops : Array Oper) : Bool → Array Bool → Wy → Bool
  | true, L, .fin => (Region.ready md ops L).isEmpty
  | false, _, .fin => true
  | true, L, .take i next => (Region.ready md ops L).contains i && Region.free md ops L i && (match ops[i]? with | some o => value3B o.op | none => false) && wysB md ops true (L.setIfInBounds i true) next
  | false, _, .take _ _ => false
  | b, L, .way i next rest => (!b || ((Region.ready md ops L).all fun j => (Wy.way i next rest).heads.contains j) && !(Region.ready md ops L).isEmpty) && wysB md ops true (L.setIfInBounds i true) next && wysB md ops false L rest
/-- What is owed along the ways. -/
def wpWy (P : Program) (ops : Array Oper) (S : World → Prop) (T : Act → World → Prop) : Bool → Wy → Act → World → Prop
  | true, .fin, a, w => T a w
  | false, .fin, _, _ => True
  | _, .take i next, a, w => match ops[i]? with | some o => wpQuiet P ops S (fun a' => wpWy P ops S T true next a' w) [o] a | none => False
  | _, .way i next rest, a, w => (match ops[i]? with | some o => wpList P ops (Ends fun a' w' => S w' ∧ wpWy P ops S T true next a' w') [o] a w | none => False) ∧ wpWy P ops S T false rest a w
theorem wysB_way (b : Bool) (L : Array Bool) (i : Nat) (next rest : Wy) : wysB md ops b L (.way i next rest) = ((!b || ((Region.ready md ops L).all fun j => (Wy.way i next rest).heads.contains j) && !(Region.ready md ops L).isEmpty) && wysB md ops true (L.setIfInBounds i true) next && wysB md ops false L rest) := by
  cases b <;> rfl
theorem wpWy_way (b : Bool) (i : Nat) (next rest : Wy) (a : Act) (w : World) : wpWy P ops S T b (.way i next rest) a w = ((match ops[i]? with | some o => wpList P ops (Ends fun a' w' => S w' ∧ wpWy P ops S T true next a' w') [o] a w | none => False) ∧ wpWy P ops S T false rest a w) := by
  cases b <;> rfl
theorem wpWy_take (b : Bool) (i : Nat) (next : Wy) (a : Act) (w : World) : wpWy P ops S T b (.take i next) a w = (match ops[i]? with | some o => wpQuiet P ops S (fun a' => wpWy P ops S T true next a' w) [o] a | none => False) := by
  cases b <;> rfl
theorem wpWy_fin (a : Act) (w : World) : wpWy P ops S T true .fin a w = T a w := rfl
theorem wpWy_alt : ∀ (t : Wy) (b : Bool) (L : Array Bool) (a : Act) (w : World) (i : Nat), wysB md ops b L t = true → wpWy P ops S T b t a w → i ∈ t.heads →
    ∃ next o, ops[i]? = some o ∧ wysB md ops true (L.setIfInBounds i true) next = true ∧ next.depth + 1 ≤ t.depth ∧ wpList P ops (Ends fun a' w' => S w' ∧ wpWy P ops S T true next a' w') [o] a w
  | .fin, _, _, _, _, _, _, _, hi => by cases hi
  | .take _ _, _, _, _, _, _, _, _, hi => by cases hi
  | .way j next rest, b, L, a, w, i, hB, h, hi => by
    rw [wysB_way] at hB
    rw [wpWy_way] at h
    simp only [Bool.and_eq_true] at hB
    obtain ⟨⟨_, h1⟩, h2⟩ := hB
    rcases List.mem_cons.1 hi with e | hi
    · subst e
      have h3 := h.1
      cases ho : ops[i]? with
      | none => rw [ho] at h3; exact h3.elim
      | some o =>
        rw [ho] at h3
        exact ⟨next, o, rfl, h1, Nat.le_max_left _ _, h3⟩
    · obtain ⟨n', o, e1, e2, e3, e4⟩ := wpWy_alt rest false L a w i h2 h.2 hi
      exact ⟨n', o, e1, e2, Nat.le_trans e3 (Nat.le_max_right _ _), e4⟩
theorem wpAnyH_wy (hns : Region.noSelect ops = true) : ∀ (m : Nat) (t : Wy) (L : Array Bool) (a : Act) (w : World), t.depth ≤ m → S w → wysB md ops true L t = true → wpWy P ops S T true t a w → wpAnyH P md ops (Ends T) S m L a w
  | m, .fin, L, a, w, _, _, hB, h => by
    have hr : Region.ready md ops L = [] := by simpa [wysB] using hB
    exact Go.wpAnyH_done hr h m
  | 0, .take i next, L, a, w, hd, _, _, _ => by unfold Wy.depth at hd; omega
  | m + 1, .take i next, L, a, w, hd, hS, hB, h => by
    simp only [wysB, Bool.and_eq_true] at hB
    obtain ⟨⟨⟨h1, h2⟩, h3⟩, h4⟩ := hB
    have hi : i ∈ Region.ready md ops L := by simpa using h1
    obtain ⟨_, o, ho, _⟩ := mem_ready.1 hi
    rw [wpWy_take, ho] at h
    rw [ho] at h3
    simp only [wpQuiet] at h
    have hstep : ∃ v, YieldsIf P ops S o v a ∧ wpWy P ops S T true next (a.put o.dst v) w := by
      by_cases hw : Region.wanted o (yielded ops a.tmps) = true
      · rw [if_pos hw] at h
        obtain ⟨v, hv, hk⟩ := h
        exact ⟨v, yieldsIf_of_quiet3 h3 hw hv, hk⟩
      · rw [if_neg hw] at h
        exact ⟨undef, .inr ⟨by simpa using hw, rfl⟩, h⟩
    obtain ⟨v, hy, hk⟩ := hstep
    refine wpAnyH_take (i := i) ho hns h2 (by simpa using h1) (fun _ _ _ h => h) hy hS ?_
    exact wpAnyH_wy hns m next _ _ w (by unfold Wy.depth at hd; omega) hS h4 hk
  | 0, .way i next rest, L, a, w, hd, _, _, _ => by unfold Wy.depth at hd; omega
  | m + 1, .way i next rest, L, a, w, hd, _, hB, h => by
    have hB' := hB
    rw [wysB_way] at hB'
    simp only [Bool.not_true, Bool.false_or, Bool.and_eq_true] at hB'
    obtain ⟨⟨⟨hall, hne⟩, _⟩, _⟩ := hB'
    refine ⟨fun h0 => (by rw [h0] at hne; cases hne), fun j hj => ?_⟩
    have hjh : j ∈ (Wy.way i next rest).heads := by simpa using List.all_eq_true.1 hall j hj
    obtain ⟨n', o, ho, h1, h2, h3⟩ := wpWy_alt _ true L a w j hB h hjh
    have h4 := wpList_one h3
    have step : ∀ (a' : Act) (w' : World), (S w' ∧ wpWy P ops S T true n' a' w') → S w' ∧ wpAnyH P md ops (Ends T) S m (L.setIfInBounds j true) a' w' := fun a' w' h' =>
      ⟨h'.1, wpAnyH_wy hns m n' _ a' w' (by omega) h'.1 h1 h'.2⟩
    unfold wpOp
    simp only [ho]
    split
    · rename_i hw
      rw [if_pos hw] at h4
      exact .inl (Oper.wp_ends (fun a' w' h' => step a' w' h') h4)
    · rename_i hw
      rw [if_neg hw] at h4
      exact step _ _ h4
def part3B (l : List Oper) (n : Nat) (rs : List Nat) (t : Wy) : Bool :=
  Region.sinkB .any l.toArray n && Region.chainB .any l.toArray n && headOk l.toArray n && Region.seqB .any l.toArray (l.drop n).length n ((Array.replicate l.length false).mapIdx fun i _ => decide (i < n)) && decide (n < l.length) &&
    Region.noSelect (l.take n).toArray && takes3B .any (l.take n).toArray (Array.replicate n false) rs && wysB .any (l.take n).toArray true (takenB (Array.replicate n false) rs) t && decide (t.depth + rs.length = n)
/-- THE LAW. -/
theorem wp_region_ways3 {id : Nat} {l : List Oper} {a : Act} {w : World} (n : Nat) (rs : List Nat) (t : Wy) (S : World → Prop) (hm : P.follows .mixedOrders = true) (hB : part3B l n rs t = true) (hS : S w.drew)
    (h : wpQuiet P (l.take n).toArray S (fun a' => wpWy P (l.take n).toArray S (fun a w => wpList P l.toArray Q (l.drop n) a w) true t a' w.drew) (rs.filterMap ((l.take n).toArray[·]?)) a) :
    (Code.region id l.toArray true).wp P Q a w := by
  simp only [part3B, Bool.and_eq_true, decide_eq_true_eq] at hB
  obtain ⟨⟨⟨⟨⟨⟨⟨⟨b1, b2⟩, b3⟩, b4⟩, b5⟩, b6⟩, b7⟩, b8⟩, b9⟩ := hB
  have hn : n < l.toArray.size := by simpa using b5
  have e : l.toArray.extract 0 n = (l.take n).toArray := by simp
  have hsz : (l.take n).toArray.size = n := by simp; omega
  refine wp_region_any hm ?_
  have inv : HeadInv .any l.toArray n (Array.replicate l.toArray.size false) := ⟨by simp, (fun j oj _ hl => by rw [getD_replicate_false] at hl; cases hl), fun t _ ht => by simp at ht; simp [ht]⟩
  have hu : unl n (Array.replicate l.toArray.size false) = n := by
    unfold unl
    rw [List.countP_eq_length.2 (fun i hi => by
      have h1 := List.mem_range.1 hi
      have h2 : i < l.length := by omega
      simp [h2]), List.length_range]
  have e1 : (Array.replicate l.toArray.size false).extract 0 n = Array.replicate n false := by
    apply Array.ext_getElem?
    intro j
    by_cases hj : j < n
    · rw [ext0 _ hj, Array.getElem?_replicate, Array.getElem?_replicate, if_pos hj, if_pos (by omega)]
    · rw [Array.getElem?_eq_none (by simp; omega), Array.getElem?_eq_none (by simp; omega)]
  have hlen : n + (l.drop n).length = l.toArray.size := by simp; omega
  suffices hg : wpAny P .any l.toArray Q (n + (l.drop n).length) (Array.replicate l.toArray.size false) a { w with drawn := w.drawn + 1 } by rw [hlen] at hg; exact hg
  refine wpAny_of_truncE (T := fun a w => wpList P l.toArray Q (l.drop n) a w) b1 b2 b3 hn (fun L a' w' inv' hu' hT => ?_) n _ a _ inv hu ?_
  · have eL : L = (Array.replicate l.length false).mapIdx fun i _ => decide (i < n) := by
      apply Array.ext (by simp [inv'.size])
      intro i h1 h2
      simp only [Array.getElem_mapIdx]
      by_cases hi : i < n
      · have := unl_zero hu' i hi; simp [h1] at this; simp [hi, this]
      · have := inv'.tail i (by omega) (by rw [← inv'.size]; exact h1); simp [h1] at this; simp [hi, this]
    subst eL
    exact wpAny_of_seq (l.drop n) n _ a' w' (fun j => by simp [List.getElem?_drop]) b4 hT
  · rw [e1, e]
    refine wpAny_of_held (S := S) _ _ _ _ ?_
    suffices hg : wpAnyH P .any (l.take n).toArray (Ends fun a w => wpList P l.toArray Q (l.drop n) a w) S (t.depth + rs.length) (Array.replicate n false) a { w with drawn := w.drawn + 1 } by rw [b9] at hg; exact hg
    refine wpAnyH_takes3 b6 rs _ a _ t.depth hS b7 ?_
    refine wpQuiet_mono (fun a' ha => ?_) _ _ h
    exact wpAnyH_wy b6 _ t _ a' _ (Nat.le_refl _) hS b8 ha
end
end Go.Proofs.Yteognijlgalahaa
