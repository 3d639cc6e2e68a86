/- A law for a region that draws its order: all but the tail is quiet in a class of worlds and walked in the order of the text; the tail, which waits for all, is walked behind it. -/
import Derived.Test.YteognijlgalahaaQ
import Derived.StillTail
namespace Go.Proofs.Yteognijlgalahaa
open Go.RowKit Go.Lib

section
variable {P : Program} {ops : Array Oper} {md : Region.Mode} {C : World → Prop} {Q : Exit → Act → World → Prop}
theorem ext0 {α : Type} (A : Array α) {n i : Nat} (h : i < n) : (A.extract 0 n)[i]? = A[i]? := by
  rw [Array.getElem?_extract]
  by_cases h' : i < A.size
  · rw [if_pos (by omega), Nat.zero_add]
  · rw [if_neg (by omega), Array.getElem?_eq_none (by omega)]
/-- How many of the first n are not yet listed. -/
def unl (n : Nat) (L : Array Bool) : Nat := (List.range n).countP fun i => !L.getD i true
theorem unl_set {n i : Nat} {L : Array Bool} (hi : i < n) (hs : i < L.size) (hu : L.getD i true = false) : unl n (L.setIfInBounds i true) + 1 = unl n L := by
  unfold unl
  induction n with
  | zero => omega
  | succ n ih =>
    simp only [List.range_succ, List.countP_append, List.countP_cons, List.countP_nil]
    have hother : ∀ j, j ≠ i → (L.setIfInBounds i true).getD j true = L.getD j true := fun j hj => getD_set_ne true (Ne.symm hj)
    by_cases h : i = n
    · subst h
      have e1 : (List.range i).countP (fun j => !(L.setIfInBounds i true).getD j true) = (List.range i).countP (fun j => !L.getD j true) :=
        List.countP_congr fun j hj => by rw [hother j (by have := List.mem_range.1 hj; omega)]
      have e2 : (L.setIfInBounds i true).getD i true = true := by simp [hs]
      rw [e1, e2, hu]; simp
    · have := ih (by omega)
      rw [hother n (fun e => h e.symm)]
      omega
theorem unl_zero {n : Nat} {L : Array Bool} (h : unl n L = 0) : ∀ i, i < n → L.getD i true = true := fun i hi => by
  unfold unl at h
  have := List.countP_eq_zero.1 h i (List.mem_range.2 hi)
  simpa using this
theorem unl_pos {n : Nat} {L : Array Bool} (h : 0 < unl n L) : ∃ i, i < n ∧ L.getD i true = false ∧ ∀ j, j < i → L.getD j true = true := by
  unfold unl at h
  induction n with
  | zero => simp at h
  | succ n ih =>
    by_cases h' : 0 < (List.range n).countP fun i => !L.getD i true
    · exact (ih h').elim fun i hi => ⟨i, Nat.lt_succ_of_lt hi.1, hi.2⟩
    · simp only [List.range_succ, List.countP_append, List.countP_cons, List.countP_nil] at h
      refine ⟨n, by omega, ?_, fun j hj => unl_zero (show unl n L = 0 by unfold unl; omega) j hj⟩
      cases hn : L.getD n true with
      | false => rfl
      | true =>
        have h2 : (List.range n).countP (fun i => !L.getD i true) = 0 := by omega
        rw [h2, hn] at h; simp at h
/-- Edges lead back; guards of the first n are among these. -/
def headOk (ops : Array Oper) (n : Nat) : Bool :=
  (List.range ops.size).all fun i => match ops[i]? with
    | some o => (o.after.all fun e => decide (e.on < i)) && (decide (n ≤ i) || match o.guard with | none => true | some (j, _) => decide (j < n))
    | none => true
theorem headOk_spec {n i : Nat} {o : Oper} (h : headOk ops n = true) (ho : ops[i]? = some o) : (∀ e ∈ o.after, e.on < i) ∧ (i < n → ∀ j b, o.guard = some (j, b) → j < n) := by
  have hi := (Array.getElem?_eq_some_iff.1 ho).1
  have := List.all_eq_true.1 h i (List.mem_range.2 hi)
  simp only [ho, Bool.and_eq_true, Array.all_eq_true', decide_eq_true_eq, Bool.or_eq_true] at this
  refine ⟨this.1, fun hn j b hg => ?_⟩
  have h2 := this.2
  rw [hg] at h2
  simp only [decide_eq_true_eq] at h2
  omega
theorem ready_trunc {n i : Nat} {L : Array Bool} (hi : i < n) (ht : ∀ t, n ≤ t → L.getD t false = false) (h : i ∈ Region.ready md ops L) : i ∈ Region.ready md (ops.extract 0 n) (L.extract 0 n) := by
  obtain ⟨h1, o, ho, h2⟩ := mem_ready.1 h
  have hL : ∀ (j : Nat) (d : Bool), j < n → (L.extract 0 n).getD j d = L.getD j d := fun j d hj => by
    rw [Array.getD_eq_getD_getElem?, Array.getD_eq_getD_getElem?, ext0 L hj]
  refine mem_ready.2 ⟨by rw [hL i true hi]; exact h1, o, by rw [ext0 _ hi]; exact ho, fun e he hb => ?_⟩
  have := h2 e he hb
  by_cases hj : e.on < n
  · rw [hL _ _ hj]; exact this
  · rw [ht _ (by omega)] at this; cases this
theorem qOp_trunc {n i : Nat} {K : Act → Prop} {a : Act} (hi : i < n) (hh : headOk ops n = true) (h : qOp P (ops.extract 0 n) C i K a) : qOp P ops C i K a := by
  have e : (ops.extract 0 n)[i]? = ops[i]? := ext0 _ hi
  unfold qOp at *
  rw [e] at h
  cases ho : ops[i]? with
  | none => simpa [ho] using h
  | some o =>
    simp only [ho] at h ⊢
    have hg : Region.wanted o (yielded (ops.extract 0 n) a.tmps) = Region.wanted o (yielded ops a.tmps) := by
      unfold Region.wanted
      cases hq : o.guard with
      | none => rfl
      | some q =>
        obtain ⟨j, b⟩ := q
        have hj := (headOk_spec hh ho).2 hi j b hq
        simp only [yielded]
        rw [show (ops.extract 0 n)[j]? = ops[j]? from ext0 _ hj]
    rw [hg] at h
    exact h
theorem set_ext0 {n i : Nat} {L : Array Bool} (hin : i < n) (his : i < L.size) : (L.extract 0 n).setIfInBounds i true = (L.setIfInBounds i true).extract 0 n := by
  apply Array.ext_getElem?
  intro j
  by_cases hj : j < n
  · rw [ext0 _ hj, Array.getElem?_setIfInBounds, Array.getElem?_setIfInBounds, ext0 _ hj]
    by_cases hij : i = j
    · subst hij; rw [if_pos rfl, if_pos rfl, if_pos (by simp; omega), if_pos his]
    · rw [if_neg hij, if_neg hij]
  · rw [Array.getElem?_eq_none (by simp; omega), Array.getElem?_eq_none (by simp; omega)]
theorem wpAny_of_trunc {n m : Nat} (hs : Region.sinkB md ops n = true) (hc : Region.chainB md ops n = true) (hh : headOk ops n = true) (hn : n < ops.size)
    (T : Act → World → Prop) (hT : ∀ L a w, HeadInv md ops n L → unl n L = 0 → T a w → wpAny P md ops Q m L a w) :
    ∀ (f : Nat) (L : Array Bool) (a : Act) (w : World), HeadInv md ops n L → unl n L = f → C w → wpAnyQ P md (ops.extract 0 n) C (fun a' => ∀ w', C w' → T a' w') f (L.extract 0 n) a → wpAny P md ops Q (f + m) L a w
  | 0, L, a, w, inv, hu, hw, h => by rw [Nat.zero_add]; exact hT L a w inv hu (h.2 w hw)
  | f + 1, L, a, w, inv, hu, hw, h => by
    rw [show f + 1 + m = (f + m) + 1 by omega]
    obtain ⟨k, hk, hku, hkl⟩ := unl_pos (n := n) (L := L) (by omega)
    refine ⟨fun h0 => ?_, fun i hi => ?_⟩
    · exfalso
      have hks : k < ops.size := by omega
      have hko : ops[k]? = some ops[k] := by simp [hks]
      have : k ∈ Region.ready md ops L := mem_ready.2 ⟨hku, _, hko, fun e he _ => by
        have h1 := (headOk_spec hh hko).1 e he
        have h2 := hkl _ h1
        have hsz : e.on < L.size := by rw [inv.size]; omega
        simp [hsz] at h2 ⊢
        exact h2⟩
      rw [h0] at this; cases this
    · have hin : i < n := by
        rcases Nat.lt_or_ge i n with h1 | h1
        · exact h1
        · exact absurd hi (tail_waits hs hc hn inv _ k rfl hk hku i h1)
      have ht : ∀ t, n ≤ t → L.getD t false = false := fun t ht => by
        rcases Nat.lt_or_ge t ops.size with h1 | h1
        · exact getD_both (inv.tail t ht h1)
        · have : L.size ≤ t := by rw [inv.size]; exact h1
          simp [Array.getElem?_eq_none this]
      have hq := qOp_trunc hin hh (h.2 i (ready_trunc hin ht hi))
      refine wpOp_of_qOp hw (fun a' w' hw' hK => ?_) hq
      have hiu := (mem_ready.1 hi).1
      have his : i < L.size := by rw [inv.size]; omega
      have hset := set_ext0 hin his
      rw [hset] at hK
      exact wpAny_of_trunc hs hc hh hn T hT f _ a' w' (inv.set hi hin) (by have := unl_set hin his hiu; omega) hw' hK
theorem wp_region_head_tail {id n : Nat} {a : Act} {w : World} {tl : List Oper} (hm : P.follows .mixedOrders = true) (hs : Region.sinkB .any ops n = true) (hc : Region.chainB .any ops n = true) (hh : headOk ops n = true) (hn : n < ops.size)
    (hB : Region.lexB .any (ops.extract 0 n) = true) (htl : ∀ j, tl[j]? = ops[n + j]?) (hq : Region.seqB .any ops tl.length n ((Array.replicate ops.size false).mapIdx fun i _ => decide (i < n)) = true) (hlen : n + tl.length = ops.size)
    (hC : C w.drew) (h : wpQuiet P (ops.extract 0 n) C (fun a' => ∀ w', C w' → wpList P ops Q tl a' w') (ops.extract 0 n).toList a) : (Code.region id ops true).wp P Q a w := by
  simp only [Region.lexB, Bool.and_eq_true] at hB
  refine wp_region_any hm ?_
  have hsz : (ops.extract 0 n).size = n := by simp; omega
  have h1 := wpAnyQ_lex (C := C) (md := .any) hB.1 (ops.extract 0 n).toList 0 (Array.replicate (ops.extract 0 n).size false) a (fun j => by rw [Nat.zero_add, Array.getElem?_toList]) (by simpa using hB.2) h
  have e1 : Array.replicate (ops.extract 0 n).size false = (Array.replicate ops.size false).extract 0 n := by
    apply Array.ext_getElem?
    intro j
    by_cases hj : j < n
    · rw [ext0 _ hj, hsz, Array.getElem?_replicate, Array.getElem?_replicate, if_pos hj, if_pos (by omega)]
    · rw [Array.getElem?_eq_none (by simp; omega), Array.getElem?_eq_none (by simp; omega)]
  rw [e1] at h1
  have hl : (ops.extract 0 n).toList.length = n := by rw [Array.length_toList, hsz]
  rw [hl] at h1
  have hu : unl n (Array.replicate ops.size false) = n := by
    unfold unl
    rw [List.countP_eq_length.2 (fun i hi => by
      have h1 := List.mem_range.1 hi
      have h2 : i < ops.size := by omega
      simp [h2]), List.length_range]
  have inv : HeadInv .any ops n (Array.replicate ops.size false) := ⟨by simp, (fun j oj _ hl => by rw [getD_replicate_false] at hl; cases hl), fun t _ ht => by simp [ht]⟩
  have := wpAny_of_trunc (m := tl.length) hs hc hh hn (fun a' w' => wpList P ops Q tl a' w') (fun L a' w' inv' hu' hT => by
    have eL : L = (Array.replicate ops.size false).mapIdx fun i _ => decide (i < n) := by
      apply Array.ext (by simp [inv'.size])
      intro i h1 h2
      simp only [Array.getElem_mapIdx]
      by_cases hi : i < n
      · have := unl_zero hu' i hi; simp [h1] at this; simp [hi, this]
      · have := inv'.tail i (by omega) (by rw [← inv'.size]; exact h1); simp [h1] at this; simp [hi, this]
    subst eL
    exact wpAny_of_seq tl n _ a' w' htl hq hT) n _ a _ inv hu hC h1
  rw [hlen] at this
  exact this
/-- The same for a region that is written out, at the class 'Below'. -/
theorem wp_region_tail {id : Nat} {l : List Oper} {a : Act} {w : World} (n : Nat) (hm : P.follows .mixedOrders = true) (hs : Region.sinkB .any l.toArray n = true) (hc : Region.chainB .any l.toArray n = true) (hh : headOk l.toArray n = true)
    (hB : Region.lexB .any (l.take n).toArray = true) (hq : Region.seqB .any l.toArray (l.drop n).length n ((Array.replicate l.length false).mapIdx fun i _ => decide (i < n)) = true) (hn : n < l.length)
    (h : wpQuiet P (l.take n).toArray (fun w' => ∃ p : Regrown, w' = Go.Sort.grow (redrawn w p.d) p.os) (fun a' => ∀ w', (∃ p : Regrown, w' = Go.Sort.grow (redrawn w p.d) p.os) → wpList P l.toArray Q (l.drop n) a' w') (l.take n) a) : (Code.region id l.toArray true).wp P Q a w := by
  have e : l.toArray.extract 0 n = (l.take n).toArray := by simp
  exact wp_region_head_tail (C := fun w' => ∃ p : Regrown, w' = Go.Sort.grow (redrawn w p.d) p.os) (tl := l.drop n) hm hs hc hh (by simpa using hn) (by rw [e]; exact hB) (fun j => by simp [List.getElem?_drop]) (by simpa using hq) (by simp; omega) ⟨⟨w.drawn + 1, #[]⟩, by rw [Go.Sort.grow_empty]; rfl⟩ (by rw [e]; exact h)
/-- A whole array of integers, read quietly. -/
theorem wpQuiet_load_ints {rest : List Oper} {o : Oper} {a : Act} {Q : Act → Prop} (hgd : o.guard = none) (ty : TypeId) (x : Operand) (ho : o.op = .load ty x) (g off : Nat) (hx : a.eval x = .pointer (some ⟨g, off, none⟩)) (vs : List Int) (d : TypeDesc)
    (hv : ∀ W, C W → W.rangeAt g off (vs.map (Value.int .i64))) (hu : P.underlying ty = some d) (hd : d.isRow = true) (hi : (P.info? ty).map (·.size) = some vs.length)
    (h : wpQuiet P ops C Q rest (a.put o.dst (.agg (vals vs)))) : wpQuiet P ops C Q (o :: rest) a := by
  refine wpQuiet_step fun K hK => ?_
  rw [if_pos (by simp [Region.wanted, hgd])]
  refine ⟨.agg (vals vs), fun W hW => ?_, hK _ h⟩
  unfold Oper.quietAt execOp
  simp only [ho, hx, Instr.loadAt, Instr.sureAddr, Sem.run_bind, Sem.run_pure, Result.andThen_ok, run_loadVar_mid W g off ty (vs.map (Value.int .i64)) d (hv W hW) hu hd (by simpa using hi)]
  exact ⟨rfl, rfl⟩
end
end Go.Proofs.Yteognijlgalahaa
