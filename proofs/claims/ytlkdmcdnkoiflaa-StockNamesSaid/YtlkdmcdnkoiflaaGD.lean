/- The texts T L LA LB U V X TI Y Z ZA, joined. -/
import Derived.Test.YtlkdmcdnkoiflaaGA
import Derived.StillTail
import Derived.Laws.Tables
import Derived.RangeFuncNested
import Derived.RangeFuncBound
import Derived.RangeFuncCalls
import Derived.RangeFuncLeaves
import Derived.OwnWalkIn
import Derived.TacticsInMore
import Derived.LoopNIn
import Derived.LoopIn
import Derived.WalkMore
/- A law for a region that draws its order: all but the tail is quiet in a class of worlds and walked in the order of the text; the tail, which waits for all, is walked behind it. -/
namespace Go.Proofs.Ytlkdmcdnkoiflaa
open Go.RowKit Go.Lib

section
variable {P : Program} {ops : Array Oper} {md : Region.Mode} {C : World → Prop} {Q : Exit → Act → World → Prop}
theorem ext0 {α : Type} (A : Array α) {n i : Nat} (h : i < n) : (A.extract 0 n)[i]? = A[i]? := by
  rw [Array.getElem?_extract]
  by_cases h' : i < A.size
  · rw [if_pos (by omega), Nat.zero_add]
  · rw [if_neg (by omega), Array.getElem?_eq_none (by omega)]
/-- How many of the first n are not yet listed. -/
def unl (n : Nat) (L : Array Bool) : Nat := (List.range n).countP fun i => !L.getD i true
theorem unl_set {n i : Nat} {L : Array Bool} (hi : i < n) (hs : i < L.size) (hu : L.getD i true = false) : unl n (L.setIfInBounds i true) + 1 = unl n L := by
  unfold unl
  induction n with
  | zero => omega
  | succ n ih =>
    simp only [List.range_succ, List.countP_append, List.countP_cons, List.countP_nil]
    have hother : ∀ j, j ≠ i → (L.setIfInBounds i true).getD j true = L.getD j true := fun j hj => getD_set_ne true (Ne.symm hj)
    by_cases h : i = n
    · subst h
      have e1 : (List.range i).countP (fun j => !(L.setIfInBounds i true).getD j true) = (List.range i).countP (fun j => !L.getD j true) :=
        List.countP_congr fun j hj => by rw [hother j (by have := List.mem_range.1 hj; omega)]
      have e2 : (L.setIfInBounds i true).getD i true = true := by simp [hs]
      rw [e1, e2, hu]; simp
    · have := ih (by omega)
      rw [hother n (fun e => h e.symm)]
      omega
theorem unl_zero {n : Nat} {L : Array Bool} (h : unl n L = 0) : ∀ i, i < n → L.getD i true = true := fun i hi => by
  unfold unl at h
  have := List.countP_eq_zero.1 h i (List.mem_range.2 hi)
  simpa using this
theorem unl_pos {n : Nat} {L : Array Bool} (h : 0 < unl n L) : ∃ i, i < n ∧ L.getD i true = false ∧ ∀ j, j < i → L.getD j true = true := by
  unfold unl at h
  induction n with
  | zero => simp at h
  | succ n ih =>
    by_cases h' : 0 < (List.range n).countP fun i => !L.getD i true
    · exact (ih h').elim fun i hi => ⟨i, Nat.lt_succ_of_lt hi.1, hi.2⟩
    · simp only [List.range_succ, List.countP_append, List.countP_cons, List.countP_nil] at h
      refine ⟨n, by omega, ?_, fun j hj => unl_zero (show unl n L = 0 by unfold unl; omega) j hj⟩
      cases hn : L.getD n true with
      | false => rfl
      | true =>
        have h2 : (List.range n).countP (fun i => !L.getD i true) = 0 := by omega
        rw [h2, hn] at h; simp at h
/-- Edges lead back; guards of the first n are among these. -/
def headOk (ops : Array Oper) (n : Nat) : Bool :=
  (List.range ops.size).all fun i => match ops[i]? with
    | some o => (o.after.all fun e => decide (e.on < i)) && (decide (n ≤ i) || match o.guard with | none => true | some (j, _) => decide (j < n))
    | none => true
theorem headOk_spec {n i : Nat} {o : Oper} (h : headOk ops n = true) (ho : ops[i]? = some o) : (∀ e ∈ o.after, e.on < i) ∧ (i < n → ∀ j b, o.guard = some (j, b) → j < n) := by
  have hi := (Array.getElem?_eq_some_iff.1 ho).1
  have := List.all_eq_true.1 h i (List.mem_range.2 hi)
  simp only [ho, Bool.and_eq_true, Array.all_eq_true', decide_eq_true_eq, Bool.or_eq_true] at this
  refine ⟨this.1, fun hn j b hg => ?_⟩
  have h2 := this.2
  rw [hg] at h2
  simp only [decide_eq_true_eq] at h2
  omega
theorem ready_trunc {n i : Nat} {L : Array Bool} (hi : i < n) (ht : ∀ t, n ≤ t → L.getD t false = false) (h : i ∈ Region.ready md ops L) : i ∈ Region.ready md (ops.extract 0 n) (L.extract 0 n) := by
  obtain ⟨h1, o, ho, h2⟩ := mem_ready.1 h
  have hL : ∀ (j : Nat) (d : Bool), j < n → (L.extract 0 n).getD j d = L.getD j d := fun j d hj => by
    rw [Array.getD_eq_getD_getElem?, Array.getD_eq_getD_getElem?, ext0 L hj]
  refine mem_ready.2 ⟨by rw [hL i true hi]; exact h1, o, by rw [ext0 _ hi]; exact ho, fun e he hb => ?_⟩
  have := h2 e he hb
  by_cases hj : e.on < n
  · rw [hL _ _ hj]; exact this
  · rw [ht _ (by omega)] at this; cases this
theorem qOp_trunc {n i : Nat} {K : Act → Prop} {a : Act} (hi : i < n) (hh : headOk ops n = true) (h : qOp P (ops.extract 0 n) C i K a) : qOp P ops C i K a := by
  have e : (ops.extract 0 n)[i]? = ops[i]? := ext0 _ hi
  unfold qOp at *
  rw [e] at h
  cases ho : ops[i]? with
  | none => simpa [ho] using h
  | some o =>
    simp only [ho] at h ⊢
    have hg : Region.wanted o (yielded (ops.extract 0 n) a.tmps) = Region.wanted o (yielded ops a.tmps) := by
      unfold Region.wanted
      cases hq : o.guard with
      | none => rfl
      | some q =>
        obtain ⟨j, b⟩ := q
        have hj := (headOk_spec hh ho).2 hi j b hq
        simp only [yielded]
        rw [show (ops.extract 0 n)[j]? = ops[j]? from ext0 _ hj]
    rw [hg] at h
    exact h
theorem set_ext0 {n i : Nat} {L : Array Bool} (hin : i < n) (his : i < L.size) : (L.extract 0 n).setIfInBounds i true = (L.setIfInBounds i true).extract 0 n := by
  apply Array.ext_getElem?
  intro j
  by_cases hj : j < n
  · rw [ext0 _ hj, Array.getElem?_setIfInBounds, Array.getElem?_setIfInBounds, ext0 _ hj]
    by_cases hij : i = j
    · subst hij; rw [if_pos rfl, if_pos rfl, if_pos (by simp; omega), if_pos his]
    · rw [if_neg hij, if_neg hij]
  · rw [Array.getElem?_eq_none (by simp; omega), Array.getElem?_eq_none (by simp; omega)]
theorem wpAny_of_trunc {n m : Nat} (hs : Region.sinkB md ops n = true) (hc : Region.chainB md ops n = true) (hh : headOk ops n = true) (hn : n < ops.size)
    (T : Act → World → Prop) (hT : ∀ L a w, HeadInv md ops n L → unl n L = 0 → T a w → wpAny P md ops Q m L a w) :
    ∀ (f : Nat) (L : Array Bool) (a : Act) (w : World), HeadInv md ops n L → unl n L = f → C w → wpAnyQ P md (ops.extract 0 n) C (fun a' => ∀ w', C w' → T a' w') f (L.extract 0 n) a → wpAny P md ops Q (f + m) L a w
  | 0, L, a, w, inv, hu, hw, h => by rw [Nat.zero_add]; exact hT L a w inv hu (h.2 w hw)
  | f + 1, L, a, w, inv, hu, hw, h => by
    rw [show f + 1 + m = (f + m) + 1 by omega]
    obtain ⟨k, hk, hku, hkl⟩ := unl_pos (n := n) (L := L) (by omega)
    refine ⟨fun h0 => ?_, fun i hi => ?_⟩
    · exfalso
      have hks : k < ops.size := by omega
      have hko : ops[k]? = some ops[k] := by simp [hks]
      have : k ∈ Region.ready md ops L := mem_ready.2 ⟨hku, _, hko, fun e he _ => by
        have h1 := (headOk_spec hh hko).1 e he
        have h2 := hkl _ h1
        have hsz : e.on < L.size := by rw [inv.size]; omega
        simp [hsz] at h2 ⊢
        exact h2⟩
      rw [h0] at this; cases this
    · have hin : i < n := by
        rcases Nat.lt_or_ge i n with h1 | h1
        · exact h1
        · exact absurd hi (tail_waits hs hc hn inv _ k rfl hk hku i h1)
      have ht : ∀ t, n ≤ t → L.getD t false = false := fun t ht => by
        rcases Nat.lt_or_ge t ops.size with h1 | h1
        · exact getD_both (inv.tail t ht h1)
        · have : L.size ≤ t := by rw [inv.size]; exact h1
          simp [Array.getElem?_eq_none this]
      have hq := qOp_trunc hin hh (h.2 i (ready_trunc hin ht hi))
      refine wpOp_of_qOp hw (fun a' w' hw' hK => ?_) hq
      have hiu := (mem_ready.1 hi).1
      have his : i < L.size := by rw [inv.size]; omega
      have hset := set_ext0 hin his
      rw [hset] at hK
      exact wpAny_of_trunc hs hc hh hn T hT f _ a' w' (inv.set hi hin) (by have := unl_set hin his hiu; omega) hw' hK
theorem wp_region_head_tail {id n : Nat} {a : Act} {w : World} {tl : List Oper} (hm : P.follows .mixedOrders = true) (hs : Region.sinkB .any ops n = true) (hc : Region.chainB .any ops n = true) (hh : headOk ops n = true) (hn : n < ops.size)
    (hB : Region.lexB .any (ops.extract 0 n) = true) (htl : ∀ j, tl[j]? = ops[n + j]?) (hq : Region.seqB .any ops tl.length n ((Array.replicate ops.size false).mapIdx fun i _ => decide (i < n)) = true) (hlen : n + tl.length = ops.size)
    (hC : C w.drew) (h : wpQuiet P (ops.extract 0 n) C (fun a' => ∀ w', C w' → wpList P ops Q tl a' w') (ops.extract 0 n).toList a) : (Code.region id ops true).wp P Q a w := by
  simp only [Region.lexB, Bool.and_eq_true] at hB
  refine wp_region_any hm ?_
  have hsz : (ops.extract 0 n).size = n := by simp; omega
  have h1 := wpAnyQ_lex (C := C) (md := .any) hB.1 (ops.extract 0 n).toList 0 (Array.replicate (ops.extract 0 n).size false) a (fun j => by rw [Nat.zero_add, Array.getElem?_toList]) (by simpa using hB.2) h
  have e1 : Array.replicate (ops.extract 0 n).size false = (Array.replicate ops.size false).extract 0 n := by
    apply Array.ext_getElem?
    intro j
    by_cases hj : j < n
    · rw [ext0 _ hj, hsz, Array.getElem?_replicate, Array.getElem?_replicate, if_pos hj, if_pos (by omega)]
    · rw [Array.getElem?_eq_none (by simp; omega), Array.getElem?_eq_none (by simp; omega)]
  rw [e1] at h1
  have hl : (ops.extract 0 n).toList.length = n := by rw [Array.length_toList, hsz]
  rw [hl] at h1
  have hu : unl n (Array.replicate ops.size false) = n := by
    unfold unl
    rw [List.countP_eq_length.2 (fun i hi => by
      have h1 := List.mem_range.1 hi
      have h2 : i < ops.size := by omega
      simp [h2]), List.length_range]
  have inv : HeadInv .any ops n (Array.replicate ops.size false) := ⟨by simp, (fun j oj _ hl => by rw [getD_replicate_false] at hl; cases hl), fun t _ ht => by simp [ht]⟩
  have := wpAny_of_trunc (m := tl.length) hs hc hh hn (fun a' w' => wpList P ops Q tl a' w') (fun L a' w' inv' hu' hT => by
    have eL : L = (Array.replicate ops.size false).mapIdx fun i _ => decide (i < n) := by
      apply Array.ext (by simp [inv'.size])
      intro i h1 h2
      simp only [Array.getElem_mapIdx]
      by_cases hi : i < n
      · have := unl_zero hu' i hi; simp [h1] at this; simp [hi, this]
      · have := inv'.tail i (by omega) (by rw [← inv'.size]; exact h1); simp [h1] at this; simp [hi, this]
    subst eL
    exact wpAny_of_seq tl n _ a' w' htl hq hT) n _ a _ inv hu hC h1
  rw [hlen] at this
  exact this
/-- The same for a region that is written out, at the class 'Below'. -/
theorem wp_region_tail {id : Nat} {l : List Oper} {a : Act} {w : World} (n : Nat) (hm : P.follows .mixedOrders = true) (hs : Region.sinkB .any l.toArray n = true) (hc : Region.chainB .any l.toArray n = true) (hh : headOk l.toArray n = true)
    (hB : Region.lexB .any (l.take n).toArray = true) (hq : Region.seqB .any l.toArray (l.drop n).length n ((Array.replicate l.length false).mapIdx fun i _ => decide (i < n)) = true) (hn : n < l.length)
    (h : wpQuiet P (l.take n).toArray (fun w' => ∃ p : Regrown, w' = Go.Sort.grow (redrawn w p.d) p.os) (fun a' => ∀ w', (∃ p : Regrown, w' = Go.Sort.grow (redrawn w p.d) p.os) → wpList P l.toArray Q (l.drop n) a' w') (l.take n) a) : (Code.region id l.toArray true).wp P Q a w := by
  have e : l.toArray.extract 0 n = (l.take n).toArray := by simp
  exact wp_region_head_tail (C := fun w' => ∃ p : Regrown, w' = Go.Sort.grow (redrawn w p.d) p.os) (tl := l.drop n) hm hs hc hh (by simpa using hn) (by rw [e]; exact hB) (fun j => by simp [List.getElem?_drop]) (by simpa using hq) (by simp; omega) ⟨⟨w.drawn + 1, #[]⟩, by rw [Go.Sort.grow_empty]; rfl⟩ (by rw [e]; exact h)
/-- A whole array of integers, read quietly. -/
theorem wpQuiet_load_ints {rest : List Oper} {o : Oper} {a : Act} {Q : Act → Prop} (hgd : o.guard = none) (ty : TypeId) (x : Operand) (ho : o.op = .load ty x) (g off : Nat) (hx : a.eval x = .pointer (some ⟨g, off, none⟩)) (vs : List Int) (d : TypeDesc)
    (hv : ∀ W, C W → W.rangeAt g off (vs.map (Value.int .i64))) (hu : P.underlying ty = some d) (hd : d.isRow = true) (hi : (P.info? ty).map (·.size) = some vs.length)
    (h : wpQuiet P ops C Q rest (a.put o.dst (.agg (vals vs)))) : wpQuiet P ops C Q (o :: rest) a := by
  refine wpQuiet_step fun K hK => ?_
  rw [if_pos (by simp [Region.wanted, hgd])]
  refine ⟨.agg (vals vs), fun W hW => ?_, hK _ h⟩
  unfold Oper.quietAt execOp
  simp only [ho, hx, Instr.loadAt, Instr.sureAddr, Sem.run_bind, Sem.run_pure, Result.andThen_ok, run_loadVar_mid W g off ty (vs.map (Value.int .i64)) d (hv W hW) hu hd (by simpa using hi)]
  exact ⟨rfl, rfl⟩
end
end Go.Proofs.Ytlkdmcdnkoiflaa

/- course.season: the year. -/
namespace Go.Proofs.Ytlkdmcdnkoiflaa
open Go.RowKit Go.Lib

/-- A struct or an array is built: by what the program's tables say of its parts. -/
theorem wpList_build {P : Program} {w : World} {ops : Array Oper} {rest : List Oper} {o : Oper} {a : Act} {Q : Exit → Act → World → Prop} (hgd : o.guard = none) (t : TypeId) (parts : Array (Nat × Operand)) (ho : o.op = .build t parts)
    (vs : Array (Nat × Value)) (hv : parts.map (fun p => (p.1, a.eval p.2)) = vs) (cells : Array Value) (h : P.built t vs.toList = some cells) (hk : wpList P ops Q rest (a.put o.dst (.agg cells)) w) : wpList P ops Q (o :: rest) a w := by
  refine wpList_plain hgd fun K hK => ?_
  subst hv
  have hrun := run_build (P := P) w t _ cells h
  unfold Oper.wp
  simp [execOp, ho, hrun, Result.andThen]
  exact hK _ _ hk
theorem built_season5 (a b c d e : Value) : Try.prog.built 123 [(0, .agg #[a, b, c, d, e])] = some #[a, b, c, d, e, .int .i64 0, .int .i64 0, .int .i64 0, .int .i64 0, .int .i64 0, .int .i64 0, .int .i64 0, .int .i64 0, .int .i64 0, .int .i64 0, .int .i64 0, .int .i64 0, .int .i64 0, .int .i64 0, .int .i64 0] := by kernel_rfl
abbrev z5 : List Int := [0, 0, 0, 0, 0]
theorem built_season {l : List Int} (h : l.length = 5) : Try.prog.built 123 [(0, .agg (vals l))] = some (vals (l ++ z5 ++ z5 ++ z5)) := by
  match l, h with
  | [a, b, c, d, e], _ => exact built_season5 _ _ _ _ _

/-- The numbers of a year. -/
def soldAt (p : PlM) (L : List Int) (i : Nat) : Int := min (p.e.l.getD i 0) (max 0 (L.getD i 0 - p.k.l.getD i 0))
def soldL (p : PlM) (L : List Int) : List Int := upto5 (soldAt p L) p.s.l.length
def leftAt (L S X : List Int) (i : Nat) : Int := L.getD i 0 - S.getD i 0 - X.getD i 0
def plantAt (p : PlM) (L S X : List Int) (i : Nat) : Int := min (leftAt L S X i) (p.r.l.getD i 0)
def plantL (p : PlM) (L S X : List Int) : List Int := upto5 (plantAt p L S X) p.s.l.length
/-- What a year comes to: what is lifted, sold, lost and planted, five numbers each. -/
def yearL (p : PlM) (gr : List (List Int)) (loss : Int) (pl : List Int) : List Int :=
  let L := liftL p.s.l.length pl gr
  let S := soldL p L
  let X := lossL (L ++ S ++ z5 ++ z5) loss
  L ++ S ++ X ++ plantL p L S X
/-- The memory of season. -/
structure SM (p : PlM) (t : TrM) (w : World) (gs : Nat) (l : List Int) (wr : World) : Prop where
  c : Lies wr w.heap.size 117 (p.cells ++ t.cells).toArray
  z : Lies wr (w.heap.size + 1 + 1) 123 (vals (z5 ++ z5 ++ z5 ++ z5))
  s : Lies wr gs 123 (vals l)
  b : Below w.heap.size w wr
  g : w.heap.size + 1 + 1 < gs
theorem SM.set {p : PlM} {t : TrM} {w wr : World} {gs : Nat} {l : List Int} (h : SM p t w gs l wr) (i : Nat) (x : Int) : SM p t w gs (l.set i x) (wr.setCell ⟨gs, i, none⟩ (.int .i64 x)) :=
  ⟨h.c.other (show w.heap.size ≠ gs by have := h.g; omega) _, h.z.other (show w.heap.size + 1 + 1 ≠ gs by have := h.g; omega) _, by have := h.s.set i (.int .i64 x); rwa [vals_set] at this, h.b.setCell (show w.heap.size ≤ gs by have := h.g; omega) _, h.g⟩
theorem SM.alloc {p : PlM} {t : TrM} {w wr : World} {gs : Nat} {l : List Int} (h : SM p t w gs l wr) (o : Obj) : SM p t w gs l (wr.alloc o) :=
  ⟨h.c.alloc o, h.z.alloc o, h.s.alloc o, h.b.alloc h.b.size o, h.g⟩
theorem SM.drew {p : PlM} {t : TrM} {w wr : World} {gs : Nat} {l : List Int} (h : SM p t w gs l wr) : SM p t w gs l wr.drew := ⟨h.c, h.z, h.s, h.b.drew, h.g⟩
theorem SM.drewN {p : PlM} {t : TrM} {w wr : World} {gs : Nat} {l : List Int} (h : SM p t w gs l wr) (n : Nat) : SM p t w gs l (wr.drewN n) := ⟨h.c, h.z, h.s, below_drewN h.b n, h.g⟩
theorem SM.call {p : PlM} {t : TrM} {w wr wq : World} {gs : Nat} {l : List Int} (h : SM p t w gs l wr) (hb : Below wr.heap.size wr wq) : SM p t w gs l wq :=
  ⟨h.c.call hb, h.z.call hb, h.s.call hb, h.b.trans (hb.mono h.b.size), h.g⟩
theorem SM.store {p : PlM} {t : TrM} {w wr wq : World} {gs : Nat} {l l' : List Int} (h : SM p t w gs l wr) (ho : Only gs wr wq) (hl : Lies wq gs 123 (vals l')) : SM p t w gs l' wq :=
  ⟨ho.lies h.c (by have := h.g; omega), ho.lies h.z (by have := h.g; omega), hl, ho.below h.b (by have := h.g; omega), h.g⟩
theorem splice_third {A B X : List Int} (hA : A.length = 5) (hB : B.length = 5) (hX : X.length = 5) : splice (A ++ B ++ (z5 ++ z5)) 10 X = A ++ B ++ X ++ z5 := by
  have h10 : (A ++ B).length = 10 := by simp [hA, hB]
  unfold splice
  rw [List.take_left' h10, hX, ← List.drop_drop, List.drop_left' h10]
  simp
theorem set_fourth {A : List Int} (hA : A.length = 15) (f : Nat → Int) (k : Nat) (hk : k < 5) : (A ++ upto5 f k).set (15 + k) (f k) = A ++ upto5 f (k + 1) := by
  rw [List.set_append_right _ _ (by omega), show 15 + k - A.length = k by omega, upto5_set f k hk]
theorem upto5_getD (f : Nat → Int) (n i : Nat) (hi : i < 5) : (upto5 f n).getD i 0 = if i < n then f i else 0 := by simp [upto5, List.getD, hi]
/-- What is lifted: five numbers in their bounds. -/
structure Five (L : List Int) : Prop where
  len : L.length = 5
  b : ∀ i, i < 5 → 0 ≤ L.getD i 0 ∧ L.getD i 0 ≤ 25000000
theorem liftL_five {n : Nat} {pl : List Int} {gr : List (List Int)} (hn : n ≤ 5) (hG : Grown5 n pl gr) : Five (liftL n pl gr) := by
  refine ⟨part_length _ _ _ _ _, fun i hi => ?_⟩
  by_cases h : i < n
  · have e : (liftL n pl gr).getD i 0 = liftAt pl gr i n := by
      have := part_at (f := n) (t := 0) pl gr h hn
      rw [if_neg (by omega)] at this
      simp [liftL, List.getD, this]
    have := liftAt_bd hG h n (Nat.le_refl _)
    rw [e]; omega
  · have e : (liftL n pl gr).getD i 0 = 0 := by simp [liftL, part, List.getD, hi, h]
    rw [e]; omega
theorem set_second {A B : List Int} (hA : A.length = 5) (f : Nat → Int) (k : Nat) (hk : k < 5) : (A ++ upto5 f k ++ B).set (5 + k) (f k) = A ++ upto5 f (k + 1) ++ B := by
  rw [List.append_assoc, List.set_append_right _ _ (by omega), List.set_append_left _ _ (by rw [upto5_length]; omega), show 5 + k - A.length = k by omega, upto5_set f k hk, List.append_assoc]
theorem upto5_zero (f : Nat → Int) : upto5 f 0 = z5 := by simp [upto5, List.range, List.range.loop]
theorem kept2 {w : World} {a p : Addr} {u v : Value} {o1 o2 : Obj} (h : w.cell? a = some u) (hne : p ≠ a) : (((w.setCell p v).alloc o1).alloc o2).drew.cell? a = some u := by
  have hb := World.block_lt_of_cell? w _ h
  show (((w.setCell p v).alloc o1).alloc o2).cell? a = some u
  rw [World.cell?_alloc_lt _ _ _ (by simp; omega), World.cell?_alloc_lt _ _ _ (by simpa using hb), World.cell?_setCell_other _ _ _ _ hne, h]
/-- What season asks of a plan. -/
structure PlM.Ok (p : PlM) : Prop where
  one : 1 ≤ p.s.l.length
  n : p.s.l.length ≤ 5
  r : p.r.l.length = p.s.l.length
  e : p.e.l.length = p.s.l.length
  k : p.k.l.length = p.s.l.length
  rb : ∀ x, x ∈ p.r.l → 0 ≤ x ∧ x ≤ 1000000
  eb : ∀ x, x ∈ p.e.l → 0 ≤ x ∧ x ≤ 1000000
  kb : ∀ x, x ∈ p.k.l → 0 ≤ x ∧ x ≤ 1000000

theorem getD_mem {l : List Int} {i : Nat} (h : i < l.length) : l.getD i 0 ∈ l := List.mem_of_getElem? (getD_some h)
theorem sold_bd {p : PlM} (h : p.Ok) {L : List Int} (hL : Five L) {i : Nat} (hi : i < p.s.l.length) : 0 ≤ soldAt p L i ∧ soldAt p L i ≤ L.getD i 0 := by
  have h1 := h.eb _ (getD_mem (l := p.e.l) (i := i) (by rw [h.e]; exact hi))
  have h2 := h.kb _ (getD_mem (l := p.k.l) (i := i) (by rw [h.k]; exact hi))
  have h3 := hL.b i (by have := h.n; omega)
  unfold soldAt; omega
theorem year_small {p : PlM} (h : p.Ok) {L : List Int} (hL : Five L) : Small (L ++ upto5 (soldAt p L) p.s.l.length ++ (z5 ++ z5)) := by
  have hS : ∀ i, i < 5 → 0 ≤ (upto5 (soldAt p L) p.s.l.length).getD i 0 ∧ (upto5 (soldAt p L) p.s.l.length).getD i 0 ≤ L.getD i 0 := fun i hi => by
    rw [upto5_getD _ _ _ hi]
    by_cases hn : i < p.s.l.length
    · rw [if_pos hn]; exact sold_bd h hL hn
    · rw [if_neg hn]; have := hL.b i hi; omega
  have a1 : ∀ i, i < 5 → (L ++ upto5 (soldAt p L) p.s.l.length ++ (z5 ++ z5)).getD i 0 = L.getD i 0 := fun i hi => by
    simp only [List.getD, List.append_assoc]; rw [List.getElem?_append_left (by rw [hL.len]; exact hi)]
  have a2 : ∀ i, i < 5 → (L ++ upto5 (soldAt p L) p.s.l.length ++ (z5 ++ z5)).getD (5 + i) 0 = (upto5 (soldAt p L) p.s.l.length).getD i 0 := fun i hi => by
    simp only [List.getD, List.append_assoc]; rw [List.getElem?_append_right (by rw [hL.len]; omega), hL.len, show 5 + i - 5 = i by omega, List.getElem?_append_left (by rw [upto5_length]; exact hi)]
  have a3 : ∀ i, i < 10 → (L ++ upto5 (soldAt p L) p.s.l.length ++ (z5 ++ z5)).getD (10 + i) 0 = 0 := fun i hi => by
    simp only [List.getD]; rw [List.getElem?_append_right (by simp only [List.length_append, hL.len, upto5_length]; omega)]
    simp only [List.length_append, hL.len, upto5_length]
    have : ∀ j, j < 10 → ((z5 ++ z5)[j]?).getD 0 = (0 : Int) := by decide
    rw [show 10 + i - (5 + 5) = i by omega]; exact this i hi
  have key : ∀ i, i < 20 → 0 ≤ (L ++ upto5 (soldAt p L) p.s.l.length ++ (z5 ++ z5)).getD i 0 ∧ (L ++ upto5 (soldAt p L) p.s.l.length ++ (z5 ++ z5)).getD i 0 ≤ 30000000 := fun i hi => by
    by_cases h1 : i < 5
    · rw [a1 i h1]; have := hL.b i h1; omega
    · by_cases h2 : i < 10
      · have := a2 (i - 5) (by omega)
        rw [show 5 + (i - 5) = i by omega] at this
        rw [this]; have := hS (i - 5) (by omega); have := hL.b (i - 5) (by omega); omega
      · have := a3 (i - 10) (by omega)
        rw [show 10 + (i - 10) = i by omega] at this
        rw [this]; omega
  exact ⟨by simp only [List.length_append, hL.len, upto5_length]; rfl, fun i hi => (key i hi).1, fun i hi => (key i hi).2, fun i hi => by rw [a1 i hi, a2 i hi]; exact (hS i hi).2⟩

set_option maxRecDepth 100000 in
set_option maxHeartbeats 4000000 in
theorem season_any (p : PlM) (t : TrM) (year : Nat) (y : Sv (Sv Int)) (loss : Int) (pl : List Int) (w : World) (hp : p.At w w.heap.size) (ht : t.At w w.heap.size) (hok : p.Ok) (hy : t.g.l[year]? = some y) (hlo : t.l.l[year]? = some loss) (h0 : 0 ≤ loss) (h1 : loss ≤ 1000) (hyn : y.l.length = p.s.l.length)
    (hyr : ∀ r, r ∈ y.l → r.l.length = p.s.l.length) (hG : Grown5 p.s.l.length pl (y.l.map (·.l))) (hpl : pl.length = 5) (hyear : t.g.l.length ≤ 1000000) (_hyear' : t.l.l.length ≤ 1000000) :
    Calls Try.prog 101 #[.agg (p.cells ++ t.cells).toArray, .int .i64 year, .agg (vals pl)] w fun e w' => e = .returned (.agg (vals (yearL p (y.l.map (·.l)) loss pl))) ∧ Below w.heap.size w w' := by
  have b0 : Below w.heap.size w (((w.alloc (.cells (p.cells ++ t.cells).toArray 117)).alloc (.cells (vals pl) 120)).alloc (.cells (vals (z5 ++ z5 ++ z5 ++ z5)) 123)) := (by repeat (first | (with_reducible assumption) | (with_reducible exact Below.refl _ _) | (with_reducible refine Below.drew ?_) | (with_reducible refine below_drewN ?_ _) | ((with_reducible refine Below.setCell ?_ ?_ _); rotate_left; focus (first | (simp; done) | (simp; omega) | omega)) | ((with_reducible refine Below.alloc ?_ ?_ _); rotate_left; focus (first | (simp; done) | (simp; omega) | omega))))
  have hC := lifts_any p t year y pl _ (ht.below b0 b0.size) hy hok.n hyn hyr hG hpl hyear
  have l0 : Lies (((w.alloc (.cells (p.cells ++ t.cells).toArray 117)).alloc (.cells (vals pl) 120)).alloc (.cells (vals (z5 ++ z5 ++ z5 ++ z5)) 123)) w.heap.size 117 (p.cells ++ t.cells).toArray := ((Lies.fresh' rfl).alloc _).alloc _
  have l2 : Lies (((w.alloc (.cells (p.cells ++ t.cells).toArray 117)).alloc (.cells (vals pl) 120)).alloc (.cells (vals (z5 ++ z5 ++ z5 ++ z5)) 123)) (w.heap.size + 1 + 1) 123 (vals (z5 ++ z5 ++ z5 ++ z5)) := Lies.fresh' (by simp)
  have l1 : Lies (((w.alloc (.cells (p.cells ++ t.cells).toArray 117)).alloc (.cells (vals pl) 120)).alloc (.cells (vals (z5 ++ z5 ++ z5 ++ z5)) 123)) (w.heap.size + 1) 120 (vals pl) := (Lies.fresh' (by simp)).alloc _
  have hLl : (liftL p.s.l.length pl (y.l.map (·.l))).length = 5 := part_length _ _ _ _ _
  have hL20 : 0 + (liftL p.s.l.length pl (y.l.map (·.l)) ++ z5 ++ z5 ++ z5).length ≤ (z5 ++ z5 ++ z5 ++ z5).length ∧ (Try.prog.info? 123).map (·.size) = some (liftL p.s.l.length pl (y.l.map (·.l)) ++ z5 ++ z5 ++ z5).length := by
    simp only [List.length_append, hLl]; exact ⟨by decide, size123⟩
  have HL20 := Lib.hid hL20
  have HB0 := Lib.hid b0
  have HC := Lib.hid hC
  have HL0 := Lib.hid l0
  have HL2 := Lib.hid l2
  have HL1 := Lib.hid l1
  have HPL := Lib.hid hpl
  have HP := Lib.hid hp
  have HT := Lib.hid ht
  have HOK := Lib.hid hok
  have HLO := Lib.hid hlo
  have HG := Lib.hid hG
  have HLL := Lib.hid hLl
  have hn := hok.n
  generalize hgr : y.l.map (·.l) = gr at *
  have HGR := Lib.hid hgr
  clear b0 hC l0 l2 l1 hL20 hp ht hok hlo hG hLl hgr hy hyn hyr hpl
  unfold yearL
  unfold PlM.cells TrM.cells at HC ⊢
  go_enter Try.func101, Try.ntmps101
  go_upto_region 2 with (first
    | (go_at_call 122; refine HC.out.mono ?_; rintro e w1 ⟨rfl, hb1⟩)
    | (refine wpList_load_ints (o := ⟨some 14, _, _, _, _, _⟩) ?_ 120 (.tmp 5) ?_ (w.heap.size + 1) 0 ?_ 120 pl pl _ HL1.out (fun j v h => by simpa using h) Try.underlying120 rfl (by rw [HPL.out]; exact size120) ?_; rfl; rfl; rfl)
    | (refine wpList_build (o := ⟨some 16, _, _, _, _, _⟩) ?_ 123 #[(0, .tmp 15)] ?_ #[(0, .agg (vals (liftL p.s.l.length pl gr)))] ?_ (vals (liftL p.s.l.length pl gr ++ z5 ++ z5 ++ z5)) ?_ ?_; rfl; rfl; (simp [Act.eval]); exact built_season HLL.out)
    | (refine wpList_store_ints (o := ⟨none, .store 123 (.tmp 7) _, _, _, _, _⟩) ?_ 123 (.tmp 7) (.tmp 16) ?_ w1.heap.size 0 ?_ 123 (z5 ++ z5 ++ z5 ++ z5) (liftL p.s.l.length pl gr ++ z5 ++ z5 ++ z5) ?_ (Lies.fresh w1 123 (vals (z5 ++ z5 ++ z5 ++ z5))) HL20.out.1 HL20.out.2 ?_; rfl; rfl; rfl; rfl; intro w2 HS2 HO2; (try simp only [Act.put])))
  have hM : SM p t w w1.heap.size (liftL p.s.l.length pl gr ++ upto5 (soldAt p (liftL p.s.l.length pl gr)) 0 ++ (z5 ++ z5)) w2 := by
    have hs := HS2.out
    rw [splice_all (by simp only [List.length_append, HLL.out]; rfl)] at hs
    have hb : Below w.heap.size w w1 := HB0.out.trans (hb1.mono HB0.out.size)
    have hz := hb1.size
    simp only [World.size_alloc] at hz
    exact ⟨HO2.out.lies ((HL0.out.call hb1).alloc _) (by omega), HO2.out.lies ((HL2.out.call hb1).alloc _) (by omega), by rw [upto5_zero]; simpa using hs, HO2.out.below (hb.alloc hb.size _) (by omega), by omega⟩
  have HM := Lib.hid hM
  clear hM hb1
  generalize w1.heap.size = gs at HM ⊢
  have c0 : w2.cell? ⟨w.heap.size, 0, none⟩ = some (.slice p.s.A p.s.l.length p.s.c) := HM.out.c.at_ 0
  go_wp2
  clear c0
  generalize hLg : liftL p.s.l.length pl gr = L at *
  have HLG := Lib.hid hLg
  clear hLg
  go_loopw [8, 21] (fun _ s21 wr => ∃ k : Nat, k ≤ p.s.l.length ∧ s21 = .int .i64 k ∧ Aside (SM p t w gs (L ++ upto5 (soldAt p L) k ++ (z5 ++ z5)) wr)) (fun _ i _ => p.s.l.length - (intOf i).toNat)
  case atStart => exact ⟨0, by omega, rfl, HM.out⟩
  case round =>
    obtain ⟨k, hk, rfl, M⟩ := hrel
    by_cases hlt : k < p.s.l.length
    · have hltz : (k : Int) < (p.s.l.length : Int) := by omega
      have hk0 : (0 : Int) ≤ (k : Int) := by omega
      have hk5 : (k : Int) < 5 := by omega
      have hke : (k : Int) < (p.e.l.length : Int) := by have := HOK.out.e; omega
      have hkk : (k : Int) < (p.k.l.length : Int) := by have := HOK.out.k; omega
      obtain ⟨be, oe, ee, hbe, ce⟩ := HP.out.e.cell1 (getD_some (l := p.e.l) (i := k) (by omega))
      obtain ⟨bk, ok, ek, hbk, ck⟩ := HP.out.k.cell1 (getD_some (l := p.k.l) (i := k) (by omega))
      have d1 : wr.cell? ⟨w.heap.size, 3, none⟩ = some (.slice (some ⟨be, oe, none⟩) p.e.l.length p.e.c) := by rw [← ee]; exact M.out.c.at_ 3
      have d2 : wr.cell? ⟨w.heap.size, 4, none⟩ = some (.slice (some ⟨bk, ok, none⟩) p.k.l.length p.k.c) := by rw [← ek]; exact M.out.c.at_ 4
      have d3 : wr.cell? ⟨be, oe + k, none⟩ = some (.int .i64 (p.e.l.getD k 0)) := by rw [M.out.b.cell (p := ⟨be, oe + k, none⟩) hbe, ce]
      have d4 : wr.cell? ⟨bk, ok + k, none⟩ = some (.int .i64 (p.k.l.getD k 0)) := by rw [M.out.b.cell (p := ⟨bk, ok + k, none⟩) hbk, ck]
      have d5 : wr.cell? ⟨gs, k, none⟩ = some (.int .i64 (L.getD k 0)) := by
        rw [M.out.s.at_]
        refine vals_at ?_
        rw [List.append_assoc, List.getElem?_append_left (by rw [HLL.out]; omega)]
        exact getD_some (by rw [HLL.out]; omega)
      have f5 := M.out.s.free (5 + k)
      have hgs := M.out.s.in_
      obtain ⟨u0, d6⟩ : ∃ u0, wr.cell? ⟨gs, 5 + k, none⟩ = some u0 := by
        rw [M.out.s.at_]
        exact ⟨_, vals_at (getD_some (by simp only [List.length_append, HLL.out, upto5_length]; simp; omega))⟩
      have hlb : 0 ≤ L.getD k 0 ∧ L.getD k 0 ≤ 25000000 := by
        have := liftAt_bd HG.out hlt p.s.l.length (Nat.le_refl _)
        have e : L.getD k 0 = liftAt pl gr k p.s.l.length := by
          rw [← HLG.out]
          have := part_at (f := p.s.l.length) (t := 0) pl gr hlt hn
          rw [if_neg (by omega)] at this
          simp [liftL, List.getD, this]
        rw [e]; omega
      have hkb := HOK.out.kb _ (List.mem_of_getElem? (getD_some (l := p.k.l) (i := k) (by omega)))
      have hwr : IntKind.i64.wrap (L.getD k 0 - p.k.l.getD k 0) = L.getD k 0 - p.k.l.getD k 0 := IntWalk.i64_in _ (by omega)
      have hsold : soldAt p L k = min (p.e.l.getD k 0) (max 0 (L.getD k 0 - p.k.l.getD k 0)) := rfl
      have HSO := Lib.hid hsold
      have n1 : be ≠ gs := by have := M.out.g; omega
      have n2 : bk ≠ gs := by have := M.out.g; omega
      have n3 : w.heap.size ≠ gs := by have := M.out.g; omega
      clear hsold ce ck ee ek
      generalize L.getD k 0 = lk at *
      generalize p.e.l.getD k 0 = ek at *
      generalize p.k.l.getD k 0 = kk at *
      have KEEP := fun (v : Value) (o1 o2 : Obj) => And.intro (kept2 (p := ⟨gs, 5 + k, none⟩) (v := v) (o1 := o1) (o2 := o2) d1 (fun e => n3 (Addr.mk.inj e).1.symm)) (And.intro (kept2 (p := ⟨gs, 5 + k, none⟩) (v := v) (o1 := o1) (o2 := o2) d2 (fun e => n3 (Addr.mk.inj e).1.symm)) (And.intro (kept2 (p := ⟨gs, 5 + k, none⟩) (v := v) (o1 := o1) (o2 := o2) d3 (fun e => n1 (Addr.mk.inj e).1.symm))
        (And.intro (kept2 (p := ⟨gs, 5 + k, none⟩) (v := v) (o1 := o1) (o2 := o2) d4 (fun e => n2 (Addr.mk.inj e).1.symm)) (kept2 (p := ⟨gs, 5 + k, none⟩) (v := v) (o1 := o1) (o2 := o2) d5 (fun e => by have := (Addr.mk.inj e).2.1; omega)))))
      have KEEP := Lib.hid KEEP
      go_wp2
      go_region_held3 (fun W => W.cell? ⟨w.heap.size, 3, none⟩ = some (.slice (some ⟨be, oe, none⟩) p.e.l.length p.e.c) ∧ W.cell? ⟨w.heap.size, 4, none⟩ = some (.slice (some ⟨bk, ok, none⟩) p.k.l.length p.k.c) ∧ W.cell? ⟨be, oe + k, none⟩ = some (.int .i64 ek) ∧
          W.cell? ⟨bk, ok + k, none⟩ = some (.int .i64 kk) ∧ W.cell? ⟨gs, k, none⟩ = some (.int .i64 lk)) (first | go_keep | exact KEEP.out _ _ _)
        (first
          | (go_at_call 124; refine (greatest_any _ (lk - kk) _ _ ?_).mono ?_; exact (Lies.fresh' (by simp)).one; rintro e w' ⟨rfl, rfl⟩)
          | (go_at_call 123; refine (least_any _ (max 0 (lk - kk)) _ _ ?_).mono ?_; exact (Lies.fresh' (by simp)).one; rintro e w' ⟨rfl, rfl⟩))
      all_goals go_wp2
      all_goals go_roundw
      case rel =>
        refine ⟨k + 1, by omega, by go_num, ?_⟩
        have N := (((M.out.set (5 + k) (soldAt p L k)).alloc (.cells #[.int .i64 (lk - kk)] 3)).alloc (.cells #[.int .i64 (max 0 (lk - kk))] 3)).drew
        rw [set_second HLL.out _ _ (by omega), HSO.out] at N
        exact N
      case measure => simp [intOf]; omega
    · obtain rfl : k = p.s.l.length := by omega
      have HLF := Lib.hid HLG.out
      clear HM HLG HL0 HL1 HL2 HL20 HC
      have hfive : Five L := by rw [← HLF.out]; exact liftL_five hn HG.out
      have hsm := year_small HOK.out hfive
      have hM2 := M.out
      clear M
      generalize hl20 : L ++ upto5 (soldAt p L) p.s.l.length ++ (z5 ++ z5) = l20 at hsm hM2
      have HE20 := Lib.hid hl20
      have H20 := Lib.hid hsm.len
      have HSM := Lib.hid hsm
      have HF := Lib.hid hfive
      have M := Lib.hid hM2
      clear hl20 hsm hM2 hfive
      obtain ⟨bt, ot, et, hbt, ct⟩ := HT.out.l.cell1 HLO.out
      have hyz : (year : Int) < (t.l.l.length : Int) := by have := (List.getElem?_eq_some_iff.1 HLO.out).1; omega
      have hy0 : (0 : Int) ≤ (year : Int) := by omega
      have d1 : wr.cell? ⟨w.heap.size, 10, none⟩ = some (.slice (some ⟨bt, ot, none⟩) t.l.l.length t.l.c) := by rw [← et]; exact M.out.c.at_ 10
      have d2 : wr.cell? ⟨bt, ot + year, none⟩ = some (.int .i64 loss) := by rw [M.out.b.cell (p := ⟨bt, ot + year, none⟩) hbt, ct]
      have c1 := cell_regrown d1
      have c2 := cell_regrown d2
      have hrange : ∀ W, (∃ q : Regrown, W = Go.Sort.grow (redrawn wr q.d) q.os) → W.rangeAt gs 0 (l20.map (Value.int .i64)) := by
        rintro W ⟨q, rfl⟩
        exact Lies.range (cs := l20.map (Value.int .i64)) (M.out.s.call (below_regrown wr q.d q.os)) (fun j v hj => by simpa using hj)
      have HR := Lib.hid hrange
      clear hrange d1 d2 ct et
      go_wp2
      refine wp_region_tail 9 (by kernel_rfl) (by kernel_rfl) (by kernel_rfl) (by kernel_rfl) (by kernel_rfl) (by kernel_rfl) (by simp) ?_
      simp only [List.take_succ_cons, List.take_zero, List.drop_succ_cons, List.drop_zero]
      refine wpQuiet_load_ints (o := ⟨some 49, _, _, _, _, _⟩) ?_ 123 (.tmp 7) ?_ gs 0 ?_ l20 _ HR.out Try.underlying123 rfl (by rw [H20.out]; exact size123) ?_
      rfl; rfl; rfl
      simp only [Act.put, List.setIfInBounds_toArray, List.set_cons_zero, List.set_cons_succ]
      repeat (first | go_big_quiet_step ((go_at_call 125; refine Calls.regrown_of (loses_any _ loss _ HSM.out h0 h1))) | quiet_step ((go_at_call 125; refine Calls.regrown_of (loses_any _ loss _ HSM.out h0 h1))))
      refine wpQuiet_nil ?_
      intro wq hwq
      have hbq : Below _ _ wq := (by obtain ⟨q, rfl⟩ := hwq; exact below_regrown _ _ _)
      clear hwq c1 c2 HR
      have HMQ := Lib.hid (M.out.call hbq)
      clear hbq
      generalize hXg : lossL l20 loss = X at *
      have hX : X.length = 5 := by rw [← hXg]; exact upto5_length _ _
      have HXG := Lib.hid hXg
      have HX := Lib.hid hX
      clear hXg hX
      have hfit : 10 + X.length ≤ l20.length ∧ (Try.prog.info? 120).map (·.size) = some X.length := by rw [H20.out, HX.out]; exact ⟨by decide, size120⟩
      have HFIT := Lib.hid hfit
      clear hfit
      go_upto_region 8 with (refine wpList_store_ints (o := ⟨none, .store 120 (.tmp 57) _, _, _, _, _⟩) ?_ 120 (.tmp 57) (.tmp 56) ?_ gs 10 ?_ 123 l20 X ?_ HMQ.out.s HFIT.out.1 HFIT.out.2 ?_; rfl; rfl; rfl; rfl; intro w5 HS5 HO5; (try simp only [Act.put]))
      have hSl : (upto5 (soldAt p L) p.s.l.length).length = 5 := upto5_length _ _
      have hM5 : SM p t w gs (L ++ upto5 (soldAt p L) p.s.l.length ++ X ++ upto5 (plantAt p L (upto5 (soldAt p L) p.s.l.length) X) 0) w5 := by
        refine HMQ.out.store HO5.out ?_
        have := HS5.out
        rw [← HE20.out, splice_third HLL.out hSl HX.out] at this
        rw [upto5_zero]; exact this
      generalize hSg : upto5 (soldAt p L) p.s.l.length = S at *
      have h15 : (L ++ S ++ X).length = 15 := by simp only [List.length_append, HLL.out, hSl, HX.out]
      have HSG := Lib.hid hSg
      have HSL := Lib.hid hSl
      have H15 := Lib.hid h15
      have HM5 := Lib.hid hM5
      clear hSg hSl hM5 h15 HMQ HO5 HS5 M HFIT
      obtain ⟨br, obr, er, hbr, _⟩ := HP.out.r.cell1 (getD_some (l := p.r.l) (i := 0) (by rw [HOK.out.r]; exact HOK.out.one))
      have c0 : w5.cell? ⟨w.heap.size, 1, none⟩ = some (.slice (some ⟨br, obr, none⟩) p.r.l.length p.r.c) := by rw [← er]; exact HM5.out.c.at_ 1
      go_wp2
      clear c0
      have HER := Lib.hid er
      clear er
      go_loopw [9, 10, 11, 62] (fun _ _ _ s62 wr => ∃ k : Nat, k ≤ p.s.l.length ∧ s62 = .int .i64 k ∧ Aside (SM p t w gs (L ++ S ++ X ++ upto5 (plantAt p L S X) k) wr)) (fun _ _ _ i _ => p.s.l.length - (intOf i).toNat)
      case atStart => exact ⟨0, by omega, rfl, HM5.out⟩
      case round =>
        obtain ⟨k, hk, rfl, N⟩ := hrel
        have hrl := HOK.out.r
        by_cases hlt : k < p.s.l.length
        · have hltz : (k : Int) < (p.r.l.length : Int) := by omega
          have hk0 : (0 : Int) ≤ (k : Int) := by omega
          have hk5 : (k : Int) < 5 := by omega
          obtain ⟨br', obr', er', _, cr⟩ := HP.out.r.cell1 (getD_some (l := p.r.l) (i := k) (by omega))
          rw [HER.out] at er'
          cases er'
          have d1 : wr.cell? ⟨br, obr + k, none⟩ = some (.int .i64 (p.r.l.getD k 0)) := by rw [N.out.b.cell (p := ⟨br, obr + k, none⟩) hbr, cr]
          have d2 : wr.cell? ⟨gs, k, none⟩ = some (.int .i64 (L.getD k 0)) := by
            rw [N.out.s.at_]; refine vals_at ?_
            rw [List.append_assoc, List.append_assoc, List.getElem?_append_left (by rw [HLL.out]; omega)]
            exact getD_some (by rw [HLL.out]; omega)
          have d3 : wr.cell? ⟨gs, 5 + k, none⟩ = some (.int .i64 (S.getD k 0)) := by
            rw [N.out.s.at_]; refine vals_at ?_
            rw [List.append_assoc, List.append_assoc, List.getElem?_append_right (by rw [HLL.out]; omega), HLL.out, show 5 + k - 5 = k by omega, List.getElem?_append_left (by rw [HSL.out]; omega)]
            exact getD_some (by rw [HSL.out]; omega)
          have d4 : wr.cell? ⟨gs, 10 + k, none⟩ = some (.int .i64 (X.getD k 0)) := by
            rw [N.out.s.at_]; refine vals_at ?_
            rw [List.append_assoc, List.getElem?_append_right (by simp only [List.length_append, HLL.out, HSL.out]; omega), show 10 + k - (L ++ S).length = k by simp only [List.length_append, HLL.out, HSL.out]; omega, List.getElem?_append_left (by rw [HX.out]; omega)]
            exact getD_some (by rw [HX.out]; omega)
          have f5 := N.out.s.free (15 + k)
          have hgs := N.out.s.in_
          obtain ⟨u0, d6⟩ : ∃ u0, wr.cell? ⟨gs, 15 + k, none⟩ = some u0 := by
            rw [N.out.s.at_]
            exact ⟨_, vals_at (getD_some (by rw [List.length_append, H15.out, upto5_length]; omega))⟩
          have hlb := HF.out.b k (by omega)
          have hsb : S.getD k 0 = soldAt p L k := by rw [← HSG.out, upto5_getD _ _ _ (by omega), if_pos hlt]
          have hsb2 := sold_bd HOK.out HF.out hlt
          rw [← hsb] at hsb2
          have hxb : X.getD k 0 = (L.getD k 0 - S.getD k 0) * loss / 1000 := by
            rw [← HXG.out, ← HE20.out]
            unfold lossL
            rw [upto5_getD _ _ _ (by omega), if_pos (by omega)]
            unfold lossAt
            have g1 : (L ++ S ++ (z5 ++ z5)).getD k 0 = L.getD k 0 := by
              simp only [List.getD, List.append_assoc]; rw [List.getElem?_append_left (by rw [HLL.out]; omega)]
            have g2 : (L ++ S ++ (z5 ++ z5)).getD (5 + k) 0 = S.getD k 0 := by
              simp only [List.getD, List.append_assoc]; rw [List.getElem?_append_right (by rw [HLL.out]; omega), HLL.out, show 5 + k - 5 = k by omega, List.getElem?_append_left (by rw [HSL.out]; omega)]
            rw [g1, g2]
          have hmm := mul_bd hlb.1 (show L.getD k 0 ≤ 30000000 by omega) hsb2.1 hsb2.2 h0 h1
          have hxx : 0 ≤ X.getD k 0 ∧ X.getD k 0 ≤ 30000000 := by rw [hxb]; omega
          have hpa : plantAt p L S X k = min (L.getD k 0 - S.getD k 0 - X.getD k 0) (p.r.l.getD k 0) := rfl
          have HPA := Lib.hid hpa
          clear hpa hxb hmm hsb cr hrl
          generalize L.getD k 0 = lk at *
          generalize S.getD k 0 = sk at *
          generalize X.getD k 0 = xk at *
          generalize p.r.l.getD k 0 = rk at *
          go_wp2
          go_quiet (fail)
          have N2 := Lib.hid (N.out.drewN nq)
          have f6 : (wr.drewN nq).frozen? ⟨gs, 15 + k, none⟩ = false := f5
          have d7 : (wr.drewN nq).cell? ⟨gs, 15 + k, none⟩ = some u0 := d6
          have hg2 : gs < (wr.drewN nq).heap.size := hgs
          clear N f5 d6 hgs d1 d2 d3 d4
          generalize wr.drewN nq = wd at N2 f6 d7 hg2 ⊢
          go_wp2_with (first | (go_at_call 123; refine (least_any _ rk _ _ ?_).mono ?_; exact (Lies.fresh' (by simp)).one; rintro e w' ⟨rfl, rfl⟩))
          go_roundw
          case rel =>
            refine ⟨k + 1, by omega, by go_num, ?_⟩
            have N3 := (N2.out.set (15 + k) (plantAt p L S X k)).alloc (.cells #[.int .i64 rk] 3)
            rw [set_fourth H15.out _ _ (by omega), HPA.out] at N3
            exact N3
          case measure => simp [intOf]; omega
        · obtain rfl : k = p.s.l.length := by omega
          have hfin : L ++ S ++ X ++ upto5 (plantAt p L S X) p.s.l.length = liftL p.s.l.length pl gr ++ soldL p (liftL p.s.l.length pl gr) ++ lossL (liftL p.s.l.length pl gr ++ soldL p (liftL p.s.l.length pl gr) ++ z5 ++ z5) loss ++ plantL p (liftL p.s.l.length pl gr) (soldL p (liftL p.s.l.length pl gr)) (lossL (liftL p.s.l.length pl gr ++ soldL p (liftL p.s.l.length pl gr) ++ z5 ++ z5) loss) := by
            rw [HLF.out]
            unfold soldL plantL
            rw [HSG.out]
            have e : L ++ S ++ z5 ++ z5 = l20 := by rw [← HE20.out]; simp
            rw [e, HXG.out]
          have hlen : (L ++ S ++ X ++ upto5 (plantAt p L S X) p.s.l.length).length = 20 := by rw [List.length_append, H15.out, upto5_length]
          have HFIN := Lib.hid hfin
          have hM6 := N.out
          generalize L ++ S ++ X ++ upto5 (plantAt p L S X) p.s.l.length = fin at hlen hM6 HFIN
          have HM6 := Lib.hid hM6
          have hfit : 0 + fin.length ≤ (z5 ++ z5 ++ z5 ++ z5).length ∧ (Try.prog.info? 123).map (·.size) = some fin.length := by rw [hlen]; exact ⟨by decide, size123⟩
          have HFIT := Lib.hid hfit
          have HLEN := Lib.hid hlen
          clear hM6 hlen hfit hfin N
          have hltz : ¬ (p.s.l.length : Int) < (p.r.l.length : Int) := by omega
          go_wp2_with (first
            | (refine wpList_load_ints (o := ⟨some 89, _, _, _, _, _⟩) ?_ 123 (.tmp 7) ?_ gs 0 ?_ 123 fin fin _ HM6.out.s (fun j v h => by simpa using h) Try.underlying123 rfl HFIT.out.2 ?_; rfl; rfl; rfl)
            | (refine wpList_store_ints (o := ⟨none, .store 123 (.tmp 6) _, _, _, _, _⟩) ?_ 123 (.tmp 6) (.tmp 89) ?_ (w.heap.size + 1 + 1) 0 ?_ 123 (z5 ++ z5 ++ z5 ++ z5) fin ?_ HM6.out.z HFIT.out.1 HFIT.out.2 ?_; rfl; rfl; rfl; rfl; intro w7 HS7 HO7))
          exact bodyPost_ret (results_ints rfl _ _ (w.heap.size + 1 + 1) 123 fin _ rfl (by have := HS7.out; rwa [splice_all (by rw [HLEN.out]; rfl)] at this) Try.underlying123 rfl HFIT.out.2) rfl ⟨by rw [HFIN.out]; rfl, HO7.out.below HM6.out.b (by omega)⟩
end Go.Proofs.Ytlkdmcdnkoiflaa

/- The law's small functions: to, list, spans, In, span, bounded, ranged. -/
namespace Go.Proofs.Ytlkdmcdnkoiflaa
open Go.RowKit Go.Lib

/-- What a call hands back that makes a list. -/
def RetS {α : Type} (k : Nat) (enc : α → List Value) (l : List α) (w : World) (e : Ending) (w' : World) : Prop :=
  ∃ A c, e = .returned (.slice A l.length c) ∧ Sl w' w'.heap.size k enc A l ∧ Below w.heap.size w w' ∧ (A = none → l.length = 0 ∧ c = 0)
theorem size39 : (Try.prog.info? 39).map (·.size) = some 2 := by kernel_rfl
theorem infoR39 : (Try.prog.info? 39).map (fun i => (i.zero, i.size, i.bytes)) = some (some (.agg #[.int .i64 0, .int .i64 0]), 2, 16) := by kernel_rfl
theorem encR_one (x : Int × Int) : ∀ u ∈ encR x, u.oneCell' = true := by intro u hu; simp [encR] at hu; rcases hu with rfl | rfl <;> rfl
theorem to_any (lo hi : Int) (w : World) : Calls Try.prog 59 #[.agg #[.int .i64 lo, .int .i64 hi]] w fun e w' => e = .returned (.agg #[.int .i64 lo, .int .i64 hi]) ∧ Below w.heap.size w w' := by
  go_enter Try.func59, Try.ntmps59
  go_wp2
  exact bodyPost_ret (results_cell_row rfl _ _ (w.heap.size + 1) 39 #[.int .i64 lo, .int .i64 hi] (0, 0) _ rfl (Lies.fresh' (by simp)) Try.underlying39 rfl size39) rfl ⟨rfl, (by repeat (first | (with_reducible assumption) | (with_reducible exact Below.refl _ _) | (with_reducible refine Below.drew ?_) | (with_reducible refine below_drewN ?_ _) | ((with_reducible refine Below.setCell ?_ ?_ _); rotate_left; focus (first | (simp; done) | (simp; omega) | omega)) | ((with_reducible refine Below.alloc ?_ ?_ _); rotate_left; focus (first | (simp; done) | (simp; omega) | omega))))⟩
section
set_option maxHeartbeats 1000000
theorem lawList_own (A : Option Addr) (c : Nat) (l : List Int) (w : World) (hA : Sl w w.heap.size 1 encI A l) (hl : l.length ≤ 1000000) (hn : A = none → l.length = 0 ∧ c = 0) :
    Calls Try.prog 40 #[.slice A l.length c] w fun e w' => ∃ A' c', e = .returned (.slice A' l.length c') ∧ w'.ownsRow w.heap.size 3 1 (.slice A' l.length c') l.length (l.flatMap encI) ∧ Below w.heap.size w w' := by
  obtain ⟨i0, hi, hz0, hz1, hz2⟩ := info_parts info_int
  have hnews := hA.news (enc := encI) (fun _ => rfl)
  rw [flat_ints] at hnews
  have HN := Lib.hid hnews
  have HNN := Lib.hid hn
  have Hz0 := Lib.hid hz0
  have Hz1 := Lib.hid hz1
  have Hz2 := Lib.hid hz2
  have HI := Lib.hid hi
  clear hnews hA hz0 hz1 hz2 hi hn
  go_enter Try.func40, Try.ntmps40
  go_wp2_with (at_builtin; refine wpList_append_sl ?_ (.const (.slice none 0 0)) (.tmp 3) 23 ?_ w.heap.size 3 i0 (.int .i64 0) 1 8 Try.underlying23 HI.out Hz0.out Hz1.out Hz2.out rfl (by decide) (.slice none 0 0) 0 [] ?_ (by simpa using World.ownsRow_nil _ _ _ _) A l.length c (l.map (Value.int .i64)) ?_ (by simp) HNN.out HN.out (ints_one l) (by unfold maxLen; omega) (by omega) (Nat.le_refl _) ?_; rfl; rfl; rfl; rfl; intro v' w1 hown1 hgrow1 hx; clear hx)
  obtain ⟨A', c', e1, e2, e3⟩ := Sl.of_own (enc := encI) (l := l) (fun _ => rfl) (by simpa using hown1) (by rw [flat_ints])
  subst e1
  go_ret
  exact ⟨A', c', rfl, by rw [flat_ints]; simpa using hown1, (Below.refl _ _).grown hgrow1 (Nat.le_refl _) (by simp [Value.ownBlock])⟩
set_option maxRecDepth 100000 in
theorem spans_own (A : Option Addr) (c : Nat) (l : List (Int × Int)) (w : World) (hA : Sl w w.heap.size 2 encR A l) (hl : l.length ≤ 1000000) :
    Calls Try.prog 58 #[.slice A l.length c] w fun e w' => ∃ A' c', e = .returned (.slice A' l.length c') ∧ w'.ownsRow w.heap.size 39 2 (.slice A' l.length c') l.length (l.flatMap encR) ∧ Below w.heap.size w w' := by
  obtain ⟨i0, hi, hp⟩ := Option.map_eq_some_iff.1 infoR39
  have hz0 : i0.zero = some (.agg #[.int .i64 0, .int .i64 0]) := congrArg (·.1) hp
  have hz1 : i0.size = 2 := congrArg (·.2.1) hp
  have hz2 : i0.bytes = 16 := congrArg (·.2.2) hp
  have HL := Lib.hid hA
  have Hz0 := Lib.hid hz0
  have Hz1 := Lib.hid hz1
  have Hz2 := Lib.hid hz2
  have HI := Lib.hid hi
  clear hp hA hz0 hz1 hz2 hi
  go_enter Try.func58, Try.ntmps58
  go_wp2
  go_loopw [3, 4] (fun v i wr => ∃ k : Nat, k ≤ l.length ∧ i = .int .i64 k ∧ wr.ownsRow w.heap.size 39 2 v k ((l.take k).flatMap encR) ∧ Aside (Below w.heap.size w wr)) (fun _ i _ => l.length - (intOf i).toNat)
  case atStart => exact ⟨0, Nat.zero_le _, rfl, by simpa using World.ownsRow_nil _ _ _ _, Below.refl _ _⟩
  case round =>
    obtain ⟨k, hk, rfl, hown, hnx⟩ := hrel
    by_cases hlt : k < l.length
    · have hltz : (k : Int) < (l.length : Int) := by omega
      have hk0 : (0 : Int) ≤ (k : Int) := by omega
      obtain ⟨x, hx⟩ : ∃ x, l[k]? = some x := ⟨l[k], by simp [hlt]⟩
      obtain ⟨b, off, rfl, hb, c0, c1⟩ := HL.out.cellR hx
      have l2 : wr.cell? ⟨b, off + k * 2, none⟩ = some (.int .i64 x.1) := by rw [hnx.out.cell (p := ⟨b, off + k * 2, none⟩) hb]; exact c0
      have l3 : wr.cell? ⟨b, off + k * 2 + 1, none⟩ = some (.int .i64 x.2) := by rw [hnx.out.cell (p := ⟨b, off + k * 2 + 1, none⟩) hb]; exact c1
      have HX := Lib.hid hx
      clear c0 c1 hx
      go_wp2_with (first
        | (go_at_call 59; refine (to_any _ _ _).mono ?_; rintro e w1 ⟨rfl, hb1⟩)
        | (at_builtin; refine wpList_append_own _ rfl (.tmp 11) (.tmp 17) 37 rfl w.heap.size 39 i0 _ 2 16 Try.underlying37 HI.out Hz0.out Hz1.out Hz2.out rfl (by decide) _ _ _ rfl ((ownsRow_call hown hb1).alloc _) ⟨w1.heap.size, 0, none⟩ 1 1 (encR x) rfl rfl (news_alloc w1 (encR x) _) (encR_one x) (by unfold maxLen; omega) (by omega) (by have := hnx.out.size; have := hb1.size; simp at this ⊢; omega) ?_; intro v4 w4 hown4 hg4 hnil4; clear hnil4))
      go_roundw
      case rel =>
        have hs1 := hnx.out.size
        have hs2 := hb1.size
        refine ⟨k + 1, by omega, by go_num, ?_, ((hnx.out.trans (hb1.mono hs1)).alloc (by omega) _).grown hg4 (by simp; omega) (fun j hj => (hown.lt j hj).1)⟩
        rw [List.take_add_one, HX.out]
        simpa using hown4
      case measure => simp [intOf]; omega
    · obtain rfl : k = l.length := by omega
      rw [List.take_length] at hown
      obtain ⟨A', c', e1, e2, e3⟩ := Sl.of_own (enc := encR) (l := l) (fun _ => rfl) hown rfl
      subst e1
      have HO := Lib.hid hown
      clear hown
      go_wp2
      go_ret
      exact ⟨A', c', rfl, HO.out, hnx.out⟩
end
theorem In_any (n lo hi : Int) (w : World) : Calls Try.prog 37 #[.int .i64 n, .int .i64 lo, .int .i64 hi] w fun e w' => e = .returned (.bool (inB n lo hi)) ∧ w = w' := by
  go_enter Try.func37, Try.ntmps37
  go_wp2
  all_goals (go_ret; exact ⟨ret_bool (by simp [inB]; try omega), rfl⟩)
theorem span_any (lo hi m : Int) (w : World) : Calls Try.prog 64 #[.agg #[.int .i64 lo, .int .i64 hi], .int .i64 m] w fun e w' => e = .returned (.bool (spanB (lo, hi) m)) ∧ Below w.heap.size w w' := by
  have hI := fun W => In_any lo 0 hi W
  have hs : spanB (lo, hi) m = (inB lo 0 hi && decide (hi ≤ m)) := rfl
  have HS := Lib.hid hs
  clear hs
  generalize spanB (lo, hi) m = sb at *
  cases hb : inB lo 0 hi <;> simp only [hb] at hI HS
  all_goals
    have HI := Lib.hid hI
    clear hb hI
    go_enter Try.func64, Try.ntmps64
    go_wp2_with (go_at_call 37; refine (HI.out _).mono ?_; rintro e w' ⟨rfl, rfl⟩)
    all_goals (go_ret; exact ⟨ret_bool (by rw [HS.out]; simp), (by repeat (first | (with_reducible assumption) | (with_reducible exact Below.refl _ _) | (with_reducible refine Below.drew ?_) | (with_reducible refine below_drewN ?_ _) | ((with_reducible refine Below.setCell ?_ ?_ _); rotate_left; focus (first | (simp; done) | (simp; omega) | omega)) | ((with_reducible refine Below.alloc ?_ ?_ _); rotate_left; focus (first | (simp; done) | (simp; omega) | omega))))⟩)
theorem bounded_any (A1 A2 A3 A4 : Option Addr) (n c1 c2 c3 c4 : Nat) (w : World) (_hn : n ≤ 5) : Calls Try.prog 53 #[.agg #[.slice A1 n c1, .slice A2 n c2, .slice A3 n c3, .slice A4 n c4], .int .i64 n] w fun e w' => e = .returned (.bool true) ∧ Below w.heap.size w w' := by
  go_enter Try.func53, Try.ntmps53
  go_wp2
  go_ret
  exact ⟨rfl, (by repeat (first | (with_reducible assumption) | (with_reducible exact Below.refl _ _) | (with_reducible refine Below.drew ?_) | (with_reducible refine below_drewN ?_ _) | ((with_reducible refine Below.setCell ?_ ?_ _); rotate_left; focus (first | (simp; done) | (simp; omega) | omega)) | ((with_reducible refine Below.alloc ?_ ?_ _); rotate_left; focus (first | (simp; done) | (simp; omega) | omega))))⟩
set_option maxRecDepth 100000 in
theorem ranged_any (A : Option Addr) (cp : Nat) (a b c d : Int) (w : World) (hA : Sl w w.heap.size 2 encR A [(a, b), (c, d)]) : Calls Try.prog 50 #[.slice A 2 cp, .int .i64 a, .int .i64 b, .int .i64 c, .int .i64 d] w fun e w' => e = .returned (.bool true) ∧ w = w' := by
  obtain ⟨bb, off, rfl, hb, c0, c1⟩ := hA.cellR (i := 0) (x := (a, b)) rfl
  obtain ⟨bb', off', e2, _, c2, c3⟩ := hA.cellR (i := 1) (x := (c, d)) rfl
  cases e2
  have d0 : w.cell? ⟨bb, off, none⟩ = some (.int .i64 a) := by simpa using c0
  have d1 : w.cell? ⟨bb, off + 1, none⟩ = some (.int .i64 b) := by simpa using c1
  have d2 : w.cell? ⟨bb, off + 2, none⟩ = some (.int .i64 c) := by simpa using c2
  have d3 : w.cell? ⟨bb, off + 2 + 1, none⟩ = some (.int .i64 d) := by simpa using c3
  clear c0 c1 c2 c3 hA
  go_enter Try.func50, Try.ntmps50
  go_wp2
  go_ret
  exact ⟨rfl, rfl⟩
end Go.Proofs.Ytlkdmcdnkoiflaa

/- Thin; the plan's slices as they lie, of whatever lengths. -/
namespace Go.Proofs.Ytlkdmcdnkoiflaa
open Go.RowKit Go.Lib

/-- A plan as it lies, of whatever lengths. -/
structure PlM.Lay (p : PlM) (w : World) (B : Nat) : Prop where
  s : Sl w B 2 encR p.s.A p.s.l
  r : Sl w B 1 encI p.r.A p.r.l
  g : Sl w B 1 encV p.g.A p.g.l
  rows : ∀ x, x ∈ p.g.l → Sl w B 2 encR x.A x.l
  e : Sl w B 1 encI p.e.A p.e.l
  k : Sl w B 1 encI p.k.A p.k.l
  nr : p.r.A = none → p.r.l.length = 0 ∧ p.r.c = 0
  ne : p.e.A = none → p.e.l.length = 0 ∧ p.e.c = 0
  nk : p.k.A = none → p.k.l.length = 0 ∧ p.k.c = 0
theorem PlM.Lay.below {p : PlM} {w w' : World} {B B' : Nat} (h : p.Lay w B) (hb : Below B w w') (hB : B ≤ B') : p.Lay w' B' :=
  ⟨(h.s.below hb).more hB, (h.r.below hb).more hB, (h.g.below hb).more hB, fun x hx => ((h.rows x hx).below hb).more hB, (h.e.below hb).more hB, (h.k.below hb).more hB, h.nr, h.ne, h.nk⟩
def thinB (p : PlM) : Bool := (p.g.l.take 9).all (fun x => decide (x.l.length ≤ 8)) && (decide (p.s.l.length ≤ 8) && decide (p.r.l.length ≤ 8) && decide (p.g.l.length ≤ 8) && decide (p.e.l.length ≤ 8) && decide (p.k.l.length ≤ 8))
theorem PlM.Lay.at {p : PlM} {w : World} {B : Nat} (h : p.Lay w B) (ht : thinB p = true) : p.At w B := by
  simp only [thinB, Bool.and_eq_true, decide_eq_true_eq] at ht
  obtain ⟨h1, ⟨⟨⟨h2, h3⟩, h4⟩, h5⟩, h6⟩ := ht
  rw [List.take_of_length_le (by omega)] at h1
  exact ⟨h.s, h.r, h.g, h.rows, h.e, h.k, by omega, by omega, by omega, fun x hx => by have := List.all_eq_true.1 h1 x hx; simp at this; omega, by omega, by omega⟩
theorem thin_row {p : PlM} {k : Nat} {x : Sv (Int × Int)} (hx : p.g.l[k]? = some x) (hk : k < 9) (h8 : 8 < x.l.length) : thinB p = false := by
  have : (p.g.l.take 9).all (fun x => decide (x.l.length ≤ 8)) = false := by
    rw [List.all_eq_false]
    exact ⟨x, List.mem_of_getElem? (i := k) (by rw [List.getElem?_take, if_pos hk]; exact hx), by simp; omega⟩
  simp [thinB, this]
theorem thin_all {p : PlM} {k : Nat} (h : ∀ j x, j < k → p.g.l[j]? = some x → x.l.length ≤ 8) (hk : k = 9 ∨ k = p.g.l.length) : thinB p = (decide (p.s.l.length ≤ 8) && decide (p.r.l.length ≤ 8) && decide (p.g.l.length ≤ 8) && decide (p.e.l.length ≤ 8) && decide (p.k.l.length ≤ 8)) := by
  have : (p.g.l.take 9).all (fun x => decide (x.l.length ≤ 8)) = true := by
    rw [List.all_eq_true]
    intro x hx
    obtain ⟨j, hj⟩ := List.getElem?_of_mem hx
    rw [List.getElem?_take] at hj
    split at hj
    · have hl := (List.getElem?_eq_some_iff.1 hj).1
      simpa using h j x (by omega) hj
    · cases hj
  simp [thinB, this]
set_option maxHeartbeats 1000000 in
set_option maxRecDepth 100000 in
theorem Thin_any (p : PlM) (w : World) (hp : p.Lay w w.heap.size) : Calls Try.prog 17 #[.agg p.cells.toArray] w fun e w' => e = .returned (.bool (thinB p)) ∧ Below w.heap.size w w' := by
  have l0 : Lies (w.alloc (.cells p.cells.toArray 28)) w.heap.size 28 p.cells.toArray := Lies.fresh _ _ _
  have b0 : Below w.heap.size w (w.alloc (.cells p.cells.toArray 28)) := (Below.refl _ _).alloc (Nat.le_refl _) _
  have HP := Lib.hid hp
  have L0 := Lib.hid l0
  have B0 := Lib.hid b0
  clear hp l0 b0
  unfold PlM.cells
  go_enter Try.func17, Try.ntmps17
  go_wp2
  go_loopw [3] (fun i wr => ∃ k : Nat, k ≤ 9 ∧ k ≤ p.g.l.length ∧ i = .int .i64 k ∧ Aside (∀ j x, j < k → p.g.l[j]? = some x → x.l.length ≤ 8) ∧ Aside (Lies wr w.heap.size 28 p.cells.toArray) ∧ Aside (Below w.heap.size w wr)) (fun i _ => 9 - (intOf i).toNat)
  case atStart => exact ⟨0, by omega, by omega, rfl, fun j x h => absurd h (by omega), L0.out, B0.out⟩
  case round =>
    obtain ⟨k, hk9, hkl, rfl, hall, M, B1⟩ := hrel
    have d0 : wr.cell? ⟨w.heap.size, 0, none⟩ = some (.slice p.s.A p.s.l.length p.s.c) := M.out.at_ 0
    have d1 : wr.cell? ⟨w.heap.size, 1, none⟩ = some (.slice p.r.A p.r.l.length p.r.c) := M.out.at_ 1
    have d2 : wr.cell? ⟨w.heap.size, 2, none⟩ = some (.slice p.g.A p.g.l.length p.g.c) := M.out.at_ 2
    have d3 : wr.cell? ⟨w.heap.size, 3, none⟩ = some (.slice p.e.A p.e.l.length p.e.c) := M.out.at_ 3
    have d4 : wr.cell? ⟨w.heap.size, 4, none⟩ = some (.slice p.k.A p.k.l.length p.k.c) := M.out.at_ 4
    by_cases hin : k < 9 ∧ k < p.g.l.length
    · obtain ⟨h9, hlt⟩ := hin
      have hk0 : (0 : Int) ≤ (k : Int) := by omega
      have h9z : (k : Int) < 9 := by omega
      have hltz : (k : Int) < (p.g.l.length : Int) := by omega
      obtain ⟨x, hx⟩ : ∃ x, p.g.l[k]? = some x := ⟨p.g.l[k], by simp [hlt]⟩
      obtain ⟨b, off, eg, hb, c0⟩ := HP.out.g.cell1 hx
      rw [eg] at d2
      have l2 : wr.cell? ⟨b, off + k, none⟩ = some (.slice x.A x.l.length x.c) := by rw [B1.out.cell (p := ⟨b, off + k, none⟩) hb]; exact c0
      have HX := Lib.hid hx
      clear c0 hx eg
      by_cases h8 : x.l.length ≤ 8
      · have h8z : (x.l.length : Int) ≤ 8 := by omega
        go_wp2
        go_roundw
        case rel =>
          refine ⟨k + 1, by omega, by omega, by go_num, fun j y hj hy => ?_, M.out, B1.out⟩
          by_cases e : j = k
          · subst e; rw [HX.out] at hy; cases hy; exact h8
          · exact hall.out j y (by omega) hy
        case measure => simp [intOf]; omega
      · have h8z : (8 : Int) < (x.l.length : Int) := by omega
        have hF := thin_row HX.out h9 (by omega)
        have HF := Lib.hid hF
        clear hF
        go_wp2
        go_ret
        exact ⟨ret_bool HF.out.symm, B1.out⟩
    · have hF := thin_all hall.out (show k = 9 ∨ k = p.g.l.length by omega)
      have HF := Lib.hid hF
      clear hF
      have hor : k = 9 ∨ (k < 9 ∧ k = p.g.l.length) := by omega
      rcases hor with hk | ⟨hk, hk'⟩
      · have hk1 : ¬ (k : Int) < 9 := by omega
        have hk0 : (9 : Int) ≤ (k : Int) := by omega
        clear hk hin
        go_wp2
        all_goals (go_ret; exact ⟨ret_bool (by rw [HF.out, Bool.eq_iff_iff]; simp only [Bool.and_eq_true, decide_eq_true_eq, Bool.false_eq_true, false_iff]; omega), B1.out⟩)
      · have hk1 : ¬ (k : Int) < (p.g.l.length : Int) := by omega
        have hk0 : (k : Int) < 9 := by omega
        clear hk' hin
        go_wp2
        all_goals (go_ret; exact ⟨ret_bool (by rw [HF.out, Bool.eq_iff_iff]; simp only [Bool.and_eq_true, decide_eq_true_eq, Bool.false_eq_true, false_iff]; omega), B1.out⟩)
end Go.Proofs.Ytlkdmcdnkoiflaa

/- A range over a function whose iterator keeps numbers of its own in cells: the law for the caller. -/
namespace Go.Proofs.Ytlkdmcdnkoiflaa
open Go.RowKit Go.Lib

/-- New blocks, and at most one block from B on that has turned: one that is no cells, or cells of type T. -/
def Turns (T : TypeId) (B : Nat) (A A' : World) : Prop := ∃ row, A.grownBy A' row ∧ ∀ r, row = some r → B ≤ r ∧ ((∃ o : Obj, A.heap[r]? = some o ∧ o.isCells = false) ∨ ∃ cs, A.heap[r]? = some (.cells cs T (0, 0)))
theorem Turns.alloc (T : TypeId) (B : Nat) (A : World) (o : Obj) : Turns T B A (A.alloc o) := ⟨none, World.grownBy_alloc A o none, fun r e => by cases e⟩
theorem Turns.put {T : TypeId} {B l : Nat} {A : World} {o : Obj} (o' : Obj) (hB : B ≤ l) (hl : A.heap[l]? = some o) (ho : o.isCells = false) : Turns T B A (A.putObj l o') :=
  ⟨some l, grownBy_putObj' A l o', fun r e => by cases e; exact ⟨hB, .inl ⟨o, hl, ho⟩⟩⟩
theorem Turns.more {T : TypeId} {B B' : Nat} {A A' : World} (h : Turns T B A A') (hB : B' ≤ B) : Turns T B' A A' := by
  obtain ⟨row, hg, hr⟩ := h
  exact ⟨row, hg, fun r e => ⟨Nat.le_trans hB (hr r e).1, (hr r e).2⟩⟩
/-- Steps of the iterator's own: new blocks, and cells of type T from B on. -/
def Steps' (T : TypeId) (B : Nat) (A A' : World) : Prop := ∃ row, A.grownBy A' row ∧ ∀ r, row = some r → B ≤ r ∧ ∃ cs, A.heap[r]? = some (.cells cs T (0, 0))
theorem Steps'.turns {T : TypeId} {B : Nat} {A A' : World} (h : Steps' T B A A') : Turns T B A A' := by
  obtain ⟨row, hg, hr⟩ := h
  exact ⟨row, hg, fun r e => ⟨(hr r e).1, .inr (hr r e).2⟩⟩
theorem Steps'.other {T : TypeId} {B k : Nat} {A A' : World} {o : Obj} (h : Steps' T B A A') (hk : A.heap[k]? = some o) (ho : o.isCells = false) : A'.heap[k]? = some o := by
  obtain ⟨row, hg, hr⟩ := h
  have hlt := (Array.getElem?_eq_some_iff.1 hk).1
  rw [hg.block k hlt (fun e => by
    obtain ⟨_, cs, hc⟩ := hr k e.symm
    rw [hk] at hc; cases hc; cases ho)]
  exact hk
/-- What a round that goes on keeps. s: the block, if any, of a list that the body makes. -/
structure Keeps (B : Nat) (s s' : Option Nat) (A A' : World) : Prop where
  below : Below B A A'
  keep : ∀ k cs t, (t = 117 ∨ t = 120 ∨ t = 123) → A.heap[k]? = some (.cells cs t (0, 0)) → s ≠ some k → A'.heap[k]? = A.heap[k]?
  own : ∀ g, s' = some g → s = some g ∨ A.heap.size ≤ g
/-- The iterator gives just the elements of xs, in their order. -/
def Gives {α : Type} (n : Nat) (P : Program) (g : Nat) (lb : Array Value) (encs : α → Array Value) (xs : List α) (T : TypeId) (B : Nat) (w : World) (St : World → Prop) : Prop :=
  ∀ (l : Nat) (J : Option Nat → Nat → World → Prop) (Jx : Nat → World → Prop) (W : World), Below w.heap.size w W → (∀ s k A, J s k A → St A) →
    (∀ s k A A', J s k A → Steps' T W.heap.size A A' → J s k A') → (∀ s k A b, J s k A → s = some b → b < A.heap.size) →
    (∀ s k x A, xs[k]? = some x → J s k A → YieldAt Fence.wide (n - 1) P l (encs x) A fun e A' =>
      (e = .returned (.bool true) ∧ ∃ s', J s' (k + 1) A' ∧ Keeps B s s' A A') ∨ (e = .returned (.bool false) ∧ Jx (k + 1) A')) →
    J none 0 W →
    CallsIn Fence.wide n P g (#[.func (.yield l) #[] #[]] ++ lb) W fun e A => (∃ v, e = .returned v) ∧ ((∃ s, J s xs.length A) ∨ ∃ k, k ≤ xs.length ∧ Jx k A)
/-- How the body of a round may be left. -/
def bodyPostY (B : Nat) (D : Nat) (I : Option Nat → Nat → World → Prop) (Ix : Code → Nat → World → Prop) (s : Option Nat) (k : Nat) (W : World) : Exit → Act → World → Prop
  | .normal, _, W' => KeepsFrom D W W' ∧ ∃ s', Keeps B s s' W W' ∧ I s' k W'
  | .ret, _, W' => KeepsFrom D W W' ∧ Ix .ret k W'
  | .exit id, _, W' => KeepsFrom D W W' ∧ Ix (.exit id) k W'
  | .goto t, _, W' => KeepsFrom D W W' ∧ Ix (.goto t) k W'
  | .panic _, _, _ => False
  | .outgrown, _, _ => False
theorem Keeps.trans {B : Nat} {s s' s'' : Option Nat} {A A' A'' : World} (h : Keeps B s s' A A') (h' : Keeps B s' s'' A' A'') : Keeps B s s'' A A'' := by
  refine ⟨h.below.trans h'.below, fun k cs t ht hk hs => ?_, fun g hg => ?_⟩
  · have e1 := h.keep k cs t ht hk hs
    have hlt := (Array.getElem?_eq_some_iff.1 hk).1
    have e2 := h'.keep k cs t ht (e1.trans hk) (fun e => by
      rcases h.own k e with h1 | h1
      · exact hs h1
      · omega)
    exact e2.trans e1
  · rcases h'.own g hg with h1 | h1
    · exact h.own g h1
    · exact .inr (Nat.le_trans h.below.size h1)
theorem Keeps.put {B l : Nat} {s : Option Nat} {A : World} {o : Obj} (o' : Obj) (hB : B ≤ l) (hl : A.heap[l]? = some o) (ho : o.isCells = false) : Keeps B s s A (A.putObj l o') := by
  refine ⟨(Below.refl B A).grown (grownBy_putObj' A l o') (by have := (Array.getElem?_eq_some_iff.1 hl).1; omega) (fun k e => by cases e; omega), fun k cs t _ hk _ => ?_, fun g hg => .inl hg⟩
  refine World.putObj_heap_other (fun e => ?_)
  subst e
  rw [hl] at hk; cases hk; cases ho
section
variable {P : Program}
/-- One round of loop number l, from the record 'ready' on: what the body leaves, the iterator meets. -/
theorem round_gives {B D l m : Nat} {fn : FuncId} {tmps : Array Value} {assign body : Code} {ps : Array Tmp} {I : Option Nat → Nat → World → Prop} {Ix : Code → Nat → World → Prop} {T : TypeId} {s : Option Nat} {k : Nat} {W : World}
    (rec : LoopState → Option Code → Loop) (hrec : rec = fun st pe => { state := st, pending := pe, fn, tmps, params := ps, assign, body, defers := D }) (hDl : D < l) (hBD : B ≤ D)
    (hI : ∀ s k A A', I s k A → Turns T D A A' → I s k A') (hIx : ∀ c k A A', Ix c k A → Turns T D A A' → Ix c k A')
    (hl : W.heap[l]? = some (.loop (rec .ready none))) (hd : W.heap[D]? = some (.deferred (some []))) {a' : Act}
    (hbody : body.wpIn (Fence.wide.inRound l) m P (bodyPostY B D I Ix s k (W.putObj l (.loop { rec .ready none with state := .busy }))) a' (W.putObj l (.loop { rec .ready none with state := .busy }))) :
    ∃ W1, (Instr.beginRound l).run P W = .ok () W1 ∧ body.wpIn (Fence.wide.inRound l) m P (fun e _ W3 => ∃ (jump : Option Code) (W4 : World), (match e with | .normal => jump = none | .ret => jump = some .ret | .exit id => jump = some (.exit id) | .goto t => jump = some (.goto t) | _ => False) ∧
      (Instr.endRound l jump).run P W3 = .ok (.bool jump.isNone) W4 ∧ W4.heap[D]? = some (.deferred (some [])) ∧
      (match jump with
        | none => (∃ s', I s' k W4 ∧ Keeps B s s' W W4) ∧ W4.heap[l]? = some (.loop (rec .ready none))
        | some c => Ix c k W4 ∧ W4.heap[l]? = some (.loop (rec .done (some c))))) a' W1 := by
  have hlt := (Array.getElem?_eq_some_iff.1 hl).1
  refine ⟨_, run_beginRound hl (by rw [hrec]), wpIn_mono hbody ?_⟩
  have hl2 : (W.putObj l (.loop { rec .ready none with state := .busy })).heap[l]? = some (.loop { rec .ready none with state := .busy }) := World.putObj_heap_same hlt
  have hd2 : (W.putObj l (.loop { rec .ready none with state := .busy })).heap[D]? = some (.deferred (some [])) := (World.putObj_heap_other (by omega)).trans hd
  have hk2 : Keeps B s s W (W.putObj l (.loop { rec .ready none with state := .busy })) := Keeps.put _ (by omega) hl rfl
  -- how the round's record is closed, whatever the jump
  have close : ∀ (jump : Option Code) (W3 : World), KeepsFrom D (W.putObj l (.loop { rec .ready none with state := .busy })) W3 →
      W3.heap[l]? = some (.loop { rec .ready none with state := .busy }) ∧ ∃ W4, W4 = W3.putObj l (.loop (rec (if jump.isNone then .ready else .done) jump)) ∧ (Instr.endRound l jump).run P W3 = .ok (.bool jump.isNone) W4 ∧ W4.heap[D]? = some (.deferred (some [])) ∧ W4.heap[l]? = some (.loop (rec (if jump.isNone then .ready else .done) jump)) := by
    intro jump W3 hk
    have h3 := hk.same _ _ (by omega) hl2 rfl
    refine ⟨h3, _, rfl, ?_, (World.putObj_heap_other (by omega)).trans (hk.same _ _ (Nat.le_refl _) hd2 rfl), World.putObj_heap_same (Array.getElem?_eq_some_iff.1 h3).1⟩
    have := run_endRound (P := P) jump h3
    rw [hrec] at this ⊢
    exact this
  intro e _ W3 hp
  match e, hp with
  | .normal, ⟨hk, s', hks, hi⟩ =>
    obtain ⟨h3, W4, rfl, hr, h4, h5⟩ := close none W3 hk
    exact ⟨none, _, rfl, hr, h4, ⟨s', hI _ _ _ _ hi (Turns.put _ (by omega) h3 rfl), hk2.trans (hks.trans (Keeps.put _ (by omega) h3 rfl))⟩, h5⟩
  | .ret, ⟨hk, hi⟩ =>
    obtain ⟨h3, W4, rfl, hr, h4, h5⟩ := close (some .ret) W3 hk
    exact ⟨some .ret, _, rfl, hr, h4, hIx _ _ _ _ hi (Turns.put _ (by omega) h3 rfl), h5⟩
  | .exit id, ⟨hk, hi⟩ =>
    obtain ⟨h3, W4, rfl, hr, h4, h5⟩ := close (some (.exit id)) W3 hk
    exact ⟨some (.exit id), _, rfl, hr, h4, hIx _ _ _ _ hi (Turns.put _ (by omega) h3 rfl), h5⟩
  | .goto t, ⟨hk, hi⟩ =>
    obtain ⟨h3, W4, rfl, hr, h4, h5⟩ := close (some (.goto t)) W3 hk
    exact ⟨some (.goto t), _, rfl, hr, h4, hIx _ _ _ _ hi (Turns.put _ (by omega) h3 rfl), h5⟩
  | .panic _, hp => exact hp.elim
  | .outgrown, hp => exact hp.elim

theorem range_gives {α : Type} {g : Operand} {ps : Array Tmp} {assign body : Code} {Q : Exit → Act → World → Prop} {a : Act} {w : World} (n : Nat) {gf : Nat} {lb : Array Value} (hg : a.eval g = .func (.func gf) #[] lb) (eg : ∀ args w, (callFunc gf args).run P w = .ok (.enter gf args) w)
    {encs : α → Array Value} {xs : List α} {T : TypeId} {B : Nat} {w0 : World} {St : World → Prop} (hseq : Gives (n - 1) P gf lb encs xs T B w0 St) (hb0 : Below w0.heap.size w0 w) (hB : B ≤ w.heap.size) (hps : ∀ x, (encs x).size = ps.size)
    (I : Option Nat → Nat → World → Prop) (Ix : Code → Nat → World → Prop) (hI : ∀ s k A A', I s k A → Turns T w.heap.size A A' → I s k A') (hIx : ∀ c k A A', Ix c k A → Turns T w.heap.size A A' → Ix c k A') (hIlt : ∀ s k A b, I s k A → s = some b → b < A.heap.size) (h0 : I none 0 w) (hSt : ∀ s k A, I s k A → St A)
    (Ax : α → Act → World → Prop) (hAx : ∀ x a' A A', Ax x a' A → Turns T w.heap.size A A' → Ax x a' A')
    (hassign : ∀ (l : Nat) (s : Option Nat) (k : Nat) (x : α) (W : World) (K : Act → World → Prop), xs[k]? = some x → I s k W → (∀ a' W', KeepsFrom w.heap.size W W' → Keeps B s s W W' → I s k W' → Ax x a' W' → K a' W') →
      assign.wpIn (Fence.wide.inRound l) (n - 1 - 1) P (Exit.then K (fun _ _ _ => False)) { tmps := (ps.zip (encs x)).foldl (fun t (p, v) => t.setIfInBounds p v) a.tmps, defers := [] } W)
    (hbody : ∀ (l : Nat) (s : Option Nat) (k : Nat) (x : α) (a' : Act) (W : World), w.heap.size ≤ l → xs[k]? = some x → I s k W → Ax x a' W → body.wpIn (Fence.wide.inRound l) (n - 1 - 1) P (bodyPostY B w.heap.size I Ix s (k + 1) W) a' W)
    (hdone : ∀ (D : Nat) (s : Option Nat) (W : World), w.heap.size ≤ D → I s xs.length W → W.heap[D]? = some (.deferred (some [])) → Q .normal { a with defers := { target := .collected D, args := #[] } :: a.defers } W)
    (hstop : ∀ (D : Nat) (c : Code) (k : Nat) (W : World), w.heap.size ≤ D → k ≤ xs.length → Ix c k W → W.heap[D]? = some (.deferred (some [])) → c.wpIn Fence.wide n P Q { a with defers := { target := .collected D, args := #[] } :: a.defers } W) :
    (Code.rangeFunc g ps assign body).wp P Q a w := by
  refine (wpIn_wide (n := n)).1 (wpIn_rangeFunc fun fn hfn => ?_)
  have hro : Fence.wide.round = none := rfl
  rw [hro]
  obtain ⟨rec, hrec⟩ : ∃ rec : LoopState → Option Code → Loop, rec = fun st pe => { state := st, pending := pe, fn, tmps := a.tmps, params := ps, assign, body, defers := w.heap.size } := ⟨_, rfl⟩
  obtain ⟨W1, hW1⟩ : ∃ W1, (w.alloc (.deferred (some []))).alloc (.loop (rec .ready none)) = W1 := ⟨_, rfl⟩
  have hs1 : W1.heap.size = w.heap.size + 2 := by rw [← hW1]; simp
  have hl1 : W1.heap[w.heap.size + 1]? = some (.loop (rec .ready none)) := by
    rw [← hW1]
    have := heap_alloc_new (w.alloc (.deferred (some []))) (.loop (rec .ready none))
    rwa [World.size_alloc] at this
  have hd1 : W1.heap[w.heap.size]? = some (.deferred (some [])) := by
    rw [← hW1, heap_alloc_old _ _ (by simp)]; exact heap_alloc_new _ _
  have hi1 : I none 0 W1 := by rw [← hW1]; exact hI _ _ _ _ (hI _ _ _ _ h0 (Turns.alloc _ _ _ _)) (Turns.alloc _ _ _ _)
  have hb1 : Below w0.heap.size w0 W1 := by
    rw [← hW1]; exact (hb0.alloc hb0.size _).alloc (by simp; have := hb0.size; omega) _
  refine ⟨w.heap.size + 1, [{ target := .collected w.heap.size, args := #[] }], W1, { target := .fn (.func gf) lb, args := #[.func (.yield (w.heap.size + 1)) #[] #[]] }, W1, gf, #[.func (.yield (w.heap.size + 1)) #[] #[]] ++ lb, W1, ?_, ?_, fun _ _ => trivial, ?_, (fun h => by cases h), ?_⟩
  · rw [← hW1, hrec]; exact run_enterLoop_outer _ _ _ _ _
  · simp only [resolve, hg]; simp [go_sem]
  · simp [invoke, go_sem, eg]
  refine (hseq (w.heap.size + 1) (fun s k A => I s k A ∧ A.heap[w.heap.size + 1]? = some (.loop (rec .ready none)) ∧ A.heap[w.heap.size]? = some (.deferred (some [])))
    (fun k A => ∃ c, Ix c k A ∧ A.heap[w.heap.size + 1]? = some (.loop (rec .done (some c))) ∧ A.heap[w.heap.size]? = some (.deferred (some []))) W1 hb1 (fun s k A hs => hSt s k A hs.1)
    (fun s k A A' hs ht => ⟨hI _ _ _ _ hs.1 (ht.turns.more (by omega)), ht.other hs.2.1 rfl, ht.other hs.2.2 rfl⟩) (fun s k A b hs hb => hIlt s k A b hs.1 hb) ?_ ⟨hi1, hl1, hd1⟩).mono ?_
  · rintro s k x A hx ⟨hi, hl, hd⟩
    have hy := run_yield (P := P) (args := encs x) hl (by rw [hrec]; exact hps x)
    rw [hrec] at hy
    refine ⟨fn, _, assign, body, hy, roundIn_of_wpIn hfn (hassign _ s k x A _ hx hi ?_)⟩
    intro a' A' hkf hks hi' hax
    have hl' := hkf.same _ _ (by omega) hl rfl
    have hd' := hkf.same _ _ (Nat.le_refl _) hd rfl
    have hbd := hbody (w.heap.size + 1) s k x a' (A'.putObj (w.heap.size + 1) (.loop { rec .ready none with state := .busy })) (by omega) hx (hI _ _ _ _ hi' (Turns.put _ (by omega) hl' rfl)) (hAx _ _ _ _ hax (Turns.put _ (by omega) hl' rfl))
    obtain ⟨W2, hbeg, hrun⟩ := round_gives (T := T) (l := w.heap.size + 1) rec hrec (by omega) hB hI hIx hl' hd' hbd
    refine ⟨W2, hbeg, wpIn_mono hrun ?_⟩
    rintro e a3 W3 ⟨jump, W4, hj, hend, hd4, hm⟩
    cases e with
    | normal =>
      subst hj
      obtain ⟨⟨s', hi4, hk4⟩, hl4⟩ := hm
      exact ⟨_, _, hend, .inl ⟨rfl, s', ⟨hi4, hl4, hd4⟩, hks.trans hk4⟩⟩
    | ret =>
      subst hj
      exact ⟨_, _, hend, .inr ⟨rfl, .ret, hm.1, hm.2, hd4⟩⟩
    | exit id =>
      subst hj
      exact ⟨_, _, hend, .inr ⟨rfl, .exit id, hm.1, hm.2, hd4⟩⟩
    | goto t =>
      subst hj
      exact ⟨_, _, hend, .inr ⟨rfl, .goto t, hm.1, hm.2, hd4⟩⟩
    | panic ch => exact hj.elim
    | outgrown => exact hj.elim
  · rintro e A ⟨⟨v, rfl⟩, (⟨s, hi, hl, hd⟩ | ⟨k, hk, c, hi, hl, hd⟩)⟩
    · refine ⟨none, _, by have := run_endLoop (P := P) hl (by rw [hrec]; simp); rw [hrec] at this; exact this, hdone _ s _ (Nat.le_refl _) (hI _ _ _ _ hi (Turns.put _ (by omega) hl rfl)) ((World.putObj_heap_other (by omega)).trans hd)⟩
    · refine ⟨some c, _, by have := run_endLoop (P := P) hl (by rw [hrec]; simp); rw [hrec] at this; exact this, hstop _ c k _ (Nat.le_refl _) hk (hIx _ _ _ _ hi (Turns.put _ (by omega) hl rfl)) ((World.putObj_heap_other (by omega)).trans hd)⟩
end
end Go.Proofs.Ytlkdmcdnkoiflaa

/- course.years: the iterator gives the years, each with what happens in it. -/
namespace Go.Proofs.Ytlkdmcdnkoiflaa
open Go.RowKit Go.Lib
attribute [local go_sem] Oper.semAt_some

/-- What is planted in year k. -/
def plK (p : PlM) (t : TrM) (pl : List Int) : Nat → List Int
  | 0 => pl
  | k + 1 => (yearL p ((t.g.l.getD k ⟨none, [], 0⟩).l.map (·.l)) (t.l.l.getD k 0) (plK p t pl k)).drop 15
def yrK (p : PlM) (t : TrM) (pl : List Int) (k : Nat) : List Int := yearL p ((t.g.l.getD k ⟨none, [], 0⟩).l.map (·.l)) (t.l.l.getD k 0) (plK p t pl k)
def yearsL (p : PlM) (t : TrM) (pl : List Int) : List (Nat × List Int) := (List.range t.g.l.length).map fun k => (k, yrK p t pl k)
def encY (x : Nat × List Int) : Array Value := #[.int .i64 x.1, .agg (vals x.2)]
structure Five2 (n : Nat) (pl : List Int) : Prop where
  len : pl.length = 5
  b : ∀ i, i < n → 0 ≤ pl.getD i 0 ∧ pl.getD i 0 ≤ 1000000
theorem yearL_length (p : PlM) (gr : List (List Int)) (loss : Int) (pl : List Int) : (yearL p gr loss pl).length = 20 := by
  unfold yearL soldL lossL plantL
  simp only [List.length_append, upto5_length, show (liftL p.s.l.length pl gr).length = 5 from part_length _ _ _ _ _]
theorem yearL_drop (p : PlM) (gr : List (List Int)) (loss : Int) (pl : List Int) : (yearL p gr loss pl).drop 15 = plantL p (liftL p.s.l.length pl gr) (soldL p (liftL p.s.l.length pl gr)) (lossL (liftL p.s.l.length pl gr ++ soldL p (liftL p.s.l.length pl gr) ++ z5 ++ z5) loss) := by
  unfold yearL
  refine List.drop_left' ?_
  simp only [List.length_append, show (liftL p.s.l.length pl gr).length = 5 from part_length _ _ _ _ _, show (soldL p (liftL p.s.l.length pl gr)).length = 5 from upto5_length _ _, show ∀ s l, (lossL s l).length = 5 from fun _ _ => upto5_length _ _]
/-- What is planted again is in its limits. -/
theorem plant_five {p : PlM} (h : p.Ok) {L : List Int} (hL : Five L) {loss : Int} (h0 : 0 ≤ loss) (h1 : loss ≤ 1000) : Five2 p.s.l.length (plantL p L (soldL p L) (lossL (L ++ soldL p L ++ z5 ++ z5) loss)) := by
  refine ⟨upto5_length _ _, fun i hi => ?_⟩
  have hi5 : i < 5 := by have := h.n; omega
  unfold plantL
  rw [upto5_getD _ _ _ hi5, if_pos hi]
  unfold plantAt leftAt
  have hs := sold_bd h hL hi
  have hb := hL.b i hi5
  have hr := h.rb _ (getD_mem (l := p.r.l) (i := i) (by rw [h.r]; exact hi))
  have e1 : (soldL p L).getD i 0 = soldAt p L i := by unfold soldL; rw [upto5_getD _ _ _ hi5, if_pos hi]
  have e2 : (lossL (L ++ soldL p L ++ z5 ++ z5) loss).getD i 0 = (L.getD i 0 - soldAt p L i) * loss / 1000 := by
    unfold lossL
    rw [upto5_getD _ _ _ hi5, if_pos hi5]
    unfold lossAt
    have g1 : (L ++ soldL p L ++ z5 ++ z5).getD i 0 = L.getD i 0 := by
      simp only [List.getD, List.append_assoc]; rw [List.getElem?_append_left (by rw [hL.len]; omega)]
    have g2 : (L ++ soldL p L ++ z5 ++ z5).getD (5 + i) 0 = soldAt p L i := by
      rw [← e1]
      simp only [List.getD, List.append_assoc]; rw [List.getElem?_append_right (by rw [hL.len]; omega), hL.len, show 5 + i - 5 = i by omega, List.getElem?_append_left (by unfold soldL; rw [upto5_length]; omega)]
    rw [g1, g2]
  rw [e1, e2]
  have hm := mul_bd hb.1 (show L.getD i 0 ≤ 30000000 by omega) hs.1 hs.2 h0 h1
  have hq : (L.getD i 0 - soldAt p L i) * loss ≤ (L.getD i 0 - soldAt p L i) * 1000 := Int.mul_le_mul_of_nonneg_left h1 (by omega)
  generalize (L.getD i 0 - soldAt p L i) * loss = q at *
  omega
theorem fit_row {p : PlM} {t : TrM} {years k : Nat} (h : t.Fit p.s.l.length years) (hk : k < years) : ∃ y loss, t.g.l[k]? = some y ∧ t.l.l[k]? = some loss ∧ t.g.l.getD k ⟨none, [], 0⟩ = y ∧ t.l.l.getD k 0 = loss ∧ 0 ≤ loss ∧ loss ≤ 1000 ∧ y.l.length = p.s.l.length ∧
    (∀ r, r ∈ y.l → r.l.length = p.s.l.length) ∧ ∀ i j, i < p.s.l.length → j < p.s.l.length → 0 ≤ ((y.l.map (·.l)).getD i []).getD j 0 ∧ ((y.l.map (·.l)).getD i []).getD j 0 ≤ 5000 := by
  have hg : k < t.g.l.length := by rw [h.g]; exact hk
  have hl : k < t.l.l.length := by rw [h.l]; exact hk
  refine ⟨t.g.l[k], t.l.l[k], by simp [hg], by simp [hl], by simp [hg], by simp [hl], ?_⟩
  have hy : t.g.l[k] ∈ t.g.l := List.getElem_mem hg
  have hlb := h.lb _ (List.getElem_mem hl)
  refine ⟨hlb.1, hlb.2, h.gy _ hy, h.gr _ hy, fun i j hi hj => ?_⟩
  have hi' : i < t.g.l[k].l.length := by rw [h.gy _ hy]; exact hi
  have hr : t.g.l[k].l[i] ∈ t.g.l[k].l := List.getElem_mem hi'
  have hj' : j < t.g.l[k].l[i].l.length := by rw [h.gr _ hy _ hr]; exact hj
  have := h.gb _ hy _ hr _ (List.getElem_mem hj')
  simp [List.getD, hi', hj']
  exact this
theorem plK_five {p : PlM} {t : TrM} {years : Nat} (hok : p.Ok) (h : t.Fit p.s.l.length years) {pl : List Int} (hpl : Five2 p.s.l.length pl) : ∀ k, k ≤ years → Five2 p.s.l.length (plK p t pl k)
  | 0, _ => hpl
  | k + 1, hk => by
    have ih := plK_five hok h hpl k (by omega)
    obtain ⟨y, loss, _, _, e1, e2, h0, h1, _, _, hg⟩ := fit_row (p := p) h (show k < years by omega)
    show Five2 _ ((yearL _ _ _ _).drop 15)
    rw [yearL_drop, e1, e2]
    exact plant_five hok (liftL_five hok.n ⟨ih.b, hg⟩) h0 h1
end Go.Proofs.Ytlkdmcdnkoiflaa

/- course.years: the iterator. -/
namespace Go.Proofs.Ytlkdmcdnkoiflaa
open Go.RowKit Go.Lib
attribute [local go_sem] Oper.semAt_some

theorem Steps'.of_below {T : TypeId} {B : Nat} {A A' : World} (h : Below A.heap.size A A') : Steps' T B A A' :=
  ⟨none, ⟨h.os, h.tape, h.output, h.size, fun k hk _ => h.block k hk⟩, fun r e => by cases e⟩
theorem Steps'.of_only {T : TypeId} {B g : Nat} {A A' : World} {cs : Array Value} (h : Only g A A') (hB : B ≤ g) (hg : Lies A g T cs) : Steps' T B A A' :=
  ⟨some g, ⟨h.os, h.tape, h.output, by rw [h.size]; exact Nat.le_refl _, fun k _ hk => h.block k (fun e => hk (by rw [e]))⟩, fun r e => by cases e; exact ⟨hB, cs, hg⟩⟩
theorem Steps'.alloc {T : TypeId} {B : Nat} (A : World) (o : Obj) : Steps' T B A (A.alloc o) := .of_below ((Below.refl _ _).alloc (Nat.le_refl _) _)
theorem size117 : (Try.prog.info? 117).map (·.size) = some 11 := by kernel_rfl
/-- The load of a whole array of integers, inside a fence. -/
theorem wpListIn_load_ints {F : Fence} {n : Nat} {P : Program} {w : World} {ops : Array Oper} {rest : List Oper} {o : Oper} {a : Act} {Q : Exit → Act → World → Prop} (hgd : o.guard = none) (ty : TypeId) (x : Operand) (ho : o.op = .load ty x) (g off : Nat) (hx : a.eval x = .pointer (some ⟨g, off, none⟩)) (t : TypeId) (l vs : List Int) (d : TypeDesc)
    (hl : Lies w g t (vals l)) (hv : ∀ j v, vs[j]? = some v → l[off + j]? = some v) (hu : P.underlying ty = some d) (hd : d.isRow = true) (hi : (P.info? ty).map (·.size) = some vs.length)
    (h : wpListIn F n P ops Q rest (a.put o.dst (.agg (vals vs))) w) : wpListIn F n P ops Q (o :: rest) a w := by
  have hr : w.rangeAt g off (vs.map (Value.int .i64)) := hl.range (cs := l.map (Value.int .i64)) (fun j v hj => by
    rw [List.getElem?_map, Option.map_eq_some_iff] at hj
    obtain ⟨u, hu, rfl⟩ := hj
    rw [List.getElem?_map, hv j u hu]; rfl)
  refine wpListIn_plain hgd fun K hK => ?_
  unfold Oper.wpIn
  refine ⟨by simp [Oper.about, ho], ?_⟩
  rw [Oper.semAt_plain F _ _ (by rw [ho]; intro c hc; cases hc)]
  unfold execOp
  simp only [ho, hx, Instr.loadAt, Instr.sureAddr, Sem.run_bind, Sem.run_pure, Result.andThen_ok, run_loadVar_mid w g off ty (vs.map (Value.int .i64)) d hr hu hd (by simpa using hi)]
  exact hK _ _ h
/-- Between two rounds of years: s the body's list, k rounds are over. -/
structure IT (J : Option Nat → Nat → World → Prop) (p : PlM) (t : TrM) (pl : List Int) (gco B : Nat) (W : World) (s : Option Nat) (k : Nat) (A : World) : Prop where
  j : J s k A
  d : Lies A W.heap.size 120 (vals (plK p t pl k))
  c : Lies A gco 117 (p.cells ++ t.cells).toArray
  b : Below B W A
  z : W.heap.size < A.heap.size
  o : ∀ g, s = some g → W.heap.size < g ∧ g < A.heap.size
theorem IT.steps {J : Option Nat → Nat → World → Prop} {p : PlM} {t : TrM} {pl : List Int} {gco B : Nat} {W : World} {s : Option Nat} {k : Nat} {A A' : World} (h : IT J p t pl gco B W s k A) (hJ : ∀ s k A A', J s k A → Steps' 120 W.heap.size A A' → J s k A') (hb : Below A.heap.size A A') (hB : B ≤ W.heap.size) :
    IT J p t pl gco B W s k A' :=
  ⟨hJ _ _ _ _ h.j (.of_below hb), h.d.call hb, h.c.call hb, h.b.trans (hb.mono (by have := h.b.size; omega)), Nat.lt_of_lt_of_le h.z hb.size, fun g hg => ⟨(h.o g hg).1, Nat.lt_of_lt_of_le (h.o g hg).2 hb.size⟩⟩
theorem yearsL_at {p : PlM} {t : TrM} {pl : List Int} {k : Nat} (hk : k < t.g.l.length) : (yearsL p t pl)[k]? = some (k, yrK p t pl k) := by simp [yearsL, hk]
theorem yearsL_length (p : PlM) (t : TrM) (pl : List Int) : (yearsL p t pl).length = t.g.l.length := by simp [yearsL]

set_option maxRecDepth 100000 in
set_option maxHeartbeats 4000000 in
theorem years1_gives (n : Nat) (hn : 1 ≤ n) (p : PlM) (t : TrM) (gst gco B : Nat) (pl : List Int) (w : World) (St : World → Prop) (hSt : ∀ A, St A → p.At A A.heap.size ∧ t.At A A.heap.size) (hB : B ≤ w.heap.size) (hok : p.Ok) (hfit : t.Fit p.s.l.length t.g.l.length) (hye : p.years = t.g.l.length) (hy6 : t.g.l.length ≤ 1000000)
    (hpl : Five2 p.s.l.length pl) (hst : Lies w gst 120 (vals pl)) (hco : Lies w gco 117 (p.cells ++ t.cells).toArray) :
    Gives n Try.prog 100 #[.pointer (some ⟨gst, 0, none⟩), .pointer (some ⟨gco, 0, none⟩)] encY (yearsL p t pl) 120 B w St := by
  intro l J Jx W hbW hJS hJ hJlt hY h0
  have HST := Lib.hid (hst.call hbW)
  have HCO := Lib.hid (hco.call hbW)
  have HPT := Lib.hid (fun s k A (h : J s k A) => hSt A (hJS s k A h))
  have HBW := Lib.hid (Nat.le_trans hB hbW.size)
  have HOK := Lib.hid hok
  have HFIT := Lib.hid hfit
  have HPL := Lib.hid hpl
  have HY := Lib.hid hY
  have HJ := Lib.hid hJ
  have HLT := Lib.hid hJlt
  have H0 := Lib.hid h0
  have c7 : W.cell? ⟨gco, 7, none⟩ = some (.int .i64 p.years) := HCO.out.at_ 7
  rw [hye] at c7
  have hsz : 0 + pl.length ≤ z5.length ∧ (Try.prog.info? 120).map (·.size) = some pl.length := by rw [hpl.len]; exact ⟨by decide, size120⟩
  have HSZ := Lib.hid hsz
  clear hJS hSt hok hfit hpl hY hJ hJlt h0 hst hco hbW hB hsz
  refine callsIn_of_wp Try.func100 rfl trivial ?_ rfl
  refine wpIn_wide.2 ?_
  simp only [Try.ntmps100, List.size_toArray, List.length_cons, List.length_nil, Nat.reduceAdd, Nat.reduceSub, Array.replicate_succ, Array.replicate_zero, List.push_toArray, List.append_toArray, List.nil_append, List.cons_append]
  go_upto_region 1 with (first
    | (refine wpList_load_ints (o := ⟨some 7, _, _, _, _, _⟩) ?_ 120 (.tmp 1) ?_ gst 0 ?_ 120 pl pl _ HST.out (fun j v h => by simpa using h) Try.underlying120 rfl HSZ.out.2 ?_; rfl; rfl; rfl)
    | (refine wpList_store_ints (o := ⟨none, .store 120 (.tmp 4) _, _, _, _, _⟩) ?_ 120 (.tmp 4) (.tmp 7) ?_ W.heap.size 0 ?_ 120 z5 pl ?_ (Lies.fresh W 120 (vals z5)) HSZ.out.1 HSZ.out.2 ?_; rfl; rfl; rfl; rfl; intro w2 HS2 HO2; (try simp only [Act.put])))
  have hg7 : gco < W.heap.size := HCO.out.in_
  have hI : IT J p t pl gco B W none 0 w2 := by
    have h1 := HJ.out _ _ _ _ H0.out (Steps'.alloc W (.cells (vals z5) 120))
    refine ⟨HJ.out _ _ _ _ h1 (.of_only HO2.out (Nat.le_refl _) (Lies.fresh W _ _)), ?_, HO2.out.lies (HCO.out.alloc _) (by omega), HO2.out.below ((Below.refl _ _).alloc HBW.out _) HBW.out, by rw [HO2.out.size]; simp, fun g hg => by cases hg⟩
    have := HS2.out
    rwa [splice_all (by rw [HPL.out.len]; rfl)] at this
  have HI := Lib.hid hI
  have c7' : w2.cell? ⟨gco, 7, none⟩ = some (.int .i64 p.years) := HI.out.c.at_ 7
  rw [hye] at c7'
  clear hI c7 HST HSZ HS2 HO2 H0
  go_wp2
  clear c7'
  go_loopw [5, 6, 11] (fun _ _ s11 wr => ∃ (k : Nat) (s : Option Nat), k ≤ t.g.l.length ∧ s11 = .int .i64 k ∧ Aside (IT J p t pl gco B W s k wr)) (fun _ _ i _ => t.g.l.length - (intOf i).toNat)
  case atStart => exact ⟨0, none, by omega, rfl, HI.out⟩
  case round =>
    obtain ⟨k, s, hk, rfl, N⟩ := hrel
    by_cases hlt : k < t.g.l.length
    · have hltz : (k : Int) < (t.g.l.length : Int) := by omega
      have hk0 : (0 : Int) ≤ (k : Int) := by omega
      obtain ⟨y, loss, ey, el, gy, gl, h0, h1, hyn, hyr, hgb⟩ := fit_row (p := p) HFIT.out hlt
      have hfv := plK_five HOK.out HFIT.out HPL.out k (by omega)
      have hsz : B ≤ wr.heap.size := by have := N.out.z; have := HBW.out; omega
      have hS := season_any p t k y loss (plK p t pl k) wr (HPT.out _ _ _ N.out.j).1 (HPT.out _ _ _ N.out.j).2 HOK.out ey el h0 h1 hyn hyr ⟨hfv.b, hgb⟩ hfv.len hy6 (by rw [HFIT.out.l]; exact hy6)
      have hyk : yearL p (y.l.map (·.l)) loss (plK p t pl k) = yrK p t pl k := by unfold yrK; rw [gy, gl]
      rw [hyk] at hS
      have h20 : (yrK p t pl k).length = 20 := yearL_length _ _ _ _
      have hdr : (yrK p t pl k).drop 15 = plK p t pl (k + 1) := rfl
      have hfit5 : 0 + (plK p t pl k).length ≤ z5.length ∧ (Try.prog.info? 120).map (·.size) = some (plK p t pl k).length := by rw [hfv.len]; exact ⟨by decide, size120⟩
      have hfit20 : 0 + (yrK p t pl k).length ≤ (z5 ++ z5 ++ z5 ++ z5).length ∧ (Try.prog.info? 123).map (·.size) = some (yrK p t pl k).length := by rw [h20]; exact ⟨by decide, size123⟩
      have HS := Lib.hid hS
      have H5 := Lib.hid hfit5
      have H20 := Lib.hid hfit20
      have HD := Lib.hid hdr
      have HL20 := Lib.hid h20
      clear hS hfit5 hfit20 hdr h20 hyk ey el gy gl hyn hyr hgb hfv
      go_upto_region 5 with (first
        | (refine wpList_load_row (o := ⟨some 14, _, _, _, _, _⟩) ?_ 117 (.tmp 2) ?_ gco ?_ 117 (p.cells ++ t.cells).toArray (0, 0) _ N.out.c Try.underlying117 rfl size117 ?_; rfl; rfl; rfl)
        | (refine wpList_load_ints (o := ⟨some 16, _, _, _, _, _⟩) ?_ 120 (.tmp 4) ?_ W.heap.size 0 ?_ 120 (plK p t pl k) (plK p t pl k) _ N.out.d (fun j v h => by simpa using h) Try.underlying120 rfl H5.out.2 ?_; rfl; rfl; rfl)
        | (go_at_call 101; refine HS.out.mono ?_; rintro e w3 ⟨rfl, hb3⟩)
        | (refine wpList_store_ints (o := ⟨none, .store 123 (.tmp 6) _, _, _, _, _⟩) ?_ 123 (.tmp 6) (.tmp 17) ?_ w3.heap.size 0 ?_ 123 (z5 ++ z5 ++ z5 ++ z5) (yrK p t pl k) ?_ (Lies.fresh w3 123 (vals (z5 ++ z5 ++ z5 ++ z5))) H20.out.1 H20.out.2 ?_; rfl; rfl; rfl; rfl; intro w4 HS4 HO4; (try simp only [Act.put])))
      have hb4 : Below wr.heap.size wr w4 := HO4.out.below (hb3.alloc hb3.size _) hb3.size
      have hN4 := N.out.steps HJ.out hb4 HBW.out
      have hL6 : Lies w4 w3.heap.size 123 (vals (yrK p t pl k)) := by
        have := HS4.out
        rwa [splice_all (by rw [HL20.out]; rfl)] at this
      have hne : s ≠ some w3.heap.size := fun e => by have := (N.out.o _ e).2; have := hb3.size; omega
      have N4 := Lib.hid hN4
      have L6 := Lib.hid hL6
      have hz4 : w3.heap.size < w4.heap.size := hL6.in_
      clear hN4 hL6 hb4 hb3 HS4 HO4 HS N
      obtain ⟨fn, tmps, assign, body, hy, hR⟩ := HY.out s k (k, yrK p t pl k) w4 (yearsL_at hlt) N4.out.j
      dsimp only [encY] at hy
      generalize w3.heap.size = g6 at hne L6 hz4 ⊢
      have hn1 : 1 ≤ n := hn
      refine (wpIn_wide (n := n)).1 ?_
      gi_wp2_with (refine wpListIn_load_ints (o := ⟨some 20, _, _, _, _, _⟩) ?_ 123 (.tmp 6) ?_ g6 0 ?_ 123 (yrK p t pl k) (yrK p t pl k) _ L6.out (fun j v h => by simpa using h) Try.underlying123 rfl H20.out.2 ?_; rfl; rfl; rfl)
      refine hR.mono ?_
      clear hR hy
      rintro e W5 (⟨rfl, s', hJ5, hK5⟩ | ⟨rfl, hx5⟩)
      · have d5 : Lies W5 W.heap.size 120 (vals (plK p t pl k)) := N4.out.d.to_ (hK5.keep _ _ _ (.inr (.inl rfl)) N4.out.d (fun e => by have := (N4.out.o _ e).1; omega))
        have c5 : Lies W5 gco 117 (p.cells ++ t.cells).toArray := N4.out.c.to_ (hK5.keep _ _ _ (.inl rfl) N4.out.c (fun e => by have := (N4.out.o _ e).1; omega))
        have l5 : Lies W5 g6 123 (vals (yrK p t pl k)) := L6.out.to_ (hK5.keep _ _ _ (.inr (.inr rfl)) L6.out hne)
        have hlen : (plK p t pl (k + 1)).length = 5 := (plK_five HOK.out HFIT.out HPL.out (k + 1) (by omega)).len
        have hlen0 : (plK p t pl k).length = 5 := (plK_five HOK.out HFIT.out HPL.out k (by omega)).len
        have hfit6 : 0 + (plK p t pl (k + 1)).length ≤ (plK p t pl k).length ∧ (Try.prog.info? 120).map (·.size) = some (plK p t pl (k + 1)).length := by rw [hlen, hlen0]; exact ⟨by decide, size120⟩
        have D5 := Lib.hid d5
        have C5 := Lib.hid c5
        have L5 := Lib.hid l5
        have J5 := Lib.hid hJ5
        have K5 := Lib.hid hK5
        have H6 := Lib.hid hfit6
        have HL1 := Lib.hid (hlen.trans hlen0.symm)
        clear d5 c5 l5 hJ5 hK5 hfit6 hlen hlen0
        gi_wp2_with (fail)
        go_wp2_with (first
          | (refine wpList_load_ints (o := ⟨some 24, _, _, _, _, _⟩) ?_ 120 (.tmp 23) ?_ g6 15 ?_ 123 (yrK p t pl k) (plK p t pl (k + 1)) _ L5.out (fun j v h => by rw [← HD.out, List.getElem?_drop] at h; exact h) Try.underlying120 rfl H6.out.2 ?_; rfl; rfl; rfl)
          | (refine wpList_store_ints (o := ⟨none, .store 120 (.tmp 4) _, _, _, _, _⟩) ?_ 120 (.tmp 4) (.tmp 24) ?_ W.heap.size 0 ?_ 120 (plK p t pl k) (plK p t pl (k + 1)) ?_ D5.out H6.out.1 H6.out.2 ?_; rfl; rfl; rfl; rfl; intro w6 HS6 HO6; (try simp only [Act.put])))
        go_roundw
        case rel =>
          refine ⟨k + 1, s', by omega, by go_num, ?_⟩
          have e6 := HS6.out
          rw [splice_all HL1.out] at e6
          have hsz5 := K5.out.below.size
          have hz := N4.out.z
          exact ⟨HJ.out _ _ _ _ J5.out (.of_only HO6.out (Nat.le_refl _) D5.out), e6, HO6.out.lies C5.out (by omega), HO6.out.below (N4.out.b.trans K5.out.below) HBW.out, by rw [HO6.out.size]; omega,
            fun g hg => ⟨by rcases K5.out.own g hg with h | h
                            · exact (N4.out.o g h).1
                            · omega, by rw [HO6.out.size]; exact HLT.out _ _ _ _ J5.out hg⟩⟩
        case measure => simp [intOf]; omega
      · gi_wp2_with (fail)
        go_wp2
        refine bodyPost_ret (results_none rfl _ _ _) rfl ?_
        exact ⟨⟨_, rfl⟩, .inr ⟨k + 1, by rw [yearsL_length]; omega, hx5⟩⟩
    · obtain rfl : k = t.g.l.length := by omega
      go_wp2
      go_end0
      exact ⟨⟨_, rfl⟩, .inl ⟨s, by rw [yearsL_length]; exact N.out.j⟩⟩
end Go.Proofs.Ytlkdmcdnkoiflaa

/- The law of T for a region in a round of a loop over a function. -/
namespace Go.Proofs.Ytlkdmcdnkoiflaa
open Go.RowKit Go.Lib

section
variable {P : Program} {ops : Array Oper} {md : Region.Mode} {C : World → Prop} {Q : Exit → Act → World → Prop} {n l : Nat}
theorem wpOpIn_of_qOp {i : Nat} {a : Act} {K : Act → Prop} {K' : Act → World → Prop} {w : World} (hC : C w) (h : ∀ a w', C w' → K a → K' a w') (hh : qOp P ops C i K a) : wpOpIn (Fence.wide.inRound l) n P ops Q i K' a w := by
  unfold qOp at hh
  unfold wpOpIn
  cases ho : ops[i]? with
  | none => simp only [ho] at hh; exact h _ _ hC hh
  | some o =>
    simp only [ho] at hh ⊢
    by_cases hw : Region.wanted o (yielded ops a.tmps) = true
    · rw [if_pos hw] at hh ⊢
      obtain ⟨v, h1, h2⟩ := hh
      have h3 := h1 w hC
      refine ⟨fun _ _ => trivial, ?_⟩
      have hd : ∀ c, o.op ≠ .defer c := by
        intro c hc
        unfold Oper.quietAt execOp at h3
        simp only [hc] at h3
        cases hS : Sem.run P (resolve a.eval c o.type) w <;> simp [hS, Oper.quietUpon, Result.andThen] at h3
      rw [show (Fence.wide.inRound l).round = some l from rfl, Oper.semAt_some l _ _ hd]
      unfold Oper.quietAt at h3
      generalize (execOp a.eval o).run P w = r at *
      cases r with
      | halt x w' => exact h3.elim
      | ok x w' =>
        cases x <;> first
          | (obtain ⟨e1, e2⟩ := h3; subst e1 e2; exact h _ _ hC h2)
          | (obtain ⟨e1, e2⟩ := h3
             subst e1
             refine ⟨(fun hd => by cases hd), CallsIn.inRound l (callsIn_wide.2 (e2.mono ?_))⟩
             rintro e w'' ⟨rfl, hw''⟩
             exact h _ _ hw'' h2)
          | exact h3.elim
    · rw [if_neg hw] at hh ⊢
      exact ⟨fun _ _ => trivial, h _ _ hC hh⟩
theorem wpAnyIn_of_trunc {k m : Nat} (hs : Region.sinkB md ops k = true) (hc : Region.chainB md ops k = true) (hh : headOk ops k = true) (hn : k < ops.size)
    (T : Act → World → Prop) (hT : ∀ L a w, HeadInv md ops k L → unl k L = 0 → T a w → wpAnyIn (Fence.wide.inRound l) n P md ops Q m L a w) :
    ∀ (f : Nat) (L : Array Bool) (a : Act) (w : World), HeadInv md ops k L → unl k L = f → C w → wpAnyQ P md (ops.extract 0 k) C (fun a' => ∀ w', C w' → T a' w') f (L.extract 0 k) a → wpAnyIn (Fence.wide.inRound l) n P md ops Q (f + m) L a w
  | 0, L, a, w, inv, hu, hw, h => by rw [Nat.zero_add]; exact hT L a w inv hu (h.2 w hw)
  | f + 1, L, a, w, inv, hu, hw, h => by
    rw [show f + 1 + m = (f + m) + 1 by omega]
    obtain ⟨j, hk, hku, hkl⟩ := unl_pos (n := k) (L := L) (by omega)
    refine ⟨fun h0 => ?_, fun i hi => ?_⟩
    · exfalso
      have hks : j < ops.size := by omega
      have hko : ops[j]? = some ops[j] := by simp [hks]
      have : j ∈ Region.ready md ops L := mem_ready.2 ⟨hku, _, hko, fun e he _ => by
        have h1 := (headOk_spec hh hko).1 e he
        have h2 := hkl _ h1
        have hsz : e.on < L.size := by rw [inv.size]; omega
        simp [hsz] at h2 ⊢
        exact h2⟩
      rw [h0] at this; cases this
    · have hin : i < k := by
        rcases Nat.lt_or_ge i k with h1 | h1
        · exact h1
        · exact absurd hi (tail_waits hs hc hn inv _ j rfl hk hku i h1)
      have ht : ∀ t, k ≤ t → L.getD t false = false := fun t ht => by
        rcases Nat.lt_or_ge t ops.size with h1 | h1
        · exact getD_both (inv.tail t ht h1)
        · have : L.size ≤ t := by rw [inv.size]; exact h1
          simp [Array.getElem?_eq_none this]
      have hq := qOp_trunc hin hh (h.2 i (ready_trunc hin ht hi))
      refine wpOpIn_of_qOp hw (fun a' w' hw' hK => ?_) hq
      have hiu := (mem_ready.1 hi).1
      have his : i < L.size := by rw [inv.size]; omega
      rw [set_ext0 hin his] at hK
      exact wpAnyIn_of_trunc hs hc hh hn T hT f _ a' w' (inv.set hi hin) (by have := unl_set hin his hiu; omega) hw' hK
theorem wpAnyIn_of_seq : ∀ (tl : List Oper) (k : Nat) (L : Array Bool) (a : Act) (w : World), (∀ j, tl[j]? = ops[k + j]?) → Region.seqB md ops tl.length k L = true → wpListIn (Fence.wide.inRound l) n P ops Q tl a w → wpAnyIn (Fence.wide.inRound l) n P md ops Q tl.length L a w
  | [], k, L, a, w, _, hB, h => ⟨by simpa [Region.seqB] using hB, h⟩
  | o :: tl, k, L, a, w, hl, hB, h => by
    have ho : ops[k]? = some o := by simpa using (hl 0).symm
    simp only [List.length_cons, Region.seqB, Bool.and_eq_true, decide_eq_true_eq] at hB
    refine ⟨(fun h0 => by rw [hB.1] at h0; cases h0), fun i hi => ?_⟩
    rw [hB.1, List.mem_singleton] at hi
    subst hi
    have ih := fun a w => wpAnyIn_of_seq tl (i + 1) (L.setIfInBounds i true) a w (fun j => by have := hl (j + 1); simpa [Nat.add_assoc, Nat.add_comm 1 j] using this) hB.2
    unfold wpOpIn
    rw [ho]
    simp only [wpListIn] at h
    show if Region.wanted o (yielded ops a.tmps) = true then _ else _
    split
    · rename_i hw; rw [if_pos hw] at h; exact Oper.wpIn_mono ih h
    · rename_i hw; rw [if_neg hw] at h; exact ⟨h.1, ih _ _ h.2⟩
theorem wpIn_region_tail {id : Nat} {lo : List Oper} {a : Act} {w : World} (k : Nat) (hm : P.follows .mixedOrders = true) (hs : Region.sinkB .any lo.toArray k = true) (hc : Region.chainB .any lo.toArray k = true) (hh : headOk lo.toArray k = true)
    (hB : Region.lexB .any (lo.take k).toArray = true) (hq : Region.seqB .any lo.toArray (lo.drop k).length k ((Array.replicate lo.length false).mapIdx fun i _ => decide (i < k)) = true) (hn : k < lo.length)
    (h : wpQuiet P (lo.take k).toArray (fun w' => ∃ p : Regrown, w' = Go.Sort.grow (redrawn w p.d) p.os) (fun a' => ∀ w', (∃ p : Regrown, w' = Go.Sort.grow (redrawn w p.d) p.os) → wpListIn (Fence.wide.inRound l) n P lo.toArray Q (lo.drop k) a' w') (lo.take k) a) :
    (Code.region id lo.toArray true).wpIn (Fence.wide.inRound l) n P Q a w := by
  have e : lo.toArray.extract 0 k = (lo.take k).toArray := by simp
  have hsz : (lo.take k).toArray.size = k := by simp; omega
  simp only [Region.lexB, Bool.and_eq_true] at hB
  refine wpIn_region_any hm ?_
  have h1 := wpAnyQ_lex (C := fun w' => ∃ p : Regrown, w' = Go.Sort.grow (redrawn w p.d) p.os) (md := .any) hB.1 (lo.take k) 0 (Array.replicate (lo.take k).toArray.size false) a (fun j => by simp) (by simpa using hB.2) h
  have e1 : Array.replicate (lo.take k).toArray.size false = (Array.replicate lo.toArray.size false).extract 0 k := by
    apply Array.ext_getElem?
    intro j
    by_cases hj : j < k
    · rw [ext0 _ hj, hsz, Array.getElem?_replicate, Array.getElem?_replicate, if_pos hj, if_pos (by simp; omega)]
    · rw [Array.getElem?_eq_none (by simp; omega), Array.getElem?_eq_none (by simp; omega)]
  rw [e1, show (lo.take k).length = k by simp; omega] at h1
  have hu : unl k (Array.replicate lo.toArray.size false) = k := by
    unfold unl
    rw [List.countP_eq_length.2 (fun i hi => by
      have h1 := List.mem_range.1 hi
      have h2 : i < lo.length := by omega
      simp [h2]), List.length_range]
  have inv : HeadInv .any lo.toArray k (Array.replicate lo.toArray.size false) := ⟨by simp, (fun j oj _ hl => by rw [getD_replicate_false] at hl; cases hl), fun t _ ht => by simp at ht; simp [ht]⟩
  have hC : ∃ p : Regrown, { w with drawn := w.drawn + 1 } = Go.Sort.grow (redrawn w p.d) p.os := ⟨⟨w.drawn + 1, #[]⟩, by rw [Go.Sort.grow_empty]; rfl⟩
  have := wpAnyIn_of_trunc (l := l) (n := n) (Q := Q) (C := fun w' => ∃ p : Regrown, w' = Go.Sort.grow (redrawn w p.d) p.os) (m := (lo.drop k).length) hs hc hh (by simpa using hn) (fun a' w' => wpListIn (Fence.wide.inRound l) n P lo.toArray Q (lo.drop k) a' w') (fun L a' w' inv' hu' hT => by
    have eL : L = (Array.replicate lo.length false).mapIdx fun i _ => decide (i < k) := by
      apply Array.ext (by simp [inv'.size])
      intro i h1 h2
      simp only [Array.getElem_mapIdx]
      by_cases hi : i < k
      · have := unl_zero hu' i hi; simp [h1] at this; simp [hi, this]
      · have := inv'.tail i (by omega) (by rw [← inv'.size]; exact h1); simp [h1] at this; simp [hi, this]
    subst eL
    exact wpAnyIn_of_seq (lo.drop k) k _ a' w' (fun j => by simp [List.getElem?_drop]) hq hT) k _ a _ inv hu hC (by rw [e]; exact h1)
  have hlen : k + (lo.drop k).length = lo.toArray.size := by simp; omega
  rw [hlen] at this
  exact this
end
end Go.Proofs.Ytlkdmcdnkoiflaa

/- years, start, sells. -/
namespace Go.Proofs.Ytlkdmcdnkoiflaa
open Go.RowKit Go.Lib
attribute [local go_sem] Oper.semAt_some

section
variable {P : Program}
theorem Turns.lies {T t : TypeId} {D g : Nat} {A A' : World} {cs : Array Value} (h : Turns T D A A') (hl : Lies A g t cs) (hg : g < D) : Lies A' g t cs := by
  obtain ⟨row, hgr, hr⟩ := h
  exact hl.to_ (hgr.block g hl.in_ (fun e => by have := (hr g e.symm).1; omega))
theorem Turns.lies' {T t : TypeId} {D g : Nat} {A A' : World} {cs : Array Value} (h : Turns T D A A') (hl : Lies A g t cs) (ht : t ≠ T) : Lies A' g t cs := by
  obtain ⟨row, hgr, hr⟩ := h
  refine hl.to_ (hgr.block g hl.in_ (fun e => ?_))
  rcases (hr g e.symm).2 with ⟨o, ho, hc⟩ | ⟨cs', hc⟩
  · rw [hl] at ho; cases ho; cases hc
  · rw [hl] at hc; cases hc; exact ht rfl
theorem Turns.below {T : TypeId} {B D : Nat} {w A A' : World} (h : Turns T D A A') (hb : Below B w A) (hB : B ≤ D) (hA : B ≤ A.heap.size) : Below B w A' := by
  obtain ⟨row, hgr, hr⟩ := h
  exact hb.grown hgr hA (fun k e => by have := (hr k e).1; omega)
theorem Turns.size {T : TypeId} {D : Nat} {A A' : World} (h : Turns T D A A') : A.heap.size ≤ A'.heap.size := by
  obtain ⟨row, hgr, hr⟩ := h; exact hgr.size
/-- The store of a whole array of integers, inside a fence. -/
theorem wpListIn_store_ints {F : Fence} {n : Nat} {w : World} {ops : Array Oper} {rest : List Oper} {o : Oper} {a : Act} {Q : Exit → Act → World → Prop} (hgd : o.guard = none) (ty : TypeId) (x y : Operand) (ho : o.op = .store ty x y) (g off : Nat) (hx : a.eval x = .pointer (some ⟨g, off, none⟩)) (t : TypeId) (l vs : List Int)
    (hy : a.eval y = .agg (vals vs)) (hl : Lies w g t (vals l)) (hf : off + vs.length ≤ l.length) (hi : (P.info? ty).map (·.size) = some vs.length)
    (h : ∀ w', Hid (Lies w' g t (vals (splice l off vs))) → Hid (Only g w w') → wpListIn F n P ops Q rest (a.put o.dst undef) w') : wpListIn F n P ops Q (o :: rest) a w := by
  have hl' : Lies w g t (l.map (Value.int .i64)).toArray := hl
  have hS := Lies.setCells (vs.map (Value.int .i64)) off w (l.map (Value.int .i64)) hl' (by simpa using hf)
  refine wpListIn_plain hgd fun K hK => ?_
  unfold Oper.wpIn
  refine ⟨by simp [Oper.about, ho], ?_⟩
  rw [Oper.semAt_plain F _ _ (by rw [ho]; intro c hc; cases hc)]
  have ht : w.there g off (vals vs).size := by simpa [vals] using Lies.there (o := off) (n := vs.length) hl' (by simpa using hf)
  unfold execOp
  simp only [ho, hx, hy, Instr.storeAt, Instr.sureAddr, Sem.run_bind, Sem.run_pure, Result.andThen_ok, run_storeVar_mid w g off ty (vals vs) ht (by simpa [vals] using hi) (all_oneCell_toArray (ints_one vs))]
  refine hK _ _ (h _ ?_ ?_)
  · have e : vals (splice l off vs) = (splice (l.map (Value.int .i64)) off (vs.map (Value.int .i64))).toArray := by simp [vals, splice]
    show Lies _ g t _
    rw [e]
    have := hS.1
    simpa [vals] using this
  · have := hS.2
    show Only _ _ _
    simpa [vals] using this
end

theorem years_any (p : PlM) (t : TrM) (pl : List Int) (w : World) :
    Calls Try.prog 61 #[.agg (p.cells ++ t.cells).toArray, .agg (vals pl)] w fun e w' => e = .returned (.func (.func 100) #[] #[.pointer (some ⟨w.heap.size + 1, 0, none⟩), .pointer (some ⟨w.heap.size, 0, none⟩)]) ∧ ((w.alloc (.cells (p.cells ++ t.cells).toArray 117)).alloc (.cells (vals pl) 120)) = w' := by
  unfold PlM.cells TrM.cells
  go_enter Try.func61, Try.ntmps61
  go_wp2
  go_ret
  exact ⟨rfl, rfl⟩
set_option maxHeartbeats 1000000 in
theorem start_any (p : PlM) (t : TrM) (w : World) (ht : t.At w w.heap.size) (hn : t.s.l.length ≤ 5) :
    Calls Try.prog 75 #[.agg (p.cells ++ t.cells).toArray] w fun e w' => e = .returned (.agg (vals (pad5 t.s.l))) ∧ Below w.heap.size w w' := by
  have b0 : Below w.heap.size w ((w.alloc (.cells (p.cells ++ t.cells).toArray 117)).alloc (.cells (vals z5) 120)) := (by repeat (first | (with_reducible assumption) | (with_reducible exact Below.refl _ _) | (with_reducible refine Below.drew ?_) | (with_reducible refine below_drewN ?_ _) | ((with_reducible refine Below.setCell ?_ ?_ _); rotate_left; focus (first | (simp; done) | (simp; omega) | omega)) | ((with_reducible refine Below.alloc ?_ ?_ _); rotate_left; focus (first | (simp; done) | (simp; omega) | omega))))
  have hC := countsOf_any t.s.A t.s.c t.s.l _ (((ht.s.below b0).more b0.size)) hn
  have l1 : Lies ((w.alloc (.cells (p.cells ++ t.cells).toArray 117)).alloc (.cells (vals z5) 120)) (w.heap.size + 1) 120 (vals z5) := Lies.fresh' (by simp)
  have hlen := pad5_length hn
  have hfit : 0 + (pad5 t.s.l).length ≤ z5.length ∧ (Try.prog.info? 120).map (·.size) = some (pad5 t.s.l).length := by rw [hlen]; exact ⟨by decide, size120⟩
  have HB := Lib.hid b0
  have HC := Lib.hid hC
  have HL1 := Lib.hid l1
  have HF := Lib.hid hfit
  have HLN := Lib.hid hlen
  clear b0 hC l1 ht hfit hlen
  unfold PlM.cells TrM.cells at HC ⊢
  go_enter Try.func75, Try.ntmps75
  go_wp2_with (first
    | (go_at_call 62; refine HC.out.mono ?_; rintro e w1 ⟨rfl, hb1⟩)
    | (refine wpList_store_ints (o := ⟨none, .store 120 (.tmp 2) _, _, _, _, _⟩) ?_ 120 (.tmp 2) (.tmp 6) ?_ (w.heap.size + 1) 0 ?_ 120 z5 (pad5 t.s.l) ?_ (HL1.out.call hb1) HF.out.1 HF.out.2 ?_; rfl; rfl; rfl; rfl; intro w2 HS2 HO2))
  exact bodyPost_ret (results_ints rfl _ _ (w.heap.size + 1) 120 (pad5 t.s.l) _ rfl (by have := HS2.out; rwa [splice_all (by rw [HLN.out]; rfl)] at this) Try.underlying120 rfl HF.out.2) rfl ⟨rfl, HO2.out.below (HB.out.trans (hb1.mono HB.out.size)) (by omega)⟩
end Go.Proofs.Ytlkdmcdnkoiflaa

/- sells: what is sold of a size up to the last year. -/
namespace Go.Proofs.Ytlkdmcdnkoiflaa
open Go.RowKit Go.Lib
attribute [local go_sem] Oper.semAt_some

/-- A function's contract where its body holds a range over a function. -/
theorem calls_of_wp_marks {P : Program} (n : Nat) {f : FuncId} {fn : Func} {c : Code} {args : Array Value} {w : World} {R : Ending → World → Prop} (hf : P.funcs[f]? = some fn) (hb : fn.body = some c)
    (h : c.wp P (bodyPostM Fence.wide n P fn R) { tmps := args ++ Array.replicate (fn.ntmps - args.size) undef, defers := [] } w) : Calls P f args w R :=
  callsIn_wide.1 (callsIn_of_wp_marks hf hb trivial (wpIn_wide.2 h) rfl)
theorem leave_mark {P : Program} {F : Fence} {n : Nat} {fn : Func} {tmps : Array Value} {R : Ending → World → Prop} {w : World} {D : Nat} (hd : w.heap[D]? = some (.deferred (some [])))
    (h : ∃ v, (results fn tmps).run P (w.putObj D (.deferred none)) = .ok v (w.putObj D (.deferred none)) ∧ R (.returned v) (w.putObj D (.deferred none))) : LeavesInM F n P fn tmps R [{ target := .collected D, args := #[] }] .returning w :=
  ⟨by simp, .inl ⟨_, _, rfl, run_takeDeferred hd, h⟩⟩

/-- What is sold of a size in the first k years. -/
def soldUp (p : PlM) (t : TrM) (pl : List Int) (size : Nat) : Nat → Int
  | 0 => 0
  | k + 1 => soldUp p t pl size k + (yrK p t pl k).getD (5 + size) 0
/-- A plan and a truth of it. -/
structure PT (p : PlM) (t : TrM) : Prop where
  ok : p.Ok
  fit : t.Fit p.s.l.length t.g.l.length
  years : p.years = t.g.l.length
  six : t.g.l.length ≤ 6

theorem KeepsFrom.of_below {D : Nat} {A A' : World} (h : Below A.heap.size A A') : KeepsFrom D A A' :=
  ⟨h.size, fun k o _ hk _ => by rw [h.block k (Array.getElem?_eq_some_iff.1 hk).1]; exact hk⟩
theorem Keeps.of_below {B : Nat} {s : Option Nat} {A A' : World} (h : Below A.heap.size A A') (hB : B ≤ A.heap.size) : Keeps B s s A A' :=
  ⟨h.mono hB, fun k _cs _t _ hk _ => h.block k (Array.getElem?_eq_some_iff.1 hk).1, fun _g hg => .inl hg⟩
theorem KeepsFrom.of_only {D g : Nat} {A A' : World} {t : TypeId} {cs : Array Value} (h : Only g A A') (hg : Lies A g t cs) : KeepsFrom D A A' :=
  ⟨by rw [h.size]; exact Nat.le_refl _, fun k o _ hk ho => by rw [h.block k (fun e => by subst e; rw [hg] at hk; cases hk; cases ho)]; exact hk⟩
theorem Keeps.of_only {B g : Nat} {s : Option Nat} {A A' : World} {t : TypeId} {cs : Array Value} (h : Only g A A') (hg : Lies A g t cs) (hB : B ≤ g) (ht : t ≠ 117 ∧ t ≠ 120 ∧ t ≠ 123) : Keeps B s s A A' :=
  ⟨h.below (Below.refl _ _) hB, fun k cs' t' ht' hk _ => h.block k (fun e => by
    subst e; rw [hg] at hk; cases hk
    rcases ht' with e | e | e
    · exact ht.1 e
    · exact ht.2.1 e
    · exact ht.2.2 e), fun g hg => .inl hg⟩
theorem yrK_sold {p : PlM} {t : TrM} (h : PT p t) {pl : List Int} (hpl : Five2 p.s.l.length pl) {k size : Nat} (hk : k < t.g.l.length) (hs : size < 5) : 0 ≤ (yrK p t pl k).getD (5 + size) 0 ∧ (yrK p t pl k).getD (5 + size) 0 ≤ 25000000 := by
  obtain ⟨y, loss, _, _, e1, e2, h0, h1, _, _, hg⟩ := fit_row (p := p) h.fit hk
  have hfv := plK_five h.ok h.fit hpl k (by omega)
  have hL := liftL_five h.ok.n ⟨hfv.b, hg⟩
  have e : (yrK p t pl k).getD (5 + size) 0 = (soldL p (liftL p.s.l.length (plK p t pl k) (y.l.map (·.l)))).getD size 0 := by
    unfold yrK yearL
    rw [e1, e2]
    simp only [List.getD, List.append_assoc]
    rw [List.getElem?_append_right (by rw [hL.len]; omega), hL.len, show 5 + size - 5 = size by omega, List.getElem?_append_left (by unfold soldL; rw [upto5_length]; exact hs)]
  rw [e]
  unfold soldL
  rw [upto5_getD _ _ _ hs]
  by_cases hn : size < p.s.l.length
  · rw [if_pos hn]
    have := sold_bd h.ok hL hn
    have := hL.b size hs
    omega
  · rw [if_neg hn]; omega
theorem soldUp_bd {p : PlM} {t : TrM} (h : PT p t) {pl : List Int} (hpl : Five2 p.s.l.length pl) {size : Nat} (hs : size < 5) : ∀ k, k ≤ t.g.l.length → 0 ≤ soldUp p t pl size k ∧ soldUp p t pl size k ≤ 25000000 * (k : Int)
  | 0, _ => by simp [soldUp]
  | k + 1, hk => by
    have := soldUp_bd h hpl hs k (by omega)
    have := yrK_sold h hpl (size := size) (show k < t.g.l.length by omega) hs
    simp only [soldUp]; omega
/-- The memory of sells between two rounds. -/
structure SI (p : PlM) (t : TrM) (pl : List Int) (size : Nat) (w : World) (D : Nat) (s : Option Nat) (k : Nat) (A : World) : Prop where
  s : s = none
  v : Lies A (w.heap.size + 1 + 1 + 1) 3 #[.int .i64 (soldUp p t pl size k)]
  z : Lies A (w.heap.size + 1 + 1) 3 #[.int .i64 size]
  b : Below w.heap.size w A
  d : D ≤ A.heap.size

set_option maxRecDepth 100000 in
set_option maxHeartbeats 4000000 in
theorem sells_any (p : PlM) (t : TrM) (pl : List Int) (size : Nat) (w : World) (hp : p.At w w.heap.size) (ht : t.At w w.heap.size) (hpt : PT p t) (hpl : Five2 p.s.l.length pl) (hs : size < 5) :
    Calls Try.prog 77 #[.agg (p.cells ++ t.cells).toArray, .agg (vals pl), .int .i64 size] w fun e w' => e = .returned (.int .i64 (soldUp p t pl size t.g.l.length)) ∧ Below w.heap.size w w' := by
  have l0 : Lies ((((w.alloc (.cells (p.cells ++ t.cells).toArray 117)).alloc (.cells (vals pl) 120)).alloc (.cells #[.int .i64 size] 3)).alloc (.cells #[.int .i64 0] 3)) w.heap.size 117 (p.cells ++ t.cells).toArray := (((Lies.fresh' rfl).alloc _).alloc _).alloc _
  have l1 : Lies ((((w.alloc (.cells (p.cells ++ t.cells).toArray 117)).alloc (.cells (vals pl) 120)).alloc (.cells #[.int .i64 size] 3)).alloc (.cells #[.int .i64 0] 3)) (w.heap.size + 1) 120 (vals pl) := ((Lies.fresh' (by simp)).alloc _).alloc _
  have hfit : (Try.prog.info? 120).map (·.size) = some pl.length := by rw [hpl.len]; exact size120
  have L0 := Lib.hid l0
  have L1 := Lib.hid l1
  have HF := Lib.hid hfit
  have HP := Lib.hid hp
  have HT := Lib.hid ht
  have HPT := Lib.hid hpt
  have HPL := Lib.hid hpl
  clear l0 l1 hfit hp ht hpt hpl
  have hY := fun (p : PlM) (t : TrM) (pl : List Int) (w : World) => years_any p t pl w
  have HYR := Lib.hid (hY p t pl)
  clear hY
  unfold PlM.cells TrM.cells
  refine calls_of_wp_marks 5 Try.func77 rfl ?_
  simp only [Try.ntmps77, List.size_toArray, List.length_cons, List.length_nil, Nat.reduceAdd, Nat.reduceSub, Array.replicate_succ, Array.replicate_zero, List.push_toArray, List.append_toArray, List.nil_append, List.cons_append]
  go_wp2_with (first
    | (refine wpList_load_ints (o := ⟨some 11, _, _, _, _, _⟩) ?_ 120 (.tmp 4) ?_ (w.heap.size + 1) 0 ?_ 120 pl pl _ L1.out (fun j v h => by simpa using h) Try.underlying120 rfl HF.out ?_; rfl; rfl; rfl)
    | (go_at_call 61; refine (HYR.out _).mono ?_; rintro e w' ⟨rfl, rfl⟩))
  have hl0 : ∀ W, W = (((((w.alloc (.cells (p.cells ++ t.cells).toArray 117)).alloc (.cells (vals pl) 120)).alloc (.cells #[.int .i64 size] 3)).alloc (.cells #[.int .i64 0] 3)).alloc (.cells (p.cells ++ t.cells).toArray 117)).alloc (.cells (vals pl) 120) →
      Lies W (w.heap.size + 1 + 1 + 1 + 1 + 1) 120 (vals pl) ∧ Lies W (w.heap.size + 1 + 1 + 1 + 1) 117 (p.cells ++ t.cells).toArray ∧ W.heap.size = w.heap.size + 6 ∧ SI p t pl size w (w.heap.size + 6) none 0 W := by
    rintro W rfl
    refine ⟨Lies.fresh' (by simp), (Lies.fresh' (by simp)).alloc _, by simp, rfl, (((Lies.fresh' (by simp)).alloc _).alloc _), ((((Lies.fresh' (by simp)).alloc _).alloc _).alloc _), (by repeat (first | (with_reducible assumption) | (with_reducible exact Below.refl _ _) | (with_reducible refine Below.drew ?_) | (with_reducible refine below_drewN ?_ _) | ((with_reducible refine Below.setCell ?_ ?_ _); rotate_left; focus (first | (simp; done) | (simp; omega) | omega)) | ((with_reducible refine Below.alloc ?_ ?_ _); rotate_left; focus (first | (simp; done) | (simp; omega) | omega)))), by simp⟩
  generalize hWg : ((((w.alloc (.cells #[.slice p.s.A p.s.l.length p.s.c, .slice p.r.A p.r.l.length p.r.c, .slice p.g.A p.g.l.length p.g.c, .slice p.e.A p.e.l.length p.e.c, .slice p.k.A p.k.l.length p.k.c, .int .i64 p.lo, .int .i64 p.hi, .int .i64 p.years, .slice t.s.A t.s.l.length t.s.c, .slice t.g.A t.g.l.length t.g.c, .slice t.l.A t.l.l.length t.l.c] 117)).alloc (.cells (vals pl) 120)).alloc (.cells #[.int .i64 size] 3)).alloc (.cells #[.int .i64 0] 3)).alloc (.cells (p.cells ++ t.cells).toArray 117) = W1 at hl0 ⊢
  generalize hWh : W1.alloc (.cells (vals pl) 120) = W at hl0 ⊢
  obtain ⟨hst, hco, hsz, hI0⟩ := hl0 W (by rw [← hWh, ← hWg]; rfl)
  clear hl0 L0 L1
  have HI0 := Lib.hid hI0
  have HSZ := Lib.hid hsz
  have hsz6 : W.heap.size = w.heap.size + 6 := hsz
  have hgv := years1_gives 4 (by omega) p t (w.heap.size + 1 + 1 + 1 + 1 + 1) (w.heap.size + 1 + 1 + 1 + 1) w.heap.size pl W (fun A => p.At A A.heap.size ∧ t.At A A.heap.size) (fun A h => h) (by omega) HPT.out.ok HPT.out.fit HPT.out.years (by have := HPT.out.six; omega) HPL.out hst hco
  clear hst hco hI0 hsz hWg hWh HYR
  refine range_gives (n := 5) (gf := 100) rfl (enters_of Try.func100 (by kernel_rfl) rfl) hgv (Below.refl _ _) (by omega) (fun _ => rfl)
    (fun s k A => SI p t pl size w (w.heap.size + 6) s k A) (fun _ _ _ => False) ?hI (fun c k A A' h _ => h) (fun s k A b h e => by rw [h.s] at e; cases e) HI0.out (fun s k A h => ⟨HP.out.below h.b h.b.size, HT.out.below h.b h.b.size⟩)
    (fun x a' A => ∃ gx, w.heap.size + 6 ≤ gx ∧ Lies A gx 123 (vals x.2) ∧ a' = { tmps := #[.agg #[.slice p.s.A p.s.l.length p.s.c, .slice p.r.A p.r.l.length p.r.c, .slice p.g.A p.g.l.length p.g.c, .slice p.e.A p.e.l.length p.e.c, .slice p.k.A p.k.l.length p.k.c, .int .i64 p.lo, .int .i64 p.hi, .int .i64 p.years, .slice t.s.A t.s.l.length t.s.c, .slice t.g.A t.g.l.length t.g.c, .slice t.l.A t.l.l.length t.l.c], .agg (vals pl), .int .i64 size, .pointer (some ⟨w.heap.size, 0, none⟩), .pointer (some ⟨w.heap.size + 1, 0, none⟩), .pointer (some ⟨w.heap.size + 1 + 1, 0, none⟩), .int .i64 0, .pointer (some ⟨w.heap.size + 1 + 1 + 1, 0, none⟩), undef, .pointer (some ⟨gx, 0, none⟩), .agg #[.slice p.s.A p.s.l.length p.s.c, .slice p.r.A p.r.l.length p.r.c, .slice p.g.A p.g.l.length p.g.c, .slice p.e.A p.e.l.length p.e.c, .slice p.k.A p.k.l.length p.k.c, .int .i64 p.lo, .int .i64 p.hi, .int .i64 p.years, .slice t.s.A t.s.l.length t.s.c, .slice t.g.A t.g.l.length t.g.c, .slice t.l.A t.l.l.length t.l.c], .agg (vals pl), .func (.func 100) #[] #[.pointer (some ⟨w.heap.size + 1 + 1 + 1 + 1 + 1, 0, none⟩), .pointer (some ⟨w.heap.size + 1 + 1 + 1 + 1, 0, none⟩)], .int .i64 x.1, .agg (vals x.2), undef, undef, undef, undef, undef, undef, undef], defers := [] }) ?hAx ?assign ?body ?done ?stop
  case hI =>
    intro s k A A' h ht
    exact ⟨h.s, ht.lies h.v (by omega), ht.lies h.z (by omega), ht.below h.b (by omega) h.b.size, Nat.le_trans h.d ht.size⟩
  case hAx =>
    rintro x a' A A' ⟨gx, h1, h2, h3⟩ ht
    exact ⟨gx, h1, ht.lies' h2 (by decide), h3⟩
  case stop => intro D c k W2 _ _ h; exact h.elim
  case assign =>
    intro l s k x W2 K hx hi hK
    have hk : k < t.g.l.length := by
      have := (List.getElem?_eq_some_iff.1 hx).1
      rwa [yearsL_length] at this
    obtain rfl : (k, yrK p t pl k) = x := by rw [yearsL_at hk] at hx; exact Option.some.inj hx
    have h20 : (yrK p t pl k).length = 20 := yearL_length _ _ _ _
    have hfit : 0 + (yrK p t pl k).length ≤ (z5 ++ z5 ++ z5 ++ z5).length ∧ (Try.prog.info? 123).map (·.size) = some (yrK p t pl k).length := by rw [h20]; exact ⟨by decide, size123⟩
    have H20 := Lib.hid h20
    have HFIT := Lib.hid hfit
    have HIN := Lib.hid hi
    clear h20 hfit hgv
    simp only [encY]
    gi_wp2_with (refine wpListIn_store_ints (o := ⟨none, .store 123 (.tmp 9) _, _, _, _, _⟩) ?_ 123 (.tmp 9) (.tmp 14) ?_ W2.heap.size 0 ?_ 123 (z5 ++ z5 ++ z5 ++ z5) (yrK p t pl k) ?_ (Lies.fresh W2 123 (vals (z5 ++ z5 ++ z5 ++ z5))) HFIT.out.1 HFIT.out.2 ?_; rfl; rfl; rfl; rfl; intro w5 HS5 HO5; (try simp only [Act.put]))
    have hl5 : Lies w5 W2.heap.size 123 (vals (yrK p t pl k)) := by
      have := HS5.out
      rwa [splice_all (by rw [H20.out]; rfl)] at this
    have hb5 : Below W2.heap.size W2 w5 := HO5.out.below ((Below.refl _ _).alloc (Nat.le_refl _) _) (Nat.le_refl _)
    refine hK _ _ (KeepsFrom.of_below hb5) (Keeps.of_below hb5 HIN.out.b.size) ⟨HIN.out.s, HIN.out.v.call hb5, HIN.out.z.call hb5, HIN.out.b.trans (hb5.mono HIN.out.b.size), Nat.le_trans HIN.out.d hb5.size⟩ ⟨W2.heap.size, HIN.out.d, hl5, ?_⟩
    rfl
  case body =>
    rintro l s k x a' W2 hl hx hi ⟨gx, hgx, hlx, rfl⟩
    have hk : k < t.g.l.length := by
      have := (List.getElem?_eq_some_iff.1 hx).1
      rwa [yearsL_length] at this
    obtain rfl : (k, yrK p t pl k) = x := by rw [yearsL_at hk] at hx; exact Option.some.inj hx
    have h20 : (yrK p t pl k).length = 20 := yearL_length _ _ _ _
    have hb1 := soldUp_bd HPT.out HPL.out hs k (by omega)
    have hb2 := yrK_sold HPT.out HPL.out hk hs
    have h6 := HPT.out.six
    have r7 := cell_regrown (show W2.cell? ⟨w.heap.size + 1 + 1 + 1, 0, none⟩ = some (.int .i64 (soldUp p t pl size k)) from hi.v.at_ 0)
    have r5 := cell_regrown (show W2.cell? ⟨w.heap.size + 1 + 1, 0, none⟩ = some (.int .i64 size) from hi.z.at_ 0)
    have c9 : W2.cell? ⟨gx, 5 + size, none⟩ = some (.int .i64 ((yrK p t pl k).getD (5 + size) 0)) := by
      rw [hlx.at_]
      have h5 : 5 + size < (yrK p t pl k).length := by omega
      simp [vals, List.getD, h5]
    have r9 := cell_regrown c9
    have HIN := Lib.hid hi
    clear hi hlx hx hgv
    generalize hsd : (yrK p t pl k).getD (5 + size) 0 = sd at *
    generalize hsu : soldUp p t pl size k = su at *
    gi_wp2_with (fail)
    refine wpIn_region_tail 6 (by kernel_rfl) (by kernel_rfl) (by kernel_rfl) (by kernel_rfl) (by kernel_rfl) (by kernel_rfl) (by simp) ?_
    simp only [List.take_succ_cons, List.take_zero, List.drop_succ_cons, List.drop_zero]
    repeat (first | go_big_quiet_step (fail) | quiet_step (fail))
    refine wpQuiet_nil ?_
    intro wq hwq
    have hbq : Below W2.heap.size W2 wq := (by obtain ⟨q, rfl⟩ := hwq; exact below_regrown _ _ _)
    clear hwq r5 r7 r9 c9
    have hv7 : Lies wq (w.heap.size + 1 + 1 + 1) 3 #[.int .i64 su] := by have := HIN.out.v.call hbq; rwa [hsu] at this
    have c7 : wq.cell? ⟨w.heap.size + 1 + 1 + 1, 0, none⟩ = some (.int .i64 su) := hv7.at_ 0
    have f7 : wq.frozen? ⟨w.heap.size + 1 + 1 + 1, 0, none⟩ = false := hv7.free 0
    gi_wp2
    have hB2 := HIN.out.b.size
    have hO : Only (w.heap.size + 1 + 1 + 1) wq (wq.setCell ⟨w.heap.size + 1 + 1 + 1, 0, none⟩ (.int .i64 (su + sd))) := Only.set _ _ _ _
    have hv8 : Lies (wq.setCell ⟨w.heap.size + 1 + 1 + 1, 0, none⟩ (.int .i64 (su + sd))) (w.heap.size + 1 + 1 + 1) 3 #[.int .i64 (su + sd)] := hv7.set 0 _
    refine ⟨KeepsFrom.trans (KeepsFrom.of_below hbq) (KeepsFrom.of_only hO hv7), s, (Keeps.of_below hbq hB2).trans (Keeps.of_only hO hv7 (by omega) (by decide)), HIN.out.s, ?_, (HIN.out.z.call hbq).other (show w.heap.size + 1 + 1 ≠ w.heap.size + 1 + 1 + 1 by omega) _, hO.below (HIN.out.b.trans (hbq.mono hB2)) (by omega), ?_⟩
    · have e : soldUp p t pl size (k + 1) = su + sd := by rw [soldUp, hsu, hsd]
      rw [e]; exact hv8
    · rw [hO.size]; exact Nat.le_trans HIN.out.d hbq.size
  case done =>
    intro D s W2 hD hi hd
    rw [yearsL_length] at hi
    have c7 : W2.cell? ⟨w.heap.size + 1 + 1 + 1, 0, none⟩ = some (.int .i64 (soldUp p t pl size t.g.l.length)) := hi.v.at_ 0
    go_wp2
    refine leave_mark hd ⟨_, results_tmp rfl _ _ _, rfl, hi.b.trans ((Below.refl _ _).grown (grownBy_putObj' W2 D _) hi.b.size (fun k e => by cases e; omega))⟩
end Go.Proofs.Ytlkdmcdnkoiflaa

/- reach: the first year up to which so many of a size are sold. -/
namespace Go.Proofs.Ytlkdmcdnkoiflaa
open Go.RowKit Go.Lib
attribute [local go_sem] Oper.semAt_some

/-- The first of n years up to which at least a number of a size are sold, or -1. -/
def reachL (p : PlM) (t : TrM) (pl : List Int) (size : Nat) (number : Int) (n : Nat) : Int :=
  match (List.range n).find? (fun k => decide (number ≤ soldUp p t pl size (k + 1))) with
  | some k => k
  | none => -1
theorem reachL_none {p : PlM} {t : TrM} {pl : List Int} {size : Nat} {number : Int} {n : Nat} (h : ∀ j, j < n → soldUp p t pl size (j + 1) < number) : reachL p t pl size number n = -1 := by
  unfold reachL
  rw [List.find?_eq_none.2 (fun j hj => by have := h j (List.mem_range.1 hj); simp; omega)]
theorem reachL_some {p : PlM} {t : TrM} {pl : List Int} {size : Nat} {number : Int} {n k : Nat} (hk : k < n) (hg : number ≤ soldUp p t pl size (k + 1)) (h : ∀ j, j < k → soldUp p t pl size (j + 1) < number) : reachL p t pl size number n = k := by
  unfold reachL
  have e : (List.range n).find? (fun k => decide (number ≤ soldUp p t pl size (k + 1))) = some k := by
    rw [List.find?_eq_some_iff_getElem]
    refine ⟨by simpa using hg, k, by simpa using hk, by simp, fun j hj => ?_⟩
    have := h j hj
    simp; omega
  rw [e]
/-- The memory of reach between two rounds. -/
structure RI (p : PlM) (t : TrM) (pl : List Int) (size : Nat) (number : Int) (w : World) (s : Option Nat) (k : Nat) (A : World) : Prop where
  s : s = none
  r : Lies A (w.heap.size + 1 + 1 + 1) 3 #[.int .i64 (-1)]
  v : Lies A (w.heap.size + 1 + 1 + 1 + 1) 3 #[.int .i64 (soldUp p t pl size k)]
  z : Lies A (w.heap.size + 1) 3 #[.int .i64 size]
  n : Lies A (w.heap.size + 1 + 1) 3 #[.int .i64 number]
  b : Below w.heap.size w A
  d : w.heap.size + 5 ≤ A.heap.size
  no : ∀ j, j < k → soldUp p t pl size (j + 1) < number
/-- The memory of reach when it leaves in round k. -/
structure RX (p : PlM) (t : TrM) (pl : List Int) (size : Nat) (number : Int) (w : World) (c : Code) (k : Nat) (A : World) : Prop where
  c : c = .exit 0
  r : Lies A (w.heap.size + 1 + 1 + 1) 3 #[.int .i64 ((k : Int) - 1)]
  b : Below w.heap.size w A
  pos : 0 < k
  yes : number ≤ soldUp p t pl size k
  no : ∀ j, j + 1 < k → soldUp p t pl size (j + 1) < number

theorem inBlock_exit {id : Nat} {Q : Exit → Act → World → Prop} {a : Act} {w : World} (h : Q .normal a w) : Exit.inBlock id Q (.exit id) a w := by simpa [Exit.inBlock] using h
/-- A whole aggregate, read quietly. -/
theorem wpQuiet_load_whole {P : Program} {ops : Array Oper} {C : World → Prop} {rest : List Oper} {o : Oper} {a : Act} {Q : Act → Prop} (hgd : o.guard = none) (ty : TypeId) (x : Operand) (ho : o.op = .load ty x) (g off : Nat) (hx : a.eval x = .pointer (some ⟨g, off, none⟩)) (vs : List Value) (d : TypeDesc)
    (hv : ∀ W, C W → W.rangeAt g off vs) (hu : P.underlying ty = some d) (hd : d.isRow = true) (hi : (P.info? ty).map (·.size) = some vs.length)
    (h : wpQuiet P ops C Q rest (a.put o.dst (.agg vs.toArray))) : wpQuiet P ops C Q (o :: rest) a := by
  refine wpQuiet_step fun K hK => ?_
  rw [if_pos (by simp [Region.wanted, hgd])]
  refine ⟨.agg vs.toArray, fun W hW => ?_, hK _ h⟩
  unfold Oper.quietAt execOp
  simp only [ho, hx, Instr.loadAt, Instr.sureAddr, Sem.run_bind, Sem.run_pure, Result.andThen_ok, run_loadVar_mid W g off ty vs d (hv W hW) hu hd (by simpa using hi)]
  exact ⟨rfl, rfl⟩

set_option maxRecDepth 100000 in
set_option maxHeartbeats 4000000 in
theorem reach_any (p : PlM) (t : TrM) (size : Nat) (number : Int) (w : World) (hp : p.At w w.heap.size) (ht : t.At w w.heap.size) (hpt : PT p t) (hn5 : t.s.l.length ≤ 5) (hpl : Five2 p.s.l.length (pad5 t.s.l)) (hs : size < 5) :
    Calls Try.prog 73 #[.agg (p.cells ++ t.cells).toArray, .int .i64 size, .int .i64 number] w fun e w' => e = .returned (.int .i64 (reachL p t (pad5 t.s.l) size number t.g.l.length)) ∧ Below w.heap.size w w' := by
  have hS := fun w hw => start_any p t w hw hn5
  generalize pad5 t.s.l = pl at *
  have l0 : Lies (((((w.alloc (.cells (p.cells ++ t.cells).toArray 117)).alloc (.cells #[.int .i64 size] 3)).alloc (.cells #[.int .i64 number] 3)).alloc (.cells #[.int .i64 (-1)] 3)).alloc (.cells #[.int .i64 0] 3)) w.heap.size 117 (p.cells ++ t.cells).toArray := ((((Lies.fresh' rfl).alloc _).alloc _).alloc _).alloc _
  have HS := Lib.hid hS
  have L0 := Lib.hid l0
  have HP := Lib.hid hp
  have HT := Lib.hid ht
  have HPT := Lib.hid hpt
  have HPL := Lib.hid hpl
  have HYR := Lib.hid (fun w => years_any p t pl w)
  clear l0 hS hp ht hpt hpl
  unfold PlM.cells TrM.cells
  refine calls_of_wp_marks 5 Try.func73 rfl ?_
  simp only [Try.ntmps73, List.size_toArray, List.length_cons, List.length_nil, Nat.reduceAdd, Nat.reduceSub, Array.replicate_succ, Array.replicate_zero, List.push_toArray, List.append_toArray, List.nil_append, List.cons_append]
  go_wp2
  refine wp_scope_straight ?_
  go_wp2
  refine wp_label ?_
  go_wp2
  generalize hWg : ((((w.alloc (.cells #[.slice p.s.A p.s.l.length p.s.c, .slice p.r.A p.r.l.length p.r.c, .slice p.g.A p.g.l.length p.g.c, .slice p.e.A p.e.l.length p.e.c, .slice p.k.A p.k.l.length p.k.c, .int .i64 p.lo, .int .i64 p.hi, .int .i64 p.years, .slice t.s.A t.s.l.length t.s.c, .slice t.g.A t.g.l.length t.g.c, .slice t.l.A t.l.l.length t.l.c] 117)).alloc (.cells #[.int .i64 size] 3)).alloc (.cells #[.int .i64 number] 3)).alloc (.cells #[.int .i64 (-1)] 3)).alloc (.cells #[.int .i64 0] 3) = W0
  have hb0 : Below w.heap.size w W0 := by rw [← hWg]; exact (by repeat (first | (with_reducible assumption) | (with_reducible exact Below.refl _ _) | (with_reducible refine Below.drew ?_) | (with_reducible refine below_drewN ?_ _) | ((with_reducible refine Below.setCell ?_ ?_ _); rotate_left; focus (first | (simp; done) | (simp; omega) | omega)) | ((with_reducible refine Below.alloc ?_ ?_ _); rotate_left; focus (first | (simp; done) | (simp; omega) | omega))))
  have hi0 : Lies W0 w.heap.size 117 (p.cells ++ t.cells).toArray ∧ W0.heap.size = w.heap.size + 5 ∧ Lies W0 (w.heap.size + 1 + 1 + 1) 3 #[.int .i64 (-1)] ∧ Lies W0 (w.heap.size + 1 + 1 + 1 + 1) 3 #[.int .i64 0] ∧ Lies W0 (w.heap.size + 1) 3 #[.int .i64 size] ∧ Lies W0 (w.heap.size + 1 + 1) 3 #[.int .i64 number] := by
    rw [← hWg]
    exact ⟨L0.out, by simp, (Lies.fresh' (by simp)).alloc _, Lies.fresh' (by simp), (((Lies.fresh' (by simp)).alloc _).alloc _).alloc _, ((Lies.fresh' (by simp)).alloc _).alloc _⟩
  have HB0 := Lib.hid hb0
  have HI0 := Lib.hid hi0
  have hrg : ∀ W, (∃ q : Regrown, W = Go.Sort.grow (redrawn W0 q.d) q.os) → W.rangeAt w.heap.size 0 (p.cells ++ t.cells) := by
    rintro W ⟨q, rfl⟩
    exact Lies.range (cs := p.cells ++ t.cells) (hi0.1.call (below_regrown W0 q.d q.os)) (fun j v hj => by simpa using hj)
  have HRG := Lib.hid hrg
  clear hWg hb0 hi0 L0 hrg
  refine wp_region_tail 3 (by kernel_rfl) (by kernel_rfl) (by kernel_rfl) (by kernel_rfl) (by kernel_rfl) (by kernel_rfl) (by simp) ?_
  simp only [List.take_succ_cons, List.take_zero, List.drop_succ_cons, List.drop_zero]
  refine wpQuiet_load_whole (o := ⟨some 11, _, _, _, _, _⟩) ?_ 117 (.tmp 3) ?_ w.heap.size 0 ?_ (p.cells ++ t.cells) _ HRG.out Try.underlying117 rfl size117 ?_
  rfl; rfl; rfl
  simp only [Act.put, List.setIfInBounds_toArray, List.set_cons_zero, List.set_cons_succ]
  refine wpQuiet_load_whole (o := ⟨some 12, _, _, _, _, _⟩) ?_ 117 (.tmp 3) ?_ w.heap.size 0 ?_ (p.cells ++ t.cells) _ HRG.out Try.underlying117 rfl size117 ?_
  rfl; rfl; rfl
  simp only [Act.put, List.setIfInBounds_toArray, List.set_cons_zero, List.set_cons_succ]
  repeat (first | go_big_quiet_step ((go_at_call 75; refine Calls.regrown_of (HS.out _ ?_); have hbr := below_regrown W0 _ _; exact ((HT.out.below (HB0.out.trans (hbr.mono HB0.out.size)) (Nat.le_refl _))))) | quiet_step ((go_at_call 75; refine Calls.regrown_of (HS.out _ ?_); exact (HT.out.below (HB0.out.trans ((below_regrown W0 _ _).mono HB0.out.size)) (HB0.out.trans ((below_regrown W0 _ _).mono HB0.out.size)).size))))
  refine wpQuiet_nil ?_
  intro wq hwq
  have hbq : Below W0.heap.size W0 wq := (by obtain ⟨q, rfl⟩ := hwq; exact below_regrown _ _ _)
  clear hwq HRG
  go_wp2_with (go_at_call 61; refine (HYR.out _).mono ?_; rintro e w' ⟨rfl, rfl⟩)
  have hb1 : Below w.heap.size w wq := HB0.out.trans (hbq.mono HB0.out.size)
  have hz1 : w.heap.size + 5 ≤ wq.heap.size := by rw [← HI0.out.2.1]; exact hbq.size
  have hI0 : RI p t pl size number w none 0 wq := ⟨rfl, HI0.out.2.2.1.call hbq, HI0.out.2.2.2.1.call hbq, HI0.out.2.2.2.2.1.call hbq, HI0.out.2.2.2.2.2.call hbq, hb1, hz1, fun j hj => by omega⟩
  have hW : ∃ W, (wq.alloc (.cells (p.cells ++ t.cells).toArray 117)).alloc (.cells (vals pl) 120) = W ∧ RI p t pl size number w none 0 W ∧ Lies W (wq.heap.size + 1) 120 (vals pl) ∧ Lies W wq.heap.size 117 (p.cells ++ t.cells).toArray := by
    refine ⟨_, rfl, ⟨rfl, (hI0.r.alloc _).alloc _, (hI0.v.alloc _).alloc _, (hI0.z.alloc _).alloc _, (hI0.n.alloc _).alloc _, (hb1.alloc hb1.size _).alloc (by simp; have := hb1.size; omega) _, by simp; omega, fun j hj => by omega⟩, Lies.fresh' (by simp), (Lies.fresh' rfl).alloc _⟩
  obtain ⟨W, hWe, hI, hst, hco⟩ := hW
  rw [hWe]
  have hd5 := hI.d
  have hgv := years1_gives 4 (by omega) p t (wq.heap.size + 1) wq.heap.size w.heap.size pl W (fun A => p.At A A.heap.size ∧ t.At A A.heap.size) (fun A h => h) (by omega) HPT.out.ok HPT.out.fit HPT.out.years (by have := HPT.out.six; omega) HPL.out hst hco
  have HI := Lib.hid hI
  clear hst hco hI0 hWe HYR HS HB0 HI0 hbq hb1 hI
  generalize wq.heap.size = z0 at *
  refine range_gives (n := 5) (gf := 100) rfl (enters_of Try.func100 (by kernel_rfl) rfl) hgv (Below.refl _ _) (by omega) (fun _ => rfl)
    (RI p t pl size number w) (RX p t pl size number w) ?hI ?hIx (fun s k A b h e => by rw [h.s] at e; cases e) HI.out (fun s k A h => ⟨HP.out.below h.b h.b.size, HT.out.below h.b h.b.size⟩)
    (fun x a' A => ∃ gx, w.heap.size + 5 ≤ gx ∧ Lies A gx 123 (vals x.2) ∧ a' = { tmps := #[.agg #[.slice p.s.A p.s.l.length p.s.c, .slice p.r.A p.r.l.length p.r.c, .slice p.g.A p.g.l.length p.g.c, .slice p.e.A p.e.l.length p.e.c, .slice p.k.A p.k.l.length p.k.c, .int .i64 p.lo, .int .i64 p.hi, .int .i64 p.years, .slice t.s.A t.s.l.length t.s.c, .slice t.g.A t.g.l.length t.g.c, .slice t.l.A t.l.l.length t.l.c], .int .i64 size, .int .i64 number, .pointer (some ⟨w.heap.size, 0, none⟩), .pointer (some ⟨w.heap.size + 1, 0, none⟩), .pointer (some ⟨w.heap.size + 1 + 1, 0, none⟩), .int .i64 0, .pointer (some ⟨w.heap.size + 1 + 1 + 1, 0, none⟩), .pointer (some ⟨w.heap.size + 1 + 1 + 1 + 1, 0, none⟩), .int .i64 x.1, .pointer (some ⟨gx, 0, none⟩), .agg (p.cells ++ t.cells).toArray, .agg (p.cells ++ t.cells).toArray, .agg (vals pl), .func (.func 100) #[] #[.pointer (some ⟨z0 + 1, 0, none⟩), .pointer (some ⟨z0, 0, none⟩)], .int .i64 x.1, .agg (vals x.2), undef, undef, undef, undef, undef, undef, undef, undef, undef, undef, undef], defers := [] }) ?hAx ?assign ?body ?done ?stop
  case hI =>
    intro s k A A' h ht
    exact ⟨h.s, ht.lies h.r (by omega), ht.lies h.v (by omega), ht.lies h.z (by omega), ht.lies h.n (by omega), ht.below h.b (by omega) h.b.size, Nat.le_trans h.d ht.size, h.no⟩
  case hIx =>
    intro c k A A' h ht
    exact ⟨h.c, ht.lies h.r (by omega), ht.below h.b (by omega) h.b.size, h.pos, h.yes, h.no⟩
  case hAx =>
    rintro x a' A A' ⟨gx, h1, h2, h3⟩ ht
    exact ⟨gx, h1, ht.lies' h2 (by decide), h3⟩
  case stop =>
    intro D c k W2 hD hk hi hd
    obtain rfl := hi.c
    refine wpIn_exit ?_
    have hb := hi.b
    obtain ⟨k', rfl⟩ : ∃ k', k = k' + 1 := ⟨k - 1, by have := hi.pos; omega⟩
    have c7 : W2.cell? ⟨w.heap.size + 1 + 1 + 1, 0, none⟩ = some (.int .i64 (k' : Int)) := by
      rw [hi.r.at_ 0, show (((k' + 1 : Nat) : Int) - 1) = (k' : Int) by omega]; rfl
    have hr : reachL p t pl size number t.g.l.length = (k' : Int) := reachL_some (by rw [yearsL_length] at hk; omega) hi.yes (fun j hj => hi.no j (by omega))
    refine inBlock_exit ?_
    go_wp2
    refine leave_mark hd ⟨_, results_tmp rfl _ _ _, (by rw [hr]; rfl), hb.trans ((Below.refl _ _).grown (grownBy_putObj' W2 D _) hb.size (fun k e => by cases e; omega))⟩
  case assign =>
    intro l s k x W2 K hx hi hK
    have hk : k < t.g.l.length := by
      have := (List.getElem?_eq_some_iff.1 hx).1
      rwa [yearsL_length] at this
    obtain rfl : (k, yrK p t pl k) = x := by rw [yearsL_at hk] at hx; exact Option.some.inj hx
    have h20 : (yrK p t pl k).length = 20 := yearL_length _ _ _ _
    have hfit : 0 + (yrK p t pl k).length ≤ (z5 ++ z5 ++ z5 ++ z5).length ∧ (Try.prog.info? 123).map (·.size) = some (yrK p t pl k).length := by rw [h20]; exact ⟨by decide, size123⟩
    have H20 := Lib.hid h20
    have HFIT := Lib.hid hfit
    have HIN := Lib.hid hi
    clear h20 hfit hgv
    simp only [encY]
    gi_wp2_with (refine wpListIn_store_ints (o := ⟨none, .store 123 (.tmp 10) _, _, _, _, _⟩) ?_ 123 (.tmp 10) (.tmp 16) ?_ W2.heap.size 0 ?_ 123 (z5 ++ z5 ++ z5 ++ z5) (yrK p t pl k) ?_ (Lies.fresh W2 123 (vals (z5 ++ z5 ++ z5 ++ z5))) HFIT.out.1 HFIT.out.2 ?_; rfl; rfl; rfl; rfl; intro w5 HS5 HO5; (try simp only [Act.put]))
    have hl5 : Lies w5 W2.heap.size 123 (vals (yrK p t pl k)) := by
      have := HS5.out
      rwa [splice_all (by rw [H20.out]; rfl)] at this
    have hb5 : Below W2.heap.size W2 w5 := HO5.out.below ((Below.refl _ _).alloc (Nat.le_refl _) _) (Nat.le_refl _)
    refine hK _ _ (KeepsFrom.of_below hb5) (Keeps.of_below hb5 HIN.out.b.size) ⟨HIN.out.s, HIN.out.r.call hb5, HIN.out.v.call hb5, HIN.out.z.call hb5, HIN.out.n.call hb5, HIN.out.b.trans (hb5.mono HIN.out.b.size), Nat.le_trans HIN.out.d hb5.size, HIN.out.no⟩ ⟨W2.heap.size, HIN.out.d, hl5, ?_⟩
    rfl
  case body =>
    rintro l s k x a' W2 hl hx hi ⟨gx, hgx, hlx, rfl⟩
    have hk : k < t.g.l.length := by
      have := (List.getElem?_eq_some_iff.1 hx).1
      rwa [yearsL_length] at this
    obtain rfl : (k, yrK p t pl k) = x := by rw [yearsL_at hk] at hx; exact Option.some.inj hx
    have h20 : (yrK p t pl k).length = 20 := yearL_length _ _ _ _
    have hb1 := soldUp_bd HPT.out HPL.out hs k (by omega)
    have hb2 := yrK_sold HPT.out HPL.out hk hs
    have h6 := HPT.out.six
    have r7 := cell_regrown (show W2.cell? ⟨w.heap.size + 1 + 1 + 1 + 1, 0, none⟩ = some (.int .i64 (soldUp p t pl size k)) from hi.v.at_ 0)
    have r5 := cell_regrown (show W2.cell? ⟨w.heap.size + 1, 0, none⟩ = some (.int .i64 size) from hi.z.at_ 0)
    have c9 : W2.cell? ⟨gx, 5 + size, none⟩ = some (.int .i64 ((yrK p t pl k).getD (5 + size) 0)) := by
      rw [hlx.at_]
      have h5 : 5 + size < (yrK p t pl k).length := by omega
      simp [vals, List.getD, h5]
    have r9 := cell_regrown c9
    have hup : soldUp p t pl size (k + 1) = soldUp p t pl size k + (yrK p t pl k).getD (5 + size) 0 := rfl
    have HIN := Lib.hid hi
    clear hi hlx hx hgv
    generalize hsd : (yrK p t pl k).getD (5 + size) 0 = sd at *
    generalize hsu : soldUp p t pl size k = su at *
    gi_wp2_with (fail)
    refine wpIn_region_tail 6 (by kernel_rfl) (by kernel_rfl) (by kernel_rfl) (by kernel_rfl) (by kernel_rfl) (by kernel_rfl) (by simp) ?_
    simp only [List.take_succ_cons, List.take_zero, List.drop_succ_cons, List.drop_zero]
    repeat (first | go_big_quiet_step (fail) | quiet_step (fail))
    refine wpQuiet_nil ?_
    intro wq hwq
    have hbq : Below W2.heap.size W2 wq := (by obtain ⟨q, rfl⟩ := hwq; exact below_regrown _ _ _)
    clear hwq r5 r7 r9 c9
    have hv7 : Lies wq (w.heap.size + 1 + 1 + 1 + 1) 3 #[.int .i64 su] := by have := HIN.out.v.call hbq; rwa [hsu] at this
    have hB2 := HIN.out.b.size
    have hO : Only (w.heap.size + 1 + 1 + 1 + 1) wq (wq.setCell ⟨w.heap.size + 1 + 1 + 1 + 1, 0, none⟩ (.int .i64 (su + sd))) := Only.set _ _ _ _
    have hv8 : Lies (wq.setCell ⟨w.heap.size + 1 + 1 + 1 + 1, 0, none⟩ (.int .i64 (su + sd))) (w.heap.size + 1 + 1 + 1 + 1) 3 #[.int .i64 (su + sd)] := hv7.set 0 _
    have hr8 : Lies (wq.setCell ⟨w.heap.size + 1 + 1 + 1 + 1, 0, none⟩ (.int .i64 (su + sd))) (w.heap.size + 1 + 1 + 1) 3 #[.int .i64 (-1)] := (HIN.out.r.call hbq).other (show w.heap.size + 1 + 1 + 1 ≠ w.heap.size + 1 + 1 + 1 + 1 by omega) _
    have hn8 : Lies (wq.setCell ⟨w.heap.size + 1 + 1 + 1 + 1, 0, none⟩ (.int .i64 (su + sd))) (w.heap.size + 1 + 1) 3 #[.int .i64 number] := (HIN.out.n.call hbq).other (show w.heap.size + 1 + 1 ≠ w.heap.size + 1 + 1 + 1 + 1 by omega) _
    have c7 : wq.cell? ⟨w.heap.size + 1 + 1 + 1 + 1, 0, none⟩ = some (.int .i64 su) := hv7.at_ 0
    have f7 : wq.frozen? ⟨w.heap.size + 1 + 1 + 1 + 1, 0, none⟩ = false := hv7.free 0
    have c8 : (wq.setCell ⟨w.heap.size + 1 + 1 + 1 + 1, 0, none⟩ (.int .i64 (su + sd))).cell? ⟨w.heap.size + 1 + 1 + 1 + 1, 0, none⟩ = some (.int .i64 (su + sd)) := hv8.at_ 0
    have d8 : (wq.setCell ⟨w.heap.size + 1 + 1 + 1 + 1, 0, none⟩ (.int .i64 (su + sd))).cell? ⟨w.heap.size + 1 + 1, 0, none⟩ = some (.int .i64 number) := hn8.at_ 0
    have e8 : (wq.setCell ⟨w.heap.size + 1 + 1 + 1 + 1, 0, none⟩ (.int .i64 (su + sd))).cell? ⟨w.heap.size + 1 + 1 + 1, 0, none⟩ = some (.int .i64 (-1)) := hr8.at_ 0
    have f8 : (wq.setCell ⟨w.heap.size + 1 + 1 + 1 + 1, 0, none⟩ (.int .i64 (su + sd))).frozen? ⟨w.heap.size + 1 + 1 + 1, 0, none⟩ = false := hr8.free 0
    have HV8 := Lib.hid hv8
    have HR8 := Lib.hid hr8
    have HN8 := Lib.hid hn8
    have HO8 := Lib.hid hO
    have HZ8 := Lib.hid ((HIN.out.z.call hbq).other (p := ⟨w.heap.size + 1 + 1 + 1 + 1, 0, none⟩) (show w.heap.size + 1 ≠ w.heap.size + 1 + 1 + 1 + 1 by omega) (.int .i64 (su + sd)))
    have HV7 := Lib.hid hv7
    clear hv8 hr8 hn8 hO hv7
    gi_wp2
    · have hk1 : Only (w.heap.size + 1 + 1 + 1) (wq.setCell ⟨w.heap.size + 1 + 1 + 1 + 1, 0, none⟩ (.int .i64 (su + sd))) ((wq.setCell ⟨w.heap.size + 1 + 1 + 1 + 1, 0, none⟩ (.int .i64 (su + sd))).setCell ⟨w.heap.size + 1 + 1 + 1, 0, none⟩ (.int .i64 k)) := Only.set _ _ _ _
      refine ⟨KeepsFrom.trans (KeepsFrom.trans (KeepsFrom.of_below hbq) (KeepsFrom.of_only HO8.out HV7.out)) (KeepsFrom.of_only hk1 HR8.out), rfl, ?_, hk1.below (HO8.out.below (HIN.out.b.trans (hbq.mono hB2)) (by omega)) (by omega), by omega, ?_, fun j hj => HIN.out.no j (by omega)⟩
      · have e : (((k + 1 : Nat) : Int) - 1) = (k : Int) := by omega
        rw [e]; exact HR8.out.set 0 _
      · rw [hup]; omega
    · refine ⟨KeepsFrom.trans (KeepsFrom.of_below hbq) (KeepsFrom.of_only HO8.out HV7.out), s, (Keeps.of_below hbq hB2).trans (Keeps.of_only HO8.out HV7.out (by omega) (by decide)), HIN.out.s, HR8.out, ?_, HZ8.out, HN8.out, HO8.out.below (HIN.out.b.trans (hbq.mono hB2)) (by omega), ?_, ?_⟩
      · rw [hup]; exact HV8.out
      · rw [HO8.out.size]; exact Nat.le_trans HIN.out.d hbq.size
      · intro j hj
        by_cases hjk : j = k
        · subst hjk; rw [hup]; omega
        · exact HIN.out.no j (by omega)
  case done =>
    intro D s W2 hD hi hd
    rw [yearsL_length] at hi
    have c7 : W2.cell? ⟨w.heap.size + 1 + 1 + 1, 0, none⟩ = some (.int .i64 (-1)) := hi.r.at_ 0
    have hr : reachL p t pl size number t.g.l.length = -1 := reachL_none hi.no
    go_wp2
    refine leave_mark hd ⟨_, results_tmp rfl _ _ _, (by rw [hr]; rfl), hi.b.trans ((Below.refl _ _).grown (grownBy_putObj' W2 D _) hi.b.size (fun k e => by cases e; omega))⟩
end Go.Proofs.Ytlkdmcdnkoiflaa
