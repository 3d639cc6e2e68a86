/- The texts TW OW TW3 SD TN TQ TL, joined. -/
import Derived.Test.YtlkdmcdnkoiflaaGF
import Derived.Test.YtlkdmcdnkoiflaaGE
import Derived.Test.YtlkdmcdnkoiflaaGH
import Derived.Test.YtlkdmcdnkoiflaaGI
/- A law for a region that draws its order: reads first; then whatever ways are left, as a tree; then the tail in its order. -/
namespace Go.Proofs.Ytlkdmcdnkoiflaa
open Go.RowKit Go.Lib

/-- The ways in which operations may come: 'way i next rest': i and then next; or one of rest. -/
inductive Ways
  | fin
  | way (i : Nat) (next rest : Ways)
namespace Ways
def heads : Ways → List Nat
  | fin => []
  | way i _ rest => i :: rest.heads
def depth : Ways → Nat
  | fin => 0
  | way _ next rest => max (next.depth + 1) rest.depth
/-- A chain. -/
def chain : List Nat → Ways → Ways
  | [], w => w
  | i :: l, w => way i (chain l w) fin
end Ways
section
variable {P : Program} {ops : Array Oper} {md : Region.Mode} {S : World → Prop} {Q : Exit → Act → World → Prop} {T : Act → World → Prop}
/-- Are these all the ways from here? -/
def waysB (md : Region.Mode) (ops : Array Oper) : Bool → Array Bool → Ways → Bool
  | true, L, .fin => (Region.ready md ops L).isEmpty
  | false, _, .fin => true
  | b, L, .way i next rest => (!b || ((Region.ready md ops L).all fun j => (Ways.way i next rest).heads.contains j) && !(Region.ready md ops L).isEmpty) && waysB md ops true (L.setIfInBounds i true) next && waysB md ops false L rest
/-- What is owed along the ways. -/
def wpWays (P : Program) (ops : Array Oper) (S : World → Prop) (T : Act → World → Prop) : Bool → Ways → Act → World → Prop
  | true, .fin, a, w => T a w
  | false, .fin, _, _ => True
  | _, .way i next rest, a, w => (match ops[i]? with | some o => wpList P ops (Ends fun a' w' => S w' ∧ wpWays P ops S T true next a' w') [o] a w | none => False) ∧ wpWays P ops S T false rest a w
theorem waysB_way (b : Bool) (L : Array Bool) (i : Nat) (next rest : Ways) : waysB md ops b L (.way i next rest) = ((!b || ((Region.ready md ops L).all fun j => (Ways.way i next rest).heads.contains j) && !(Region.ready md ops L).isEmpty) && waysB md ops true (L.setIfInBounds i true) next && waysB md ops false L rest) := by
  cases b <;> rfl
theorem wpWays_way (b : Bool) (i : Nat) (next rest : Ways) (a : Act) (w : World) : wpWays P ops S T b (.way i next rest) a w = ((match ops[i]? with | some o => wpList P ops (Ends fun a' w' => S w' ∧ wpWays P ops S T true next a' w') [o] a w | none => False) ∧ wpWays P ops S T false rest a w) := by
  cases b <;> rfl
theorem wpWays_fin (a : Act) (w : World) : wpWays P ops S T true .fin a w = T a w := rfl
theorem wpWays_none (a : Act) (w : World) : wpWays P ops S T false .fin a w = True := rfl
theorem wpWays_alt : ∀ (t : Ways) (b : Bool) (L : Array Bool) (a : Act) (w : World) (i : Nat), waysB md ops b L t = true → wpWays P ops S T b t a w → i ∈ t.heads →
    ∃ next o, ops[i]? = some o ∧ waysB md ops true (L.setIfInBounds i true) next = true ∧ next.depth + 1 ≤ t.depth ∧ wpList P ops (Ends fun a' w' => S w' ∧ wpWays P ops S T true next a' w') [o] a w
  | .fin, _, _, _, _, _, _, _, hi => by cases hi
  | .way j next rest, b, L, a, w, i, hB, h, hi => by
    rw [waysB_way] at hB
    rw [wpWays_way] at h
    simp only [Bool.and_eq_true] at hB
    obtain ⟨⟨_, h1⟩, h2⟩ := hB
    rcases List.mem_cons.1 hi with e | hi
    · subst e
      have h3 := h.1
      cases ho : ops[i]? with
      | none => rw [ho] at h3; exact h3.elim
      | some o =>
        rw [ho] at h3
        exact ⟨next, o, rfl, h1, Nat.le_max_left _ _, h3⟩
    · obtain ⟨n', o, e1, e2, e3, e4⟩ := wpWays_alt rest false L a w i h2 h.2 hi
      exact ⟨n', o, e1, e2, Nat.le_trans e3 (Nat.le_max_right _ _), e4⟩
theorem wpAnyH_ways : ∀ (m : Nat) (t : Ways) (L : Array Bool) (a : Act) (w : World), t.depth ≤ m → waysB md ops true L t = true → wpWays P ops S T true t a w → wpAnyH P md ops (Ends T) S m L a w
  | m, .fin, L, a, w, _, hB, h => by
    have hr : Region.ready md ops L = [] := by simpa [waysB] using hB
    exact Go.wpAnyH_done hr h m
  | 0, .way i next rest, L, a, w, hd, _, _ => by unfold Ways.depth at hd; omega
  | m + 1, .way i next rest, L, a, w, hd, hB, h => by
    have hB' := hB
    rw [waysB_way] at hB'
    simp only [Bool.not_true, Bool.false_or, Bool.and_eq_true] at hB'
    obtain ⟨⟨⟨hall, hne⟩, _⟩, _⟩ := hB'
    refine ⟨fun h0 => (by rw [h0] at hne; cases hne), fun j hj => ?_⟩
    have hjh : j ∈ (Ways.way i next rest).heads := by simpa using List.all_eq_true.1 hall j hj
    obtain ⟨n', o, ho, h1, h2, h3⟩ := wpWays_alt _ true L a w j hB h hjh
    have h4 := wpList_one h3
    have step : ∀ (a' : Act) (w' : World), (S w' ∧ wpWays P ops S T true n' a' w') → S w' ∧ wpAnyH P md ops (Ends T) S m (L.setIfInBounds j true) a' w' := fun a' w' h' =>
      ⟨h'.1, wpAnyH_ways m n' _ a' w' (by omega) h1 h'.2⟩
    unfold wpOp
    simp only [ho]
    split
    · rename_i hw
      rw [if_pos hw] at h4
      exact .inl (Oper.wp_ends (fun a' w' h' => step a' w' h') h4)
    · rename_i hw
      rw [if_neg hw] at h4
      exact step _ _ h4
def partB (l : List Oper) (n : Nat) (rs : List Nat) (t : Ways) : Bool :=
  Region.sinkB .any l.toArray n && Region.chainB .any l.toArray n && headOk l.toArray n && Region.seqB .any l.toArray (l.drop n).length n ((Array.replicate l.length false).mapIdx fun i _ => decide (i < n)) && decide (n < l.length) &&
    Region.noSelect (l.take n).toArray && takesB .any (l.take n).toArray (Array.replicate n false) rs && waysB .any (l.take n).toArray true (takenB (Array.replicate n false) rs) t && decide (t.depth + rs.length = n)
/-- THE LAW. -/
theorem wp_region_ways {id : Nat} {l : List Oper} {a : Act} {w : World} (n : Nat) (rs : List Nat) (t : Ways) (S : World → Prop) (hm : P.follows .mixedOrders = true) (hB : partB l n rs t = true) (hS : S w.drew)
    (h : wpQuiet P (l.take n).toArray S (fun a' => wpWays P (l.take n).toArray S (fun a w => wpList P l.toArray Q (l.drop n) a w) true t a' w.drew) (rs.filterMap ((l.take n).toArray[·]?)) a) :
    (Code.region id l.toArray true).wp P Q a w := by
  simp only [partB, Bool.and_eq_true, decide_eq_true_eq] at hB
  obtain ⟨⟨⟨⟨⟨⟨⟨⟨b1, b2⟩, b3⟩, b4⟩, b5⟩, b6⟩, b7⟩, b8⟩, b9⟩ := hB
  have hn : n < l.toArray.size := by simpa using b5
  have e : l.toArray.extract 0 n = (l.take n).toArray := by simp
  have hsz : (l.take n).toArray.size = n := by simp; omega
  refine wp_region_any hm ?_
  have inv : HeadInv .any l.toArray n (Array.replicate l.toArray.size false) := ⟨by simp, (fun j oj _ hl => by rw [getD_replicate_false] at hl; cases hl), fun t _ ht => by simp at ht; simp [ht]⟩
  have hu : unl n (Array.replicate l.toArray.size false) = n := by
    unfold unl
    rw [List.countP_eq_length.2 (fun i hi => by
      have h1 := List.mem_range.1 hi
      have h2 : i < l.length := by omega
      simp [h2]), List.length_range]
  have e1 : (Array.replicate l.toArray.size false).extract 0 n = Array.replicate n false := by
    apply Array.ext_getElem?
    intro j
    by_cases hj : j < n
    · rw [ext0 _ hj, Array.getElem?_replicate, Array.getElem?_replicate, if_pos hj, if_pos (by omega)]
    · rw [Array.getElem?_eq_none (by simp; omega), Array.getElem?_eq_none (by simp; omega)]
  have hlen : n + (l.drop n).length = l.toArray.size := by simp; omega
  suffices hg : wpAny P .any l.toArray Q (n + (l.drop n).length) (Array.replicate l.toArray.size false) a { w with drawn := w.drawn + 1 } by rw [hlen] at hg; exact hg
  refine wpAny_of_truncE (T := fun a w => wpList P l.toArray Q (l.drop n) a w) b1 b2 b3 hn (fun L a' w' inv' hu' hT => ?_) n _ a _ inv hu ?_
  · have eL : L = (Array.replicate l.length false).mapIdx fun i _ => decide (i < n) := by
      apply Array.ext (by simp [inv'.size])
      intro i h1 h2
      simp only [Array.getElem_mapIdx]
      by_cases hi : i < n
      · have := unl_zero hu' i hi; simp [h1] at this; simp [hi, this]
      · have := inv'.tail i (by omega) (by rw [← inv'.size]; exact h1); simp [h1] at this; simp [hi, this]
    subst eL
    exact wpAny_of_seq (l.drop n) n _ a' w' (fun j => by simp [List.getElem?_drop]) b4 hT
  · rw [e1, e]
    refine wpAny_of_held (S := S) _ _ _ _ ?_
    suffices hg : wpAnyH P .any (l.take n).toArray (Ends fun a w => wpList P l.toArray Q (l.drop n) a w) S (t.depth + rs.length) (Array.replicate n false) a { w with drawn := w.drawn + 1 } by rw [b9] at hg; exact hg
    refine wpAnyH_takes b6 rs _ a _ t.depth hS b7 ?_
    refine wpQuiet_mono (fun a' ha => ?_) _ _ h
    exact wpAnyH_ways _ t _ a' _ (Nat.le_refl _) b8 ha
end
end Go.Proofs.Ytlkdmcdnkoiflaa

/- Several rows of one's own, apart from one another, in worlds that grow. -/
namespace Go.Proofs.Ytlkdmcdnkoiflaa
open Go.RowKit Go.Lib

/-- A row of one's own, as a word. -/
structure RowO where
  B : Nat
  e : TypeId
  s : Nat
  v : Value
  n : Nat
  xs : List Value
def RowO.In (r : RowO) (w : World) : Prop := w.ownsRow r.B r.e r.s r.v r.n r.xs
/-- What has come of a world with the rows l0: the rows l; all else of old is as it was. -/
structure Since (w0 : World) (l0 l : List RowO) (w : World) : Prop where
  os : w.os = w0.os
  tape : w.tape = w0.tape
  output : w.output = w0.output
  size : w0.heap.size ≤ w.heap.size
  block : ∀ k, k < w0.heap.size → (∀ r : RowO, r ∈ l0 → r.v.ownBlock ≠ some k) → w.heap[k]? = w0.heap[k]?
  come : ∀ r : RowO, r ∈ l → ∀ g, r.v.ownBlock = some g → (∃ r0 : RowO, r0 ∈ l0 ∧ r0.v.ownBlock = some g) ∨ w0.heap.size ≤ g
  own : ∀ (i : Nat) (r : RowO), l[i]? = some r → r.In w
  ne : ∀ (i j : Nat) (r r' : RowO), l[i]? = some r → l[j]? = some r' → i ≠ j → ∀ g, r.v.ownBlock = some g → r'.v.ownBlock ≠ some g
namespace Since
variable {w0 w w' : World} {l0 l : List RowO}
theorem start (h : ∀ (i : Nat) (r : RowO), l0[i]? = some r → r.In w0) (hne : ∀ (i j : Nat) (r r' : RowO), l0[i]? = some r → l0[j]? = some r' → i ≠ j → ∀ g, r.v.ownBlock = some g → r'.v.ownBlock ≠ some g) : Since w0 l0 l0 w0 :=
  ⟨rfl, rfl, rfl, Nat.le_refl _, fun _ _ _ => rfl, fun r hr _g hg => .inl ⟨r, hr, hg⟩, h, hne⟩
theorem drew (h : Since w0 l0 l w) : Since w0 l0 l w.drew := ⟨h.os, h.tape, h.output, h.size, h.block, h.come, h.own, h.ne⟩
theorem call (h : Since w0 l0 l w) (hb : Below w.heap.size w w') : Since w0 l0 l w' :=
  ⟨hb.os.trans h.os, hb.tape.trans h.tape, hb.output.trans h.output, Nat.le_trans h.size hb.size, fun k hk hn => (hb.block k (Nat.lt_of_lt_of_le hk h.size)).trans (h.block k hk hn), h.come, fun i r hr => ownsRow_call (h.own i r hr) hb, h.ne⟩
theorem alloc (h : Since w0 l0 l w) (o : Obj) : Since w0 l0 l (w.alloc o) := h.call ((Below.refl _ _).alloc (Nat.le_refl _) _)
/-- An append to row i. -/
theorem app (h : Since w0 l0 l w) {i : Nat} {r : RowO} (hi : l[i]? = some r) {g m c : Nat} {xs : List Value} (hown : w'.ownsRow r.B r.e r.s (.slice (some ⟨g, 0, none⟩) m c) m xs) (hg : w.grownBy w' r.v.ownBlock) (hat : r.v.ownBlock = some g ∨ g = w.heap.size) :
    Since w0 l0 (l.set i ⟨r.B, r.e, r.s, .slice (some ⟨g, 0, none⟩) m c, m, xs⟩) w' := by
  have hlt : i < l.length := (List.getElem?_eq_some_iff.1 hi).1
  have hmem : r ∈ l := List.mem_of_getElem? hi
  have hgb : ∀ b, (Value.slice (some ⟨g, 0, none⟩) m c).ownBlock = some b → b = g := fun b e => by cases e; rfl
  have old : ∀ (j : Nat) (r' : RowO), l[j]? = some r' → j ≠ i → ∀ b, r'.v.ownBlock = some b → some b ≠ r.v.ownBlock ∧ b ≠ g := fun j r' hj hji b hb => by
    refine ⟨fun e => h.ne i j r r' hi hj (Ne.symm hji) b e.symm hb, fun e => ?_⟩
    subst e
    rcases hat with h1 | h1
    · exact h.ne i j r r' hi hj (Ne.symm hji) _ h1 hb
    · have := (own_at (h.own j r' hj) hb).2.1; omega
  refine ⟨hg.os.trans h.os, hg.tape.trans h.tape, hg.output.trans h.output, Nat.le_trans h.size hg.size, fun k hk hn => ?_, fun q hq b hb => ?_, fun j q hj => ?_, fun j j' q q' hj hj' hjj b hb => ?_⟩
  · rw [hg.block k (Nat.lt_of_lt_of_le hk h.size) (fun e => ?_), h.block k hk hn]
    rcases h.come r hmem k e.symm with ⟨r0, h0, h1⟩ | h1
    · exact hn r0 h0 h1
    · omega
  · obtain ⟨j, hj⟩ := List.getElem?_of_mem hq
    rw [List.getElem?_set] at hj
    by_cases hij : i = j
    · rw [if_pos hij, if_pos hlt] at hj
      cases hj
      obtain rfl := hgb b hb
      rcases hat with h1 | h1
      · exact h.come r hmem _ h1
      · right; have := h.size; omega
    · rw [if_neg hij] at hj
      exact h.come q (List.mem_of_getElem? hj) b hb
  · rw [List.getElem?_set] at hj
    by_cases hij : i = j
    · rw [if_pos hij, if_pos hlt] at hj
      cases hj
      exact hown
    · rw [if_neg hij] at hj
      exact own_keep (h.own j q hj) fun b hb => hg.block b (own_at (h.own j q hj) hb).2.1 (old j q hj (Ne.symm hij) b hb).1
  · rw [List.getElem?_set] at hj hj'
    by_cases hij : i = j
    · rw [if_pos hij, if_pos hlt] at hj
      cases hj
      rw [if_neg (by omega)] at hj'
      obtain rfl := hgb b hb
      exact fun e => (old j' q' hj' (by omega) _ e).2 rfl
    · rw [if_neg hij] at hj
      by_cases hij' : i = j'
      · rw [if_pos hij', if_pos hlt] at hj'
        cases hj'
        exact fun e => (old j q hj (by omega) b hb).2 (hgb b e)
      · rw [if_neg hij'] at hj'
        exact h.ne j j' q q' hj hj' hjj b hb
theorem lies {k : Nat} {t : TypeId} {cs : Array Value} (h : Since w0 l0 l w) (hl : Lies w0 k t cs) (hn : ∀ r : RowO, r ∈ l0 → r.v.ownBlock ≠ some k) : Lies w k t cs := hl.to_ (h.block k hl.in_ hn)
theorem cell {p : Addr} {v : Value} (h : Since w0 l0 l w) (hc : w0.cell? p = some v) (hn : ∀ r : RowO, r ∈ l0 → r.v.ownBlock ≠ some p.block) : w.cell? p = some v :=
  (World.cell?_of_block (w := w0) (h.block p.block (World.block_lt_of_cell? w0 _ hc) hn)).trans hc
theorem below {B : Nat} (h : Since w0 l0 l w) (hB : ∀ r : RowO, r ∈ l0 → ∀ g, r.v.ownBlock = some g → B ≤ g) (hs : B ≤ w0.heap.size) : Below B w0 w :=
  ⟨h.os, h.tape, h.output, h.size, fun k hk => h.block k (by omega) (fun r hr e => by have := hB r hr k e; omega)⟩
end Since
/-- The worlds that have come of w0, as a class. -/
structure SinceW (w0 : World) (l0 : List RowO) where
  val : World
  l : List RowO
  h : Since w0 l0 l val
theorem SinceW.cell {w0 : World} {l0 : List RowO} {p : Addr} {v : Value} (hc : w0.cell? p = some v) (hn : ∀ r : RowO, r ∈ l0 → r.v.ownBlock ≠ some p.block) (c : SinceW w0 l0) : c.val.cell? p = some v := c.h.cell hc hn
theorem Since.here {w0 w : World} {l0 l : List RowO} (h : Since w0 l0 l w) : ∃ c : SinceW w0 l0, w = c.val := ⟨⟨w, l, h⟩, rfl⟩
end Go.Proofs.Ytlkdmcdnkoiflaa

/- The law of TW where built-in min, max and len, and assignments, are let in among the reads. -/
namespace Go.Proofs.Ytlkdmcdnkoiflaa
open Go.RowKit Go.Lib

section
variable {P : Program} {ops : Array Oper} {md : Region.Mode} {S : World → Prop} {Q : Exit → Act → World → Prop} {T : Act → World → Prop}
/-- As valueB, with assignments and three built-in functions. -/
def value3B : Op → Bool
  | .assign _ => true
  | .build .. => true
  | .call c => (match c.callee with | .builtin .min => true | .builtin .max => true | .builtin .len => true | _ => false)
  | o => valueB o
theorem exec_call3 {o : Oper} {c : Call} (ho : o.op = .call c) (hv : value3B (.call c) = true) (ρ : Operand → Value) (w : World) : (∃ u w', (execOp ρ o).run P w = .ok (.value u) w') ∨ (∃ x w', (execOp ρ o).run P w = .halt x w') := by
  have key : ∀ s : Sem Value, (∃ u w', (do pure (.value (← s)) : Sem Next).run P w = .ok (.value u) w') ∨ (∃ x w', (do pure (.value (← s)) : Sem Next).run P w = .halt x w') := fun s => by
    rw [Sem.run_bind]
    cases h : s.run P w with
    | ok u w' => left; exact ⟨u, w', by simp [Result.andThen, Sem.run_pure]⟩
    | halt x w' => right; exact ⟨x, w', by simp [Result.andThen]⟩
  unfold execOp
  simp only [ho]
  unfold resolve
  simp only [value3B] at hv
  split at hv <;> rename_i hc
  · simp only [hc, pure_bind]; exact key _
  · simp only [hc, pure_bind]; exact key _
  · simp only [hc, pure_bind]; exact key _
  · cases hv
theorem exec_build3 {o : Oper} {t : TypeId} {parts : Array (Nat × Operand)} (ho : o.op = .build t parts) (ρ : Operand → Value) (w : World) : (∃ u w', (execOp ρ o).run P w = .ok (.value u) w') ∨ (∃ x w', (execOp ρ o).run P w = .halt x w') := by
  have key : ∀ s : Sem Value, (∃ u w', (do pure (.value (← s)) : Sem Next).run P w = .ok (.value u) w') ∨ (∃ x w', (do pure (.value (← s)) : Sem Next).run P w = .halt x w') := fun s => by
    rw [Sem.run_bind]
    cases h : s.run P w with
    | ok u w' => left; exact ⟨u, w', by simp [Result.andThen, Sem.run_pure]⟩
    | halt x w' => right; exact ⟨x, w', by simp [Result.andThen]⟩
  unfold execOp
  simp only [ho]
  exact key _
theorem yieldsIf_of_quiet3 {o : Oper} {a : Act} {v : Value} {C : World → Prop} (hv : value3B o.op = true) (hw : Region.wanted o (yielded ops a.tmps) = true) (h : ∀ w, C w → o.quietAt P a C w v) : YieldsIf P ops C o v a := by
  cases ho : o.op with
  | assign x => exact yieldsIf_of_quiet2 (by rw [ho]; rfl) hw h
  | build t parts =>
    refine .inl ⟨hw, fun w hC => ?_⟩
    have h1 := h w hC
    unfold Oper.quietAt at h1
    rcases exec_build3 (P := P) ho a.eval w with ⟨u, w', e⟩ | ⟨x, w', e⟩
    · rw [e] at h1 ⊢
      obtain ⟨rfl, rfl⟩ := h1
      rfl
    · rw [e] at h1; exact h1.elim
  | call c =>
    refine .inl ⟨hw, fun w hC => ?_⟩
    have h1 := h w hC
    unfold Oper.quietAt at h1
    rcases exec_call3 (P := P) ho (by rw [ho] at hv; exact hv) a.eval w with ⟨u, w', e⟩ | ⟨x, w', e⟩
    · rw [e] at h1 ⊢
      obtain ⟨rfl, rfl⟩ := h1
      rfl
    · rw [e] at h1; exact h1.elim
  | _ => exact yieldsIf_of_quiet (by rw [ho] at hv ⊢; exact hv) hw h
def takes3B (md : Region.Mode) (ops : Array Oper) : Array Bool → List Nat → Bool
  | _, [] => true
  | L, i :: rs => (Region.ready md ops L).contains i && Region.free md ops L i && (match ops[i]? with | some o => value3B o.op | none => false) && takes3B md ops (L.setIfInBounds i true) rs
theorem wpAnyH_takes3 (hns : Region.noSelect ops = true) : ∀ (rs : List Nat) (L : Array Bool) (a : Act) (w : World) (f : Nat), S w → takes3B md ops L rs = true →
    wpQuiet P ops S (fun a' => wpAnyH P md ops (Ends T) S f (takenB L rs) a' w) (rs.filterMap (ops[·]?)) a → wpAnyH P md ops (Ends T) S (f + rs.length) L a w
  | [], L, a, w, f, _, _, h => h
  | i :: rs, L, a, w, f, hS, hB, h => by
    simp only [takes3B, Bool.and_eq_true] at hB
    obtain ⟨⟨⟨h1, h2⟩, h3⟩, h4⟩ := hB
    have hi : i ∈ Region.ready md ops L := by simpa using h1
    obtain ⟨_, o, ho, _⟩ := mem_ready.1 hi
    rw [List.filterMap_cons, ho] at h
    rw [ho] at h3
    simp only [wpQuiet] at h
    have hstep : ∃ v, YieldsIf P ops S o v a ∧ wpQuiet P ops S (fun a' => wpAnyH P md ops (Ends T) S f (takenB L (i :: rs)) a' w) (rs.filterMap (ops[·]?)) (a.put o.dst v) := by
      by_cases hw : Region.wanted o (yielded ops a.tmps) = true
      · rw [if_pos hw] at h
        obtain ⟨v, hv, hk⟩ := h
        exact ⟨v, yieldsIf_of_quiet3 h3 hw hv, hk⟩
      · rw [if_neg hw] at h
        exact ⟨undef, .inr ⟨by simpa using hw, rfl⟩, h⟩
    obtain ⟨v, hy, hk⟩ := hstep
    exact wpAnyH_take (i := i) ho hns h2 (by simpa using h1) (fun _ _ _ h => h) hy hS (wpAnyH_takes3 hns rs _ _ w f hS h4 hk)
/-- The ways in which operations may come; 'take i next': i may be taken at once. -/
inductive Wy
  | fin
  | take (i : Nat) (next : Wy)
  | way (i : Nat) (next rest : Wy)
namespace Wy
def heads : Wy → List Nat
  | fin => []
  | take _ _ => []
  | way i _ rest => i :: rest.heads
def depth : Wy → Nat
  | fin => 0
  | take _ next => next.depth + 1
  | way _ next rest => max (next.depth + 1) rest.depth
end Wy
/-- Are these all the ways from here? -/
def wysB (md : Region.Mode) (ops : Array Oper) : Bool → Array Bool → Wy → Bool
  | true, L, .fin => (Region.ready md ops L).isEmpty
  | false, _, .fin => true
  | true, L, .take i next => (Region.ready md ops L).contains i && Region.free md ops L i && (match ops[i]? with | some o => value3B o.op | none => false) && wysB md ops true (L.setIfInBounds i true) next
  | false, _, .take _ _ => false
  | b, L, .way i next rest => (!b || ((Region.ready md ops L).all fun j => (Wy.way i next rest).heads.contains j) && !(Region.ready md ops L).isEmpty) && wysB md ops true (L.setIfInBounds i true) next && wysB md ops false L rest
/-- What is owed along the ways. -/
def wpWy (P : Program) (ops : Array Oper) (S : World → Prop) (T : Act → World → Prop) : Bool → Wy → Act → World → Prop
  | true, .fin, a, w => T a w
  | false, .fin, _, _ => True
  | _, .take i next, a, w => match ops[i]? with | some o => wpQuiet P ops S (fun a' => wpWy P ops S T true next a' w) [o] a | none => False
  | _, .way i next rest, a, w => (match ops[i]? with | some o => wpList P ops (Ends fun a' w' => S w' ∧ wpWy P ops S T true next a' w') [o] a w | none => False) ∧ wpWy P ops S T false rest a w
theorem wysB_way (b : Bool) (L : Array Bool) (i : Nat) (next rest : Wy) : wysB md ops b L (.way i next rest) = ((!b || ((Region.ready md ops L).all fun j => (Wy.way i next rest).heads.contains j) && !(Region.ready md ops L).isEmpty) && wysB md ops true (L.setIfInBounds i true) next && wysB md ops false L rest) := by
  cases b <;> rfl
theorem wpWy_way (b : Bool) (i : Nat) (next rest : Wy) (a : Act) (w : World) : wpWy P ops S T b (.way i next rest) a w = ((match ops[i]? with | some o => wpList P ops (Ends fun a' w' => S w' ∧ wpWy P ops S T true next a' w') [o] a w | none => False) ∧ wpWy P ops S T false rest a w) := by
  cases b <;> rfl
theorem wpWy_take (b : Bool) (i : Nat) (next : Wy) (a : Act) (w : World) : wpWy P ops S T b (.take i next) a w = (match ops[i]? with | some o => wpQuiet P ops S (fun a' => wpWy P ops S T true next a' w) [o] a | none => False) := by
  cases b <;> rfl
theorem wpWy_fin (a : Act) (w : World) : wpWy P ops S T true .fin a w = T a w := rfl
theorem wpWy_alt : ∀ (t : Wy) (b : Bool) (L : Array Bool) (a : Act) (w : World) (i : Nat), wysB md ops b L t = true → wpWy P ops S T b t a w → i ∈ t.heads →
    ∃ next o, ops[i]? = some o ∧ wysB md ops true (L.setIfInBounds i true) next = true ∧ next.depth + 1 ≤ t.depth ∧ wpList P ops (Ends fun a' w' => S w' ∧ wpWy P ops S T true next a' w') [o] a w
  | .fin, _, _, _, _, _, _, _, hi => by cases hi
  | .take _ _, _, _, _, _, _, _, _, hi => by cases hi
  | .way j next rest, b, L, a, w, i, hB, h, hi => by
    rw [wysB_way] at hB
    rw [wpWy_way] at h
    simp only [Bool.and_eq_true] at hB
    obtain ⟨⟨_, h1⟩, h2⟩ := hB
    rcases List.mem_cons.1 hi with e | hi
    · subst e
      have h3 := h.1
      cases ho : ops[i]? with
      | none => rw [ho] at h3; exact h3.elim
      | some o =>
        rw [ho] at h3
        exact ⟨next, o, rfl, h1, Nat.le_max_left _ _, h3⟩
    · obtain ⟨n', o, e1, e2, e3, e4⟩ := wpWy_alt rest false L a w i h2 h.2 hi
      exact ⟨n', o, e1, e2, Nat.le_trans e3 (Nat.le_max_right _ _), e4⟩
theorem wpAnyH_wy (hns : Region.noSelect ops = true) : ∀ (m : Nat) (t : Wy) (L : Array Bool) (a : Act) (w : World), t.depth ≤ m → S w → wysB md ops true L t = true → wpWy P ops S T true t a w → wpAnyH P md ops (Ends T) S m L a w
  | m, .fin, L, a, w, _, _, hB, h => by
    have hr : Region.ready md ops L = [] := by simpa [wysB] using hB
    exact Go.wpAnyH_done hr h m
  | 0, .take i next, L, a, w, hd, _, _, _ => by unfold Wy.depth at hd; omega
  | m + 1, .take i next, L, a, w, hd, hS, hB, h => by
    simp only [wysB, Bool.and_eq_true] at hB
    obtain ⟨⟨⟨h1, h2⟩, h3⟩, h4⟩ := hB
    have hi : i ∈ Region.ready md ops L := by simpa using h1
    obtain ⟨_, o, ho, _⟩ := mem_ready.1 hi
    rw [wpWy_take, ho] at h
    rw [ho] at h3
    simp only [wpQuiet] at h
    have hstep : ∃ v, YieldsIf P ops S o v a ∧ wpWy P ops S T true next (a.put o.dst v) w := by
      by_cases hw : Region.wanted o (yielded ops a.tmps) = true
      · rw [if_pos hw] at h
        obtain ⟨v, hv, hk⟩ := h
        exact ⟨v, yieldsIf_of_quiet3 h3 hw hv, hk⟩
      · rw [if_neg hw] at h
        exact ⟨undef, .inr ⟨by simpa using hw, rfl⟩, h⟩
    obtain ⟨v, hy, hk⟩ := hstep
    refine wpAnyH_take (i := i) ho hns h2 (by simpa using h1) (fun _ _ _ h => h) hy hS ?_
    exact wpAnyH_wy hns m next _ _ w (by unfold Wy.depth at hd; omega) hS h4 hk
  | 0, .way i next rest, L, a, w, hd, _, _, _ => by unfold Wy.depth at hd; omega
  | m + 1, .way i next rest, L, a, w, hd, _, hB, h => by
    have hB' := hB
    rw [wysB_way] at hB'
    simp only [Bool.not_true, Bool.false_or, Bool.and_eq_true] at hB'
    obtain ⟨⟨⟨hall, hne⟩, _⟩, _⟩ := hB'
    refine ⟨fun h0 => (by rw [h0] at hne; cases hne), fun j hj => ?_⟩
    have hjh : j ∈ (Wy.way i next rest).heads := by simpa using List.all_eq_true.1 hall j hj
    obtain ⟨n', o, ho, h1, h2, h3⟩ := wpWy_alt _ true L a w j hB h hjh
    have h4 := wpList_one h3
    have step : ∀ (a' : Act) (w' : World), (S w' ∧ wpWy P ops S T true n' a' w') → S w' ∧ wpAnyH P md ops (Ends T) S m (L.setIfInBounds j true) a' w' := fun a' w' h' =>
      ⟨h'.1, wpAnyH_wy hns m n' _ a' w' (by omega) h'.1 h1 h'.2⟩
    unfold wpOp
    simp only [ho]
    split
    · rename_i hw
      rw [if_pos hw] at h4
      exact .inl (Oper.wp_ends (fun a' w' h' => step a' w' h') h4)
    · rename_i hw
      rw [if_neg hw] at h4
      exact step _ _ h4
def part3B (l : List Oper) (n : Nat) (rs : List Nat) (t : Wy) : Bool :=
  Region.sinkB .any l.toArray n && Region.chainB .any l.toArray n && headOk l.toArray n && Region.seqB .any l.toArray (l.drop n).length n ((Array.replicate l.length false).mapIdx fun i _ => decide (i < n)) && decide (n < l.length) &&
    Region.noSelect (l.take n).toArray && takes3B .any (l.take n).toArray (Array.replicate n false) rs && wysB .any (l.take n).toArray true (takenB (Array.replicate n false) rs) t && decide (t.depth + rs.length = n)
/-- THE LAW. -/
theorem wp_region_ways3 {id : Nat} {l : List Oper} {a : Act} {w : World} (n : Nat) (rs : List Nat) (t : Wy) (S : World → Prop) (hm : P.follows .mixedOrders = true) (hB : part3B l n rs t = true) (hS : S w.drew)
    (h : wpQuiet P (l.take n).toArray S (fun a' => wpWy P (l.take n).toArray S (fun a w => wpList P l.toArray Q (l.drop n) a w) true t a' w.drew) (rs.filterMap ((l.take n).toArray[·]?)) a) :
    (Code.region id l.toArray true).wp P Q a w := by
  simp only [part3B, Bool.and_eq_true, decide_eq_true_eq] at hB
  obtain ⟨⟨⟨⟨⟨⟨⟨⟨b1, b2⟩, b3⟩, b4⟩, b5⟩, b6⟩, b7⟩, b8⟩, b9⟩ := hB
  have hn : n < l.toArray.size := by simpa using b5
  have e : l.toArray.extract 0 n = (l.take n).toArray := by simp
  have hsz : (l.take n).toArray.size = n := by simp; omega
  refine wp_region_any hm ?_
  have inv : HeadInv .any l.toArray n (Array.replicate l.toArray.size false) := ⟨by simp, (fun j oj _ hl => by rw [getD_replicate_false] at hl; cases hl), fun t _ ht => by simp at ht; simp [ht]⟩
  have hu : unl n (Array.replicate l.toArray.size false) = n := by
    unfold unl
    rw [List.countP_eq_length.2 (fun i hi => by
      have h1 := List.mem_range.1 hi
      have h2 : i < l.length := by omega
      simp [h2]), List.length_range]
  have e1 : (Array.replicate l.toArray.size false).extract 0 n = Array.replicate n false := by
    apply Array.ext_getElem?
    intro j
    by_cases hj : j < n
    · rw [ext0 _ hj, Array.getElem?_replicate, Array.getElem?_replicate, if_pos hj, if_pos (by omega)]
    · rw [Array.getElem?_eq_none (by simp; omega), Array.getElem?_eq_none (by simp; omega)]
  have hlen : n + (l.drop n).length = l.toArray.size := by simp; omega
  suffices hg : wpAny P .any l.toArray Q (n + (l.drop n).length) (Array.replicate l.toArray.size false) a { w with drawn := w.drawn + 1 } by rw [hlen] at hg; exact hg
  refine wpAny_of_truncE (T := fun a w => wpList P l.toArray Q (l.drop n) a w) b1 b2 b3 hn (fun L a' w' inv' hu' hT => ?_) n _ a _ inv hu ?_
  · have eL : L = (Array.replicate l.length false).mapIdx fun i _ => decide (i < n) := by
      apply Array.ext (by simp [inv'.size])
      intro i h1 h2
      simp only [Array.getElem_mapIdx]
      by_cases hi : i < n
      · have := unl_zero hu' i hi; simp [h1] at this; simp [hi, this]
      · have := inv'.tail i (by omega) (by rw [← inv'.size]; exact h1); simp [h1] at this; simp [hi, this]
    subst eL
    exact wpAny_of_seq (l.drop n) n _ a' w' (fun j => by simp [List.getElem?_drop]) b4 hT
  · rw [e1, e]
    refine wpAny_of_held (S := S) _ _ _ _ ?_
    suffices hg : wpAnyH P .any (l.take n).toArray (Ends fun a w => wpList P l.toArray Q (l.drop n) a w) S (t.depth + rs.length) (Array.replicate n false) a { w with drawn := w.drawn + 1 } by rw [b9] at hg; exact hg
    refine wpAnyH_takes3 b6 rs _ a _ t.depth hS b7 ?_
    refine wpQuiet_mono (fun a' ha => ?_) _ _ h
    exact wpAnyH_wy b6 _ t _ a' _ (Nat.le_refl _) hS b8 ha
end
end Go.Proofs.Ytlkdmcdnkoiflaa

/- A year as it lies; the memory of the reference's Season between two rounds. -/
namespace Go.Proofs.Ytlkdmcdnkoiflaa
open Go.RowKit Go.Lib

/-- The first k of a row of numbers. -/
def colL (f : Nat → Int) (k : Nat) : List Int := (List.range k).map f
theorem colL_succ (f : Nat → Int) (k : Nat) : colL f (k + 1) = colL f k ++ [f k] := by simp [colL, List.range_succ]
theorem colL_length (f : Nat → Int) (k : Nat) : (colL f k).length = k := by simp [colL]
theorem colL_at (f : Nat → Int) {k i : Nat} (h : i < k) : (colL f k)[i]? = some (f i) := by simp [colL, h]
/-- What a year comes to, list by list. -/
def seasL (d : PD) (G : List (List Int)) (loss : Int) (pl : List Int) : List Int × List Int × List Int × List Int :=
  (colL (lifD d G pl) d.s.length, colL (solD d G pl) d.s.length, colL (losD d G loss pl) d.s.length, colL (plaD d G loss pl) d.s.length)

/-- A row of integers of one's own. -/
def rowI (B : Nat) (v : Value) (l : List Int) : RowO := ⟨B, 3, 1, v, l.length, l.map (Value.int .i64)⟩
theorem Since.appI {w0 w w' : World} {l0 l : List RowO} (h : Since w0 l0 l w) {i B : Nat} {v : Value} {xs : List Int} (hi : l[i]? = some (rowI B v xs)) {g c : Nat} {x : Int}
    (hown : w'.ownsRow B 3 1 (.slice (some ⟨g, 0, none⟩) (xs.length + 1) c) (xs.length + 1) (xs.map (Value.int .i64) ++ [.int .i64 x])) (hg : w.grownBy w' v.ownBlock) (hat : v.ownBlock = some g ∨ g = w.heap.size) :
    Since w0 l0 (l.set i (rowI B (.slice (some ⟨g, 0, none⟩) (xs.length + 1) c) (xs ++ [x]))) w' := by
  have h1 := h.app hi hown hg hat
  have e : rowI B (.slice (some ⟨g, 0, none⟩) (xs.length + 1) c) (xs ++ [x]) = ⟨(rowI B v xs).B, (rowI B v xs).e, (rowI B v xs).s, .slice (some ⟨g, 0, none⟩) (xs.length + 1) c, xs.length + 1, xs.map (Value.int .i64) ++ [.int .i64 x]⟩ := by
    simp [rowI]
  rw [e]; exact h1
theorem news_lies {w : World} {g : Nat} {t : TypeId} {cs : List Value} (h : Lies w g t cs.toArray) : ∀ j u, cs[j]? = some u → w.cell? ((⟨g, 0, none⟩ : Addr).add j) = some u := fun j u hu => by
  rw [add_lit, h.at_, Nat.zero_add, List.getElem?_toArray]; exact hu
theorem sl_of_rowI {w : World} {B c : Nat} {A : Option Addr} {l : List Int} (h : (rowI B (.slice A l.length c) l).In w) : Sl w w.heap.size 1 encI A l :=
  sl_of_own (enc := encI) (fun _ => rfl) (show w.ownsRow B 3 1 (.slice A l.length c) l.length (l.flatMap encI) by rw [flat_ints]; exact h)
/-- What a row of one's own looks like. -/
theorem rowI_form {w : World} {B : Nat} {v : Value} {l : List Int} (h : (rowI B v l).In w) : ∃ A c, v = .slice A l.length c ∧ Sl w w.heap.size 1 encI A l := by
  obtain ⟨A, c, e, _, hs⟩ := Sl.of_own (enc := encI) (l := l) (fun _ => rfl) (show w.ownsRow B 3 1 v l.length (l.flatMap encI) by rw [flat_ints]; exact h) rfl
  exact ⟨A, c, e, hs⟩

/-- The rows of a year that grows. -/
def seR (B : Nat) (v0 v1 v2 v3 : Value) (a b c d : List Int) : List RowO := [rowI B v0 a, rowI B v1 b, rowI B v2 c, rowI B v3 d]
abbrev zyear : List Value := [.slice none 0 0, .slice none 0 0, .slice none 0 0, .slice none 0 0]
structure SeM (p : PlM) (w : World) (v0 v1 v2 v3 : Value) (a b c d : List Int) (wr : World) : Prop where
  pb : Lies wr w.heap.size 28 p.cells.toArray
  zb : Lies wr (w.heap.size + 1) 55 zyear.toArray
  ob : Lies wr (w.heap.size + 1 + 1) 55 #[v0, v1, v2, v3]
  bel : Below w.heap.size w wr
  rows : Since wr (seR (w.heap.size + 3) v0 v1 v2 v3 a b c d) (seR (w.heap.size + 3) v0 v1 v2 v3 a b c d) wr
section
variable {p : PlM} {w wr wq : World} {v0 v1 v2 v3 : Value} {a b c d : List Int}
theorem SeM.far (M : SeM p w v0 v1 v2 v3 a b c d wr) {k : Nat} (hk : k < w.heap.size + 3) : ∀ r : RowO, r ∈ seR (w.heap.size + 3) v0 v1 v2 v3 a b c d → r.v.ownBlock ≠ some k := fun r hr e => by
  obtain ⟨i, hi⟩ := List.getElem?_of_mem hr
  have h := own_at (M.rows.own i r hi) e
  simp only [seR, List.mem_cons, List.not_mem_nil, or_false] at hr
  rcases hr with rfl | rfl | rfl | rfl <;> (have := h.1; simp only [rowI] at this; omega)
theorem SeM.call (M : SeM p w v0 v1 v2 v3 a b c d wr) (hb : Below wr.heap.size wr wq) : SeM p w v0 v1 v2 v3 a b c d wq := by
  have h := M.rows.call hb
  exact ⟨M.pb.call hb, M.zb.call hb, M.ob.call hb, M.bel.trans (hb.mono M.bel.size), Since.start h.own h.ne⟩
theorem SeM.size (M : SeM p w v0 v1 v2 v3 a b c d wr) : w.heap.size + 3 ≤ wr.heap.size := by have := M.ob.in_; omega
/-- Behind two appends and two stores. -/
theorem SeM.stored (M : SeM p w v0 v1 v2 v3 a b c d wr) {u0 u1 u2 u3 : Value} {a' b' c' d' : List Int} (h : Since wr (seR (w.heap.size + 3) v0 v1 v2 v3 a b c d) (seR (w.heap.size + 3) u0 u1 u2 u3 a' b' c' d') wq) {wz : World} (ho : Only (w.heap.size + 1 + 1) wq wz)
    (hl : Lies wz (w.heap.size + 1 + 1) 55 #[u0, u1, u2, u3]) : SeM p w u0 u1 u2 u3 a' b' c' d' wz := by
  have hob := h.lies M.ob (M.far (by omega))
  refine ⟨ho.lies (h.lies M.pb (M.far (by omega))) (by omega), ho.lies (h.lies M.zb (M.far (by omega))) (by omega), hl, ?_, Since.start (fun i r hr => ?_) h.ne⟩
  · have hb : Below w.heap.size wr wq := h.below (fun r hr g e => by
      obtain ⟨i, hi⟩ := List.getElem?_of_mem hr
      have h2 := own_at (M.rows.own i r hi) e
      simp only [seR, List.mem_cons, List.not_mem_nil, or_false] at hr
      rcases hr with rfl | rfl | rfl | rfl <;> (have := h2.1; simp only [rowI] at this; omega)) M.bel.size
    exact ho.below (M.bel.trans hb) (by omega)
  · have hr2 := h.own i r hr
    have hm := List.mem_of_getElem? hr
    have he : r.e = 3 := by
      simp only [seR, List.mem_cons, List.not_mem_nil, or_false] at hm
      rcases hm with rfl | rfl | rfl | rfl <;> rfl
    exact own_only hr2 hob (by rw [he]; decide) ho
end
end Go.Proofs.Ytlkdmcdnkoiflaa

/- The law of IS where what is known of memory may grow from one phase to the next. -/
namespace Go.Proofs.Ytlkdmcdnkoiflaa
open Go.RowKit Go.Lib

section
variable {P : Program} {ops : Array Oper} {md : Region.Mode} {Q : Exit → Act → World → Prop} {T : Act → World → Prop} {r : Nat}
theorem wpAnyH_less {S S' : World → Prop} (hle : ∀ w, S' w → S w) : ∀ (f : Nat) (L : Array Bool) (a : Act) (w : World), wpAnyH P md ops Q S' f L a w → wpAnyH P md ops Q S f L a w
  | 0, _, _, _, h => h
  | f + 1, _, _, _, h => ⟨h.1, fun i hi => wpOp_mono (fun a' w' h' => ⟨hle _ h'.1, wpAnyH_less hle f _ a' w' h'.2⟩) (h.2 i hi)⟩
/-- What is owed, phase by phase; behind each phase a narrower class of worlds may be named. -/
def wpPhasesN (P : Program) (ops : Array Oper) (T : Act → World → Prop) : List (List Nat × List Nat) → (World → Prop) → Act → World → Prop
  | [], _, a, w => T a w
  | (rs, cs) :: t, S, a, w => wpQuiet P ops S (fun a' => wpForce P ops S (fun a w => ∃ S' : World → Prop, (∀ w, S' w → S w) ∧ S' w ∧ wpPhasesN P ops T t S' a w) (cs.filterMap (ops[·]?)) a' w) (rs.filterMap (ops[·]?)) a
theorem wpPhasesN_cons {rs cs : List Nat} {t : List (List Nat × List Nat)} {S : World → Prop} {a : Act} {w : World} (h : wpQuiet P ops S (fun a' => wpForce P ops S (fun a w => ∃ S' : World → Prop, (∀ w, S' w → S w) ∧ S' w ∧ wpPhasesN P ops T t S' a w) (cs.filterMap (ops[·]?)) a' w) (rs.filterMap (ops[·]?)) a) :
    wpPhasesN P ops T ((rs, cs) :: t) S a w := h
theorem wpAnyH_phasesN (hns : Region.noSelect ops = true) : ∀ (t : List (List Nat × List Nat)) (S : World → Prop) (L : Array Bool) (a : Act) (w : World), phB md ops L t = true → S w → wpPhasesN P ops T t S a w → wpAnyH P md ops (Ends T) S (phLen t) L a w
  | [], S, L, a, w, hB, _, h => ⟨by simpa [phB] using hB, h⟩
  | (rs, cs) :: t, S, L, a, w, hB, hS, h => by
    simp only [phB, Bool.and_eq_true] at hB
    obtain ⟨⟨h1, h2⟩, h3⟩ := hB
    refine wpAnyH_takes2 hns rs L a w (phLen t + cs.length) hS h1 (wpQuiet_mono (fun a' ha => ?_) _ _ h)
    exact wpAnyH_forces cs _ a' w h2 hS ha fun a w _ hk => by
      obtain ⟨S', hle, hS', hk⟩ := hk
      exact wpAnyH_less hle _ _ _ _ (wpAnyH_phasesN hns t S' _ a w h3 hS' hk)
theorem wpAny_wholeN {l : List Oper} {a : Act} {w : World} (t : List (List Nat × List Nat)) (S : World → Prop) (hS : S w.drew) (hB : wholeB l t = true) (h : wpPhasesN P l.toArray T t S a w.drew) :
    wpAny P .any l.toArray (Ends T) l.toArray.size (Array.replicate l.toArray.size false) a { w with drawn := w.drawn + 1 } := by
  simp only [wholeB, Bool.and_eq_true, decide_eq_true_eq] at hB
  obtain ⟨⟨b1, b2⟩, b3⟩ := hB
  refine wpAny_of_held (S := S) _ _ _ _ ?_
  rw [← b3]
  exact wpAnyH_phasesN b1 t S _ a _ (by rw [b3]; exact b2) hS h
theorem wp_region_wholeN {id : Nat} {l : List Oper} {a : Act} {w : World} (t : List (List Nat × List Nat)) (S : World → Prop) (hS : S w.drew) (hm : P.follows .mixedOrders = true) (hB : wholeB l t = true)
    (h : wpPhasesN P l.toArray (fun a w => Q .normal a w) t S a w.drew) : (Code.region id l.toArray true).wp P Q a w :=
  wp_region_any hm (wpAny_of_ends (fun _ _ h => h) _ _ _ _ (wpAny_wholeN t S hS hB h))
theorem wpIn_region_wholeN {n id : Nat} {l : List Oper} {a : Act} {w : World} (t : List (List Nat × List Nat)) (S : World → Prop) (hS : S w.drew) (hm : P.follows .mixedOrders = true) (hB : wholeB l t = true) (hd : l.all noDefer = true)
    (h : wpPhasesN P l.toArray (fun a w => Q .normal a w) t S a w.drew) : (Code.region id l.toArray true).wpIn (Fence.wide.inRound r) n P Q a w :=
  wpIn_region_of_any hm hd (wpAny_wholeN t S hS hB h)
end
end Go.Proofs.Ytlkdmcdnkoiflaa

/- A law for drawn regions: reads that may be taken at once, calls that come one behind the other, variables that are made at whatever moment; what is read may be what a call has made. -/
namespace Go.Proofs.Ytlkdmcdnkoiflaa
open Go.RowKit Go.Lib

inductive Stp
  | take (i : Nat)
  | force (i : Nat)
def Stp.op : Stp → Nat
  | .take i => i
  | .force i => i
/-- The worlds that come of w, as a class. -/
def From1 (w : World) : World → Prop := fun W => ∃ c : Cls (fun W => Below w.heap.size w W), W = c.val
theorem From1.self (w : World) : From1 w w := ⟨⟨w, Below.refl _ _⟩, rfl⟩
theorem From1.less {w w' : World} (h : Below w.heap.size w w') : ∀ W, From1 w' W → From1 w W := fun _W ⟨c, e⟩ => ⟨⟨c.val, h.trans (c.h.mono h.size)⟩, e⟩
theorem From1.below {w W : World} (h : From1 w W) : Below w.heap.size w W := by obtain ⟨c, rfl⟩ := h; exact c.h
section
variable {P : Program} {ops : Array Oper} {md : Region.Mode} {Q : Exit → Act → World → Prop} {T : Act → World → Prop}
/-- What is owed, step by step; ahead of each forced step the slots fs may turn, and memory may grow. -/
def wpStps (P : Program) (ops : Array Oper) (fs : List Nat) (T : Act → World → Prop) : List Stp → Act → World → Prop
  | [], a, w => T a w
  | .take i :: t, a, w => match ops[i]? with | some o => wpQuiet P ops (fun W => ∃ c : Cls (fun W => Below w.heap.size w W), W = c.val) (fun a' => wpStps P ops fs T t a' w) [o] a | none => False
  | .force i :: t, a, w => match ops[i]? with | some o => ∀ val w1, Below w.heap.size w w1 → wpList P ops (Ends fun a' w' => Below w1.heap.size w1 w' ∧ wpStps P ops fs T t a' w') [o] (putF a fs val) w1 | none => False
theorem wpStps_take (fs : List Nat) (i : Nat) (t : List Stp) (a : Act) (w : World) : wpStps P ops fs T (.take i :: t) a w = (match ops[i]? with | some o => wpQuiet P ops (fun W => ∃ c : Cls (fun W => Below w.heap.size w W), W = c.val) (fun a' => wpStps P ops fs T t a' w) [o] a | none => False) := rfl
theorem wpStps_force (fs : List Nat) (i : Nat) (t : List Stp) (a : Act) (w : World) : wpStps P ops fs T (.force i :: t) a w = (match ops[i]? with | some o => ∀ val w1, Below w.heap.size w w1 → wpList P ops (Ends fun a' w' => Below w1.heap.size w1 w' ∧ wpStps P ops fs T t a' w') [o] (putF a fs val) w1 | none => False) := rfl
theorem wpStps_nil (fs : List Nat) (a : Act) (w : World) : wpStps P ops fs T [] a w = T a w := rfl
def stpsB (md : Region.Mode) (ops : Array Oper) : Nat → Array Bool → List Stp → List Fl → Bool
  | 0, L, st, pend => st.isEmpty && pend.isEmpty && (Region.ready md ops L).isEmpty
  | n + 1, L, .take i :: t, pend => (Region.ready md ops L).contains i && Region.free md ops L i && (match ops[i]? with | some o => value3B o.op | none => false) && stpsB md ops n (L.setIfInBounds i true) t pend
  | n + 1, L, .force i :: t, pend => !(Region.ready md ops L).isEmpty && (Region.ready md ops L).all (fun j => i == j || pend.any fun fl => fl.fi == j) && stpsB md ops n (L.setIfInBounds i true) t pend &&
      pend.all fun fl => stpsB md ops n (L.setIfInBounds fl.fi true) (.force i :: t) (pend.filter fun q => q.fi != fl.fi)
  | n + 1, L, [], pend => !(Region.ready md ops L).isEmpty && (Region.ready md ops L).all (fun j => pend.any fun fl => fl.fi == j) &&
      pend.all fun fl => stpsB md ops n (L.setIfInBounds fl.fi true) [] (pend.filter fun q => q.fi != fl.fi)
/-- What is owed stays owed when a variable is made. -/
theorem stps_float {fls : List Fl} {B : Nat} {fl : Fl} (hfl : fl ∈ fls) {u : Value} {a : Act} {w w' : World} (hb : Below w.heap.size w w') : ∀ {st : List Stp}, (∀ i t, st ≠ .take i :: t) →
    wpStps P ops (fls.map (·.f)) (AtGs fls B T) st a w → wpStps P ops (fls.map (·.f)) (AtGs fls B T) st (a.put (some fl.f) u) w'
  | [], _, h => fun G w'' h1 h2 h3 => by
    rw [putF_put _ _ a (List.mem_map.2 ⟨fl, hfl, rfl⟩)]
    exact h G w'' (hb.trans (h1.mono hb.size)) h2 h3
  | .take i :: t, hn, _ => absurd rfl (hn i t)
  | .force i :: t, _, h => by
    rw [wpStps_force] at h ⊢
    cases ho : ops[i]? with
    | none => rw [ho] at h; exact h
    | some o =>
      rw [ho] at h
      intro val w1 h1
      rw [putF_put _ _ a (List.mem_map.2 ⟨fl, hfl, rfl⟩)]
      exact h val w1 (hb.trans (h1.mono hb.size))
theorem wpAnyH_stps {fls : List Fl} {B : Nat} (hns : Region.noSelect ops = true)
    (hop : ∀ fl, fl ∈ fls → ∃ og, ops[fl.fi]? = some og ∧ og.dst = some fl.f ∧ og.guard = none ∧ og.op = .alloc fl.t) (hal : ∀ fl, fl ∈ fls → ∀ w, (Instr.alloc fl.t true (.tuple #[])).run P w = .ok (.pointer (some ⟨w.heap.size, 0, none⟩)) (w.alloc (.cells fl.z fl.t)))
    (hnd : ∀ fl fl', fl ∈ fls → fl' ∈ fls → fl.f = fl'.f → fl = fl') :
    ∀ (n : Nat) (st : List Stp) (pend done : List Fl) (L : Array Bool) (a : Act) (w : World) (G : Nat → Nat), stpsB md ops n L st pend = true → B ≤ w.heap.size → (∀ s o fl, s ∈ st → ops[s.op]? = some o → fl ∈ fls → o.dst ≠ some fl.f) → (∀ fl, fl ∈ fls → fl.f < a.tmps.size) →
      (∀ fl, fl ∈ pend → fl ∈ fls) → (∀ fl, fl ∈ done → fl ∈ fls ∧ MadeF a w B G fl) → (∀ fl, fl ∈ fls → fl ∈ pend ∨ fl ∈ done) → (∀ fl fl', fl ∈ done → fl' ∈ done → fl.f ≠ fl'.f → G fl.f ≠ G fl'.f) →
      wpStps P ops (fls.map (·.f)) (AtGs fls B T) st a w → wpAnyH P md ops (Ends T) (From1 w) n L a w := by
  intro n
  induction n with
  | zero =>
    intro st pend done L a w G hb hB hd hsz hp hdn hm hdis h
    simp only [stpsB, Bool.and_eq_true, List.isEmpty_iff] at hb
    obtain ⟨⟨h1, h2⟩, h3⟩ := hb
    subst h1 h2
    refine ⟨h3, ?_⟩
    have hin : ∀ fl, fl ∈ fls → fl ∈ done := fun fl hfl => by
      rcases hm fl hfl with h | h
      · cases h
      · exact h
    have h5 := h G w (Below.refl _ _) (fun fl hfl => (hdn fl (hin fl hfl)).2.2) (fun fl fl' h1 h2 => hdis fl fl' (hin fl h1) (hin fl' h2))
    have e : putF a (fls.map (·.f)) (fun f => .pointer (some ⟨G f, 0, none⟩)) = a := by
      have key : ∀ l : List Fl, (∀ fl, fl ∈ l → fl ∈ fls) → putF a (l.map (·.f)) (fun f => .pointer (some ⟨G f, 0, none⟩)) = a := by
        intro l
        induction l with
        | nil => intro _; rfl
        | cons fl l ih =>
          intro hl
          rw [List.map_cons, putF_cons, ← (hdn fl (hin fl (hl fl (by simp)))).2.1, put_self]
          exact ih fun q hq => hl q (List.mem_cons_of_mem _ hq)
      exact key fls fun _ h => h
    rw [e] at h5
    exact h5
  | succ n ih =>
    intro st pend done L a w G hb hB hd hsz hp hdn hm hdis h
    -- an operation's slot is no variable's
    have hget : ∀ (s : Stp) (o : Oper) (a' : Act) (v : Value), s ∈ st → ops[s.op]? = some o → a'.tmps = (a.put o.dst v).tmps → ∀ fl, fl ∈ fls → a'.tmps.getD fl.f undef = a.tmps.getD fl.f undef ∧ fl.f < a'.tmps.size := fun s o a' v hs ho he fl hfl => by
      rw [he]
      have hsf := hsz fl hfl
      cases hd2 : o.dst with
      | none => exact ⟨rfl, hsf⟩
      | some d =>
        have : d ≠ fl.f := fun e => hd s o fl hs ho hfl (by rw [hd2, e])
        exact ⟨by simp [Act.put, this], by simpa [Act.put] using hsf⟩
    -- a variable is made
    have float : ∀ (fl : Fl), fl ∈ pend → (∀ i t, st ≠ .take i :: t) → stpsB md ops n (L.setIfInBounds fl.fi true) st (pend.filter fun q => q.fi != fl.fi) = true →
        wpOp P ops (Ends T) fl.fi (fun a' w' => From1 w w' ∧ wpAnyH P md ops (Ends T) (From1 w) n (L.setIfInBounds fl.fi true) a' w') a w := by
      intro fl hfl hnt h3'
      have hflm := hp fl hfl
      obtain ⟨og, g1, g2, g3, g4⟩ := hop fl hflm
      have hbw : Below w.heap.size w (w.alloc (.cells fl.z fl.t)) := (Below.refl _ _).alloc (Nat.le_refl _) _
      unfold wpOp
      simp only [g1]
      rw [if_pos (by simp [Region.wanted, g3])]
      refine .inl ?_
      unfold Oper.wp execOp
      simp only [g4, Sem.run_bind, hal fl hflm w, Result.andThen, Sem.run_pure, Oper.upon, g2]
      have hsf := hsz fl hflm
      refine ⟨⟨⟨_, hbw⟩, rfl⟩, wpAnyH_less (From1.less hbw) _ _ _ _ (ih st _ (fl :: done) _ _ _ (fun f => if f = fl.f then w.heap.size else G f) h3' (Nat.le_trans hB hbw.size) hd (fun q hq => by simpa [Act.put] using hsz q hq) (fun q hq => hp q (List.mem_filter.1 hq).1) (fun q hq => ?_) (fun q hq => ?_) (fun q q' hq hq' hne => ?_) (stps_float hflm hbw hnt h))⟩
      · by_cases e : q.f = fl.f
        · have hqm : q ∈ fls := by
            rcases List.mem_cons.1 hq with rfl | hq
            · exact hflm
            · exact (hdn q hq).1
          obtain rfl := hnd q fl hqm hflm e
          exact ⟨hqm, by simp [Act.put, hsf], by simp; exact hB, by simp; exact Lies.fresh w q.t q.z⟩
        · rcases List.mem_cons.1 hq with rfl | hq
          · exact absurd rfl e
          · obtain ⟨e1, e2⟩ := hdn q hq
            have e' : fl.f ≠ q.f := fun h => e h.symm
            refine ⟨e1, ?_, by simp only [if_neg e]; exact e2.2.1, by simp only [if_neg e]; exact e2.2.2.call hbw⟩
            simp only [if_neg e]
            rw [← e2.1]
            simp [Act.put, e']
      · rcases hm q hq with h | h
        · by_cases e : q.fi = fl.fi
          · right
            obtain ⟨og', k1, k2, _, _⟩ := hop q hq
            rw [e, g1] at k1
            cases k1
            have : q.f = fl.f := by rw [g2] at k2; exact (Option.some.inj k2).symm
            rw [hnd q fl hq hflm this]
            simp
          · left
            exact List.mem_filter.2 ⟨h, by simpa using e⟩
        · exact .inr (List.mem_cons_of_mem _ h)
      · have hlt : ∀ q, q ∈ done → q.f ≠ fl.f → G q.f < w.heap.size := fun q hq _ => (hdn q hq).2.2.2.in_
        by_cases e : q.f = fl.f
        · have e' : q'.f ≠ fl.f := fun h => hne (e.trans h.symm)
          rw [if_pos e, if_neg e']
          rcases List.mem_cons.1 hq' with rfl | hq'
          · exact absurd rfl e'
          · have := hlt q' hq' e'; omega
        · rw [if_neg e]
          by_cases e' : q'.f = fl.f
          · rw [if_pos e']
            rcases List.mem_cons.1 hq with rfl | hq
            · exact absurd rfl e
            · have := hlt q hq e; omega
          · rw [if_neg e']
            rcases List.mem_cons.1 hq with rfl | hq
            · exact absurd rfl e
            · rcases List.mem_cons.1 hq' with rfl | hq'
              · exact absurd rfl e'
              · exact hdis q q' hq hq' hne
    match st, hb, hd, h, hget, float with
    | .take i :: t, hb, hd, h, hget, _ =>
      simp only [stpsB, Bool.and_eq_true] at hb
      obtain ⟨⟨⟨h1, h2⟩, h3⟩, h4⟩ := hb
      have hi : i ∈ Region.ready md ops L := by simpa using h1
      obtain ⟨_, o, ho, _⟩ := mem_ready.1 hi
      rw [wpStps_take, ho] at h
      rw [ho] at h3
      simp only [wpQuiet] at h
      have hstep : ∃ v, YieldsIf P ops (From1 w) o v a ∧ wpStps P ops (fls.map (·.f)) (AtGs fls B T) t (a.put o.dst v) w := by
        by_cases hw : Region.wanted o (yielded ops a.tmps) = true
        · rw [if_pos hw] at h
          obtain ⟨v, hv, hk⟩ := h
          exact ⟨v, yieldsIf_of_quiet3 h3 hw hv, hk⟩
        · rw [if_neg hw] at h
          exact ⟨undef, .inr ⟨by simpa using hw, rfl⟩, h⟩
      obtain ⟨v, hy, hk⟩ := hstep
      have hg := hget (.take i) o (a.put o.dst v) v (by simp) ho rfl
      refine wpAnyH_take (i := i) ho hns h2 (by simpa using h1) (fun _ _ _ h => h) hy (From1.self w) ?_
      exact ih t pend done _ _ w G h4 hB (fun s o fl hs => hd s o fl (List.mem_cons_of_mem _ hs)) (fun fl hfl => (hg fl hfl).2) hp (fun fl hfl => by
        obtain ⟨e1, e2⟩ := hdn fl hfl
        exact ⟨e1, by rw [(hg fl e1).1]; exact e2.1, e2.2⟩) hm hdis hk
    | .force i :: t, hb, hd, h, hget, float =>
      simp only [stpsB, Bool.and_eq_true] at hb
      obtain ⟨⟨⟨h0, h1⟩, h2⟩, h3⟩ := hb
      refine ⟨fun e => (by rw [e] at h0; cases h0), fun j hj => ?_⟩
      have hj2 := List.all_eq_true.1 h1 j hj
      simp only [Bool.or_eq_true, beq_iff_eq] at hj2
      rcases hj2 with hj2 | hj2
      · subst hj2
        obtain ⟨_, o, ho, _⟩ := mem_ready.1 hj
        rw [wpStps_force, ho] at h
        have h' := h (fun f => a.tmps.getD f undef) w (Below.refl _ _)
        rw [putF_self] at h'
        have h4 := wpList_one h'
        have step : ∀ (a' : Act) (w' : World) (v : Value), a'.tmps = (a.put o.dst v).tmps → (Below w.heap.size w w' ∧ wpStps P ops (fls.map (·.f)) (AtGs fls B T) t a' w') →
            From1 w w' ∧ wpAnyH P md ops (Ends T) (From1 w) n (L.setIfInBounds i true) a' w' := by
          intro a' w' v he ⟨hbw, hk⟩
          have hg := hget (.force i) o a' v (by simp) ho he
          refine ⟨⟨⟨_, hbw⟩, rfl⟩, wpAnyH_less (From1.less hbw) _ _ _ _ (ih t pend done _ a' w' G h2 (Nat.le_trans hB hbw.size) (fun s o fl hs => hd s o fl (List.mem_cons_of_mem _ hs)) (fun fl hfl => (hg fl hfl).2) hp (fun fl hfl => ?_) hm hdis hk)⟩
          obtain ⟨e1, e2⟩ := hdn fl hfl
          exact ⟨e1, by rw [(hg fl e1).1]; exact e2.1, e2.2.1, e2.2.2.call hbw⟩
        unfold wpOp
        simp only [ho]
        split
        · rename_i hw
          rw [if_pos hw] at h4
          exact .inl (Oper.wp_ends (fun a' w' h' => step a' w' _ h'.2.choose_spec h'.1) (Oper.wp_put h4))
        · rename_i hw
          rw [if_neg hw] at h4
          exact step _ _ undef rfl h4
      · obtain ⟨fl, hfl, hfj⟩ := List.any_eq_true.1 hj2
        have hfj : fl.fi = j := by simpa using hfj
        subst hfj
        exact float fl hfl (fun i t e => by cases e) (List.all_eq_true.1 h3 fl hfl)
    | [], hb, hd, h, hget, float =>
      simp only [stpsB, Bool.and_eq_true] at hb
      obtain ⟨⟨h0, h1⟩, h3⟩ := hb
      refine ⟨fun e => (by rw [e] at h0; cases h0), fun j hj => ?_⟩
      have hj2 := List.all_eq_true.1 h1 j hj
      obtain ⟨fl, hfl, hfj⟩ := List.any_eq_true.1 hj2
      have hfj : fl.fi = j := by simpa using hfj
      subst hfj
      exact float fl hfl (fun i t e => by cases e) (List.all_eq_true.1 h3 fl hfl)
def stpsRB (l : List Oper) (n : Nat) (st : List Stp) (fls : List Fl) : Bool :=
  Region.sinkB .any l.toArray n && Region.chainB .any l.toArray n && headOk l.toArray n && Region.seqB .any l.toArray (l.drop n).length n ((Array.replicate l.length false).mapIdx fun i _ => decide (i < n)) && decide (n < l.length) &&
    Region.noSelect (l.take n).toArray && stpsB .any (l.take n).toArray n (Array.replicate n false) st fls &&
    st.all (fun s => match (l.take n)[s.op]? with | some o => fls.all fun fl => o.dst != some fl.f | none => true) && fls.all fun fl => match (l.take n)[fl.fi]? with | some o => decide (o.dst = some fl.f) && o.guard.isNone && (match o.op with | .alloc t' => t' == fl.t | _ => false) | none => false
/-- THE LAW. -/
theorem wp_region_stps {id : Nat} {l : List Oper} {a : Act} {w : World} (n : Nat) (st : List Stp) (fls : List Fl) (hm : P.follows .mixedOrders = true) (hB : stpsRB l n st fls = true)
    (hal : ∀ fl, fl ∈ fls → ∀ w, (Instr.alloc fl.t true (.tuple #[])).run P w = .ok (.pointer (some ⟨w.heap.size, 0, none⟩)) (w.alloc (.cells fl.z fl.t))) (hnd : ∀ fl fl', fl ∈ fls → fl' ∈ fls → fl.f = fl'.f → fl = fl') (hsz : ∀ fl, fl ∈ fls → fl.f < a.tmps.size)
    (h : wpStps P (l.take n).toArray (fls.map (·.f)) (AtGs fls w.heap.size fun a w => wpList P l.toArray Q (l.drop n) a w) st a w.drew) :
    (Code.region id l.toArray true).wp P Q a w := by
  simp only [stpsRB, Bool.and_eq_true, decide_eq_true_eq] at hB
  obtain ⟨⟨⟨⟨⟨⟨⟨⟨b1, b2⟩, b3⟩, b4⟩, b5⟩, b6⟩, b8⟩, b10⟩, b11⟩ := hB
  have hn : n < l.toArray.size := by simpa using b5
  have e : l.toArray.extract 0 n = (l.take n).toArray := by simp
  have hsz' : (l.take n).toArray.size = n := by simp; omega
  refine wp_region_any hm ?_
  have inv : HeadInv .any l.toArray n (Array.replicate l.toArray.size false) := ⟨by simp, (fun j oj _ hl => by rw [getD_replicate_false] at hl; cases hl), fun t _ ht => by simp at ht; simp [ht]⟩
  have hu : unl n (Array.replicate l.toArray.size false) = n := by
    unfold unl
    rw [List.countP_eq_length.2 (fun i hi => by
      have h1 := List.mem_range.1 hi
      have h2 : i < l.length := by omega
      simp [h2]), List.length_range]
  have e1 : (Array.replicate l.toArray.size false).extract 0 n = Array.replicate n false := by
    apply Array.ext_getElem?
    intro j
    by_cases hj : j < n
    · rw [ext0 _ hj, Array.getElem?_replicate, Array.getElem?_replicate, if_pos hj, if_pos (by omega)]
    · rw [Array.getElem?_eq_none (by simp; omega), Array.getElem?_eq_none (by simp; omega)]
  have hlen : n + (l.drop n).length = l.toArray.size := by simp; omega
  suffices hg : wpAny P .any l.toArray Q (n + (l.drop n).length) (Array.replicate l.toArray.size false) a { w with drawn := w.drawn + 1 } by rw [hlen] at hg; exact hg
  refine wpAny_of_truncE (T := fun a w => wpList P l.toArray Q (l.drop n) a w) b1 b2 b3 hn (fun L a' w' inv' hu' hT => ?_) n _ a _ inv hu ?_
  · have eL : L = (Array.replicate l.length false).mapIdx fun i _ => decide (i < n) := by
      apply Array.ext (by simp [inv'.size])
      intro i h1 h2
      simp only [Array.getElem_mapIdx]
      by_cases hi : i < n
      · have := unl_zero hu' i hi; simp [h1] at this; simp [hi, this]
      · have := inv'.tail i (by omega) (by rw [← inv'.size]; exact h1); simp [h1] at this; simp [hi, this]
    subst eL
    exact wpAny_of_seq (l.drop n) n _ a' w' (fun j => by simp [List.getElem?_drop]) b4 hT
  · rw [e1, e]
    refine wpAny_of_held (S := From1 w.drew) _ _ _ _ ?_
    refine wpAnyH_stps (B := w.heap.size) (fls := fls) b6 (fun fl hfl => ?_) hal hnd n st fls [] _ a w.drew (fun _ => 0) b8 (Nat.le_refl _) (fun s o fl hs ho2 hfl => ?_) hsz (fun _ h => h) (fun fl h => by cases h) (fun _ h => .inl h) (fun fl fl' h => by cases h) h
    · have h1 := List.all_eq_true.1 b11 fl hfl
      cases ho : (l.take n)[fl.fi]? with
      | none => rw [ho] at h1; cases h1
      | some og =>
        rw [ho] at h1
        simp only [Bool.and_eq_true, decide_eq_true_eq] at h1
        refine ⟨og, by simpa using ho, h1.1.1, by simpa using h1.1.2, ?_⟩
        have h3 := h1.2
        split at h3
        · rename_i t' hq; rw [hq]; congr 1; simpa using h3
        · cases h3
    · have h1 := List.all_eq_true.1 b10 s hs
      rw [show (l.take n)[s.op]? = some o by simpa using ho2] at h1
      have h2 := List.all_eq_true.1 h1 fl hfl
      simpa using h2
end
end Go.Proofs.Ytlkdmcdnkoiflaa

/- The order of the text, in parts: for great drawn regions. -/
namespace Go.Proofs.Ytlkdmcdnkoiflaa
open Go.RowKit Go.Lib

section
variable {md : Region.Mode} {ops : Array Oper}
/-- Which are listed once the first k are. -/
def listK (n k : Nat) : Array Bool := (Array.replicate n false).mapIdx fun i _ => decide (i < k)
theorem listK_zero (n : Nat) : listK n 0 = Array.replicate n false := by
  apply Array.ext (by simp [listK])
  intro i h1 h2
  simp [listK]
theorem listK_get (n k i : Nat) : (listK n k)[i]? = if i < n then some (decide (i < k)) else none := by
  unfold listK
  rw [Array.getElem?_mapIdx, Array.getElem?_replicate]
  by_cases h : i < n
  · rw [if_pos h, if_pos h]; rfl
  · rw [if_neg h, if_neg h]; rfl
theorem listK_succ {n k : Nat} (h : k < n) : (listK n k).setIfInBounds k true = listK n (k + 1) := by
  apply Array.ext_getElem?
  intro i
  rw [Array.getElem?_setIfInBounds, listK_get, listK_get]
  by_cases e : k = i
  · subst e
    rw [if_pos rfl, if_pos (by simp [listK]; exact h), if_pos h]
    simp
  · rw [if_neg e]
    by_cases hi : i < n
    · rw [if_pos hi, if_pos hi]
      congr 1
      by_cases h1 : i < k
      · rw [decide_eq_true h1, decide_eq_true (by omega)]
      · rw [decide_eq_false h1, decide_eq_false (by omega)]
    · rw [if_neg hi, if_neg hi]
/-- m steps from k on. -/
def lexPart (md : Region.Mode) (ops : Array Oper) : Nat → Nat → Bool
  | 0, _ => true
  | m + 1, k => (Region.ready md ops (listK ops.size k)).contains k && Region.free md ops (listK ops.size k) k && lexPart md ops m (k + 1)
theorem lexPart_add : ∀ (m n k : Nat), lexPart md ops m k = true → lexPart md ops n (k + m) = true → lexPart md ops (m + n) k = true
  | 0, n, k, _, h => by rw [Nat.zero_add]; exact h
  | m + 1, n, k, h1, h2 => by
    rw [show m + 1 + n = (m + n) + 1 by omega]
    simp only [lexPart, Bool.and_eq_true] at h1 ⊢
    exact ⟨h1.1, lexPart_add m n (k + 1) h1.2 (by rw [show k + 1 + m = k + (m + 1) by omega]; exact h2)⟩
theorem lexFrom_part : ∀ (n k : Nat), k + n = ops.size → lexPart md ops n k = true → (Region.ready md ops (listK ops.size ops.size)).isEmpty = true → Region.lexFrom md ops n k (listK ops.size k) = true
  | 0, k, hk, _, h => by
    simp only [Region.lexFrom]
    rw [show k = ops.size by omega]
    simpa using h
  | n + 1, k, hk, h1, h2 => by
    simp only [lexPart, Bool.and_eq_true] at h1
    simp only [Region.lexFrom, Bool.and_eq_true]
    refine ⟨by simpa using h1.1, ?_⟩
    rw [listK_succ (by omega)]
    exact lexFrom_part n (k + 1) (by omega) h1.2 h2
theorem lexB_part (h0 : Region.noSelect ops = true) (h1 : lexPart md ops ops.size 0 = true) (h2 : (Region.ready md ops (listK ops.size ops.size)).isEmpty = true) : Region.lexB md ops = true := by
  unfold Region.lexB
  rw [h0, Bool.true_and, ← listK_zero]
  exact lexFrom_part ops.size 0 (by omega) h1 h2
theorem lexB_five (m : Nat) (hs : ops.size = m + (m + (m + (m + m)))) (h0 : Region.noSelect ops = true) (h1 : lexPart md ops m 0 = true) (h2 : lexPart md ops m (0 + m) = true) (h3 : lexPart md ops m (0 + m + m) = true) (h4 : lexPart md ops m (0 + m + m + m) = true) (h5 : lexPart md ops m (0 + m + m + m + m) = true)
    (h6 : (Region.ready md ops (listK ops.size ops.size)).isEmpty = true) : Region.lexB md ops = true := by
  refine lexB_part h0 ?_ h6
  rw [hs]
  exact lexPart_add _ _ _ h1 (lexPart_add _ _ _ h2 (lexPart_add _ _ _ h3 (lexPart_add _ _ _ h4 h5)))
end
end Go.Proofs.Ytlkdmcdnkoiflaa
