/- The texts IR RA RB RC RD RE RF RG RH IS RI OPW, joined. -/
import Derived.Test.YtlkdmcdnkoiflaaGE
import Derived.Test.YtlkdmcdnkoiflaaGF
import Derived.Laws.EntriesVeiled
import Derived.Maps.OwnIn
/- The laws for drawn regions in a round of a loop over a function. -/
namespace Go.Proofs.Ytlkdmcdnkoiflaa
open Go.RowKit Go.Lib

section
variable {P : Program} {ops : Array Oper} {md : Region.Mode} {Q : Exit → Act → World → Prop} {T : Act → World → Prop} {n r : Nat}
theorem rowsIn_wide {n : Nat} {row : String} {args : Array Value} {w : World} {R : Value → World → Prop} (h : Rows P row args w R) : RowsIn Fence.wide n P row args w R :=
  fun c cs _ => let ⟨v, w', x, s⟩ := h c cs; ⟨v, w', x, stepsIn_wide.2 s⟩
def noDefer (o : Oper) : Bool := match o.op with | .defer _ => false | _ => true
theorem Oper.wpIn_of_ends {o : Oper} {a : Act} {w : World} {K K' : Act → World → Prop} (hd : noDefer o = true) (h : ∀ a w, K a w → K' a w) (hh : o.wp P a w K (Ends T)) : o.wpIn (Fence.wide.inRound r) n P a w K' Q := by
  have hd' : ∀ c, o.op ≠ .defer c := fun c hc => by unfold noDefer at hd; rw [hc] at hd; cases hd
  unfold Oper.wp at hh
  refine ⟨fun _ _ => trivial, ?_⟩
  rw [show (Fence.wide.inRound r).round = some r from rfl, Oper.semAt_some r _ _ hd']
  generalize (execOp a.eval o).run P w = x at *
  cases x with
  | ok y w' =>
    cases y <;> simp only [Oper.upon, Oper.uponIn] at hh ⊢ <;> first
      | exact h _ _ hh
      | (refine ⟨(fun hd => by cases hd), CallsIn.inRound r (callsIn_wide.2 (Calls.mono hh (fun e w'' he => ?_)))⟩
         cases e with
         | returned v => exact h _ _ he
         | panicked c => exact (show False from he).elim
         | outgrown => obtain ⟨a1, w1, h1⟩ := (show LetsOut (Ends T) from he); exact (show False from h1).elim)
      | exact ⟨(fun hd => by cases hd), rowsIn_wide (Rows.mono hh (fun _ _ he => h _ _ he))⟩
  | halt y w' =>
    cases y <;> simp only [Oper.upon, Oper.uponIn] at hh ⊢ <;> exact (show False from hh).elim
theorem wpOpIn_of_ends {i : Nat} {K K' : Act → World → Prop} {a : Act} {w : World} (hd : ∀ o, ops[i]? = some o → noDefer o = true) (hK : ∀ a w, K a w → K' a w) (h : wpOp P ops (Ends T) i K a w) : wpOpIn (Fence.wide.inRound r) n P ops Q i K' a w := by
  unfold wpOp at h
  unfold wpOpIn
  cases ho : ops[i]? with
  | none => simp only [ho] at h ⊢; exact hK _ _ h
  | some o =>
    simp only [ho] at h ⊢
    split
    · rename_i hw
      rw [if_pos hw] at h
      rcases h with h | ⟨_, a1, w1, h1⟩
      · exact Oper.wpIn_of_ends (hd o ho) hK h
      · exact (show False from h1).elim
    · rename_i hw
      rw [if_neg hw] at h
      exact ⟨fun _ _ => trivial, hK _ _ h⟩
theorem wpAnyIn_of_ends (hd : ∀ (i : Nat) (o : Oper), ops[i]? = some o → noDefer o = true) (hT : ∀ a w, T a w → Q .normal a w) : ∀ (f : Nat) (L : Array Bool) (a : Act) (w : World), wpAny P md ops (Ends T) f L a w → wpAnyIn (Fence.wide.inRound r) n P md ops Q f L a w
  | 0, _L, _a, _w, h => ⟨h.1, hT _ _ h.2⟩
  | f + 1, _L, _a, _w, h => ⟨fun h0 => hT _ _ (h.1 h0), fun i hi => wpOpIn_of_ends (hd i) (fun a w h' => wpAnyIn_of_ends hd hT f _ a w h') (h.2 i hi)⟩
theorem wpIn_region_of_any {id : Nat} {l : List Oper} {a : Act} {w : World} (hm : P.follows .mixedOrders = true) (hd : l.all noDefer = true)
    (h : wpAny P .any l.toArray (Ends fun a w => Q .normal a w) l.toArray.size (Array.replicate l.toArray.size false) a { w with drawn := w.drawn + 1 }) : (Code.region id l.toArray true).wpIn (Fence.wide.inRound r) n P Q a w :=
  wpIn_region_any hm (wpAnyIn_of_ends (fun i o ho => List.all_eq_true.1 hd o (List.mem_of_getElem? (by simpa using ho))) (fun _ _ h => h) _ _ _ _ h)
/-- The law of TT, for the orders. -/
theorem wpAny_reads {l : List Oper} {a : Act} {w : World} (n : Nat) (rs cs : List Nat) (hB : readsB l n rs cs = true)
    (h : wpQuiet P (l.take n).toArray (fun w' => ∃ p : Regrown, w' = Go.Sort.grow (redrawn w p.d) p.os) (fun a' => ∀ w', Below w.heap.size w w' → w'.heap.size = w.heap.size → wpForce P (l.take n).toArray (fun w' => Below w.heap.size w w') (fun a w => wpList P l.toArray Q (l.drop n) a w) (cs.filterMap ((l.take n).toArray[·]?)) a' w') (rs.filterMap ((l.take n).toArray[·]?)) a) :
    wpAny P .any l.toArray Q l.toArray.size (Array.replicate l.toArray.size false) a { w with drawn := w.drawn + 1 } := by
  simp only [readsB, Bool.and_eq_true, decide_eq_true_eq] at hB
  obtain ⟨⟨⟨⟨⟨⟨⟨⟨b1, b2⟩, b3⟩, b4⟩, b5⟩, b6⟩, b7⟩, b8⟩, b9⟩ := hB
  have hn : n < l.toArray.size := by simpa using b5
  have e : l.toArray.extract 0 n = (l.take n).toArray := by simp
  have hsz : (l.take n).toArray.size = n := by simp; omega
  have inv : HeadInv .any l.toArray n (Array.replicate l.toArray.size false) := ⟨by simp, (fun j oj _ hl => by rw [getD_replicate_false] at hl; cases hl), fun t _ ht => by simp at ht; simp [ht]⟩
  have hu : unl n (Array.replicate l.toArray.size false) = n := by
    unfold unl
    rw [List.countP_eq_length.2 (fun i hi => by
      have h1 := List.mem_range.1 hi
      have h2 : i < l.length := by omega
      simp [h2]), List.length_range]
  have e1 : (Array.replicate l.toArray.size false).extract 0 n = Array.replicate n false := by
    apply Array.ext_getElem?
    intro j
    by_cases hj : j < n
    · rw [ext0 _ hj, Array.getElem?_replicate, Array.getElem?_replicate, if_pos hj, if_pos (by omega)]
    · rw [Array.getElem?_eq_none (by simp; omega), Array.getElem?_eq_none (by simp; omega)]
  have hbd : Below w.heap.size w { w with drawn := w.drawn + 1 } := (Below.refl w.heap.size w).drew
  have hlen : n + (l.drop n).length = l.toArray.size := by simp; omega
  suffices hg : wpAny P .any l.toArray Q (n + (l.drop n).length) (Array.replicate l.toArray.size false) a { w with drawn := w.drawn + 1 } by rw [hlen] at hg; exact hg
  refine wpAny_of_truncE (T := fun a w => wpList P l.toArray Q (l.drop n) a w) b1 b2 b3 hn (fun L a' w' inv' hu' hT => ?_) n _ a _ inv hu ?_
  · have eL : L = (Array.replicate l.length false).mapIdx fun i _ => decide (i < n) := by
      apply Array.ext (by simp [inv'.size])
      intro i h1 h2
      simp only [Array.getElem_mapIdx]
      by_cases hi : i < n
      · have := unl_zero hu' i hi; simp [h1] at this; simp [hi, this]
      · have := inv'.tail i (by omega) (by rw [← inv'.size]; exact h1); simp [h1] at this; simp [hi, this]
    subst eL
    exact wpAny_of_seq (l.drop n) n _ a' w' (fun j => by simp [List.getElem?_drop]) b4 hT
  · rw [e1, e]
    refine wpAny_of_held (S := fun w' => ∃ p : Regrown, w' = Go.Sort.grow (redrawn w p.d) p.os) _ _ _ _ ?_
    suffices hg : wpAnyH P .any (l.take n).toArray (Ends fun a w => wpList P l.toArray Q (l.drop n) a w) (fun w' => ∃ p : Regrown, w' = Go.Sort.grow (redrawn w p.d) p.os) (cs.length + rs.length) (Array.replicate n false) a { w with drawn := w.drawn + 1 } by rw [b9] at hg; exact hg
    refine wpAnyH_takes b6 rs _ a _ cs.length ⟨⟨w.drawn + 1, #[]⟩, by rw [Go.Sort.grow_empty]; rfl⟩ b7 ?_
    refine wpQuiet_mono (fun a' ha => ?_) _ _ h
    exact wpAnyH_forced cs _ a' _ b8 (wpForce_mono (fun w' hb => regrown_of_below hb) _ _ _ (ha _ hbd rfl))
/-- Reads first, as they are in all worlds that meet S; then the others, one behind the other. -/
theorem wpAny_seq {l : List Oper} {a : Act} {w : World} (n : Nat) (rs cs : List Nat) (S : World → Prop) (hS : S w.drew) (hB : readsB l n rs cs = true)
    (h : wpQuiet P (l.take n).toArray S (fun a' => wpForce P (l.take n).toArray S (fun a w => wpList P l.toArray Q (l.drop n) a w) (cs.filterMap ((l.take n).toArray[·]?)) a' w.drew) (rs.filterMap ((l.take n).toArray[·]?)) a) :
    wpAny P .any l.toArray Q l.toArray.size (Array.replicate l.toArray.size false) a { w with drawn := w.drawn + 1 } := by
  simp only [readsB, Bool.and_eq_true, decide_eq_true_eq] at hB
  obtain ⟨⟨⟨⟨⟨⟨⟨⟨b1, b2⟩, b3⟩, b4⟩, b5⟩, b6⟩, b7⟩, b8⟩, b9⟩ := hB
  have hn : n < l.toArray.size := by simpa using b5
  have e : l.toArray.extract 0 n = (l.take n).toArray := by simp
  have hsz : (l.take n).toArray.size = n := by simp; omega
  have inv : HeadInv .any l.toArray n (Array.replicate l.toArray.size false) := ⟨by simp, (fun j oj _ hl => by rw [getD_replicate_false] at hl; cases hl), fun t _ ht => by simp at ht; simp [ht]⟩
  have hu : unl n (Array.replicate l.toArray.size false) = n := by
    unfold unl
    rw [List.countP_eq_length.2 (fun i hi => by
      have h1 := List.mem_range.1 hi
      have h2 : i < l.length := by omega
      simp [h2]), List.length_range]
  have e1 : (Array.replicate l.toArray.size false).extract 0 n = Array.replicate n false := by
    apply Array.ext_getElem?
    intro j
    by_cases hj : j < n
    · rw [ext0 _ hj, Array.getElem?_replicate, Array.getElem?_replicate, if_pos hj, if_pos (by omega)]
    · rw [Array.getElem?_eq_none (by simp; omega), Array.getElem?_eq_none (by simp; omega)]
  have hlen : n + (l.drop n).length = l.toArray.size := by simp; omega
  suffices hg : wpAny P .any l.toArray Q (n + (l.drop n).length) (Array.replicate l.toArray.size false) a { w with drawn := w.drawn + 1 } by rw [hlen] at hg; exact hg
  refine wpAny_of_truncE (T := fun a w => wpList P l.toArray Q (l.drop n) a w) b1 b2 b3 hn (fun L a' w' inv' hu' hT => ?_) n _ a _ inv hu ?_
  · have eL : L = (Array.replicate l.length false).mapIdx fun i _ => decide (i < n) := by
      apply Array.ext (by simp [inv'.size])
      intro i h1 h2
      simp only [Array.getElem_mapIdx]
      by_cases hi : i < n
      · have := unl_zero hu' i hi; simp [h1] at this; simp [hi, this]
      · have := inv'.tail i (by omega) (by rw [← inv'.size]; exact h1); simp [h1] at this; simp [hi, this]
    subst eL
    exact wpAny_of_seq (l.drop n) n _ a' w' (fun j => by simp [List.getElem?_drop]) b4 hT
  · rw [e1, e]
    refine wpAny_of_held (S := S) _ _ _ _ ?_
    suffices hg : wpAnyH P .any (l.take n).toArray (Ends fun a w => wpList P l.toArray Q (l.drop n) a w) S (cs.length + rs.length) (Array.replicate n false) a { w with drawn := w.drawn + 1 } by rw [b9] at hg; exact hg
    refine wpAnyH_takes b6 rs _ a _ cs.length hS b7 ?_
    refine wpQuiet_mono (fun a' ha => ?_) _ _ h
    exact wpAnyH_forced cs _ a' _ b8 ha
theorem wp_region_seq {id : Nat} {l : List Oper} {a : Act} {w : World} (n : Nat) (rs cs : List Nat) (S : World → Prop) (hS : S w.drew) (hm : P.follows .mixedOrders = true) (hB : readsB l n rs cs = true)
    (h : wpQuiet P (l.take n).toArray S (fun a' => wpForce P (l.take n).toArray S (fun a w => wpList P l.toArray Q (l.drop n) a w) (cs.filterMap ((l.take n).toArray[·]?)) a' w.drew) (rs.filterMap ((l.take n).toArray[·]?)) a) :
    (Code.region id l.toArray true).wp P Q a w :=
  wp_region_any hm (wpAny_seq n rs cs S hS hB h)
theorem wpIn_region_seq {id : Nat} {l : List Oper} {a : Act} {w : World} (m : Nat) (rs cs : List Nat) (S : World → Prop) (hS : S w.drew) (hm : P.follows .mixedOrders = true) (hB : readsB l m rs cs = true) (hd : l.all noDefer = true)
    (h : wpQuiet P (l.take m).toArray S (fun a' => wpForce P (l.take m).toArray S (fun a w => wpList P l.toArray (Ends fun a w => Q .normal a w) (l.drop m) a w) (cs.filterMap ((l.take m).toArray[·]?)) a' w.drew) (rs.filterMap ((l.take m).toArray[·]?)) a) :
    (Code.region id l.toArray true).wpIn (Fence.wide.inRound r) n P Q a w :=
  wpIn_region_of_any hm hd (wpAny_seq m rs cs S hS hB h)
theorem wpIn_region_reads {id : Nat} {l : List Oper} {a : Act} {w : World} (m : Nat) (rs cs : List Nat) (hm : P.follows .mixedOrders = true) (hB : readsB l m rs cs = true) (hd : l.all noDefer = true)
    (h : wpQuiet P (l.take m).toArray (fun w' => ∃ p : Regrown, w' = Go.Sort.grow (redrawn w p.d) p.os) (fun a' => ∀ w', Below w.heap.size w w' → w'.heap.size = w.heap.size → wpForce P (l.take m).toArray (fun w' => Below w.heap.size w w') (fun a w => wpList P l.toArray (Ends fun a w => Q .normal a w) (l.drop m) a w) (cs.filterMap ((l.take m).toArray[·]?)) a' w') (rs.filterMap ((l.take m).toArray[·]?)) a) :
    (Code.region id l.toArray true).wpIn (Fence.wide.inRound r) n P Q a w :=
  wpIn_region_of_any hm hd (wpAny_reads m rs cs hB h)
end
end Go.Proofs.Ytlkdmcdnkoiflaa

/- Slices that lie in blocks of one type; list and told, by what they own. -/
namespace Go.Proofs.Ytlkdmcdnkoiflaa
open Go.RowKit Go.Lib

/-- The slice reads as l, and lies in a block of type T below B. -/
def SlT {α : Type} (w : World) (B k : Nat) (T : TypeId) (enc : α → List Value) (A : Option Addr) (l : List α) : Prop :=
  l ≠ [] → ∃ b off, A = some ⟨b, off, none⟩ ∧ b < B ∧ (∃ cs, Lies w b T cs) ∧ ∀ i x, l[i]? = some x → ∀ j u, (enc x)[j]? = some u → w.cell? ⟨b, off + i * k + j, none⟩ = some u
section
variable {α : Type} {w w' : World} {B B' k : Nat} {T : TypeId} {enc : α → List Value} {A : Option Addr} {l : List α}
theorem SlT.sl (h : SlT w B k T enc A l) : Sl w B k enc A l := fun hl => by
  obtain ⟨b, off, e, hb, _, hc⟩ := h hl
  exact ⟨b, off, e, hb, hc⟩
theorem SlT.more (h : SlT w B k T enc A l) (hB : B ≤ B') : SlT w B' k T enc A l := fun hl => by
  obtain ⟨b, off, e, hb, hr⟩ := h hl
  exact ⟨b, off, e, by omega, hr⟩
theorem SlT.keep (h : SlT w B k T enc A l) (hk : ∀ b cs, b < B → Lies w b T cs → w'.heap[b]? = w.heap[b]?) : SlT w' B k T enc A l := fun hl => by
  obtain ⟨b, off, e, hb, ⟨cs, hcs⟩, hc⟩ := h hl
  have hblk := hk b cs hb hcs
  exact ⟨b, off, e, hb, ⟨cs, hcs.to_ hblk⟩, fun i x hx j u hu => (World.cell?_of_block (a := ⟨b, off + i * k + j, none⟩) hblk).trans (hc i x hx j u hu)⟩
theorem SlT.below (h : SlT w B k T enc A l) (hb : Below B w w') : SlT w' B k T enc A l := h.keep fun b _ hlt _ => hb.block b hlt
theorem SlT.call (h : SlT w w.heap.size k T enc A l) (hb : Below w.heap.size w w') : SlT w' w'.heap.size k T enc A l := (h.below hb).more hb.size
theorem SlT.grown {base2 size2 n2 : Nat} {e2 : TypeId} {v2 : Value} {xs2 : List Value} (h : SlT w B k T enc A l) (h2 : w.ownsRow base2 e2 size2 v2 n2 xs2) (he : T ≠ e2) (hg : w.grownBy w' v2.ownBlock) : SlT w' B k T enc A l :=
  h.keep fun b cs _ hcs => hg.block b hcs.in_ fun e => by
    obtain ⟨_, _, cs', hl'⟩ := own_at h2 e.symm
    exact lies_ne hcs hl' he rfl
theorem SlT.only {G : Nat} {t : TypeId} {cs : Array Value} (h : SlT w B k T enc A l) (ho : Only G w w') (hG : Lies w G t cs) (hT : T ≠ t) : SlT w' B k T enc A l :=
  h.keep fun b _ _ hcs => ho.block b (lies_ne hcs hG hT)
theorem SlT.turns {T0 : TypeId} {D : Nat} (h : SlT w B k T enc A l) (ht : Turns T0 D w w') (hT : T ≠ T0) : SlT w' B k T enc A l :=
  h.keep fun b cs _ hcs => by
    have := ht.lies' hcs hT
    unfold Lies at this hcs
    rw [this, hcs]
end
theorem SlT.of_own {α : Type} {w : World} {base k : Nat} {e : TypeId} {enc : α → List Value} {A : Option Addr} {c : Nat} {l : List α} (hk : ∀ x, (enc x).length = k) (h : w.ownsRow base e k (.slice A l.length c) l.length (l.flatMap enc)) : SlT w w.heap.size k e enc A l := fun hl => by
  obtain ⟨b, off, eA, hb, hc⟩ := (sl_of_own hk h) hl
  subst eA
  exact ⟨b, off, rfl, hb, (own_at h rfl).2.2, hc⟩
section
set_option maxHeartbeats 1000000
theorem clone_own (g o n c : Nat) (l : List Int) (w : World) (hA : Sl w w.heap.size 1 encI (some ⟨g, o, none⟩) l) (hn : n = l.length) (hl : l.length ≤ 1000000) :
    Calls Try.prog 116 #[.slice (some ⟨g, o, none⟩) n c] w fun e w' => ∃ A' c', e = .returned (.slice A' l.length c') ∧ w'.ownsRow w.heap.size 3 1 (.slice A' l.length c') l.length (l.flatMap encI) ∧ Below w.heap.size w w' := by
  subst hn
  obtain ⟨i0, hi, hz0, hz1, hz2⟩ := info_parts info_int
  have hown : (w.alloc (.cells #[] 3)).ownsRow w.heap.size 3 1 (.slice (some ⟨w.heap.size, 0, none⟩) 0 0) 0 [] :=
    ⟨rfl, .inr ⟨w.heap.size, 0, #[], rfl, Nat.le_refl _, heap_alloc_new _ _, Nat.le_refl _, by unfold maxLen; omega, rfl, rfl⟩⟩
  have hb0 : Below w.heap.size w (w.alloc (.cells #[] 3)) := (Below.refl _ _).alloc (Nat.le_refl _) _
  have hnews := (hA.below hb0).news (enc := encI) (fun _ => rfl)
  have HO := Lib.hid hown
  have HN := Lib.hid hnews
  have HA := Lib.hid hA
  have Hz0 := Lib.hid hz0
  have Hz1 := Lib.hid hz1
  have Hz2 := Lib.hid hz2
  have HI := Lib.hid hi
  have HB := Lib.hid hb0
  clear hown hnews hA hz0 hz1 hz2 hi hb0
  have q22 : ∀ (w : World) (a : Option Addr) (n c n' c' : Nat), (binOp .eql 23 (.slice a n c) (.slice none n' c')).run Try.prog w = .ok (.bool a.isNone) w := fun w a n c n' c' => Lib.run_eql_slice_nil w _ _ a n c n' c' Try.underlying23
  go_enter Try.func116, Try.ntmps116
  go_wp2_with (at_builtin; refine wpList_append_own _ ?_ (.tmp 5) (.tmp 6) 23 ?_ w.heap.size 3 i0 (.int .i64 0) 1 8 Try.underlying23 HI.out Hz0.out Hz1.out Hz2.out rfl (by decide) _ 0 [] ?_ HO.out ⟨g, o, none⟩ l.length c (l.map (Value.int .i64)) ?_ (by simp) ?_ (ints_one l) (by unfold maxLen; omega) (by omega) (by simp) ?_; rfl; rfl; rfl; rfl; (intro j v hj; exact HN.out _ rfl j v (by rw [flat_ints]; exact hj)); intro v' w1 hown1 hgrow1 hx)
  obtain ⟨A', c', e1, e2, e3⟩ := Sl.of_own (enc := encI) (l := l) (fun _ => rfl) (by simpa using hown1) (by rw [flat_ints])
  subst e1
  go_ret
  exact ⟨A', c', rfl, by rw [flat_ints]; simpa using hown1, HB.out.grown hgrow1 (by simp) (by simp [Value.ownBlock])⟩
theorem list_own (cs : List Int) (n : Nat) (w : World) (hl : cs.length = 5) (hn : n ≤ 5) :
    Calls Try.prog 102 #[.agg (vals cs), .int .i64 n] w fun e w' => ∃ x : Sv Int, e = .returned x.val ∧ x.l = cs.take n ∧ SlT w' w'.heap.size 1 3 encI x.A x.l ∧ Below w.heap.size w w' := by
  have hL : Lies (w.alloc (.cells (vals cs) 120)) w.heap.size 120 (vals cs) := Lies.fresh _ _ _
  have hb0 : Below w.heap.size w (w.alloc (.cells (vals cs) 120)) := (Below.refl _ _).alloc (Nat.le_refl _) _
  have hC := clone_own w.heap.size 0 n 5 (cs.take n) _ (hL.sl n) (by simp; omega) (by simp; omega)
  have HB := Lib.hid hb0
  have HC := Lib.hid hC
  clear hL hb0 hC
  have hn0 : (0 : Int) ≤ (n : Int) := by omega
  have hn5 : (n : Int) ≤ 5 := by omega
  go_enter Try.func102, Try.ntmps102
  go_wp2_with (go_at_call 116; refine HC.out.mono ?_; rintro e w' ⟨A, c, rfl, h1, h2⟩)
  go_ret
  exact ⟨⟨A, cs.take n, c⟩, ret_slice (by simp; omega), rfl, SlT.of_own (fun _ => rfl) h1, HB.out.trans (h2.mono HB.out.size)⟩
end
/-- A year as it lies: four lists. -/
structure Y4 where
  a : Sv Int
  b : Sv Int
  c : Sv Int
  d : Sv Int
def encY4 (y : Y4) : List Value := [y.a.val, y.b.val, y.c.val, y.d.val]
theorem encY4_length (y : Y4) : (encY4 y).length = 4 := rfl
def Y4.lists (y : Y4) : List Int × List Int × List Int × List Int := (y.a.l, y.b.l, y.c.l, y.d.l)
structure Y4.In (y : Y4) (w : World) (B : Nat) : Prop where
  a : SlT w B 1 3 encI y.a.A y.a.l
  b : SlT w B 1 3 encI y.b.A y.b.l
  c : SlT w B 1 3 encI y.c.A y.c.l
  d : SlT w B 1 3 encI y.d.A y.d.l
theorem Y4.In.keep {y : Y4} {w w' : World} {B : Nat} (h : y.In w B) (hk : ∀ b cs, b < B → Lies w b 3 cs → w'.heap[b]? = w.heap[b]?) : y.In w' B := ⟨h.a.keep hk, h.b.keep hk, h.c.keep hk, h.d.keep hk⟩
theorem Y4.In.more {y : Y4} {w : World} {B B' : Nat} (h : y.In w B) (hB : B ≤ B') : y.In w B' := ⟨h.a.more hB, h.b.more hB, h.c.more hB, h.d.more hB⟩
theorem Y4.In.call {y : Y4} {w w' : World} (h : y.In w w.heap.size) (hb : Below w.heap.size w w') : y.In w' w'.heap.size := ⟨h.a.call hb, h.b.call hb, h.c.call hb, h.d.call hb⟩
/-- What is told of a year. -/
def toldL (n : Nat) (x : List Int) : List Int × List Int × List Int × List Int := ((sub5 0 x).take n, (sub5 5 x).take n, (sub5 10 x).take n, (sub5 15 x).take n)
theorem sizeYr : (Try.prog.info? 54).map (·.size) = some 4 := by kernel_rfl
theorem built_year (A1 A2 A3 A4 : Option Addr) (n1 n2 n3 n4 c1 c2 c3 c4 : Nat) : Try.prog.built 54 [(0, .slice A1 n1 c1), (1, .slice A2 n2 c2), (2, .slice A3 n3 c3), (3, .slice A4 n4 c4)] = some #[.slice A1 n1 c1, .slice A2 n2 c2, .slice A3 n3 c3, .slice A4 n4 c4] := by kernel_rfl
set_option maxRecDepth 100000 in
set_option maxHeartbeats 1000000 in
theorem told_any (xl : List Int) (n : Nat) (w : World) (h20 : xl.length = 20) (hn : n ≤ 5) :
    Calls Try.prog 63 #[.agg (vals xl), .int .i64 n] w fun e w' => ∃ y : Y4, e = .returned (.agg (encY4 y).toArray) ∧ y.lists = toldL n xl ∧ y.In w' w'.heap.size ∧ Below w.heap.size w w' := by
  have l0 : Lies ((w.alloc (.cells (vals xl) 123)).alloc (.cells #[.slice none 0 0, .slice none 0 0, .slice none 0 0, .slice none 0 0] 54)) w.heap.size 123 (vals xl) := (Lies.fresh _ _ _).alloc _
  have l1 : Lies ((w.alloc (.cells (vals xl) 123)).alloc (.cells #[.slice none 0 0, .slice none 0 0, .slice none 0 0, .slice none 0 0] 54)) (w.heap.size + 1) 54 #[.slice none 0 0, .slice none 0 0, .slice none 0 0, .slice none 0 0] := Lies.fresh' (by simp)
  have b0 : Below w.heap.size w ((w.alloc (.cells (vals xl) 123)).alloc (.cells #[.slice none 0 0, .slice none 0 0, .slice none 0 0, .slice none 0 0] 54)) := (by repeat (first | (with_reducible assumption) | (with_reducible exact Below.refl _ _) | (with_reducible refine Below.drew ?_) | (with_reducible refine below_drewN ?_ _) | ((with_reducible refine Below.setCell ?_ ?_ _); rotate_left; focus (first | (simp; done) | (simp; omega) | omega)) | ((with_reducible refine Below.alloc ?_ ?_ _); rotate_left; focus (first | (simp; done) | (simp; omega) | omega))))
  have HRg := Lib.hid (fun off ho => parts5 h20 l0 off ho)
  have L1 := Lib.hid l1
  have B0 := Lib.hid b0
  have H20 := Lib.hid h20
  clear l0 l1 b0 h20
  go_enter Try.func63, Try.ntmps63
  go_wp2
  refine wp_region_reads 16 [0, 1, 2, 4, 5, 6, 8, 9, 10, 12, 13, 14] [3, 7, 11, 15] (by kernel_rfl) (by kernel_rfl) ?_
  simp only [List.filterMap_cons, List.filterMap_nil, List.take_succ_cons, List.take_zero, List.getElem?_toArray, List.getElem?_cons_zero, List.getElem?_cons_succ, List.drop_succ_cons, List.drop_zero]
  repeat (first
    | (refine wpQuiet_load_ints (o := ⟨some 6, _, _, _, _, _⟩) ?_ 120 (.tmp 5) ?_ w.heap.size 0 ?_ (sub5 0 xl) _ (HRg.out 0 (by omega)).1 Try.underlying120 rfl (HRg.out 0 (by omega)).2 ?_; rfl; rfl; rfl; simp only [Act.put, List.setIfInBounds_toArray, List.set_cons_zero, List.set_cons_succ])
    | (refine wpQuiet_load_ints (o := ⟨some 10, _, _, _, _, _⟩) ?_ 120 (.tmp 9) ?_ w.heap.size 5 ?_ (sub5 5 xl) _ (HRg.out 5 (by omega)).1 Try.underlying120 rfl (HRg.out 5 (by omega)).2 ?_; rfl; rfl; rfl; simp only [Act.put, List.setIfInBounds_toArray, List.set_cons_zero, List.set_cons_succ])
    | (refine wpQuiet_load_ints (o := ⟨some 14, _, _, _, _, _⟩) ?_ 120 (.tmp 13) ?_ w.heap.size 10 ?_ (sub5 10 xl) _ (HRg.out 10 (by omega)).1 Try.underlying120 rfl (HRg.out 10 (by omega)).2 ?_; rfl; rfl; rfl; simp only [Act.put, List.setIfInBounds_toArray, List.set_cons_zero, List.set_cons_succ])
    | (refine wpQuiet_load_ints (o := ⟨some 18, _, _, _, _, _⟩) ?_ 120 (.tmp 17) ?_ w.heap.size 15 ?_ (sub5 15 xl) _ (HRg.out 15 (by omega)).1 Try.underlying120 rfl (HRg.out 15 (by omega)).2 ?_; rfl; rfl; rfl; simp only [Act.put, List.setIfInBounds_toArray, List.set_cons_zero, List.set_cons_succ])
    | go_big_quiet_step (fail) | quiet_step (fail))
  refine wpQuiet_nil ?_
  intro w0 hb0 hz0
  clear hz0
  simp only [wpForce]
  go_wp2_with (go_at_call 102; refine (list_own _ _ _ (sub5_length (by rw [H20.out]; decide)) hn).mono ?_; rintro e w1 ⟨x0, rfl, hx0, ho0, hbw1⟩)
  have hcw1 := hb0.trans (hbw1.mono hb0.size)
  refine Ends.intro ⟨hcw1, ?_⟩
  go_wp2_with (go_at_call 102; refine (list_own _ _ _ (sub5_length (by rw [H20.out]; decide)) hn).mono ?_; rintro e w2 ⟨x1, rfl, hx1, ho1, hbw2⟩)
  have hcw2 := hcw1.trans (hbw2.mono hcw1.size)
  refine Ends.intro ⟨hcw2, ?_⟩
  go_wp2_with (go_at_call 102; refine (list_own _ _ _ (sub5_length (by rw [H20.out]; decide)) hn).mono ?_; rintro e w3 ⟨x2, rfl, hx2, ho2, hbw3⟩)
  have hcw3 := hcw2.trans (hbw3.mono hcw2.size)
  refine Ends.intro ⟨hcw3, ?_⟩
  go_wp2_with (go_at_call 102; refine (list_own _ _ _ (sub5_length (by rw [H20.out]; decide)) hn).mono ?_; rintro e w4 ⟨x3, rfl, hx3, ho3, hbw4⟩)
  have hcw4 := hcw3.trans (hbw4.mono hcw3.size)
  refine Ends.intro ⟨hcw4, ?_⟩
  have hl1 := L1.out.call hcw4
  have hin : (⟨x0, x1, x2, x3⟩ : Y4).In w4 w4.heap.size := ⟨((ho0.call hbw2).call hbw3).call hbw4, (ho1.call hbw3).call hbw4, ho2.call hbw4, ho3⟩
  have hls : (⟨x0, x1, x2, x3⟩ : Y4).lists = toldL n xl := by unfold Y4.lists toldL; simp only [hx0, hx1, hx2, hx3]
  have HL1 := Lib.hid hl1
  have HIN := Lib.hid hin
  have HLS := Lib.hid hls
  have HCW := Lib.hid (B0.out.trans (hcw4.mono B0.out.size))
  clear hl1 hin hls hx0 hx1 hx2 hx3 ho0 ho1 ho2 ho3 hbw1 hbw2 hbw3 hbw4 hcw1 hcw2 hcw3 hcw4 hb0 HRg H20 L1 B0
  unfold Sv.val
  go_wp2_with (first
    | (refine wpList_build (o := ⟨some 21, _, _, _, _, _⟩) ?_ 54 #[(0, .tmp 8), (1, .tmp 12), (2, .tmp 16), (3, .tmp 20)] ?_ #[(0, x0.val), (1, x1.val), (2, x2.val), (3, x3.val)] ?_ (encY4 ⟨x0, x1, x2, x3⟩).toArray ?_ ?_; rfl; rfl; (simp [Act.eval, Sv.val]); exact built_year _ _ _ _ _ _ _ _ _ _ _ _)
    | (refine wpList_store_cells (o := ⟨none, .store 54 (.tmp 4) _, _, _, _, _⟩) ?_ 54 (.tmp 4) (.tmp 21) ?_ (w.heap.size + 1) 0 ?_ 54 [.slice none 0 0, .slice none 0 0, .slice none 0 0, .slice none 0 0] (encY4 ⟨x0, x1, x2, x3⟩) ?_ HL1.out (by simp [encY4]) sizeYr (by simp [encY4, Sv.val, Value.oneCell']) ?_; rfl; rfl; rfl; rfl; intro w9 HS9 HO9; (try simp only [Act.put])))
  have hl9 : Lies w9 (w.heap.size + 1) 54 (encY4 ⟨x0, x1, x2, x3⟩).toArray := by have := HS9.out; rwa [splice_whole (by simp [encY4])] at this
  have hb9 : Below w.heap.size w w9 := HO9.out.below HCW.out (by omega)
  have hi9 : (⟨x0, x1, x2, x3⟩ : Y4).In w9 w9.heap.size := by
    rw [HO9.out.size]
    exact HIN.out.keep fun b cs _ hcs => HO9.out.block b (lies_ne hcs HL1.out (by decide))
  exact bodyPost_ret (results_cell_row rfl _ _ (w.heap.size + 1) 54 (encY4 ⟨x0, x1, x2, x3⟩).toArray (0, 0) _ rfl hl9 Try.underlying54 rfl sizeYr) rfl ⟨_, rfl, HLS.out, hi9, hb9⟩
end Go.Proofs.Ytlkdmcdnkoiflaa

/- isOf: has a truth just one number of each range of a plan? -/
namespace Go.Proofs.Ytlkdmcdnkoiflaa
open Go.RowKit Go.Lib

def hasB (r : Int × Int) (m : Int) : Bool := inB m r.1 r.2
def rowFit (x : Sv (Int × Int)) (y : Sv Int) : Bool := pairedB x.l y.l hasB
def yearFit (g : List (Sv (Int × Int))) (y : Sv (Sv Int)) : Bool := pairedB g y.l rowFit
theorem isOf1_any (x : Sv (Int × Int)) (y : Sv Int) (w : World) (hx : Sl w w.heap.size 2 encR x.A x.l) (hy : Sl w w.heap.size 1 encI y.A y.l) (hl : x.l.length ≤ 1000000) :
    Calls Try.prog 95 #[x.val, y.val] w fun e w' => e = .returned (.bool (rowFit x y)) ∧ Below w.heap.size w w' := by
  have H := pairedRange_any 96 #[] #[] (fun r m => inB m r.1 r.2) x.A y.A x.c y.c x.l y.l w hx hy (ask_has w _) hl
  have HH := Lib.hid H
  clear H hx hy
  unfold Sv.val
  go_enter Try.func95, Try.ntmps95
  go_wp2_with (go_at_call 91; refine HH.out.mono ?_; rintro e w' ⟨rfl, hb⟩)
  go_ret
  exact ⟨rfl, hb⟩
theorem ask_isOf1 (w : World) (D : Sv (Int × Int) → Sv Int → Prop) (hD : ∀ x y, D x y → Sl w w.heap.size 2 encR x.A x.l ∧ Sl w w.heap.size 1 encI y.A y.l ∧ x.l.length ≤ 1000000) :
    Ask2 Try.prog Sv.val Sv.val 95 #[] #[] rowFit D w :=
  ⟨enters_of Try.func95 (by kernel_rfl) rfl, fun W x y hx hb =>
    isOf1_any x y W (((hD x y hx).1.below hb).more hb.size) (((hD x y hx).2.1.below hb).more hb.size) (hD x y hx).2.2⟩
theorem isOf2_any (p : PlM) (y : Sv (Sv Int)) (gp gf : Nat) (w : World) (hp : p.At w w.heap.size) (hy : Sl w w.heap.size 1 encV y.A y.l) (hr : ∀ r, r ∈ y.l → Sl w w.heap.size 1 encI r.A r.l)
    (h1 : w.cell? ⟨gp, 2, none⟩ = some (.slice p.g.A p.g.l.length p.g.c)) (h2 : w.cell? ⟨gf, 0, none⟩ = some (.func (.func 95) #[] #[])) :
    Calls Try.prog 97 #[y.val, .pointer (some ⟨gp, 0, none⟩), .pointer (some ⟨gf, 0, none⟩)] w fun e w' => e = .returned (.bool (yearFit p.g.l y)) ∧ Below w.heap.size w w' := by
  have H := pairedRow_any 95 #[] #[] rowFit p.g.A y.A p.g.c y.c p.g.l y.l w hp.g hy (ask_isOf1 w _ (fun x z h => ⟨hp.rows x h.1, hr z h.2, hp.lrows x h.1⟩)) hp.lg
  have HH := Lib.hid H
  clear H hp hy hr
  unfold Sv.val
  go_enter Try.func97, Try.ntmps97
  go_wp2_with (go_at_call 98; refine HH.out.mono ?_; rintro e w' ⟨rfl, hb⟩)
  go_ret
  exact ⟨rfl, hb⟩
theorem ask_isOf2 (p : PlM) (t : TrM) (gp gf : Nat) (w : World) (hp : p.At w w.heap.size) (ht : t.At w w.heap.size) (h1 : w.cell? ⟨gp, 2, none⟩ = some (.slice p.g.A p.g.l.length p.g.c)) (h2 : w.cell? ⟨gf, 0, none⟩ = some (.func (.func 95) #[] #[])) :
    Ask Try.prog Sv.val 97 #[] #[.pointer (some ⟨gp, 0, none⟩), .pointer (some ⟨gf, 0, none⟩)] (yearFit p.g.l) (· ∈ t.g.l) w :=
  ⟨enters_of Try.func97 (by kernel_rfl) rfl, fun W y hy hb =>
    isOf2_any p y gp gf W (hp.below hb hb.size) (((ht.ys y hy).below hb).more hb.size) (fun r hr => ((ht.rs y hy r hr).below hb).more hb.size) ((hb.cell (p := ⟨gp, 2, none⟩) (World.block_lt_of_cell? w _ h1)).trans h1) ((hb.cell (p := ⟨gf, 0, none⟩) (World.block_lt_of_cell? w _ h2)).trans h2)⟩
def TrM.f0 (t : TrM) (p : PlM) : Bool := pairedB p.s.l t.s.l hasB
def TrM.f1 (t : TrM) (p : PlM) : Bool := decide ((t.g.l.length : Int) = p.years) && t.g.l.all (yearFit p.g.l)
def TrM.f2 (t : TrM) (p : PlM) : Bool := decide ((t.l.l.length : Int) = p.years) && t.l.l.all fun m => inB m p.lo p.hi
def TrM.fitB (t : TrM) (p : PlM) : Bool := t.f0 p && (t.f1 p && t.f2 p)
set_option maxRecDepth 100000 in
set_option maxHeartbeats 1000000 in
theorem isOf_any (p : PlM) (t : TrM) (w : World) (hp : p.At w w.heap.size) (ht : t.At w w.heap.size) (hg : t.g.l.length ≤ 1000000) (hl : t.l.l.length ≤ 1000000) :
    Calls Try.prog 60 #[.agg t.cells.toArray, .agg p.cells.toArray] w fun e w' => e = .returned (.bool (t.fitB p)) ∧ Below w.heap.size w w' := by
  have q0 : ∀ W, Below w.heap.size w W → Calls Try.prog 91 #[.slice p.s.A p.s.l.length p.s.c, .slice t.s.A t.s.l.length t.s.c, .func (.func 96) #[] #[]] W fun e w' => e = .returned (.bool (t.f0 p)) ∧ Below W.heap.size W w' := fun W hb =>
    pairedRange_any 96 #[] #[] (fun r m => inB m r.1 r.2) p.s.A t.s.A p.s.c t.s.c p.s.l t.s.l W ((hp.s.below hb).more hb.size) ((ht.s.below hb).more hb.size) (ask_has W _) hp.ls
  have q1 : ∀ W gp gf, Below w.heap.size w W → W.cell? ⟨gp, 2, none⟩ = some (.slice p.g.A p.g.l.length p.g.c) → W.cell? ⟨gf, 0, none⟩ = some (.func (.func 95) #[] #[]) → Calls Try.prog 99 #[.slice t.g.A t.g.l.length t.g.c, .int .i64 p.years, .func (.func 97) #[] #[.pointer (some ⟨gp, 0, none⟩), .pointer (some ⟨gf, 0, none⟩)]] W fun e w' => e = .returned (.bool (t.f1 p)) ∧ Below W.heap.size W w' := fun W gp gf hb h1 h2 =>
    fitsYear_any 97 #[] #[.pointer (some ⟨gp, 0, none⟩), .pointer (some ⟨gf, 0, none⟩)] (yearFit p.g.l) t.g.A t.g.c p.years t.g.l W ((ht.g.below hb).more hb.size) (ask_isOf2 p t gp gf W (hp.below hb hb.size) (ht.below hb hb.size) h1 h2) hg
  have q2 : ∀ W, Below w.heap.size w W → Calls Try.prog 90 #[.slice t.l.A t.l.l.length t.l.c, .int .i64 p.years, .func (.func 96) #[.agg #[.int .i64 p.lo, .int .i64 p.hi]] #[]] W fun e w' => e = .returned (.bool (t.f2 p)) ∧ Below W.heap.size W w' := fun W hb =>
    fitsInt_any 96 #[.agg #[.int .i64 p.lo, .int .i64 p.hi]] #[] (fun m => inB m p.lo p.hi) t.l.A t.l.c p.years t.l.l W ((ht.l.below hb).more hb.size) (ask_hasIn p.lo p.hi W _) hl
  unfold TrM.fitB
  have l0 : Lies (((w.alloc (.cells t.cells.toArray 46)).alloc (.cells p.cells.toArray 41)).alloc (.cells #[.func (.func 95) #[] #[]] 161)) w.heap.size 46 t.cells.toArray := ((Lies.fresh _ _ _).alloc _).alloc _
  have l1 : Lies (((w.alloc (.cells t.cells.toArray 46)).alloc (.cells p.cells.toArray 41)).alloc (.cells #[.func (.func 95) #[] #[]] 161)) (w.heap.size + 1) 41 p.cells.toArray := (Lies.fresh' (by simp)).alloc _
  have l2 : Lies (((w.alloc (.cells t.cells.toArray 46)).alloc (.cells p.cells.toArray 41)).alloc (.cells #[.func (.func 95) #[] #[]] 161)) (w.heap.size + 1 + 1) 161 #[.func (.func 95) #[] #[]] := Lies.fresh' (by simp)
  have b0 : Below w.heap.size w (((w.alloc (.cells t.cells.toArray 46)).alloc (.cells p.cells.toArray 41)).alloc (.cells #[.func (.func 95) #[] #[]] 161)) := (by repeat (first | (with_reducible assumption) | (with_reducible exact Below.refl _ _) | (with_reducible refine Below.drew ?_) | (with_reducible refine below_drewN ?_ _) | ((with_reducible refine Below.setCell ?_ ?_ _); rotate_left; focus (first | (simp; done) | (simp; omega) | omega)) | ((with_reducible refine Below.alloc ?_ ?_ _); rotate_left; focus (first | (simp; done) | (simp; omega) | omega))))
  have HP := Lib.hid hp
  have Q0 := Lib.hid q0
  have Q1 := Lib.hid q1
  have Q2 := Lib.hid q2
  have L0 := Lib.hid l0
  have L1 := Lib.hid l1
  have L2 := Lib.hid l2
  have B0 := Lib.hid b0
  clear hp ht q0 q1 q2 l0 l1 l2 b0
  unfold PlM.cells TrM.cells
  have hbx : ∀ W, Below (((w.alloc (.cells t.cells.toArray 46)).alloc (.cells p.cells.toArray 41)).alloc (.cells #[.func (.func 95) #[] #[]] 161)).heap.size (((w.alloc (.cells t.cells.toArray 46)).alloc (.cells p.cells.toArray 41)).alloc (.cells #[.func (.func 95) #[] #[]] 161)) W →
      W.cell? ⟨w.heap.size, 1, none⟩ = some (.slice t.g.A t.g.l.length t.g.c) ∧ W.cell? ⟨w.heap.size, 2, none⟩ = some (.slice t.l.A t.l.l.length t.l.c) ∧ W.cell? ⟨w.heap.size + 1, 6, none⟩ = some (.int .i64 p.hi) ∧ W.cell? ⟨w.heap.size + 1, 7, none⟩ = some (.int .i64 p.years) ∧ W.cell? ⟨w.heap.size + 1, 5, none⟩ = some (.int .i64 p.lo) ∧ W.cell? ⟨w.heap.size + 1, 2, none⟩ = some (.slice p.g.A p.g.l.length p.g.c) ∧ W.cell? ⟨w.heap.size + 1 + 1, 0, none⟩ = some (.func (.func 95) #[] #[]) ∧ Below w.heap.size w W := fun W hb =>
    ⟨(L0.out.call hb).at_ 1, (L0.out.call hb).at_ 2, (L1.out.call hb).at_ 6, (L1.out.call hb).at_ 7, (L1.out.call hb).at_ 5, (L1.out.call hb).at_ 2, (L2.out.call hb).at_ 0, B0.out.trans (hb.mono B0.out.size)⟩
  have HBX := Lib.hid hbx
  clear hbx
  cases h0 : t.f0 p with
  | false =>
    rw [h0] at Q0
    go_enter Try.func60, Try.ntmps60
    go_wp2_with (go_at_call 91; refine (Q0.out _ B0.out).mono ?_; rintro e w1 ⟨rfl, hb1⟩)
    go_ret
    exact ⟨rfl, B0.out.trans (hb1.mono B0.out.size)⟩
  | true =>
    rw [h0] at Q0
    cases h1 : t.f1 p with
    | false =>
      rw [h1] at Q1
      go_enter Try.func60, Try.ntmps60
      go_wp2_with (first
        | (go_at_call 91; refine (Q0.out _ B0.out).mono ?_; rintro e w1 ⟨rfl, hb1⟩; obtain ⟨c1, c2, c3, c4, c5, C6, C7, C8⟩ := HBX.out _ hb1; replace C6 := Lib.hid C6; replace C7 := Lib.hid C7; replace C8 := Lib.hid C8)
        | (go_at_call 99; refine (Q1.out _ _ _ C8.out C6.out C7.out).mono ?_; rintro e w2 ⟨rfl, hb2⟩))
      go_ret
      exact ⟨rfl, C8.out.trans (hb2.mono C8.out.size)⟩
    | true =>
      rw [h1] at Q1
      go_enter Try.func60, Try.ntmps60
      go_wp2_with (first
        | (go_at_call 91; refine (Q0.out _ B0.out).mono ?_; rintro e w1 ⟨rfl, hb1⟩; obtain ⟨c1, c2, c3, c4, c5, C6, C7, C8⟩ := HBX.out _ hb1; replace C6 := Lib.hid C6; replace C7 := Lib.hid C7; replace C8 := Lib.hid C8)
        | (go_at_call 99; refine (Q1.out _ _ _ C8.out C6.out C7.out).mono ?_; rintro e w2 ⟨rfl, hb2⟩; clear c1 c2 c3 c4 c5; obtain ⟨c1, c2, c3, c4, c5, C9, C10, C11⟩ := HBX.out _ (hb1.trans (hb2.mono hb1.size)); replace C9 := Lib.hid C9; replace C10 := Lib.hid C10; replace C11 := Lib.hid C11)
        | (go_at_call 90; refine (Q2.out _ C11.out).mono ?_; rintro e w3 ⟨rfl, hb3⟩))
      go_ret
      exact ⟨by simp, C11.out.trans (hb3.mono C11.out.size)⟩
end Go.Proofs.Ytlkdmcdnkoiflaa

/- stock.Run: what happens in each year of a truth. -/
namespace Go.Proofs.Ytlkdmcdnkoiflaa
open Go.RowKit Go.Lib
attribute [local go_sem] Oper.semAt_some

/-- The memory of Run between two rounds; v: the years so far. -/
structure YV (p : PlM) (f : Nat → List Int × List Int × List Int × List Int) (w : World) (G D : Nat) (v : Value) (k : Nat) (A : World) : Prop where
  pb : Lies A w.heap.size 41 p.cells.toArray
  rb : Lies A G 43 #[v]
  own : ∃ ys : List Y4, A.ownsRow D 54 4 v k (ys.flatMap encY4) ∧ ys.map Y4.lists = (List.range k).map f ∧ ∀ y, y ∈ ys → y.In A A.heap.size
  b : Below w.heap.size w A
  d : D ≤ A.heap.size
def YI (p : PlM) (f : Nat → List Int × List Int × List Int × List Int) (w : World) (G D : Nat) (s : Option Nat) (k : Nat) (A : World) : Prop := ∃ v, YV p f w G D v k A ∧ v.ownBlock = s
section
variable {p : PlM} {f : Nat → List Int × List Int × List Int × List Int} {w : World} {G D : Nat} {v : Value} {k : Nat} {A A' : World}
theorem YV.call (h : YV p f w G D v k A) (hb : Below A.heap.size A A') : YV p f w G D v k A' := by
  obtain ⟨ys, h1, h2, h3⟩ := h.own
  exact ⟨h.pb.call hb, h.rb.call hb, ⟨ys, ownsRow_call h1 hb, h2, fun y hy => (h3 y hy).call hb⟩, h.b.trans (hb.mono h.b.size), Nat.le_trans h.d hb.size⟩
theorem YV.turns {T0 : TypeId} {D0 : Nat} (h : YV p f w G D v k A) (ht : Turns T0 D0 A A') (hT : 54 ≠ T0) (hT' : 3 ≠ T0) (hw : w.heap.size < D0) (hG : G < D0) : YV p f w G D v k A' := by
  obtain ⟨ys, h1, h2, h3⟩ := h.own
  refine ⟨ht.lies h.pb hw, ht.lies h.rb hG, ⟨ys, own_turns h1 ht hT, h2, fun y hy => ((h3 y hy).keep fun b cs _ hcs => ?_).more ht.size⟩, ht.below h.b (by omega) h.b.size, Nat.le_trans h.d ht.size⟩
  have := ht.lies' hcs hT'
  unfold Lies at this hcs
  rw [this, hcs]
theorem YV.append {v' : Value} {y : Y4} {ys : List Y4} (h : YV p f w G D v k A) (h1 : A.ownsRow D 54 4 v k (ys.flatMap encY4)) (h2 : ys.map Y4.lists = (List.range k).map f) (h3 : ∀ y, y ∈ ys → y.In A A.heap.size) (hy : y.In A A.heap.size) (hl : y.lists = f k) (hG : G < D) (hw : w.heap.size < G) (hg : A.grownBy A' v.ownBlock)
    (hown : A'.ownsRow D 54 4 v' (k + 1) (ys.flatMap encY4 ++ encY4 y)) :
    YV p f w G D v' (k + 1) (A'.setCell ⟨G, 0, none⟩ v') ∧ Lies A' G 43 #[v] := by
  have hne : ∀ j, j < D → some j ≠ v.ownBlock := fun j hj e => by have := (own_at h1 e.symm).1; omega
  have hr := h.rb.grown hg (hne _ hG)
  have hd := h.d
  have hin : ∀ z : Y4, z.In A A.heap.size → z.In (A'.setCell ⟨G, 0, none⟩ v') (A'.setCell ⟨G, 0, none⟩ v').heap.size := fun z hz =>
    (hz.keep fun b cs _ hcs => by
      rw [heap_setCell_other _ _ _ _ (lies_ne hcs h.rb (by decide)), hg.block b hcs.in_ (fun e => by
        obtain ⟨_, _, cs', hl'⟩ := own_at h1 e.symm
        exact lies_ne hcs hl' (by decide) rfl)]).more (by have := hg.size; simpa only [World.size_setCell] using this)
  refine ⟨⟨(h.pb.grown hg (hne _ (by omega))).other (show w.heap.size ≠ G by omega) _, hr.set 0 v', ⟨ys ++ [y], ?_, ?_, fun z hz => ?_⟩,
    (h.b.grown hg h.b.size (fun j e => by have := (own_at h1 e).1; omega)).setCell (by show w.heap.size ≤ G; omega) _, ?_⟩, hr⟩
  · have := own_set hown hr (by decide) (i := 0) v'
    rw [List.flatMap_append]
    simpa using this
  · rw [List.map_append, h2, List.range_succ, List.map_append]
    simp [hl]
  · rcases List.mem_append.1 hz with hz | hz
    · exact hin z (h3 z hz)
    · obtain rfl : z = y := by simpa using hz
      exact hin z hy
  · have := hg.size
    simp only [World.size_setCell]
    omega
end
/-- An aggregate is built, quietly. -/
theorem wpQuiet_build {P : Program} {ops : Array Oper} {C : World → Prop} {rest : List Oper} {o : Oper} {a : Act} {Q : Act → Prop} (hgd : o.guard = none) (t : TypeId) (parts : Array (Nat × Operand)) (ho : o.op = .build t parts)
    (vs : Array (Nat × Value)) (hv : parts.map (fun p => (p.1, a.eval p.2)) = vs) (cells : Array Value) (h : P.built t vs.toList = some cells) (hk : wpQuiet P ops C Q rest (a.put o.dst (.agg cells))) : wpQuiet P ops C Q (o :: rest) a := by
  refine wpQuiet_step fun K hK => ?_
  rw [if_pos (by simp [Region.wanted, hgd])]
  refine ⟨.agg cells, fun W hW => ?_, hK _ hk⟩
  subst hv
  have hrun := run_build (P := P) W t _ cells h
  unfold Oper.quietAt execOp
  simp only [ho, hrun, Sem.run_bind, Sem.run_pure, Result.andThen_ok]
  exact ⟨rfl, rfl⟩
/-- What Run hands back of Y years. -/
def RetR (f : Nat → List Int × List Int × List Int × List Int) (Y : Nat) (w : World) (e : Ending) (w' : World) : Prop :=
  ∃ (A : Option Addr) (c : Nat) (ys : List Y4), e = .returned (.tuple #[.slice A Y c, .int .i64 0]) ∧ SlT w' w'.heap.size 4 54 encY4 A ys ∧ ys.map Y4.lists = (List.range Y).map f ∧ (∀ y, y ∈ ys → y.In w' w'.heap.size) ∧ Below w.heap.size w w'
theorem infoYear : (Try.prog.info? 54).map (fun i => (i.zero, i.size, i.bytes)) = some (some (.agg #[.slice none 0 0, .slice none 0 0, .slice none 0 0, .slice none 0 0]), 4, 96) := by kernel_rfl
set_option maxRecDepth 100000 in
set_option maxHeartbeats 4000000 in
theorem Run_ok (p : PlM) (t : TrM) (Y : Nat) (w : World) (hp : p.At w w.heap.size) (ht : t.At w w.heap.size) (hf : p.fault = 0) (hfit : t.fitB p = true) (hpt : PT p t) (hY : t.g.l.length = Y) :
    Calls Try.prog 22 #[.agg p.cells.toArray, .agg t.cells.toArray] w (RetR (fun k => toldL p.s.l.length (yrK p t (pad5 t.s.l) k)) Y w) := by
  have hn5 : p.s.l.length ≤ 5 := hpt.ok.n
  have l0 : Lies ((w.alloc (.cells p.cells.toArray 41)).alloc (.cells t.cells.toArray 46)) w.heap.size 41 p.cells.toArray := (Lies.fresh _ _ _).alloc _
  have l1 : Lies ((w.alloc (.cells p.cells.toArray 41)).alloc (.cells t.cells.toArray 46)) (w.heap.size + 1) 46 t.cells.toArray := Lies.fresh' (by simp)
  have b0 : Below w.heap.size w ((w.alloc (.cells p.cells.toArray 41)).alloc (.cells t.cells.toArray 46)) := (by repeat (first | (with_reducible assumption) | (with_reducible exact Below.refl _ _) | (with_reducible refine Below.drew ?_) | (with_reducible refine below_drewN ?_ _) | ((with_reducible refine Below.setCell ?_ ?_ _); rotate_left; focus (first | (simp; done) | (simp; omega) | omega)) | ((with_reducible refine Below.alloc ?_ ?_ _); rotate_left; focus (first | (simp; done) | (simp; omega) | omega))))
  have hCP : ∀ W, Below w.heap.size w W → Calls Try.prog 20 #[.agg p.cells.toArray] W fun e w' => e = .returned (.int .i64 0) ∧ Below W.heap.size W w' := fun W hb => by
    have := CheckPlan_any p W (hp.below hb hb.size); rwa [hf] at this
  have hIS : ∀ W, Below w.heap.size w W → Calls Try.prog 60 #[.agg t.cells.toArray, .agg p.cells.toArray] W fun e w' => e = .returned (.bool true) ∧ Below W.heap.size W w' := fun W hb => by
    have := isOf_any p t W (hp.below hb hb.size) (ht.below hb hb.size) (by have := hpt.six; omega) (by have := hpt.six; have := hpt.fit.l; omega)
    rwa [hfit] at this
  have hpl := start_five hpt
  have hts : t.s.l.length ≤ 5 := by rw [hpt.fit.s]; exact hn5
  have hCO : ∀ W, Below w.heap.size w W → Calls Try.prog 62 #[.slice t.s.A t.s.l.length t.s.c] W fun e w' => e = .returned (.agg (vals (pad5 t.s.l))) ∧ Below W.heap.size W w' := fun W hb =>
    countsOf_any t.s.A t.s.c t.s.l W ((ht.s.below hb).more hb.size) hts
  have hst : ∀ A, Below w.heap.size w A → p.At A A.heap.size ∧ t.At A A.heap.size := fun A hb => ⟨hp.below hb hb.size, ht.below hb hb.size⟩
  have HST := Lib.hid hst
  have HCP := Lib.hid hCP
  have HIS := Lib.hid hIS
  have HCO := Lib.hid hCO
  have HPT := Lib.hid hpt
  have HPL := Lib.hid hpl
  have L0 := Lib.hid l0
  have L1 := Lib.hid l1
  have B0 := Lib.hid b0
  have HYT := Lib.hid hY
  have HYR := Lib.hid (fun (t : TrM) (pl : List Int) (w : World) => years_any p t pl w)
  clear l0 l1 b0 hCP hIS hCO hpl hst hpt hp ht hf hfit hts hY
  generalize pad5 t.s.l = pl at *
  unfold PlM.cells TrM.cells
  refine calls_of_wp_marks 5 Try.func22 rfl ?_
  simp only [Try.ntmps22, List.size_toArray, List.length_cons, List.length_nil, Nat.reduceAdd, Nat.reduceSub, Array.replicate_succ, Array.replicate_zero, List.push_toArray, List.append_toArray, List.nil_append, List.cons_append]
  go_upto_region 6 with (first
    | (refine wpList_load_row (o := ⟨some 10, _, _, _, _, _⟩) ?_ 41 (.tmp 2) ?_ w.heap.size ?_ 41 p.cells.toArray (0, 0) _ L0.out Try.underlying41 rfl size41 ?_; rfl; rfl; rfl)
    | (go_at_call 20; refine (HCP.out _ B0.out).mono ?_; rintro e w1 ⟨rfl, hb1⟩; have L2 := Lib.hid (L0.out.call hb1); have L3 := Lib.hid (L1.out.call hb1); have B1 := Lib.hid (B0.out.trans (hb1.mono B0.out.size)))
    | (refine wpList_load_row (o := ⟨some 15, _, _, _, _, _⟩) ?_ 46 (.tmp 3) ?_ (w.heap.size + 1) ?_ 46 t.cells.toArray (0, 0) _ L3.out Try.underlying46 rfl size46 ?_; rfl; rfl; rfl)
    | (refine wpList_load_row (o := ⟨some 16, _, _, _, _, _⟩) ?_ 41 (.tmp 2) ?_ w.heap.size ?_ 41 p.cells.toArray (0, 0) _ L2.out Try.underlying41 rfl size41 ?_; rfl; rfl; rfl)
    | (go_at_call 60; refine (HIS.out _ B1.out).mono ?_; rintro e w2 ⟨rfl, hb2⟩; have L4 := Lib.hid (L2.out.call hb2); have L5 := Lib.hid (L3.out.call hb2); have B2 := Lib.hid (B1.out.trans (hb2.mono B1.out.size))))
  go_wp2
  have l6 : Lies (w2.alloc (.cells #[.slice none 0 0] 43)) w.heap.size 41 p.cells.toArray := L4.out.alloc _
  have l7 : Lies (w2.alloc (.cells #[.slice none 0 0] 43)) (w.heap.size + 1) 46 t.cells.toArray := L5.out.alloc _
  have l8 : Lies (w2.alloc (.cells #[.slice none 0 0] 43)) w2.heap.size 43 #[.slice none 0 0] := Lies.fresh _ _ _
  have b3 : Below w.heap.size w (w2.alloc (.cells #[.slice none 0 0] 43)) := B2.out.alloc B2.out.size _
  have hz3 : (w2.alloc (.cells #[.slice none 0 0] 43)).heap.size = w2.heap.size + 1 := by simp
  have hg2 : w.heap.size < w2.heap.size := by have := L5.out.in_; omega
  clear hb1 hb2 L0 L1 L2 L3 L4 L5 B0 B1 B2 HCP HIS
  generalize w2.alloc (.cells #[.slice none 0 0] 43) = w3 at *
  generalize w2.heap.size = G at *
  have r0 := cell_regrown (show w3.cell? ⟨w.heap.size + 1, 0, none⟩ = some (.slice t.s.A t.s.l.length t.s.c) from l7.at_ 0)
  have hrp : ∀ W, (∃ q : Regrown, W = Go.Sort.grow (redrawn w3 q.d) q.os) → W.rangeAt w.heap.size 0 p.cells := by
    rintro W ⟨q, rfl⟩
    exact Lies.range (cs := p.cells) (l6.call (below_regrown w3 q.d q.os)) (fun j v hj => by simpa using hj)
  have hrt : ∀ W, (∃ q : Regrown, W = Go.Sort.grow (redrawn w3 q.d) q.os) → W.rangeAt (w.heap.size + 1) 0 t.cells := by
    rintro W ⟨q, rfl⟩
    exact Lies.range (cs := t.cells) (l7.call (below_regrown w3 q.d q.os)) (fun j v hj => by simpa using hj)
  have hco3 : ∀ d os, Calls Try.prog 62 #[.slice t.s.A t.s.l.length t.s.c] (Go.Sort.grow (redrawn w3 d) os) fun e w' => e = .returned (.agg (vals pl)) ∧ Below (Go.Sort.grow (redrawn w3 d) os).heap.size (Go.Sort.grow (redrawn w3 d) os) w' := fun d os => HCO.out _ (b3.trans ((below_regrown w3 d os).mono b3.size))
  have hE : YI p (fun k => toldL p.s.l.length (yrK p t pl k)) w G w3.heap.size none 0 w3 :=
    ⟨_, ⟨l6, l8, ⟨[], by simpa using World.ownsRow_nil _ _ _ _, rfl, fun y hy => by cases hy⟩, b3, Nat.le_refl _⟩, rfl⟩
  have HRP := Lib.hid hrp
  have HRT := Lib.hid hrt
  have HC3 := Lib.hid hco3
  have HE := Lib.hid hE
  have B3 := Lib.hid b3
  have HZ3 := Lib.hid hz3
  clear hrp hrt hco3 hE b3 hz3 l6 l7 l8 HCO
  refine wp_region_tail 6 (by kernel_rfl) (by kernel_rfl) (by kernel_rfl) (by kernel_rfl) (by kernel_rfl) (by kernel_rfl) (by simp) ?_
  simp only [List.take_succ_cons, List.take_zero, List.drop_succ_cons, List.drop_zero]
  refine wpQuiet_load_whole (o := ⟨some 19, _, _, _, _, _⟩) ?_ 41 (.tmp 2) ?_ w.heap.size 0 ?_ p.cells _ HRP.out Try.underlying41 rfl size41 ?_
  rfl; rfl; rfl
  simp only [Act.put, List.setIfInBounds_toArray, List.set_cons_zero, List.set_cons_succ]
  refine wpQuiet_load_whole (o := ⟨some 20, _, _, _, _, _⟩) ?_ 46 (.tmp 3) ?_ (w.heap.size + 1) 0 ?_ t.cells _ HRT.out Try.underlying46 rfl size46 ?_
  rfl; rfl; rfl
  simp only [Act.put, List.setIfInBounds_toArray, List.set_cons_zero, List.set_cons_succ]
  refine wpQuiet_build (o := ⟨some 21, _, _, _, _, _⟩) ?_ 117 #[(0, .tmp 19), (1, .tmp 20)] ?_ #[(0, .agg p.cells.toArray), (1, .agg t.cells.toArray)] ?_ (p.cells ++ t.cells).toArray ?_ ?_
  rfl; rfl; (simp only [List.map_toArray, List.map_cons, List.map_nil]; rfl)
  exact built_course' p _ _ _ _ _ _ _ _ _
  simp only [Act.put, List.setIfInBounds_toArray, List.set_cons_zero, List.set_cons_succ]
  repeat (first | go_big_quiet_step ((go_at_call 62; refine Calls.regrown_of (HC3.out _ _))) | quiet_step ((go_at_call 62; refine Calls.regrown_of (HC3.out _ _))))
  refine wpQuiet_nil ?_
  intro wq hwq
  have hbq : Below w3.heap.size w3 wq := (by obtain ⟨q, rfl⟩ := hwq; exact below_regrown _ _ _)
  clear hwq r0 HRP HRT HC3
  go_wp2_with (go_at_call 61; refine (HYR.out _ _ _).mono ?_; rintro e w' ⟨rfl, rfl⟩)
  have hW : ∃ W, (wq.alloc (.cells (p.cells ++ t.cells).toArray 117)).alloc (.cells (vals pl) 120) = W ∧ YI p (fun k => toldL p.s.l.length (yrK p t pl k)) w G w3.heap.size none 0 W ∧ Lies W (wq.heap.size + 1) 120 (vals pl) ∧ Lies W wq.heap.size 117 (p.cells ++ t.cells).toArray :=
    ⟨_, rfl, (HE.out.elim fun v hv => ⟨v, (((hv.1.call hbq).call ((Below.refl _ _).alloc (Nat.le_refl _) _)).call ((Below.refl _ _).alloc (Nat.le_refl _) _)), hv.2⟩), Lies.fresh' (by simp), (Lies.fresh' rfl).alloc _⟩
  obtain ⟨W, hWe, hI, hst, hco⟩ := hW
  rw [hWe]
  have hgv := years1_gives 4 (by omega) p t (wq.heap.size + 1) wq.heap.size w.heap.size pl W (fun A => Below w.heap.size w A) (fun A h => HST.out A h) (hI.elim fun v hv => hv.1.b.size) HPT.out.ok HPT.out.fit HPT.out.years (by have := HPT.out.six; omega) HPL.out hst hco
  have hdW : w3.heap.size ≤ W.heap.size := hI.elim fun v hv => hv.1.d
  have hbW : w.heap.size ≤ W.heap.size := hI.elim fun v hv => hv.1.b.size
  have HI := Lib.hid hI
  clear hst hco hWe HYR HE hbq hI
  generalize wq.heap.size = z0 at *
  refine range_givesZ (n := 5) (gf := 100) rfl (enters_of Try.func100 (by kernel_rfl) rfl) hgv (Below.refl _ _) hbW (fun _ => rfl)
    (YI p (fun k => toldL p.s.l.length (yrK p t pl k)) w G w3.heap.size) (fun _ _ _ => False) ?hI (fun c k A A' h _ => h)
    (fun s k A b h e => by obtain ⟨v, h1, h3⟩ := h; obtain ⟨ys, h4, _⟩ := h1.own; rw [e] at h3; exact (own_at h4 h3).2.1) HI.out (fun s k A h => h.elim fun v hv => hv.1.b)
    (fun n0 x a' A => ∃ gx, n0 ≤ gx ∧ Lies A gx 123 (vals x.2) ∧ a' = { tmps := #[.agg #[.slice p.s.A p.s.l.length p.s.c, .slice p.r.A p.r.l.length p.r.c, .slice p.g.A p.g.l.length p.g.c, .slice p.e.A p.e.l.length p.e.c, .slice p.k.A p.k.l.length p.k.c, .int .i64 p.lo, .int .i64 p.hi, .int .i64 p.years], .agg #[.slice t.s.A t.s.l.length t.s.c, .slice t.g.A t.g.l.length t.g.c, .slice t.l.A t.l.l.length t.l.c], .pointer (some ⟨w.heap.size, 0, none⟩), .pointer (some ⟨w.heap.size + 1, 0, none⟩), .slice none 0 0, .int .i64 0, .int .i64 0, .pointer (some ⟨G, 0, none⟩), undef, .pointer (some ⟨gx, 0, none⟩), .agg p.cells.toArray, .int .i64 0, .int .i64 0, .bool false, undef, .agg t.cells.toArray, .agg p.cells.toArray, .bool true, .bool false, .agg p.cells.toArray, .agg t.cells.toArray, .agg (p.cells ++ t.cells).toArray, .pointer (some ⟨w.heap.size + 1, 0, none⟩), .slice t.s.A t.s.l.length t.s.c, .agg (vals pl), .func (.func 100) #[] #[.pointer (some ⟨z0 + 1, 0, none⟩), .pointer (some ⟨z0, 0, none⟩)], .int .i64 x.1, .agg (vals x.2), undef, undef, undef, undef, undef, undef, undef, undef, undef], defers := [] }) ?hAx ?assign ?body ?done ?stop
  case hI =>
    intro s k A A' h ht
    obtain ⟨v, h1, h3⟩ := h
    exact ⟨v, h1.turns ht (by decide) (by decide) (by have := HZ3.out; omega) (by have := HZ3.out; omega), h3⟩
  case hAx =>
    rintro n0 x a' A A' ⟨gx, h1, h2, h3⟩ ht
    exact ⟨gx, h1, ht.lies' h2 (by decide), h3⟩
  case stop => intro D c k W2 _ _ h; exact h.elim
  case assign =>
    intro l s k x W2 K hx hi hK
    have hk : k < t.g.l.length := by
      have := (List.getElem?_eq_some_iff.1 hx).1
      rwa [yearsL_length] at this
    obtain rfl : (k, yrK p t pl k) = x := by rw [yearsL_at hk] at hx; exact Option.some.inj hx
    have h20 : (yrK p t pl k).length = 20 := yearL_length _ _ _ _
    have hfit : 0 + (yrK p t pl k).length ≤ (z5 ++ z5 ++ z5 ++ z5).length ∧ (Try.prog.info? 123).map (·.size) = some (yrK p t pl k).length := by rw [h20]; exact ⟨by decide, size123⟩
    have H20 := Lib.hid h20
    have HFIT := Lib.hid hfit
    have HIN := Lib.hid hi
    clear h20 hfit hgv
    simp only [encY]
    gi_wp2_with (refine wpListIn_store_ints (o := ⟨none, .store 123 (.tmp 9) _, _, _, _, _⟩) ?_ 123 (.tmp 9) (.tmp 27) ?_ W2.heap.size 0 ?_ 123 (z5 ++ z5 ++ z5 ++ z5) (yrK p t pl k) ?_ (Lies.fresh W2 123 (vals (z5 ++ z5 ++ z5 ++ z5))) HFIT.out.1 HFIT.out.2 ?_; rfl; rfl; rfl; rfl; intro w5 HS5 HO5; (try simp only [Act.put]))
    have hl5 : Lies w5 W2.heap.size 123 (vals (yrK p t pl k)) := by
      have := HS5.out
      rwa [splice_all (by rw [H20.out]; rfl)] at this
    have hb5 : Below W2.heap.size W2 w5 := HO5.out.below ((Below.refl _ _).alloc (Nat.le_refl _) _) (Nat.le_refl _)
    refine hK _ _ (KeepsFrom.of_below hb5) (Keeps.of_below hb5 (HIN.out.elim fun v hv => hv.1.b.size)) (HIN.out.elim fun v hv => ⟨v, hv.1.call hb5, hv.2⟩) ⟨W2.heap.size, Nat.le_refl _, hl5, ?_⟩
    rfl
  case body =>
    rintro l s k x a' Wy W2 hl hx hiy hks hi ⟨gx, hgx, hlx, rfl⟩
    have hk : k < t.g.l.length := by
      have := (List.getElem?_eq_some_iff.1 hx).1
      rwa [yearsL_length] at this
    obtain rfl : (k, yrK p t pl k) = x := by rw [yearsL_at hk] at hx; exact Option.some.inj hx
    have h20 : (yrK p t pl k).length = 20 := yearL_length _ _ _ _
    obtain ⟨v, hev, hvs⟩ := hi
    have hfk : (fun k => toldL p.s.l.length (yrK p t pl k)) k = toldL p.s.l.length (yrK p t pl k) := rfl
    have h6k : (k : Int) < 6 := by have := HPT.out.six; omega
    obtain ⟨i0, hi0, hz00, hz01, hz02⟩ := info_parts infoYear
    obtain ⟨yk, hyk⟩ : ∃ yk, yk = yrK p t pl k := ⟨_, rfl⟩
    rw [← hyk] at h20 hlx
    have HEV := Lib.hid hev
    have HVS := Lib.hid hvs
    have HLX := Lib.hid hlx
    have HKS := Lib.hid hks
    have HYK := Lib.hid hyk
    have HI0 := Lib.hid hi0
    have Hz00 := Lib.hid hz00
    have Hz01 := Lib.hid hz01
    have Hz02 := Lib.hid hz02
    have H20 := Lib.hid h20
    clear hev hvs hlx hks hyk hi0 hz00 hz01 hz02 h20 hx hiy hgv
    have hri : ∀ W, (∃ q : Regrown, W = Go.Sort.grow (redrawn W2 q.d) q.os) → W.rangeAt gx 0 (yk.map (Value.int .i64)) := by
      rintro W ⟨q, rfl⟩
      exact Lies.range (cs := yk.map (Value.int .i64)) (HLX.out.call (below_regrown W2 q.d q.os)) (fun j v hj => by simpa using hj)
    have r1 := cell_regrown (show W2.cell? ⟨G, 0, none⟩ = some v from HEV.out.rb.at_ 0)
    have r2 := cell_regrown (show W2.cell? ⟨w.heap.size, 0, none⟩ = some (.slice p.s.A p.s.l.length p.s.c) from HEV.out.pb.at_ 0)
    have hs20 : (Try.prog.info? 123).map (·.size) = some yk.length := by rw [H20.out]; exact size123
    have HRI := Lib.hid hri
    have HS20 := Lib.hid hs20
    have HFK := Lib.hid hfk
    clear hri hs20 hfk
    gi_wp2_with (fail)
    refine wpIn_region_reads 7 [0, 1, 2, 3] [4, 5, 6] (by kernel_rfl) (by kernel_rfl) (by kernel_rfl) ?_
    simp only [List.filterMap_cons, List.filterMap_nil, List.take_succ_cons, List.take_zero, List.getElem?_toArray, List.getElem?_cons_zero, List.getElem?_cons_succ, List.drop_succ_cons, List.drop_zero]
    repeat (first
      | (refine wpQuiet_load_ints (o := ⟨some 29, _, _, _, _, _⟩) ?_ 123 (.tmp 9) ?_ gx 0 ?_ yk _ HRI.out Try.underlying123 rfl HS20.out ?_; rfl; rfl; rfl; simp only [Act.put, List.setIfInBounds_toArray, List.set_cons_zero, List.set_cons_succ])
      | go_big_quiet_step (fail) | quiet_step (fail))
    refine wpQuiet_nil ?_
    intro w0 hb0 hz0
    clear hz0 r1 r2 HRI
    simp only [wpForce]
    go_wp2_with (fail)
    refine Ends.intro ⟨hb0, ?_⟩
    go_wp2_with (go_at_call 63; refine (told_any yk _ _ H20.out hn5).mono ?_; rintro e w4 ⟨y, rfl, hly, hyi, hb4⟩)
    have hcw4 := hb0.trans (hb4.mono hb0.size)
    refine Ends.intro ⟨hcw4, ?_⟩
    simp only [encY4, Sv.val]
    go_wp2
    refine Ends.intro ⟨hcw4.alloc hcw4.size _, ?_⟩
    have hb5 : Below w4.heap.size w4 (w4.alloc (.cells #[.slice y.a.A y.a.l.length y.a.c, .slice y.b.A y.b.l.length y.b.c, .slice y.c.A y.c.l.length y.c.c, .slice y.d.A y.d.l.length y.d.c] 54)) := (Below.refl _ _).alloc (Nat.le_refl _) _
    have hev5 := (HEV.out.call hcw4).call hb5
    have hy5 := hyi.call hb5
    have hnw5 : ∀ (j : Nat) (u : Value), (encY4 y)[j]? = some u → (w4.alloc (.cells #[.slice y.a.A y.a.l.length y.a.c, .slice y.b.A y.b.l.length y.b.c, .slice y.c.A y.c.l.length y.c.c, .slice y.d.A y.d.l.length y.d.c] 54)).cell? ((⟨w4.heap.size, 0, none⟩ : Addr).add j) = some u := news_alloc w4 (encY4 y) 54
    have hb25 := hcw4.trans (hb5.mono hcw4.size)
    generalize w4.alloc (.cells #[.slice y.a.A y.a.l.length y.a.c, .slice y.b.A y.b.l.length y.b.c, .slice y.c.A y.c.l.length y.c.c, .slice y.d.A y.d.l.length y.d.c] 54) = w5 at *
    obtain ⟨ys, hown, hys, hyo⟩ := hev5.own
    have hd5 := hev5.d
    have hG3 : w3.heap.size = G + 1 := HZ3.out
    have HOWN := Lib.hid hown
    have HYS := Lib.hid hys
    have HYO := Lib.hid hyo
    have HEV5 := Lib.hid hev5
    have HY5 := Lib.hid hy5
    have HNW := Lib.hid hnw5
    have HB25 := Lib.hid hb25
    have HLY := Lib.hid hly
    clear hown hys hyo hev5 hy5 hnw5 hb25 hb5 hcw4 hb0 hb4 hyi hly
    go_wp2_with (at_builtin; go_must (refine wpList_append_lies _ rfl (.tmp 28) (.tmp 34) 43 rfl w3.heap.size 54 i0 _ 4 96 Try.underlying43 HI0.out Hz00.out Hz01.out Hz02.out rfl (by decide) v k (ys.flatMap encY4) rfl HOWN.out ⟨w4.heap.size, 0, none⟩ 1 1 (encY4 y) rfl rfl HNW.out (by intro u hu; simp [encY4, Sv.val] at hu; rcases hu with rfl | rfl | rfl | rfl <;> rfl) Nat.one_pos (by unfold maxLen; omega) (by omega) hd5 _ rfl ?_); intro g7 cap7 w7 hown7 hg7 hat7 hlt7; have e7 := HEV5.out.append HOWN.out HYS.out HYO.out HY5.out (HLY.out.trans (by rw [HYK.out])) (by omega) hg2 hg7 hown7; have c7 : w7.cell? ⟨G, 0, none⟩ = some v := e7.2.at_ 0; have f7 := e7.2.free 0; have E7 := Lib.hid e7; have HG7 := Lib.hid hg7; have HAT7 := Lib.hid hat7; clear e7 hg7 hat7 hown7 hlt7)
    have hO8 : Only G w7 (w7.setCell ⟨G, 0, none⟩ (.slice (some ⟨g7, 0, none⟩) (k + 1) cap7)) := Only.set _ _ _ _
    have hbw := HEV5.out.b.size
    have hg7' : w5.grownBy w7 s := by rw [← HVS.out]; exact HG7.out
    refine Ends.intro ?_
    refine ⟨KeepsFrom.trans (KeepsFrom.trans (KeepsFrom.of_below HB25.out) (KeepsFrom.of_grown HG7.out (fun j e => ⟨_, (own_at HOWN.out e).2.2⟩))) (KeepsFrom.of_only hO8 E7.out.2),
      some g7, ((HKS.out.trans (Keeps.of_below HB25.out HEV.out.b.size)).trans (Keeps.of_grown hg7' hbw (fun j e => ?_) (fun j e => ?_))).trans (Keeps.of_only hO8 E7.out.2 (by omega) (by decide)), ⟨_, E7.out.1, rfl⟩⟩
    · have := (own_at HOWN.out (HVS.out.trans e)).1
      omega
    · rcases HAT7.out with h | h
      · left; rw [← e, ← HVS.out]; exact h
      · right
        cases e
        omega
  case done =>
    intro D s W2 hD hi hd
    rw [yearsL_length, HYT.out] at hi
    obtain ⟨v, hev, hvs⟩ := hi
    obtain ⟨ys, hown, hys, hyo⟩ := hev.own
    have hlen : ys.length = Y := by have := congrArg List.length hys; simpa using this
    have c7 : W2.cell? ⟨G, 0, none⟩ = some v := hev.rb.at_ 0
    have HEV := Lib.hid hev
    have HOWN := Lib.hid hown
    have HYS := Lib.hid hys
    have HYO := Lib.hid hyo
    have HLEN := Lib.hid hlen
    clear hev hgv hvs hown hys hyo hlen
    go_wp2
    have hbd : Below w.heap.size w (W2.putObj D (.deferred none)) := HEV.out.b.trans ((Below.refl _ _).grown (grownBy_putObj' W2 D _) HEV.out.b.size (fun k e => by cases e; omega))
    have hk2 : ∀ b t cs, Lies W2 b t cs → (W2.putObj D (.deferred none)).heap[b]? = W2.heap[b]? := fun b t cs hl => World.putObj_heap_other fun e => by
      rw [e] at hl
      unfold Lies at hl
      rw [hd] at hl; cases hl
    have hoz : (W2.putObj D (.deferred none)).ownsRow w3.heap.size 54 4 v ys.length (ys.flatMap encY4) := by
      rw [HLEN.out]
      exact own_keep HOWN.out fun j hj => hk2 _ _ _ (own_at HOWN.out hj).2.2.choose_spec
    obtain ⟨A', c', e1, _, _⟩ := Sl.of_own (enc := encY4) (l := ys) encY4_length hoz rfl
    subst e1
    have hsz : W2.heap.size ≤ (W2.putObj D (.deferred none)).heap.size := Nat.le_of_eq World.putObj_size.symm
    refine leave_mark hd ⟨_, results_tmp2 rfl _ _ _, ⟨A', c', ys, ?_, SlT.of_own encY4_length hoz, HYS.out, fun y hy => ?_, hbd⟩⟩
    · rw [← HLEN.out]; rfl
    · exact ((HYO.out y hy).keep fun b cs _ hcs => hk2 _ _ _ hcs).more hsz
end Go.Proofs.Ytlkdmcdnkoiflaa

/- A truth as plain lists; when it fits a plan; truths that are made number by number. -/
namespace Go.Proofs.Ytlkdmcdnkoiflaa
open Go.RowKit Go.Lib

structure TD where
  s : List Int
  g : List (List (List Int))
  l : List Int
def TrM.d (t : TrM) : TD := ⟨t.s.l, t.g.l.map fun y => y.l.map (·.l), t.l.l⟩
theorem pairedB_map {α β γ δ : Type} (f : α → γ) (g : β → δ) (zs : List α) (ys : List β) (q : γ → δ → Bool) : pairedB (zs.map f) (ys.map g) q = pairedB zs ys fun x y => q (f x) (g y) := by
  unfold pairedB
  rw [List.length_map, List.length_map, List.zip_map, List.all_map]
  rfl
theorem pairedB_iff {α β : Type} {zs : List α} {ys : List β} {p : α → β → Bool} : pairedB zs ys p = true ↔ zs.length = ys.length ∧ ∀ (i : Nat) (x : α) (y : β), zs[i]? = some x → ys[i]? = some y → p x y = true := by
  constructor
  · intro h
    unfold pairedB at h
    simp only [Bool.and_eq_true, decide_eq_true_eq, List.all_eq_true] at h
    exact ⟨h.1, fun i x y hx hy => h.2 (x, y) (List.mem_of_getElem? (zip_at hx hy))⟩
  · rintro ⟨h1, h2⟩
    exact paired_miss h1 fun j x y _ hx hy => h2 j x y hx hy
theorem pairedB_mem {α β : Type} {zs : List α} {ys : List β} {p : α → β → Bool} (h : pairedB zs ys p = true) {y : β} (hy : y ∈ ys) : ∃ x, x ∈ zs ∧ p x y = true := by
  obtain ⟨h1, h2⟩ := pairedB_iff.1 h
  obtain ⟨i, hi⟩ := List.getElem?_of_mem hy
  have hlt : i < zs.length := by have := (List.getElem?_eq_some_iff.1 hi).1; omega
  exact ⟨zs[i], List.getElem_mem hlt, h2 i _ _ (by simp [hlt]) hi⟩
def fitD (d : PD) (t : TD) : Bool := pairedB d.s t.s hasB && ((decide ((t.g.length : Int) = d.years) && t.g.all fun y => pairedB d.g y fun x r => pairedB x r hasB) && (decide ((t.l.length : Int) = d.years) && t.l.all fun m => inB m d.lo d.hi))
theorem fit_d (p : PlM) (t : TrM) : t.fitB p = fitD p.d t.d := by
  unfold TrM.fitB TrM.f0 TrM.f1 TrM.f2 fitD TrM.d PlM.d
  simp only [List.length_map, List.all_map]
  have e : (yearFit p.g.l) = ((fun y => pairedB (p.g.l.map (·.l)) y fun x r => pairedB x r hasB) ∘ fun y : Sv (Sv Int) => y.l.map (·.l)) := by
    funext y
    simp only [Function.comp_apply, pairedB_map]
    rfl
  rw [e]
theorem pt_of_fit {p : PlM} {t : TrM} (hv : p.Valid) (h : t.fitB p = true) : PT p t := by
  unfold TrM.fitB TrM.f0 TrM.f1 TrM.f2 at h
  simp only [Bool.and_eq_true, decide_eq_true_eq, List.all_eq_true] at h
  obtain ⟨h0, ⟨h1, h2⟩, h3, h4⟩ := h
  have hy := hv.y
  have hlo := hv.l
  refine ⟨hv.ok, ⟨(pairedB_iff.1 h0).1.symm, fun x hx => ?_, rfl, fun y hy => ?_, fun y hy r hr => ?_, fun y hy r hr x hx => ?_, by omega, fun x hx => ?_⟩, by omega, by omega⟩
  · obtain ⟨r, hr, hh⟩ := pairedB_mem h0 hx
    have h5 := hv.sb r hr
    have h6 := inB_iff.1 hh
    omega
  · have := (pairedB_iff.1 (h2 y hy)).1
    rw [← this, hv.g]
  · obtain ⟨z, hz, hh⟩ := pairedB_mem (h2 y hy) hr
    have := (pairedB_iff.1 hh).1
    rw [← this, hv.gl z hz]
  · obtain ⟨z, hz, hh⟩ := pairedB_mem (h2 y hy) hr
    obtain ⟨q, hq, hh2⟩ := pairedB_mem hh hx
    have h5 := hv.gb z hz q hq
    have h6 := inB_iff.1 hh2
    omega
  · have h6 := inB_iff.1 (h4 x hx)
    omega
/-- What happens in year k. -/
def yrT (d : PD) (t : TD) (k : Nat) : List Int := yrD d (fun k => t.g.getD k []) (fun k => t.l.getD k 0) (pad5 t.s) k
theorem yrK_T (p : PlM) (t : TrM) (k : Nat) : yrK p t (pad5 t.s.l) k = yrT p.d t.d k := by
  rw [yrK_d]
  have e : grT t = fun k => t.d.g.getD k [] := by
    funext k
    simp only [grT, TrM.d, List.getD, List.getElem?_map]
    cases t.g.l[k]? <;> rfl
  rw [e]; rfl
/-- A truth of a plan, number by number. -/
def mkT (n Y : Nat) (fs : Nat → Int) (fg : Nat → Nat → Nat → Int) (fl : Nat → Int) : TD :=
  ⟨(List.range n).map fs, (List.range Y).map fun y => (List.range n).map fun s => (List.range n).map fun k => fg y s k, (List.range Y).map fl⟩
theorem range_at {α : Type} {f : Nat → α} {n i : Nat} {x : α} (h : ((List.range n).map f)[i]? = some x) : i < n ∧ x = f i := by
  rw [List.getElem?_map] at h
  obtain ⟨j, hj, e⟩ := Option.map_eq_some_iff.1 h
  have h1 := List.getElem?_eq_some_iff.1 hj
  obtain ⟨h2, h3⟩ := h1
  simp only [List.length_range] at h2
  simp only [List.getElem_range] at h3
  subst h3
  exact ⟨h2, e.symm⟩
theorem fit_mkT {p : PlM} (hv : p.Valid) {Y : Nat} (hY : p.years = (Y : Int)) {fs : Nat → Int} {fg : Nat → Nat → Nat → Int} {fl : Nat → Int}
    (h1 : ∀ s, s < p.s.l.length → hasB (p.d.s.getD s (0, 0)) (fs s) = true) (h2 : ∀ y s k, y < Y → s < p.s.l.length → k < p.s.l.length → hasB ((p.d.g.getD s []).getD k (0, 0)) (fg y s k) = true) (h3 : ∀ y, y < Y → inB (fl y) p.lo p.hi = true) :
    fitD p.d (mkT p.s.l.length Y fs fg fl) = true := by
  unfold fitD mkT
  simp only [Bool.and_eq_true, decide_eq_true_eq, List.all_eq_true, List.length_map, List.length_range, List.mem_map, List.mem_range]
  refine ⟨?_, ⟨by rw [← hY]; rfl, ?_⟩, by rw [← hY]; rfl, ?_⟩
  · refine pairedB_iff.2 ⟨by simp [PlM.d], fun i x y hx hy => ?_⟩
    obtain ⟨hi, rfl⟩ := range_at hy
    have := h1 i hi
    rwa [List.getD, hx] at this
  · rintro _ ⟨y, hy, rfl⟩
    refine pairedB_iff.2 ⟨by simp [PlM.d, hv.g], fun i x r hx hr => ?_⟩
    obtain ⟨hi, rfl⟩ := range_at hr
    have hxm : x.length = p.s.l.length := by
      simp only [PlM.d, List.getElem?_map] at hx
      obtain ⟨z, hz, rfl⟩ := Option.map_eq_some_iff.1 hx
      exact hv.gl z (List.mem_of_getElem? hz)
    refine pairedB_iff.2 ⟨by simp [hxm], fun j q m hq hm => ?_⟩
    obtain ⟨hj, rfl⟩ := range_at hm
    have := h2 y i j hy hi hj
    have e1 : (p.d.g.getD i []).getD j (0, 0) = q := by simp [List.getD, hx, hq]
    rwa [e1] at this
  · rintro _ ⟨y, hy, rfl⟩
    exact h3 y hy
/-- The numbers of a year, one by one. -/
theorem told_at {d : PD} {t : TD} {k i : Nat} (hi : i < d.s.length) (hn : d.s.length ≤ 5) :
    (toldL d.s.length (yrT d t k)).1[i]? = some (lifD d (t.g.getD k []) (plD d (fun k => t.g.getD k []) (fun k => t.l.getD k 0) (pad5 t.s) k) i) ∧
    (toldL d.s.length (yrT d t k)).2.1[i]? = some (solD d (t.g.getD k []) (plD d (fun k => t.g.getD k []) (fun k => t.l.getD k 0) (pad5 t.s) k) i) ∧
    (toldL d.s.length (yrT d t k)).2.2.1[i]? = some (losD d (t.g.getD k []) (t.l.getD k 0) (plD d (fun k => t.g.getD k []) (fun k => t.l.getD k 0) (pad5 t.s) k) i) ∧
    (toldL d.s.length (yrT d t k)).2.2.2[i]? = some (plaD d (t.g.getD k []) (t.l.getD k 0) (plD d (fun k => t.g.getD k []) (fun k => t.l.getD k 0) (pad5 t.s) k) i) := by
  have h20 : (yrT d t k).length = 20 := yearD_length _ _ _ _
  have hy := yearD_at d (t.g.getD k []) (t.l.getD k 0) (plD d (fun k => t.g.getD k []) (fun k => t.l.getD k 0) (pad5 t.s) k) hi hn
  have hyr : yrT d t k = yearD d (t.g.getD k []) (t.l.getD k 0) (plD d (fun k => t.g.getD k []) (fun k => t.l.getD k 0) (pad5 t.s) k) := rfl
  rw [← hyr] at hy
  have key : ∀ off, off + 5 ≤ 20 → ((sub5 off (yrT d t k)).take d.s.length)[i]? = some ((yrT d t k).getD (off + i) 0) := fun off ho => by
    have h5 : i < (sub5 off (yrT d t k)).length := by rw [sub5_length (by omega)]; omega
    rw [List.getElem?_take, if_pos hi, getD_some h5, sub5_getD (by omega)]
  unfold toldL
  refine ⟨?_, ?_, ?_, ?_⟩
  · show ((sub5 0 _).take _)[i]? = _
    rw [key 0 (by omega), Nat.zero_add, hy.1]
  · show ((sub5 5 _).take _)[i]? = _
    rw [key 5 (by omega), hy.2.1]
  · show ((sub5 10 _).take _)[i]? = _
    rw [key 10 (by omega), hy.2.2.1]
  · show ((sub5 15 _).take _)[i]? = _
    rw [key 15 (by omega), hy.2.2.2]
theorem told_lens {d : PD} {t : TD} {k : Nat} (hn : d.s.length ≤ 5) : (toldL d.s.length (yrT d t k)).1.length = d.s.length ∧ (toldL d.s.length (yrT d t k)).2.1.length = d.s.length ∧ (toldL d.s.length (yrT d t k)).2.2.1.length = d.s.length ∧ (toldL d.s.length (yrT d t k)).2.2.2.length = d.s.length := by
  have h20 : (yrT d t k).length = 20 := yearD_length _ _ _ _
  have key : ∀ off, off + 5 ≤ 20 → ((sub5 off (yrT d t k)).take d.s.length).length = d.s.length := fun off ho => by
    rw [List.length_take, sub5_length (by omega)]; omega
  exact ⟨key 0 (by omega), key 5 (by omega), key 10 (by omega), key 15 (by omega)⟩
end Go.Proofs.Ytlkdmcdnkoiflaa

/- pick: a number of a range, by words. -/
namespace Go.Proofs.Ytlkdmcdnkoiflaa
open Go.RowKit Go.Lib

abbrev encW (x : Nat) : List Value := [Value.int .u16 x]
/-- A number of a range, by words. -/
def pickN (r : Int × Int) (ws : List Nat) (i : Nat) : Int :=
  if ws = [] then r.2 else
  let x := ws.getD (i % ws.length) 0
  if x % 4 = 0 then r.1 else if x % 4 = 1 then r.2 else r.1 + (x : Int) % (r.2 - r.1 + 1)
theorem pickN_in {r : Int × Int} (h : r.1 ≤ r.2) (ws : List Nat) (i : Nat) : r.1 ≤ pickN r ws i ∧ pickN r ws i ≤ r.2 := by
  unfold pickN
  simp only []
  split
  · omega
  · split
    · omega
    · split
      · omega
      · have h1 := Int.emod_nonneg (ws.getD (i % ws.length) 0 : Int) (show r.2 - r.1 + 1 ≠ 0 by omega)
        have h2 := Int.emod_lt_of_pos (ws.getD (i % ws.length) 0 : Int) (show 0 < r.2 - r.1 + 1 by omega)
        omega
theorem pickN_has {r : Int × Int} (h : r.1 ≤ r.2) (ws : List Nat) (i : Nat) : hasB r (pickN r ws i) = true := inB_iff.2 (pickN_in h ws i)
set_option maxHeartbeats 1000000 in
theorem pick_any (lo hi : Int) (A : Option Addr) (c : Nat) (ws : List Nat) (i : Nat) (w : World) (hA : Sl w w.heap.size 1 encW A ws) (hw : ∀ x, x ∈ ws → x < 65536) (hl : ws.length ≤ 9223372036854775807) (hi6 : i ≤ 1000000) (h0 : 0 ≤ lo) (h1 : lo ≤ hi) (h2 : hi ≤ 1000000) :
    Calls Try.prog 85 #[.agg #[.int .i64 lo, .int .i64 hi], .slice A ws.length c, .int .i64 i] w fun e w' => e = .returned (.int .i64 (pickN (lo, hi) ws i)) ∧ Below w.heap.size w w' := by
  have b0 : Below w.heap.size w (w.alloc (.cells #[.int .i64 lo, .int .i64 hi] 26)) := (Below.refl _ _).alloc (Nat.le_refl _) _
  have B0 := Lib.hid b0
  have hiz : (i : Int) ≤ 1000000 := by omega
  have hi0 : (0 : Int) ≤ (i : Int) := by omega
  by_cases hn : ws = []
  · subst hn
    unfold pickN
    rw [if_pos rfl]
    clear hA hw b0
    simp only [List.length_nil]
    go_enter Try.func85, Try.ntmps85
    go_wp2
    go_ret
    exact ⟨rfl, B0.out⟩
  · have hlen : 0 < ws.length := List.length_pos_iff.2 hn
    obtain ⟨j, hj⟩ : ∃ j, j = i % ws.length := ⟨_, rfl⟩
    have hjl : j < ws.length := by rw [hj]; exact Nat.mod_lt _ hlen
    have hm : (i : Int) % (ws.length : Int) = (j : Int) := by rw [hj, Int.natCast_emod]
    obtain ⟨x, hx⟩ : ∃ x, ws[j]? = some x := ⟨ws[j], by simp [hjl]⟩
    have hx6 := hw x (List.mem_of_getElem? hx)
    obtain ⟨b, off, eA, hb, hc⟩ := (hA.below b0).at_ hx
    have hc0 := hc 0 _ rfl
    simp only [Nat.mul_one, Nat.add_zero] at hc0
    subst eA
    have hp : pickN (lo, hi) ws i = if x % 4 = 0 then lo else if x % 4 = 1 then hi else lo + (x : Int) % (hi - lo + 1) := by
      unfold pickN
      rw [if_neg hn, ← hj, List.getD, hx]; rfl
    have HP := Lib.hid hp
    have hlz : (ws.length : Int) ≤ 9223372036854775807 := by omega
    have hl0 : (0 : Int) < (ws.length : Int) := by omega
    have hne : ((ws.length : Int) == 0) = false := by simp; omega
    have hjz : (j : Int) < (ws.length : Int) := by omega
    have hx0 : (0 : Int) ≤ (x : Int) := by omega
    have hxz : (x : Int) ≤ 65535 := by omega
    clear hp hx hw hA hc b0 hj hn
    have r0 : (w.alloc (.cells #[.int .i64 lo, .int .i64 hi] 26)).cell? ⟨w.heap.size, 0, none⟩ = some (.int .i64 lo) := (Lies.fresh w 26 #[.int .i64 lo, .int .i64 hi]).at_ 0
    have r1 : (w.alloc (.cells #[.int .i64 lo, .int .i64 hi] 26)).cell? ⟨w.heap.size, 1, none⟩ = some (.int .i64 hi) := (Lies.fresh w 26 #[.int .i64 lo, .int .i64 hi]).at_ 1
    rcases (show x % 4 = 0 ∨ x % 4 = 1 ∨ (x % 4 ≠ 0 ∧ x % 4 ≠ 1) by omega) with e4 | e4 | ⟨e4, e5⟩
    · have m4 : (x : Int) % 4 = 0 := by omega
      rw [if_pos e4] at HP
      clear e4
      go_enter Try.func85, Try.ntmps85
      go_wp2
      go_ret
      exact ⟨ret_int HP.out.symm, B0.out⟩
    · have m4 : (x : Int) % 4 = 1 := by omega
      rw [if_neg (by omega), if_pos e4] at HP
      clear e4
      go_enter Try.func85, Try.ntmps85
      go_wp2
      go_ret
      exact ⟨ret_int HP.out.symm, B0.out⟩
    · have m4 : ((x : Int) % 4 == 0) = false := by simp; omega
      have m5 : ((x : Int) % 4 == 1) = false := by simp; omega
      rw [if_neg e4, if_neg e5] at HP
      clear e4 e5
      go_enter Try.func85, Try.ntmps85
      go_wp2
      have q0 := cell_regrown r0
      have q1 := cell_regrown r1
      have hpos : 0 < hi - lo + 1 := by omega
      have hd1 := Int.emod_nonneg (x : Int) (show hi - lo + 1 ≠ 0 by omega)
      have hd2 := Int.emod_lt_of_pos (x : Int) hpos
      have hne2 : ((hi - lo + 1 : Int) == 0) = false := by simp; omega
      have w3 : (x : Int).tmod (hi - lo + 1) = (x : Int) % (hi - lo + 1) := Int.tmod_eq_emod_of_nonneg hx0
      have w1 : IntKind.i64.wrap (hi - lo) = hi - lo := IntWalk.i64_in _ (by omega)
      have w2 : IntKind.i64.wrap (hi - lo + 1) = hi - lo + 1 := IntWalk.i64_in _ (by omega)
      have w4 : IntKind.i64.wrap ((x : Int) % (hi - lo + 1)) = (x : Int) % (hi - lo + 1) := IntWalk.i64_in _ (by omega)
      have w5 : IntKind.i64.wrap (lo + (x : Int) % (hi - lo + 1)) = lo + (x : Int) % (hi - lo + 1) := IntWalk.i64_in _ (by omega)
      clear r0 r1
      refine wp_region_quiet_below (by kernel_rfl) (by kernel_rfl) ?_; (repeat (first | go_big_quiet_step ((fail)) | quiet_step ((fail)))); refine wpQuiet_nil ?_; intro wq hwq; have hbq : Below _ _ wq := (by obtain ⟨p, rfl⟩ := hwq; exact below_regrown _ _ _); clear hwq
      go_wp2
      (try simp only [w1, w2, w3, w4, w5])
      clear w1 w2 w3 w4 w5 q0 q1
      go_ret
      exact ⟨ret_int HP.out.symm, B0.out.trans (hbq.mono B0.out.size)⟩
end Go.Proofs.Ytlkdmcdnkoiflaa

/- Words for Picked and Ends: a truth of the reference that grows. -/
namespace Go.Proofs.Ytlkdmcdnkoiflaa
open Go.RowKit Go.Lib

/-- The slice lies in another block than the row. -/
def Ap (A : Option Addr) (v : Value) : Prop := ∀ a : Addr, A = some a → v.ownBlock ≠ some a.block
section
variable {α : Type} {w w' : World} {B B' k : Nat} {T : TypeId} {enc : α → List Value} {A : Option Addr} {l : List α}
theorem SlT.keepA (h : SlT w B k T enc A l) (hk : ∀ a : Addr, A = some a → a.block < B → w'.heap[a.block]? = w.heap[a.block]?) : SlT w' B k T enc A l := fun hl => by
  obtain ⟨b, off, e, hb, ⟨cs, hcs⟩, hc⟩ := h hl
  have hblk := hk _ e hb
  exact ⟨b, off, e, hb, ⟨cs, hcs.to_ hblk⟩, fun i x hx j u hu => (World.cell?_of_block (a := ⟨b, off + i * k + j, none⟩) hblk).trans (hc i x hx j u hu)⟩
theorem SlT.app {base size n : Nat} {e : TypeId} {v : Value} {xs : List Value} (h : SlT w w.heap.size k T enc A l) (hA : Ap A v) (_ : w.ownsRow base e size v n xs) (hg : w.grownBy w' v.ownBlock) : SlT w' w'.heap.size k T enc A l :=
  (h.keepA fun a e hb => hg.block _ hb fun e' => hA a e e'.symm).more hg.size
end
theorem Ap.step {A : Option Addr} {v : Value} {g m c : Nat} {w : World} (hA : Ap A v) (hb : ∀ a : Addr, A = some a → a.block < w.heap.size) (hat : v.ownBlock = some g ∨ g = w.heap.size) : Ap A (.slice (some ⟨g, 0, none⟩) m c) := fun a e h => by
  have hh : g = a.block := by simpa [Value.ownBlock] using h
  rcases hat with h1 | h1
  · exact hA a e (by rw [h1, hh])
  · have := hb a e; omega
/-- What lies from one block to another, or nowhere. -/
def Bt {β : Type} (x : Sv β) (lo hi : Nat) : Prop := (∀ a : Addr, x.A = some a → lo ≤ a.block ∧ a.block < hi) ∧ (x.A = none → x.c = 0)
theorem Bt.more {β : Type} {x : Sv β} {lo hi lo' hi' : Nat} (h : Bt x lo hi) (h1 : lo' ≤ lo) (h2 : hi ≤ hi') : Bt x lo' hi' := ⟨fun a e => ⟨Nat.le_trans h1 (h.1 a e).1, Nat.lt_of_lt_of_le (h.1 a e).2 h2⟩, h.2⟩
/-- The years of a truth so far. -/
structure PK2 (w W2 : World) (B2 : Nat) (vs vg vl : Value) (fg : Nat → List (List Int)) (fl : Nat → Int) (k kl : Nat) (wr : World) : Prop where
  tb : Lies wr (w.heap.size + 1 + 1) 31 #[vs, vg, vl]
  og : ∃ gs : List (Sv (Sv Int)), wr.ownsRow B2 100 1 vg k (gs.flatMap encV) ∧ gs.map (fun g => g.l.map (·.l)) = (List.range k).map fg ∧
    ∀ g, g ∈ gs → SlT wr wr.heap.size 1 23 encV g.A g.l ∧ ∀ r, r ∈ g.l → SlT wr wr.heap.size 1 3 encI r.A r.l ∧ Ap r.A vl ∧ Bt r 0 wr.heap.size
  ol : wr.ownsRow B2 3 1 vl kl (((List.range kl).map fl).map (Value.int .i64))
  old : ∀ j, j < B2 → j ≠ w.heap.size + 1 + 1 → wr.heap[j]? = W2.heap[j]?
  b : Below w.heap.size w wr
  z : B2 ≤ wr.heap.size
section
variable {w W2 wr w' w4 : World} {B2 k kl : Nat} {vs vg vl v4 : Value} {fg : Nat → List (List Int)} {fl : Nat → Int}
theorem PK2.call (h : PK2 w W2 B2 vs vg vl fg fl k kl wr) (hb : Below wr.heap.size wr w') : PK2 w W2 B2 vs vg vl fg fl k kl w' := by
  obtain ⟨gs, h1, h2, h3⟩ := h.og
  have hz := h.z
  exact ⟨h.tb.call hb, ⟨gs, ownsRow_call h1 hb, h2, fun g hg => ⟨(h3 g hg).1.call hb, fun r hr => ⟨((h3 g hg).2 r hr).1.call hb, ((h3 g hg).2 r hr).2.1, ((h3 g hg).2 r hr).2.2.more (Nat.le_refl _) hb.size⟩⟩⟩,
    ownsRow_call h.ol hb, fun j hj hn => (hb.block j (by omega)).trans (h.old j hj hn), h.b.trans (hb.mono h.b.size), Nat.le_trans h.z hb.size⟩
/-- A year's growth is told. -/
theorem PK2.grow {g : Sv (Sv Int)} {gs : List (Sv (Sv Int))} (h : PK2 w W2 B2 vs vg vl fg fl k kl wr) (h1 : wr.ownsRow B2 100 1 vg k (gs.flatMap encV)) (h2 : gs.map (fun g => g.l.map (·.l)) = (List.range k).map fg)
    (h3 : ∀ g, g ∈ gs → SlT wr wr.heap.size 1 23 encV g.A g.l ∧ ∀ r, r ∈ g.l → SlT wr wr.heap.size 1 3 encI r.A r.l ∧ Ap r.A vl ∧ Bt r 0 wr.heap.size)
    (hg1 : SlT wr wr.heap.size 1 23 encV g.A g.l) (hg2 : ∀ r, r ∈ g.l → SlT wr wr.heap.size 1 3 encI r.A r.l ∧ Ap r.A vl ∧ Bt r 0 wr.heap.size) (hg3 : g.l.map (·.l) = fg k)
    (hB : w.heap.size + 1 + 1 < B2) (hg : wr.grownBy w4 vg.ownBlock) (hown : w4.ownsRow B2 100 1 v4 (k + 1) (gs.flatMap encV ++ encV g)) :
    PK2 w W2 B2 vs v4 vl fg fl (k + 1) kl (w4.setCell ⟨w.heap.size + 1 + 1, 1, none⟩ v4) ∧ Lies w4 (w.heap.size + 1 + 1) 31 #[vs, vg, vl] := by
  have hne : ∀ j, j < B2 → some j ≠ vg.ownBlock := fun j hj e => by have := (own_at h1 e.symm).1; omega
  have ht := h.tb.grown hg (hne _ hB)
  have hz := h.z
  have hsz : wr.heap.size ≤ (w4.setCell ⟨w.heap.size + 1 + 1, 1, none⟩ v4).heap.size := by simpa only [World.size_setCell] using hg.size
  have o4 : Only (w.heap.size + 1 + 1) w4 (w4.setCell ⟨w.heap.size + 1 + 1, 1, none⟩ v4) := Only.set _ _ _ _
  have key : ∀ g : Sv (Sv Int), (SlT wr wr.heap.size 1 23 encV g.A g.l ∧ ∀ r, r ∈ g.l → SlT wr wr.heap.size 1 3 encI r.A r.l ∧ Ap r.A vl ∧ Bt r 0 wr.heap.size) →
      SlT (w4.setCell ⟨w.heap.size + 1 + 1, 1, none⟩ v4) (w4.setCell ⟨w.heap.size + 1 + 1, 1, none⟩ v4).heap.size 1 23 encV g.A g.l ∧ ∀ r, r ∈ g.l → SlT (w4.setCell ⟨w.heap.size + 1 + 1, 1, none⟩ v4) (w4.setCell ⟨w.heap.size + 1 + 1, 1, none⟩ v4).heap.size 1 3 encI r.A r.l ∧ Ap r.A vl ∧ Bt r 0 (w4.setCell ⟨w.heap.size + 1 + 1, 1, none⟩ v4).heap.size := fun g hh =>
    ⟨((hh.1.grown h1 (by decide) hg).only o4 ht (by decide)).more hsz, fun r hr => ⟨(((hh.2 r hr).1.grown h1 (by decide) hg).only o4 ht (by decide)).more hsz, (hh.2 r hr).2.1, (hh.2 r hr).2.2.more (Nat.le_refl _) hsz⟩⟩
  refine ⟨⟨ht.set 1 v4, ⟨gs ++ [g], ?_, ?_, fun x hx => ?_⟩, own_set (own_other h.ol h1 (by decide) hg) ht (by decide) v4, fun j hj hn => ?_, ?_, by omega⟩, ht⟩
  · rw [List.flatMap_append]
    simpa using own_set hown ht (by decide) (i := 1) v4
  · rw [List.map_append, h2, List.range_succ, List.map_append]
    simp [hg3]
  · rcases List.mem_append.1 hx with hx | hx
    · exact key x (h3 x hx)
    · obtain rfl : x = g := by simpa using hx
      exact key x ⟨hg1, hg2⟩
  · rw [heap_setCell_other _ _ _ _ hn, hg.block j (by omega) (hne j hj), h.old j hj hn]
  · have hw := h.b.size
    exact (h.b.grown hg hw (fun j e => by have := (own_at h1 e).1; omega)).setCell (by show w.heap.size ≤ w.heap.size + 1 + 1; omega) _
/-- A year's loss is told. -/
theorem PK2.loss {g m c : Nat} (h : PK2 w W2 B2 vs vg vl fg fl k kl wr) (hB : w.heap.size + 1 + 1 < B2) (hg : wr.grownBy w4 vl.ownBlock) (hat : vl.ownBlock = some g ∨ g = wr.heap.size)
    (hown : w4.ownsRow B2 3 1 (.slice (some ⟨g, 0, none⟩) m c) (kl + 1) (((List.range kl).map fl).map (Value.int .i64) ++ [.int .i64 (fl kl)])) :
    PK2 w W2 B2 vs vg (.slice (some ⟨g, 0, none⟩) m c) fg fl k (kl + 1) (w4.setCell ⟨w.heap.size + 1 + 1, 2, none⟩ (.slice (some ⟨g, 0, none⟩) m c)) ∧ Lies w4 (w.heap.size + 1 + 1) 31 #[vs, vg, vl] := by
  obtain ⟨gs, h1, h2, h3⟩ := h.og
  have hne : ∀ j, j < B2 → some j ≠ vl.ownBlock := fun j hj e => by have := (own_at h.ol e.symm).1; omega
  have ht := h.tb.grown hg (hne _ hB)
  have hz := h.z
  have hsz : wr.heap.size ≤ (w4.setCell ⟨w.heap.size + 1 + 1, 2, none⟩ (.slice (some ⟨g, 0, none⟩) m c)).heap.size := by simpa only [World.size_setCell] using hg.size
  have o4 : Only (w.heap.size + 1 + 1) w4 (w4.setCell ⟨w.heap.size + 1 + 1, 2, none⟩ (.slice (some ⟨g, 0, none⟩) m c)) := Only.set _ _ _ _
  have hsz4 : (w4.setCell ⟨w.heap.size + 1 + 1, 2, none⟩ (.slice (some ⟨g, 0, none⟩) m c)).heap.size = w4.heap.size := by simp only [World.size_setCell]
  refine ⟨⟨ht.set 2 _, ⟨gs, own_set (own_other h1 h.ol (by decide) hg) ht (by decide) _, h2, fun x hx => ⟨(((h3 x hx).1.grown h.ol (by decide) hg).only o4 ht (by decide)).more hsz, fun r hr => ⟨?_, ((h3 x hx).2 r hr).2.1.step (fun a e => (((h3 x hx).2 r hr).2.2.1 a e).2) hat, ((h3 x hx).2 r hr).2.2.more (Nat.le_refl _) hsz⟩⟩⟩, ?_, fun j hj hn => ?_, ?_, by omega⟩, ht⟩
  · rw [hsz4]
    exact (((h3 x hx).2 r hr).1.app ((h3 x hx).2 r hr).2.1 h.ol hg).only o4 ht (by decide)
  · rw [List.range_succ, List.map_append, List.map_append]
    exact own_set hown ht (by decide) _
  · rw [heap_setCell_other _ _ _ _ hn, hg.block j (by omega) (hne j hj), h.old j hj hn]
  · have hw := h.b.size
    exact (h.b.grown hg hw (fun j e => by have := (own_at h.ol e).1; omega)).setCell (by show w.heap.size ≤ w.heap.size + 1 + 1; omega) _
end
/-- The first numbers of a truth. -/
structure PK1 (p : PlM) (w : World) (fs : Nat → Int) (v : Value) (k : Nat) (wr : World) : Prop where
  pb : Lies wr w.heap.size 28 p.cells.toArray
  zb : Lies wr (w.heap.size + 1) 31 #[.slice none 0 0, .slice none 0 0, .slice none 0 0]
  tb : Lies wr (w.heap.size + 1 + 1) 31 #[v, .slice none 0 0, .slice none 0 0]
  own : wr.ownsRow (w.heap.size + 3) 3 1 v k (((List.range k).map fs).map (Value.int .i64))
  b : Below w.heap.size w wr
section
variable {p : PlM} {w wr w' w4 : World} {fs : Nat → Int} {v v4 : Value} {k : Nat}
theorem PK1.call (h : PK1 p w fs v k wr) (hb : Below wr.heap.size wr w') : PK1 p w fs v k w' := ⟨h.pb.call hb, h.zb.call hb, h.tb.call hb, ownsRow_call h.own hb, h.b.trans (hb.mono h.b.size)⟩
theorem PK1.next (h : PK1 p w fs v k wr) (hg : wr.grownBy w4 v.ownBlock) (hown : w4.ownsRow (w.heap.size + 3) 3 1 v4 (k + 1) (((List.range k).map fs).map (Value.int .i64) ++ [.int .i64 (fs k)])) :
    PK1 p w fs v4 (k + 1) (w4.setCell ⟨w.heap.size + 1 + 1, 0, none⟩ v4) ∧ Lies w4 w.heap.size 28 p.cells.toArray ∧ Lies w4 (w.heap.size + 1 + 1) 31 #[v, .slice none 0 0, .slice none 0 0] ∧ Below w.heap.size w w4 := by
  have hne : ∀ j, j < w.heap.size + 3 → some j ≠ v.ownBlock := fun j hj e => by have := (own_at h.own e.symm).1; omega
  have ht := h.tb.grown hg (hne _ (by omega))
  have hp := h.pb.grown hg (hne _ (by omega))
  have hb := h.b.grown hg h.b.size (fun j e => by have := (own_at h.own e).1; omega)
  refine ⟨⟨hp.other (show w.heap.size ≠ w.heap.size + 1 + 1 by omega) _, (h.zb.grown hg (hne _ (by omega))).other (show w.heap.size + 1 ≠ w.heap.size + 1 + 1 by omega) _, ht.set 0 v4, ?_, hb.setCell (by show w.heap.size ≤ w.heap.size + 1 + 1; omega) _⟩, hp, ht, hb⟩
  rw [List.range_succ, List.map_append, List.map_append]
  exact own_set hown ht (by decide) _
end
/-- The rows of a year so far. -/
structure PK3 (wo : World) (f : Nat → List Int) (v : Value) (j : Nat) (wr : World) : Prop where
  own : ∃ rs : List (Sv Int), wr.ownsRow wo.heap.size 23 1 v j (rs.flatMap encV) ∧ rs.map (·.l) = (List.range j).map f ∧ ∀ r, r ∈ rs → SlT wr wr.heap.size 1 3 encI r.A r.l ∧ Bt r wo.heap.size wr.heap.size
  b : Below wo.heap.size wo wr
section
variable {wo wr w' w4 : World} {f : Nat → List Int} {v v4 : Value} {j : Nat}
theorem PK3.start (wo : World) (f : Nat → List Int) : PK3 wo f (.slice none 0 0) 0 wo := ⟨⟨[], by simpa using World.ownsRow_nil _ _ _ _, rfl, fun r hr => by cases hr⟩, Below.refl _ _⟩
theorem PK3.call (h : PK3 wo f v j wr) (hb : Below wr.heap.size wr w') : PK3 wo f v j w' := by
  obtain ⟨rs, h1, h2, h3⟩ := h.own
  exact ⟨⟨rs, ownsRow_call h1 hb, h2, fun r hr => ⟨(h3 r hr).1.call hb, (h3 r hr).2.more (Nat.le_refl _) hb.size⟩⟩, h.b.trans (hb.mono h.b.size)⟩
theorem PK3.next {r : Sv Int} {rs : List (Sv Int)} (h : PK3 wo f v j wr) (h1 : wr.ownsRow wo.heap.size 23 1 v j (rs.flatMap encV)) (h2 : rs.map (·.l) = (List.range j).map f)
    (h3 : ∀ r, r ∈ rs → SlT wr wr.heap.size 1 3 encI r.A r.l ∧ Bt r wo.heap.size wr.heap.size) (hr : SlT wr wr.heap.size 1 3 encI r.A r.l ∧ Bt r wo.heap.size wr.heap.size) (hl : r.l = f j)
    (hg : wr.grownBy w4 v.ownBlock) (hown : w4.ownsRow wo.heap.size 23 1 v4 (j + 1) (rs.flatMap encV ++ encV r)) : PK3 wo f v4 (j + 1) w4 := by
  have key : ∀ r : Sv Int, (SlT wr wr.heap.size 1 3 encI r.A r.l ∧ Bt r wo.heap.size wr.heap.size) → SlT w4 w4.heap.size 1 3 encI r.A r.l ∧ Bt r wo.heap.size w4.heap.size := fun r hh =>
    ⟨(hh.1.grown h1 (by decide) hg).more hg.size, hh.2.more (Nat.le_refl _) hg.size⟩
  refine ⟨⟨rs ++ [r], ?_, ?_, fun x hx => ?_⟩, h.b.grown hg h.b.size (fun i e => (own_at h1 e).1)⟩
  · rw [List.flatMap_append]; simpa using hown
  · rw [List.map_append, h2, List.range_succ, List.map_append]; simp [hl]
  · rcases List.mem_append.1 hx with hx | hx
    · exact key x (h3 x hx)
    · obtain rfl : x = r := by simpa using hx
      exact key x hr
end
/-- A row of one's own that is done. -/
theorem own_done {w : World} {base : Nat} {e : TypeId} {v : Value} {α : Type} {enc : α → List Value} {l : List α} (hk : ∀ x, (enc x).length = 1) (h : w.ownsRow base e 1 v l.length (l.flatMap enc)) :
    ∃ x : Sv α, v = .slice x.A l.length x.c ∧ x.l = l ∧ SlT w w.heap.size 1 e enc x.A x.l ∧ Bt x base w.heap.size := by
  obtain ⟨A, c, e1, hn, _⟩ := Sl.of_own hk h rfl
  subst e1
  refine ⟨⟨A, l, c⟩, rfl, rfl, SlT.of_own hk h, fun a e2 => ?_, fun e2 => (hn e2).2⟩
  simp only at e2
  subst e2
  have := own_at h (g := a.block) rfl
  exact ⟨this.1, this.2.1⟩
/-- Slices that are nil have no room. -/
structure TrM.Nil (t : TrM) : Prop where
  s : t.s.A = none → t.s.c = 0
  r : ∀ y, y ∈ t.g.l → ∀ r, r ∈ y.l → r.A = none → r.c = 0
  l : t.l.A = none → t.l.c = 0
/-- What hands back a truth of the reference. -/
def RetT (d : TD) (w : World) (e : Ending) (w' : World) : Prop := ∃ t : TrM, e = .returned (.agg t.cells.toArray) ∧ t.d = d ∧ t.At w' w'.heap.size ∧ t.Nil ∧ Below w.heap.size w w'
theorem size31 : (Try.prog.info? 31).map (·.size) = some 3 := by kernel_rfl
end Go.Proofs.Ytlkdmcdnkoiflaa

/- Picked: a truth of a valid plan, by words. -/
namespace Go.Proofs.Ytlkdmcdnkoiflaa
open Go.RowKit Go.Lib

/-- The truth that words pick. -/
def pickD (d : PD) (Y : Nat) (ws : List Nat) : TD :=
  mkT d.s.length Y (fun s => pickN (d.s.getD s (0, 0)) ws s) (fun y s k => pickN ((d.g.getD s []).getD k (0, 0)) ws (31 * y + 5 * s + k + 3)) (fun y => pickN (d.lo, d.hi) ws (7 * y + 1))
set_option maxRecDepth 100000 in
set_option maxHeartbeats 4000000 in
theorem Picked_any (p : PlM) (Y : Nat) (A : Option Addr) (c : Nat) (ws : List Nat) (w : World) (hp : p.At w w.heap.size) (hv : p.Valid) (hY : p.years = (Y : Int)) (hA : Sl w w.heap.size 1 encW A ws) (hw : ∀ x, x ∈ ws → x < 65536) (hl : ws.length ≤ 9223372036854775807) :
    Calls Try.prog 52 #[.agg p.cells.toArray, .slice A ws.length c] w (RetT (pickD p.d Y ws) w) := by
  obtain ⟨i0, hi, hz0, hz1, hz2⟩ := info_parts infoInt
  obtain ⟨i1, hi1, hz10, hz11, hz12⟩ := info_parts infoInts
  obtain ⟨i2, hi2, hz20, hz21, hz22⟩ := info_parts infoRows
  have hn5 := hv.ok.n
  have hn1 := hv.ok.one
  have hY6 : Y ≤ 6 := by have := hv.y; omega
  have hPI : ∀ (W : World) (lo hi : Int) (i : Nat) (z : Int), Below w.heap.size w W → z = (i : Int) → i ≤ 1000000 → 0 ≤ lo → lo ≤ hi → hi ≤ 1000000 → Calls Try.prog 85 #[.agg #[.int .i64 lo, .int .i64 hi], .slice A ws.length c, .int .i64 z] W fun e w' => e = .returned (.int .i64 (pickN (lo, hi) ws i)) ∧ Below W.heap.size W w' :=
    fun W lo hi i z hb hz h1 h2 h3 h4 => hz ▸ pick_any lo hi A c ws i W ((hA.below hb).more hb.size) hw hl h1 h2 h3 h4
  have l0 : Lies (((w.alloc (.cells p.cells.toArray 28)).alloc (.cells #[.slice none 0 0, .slice none 0 0, .slice none 0 0] 31)).alloc (.cells #[.slice none 0 0, .slice none 0 0, .slice none 0 0] 31)) w.heap.size 28 p.cells.toArray := ((Lies.fresh _ _ _).alloc _).alloc _
  have l1 : Lies (((w.alloc (.cells p.cells.toArray 28)).alloc (.cells #[.slice none 0 0, .slice none 0 0, .slice none 0 0] 31)).alloc (.cells #[.slice none 0 0, .slice none 0 0, .slice none 0 0] 31)) (w.heap.size + 1) 31 #[.slice none 0 0, .slice none 0 0, .slice none 0 0] := (Lies.fresh' (by simp)).alloc _
  have l2 : Lies (((w.alloc (.cells p.cells.toArray 28)).alloc (.cells #[.slice none 0 0, .slice none 0 0, .slice none 0 0] 31)).alloc (.cells #[.slice none 0 0, .slice none 0 0, .slice none 0 0] 31)) (w.heap.size + 1 + 1) 31 #[.slice none 0 0, .slice none 0 0, .slice none 0 0] := Lies.fresh' (by simp)
  have b0 : Below w.heap.size w (((w.alloc (.cells p.cells.toArray 28)).alloc (.cells #[.slice none 0 0, .slice none 0 0, .slice none 0 0] 31)).alloc (.cells #[.slice none 0 0, .slice none 0 0, .slice none 0 0] 31)) := (by repeat (first | (with_reducible assumption) | (with_reducible exact Below.refl _ _) | (with_reducible refine Below.drew ?_) | (with_reducible refine below_drewN ?_ _) | ((with_reducible refine Below.setCell ?_ ?_ _); rotate_left; focus (first | (simp; done) | (simp; omega) | omega)) | ((with_reducible refine Below.alloc ?_ ?_ _); rotate_left; focus (first | (simp; done) | (simp; omega) | omega))))
  have hM : PK1 p w (fun s => pickN (p.d.s.getD s (0, 0)) ws s) (.slice none 0 0) 0 (((w.alloc (.cells p.cells.toArray 28)).alloc (.cells #[.slice none 0 0, .slice none 0 0, .slice none 0 0] 31)).alloc (.cells #[.slice none 0 0, .slice none 0 0, .slice none 0 0] 31)) := ⟨l0, l1, l2, by simpa using World.ownsRow_nil _ _ _ _, b0⟩
  have HM := Lib.hid hM
  have HP := Lib.hid hp
  have HV := Lib.hid hv
  have HYE := Lib.hid hY
  have HPI := Lib.hid hPI
  have L0 := Lib.hid l0
  have HI := Lib.hid hi
  have Hz0 := Lib.hid hz0
  have Hz1 := Lib.hid hz1
  have Hz2 := Lib.hid hz2
  have HI1 := Lib.hid hi1
  have Hz10 := Lib.hid hz10
  have Hz11 := Lib.hid hz11
  have Hz12 := Lib.hid hz12
  have HI2 := Lib.hid hi2
  have Hz20 := Lib.hid hz20
  have Hz21 := Lib.hid hz21
  have Hz22 := Lib.hid hz22
  have r0 : (((w.alloc (.cells p.cells.toArray 28)).alloc (.cells #[.slice none 0 0, .slice none 0 0, .slice none 0 0] 31)).alloc (.cells #[.slice none 0 0, .slice none 0 0, .slice none 0 0] 31)).cell? ⟨w.heap.size, 0, none⟩ = some (.slice p.s.A p.s.l.length p.s.c) := l0.at_ 0
  clear hM hp hv hY hPI l0 l1 l2 b0 hi hz0 hz1 hz2 hi1 hz10 hz11 hz12 hi2 hz20 hz21 hz22 hA hw hl
  unfold PlM.cells at r0 ⊢
  go_enter Try.func52, Try.ntmps52
  go_wp2
  clear r0
  go_loopw [7] (fun i wr => ∃ (k : Nat) (v : Value), k ≤ p.s.l.length ∧ i = .int .i64 k ∧ Aside (PK1 p w (fun s => pickN (p.d.s.getD s (0, 0)) ws s) v k wr)) (fun i _ => p.s.l.length - (intOf i).toNat)
  case atStart => exact ⟨0, _, by omega, rfl, HM.out⟩
  case round =>
    obtain ⟨k, v, hk, rfl, M⟩ := hrel
    by_cases hlt : k < p.s.l.length
    · have hltz : (k : Int) < (p.s.l.length : Int) := by omega
      have hk0 : (0 : Int) ≤ (k : Int) := by omega
      obtain ⟨r, hr⟩ : ∃ r, p.s.l[k]? = some r := ⟨p.s.l[k], by simp [hlt]⟩
      obtain ⟨b, o, eA, hb, c0, c1⟩ := HP.out.s.cellR hr
      have hrb := HV.out.sb r (List.mem_of_getElem? hr)
      have hfk : pickN (p.d.s.getD k (0, 0)) ws k = pickN (r.1, r.2) ws k := by
        show pickN (p.s.l.getD k (0, 0)) ws k = _
        rw [List.getD, hr]; rfl
      have q0 := cell_regrown (show wr.cell? ⟨w.heap.size + 1 + 1, 0, none⟩ = some v from M.out.tb.at_ 0)
      have q1 := cell_regrown (show wr.cell? ⟨w.heap.size, 0, none⟩ = some (.slice (some ⟨b, o, none⟩) p.s.l.length p.s.c) by rw [← eA]; exact M.out.pb.at_ 0)
      have q2 := cell_regrown (show wr.cell? ⟨b, o + k * 2, none⟩ = some (.int .i64 r.1) by rw [M.out.b.cell (p := ⟨b, o + k * 2, none⟩) hb]; exact c0)
      have q3 := cell_regrown (show wr.cell? ⟨b, o + k * 2 + 1, none⟩ = some (.int .i64 r.2) by rw [M.out.b.cell (p := ⟨b, o + k * 2 + 1, none⟩) hb]; exact c1)
      have HFK := Lib.hid hfk
      have HRB := Lib.hid hrb
      have HE := Lib.hid eA
      clear hfk hrb c0 c1 hr eA
      go_wp2
      refine wp_region_reads 11 [0, 1, 2, 3, 4, 5, 6, 7, 8] [9, 10] (by kernel_rfl) (by kernel_rfl) ?_
      simp only [List.filterMap_cons, List.filterMap_nil, List.take_succ_cons, List.take_zero, List.getElem?_toArray, List.getElem?_cons_zero, List.getElem?_cons_succ, List.drop_succ_cons, List.drop_zero]
      repeat (first | go_big_quiet_step (fail) | quiet_step (fail))
      refine wpQuiet_nil ?_
      intro w0 hb0 hz0
      clear q0 q1 q2 q3 hz0
      simp only [wpForce]
      have M1 := Lib.hid (M.out.call hb0)
      go_wp2_with (go_at_call 85; refine (HPI.out _ r.1 r.2 k (k : Int) M1.out.b rfl (by omega) HRB.out.1 HRB.out.2.1 HRB.out.2.2).mono ?_; rintro e w4 ⟨rfl, hb4⟩)
      have M4 := Lib.hid (M1.out.call hb4)
      have hb04 := hb0.trans (hb4.mono hb0.size)
      refine Ends.intro ⟨hb04, ?_⟩
      clear hb4 M1 hb0
      go_wp2
      have M5 := Lib.hid (M4.out.call ((Below.refl _ _).alloc (Nat.le_refl _) (.cells #[.int .i64 (pickN (r.1, r.2) ws k)] 3)))
      have HN5 := Lib.hid (news_alloc w4 [.int .i64 (pickN (r.1, r.2) ws k)] 3)
      refine Ends.intro ⟨hb04.alloc hb04.size _, ?_⟩
      have hz5 : w.heap.size + 3 ≤ (w4.alloc (.cells #[.int .i64 (pickN (r.1, r.2) ws k)] 3)).heap.size := by have := M5.out.tb.in_; omega
      clear hb04
      go_wp2_with (at_builtin; refine wpList_append_lies _ rfl (.tmp 22) (.tmp 31) 23 rfl (w.heap.size + 3) 3 i0 _ 1 8 Try.underlying23 HI.out Hz0.out Hz1.out Hz2.out rfl (by decide) v k (((List.range k).map (fun s => pickN (p.d.s.getD s (0, 0)) ws s)).map (Value.int .i64)) rfl M5.out.own ⟨w4.heap.size, 0, none⟩ 1 1 [.int .i64 (pickN (r.1, r.2) ws k)] rfl rfl HN5.out (by intro u hu; simp at hu; subst hu; rfl) Nat.one_pos (by unfold maxLen; omega) (by omega) hz5 _ rfl ?_; intro g6 cap6 w6 hown6 hg6 hat6 hlt6; have hN := M5.out.next hg6 (by rw [HFK.out]; exact hown6); have c6 : w6.cell? ⟨w.heap.size + 1 + 1, 0, none⟩ = some v := hN.2.2.1.at_ 0; have f6 := hN.2.2.1.free 0; have HN := Lib.hid hN; clear hN hown6 hg6 hat6 hlt6)
      clear hz5 M4 M5 HN5 HFK
      exact ⟨⟨k + 1, _, by omega, by go_num, HN.out.1⟩, by simp [intOf]; omega⟩
    · obtain rfl : k = p.s.l.length := by omega
      have hM2 : PK2 w wr wr.heap.size v (.slice none 0 0) (.slice none 0 0) (fun y => (List.range p.s.l.length).map fun s => (List.range p.s.l.length).map fun k => pickN ((p.d.g.getD s []).getD k (0, 0)) ws (31 * y + 5 * s + k + 3)) (fun y => pickN (p.d.lo, p.d.hi) ws (7 * y + 1)) 0 0 wr :=
        ⟨M.out.tb, ⟨[], by simpa using World.ownsRow_nil _ _ _ _, rfl, fun g hg => by cases hg⟩, by simpa using World.ownsRow_nil _ _ _ _, fun _ _ _ => rfl, M.out.b, Nat.le_refl _⟩
      have HM2 := Lib.hid hM2
      have hB2 : w.heap.size + 1 + 1 < wr.heap.size := M.out.tb.in_
      have hYz : (Y : Int) ≤ 6 := by omega
      clear hM2
      obtain ⟨w2, rfl⟩ : ∃ w2 : World, w2 = wr := ⟨_, rfl⟩
      go_wp2
      go_loopw [8, 9, 10, 11, 12] (fun i _ _ _ _ wr => ∃ (y : Nat) (vg vl : Value), y ≤ Y ∧ i = .int .i64 y ∧ Aside (PK2 w w2 w2.heap.size v vg vl (fun y => (List.range p.s.l.length).map fun s => (List.range p.s.l.length).map fun k => pickN ((p.d.g.getD s []).getD k (0, 0)) ws (31 * y + 5 * s + k + 3)) (fun y => pickN (p.d.lo, p.d.hi) ws (7 * y + 1)) y y wr)) (fun i _ _ _ _ _ => Y - (intOf i).toNat)
      case atStart => exact ⟨0, _, _, by omega, rfl, HM2.out⟩
      case round =>
        obtain ⟨y, vg, vl, hy, rfl, N⟩ := hrel
        have hPB : ∀ W, (∀ j, j < w2.heap.size → j ≠ w.heap.size + 1 + 1 → W.heap[j]? = w2.heap[j]?) → Lies W w.heap.size 28 p.cells.toArray := fun W h => M.out.pb.to_ (h _ (by omega) (by omega))
        have d7 : wr.cell? ⟨w.heap.size, 7, none⟩ = some (.int .i64 (Y : Int)) := by rw [← HYE.out]; exact (hPB wr N.out.old).at_ 7
        have HPB := Lib.hid hPB
        clear hPB
        obtain ⟨wo, rfl⟩ : ∃ wo : World, wo = wr := ⟨_, rfl⟩
        by_cases hyl : y < Y
        · have hyz : (y : Int) < (Y : Int) := by omega
          have hy0 : (0 : Int) ≤ (y : Int) := by omega
          go_wp2
          clear d7
          go_loopw [9, 10, 11, 12] (fun vr s _ _ wr => ∃ j : Nat, j ≤ p.s.l.length ∧ s = .int .i64 j ∧ Aside (PK3 wo (fun s => (List.range p.s.l.length).map fun k => pickN ((p.d.g.getD s []).getD k (0, 0)) ws (31 * y + 5 * s + k + 3)) vr j wr)) (fun _ s _ _ _ => p.s.l.length - (intOf s).toNat)
          case atStart => exact ⟨0, by omega, rfl, PK3.start _ _⟩
          case round =>
            obtain ⟨j, hj, rfl, R⟩ := hrel
            obtain ⟨w3, rfl⟩ : ∃ w3 : World, w3 = wr := ⟨_, rfl⟩
            by_cases hjl : j < p.s.l.length
            · have hjz : (j : Int) < (p.s.l.length : Int) := by omega
              have hj0 : (0 : Int) ≤ (j : Int) := by omega
              go_wp2
              go_loopw [11, 12] (fun v4 i wr => ∃ q : Nat, q ≤ p.s.l.length ∧ i = .int .i64 q ∧ Aside (Below w3.heap.size w3 wr ∧ wr.ownsRow w3.heap.size 3 1 v4 q (((List.range q).map fun k => pickN ((p.d.g.getD j []).getD k (0, 0)) ws (31 * y + 5 * j + k + 3)).map (Value.int .i64)))) (fun _ i _ => p.s.l.length - (intOf i).toNat)
              case atStart => exact ⟨0, by omega, rfl, Below.refl _ _, by simpa using World.ownsRow_nil _ _ _ _⟩
              case round =>
                obtain ⟨q, hq, rfl, HQ⟩ := hrel
                have hb3 : Below w.heap.size w wr := (N.out.b.trans (R.out.b.mono N.out.b.size)).trans (HQ.out.1.mono (Nat.le_trans N.out.b.size R.out.b.size))
                have hold : ∀ j, j < w2.heap.size → j ≠ w.heap.size + 1 + 1 → wr.heap[j]? = w2.heap[j]? := fun j h1 h2 => by
                  have z1 := N.out.z
                  have z2 := R.out.b.size
                  rw [HQ.out.1.block j (by omega), R.out.b.block j (by omega), N.out.old j h1 h2]
                by_cases hql : q < p.s.l.length
                · have hqz : (q : Int) < (p.s.l.length : Int) := by omega
                  have hq0 : (0 : Int) ≤ (q : Int) := by omega
                  obtain ⟨x, hx⟩ : ∃ x, p.g.l[j]? = some x := ⟨p.g.l[j]'(by rw [HV.out.g]; exact hjl), by simp⟩
                  have hxm := List.mem_of_getElem? hx
                  have hxl := HV.out.gl x hxm
                  obtain ⟨r, hr⟩ : ∃ r, x.l[q]? = some r := ⟨x.l[q]'(by rw [hxl]; exact hql), by simp⟩
                  have hrb := HV.out.gb x hxm r (List.mem_of_getElem? hr)
                  obtain ⟨bg, og, eg, hbg, cg⟩ := HP.out.g.cell1 hx
                  obtain ⟨br, orr, er, hbr, cr0, cr1⟩ := (HP.out.rows x hxm).cellR hr
                  have d2 : wr.cell? ⟨w.heap.size, 2, none⟩ = some (.slice (some ⟨bg, og, none⟩) p.g.l.length p.g.c) := by rw [← eg]; exact (HPB.out wr hold).at_ 2
                  have d3 : wr.cell? ⟨bg, og + j, none⟩ = some (.slice (some ⟨br, orr, none⟩) p.s.l.length x.c) := by rw [hb3.cell (p := ⟨bg, og + j, none⟩) hbg, cg, ← er, ← hxl]; rfl
                  have d4 : wr.cell? ⟨br, orr + q * 2, none⟩ = some (.int .i64 r.1) := by rw [hb3.cell (p := ⟨br, orr + q * 2, none⟩) hbr]; exact cr0
                  have d5 : wr.cell? ⟨br, orr + q * 2 + 1, none⟩ = some (.int .i64 r.2) := by rw [hb3.cell (p := ⟨br, orr + q * 2 + 1, none⟩) hbr]; exact cr1
                  have hgz : (j : Int) < (p.g.l.length : Int) := by have := HV.out.g; omega
                  have hfk : pickN ((p.d.g.getD j []).getD q (0, 0)) ws (31 * y + 5 * j + q + 3) = pickN (r.1, r.2) ws (31 * y + 5 * j + q + 3) := by
                    have e1 : (p.d.g.getD j []).getD q (0, 0) = r := by
                      show ((p.g.l.map (·.l)).getD j []).getD q (0, 0) = r
                      simp [List.getD, hx, hr]
                    rw [e1]
                  have hy5 : (y : Int) ≤ 5 := by omega
                  have hj5 : (j : Int) ≤ 4 := by omega
                  have hq5 : (q : Int) ≤ 4 := by omega
                  have HFK := Lib.hid hfk
                  have HRB := Lib.hid hrb
                  have HB3 := Lib.hid hb3
                  have HOW := Lib.hid HQ.out.2
                  have HBW := Lib.hid HQ.out.1
                  have hz3 := HQ.out.1.size
                  clear hfk hrb hb3 hold eg er cg cr0 cr1 hx hxm hxl hr HQ
                  go_wp2_with (first
                    | (go_at_call 85; refine (HPI.out _ r.1 r.2 (31 * y + 5 * j + q + 3) _ HB3.out (by omega) (by omega) HRB.out.1 HRB.out.2.1 (by have := HRB.out.2.2; omega)).mono ?_; rintro e w4 ⟨rfl, hb4⟩; have HN5 := Lib.hid (news_alloc w4 [.int .i64 (pickN (r.1, r.2) ws (31 * y + 5 * j + q + 3))] 3); have HO5 := Lib.hid ((ownsRow_call HOW.out hb4).alloc (.cells #[.int .i64 (pickN (r.1, r.2) ws (31 * y + 5 * j + q + 3))] 3)); have hz5 : w3.heap.size ≤ (w4.alloc (.cells #[.int .i64 (pickN (r.1, r.2) ws (31 * y + 5 * j + q + 3))] 3)).heap.size := (by have := hb4.size; simp; omega); have HB4 := Lib.hid hb4; clear hb4)
                    | (at_builtin; refine wpList_append_lies _ rfl (.tmp 50) (.tmp 69) 23 rfl w3.heap.size 3 i0 _ 1 8 Try.underlying23 HI.out Hz0.out Hz1.out Hz2.out rfl (by decide) u11 q _ rfl HO5.out ⟨w4.heap.size, 0, none⟩ 1 1 [.int .i64 (pickN (r.1, r.2) ws (31 * y + 5 * j + q + 3))] rfl rfl HN5.out (by intro u hu; simp at hu; subst hu; rfl) Nat.one_pos (by unfold maxLen; omega) (by omega) hz5 _ rfl ?_; intro g6 cap6 w6 hown6 hg6 hat6 hlt6; clear hat6 hlt6))
                  have hb6 : Below w3.heap.size w3 w6 := ((HBW.out.trans (HB4.out.mono hz3)).alloc (by have := HB4.out.size; omega) _).grown hg6 hz5 (fun i e => (own_at HO5.out e).1)
                  have ho6 : w6.ownsRow w3.heap.size 3 1 (.slice (some ⟨g6, 0, none⟩) (q + 1) cap6) (q + 1) (((List.range (q + 1)).map fun k => pickN ((p.d.g.getD j []).getD k (0, 0)) ws (31 * y + 5 * j + k + 3)).map (Value.int .i64)) := by
                    rw [List.range_succ, List.map_append, List.map_append]
                    simp only [List.map_cons, List.map_nil]
                    rw [HFK.out]
                    exact hown6
                  have H6 := Lib.hid (And.intro hb6 ho6)
                  clear hb6 ho6 hown6 hg6 d2 d3 d4 d5
                  go_roundw
                  case rel => exact ⟨q + 1, by omega, by go_num, H6.out⟩
                  case measure => simp [intOf]; omega
                · obtain rfl : q = p.s.l.length := by omega
                  obtain ⟨x, e1, hxl, hxs, hxb⟩ := own_done (enc := encI) (l := (List.range p.s.l.length).map fun k => pickN ((p.d.g.getD j []).getD k (0, 0)) ws (31 * y + 5 * j + k + 3)) (fun _ => rfl) (by rw [List.length_map, List.length_range, flat_ints]; exact HQ.out.2)
                  rw [List.length_map, List.length_range] at e1
                  subst e1
                  have hR5 := (R.out.call HQ.out.1).call ((Below.refl _ _).alloc (Nat.le_refl _) (.cells #[.slice x.A p.s.l.length x.c] 23))
                  have hxs5 := hxs.call ((Below.refl _ _).alloc (Nat.le_refl _) (.cells #[.slice x.A p.s.l.length x.c] 23))
                  obtain ⟨rs, hown, hrs, hro⟩ := hR5.own
                  have hN5 := news_alloc wr [.slice x.A p.s.l.length x.c] 23
                  have hxlen : x.l.length = p.s.l.length := by rw [hxl]; simp
                  have hz3 := R.out.b.size
                  have hz4 := HQ.out.1.size
                  have hz5 : wo.heap.size ≤ (wr.alloc (.cells #[.slice x.A p.s.l.length x.c] 23)).heap.size := by simp; omega
                  have HR5 := Lib.hid hR5
                  have HXS := Lib.hid (And.intro hxs5 (hxb.more hz3 (by simp : wr.heap.size ≤ (wr.alloc (.cells #[.slice x.A p.s.l.length x.c] 23)).heap.size)))
                  have HXL := Lib.hid hxl
                  have HXN := Lib.hid hxlen
                  have HOW := Lib.hid hown
                  have HRS := Lib.hid hrs
                  have HRO := Lib.hid hro
                  have HN5 := Lib.hid hN5
                  clear hR5 hxs hxs5 hxb hxl hxlen hown hrs hro hN5 HQ hb3 hold
                  go_wp2_with (at_builtin; refine wpList_append_lies _ rfl (.tmp 71) (.tmp 73) 100 rfl wo.heap.size 23 i1 _ 1 24 Try.underlying100 HI1.out Hz10.out Hz11.out Hz12.out rfl (by decide) u9 j _ rfl HOW.out ⟨wr.heap.size, 0, none⟩ 1 1 [.slice x.A p.s.l.length x.c] rfl rfl HN5.out (by intro u hu; simp at hu; subst hu; rfl) Nat.one_pos (by unfold maxLen; omega) (by omega) hz5 _ rfl ?_; intro g7 cap7 w7 hown7 hg7 hat7 hlt7; clear hat7 hlt7)
                  have hR7 := HR5.out.next (r := x) HOW.out HRS.out HRO.out HXS.out HXL.out hg7 (by have h := hown7; rw [← HXN.out] at h; exact h)
                  have HR7 := Lib.hid hR7
                  clear hR7 hown7 hg7
                  go_roundw
                  case rel => exact ⟨j + 1, by omega, by go_num, HR7.out⟩
                  case measure => simp [intOf]; omega
            · obtain rfl : j = p.s.l.length := by omega
              obtain ⟨rs, hown, hrs, hro⟩ := R.out.own
              have hrl : rs.length = p.s.l.length := by have := congrArg List.length hrs; simpa using this
              obtain ⟨G, e1, hgl, hgs, hgb⟩ := own_done (enc := encV) (l := rs) (fun _ => rfl) (by rw [hrl]; exact hown)
              rw [hrl] at e1
              subst e1
              have hAl : (Below w3.heap.size w3 (w3.alloc (.cells #[.slice G.A p.s.l.length G.c] 100))) := (Below.refl _ _).alloc (Nat.le_refl _) _
              have hN5 := (N.out.call R.out.b).call hAl
              obtain ⟨gs, hgo, hgm, hga⟩ := hN5.og
              have hnw := news_alloc w3 [.slice G.A p.s.l.length G.c] 100
              have hG1 := hgs.call hAl
              have hvl : ∀ b, vl.ownBlock = some b → b < wo.heap.size := fun b e => (own_at N.out.ol e).2.1
              have hG2 : ∀ r, r ∈ G.l → SlT (w3.alloc (.cells #[.slice G.A p.s.l.length G.c] 100)) (w3.alloc (.cells #[.slice G.A p.s.l.length G.c] 100)).heap.size 1 3 encI r.A r.l ∧ Ap r.A vl ∧ Bt r 0 (w3.alloc (.cells #[.slice G.A p.s.l.length G.c] 100)).heap.size := fun r hr => by
                rw [hgl] at hr
                refine ⟨(hro r hr).1.call hAl, fun a e h => ?_, (hro r hr).2.more (Nat.zero_le _) hAl.size⟩
                have := hvl _ h
                have := ((hro r hr).2.1 a e).1
                omega
              have hG3 : G.l.map (·.l) = (List.range p.s.l.length).map fun s => (List.range p.s.l.length).map fun k => pickN ((p.d.g.getD s []).getD k (0, 0)) ws (31 * y + 5 * s + k + 3) := by rw [hgl, hrs]
              have hGn : G.l.length = p.s.l.length := by rw [hgl, hrl]
              have t1 : w3.cell? ⟨w.heap.size + 1 + 1, 1, none⟩ = some vg := (N.out.call R.out.b).tb.at_ 1
              have hz5 := hN5.z
              have HN5 := Lib.hid hN5
              have HGO := Lib.hid hgo
              have HGM := Lib.hid hgm
              have HGA := Lib.hid hga
              have HNW := Lib.hid hnw
              have HG1 := Lib.hid hG1
              have HG2 := Lib.hid hG2
              have HG3 := Lib.hid hG3
              have HGN := Lib.hid hGn
              clear hN5 hgo hgm hga hnw hG1 hG2 hG3 hGn hown hrs hro hrl hgl hgs hgb hAl hvl R
              go_upto_region 21 with (at_builtin; refine wpList_append_lies _ rfl (.tmp 76) (.tmp 78) 29 rfl w2.heap.size 100 i2 _ 1 24 Try.underlying29 HI2.out Hz20.out Hz21.out Hz22.out rfl (by decide) vg y _ rfl HGO.out ⟨w3.heap.size, 0, none⟩ 1 1 [.slice G.A p.s.l.length G.c] rfl rfl HNW.out (by intro u hu; simp at hu; subst hu; rfl) Nat.one_pos (by unfold maxLen; omega) (by omega) hz5 _ rfl ?_; intro g7 cap7 w7 hown7 hg7 hat7 hlt7; clear hat7 hlt7; have e7 := HN5.out.grow (g := G) HGO.out HGM.out HGA.out HG1.out HG2.out HG3.out hB2 hg7 (by have h := hown7; rw [← HGN.out] at h; exact h); have c7 : w7.cell? ⟨w.heap.size + 1 + 1, 1, none⟩ = some vg := e7.2.at_ 1; have f7 := e7.2.free 1; have E7 := Lib.hid e7.1; clear e7 hown7 hg7)
              clear t1 c7 f7 HN5 HGO HGM HGA HNW HG1 HG2 HG3 HGN
              generalize w7.setCell ⟨w.heap.size + 1 + 1, 1, none⟩ (.slice (some ⟨g7, 0, none⟩) (y + 1) cap7) = w8 at *
              have q0 := cell_regrown (show w8.cell? ⟨w.heap.size + 1 + 1, 2, none⟩ = some vl from E7.out.tb.at_ 2)
              have q1 := cell_regrown (show w8.cell? ⟨w.heap.size, 5, none⟩ = some (.int .i64 p.lo) from (HPB.out _ E7.out.old).at_ 5)
              have q2 := cell_regrown (show w8.cell? ⟨w.heap.size, 6, none⟩ = some (.int .i64 p.hi) from (HPB.out _ E7.out.old).at_ 6)
              have hlo := HV.out.l
              have w1 : IntKind.i64.wrap (7 * (y : Int)) = 7 * (y : Int) := IntWalk.i64_in _ (by omega)
              have w2' : IntKind.i64.wrap (7 * (y : Int) + 1) = 7 * (y : Int) + 1 := IntWalk.i64_in _ (by omega)
              have HLO := Lib.hid hlo
              clear hlo
              refine wp_region_reads 10 [0, 1, 2, 3, 4, 5, 6, 7] [8, 9] (by kernel_rfl) (by kernel_rfl) ?_
              simp only [List.filterMap_cons, List.filterMap_nil, List.take_succ_cons, List.take_zero, List.getElem?_toArray, List.getElem?_cons_zero, List.getElem?_cons_succ, List.drop_succ_cons, List.drop_zero]
              repeat (first | go_big_quiet_step (fail) | quiet_step (fail))
              refine wpQuiet_nil ?_
              intro w0 hb0 hz0
              (try simp only [w1, w2'])
              clear q0 q1 q2 hz0 w1 w2'
              simp only [wpForce]
              have M1 := Lib.hid (E7.out.call hb0)
              go_wp2_with (go_at_call 85; refine (HPI.out _ p.lo p.hi (7 * y + 1) _ M1.out.b (by omega) (by omega) HLO.out.1 HLO.out.2.1 (by have := HLO.out.2.2; omega)).mono ?_; rintro e w9 ⟨rfl, hb9⟩)
              have M4 := Lib.hid (M1.out.call hb9)
              have hb09 := hb0.trans (hb9.mono hb0.size)
              refine Ends.intro ⟨hb09, ?_⟩
              clear hb9 M1 hb0
              go_wp2
              have M5 := Lib.hid (M4.out.call ((Below.refl _ _).alloc (Nat.le_refl _) (.cells #[.int .i64 (pickN (p.lo, p.hi) ws (7 * y + 1))] 3)))
              have HN5 := Lib.hid (news_alloc w9 [.int .i64 (pickN (p.lo, p.hi) ws (7 * y + 1))] 3)
              refine Ends.intro ⟨hb09.alloc hb09.size _, ?_⟩
              have hz6 := M5.out.z
              clear hb09
              go_wp2_with (at_builtin; refine wpList_append_lies _ rfl (.tmp 82) (.tmp 90) 23 rfl w2.heap.size 3 i0 _ 1 8 Try.underlying23 HI.out Hz0.out Hz1.out Hz2.out rfl (by decide) vl y _ rfl M5.out.ol ⟨w9.heap.size, 0, none⟩ 1 1 [.int .i64 (pickN (p.lo, p.hi) ws (7 * y + 1))] rfl rfl HN5.out (by intro u hu; simp at hu; subst hu; rfl) Nat.one_pos (by unfold maxLen; omega) (by omega) hz6 _ rfl ?_; intro g6 cap6 w6 hown6 hg6 hat6 hlt6; have hN := M5.out.loss hB2 hg6 hat6 hown6; have c6 : w6.cell? ⟨w.heap.size + 1 + 1, 2, none⟩ = some vl := hN.2.at_ 2; have f6 := hN.2.free 2; have HN := Lib.hid hN.1; clear hN hown6 hg6 hat6 hlt6)
              clear hz6 M4 M5 HN5
              exact ⟨⟨y + 1, _, _, by omega, by go_num, HN.out⟩, by simp [intOf]; omega⟩
        · obtain rfl : y = Y := by omega
          obtain ⟨gs, hgo, hgm, hga⟩ := N.out.og
          have hgl : gs.length = y := by have := congrArg List.length hgm; simpa using this
          have hso : wo.ownsRow (w.heap.size + 3) 3 1 v p.s.l.length (((List.range p.s.l.length).map fun s => pickN (p.d.s.getD s (0, 0)) ws s).map (Value.int .i64)) := own_keep M.out.own fun g hg => N.out.old g (own_at M.out.own hg).2.1 (by have := (own_at M.out.own hg).1; omega)
          obtain ⟨xs, es, hsl, hss, hsn⟩ := own_done (enc := encI) (l := (List.range p.s.l.length).map fun s => pickN (p.d.s.getD s (0, 0)) ws s) (fun _ => rfl) (by rw [List.length_map, List.length_range, flat_ints]; exact hso)
          obtain ⟨xg, eg, hgl', hgs, _⟩ := own_done (enc := encV) (l := gs) (fun _ => rfl) (by rw [hgl]; exact hgo)
          obtain ⟨xl, el, hll, hls, hln⟩ := own_done (enc := encI) (l := (List.range y).map fun y => pickN (p.d.lo, p.d.hi) ws (7 * y + 1)) (fun _ => rfl) (by rw [List.length_map, List.length_range, flat_ints]; exact N.out.ol)
          rw [List.length_map, List.length_range] at es el
          rw [hgl] at eg
          subst es eg el
          have hzb : Lies wo (w.heap.size + 1) 31 #[.slice none 0 0, .slice none 0 0, .slice none 0 0] := M.out.zb.to_ (N.out.old _ (by omega) (by omega))
          have htd : (⟨xs, xg, xl⟩ : TrM).d = pickD p.d y ws := by
            unfold TrM.d pickD mkT
            simp only [hsl, hgl', hll, hgm]
            rfl
          have hcs : (⟨xs, xg, xl⟩ : TrM).cells = [.slice xs.A p.s.l.length xs.c, .slice xg.A y xg.c, .slice xl.A y xl.c] := by
            unfold TrM.cells
            rw [show xs.l.length = p.s.l.length by rw [hsl]; simp, show xg.l.length = y by rw [hgl', hgl], show xl.l.length = y by rw [hll]; simp]
          have ZB := Lib.hid hzb
          have TB := Lib.hid N.out.tb
          have HB := Lib.hid N.out.b
          have HTD := Lib.hid htd
          have HCS := Lib.hid hcs
          have hnil : (⟨xs, xg, xl⟩ : TrM).Nil := ⟨hsn.2, fun g hg r hr => ((hga g (by rw [← hgl']; exact hg)).2 r hr).2.2.2, hln.2⟩
          have HNIL := Lib.hid hnil
          have HAT := Lib.hid (And.intro hss (And.intro hgs (And.intro hls (hgl' ▸ hga))))
          clear hnil hsn hln hgo hgm hga hgl hso hsl hss hgl' hgs hll hls hzb htd hcs
          go_upto_region 22 with (fail)
          apply wp_region_lit
          refine wpList_load_row (o := ⟨some 93, _, _, _, _, _⟩) ?_ 31 (.tmp 5) ?_ (w.heap.size + 1 + 1) ?_ 31 #[.slice xs.A p.s.l.length xs.c, .slice xg.A y xg.c, .slice xl.A y xl.c] (0, 0) _ TB.out Try.underlying31 rfl size31 ?_
          rfl; rfl; rfl
          simp only [Act.put, List.setIfInBounds_toArray, List.set_cons_zero, List.set_cons_succ]
          refine wpList_store_cells (o := ⟨none, .store 31 (.tmp 4) _, _, _, _, _⟩) ?_ 31 (.tmp 4) (.tmp 93) ?_ (w.heap.size + 1) 0 ?_ 31 [.slice none 0 0, .slice none 0 0, .slice none 0 0] [.slice xs.A p.s.l.length xs.c, .slice xg.A y xg.c, .slice xl.A y xl.c] ?_ ZB.out (Nat.le_refl 3) size31 (by simp [Value.oneCell']) ?_
          rfl; rfl; rfl; rfl
          intro w9 HS9 HO9
          refine wpList_nil ?_
          have hs9 : Lies w9 (w.heap.size + 1) 31 #[.slice xs.A p.s.l.length xs.c, .slice xg.A y xg.c, .slice xl.A y xl.c] := HS9.out
          have hk9 : ∀ {α : Type} {k : Nat} {T : TypeId} {enc : α → List Value} {A : Option Addr} {l : List α}, T ≠ 31 → SlT wo wo.heap.size k T enc A l → Sl w9 w9.heap.size k enc A l := fun hT h => by
            rw [HO9.out.size]
            exact (h.only HO9.out ZB.out hT).sl
          have hres : RetT (pickD p.d y ws) w (.returned (.agg #[.slice xs.A p.s.l.length xs.c, .slice xg.A y xg.c, .slice xl.A y xl.c])) w9 :=
            ⟨⟨xs, xg, xl⟩, by rw [HCS.out], HTD.out, ⟨hk9 (by decide) HAT.out.1, hk9 (by decide) HAT.out.2.1, fun g hg => hk9 (by decide) (HAT.out.2.2.2 g hg).1, fun g hg r hr => hk9 (by decide) ((HAT.out.2.2.2 g hg).2 r hr).1, hk9 (by decide) HAT.out.2.2.1⟩, HNIL.out, HO9.out.below HB.out (by omega)⟩
          have HRES := Lib.hid hres
          have HS := Lib.hid hs9
          clear hres hs9 HS9 HO9 hk9
          go_wp2
          exact bodyPost_ret (results_cell_row rfl _ _ (w.heap.size + 1) 31 #[.slice xs.A p.s.l.length xs.c, .slice xg.A y xg.c, .slice xl.A y xl.c] (0, 0) _ rfl HS.out Try.underlying31 rfl size31) rfl HRES.out
end Go.Proofs.Ytlkdmcdnkoiflaa

/- The law's Truth: a truth for the program; whole. -/
namespace Go.Proofs.Ytlkdmcdnkoiflaa
open Go.RowKit Go.Lib

/-- The memory of Truth between two rounds. -/
structure TL2 (t : TrM) (w W2 : World) (G : Nat) (va vl : Value) (fg : Nat → List (List Int)) (v : Value) (k : Nat) (wr : World) : Prop where
  pb : Lies wr w.heap.size 31 t.cells.toArray
  zb : Lies wr (w.heap.size + 1) 46 #[.slice none 0 0, .slice none 0 0, .slice none 0 0]
  tb : Lies wr G 46 #[va, v, vl]
  og : ∃ gs : List (Sv (Sv Int)), wr.ownsRow W2.heap.size 100 1 v k (gs.flatMap encV) ∧ gs.map (fun g => g.l.map (·.l)) = (List.range k).map fg ∧
    ∀ g, g ∈ gs → SlT wr wr.heap.size 1 23 encV g.A g.l ∧ ∀ r, r ∈ g.l → SlT wr wr.heap.size 1 3 encI r.A r.l ∧ Bt r 0 wr.heap.size
  old : ∀ j, j < W2.heap.size → j ≠ G → wr.heap[j]? = W2.heap[j]?
  b : Below w.heap.size w wr
  z : W2.heap.size ≤ wr.heap.size
section
variable {t : TrM} {w W2 wr w' w4 : World} {G k : Nat} {va vl v v4 : Value} {fg : Nat → List (List Int)}
theorem TL2.call (h : TL2 t w W2 G va vl fg v k wr) (hb : Below wr.heap.size wr w') : TL2 t w W2 G va vl fg v k w' := by
  obtain ⟨gs, h1, h2, h3⟩ := h.og
  have hz := h.z
  exact ⟨h.pb.call hb, h.zb.call hb, h.tb.call hb, ⟨gs, ownsRow_call h1 hb, h2, fun g hg => ⟨(h3 g hg).1.call hb, fun r hr => ⟨((h3 g hg).2 r hr).1.call hb, ((h3 g hg).2 r hr).2.more (Nat.le_refl _) hb.size⟩⟩⟩,
    fun j hj hn => (hb.block j (by omega)).trans (h.old j hj hn), h.b.trans (hb.mono h.b.size), Nat.le_trans h.z hb.size⟩
theorem TL2.next {g : Sv (Sv Int)} {gs : List (Sv (Sv Int))} (h : TL2 t w W2 G va vl fg v k wr) (h1 : wr.ownsRow W2.heap.size 100 1 v k (gs.flatMap encV)) (h2 : gs.map (fun g => g.l.map (·.l)) = (List.range k).map fg)
    (h3 : ∀ g, g ∈ gs → SlT wr wr.heap.size 1 23 encV g.A g.l ∧ ∀ r, r ∈ g.l → SlT wr wr.heap.size 1 3 encI r.A r.l ∧ Bt r 0 wr.heap.size)
    (hg0 : SlT wr wr.heap.size 1 23 encV g.A g.l ∧ ∀ r, r ∈ g.l → SlT wr wr.heap.size 1 3 encI r.A r.l ∧ Bt r 0 wr.heap.size) (hg3 : g.l.map (·.l) = fg k)
    (hw : w.heap.size + 1 < G) (hG : G < W2.heap.size) (hg : wr.grownBy w4 v.ownBlock) (hown : w4.ownsRow W2.heap.size 100 1 v4 (k + 1) (gs.flatMap encV ++ encV g)) :
    TL2 t w W2 G va vl fg v4 (k + 1) (w4.setCell ⟨G, 1, none⟩ v4) ∧ Lies w4 G 46 #[va, v, vl] := by
  have hne : ∀ j, j < W2.heap.size → some j ≠ v.ownBlock := fun j hj e => by have := (own_at h1 e.symm).1; omega
  have ht := h.tb.grown hg (hne _ hG)
  have hz := h.z
  have hsz : wr.heap.size ≤ (w4.setCell ⟨G, 1, none⟩ v4).heap.size := by simpa only [World.size_setCell] using hg.size
  have o4 : Only G w4 (w4.setCell ⟨G, 1, none⟩ v4) := Only.set _ _ _ _
  have key : ∀ g : Sv (Sv Int), (SlT wr wr.heap.size 1 23 encV g.A g.l ∧ ∀ r, r ∈ g.l → SlT wr wr.heap.size 1 3 encI r.A r.l ∧ Bt r 0 wr.heap.size) →
      SlT (w4.setCell ⟨G, 1, none⟩ v4) (w4.setCell ⟨G, 1, none⟩ v4).heap.size 1 23 encV g.A g.l ∧ ∀ r, r ∈ g.l → SlT (w4.setCell ⟨G, 1, none⟩ v4) (w4.setCell ⟨G, 1, none⟩ v4).heap.size 1 3 encI r.A r.l ∧ Bt r 0 (w4.setCell ⟨G, 1, none⟩ v4).heap.size := fun g hh =>
    ⟨((hh.1.grown h1 (by decide) hg).only o4 ht (by decide)).more hsz, fun r hr => ⟨(((hh.2 r hr).1.grown h1 (by decide) hg).only o4 ht (by decide)).more hsz, (hh.2 r hr).2.more (Nat.le_refl _) hsz⟩⟩
  refine ⟨⟨(h.pb.grown hg (hne _ (by omega))).other (show w.heap.size ≠ G by omega) _, (h.zb.grown hg (hne _ (by omega))).other (show w.heap.size + 1 ≠ G by omega) _, ht.set 1 v4, ⟨gs ++ [g], ?_, ?_, fun x hx => ?_⟩, fun j hj hn => ?_, ?_, by omega⟩, ht⟩
  · rw [List.flatMap_append]
    simpa using own_set hown ht (by decide) (i := 1) v4
  · rw [List.map_append, h2, List.range_succ, List.map_append]
    simp [hg3]
  · rcases List.mem_append.1 hx with hx | hx
    · exact key x (h3 x hx)
    · obtain rfl : x = g := by simpa using hx
      exact key x hg0
  · rw [heap_setCell_other _ _ _ _ hn, hg.block j (by omega) (hne j hj), h.old j hj hn]
  · have hb := h.b.size
    exact (h.b.grown hg hb (fun j e => by have := (own_at h1 e).1; omega)).setCell (by show w.heap.size ≤ G; omega) _
end
theorem nil_of_none {α : Type} {w : World} {B k : Nat} {enc : α → List Value} {A : Option Addr} {l : List α} (h : Sl w B k enc A l) (e : A = none) : l.length = 0 := by
  cases l with
  | nil => rfl
  | cons y l =>
    obtain ⟨b, o, e', _⟩ := h (by simp)
    rw [e] at e'; cases e'
theorem range_getD {α : Type} (l : List α) (z : α) : (List.range l.length).map (fun i => l.getD i z) = l := by
  apply List.ext_getElem
  · simp
  · intro i h1 h2
    simp [List.getD, h2]
theorem alloc_truth (w : World) : (Instr.alloc 46 true (.tuple #[])).run Try.prog w = .ok (.pointer (some ⟨w.heap.size, 0, none⟩)) (w.alloc (.cells #[.slice none 0 0, .slice none 0 0, .slice none 0 0] 46)) := by kernel_rfl
theorem built_truth2 (A B : Option Addr) (n c m d : Nat) : Try.prog.built 46 [(0, .slice A n c), (2, .slice B m d)] = some #[.slice A n c, .slice none 0 0, .slice B m d] := by kernel_rfl
set_option maxRecDepth 100000 in
set_option maxHeartbeats 4000000 in
theorem Truth_any (t : TrM) (w : World) (ht : t.At w w.heap.size) (hn : t.Nil) (hs6 : t.s.l.length ≤ 1000) (hg6 : t.g.l.length ≤ 1000) (hy6 : ∀ y, y ∈ t.g.l → y.l.length ≤ 1000) (hr6 : ∀ y, y ∈ t.g.l → ∀ r, r ∈ y.l → r.l.length ≤ 1000) (hl6 : t.l.l.length ≤ 1000) :
    Calls Try.prog 23 #[.agg t.cells.toArray] w (RetT t.d w) := by
  obtain ⟨i1, hi1, hz10, hz11, hz12⟩ := info_parts infoInts
  obtain ⟨i2, hi2, hz20, hz21, hz22⟩ := info_parts infoRows
  have l0 : Lies ((w.alloc (.cells t.cells.toArray 31)).alloc (.cells #[.slice none 0 0, .slice none 0 0, .slice none 0 0] 46)) w.heap.size 31 t.cells.toArray := (Lies.fresh _ _ _).alloc _
  have l1 : Lies ((w.alloc (.cells t.cells.toArray 31)).alloc (.cells #[.slice none 0 0, .slice none 0 0, .slice none 0 0] 46)) (w.heap.size + 1) 46 #[.slice none 0 0, .slice none 0 0, .slice none 0 0] := Lies.fresh' (by simp)
  have b0 : Below w.heap.size w ((w.alloc (.cells t.cells.toArray 31)).alloc (.cells #[.slice none 0 0, .slice none 0 0, .slice none 0 0] 46)) := (by repeat (first | (with_reducible assumption) | (with_reducible exact Below.refl _ _) | (with_reducible refine Below.drew ?_) | (with_reducible refine below_drewN ?_ _) | ((with_reducible refine Below.setCell ?_ ?_ _); rotate_left; focus (first | (simp; done) | (simp; omega) | omega)) | ((with_reducible refine Below.alloc ?_ ?_ _); rotate_left; focus (first | (simp; done) | (simp; omega) | omega))))
  have hLI : ∀ (x : Sv Int) (W : World), Below w.heap.size w W → Sl w w.heap.size 1 encI x.A x.l → x.l.length ≤ 1000 → (x.A = none → x.c = 0) → Calls Try.prog 40 #[.slice x.A x.l.length x.c] W fun e w' => ∃ z : Sv Int, e = .returned (.slice z.A x.l.length z.c) ∧ z.l = x.l ∧ SlT w' w'.heap.size 1 3 encI z.A z.l ∧ Bt z W.heap.size w'.heap.size ∧ Below W.heap.size W w' :=
    fun x W hb hx hl hc => (lawList_own x.A x.c x.l W ((hx.below hb).more hb.size) (by omega) (fun e => ⟨nil_of_none hx e, hc e⟩)).mono fun e w' ⟨A', c', he, ho, hb'⟩ => by
      obtain ⟨z, ez, hz1, hz2, hz3⟩ := own_done (enc := encI) (fun _ => rfl) ho
      cases ez
      exact ⟨z, he, hz1, hz2, hz3, hb'⟩
  have r0 := cell_regrown (show _ = some (.slice t.s.A t.s.l.length t.s.c) from l0.at_ 0)
  have r2 := cell_regrown (show _ = some (.slice t.l.A t.l.l.length t.l.c) from l0.at_ 2)
  have HLI := Lib.hid hLI
  have HT := Lib.hid ht
  have HN := Lib.hid hn
  have HS6 := Lib.hid hs6
  have HL6 := Lib.hid hl6
  have HY6 := Lib.hid hy6
  have HR6 := Lib.hid hr6
  have L0 := Lib.hid l0
  have L1 := Lib.hid l1
  have B0 := Lib.hid b0
  have HI1 := Lib.hid hi1
  have Hz10 := Lib.hid hz10
  have Hz11 := Lib.hid hz11
  have Hz12 := Lib.hid hz12
  have HI2 := Lib.hid hi2
  have Hz20 := Lib.hid hz20
  have Hz21 := Lib.hid hz21
  have Hz22 := Lib.hid hz22
  clear hLI ht hn hs6 hl6 hy6 hr6 l0 l1 b0 hi1 hz10 hz11 hz12 hi2 hz20 hz21 hz22
  unfold TrM.cells at r0 r2 ⊢
  go_enter Try.func23, Try.ntmps23
  go_wp2
  refine wp_region_float 8 [0, 1, 3, 4] [2, 5, 6] 7 3 46 #[.slice none 0 0, .slice none 0 0, .slice none 0 0] (by kernel_rfl) (by kernel_rfl) (by simp) alloc_truth ?_
  simp only [List.filterMap_cons, List.filterMap_nil, List.take_succ_cons, List.take_zero, List.getElem?_toArray, List.getElem?_cons_zero, List.getElem?_cons_succ, List.drop_succ_cons, List.drop_zero]
  repeat (first | go_big_quiet_step (fail) | quiet_step (fail))
  refine wpQuiet_nil ?_
  refine ⟨by simp, ?_⟩
  intro vf0 w0 hx0
  simp only [Act.put, List.setIfInBounds_toArray, List.set_cons_zero, List.set_cons_succ]
  have hd0 := hx0
  clear r0 r2
  simp only [wpFloat]
  go_wp2_with (go_at_call 40; refine (HLI.out t.s _ (B0.out.trans (hd0.mono B0.out.size)) HT.out.s HS6.out HN.out.s).mono ?_; rintro e u1 ⟨z1, rfl, hz1, hs1, hn1, hb1⟩)
  refine Ends.intro ⟨hb1, ?_⟩
  intro vf1 w1 hx1
  simp only [Act.put, List.setIfInBounds_toArray, List.set_cons_zero, List.set_cons_succ]
  have hd1 := hd0.trans ((hb1.trans (hx1.mono hb1.size)).mono hd0.size)
  have HO1 := Lib.hid (hs1.call hx1)
  clear hs1
  go_wp2_with (go_at_call 40; refine (HLI.out t.l _ (B0.out.trans (hd1.mono B0.out.size)) HT.out.l HL6.out HN.out.l).mono ?_; rintro e u2 ⟨z2, rfl, hz2, hs2, hn2, hb2⟩)
  refine Ends.intro ⟨hb2, ?_⟩
  intro vf2 w2 hx2
  simp only [List.setIfInBounds_toArray, List.set_cons_zero, List.set_cons_succ]
  have hd2 := hd1.trans ((hb2.trans (hx2.mono hb2.size)).mono hd1.size)
  have HO2 := Lib.hid (hs2.call hx2)
  clear hs2
  refine wpList_build (o := ⟨some 13, _, _, _, _, _⟩) ?_ 46 #[(0, .tmp 9), (2, .tmp 12)] ?_ #[(0, .slice z1.A t.s.l.length z1.c), (2, .slice z2.A t.l.l.length z2.c)] ?_ _ (built_truth2 _ _ _ _ _ _) ?_
  rfl; rfl; (simp only [List.map_toArray, List.map_cons, List.map_nil]; rfl)
  refine wpList_nil ?_
  refine Ends.intro ⟨Below.refl _ _, ?_⟩
  intro vf3 w3 hx3
  simp only [Act.put, List.setIfInBounds_toArray, List.set_cons_zero, List.set_cons_succ]
  intro G w7 hx7 hG hlG
  simp only [Act.put, List.setIfInBounds_toArray, List.set_cons_zero, List.set_cons_succ]
  have h37 := hx3.trans (hx7.mono hx3.size)
  have hd7 := hd2.trans (h37.mono hd2.size)
  have q1 := (HO1.out.call (hb2.trans (hx2.mono hb2.size))).call h37
  have q2 := HO2.out.call h37
  have gg0 : w.heap.size + 1 < G := by simp only [World.size_alloc] at hG; omega
  have P7 := Lib.hid (L0.out.call hd7)
  have Z7 := Lib.hid (L1.out.call hd7)
  have B7 := Lib.hid (B0.out.trans (hd7.mono B0.out.size))
  have Q1 := Lib.hid q1
  have Q2 := Lib.hid q2
  have LG := Lib.hid hlG
  have HZ1 := Lib.hid hz1
  have HZ2 := Lib.hid hz2
  have HN1 := Lib.hid hn1.2
  have HN2 := Lib.hid hn2.2
  clear q1 q2 hlG hd0 hd1 hd2 hd7 hx0 hx1 hx2 hx3 hx7 hb1 hb2 h37 HO1 HO2 L0 L1 hG hz1 hz2 hn1 hn2
  refine wpList_store_cells (o := ⟨none, .store 46 (.tmp 3) _, _, _, _, _⟩) ?_ 46 (.tmp 3) (.tmp 13) ?_ G 0 ?_ 46 [.slice none 0 0, .slice none 0 0, .slice none 0 0] [.slice z1.A t.s.l.length z1.c, .slice none 0 0, .slice z2.A t.l.l.length z2.c] ?_ LG.out (Nat.le_refl 3) size46 (by simp [Value.oneCell']) ?_
  rfl; rfl; rfl; rfl
  intro w8 HS8 HO8
  refine wpList_nil ?_
  have hs8 : Lies w8 G 46 #[.slice z1.A t.s.l.length z1.c, .slice none 0 0, .slice z2.A t.l.l.length z2.c] := HS8.out
  have hG8 : G < w8.heap.size := hs8.in_
  have hM : TL2 t w w8 G (.slice z1.A t.s.l.length z1.c) (.slice z2.A t.l.l.length z2.c) (fun y => t.d.g.getD y []) (.slice none 0 0) 0 w8 :=
    ⟨HO8.out.lies P7.out (by omega), HO8.out.lies Z7.out (by omega), hs8, ⟨[], by simpa using World.ownsRow_nil _ _ _ _, rfl, fun g hg => by cases hg⟩, fun _ _ _ => rfl, HO8.out.below B7.out (by omega), Nat.le_refl _⟩
  have u1 : SlT w8 w8.heap.size 1 3 encI z1.A z1.l := by rw [HO8.out.size]; exact Q1.out.only HO8.out LG.out (by decide)
  have u2 : SlT w8 w8.heap.size 1 3 encI z2.A z2.l := by rw [HO8.out.size]; exact Q2.out.only HO8.out LG.out (by decide)
  have HM := Lib.hid hM
  have U1 := Lib.hid u1
  have U2 := Lib.hid u2
  clear hM u1 u2 hs8 HS8 HO8 Q1 Q2 P7 Z7 B7 LG
  go_wp2
  go_loopw [4, 5, 6] (fun i _ _ wr => ∃ (y : Nat) (v : Value), y ≤ t.g.l.length ∧ i = .int .i64 y ∧ Aside (TL2 t w w8 G (.slice z1.A t.s.l.length z1.c) (.slice z2.A t.l.l.length z2.c) (fun y => t.d.g.getD y []) v y wr)) (fun i _ _ _ => t.g.l.length - (intOf i).toNat)
  case atStart => exact ⟨0, _, Nat.zero_le _, rfl, HM.out⟩
  case round =>
    obtain ⟨y, v, hy, rfl, N⟩ := hrel
    have hPB : ∀ W, (∀ j, j < w8.heap.size → j ≠ G → W.heap[j]? = w8.heap[j]?) → Lies W w.heap.size 31 t.cells.toArray := fun W h => HM.out.pb.to_ (h _ (by omega) (by omega))
    have d1 : wr.cell? ⟨w.heap.size, 1, none⟩ = some (.slice t.g.A t.g.l.length t.g.c) := N.out.pb.at_ 1
    have HPB := Lib.hid hPB
    clear hPB
    obtain ⟨wo, rfl⟩ : ∃ wo : World, wo = wr := ⟨_, rfl⟩
    by_cases hyl : y < t.g.l.length
    · have hyz : (y : Int) < (t.g.l.length : Int) := by omega
      have hy0 : (0 : Int) ≤ (y : Int) := by omega
      obtain ⟨g, hg⟩ : ∃ g, t.g.l[y]? = some g := ⟨t.g.l[y], by simp [hyl]⟩
      have hgm := List.mem_of_getElem? hg
      obtain ⟨bg, og, eg, hbg, cg⟩ := HT.out.g.cell1 hg
      have hgl := HY6.out g hgm
      have hfg : t.d.g.getD y [] = g.l.map (·.l) := by
        show (t.g.l.map fun y => y.l.map (·.l)).getD y [] = _
        simp [List.getD, hg]
      have HEG := Lib.hid eg
      have HCG := Lib.hid cg
      have HFG := Lib.hid hfg
      have HG := Lib.hid hg
      clear eg cg hfg hg
      go_wp2
      clear d1
      go_loopw [5, 6] (fun vr s wr => ∃ j : Nat, j ≤ g.l.length ∧ s = .int .i64 j ∧ Aside (PK3 wo (fun s => (t.d.g.getD y []).getD s []) vr j wr)) (fun _ s _ => g.l.length - (intOf s).toNat)
      case atStart => exact ⟨0, by omega, rfl, PK3.start _ _⟩
      case round =>
        obtain ⟨j, hj, rfl, R⟩ := hrel
        have hbw : Below w.heap.size w wr := N.out.b.trans (R.out.b.mono N.out.b.size)
        have hold : ∀ j, j < w8.heap.size → j ≠ G → wr.heap[j]? = w8.heap[j]? := fun j h1 h2 => by
          have z1 := N.out.z
          rw [R.out.b.block j (by omega), N.out.old j h1 h2]
        have d1 : wr.cell? ⟨w.heap.size, 1, none⟩ = some (.slice (some ⟨bg, og, none⟩) t.g.l.length t.g.c) := by rw [← HEG.out]; exact (HPB.out wr hold).at_ 1
        have d2 : wr.cell? ⟨bg, og + y, none⟩ = some (.slice g.A g.l.length g.c) := by rw [hbw.cell (p := ⟨bg, og + y, none⟩) hbg]; exact HCG.out
        have HBW := Lib.hid hbw
        clear hbw hold
        by_cases hjl : j < g.l.length
        · have hjz : (j : Int) < (g.l.length : Int) := by omega
          have hj0 : (0 : Int) ≤ (j : Int) := by omega
          obtain ⟨r, hr⟩ : ∃ r, g.l[j]? = some r := ⟨g.l[j], by simp [hjl]⟩
          have hrm := List.mem_of_getElem? hr
          obtain ⟨br, orr, er, hbr, cr⟩ := (HT.out.ys g hgm).cell1 hr
          rw [er] at d2
          have d3 : wr.cell? ⟨br, orr + j, none⟩ = some (.slice r.A r.l.length r.c) := by rw [HBW.out.cell (p := ⟨br, orr + j, none⟩) hbr]; exact cr
          have hfr : (t.d.g.getD y []).getD j [] = r.l := by rw [HFG.out]; simp [List.getD, hr]
          have hc := HLI.out r wr HBW.out (HT.out.rs g hgm r hrm) (HR6.out g hgm r hrm) (HN.out.r g hgm r hrm)
          have HC := Lib.hid hc
          have HFR := Lib.hid hfr
          have HR := Lib.hid R.out
          clear hc hfr cr er hr R
          go_wp2_with (first
            | (go_at_call 40; refine HC.out.mono ?_; rintro e w4 ⟨x, rfl, hx, hxs, hxb, hb4⟩; have hA4 : Below w4.heap.size w4 (w4.alloc (.cells #[.slice x.A r.l.length x.c] 23)) := (Below.refl _ _).alloc (Nat.le_refl _) _; have hR5 := (HR.out.call hb4).call hA4; obtain ⟨rs, hown, hrs, hro⟩ := hR5.own; have HR5 := Lib.hid hR5; have HOW := Lib.hid hown; have HRS := Lib.hid hrs; have HRO := Lib.hid hro; have HX := Lib.hid (And.intro (hxs.call hA4) (hxb.more HR.out.b.size hA4.size)); have HXL := Lib.hid hx; have HN5 := Lib.hid (news_alloc w4 [.slice x.A r.l.length x.c] 23); have hz5 := hR5.b.size; clear hA4 hR5 hown hrs hro hxs hxb hx hb4)
            | (at_builtin; refine wpList_append_lies _ rfl (.tmp 31) (.tmp 41) 100 rfl wo.heap.size 23 i1 _ 1 24 Try.underlying100 HI1.out Hz10.out Hz11.out Hz12.out rfl (by decide) u5 j _ rfl HOW.out ⟨w4.heap.size, 0, none⟩ 1 1 [.slice x.A r.l.length x.c] rfl rfl HN5.out (by intro u hu; simp at hu; subst hu; rfl) Nat.one_pos (by unfold maxLen; omega) (by omega) hz5 _ rfl ?_; intro g7 cap7 w7 hown7 hg7 hat7 hlt7; clear hat7 hlt7))
          have hR7 := HR5.out.next (r := x) HOW.out HRS.out HRO.out HX.out (HXL.out.trans HFR.out.symm) hg7 (by have h := hown7; rw [← HXL.out] at h; exact h)
          have HR7 := Lib.hid hR7
          clear hR7 hown7 hg7 d1 d2 d3
          go_roundw
          case rel => exact ⟨j + 1, by omega, by go_num, HR7.out⟩
          case measure => simp [intOf]; omega
        · obtain rfl : j = g.l.length := by omega
          obtain ⟨rs, hown, hrs, hro⟩ := R.out.own
          have hrl : rs.length = g.l.length := by have := congrArg List.length hrs; simpa using this
          obtain ⟨D, e1, hgl2, hgs, _⟩ := own_done (enc := encV) (l := rs) (fun _ => rfl) (by rw [hrl]; exact hown)
          rw [hrl] at e1
          subst e1
          have hAl : (Below wr.heap.size wr (wr.alloc (.cells #[.slice D.A g.l.length D.c] 100))) := (Below.refl _ _).alloc (Nat.le_refl _) _
          have hN5 := (N.out.call R.out.b).call hAl
          obtain ⟨gs, hgo, hgm2, hga⟩ := hN5.og
          have hnw := news_alloc wr [.slice D.A g.l.length D.c] 100
          have hG2 : SlT (wr.alloc (.cells #[.slice D.A g.l.length D.c] 100)) (wr.alloc (.cells #[.slice D.A g.l.length D.c] 100)).heap.size 1 23 encV D.A D.l ∧ ∀ r, r ∈ D.l → SlT (wr.alloc (.cells #[.slice D.A g.l.length D.c] 100)) (wr.alloc (.cells #[.slice D.A g.l.length D.c] 100)).heap.size 1 3 encI r.A r.l ∧ Bt r 0 (wr.alloc (.cells #[.slice D.A g.l.length D.c] 100)).heap.size :=
            ⟨hgs.call hAl, fun r hr => by
              rw [hgl2] at hr
              exact ⟨(hro r hr).1.call hAl, (hro r hr).2.more (Nat.zero_le _) hAl.size⟩⟩
          have hG3 : D.l.map (·.l) = t.d.g.getD y [] := by
            have hl : g.l.length = (t.d.g.getD y []).length := by rw [HFG.out]; simp
            rw [hgl2, hrs, hl, range_getD]
          have hGn : D.l.length = g.l.length := by rw [hgl2, hrl]
          have t1 : wr.cell? ⟨G, 1, none⟩ = some v := (N.out.call R.out.b).tb.at_ 1
          have hz5 := hN5.z
          have hyb : y ≤ 1000 := by omega
          have HN5 := Lib.hid hN5
          have HGO := Lib.hid hgo
          have HGM := Lib.hid hgm2
          have HGA := Lib.hid hga
          have HNW := Lib.hid hnw
          have HG2 := Lib.hid hG2
          have HG3 := Lib.hid hG3
          have HGN := Lib.hid hGn
          clear hN5 hgo hgm2 hga hnw hG2 hG3 hGn hown hrs hro hrl hgl2 hgs hAl R
          go_wp2_with (at_builtin; refine wpList_append_lies _ rfl (.tmp 44) (.tmp 46) 29 rfl w8.heap.size 100 i2 _ 1 24 Try.underlying29 HI2.out Hz20.out Hz21.out Hz22.out rfl (by decide) v y _ rfl HGO.out ⟨wr.heap.size, 0, none⟩ 1 1 [.slice D.A g.l.length D.c] rfl rfl HNW.out (by intro u hu; simp at hu; subst hu; rfl) Nat.one_pos (by unfold maxLen; omega) (by omega) hz5 _ rfl ?_; intro g7 cap7 w7 hown7 hg7 hat7 hlt7; clear hat7 hlt7; have e7 := HN5.out.next (g := D) HGO.out HGM.out HGA.out HG2.out HG3.out gg0 hG8 hg7 (by have h := hown7; rw [← HGN.out] at h; exact h); have c7 : w7.cell? ⟨G, 1, none⟩ = some v := e7.2.at_ 1; have f7 := e7.2.free 1; have E7 := Lib.hid e7.1; clear e7 hown7 hg7)
          clear t1 c7 f7 HN5 HGO HGM HGA HNW HG2 HG3 HGN d1 d2
          go_roundw
          case rel => exact ⟨y + 1, _, by omega, by go_num, E7.out⟩
          case measure => simp [intOf]; omega
    · obtain rfl : y = t.g.l.length := by omega
      obtain ⟨gs, hgo, hgm, hga⟩ := N.out.og
      have hgl : gs.length = t.g.l.length := by have := congrArg List.length hgm; simpa using this
      obtain ⟨xg, eg, hgl', hgs, _⟩ := own_done (enc := encV) (l := gs) (fun _ => rfl) (by rw [hgl]; exact hgo)
      rw [hgl] at eg
      subst eg
      have htd : (⟨z1, xg, z2⟩ : TrM).d = t.d := by
        unfold TrM.d
        simp only [hgl', hgm, HZ1.out, HZ2.out]
        have hl : t.g.l.length = (t.g.l.map fun y => y.l.map (·.l)).length := by simp
        rw [hl]
        rw [show (fun y => (TrM.d t).g.getD y []) = fun y => (t.g.l.map fun y => y.l.map (·.l)).getD y [] from rfl, range_getD]
      have hcs : (⟨z1, xg, z2⟩ : TrM).cells = [.slice z1.A t.s.l.length z1.c, .slice xg.A t.g.l.length xg.c, .slice z2.A t.l.l.length z2.c] := by
        unfold TrM.cells
        rw [HZ1.out, HZ2.out, show xg.l.length = t.g.l.length by rw [hgl', hgl]]
      have hnil : (⟨z1, xg, z2⟩ : TrM).Nil := ⟨HN1.out, fun g hg r hr => ((hga g (by rw [← hgl']; exact hg)).2 r hr).2.2, HN2.out⟩
      have hk8 : ∀ {l : List Int} {A : Option Addr}, SlT w8 w8.heap.size 1 3 encI A l → SlT wo wo.heap.size 1 3 encI A l := fun h => (h.keep fun b cs hb hcs => N.out.old b hb (fun e => by
        subst e
        exact lies_ne hcs HM.out.tb (by decide) rfl)).more N.out.z
      have ZB := Lib.hid N.out.zb
      have TB := Lib.hid N.out.tb
      have HB := Lib.hid N.out.b
      have HTD := Lib.hid htd
      have HCS := Lib.hid hcs
      have HNIL := Lib.hid hnil
      have HAT := Lib.hid (And.intro (hk8 U1.out) (And.intro hgs (And.intro (hk8 U2.out) (hgl' ▸ hga))))
      clear hnil hgo hgm hga hgl hgl' hgs htd hcs hk8
      go_upto_region 11 with (fail)
      apply wp_region_lit
      refine wpList_load_row (o := ⟨some 49, _, _, _, _, _⟩) ?_ 46 (.tmp 3) ?_ G ?_ 46 #[.slice z1.A t.s.l.length z1.c, .slice xg.A t.g.l.length xg.c, .slice z2.A t.l.l.length z2.c] (0, 0) _ TB.out Try.underlying46 rfl size46 ?_
      rfl; rfl; rfl
      simp only [Act.put, List.setIfInBounds_toArray, List.set_cons_zero, List.set_cons_succ]
      refine wpList_store_cells (o := ⟨none, .store 46 (.tmp 2) _, _, _, _, _⟩) ?_ 46 (.tmp 2) (.tmp 49) ?_ (w.heap.size + 1) 0 ?_ 46 [.slice none 0 0, .slice none 0 0, .slice none 0 0] [.slice z1.A t.s.l.length z1.c, .slice xg.A t.g.l.length xg.c, .slice z2.A t.l.l.length z2.c] ?_ ZB.out (Nat.le_refl 3) size46 (by simp [Value.oneCell']) ?_
      rfl; rfl; rfl; rfl
      intro w9 HS9 HO9
      refine wpList_nil ?_
      have hs9 : Lies w9 (w.heap.size + 1) 46 #[.slice z1.A t.s.l.length z1.c, .slice xg.A t.g.l.length xg.c, .slice z2.A t.l.l.length z2.c] := HS9.out
      have hk9 : ∀ {α : Type} {k : Nat} {T : TypeId} {enc : α → List Value} {A : Option Addr} {l : List α}, T ≠ 46 → SlT wo wo.heap.size k T enc A l → Sl w9 w9.heap.size k enc A l := fun hT h => by
        rw [HO9.out.size]
        exact (h.only HO9.out ZB.out hT).sl
      have hres : RetT t.d w (.returned (.agg #[.slice z1.A t.s.l.length z1.c, .slice xg.A t.g.l.length xg.c, .slice z2.A t.l.l.length z2.c])) w9 :=
        ⟨⟨z1, xg, z2⟩, by rw [HCS.out], HTD.out, ⟨hk9 (by decide) HAT.out.1, hk9 (by decide) HAT.out.2.1, fun g hg => hk9 (by decide) (HAT.out.2.2.2 g hg).1, fun g hg r hr => hk9 (by decide) ((HAT.out.2.2.2 g hg).2 r hr).1, hk9 (by decide) HAT.out.2.2.1⟩, HNIL.out, HO9.out.below HB.out (by omega)⟩
      have HRES := Lib.hid hres
      have HS := Lib.hid hs9
      clear hres hs9 HS9 HO9 hk9
      go_wp2
      exact bodyPost_ret (results_cell_row rfl _ _ (w.heap.size + 1) 46 #[.slice z1.A t.s.l.length z1.c, .slice xg.A t.g.l.length xg.c, .slice z2.A t.l.l.length z2.c] (0, 0) _ rfl HS.out Try.underlying46 rfl size46) rfl HRES.out
end Go.Proofs.Ytlkdmcdnkoiflaa

/- A law for drawn regions in phases: reads that may be taken first, then what is forced; and again; then a tail. -/
namespace Go.Proofs.Ytlkdmcdnkoiflaa
open Go.RowKit Go.Lib

/-- The worlds that meet P, as a class of its own. -/
structure Cls (P : World → Prop) where
  val : World
  h : P val
theorem Cls.here {P : World → Prop} {w : World} (h : P w) : ∃ c : Cls P, w = c.val := ⟨⟨w, h⟩, rfl⟩
section
variable {P : Program} {ops : Array Oper} {md : Region.Mode} {S : World → Prop} {Q : Exit → Act → World → Prop} {T : Act → World → Prop} {r : Nat}
/-- As valueB, assignments let in. -/
def value2B : Op → Bool
  | .assign _ => true
  | o => valueB o
theorem yieldsIf_of_quiet2 {o : Oper} {a : Act} {v : Value} {C : World → Prop} (hv : value2B o.op = true) (hw : Region.wanted o (yielded ops a.tmps) = true) (h : ∀ w, C w → o.quietAt P a C w v) : YieldsIf P ops C o v a := by
  cases ho : o.op with
  | assign x =>
    refine .inl ⟨hw, fun w hC => ?_⟩
    have h1 := h w hC
    unfold Oper.quietAt at h1
    rw [BigFrame.run_assign x ho] at h1 ⊢
    rw [h1.2]
  | _ => exact yieldsIf_of_quiet (by rw [ho] at hv ⊢; exact hv) hw h
def takes2B (md : Region.Mode) (ops : Array Oper) : Array Bool → List Nat → Bool
  | _, [] => true
  | L, i :: rs => (Region.ready md ops L).contains i && Region.free md ops L i && (match ops[i]? with | some o => value2B o.op | none => false) && takes2B md ops (L.setIfInBounds i true) rs
theorem wpAnyH_takes2 (hns : Region.noSelect ops = true) : ∀ (rs : List Nat) (L : Array Bool) (a : Act) (w : World) (f : Nat), S w → takes2B md ops L rs = true →
    wpQuiet P ops S (fun a' => wpAnyH P md ops (Ends T) S f (takenB L rs) a' w) (rs.filterMap (ops[·]?)) a → wpAnyH P md ops (Ends T) S (f + rs.length) L a w
  | [], L, a, w, f, _, _, h => h
  | i :: rs, L, a, w, f, hS, hB, h => by
    simp only [takes2B, Bool.and_eq_true] at hB
    obtain ⟨⟨⟨h1, h2⟩, h3⟩, h4⟩ := hB
    have hi : i ∈ Region.ready md ops L := by simpa using h1
    obtain ⟨_, o, ho, _⟩ := mem_ready.1 hi
    rw [List.filterMap_cons, ho] at h
    rw [ho] at h3
    simp only [wpQuiet] at h
    have hstep : ∃ v, YieldsIf P ops S o v a ∧ wpQuiet P ops S (fun a' => wpAnyH P md ops (Ends T) S f (takenB L (i :: rs)) a' w) (rs.filterMap (ops[·]?)) (a.put o.dst v) := by
      by_cases hw : Region.wanted o (yielded ops a.tmps) = true
      · rw [if_pos hw] at h
        obtain ⟨v, hv, hk⟩ := h
        exact ⟨v, yieldsIf_of_quiet2 h3 hw hv, hk⟩
      · rw [if_neg hw] at h
        exact ⟨undef, .inr ⟨by simpa using hw, rfl⟩, h⟩
    obtain ⟨v, hy, hk⟩ := hstep
    exact wpAnyH_take (i := i) ho hns h2 (by simpa using h1) (fun _ _ _ h => h) hy hS (wpAnyH_takes2 hns rs _ _ w f hS h4 hk)
def forcesB (md : Region.Mode) (ops : Array Oper) : Array Bool → List Nat → Bool
  | _, [] => true
  | L, i :: cs => decide (Region.ready md ops L = [i]) && forcesB md ops (L.setIfInBounds i true) cs
theorem wpAnyH_forces {K : Act → World → Prop} {f : Nat} : ∀ (cs : List Nat) (L : Array Bool) (a : Act) (w : World), forcesB md ops L cs = true → S w → wpForce P ops S K (cs.filterMap (ops[·]?)) a w →
    (∀ a w, S w → K a w → wpAnyH P md ops (Ends T) S f (takenB L cs) a w) → wpAnyH P md ops (Ends T) S (f + cs.length) L a w
  | [], _, a, w, _, hS, h, hK => hK a w hS h
  | i :: cs, L, a, w, hB, hS, h, hK => by
    simp only [forcesB, Bool.and_eq_true, decide_eq_true_eq] at hB
    obtain ⟨h1, h2⟩ := hB
    have hi : i ∈ Region.ready md ops L := by rw [h1]; simp
    obtain ⟨_, o, ho, _⟩ := mem_ready.1 hi
    rw [List.filterMap_cons, ho] at h
    refine ⟨fun h0 => by rw [h1] at h0; (exact absurd h0 (by simp)), fun j hj => ?_⟩
    rw [h1, List.mem_singleton] at hj
    subst hj
    simp only [wpForce, wpList] at h
    unfold wpOp
    simp only [ho]
    split
    · rename_i hw
      rw [if_pos hw] at h
      rcases h with h | ⟨_, a1, w1, h1⟩
      case inr => exact (show False from h1).elim
      refine .inl (Oper.wp_ends (fun a' w' h' => ?_) h)
      have h'' : S w' ∧ wpForce P ops S K (cs.filterMap (ops[·]?)) a' w' := h'
      exact ⟨h''.1, wpAnyH_forces cs _ a' w' h2 h''.1 h''.2 hK⟩
    · rename_i hw
      rw [if_neg hw] at h
      have h'' : S w ∧ wpForce P ops S K (cs.filterMap (ops[·]?)) (a.put o.dst undef) w := h
      exact ⟨h''.1, wpAnyH_forces cs _ _ _ h2 h''.1 h''.2 hK⟩
def phB (md : Region.Mode) (ops : Array Oper) : Array Bool → List (List Nat × List Nat) → Bool
  | L, [] => (Region.ready md ops L).isEmpty
  | L, (rs, cs) :: t => takes2B md ops L rs && forcesB md ops (takenB L rs) cs && phB md ops (takenB (takenB L rs) cs) t
def phLen : List (List Nat × List Nat) → Nat
  | [] => 0
  | (rs, cs) :: t => phLen t + cs.length + rs.length
/-- What is owed, phase by phase. -/
def wpPhases (P : Program) (ops : Array Oper) (S : World → Prop) (T : Act → World → Prop) : List (List Nat × List Nat) → Act → World → Prop
  | [], a, w => T a w
  | (rs, cs) :: t, a, w => wpQuiet P ops S (fun a' => wpForce P ops S (wpPhases P ops S T t) (cs.filterMap (ops[·]?)) a' w) (rs.filterMap (ops[·]?)) a
theorem wpAnyH_phases (hns : Region.noSelect ops = true) : ∀ (t : List (List Nat × List Nat)) (L : Array Bool) (a : Act) (w : World), phB md ops L t = true → S w → wpPhases P ops S T t a w → wpAnyH P md ops (Ends T) S (phLen t) L a w
  | [], L, a, w, hB, _, h => ⟨by simpa [phB] using hB, h⟩
  | (rs, cs) :: t, L, a, w, hB, hS, h => by
    simp only [phB, Bool.and_eq_true] at hB
    obtain ⟨⟨h1, h2⟩, h3⟩ := hB
    refine wpAnyH_takes2 hns rs L a w (phLen t + cs.length) hS h1 (wpQuiet_mono (fun a' ha => ?_) _ _ h)
    exact wpAnyH_forces cs _ a' w h2 hS ha (fun a w hS' hk => wpAnyH_phases hns t _ a w h3 hS' hk)
def phasesB (l : List Oper) (n : Nat) (t : List (List Nat × List Nat)) : Bool :=
  Region.sinkB .any l.toArray n && Region.chainB .any l.toArray n && headOk l.toArray n && Region.seqB .any l.toArray (l.drop n).length n ((Array.replicate l.length false).mapIdx fun i _ => decide (i < n)) && decide (n < l.length) &&
    Region.noSelect (l.take n).toArray && phB .any (l.take n).toArray (Array.replicate n false) t && decide (phLen t = n)
/-- Phase by phase. -/
theorem wpAny_phases {l : List Oper} {a : Act} {w : World} (n : Nat) (t : List (List Nat × List Nat)) (S : World → Prop) (hS : S w.drew) (hB : phasesB l n t = true)
    (h : wpPhases P (l.take n).toArray S (fun a w => wpList P l.toArray Q (l.drop n) a w) t a w.drew) :
    wpAny P .any l.toArray Q l.toArray.size (Array.replicate l.toArray.size false) a { w with drawn := w.drawn + 1 } := by
  simp only [phasesB, Bool.and_eq_true, decide_eq_true_eq] at hB
  obtain ⟨⟨⟨⟨⟨⟨⟨b1, b2⟩, b3⟩, b4⟩, b5⟩, b6⟩, b7⟩, b9⟩ := hB
  have hn : n < l.toArray.size := by simpa using b5
  have e : l.toArray.extract 0 n = (l.take n).toArray := by simp
  have hsz : (l.take n).toArray.size = n := by simp; omega
  have inv : HeadInv .any l.toArray n (Array.replicate l.toArray.size false) := ⟨by simp, (fun j oj _ hl => by rw [getD_replicate_false] at hl; cases hl), fun t _ ht => by simp at ht; simp [ht]⟩
  have hu : unl n (Array.replicate l.toArray.size false) = n := by
    unfold unl
    rw [List.countP_eq_length.2 (fun i hi => by
      have h1 := List.mem_range.1 hi
      have h2 : i < l.length := by omega
      simp [h2]), List.length_range]
  have e1 : (Array.replicate l.toArray.size false).extract 0 n = Array.replicate n false := by
    apply Array.ext_getElem?
    intro j
    by_cases hj : j < n
    · rw [ext0 _ hj, Array.getElem?_replicate, Array.getElem?_replicate, if_pos hj, if_pos (by omega)]
    · rw [Array.getElem?_eq_none (by simp; omega), Array.getElem?_eq_none (by simp; omega)]
  have hlen : n + (l.drop n).length = l.toArray.size := by simp; omega
  suffices hg : wpAny P .any l.toArray Q (n + (l.drop n).length) (Array.replicate l.toArray.size false) a { w with drawn := w.drawn + 1 } by rw [hlen] at hg; exact hg
  refine wpAny_of_truncE (T := fun a w => wpList P l.toArray Q (l.drop n) a w) b1 b2 b3 hn (fun L a' w' inv' hu' hT => ?_) n _ a _ inv hu ?_
  · have eL : L = (Array.replicate l.length false).mapIdx fun i _ => decide (i < n) := by
      apply Array.ext (by simp [inv'.size])
      intro i h1 h2
      simp only [Array.getElem_mapIdx]
      by_cases hi : i < n
      · have := unl_zero hu' i hi; simp [h1] at this; simp [hi, this]
      · have := inv'.tail i (by omega) (by rw [← inv'.size]; exact h1); simp [h1] at this; simp [hi, this]
    subst eL
    exact wpAny_of_seq (l.drop n) n _ a' w' (fun j => by simp [List.getElem?_drop]) b4 hT
  · rw [e1, e]
    refine wpAny_of_held (S := S) _ _ _ _ ?_
    suffices hg : wpAnyH P .any (l.take n).toArray (Ends fun a w => wpList P l.toArray Q (l.drop n) a w) S (phLen t) (Array.replicate n false) a { w with drawn := w.drawn + 1 } by rw [b9] at hg; exact hg
    exact wpAnyH_phases b6 t _ a _ b7 hS h
theorem wp_region_phases {id : Nat} {l : List Oper} {a : Act} {w : World} (n : Nat) (t : List (List Nat × List Nat)) (S : World → Prop) (hS : S w.drew) (hm : P.follows .mixedOrders = true) (hB : phasesB l n t = true)
    (h : wpPhases P (l.take n).toArray S (fun a w => wpList P l.toArray Q (l.drop n) a w) t a w.drew) : (Code.region id l.toArray true).wp P Q a w :=
  wp_region_any hm (wpAny_phases n t S hS hB h)
theorem wpIn_region_phases {n id : Nat} {l : List Oper} {a : Act} {w : World} (m : Nat) (t : List (List Nat × List Nat)) (S : World → Prop) (hS : S w.drew) (hm : P.follows .mixedOrders = true) (hB : phasesB l m t = true) (hd : l.all noDefer = true)
    (h : wpPhases P (l.take m).toArray S (fun a w => wpList P l.toArray (Ends fun a w => Q .normal a w) (l.drop m) a w) t a w.drew) : (Code.region id l.toArray true).wpIn (Fence.wide.inRound r) n P Q a w :=
  wpIn_region_of_any hm hd (wpAny_phases m t S hS hB h)
/-- From an end that is normal. -/
theorem wpAny_of_ends (hT : ∀ a w, T a w → Q .normal a w) : ∀ (f : Nat) (L : Array Bool) (a : Act) (w : World), wpAny P md ops (Ends T) f L a w → wpAny P md ops Q f L a w
  | 0, L, a, w, h => ⟨h.1, hT _ _ h.2⟩
  | f + 1, L, a, w, h => ⟨fun h0 => hT _ _ (h.1 h0), fun i hi => by
    have h1 := h.2 i hi
    have step : ∀ a' w', wpAny P md ops (Ends T) f (L.setIfInBounds i true) a' w' → wpAny P md ops Q f (L.setIfInBounds i true) a' w' := fun a' w' h' => wpAny_of_ends hT f _ a' w' h'
    unfold wpOp at h1 ⊢
    cases ho : ops[i]? with
    | none => simp only [ho] at h1 ⊢; exact step _ _ h1
    | some o =>
      simp only [ho] at h1 ⊢
      split
      · rename_i hw
        rw [if_pos hw] at h1
        rcases h1 with h1 | ⟨_, a1, w1, h2⟩
        · exact .inl (Oper.wp_ends step h1)
        · exact (show False from h2).elim
      · rename_i hw
        rw [if_neg hw] at h1
        exact step _ _ h1⟩
def wholeB (l : List Oper) (t : List (List Nat × List Nat)) : Bool := Region.noSelect l.toArray && phB .any l.toArray (Array.replicate l.toArray.size false) t && decide (phLen t = l.toArray.size)
theorem wpAny_whole {l : List Oper} {a : Act} {w : World} (t : List (List Nat × List Nat)) (S : World → Prop) (hS : S w.drew) (hB : wholeB l t = true) (h : wpPhases P l.toArray S T t a w.drew) :
    wpAny P .any l.toArray (Ends T) l.toArray.size (Array.replicate l.toArray.size false) a { w with drawn := w.drawn + 1 } := by
  simp only [wholeB, Bool.and_eq_true, decide_eq_true_eq] at hB
  obtain ⟨⟨b1, b2⟩, b3⟩ := hB
  refine wpAny_of_held (S := S) _ _ _ _ ?_
  rw [← b3]
  exact wpAnyH_phases b1 t _ a _ (by rw [b3]; exact b2) hS h
/-- A region that comes in phases as a whole. -/
theorem wp_region_whole {id : Nat} {l : List Oper} {a : Act} {w : World} (t : List (List Nat × List Nat)) (S : World → Prop) (hS : S w.drew) (hm : P.follows .mixedOrders = true) (hB : wholeB l t = true)
    (h : wpPhases P l.toArray S (fun a w => Q .normal a w) t a w.drew) : (Code.region id l.toArray true).wp P Q a w :=
  wp_region_any hm (wpAny_of_ends (fun _ _ h => h) _ _ _ _ (wpAny_whole t S hS hB h))
theorem wpIn_region_whole {n id : Nat} {l : List Oper} {a : Act} {w : World} (t : List (List Nat × List Nat)) (S : World → Prop) (hS : S w.drew) (hm : P.follows .mixedOrders = true) (hB : wholeB l t = true) (hd : l.all noDefer = true)
    (h : wpPhases P l.toArray S (fun a w => Q .normal a w) t a w.drew) : (Code.region id l.toArray true).wpIn (Fence.wide.inRound r) n P Q a w :=
  wpIn_region_of_any hm hd (wpAny_whole t S hS hB h)
end
end Go.Proofs.Ytlkdmcdnkoiflaa

/- whole; what the law's Run of a plan and a truth tells; nothing is lost. -/
namespace Go.Proofs.Ytlkdmcdnkoiflaa
open Go.RowKit Go.Lib

theorem whole_any (A1 A2 A3 A4 : Option Addr) (n c1 c2 c3 c4 : Nat) (w : World) : Calls Try.prog 54 #[.agg #[.slice A1 n c1, .slice A2 n c2, .slice A3 n c3, .slice A4 n c4], .int .i64 n] w fun e w' => e = .returned (.bool true) ∧ Below w.heap.size w w' := by
  go_enter Try.func54, Try.ntmps54
  go_wp2
  go_ret
  exact ⟨rfl, (by repeat (first | (with_reducible assumption) | (with_reducible exact Below.refl _ _) | (with_reducible refine Below.drew ?_) | (with_reducible refine below_drewN ?_ _) | ((with_reducible refine Below.setCell ?_ ?_ _); rotate_left; focus (first | (simp; done) | (simp; omega) | omega)) | ((with_reducible refine Below.alloc ?_ ?_ _); rotate_left; focus (first | (simp; done) | (simp; omega) | omega))))⟩
theorem Run_law (q : PlM) (u : TrM) (d : PD) (T : TD) (Y : Nat) (W : World) (hd : q.d = d) (hT : u.d = T) (hq : q.At W W.heap.size) (hu : u.At W W.heap.size) (hf : q.fault = 0) (hfit : fitD d T = true) (hY : q.years = (Y : Int)) :
    Calls Try.prog 22 #[.agg q.cells.toArray, .agg u.cells.toArray] W (RetR (fun k => toldL d.s.length (yrT d T k)) Y W) := by
  subst hd hT
  have h1 : u.fitB q = true := by rw [fit_d]; exact hfit
  have hpt := pt_of_fit (fault_zero hf) h1
  have h2 := Run_ok q u Y W hq hu hf h1 hpt (by have := hpt.years; omega)
  have e : (fun k => toldL q.s.l.length (yrK q u (pad5 u.s.l) k)) = fun k => toldL q.d.s.length (yrT q.d u.d k) := by
    funext k
    rw [yrK_T]; rfl
  rw [e] at h2
  exact h2
/-- The numbers of one size in one year. -/
structure Kept (se ro ke a b c d : Int) : Prop where
  a0 : 0 ≤ a
  a1 : a ≤ 30000000
  b0 : 0 ≤ b
  b1 : b ≤ a
  c0 : 0 ≤ c
  d0 : 0 ≤ d
  c1 : c ≤ a - b
  es : b ≤ se
  er : d ≤ ro
  et : 0 ≤ a - b - c - d
  tr : 0 < a - b - c - d → ro ≤ d
  bk : 0 < b → ke ≤ a - b
theorem kept_at {p : PlM} {u : TrM} (hv : p.Valid) (hpt : PT p u) {k i : Nat} (hk : k < u.g.l.length) (hi : i < p.s.l.length) :
    ∃ a b c d : Int, (toldL p.d.s.length (yrT p.d u.d k)).1[i]? = some a ∧ (toldL p.d.s.length (yrT p.d u.d k)).2.1[i]? = some b ∧ (toldL p.d.s.length (yrT p.d u.d k)).2.2.1[i]? = some c ∧ (toldL p.d.s.length (yrT p.d u.d k)).2.2.2[i]? = some d ∧
      Kept (p.e.l.getD i 0) (p.r.l.getD i 0) (p.k.l.getD i 0) a b c d := by
  have hn5 := hv.ok.n
  have hsm := yrK_small hpt (start_five hpt) hk
  rw [yrK_T] at hsm
  have ht := told_at (d := p.d) (t := u.d) (k := k) (i := i) hi hn5
  have hy := yearD_at p.d (u.d.g.getD k []) (u.d.l.getD k 0) (plD p.d (fun k => u.d.g.getD k []) (fun k => u.d.l.getD k 0) (pad5 u.d.s) k) hi hn5
  have hyr : yrT p.d u.d k = yearD p.d (u.d.g.getD k []) (u.d.l.getD k 0) (plD p.d (fun k => u.d.g.getD k []) (fun k => u.d.l.getD k 0) (pad5 u.d.s) k) := rfl
  rw [← hyr] at hy
  have s1 := hsm.lo i (by omega)
  have s2 := hsm.hi i (by omega)
  have s3 := hsm.lo (5 + i) (by omega)
  have s4 := hsm.le i (by omega)
  have s5 := hsm.lo (15 + i) (by omega)
  rw [hy.1] at s1 s2 s4
  rw [hy.2.1] at s3 s4
  rw [hy.2.2.2] at s5
  have hl : 0 ≤ u.d.l.getD k 0 ∧ u.d.l.getD k 0 ≤ 1000 := by
    have hm : u.l.l.getD k 0 ∈ u.l.l := getD_mem (by rw [hpt.fit.l]; exact hk)
    exact hpt.fit.lb _ hm
  have he := hv.ok.eb _ (getD_mem (l := p.e.l) (i := i) (by rw [hv.ok.e]; exact hi))
  have hkb := hv.ok.kb _ (getD_mem (l := p.k.l) (i := i) (by rw [hv.ok.k]; exact hi))
  have hr := hv.ok.rb _ (getD_mem (l := p.r.l) (i := i) (by rw [hv.ok.r]; exact hi))
  refine ⟨_, _, _, _, ht.1, ht.2.1, ht.2.2.1, ht.2.2.2, ?_⟩
  generalize plD p.d (fun k => u.d.g.getD k []) (fun k => u.d.l.getD k 0) (pad5 u.d.s) k = pl at *
  generalize u.d.g.getD k [] = gr at *
  generalize u.d.l.getD k 0 = loss at *
  have eb : solD p.d gr pl i = min (p.e.l.getD i 0) (max 0 (lifD p.d gr pl i - p.k.l.getD i 0)) := rfl
  have ec : losD p.d gr loss pl i = (lifD p.d gr pl i - solD p.d gr pl i) * loss / 1000 := rfl
  have ed : plaD p.d gr loss pl i = min (lifD p.d gr pl i - solD p.d gr pl i - losD p.d gr loss pl i) (p.r.l.getD i 0) := rfl
  generalize plaD p.d gr loss pl i = d at *
  generalize losD p.d gr loss pl i = c at *
  generalize solD p.d gr pl i = b at *
  generalize lifD p.d gr pl i = a at *
  have m1 : 0 ≤ (a - b) * loss := Int.mul_nonneg (by omega) hl.1
  have m2 : (a - b) * loss ≤ (a - b) * 1000 := Int.mul_le_mul_of_nonneg_left hl.2 (by omega)
  have c0 : 0 ≤ c := by rw [ec]; omega
  have c1 : c ≤ a - b := by rw [ec]; omega
  clear ec m1 m2 hy ht hsm hyr
  exact ⟨by omega, by omega, by omega, by omega, c0, by omega, c1, by omega, by omega, by omega, by omega, by omega⟩
end Go.Proofs.Ytlkdmcdnkoiflaa

/- Words that came in, opened. -/
namespace Go.Proofs.Ytlkdmcdnkoiflaa
open Go.RowKit Go.Lib

section
variable {H : Type} {enc : TypeId × Value → H} {w : World} {fuel : Nat} {cs : List Value} {x : DataW H × List MemPlace}
theorem cW : Try.prog.cellsOf 107 = 1 := by kernel_rfl
theorem open_word (h : DataW.trod enc Try.prog w 0 (fun _ => true) true fuel 107 cs = some x) : ∃ y : Nat, cs = encW y ∧ y < 65536 := by
  obtain ⟨n, e, hw⟩ := open_num Try.underlying107 h
  have hb := bounds_u16 hw
  exact ⟨n.toNat, by rw [e]; simp; omega, by omega⟩
theorem open_words (h : DataW.trod enc Try.prog w 0 (fun _ => true) true fuel 94 cs = some x) : ∃ s : Sv Nat, cs = encV s ∧ ((∀ x, x ∈ s.l → x < 65536) ∧ s.l.length ≤ 9223372036854775807) ∧ Sl w w.heap.size 1 encW s.A s.l := by
  obtain ⟨A, l, c, e, _, hs, hq, hm⟩ := open_sl (en := encW) (Q := fun y => y < 65536) (by decide) Try.underlying94 cW (fun _ _ _ h => open_word h) h
  exact ⟨⟨A, l, c⟩, e, ⟨hq, hm⟩, hs⟩
end
end Go.Proofs.Ytlkdmcdnkoiflaa
