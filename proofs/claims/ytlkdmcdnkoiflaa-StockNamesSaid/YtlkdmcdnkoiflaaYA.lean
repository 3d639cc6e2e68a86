/- StockKept. -/
import Derived.Test.YtlkdmcdnkoiflaaGH
import Derived.Test.YtlkdmcdnkoiflaaGF
namespace Go.Proofs.Ytlkdmcdnkoiflaa
open Go.RowKit Go.Lib

end Go.Proofs.Ytlkdmcdnkoiflaa

namespace Go.Proofs.Ytlkdmcdnkoiflaa
open Go.RowKit Go.Lib

/-- An end of a range. -/
def endF (b : Bool) (r : Int × Int) : Int := if b then r.2 else r.1
/-- The truth at the ends. -/
def endsD (d : PD) (Y : Nat) (hg : Bool) (year : Int) : TD :=
  mkT d.s.length Y (fun s => endF hg (d.s.getD s (0, 0))) (fun _ s k => endF hg ((d.g.getD s []).getD k (0, 0))) (fun y => endF (hg != decide ((y : Int) < year)) (d.lo, d.hi))
end Go.Proofs.Ytlkdmcdnkoiflaa

namespace Go.Proofs.Ytlkdmcdnkoiflaa
open Go.RowKit Go.Lib

/-- A variable: the operation that makes it, its slot, its type, its first cells. -/
structure Fl where
  fi : Nat
  f : Nat
  t : TypeId
  z : Array Value
/-- All the slots, set. -/
def putF (a : Act) (fs : List Nat) (val : Nat → Value) : Act := fs.foldl (fun a f => a.put (some f) (val f)) a
theorem putF_cons (a : Act) (f : Nat) (fs : List Nat) (val : Nat → Value) : putF a (f :: fs) val = putF (a.put (some f) (val f)) fs val := rfl
theorem putF_self (a : Act) : ∀ fs : List Nat, putF a fs (fun f => a.tmps.getD f undef) = a
  | [] => rfl
  | f :: fs => by rw [putF_cons, put_self]; exact putF_self a fs
theorem put_put {a : Act} {f : Nat} {u v : Value} : (a.put (some f) u).put (some f) v = a.put (some f) v := by simp [Act.put]
theorem put_comm {a : Act} {f g : Nat} {u v : Value} (h : f ≠ g) : (a.put (some f) u).put (some g) v = (a.put (some g) v).put (some f) u := by
  simp only [Act.put]
  congr 1
  apply Array.ext_getElem?
  intro i
  simp only [Array.getElem?_setIfInBounds, Array.size_setIfInBounds]
  by_cases h1 : g = i <;> by_cases h2 : f = i <;> simp_all
theorem putF_put {f : Nat} {u : Value} (val : Nat → Value) : ∀ (fs : List Nat) (a : Act), f ∈ fs → putF (a.put (some f) u) fs val = putF a fs val
  | g :: fs, a, h => by
    rw [putF_cons, putF_cons]
    by_cases e : f = g
    · subst e; rw [put_put]
    · rw [put_comm e]
      exact putF_put val fs _ (by rcases List.mem_cons.1 h with h | h; exact absurd h e; exact h)
section
variable {P : Program} {ops : Array Oper} {md : Region.Mode} {S : World → Prop} {Q : Exit → Act → World → Prop} {T : Act → World → Prop} {r : Nat}
/-- A chain of operations, between any two of which the slots fs may turn, and memory may grow. -/
def wpFloats (P : Program) (ops : Array Oper) (fs : List Nat) (T : Act → World → Prop) : List Oper → Act → World → Prop
  | [], a, w => T a w
  | o :: cs, a, w => wpList P ops (Ends fun a' w' => Below w.heap.size w w' ∧ ∀ val w'', Below w'.heap.size w' w'' → wpFloats P ops fs T cs (putF a' fs val) w'') [o] a w
/-- What is asked at the end: the variables lie in blocks of their own. -/
def AtGs (fls : List Fl) (B : Nat) (T : Act → World → Prop) (a : Act) (w : World) : Prop :=
  ∀ (G : Nat → Nat) (w'' : World), Below w.heap.size w w'' → (∀ fl, fl ∈ fls → B ≤ G fl.f ∧ Lies w'' (G fl.f) fl.t fl.z) → (∀ fl fl', fl ∈ fls → fl' ∈ fls → fl.f ≠ fl'.f → G fl.f ≠ G fl'.f) →
    T (putF a (fls.map (·.f)) fun f => .pointer (some ⟨G f, 0, none⟩)) w''
def floatsB (md : Region.Mode) (ops : Array Oper) : Nat → Array Bool → List Nat → List Fl → Bool
  | 0, L, cs, pend => cs.isEmpty && pend.isEmpty && (Region.ready md ops L).isEmpty
  | n + 1, L, cs, pend => !(Region.ready md ops L).isEmpty && (Region.ready md ops L).all (fun j => cs.head? == some j || pend.any fun fl => fl.fi == j) &&
      (match cs with | [] => true | i :: cs => floatsB md ops n (L.setIfInBounds i true) cs pend) && pend.all fun fl => floatsB md ops n (L.setIfInBounds fl.fi true) cs (pend.filter fun q => q.fi != fl.fi)
/-- The variable is made. -/
def MadeF (a : Act) (w : World) (B : Nat) (G : Nat → Nat) (fl : Fl) : Prop := a.tmps.getD fl.f undef = .pointer (some ⟨G fl.f, 0, none⟩) ∧ B ≤ G fl.f ∧ Lies w (G fl.f) fl.t fl.z
theorem wpAnyH_floats {fls : List Fl} {B : Nat} (hS : ∀ w w', S w → Below w.heap.size w w' → S w') (hSB : ∀ w, S w → B ≤ w.heap.size)
    (hop : ∀ fl, fl ∈ fls → ∃ og, ops[fl.fi]? = some og ∧ og.dst = some fl.f ∧ og.guard = none ∧ og.op = .alloc fl.t) (hal : ∀ fl, fl ∈ fls → ∀ w, (Instr.alloc fl.t true (.tuple #[])).run P w = .ok (.pointer (some ⟨w.heap.size, 0, none⟩)) (w.alloc (.cells fl.z fl.t)))
    (hnd : ∀ fl fl', fl ∈ fls → fl' ∈ fls → fl.f = fl'.f → fl = fl') :
    ∀ (n : Nat) (cs : List Nat) (pend done : List Fl) (L : Array Bool) (a : Act) (w : World) (G : Nat → Nat), floatsB md ops n L cs pend = true → S w → (∀ i o fl, i ∈ cs → ops[i]? = some o → fl ∈ fls → o.dst ≠ some fl.f) → (∀ fl, fl ∈ fls → fl.f < a.tmps.size) →
      (∀ fl, fl ∈ pend → fl ∈ fls) → (∀ fl, fl ∈ done → fl ∈ fls ∧ MadeF a w B G fl) → (∀ fl, fl ∈ fls → fl ∈ pend ∨ fl ∈ done) → (∀ fl fl', fl ∈ done → fl' ∈ done → fl.f ≠ fl'.f → G fl.f ≠ G fl'.f) →
      (∀ val w'', Below w.heap.size w w'' → wpFloats P ops (fls.map (·.f)) (AtGs fls B T) (cs.filterMap (ops[·]?)) (putF a (fls.map (·.f)) val) w'') → wpAnyH P md ops (Ends T) S n L a w := by
  intro n
  induction n with
  | zero =>
    intro cs pend done L a w G hb hs hd hsz hp hdn hm hdis h
    simp only [floatsB, Bool.and_eq_true, List.isEmpty_iff] at hb
    obtain ⟨⟨h1, h2⟩, h3⟩ := hb
    subst h1 h2
    refine ⟨h3, ?_⟩
    have h4 := h (fun f => a.tmps.getD f undef) w (Below.refl _ _)
    rw [putF_self] at h4
    have hin : ∀ fl, fl ∈ fls → fl ∈ done := fun fl hfl => by
      rcases hm fl hfl with h | h
      · cases h
      · exact h
    have h5 := h4 G w (Below.refl _ _) (fun fl hfl => (hdn fl (hin fl hfl)).2.2) (fun fl fl' h1 h2 => hdis fl fl' (hin fl h1) (hin fl' h2))
    have e : putF a (fls.map (·.f)) (fun f => .pointer (some ⟨G f, 0, none⟩)) = a := by
      have key : ∀ l : List Fl, (∀ fl, fl ∈ l → fl ∈ fls) → putF a (l.map (·.f)) (fun f => .pointer (some ⟨G f, 0, none⟩)) = a := by
        intro l
        induction l with
        | nil => intro _; rfl
        | cons fl l ih =>
          intro hl
          rw [List.map_cons, putF_cons, ← (hdn fl (hin fl (hl fl (by simp)))).2.1, put_self]
          exact ih fun q hq => hl q (List.mem_cons_of_mem _ hq)
      exact key fls fun _ h => h
    rw [e] at h5
    exact h5
  | succ n ih =>
    intro cs pend done L a w G hb hs hd hsz hp hdn hm hdis h
    simp only [floatsB, Bool.and_eq_true] at hb
    obtain ⟨⟨⟨h0, h1⟩, h2⟩, h3⟩ := hb
    refine ⟨fun e => (by rw [e] at h0; cases h0), fun j hj => ?_⟩
    have hj2 := List.all_eq_true.1 h1 j hj
    simp only [Bool.or_eq_true, beq_iff_eq] at hj2
    rcases hj2 with hj2 | hj2
    · cases cs with
      | nil => cases hj2
      | cons i cs =>
        obtain rfl : i = j := by simpa using hj2
        obtain ⟨_, o, ho, _⟩ := mem_ready.1 hj
        have h' := h (fun f => a.tmps.getD f undef) w (Below.refl _ _)
        rw [putF_self, List.filterMap_cons, ho] at h'
        have h4 := wpList_one (show wpList P ops (Ends fun a' w' => Below w.heap.size w w' ∧ ∀ val w'', Below w'.heap.size w' w'' → wpFloats P ops (fls.map (·.f)) (AtGs fls B T) (cs.filterMap (ops[·]?)) (putF a' (fls.map (·.f)) val) w'') [o] a w from h')
        have step : ∀ (a' : Act) (w' : World) (v : Value), a'.tmps = (a.put o.dst v).tmps → (Below w.heap.size w w' ∧ ∀ val w'', Below w'.heap.size w' w'' → wpFloats P ops (fls.map (·.f)) (AtGs fls B T) (cs.filterMap (ops[·]?)) (putF a' (fls.map (·.f)) val) w'') →
            S w' ∧ wpAnyH P md ops (Ends T) S n (L.setIfInBounds i true) a' w' := by
          intro a' w' v he ⟨hbw, hk⟩
          have hget : ∀ fl, fl ∈ fls → a'.tmps.getD fl.f undef = a.tmps.getD fl.f undef := fun fl hfl => by
            rw [he]
            cases hd2 : o.dst with
            | none => rfl
            | some d =>
              have : d ≠ fl.f := fun e => hd i o fl (by simp) ho hfl (by rw [hd2, e])
              simp [Act.put, this]
          refine ⟨hS _ _ hs hbw, ih cs pend done _ a' w' G h2 (hS _ _ hs hbw) (fun i o fl hi ho hfl => hd i o fl (List.mem_cons_of_mem _ hi) ho hfl) (fun fl hfl => ?_) hp (fun fl hfl => ?_) hm hdis hk⟩
          · rw [he]
            cases o.dst <;> simpa [Act.put] using hsz fl hfl
          · obtain ⟨e1, e2⟩ := hdn fl hfl
            exact ⟨e1, by rw [hget fl e1]; exact e2.1, e2.2.1, e2.2.2.call hbw⟩
        unfold wpOp
        simp only [ho]
        split
        · rename_i hw
          rw [if_pos hw] at h4
          exact .inl (Oper.wp_ends (fun a' w' h' => step a' w' _ h'.2.choose_spec h'.1) (Oper.wp_put h4))
        · rename_i hw
          rw [if_neg hw] at h4
          exact step _ _ undef rfl h4
    · obtain ⟨fl, hfl, hfj⟩ := List.any_eq_true.1 hj2
      have hfj : fl.fi = j := by simpa using hfj
      have hflm := hp fl hfl
      obtain ⟨og, g1, g2, g3, g4⟩ := hop fl hflm
      have hbw : Below w.heap.size w (w.alloc (.cells fl.z fl.t)) := (Below.refl _ _).alloc (Nat.le_refl _) _
      have h3' := List.all_eq_true.1 h3 fl hfl
      subst hfj
      unfold wpOp
      simp only [g1]
      rw [if_pos (by simp [Region.wanted, g3])]
      refine .inl ?_
      unfold Oper.wp execOp
      simp only [g4, Sem.run_bind, hal fl hflm w, Result.andThen, Sem.run_pure, Oper.upon, g2]
      have hsf := hsz fl hflm
      refine ⟨hS _ _ hs hbw, ih cs _ (fl :: done) _ _ _ (fun f => if f = fl.f then w.heap.size else G f) h3' (hS _ _ hs hbw) hd (fun q hq => by simpa [Act.put] using hsz q hq) (fun q hq => hp q (List.mem_filter.1 hq).1) (fun q hq => ?_) (fun q hq => ?_) (fun q q' hq hq' hne => ?_) (fun val w'' hb'' => ?_)⟩
      · by_cases e : q.f = fl.f
        · have hqm : q ∈ fls := by
            rcases List.mem_cons.1 hq with rfl | hq
            · exact hflm
            · exact (hdn q hq).1
          obtain rfl := hnd q fl hqm hflm e
          exact ⟨hqm, by simp [Act.put, hsf], by simp; exact hSB w hs, by simp; exact Lies.fresh w q.t q.z⟩
        · rcases List.mem_cons.1 hq with rfl | hq
          · exact absurd rfl e
          · obtain ⟨e1, e2⟩ := hdn q hq
            have e' : fl.f ≠ q.f := fun h => e h.symm
            refine ⟨e1, ?_, by simp only [if_neg e]; exact e2.2.1, by simp only [if_neg e]; exact e2.2.2.call hbw⟩
            simp only [if_neg e]
            rw [← e2.1]
            simp [Act.put, e']
      · rcases hm q hq with h | h
        · by_cases e : q.fi = fl.fi
          · right
            obtain ⟨og', k1, k2, _, _⟩ := hop q hq
            rw [e, g1] at k1
            cases k1
            have : q.f = fl.f := by rw [g2] at k2; exact (Option.some.inj k2).symm
            rw [hnd q fl hq hflm this]
            simp
          · left
            exact List.mem_filter.2 ⟨h, by simpa using e⟩
        · exact .inr (List.mem_cons_of_mem _ h)
      · have hlt : ∀ q, q ∈ done → q.f ≠ fl.f → G q.f < w.heap.size := fun q hq _ => (hdn q hq).2.2.2.in_
        by_cases e : q.f = fl.f
        · have e' : q'.f ≠ fl.f := fun h => hne (e.trans h.symm)
          rw [if_pos e, if_neg e']
          rcases List.mem_cons.1 hq' with rfl | hq'
          · exact absurd rfl e'
          · have := hlt q' hq' e'; omega
        · rw [if_neg e]
          by_cases e' : q'.f = fl.f
          · rw [if_pos e']
            rcases List.mem_cons.1 hq with rfl | hq
            · exact absurd rfl e
            · have := hlt q hq e; omega
          · rw [if_neg e']
            rcases List.mem_cons.1 hq with rfl | hq
            · exact absurd rfl e
            · rcases List.mem_cons.1 hq' with rfl | hq'
              · exact absurd rfl e'
              · exact hdis q q' hq hq' hne
      · rw [putF_put val _ a (List.mem_map.2 ⟨fl, hflm, rfl⟩)]
        exact h val w'' (hbw.trans (hb''.mono hbw.size))
def manyB (l : List Oper) (n : Nat) (rs cs : List Nat) (fls : List Fl) : Bool :=
  Region.sinkB .any l.toArray n && Region.chainB .any l.toArray n && headOk l.toArray n && Region.seqB .any l.toArray (l.drop n).length n ((Array.replicate l.length false).mapIdx fun i _ => decide (i < n)) && decide (n < l.length) &&
    Region.noSelect (l.take n).toArray && takesB .any (l.take n).toArray (Array.replicate n false) rs && floatsB .any (l.take n).toArray (n - rs.length) (takenB (Array.replicate n false) rs) cs fls && decide (rs.length ≤ n) &&
    cs.all (fun i => match (l.take n)[i]? with | some o => fls.all fun fl => o.dst != some fl.f | none => true) && fls.all fun fl => match (l.take n)[fl.fi]? with | some o => decide (o.dst = some fl.f) && o.guard.isNone && (match o.op with | .alloc t' => t' == fl.t | _ => false) | none => false
/-- THE LAW. -/
theorem wp_region_many {id : Nat} {l : List Oper} {a : Act} {w : World} (n : Nat) (rs cs : List Nat) (fls : List Fl) (hm : P.follows .mixedOrders = true) (hB : manyB l n rs cs fls = true)
    (hal : ∀ fl, fl ∈ fls → ∀ w, (Instr.alloc fl.t true (.tuple #[])).run P w = .ok (.pointer (some ⟨w.heap.size, 0, none⟩)) (w.alloc (.cells fl.z fl.t))) (hnd : ∀ fl fl', fl ∈ fls → fl' ∈ fls → fl.f = fl'.f → fl = fl')
    (h : wpQuiet P (l.take n).toArray (fun w' => ∃ p : Regrown, w' = Go.Sort.grow (redrawn w p.d) p.os) (fun a' => (∀ fl, fl ∈ fls → fl.f < a'.tmps.size) ∧ ∀ val w', Below w.heap.size w w' → wpFloats P (l.take n).toArray (fls.map (·.f)) (AtGs fls w.heap.size fun a w => wpList P l.toArray Q (l.drop n) a w) (cs.filterMap ((l.take n).toArray[·]?)) (putF a' (fls.map (·.f)) val) w') (rs.filterMap ((l.take n).toArray[·]?)) a) :
    (Code.region id l.toArray true).wp P Q a w := by
  simp only [manyB, Bool.and_eq_true, decide_eq_true_eq] at hB
  obtain ⟨⟨⟨⟨⟨⟨⟨⟨⟨⟨b1, b2⟩, b3⟩, b4⟩, b5⟩, b6⟩, b7⟩, b8⟩, b9⟩, b10⟩, b11⟩ := hB
  have hn : n < l.toArray.size := by simpa using b5
  have e : l.toArray.extract 0 n = (l.take n).toArray := by simp
  have hsz : (l.take n).toArray.size = n := by simp; omega
  refine wp_region_any hm ?_
  have inv : HeadInv .any l.toArray n (Array.replicate l.toArray.size false) := ⟨by simp, (fun j oj _ hl => by rw [getD_replicate_false] at hl; cases hl), fun t _ ht => by simp at ht; simp [ht]⟩
  have hu : unl n (Array.replicate l.toArray.size false) = n := by
    unfold unl
    rw [List.countP_eq_length.2 (fun i hi => by
      have h1 := List.mem_range.1 hi
      have h2 : i < l.length := by omega
      simp [h2]), List.length_range]
  have e1 : (Array.replicate l.toArray.size false).extract 0 n = Array.replicate n false := by
    apply Array.ext_getElem?
    intro j
    by_cases hj : j < n
    · rw [ext0 _ hj, Array.getElem?_replicate, Array.getElem?_replicate, if_pos hj, if_pos (by omega)]
    · rw [Array.getElem?_eq_none (by simp; omega), Array.getElem?_eq_none (by simp; omega)]
  have hbd : Below w.heap.size w { w with drawn := w.drawn + 1 } := (Below.refl w.heap.size w).drew
  have hlen : n + (l.drop n).length = l.toArray.size := by simp; omega
  suffices hg : wpAny P .any l.toArray Q (n + (l.drop n).length) (Array.replicate l.toArray.size false) a { w with drawn := w.drawn + 1 } by rw [hlen] at hg; exact hg
  refine wpAny_of_truncE (T := fun a w => wpList P l.toArray Q (l.drop n) a w) b1 b2 b3 hn (fun L a' w' inv' hu' hT => ?_) n _ a _ inv hu ?_
  · have eL : L = (Array.replicate l.length false).mapIdx fun i _ => decide (i < n) := by
      apply Array.ext (by simp [inv'.size])
      intro i h1 h2
      simp only [Array.getElem_mapIdx]
      by_cases hi : i < n
      · have := unl_zero hu' i hi; simp [h1] at this; simp [hi, this]
      · have := inv'.tail i (by omega) (by rw [← inv'.size]; exact h1); simp [h1] at this; simp [hi, this]
    subst eL
    exact wpAny_of_seq (l.drop n) n _ a' w' (fun j => by simp [List.getElem?_drop]) b4 hT
  · rw [e1, e]
    refine wpAny_of_held (S := fun w' => ∃ p : Regrown, w' = Go.Sort.grow (redrawn w p.d) p.os) _ _ _ _ ?_
    suffices hg : wpAnyH P .any (l.take n).toArray (Ends fun a w => wpList P l.toArray Q (l.drop n) a w) (fun w' => ∃ p : Regrown, w' = Go.Sort.grow (redrawn w p.d) p.os) ((n - rs.length) + rs.length) (Array.replicate n false) a { w with drawn := w.drawn + 1 } by rw [Nat.sub_add_cancel b9] at hg; exact hg
    refine wpAnyH_takes b6 rs _ a _ (n - rs.length) ⟨⟨w.drawn + 1, #[]⟩, by rw [Go.Sort.grow_empty]; rfl⟩ b7 ?_
    refine wpQuiet_mono (fun a' ha => ?_) _ _ h
    refine wpAnyH_floats (B := w.heap.size) (fls := fls) (fun w1 w2 h1 h2 => ?_) (fun w1 h1 => ?_) (fun fl hfl => ?_) hal hnd _ cs fls [] _ a' _ (fun _ => 0) b8 ⟨⟨w.drawn + 1, #[]⟩, by rw [Go.Sort.grow_empty]; rfl⟩ (fun i o fl hi ho2 hfl => ?_) ha.1 (fun _ h => h) (fun fl h => by cases h) (fun _ h => .inl h) (fun fl fl' h => by cases h) (fun val w'' hb => ha.2 val w'' (hbd.trans (hb.mono (Nat.le_refl _))))
    · obtain ⟨p, rfl⟩ := h1
      have hb1 := below_regrown w p.d p.os
      exact regrown_of_below (hb1.trans (h2.mono hb1.size))
    · obtain ⟨p, rfl⟩ := h1
      exact (below_regrown w p.d p.os).size
    · have h1 := List.all_eq_true.1 b11 fl hfl
      cases ho : (l.take n)[fl.fi]? with
      | none => rw [ho] at h1; cases h1
      | some og =>
        rw [ho] at h1
        simp only [Bool.and_eq_true, decide_eq_true_eq] at h1
        refine ⟨og, by simpa using ho, h1.1.1, by simpa using h1.1.2, ?_⟩
        have h3 := h1.2
        split at h3
        · rename_i t' hq; rw [hq]; congr 1; simpa using h3
        · cases h3
    · have h1 := List.all_eq_true.1 b10 i hi
      rw [show (l.take n)[i]? = some o by simpa using ho2] at h1
      have h2 := List.all_eq_true.1 h1 fl hfl
      simpa using h2
end
end Go.Proofs.Ytlkdmcdnkoiflaa

namespace Go.Proofs.Ytlkdmcdnkoiflaa
open Go.RowKit Go.Lib

/-- What is sold of a size up to each year, at one end. -/
def soldE (d : PD) (hi : Bool) (size k : Nat) : Int :=
  match hi with
  | true => soldUpD d (fun _ => growF d (·.2)) (fun _ => d.lo) (pad5 (d.s.map (·.2))) size k
  | false => soldUpD d (fun _ => growF d (·.1)) (fun _ => d.hi) (pad5 (d.s.map (·.1))) size k
/-- The first of Y years up to which so many are sold, or -1. -/
def ReachP (f : Nat → Int) (Y : Nat) (number r : Int) : Prop := (r = -1 ∧ ∀ j, j < Y → f (j + 1) < number) ∨ ∃ k : Nat, k < Y ∧ r = k ∧ number ≤ f (k + 1) ∧ ∀ j, j < k → f (j + 1) < number
theorem reachL_spec (p : PlM) (t : TrM) (pl : List Int) (size : Nat) (number : Int) (Y : Nat) (f : Nat → Int) (hf : ∀ k, k ≤ Y → soldUp p t pl size k = f k) : ReachP f Y number (reachL p t pl size number Y) := by
  unfold reachL
  cases h : (List.range Y).find? (fun k => decide (number ≤ soldUp p t pl size (k + 1))) with
  | none =>
    refine .inl ⟨rfl, fun j hj => ?_⟩
    have := List.find?_eq_none.1 h j (List.mem_range.2 hj)
    rw [hf _ (by omega)] at this
    simpa using this
  | some k =>
    obtain ⟨h1, i, hi, h2, h3⟩ := List.find?_eq_some_iff_getElem.1 h
    simp only [List.length_range] at hi
    simp only [List.getElem_range] at h2
    subst h2
    refine .inr ⟨i, hi, rfl, ?_, fun j hj => ?_⟩
    · rw [← hf _ (by omega)]; simpa using h1
    · have := h3 j hj
      simp only [List.getElem_range] at this
      rw [hf _ (by omega)] at this
      simpa using this
theorem soldUp_endsK {p : PlM} {t : TrM} {fb fc : Int × Int → Int} {Y : Nat} (e2 : t.g.l.length = Y) (e3 : ∀ y, y ∈ t.g.l → y.l.map (·.l) = p.g.l.map fun x => x.l.map fb) (e4 : t.l.l = List.replicate Y (fc (p.lo, p.hi))) (pl : List Int) (size : Nat) {k : Nat} (hk : k ≤ Y) :
    soldUp p t pl size k = soldUpD p.d (fun _ => growF p.d fb) (fun _ => fc (p.d.lo, p.d.hi)) pl size k := by
  rw [soldUp_d]
  exact soldUpD_congr rfl rfl rfl rfl k fun j hj => ends_gr e2 e3 e4 (by omega)
def RetRe (d : PD) (Y size : Nat) (number : Int) (w : World) (e : Ending) (w' : World) : Prop :=
  ∃ a b : Int, e = .returned (.tuple #[.int .i64 a, .int .i64 b, .int .i64 0]) ∧ ReachP (soldE d true size) Y number a ∧ ReachP (soldE d false size) Y number b ∧ Below w.heap.size w w'
set_option maxRecDepth 100000 in
set_option maxHeartbeats 4000000 in
theorem Reach_ok (p : PlM) (Y size : Nat) (number : Int) (w : World) (hp : p.At w w.heap.size) (hY : p.years = (Y : Int)) (hq : askedL p number [(size : Int)] = 0) :
    Calls Try.prog 31 #[.agg p.cells.toArray, .int .i64 size, .int .i64 number] w (RetRe p.d Y size number w) := by
  obtain ⟨hv, hsz, hnb⟩ := asked_zero hq
  have hn5 := hv.ok.n
  have hss : size < p.s.l.length := by have := hsz size (by simp); omega
  have hY6 : Y ≤ 6 := by have := hv.y; omega
  have l0 : Lies (w.alloc (.cells p.cells.toArray 41)) w.heap.size 41 p.cells.toArray := Lies.fresh _ _ _
  have b0 : Below w.heap.size w (w.alloc (.cells p.cells.toArray 41)) := (Below.refl _ _).alloc (Nat.le_refl _) _
  have hA : ∀ W, Below w.heap.size w W → Sl W W.heap.size 1 (fun x => [Value.int .i64 x]) (some ⟨w.heap.size + 1, 0, none⟩) [(size : Int)] → Calls Try.prog 69 #[.agg p.cells.toArray, .int .i64 number, .slice (some ⟨w.heap.size + 1, 0, none⟩) 1 1] W fun e w' => e = .returned (.int .i64 0) ∧ Below W.heap.size W w' := fun W hb hs => by
    have h := checkAsked_any p number (some ⟨w.heap.size + 1, 0, none⟩) 1 [(size : Int)] W (hp.below hb hb.size) hs (by simp)
    rw [hq] at h
    exact h
  have hFl : ∀ W, Below w.heap.size w W → Calls Try.prog 70 #[.agg p.cells.toArray, .agg (endsC 109 109 108 109).toArray] W (FollowR p (·.1) (·.1) (·.2) Y W) := fun W hb => follow_any p _ _ _ _ _ _ _ Y W (hp.below hb hb.size) hY hY6 takes_low takes_low takes_high
  have hFh : ∀ W, Below w.heap.size w W → Calls Try.prog 70 #[.agg p.cells.toArray, .agg (endsC 108 108 109 108).toArray] W (FollowR p (·.2) (·.2) (·.1) Y W) := fun W hb => follow_any p _ _ _ _ _ _ _ Y W (hp.below hb hb.size) hY hY6 takes_high takes_high takes_low
  have L0 := Lib.hid l0
  have B0 := Lib.hid b0
  have HA := Lib.hid hA
  have HFL := Lib.hid hFl
  have HFH := Lib.hid hFh
  have HP := Lib.hid hp
  have HV := Lib.hid hv
  have HYE := Lib.hid hY
  clear l0 b0 hA hFl hFh hp hv hY hq hsz
  unfold PlM.cells at HA ⊢
  go_enter Try.func31, Try.ntmps31
  go_upto_region 4 with (first
    | (refine wpList_load_row (o := ⟨some 12, _, _, _, _, _⟩) ?_ 41 (.tmp 3) ?_ w.heap.size ?_ 41 p.cells.toArray (0, 0) _ L0.out Try.underlying41 rfl size41 ?_; rfl; rfl; rfl)
    | (go_at_call 69; refine (HA.out _ (B0.out.alloc B0.out.size _) ?_).mono ?_; exact sl_of_lies (enc := encI) (fun _ => rfl) (Lies.fresh' (by simp)); rintro e w1 ⟨rfl, hb1⟩))
  have b1 : Below w.heap.size w w1 := (B0.out.alloc B0.out.size _).trans (hb1.mono (B0.out.alloc B0.out.size _).size)
  have k0 := (L0.out.alloc (.cells #[.int .i64 size] 3)).call hb1
  have hrg : ∀ W, (∃ q : Regrown, W = Go.Sort.grow (redrawn w1 q.d) q.os) → W.rangeAt w.heap.size 0 p.cells := by
    rintro W ⟨q, rfl⟩
    exact Lies.range (cs := p.cells) (k0.call (below_regrown _ q.d q.os)) (fun j v hj => by simpa using hj)
  have HRG := Lib.hid hrg
  have K0 := Lib.hid k0
  have B1 := Lib.hid b1
  have hz1 : w.heap.size + 1 ≤ w1.heap.size := by have := hb1.size; simp at this; omega
  clear hrg k0 b1 hb1 HA L0 B0
  refine wp_region_many 8 [0, 3] [1, 2, 4, 5] [⟨6, 10, 117, zcourse.toArray⟩, ⟨7, 11, 117, zcourse.toArray⟩] (by kernel_rfl) (by kernel_rfl) (fun fl h => ?_) (fun fl fl' h h' => ?_) ?_
  · simp only [List.mem_cons, List.not_mem_nil, or_false] at h
    rcases h with rfl | rfl <;> exact alloc_course
  · simp only [List.mem_cons, List.not_mem_nil, or_false] at h h'
    rcases h with rfl | rfl <;> rcases h' with rfl | rfl <;> simp
  simp only [List.filterMap_cons, List.filterMap_nil, List.take_succ_cons, List.take_zero, List.getElem?_toArray, List.getElem?_cons_zero, List.getElem?_cons_succ, List.drop_succ_cons, List.drop_zero, List.map_cons, List.map_nil]
  refine wpQuiet_load_whole (o := ⟨some 20, _, _, _, _, _⟩) ?_ 41 (.tmp 3) ?_ w.heap.size 0 ?_ p.cells _ HRG.out Try.underlying41 rfl size41 ?_
  rfl; rfl; rfl
  simp only [Act.put, List.setIfInBounds_toArray, List.set_cons_zero, List.set_cons_succ]
  refine wpQuiet_load_whole (o := ⟨some 23, _, _, _, _, _⟩) ?_ 41 (.tmp 3) ?_ w.heap.size 0 ?_ p.cells _ HRG.out Try.underlying41 rfl size41 ?_
  rfl; rfl; rfl
  simp only [Act.put, List.setIfInBounds_toArray, List.set_cons_zero, List.set_cons_succ]
  refine wpQuiet_nil ?_
  refine ⟨by simp, ?_⟩
  intro vf0 w2 hx2
  simp only [putF, List.foldl_cons, List.foldl_nil, Act.put, List.setIfInBounds_toArray, List.set_cons_zero, List.set_cons_succ]
  simp only [wpFloats]
  go_wp2_with (go_at_call 71; refine (greaterEnds_any _).mono ?_; rintro e u3 ⟨rfl, hb3⟩)
  refine Ends.intro ⟨hb3, ?_⟩
  intro vf3 w3 hx3
  simp only [putF, List.foldl_cons, List.foldl_nil, Act.put, List.setIfInBounds_toArray, List.set_cons_zero, List.set_cons_succ]
  have hc3 := hx2.trans ((hb3.trans (hx3.mono hb3.size)).mono hx2.size)
  go_wp2_with (go_at_call 70; refine (HFH.out _ (B1.out.trans (hc3.mono B1.out.size))).mono ?_; rintro e u4 ⟨t, rfl, ht, e1, e2, e3, e4, hb4⟩)
  refine Ends.intro ⟨hb4, ?_⟩
  intro vf4 w4 hx4
  simp only [List.setIfInBounds_toArray, List.set_cons_zero, List.set_cons_succ]
  have h34 := hb4.trans (hx4.mono hb4.size)
  have hc4 := hc3.trans (h34.mono hc3.size)
  have hW4 : t.Within w4 w3.heap.size u4.heap.size := ht.mid fun j _ hj => hx4.block j hj
  go_wp2_with (go_at_call 72; refine (lesserEnds_any _).mono ?_; rintro e u5 ⟨rfl, hb5⟩)
  refine Ends.intro ⟨hb5, ?_⟩
  intro vf5 w5 hx5
  simp only [List.setIfInBounds_toArray, List.set_cons_zero, List.set_cons_succ]
  have h45 := hb5.trans (hx5.mono hb5.size)
  have hc5 := hc4.trans (h45.mono hc4.size)
  go_wp2_with (go_at_call 70; refine (HFL.out _ (B1.out.trans (hc5.mono B1.out.size))).mono ?_; rintro e u6 ⟨x, rfl, hx, f1, f2, f3, f4, hb6⟩)
  refine Ends.intro ⟨hb6, ?_⟩
  intro vf6 w6 hx6
  simp only [List.setIfInBounds_toArray, List.set_cons_zero, List.set_cons_succ]
  intro G w7 hx7 hG hGG
  simp only [List.map_cons, List.map_nil, putF, List.foldl_cons, List.foldl_nil, Act.put, List.setIfInBounds_toArray, List.set_cons_zero, List.set_cons_succ]
  have h67 := hx6.trans (hx7.mono hx6.size)
  have h57 := hb6.trans (h67.mono hb6.size)
  have hc7 := hc5.trans (h57.mono hc5.size)
  have h47 := h45.trans (h57.mono h45.size)
  obtain ⟨ga, la⟩ := hG ⟨6, 10, 117, zcourse.toArray⟩ (by simp)
  obtain ⟨gb, lb⟩ := hG ⟨7, 11, 117, zcourse.toArray⟩ (by simp)
  have hne := hGG ⟨6, 10, 117, zcourse.toArray⟩ ⟨7, 11, 117, zcourse.toArray⟩ (by simp) (by simp) (by simp)
  simp only at ga la gb lb hne
  generalize G 10 = g1 at *
  generalize G 11 = g2 at *
  have hz4 := hx4.size
  have hz47 := h47.size
  have ht7 : t.Within w7 w3.heap.size u4.heap.size := hW4.mid fun j _ hj => h47.block j (by omega)
  have hx7' : x.Within w7 w5.heap.size u6.heap.size := hx.mid fun j _ hj => h67.block j hj
  have hz6 := h67.size
  refine wpList_store_cells (o := ⟨none, .store 117 (.tmp 10) _, _, _, _, _⟩) ?_ 117 (.tmp 10) (.tmp 22) ?_ g1 0 ?_ 117 zcourse (p.cells ++ t.cells) ?_ la (by simp [PlM.cells, TrM.cells]) size117 (by simp [PlM.cells, TrM.cells, Value.oneCell']) ?_
  rfl; rfl; rfl; rfl
  intro w8 HS8 HO8
  have lb8 := HO8.out.lies lb (Ne.symm hne)
  refine wpList_store_cells (o := ⟨none, .store 117 (.tmp 11) _, _, _, _, _⟩) ?_ 117 (.tmp 11) (.tmp 25) ?_ g2 0 ?_ 117 zcourse (p.cells ++ x.cells) ?_ lb8 (by simp [PlM.cells, TrM.cells]) size117 (by simp [PlM.cells, TrM.cells, Value.oneCell']) ?_
  rfl; rfl; rfl; rfl
  intro w9 HS9 HO9
  refine wpList_nil ?_
  have s8 : Lies w8 g1 117 (p.cells ++ t.cells).toArray := by have := HS8.out; rwa [splice_whole (by simp [PlM.cells, TrM.cells])] at this
  have s9 : Lies w9 g2 117 (p.cells ++ x.cells).toArray := by have := HS9.out; rwa [splice_whole (by simp [PlM.cells, TrM.cells])] at this
  have s89 := HO9.out.lies s8 hne
  have t9 := (ht7.only HO8.out la).only HO9.out lb8
  have x9 := (hx7'.only HO8.out la).only HO9.out lb8
  have hz9 : w9.heap.size = w7.heap.size := by rw [HO9.out.size, HO8.out.size]
  have ta : t.At w9 w9.heap.size := t9.at (by omega)
  have xa : x.At w9 w9.heap.size := x9.at (by omega)
  have b9 : Below w.heap.size w w9 := HO9.out.below (HO8.out.below (B1.out.trans (hc7.mono B1.out.size)) (by omega)) (by omega)
  have pt1 := ends_fit HV.out between_high between_high between_low HYE.out e1 e2 e3 e4
  have pt2 := ends_fit HV.out between_low between_low between_high HYE.out f1 f2 f3 f4
  have r1 : ∀ W, Below w9.heap.size w9 W → Calls Try.prog 73 #[.agg (p.cells ++ t.cells).toArray, .int .i64 size, .int .i64 number] W fun e w' => ∃ r : Int, e = .returned (.int .i64 r) ∧ ReachP (soldE p.d true size) Y number r ∧ Below W.heap.size W w' := fun W hb => by
    have hbw := b9.trans (hb.mono b9.size)
    refine (reach_any p t size number W (HP.out.below hbw hbw.size) (ta.below hb hb.size) pt1 (by rw [pt1.fit.s]; exact hn5) (start_five pt1) (by omega)).mono fun e w' ⟨he, hb'⟩ => ⟨_, he, ?_, hb'⟩
    rw [e2, e1]
    exact reachL_spec p t _ size number Y _ fun k hk => by unfold soldE; exact soldUp_endsK (fb := (·.2)) (fc := (·.1)) e2 e3 e4 _ size hk
  have r2 : ∀ W, Below w9.heap.size w9 W → Calls Try.prog 73 #[.agg (p.cells ++ x.cells).toArray, .int .i64 size, .int .i64 number] W fun e w' => ∃ r : Int, e = .returned (.int .i64 r) ∧ ReachP (soldE p.d false size) Y number r ∧ Below W.heap.size W w' := fun W hb => by
    have hbw := b9.trans (hb.mono b9.size)
    refine (reach_any p x size number W (HP.out.below hbw hbw.size) (xa.below hb hb.size) pt2 (by rw [pt2.fit.s]; exact hn5) (start_five pt2) (by omega)).mono fun e w' ⟨he, hb'⟩ => ⟨_, he, ?_, hb'⟩
    rw [f2, f1]
    exact reachL_spec p x _ size number Y _ fun k hk => by unfold soldE; exact soldUp_endsK (fb := (·.1)) (fc := (·.2)) f2 f3 f4 _ size hk
  have g1r : ∀ W, (∃ c : Cls (fun W => Below w9.heap.size w9 W), W = c.val) → W.rangeAt g1 0 (p.cells ++ t.cells) := by
    rintro W ⟨c, rfl⟩
    exact Lies.range (cs := p.cells ++ t.cells) (s89.call c.h) (fun j v hj => by simpa using hj)
  have g2r : ∀ W, (∃ c : Cls (fun W => Below w9.heap.size w9 W), W = c.val) → W.rangeAt g2 0 (p.cells ++ x.cells) := by
    rintro W ⟨c, rfl⟩
    exact Lies.range (cs := p.cells ++ x.cells) (s9.call c.h) (fun j v hj => by simpa using hj)
  have R1 := Lib.hid r1
  have R2 := Lib.hid r2
  have G1R := Lib.hid g1r
  have G2R := Lib.hid g2r
  have B9 := Lib.hid b9
  haveI hne9 : Nonempty (Cls (fun W => Below w9.heap.size w9 W)) := ⟨⟨w9, Below.refl _ _⟩⟩
  clear r1 r2 g1r g2r b9 pt1 pt2 ta xa t9 x9 s8 s9 s89 lb8 la lb HS8 HO8 HS9 HO9 hG hGG hx7 hx6 hx5 hx4 hx3 hx2 hb3 hb4 hb5 hb6 ht hx e1 e2 e3 e4 f1 f2 f3 f4 h34 h45 h67 h57 h47 hc3 hc4 hc5 hc7 hW4 ht7 hx7' K0 B1 HRG HFL HFH
  go_upto_region 5 with (fail)
  refine wp_region_whole [([0, 1, 2, 4, 5, 6], [3, 7]), ([8, 9, 10], [])] (fun W => ∃ c : Cls (fun W => Below w9.heap.size w9 W), W = c.val) (Cls.here (Below.refl _ _).drew) (by kernel_rfl) (by kernel_rfl) ?_
  simp only [wpPhases, List.filterMap_cons, List.filterMap_nil, List.getElem?_toArray, List.getElem?_cons_zero, List.getElem?_cons_succ]
  refine wpQuiet_load_whole (o := ⟨some 26, _, _, _, _, _⟩) ?_ 117 (.tmp 10) ?_ g1 0 ?_ (p.cells ++ t.cells) _ G1R.out Try.underlying117 rfl size117 ?_
  rfl; rfl; rfl
  simp only [Act.put, List.setIfInBounds_toArray, List.set_cons_zero, List.set_cons_succ]
  change wpQuiet _ _ _ _ (_ :: _ :: _ :: _ :: _ :: []) _
  go_big_quiet_step (fail)
  go_big_quiet_step (fail)
  refine wpQuiet_load_whole (o := ⟨some 30, _, _, _, _, _⟩) ?_ 117 (.tmp 11) ?_ g2 0 ?_ (p.cells ++ x.cells) _ G2R.out Try.underlying117 rfl size117 ?_
  rfl; rfl; rfl
  simp only [Act.put, List.setIfInBounds_toArray, List.set_cons_zero, List.set_cons_succ]
  change wpQuiet _ _ _ _ (_ :: _ :: []) _
  go_big_quiet_step (fail)
  go_big_quiet_step (fail)
  refine wpQuiet_nil ?_
  simp only [wpForce]
  have hd : Below w9.heap.size w9 w9.drew := (Below.refl _ _).drew
  generalize w9.drew = v0 at *
  go_wp2_with (go_at_call 73; refine (R1.out _ hd).mono ?_; rintro e v1 ⟨ra, rfl, hra, hb1⟩)
  have hd1 := hd.trans (hb1.mono hd.size)
  refine Ends.intro ⟨Cls.here hd1, ?_⟩
  go_wp2_with (go_at_call 73; refine (R2.out _ hd1).mono ?_; rintro e v2 ⟨rb, rfl, hrb, hb2⟩)
  have hd2 := hd1.trans (hb2.mono hd1.size)
  refine Ends.intro ⟨Cls.here hd2, ?_⟩
  change wpQuiet _ _ _ _ (_ :: _ :: _ :: []) _
  repeat (first | go_big_quiet_step (fail) | quiet_step (fail))
  refine wpQuiet_nil ?_
  have HRES := Lib.hid (show RetRe p.d Y size number w (.returned (.tuple #[.int .i64 ra, .int .i64 rb, .int .i64 0])) v2 from ⟨ra, rb, rfl, hra, hrb, B9.out.trans (hd2.mono B9.out.size)⟩)
  clear hra hrb hb1 hb2 hd hd1 hd2 R1 R2 G1R G2R B9
  go_wp2
  go_ret3
  exact HRES.out
end Go.Proofs.Ytlkdmcdnkoiflaa

namespace Go.Proofs.Ytlkdmcdnkoiflaa
open Go.RowKit Go.Lib

/-- The first of Y years up to which so many are sold; Y: there is none. -/
def FirstP (f : Nat → Int) (Y : Nat) (number : Int) (r : Nat) : Prop := r ≤ Y ∧ (∀ j, j < r → f (j + 1) < number) ∧ (r < Y → number ≤ f (r + 1))
theorem FirstP.le {f g : Nat → Int} {Y r s : Nat} {n m : Int} (h1 : FirstP f Y n r) (h2 : FirstP g Y m s) (hn : n ≤ m) (h : ∀ k, k ≤ Y → g k ≤ f k) : r ≤ s := by
  by_cases hlt : s < r
  · have a := h1.1
    have b := h1.2.1 s hlt
    have c := h2.2.2 (by omega)
    have d := h (s + 1) (by omega)
    omega
  · omega
theorem ReachP.first {f : Nat → Int} {Y : Nat} {number r : Int} (h : ReachP f Y number r) : ∃ k : Nat, FirstP f Y number k ∧ ((r = -1 ∧ k = Y) ∨ (r = (k : Int) ∧ k < Y)) := by
  rcases h with ⟨h1, h2⟩ | ⟨k, h1, h2, h3, h4⟩
  · exact ⟨Y, ⟨Nat.le_refl _, h2, fun h => by omega⟩, .inl ⟨h1, rfl⟩⟩
  · exact ⟨k, ⟨by omega, h4, fun _ => h3⟩, .inr ⟨h2, h1⟩⟩
/-- What is sold of a size in a truth up to each year. -/
def soldT (d : PD) (t : TD) (size k : Nat) : Int := soldUpD d (fun k => t.g.getD k []) (fun k => t.l.getD k 0) (pad5 t.s) size k
end Go.Proofs.Ytlkdmcdnkoiflaa

namespace Go.Proofs.Ytlkdmcdnkoiflaa
open Go.RowKit Go.Lib
attribute [local go_sem] Oper.semAt_some

/-- The lists of a truth, as a truth that lies nowhere. -/
def TD.m (T : TD) : TrM := ⟨⟨none, T.s, 0⟩, ⟨none, T.g.map fun y => ⟨none, y.map fun r => ⟨none, r, 0⟩, 0⟩, 0⟩, ⟨none, T.l, 0⟩⟩
end Go.Proofs.Ytlkdmcdnkoiflaa
