/- The texts RE RF RG RH RI RJ, joined. -/
import Derived.Test.YteognijlgalahaaMB
import Derived.Test.YteognijlgalahaaBK
import Derived.Test.YteognijlgalahaaPP
import Derived.Test.YteognijlgalahaaPO
import Derived.Test.YteognijlgalahaaPY
/- The ranges of the levels that can be held: the mathematics. -/
namespace Go.Proofs.Yteognijlgalahaa
open Go.RowKit

/-- The range of the first levels that can be held. -/
def PoD.heldTo (p : PoD) (nx : Int → Int) : Nat → Int × Int
  | 0 => (p.high + 1, p.low - 1)
  | i + 1 => if nx (p.low + (i : Int)) = -1 then p.heldTo nx i else (min (p.heldTo nx i).1 (p.low + (i : Int)), max (p.heldTo nx i).2 (p.low + (i : Int)))
def PoD.heldD (p : PoD) (nx : Int → Int) : Int × Int := p.heldTo nx (p.high + 1 - p.low).toNat
theorem PoD.heldTo_spec (p : PoD) (nx : Int → Int) : ∀ i : Nat, p.low + (i : Int) ≤ p.high + 1 →
    ((∀ k : Nat, k < i → nx (p.low + (k : Int)) = -1) ∧ p.heldTo nx i = (p.high + 1, p.low - 1)) ∨
      (∃ lo hi, p.heldTo nx i = (lo, hi) ∧ p.low ≤ lo ∧ lo ≤ hi ∧ hi < p.low + (i : Int) ∧ nx lo ≠ -1 ∧ nx hi ≠ -1 ∧ ∀ k : Nat, k < i → nx (p.low + (k : Int)) ≠ -1 → lo ≤ p.low + (k : Int) ∧ p.low + (k : Int) ≤ hi)
  | 0, _ => .inl ⟨fun k h => by omega, rfl⟩
  | i + 1, hi => by
    have ih := PoD.heldTo_spec p nx i (by omega)
    rw [PoD.heldTo]
    by_cases hc : nx (p.low + (i : Int)) = -1
    · rw [if_pos hc]
      rcases ih with ⟨h1, h2⟩ | ⟨lo, hi', h1, h2, h3, h4, h5, h6, h7⟩
      · refine .inl ⟨fun k hk => ?_, h2⟩
        by_cases e : k = i
        · subst e; exact hc
        · exact h1 k (by omega)
      · refine .inr ⟨lo, hi', h1, h2, h3, by omega, h5, h6, fun k hk hn => ?_⟩
        by_cases e : k = i
        · subst e; exact absurd hc hn
        · exact h7 k (by omega) hn
    · rw [if_neg hc]
      rcases ih with ⟨h1, h2⟩ | ⟨lo, hi', h1, h2, h3, h4, h5, h6, h7⟩
      · rw [h2]
        refine .inr ⟨p.low + (i : Int), p.low + (i : Int), ?_, by omega, by omega, by omega, hc, hc, fun k hk hn => ?_⟩
        · show (min (p.high + 1) (p.low + (i : Int)), max (p.low - 1) (p.low + (i : Int))) = _
          rw [Int.min_eq_right (by omega), Int.max_eq_right (by omega)]
        · by_cases e : k = i
          · subst e; exact ⟨Int.le_refl _, Int.le_refl _⟩
          · exact absurd (h1 k (by omega)) hn
      · rw [h1]
        refine .inr ⟨lo, p.low + (i : Int), ?_, by omega, by omega, by omega, h5, hc, fun k hk hn => ?_⟩
        · show (min lo (p.low + (i : Int)), max hi' (p.low + (i : Int))) = _
          rw [Int.min_eq_left (by omega), Int.max_eq_right (by omega)]
        · by_cases e : k = i
          · subst e; exact ⟨by omega, Int.le_refl _⟩
          · have := h7 k (by omega) hn; omega
/-- No level can be held, and then the range is empty; or just those of the range may be. -/
theorem PoD.heldD_spec {p : PoD} (hl : p.low ≤ p.high) (nx : Int → Int) : ((∀ lv, p.kept lv → nx lv = -1) ∧ p.heldD nx = (p.high + 1, p.low - 1)) ∨
    (∃ lo hi, p.heldD nx = (lo, hi) ∧ p.low ≤ lo ∧ lo ≤ hi ∧ hi ≤ p.high ∧ nx lo ≠ -1 ∧ nx hi ≠ -1 ∧ ∀ lv, p.kept lv → nx lv ≠ -1 → lo ≤ lv ∧ lv ≤ hi) := by
  have key : ∀ lv, p.kept lv → ∃ k : Nat, k < (p.high + 1 - p.low).toNat ∧ lv = p.low + (k : Int) := fun lv h => by
    unfold PoD.kept at h
    exact ⟨(lv - p.low).toNat, by omega, by omega⟩
  unfold PoD.heldD
  rcases PoD.heldTo_spec p nx (p.high + 1 - p.low).toNat (by omega) with ⟨h1, h2⟩ | ⟨lo, hi, h1, h2, h3, h4, h5, h6, h7⟩
  · refine .inl ⟨fun lv hkp => ?_, h2⟩
    obtain ⟨k, hk, rfl⟩ := key lv hkp
    exact h1 k hk
  · refine .inr ⟨lo, hi, h1, h2, h3, by omega, h5, h6, fun lv hkp hn => ?_⟩
    obtain ⟨k, hk, rfl⟩ := key lv hkp
    exact h7 k hk hn
/-- The ranges of the first days, if there are any levels on all of them. -/
def PoD.rangeAt (p : PoD) (day : Nat) : Int × Int := p.heldD (p.vals (p.ds.drop day))
def PoD.holdL (p : PoD) : List (Int × Int) := (List.range p.ds.length).map p.rangeAt
def PoD.canHold (p : PoD) : Bool := (List.range p.ds.length).all fun day => decide ((p.rangeAt day).1 ≤ (p.rangeAt day).2)
/-- What Hold tells. -/
def PoD.holdR (p : PoD) : List (Int × Int) × Int := if p.fault ≠ 0 then ([], p.fault) else if p.canHold then (p.holdL, 0) else ([], 9)
theorem PoD.holdL_at (p : PoD) {day : Nat} (h : day < p.ds.length) : p.holdL[day]? = some (p.rangeAt day) := by
  unfold PoD.holdL
  rw [List.getElem?_map, List.getElem?_range h]; rfl
theorem PoD.holdL_length (p : PoD) : p.holdL.length = p.ds.length := by unfold PoD.holdL; simp
theorem PoD.rangeAt_b {p : PoD} (hl : p.low ≤ p.high) (day : Nat) : p.low ≤ (p.rangeAt day).1 ∧ (p.rangeAt day).1 ≤ p.high + 1 ∧ p.low - 1 ≤ (p.rangeAt day).2 ∧ (p.rangeAt day).2 ≤ p.high := by
  unfold PoD.rangeAt
  rcases PoD.heldD_spec (p := p) hl (p.vals (p.ds.drop day)) with ⟨-, h2⟩ | ⟨lo, hi, h1, h2, h3, h4, -⟩
  · rw [h2]; dsimp only; omega
  · rw [h1]; dsimp only; omega
theorem PoD.heldTo_b (p : PoD) (nx : Int → Int) (i : Nat) (h : p.low + (i : Int) ≤ p.high + 1) : p.low ≤ (p.heldTo nx i).1 ∧ (p.heldTo nx i).1 ≤ p.high + 1 ∧ p.low - 1 ≤ (p.heldTo nx i).2 ∧ (p.heldTo nx i).2 ≤ p.high := by
  rcases PoD.heldTo_spec p nx i h with ⟨-, h2⟩ | ⟨lo, hi, h1, h2, h3, h4, -⟩
  · rw [h2]; dsimp only; omega
  · rw [h1]; dsimp only; omega
end Go.Proofs.Yteognijlgalahaa

/- Loops whose rounds range over functions: each round leaves a mark. -/
namespace Go.Proofs.Yteognijlgalahaa
open Go.RowKit Go.Lib

def markOf (D : Nat) : Deferred := { target := .collected D, args := #[] }
/-- A function leaves with the marks of all its ranges over functions. -/
theorem leave_marks {P : Program} {F : Fence} {n : Nat} {fn : Func} {tmps : Array Value} {R : Ending → World → Prop} {B : Nat} (J : World → Prop) (hJ : ∀ A A', J A → Recs B A A' → J A')
    (hend : ∀ A, J A → ∃ v, (results fn tmps).run P A = .ok v A ∧ R (.returned v) A) : ∀ (Ds : List Nat) (w : World), J w → Ds.Nodup → (∀ D, D ∈ Ds → B ≤ D ∧ w.heap[D]? = some (.deferred (some []))) → LeavesInM F n P fn tmps R (Ds.map markOf) .returning w
  | [], w, hj, _, _ => hend w hj
  | D :: Ds, w, hj, hn, hd => by
    obtain ⟨h1, h2⟩ := hd D (by simp)
    obtain ⟨n1, n2⟩ := List.nodup_cons.1 hn
    refine ⟨by simp, .inl ⟨_, _, rfl, run_takeDeferred h2, leave_marks J hJ hend Ds _ (hJ _ _ hj (Recs.put _ h1 h2 rfl)) n2 fun D' h' => ?_⟩⟩
    obtain ⟨h3, h4⟩ := hd D' (by simp [h'])
    exact ⟨h3, (World.putObj_heap_other (by intro e; subst e; exact n1 h')).trans h4⟩
/-- A loop whose rounds are counted by a number that no variable holds. -/
theorem wp_loop_ghost {P : Program} {Q : Exit → Act → World → Prop} {a : Act} {w : World} {c : Code} (R : Nat → Act → World → Prop) {N : Nat} (h0 : R N a w)
    (hr : ∀ N a w, R N a w → c.wp P (Exit.then (fun a' w' => ∃ M, M < N ∧ R M a' w') Q) a w) : (Code.loop c).wp P Q a w := by
  refine wp_loop_rounds (N + 1) ?_
  have key : ∀ n N, N < n → ∀ a w, R N a w → Code.rounds P c Q n a w := by
    intro n
    induction n with
    | zero => intro N h; omega
    | succ n ih =>
      intro N hN a w h
      rw [rounds_succ]
      refine wp_mono (hr N a w h) ?_
      intro e a' w' he
      cases e with
      | normal =>
        obtain ⟨M, hM, h'⟩ := he
        exact ih M (by omega) a' w' h'
      | exit id => exact he
      | goto l => exact he
      | ret => exact he
      | panic ch => exact he
      | outgrown => exact he
  exact key _ N (by omega) a w h0
end Go.Proofs.Yteognijlgalahaa

/- held: the ranges of the levels that can be held. -/
namespace Go.Proofs.Yteognijlgalahaa
open Go.RowKit Go.Lib
attribute [local go_sem] Oper.semAt_some

abbrev encRg (r : Int × Int) : List Value := [.int .i64 r.1, .int .i64 r.2]
theorem encRg_one (z : Int × Int) : ∀ u ∈ encRg z, u.oneCell' = true := by
  intro u hu
  simp only [encRg, List.mem_cons, List.not_mem_nil, or_false] at hu
  rcases hu with rfl | rfl <;> rfl
theorem info_rz : (Try.prog.info? 31).map (fun i => (i.zero, i.size, i.bytes)) = some (some (.agg #[.int .i64 0, .int .i64 0]), 2, 16) := by kernel_rfl
theorem zero_rg : ∃ i z, Try.prog.info? 31 = some i ∧ i.zero = some z ∧ i.size = 2 ∧ i.bytes = 16 ∧ z.cells.size = 2 := by
  obtain ⟨i, hi, hp⟩ := Option.map_eq_some_iff.1 info_rz
  exact ⟨i, _, hi, congrArg (·.1) hp, congrArg (·.2.1) hp, congrArg (·.2.2) hp, rfl⟩
/-- append of one range to a row of one's own. -/
theorem wpList_app_rg {ops : Array Oper} {rest : List Oper} {o : Oper} {a : Act} {w : World} {Q : Exit → Act → World → Prop} (hgd : o.guard = none) (s x : Operand) (ho : o.op = .call { callee := .builtin .append, args := #[s, x], argTypes := #[36, 36] })
    (base : Nat) (v : Value) (xs : List (Int × Int)) (hs : a.eval s = v) (hown : w.ownsRow base 31 2 v xs.length (xs.flatMap encRg)) (gx c : Nat) (y : Int × Int) (hx : a.eval x = .slice (some ⟨gx, 0, none⟩) 1 c) (hy : w.rangeAt gx 0 (encRg y)) (hl : xs.length + 1 ≤ 1000) (hb : base ≤ w.heap.size)
    (h : ∀ g cap w', w'.ownsRow base 31 2 (.slice (some ⟨g, 0, none⟩) (xs ++ [y]).length cap) (xs ++ [y]).length ((xs ++ [y]).flatMap encRg) → w.grownBy w' v.ownBlock → (v.ownBlock = some g ∨ g = w.heap.size) → wpList Try.prog ops Q rest (a.put o.dst (.slice (some ⟨g, 0, none⟩) (xs ++ [y]).length cap)) w') : wpList Try.prog ops Q (o :: rest) a w := by
  obtain ⟨i0, z0, hi, hz0, hz1, hz2, hz3⟩ := zero_rg
  refine wpList_append_lies w hgd s x 36 ho base 31 i0 _ 2 16 Try.underlying36 hi hz0 hz1 hz2 hz3 (by decide) v xs.length _ hs hown ⟨gx, 0, none⟩ 1 c (encRg y) hx rfl (fun j u hu => by
      have h0 := hy j u hu
      rw [Nat.zero_add] at h0
      by_cases hj : j = 0
      · subst hj; simpa [Addr.add] using h0
      · simpa [Addr.add, hj] using h0) (encRg_one y) Nat.one_pos (by unfold maxLen; omega) (by omega) hb _ rfl ?_
  intro g cap w' h2 h3 h4 _
  have e : (xs ++ [y]).length = xs.length + 1 := by simp
  have e2 : (xs ++ [y]).flatMap encRg = xs.flatMap encRg ++ encRg y := by rw [List.flatMap_append]; simp
  have := h g cap w' (by rw [e, e2]; exact h2) h3 h4
  rw [e] at this
  exact this
/-- The variables of held. -/
structure HeM (p : PoM) (D mb : Nat) (w : World) (v : Value) (xs : List (Int × Int)) (Ds : List Nat) (V : World) : Prop where
  k : Lies V w.heap.size 89 (keC p D mb).toArray
  e : KeM p p.T 0 D mb V
  o : V.ownsRow (w.heap.size + 1) 31 2 v xs.length (xs.flatMap encRg)
  b : Below w.heap.size w V
  n : Ds.Nodup
  d : ∀ x, x ∈ Ds → w.heap.size + 1 ≤ x ∧ V.heap[x]? = some (.deferred (some []))
section
variable {p : PoM} {D mb : Nat} {w : World} {v : Value} {xs : List (Int × Int)} {Ds : List Nat} {V V' : World}
theorem HeM.size (h : HeM p D mb w v xs Ds V) : w.heap.size + 1 ≤ V.heap.size := h.k.in_
theorem HeM.call (h : HeM p D mb w v xs Ds V) (hb : Below V.heap.size V V') : HeM p D mb w v xs Ds V' :=
  ⟨h.k.call hb, h.e.call hb, own_keep h.o fun g hv => hb.block g (own_at h.o hv).2.1, h.b.trans (hb.mono (by have := h.size; omega)), h.n, fun x hx => ⟨(h.d x hx).1, (hb.block x (Array.getElem?_eq_some_iff.1 (h.d x hx).2).1).trans (h.d x hx).2⟩⟩
theorem HeM.only {g : Nat} {t : TypeId} {cs : Array Value} (h : HeM p D mb w v xs Ds V) (ho : Only g V V') (hg : w.heap.size < g) (hl : Lies V g t cs) (hD : D < w.heap.size) (hA : ∀ a, p.ds.A = some a → p.ds.l ≠ [] → a.block < w.heap.size) (hv : v.ownBlock ≠ some g) : HeM p D mb w v xs Ds V' :=
  ⟨ho.lies h.k (by omega), h.e.only ho (by omega) hl (fun a e hne => by have := hA a e hne; omega), own_keep h.o fun k hk => ho.block k fun e => hv (by rw [hk, e]), ho.below h.b (by omega), h.n, fun x hx => ⟨(h.d x hx).1, (ho.block x (fun e => by subst e; have := (h.d x hx).2; rw [hl] at this; cases this)).trans (h.d x hx).2⟩⟩
theorem HeM.recs {B : Nat} (h : HeM p D mb w v xs Ds V) (hr : Recs B V V') (hm : mb < B) (hB : w.heap.size ≤ B) (hlt : ∀ x, x ∈ Ds → x < B) : HeM p D mb w v xs Ds V' :=
  ⟨hr.lies h.k, h.e.recs hr hm, own_recs h.o hr, hr.below h.b hB h.b.size, h.n, fun x hx => ⟨(h.d x hx).1, hr.old (hlt x hx) (h.d x hx).2⟩⟩
theorem HeM.app (h : HeM p D mb w v xs Ds V) {g c : Nat} {r : Int × Int} (hD : D < w.heap.size) (hm : mb < w.heap.size) (hA : ∀ a, p.ds.A = some a → p.ds.l ≠ [] → a.block < w.heap.size) (ho : V'.ownsRow (w.heap.size + 1) 31 2 (.slice (some ⟨g, 0, none⟩) (xs ++ [r]).length c) (xs ++ [r]).length ((xs ++ [r]).flatMap encRg)) (hg : V.grownBy V' v.ownBlock) : HeM p D mb w (.slice (some ⟨g, 0, none⟩) (xs ++ [r]).length c) (xs ++ [r]) Ds V' := by
  have hb : Below (w.heap.size + 1) V V' := below_of_grown hg (fun k hk => (own_at h.o hk).1) h.size
  refine ⟨h.k.to_ (hb.block _ (by omega)), h.e.below hb (by omega) (by omega) (fun a e hne => by have := hA a e hne; omega), ho, h.b.trans (hb.mono (by omega)), h.n, fun x hx => ⟨(h.d x hx).1, (hg.block x (Array.getElem?_eq_some_iff.1 (h.d x hx).2).1 fun e => ?_).trans (h.d x hx).2⟩⟩
  obtain ⟨_, _, cs, hl⟩ := own_at h.o e.symm
  have h2 := (h.d x hx).2
  rw [hl] at h2
  cases h2
end
theorem HeM.mark {p : PoM} {D mb : Nat} {w : World} {v : Value} {xs : List (Int × Int)} {Ds : List Nat} {V : World} (h : HeM p D mb w v xs Ds V) {D1 : Nat} (hd : V.heap[D1]? = some (.deferred (some []))) (h1 : w.heap.size + 1 ≤ D1) (hn : ∀ x, x ∈ Ds → x ≠ D1) : HeM p D mb w v xs (D1 :: Ds) V :=
  ⟨h.k, h.e, h.o, h.b, List.nodup_cons.2 ⟨fun hx => hn _ hx rfl, h.n⟩, fun x hx => by
    rcases List.mem_cons.1 hx with rfl | hx
    · exact ⟨h1, hd⟩
    · exact h.d x hx⟩
/-- In a round. -/
structure HiM (p : PoM) (D mb : Nat) (w : World) (v : Value) (xs : List (Int × Int)) (Ds : List Nat) (gd gr gb day : Nat) (r : Int × Int) (V : World) : Prop where
  h : HeM p D mb w v xs Ds V
  d : Lies V gd 3 #[.int .i64 day]
  r : Lies V gr 31 (encRg r).toArray
  b : Lies V gb 31 #[.int .i64 p.low, .int .i64 p.high]
section
variable {p : PoM} {D mb : Nat} {w : World} {v : Value} {xs : List (Int × Int)} {Ds : List Nat} {gd gr gb day : Nat} {r : Int × Int} {V V' : World}
theorem HiM.call (h : HiM p D mb w v xs Ds gd gr gb day r V) (hb : Below V.heap.size V V') : HiM p D mb w v xs Ds gd gr gb day r V' := ⟨h.h.call hb, h.d.call hb, h.r.call hb, h.b.call hb⟩
theorem HiM.recs {B : Nat} (h : HiM p D mb w v xs Ds gd gr gb day r V) (hr : Recs B V V') (hm : mb < B) (hB : w.heap.size ≤ B) (hlt : ∀ x, x ∈ Ds → x < B) : HiM p D mb w v xs Ds gd gr gb day r V' := ⟨h.h.recs hr hm hB hlt, hr.lies h.d, hr.lies h.r, hr.lies h.b⟩
theorem HiM.set (h : HiM p D mb w v xs Ds gd gr gb day r V) (hg : w.heap.size < gr) (h1 : gd ≠ gr) (h2 : gb ≠ gr) (hD : D < w.heap.size) (hA : ∀ a, p.ds.A = some a → p.ds.l ≠ [] → a.block < w.heap.size) (hv : v.ownBlock ≠ some gr) {r' : Int × Int} (ho : Only gr V V') (hl : Lies V' gr 31 (encRg r').toArray) : HiM p D mb w v xs Ds gd gr gb day r' V' :=
  ⟨h.h.only ho hg h.r hD hA hv, ho.lies h.d h1, hl, ho.lies h.b h2⟩
end
/-- What held hands back. -/
def HeldE (l : List (Int × Int)) (b : Bool) (w : World) (e : Ending) (w' : World) : Prop := ∃ A c, e = .returned (.tuple #[.slice A l.length c, .bool b]) ∧ Sl w' w'.heap.size 2 encRg A l ∧ Below w.heap.size w w'
/-- Between the rounds of held. -/
def HeldR (p : PoM) (D mb : Nat) (w : World) (N n : Nat) (a : Act) (V : World) : Prop := ∃ (k : Nat) (xs : List (Int × Int)) (A1 : Option Addr) (c1 : Nat) (Ds : List Nat) (u4 u5 u6 u12 u13 u14 u15 u16 u17 u18 u19 u20 u21 u22 u23 u24 u25 u26 u27 u28 u29 u30 u31 u32 u33 u34 u35 u36 u37 u38 u39 u40 u41 u42 u43 u44 u45 u46 u47 u48 u49 u50 u51 u52 u53 u54 : Value), n + k = N ∧ xs = p.d.holdL.take k ∧ (∀ i, i < k → (p.d.rangeAt i).1 ≤ (p.d.rangeAt i).2) ∧ HeM p D mb w (.slice A1 xs.length c1) xs Ds V ∧ a = { tmps := #[.agg (keC p D mb).toArray, .pointer (some ⟨w.heap.size, 0, none⟩), .slice A1 xs.length c1, .bool false, u4, u5, u6, .pointer (some ⟨w.heap.size, 0, none⟩), .pointer (some ⟨w.heap.size, 6, none⟩), .slice p.ds.A N p.ds.c, .int .i64 N, .int .i64 k, u12, u13, u14, u15, u16, u17, u18, u19, u20, u21, u22, u23, u24, u25, u26, u27, u28, u29, u30, u31, u32, u33, u34, u35, u36, u37, u38, u39, u40, u41, u42, u43, u44, u45, u46, u47, u48, u49, u50, u51, u52, u53, u54, undef], defers := Ds.map markOf }
set_option maxRecDepth 100000 in
set_option maxHeartbeats 8000000 in
theorem held_any (p : PoM) (D mb : Nat) (w : World) (hk : KeM p p.T 0 D mb w) (hok : p.d.Ok) :
    Calls Try.prog 49 #[.agg (keC p D mb).toArray] w (HeldE (if p.d.canHold then p.d.holdL else []) p.d.canHold w) := by
  have hln : p.ds.l.length ≤ 12 := hok.n2
  have hl0 : 0 ≤ p.low := hok.l0
  have hl1 : p.low ≤ p.high := hok.l1
  have hl2 : p.high ≤ 60 := hok.l2
  have hDw : D < w.heap.size := hk.c.in_
  have hmb : mb < w.heap.size := hk.size
  have hAw : ∀ a, p.ds.A = some a → p.ds.l ≠ [] → a.block < w.heap.size := fun a e hne => by
    obtain ⟨b, off, e2, hb, -⟩ := hk.q.s hne
    rw [e] at e2; cases e2; exact hb
  have b0 : Below w.heap.size w (w.alloc (.cells (keC p D mb).toArray 89)) := (by repeat (first | (with_reducible assumption) | (with_reducible exact Below.refl _ _) | (with_reducible refine Below.drew ?_) | (with_reducible refine below_drewN ?_ _) | ((with_reducible refine Below.setCell ?_ ?_ _); rotate_left; focus (first | (simp; done) | (simp; omega) | omega)) | ((with_reducible refine Below.alloc ?_ ?_ _); rotate_left; focus (first | (simp; done) | (simp; omega) | omega))))
  have hM : HeM p D mb w (.slice none 0 0) [] [] (w.alloc (.cells (keC p D mb).toArray 89)) :=
    ⟨Lies.fresh _ _ _, hk.call b0, World.ownsRow_nil _ _ _ _, b0, List.nodup_nil, fun x hx => by simp at hx⟩
  obtain ⟨N, hN⟩ : ∃ N, N = p.ds.l.length := ⟨_, rfl⟩
  obtain ⟨L, hL⟩ : ∃ L, L = if p.d.canHold then p.d.holdL else [] := ⟨_, rfl⟩
  obtain ⟨cb, hcb⟩ : ∃ cb, cb = p.d.canHold := ⟨_, rfl⟩
  have HLL := Lib.hid hL
  have HCB := Lib.hid hcb
  rw [← hL, ← hcb]
  clear hL hcb
  have HAW := Lib.hid hAw
  have HOK := Lib.hid hok
  have HM := Lib.hid hM
  have HN := Lib.hid hN
  have hNz : (N : Int) ≤ 12 := by omega
  clear hk hok hAw b0 hM hN
  refine calls_of_wp_marks 6 Try.func49 rfl ?_
  simp only [Try.ntmps49, List.size_toArray, List.length_cons, List.length_nil, Nat.reduceAdd, Nat.reduceSub, Array.replicate_succ, Array.replicate_zero, List.push_toArray, List.append_toArray, List.nil_append, List.cons_append]
  go_upto_region 1 with (fail)
  change Code.wp _ _ _ _ (w.alloc (.cells (keC p D mb).toArray 89))
  generalize w.alloc (.cells (keC p D mb).toArray 89) = w1 at *
  have c9 : w1.cell? ⟨w.heap.size, 6, none⟩ = some (.slice p.ds.A N p.ds.c) := by rw [HN.out]; exact HM.out.k.at_ 6
  go_wp2
  clear c9
  have hR0 : p.d.holdL.take 0 = [] := List.take_zero
  refine wp_loop_ghost (HeldR p D mb w N)
    (N := N) ⟨0, [], none, 0, [], undef, undef, undef, undef, undef, undef, undef, undef, undef, undef, undef, undef, undef, undef, undef, undef, undef, undef, undef, undef, undef, undef, undef, undef, undef, undef, undef, undef, undef, undef, undef, undef, undef, undef, undef, undef, undef, undef, undef, undef, undef, undef, undef, undef, undef, undef, rfl, rfl, fun i hi => by omega, HM.out, rfl⟩ ?_
  clear hR0 HM
  rintro n a V ⟨k, xs, A1, c1, Ds, u4, u5, u6, u12, u13, u14, u15, u16, u17, u18, u19, u20, u21, u22, u23, u24, u25, u26, u27, u28, u29, u30, u31, u32, u33, u34, u35, u36, u37, u38, u39, u40, u41, u42, u43, u44, u45, u46, u47, u48, u49, u50, u51, u52, u53, u54, hnk, hxs, hbe, hm, rfl⟩
  have HX := Lib.hid hxs
  have HBE := Lib.hid hbe
  have HM := Lib.hid hm
  have hk0 : (0 : Int) ≤ (k : Int) := by omega
  clear hxs hbe hm
  by_cases hlt : k < N
  · have hltz : (k : Int) < (N : Int) := by omega
    have hz0 : V.heap.size < (V.alloc (.cells #[.int .i64 k] 3)).heap.size := by simp
    have hb1 : Below V.heap.size V (V.alloc (.cells #[.int .i64 k] 3)) := (Below.refl _ _).alloc (Nat.le_refl _) _
    go_upto_region 4 with (fail)
    change Code.wp _ _ _ _ (V.alloc (.cells #[.int .i64 k] 3))
    have M1 := Lib.hid (HM.out.call hb1)
    have D1 := Lib.hid (Lies.fresh V 3 #[.int .i64 k])
    have HZV := Lib.hid HM.out.size
    have HOB := Lib.hid (show ∀ g, (Value.slice A1 xs.length c1).ownBlock = some g → g < V.heap.size from fun g hg => (own_at HM.out.o hg).2.1)
    have HDV := Lib.hid (show ∀ x, x ∈ Ds → x < V.heap.size from fun x hx => (Array.getElem?_eq_some_iff.1 (HM.out.d x hx).2).1)
    have HZ1 := Lib.hid (show (V.alloc (.cells #[.int .i64 k] 3)).heap.size = V.heap.size + 1 by simp)
    clear hb1 HM hz0
    generalize V.alloc (.cells #[.int .i64 k] 3) = v1 at *
    generalize V.heap.size = gd at *
    have c16 : v1.cell? ⟨w.heap.size, 1, none⟩ = some (.int .i64 p.high) := M1.out.k.at_ 1
    have c20 : v1.cell? ⟨w.heap.size, 0, none⟩ = some (.int .i64 p.low) := M1.out.k.at_ 0
    have hw1 : IntKind.i64.wrap (p.high + 1) = p.high + 1 := IntWalk.i64_in _ (by omega)
    have hw2 : IntKind.i64.wrap (p.low - 1) = p.low - 1 := IntWalk.i64_in _ (by omega)
    go_upto_region 5 with (fail)
    change Code.wp _ _ _ _ (v1.alloc (.cells #[.int .i64 (p.high + 1), .int .i64 (p.low - 1)] 31))
    have hb2 : Below v1.heap.size v1 (v1.alloc (.cells #[.int .i64 (p.high + 1), .int .i64 (p.low - 1)] 31)) := (Below.refl _ _).alloc (Nat.le_refl _) _
    have M2 := Lib.hid (M1.out.call hb2)
    have D2 := Lib.hid (D1.out.call hb2)
    have R2 := Lib.hid (show Lies (v1.alloc (.cells #[.int .i64 (p.high + 1), .int .i64 (p.low - 1)] 31)) (gd + 1) 31 (encRg (p.high + 1, p.low - 1)).toArray from Lies.fresh' HZ1.out)
    have HZ2 := Lib.hid (show (v1.alloc (.cells #[.int .i64 (p.high + 1), .int .i64 (p.low - 1)] 31)).heap.size = gd + 2 by simp [HZ1.out])
    rw [HZ1.out]
    clear c16 c20 hw1 hw2 hb2 M1 D1 HZ1
    generalize v1.alloc (.cells #[.int .i64 (p.high + 1), .int .i64 (p.low - 1)] 31) = w2 at *
    have hrp : w2.rangeAt w.heap.size 0 p.cells := Lies.range (cs := keC p D mb) M2.out.k (fun i v hv => by
      rw [Nat.zero_add]
      unfold keC
      rw [List.getElem?_append_left (List.getElem?_eq_some_iff.1 hv).1]; exact hv)
    have HRP := Lib.hid hrp
    clear hrp
    go_wp2_with (first
      | (refine wpList_load_mid (op := ⟨some 24, _, _, _, _, _⟩) ?_ 34 (.tmp 23) ?_ w.heap.size 0 ?_ p.cells _ HRP.out Try.underlying34 rfl size_po ?_; rfl; rfl; rfl)
      | (go_at_call 63; refine (levels_any p _).mono ?_; rintro e w3 ⟨rfl, hb3⟩)
      | (go_at_call 72; refine (all_any p.low p.high _).mono ?_; rintro e w' ⟨rfl, rfl⟩))
    have hb4 : Below w2.heap.size w2 (w3.alloc (.cells #[.int .i64 p.low, .int .i64 p.high] 31)) := hb3.alloc hb3.size _
    have hW : HiM p D mb w (.slice A1 xs.length c1) xs Ds gd (gd + 1) w3.heap.size k (p.high + 1, p.low - 1) (w3.alloc (.cells #[.int .i64 p.low, .int .i64 p.high] 31)) :=
      ⟨M2.out.call hb4, D2.out.call hb4, R2.out.call hb4, Lies.fresh _ _ _⟩
    have hgb : gd + 1 < w3.heap.size := by have := HZ2.out; have := hb3.size; omega
    have hz5 : w3.heap.size < (w3.alloc (.cells #[.int .i64 p.low, .int .i64 p.high] 31)).heap.size := by simp
    clear M2 D2 R2 HRP hb3 hb4 HZ2
    generalize w3.heap.size = gb at *
    generalize w3.alloc (.cells #[.int .i64 p.low, .int .i64 p.high] 31) = w5 at *
    have HW := Lib.hid hW
    clear hW
    have hgd : w.heap.size + 1 ≤ gd := HZV.out
    refine range_givesK (n := 6) (gf := 86) rfl enters_all1 (all1_gives 5 (by omega) gb p.low p.high w5 (by omega) (by omega) (fun V => Lies V gb 31 #[.int .i64 p.low, .int .i64 p.high]) (fun V h => h)) (Below.refl _ _) (fun _ => rfl)
      (fun i V => HiM p D mb w (.slice A1 xs.length c1) xs Ds gd (gd + 1) gb k (p.d.heldTo (p.d.vals (p.d.ds.drop k)) i) V)
      (fun _ _ _ => False) ?hI ?hIx HW.out ?hSt
      (fun x a' _ => a' = { tmps := #[.agg (keC p D mb).toArray, .pointer (some ⟨w.heap.size, 0, none⟩), .slice A1 xs.length c1, .bool false, .pointer (some ⟨gd, 0, none⟩), .pointer (some ⟨gd + 1, 0, none⟩), .int .i64 x, .pointer (some ⟨w.heap.size, 0, none⟩), .pointer (some ⟨w.heap.size, 6, none⟩), .slice p.ds.A N p.ds.c, .int .i64 N, .int .i64 k, .bool true, .int .i64 k, .pointer (some ⟨w.heap.size, 0, none⟩), .pointer (some ⟨w.heap.size, 1, none⟩), .int .i64 p.high, .int .i64 (p.high + 1), .pointer (some ⟨w.heap.size, 0, none⟩), .pointer (some ⟨w.heap.size, 0, none⟩), .int .i64 p.low, .int .i64 (p.low - 1), .agg #[.int .i64 (p.high + 1), .int .i64 (p.low - 1)], .pointer (some ⟨w.heap.size, 0, none⟩), .agg p.cells.toArray, .agg #[.int .i64 p.low, .int .i64 p.high], .func (.func 86) #[] #[.pointer (some ⟨gb, 0, none⟩)], .int .i64 x, u28, u29, u30, u31, u32, u33, u34, u35, u36, u37, u38, u39, u40, u41, u42, u43, u44, u45, u46, u47, u48, u49, u50, u51, u52, u53, u54, undef], defers := [] }) ?hAx ?assign ?body ?done ?stop
    case hI =>
      intro i V V' h ht
      exact h.recs ht (by omega) (by omega) (fun x hx => by have := HDV.out x hx; omega)
    case hIx =>
      intro c i V V' h ht
      exact h
    case hSt =>
      intro i V h
      exact h.b
    case hAx =>
      rintro x a' V V' rfl ht
      rfl
    case stop =>
      intro D1 c i V hD1 hk' hi hd
      exact hi.elim
    case assign =>
      intro l2 i x V K hx hi hK
      have HIN := Lib.hid hi
      clear hx hi
      simp only [encY]
      gi_wp2_with (fail)
      exact hK _ _ (Keep.refl _ _) HIN.out rfl
    case body =>
      rintro l2 i x a' V hl2 hx hi rfl
      obtain ⟨hin, rfl⟩ := rngL_some hx
      obtain ⟨m, hm⟩ : ∃ m : Nat, p.low + (i : Int) = (m : Int) := ⟨(p.low + (i : Int)).toNat, by omega⟩
      have hm60 : m ≤ 60 := by omega
      have hmz : (m : Int) ≤ 60 := by omega
      have hm0 : (0 : Int) ≤ (m : Int) := by omega
      obtain ⟨y, hy⟩ : ∃ y, y = p.d.vals (p.d.ds.drop k) (m : Int) := ⟨_, rfl⟩
      have hkl : k ≤ p.ds.l.length := by have := HN.out; omega
      have hyc : V.cell? ⟨D, k * 61 + m, none⟩ = some (.int .i64 y) := by rw [hy]; exact hi.h.e.c.at_ (by omega) hkl (by omega) (by omega)
      have hstep : p.d.heldTo (p.d.vals (p.d.ds.drop k)) (i + 1) = if y = -1 then p.d.heldTo (p.d.vals (p.d.ds.drop k)) i else (min (p.d.heldTo (p.d.vals (p.d.ds.drop k)) i).1 (m : Int), max (p.d.heldTo (p.d.vals (p.d.ds.drop k)) i).2 (m : Int)) := by
        rw [hy, ← hm]; rfl
      obtain ⟨⟨lo, hi'⟩, hr⟩ : ∃ r, r = p.d.heldTo (p.d.vals (p.d.ds.drop k)) i := ⟨_, rfl⟩
      rw [← hr] at hstep hi
      dsimp only at hstep
      have HIN := Lib.hid hi
      have HST := Lib.hid hstep
      rw [hm]
      have c29 : V.cell? ⟨w.heap.size, 7, none⟩ = some (.slice (some ⟨D, 0, none⟩) (p.ds.l.length + 1) (p.ds.l.length + 1)) := hi.h.k.at_ 7
      have c30 : V.cell? ⟨gd, 0, none⟩ = some (.int .i64 k) := hi.d.at_ 0
      have c37 : V.cell? ⟨gd + 1, 0, none⟩ = some (.int .i64 lo) := hi.r.at_ 0
      have c41 : V.cell? ⟨gd + 1, 1, none⟩ = some (.int .i64 hi') := hi.r.at_ 1
      have f37 : V.frozen? ⟨gd + 1, 0, none⟩ = false := hi.r.free 0
      have f41 : V.frozen? ⟨gd + 1, 1, none⟩ = false := hi.r.free 1
      have hln1 : (k : Int) < (p.ds.l.length : Int) + 1 := by omega
      have hlnz : (p.ds.l.length : Int) ≤ 12 := by omega
      clear hx hi hstep hr hy hm
      by_cases hno : y = -1
      · have hne : ((y : Int) == -1) = true := by simp [hno]
        have HS2 := Lib.hid (show p.d.heldTo (p.d.vals (p.d.ds.drop k)) (i + 1) = (lo, hi') by rw [HST.out, if_pos hno])
        subst hno
        gi_wp2_with (fail)
        refine ⟨Keep.refl _ _, ?_⟩
        show HiM p D mb w (.slice A1 xs.length c1) xs Ds gd (gd + 1) gb k (p.d.heldTo (p.d.vals (p.d.ds.drop k)) (i + 1)) _
        rw [HS2.out]
        exact HIN.out
      · have hne : ((y : Int) == -1) = false := by simpa using hno
        have HS2 := Lib.hid (show p.d.heldTo (p.d.vals (p.d.ds.drop k)) (i + 1) = (min lo (m : Int), max hi' (m : Int)) by rw [HST.out, if_neg hno])
        gi_wp2_with (fail)
        have hvg : (Value.slice A1 xs.length c1).ownBlock ≠ some (gd + 1) := fun e => by have := HOB.out _ e; omega
        refine ⟨(Keep.of_only (Only.set _ _ _ _) (by omega)).trans (Keep.of_only (Only.set _ _ _ _) (by omega)), ?_⟩
        show HiM p D mb w (.slice A1 xs.length c1) xs Ds gd (gd + 1) gb k (p.d.heldTo (p.d.vals (p.d.ds.drop k)) (i + 1)) _
        rw [HS2.out]
        have h1 := HIN.out.set (r' := (min lo (m : Int), hi')) (by omega) (by omega) (by omega) hDw HAW.out hvg (Only.set (gd + 1) 0 V (.int .i64 (min lo (m : Int)))) (HIN.out.r.set 0 _)
        exact h1.set (r' := (min lo (m : Int), max hi' (m : Int))) (by omega) (by omega) (by omega) hDw HAW.out hvg (Only.set (gd + 1) 1 _ (.int .i64 (max hi' (m : Int)))) (h1.r.set 1 _)
    case done =>
      intro D1 V hD1 hi hd
      rw [rngL_length] at hi
      have hrr : p.d.heldTo (p.d.vals (p.d.ds.drop k)) (p.high + 1 - p.low).toNat = p.d.rangeAt k := rfl
      rw [hrr] at hi
      obtain ⟨⟨lo, hi'⟩, hr⟩ : ∃ r, r = p.d.rangeAt k := ⟨_, rfl⟩
      rw [← hr] at hi
      have hbb := PoD.rangeAt_b (p := p.d) hl1 k
      rw [← hr] at hbb
      obtain ⟨b0, b1, b2, b3⟩ := hbb
      have HRR := Lib.hid hr
      have c46 : V.cell? ⟨gd + 1, 0, none⟩ = some (.int .i64 lo) := hi.r.at_ 0
      have c48 : V.cell? ⟨gd + 1, 1, none⟩ = some (.int .i64 hi') := hi.r.at_ 1
      have M1 := Lib.hid (hi.h.mark hd (by omega) (fun x hx e => by have := HDV.out x hx; omega))
      have hkl : k < p.ds.l.length := by have := HN.out; omega
      have HKL := Lib.hid hkl
      clear hi hd hr hrr hkl
      by_cases hgt : hi' < lo
      · have HNO := Lib.hid (show p.d.canHold = false by
          unfold PoD.canHold
          rw [Bool.eq_false_iff]
          intro h
          rw [List.all_eq_true] at h
          have := h k (List.mem_range.2 HKL.out)
          rw [decide_eq_true_eq, ← HRR.out] at this
          dsimp only at this
          omega)
        go_wp2
        refine leave_marks (B := w.heap.size + 1) (fun A => Below w.heap.size w A) (fun A A' h hr => hr.below h (by omega) h.size) (fun A h => ⟨_, results_tmp2 rfl _ _ _, ?_⟩) (D1 :: Ds) V M1.out.b M1.out.n M1.out.d
        refine ⟨none, 0, ?_, ?_, h⟩
        · rw [HLL.out, HCB.out, HNO.out]; rfl
        · rw [HLL.out, HNO.out]; exact fun h => absurd rfl h
      · have hle : lo ≤ hi' := by omega
        have K53 := Lib.hid True.intro
        have HA1 : Below V.heap.size V (V.alloc (.cells #[.int .i64 lo, .int .i64 hi'] 31)) := (Below.refl _ _).alloc (Nat.le_refl _) _
        have M3 := Lib.hid (M1.out.call HA1)
        have R3 := Lib.hid (show (V.alloc (.cells #[.int .i64 lo, .int .i64 hi'] 31)).rangeAt V.heap.size 0 (encRg (lo, hi')) from Lies.range (cs := encRg (lo, hi')) (Lies.fresh _ _ _) (fun j v hj => by simpa using hj))
        have hxl : xs.length ≤ 12 := by rw [HX.out, List.length_take]; omega
        have HXL := Lib.hid hxl
        have hsz := M3.out.size
        have HSZ := Lib.hid hsz
        clear HA1 hxl hsz
        go_wp2_with (have h := K53; clear h; refine wpList_app_rg (o := ⟨some 53, _, _, _, _, _⟩) ?_ (.tmp 50) (.tmp 52) ?_ (w.heap.size + 1) _ xs ?_ M3.out.o V.heap.size 1 (lo, hi') ?_ R3.out (by have := HXL.out; omega) HSZ.out ?_; rfl; rfl; rfl; rfl; intro g3 cap3 u3 ho3 hg3 hat3; have M4 := Lib.hid (M3.out.app hDw hmb HAW.out ho3 hg3); clear ho3 hg3 hat3; clear K53)
        have hx1 : xs ++ [(lo, hi')] = p.d.holdL.take (k + 1) := by rw [HX.out, List.take_add_one, PoD.holdL_at p.d HKL.out, HRR.out]; rfl
        have hb1 : ∀ i, i < k + 1 → (p.d.rangeAt i).1 ≤ (p.d.rangeAt i).2 := by
          intro i hi
          by_cases e : i = k
          · subst e; rw [← HRR.out]; exact hle
          · exact HBE.out i (by omega)
        rw [show xs.length + 1 = (xs ++ [(lo, hi')]).length by simp, show (k : Int) + 1 = ((k + 1 : Nat) : Int) by omega]
        exact ⟨n - 1, by omega, k + 1, xs ++ [(lo, hi')], some ⟨g3, 0, none⟩, cap3, D1 :: Ds, _, _, _, _, _, _, _, _, _, _, _, _, _, _, _, _, _, _, _, _, _, _, _, _, _, _, _, _, _, _, _, _, _, _, _, _, _, _, _, _, _, _, _, _, _, _, by omega, hx1, hb1, M4.out, rfl⟩
  · obtain rfl : k = N := by omega
    have HYES := Lib.hid (show p.d.canHold = true by
      unfold PoD.canHold
      rw [List.all_eq_true]
      intro i hi
      rw [decide_eq_true_eq]
      exact HBE.out i (by have h1 : i < p.ds.l.length := List.mem_range.1 hi; have := HN.out; omega))
    have HXX := Lib.hid (show xs = p.d.holdL by rw [HX.out]; exact List.take_of_length_le (by rw [PoD.holdL_length]; show p.ds.l.length ≤ k; have := HN.out; omega))
    go_wp2
    refine leave_marks (B := w.heap.size + 1) (fun A => A.ownsRow (w.heap.size + 1) 31 2 (.slice A1 xs.length c1) xs.length (xs.flatMap encRg) ∧ Below w.heap.size w A) (fun A A' h hr => ⟨own_recs h.1 hr, hr.below h.2 (by omega) h.2.size⟩) (fun A h => ⟨_, results_tmp2 rfl _ _ _, ?_⟩) Ds V ⟨HM.out.o, HM.out.b⟩ HM.out.n HM.out.d
    refine ⟨A1, c1, ?_, ?_, h.2⟩
    · rw [HLL.out, HCB.out, HYES.out, if_pos rfl, ← HXX.out]; rfl
    · rw [HLL.out, HYES.out, if_pos rfl, ← HXX.out]
      obtain ⟨A', c', e', _, hs⟩ := Sl.of_own (enc := encRg) (l := xs) (fun _ => rfl) h.1 rfl
      cases e'
      exact hs
end Go.Proofs.Yteognijlgalahaa

/- Hold. -/
namespace Go.Proofs.Yteognijlgalahaa
open Go.RowKit Go.Lib
attribute [local go_sem] Oper.semAt_some

/-- What Hold hands back. -/
def HoldO (x : List (Int × Int) × Int) (w : World) (e : Ending) (w' : World) : Prop := ∃ A c, e = .returned (.tuple #[.slice A x.1.length c, .int .i64 x.2]) ∧ Sl w' w'.heap.size 2 encRg A x.1 ∧ Below w.heap.size w w'
theorem nilRg (w : World) : Sl w w.heap.size 2 encRg none [] := fun h => absurd rfl h
set_option maxRecDepth 100000 in
set_option maxHeartbeats 4000000 in
theorem Hold_any (p : PoM) (w : World) (hp : p.At w w.heap.size) : Calls Try.prog 19 #[.agg p.cells.toArray] w (HoldO p.d.holdR w) := by
  have l0 : Lies (w.alloc (.cells p.cells.toArray 34)) w.heap.size 34 p.cells.toArray := Lies.fresh _ _ _
  have b0 : Below w.heap.size w (w.alloc (.cells p.cells.toArray 34)) := (by repeat (first | (with_reducible assumption) | (with_reducible exact Below.refl _ _) | (with_reducible refine Below.drew ?_) | (with_reducible refine below_drewN ?_ _) | ((with_reducible refine Below.setCell ?_ ?_ _); rotate_left; focus (first | (simp; done) | (simp; omega) | omega)) | ((with_reducible refine Below.alloc ?_ ?_ _); rotate_left; focus (first | (simp; done) | (simp; omega) | omega))))
  have hv := CheckPolder_any p (w.alloc (.cells p.cells.toArray 34)) (hp.below b0 b0.size)
  have hke : ∀ W, p.d.fault = 0 → Below w.heap.size w W → Calls Try.prog 48 #[.agg p.cells.toArray] W fun e w' => ∃ D mb, e = .returned (.agg (keC p D mb).toArray) ∧ KeM p p.T 0 D mb w' ∧ Below W.heap.size W w' := fun W h hb => (keep_any p W (PoD.fault_iff.1 h) (hp.below hb hb.size)).mono (by rintro e w' ⟨D, mb, h1, h2, h3, h4, h5⟩; exact ⟨D, mb, h1, h2, h5⟩)
  have hco : p.d.fault = 0 → ∀ D mb W, KeM p p.T 0 D mb W → Calls Try.prog 49 #[.agg (keC p D mb).toArray] W (HeldE (if p.d.canHold then p.d.holdL else []) p.d.canHold W) := fun h D mb W hk => held_any p D mb W hk (PoD.fault_iff.1 h)
  have hf : p.d.holdR = if p.d.fault ≠ 0 then ([], p.d.fault) else if p.d.canHold then (p.d.holdL, 0) else ([], 9) := rfl
  have HV := Lib.hid hv
  have HF := Lib.hid hf
  have HK := Lib.hid hke
  have HC := Lib.hid hco
  have L0 := Lib.hid l0
  have B0 := Lib.hid b0
  have K7 := Lib.hid True.intro
  clear hv hf l0 b0 hp hke hco
  generalize p.d.holdR = rr at *
  generalize p.d.holdL = hl at *
  generalize p.d.canHold = cb at *
  generalize p.d.fault = ff at *
  go_enter Try.func19, Try.ntmps19
  go_upto_region 2 with (first
    | (have h := K7; clear h; refine wpList_load_row (o := ⟨some 7, _, _, _, _, _⟩) ?_ 34 (.tmp 1) ?_ w.heap.size ?_ 34 p.cells.toArray (0, 0) _ L0.out Try.underlying34 rfl size_po ?_; rfl; rfl; rfl; clear K7)
    | (go_at_call 17; refine HV.out.mono ?_; rintro e w2 ⟨rfl, hb2⟩))
  have B2 := Lib.hid (B0.out.trans (hb2.mono B0.out.size))
  have L2 := Lib.hid (L0.out.call hb2)
  clear hb2 HV L0 B0
  by_cases h0 : ff = 0
  · subst h0
    have HKK := Lib.hid (HK.out w2 rfl B2.out)
    have HCC := Lib.hid (HC.out rfl)
    rw [if_neg (by simp)] at HF
    clear HK HC
    cases cb with
    | true =>
      rw [if_pos rfl] at HF HCC
      have K13 := Lib.hid True.intro
      go_wp2_with (first
        | (have h := K13; clear h; refine wpList_load_row (o := ⟨some 13, _, _, _, _, _⟩) ?_ 34 (.tmp 1) ?_ w.heap.size ?_ 34 p.cells.toArray (0, 0) _ L2.out Try.underlying34 rfl size_po ?_; rfl; rfl; rfl; clear K13)
        | (go_at_call 48; refine HKK.out.mono ?_; rintro e w3 ⟨D, mb, rfl, hk3, hb3⟩; have K3 := Lib.hid hk3; have B3 := Lib.hid (B2.out.trans (hb3.mono B2.out.size)); clear hk3 hb3 HKK)
        | (go_at_call 49; refine (HCC.out D mb _ K3.out).mono ?_; rintro e w4 ⟨A4, c4, rfl, hs4, hb4⟩; have S4 := Lib.hid hs4; have B4 := Lib.hid (B3.out.trans (hb4.mono B3.out.size)); clear hs4 hb4))
      go_ret2
      rw [HF.out]
      exact ⟨A4, c4, rfl, S4.out, B4.out⟩
    | false =>
      rw [if_neg (by simp)] at HF HCC
      have K13 := Lib.hid True.intro
      go_wp2_with (first
        | (have h := K13; clear h; refine wpList_load_row (o := ⟨some 13, _, _, _, _, _⟩) ?_ 34 (.tmp 1) ?_ w.heap.size ?_ 34 p.cells.toArray (0, 0) _ L2.out Try.underlying34 rfl size_po ?_; rfl; rfl; rfl; clear K13)
        | (go_at_call 48; refine HKK.out.mono ?_; rintro e w3 ⟨D, mb, rfl, hk3, hb3⟩; have K3 := Lib.hid hk3; have B3 := Lib.hid (B2.out.trans (hb3.mono B2.out.size)); clear hk3 hb3 HKK)
        | (go_at_call 49; refine (HCC.out D mb _ K3.out).mono ?_; rintro e w4 ⟨A4, c4, rfl, hs4, hb4⟩; have B4 := Lib.hid (B3.out.trans (hb4.mono B3.out.size)); clear hs4 hb4))
      go_ret2
      rw [HF.out]
      exact ⟨none, 0, rfl, nilRg _, B4.out⟩
  · have hne : ((ff : Int) == 0) = false := by simpa using h0
    have hne2 : ((ff : Int) != 0) = true := by simpa using h0
    rw [if_pos h0] at HF
    clear h0 HK HC
    go_wp2
    go_ret2
    rw [HF.out]
    exact ⟨none, 0, rfl, nilRg _, B2.out⟩
end Go.Proofs.Yteognijlgalahaa

/- What Hold and Best tell of each other: the mathematics. -/
namespace Go.Proofs.Yteognijlgalahaa
open Go.RowKit

theorem bestR_kept {p : PoD} (h : p.Ok) {d : Nat} {lv : Int} (hd : d < p.ds.length) (hk : p.kept lv) : ∃ a c : Int, c = p.vals (p.ds.drop d) lv ∧ -1 ≤ c ∧ p.bestR d lv = if c = -1 then (0, 0, 9) else (a, c, 0) := by
  obtain ⟨dy, hdy⟩ : ∃ dy, p.ds[d]? = some dy := ⟨p.ds[d], by simp [hd]⟩
  obtain ⟨b, hb⟩ : ∃ b, b = p.bestD (p.vals (p.ds.drop (d + 1))) dy lv := ⟨_, rfl⟩
  have hdr : p.ds.drop d = dy :: p.ds.drop (d + 1) := by rw [List.drop_eq_getElem_cons hd, (List.getElem?_eq_some_iff.1 hdy).2]
  have hv : p.vals (p.ds.drop d) lv = b.2 := by rw [hdr, hb]; rfl
  have hge : -1 ≤ b.2 := by rw [← hv]; exact h.cstDrop d lv
  refine ⟨b.1, b.2, hv.symm, hge, ?_⟩
  have h0 : p.levR d lv = 0 := PoD.levR_zero.2 ⟨h, by unfold PoD.levB; rw [Bool.and_eq_true, Bool.and_eq_true, decide_eq_true_eq, decide_eq_true_eq, inB_iff]; unfold PoD.kept at hk; omega⟩
  unfold PoD.bestR
  rw [h0, if_neg (by simp)]
  have e : p.ds.getD (d : Int).toNat ⟨0, 0, 0, 0, 0⟩ = dy := by rw [Int.toNat_natCast, List.getD, hdy]; rfl
  rw [e, Int.toNat_natCast, ← hb]
theorem bestR_out {p : PoD} (h : p.Ok) {d : Nat} {lv : Int} (hk : ¬ p.kept lv) : p.bestR d lv = (0, 0, 2) := by
  have h0 : p.levR d lv = 2 := by
    unfold PoD.levR
    rw [PoD.fault_iff.2 h, if_neg (by simp), if_neg]
    unfold PoD.levB
    rw [Bool.and_eq_true, Bool.and_eq_true, inB_iff]
    exact fun hh => hk hh.2
  unfold PoD.bestR
  rw [h0, if_pos (by decide)]
theorem ends_all {p : PoD} (h : p.Ok) {d : Nat} (hd : d < p.ds.length) :
    (p.holdR = ([], 9) ∧ ∀ lv, p.kept lv → p.bestR 0 lv = (0, 0, 9)) ∨
      (∃ lo hi, p.holdR = (p.holdL, 0) ∧ p.holdL.length = p.ds.length ∧ p.holdL[d]? = some (lo, hi) ∧ p.low ≤ lo ∧ lo ≤ hi ∧ hi ≤ p.high ∧
        ∀ lv, (p.kept lv ∧ inB lv lo hi = true ∧ ∃ a c, 0 ≤ c ∧ p.bestR d lv = (a, c, 0)) ∨ (p.kept lv ∧ inB lv lo hi = false ∧ p.bestR d lv = (0, 0, 9)) ∨ (¬ p.kept lv ∧ inB lv lo hi = false ∧ p.bestR d lv = (0, 0, 2))) := by
  have hf := PoD.fault_iff.2 h
  cases hc : p.canHold with
  | false =>
    refine .inl ⟨?_, fun lv hk => ?_⟩
    · unfold PoD.holdR
      rw [hf, hc, if_neg (by simp), if_neg (by simp)]
    · obtain ⟨j, hj, hlt⟩ : ∃ j, j < p.ds.length ∧ ¬ (p.rangeAt j).1 ≤ (p.rangeAt j).2 := by
        unfold PoD.canHold at hc
        rw [List.all_eq_false] at hc
        obtain ⟨j, hj, hd⟩ := hc
        exact ⟨j, List.mem_range.1 hj, by simpa using hd⟩
      have hno : ∀ lv, p.kept lv → p.vals (p.ds.drop j) lv = -1 := by
        unfold PoD.rangeAt at hlt
        rcases PoD.heldD_spec (p := p) h.l1 (p.vals (p.ds.drop j)) with ⟨h1, -⟩ | ⟨lo, hi, h1, -, h3, -⟩
        · exact h1
        · rw [h1] at hlt; exact absurd h3 hlt
      have h0 := PoD.none_before h.p0 h.i0 j h.d (by omega) hno lv hk
      obtain ⟨a, c, e1, e2, e3⟩ := bestR_kept h (d := 0) h.n1 hk
      rw [List.drop_zero, h0] at e1
      have e4 : p.bestR 0 lv = if c = -1 then (0, 0, 9) else (a, c, 0) := e3
      rw [e4, if_pos e1]
  | true =>
    obtain ⟨lo, hi, hr⟩ : ∃ lo hi, p.rangeAt d = (lo, hi) := ⟨_, _, rfl⟩
    have hle : lo ≤ hi := by
      unfold PoD.canHold at hc
      rw [List.all_eq_true] at hc
      have := hc d (List.mem_range.2 hd)
      rw [decide_eq_true_eq, hr] at this
      exact this
    have hr2 := hr
    unfold PoD.rangeAt at hr2
    rcases PoD.heldD_spec (p := p) h.l1 (p.vals (p.ds.drop d)) with ⟨-, h2⟩ | ⟨lo', hi', h1, h2, h3, h4, h5, h6, h7⟩
    · rw [hr2] at h2
      cases h2
      have := h.l1
      omega
    · rw [hr2] at h1
      cases h1
      refine .inr ⟨lo, hi, ?_, PoD.holdL_length p, by rw [PoD.holdL_at p hd, hr], h2, h3, h4, fun lv => ?_⟩
      · unfold PoD.holdR
        rw [hf, hc, if_neg (by simp), if_pos rfl]
      · by_cases hk : p.kept lv
        · obtain ⟨a, c, e1, e2, e3⟩ := bestR_kept h hd hk
          by_cases hin : lo ≤ lv ∧ lv ≤ hi
          · have hv : c ≠ -1 := by rw [e1]; exact PoD.convex h.p0 h.i0 (fun x hx => h.d x (List.mem_of_mem_drop hx)) lo hi lv hin.1 hin.2 h5 h6
            exact .inl ⟨hk, inB_iff.2 hin, a, c, by omega, by rw [e3, if_neg hv]⟩
          · have hv : c = -1 := Classical.byContradiction fun hv => hin (h7 lv hk (by rw [← e1]; exact hv))
            exact .inr (.inl ⟨hk, by rw [Bool.eq_false_iff]; intro hb; exact hin (inB_iff.1 hb), by rw [e3, if_pos hv]⟩)
        · refine .inr (.inr ⟨hk, ?_, bestR_out h hk⟩)
          rw [Bool.eq_false_iff]
          intro hb
          obtain ⟨h8, h9⟩ := inB_iff.1 hb
          exact hk ⟨by omega, by omega⟩
end Go.Proofs.Yteognijlgalahaa

/- PolderEnds: the walk. -/
namespace Go.Proofs.Yteognijlgalahaa
open Go.RowKit Go.Lib
attribute [local go_sem] Oper.semAt_some

theorem size_l4 : (Try.prog.info? 79).map (·.size) = some 4 := by kernel_rfl
theorem Sl.cellRg {w : World} {B : Nat} {A : Option Addr} {l : List (Int × Int)} (h : Sl w B 2 encRg A l) {i : Nat} {x : Int × Int} (hx : l[i]? = some x) : ∃ b off, A = some ⟨b, off, none⟩ ∧ b < B ∧ w.cell? ⟨b, off + i * 2, none⟩ = some (.int .i64 x.1) ∧ w.cell? ⟨b, off + i * 2 + 1, none⟩ = some (.int .i64 x.2) := by
  obtain ⟨b, off, e, hb, hc⟩ := h.at_ hx
  exact ⟨b, off, e, hb, hc 0 _ rfl, hc 1 _ rfl⟩
theorem In_below (n lo hi : Int) (w : World) : Calls Try.prog 25 #[.int .i64 n, .int .i64 lo, .int .i64 hi] w fun e w' => e = .returned (.bool (inB n lo hi)) ∧ Below w.heap.size w w' :=
  (In_any n lo hi w).mono fun e w' ⟨h1, h2⟩ => ⟨h1, by rw [← h2]; exact Below.refl _ _⟩
/-- Four levels. -/
def four (lo hi : Int) (k : Nat) : Int := if k = 0 then lo - 1 else if k = 1 then lo else if k = 2 then hi else hi + 1
theorem Best_with (q : PoM) (day lv : Int) {x : Int × Int × Int} (h : q.d.bestR day lv = x) (A : Option Addr) (c : Nat) (W : World) (hat : (q.withA A c).At W W.heap.size) :
    Calls Try.prog 23 #[.agg (q.withA A c).cells.toArray, .int .i64 day, .int .i64 lv] W fun e w' => e = .returned (.tuple #[.int .i64 x.1, .int .i64 x.2.1, .int .i64 x.2.2]) ∧ Below W.heap.size W w' := by
  subst h
  exact Best_any (q.withA A c) day lv W hat
set_option maxRecDepth 100000 in
set_option maxHeartbeats 16000000 in
theorem PolderEnds_walk (q : PoM) (x y : Nat) (w : World) (h : OpenPo q w) (hx255 : x ≤ 255) (hy255 : y ≤ 255) : Calls Try.prog 11 #[.agg q.cells.toArray, .int .u8 x, .int .u8 y] w fun e w' => e = .returned (.bool true) ∧ Below w.heap.size w w' := by
  have l0 : Lies (w.alloc (.cells q.cells.toArray 26)) w.heap.size 26 q.cells.toArray := Lies.fresh _ _ _
  have b0 : Below w.heap.size w (w.alloc (.cells q.cells.toArray 26)) := (by repeat (first | (with_reducible assumption) | (with_reducible exact Below.refl _ _) | (with_reducible refine Below.drew ?_) | (with_reducible refine below_drewN ?_ _) | ((with_reducible refine Below.setCell ?_ ?_ _); rotate_left; focus (first | (simp; done) | (simp; omega) | omega)) | ((with_reducible refine Below.alloc ?_ ?_ _); rotate_left; focus (first | (simp; done) | (simp; omega) | omega))))
  have hre := ready_any q (w.alloc (.cells q.cells.toArray 26)) ⟨(h.s.below b0).more b0.size, h.m, h.c⟩
  have hrr : q.d.readyB = true → q.d.Ok ∧ q.ds.l.length ≤ 12 := fun h => by
    unfold PoD.readyB at h
    rw [Bool.and_eq_true, decide_eq_true_eq, decide_eq_true_eq] at h
    have := PoD.fault_iff.1 h.2
    exact ⟨this, this.n2⟩
  have HR := Lib.hid hre
  have HRR := Lib.hid hrr
  have HO := Lib.hid h
  have L0 := Lib.hid l0
  have B0 := Lib.hid b0
  have K23 := Lib.hid True.intro
  clear l0 b0 hre hrr h
  cases hyy : q.d.readyB with
  | false =>
    rw [hyy] at HR
    clear hyy HRR
    go_enter Try.func11, Try.ntmps11
    go_upto_region 1 with (fail)
    change Code.wp _ _ _ _ (w.alloc (.cells q.cells.toArray 26))
    generalize w.alloc (.cells q.cells.toArray 26) = w1 at *
    go_wp2_with (first
      | (have h := K23; clear h; refine wpList_load_row (o := ⟨some 23, _, _, _, _, _⟩) ?_ 26 (.tmp 3) ?_ w.heap.size ?_ 26 q.cells.toArray (0, 0) _ L0.out Try.underlying26 rfl size_rp ?_; rfl; rfl; rfl; clear K23)
      | (go_at_call 42; refine HR.out.mono ?_; rintro e w2 ⟨rfl, hb2⟩)
      | (go_at_call 16; refine (wakes_any _).mono ?_; rintro e w3 ⟨rfl, hb3⟩))
    go_ret
    exact ⟨rfl, B0.out.trans ((hb2.trans (hb3.mono hb2.size)).mono B0.out.size)⟩
  | true =>
    rw [hyy] at HR
    obtain ⟨hok, hl12⟩ := HRR.out hyy
    have hn1 : 1 ≤ q.ds.l.length := hok.n1
    have hl0 : 0 ≤ q.low := hok.l0
    have hl1 : q.low ≤ q.high := hok.l1
    have hl2 : q.high ≤ 60 := hok.l2
    obtain ⟨N, hN⟩ : ∃ N, N = q.ds.l.length := ⟨_, rfl⟩
    obtain ⟨M, hM⟩ : ∃ M : Nat, (M : Int) = q.high - q.low + 1 := ⟨(q.high - q.low + 1).toNat, by omega⟩
    have hN0 : (N : Int) ≠ 0 := by omega
    have hNz : (N : Int) ≤ 12 := by omega
    have hM0 : (M : Int) ≠ 0 := by omega
    have hMz : (M : Int) ≤ 61 := by omega
    have hn0 : (0 : Int) ≤ (x : Int) % (N : Int) := Int.emod_nonneg _ (by omega)
    have hn1' : (x : Int) % (N : Int) < N := Int.emod_lt_of_pos _ (by omega)
    have hm0 : (0 : Int) ≤ (y : Int) % (M : Int) := Int.emod_nonneg _ (by omega)
    have hm1 : (y : Int) % (M : Int) < M := Int.emod_lt_of_pos _ (by omega)
    obtain ⟨d, hd⟩ : ∃ d : Nat, (x : Int) % (N : Int) = (d : Int) := ⟨x % N, by omega⟩
    obtain ⟨lv, hlv⟩ : ∃ lv : Int, q.low + (y : Int) % (M : Int) = lv := ⟨_, rfl⟩
    have hdN : d < q.ds.l.length := by omega
    have hdn : d < N := by omega
    have hlv0 : q.low ≤ lv := by omega
    have hlv1 : lv ≤ q.high := by omega
    have hall := ends_all (p := q.d) hok hdN
    have HALL := Lib.hid hall
    have hat : q.At w w.heap.size := HO.out.at_ (by omega)
    have HAT := Lib.hid hat
    have HN := Lib.hid hN
    have HD := Lib.hid hd
    have hl15 : q.ds.l.length ≤ 15 := by omega
    have HL15 := Lib.hid hl15
    have HKEPT := Lib.hid (show q.d.kept lv from ⟨hlv0, hlv1⟩)
    have hxz : (x : Int) ≤ 255 := by omega
    have hyz : (y : Int) ≤ 255 := by omega
    have hwx : IntKind.i64.wrap (x : Int) = x := IntWalk.i64_in _ (by omega)
    have hwy : IntKind.i64.wrap (y : Int) = y := IntWalk.i64_in _ (by omega)
    have hwM : IntKind.i64.wrap (q.high - q.low) = q.high - q.low := IntWalk.i64_in _ (by omega)
    have hwM1 : IntKind.i64.wrap (q.high - q.low + 1) = (M : Int) := by rw [IntWalk.i64_in _ (by omega), hM]
    have hwL : IntKind.i64.wrap (q.low + (y : Int) % (M : Int)) = lv := by rw [IntWalk.i64_in _ (by omega), hlv]
    clear hyy HRR hok hall hat hN hM hlv hdN hl15 hl12 hn1 HO
    go_enter Try.func11, Try.ntmps11
    go_upto_region 1 with (fail)
    change Code.wp _ _ _ _ (w.alloc (.cells q.cells.toArray 26))
    generalize w.alloc (.cells q.cells.toArray 26) = w1 at *
    go_upto_region 3 with (first
      | (have h := K23; clear h; refine wpList_load_row (o := ⟨some 23, _, _, _, _, _⟩) ?_ 26 (.tmp 3) ?_ w.heap.size ?_ 26 q.cells.toArray (0, 0) _ L0.out Try.underlying26 rfl size_rp ?_; rfl; rfl; rfl; clear K23)
      | (go_at_call 42; refine HR.out.mono ?_; rintro e w2 ⟨rfl, hb2⟩; have B2 := Lib.hid (B0.out.trans (hb2.mono B0.out.size)); have L2 := Lib.hid (L0.out.call hb2); clear hb2))
    clear HR B0 L0
    have K28 := Lib.hid True.intro
    rcases HALL.out with ⟨e1, e2⟩ | ⟨lo, hi, e1, ehl, ehd, elo, ele, ehi, eall⟩
    · have HE1 := Lib.hid (fun A3 c3 W (hat : (q.withA A3 c3).At W W.heap.size) => (show Calls Try.prog 19 #[.agg (q.withA A3 c3).cells.toArray] W (HoldO ([], 9) W) by
        have := Hold_any (q.withA A3 c3) W hat
        rw [show (q.withA A3 c3).d.holdR = ([], 9) from e1] at this
        exact this))
      have HE2 := Lib.hid (e2 lv HKEPT.out)
      clear e1 e2 HALL
      go_upto_region 5 with (first
        | (have h := K28; clear h; refine wpList_load_row (o := ⟨some 28, _, _, _, _, _⟩) ?_ 26 (.tmp 3) ?_ w.heap.size ?_ 26 q.cells.toArray (0, 0) _ L2.out Try.underlying26 rfl size_rp ?_; rfl; rfl; rfl; have K29 := Lib.hid True.intro; clear K28)
        | (have h := K29; clear h; go_at_call 18; refine (Copy_any q _ (HAT.out.below B2.out B2.out.size) HL15.out).mono ?_; rintro e w3 ⟨A3, c3, rfl, hat3, hb3⟩; have HT3 := Lib.hid hat3; have B3 := Lib.hid (B2.out.trans (hb3.mono B2.out.size)); have L3 := Lib.hid (L2.out.call hb3); clear hat3 hb3; have K30 := Lib.hid True.intro; clear K29)
        | (have h := K30; clear h; go_at_call 19; refine (HE1.out A3 c3 _ HT3.out).mono ?_; rintro e w4 ⟨A4, c4, rfl, _, hb4⟩; have B4 := Lib.hid (B3.out.trans (hb4.mono B3.out.size)); have L4 := Lib.hid (L3.out.call hb4); have c36 : w4.cell? ⟨w.heap.size, 6, none⟩ = some (.slice q.ds.A N q.ds.c) := (by rw [HN.out]; exact L4.out.at_ 6); clear hb4; clear K30))
      have c40 := (show w4.cell? ⟨w.heap.size, 0, none⟩ = some (.int .i64 q.low) from L4.out.at_ 0)
      have c44 := (show w4.cell? ⟨w.heap.size, 1, none⟩ = some (.int .i64 q.high) from L4.out.at_ 1)
      clear c36
      go_quiet (fail)
      clear c40 c44
      have hbd : Below w4.heap.size w4 (w4.drewN nq) := below_drewN (Below.refl _ _) nq
      have B5 := Lib.hid (B4.out.trans (hbd.mono B4.out.size))
      have L5 := Lib.hid (L4.out.call hbd)
      clear hbd B4 L4
      generalize w4.drewN nq = w5 at *
      have K54 := Lib.hid True.intro
      go_wp2_with (first
        | (have h := K54; clear h; refine wpList_load_row (o := ⟨some 54, _, _, _, _, _⟩) ?_ 26 (.tmp 3) ?_ w.heap.size ?_ 26 q.cells.toArray (0, 0) _ L5.out Try.underlying26 rfl size_rp ?_; rfl; rfl; rfl; have K55 := Lib.hid True.intro; clear K54)
        | (have h := K55; clear h; go_at_call 18; refine (Copy_any q _ (HAT.out.below B5.out B5.out.size) HL15.out).mono ?_; rintro e w6 ⟨A5, c5, rfl, hat6, hb6⟩; have HT6 := Lib.hid hat6; have B6 := Lib.hid (B5.out.trans (hb6.mono B5.out.size)); have L6 := Lib.hid (L5.out.call hb6); clear hat6 hb6; have K57 := Lib.hid True.intro; clear K55)
        | (have h := K57; clear h; go_at_call 23; refine (Best_with q 0 lv HE2.out A5 c5 _ HT6.out).mono ?_; rintro e w7 ⟨rfl, hb7⟩; have B7 := Lib.hid (B6.out.trans (hb7.mono B6.out.size)); clear hb7; have KW := Lib.hid True.intro; clear K57)
        | (have h := KW; clear h; go_at_call 16; refine (wakes_any _).mono ?_; rintro e w11 ⟨rfl, hb11⟩; clear KW))
      go_ret
      exact ⟨rfl, B7.out.trans (hb11.mono B7.out.size)⟩
    · have ehl' : q.d.holdL.length = N := by rw [HN.out]; exact ehl
      obtain ⟨hl, hhl⟩ : ∃ hl, hl = q.d.holdL := ⟨_, rfl⟩
      rw [← hhl] at e1 ehl' ehd
      have HE1 := Lib.hid (fun A3 c3 W (hat : (q.withA A3 c3).At W W.heap.size) => (show Calls Try.prog 19 #[.agg (q.withA A3 c3).cells.toArray] W (HoldO (hl, 0) W) by
        have := Hold_any (q.withA A3 c3) W hat
        rw [show (q.withA A3 c3).d.holdR = (hl, 0) from e1] at this
        exact this))
      have HEA := Lib.hid eall
      have HHD := Lib.hid ehd
      have elo' : q.low ≤ lo := elo
      have ehi' : hi ≤ q.high := ehi
      clear e1 eall HALL ehl ehd hhl elo ehi
      go_upto_region 5 with (first
        | (have h := K28; clear h; refine wpList_load_row (o := ⟨some 28, _, _, _, _, _⟩) ?_ 26 (.tmp 3) ?_ w.heap.size ?_ 26 q.cells.toArray (0, 0) _ L2.out Try.underlying26 rfl size_rp ?_; rfl; rfl; rfl; have K29 := Lib.hid True.intro; clear K28)
        | (have h := K29; clear h; go_at_call 18; refine (Copy_any q _ (HAT.out.below B2.out B2.out.size) HL15.out).mono ?_; rintro e w3 ⟨A3, c3, rfl, hat3, hb3⟩; have HT3 := Lib.hid hat3; have B3 := Lib.hid (B2.out.trans (hb3.mono B2.out.size)); have L3 := Lib.hid (L2.out.call hb3); clear hat3 hb3; have K30 := Lib.hid True.intro; clear K29)
        | (have h := K30; clear h; go_at_call 19; refine (HE1.out A3 c3 _ HT3.out).mono ?_; rintro e w4 ⟨A4, c4, rfl, hs4, hb4⟩; have S4 := Lib.hid hs4; have B4 := Lib.hid (B3.out.trans (hb4.mono B3.out.size)); have L4 := Lib.hid (L3.out.call hb4); have c36 : w4.cell? ⟨w.heap.size, 6, none⟩ = some (.slice q.ds.A N q.ds.c) := (by rw [HN.out]; exact L4.out.at_ 6); clear hb4 hs4; clear K30))
      obtain ⟨bh, oh, hA4, hbh, hch1, hch2⟩ := S4.out.cellRg HHD.out
      subst hA4
      dsimp only at hch1 hch2
      have F1 := Lib.hid (fun V (h : Below w4.heap.size w4 V) => (show V.cell? ⟨bh, oh + d * 2, none⟩ = some (.int .i64 lo) from (h.cell (p := ⟨bh, oh + d * 2, none⟩) hbh).trans hch1))
      have F2 := Lib.hid (fun V (h : Below w4.heap.size w4 V) => (show V.cell? ⟨bh, oh + d * 2 + 1, none⟩ = some (.int .i64 hi) from (h.cell (p := ⟨bh, oh + d * 2 + 1, none⟩) hbh).trans hch2))
      have c40 := (show w4.cell? ⟨w.heap.size, 0, none⟩ = some (.int .i64 q.low) from L4.out.at_ 0)
      have c44 := (show w4.cell? ⟨w.heap.size, 1, none⟩ = some (.int .i64 q.high) from L4.out.at_ 1)
      clear c36 hbh hch1 hch2
      go_quiet (fail)
      clear c40 c44
      have hbd : Below w4.heap.size w4 (w4.drewN nq) := below_drewN (Below.refl _ _) nq
      have B5 := Lib.hid (B4.out.trans (hbd.mono B4.out.size))
      have L5 := Lib.hid (L4.out.call hbd)
      have W5 := Lib.hid hbd
      clear hbd B4 L4
      generalize w4.drewN nq = w5 at *
      rw [HD.out]
      clear hn0 hn1' hm0 hm1 hN0 hM0 hwM hwM1 hwL hwx hwy hxz hyz hMz ehl'
      have hdnz : (d : Int) < (N : Int) := by omega
      have hd0 : (0 : Int) ≤ (d : Int) := by omega
      have HI1 := Lib.hid (fun W => (show Calls Try.prog 25 #[.int .i64 lo, .int .i64 q.low, .int .i64 hi] W fun e w' => e = .returned (.bool true) ∧ Below W.heap.size W w' by
        have := In_below lo q.low hi W
        rw [inB_iff.2 ⟨elo', ele⟩] at this
        exact this))
      go_upto_region 9 with (fail)
      have r73 := cell_regrown (show w5.cell? ⟨w.heap.size, 6, none⟩ = some (.slice q.ds.A N q.ds.c) by rw [HN.out]; exact L5.out.at_ 6)
      have r81 := cell_regrown (F1.out _ W5.out)
      have r88 := cell_regrown (F2.out _ W5.out)
      have r83 := cell_regrown (show w5.cell? ⟨w.heap.size, 0, none⟩ = some (.int .i64 q.low) from L5.out.at_ 0)
      have r99 := cell_regrown (show w5.cell? ⟨w.heap.size, 1, none⟩ = some (.int .i64 q.high) from L5.out.at_ 1)
      have hgh : ¬ q.high < hi := by omega
      refine wp_region_quiet_below (by kernel_rfl) (by kernel_rfl) ?_; (repeat (first | go_big_quiet_step ((go_at_call 25; exact Calls.regrown_of (HI1.out _))) | quiet_step ((go_at_call 25; exact Calls.regrown_of (HI1.out _))))); refine wpQuiet_nil ?_; intro wq hwq; have hbq : Below _ _ wq := (by obtain ⟨p, rfl⟩ := hwq; exact below_regrown _ _ _); clear hwq
      clear r73 r81 r88 r83 r99 hgh HI1
      have B6 := Lib.hid (B5.out.trans (hbq.mono B5.out.size))
      have L6 := Lib.hid (L5.out.call hbq)
      have W6 := Lib.hid (W5.out.trans (hbq.mono W5.out.size))
      clear hbq B5 L5 W5
      go_upto_region 11 with (fail)
      have hw1 : IntKind.i64.wrap (lo - 1) = lo - 1 := IntWalk.i64_in _ (by omega)
      have hw2 : IntKind.i64.wrap (hi + 1) = hi + 1 := IntWalk.i64_in _ (by omega)
      have r1 : ∀ cc : Cls (fun W => Below wq.heap.size wq W), cc.val.cell? ⟨bh, oh + d * 2, none⟩ = some (.int .i64 lo) := fun cc => F1.out _ (W6.out.trans (cc.h.mono W6.out.size))
      have r2 : ∀ cc : Cls (fun W => Below wq.heap.size wq W), cc.val.cell? ⟨bh, oh + d * 2 + 1, none⟩ = some (.int .i64 hi) := fun cc => F2.out _ (W6.out.trans (cc.h.mono W6.out.size))
      haveI hne : Nonempty (Cls (fun W => Below wq.heap.size wq W)) := ⟨⟨wq, Below.refl _ _⟩⟩
      refine wp_region_wayw [0, 1, 2, 3, 4, 5, 6, 7, 8, 9, 10, 11, 12, 13, 14, 15, 16, 17, 18, 19, 20, 21, 22] (.way 23 (.way 24 .fin .fin) .fin) (fun W => ∃ cc : Cls (fun W => Below wq.heap.size wq W), W = cc.val) (by kernel_rfl) (by kernel_rfl) (Cls.here (Below.refl _ _).drew) ?_
      simp only [List.filterMap_cons, List.filterMap_nil, List.getElem?_toArray, List.getElem?_cons_zero, List.getElem?_cons_succ]
      repeat (first | go_big_quiet_step (rfl) | quiet_step (rfl))
      refine wpQuiet_nil ?_
      have D0 := Lib.hid (show Below wq.heap.size wq wq.drew from (Below.refl _ _).drew)
      generalize wq.drew = d0 at *
      rw [wpWy_way]
      refine ⟨?_, by exact trivial⟩
      simp only [List.getElem?_toArray, List.getElem?_cons_succ, List.getElem?_cons_zero]
      go_wp2
      have D1 := Lib.hid (D0.out.alloc D0.out.size (.cells #[.int .i64 0, .int .i64 0, .int .i64 0, .int .i64 0] 79))
      have Z1 := Lib.hid (Lies.fresh d0 79 #[.int .i64 0, .int .i64 0, .int .i64 0, .int .i64 0])
      refine Ends.intro ⟨Cls.here D1.out, ?_⟩
      have HG := Lib.hid (show wq.heap.size ≤ d0.heap.size from D0.out.size)
      generalize d0.alloc (.cells #[.int .i64 0, .int .i64 0, .int .i64 0, .int .i64 0] 79) = d1 at *
      generalize d0.heap.size = g14 at *
      clear D0 r1 r2
      rw [wpWy_way]
      refine ⟨?_, by exact trivial⟩
      simp only [List.getElem?_toArray, List.getElem?_cons_succ, List.getElem?_cons_zero]
      go_wp2_with (refine wpList_store_cells (o := ⟨none, .store 79 (.tmp 14) _, _, _, _, _⟩) ?_ 79 (.tmp 14) (.tmp 124) ?_ g14 0 ?_ 79 [.int .i64 0, .int .i64 0, .int .i64 0, .int .i64 0] [.int .i64 (lo - 1), .int .i64 lo, .int .i64 hi, .int .i64 (hi + 1)] ?_ Z1.out (by simp) size_l4 (by intro u hu; simp only [List.mem_cons, List.not_mem_nil, or_false] at hu; rcases hu with rfl | rfl | rfl | rfl <;> rfl) ?_; rfl; rfl; rfl; rfl; intro d2 HS2 HO2)
      have hs2 := HS2.out
      rw [splice_whole (by simp)] at hs2
      have D2 := Lib.hid (HO2.out.below D1.out HG.out)
      have T2 := Lib.hid hs2
      refine Ends.intro ⟨Cls.here D2.out, ?_⟩
      clear hs2 HS2 HO2 D1 Z1 hne
      rw [wpWy_fin]
      have B7 := Lib.hid (B6.out.trans (D2.out.mono B6.out.size))
      have L7 := Lib.hid (L6.out.call D2.out)
      have W7 := Lib.hid (W6.out.trans (D2.out.mono W6.out.size))
      clear D2 B6 L6 W6
      have K174 := Lib.hid True.intro
      go_upto_region 12 with (fail)
      go_wp2
      go_loopw [6, 15, 16, 17, 18, 19] (fun _ s15 _ _ _ _ wr => ∃ (k : Nat), k ≤ 4 ∧ s15 = .int .i64 k ∧ Aside (Below d2.heap.size d2 wr)) (fun _ i _ _ _ _ _ => 4 - (intOf i).toNat)
      case atStart => exact ⟨0, by omega, rfl, Below.refl _ _⟩
      case round =>
        obtain ⟨k, hk4, rfl, HW⟩ := hrel
        have BW := Lib.hid (B7.out.trans (HW.out.mono B7.out.size))
        have LW := Lib.hid (L7.out.call HW.out)
        have TW := Lib.hid (T2.out.call HW.out)
        have WW := Lib.hid HW.out
        clear HW
        by_cases hlt : k < 4
        · have hltz : (k : Int) < 4 := by omega
          have hk0 : (0 : Int) ≤ (k : Int) := by omega
          obtain ⟨xk, hxk⟩ : ∃ xk, xk = four lo hi k := ⟨_, rfl⟩
          have hcx : ∀ V, Below wr.heap.size wr V → V.cell? ⟨g14, k, none⟩ = some (.int .i64 xk) := fun V hb => by
            have h := TW.out.call hb
            rw [hxk]
            have : k = 0 ∨ k = 1 ∨ k = 2 ∨ k = 3 := by omega
            rcases this with rfl | rfl | rfl | rfl
            · exact h.at_ 0
            · exact h.at_ 1
            · exact h.at_ 2
            · exact h.at_ 3
          have HCX := Lib.hid hcx
          have hthree : ((k = 1 ∨ k = 2) ∧ ∃ a c, q.d.bestR d xk = (a, c, 0)) ∨ ((k ≠ 1 ∧ k ≠ 2) ∧ q.d.bestR d xk = (0, 0, 9)) ∨ ((k ≠ 1 ∧ k ≠ 2) ∧ q.d.bestR d xk = (0, 0, 2) ∧ inB xk q.low q.high = false) := by
            have h := HEA.out xk
            have hk : k = 0 ∨ k = 1 ∨ k = 2 ∨ k = 3 := by omega
            have hout : ∀ z, inB z lo hi = false → ¬ (lo ≤ z ∧ z ≤ hi) := fun z hz hh => by rw [inB_iff.2 hh] at hz; cases hz
            have hin : ∀ z, inB z lo hi = true → lo ≤ z ∧ z ≤ hi := fun z hz => inB_iff.1 hz
            have hnk : ∀ z, ¬ q.d.kept z → inB z q.low q.high = false := fun z hz => by rw [Bool.eq_false_iff]; intro hb; exact hz (inB_iff.1 hb)
            rcases h with ⟨h1, h2, a, c, h3, h4⟩ | ⟨h1, h2, h3⟩ | ⟨h1, h2, h3⟩
            · refine .inl ⟨?_, a, c, h4⟩
              have := hin _ h2
              rcases hk with rfl | rfl | rfl | rfl
              · have e : xk = lo - 1 := hxk
                omega
              · exact .inl rfl
              · exact .inr rfl
              · have e : xk = hi + 1 := hxk
                omega
            · refine .inr (.inl ⟨?_, h3⟩)
              have := hout _ h2
              rcases hk with rfl | rfl | rfl | rfl
              · omega
              · have e : xk = lo := hxk
                omega
              · have e : xk = hi := hxk
                omega
              · omega
            · refine .inr (.inr ⟨?_, h3, hnk _ h1⟩)
              have := hout _ h2
              rcases hk with rfl | rfl | rfl | rfl
              · omega
              · have e : xk = lo := hxk
                omega
              · have e : xk = hi := hxk
                omega
              · omega
          have HTH := Lib.hid hthree
          clear hcx hthree hxk
          have r135 : ∀ cc : Cls (fun W => Below wr.heap.size wr W), cc.val.cell? ⟨g14, k, none⟩ = some (.int .i64 xk) := fun cc => HCX.out _ cc.h
          have hrp : ∀ V, (∃ cc : Cls (fun W => Below wr.heap.size wr W), V = cc.val) → V.rangeAt w.heap.size 0 q.cells := by
            rintro V ⟨cc, rfl⟩
            exact Lies.range (cs := q.cells) (LW.out.call cc.h) (fun j v hj => by simpa using hj)
          have HRP := Lib.hid hrp
          clear hrp
          go_upto_region 15 with (fail)
          haveI hne : Nonempty (Cls (fun W => Below wr.heap.size wr W)) := ⟨⟨wr, Below.refl _ _⟩⟩
          refine wp_region_wayw [0, 2, 3, 4, 5] (.way 1 (.way 6 (.take 7 (.take 8 (.take 9 (.take 10 (.take 11 (.take 12 (.take 13 .fin))))))) .fin) .fin) (fun W => ∃ cc : Cls (fun W => Below wr.heap.size wr W), W = cc.val) (by kernel_rfl) (by kernel_rfl) (Cls.here (Below.refl _ _).drew) ?_
          simp only [List.filterMap_cons, List.filterMap_nil, List.getElem?_toArray, List.getElem?_cons_zero, List.getElem?_cons_succ]
          repeat (first
            | (refine wpQuiet_load_wholeG (o := ⟨some 130, _, _, _, _, _⟩) ?_ 26 (.tmp 3) ?_ w.heap.size 0 ?_ q.cells _ HRP.out Try.underlying26 rfl size_rp ?_; rfl; rfl; rfl; simp only [Act.put, List.setIfInBounds_toArray, List.set_cons_zero, List.set_cons_succ])
            | go_big_quiet_step (rfl) | quiet_step (rfl))
          refine wpQuiet_nil ?_
          have D0 := Lib.hid (show Below wr.heap.size wr wr.drew from (Below.refl _ _).drew)
          generalize wr.drew = d0 at *
          rw [wpWy_way]
          refine ⟨?_, by exact trivial⟩
          simp only [List.getElem?_toArray, List.getElem?_cons_succ, List.getElem?_cons_zero]
          go_wp2_with (go_at_call 18; refine (Copy_any q _ (HAT.out.below (BW.out.trans (D0.out.mono BW.out.size)) (BW.out.trans (D0.out.mono BW.out.size)).size) HL15.out).mono ?_; rintro e d1 ⟨A8, c8, rfl, hat8, hb8⟩)
          have D1 := Lib.hid (D0.out.trans (hb8.mono D0.out.size))
          have HT8 := Lib.hid hat8
          clear hb8 hat8 D0
          refine Ends.intro ⟨Cls.here D1.out, ?_⟩
          rw [wpWy_way]
          refine ⟨?_, by exact trivial⟩
          simp only [List.getElem?_toArray, List.getElem?_cons_succ, List.getElem?_cons_zero]
          rcases HTH.out with ⟨hka, a, c, hbe⟩ | ⟨⟨hk1, hk2⟩, hbe⟩ | ⟨⟨hk1, hk2⟩, hbe, hci⟩
          · rcases hka with rfl | rfl
            · have HBE := Lib.hid hbe
              clear hbe HTH
              go_wp2_with (go_at_call 23; refine (Best_with q d xk HBE.out A8 c8 _ HT8.out).mono ?_; rintro e d3 ⟨rfl, hb9⟩)
              have D3 := Lib.hid (D1.out.trans (hb9.mono D1.out.size))
              clear hb9 D1
              refine Ends.intro ⟨Cls.here D3.out, ?_⟩
              rw [wpWy_take]
              simp only [List.getElem?_toArray, List.getElem?_cons_succ, List.getElem?_cons_zero]
              first | go_big_quiet_step (rfl) | quiet_step (rfl)
              refine wpQuiet_nil ?_
              rw [wpWy_take]
              simp only [List.getElem?_toArray, List.getElem?_cons_succ, List.getElem?_cons_zero]
              first | go_big_quiet_step (rfl) | quiet_step (rfl)
              refine wpQuiet_nil ?_
              rw [wpWy_take]
              simp only [List.getElem?_toArray, List.getElem?_cons_succ, List.getElem?_cons_zero]
              first | go_big_quiet_step (rfl) | quiet_step (rfl)
              refine wpQuiet_nil ?_
              rw [wpWy_take]
              simp only [List.getElem?_toArray, List.getElem?_cons_succ, List.getElem?_cons_zero]
              first | go_big_quiet_step (rfl) | quiet_step (rfl)
              refine wpQuiet_nil ?_
              rw [wpWy_take]
              simp only [List.getElem?_toArray, List.getElem?_cons_succ, List.getElem?_cons_zero]
              first | go_big_quiet_step (rfl) | quiet_step (rfl)
              refine wpQuiet_nil ?_
              rw [wpWy_take]
              simp only [List.getElem?_toArray, List.getElem?_cons_succ, List.getElem?_cons_zero]
              first | go_big_quiet_step (rfl) | quiet_step (rfl)
              refine wpQuiet_nil ?_
              rw [wpWy_take]
              simp only [List.getElem?_toArray, List.getElem?_cons_succ, List.getElem?_cons_zero]
              first | go_big_quiet_step (rfl) | quiet_step (rfl)
              refine wpQuiet_nil ?_
              rw [wpWy_fin]
              clear r135 HRP hne
              have D4 := Lib.hid (WW.out.trans (D3.out.mono WW.out.size))
              have L9 := Lib.hid (LW.out.call D3.out)
              go_upto_region 17 with (fail)
              refine wp_region_quiet_below (by kernel_rfl) (by kernel_rfl) ?_
              repeat (first | go_big_quiet_skip | go_big_quiet_step (fail) | quiet_step (fail))
              refine wpQuiet_nil ?_
              intro wz hwz
              have hbz : Below _ _ wz := (by obtain ⟨p, rfl⟩ := hwz; exact below_regrown _ _ _)
              clear hwz
              go_wp2
              go_roundw
              case rel => exact ⟨1 + 1, by omega, by first | rfl | go_num, D4.out.trans (hbz.mono D4.out.size)⟩
              case measure => simp [intOf] <;> omega
            · have HBE := Lib.hid hbe
              clear hbe HTH
              go_wp2_with (go_at_call 23; refine (Best_with q d xk HBE.out A8 c8 _ HT8.out).mono ?_; rintro e d3 ⟨rfl, hb9⟩)
              have D3 := Lib.hid (D1.out.trans (hb9.mono D1.out.size))
              clear hb9 D1
              refine Ends.intro ⟨Cls.here D3.out, ?_⟩
              rw [wpWy_take]
              simp only [List.getElem?_toArray, List.getElem?_cons_succ, List.getElem?_cons_zero]
              first | go_big_quiet_step (rfl) | quiet_step (rfl)
              refine wpQuiet_nil ?_
              rw [wpWy_take]
              simp only [List.getElem?_toArray, List.getElem?_cons_succ, List.getElem?_cons_zero]
              first | go_big_quiet_step (rfl) | quiet_step (rfl)
              refine wpQuiet_nil ?_
              rw [wpWy_take]
              simp only [List.getElem?_toArray, List.getElem?_cons_succ, List.getElem?_cons_zero]
              first | go_big_quiet_step (rfl) | quiet_step (rfl)
              refine wpQuiet_nil ?_
              rw [wpWy_take]
              simp only [List.getElem?_toArray, List.getElem?_cons_succ, List.getElem?_cons_zero]
              first | go_big_quiet_step (rfl) | quiet_step (rfl)
              refine wpQuiet_nil ?_
              rw [wpWy_take]
              simp only [List.getElem?_toArray, List.getElem?_cons_succ, List.getElem?_cons_zero]
              first | go_big_quiet_step (rfl) | quiet_step (rfl)
              refine wpQuiet_nil ?_
              rw [wpWy_take]
              simp only [List.getElem?_toArray, List.getElem?_cons_succ, List.getElem?_cons_zero]
              first | go_big_quiet_step (rfl) | quiet_step (rfl)
              refine wpQuiet_nil ?_
              rw [wpWy_take]
              simp only [List.getElem?_toArray, List.getElem?_cons_succ, List.getElem?_cons_zero]
              first | go_big_quiet_step (rfl) | quiet_step (rfl)
              refine wpQuiet_nil ?_
              rw [wpWy_fin]
              clear r135 HRP hne
              have D4 := Lib.hid (WW.out.trans (D3.out.mono WW.out.size))
              have L9 := Lib.hid (LW.out.call D3.out)
              go_upto_region 17 with (fail)
              refine wp_region_quiet_below (by kernel_rfl) (by kernel_rfl) ?_
              repeat (first | go_big_quiet_skip | go_big_quiet_step (fail) | quiet_step (fail))
              refine wpQuiet_nil ?_
              intro wz hwz
              have hbz : Below _ _ wz := (by obtain ⟨p, rfl⟩ := hwz; exact below_regrown _ _ _)
              clear hwz
              go_wp2
              go_roundw
              case rel => exact ⟨2 + 1, by omega, by first | rfl | go_num, D4.out.trans (hbz.mono D4.out.size)⟩
              case measure => simp [intOf] <;> omega
          · have HBE := Lib.hid hbe
            have e1 : ((k : Int) == 1) = false := by simp; omega
            have e2 : ((k : Int) == 2) = false := by simp; omega
            clear hbe HTH
            go_wp2_with (go_at_call 23; refine (Best_with q d xk HBE.out A8 c8 _ HT8.out).mono ?_; rintro e d3 ⟨rfl, hb9⟩)
            have D3 := Lib.hid (D1.out.trans (hb9.mono D1.out.size))
            clear hb9 D1
            refine Ends.intro ⟨Cls.here D3.out, ?_⟩
            rw [wpWy_take]
            simp only [List.getElem?_toArray, List.getElem?_cons_succ, List.getElem?_cons_zero]
            first | go_big_quiet_step (rfl) | quiet_step (rfl)
            refine wpQuiet_nil ?_
            rw [wpWy_take]
            simp only [List.getElem?_toArray, List.getElem?_cons_succ, List.getElem?_cons_zero]
            first | go_big_quiet_step (rfl) | quiet_step (rfl)
            refine wpQuiet_nil ?_
            rw [wpWy_take]
            simp only [List.getElem?_toArray, List.getElem?_cons_succ, List.getElem?_cons_zero]
            first | go_big_quiet_step (rfl) | quiet_step (rfl)
            refine wpQuiet_nil ?_
            rw [wpWy_take]
            simp only [List.getElem?_toArray, List.getElem?_cons_succ, List.getElem?_cons_zero]
            first | go_big_quiet_step (rfl) | quiet_step (rfl)
            refine wpQuiet_nil ?_
            rw [wpWy_take]
            simp only [List.getElem?_toArray, List.getElem?_cons_succ, List.getElem?_cons_zero]
            first | go_big_quiet_step (rfl) | quiet_step (rfl)
            refine wpQuiet_nil ?_
            rw [wpWy_take]
            simp only [List.getElem?_toArray, List.getElem?_cons_succ, List.getElem?_cons_zero]
            first | go_big_quiet_step (rfl) | quiet_step (rfl)
            refine wpQuiet_nil ?_
            rw [wpWy_take]
            simp only [List.getElem?_toArray, List.getElem?_cons_succ, List.getElem?_cons_zero]
            first | go_big_quiet_step (rfl) | quiet_step (rfl)
            refine wpQuiet_nil ?_
            rw [wpWy_fin]
            clear r135 HRP hne
            have D4 := Lib.hid (WW.out.trans (D3.out.mono WW.out.size))
            have L9 := Lib.hid (LW.out.call D3.out)
            go_upto_region 17 with (fail)
            refine wp_region_quiet_below (by kernel_rfl) (by kernel_rfl) ?_
            repeat (first | go_big_quiet_skip | go_big_quiet_step (fail) | quiet_step (fail))
            refine wpQuiet_nil ?_
            intro wz hwz
            have hbz : Below _ _ wz := (by obtain ⟨p, rfl⟩ := hwz; exact below_regrown _ _ _)
            clear hwz
            go_wp2
            go_roundw
            case rel => exact ⟨k + 1, by omega, by first | rfl | go_num, D4.out.trans (hbz.mono D4.out.size)⟩
            case measure => simp [intOf] <;> omega
          · have HBE := Lib.hid hbe
            have e1 : ((k : Int) == 1) = false := by simp; omega
            have e2 : ((k : Int) == 2) = false := by simp; omega
            clear hbe HTH
            go_wp2_with (go_at_call 23; refine (Best_with q d xk HBE.out A8 c8 _ HT8.out).mono ?_; rintro e d3 ⟨rfl, hb9⟩)
            have D3 := Lib.hid (D1.out.trans (hb9.mono D1.out.size))
            clear hb9 D1
            refine Ends.intro ⟨Cls.here D3.out, ?_⟩
            rw [wpWy_take]
            simp only [List.getElem?_toArray, List.getElem?_cons_succ, List.getElem?_cons_zero]
            first | go_big_quiet_step (rfl) | quiet_step (rfl)
            refine wpQuiet_nil ?_
            rw [wpWy_take]
            simp only [List.getElem?_toArray, List.getElem?_cons_succ, List.getElem?_cons_zero]
            first | go_big_quiet_step (rfl) | quiet_step (rfl)
            refine wpQuiet_nil ?_
            rw [wpWy_take]
            simp only [List.getElem?_toArray, List.getElem?_cons_succ, List.getElem?_cons_zero]
            first | go_big_quiet_step (rfl) | quiet_step (rfl)
            refine wpQuiet_nil ?_
            rw [wpWy_take]
            simp only [List.getElem?_toArray, List.getElem?_cons_succ, List.getElem?_cons_zero]
            first | go_big_quiet_step (rfl) | quiet_step (rfl)
            refine wpQuiet_nil ?_
            rw [wpWy_take]
            simp only [List.getElem?_toArray, List.getElem?_cons_succ, List.getElem?_cons_zero]
            first | go_big_quiet_step (rfl) | quiet_step (rfl)
            refine wpQuiet_nil ?_
            rw [wpWy_take]
            simp only [List.getElem?_toArray, List.getElem?_cons_succ, List.getElem?_cons_zero]
            first | go_big_quiet_step (rfl) | quiet_step (rfl)
            refine wpQuiet_nil ?_
            rw [wpWy_take]
            simp only [List.getElem?_toArray, List.getElem?_cons_succ, List.getElem?_cons_zero]
            first | go_big_quiet_step (rfl) | quiet_step (rfl)
            refine wpQuiet_nil ?_
            rw [wpWy_fin]
            clear r135 HRP hne
            have D4 := Lib.hid (WW.out.trans (D3.out.mono WW.out.size))
            have L9 := Lib.hid (LW.out.call D3.out)
            go_upto_region 17 with (fail)
            have HI := Lib.hid (fun W => (show Calls Try.prog 25 #[.int .i64 xk, .int .i64 q.low, .int .i64 q.high] W fun e w' => e = .returned (.bool false) ∧ Below W.heap.size W w' by
              have := In_below xk q.low q.high W
              rw [hci] at this
              exact this))
            have r164 := cell_regrown (HCX.out _ D3.out)
            have r166 := cell_regrown (show d3.cell? ⟨w.heap.size, 0, none⟩ = some (.int .i64 q.low) from L9.out.at_ 0)
            have r168 := cell_regrown (show d3.cell? ⟨w.heap.size, 1, none⟩ = some (.int .i64 q.high) from L9.out.at_ 1)
            refine wp_region_quiet_below (by kernel_rfl) (by kernel_rfl) ?_
            repeat (first | go_big_quiet_skip | go_big_quiet_step (first | (go_at_call 25; exact Calls.regrown_of (HI.out _))) | quiet_step (first | (go_at_call 25; exact Calls.regrown_of (HI.out _))))
            refine wpQuiet_nil ?_
            intro wz hwz
            have hbz : Below _ _ wz := (by obtain ⟨p, rfl⟩ := hwz; exact below_regrown _ _ _)
            clear hwz
            go_wp2
            go_roundw
            case rel => exact ⟨k + 1, by omega, by first | rfl | go_num, D4.out.trans (hbz.mono D4.out.size)⟩
            case measure => simp [intOf] <;> omega
        · obtain rfl : k = 4 := by omega
          have hdd0 : (0 : Int) ≤ (d : Int) := by omega
          rcases HEA.out lv with ⟨-, hci, a, c, hc0, hbe⟩ | ⟨-, hci, hbe⟩ | ⟨hnk, -, -⟩
          · have HBE := Lib.hid hbe
            clear hbe
            go_upto_region 20 with (first
              | (have h := K174; clear h; refine wpList_load_row (o := ⟨some 174, _, _, _, _, _⟩) ?_ 26 (.tmp 3) ?_ w.heap.size ?_ 26 q.cells.toArray (0, 0) _ LW.out Try.underlying26 rfl size_rp ?_; rfl; rfl; rfl; have K175 := Lib.hid True.intro; clear K174)
              | (have h := K175; clear h; go_at_call 18; refine (Copy_any q _ (HAT.out.below BW.out BW.out.size) HL15.out).mono ?_; rintro e d1 ⟨A8, c8, rfl, hat8, hb8⟩; have HT8 := Lib.hid hat8; have X1 := Lib.hid hb8; clear hb8 hat8; have K178 := Lib.hid True.intro; clear K175)
              | (have h := K178; clear h; go_at_call 23; refine (Best_with q d lv HBE.out A8 c8 _ HT8.out).mono ?_; rintro e d2' ⟨rfl, hb9⟩; have X2 := Lib.hid (X1.out.trans (hb9.mono X1.out.size)); clear hb9 X1; clear K178))
            have B9 := Lib.hid (BW.out.trans (X2.out.mono BW.out.size))
            have W9 := Lib.hid (W7.out.trans ((WW.out.trans (X2.out.mono WW.out.size)).mono W7.out.size))
            have HI := Lib.hid (fun W => (show Calls Try.prog 25 #[.int .i64 lv, .int .i64 lo, .int .i64 hi] W fun e w' => e = .returned (.bool true) ∧ Below W.heap.size W w' by
              have := In_below lv lo hi W
              rw [hci] at this
              exact this))
            have HWK := Lib.hid (fun W => wakes_any W)
            have r189 := cell_regrown (F1.out _ W9.out)
            have r194 := cell_regrown (F2.out _ W9.out)
            clear X2 W9
            refine wp_region_quiet_below (by kernel_rfl) (by kernel_rfl) ?_
            repeat (first | go_big_quiet_skip | go_big_quiet_step (first | (go_at_call 25; exact Calls.regrown_of (HI.out _)) | (go_at_call 16; exact Calls.regrown_of (HWK.out _))) | quiet_step (first | (go_at_call 25; exact Calls.regrown_of (HI.out _)) | (go_at_call 16; exact Calls.regrown_of (HWK.out _))))
            refine wpQuiet_nil ?_
            intro wz hwz
            have hbz : Below _ _ wz := (by obtain ⟨p, rfl⟩ := hwz; exact below_regrown _ _ _)
            clear hwz r189 r194
            go_wp2
            go_ret
            exact ⟨rfl, B9.out.trans (hbz.mono B9.out.size)⟩
          · have HBE := Lib.hid hbe
            clear hbe
            go_upto_region 20 with (first
              | (have h := K174; clear h; refine wpList_load_row (o := ⟨some 174, _, _, _, _, _⟩) ?_ 26 (.tmp 3) ?_ w.heap.size ?_ 26 q.cells.toArray (0, 0) _ LW.out Try.underlying26 rfl size_rp ?_; rfl; rfl; rfl; have K175 := Lib.hid True.intro; clear K174)
              | (have h := K175; clear h; go_at_call 18; refine (Copy_any q _ (HAT.out.below BW.out BW.out.size) HL15.out).mono ?_; rintro e d1 ⟨A8, c8, rfl, hat8, hb8⟩; have HT8 := Lib.hid hat8; have X1 := Lib.hid hb8; clear hb8 hat8; have K178 := Lib.hid True.intro; clear K175)
              | (have h := K178; clear h; go_at_call 23; refine (Best_with q d lv HBE.out A8 c8 _ HT8.out).mono ?_; rintro e d2' ⟨rfl, hb9⟩; have X2 := Lib.hid (X1.out.trans (hb9.mono X1.out.size)); clear hb9 X1; clear K178))
            have B9 := Lib.hid (BW.out.trans (X2.out.mono BW.out.size))
            have W9 := Lib.hid (W7.out.trans ((WW.out.trans (X2.out.mono WW.out.size)).mono W7.out.size))
            have HI := Lib.hid (fun W => (show Calls Try.prog 25 #[.int .i64 lv, .int .i64 lo, .int .i64 hi] W fun e w' => e = .returned (.bool false) ∧ Below W.heap.size W w' by
              have := In_below lv lo hi W
              rw [hci] at this
              exact this))
            have HWK := Lib.hid (fun W => wakes_any W)
            have r189 := cell_regrown (F1.out _ W9.out)
            have r194 := cell_regrown (F2.out _ W9.out)
            clear X2 W9
            refine wp_region_quiet_below (by kernel_rfl) (by kernel_rfl) ?_
            repeat (first | go_big_quiet_skip | go_big_quiet_step (first | (go_at_call 25; exact Calls.regrown_of (HI.out _)) | (go_at_call 16; exact Calls.regrown_of (HWK.out _))) | quiet_step (first | (go_at_call 25; exact Calls.regrown_of (HI.out _)) | (go_at_call 16; exact Calls.regrown_of (HWK.out _))))
            refine wpQuiet_nil ?_
            intro wz hwz
            have hbz : Below _ _ wz := (by obtain ⟨p, rfl⟩ := hwz; exact below_regrown _ _ _)
            clear hwz r189 r194
            go_wp2
            go_ret
            exact ⟨rfl, B9.out.trans (hbz.mono B9.out.size)⟩
          · exact absurd HKEPT.out hnk
end Go.Proofs.Yteognijlgalahaa
