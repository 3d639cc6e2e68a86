/- Generic words: inB, Ask, one-cell rows, rows of integers loaded and stored whole. -/
import Derived.Test.YteognijlgalahaaA
import Derived.Shelf.SlicesQ.IndexFunc
import Derived.StillTailTactics
import Derived.Deep.MidRow
import Derived.Laws.CopyOwn
import Derived.Deep.DeepCutAuto
import Derived.Laws.EntriesVeiled
import Derived.Deep.RegionHeld3
namespace Go.Proofs.Yteognijlgalahaa
open Go.RowKit Go.Lib

def inB (n lo hi : Int) : Bool := decide (lo ≤ n) && decide (n ≤ hi)
theorem inB_iff {n lo hi : Int} : inB n lo hi = true ↔ lo ≤ n ∧ n ≤ hi := by simp [inB]

/-- What is asked of a function value of one parameter that answers yes or no: at each x that meets D, in whatever later world. -/
structure Ask (P : Program) {α : Type} (enc : α → Value) (g : Nat) (ft lb : Array Value) (p : α → Bool) (D : α → Prop) (w : World) : Prop where
  eg : ∀ args w, (callFunc g args).run P w = .ok (.enter g args) w
  call : ∀ W x, D x → Below w.heap.size w W → Calls P g (ft ++ #[enc x] ++ lb) W fun e w' => e = .returned (.bool (p x)) ∧ Below W.heap.size W w'
theorem Ask.later {P : Program} {α : Type} {enc : α → Value} {g : Nat} {ft lb : Array Value} {p : α → Bool} {D : α → Prop} {w W : World} (h : Ask P enc g ft lb p D w) (hb : Below w.heap.size w W) : Ask P enc g ft lb p D W :=
  ⟨h.eg, fun W' x hx hb' => h.call W' x hx (hb.trans (hb'.mono hb.size))⟩
/-- The same, of two parameters. -/
structure Ask2 (P : Program) {α β : Type} (enc : α → Value) (enc' : β → Value) (g : Nat) (ft lb : Array Value) (p : α → β → Bool) (D : α → β → Prop) (w : World) : Prop where
  eg : ∀ args w, (callFunc g args).run P w = .ok (.enter g args) w
  call : ∀ W x y, D x y → Below w.heap.size w W → Calls P g (ft ++ #[enc x, enc' y] ++ lb) W fun e w' => e = .returned (.bool (p x y)) ∧ Below W.heap.size W w'
theorem Ask2.later {P : Program} {α β : Type} {enc : α → Value} {enc' : β → Value} {g : Nat} {ft lb : Array Value} {p : α → β → Bool} {D : α → β → Prop} {w W : World} (h : Ask2 P enc enc' g ft lb p D w) (hb : Below w.heap.size w W) : Ask2 P enc enc' g ft lb p D W :=
  ⟨h.eg, fun W' x y hx hb' => h.call W' x y hx (hb.trans (hb'.mono hb.size))⟩

theorem all_hit {α : Type} {zs : List α} {p : α → Bool} {k : Nat} {x : α} (hx : zs[k]? = some x) (hp : p x = false) : zs.all p = false := by
  rw [Bool.eq_false_iff]; intro h
  have := List.all_eq_true.1 h x (List.mem_of_getElem? hx)
  rw [hp] at this; cases this
theorem all_miss {α : Type} {zs : List α} {p : α → Bool} (h : ∀ j x, j < zs.length → zs[j]? = some x → p x = true) : zs.all p = true := by
  rw [List.all_eq_true]; intro x hx
  obtain ⟨j, hj, rfl⟩ := List.getElem_of_mem hx
  exact h j _ hj (by simp [hj])
/-- The cell of an element of one cell. -/
theorem Sl.cell1 {α : Type} {enc : α → Value} {w : World} {B : Nat} {A : Option Addr} {l : List α} (h : Sl w B 1 (fun x => [enc x]) A l) {i : Nat} {x : α} (hx : l[i]? = some x) :
    ∃ b off, A = some ⟨b, off, none⟩ ∧ b < B ∧ w.cell? ⟨b, off + i, none⟩ = some (enc x) := by
  obtain ⟨b, off, e, hb, hc⟩ := h.at_ hx
  exact ⟨b, off, e, hb, by have := hc 0 _ rfl; simpa using this⟩

theorem Sl.lt {α : Type} {w : World} {B k : Nat} {enc : α → List Value} {A : Option Addr} {l : List α} (h : Sl w B k enc A l) (hl : l ≠ []) : ∃ b off, A = some ⟨b, off, none⟩ ∧ b < B := by
  obtain ⟨b, off, e, hb, _⟩ := h hl; exact ⟨b, off, e, hb⟩


/-- A slice as a value. -/
structure Sv (β : Type) where
  A : Option Addr
  l : List β
  c : Nat
def Sv.val {β : Type} (s : Sv β) : Value := .slice s.A s.l.length s.c

abbrev encI (x : Int) : List Value := [Value.int .i64 x]
abbrev encV {β : Type} (x : Sv β) : List Value := [x.val]
theorem Lies.fresh' {w : World} {n : Nat} {t : TypeId} {cs : Array Value} (hs : w.heap.size = n) : Lies (w.alloc (.cells cs t)) n t cs := hs ▸ Lies.fresh w t cs

def vals (l : List Int) : Array Value := (l.map (Value.int .i64)).toArray
theorem vals_at {l : List Int} {i : Nat} {x : Int} (h : l[i]? = some x) : (vals l)[i]? = some (.int .i64 x) := by simp [vals, h]
theorem vals_set (l : List Int) (i : Nat) (x : Int) : (vals l).setIfInBounds i (.int .i64 x) = vals (l.set i x) := by simp [vals, List.map_set]
theorem vals_size (l : List Int) : (vals l).size = l.length := by simp [vals]
theorem vals_five {l : List Int} (h : l.length = 5) : vals l = #[.int .i64 (l.getD 0 0), .int .i64 (l.getD 1 0), .int .i64 (l.getD 2 0), .int .i64 (l.getD 3 0), .int .i64 (l.getD 4 0)] := by
  match l, h with
  | [a, b, c, d, e], _ => rfl


/-! ### A whole array, by value, out of a block of the call's own and into it -/
/-- Of w nothing but block g has turned. -/
structure Only (g : Nat) (w w' : World) : Prop where
  os : w'.os = w.os
  tape : w'.tape = w.tape
  output : w'.output = w.output
  size : w'.heap.size = w.heap.size
  block : ∀ k, k ≠ g → w'.heap[k]? = w.heap[k]?
theorem Only.below {g B : Nat} {w0 w w' : World} (h : Only g w w') (hb : Below B w0 w) (hg : B ≤ g) : Below B w0 w' :=
  ⟨h.os.trans hb.os, h.tape.trans hb.tape, h.output.trans hb.output, by rw [h.size]; exact hb.size, fun k hk => (h.block k (by omega)).trans (hb.block k hk)⟩
theorem Only.set (g i : Nat) (w : World) (u : Value) : Only g w (w.setCell ⟨g, i, none⟩ u) :=
  ⟨rfl, rfl, rfl, by simp, fun k hk => heap_setCell_other _ _ _ _ hk⟩
theorem Only.trans {g : Nat} {a b c : World} (h : Only g a b) (h' : Only g b c) : Only g a c :=
  ⟨h'.os.trans h.os, h'.tape.trans h.tape, h'.output.trans h.output, h'.size.trans h.size, fun k hk => (h'.block k hk).trans (h.block k hk)⟩
theorem Only.refl (g : Nat) (w : World) : Only g w w := ⟨rfl, rfl, rfl, rfl, fun _ _ => rfl⟩
theorem Only.lies {g k : Nat} {w w' : World} {t : TypeId} {cs : Array Value} (h : Only g w w') (hl : Lies w k t cs) (hk : k ≠ g) : Lies w' k t cs := hl.to_ (h.block k hk)
theorem splice_cons {α : Type} (L : List α) (o : Nat) (v : α) (r : List α) (h : o < L.length) : splice (L.set o v) (o + 1) r = splice L o (v :: r) := by
  have e1 : (L.set o v).take (o + 1) = L.take o ++ [v] := by
    rw [List.take_succ_eq_append_getElem (by simpa using h), List.take_set_of_le (Nat.le_refl _)]; simp
  have e2 : (L.set o v).drop (o + 1 + r.length) = L.drop (o + (v :: r).length) := by
    rw [List.drop_set_of_lt (by omega)]; congr 1; simp; omega
  unfold splice
  rw [e1, e2]; simp
theorem Lies.setCells {g : Nat} {t : TypeId} : ∀ (vs : List Value) (o : Nat) (w : World) (cs : List Value), Lies w g t cs.toArray → o + vs.length ≤ cs.length → Lies (w.setCells g o vs) g t (splice cs o vs).toArray ∧ Only g w (w.setCells g o vs)
  | [], o, w, cs, h, _ => ⟨by simpa [World.setCells, splice] using h, Only.refl _ _⟩
  | v :: r, o, w, cs, h, hl => by
    rw [World.setCells]
    have h1 := h.set o v
    rw [List.setIfInBounds_toArray] at h1
    have := Lies.setCells r (o + 1) (w.setCell ⟨g, o, none⟩ v) (cs.set o v) h1 (by simp at hl ⊢; omega)
    rw [splice_cons _ _ _ _ (by simp at hl; omega)] at this
    exact ⟨this.1, (Only.set g o w v).trans this.2⟩
theorem Lies.range {w : World} {g o : Nat} {t : TypeId} {cs vs : List Value} (h : Lies w g t cs.toArray) (hv : ∀ j v, vs[j]? = some v → cs[o + j]? = some v) : w.rangeAt g o vs := fun j v hj => by
  rw [h.at_]; simpa using hv j v hj
theorem Lies.there {w : World} {g o n : Nat} {t : TypeId} {cs : List Value} (h : Lies w g t cs.toArray) (hn : o + n ≤ cs.length) : w.there g o n := fun j hj =>
  ⟨by rw [h.at_]; simp; omega, h.free _⟩
section
variable {P : Program} {w : World} {ops : Array Oper} {rest : List Oper} {o : Oper} {a : Act} {Q : Exit → Act → World → Prop}
/-- The load of a whole array (or struct) of integers out of a block that lies. -/
theorem wpList_load_ints (hgd : o.guard = none) (ty : TypeId) (x : Operand) (ho : o.op = .load ty x) (g off : Nat) (hx : a.eval x = .pointer (some ⟨g, off, none⟩)) (t : TypeId) (l vs : List Int) (d : TypeDesc)
    (hl : Lies w g t (vals l)) (hv : ∀ j v, vs[j]? = some v → l[off + j]? = some v) (hu : P.underlying ty = some d) (hd : d.isRow = true) (hi : (P.info? ty).map (·.size) = some vs.length)
    (h : wpList P ops Q rest (a.put o.dst (.agg (vals vs))) w) : wpList P ops Q (o :: rest) a w :=
  wpList_load_mid hgd ty x ho g off hx (vs.map (Value.int .i64)) d (hl.range (cs := l.map (Value.int .i64)) (fun j v hj => by
    rw [List.getElem?_map, Option.map_eq_some_iff] at hj
    obtain ⟨u, hu, rfl⟩ := hj
    rw [List.getElem?_map, hv j u hu]; rfl)) hu hd (by simpa using hi) h
theorem ints_one (l : List Int) : ∀ v ∈ l.map (Value.int .i64), v.oneCell' = true := by
  intro v hv
  obtain ⟨x, _, rfl⟩ := List.mem_map.1 hv
  rfl
/-- The store of a whole array of integers into a block that lies. -/
theorem wpList_store_ints (hgd : o.guard = none) (ty : TypeId) (x y : Operand) (ho : o.op = .store ty x y) (g off : Nat) (hx : a.eval x = .pointer (some ⟨g, off, none⟩)) (t : TypeId) (l vs : List Int)
    (hy : a.eval y = .agg (vals vs)) (hl : Lies w g t (vals l)) (hf : off + vs.length ≤ l.length) (hi : (P.info? ty).map (·.size) = some vs.length)
    (h : ∀ w', Hid (Lies w' g t (vals (splice l off vs))) → Hid (Only g w w') → wpList P ops Q rest (a.put o.dst undef) w') : wpList P ops Q (o :: rest) a w := by
  have hl' : Lies w g t (l.map (Value.int .i64)).toArray := hl
  have hS := Lies.setCells (vs.map (Value.int .i64)) off w (l.map (Value.int .i64)) hl' (by simpa using hf)
  refine wpList_store_mid hgd ty x y ho g off (vals vs) hx hy ?_ (by simpa [vals] using hi) (all_oneCell_toArray (ints_one vs)) (h _ ?_ ?_)
  · simpa [vals] using Lies.there (o := off) (n := vs.length) hl' (by simpa using hf)
  · have e : vals (splice l off vs) = (splice (l.map (Value.int .i64)) off (vs.map (Value.int .i64))).toArray := by simp [vals, splice]
    show Lies _ g t _
    rw [e]; exact hS.1
  · exact hS.2
/-- What a function hands back out of a block of integers. -/
theorem results_ints {fn : Func} {p : Tmp} {ty : TypeId} (h : fn.results = #[.cell p ty]) (tmps : Array Value) (w : World) (g : Nat) (t : TypeId) (l : List Int) (d : TypeDesc)
    (hp : tmps.getD p undef = .pointer (some ⟨g, 0, none⟩)) (hg : Lies w g t (vals l)) (hu : P.underlying ty = some d) (hd : (match d with | .struct _ | .array _ _ => true | _ => false) = true) (hi : (P.info? ty).map (·.size) = some l.length) :
    (results fn tmps).run P w = .ok (.agg (vals l)) w := results_cell_row h tmps w g t (vals l) (0, 0) d hp hg hu hd (by rw [vals_size]; exact hi)
end
end Go.Proofs.Yteognijlgalahaa
