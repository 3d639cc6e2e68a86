/- The texts A B Q T TI B2 BN C TT IR IS TF TW TW3 WYW ZH OW, joined. -/
import Derived.WalkKit
import Derived.Deep.QuietTactic
import Derived.BigQuiet
import Derived.Outline
import Derived.OwnWalk
import Derived.WalkLawsBesides
import Derived.Lib.Hide
import Derived.Laws.AppendOwnNone
import Derived.Laws.MakeOwn
import Derived.Maps.AppendAt
import Derived.Deep.AppendLies
import Derived.BigRegion
import Derived.Deep.RegionWith
import Derived.Lib.QuietBelow
import Derived.RegionTactic
import Derived.Test.YtkjhofbjjogmlaaProg
import Derived.Shelf.SlicesQ.IndexFunc
import Derived.StillTailTactics
import Derived.Deep.MidRow
import Derived.Laws.CopyOwn
import Derived.Deep.DeepCutAuto
import Derived.Laws.EntriesVeiled
import Derived.Deep.RegionHeld3
import Derived.StillTail
import Derived.TacticsInMore
import Derived.OwnWalkIn
import Derived.RangeFuncCalls
import Derived.RangeFuncLeaves
import Derived.RangeFuncNested
import Derived.RangeFuncBound
import Derived.LoopNIn
import Derived.LoopIn
import Derived.OrdersHeld
import Derived.Deep.RegionLaw
/- Shared words: what a slice of structs reads as, small closers. -/
namespace Go.Proofs.Ytkjhofbjjogmlaa
open Go.RowKit

theorem ret_bool {a b : Bool} (h : a = b) : Ending.returned (.bool a) = .returned (.bool b) := by rw [h]
theorem ret_int {k : IntKind} {a b : Int} (h : a = b) : Ending.returned (.int k a) = .returned (.int k b) := by rw [h]

/-- The slice with address A reads as l: each element has k cells. -/
def Sl {α : Type} (w : World) (B k : Nat) (enc : α → List Value) (A : Option Addr) (l : List α) : Prop :=
  l ≠ [] → ∃ b off, A = some ⟨b, off, none⟩ ∧ b < B ∧ ∀ i x, l[i]? = some x → ∀ j u, (enc x)[j]? = some u → w.cell? ⟨b, off + i * k + j, none⟩ = some u

section
variable {α : Type} {w w' : World} {B B' k : Nat} {enc : α → List Value} {A : Option Addr} {l : List α}
theorem Sl.nil : Sl w B k enc A ([] : List α) := fun h => absurd rfl h
theorem Sl.keep (h : Sl w B k enc A l) (hk : ∀ p : Addr, p.block < B → w'.cell? p = w.cell? p) : Sl w' B k enc A l := fun hl => by
  obtain ⟨b, off, e, hb, hc⟩ := h hl
  exact ⟨b, off, e, hb, fun i x hx j u hu => (hk ⟨b, off + i * k + j, none⟩ hb).trans (hc i x hx j u hu)⟩
theorem Sl.more (h : Sl w B k enc A l) (hB : B ≤ B') : Sl w B' k enc A l := fun hl => by
  obtain ⟨b, off, e, hb, hc⟩ := h hl
  exact ⟨b, off, e, by omega, hc⟩
theorem Sl.below (h : Sl w B k enc A l) (hb : Below B w w') : Sl w' B k enc A l := h.keep fun _ hp => hb.cell hp
theorem Sl.drewN (h : Sl w B k enc A l) (n : Nat) : Sl (w.drewN n) B k enc A l := h
theorem Sl.drew (h : Sl w B k enc A l) : Sl w.drew B k enc A l := h
theorem Sl.alloc (h : Sl w B k enc A l) (hB : B ≤ w.heap.size) (o : Obj) : Sl (w.alloc o) B k enc A l := h.keep fun p hp => World.cell?_alloc_lt w o p (by omega)
theorem Sl.setCell (h : Sl w B k enc A l) {p : Addr} (hB : B ≤ p.block) (u : Value) : Sl (w.setCell p u) B k enc A l :=
  h.keep fun q hq => World.cell?_setCell_other w p q u (fun e => by subst e; omega)
theorem Sl.at_ (h : Sl w B k enc A l) {i : Nat} {x : α} (hx : l[i]? = some x) : ∃ b off, A = some ⟨b, off, none⟩ ∧ b < B ∧ ∀ j u, (enc x)[j]? = some u → w.cell? ⟨b, off + i * k + j, none⟩ = some u := by
  obtain ⟨b, off, e, hb, hc⟩ := h (by rintro rfl; simp at hx)
  exact ⟨b, off, e, hb, hc i x hx⟩
end

theorem ownsRow_below {w w' : World} {base : Nat} {e : TypeId} {size : Nat} {v : Value} {n : Nat} {xs : List Value} {B : Nat} (h : w.ownsRow base e size v n xs) (hb : Below B w w') (hB : ∀ k, v.ownBlock = some k → k < B) : w'.ownsRow base e size v n xs := by
  refine ⟨h.1, ?_⟩
  rcases h.2 with hn | ⟨g, cap, cur, rfl, hbg, hgg, rest⟩
  · exact .inl hn
  · exact .inr ⟨g, cap, cur, rfl, hbg, (hb.block g (hB g rfl)).trans hgg, rest⟩
/-- A row that was owned is owned behind a call that leaves all old memory alone. -/
theorem ownsRow_call {w w' : World} {base : Nat} {e : TypeId} {size : Nat} {v : Value} {n : Nat} {xs : List Value} (h : w.ownsRow base e size v n xs) (hb : Below w.heap.size w w') : w'.ownsRow base e size v n xs :=
  ownsRow_below h hb fun k hk => (h.lt k hk).2
/-- The cells of a block that was just made. -/
theorem news_alloc (w : World) (cs : List Value) (t : TypeId) : ∀ j u, cs[j]? = some u → (w.alloc (.cells cs.toArray t)).cell? ((⟨w.heap.size, 0, none⟩ : Addr).add j) = some u := fun j u hu => by
  have hadd : (⟨w.heap.size, 0, none⟩ : Addr).add j = ⟨w.heap.size, j, none⟩ := by unfold Addr.add; split <;> simp_all
  rw [hadd, cell_of_row _ _ _ _ _ _ (heap_alloc_new w _)]
  simpa using hu
theorem flat_take_succ {α β : Type} (f : α → List β) {l : List α} {k : Nat} {x : α} (h : l[k]? = some x) : (l.take (k + 1)).flatMap f = (l.take k).flatMap f ++ f x := by
  rw [List.take_add_one, h]; simp

/-- In w block g is a row of the cells cs of type t, which may be written. -/
def Lies (w : World) (g : Nat) (t : TypeId) (cs : Array Value) : Prop := w.heap[g]? = some (.cells cs t (0, 0))
namespace Lies
variable {w w' : World} {g : Nat} {t : TypeId} {cs : Array Value}
theorem in_ (h : Lies w g t cs) : g < w.heap.size := (Array.getElem?_eq_some_iff.1 (show w.heap[g]? = some _ from h)).1
theorem to_ (h : Lies w g t cs) (e : w'.heap[g]? = w.heap[g]?) : Lies w' g t cs := by unfold Lies; rw [e]; exact h
theorem at_ (h : Lies w g t cs) (i : Nat) : w.cell? ⟨g, i, none⟩ = cs[i]? := cell_of_row _ _ _ _ _ _ h
theorem free (h : Lies w g t cs) (i : Nat) : w.frozen? ⟨g, i, none⟩ = false := frozen_of_row _ _ _ _ _ h
theorem fresh (w : World) (t : TypeId) (cs : Array Value) : Lies (w.alloc (.cells cs t)) w.heap.size t cs := heap_alloc_new _ _
theorem drewN (h : Lies w g t cs) (n : Nat) : Lies (w.drewN n) g t cs := h
theorem drew (h : Lies w g t cs) : Lies w.drew g t cs := h
theorem alloc (h : Lies w g t cs) (o : Obj) : Lies (w.alloc o) g t cs := h.to_ (heap_alloc_old _ _ h.in_)
theorem below {B : Nat} (h : Lies w g t cs) (hb : Below B w w') (hg : g < B) : Lies w' g t cs := h.to_ (hb.block _ hg)
theorem call (h : Lies w g t cs) (hb : Below w.heap.size w w') : Lies w' g t cs := h.below hb h.in_
theorem grown {row : Option Nat} (h : Lies w g t cs) (hb : w.grownBy w' row) (hg : some g ≠ row) : Lies w' g t cs := h.to_ (hb.block _ h.in_ hg)
theorem other (h : Lies w g t cs) {p : Addr} (hp : g ≠ p.block) (u : Value) : Lies (w.setCell p u) g t cs := h.to_ (heap_setCell_other _ _ _ _ hp)
theorem set (h : Lies w g t cs) (i : Nat) (u : Value) : Lies (w.setCell ⟨g, i, none⟩ u) g t (cs.setIfInBounds i u) := heap_setCell_same _ _ _ _ _ _ h
theorem four {a b c d : Value} (h : Lies w g t #[a, b, c, d]) : w.cell? ⟨g, 0, none⟩ = some a ∧ w.cell? ⟨g, 1, none⟩ = some b ∧ w.cell? ⟨g, 2, none⟩ = some c ∧ w.cell? ⟨g, 3, none⟩ = some d := ⟨h.at_ 0, h.at_ 1, h.at_ 2, h.at_ 3⟩
theorem six {a b c d e f : Value} (h : Lies w g t #[a, b, c, d, e, f]) : w.cell? ⟨g, 0, none⟩ = some a ∧ w.cell? ⟨g, 1, none⟩ = some b ∧ w.cell? ⟨g, 2, none⟩ = some c ∧ w.cell? ⟨g, 3, none⟩ = some d ∧ w.cell? ⟨g, 4, none⟩ = some e ∧ w.cell? ⟨g, 5, none⟩ = some f :=
  ⟨h.at_ 0, h.at_ 1, h.at_ 2, h.at_ 3, h.at_ 4, h.at_ 5⟩
theorem three {a b c : Value} (h : Lies w g t #[a, b, c]) : w.cell? ⟨g, 0, none⟩ = some a ∧ w.cell? ⟨g, 1, none⟩ = some b ∧ w.cell? ⟨g, 2, none⟩ = some c := ⟨h.at_ 0, h.at_ 1, h.at_ 2⟩
theorem one {a : Value} (h : Lies w g t #[a]) : w.cell? ⟨g, 0, none⟩ = some a := h.at_ 0
end Lies
/-- A row of n cells whose i-th is f i. -/
def Row (w : World) (g : Nat) (t : TypeId) (n : Nat) (f : Nat → Value) : Prop := ∃ cs, Lies w g t cs ∧ cs.size = n ∧ ∀ i, i < n → cs[i]? = some (f i)
namespace Row
variable {w w' : World} {g : Nat} {t : TypeId} {n : Nat} {f : Nat → Value}
theorem in_ : Row w g t n f → g < w.heap.size := fun ⟨_, h, _⟩ => h.in_
theorem at_ (h : Row w g t n f) {i : Nat} (hi : i < n) : w.cell? ⟨g, i, none⟩ = some (f i) := by
  obtain ⟨cs, h, _, hc⟩ := h
  rw [h.at_, hc i hi]
theorem free (h : Row w g t n f) (i : Nat) : w.frozen? ⟨g, i, none⟩ = false := by
  obtain ⟨cs, h, _⟩ := h
  exact h.free i
theorem to_ (h : Row w g t n f) (e : w'.heap[g]? = w.heap[g]?) : Row w' g t n f := by
  obtain ⟨cs, h, r⟩ := h
  exact ⟨cs, h.to_ e, r⟩
theorem drewN (h : Row w g t n f) (k : Nat) : Row (w.drewN k) g t n f := h
theorem drew (h : Row w g t n f) : Row w.drew g t n f := h
theorem alloc (h : Row w g t n f) (o : Obj) : Row (w.alloc o) g t n f := h.to_ (heap_alloc_old _ _ h.in_)
theorem below {B : Nat} (h : Row w g t n f) (hb : Below B w w') (hg : g < B) : Row w' g t n f := h.to_ (hb.block _ hg)
theorem call (h : Row w g t n f) (hb : Below w.heap.size w w') : Row w' g t n f := h.below hb h.in_
theorem grown {row : Option Nat} (h : Row w g t n f) (hb : w.grownBy w' row) (hg : some g ≠ row) : Row w' g t n f := h.to_ (hb.block _ h.in_ hg)
theorem other (h : Row w g t n f) {p : Addr} (hp : g ≠ p.block) (u : Value) : Row (w.setCell p u) g t n f := h.to_ (heap_setCell_other _ _ _ _ hp)
theorem set (h : Row w g t n f) (i : Nat) (u : Value) : Row (w.setCell ⟨g, i, none⟩ u) g t n (fun j => if j = i then u else f j) := by
  obtain ⟨cs, h, hs, hc⟩ := h
  refine ⟨_, h.set i u, by simpa using hs, fun j hj => ?_⟩
  by_cases e : j = i
  · subst e; simp [hs, hj]
  · show _ = some (if j = i then u else f j)
    rw [Array.getElem?_setIfInBounds_ne (Ne.symm e), if_neg e, hc j hj]
theorem made (w : World) (t : TypeId) (n k : Nat) (z : Value) (hk : n = k) : Row (w.alloc (.cells (madeCells #[z] n) t)) w.heap.size t k (fun _ => z) := by
  subst hk
  exact ⟨_, Lies.fresh _ _ _, size_madeCells _ _, fun i hi => by simp [madeCells, hi, Nat.mod_one]⟩
end Row
/-- make([]T, n): the new row. -/
theorem run_make_n {P : Program} (t e : TypeId) (i : TypeInfo) (z : Value) (ht : P.underlying t = some (.slice e)) (hi : P.info? e = some i) (hz : i.zero = some z) (n : Nat) (hb : i.bytes * n ≤ 1000000000) (hn : n ≤ 1000000000) (w : World) :
    (Instr.makeSlice t (.int .i64 (n : Int)) (.int .i64 (n : Int))).run P w = .ok (.slice (some ⟨w.heap.size, 0, none⟩) n n) (w.alloc (.cells (madeCells z.cells (n * i.size)) e)) := by
  have h : ((i.bytes * n : Nat) : Int) ≤ 1000000000 := by omega
  rw [Int.natCast_mul] at h
  have hr := run_make (P := P) w t e i z ht hi hz .i64 .i64 n n (by omega) (by omega) (by omega) (by omega)
  simpa only [Int.toNat_natCast] using hr

/-- 'append(own, src...)' at whatever source, nil let in. -/
theorem wpList_append_sl {P : Program} {w : World} {ops : Array Oper} {rest : List Oper} {o : Oper} {a : Act} {Q : Exit → Act → World → Prop} (hgd : o.guard = none) (s x : Operand) (t : TypeId)
    (ho : o.op = .call { callee := .builtin .append, args := #[s, x], argTypes := #[t, t] })
    (base : Nat) (e : TypeId) (i : TypeInfo) (z : Value) (size bytes : Nat) (ht : P.underlying t = some (.slice e)) (hi : P.info? e = some i) (hz : i.zero = some z)
    (hsize : i.size = size) (hby : i.bytes = bytes) (hzs : z.cells.size = size) (hsz : 0 < size)
    (v : Value) (n : Nat) (xs : List Value) (hs : a.eval s = v) (hown : w.ownsRow base e size v n xs)
    (A : Option Addr) (m c : Nat) (news : List Value) (hx : a.eval x = .slice A m c) (hl : news.length = m * size) (hA : A = none → m = 0 ∧ c = 0)
    (hnews : ∀ ad, A = some ad → ∀ j u, news[j]? = some u → w.cell? (ad.add j) = some u) (h1 : ∀ u ∈ news, u.oneCell' = true)
    (h63 : n + m ≤ maxLen) (hbytes : (n + m) * bytes ≤ 140737488355328) (hbase : base ≤ w.heap.size)
    (h : ∀ v' w', w'.ownsRow base e size v' (n + m) (xs ++ news) → w.grownBy w' v.ownBlock → (v' = .slice none 0 0 ↔ v = .slice none 0 0 ∧ m = 0) → wpList P ops Q rest (a.put o.dst v') w') : wpList P ops Q (o :: rest) a w := by
  cases A with
  | none =>
    obtain ⟨rfl, rfl⟩ := hA rfl
    have hn : news = [] := List.eq_nil_of_length_eq_zero (by simpa using hl)
    subst hn
    exact wpList_append_own_none hgd s x t ho base e i size ht hi v n xs hs hown hx (h v w (by simpa using hown) (World.grownBy.refl _ _) (by simp))
  | some ad => exact wpList_append_own w hgd s x t ho base e i z size bytes ht hi hz hsize hby hzs hsz v n xs hs hown ad m c news hx hl (hnews ad rfl) h1 h63 hbytes hbase h

theorem add_lit (b off j : Nat) : (⟨b, off, none⟩ : Addr).add j = ⟨b, off + j, none⟩ := by unfold Addr.add; split <;> simp_all
/-- What a slice that reads as l hands to an append. -/
theorem Sl.news {α : Type} {w : World} {B k : Nat} {enc : α → List Value} {A : Option Addr} {l : List α} (h : Sl w B k enc A l) (hk : ∀ x, (enc x).length = k) : ∀ ad, A = some ad → ∀ j u, (l.flatMap enc)[j]? = some u → w.cell? (ad.add j) = some u := by
  intro ad hA j u hu
  have hl : l ≠ [] := by rintro rfl; simp at hu
  obtain ⟨b, off, e, _, hc⟩ := h hl
  rw [hA] at e
  obtain rfl := Option.some.inj e
  rw [add_lit]
  clear hA e h hl
  induction l generalizing off j with
  | nil => simp at hu
  | cons x l ih =>
    rw [List.flatMap_cons, List.getElem?_append] at hu
    split at hu
    · have := hc 0 x rfl j u hu
      simpa using this
    · rename_i hlt
      rw [hk x] at hlt hu
      have := ih (off := off + k) (j := j - k) hu (fun i y hy j' u' hu' => by have := hc (i + 1) y (by simpa using hy) j' u' hu'; rw [Nat.add_mul, Nat.one_mul] at this; rw [← this]; congr 2; omega)
      rw [← this]; congr 2; omega
theorem flat_len {α : Type} {enc : α → List Value} {k : Nat} (hk : ∀ x, (enc x).length = k) (l : List α) : (l.flatMap enc).length = l.length * k := by
  induction l with
  | nil => simp
  | cons x l ih => rw [List.flatMap_cons, List.length_append, hk, ih, List.length_cons, Nat.add_mul, Nat.one_mul, Nat.add_comm]
theorem flat_at {α : Type} {enc : α → List Value} {k : Nat} (hk : ∀ x, (enc x).length = k) {l : List α} {i : Nat} {x : α} (hx : l[i]? = some x) {j : Nat} (hj : j < k) : (l.flatMap enc)[i * k + j]? = (enc x)[j]? := by
  induction l generalizing i with
  | nil => simp at hx
  | cons y l ih =>
    rw [List.flatMap_cons]
    cases i with
    | zero =>
      simp at hx; subst hx
      rw [List.getElem?_append_left (by rw [hk]; omega)]; congr 1; omega
    | succ i =>
      rw [List.getElem?_append_right (by rw [hk, Nat.add_mul]; omega), hk]
      rw [← ih (by simpa using hx)]; congr 1; rw [Nat.add_mul]; omega
/-- A row of the call's own reads as its list. -/
theorem Sl.of_own {α : Type} {w : World} {base k : Nat} {e : TypeId} {enc : α → List Value} {v : Value} {l : List α} {xs : List Value} (hk : ∀ x, (enc x).length = k) (h : w.ownsRow base e k v l.length xs) (hxs : xs = l.flatMap enc) :
    ∃ A c, v = .slice A l.length c ∧ (A = none → l.length = 0 ∧ c = 0) ∧ Sl w w.heap.size k enc A l := by
  subst hxs
  rcases h.2 with ⟨rfl, h0⟩ | ⟨g, cap, cur, rfl, hbg, hgg, hnc, hcm, hcs, htake⟩
  · exact ⟨none, 0, by rw [h0], fun _ => ⟨h0, rfl⟩, by rw [List.eq_nil_of_length_eq_zero h0]; exact Sl.nil⟩
  · refine ⟨some ⟨g, 0, none⟩, cap, rfl, (fun e => by cases e), fun hl => ⟨g, 0, rfl, (Array.getElem?_eq_some_iff.1 hgg).1, fun i x hx j u hu => ?_⟩⟩
    have hjk : j < k := by rw [← hk x]; exact (List.getElem?_eq_some_iff.1 hu).1
    have hcell := h.cells (g := g) rfl (i * k + j) u (by rw [flat_at hk hx hjk]; exact hu)
    rw [add_lit] at hcell
    rw [← hcell]; congr 2; omega
theorem ownsRow_base {w : World} {base base' : Nat} {e : TypeId} {size : Nat} {v : Value} {n : Nat} {xs : List Value} (h : w.ownsRow base e size v n xs) (hb : base' ≤ base) : w.ownsRow base' e size v n xs := by
  refine ⟨h.1, ?_⟩
  rcases h.2 with hn | ⟨g, cap, cur, rfl, hbg, rest⟩
  · exact .inl hn
  · exact .inr ⟨g, cap, cur, rfl, by omega, rest⟩
/-- A slice literal of one element. -/
theorem Sl.lit1 {α : Type} (w : World) (k : Nat) (t : TypeId) (enc : α → List Value) (y : α) : Sl (w.alloc (.cells (enc y).toArray t)) (w.alloc (.cells (enc y).toArray t)).heap.size k enc (some ⟨w.heap.size, 0, none⟩) [y] := fun _ =>
  ⟨w.heap.size, 0, rfl, by simp, fun i x hx j u hu => by
    cases i with
    | zero =>
      simp at hx; subst hx
      have := news_alloc w (enc y) t j u hu
      rw [add_lit] at this
      simpa using this
    | succ i => simp at hx⟩
theorem Below.drewN {B : Nat} {a w : World} (h : Below B a w) (n : Nat) : Below B a (w.drewN n) := below_drewN h n
end Go.Proofs.Ytkjhofbjjogmlaa

/- Generic words: inB, Ask, one-cell rows, rows of integers loaded and stored whole. -/
namespace Go.Proofs.Ytkjhofbjjogmlaa
open Go.RowKit Go.Lib

def inB (n lo hi : Int) : Bool := decide (lo ≤ n) && decide (n ≤ hi)
theorem inB_iff {n lo hi : Int} : inB n lo hi = true ↔ lo ≤ n ∧ n ≤ hi := by simp [inB]

/-- What is asked of a function value of one parameter that answers yes or no: at each x that meets D, in whatever later world. -/
structure Ask (P : Program) {α : Type} (enc : α → Value) (g : Nat) (ft lb : Array Value) (p : α → Bool) (D : α → Prop) (w : World) : Prop where
  eg : ∀ args w, (callFunc g args).run P w = .ok (.enter g args) w
  call : ∀ W x, D x → Below w.heap.size w W → Calls P g (ft ++ #[enc x] ++ lb) W fun e w' => e = .returned (.bool (p x)) ∧ Below W.heap.size W w'
theorem Ask.later {P : Program} {α : Type} {enc : α → Value} {g : Nat} {ft lb : Array Value} {p : α → Bool} {D : α → Prop} {w W : World} (h : Ask P enc g ft lb p D w) (hb : Below w.heap.size w W) : Ask P enc g ft lb p D W :=
  ⟨h.eg, fun W' x hx hb' => h.call W' x hx (hb.trans (hb'.mono hb.size))⟩
/-- The same, of two parameters. -/
structure Ask2 (P : Program) {α β : Type} (enc : α → Value) (enc' : β → Value) (g : Nat) (ft lb : Array Value) (p : α → β → Bool) (D : α → β → Prop) (w : World) : Prop where
  eg : ∀ args w, (callFunc g args).run P w = .ok (.enter g args) w
  call : ∀ W x y, D x y → Below w.heap.size w W → Calls P g (ft ++ #[enc x, enc' y] ++ lb) W fun e w' => e = .returned (.bool (p x y)) ∧ Below W.heap.size W w'
theorem Ask2.later {P : Program} {α β : Type} {enc : α → Value} {enc' : β → Value} {g : Nat} {ft lb : Array Value} {p : α → β → Bool} {D : α → β → Prop} {w W : World} (h : Ask2 P enc enc' g ft lb p D w) (hb : Below w.heap.size w W) : Ask2 P enc enc' g ft lb p D W :=
  ⟨h.eg, fun W' x y hx hb' => h.call W' x y hx (hb.trans (hb'.mono hb.size))⟩

theorem all_hit {α : Type} {zs : List α} {p : α → Bool} {k : Nat} {x : α} (hx : zs[k]? = some x) (hp : p x = false) : zs.all p = false := by
  rw [Bool.eq_false_iff]; intro h
  have := List.all_eq_true.1 h x (List.mem_of_getElem? hx)
  rw [hp] at this; cases this
theorem all_miss {α : Type} {zs : List α} {p : α → Bool} (h : ∀ j x, j < zs.length → zs[j]? = some x → p x = true) : zs.all p = true := by
  rw [List.all_eq_true]; intro x hx
  obtain ⟨j, hj, rfl⟩ := List.getElem_of_mem hx
  exact h j _ hj (by simp [hj])
/-- The cell of an element of one cell. -/
theorem Sl.cell1 {α : Type} {enc : α → Value} {w : World} {B : Nat} {A : Option Addr} {l : List α} (h : Sl w B 1 (fun x => [enc x]) A l) {i : Nat} {x : α} (hx : l[i]? = some x) :
    ∃ b off, A = some ⟨b, off, none⟩ ∧ b < B ∧ w.cell? ⟨b, off + i, none⟩ = some (enc x) := by
  obtain ⟨b, off, e, hb, hc⟩ := h.at_ hx
  exact ⟨b, off, e, hb, by have := hc 0 _ rfl; simpa using this⟩

theorem Sl.lt {α : Type} {w : World} {B k : Nat} {enc : α → List Value} {A : Option Addr} {l : List α} (h : Sl w B k enc A l) (hl : l ≠ []) : ∃ b off, A = some ⟨b, off, none⟩ ∧ b < B := by
  obtain ⟨b, off, e, hb, _⟩ := h hl; exact ⟨b, off, e, hb⟩


/-- A slice as a value. -/
structure Sv (β : Type) where
  A : Option Addr
  l : List β
  c : Nat
def Sv.val {β : Type} (s : Sv β) : Value := .slice s.A s.l.length s.c

abbrev encI (x : Int) : List Value := [Value.int .i64 x]
abbrev encV {β : Type} (x : Sv β) : List Value := [x.val]
theorem Lies.fresh' {w : World} {n : Nat} {t : TypeId} {cs : Array Value} (hs : w.heap.size = n) : Lies (w.alloc (.cells cs t)) n t cs := hs ▸ Lies.fresh w t cs

def vals (l : List Int) : Array Value := (l.map (Value.int .i64)).toArray
theorem vals_at {l : List Int} {i : Nat} {x : Int} (h : l[i]? = some x) : (vals l)[i]? = some (.int .i64 x) := by simp [vals, h]
theorem vals_set (l : List Int) (i : Nat) (x : Int) : (vals l).setIfInBounds i (.int .i64 x) = vals (l.set i x) := by simp [vals, List.map_set]
theorem vals_size (l : List Int) : (vals l).size = l.length := by simp [vals]
theorem vals_five {l : List Int} (h : l.length = 5) : vals l = #[.int .i64 (l.getD 0 0), .int .i64 (l.getD 1 0), .int .i64 (l.getD 2 0), .int .i64 (l.getD 3 0), .int .i64 (l.getD 4 0)] := by
  match l, h with
  | [a, b, c, d, e], _ => rfl


/-! ### A whole array, by value, out of a block of the call's own and into it -/
/-- Of w nothing but block g has turned. -/
structure Only (g : Nat) (w w' : World) : Prop where
  os : w'.os = w.os
  tape : w'.tape = w.tape
  output : w'.output = w.output
  size : w'.heap.size = w.heap.size
  block : ∀ k, k ≠ g → w'.heap[k]? = w.heap[k]?
theorem Only.below {g B : Nat} {w0 w w' : World} (h : Only g w w') (hb : Below B w0 w) (hg : B ≤ g) : Below B w0 w' :=
  ⟨h.os.trans hb.os, h.tape.trans hb.tape, h.output.trans hb.output, by rw [h.size]; exact hb.size, fun k hk => (h.block k (by omega)).trans (hb.block k hk)⟩
theorem Only.set (g i : Nat) (w : World) (u : Value) : Only g w (w.setCell ⟨g, i, none⟩ u) :=
  ⟨rfl, rfl, rfl, by simp, fun k hk => heap_setCell_other _ _ _ _ hk⟩
theorem Only.trans {g : Nat} {a b c : World} (h : Only g a b) (h' : Only g b c) : Only g a c :=
  ⟨h'.os.trans h.os, h'.tape.trans h.tape, h'.output.trans h.output, h'.size.trans h.size, fun k hk => (h'.block k hk).trans (h.block k hk)⟩
theorem Only.refl (g : Nat) (w : World) : Only g w w := ⟨rfl, rfl, rfl, rfl, fun _ _ => rfl⟩
theorem Only.lies {g k : Nat} {w w' : World} {t : TypeId} {cs : Array Value} (h : Only g w w') (hl : Lies w k t cs) (hk : k ≠ g) : Lies w' k t cs := hl.to_ (h.block k hk)
theorem splice_cons {α : Type} (L : List α) (o : Nat) (v : α) (r : List α) (h : o < L.length) : splice (L.set o v) (o + 1) r = splice L o (v :: r) := by
  have e1 : (L.set o v).take (o + 1) = L.take o ++ [v] := by
    rw [List.take_succ_eq_append_getElem (by simpa using h), List.take_set_of_le (Nat.le_refl _)]; simp
  have e2 : (L.set o v).drop (o + 1 + r.length) = L.drop (o + (v :: r).length) := by
    rw [List.drop_set_of_lt (by omega)]; congr 1; simp; omega
  unfold splice
  rw [e1, e2]; simp
theorem Lies.setCells {g : Nat} {t : TypeId} : ∀ (vs : List Value) (o : Nat) (w : World) (cs : List Value), Lies w g t cs.toArray → o + vs.length ≤ cs.length → Lies (w.setCells g o vs) g t (splice cs o vs).toArray ∧ Only g w (w.setCells g o vs)
  | [], o, w, cs, h, _ => ⟨by simpa [World.setCells, splice] using h, Only.refl _ _⟩
  | v :: r, o, w, cs, h, hl => by
    rw [World.setCells]
    have h1 := h.set o v
    rw [List.setIfInBounds_toArray] at h1
    have := Lies.setCells r (o + 1) (w.setCell ⟨g, o, none⟩ v) (cs.set o v) h1 (by simp at hl ⊢; omega)
    rw [splice_cons _ _ _ _ (by simp at hl; omega)] at this
    exact ⟨this.1, (Only.set g o w v).trans this.2⟩
theorem Lies.range {w : World} {g o : Nat} {t : TypeId} {cs vs : List Value} (h : Lies w g t cs.toArray) (hv : ∀ j v, vs[j]? = some v → cs[o + j]? = some v) : w.rangeAt g o vs := fun j v hj => by
  rw [h.at_]; simpa using hv j v hj
theorem Lies.there {w : World} {g o n : Nat} {t : TypeId} {cs : List Value} (h : Lies w g t cs.toArray) (hn : o + n ≤ cs.length) : w.there g o n := fun j hj =>
  ⟨by rw [h.at_]; simp; omega, h.free _⟩
section
variable {P : Program} {w : World} {ops : Array Oper} {rest : List Oper} {o : Oper} {a : Act} {Q : Exit → Act → World → Prop}
/-- The load of a whole array (or struct) of integers out of a block that lies. -/
theorem wpList_load_ints (hgd : o.guard = none) (ty : TypeId) (x : Operand) (ho : o.op = .load ty x) (g off : Nat) (hx : a.eval x = .pointer (some ⟨g, off, none⟩)) (t : TypeId) (l vs : List Int) (d : TypeDesc)
    (hl : Lies w g t (vals l)) (hv : ∀ j v, vs[j]? = some v → l[off + j]? = some v) (hu : P.underlying ty = some d) (hd : d.isRow = true) (hi : (P.info? ty).map (·.size) = some vs.length)
    (h : wpList P ops Q rest (a.put o.dst (.agg (vals vs))) w) : wpList P ops Q (o :: rest) a w :=
  wpList_load_mid hgd ty x ho g off hx (vs.map (Value.int .i64)) d (hl.range (cs := l.map (Value.int .i64)) (fun j v hj => by
    rw [List.getElem?_map, Option.map_eq_some_iff] at hj
    obtain ⟨u, hu, rfl⟩ := hj
    rw [List.getElem?_map, hv j u hu]; rfl)) hu hd (by simpa using hi) h
theorem ints_one (l : List Int) : ∀ v ∈ l.map (Value.int .i64), v.oneCell' = true := by
  intro v hv
  obtain ⟨x, _, rfl⟩ := List.mem_map.1 hv
  rfl
/-- The store of a whole array of integers into a block that lies. -/
theorem wpList_store_ints (hgd : o.guard = none) (ty : TypeId) (x y : Operand) (ho : o.op = .store ty x y) (g off : Nat) (hx : a.eval x = .pointer (some ⟨g, off, none⟩)) (t : TypeId) (l vs : List Int)
    (hy : a.eval y = .agg (vals vs)) (hl : Lies w g t (vals l)) (hf : off + vs.length ≤ l.length) (hi : (P.info? ty).map (·.size) = some vs.length)
    (h : ∀ w', Hid (Lies w' g t (vals (splice l off vs))) → Hid (Only g w w') → wpList P ops Q rest (a.put o.dst undef) w') : wpList P ops Q (o :: rest) a w := by
  have hl' : Lies w g t (l.map (Value.int .i64)).toArray := hl
  have hS := Lies.setCells (vs.map (Value.int .i64)) off w (l.map (Value.int .i64)) hl' (by simpa using hf)
  refine wpList_store_mid hgd ty x y ho g off (vals vs) hx hy ?_ (by simpa [vals] using hi) (all_oneCell_toArray (ints_one vs)) (h _ ?_ ?_)
  · simpa [vals] using Lies.there (o := off) (n := vs.length) hl' (by simpa using hf)
  · have e : vals (splice l off vs) = (splice (l.map (Value.int .i64)) off (vs.map (Value.int .i64))).toArray := by simp [vals, splice]
    show Lies _ g t _
    rw [e]; exact hS.1
  · exact hS.2
/-- What a function hands back out of a block of integers. -/
theorem results_ints {fn : Func} {p : Tmp} {ty : TypeId} (h : fn.results = #[.cell p ty]) (tmps : Array Value) (w : World) (g : Nat) (t : TypeId) (l : List Int) (d : TypeDesc)
    (hp : tmps.getD p undef = .pointer (some ⟨g, 0, none⟩)) (hg : Lies w g t (vals l)) (hu : P.underlying ty = some d) (hd : (match d with | .struct _ | .array _ _ => true | _ => false) = true) (hi : (P.info? ty).map (·.size) = some l.length) :
    (results fn tmps).run P w = .ok (.agg (vals l)) w := results_cell_row h tmps w g t (vals l) (0, 0) d hp hg hu hd (by rw [vals_size]; exact hi)
end
end Go.Proofs.Ytkjhofbjjogmlaa

/- A law for a region that draws its order: its first operations by hand, the rest in the order of the text, quietly. -/
namespace Go.Proofs.Ytkjhofbjjogmlaa
open Go.RowKit Go.Lib

section
variable {P : Program} {ops : Array Oper} {md : Region.Mode} {C S : World → Prop}
theorem wpAnyH_of_quiet {Q : Act → Prop} {Q' : Exit → Act → World → Prop} (hQ : ∀ a w, C w → Q a → Q' .normal a w) (hS : ∀ w, C w → S w) : ∀ (fuel : Nat) (listed : Array Bool) (a : Act) (w : World), C w →
    wpAnyQ P md ops C Q fuel listed a → wpAnyH P md ops Q' S fuel listed a w
  | 0, _, _, _, hw, h => ⟨h.1, hQ _ _ hw h.2⟩
  | fuel + 1, _, _, _, hw, h => ⟨fun h0 => hQ _ _ hw (h.1 h0), fun i hi => wpOp_of_qOp hw (fun a' w' hw' hk => ⟨hS w' hw', wpAnyH_of_quiet hQ hS fuel _ a' w' hw' hk⟩) (h.2 i hi)⟩
theorem wpAnyH_quiet_from {l : List Oper} {Q' : Exit → Act → World → Prop} (k fuel : Nat) {listed : Array Bool} {a : Act} {w : World} (hf : fuel = (l.drop k).length) (hns : Region.noSelect l.toArray = true) (hB : Region.lexFrom md l.toArray (l.drop k).length k listed = true)
    (hC : C w) (hS : ∀ w, C w → S w) (h : wpQuiet P l.toArray C (fun a' => ∀ w', C w' → Q' .normal a' w') (l.drop k) a) : wpAnyH P md l.toArray Q' S fuel listed a w := by
  subst hf
  exact wpAnyH_of_quiet (Q := fun a' => ∀ w', C w' → Q' .normal a' w') (fun _ w' hw' h => h w' hw') hS _ _ _ _ hC (wpAnyQ_lex hns (l.drop k) k listed a (fun j => by simp [List.getElem?_drop]) hB h)
/-- At the class 'Below'. -/
theorem wpAnyH_below_from {l : List Oper} {Q' : Exit → Act → World → Prop} (k fuel : Nat) {listed : Array Bool} {a : Act} {w : World} (hf : fuel = (l.drop k).length) (hns : Region.noSelect l.toArray = true) (hB : Region.lexFrom md l.toArray (l.drop k).length k listed = true)
    (hS : ∀ p : Regrown, S (Go.Sort.grow (redrawn w p.d) p.os))
    (h : wpQuiet P l.toArray (fun w' => ∃ p : Regrown, w' = Go.Sort.grow (redrawn w p.d) p.os) (fun a' => ∀ w', (∃ p : Regrown, w' = Go.Sort.grow (redrawn w p.d) p.os) → Q' .normal a' w') (l.drop k) a) : wpAnyH P md l.toArray Q' S fuel listed a w :=
  wpAnyH_quiet_from k fuel hf hns hB ⟨⟨w.drawn, #[]⟩, by rw [Go.Sort.grow_empty]; rfl⟩ (fun _ ⟨p, e⟩ => e ▸ hS p) h
end
end Go.Proofs.Ytkjhofbjjogmlaa

/- A law for a region that draws its order: all but the tail is quiet in a class of worlds and walked in the order of the text; the tail, which waits for all, is walked behind it. -/
namespace Go.Proofs.Ytkjhofbjjogmlaa
open Go.RowKit Go.Lib

section
variable {P : Program} {ops : Array Oper} {md : Region.Mode} {C : World → Prop} {Q : Exit → Act → World → Prop}
theorem ext0 {α : Type} (A : Array α) {n i : Nat} (h : i < n) : (A.extract 0 n)[i]? = A[i]? := by
  rw [Array.getElem?_extract]
  by_cases h' : i < A.size
  · rw [if_pos (by omega), Nat.zero_add]
  · rw [if_neg (by omega), Array.getElem?_eq_none (by omega)]
/-- How many of the first n are not yet listed. -/
def unl (n : Nat) (L : Array Bool) : Nat := (List.range n).countP fun i => !L.getD i true
theorem unl_set {n i : Nat} {L : Array Bool} (hi : i < n) (hs : i < L.size) (hu : L.getD i true = false) : unl n (L.setIfInBounds i true) + 1 = unl n L := by
  unfold unl
  induction n with
  | zero => omega
  | succ n ih =>
    simp only [List.range_succ, List.countP_append, List.countP_cons, List.countP_nil]
    have hother : ∀ j, j ≠ i → (L.setIfInBounds i true).getD j true = L.getD j true := fun j hj => getD_set_ne true (Ne.symm hj)
    by_cases h : i = n
    · subst h
      have e1 : (List.range i).countP (fun j => !(L.setIfInBounds i true).getD j true) = (List.range i).countP (fun j => !L.getD j true) :=
        List.countP_congr fun j hj => by rw [hother j (by have := List.mem_range.1 hj; omega)]
      have e2 : (L.setIfInBounds i true).getD i true = true := by simp [hs]
      rw [e1, e2, hu]; simp
    · have := ih (by omega)
      rw [hother n (fun e => h e.symm)]
      omega
theorem unl_zero {n : Nat} {L : Array Bool} (h : unl n L = 0) : ∀ i, i < n → L.getD i true = true := fun i hi => by
  unfold unl at h
  have := List.countP_eq_zero.1 h i (List.mem_range.2 hi)
  simpa using this
theorem unl_pos {n : Nat} {L : Array Bool} (h : 0 < unl n L) : ∃ i, i < n ∧ L.getD i true = false ∧ ∀ j, j < i → L.getD j true = true := by
  unfold unl at h
  induction n with
  | zero => simp at h
  | succ n ih =>
    by_cases h' : 0 < (List.range n).countP fun i => !L.getD i true
    · exact (ih h').elim fun i hi => ⟨i, Nat.lt_succ_of_lt hi.1, hi.2⟩
    · simp only [List.range_succ, List.countP_append, List.countP_cons, List.countP_nil] at h
      refine ⟨n, by omega, ?_, fun j hj => unl_zero (show unl n L = 0 by unfold unl; omega) j hj⟩
      cases hn : L.getD n true with
      | false => rfl
      | true =>
        have h2 : (List.range n).countP (fun i => !L.getD i true) = 0 := by omega
        rw [h2, hn] at h; simp at h
/-- Edges lead back; guards of the first n are among these. -/
def headOk (ops : Array Oper) (n : Nat) : Bool :=
  (List.range ops.size).all fun i => match ops[i]? with
    | some o => (o.after.all fun e => decide (e.on < i)) && (decide (n ≤ i) || match o.guard with | none => true | some (j, _) => decide (j < n))
    | none => true
theorem headOk_spec {n i : Nat} {o : Oper} (h : headOk ops n = true) (ho : ops[i]? = some o) : (∀ e ∈ o.after, e.on < i) ∧ (i < n → ∀ j b, o.guard = some (j, b) → j < n) := by
  have hi := (Array.getElem?_eq_some_iff.1 ho).1
  have := List.all_eq_true.1 h i (List.mem_range.2 hi)
  simp only [ho, Bool.and_eq_true, Array.all_eq_true', decide_eq_true_eq, Bool.or_eq_true] at this
  refine ⟨this.1, fun hn j b hg => ?_⟩
  have h2 := this.2
  rw [hg] at h2
  simp only [decide_eq_true_eq] at h2
  omega
theorem ready_trunc {n i : Nat} {L : Array Bool} (hi : i < n) (ht : ∀ t, n ≤ t → L.getD t false = false) (h : i ∈ Region.ready md ops L) : i ∈ Region.ready md (ops.extract 0 n) (L.extract 0 n) := by
  obtain ⟨h1, o, ho, h2⟩ := mem_ready.1 h
  have hL : ∀ (j : Nat) (d : Bool), j < n → (L.extract 0 n).getD j d = L.getD j d := fun j d hj => by
    rw [Array.getD_eq_getD_getElem?, Array.getD_eq_getD_getElem?, ext0 L hj]
  refine mem_ready.2 ⟨by rw [hL i true hi]; exact h1, o, by rw [ext0 _ hi]; exact ho, fun e he hb => ?_⟩
  have := h2 e he hb
  by_cases hj : e.on < n
  · rw [hL _ _ hj]; exact this
  · rw [ht _ (by omega)] at this; cases this
theorem qOp_trunc {n i : Nat} {K : Act → Prop} {a : Act} (hi : i < n) (hh : headOk ops n = true) (h : qOp P (ops.extract 0 n) C i K a) : qOp P ops C i K a := by
  have e : (ops.extract 0 n)[i]? = ops[i]? := ext0 _ hi
  unfold qOp at *
  rw [e] at h
  cases ho : ops[i]? with
  | none => simpa [ho] using h
  | some o =>
    simp only [ho] at h ⊢
    have hg : Region.wanted o (yielded (ops.extract 0 n) a.tmps) = Region.wanted o (yielded ops a.tmps) := by
      unfold Region.wanted
      cases hq : o.guard with
      | none => rfl
      | some q =>
        obtain ⟨j, b⟩ := q
        have hj := (headOk_spec hh ho).2 hi j b hq
        simp only [yielded]
        rw [show (ops.extract 0 n)[j]? = ops[j]? from ext0 _ hj]
    rw [hg] at h
    exact h
theorem set_ext0 {n i : Nat} {L : Array Bool} (hin : i < n) (his : i < L.size) : (L.extract 0 n).setIfInBounds i true = (L.setIfInBounds i true).extract 0 n := by
  apply Array.ext_getElem?
  intro j
  by_cases hj : j < n
  · rw [ext0 _ hj, Array.getElem?_setIfInBounds, Array.getElem?_setIfInBounds, ext0 _ hj]
    by_cases hij : i = j
    · subst hij; rw [if_pos rfl, if_pos rfl, if_pos (by simp; omega), if_pos his]
    · rw [if_neg hij, if_neg hij]
  · rw [Array.getElem?_eq_none (by simp; omega), Array.getElem?_eq_none (by simp; omega)]
theorem wpAny_of_trunc {n m : Nat} (hs : Region.sinkB md ops n = true) (hc : Region.chainB md ops n = true) (hh : headOk ops n = true) (hn : n < ops.size)
    (T : Act → World → Prop) (hT : ∀ L a w, HeadInv md ops n L → unl n L = 0 → T a w → wpAny P md ops Q m L a w) :
    ∀ (f : Nat) (L : Array Bool) (a : Act) (w : World), HeadInv md ops n L → unl n L = f → C w → wpAnyQ P md (ops.extract 0 n) C (fun a' => ∀ w', C w' → T a' w') f (L.extract 0 n) a → wpAny P md ops Q (f + m) L a w
  | 0, L, a, w, inv, hu, hw, h => by rw [Nat.zero_add]; exact hT L a w inv hu (h.2 w hw)
  | f + 1, L, a, w, inv, hu, hw, h => by
    rw [show f + 1 + m = (f + m) + 1 by omega]
    obtain ⟨k, hk, hku, hkl⟩ := unl_pos (n := n) (L := L) (by omega)
    refine ⟨fun h0 => ?_, fun i hi => ?_⟩
    · exfalso
      have hks : k < ops.size := by omega
      have hko : ops[k]? = some ops[k] := by simp [hks]
      have : k ∈ Region.ready md ops L := mem_ready.2 ⟨hku, _, hko, fun e he _ => by
        have h1 := (headOk_spec hh hko).1 e he
        have h2 := hkl _ h1
        have hsz : e.on < L.size := by rw [inv.size]; omega
        simp [hsz] at h2 ⊢
        exact h2⟩
      rw [h0] at this; cases this
    · have hin : i < n := by
        rcases Nat.lt_or_ge i n with h1 | h1
        · exact h1
        · exact absurd hi (tail_waits hs hc hn inv _ k rfl hk hku i h1)
      have ht : ∀ t, n ≤ t → L.getD t false = false := fun t ht => by
        rcases Nat.lt_or_ge t ops.size with h1 | h1
        · exact getD_both (inv.tail t ht h1)
        · have : L.size ≤ t := by rw [inv.size]; exact h1
          simp [Array.getElem?_eq_none this]
      have hq := qOp_trunc hin hh (h.2 i (ready_trunc hin ht hi))
      refine wpOp_of_qOp hw (fun a' w' hw' hK => ?_) hq
      have hiu := (mem_ready.1 hi).1
      have his : i < L.size := by rw [inv.size]; omega
      have hset := set_ext0 hin his
      rw [hset] at hK
      exact wpAny_of_trunc hs hc hh hn T hT f _ a' w' (inv.set hi hin) (by have := unl_set hin his hiu; omega) hw' hK
theorem wp_region_head_tail {id n : Nat} {a : Act} {w : World} {tl : List Oper} (hm : P.follows .mixedOrders = true) (hs : Region.sinkB .any ops n = true) (hc : Region.chainB .any ops n = true) (hh : headOk ops n = true) (hn : n < ops.size)
    (hB : Region.lexB .any (ops.extract 0 n) = true) (htl : ∀ j, tl[j]? = ops[n + j]?) (hq : Region.seqB .any ops tl.length n ((Array.replicate ops.size false).mapIdx fun i _ => decide (i < n)) = true) (hlen : n + tl.length = ops.size)
    (hC : C w.drew) (h : wpQuiet P (ops.extract 0 n) C (fun a' => ∀ w', C w' → wpList P ops Q tl a' w') (ops.extract 0 n).toList a) : (Code.region id ops true).wp P Q a w := by
  simp only [Region.lexB, Bool.and_eq_true] at hB
  refine wp_region_any hm ?_
  have hsz : (ops.extract 0 n).size = n := by simp; omega
  have h1 := wpAnyQ_lex (C := C) (md := .any) hB.1 (ops.extract 0 n).toList 0 (Array.replicate (ops.extract 0 n).size false) a (fun j => by rw [Nat.zero_add, Array.getElem?_toList]) (by simpa using hB.2) h
  have e1 : Array.replicate (ops.extract 0 n).size false = (Array.replicate ops.size false).extract 0 n := by
    apply Array.ext_getElem?
    intro j
    by_cases hj : j < n
    · rw [ext0 _ hj, hsz, Array.getElem?_replicate, Array.getElem?_replicate, if_pos hj, if_pos (by omega)]
    · rw [Array.getElem?_eq_none (by simp; omega), Array.getElem?_eq_none (by simp; omega)]
  rw [e1] at h1
  have hl : (ops.extract 0 n).toList.length = n := by rw [Array.length_toList, hsz]
  rw [hl] at h1
  have hu : unl n (Array.replicate ops.size false) = n := by
    unfold unl
    rw [List.countP_eq_length.2 (fun i hi => by
      have h1 := List.mem_range.1 hi
      have h2 : i < ops.size := by omega
      simp [h2]), List.length_range]
  have inv : HeadInv .any ops n (Array.replicate ops.size false) := ⟨by simp, (fun j oj _ hl => by rw [getD_replicate_false] at hl; cases hl), fun t _ ht => by simp [ht]⟩
  have := wpAny_of_trunc (m := tl.length) hs hc hh hn (fun a' w' => wpList P ops Q tl a' w') (fun L a' w' inv' hu' hT => by
    have eL : L = (Array.replicate ops.size false).mapIdx fun i _ => decide (i < n) := by
      apply Array.ext (by simp [inv'.size])
      intro i h1 h2
      simp only [Array.getElem_mapIdx]
      by_cases hi : i < n
      · have := unl_zero hu' i hi; simp [h1] at this; simp [hi, this]
      · have := inv'.tail i (by omega) (by rw [← inv'.size]; exact h1); simp [h1] at this; simp [hi, this]
    subst eL
    exact wpAny_of_seq tl n _ a' w' htl hq hT) n _ a _ inv hu hC h1
  rw [hlen] at this
  exact this
/-- The same for a region that is written out, at the class 'Below'. -/
theorem wp_region_tail {id : Nat} {l : List Oper} {a : Act} {w : World} (n : Nat) (hm : P.follows .mixedOrders = true) (hs : Region.sinkB .any l.toArray n = true) (hc : Region.chainB .any l.toArray n = true) (hh : headOk l.toArray n = true)
    (hB : Region.lexB .any (l.take n).toArray = true) (hq : Region.seqB .any l.toArray (l.drop n).length n ((Array.replicate l.length false).mapIdx fun i _ => decide (i < n)) = true) (hn : n < l.length)
    (h : wpQuiet P (l.take n).toArray (fun w' => ∃ p : Regrown, w' = Go.Sort.grow (redrawn w p.d) p.os) (fun a' => ∀ w', (∃ p : Regrown, w' = Go.Sort.grow (redrawn w p.d) p.os) → wpList P l.toArray Q (l.drop n) a' w') (l.take n) a) : (Code.region id l.toArray true).wp P Q a w := by
  have e : l.toArray.extract 0 n = (l.take n).toArray := by simp
  exact wp_region_head_tail (C := fun w' => ∃ p : Regrown, w' = Go.Sort.grow (redrawn w p.d) p.os) (tl := l.drop n) hm hs hc hh (by simpa using hn) (by rw [e]; exact hB) (fun j => by simp [List.getElem?_drop]) (by simpa using hq) (by simp; omega) ⟨⟨w.drawn + 1, #[]⟩, by rw [Go.Sort.grow_empty]; rfl⟩ (by rw [e]; exact h)
/-- A whole array of integers, read quietly. -/
theorem wpQuiet_load_ints {rest : List Oper} {o : Oper} {a : Act} {Q : Act → Prop} (hgd : o.guard = none) (ty : TypeId) (x : Operand) (ho : o.op = .load ty x) (g off : Nat) (hx : a.eval x = .pointer (some ⟨g, off, none⟩)) (vs : List Int) (d : TypeDesc)
    (hv : ∀ W, C W → W.rangeAt g off (vs.map (Value.int .i64))) (hu : P.underlying ty = some d) (hd : d.isRow = true) (hi : (P.info? ty).map (·.size) = some vs.length)
    (h : wpQuiet P ops C Q rest (a.put o.dst (.agg (vals vs)))) : wpQuiet P ops C Q (o :: rest) a := by
  refine wpQuiet_step fun K hK => ?_
  rw [if_pos (by simp [Region.wanted, hgd])]
  refine ⟨.agg (vals vs), fun W hW => ?_, hK _ h⟩
  unfold Oper.quietAt execOp
  simp only [ho, hx, Instr.loadAt, Instr.sureAddr, Sem.run_bind, Sem.run_pure, Result.andThen_ok, run_loadVar_mid W g off ty (vs.map (Value.int .i64)) d (hv W hW) hu hd (by simpa using hi)]
  exact ⟨rfl, rfl⟩
end
end Go.Proofs.Ytkjhofbjjogmlaa

/- The law of T for a region in a round of a loop over a function. -/
namespace Go.Proofs.Ytkjhofbjjogmlaa
open Go.RowKit Go.Lib

section
variable {P : Program} {ops : Array Oper} {md : Region.Mode} {C : World → Prop} {Q : Exit → Act → World → Prop} {n l : Nat}
theorem wpOpIn_of_qOp {i : Nat} {a : Act} {K : Act → Prop} {K' : Act → World → Prop} {w : World} (hC : C w) (h : ∀ a w', C w' → K a → K' a w') (hh : qOp P ops C i K a) : wpOpIn (Fence.wide.inRound l) n P ops Q i K' a w := by
  unfold qOp at hh
  unfold wpOpIn
  cases ho : ops[i]? with
  | none => simp only [ho] at hh; exact h _ _ hC hh
  | some o =>
    simp only [ho] at hh ⊢
    by_cases hw : Region.wanted o (yielded ops a.tmps) = true
    · rw [if_pos hw] at hh ⊢
      obtain ⟨v, h1, h2⟩ := hh
      have h3 := h1 w hC
      refine ⟨fun _ _ => trivial, ?_⟩
      have hd : ∀ c, o.op ≠ .defer c := by
        intro c hc
        unfold Oper.quietAt execOp at h3
        simp only [hc] at h3
        cases hS : Sem.run P (resolve a.eval c o.type) w <;> simp [hS, Oper.quietUpon, Result.andThen] at h3
      rw [show (Fence.wide.inRound l).round = some l from rfl, Oper.semAt_some l _ _ hd]
      unfold Oper.quietAt at h3
      generalize (execOp a.eval o).run P w = r at *
      cases r with
      | halt x w' => exact h3.elim
      | ok x w' =>
        cases x <;> first
          | (obtain ⟨e1, e2⟩ := h3; subst e1 e2; exact h _ _ hC h2)
          | (obtain ⟨e1, e2⟩ := h3
             subst e1
             refine ⟨(fun hd => by cases hd), CallsIn.inRound l (callsIn_wide.2 (e2.mono ?_))⟩
             rintro e w'' ⟨rfl, hw''⟩
             exact h _ _ hw'' h2)
          | exact h3.elim
    · rw [if_neg hw] at hh ⊢
      exact ⟨fun _ _ => trivial, h _ _ hC hh⟩
theorem wpAnyIn_of_trunc {k m : Nat} (hs : Region.sinkB md ops k = true) (hc : Region.chainB md ops k = true) (hh : headOk ops k = true) (hn : k < ops.size)
    (T : Act → World → Prop) (hT : ∀ L a w, HeadInv md ops k L → unl k L = 0 → T a w → wpAnyIn (Fence.wide.inRound l) n P md ops Q m L a w) :
    ∀ (f : Nat) (L : Array Bool) (a : Act) (w : World), HeadInv md ops k L → unl k L = f → C w → wpAnyQ P md (ops.extract 0 k) C (fun a' => ∀ w', C w' → T a' w') f (L.extract 0 k) a → wpAnyIn (Fence.wide.inRound l) n P md ops Q (f + m) L a w
  | 0, L, a, w, inv, hu, hw, h => by rw [Nat.zero_add]; exact hT L a w inv hu (h.2 w hw)
  | f + 1, L, a, w, inv, hu, hw, h => by
    rw [show f + 1 + m = (f + m) + 1 by omega]
    obtain ⟨j, hk, hku, hkl⟩ := unl_pos (n := k) (L := L) (by omega)
    refine ⟨fun h0 => ?_, fun i hi => ?_⟩
    · exfalso
      have hks : j < ops.size := by omega
      have hko : ops[j]? = some ops[j] := by simp [hks]
      have : j ∈ Region.ready md ops L := mem_ready.2 ⟨hku, _, hko, fun e he _ => by
        have h1 := (headOk_spec hh hko).1 e he
        have h2 := hkl _ h1
        have hsz : e.on < L.size := by rw [inv.size]; omega
        simp [hsz] at h2 ⊢
        exact h2⟩
      rw [h0] at this; cases this
    · have hin : i < k := by
        rcases Nat.lt_or_ge i k with h1 | h1
        · exact h1
        · exact absurd hi (tail_waits hs hc hn inv _ j rfl hk hku i h1)
      have ht : ∀ t, k ≤ t → L.getD t false = false := fun t ht => by
        rcases Nat.lt_or_ge t ops.size with h1 | h1
        · exact getD_both (inv.tail t ht h1)
        · have : L.size ≤ t := by rw [inv.size]; exact h1
          simp [Array.getElem?_eq_none this]
      have hq := qOp_trunc hin hh (h.2 i (ready_trunc hin ht hi))
      refine wpOpIn_of_qOp hw (fun a' w' hw' hK => ?_) hq
      have hiu := (mem_ready.1 hi).1
      have his : i < L.size := by rw [inv.size]; omega
      rw [set_ext0 hin his] at hK
      exact wpAnyIn_of_trunc hs hc hh hn T hT f _ a' w' (inv.set hi hin) (by have := unl_set hin his hiu; omega) hw' hK
theorem wpAnyIn_of_seq : ∀ (tl : List Oper) (k : Nat) (L : Array Bool) (a : Act) (w : World), (∀ j, tl[j]? = ops[k + j]?) → Region.seqB md ops tl.length k L = true → wpListIn (Fence.wide.inRound l) n P ops Q tl a w → wpAnyIn (Fence.wide.inRound l) n P md ops Q tl.length L a w
  | [], k, L, a, w, _, hB, h => ⟨by simpa [Region.seqB] using hB, h⟩
  | o :: tl, k, L, a, w, hl, hB, h => by
    have ho : ops[k]? = some o := by simpa using (hl 0).symm
    simp only [List.length_cons, Region.seqB, Bool.and_eq_true, decide_eq_true_eq] at hB
    refine ⟨(fun h0 => by rw [hB.1] at h0; cases h0), fun i hi => ?_⟩
    rw [hB.1, List.mem_singleton] at hi
    subst hi
    have ih := fun a w => wpAnyIn_of_seq tl (i + 1) (L.setIfInBounds i true) a w (fun j => by have := hl (j + 1); simpa [Nat.add_assoc, Nat.add_comm 1 j] using this) hB.2
    unfold wpOpIn
    rw [ho]
    simp only [wpListIn] at h
    show if Region.wanted o (yielded ops a.tmps) = true then _ else _
    split
    · rename_i hw; rw [if_pos hw] at h; exact Oper.wpIn_mono ih h
    · rename_i hw; rw [if_neg hw] at h; exact ⟨h.1, ih _ _ h.2⟩
theorem wpIn_region_tail {id : Nat} {lo : List Oper} {a : Act} {w : World} (k : Nat) (hm : P.follows .mixedOrders = true) (hs : Region.sinkB .any lo.toArray k = true) (hc : Region.chainB .any lo.toArray k = true) (hh : headOk lo.toArray k = true)
    (hB : Region.lexB .any (lo.take k).toArray = true) (hq : Region.seqB .any lo.toArray (lo.drop k).length k ((Array.replicate lo.length false).mapIdx fun i _ => decide (i < k)) = true) (hn : k < lo.length)
    (h : wpQuiet P (lo.take k).toArray (fun w' => ∃ p : Regrown, w' = Go.Sort.grow (redrawn w p.d) p.os) (fun a' => ∀ w', (∃ p : Regrown, w' = Go.Sort.grow (redrawn w p.d) p.os) → wpListIn (Fence.wide.inRound l) n P lo.toArray Q (lo.drop k) a' w') (lo.take k) a) :
    (Code.region id lo.toArray true).wpIn (Fence.wide.inRound l) n P Q a w := by
  have e : lo.toArray.extract 0 k = (lo.take k).toArray := by simp
  have hsz : (lo.take k).toArray.size = k := by simp; omega
  simp only [Region.lexB, Bool.and_eq_true] at hB
  refine wpIn_region_any hm ?_
  have h1 := wpAnyQ_lex (C := fun w' => ∃ p : Regrown, w' = Go.Sort.grow (redrawn w p.d) p.os) (md := .any) hB.1 (lo.take k) 0 (Array.replicate (lo.take k).toArray.size false) a (fun j => by simp) (by simpa using hB.2) h
  have e1 : Array.replicate (lo.take k).toArray.size false = (Array.replicate lo.toArray.size false).extract 0 k := by
    apply Array.ext_getElem?
    intro j
    by_cases hj : j < k
    · rw [ext0 _ hj, hsz, Array.getElem?_replicate, Array.getElem?_replicate, if_pos hj, if_pos (by simp; omega)]
    · rw [Array.getElem?_eq_none (by simp; omega), Array.getElem?_eq_none (by simp; omega)]
  rw [e1, show (lo.take k).length = k by simp; omega] at h1
  have hu : unl k (Array.replicate lo.toArray.size false) = k := by
    unfold unl
    rw [List.countP_eq_length.2 (fun i hi => by
      have h1 := List.mem_range.1 hi
      have h2 : i < lo.length := by omega
      simp [h2]), List.length_range]
  have inv : HeadInv .any lo.toArray k (Array.replicate lo.toArray.size false) := ⟨by simp, (fun j oj _ hl => by rw [getD_replicate_false] at hl; cases hl), fun t _ ht => by simp at ht; simp [ht]⟩
  have hC : ∃ p : Regrown, { w with drawn := w.drawn + 1 } = Go.Sort.grow (redrawn w p.d) p.os := ⟨⟨w.drawn + 1, #[]⟩, by rw [Go.Sort.grow_empty]; rfl⟩
  have := wpAnyIn_of_trunc (l := l) (n := n) (Q := Q) (C := fun w' => ∃ p : Regrown, w' = Go.Sort.grow (redrawn w p.d) p.os) (m := (lo.drop k).length) hs hc hh (by simpa using hn) (fun a' w' => wpListIn (Fence.wide.inRound l) n P lo.toArray Q (lo.drop k) a' w') (fun L a' w' inv' hu' hT => by
    have eL : L = (Array.replicate lo.length false).mapIdx fun i _ => decide (i < k) := by
      apply Array.ext (by simp [inv'.size])
      intro i h1 h2
      simp only [Array.getElem_mapIdx]
      by_cases hi : i < k
      · have := unl_zero hu' i hi; simp [h1] at this; simp [hi, this]
      · have := inv'.tail i (by omega) (by rw [← inv'.size]; exact h1); simp [h1] at this; simp [hi, this]
    subst eL
    exact wpAnyIn_of_seq (lo.drop k) k _ a' w' (fun j => by simp [List.getElem?_drop]) hq hT) k _ a _ inv hu hC (by rw [e]; exact h1)
  have hlen : k + (lo.drop k).length = lo.toArray.size := by simp; omega
  rw [hlen] at this
  exact this
end
end Go.Proofs.Ytkjhofbjjogmlaa

/- Generic words of rounds and marks. -/
namespace Go.Proofs.Ytkjhofbjjogmlaa
open Go.RowKit Go.Lib
attribute [local go_sem] Oper.semAt_some

/-- The load of a whole array of integers, inside a fence. -/
theorem wpListIn_load_ints {F : Fence} {n : Nat} {P : Program} {w : World} {ops : Array Oper} {rest : List Oper} {o : Oper} {a : Act} {Q : Exit → Act → World → Prop} (hgd : o.guard = none) (ty : TypeId) (x : Operand) (ho : o.op = .load ty x) (g off : Nat) (hx : a.eval x = .pointer (some ⟨g, off, none⟩)) (t : TypeId) (l vs : List Int) (d : TypeDesc)
    (hl : Lies w g t (vals l)) (hv : ∀ j v, vs[j]? = some v → l[off + j]? = some v) (hu : P.underlying ty = some d) (hd : d.isRow = true) (hi : (P.info? ty).map (·.size) = some vs.length)
    (h : wpListIn F n P ops Q rest (a.put o.dst (.agg (vals vs))) w) : wpListIn F n P ops Q (o :: rest) a w := by
  have hr : w.rangeAt g off (vs.map (Value.int .i64)) := hl.range (cs := l.map (Value.int .i64)) (fun j v hj => by
    rw [List.getElem?_map, Option.map_eq_some_iff] at hj
    obtain ⟨u, hu, rfl⟩ := hj
    rw [List.getElem?_map, hv j u hu]; rfl)
  refine wpListIn_plain hgd fun K hK => ?_
  unfold Oper.wpIn
  refine ⟨by simp [Oper.about, ho], ?_⟩
  rw [Oper.semAt_plain F _ _ (by rw [ho]; intro c hc; cases hc)]
  unfold execOp
  simp only [ho, hx, Instr.loadAt, Instr.sureAddr, Sem.run_bind, Sem.run_pure, Result.andThen_ok, run_loadVar_mid w g off ty (vs.map (Value.int .i64)) d hr hu hd (by simpa using hi)]
  exact hK _ _ h

section
variable {P : Program}
/-- The store of a whole array of integers, inside a fence. -/
theorem wpListIn_store_ints {F : Fence} {n : Nat} {w : World} {ops : Array Oper} {rest : List Oper} {o : Oper} {a : Act} {Q : Exit → Act → World → Prop} (hgd : o.guard = none) (ty : TypeId) (x y : Operand) (ho : o.op = .store ty x y) (g off : Nat) (hx : a.eval x = .pointer (some ⟨g, off, none⟩)) (t : TypeId) (l vs : List Int)
    (hy : a.eval y = .agg (vals vs)) (hl : Lies w g t (vals l)) (hf : off + vs.length ≤ l.length) (hi : (P.info? ty).map (·.size) = some vs.length)
    (h : ∀ w', Hid (Lies w' g t (vals (splice l off vs))) → Hid (Only g w w') → wpListIn F n P ops Q rest (a.put o.dst undef) w') : wpListIn F n P ops Q (o :: rest) a w := by
  have hl' : Lies w g t (l.map (Value.int .i64)).toArray := hl
  have hS := Lies.setCells (vs.map (Value.int .i64)) off w (l.map (Value.int .i64)) hl' (by simpa using hf)
  refine wpListIn_plain hgd fun K hK => ?_
  unfold Oper.wpIn
  refine ⟨by simp [Oper.about, ho], ?_⟩
  rw [Oper.semAt_plain F _ _ (by rw [ho]; intro c hc; cases hc)]
  have ht : w.there g off (vals vs).size := by simpa [vals] using Lies.there (o := off) (n := vs.length) hl' (by simpa using hf)
  unfold execOp
  simp only [ho, hx, hy, Instr.storeAt, Instr.sureAddr, Sem.run_bind, Sem.run_pure, Result.andThen_ok, run_storeVar_mid w g off ty (vals vs) ht (by simpa [vals] using hi) (all_oneCell_toArray (ints_one vs))]
  refine hK _ _ (h _ ?_ ?_)
  · have e : vals (splice l off vs) = (splice (l.map (Value.int .i64)) off (vs.map (Value.int .i64))).toArray := by simp [vals, splice]
    show Lies _ g t _
    rw [e]
    have := hS.1
    simpa [vals] using this
  · have := hS.2
    show Only _ _ _
    simpa [vals] using this
end


/-- A function's contract where its body holds a range over a function. -/
theorem calls_of_wp_marks {P : Program} (n : Nat) {f : FuncId} {fn : Func} {c : Code} {args : Array Value} {w : World} {R : Ending → World → Prop} (hf : P.funcs[f]? = some fn) (hb : fn.body = some c)
    (h : c.wp P (bodyPostM Fence.wide n P fn R) { tmps := args ++ Array.replicate (fn.ntmps - args.size) undef, defers := [] } w) : Calls P f args w R :=
  callsIn_wide.1 (callsIn_of_wp_marks hf hb trivial (wpIn_wide.2 h) rfl)
theorem leave_mark {P : Program} {F : Fence} {n : Nat} {fn : Func} {tmps : Array Value} {R : Ending → World → Prop} {w : World} {D : Nat} (hd : w.heap[D]? = some (.deferred (some [])))
    (h : ∃ v, (results fn tmps).run P (w.putObj D (.deferred none)) = .ok v (w.putObj D (.deferred none)) ∧ R (.returned v) (w.putObj D (.deferred none))) : LeavesInM F n P fn tmps R [{ target := .collected D, args := #[] }] .returning w :=
  ⟨by simp, .inl ⟨_, _, rfl, run_takeDeferred hd, h⟩⟩


theorem KeepsFrom.of_below {D : Nat} {A A' : World} (h : Below A.heap.size A A') : KeepsFrom D A A' :=
  ⟨h.size, fun k o _ hk _ => by rw [h.block k (Array.getElem?_eq_some_iff.1 hk).1]; exact hk⟩

theorem KeepsFrom.of_only {D g : Nat} {A A' : World} {t : TypeId} {cs : Array Value} (h : Only g A A') (hg : Lies A g t cs) : KeepsFrom D A A' :=
  ⟨by rw [h.size]; exact Nat.le_refl _, fun k o _ hk ho => by rw [h.block k (fun e => by subst e; rw [hg] at hk; cases hk; cases ho)]; exact hk⟩

theorem run_loadVar_one {P : Program} (w : World) (ty : TypeId) (a : Addr) (v : Value) (d : TypeDesc) (hc : w.cell? a = some v) (hu : P.underlying ty = some d) (hd : d.isRow = false) : (loadVar ty a).run P w = .ok v w := by
  have hagg : (isAgg ty).run P w = .ok false w := by
    unfold isAgg
    rw [Sem.run_bind, run_underlying hu w]
    cases d <;> simp_all
  simp [loadVar, Sem.run_bind, hagg, hc]
theorem results_cell_one {P : Program} {fn : Func} {p : Tmp} {ty : TypeId} (h : fn.results = #[.cell p ty]) (tmps : Array Value) (w : World) (a : Addr) (v : Value) (d : TypeDesc)
    (hp : tmps.getD p undef = .pointer (some a)) (hc : w.cell? a = some v) (hu : P.underlying ty = some d) (hd : d.isRow = false) :
    (results fn tmps).run P w = .ok v w := by
  have hp' : tmps[p]?.getD undef = .pointer (some a) := by simpa using hp
  simp [results, h, hp', asAddr, run_loadVar_one w ty a v d hc hu hd]

/-- A whole aggregate, read quietly. -/
theorem wpQuiet_load_whole {P : Program} {ops : Array Oper} {C : World → Prop} {rest : List Oper} {o : Oper} {a : Act} {Q : Act → Prop} (hgd : o.guard = none) (ty : TypeId) (x : Operand) (ho : o.op = .load ty x) (g off : Nat) (hx : a.eval x = .pointer (some ⟨g, off, none⟩)) (vs : List Value) (d : TypeDesc)
    (hv : ∀ W, C W → W.rangeAt g off vs) (hu : P.underlying ty = some d) (hd : d.isRow = true) (hi : (P.info? ty).map (·.size) = some vs.length)
    (h : wpQuiet P ops C Q rest (a.put o.dst (.agg vs.toArray))) : wpQuiet P ops C Q (o :: rest) a := by
  refine wpQuiet_step fun K hK => ?_
  rw [if_pos (by simp [Region.wanted, hgd])]
  refine ⟨.agg vs.toArray, fun W hW => ?_, hK _ h⟩
  unfold Oper.quietAt execOp
  simp only [ho, hx, Instr.loadAt, Instr.sureAddr, Sem.run_bind, Sem.run_pure, Result.andThen_ok, run_loadVar_mid W g off ty vs d (hv W hW) hu hd (by simpa using hi)]
  exact ⟨rfl, rfl⟩

/-- A whole aggregate, read quietly behind a guard. -/
theorem wpQuiet_load_wholeG {P : Program} {ops : Array Oper} {C : World → Prop} {rest : List Oper} {o : Oper} {a : Act} {Q : Act → Prop} (hw : Region.wanted o (yielded ops a.tmps) = true) (ty : TypeId) (x : Operand) (ho : o.op = .load ty x) (g off : Nat) (hx : a.eval x = .pointer (some ⟨g, off, none⟩)) (vs : List Value) (d : TypeDesc)
    (hv : ∀ W, C W → W.rangeAt g off vs) (hu : P.underlying ty = some d) (hd : d.isRow = true) (hi : (P.info? ty).map (·.size) = some vs.length)
    (h : wpQuiet P ops C Q rest (a.put o.dst (.agg vs.toArray))) : wpQuiet P ops C Q (o :: rest) a := by
  refine wpQuiet_step fun K hK => ?_
  rw [if_pos hw]
  refine ⟨.agg vs.toArray, fun W hW => ?_, hK _ h⟩
  unfold Oper.quietAt execOp
  simp only [ho, hx, Instr.loadAt, Instr.sureAddr, Sem.run_bind, Sem.run_pure, Result.andThen_ok, run_loadVar_mid W g off ty vs d (hv W hW) hu hd (by simpa using hi)]
  exact ⟨rfl, rfl⟩
end Go.Proofs.Ytkjhofbjjogmlaa

/- A range over a function whose iterator keeps at most one block of its own, that it makes first: the law for the caller. -/
namespace Go.Proofs.Ytkjhofbjjogmlaa
open Go.RowKit Go.Lib

/-- New blocks, and at most one record from D on that has turned. -/
def Recs (D : Nat) (A A' : World) : Prop := ∃ row, A.grownBy A' row ∧ ∀ r, row = some r → D ≤ r ∧ ∃ o : Obj, A.heap[r]? = some o ∧ o.isCells = false
theorem Recs.alloc (D : Nat) (A : World) (o : Obj) : Recs D A (A.alloc o) := ⟨none, World.grownBy_alloc A o none, fun r e => by cases e⟩
theorem Recs.put {D l : Nat} {A : World} {o : Obj} (o' : Obj) (hD : D ≤ l) (hl : A.heap[l]? = some o) (ho : o.isCells = false) : Recs D A (A.putObj l o') :=
  ⟨some l, grownBy_putObj' A l o', fun r e => by cases e; exact ⟨hD, o, hl, ho⟩⟩
theorem Recs.size {D : Nat} {A A' : World} (h : Recs D A A') : A.heap.size ≤ A'.heap.size := by
  obtain ⟨row, hgr, hr⟩ := h; exact hgr.size
theorem Recs.lies {t : TypeId} {D g : Nat} {A A' : World} {cs : Array Value} (h : Recs D A A') (hl : Lies A g t cs) : Lies A' g t cs := by
  obtain ⟨row, hgr, hr⟩ := h
  refine hl.to_ (hgr.block g hl.in_ (fun e => ?_))
  obtain ⟨o, ho, hc⟩ := (hr g e.symm).2
  rw [hl] at ho; cases ho; cases hc
theorem Recs.below {B D : Nat} {w A A' : World} (h : Recs D A A') (hb : Below B w A) (hB : B ≤ D) (hA : B ≤ A.heap.size) : Below B w A' := by
  obtain ⟨row, hgr, hr⟩ := h
  exact hb.grown hgr hA (fun k e => by have := (hr k e).1; omega)
/-- Steps of the iterator's own: new blocks, and its block b. -/
def StepB (b : Nat) (A A' : World) : Prop := A.grownBy A' (some b)
theorem StepB.of_below {b : Nat} {A A' : World} (h : Below A.heap.size A A') : StepB b A A' := ⟨h.os, h.tape, h.output, h.size, fun k hk _ => h.block k hk⟩
theorem StepB.of_only {b : Nat} {A A' : World} (h : Only b A A') : StepB b A A' := ⟨h.os, h.tape, h.output, by rw [h.size]; exact Nat.le_refl _, fun k _ hk => h.block k (fun e => hk (by rw [e]))⟩
theorem StepB.trans {b : Nat} {A A' A'' : World} (h : StepB b A A') (h' : StepB b A' A'') : StepB b A A'' :=
  ⟨h'.os.trans h.os, h'.tape.trans h.tape, h'.output.trans h.output, Nat.le_trans h.size h'.size, fun k hk hb => (h'.block k (Nat.lt_of_lt_of_le hk h.size) hb).trans (h.block k hk hb)⟩
theorem StepB.below' {b : Nat} {w A A' : World} (h : StepB b w A) (h' : Below A.heap.size A A') : StepB b w A' := h.trans (.of_below h')
theorem StepB.only_new {b G : Nat} {w A A' : World} (h : StepB b w A) (h' : Only G A A') (hG : w.heap.size ≤ G) : StepB b w A' :=
  ⟨h'.os.trans h.os, h'.tape.trans h.tape, h'.output.trans h.output, by rw [h'.size]; exact h.size, fun k hk hb => (h'.block k (by omega)).trans (h.block k hk hb)⟩
theorem StepB.same {b k : Nat} {A A' : World} {o : Obj} (h : StepB b A A') (hk : A.heap[k]? = some o) (hb : k ≠ b) : A'.heap[k]? = some o := by
  rw [h.block k (Array.getElem?_eq_some_iff.1 hk).1 (fun e => hb (by cases e; rfl))]; exact hk
theorem StepB.lies {b g : Nat} {t : TypeId} {A A' : World} {cs : Array Value} (h : StepB b A A') (hl : Lies A g t cs) (hg : g ≠ b) : Lies A' g t cs := h.same hl hg
theorem StepB.below {B b : Nat} {w A A' : World} (h : StepB b A A') (hb : Below B w A) (hB : B ≤ b) (hA : B ≤ A.heap.size) : Below B w A' :=
  hb.grown h hA (fun k e => by cases e; omega)
/-- The iterator gives just the elements of xs, in their order; its own block is the first that it makes. -/
def GivesB {α : Type} (n : Nat) (P : Program) (g : Nat) (lb : Array Value) (encs : Nat → α → Array Value) (xs : List α) (w : World) (Own : Nat → α → World → Prop) (St : World → Prop) : Prop :=
  ∀ (l : Nat) (J : Nat → World → Prop) (Jx : Nat → World → Prop) (W : World), Below w.heap.size w W → (∀ k A, J k A → St A) →
    (∀ k A A', J k A → StepB W.heap.size A A' → J k A') →
    (∀ k x A, xs[k]? = some x → J k A → Own W.heap.size x A → YieldAt Fence.wide (n - 1) P l (encs W.heap.size x) A fun e A' =>
      (e = .returned (.bool true) ∧ J (k + 1) A' ∧ Own W.heap.size x A') ∨ (e = .returned (.bool false) ∧ Jx (k + 1) A')) →
    J 0 W →
    CallsIn Fence.wide n P g (#[.func (.yield l) #[] #[]] ++ lb) W fun e A => (∃ v, e = .returned v) ∧ (J xs.length A ∨ ∃ k, k ≤ xs.length ∧ Jx k A)
/-- How the body of a round may be left. -/
def bodyPostB (D : Nat) (I : Nat → World → Prop) (Ix : Code → Nat → World → Prop) (O : World → Prop) (k : Nat) (W : World) : Exit → Act → World → Prop
  | .normal, _, W' => KeepsFrom D W W' ∧ I k W' ∧ O W'
  | .ret, _, W' => KeepsFrom D W W' ∧ Ix .ret k W'
  | .exit id, _, W' => KeepsFrom D W W' ∧ Ix (.exit id) k W'
  | .goto t, _, W' => KeepsFrom D W W' ∧ Ix (.goto t) k W'
  | .panic _, _, _ => False
  | .outgrown, _, _ => False
section
variable {P : Program}
theorem round_givesB {D l m : Nat} {fn : FuncId} {tmps : Array Value} {assign body : Code} {ps : Array Tmp} {I : Nat → World → Prop} {Ix : Code → Nat → World → Prop} {O : World → Prop} {k : Nat} {W : World}
    (rec : LoopState → Option Code → Loop) (hrec : rec = fun st pe => { state := st, pending := pe, fn, tmps, params := ps, assign, body, defers := D }) (hDl : D < l)
    (hI : ∀ k A A', I k A → Recs D A A' → I k A') (hIx : ∀ c k A A', Ix c k A → Recs D A A' → Ix c k A') (hO : ∀ A A', O A → Recs D A A' → O A')
    (hl : W.heap[l]? = some (.loop (rec .ready none))) (hd : W.heap[D]? = some (.deferred (some []))) {a' : Act}
    (hbody : body.wpIn (Fence.wide.inRound l) m P (bodyPostB D I Ix O k (W.putObj l (.loop { rec .ready none with state := .busy }))) a' (W.putObj l (.loop { rec .ready none with state := .busy }))) :
    ∃ W1, (Instr.beginRound l).run P W = .ok () W1 ∧ body.wpIn (Fence.wide.inRound l) m P (fun e _ W3 => ∃ (jump : Option Code) (W4 : World), (match e with | .normal => jump = none | .ret => jump = some .ret | .exit id => jump = some (.exit id) | .goto t => jump = some (.goto t) | _ => False) ∧
      (Instr.endRound l jump).run P W3 = .ok (.bool jump.isNone) W4 ∧ W4.heap[D]? = some (.deferred (some [])) ∧
      (match jump with
        | none => (I k W4 ∧ O W4) ∧ W4.heap[l]? = some (.loop (rec .ready none))
        | some c => Ix c k W4 ∧ W4.heap[l]? = some (.loop (rec .done (some c))))) a' W1 := by
  have hlt := (Array.getElem?_eq_some_iff.1 hl).1
  refine ⟨_, run_beginRound hl (by rw [hrec]), wpIn_mono hbody ?_⟩
  have hl2 : (W.putObj l (.loop { rec .ready none with state := .busy })).heap[l]? = some (.loop { rec .ready none with state := .busy }) := World.putObj_heap_same hlt
  have hd2 : (W.putObj l (.loop { rec .ready none with state := .busy })).heap[D]? = some (.deferred (some [])) := (World.putObj_heap_other (by omega)).trans hd
  have close : ∀ (jump : Option Code) (W3 : World), KeepsFrom D (W.putObj l (.loop { rec .ready none with state := .busy })) W3 →
      W3.heap[l]? = some (.loop { rec .ready none with state := .busy }) ∧ ∃ W4, W4 = W3.putObj l (.loop (rec (if jump.isNone then .ready else .done) jump)) ∧ (Instr.endRound l jump).run P W3 = .ok (.bool jump.isNone) W4 ∧ W4.heap[D]? = some (.deferred (some [])) ∧ W4.heap[l]? = some (.loop (rec (if jump.isNone then .ready else .done) jump)) := by
    intro jump W3 hk
    have h3 := hk.same _ _ (by omega) hl2 rfl
    refine ⟨h3, _, rfl, ?_, (World.putObj_heap_other (by omega)).trans (hk.same _ _ (Nat.le_refl _) hd2 rfl), World.putObj_heap_same (Array.getElem?_eq_some_iff.1 h3).1⟩
    have := run_endRound (P := P) jump h3
    rw [hrec] at this ⊢
    exact this
  intro e _ W3 hp
  match e, hp with
  | .normal, ⟨hk, hi, ho⟩ =>
    obtain ⟨h3, W4, rfl, hr, h4, h5⟩ := close none W3 hk
    exact ⟨none, _, rfl, hr, h4, ⟨hI _ _ _ hi (Recs.put _ (by omega) h3 rfl), hO _ _ ho (Recs.put _ (by omega) h3 rfl)⟩, h5⟩
  | .ret, ⟨hk, hi⟩ =>
    obtain ⟨h3, W4, rfl, hr, h4, h5⟩ := close (some .ret) W3 hk
    exact ⟨some .ret, _, rfl, hr, h4, hIx _ _ _ _ hi (Recs.put _ (by omega) h3 rfl), h5⟩
  | .exit id, ⟨hk, hi⟩ =>
    obtain ⟨h3, W4, rfl, hr, h4, h5⟩ := close (some (.exit id)) W3 hk
    exact ⟨some (.exit id), _, rfl, hr, h4, hIx _ _ _ _ hi (Recs.put _ (by omega) h3 rfl), h5⟩
  | .goto t, ⟨hk, hi⟩ =>
    obtain ⟨h3, W4, rfl, hr, h4, h5⟩ := close (some (.goto t)) W3 hk
    exact ⟨some (.goto t), _, rfl, hr, h4, hIx _ _ _ _ hi (Recs.put _ (by omega) h3 rfl), h5⟩
  | .panic _, hp => exact hp.elim
  | .outgrown, hp => exact hp.elim

theorem range_givesB {α : Type} {g : Operand} {ps : Array Tmp} {assign body : Code} {Q : Exit → Act → World → Prop} {a : Act} {w : World} (n : Nat) {gf : Nat} {lb : Array Value} (hg : a.eval g = .func (.func gf) #[] lb) (eg : ∀ args w, (callFunc gf args).run P w = .ok (.enter gf args) w)
    {encs : Nat → α → Array Value} {xs : List α} {w0 : World} {Own : Nat → α → World → Prop} {St : World → Prop} (hseq : GivesB (n - 1) P gf lb encs xs w0 Own St) (hb0 : Below w0.heap.size w0 w) (hps : ∀ b x, (encs b x).size = ps.size)
    (hO : ∀ b x A A', Own b x A → Recs w.heap.size A A' → Own b x A')
    (I : Nat → World → Prop) (Ix : Code → Nat → World → Prop) (hI : ∀ k A A', I k A → Recs w.heap.size A A' → I k A') (hIs : ∀ k A A', I k A → StepB (w.heap.size + 2) A A' → I k A') (hIx : ∀ c k A A', Ix c k A → Recs w.heap.size A A' → Ix c k A') (h0 : I 0 w) (hSt : ∀ k A, I k A → St A)
    (Ax : α → Act → World → Prop) (hAx : ∀ x a' A A', Ax x a' A → Recs w.heap.size A A' → Ax x a' A')
    (hassign : ∀ (l : Nat) (k : Nat) (x : α) (W : World) (K : Act → World → Prop), xs[k]? = some x → I k W → Own (w.heap.size + 2) x W → (∀ a' W', KeepsFrom w.heap.size W W' → I k W' → Own (w.heap.size + 2) x W' → Ax x a' W' → K a' W') →
      assign.wpIn (Fence.wide.inRound l) (n - 1 - 1) P (Exit.then K (fun _ _ _ => False)) { tmps := (ps.zip (encs (w.heap.size + 2) x)).foldl (fun t (p, v) => t.setIfInBounds p v) a.tmps, defers := [] } W)
    (hbody : ∀ (l : Nat) (k : Nat) (x : α) (a' : Act) (W : World), w.heap.size ≤ l → xs[k]? = some x → I k W → Own (w.heap.size + 2) x W → Ax x a' W → body.wpIn (Fence.wide.inRound l) (n - 1 - 1) P (bodyPostB w.heap.size I Ix (Own (w.heap.size + 2) x) (k + 1) W) a' W)
    (hdone : ∀ (D : Nat) (W : World), w.heap.size ≤ D → I xs.length W → W.heap[D]? = some (.deferred (some [])) → Q .normal { a with defers := { target := .collected D, args := #[] } :: a.defers } W)
    (hstop : ∀ (D : Nat) (c : Code) (k : Nat) (W : World), w.heap.size ≤ D → k ≤ xs.length → Ix c k W → W.heap[D]? = some (.deferred (some [])) → c.wpIn Fence.wide n P Q { a with defers := { target := .collected D, args := #[] } :: a.defers } W) :
    (Code.rangeFunc g ps assign body).wp P Q a w := by
  refine (wpIn_wide (n := n)).1 (wpIn_rangeFunc fun fn hfn => ?_)
  have hro : Fence.wide.round = none := rfl
  rw [hro]
  obtain ⟨rec, hrec⟩ : ∃ rec : LoopState → Option Code → Loop, rec = fun st pe => { state := st, pending := pe, fn, tmps := a.tmps, params := ps, assign, body, defers := w.heap.size } := ⟨_, rfl⟩
  obtain ⟨W1, hW1⟩ : ∃ W1, (w.alloc (.deferred (some []))).alloc (.loop (rec .ready none)) = W1 := ⟨_, rfl⟩
  have hs1 : W1.heap.size = w.heap.size + 2 := by rw [← hW1]; simp
  have hl1 : W1.heap[w.heap.size + 1]? = some (.loop (rec .ready none)) := by
    rw [← hW1]
    have := heap_alloc_new (w.alloc (.deferred (some []))) (.loop (rec .ready none))
    rwa [World.size_alloc] at this
  have hd1 : W1.heap[w.heap.size]? = some (.deferred (some [])) := by
    rw [← hW1, heap_alloc_old _ _ (by simp)]; exact heap_alloc_new _ _
  have hi1 : I 0 W1 := by rw [← hW1]; exact hI _ _ _ (hI _ _ _ h0 (Recs.alloc _ _ _)) (Recs.alloc _ _ _)
  have hb1 : Below w0.heap.size w0 W1 := by
    rw [← hW1]; exact (hb0.alloc hb0.size _).alloc (by simp; have := hb0.size; omega) _
  refine ⟨w.heap.size + 1, [{ target := .collected w.heap.size, args := #[] }], W1, { target := .fn (.func gf) lb, args := #[.func (.yield (w.heap.size + 1)) #[] #[]] }, W1, gf, #[.func (.yield (w.heap.size + 1)) #[] #[]] ++ lb, W1, ?_, ?_, fun _ _ => trivial, ?_, (fun h => by cases h), ?_⟩
  · rw [← hW1, hrec]; exact run_enterLoop_outer _ _ _ _ _
  · simp only [resolve, hg]; simp [go_sem]
  · simp [invoke, go_sem, eg]
  have hcall := hseq (w.heap.size + 1) (fun k A => I k A ∧ A.heap[w.heap.size + 1]? = some (.loop (rec .ready none)) ∧ A.heap[w.heap.size]? = some (.deferred (some [])))
    (fun k A => ∃ c, Ix c k A ∧ A.heap[w.heap.size + 1]? = some (.loop (rec .done (some c))) ∧ A.heap[w.heap.size]? = some (.deferred (some []))) W1 hb1 (fun k A hs => hSt k A hs.1)
  rw [hs1] at hcall
  refine (hcall (fun k A A' hs ht => ⟨hIs _ _ _ hs.1 ht, ht.same hs.2.1 (by omega), ht.same hs.2.2 (by omega)⟩) ?_ ⟨hi1, hl1, hd1⟩).mono ?_
  · rintro k x A hx ⟨hi, hl, hd⟩ ho
    have hy := run_yield (P := P) (args := encs (w.heap.size + 2) x) hl (by rw [hrec]; exact hps _ x)
    rw [hrec] at hy
    refine ⟨fn, _, assign, body, hy, roundIn_of_wpIn hfn (hassign _ k x A _ hx hi ho ?_)⟩
    intro a' A' hkf hi' ho' hax
    have hl' := hkf.same _ _ (by omega) hl rfl
    have hd' := hkf.same _ _ (Nat.le_refl _) hd rfl
    have hbd := hbody (w.heap.size + 1) k x a' (A'.putObj (w.heap.size + 1) (.loop { rec .ready none with state := .busy })) (by omega) hx (hI _ _ _ hi' (Recs.put _ (by omega) hl' rfl)) (hO _ _ _ _ ho' (Recs.put _ (by omega) hl' rfl)) (hAx _ _ _ _ hax (Recs.put _ (by omega) hl' rfl))
    obtain ⟨W2, hbeg, hrun⟩ := round_givesB (l := w.heap.size + 1) rec hrec (by omega) hI hIx (hO _ _) hl' hd' hbd
    refine ⟨W2, hbeg, wpIn_mono hrun ?_⟩
    rintro e a3 W3 ⟨jump, W4, hj, hend, hd4, hm⟩
    cases e with
    | normal =>
      subst hj
      obtain ⟨⟨hi4, ho4⟩, hl4⟩ := hm
      exact ⟨_, _, hend, .inl ⟨rfl, ⟨hi4, hl4, hd4⟩, ho4⟩⟩
    | ret =>
      subst hj
      exact ⟨_, _, hend, .inr ⟨rfl, .ret, hm.1, hm.2, hd4⟩⟩
    | exit id =>
      subst hj
      exact ⟨_, _, hend, .inr ⟨rfl, .exit id, hm.1, hm.2, hd4⟩⟩
    | goto t =>
      subst hj
      exact ⟨_, _, hend, .inr ⟨rfl, .goto t, hm.1, hm.2, hd4⟩⟩
    | panic ch => exact hj.elim
    | outgrown => exact hj.elim
  · rintro e A ⟨⟨v, rfl⟩, (⟨hi, hl, hd⟩ | ⟨k, hk, c, hi, hl, hd⟩)⟩
    · refine ⟨none, _, by have := run_endLoop (P := P) hl (by rw [hrec]; simp); rw [hrec] at this; exact this, hdone _ _ (Nat.le_refl _) (hI _ _ _ hi (Recs.put _ (by omega) hl rfl)) ((World.putObj_heap_other (by omega)).trans hd)⟩
    · refine ⟨some c, _, by have := run_endLoop (P := P) hl (by rw [hrec]; simp); rw [hrec] at this; exact this, hstop _ c k _ (Nat.le_refl _) hk (hIx _ _ _ _ hi (Recs.put _ (by omega) hl rfl)) ((World.putObj_heap_other (by omega)).trans hd)⟩
end
end Go.Proofs.Ytkjhofbjjogmlaa

/- Rows in memory; the leaves: within, stands, windows, latest, earliest. -/
namespace Go.Proofs.Ytkjhofbjjogmlaa
open Go.RowKit Go.Lib

structure Wk where
  f : Int
  o : Bool
  deriving DecidableEq, Inhabited
structure Nt where
  p : Int
  w : Int
  k : Int
  y : Bool
  deriving DecidableEq, Inhabited
def encW (x : Wk) : List Value := [.int .i64 x.f, .bool x.o]
def encN (x : Nt) : List Value := [.int .i64 x.p, .int .i64 x.w, .int .u8 x.k, .bool x.y]
/-- A row as it lies in memory. -/
structure RwM where
  n : Int
  ws : Sv Wk
  lag : Int
  sh : Int
  old : Int
  cl : Bool
  dug : Sv Int
  ns : Sv Nt
def RwM.cells (r : RwM) : List Value := [.int .i64 r.n, .slice r.ws.A r.ws.l.length r.ws.c, .int .i64 r.lag, .int .i64 r.sh, .int .i64 r.old, .bool r.cl, .slice r.dug.A r.dug.l.length r.dug.c, .slice r.ns.A r.ns.l.length r.ns.c]
structure RwM.At (r : RwM) (w : World) (B : Nat) : Prop where
  ws : Sl w B 2 encW r.ws.A r.ws.l
  dug : Sl w B 1 encI r.dug.A r.dug.l
  ns : Sl w B 4 encN r.ns.A r.ns.l
  lw : r.ws.l.length ≤ 1000000
  ld : r.dug.l.length ≤ 1000000
  ln : r.ns.l.length ≤ 1000000
  kn : ∀ x, x ∈ r.ns.l → 0 ≤ x.k ∧ x.k ≤ 255
theorem RwM.At.below {r : RwM} {w w' : World} {B B' : Nat} (h : r.At w B) (hb : Below B w w') (hB : B ≤ B') : r.At w' B' :=
  ⟨(h.ws.below hb).more hB, (h.dug.below hb).more hB, (h.ns.below hb).more hB, h.lw, h.ld, h.ln, h.kn⟩
theorem Sl.cellW {w : World} {B : Nat} {A : Option Addr} {l : List Wk} (h : Sl w B 2 encW A l) {i : Nat} {x : Wk} (hx : l[i]? = some x) :
    ∃ b off, A = some ⟨b, off, none⟩ ∧ b < B ∧ w.cell? ⟨b, off + i * 2, none⟩ = some (.int .i64 x.f) ∧ w.cell? ⟨b, off + i * 2 + 1, none⟩ = some (.bool x.o) := by
  obtain ⟨b, off, e, hb, hc⟩ := h.at_ hx
  exact ⟨b, off, e, hb, by have := hc 0 _ rfl; simpa using this, by have := hc 1 _ rfl; simpa using this⟩
theorem Sl.cellN {w : World} {B : Nat} {A : Option Addr} {l : List Nt} (h : Sl w B 4 encN A l) {i : Nat} {x : Nt} (hx : l[i]? = some x) :
    ∃ b off, A = some ⟨b, off, none⟩ ∧ b < B ∧ w.cell? ⟨b, off + i * 4, none⟩ = some (.int .i64 x.p) ∧ w.cell? ⟨b, off + i * 4 + 1, none⟩ = some (.int .i64 x.w) ∧ w.cell? ⟨b, off + i * 4 + 2, none⟩ = some (.int .u8 x.k) ∧ w.cell? ⟨b, off + i * 4 + 3, none⟩ = some (.bool x.y) := by
  obtain ⟨b, off, e, hb, hc⟩ := h.at_ hx
  exact ⟨b, off, e, hb, by have := hc 0 _ rfl; simpa using this, by have := hc 1 _ rfl; simpa using this, by have := hc 2 _ rfl; simpa using this, by have := hc 3 _ rfl; simpa using this⟩

theorem within_any (n lo hi : Int) (w : World) : Calls Try.prog 65 #[.int .i64 n, .int .i64 lo, .int .i64 hi] w fun e w' => e = .returned (.bool (inB n lo hi)) ∧ w = w' := by
  go_enter Try.func65, Try.ntmps65
  go_wp2
  all_goals (go_ret; exact ⟨ret_bool (by simp [inB]; try omega), rfl⟩)
theorem wkValid_any (x : Wk) (w : World) : Calls Try.prog 67 #[.agg (encW x).toArray] w fun e w' => e = .returned (.bool (inB x.f 0 10)) ∧ Below w.heap.size w w' := by
  unfold encW
  go_enter Try.func67, Try.ntmps67
  go_wp2_with (go_at_call 65; refine (within_any _ _ _ _).mono ?_; rintro e w' ⟨rfl, rfl⟩)
  all_goals (go_ret; exact ⟨rfl, (by repeat (first | (with_reducible assumption) | (with_reducible exact Below.refl _ _) | (with_reducible refine Below.drew ?_) | (with_reducible refine below_drewN ?_ _) | ((with_reducible refine Below.setCell ?_ ?_ _); rotate_left; focus (first | (simp; done) | (simp; omega) | omega)) | ((with_reducible refine Below.alloc ?_ ?_ _); rotate_left; focus (first | (simp; done) | (simp; omega) | omega))))⟩)
theorem has_any (lo hi n : Int) (w : World) : Calls Try.prog 76 #[.agg #[.int .i64 lo, .int .i64 hi], .int .i64 n] w fun e w' => e = .returned (.bool (inB n lo hi)) ∧ Below w.heap.size w w' := by
  go_enter Try.func76, Try.ntmps76
  go_wp2_with (go_at_call 65; refine (within_any _ _ _ _).mono ?_; rintro e w' ⟨rfl, rfl⟩)
  all_goals (go_ret; exact ⟨rfl, (by repeat (first | (with_reducible assumption) | (with_reducible exact Below.refl _ _) | (with_reducible refine Below.drew ?_) | (with_reducible refine below_drewN ?_ _) | ((with_reducible refine Below.setCell ?_ ?_ _); rotate_left; focus (first | (simp; done) | (simp; omega) | omega)) | ((with_reducible refine Below.alloc ?_ ?_ _); rotate_left; focus (first | (simp; done) | (simp; omega) | omega))))⟩)
theorem canBeDug_any (r : RwM) (n : Int) (w : World) (_hl : r.ws.l.length ≤ 1000000) : Calls Try.prog 69 #[.agg r.cells.toArray, .int .i64 n] w fun e w' => e = .returned (.bool (inB n 0 r.ws.l.length)) ∧ Below w.heap.size w w' := by
  unfold RwM.cells
  go_enter Try.func69, Try.ntmps69
  go_wp2_with (go_at_call 65; refine (within_any _ _ _ _).mono ?_; rintro e w' ⟨rfl, rfl⟩)
  all_goals (go_ret; exact ⟨rfl, (by repeat (first | (with_reducible assumption) | (with_reducible exact Below.refl _ _) | (with_reducible refine Below.drew ?_) | (with_reducible refine below_drewN ?_ _) | ((with_reducible refine Below.setCell ?_ ?_ _); rotate_left; focus (first | (simp; done) | (simp; omega) | omega)) | ((with_reducible refine Below.alloc ?_ ?_ _); rotate_left; focus (first | (simp; done) | (simp; omega) | omega))))⟩)
theorem hasPlant_any (r : RwM) (n : Int) (w : World) (h0 : -1000000 ≤ r.n) (h1 : r.n ≤ 1000000) : Calls Try.prog 86 #[.agg r.cells.toArray, .int .i64 n] w fun e w' => e = .returned (.bool (inB n 0 (r.n - 1))) ∧ Below w.heap.size w w' := by
  unfold RwM.cells
  go_enter Try.func86, Try.ntmps86
  go_wp2_with (go_at_call 65; refine (within_any _ _ _ _).mono ?_; rintro e w' ⟨rfl, rfl⟩)
  all_goals (go_ret; exact ⟨rfl, (by repeat (first | (with_reducible assumption) | (with_reducible exact Below.refl _ _) | (with_reducible refine Below.drew ?_) | (with_reducible refine below_drewN ?_ _) | ((with_reducible refine Below.setCell ?_ ?_ _); rotate_left; focus (first | (simp; done) | (simp; omega) | omega)) | ((with_reducible refine Below.alloc ?_ ?_ _); rotate_left; focus (first | (simp; done) | (simp; omega) | omega))))⟩)
/-- Does a plant with this Dug stand in the week? -/
def stB (d week : Int) : Bool := decide (d = 0) || decide (week ≤ d)
theorem stands_any (r : RwM) (p : Nat) (d week : Int) (w : World) (hs : Sl w w.heap.size 1 encI r.dug.A r.dug.l) (hd : r.dug.l[p]? = some d) (_hl : r.dug.l.length ≤ 1000000) :
    Calls Try.prog 91 #[.agg r.cells.toArray, .int .i64 p, .int .i64 week] w fun e w' => e = .returned (.bool (stB d week)) ∧ Below w.heap.size w w' := by
  obtain ⟨b, off, hA, hb, hc⟩ := hs.cell1 hd
  have hlt := (List.getElem?_eq_some_iff.1 hd).1
  have hltz : (p : Int) < (r.dug.l.length : Int) := by omega
  have hp0 : (0 : Int) ≤ (p : Int) := by omega
  have hc' : (w.alloc (.cells r.cells.toArray 34)).cell? ⟨b, off + p, none⟩ = some (.int .i64 d) := by rw [World.cell?_alloc_lt w _ ⟨b, off + p, none⟩ hb]; exact hc
  have hne : b ≠ w.heap.size := by omega
  unfold RwM.cells at hc' ⊢
  rw [hA] at hc' ⊢
  clear hA hs hd hc hlt
  unfold stB
  by_cases h0 : d = 0
  · subst h0
    go_enter Try.func91, Try.ntmps91
    go_wp2
    all_goals (go_ret; exact ⟨ret_bool (by simp), (by repeat (first | (with_reducible assumption) | (with_reducible exact Below.refl _ _) | (with_reducible refine Below.drew ?_) | (with_reducible refine below_drewN ?_ _) | ((with_reducible refine Below.setCell ?_ ?_ _); rotate_left; focus (first | (simp; done) | (simp; omega) | omega)) | ((with_reducible refine Below.alloc ?_ ?_ _); rotate_left; focus (first | (simp; done) | (simp; omega) | omega))))⟩)
  · have h1 : ((d : Int) == 0) = false := by simpa using h0
    go_enter Try.func91, Try.ntmps91
    go_wp2
    all_goals (go_ret; exact ⟨ret_bool (by simp [h0]), (by repeat (first | (with_reducible assumption) | (with_reducible exact Below.refl _ _) | (with_reducible refine Below.drew ?_) | (with_reducible refine below_drewN ?_ _) | ((with_reducible refine Below.setCell ?_ ?_ _); rotate_left; focus (first | (simp; done) | (simp; omega) | omega)) | ((with_reducible refine Below.alloc ?_ ?_ _); rotate_left; focus (first | (simp; done) | (simp; omega) | omega))))⟩)
theorem anyWeek_any (w : World) : Calls Try.prog 74 #[] w fun e w' => e = .returned (.agg #[.int .i64 0, .int .i64 31]) ∧ Below w.heap.size w w' := by
  go_enter Try.func74, Try.ntmps74
  go_wp2
  all_goals (exact bodyPost_ret (v := .agg #[.int .i64 0, .int .i64 31]) (by simp [results, Try.results74, go_sem]) rfl ⟨rfl, (by repeat (first | (with_reducible assumption) | (with_reducible exact Below.refl _ _) | (with_reducible refine Below.drew ?_) | (with_reducible refine below_drewN ?_ _) | ((with_reducible refine Below.setCell ?_ ?_ _); rotate_left; focus (first | (simp; done) | (simp; omega) | omega)) | ((with_reducible refine Below.alloc ?_ ?_ _); rotate_left; focus (first | (simp; done) | (simp; omega) | omega))))⟩)
theorem notAtAll_any (w : World) : Calls Try.prog 97 #[] w fun e w' => e = .returned (.agg #[.int .i64 31, .int .i64 31]) ∧ Below w.heap.size w w' := by
  go_enter Try.func97, Try.ntmps97
  go_wp2
  all_goals (exact bodyPost_ret (v := .agg #[.int .i64 31, .int .i64 31]) (by simp [results, Try.results97, go_sem]) rfl ⟨rfl, (by repeat (first | (with_reducible assumption) | (with_reducible exact Below.refl _ _) | (with_reducible refine Below.drew ?_) | (with_reducible refine below_drewN ?_ _) | ((with_reducible refine Below.setCell ?_ ?_ _); rotate_left; focus (first | (simp; done) | (simp; omega) | omega)) | ((with_reducible refine Below.alloc ?_ ?_ _); rotate_left; focus (first | (simp; done) | (simp; omega) | omega))))⟩)
end Go.Proofs.Ytkjhofbjjogmlaa

/- A law for a region that draws its order: some operations only read, and are taken first; the others come one behind the other; a tail waits for all. -/
namespace Go.Proofs.Ytkjhofbjjogmlaa
open Go.RowKit Go.Lib

section
variable {P : Program} {ops : Array Oper} {md : Region.Mode} {S : World → Prop} {Q : Exit → Act → World → Prop} {T : Act → World → Prop}
/-- Only at a normal end. -/
def Ends (T : Act → World → Prop) : Exit → Act → World → Prop
  | .normal, a, w => T a w
  | _, _, _ => False
theorem Ends.intro {a : Act} {w : World} (h : T a w) : Ends T .normal a w := h
theorem Oper.wp_ends {o : Oper} {a : Act} {w : World} {K K' : Act → World → Prop} (h : ∀ a w, K a w → K' a w) (hh : o.wp P a w K (Ends T)) : o.wp P a w K' Q := by
  unfold Oper.wp at *
  generalize (execOp a.eval o).run P w = r at *
  cases r with
  | ok n w' =>
    cases n <;> simp only [Oper.upon] at hh ⊢ <;>
      first
        | exact h _ _ hh
        | (refine Calls.mono hh (fun e w'' he => ?_)
           cases e with
           | returned v => exact h _ _ he
           | panicked c => exact (show False from he).elim
           | outgrown => obtain ⟨a1, w1, h1⟩ := (show LetsOut (Ends T) from he); exact (show False from h1).elim)
        | exact Rows.mono hh (fun _ _ he => h _ _ he)
  | halt x w' =>
    cases x <;> simp only [Oper.upon] at hh ⊢
    exact (show False from hh).elim
theorem wpOp_trunc {n i : Nat} {K K' : Act → World → Prop} {a : Act} {w : World} (hi : i < n) (hh : headOk ops n = true) (hK : ∀ a w, K a w → K' a w) (h : wpOp P (ops.extract 0 n) (Ends T) i K a w) : wpOp P ops Q i K' a w := by
  have e : (ops.extract 0 n)[i]? = ops[i]? := ext0 _ hi
  unfold wpOp at *
  rw [e] at h
  cases ho : ops[i]? with
  | none => simp only [ho] at h ⊢; exact hK _ _ h
  | some o =>
    simp only [ho] at h ⊢
    have hg : Region.wanted o (yielded (ops.extract 0 n) a.tmps) = Region.wanted o (yielded ops a.tmps) := by
      unfold Region.wanted
      cases hq : o.guard with
      | none => rfl
      | some q =>
        obtain ⟨j, b⟩ := q
        have hj := (headOk_spec hh ho).2 hi j b hq
        simp only [yielded]
        rw [show (ops.extract 0 n)[j]? = ops[j]? from ext0 _ hj]
    rw [hg] at h
    split
    · rename_i hw
      rw [if_pos hw] at h
      rcases h with h | ⟨_, a1, w1, h1⟩
      · exact .inl (Oper.wp_ends hK h)
      · exact (show False from h1).elim
    · rename_i hw
      rw [if_neg hw] at h
      exact hK _ _ h
theorem wpAny_of_truncE {n m : Nat} (hs : Region.sinkB md ops n = true) (hc : Region.chainB md ops n = true) (hh : headOk ops n = true) (hn : n < ops.size)
    (hT : ∀ L a w, HeadInv md ops n L → unl n L = 0 → T a w → wpAny P md ops Q m L a w) :
    ∀ (f : Nat) (L : Array Bool) (a : Act) (w : World), HeadInv md ops n L → unl n L = f → wpAny P md (ops.extract 0 n) (Ends T) f (L.extract 0 n) a w → wpAny P md ops Q (f + m) L a w
  | 0, L, a, w, inv, hu, h => by rw [Nat.zero_add]; exact hT L a w inv hu h.2
  | f + 1, L, a, w, inv, hu, h => by
    rw [show f + 1 + m = (f + m) + 1 by omega]
    obtain ⟨k, hk, hku, hkl⟩ := unl_pos (n := n) (L := L) (by omega)
    refine ⟨fun h0 => ?_, fun i hi => ?_⟩
    · exfalso
      have hks : k < ops.size := by omega
      have hko : ops[k]? = some ops[k] := by simp [hks]
      have : k ∈ Region.ready md ops L := mem_ready.2 ⟨hku, _, hko, fun e he _ => by
        have h1 := (headOk_spec hh hko).1 e he
        have h2 := hkl _ h1
        have hsz : e.on < L.size := by rw [inv.size]; omega
        simp [hsz] at h2 ⊢
        exact h2⟩
      rw [h0] at this; cases this
    · have hin : i < n := by
        rcases Nat.lt_or_ge i n with h1 | h1
        · exact h1
        · exact absurd hi (tail_waits hs hc hn inv _ k rfl hk hku i h1)
      have ht : ∀ t, n ≤ t → L.getD t false = false := fun t ht => by
        rcases Nat.lt_or_ge t ops.size with h1 | h1
        · exact getD_both (inv.tail t ht h1)
        · have : L.size ≤ t := by rw [inv.size]; exact h1
          simp [Array.getElem?_eq_none this]
      refine wpOp_trunc hin hh (fun a' w' hK => ?_) (h.2 i (ready_trunc hin ht hi))
      have hiu := (mem_ready.1 hi).1
      have his : i < L.size := by rw [inv.size]; omega
      rw [set_ext0 hin his] at hK
      exact wpAny_of_truncE hs hc hh hn hT f _ a' w' (inv.set hi hin) (by have := unl_set hin his hiu; omega) hK

/-- Operations that yield a value and do no more. -/
def valueB : Op → Bool
  | .load .. | .fieldAddr .. | .move _ | .indexAddr .. | .binOp .. | .unOp .. | .convert .. | .extract .. | .pick .. | .field .. | .index .. => true
  | _ => false
theorem exec_value {o : Oper} (hv : valueB o.op = true) (ρ : Operand → Value) (w : World) : (∃ u w', (execOp ρ o).run P w = .ok (.value u) w') ∨ (∃ x w', (execOp ρ o).run P w = .halt x w') := by
  have key : ∀ s : Sem Value, (∃ u w', (do pure (.value (← s)) : Sem Next).run P w = .ok (.value u) w') ∨ (∃ x w', (do pure (.value (← s)) : Sem Next).run P w = .halt x w') := fun s => by
    rw [Sem.run_bind]
    cases h : s.run P w with
    | ok u w' => left; exact ⟨u, w', by simp [Result.andThen, Sem.run_pure]⟩
    | halt x w' => right; exact ⟨x, w', by simp [Result.andThen]⟩
  unfold execOp
  cases ho : o.op <;> simp only [ho, valueB, Bool.false_eq_true] at hv ⊢
  case move x => left; exact ⟨_, _, Sem.run_pure _ _ _⟩
  case pick c a b =>
    rw [Sem.run_bind]
    cases h : (asBool (ρ c)).run P w with
    | ok u w' => left; exact ⟨if u then ρ a else ρ b, w', by simp [Result.andThen, Sem.run_pure]⟩
    | halt x w' => right; exact ⟨x, w', by simp [Result.andThen]⟩
  all_goals exact key _
theorem yieldsIf_of_quiet {o : Oper} {a : Act} {v : Value} {C : World → Prop} (hv : valueB o.op = true) (hw : Region.wanted o (yielded ops a.tmps) = true) (h : ∀ w, C w → o.quietAt P a C w v) : YieldsIf P ops C o v a :=
  .inl ⟨hw, fun w hC => by
    have h1 := h w hC
    unfold Oper.quietAt at h1
    rcases exec_value (P := P) hv a.eval w with ⟨u, w', e⟩ | ⟨x, w', e⟩
    · rw [e] at h1 ⊢
      obtain ⟨rfl, rfl⟩ := h1
      rfl
    · rw [e] at h1; exact h1.elim⟩
/-- These may be taken, one behind the other. -/
def takesB (md : Region.Mode) (ops : Array Oper) : Array Bool → List Nat → Bool
  | _, [] => true
  | L, i :: rs => (Region.ready md ops L).contains i && Region.free md ops L i && (match ops[i]? with | some o => valueB o.op | none => false) && takesB md ops (L.setIfInBounds i true) rs
def takenB : Array Bool → List Nat → Array Bool
  | L, [] => L
  | L, i :: rs => takenB (L.setIfInBounds i true) rs
/-- These come one behind the other, and then none. -/
def forcedB (md : Region.Mode) (ops : Array Oper) : Array Bool → List Nat → Bool
  | L, [] => (Region.ready md ops L).isEmpty
  | L, i :: cs => decide (Region.ready md ops L = [i]) && forcedB md ops (L.setIfInBounds i true) cs
def wpForce (P : Program) (ops : Array Oper) (S : World → Prop) (T : Act → World → Prop) : List Oper → Act → World → Prop
  | [], a, w => T a w
  | o :: cs, a, w => wpList P ops (Ends fun a' w' => S w' ∧ wpForce P ops S T cs a' w') [o] a w
theorem wpAnyH_forced : ∀ (cs : List Nat) (L : Array Bool) (a : Act) (w : World), forcedB md ops L cs = true → wpForce P ops S T (cs.filterMap (ops[·]?)) a w → wpAnyH P md ops (Ends T) S cs.length L a w
  | [], L, a, w, hB, h => ⟨by simpa [forcedB] using hB, h⟩
  | i :: cs, L, a, w, hB, h => by
    simp only [forcedB, Bool.and_eq_true, decide_eq_true_eq] at hB
    obtain ⟨h1, h2⟩ := hB
    have hi : i ∈ Region.ready md ops L := by rw [h1]; simp
    obtain ⟨_, o, ho, _⟩ := mem_ready.1 hi
    rw [List.filterMap_cons, ho] at h
    refine ⟨fun h0 => by rw [h1] at h0; (exact absurd h0 (by simp)), fun j hj => ?_⟩
    rw [h1, List.mem_singleton] at hj
    subst hj
    simp only [wpForce, wpList] at h
    unfold wpOp
    simp only [ho]
    split
    · rename_i hw
      rw [if_pos hw] at h
      rcases h with h | ⟨_, a1, w1, h1⟩
      case inr => exact (show False from h1).elim
      refine .inl (Oper.wp_ends (fun a' w' h' => ?_) h)
      have h'' : S w' ∧ wpForce P ops S T (cs.filterMap (ops[·]?)) a' w' := h'
      exact ⟨h''.1, wpAnyH_forced cs _ a' w' h2 h''.2⟩
    · rename_i hw
      rw [if_neg hw] at h
      have h'' : S w ∧ wpForce P ops S T (cs.filterMap (ops[·]?)) (a.put o.dst undef) w := h
      exact ⟨h''.1, wpAnyH_forced cs _ _ _ h2 h''.2⟩
theorem wpAnyH_takes (hns : Region.noSelect ops = true) : ∀ (rs : List Nat) (L : Array Bool) (a : Act) (w : World) (f : Nat), S w → takesB md ops L rs = true →
    wpQuiet P ops S (fun a' => wpAnyH P md ops (Ends T) S f (takenB L rs) a' w) (rs.filterMap (ops[·]?)) a → wpAnyH P md ops (Ends T) S (f + rs.length) L a w
  | [], L, a, w, f, _, _, h => h
  | i :: rs, L, a, w, f, hS, hB, h => by
    simp only [takesB, Bool.and_eq_true] at hB
    obtain ⟨⟨⟨h1, h2⟩, h3⟩, h4⟩ := hB
    have hi : i ∈ Region.ready md ops L := by simpa using h1
    obtain ⟨_, o, ho, _⟩ := mem_ready.1 hi
    rw [List.filterMap_cons, ho] at h
    rw [ho] at h3
    simp only [wpQuiet] at h
    have hstep : ∃ v, YieldsIf P ops S o v a ∧ wpQuiet P ops S (fun a' => wpAnyH P md ops (Ends T) S f (takenB L (i :: rs)) a' w) (rs.filterMap (ops[·]?)) (a.put o.dst v) := by
      by_cases hw : Region.wanted o (yielded ops a.tmps) = true
      · rw [if_pos hw] at h
        obtain ⟨v, hv, hk⟩ := h
        exact ⟨v, yieldsIf_of_quiet h3 hw hv, hk⟩
      · rw [if_neg hw] at h
        exact ⟨undef, .inr ⟨by simpa using hw, rfl⟩, h⟩
    obtain ⟨v, hy, hk⟩ := hstep
    exact wpAnyH_take (i := i) ho hns h2 (by simpa using h1) (fun _ _ _ h => h) hy hS (wpAnyH_takes hns rs _ _ w f hS h4 hk)
theorem wpQuiet_mono {C : World → Prop} {Q Q' : Act → Prop} (h : ∀ a, Q a → Q' a) : ∀ (l : List Oper) (a : Act), wpQuiet P ops C Q l a → wpQuiet P ops C Q' l a
  | [], a, hh => h a hh
  | o :: l, a, hh => by
    simp only [wpQuiet] at hh ⊢
    split
    · rename_i hw; rw [if_pos hw] at hh; exact Oper.quiet_mono (wpQuiet_mono h l) hh
    · rename_i hw; rw [if_neg hw] at hh; exact wpQuiet_mono h l _ hh
theorem wpForce_mono {S S' : World → Prop} (h : ∀ w, S w → S' w) : ∀ (l : List Oper) (a : Act) (w : World), wpForce P ops S T l a w → wpForce P ops S' T l a w
  | [], a, w, hh => hh
  | o :: l, a, w, hh => by
    simp only [wpForce, wpList] at hh ⊢
    split
    · rename_i hw
      rw [if_pos hw] at hh
      rcases hh with hh | ⟨_, a1, w1, h1⟩
      case inr => exact (show False from h1).elim
      refine .inl (Oper.wp_ends (fun a' w' h' => ?_) hh)
      have h'' : S w' ∧ wpForce P ops S T l a' w' := h'
      exact (show S' w' ∧ wpForce P ops S' T l a' w' from ⟨h _ h''.1, wpForce_mono h l _ _ h''.2⟩)
    · rename_i hw
      rw [if_neg hw] at hh
      have h'' : S w ∧ wpForce P ops S T l (a.put o.dst undef) w := hh
      exact (show S' w ∧ wpForce P ops S' T l (a.put o.dst undef) w from ⟨h _ h''.1, wpForce_mono h l _ _ h''.2⟩)
def readsB (l : List Oper) (n : Nat) (rs cs : List Nat) : Bool :=
  Region.sinkB .any l.toArray n && Region.chainB .any l.toArray n && headOk l.toArray n && Region.seqB .any l.toArray (l.drop n).length n ((Array.replicate l.length false).mapIdx fun i _ => decide (i < n)) && decide (n < l.length) &&
    Region.noSelect (l.take n).toArray && takesB .any (l.take n).toArray (Array.replicate n false) rs && forcedB .any (l.take n).toArray (takenB (Array.replicate n false) rs) cs && decide (cs.length + rs.length = n)
/-- THE LAW. -/
theorem wp_region_reads {id : Nat} {l : List Oper} {a : Act} {w : World} (n : Nat) (rs cs : List Nat) (hm : P.follows .mixedOrders = true) (hB : readsB l n rs cs = true)
    (h : wpQuiet P (l.take n).toArray (fun w' => ∃ p : Regrown, w' = Go.Sort.grow (redrawn w p.d) p.os) (fun a' => ∀ w', Below w.heap.size w w' → w'.heap.size = w.heap.size → wpForce P (l.take n).toArray (fun w' => Below w.heap.size w w') (fun a w => wpList P l.toArray Q (l.drop n) a w) (cs.filterMap ((l.take n).toArray[·]?)) a' w') (rs.filterMap ((l.take n).toArray[·]?)) a) :
    (Code.region id l.toArray true).wp P Q a w := by
  simp only [readsB, Bool.and_eq_true, decide_eq_true_eq] at hB
  obtain ⟨⟨⟨⟨⟨⟨⟨⟨b1, b2⟩, b3⟩, b4⟩, b5⟩, b6⟩, b7⟩, b8⟩, b9⟩ := hB
  have hn : n < l.toArray.size := by simpa using b5
  have e : l.toArray.extract 0 n = (l.take n).toArray := by simp
  have hsz : (l.take n).toArray.size = n := by simp; omega
  refine wp_region_any hm ?_
  have inv : HeadInv .any l.toArray n (Array.replicate l.toArray.size false) := ⟨by simp, (fun j oj _ hl => by rw [getD_replicate_false] at hl; cases hl), fun t _ ht => by simp at ht; simp [ht]⟩
  have hu : unl n (Array.replicate l.toArray.size false) = n := by
    unfold unl
    rw [List.countP_eq_length.2 (fun i hi => by
      have h1 := List.mem_range.1 hi
      have h2 : i < l.length := by omega
      simp [h2]), List.length_range]
  have e1 : (Array.replicate l.toArray.size false).extract 0 n = Array.replicate n false := by
    apply Array.ext_getElem?
    intro j
    by_cases hj : j < n
    · rw [ext0 _ hj, Array.getElem?_replicate, Array.getElem?_replicate, if_pos hj, if_pos (by omega)]
    · rw [Array.getElem?_eq_none (by simp; omega), Array.getElem?_eq_none (by simp; omega)]
  have hbd : Below w.heap.size w { w with drawn := w.drawn + 1 } := (Below.refl w.heap.size w).drew
  have hlen : n + (l.drop n).length = l.toArray.size := by simp; omega
  suffices hg : wpAny P .any l.toArray Q (n + (l.drop n).length) (Array.replicate l.toArray.size false) a { w with drawn := w.drawn + 1 } by rw [hlen] at hg; exact hg
  refine wpAny_of_truncE (T := fun a w => wpList P l.toArray Q (l.drop n) a w) b1 b2 b3 hn (fun L a' w' inv' hu' hT => ?_) n _ a _ inv hu ?_
  · have eL : L = (Array.replicate l.length false).mapIdx fun i _ => decide (i < n) := by
      apply Array.ext (by simp [inv'.size])
      intro i h1 h2
      simp only [Array.getElem_mapIdx]
      by_cases hi : i < n
      · have := unl_zero hu' i hi; simp [h1] at this; simp [hi, this]
      · have := inv'.tail i (by omega) (by rw [← inv'.size]; exact h1); simp [h1] at this; simp [hi, this]
    subst eL
    exact wpAny_of_seq (l.drop n) n _ a' w' (fun j => by simp [List.getElem?_drop]) b4 hT
  · rw [e1, e]
    refine wpAny_of_held (S := fun w' => ∃ p : Regrown, w' = Go.Sort.grow (redrawn w p.d) p.os) _ _ _ _ ?_
    suffices hg : wpAnyH P .any (l.take n).toArray (Ends fun a w => wpList P l.toArray Q (l.drop n) a w) (fun w' => ∃ p : Regrown, w' = Go.Sort.grow (redrawn w p.d) p.os) (cs.length + rs.length) (Array.replicate n false) a { w with drawn := w.drawn + 1 } by rw [b9] at hg; exact hg
    refine wpAnyH_takes b6 rs _ a _ cs.length ⟨⟨w.drawn + 1, #[]⟩, by rw [Go.Sort.grow_empty]; rfl⟩ b7 ?_
    refine wpQuiet_mono (fun a' ha => ?_) _ _ h
    exact wpAnyH_forced cs _ a' _ b8 (wpForce_mono (fun w' hb => regrown_of_below hb) _ _ _ (ha _ hbd rfl))
end
end Go.Proofs.Ytkjhofbjjogmlaa

/- The laws for drawn regions in a round of a loop over a function. -/
namespace Go.Proofs.Ytkjhofbjjogmlaa
open Go.RowKit Go.Lib

section
variable {P : Program} {ops : Array Oper} {md : Region.Mode} {Q : Exit → Act → World → Prop} {T : Act → World → Prop} {n r : Nat}
theorem rowsIn_wide {n : Nat} {row : String} {args : Array Value} {w : World} {R : Value → World → Prop} (h : Rows P row args w R) : RowsIn Fence.wide n P row args w R :=
  fun c cs _ => let ⟨v, w', x, s⟩ := h c cs; ⟨v, w', x, stepsIn_wide.2 s⟩
def noDefer (o : Oper) : Bool := match o.op with | .defer _ => false | _ => true
theorem Oper.wpIn_of_ends {o : Oper} {a : Act} {w : World} {K K' : Act → World → Prop} (hd : noDefer o = true) (h : ∀ a w, K a w → K' a w) (hh : o.wp P a w K (Ends T)) : o.wpIn (Fence.wide.inRound r) n P a w K' Q := by
  have hd' : ∀ c, o.op ≠ .defer c := fun c hc => by unfold noDefer at hd; rw [hc] at hd; cases hd
  unfold Oper.wp at hh
  refine ⟨fun _ _ => trivial, ?_⟩
  rw [show (Fence.wide.inRound r).round = some r from rfl, Oper.semAt_some r _ _ hd']
  generalize (execOp a.eval o).run P w = x at *
  cases x with
  | ok y w' =>
    cases y <;> simp only [Oper.upon, Oper.uponIn] at hh ⊢ <;> first
      | exact h _ _ hh
      | (refine ⟨(fun hd => by cases hd), CallsIn.inRound r (callsIn_wide.2 (Calls.mono hh (fun e w'' he => ?_)))⟩
         cases e with
         | returned v => exact h _ _ he
         | panicked c => exact (show False from he).elim
         | outgrown => obtain ⟨a1, w1, h1⟩ := (show LetsOut (Ends T) from he); exact (show False from h1).elim)
      | exact ⟨(fun hd => by cases hd), rowsIn_wide (Rows.mono hh (fun _ _ he => h _ _ he))⟩
  | halt y w' =>
    cases y <;> simp only [Oper.upon, Oper.uponIn] at hh ⊢ <;> exact (show False from hh).elim
theorem wpOpIn_of_ends {i : Nat} {K K' : Act → World → Prop} {a : Act} {w : World} (hd : ∀ o, ops[i]? = some o → noDefer o = true) (hK : ∀ a w, K a w → K' a w) (h : wpOp P ops (Ends T) i K a w) : wpOpIn (Fence.wide.inRound r) n P ops Q i K' a w := by
  unfold wpOp at h
  unfold wpOpIn
  cases ho : ops[i]? with
  | none => simp only [ho] at h ⊢; exact hK _ _ h
  | some o =>
    simp only [ho] at h ⊢
    split
    · rename_i hw
      rw [if_pos hw] at h
      rcases h with h | ⟨_, a1, w1, h1⟩
      · exact Oper.wpIn_of_ends (hd o ho) hK h
      · exact (show False from h1).elim
    · rename_i hw
      rw [if_neg hw] at h
      exact ⟨fun _ _ => trivial, hK _ _ h⟩
theorem wpAnyIn_of_ends (hd : ∀ (i : Nat) (o : Oper), ops[i]? = some o → noDefer o = true) (hT : ∀ a w, T a w → Q .normal a w) : ∀ (f : Nat) (L : Array Bool) (a : Act) (w : World), wpAny P md ops (Ends T) f L a w → wpAnyIn (Fence.wide.inRound r) n P md ops Q f L a w
  | 0, _L, _a, _w, h => ⟨h.1, hT _ _ h.2⟩
  | f + 1, _L, _a, _w, h => ⟨fun h0 => hT _ _ (h.1 h0), fun i hi => wpOpIn_of_ends (hd i) (fun a w h' => wpAnyIn_of_ends hd hT f _ a w h') (h.2 i hi)⟩
theorem wpIn_region_of_any {id : Nat} {l : List Oper} {a : Act} {w : World} (hm : P.follows .mixedOrders = true) (hd : l.all noDefer = true)
    (h : wpAny P .any l.toArray (Ends fun a w => Q .normal a w) l.toArray.size (Array.replicate l.toArray.size false) a { w with drawn := w.drawn + 1 }) : (Code.region id l.toArray true).wpIn (Fence.wide.inRound r) n P Q a w :=
  wpIn_region_any hm (wpAnyIn_of_ends (fun i o ho => List.all_eq_true.1 hd o (List.mem_of_getElem? (by simpa using ho))) (fun _ _ h => h) _ _ _ _ h)
/-- The law of TT, for the orders. -/
theorem wpAny_reads {l : List Oper} {a : Act} {w : World} (n : Nat) (rs cs : List Nat) (hB : readsB l n rs cs = true)
    (h : wpQuiet P (l.take n).toArray (fun w' => ∃ p : Regrown, w' = Go.Sort.grow (redrawn w p.d) p.os) (fun a' => ∀ w', Below w.heap.size w w' → w'.heap.size = w.heap.size → wpForce P (l.take n).toArray (fun w' => Below w.heap.size w w') (fun a w => wpList P l.toArray Q (l.drop n) a w) (cs.filterMap ((l.take n).toArray[·]?)) a' w') (rs.filterMap ((l.take n).toArray[·]?)) a) :
    wpAny P .any l.toArray Q l.toArray.size (Array.replicate l.toArray.size false) a { w with drawn := w.drawn + 1 } := by
  simp only [readsB, Bool.and_eq_true, decide_eq_true_eq] at hB
  obtain ⟨⟨⟨⟨⟨⟨⟨⟨b1, b2⟩, b3⟩, b4⟩, b5⟩, b6⟩, b7⟩, b8⟩, b9⟩ := hB
  have hn : n < l.toArray.size := by simpa using b5
  have e : l.toArray.extract 0 n = (l.take n).toArray := by simp
  have hsz : (l.take n).toArray.size = n := by simp; omega
  have inv : HeadInv .any l.toArray n (Array.replicate l.toArray.size false) := ⟨by simp, (fun j oj _ hl => by rw [getD_replicate_false] at hl; cases hl), fun t _ ht => by simp at ht; simp [ht]⟩
  have hu : unl n (Array.replicate l.toArray.size false) = n := by
    unfold unl
    rw [List.countP_eq_length.2 (fun i hi => by
      have h1 := List.mem_range.1 hi
      have h2 : i < l.length := by omega
      simp [h2]), List.length_range]
  have e1 : (Array.replicate l.toArray.size false).extract 0 n = Array.replicate n false := by
    apply Array.ext_getElem?
    intro j
    by_cases hj : j < n
    · rw [ext0 _ hj, Array.getElem?_replicate, Array.getElem?_replicate, if_pos hj, if_pos (by omega)]
    · rw [Array.getElem?_eq_none (by simp; omega), Array.getElem?_eq_none (by simp; omega)]
  have hbd : Below w.heap.size w { w with drawn := w.drawn + 1 } := (Below.refl w.heap.size w).drew
  have hlen : n + (l.drop n).length = l.toArray.size := by simp; omega
  suffices hg : wpAny P .any l.toArray Q (n + (l.drop n).length) (Array.replicate l.toArray.size false) a { w with drawn := w.drawn + 1 } by rw [hlen] at hg; exact hg
  refine wpAny_of_truncE (T := fun a w => wpList P l.toArray Q (l.drop n) a w) b1 b2 b3 hn (fun L a' w' inv' hu' hT => ?_) n _ a _ inv hu ?_
  · have eL : L = (Array.replicate l.length false).mapIdx fun i _ => decide (i < n) := by
      apply Array.ext (by simp [inv'.size])
      intro i h1 h2
      simp only [Array.getElem_mapIdx]
      by_cases hi : i < n
      · have := unl_zero hu' i hi; simp [h1] at this; simp [hi, this]
      · have := inv'.tail i (by omega) (by rw [← inv'.size]; exact h1); simp [h1] at this; simp [hi, this]
    subst eL
    exact wpAny_of_seq (l.drop n) n _ a' w' (fun j => by simp [List.getElem?_drop]) b4 hT
  · rw [e1, e]
    refine wpAny_of_held (S := fun w' => ∃ p : Regrown, w' = Go.Sort.grow (redrawn w p.d) p.os) _ _ _ _ ?_
    suffices hg : wpAnyH P .any (l.take n).toArray (Ends fun a w => wpList P l.toArray Q (l.drop n) a w) (fun w' => ∃ p : Regrown, w' = Go.Sort.grow (redrawn w p.d) p.os) (cs.length + rs.length) (Array.replicate n false) a { w with drawn := w.drawn + 1 } by rw [b9] at hg; exact hg
    refine wpAnyH_takes b6 rs _ a _ cs.length ⟨⟨w.drawn + 1, #[]⟩, by rw [Go.Sort.grow_empty]; rfl⟩ b7 ?_
    refine wpQuiet_mono (fun a' ha => ?_) _ _ h
    exact wpAnyH_forced cs _ a' _ b8 (wpForce_mono (fun w' hb => regrown_of_below hb) _ _ _ (ha _ hbd rfl))
/-- Reads first, as they are in all worlds that meet S; then the others, one behind the other. -/
theorem wpAny_seq {l : List Oper} {a : Act} {w : World} (n : Nat) (rs cs : List Nat) (S : World → Prop) (hS : S w.drew) (hB : readsB l n rs cs = true)
    (h : wpQuiet P (l.take n).toArray S (fun a' => wpForce P (l.take n).toArray S (fun a w => wpList P l.toArray Q (l.drop n) a w) (cs.filterMap ((l.take n).toArray[·]?)) a' w.drew) (rs.filterMap ((l.take n).toArray[·]?)) a) :
    wpAny P .any l.toArray Q l.toArray.size (Array.replicate l.toArray.size false) a { w with drawn := w.drawn + 1 } := by
  simp only [readsB, Bool.and_eq_true, decide_eq_true_eq] at hB
  obtain ⟨⟨⟨⟨⟨⟨⟨⟨b1, b2⟩, b3⟩, b4⟩, b5⟩, b6⟩, b7⟩, b8⟩, b9⟩ := hB
  have hn : n < l.toArray.size := by simpa using b5
  have e : l.toArray.extract 0 n = (l.take n).toArray := by simp
  have hsz : (l.take n).toArray.size = n := by simp; omega
  have inv : HeadInv .any l.toArray n (Array.replicate l.toArray.size false) := ⟨by simp, (fun j oj _ hl => by rw [getD_replicate_false] at hl; cases hl), fun t _ ht => by simp at ht; simp [ht]⟩
  have hu : unl n (Array.replicate l.toArray.size false) = n := by
    unfold unl
    rw [List.countP_eq_length.2 (fun i hi => by
      have h1 := List.mem_range.1 hi
      have h2 : i < l.length := by omega
      simp [h2]), List.length_range]
  have e1 : (Array.replicate l.toArray.size false).extract 0 n = Array.replicate n false := by
    apply Array.ext_getElem?
    intro j
    by_cases hj : j < n
    · rw [ext0 _ hj, Array.getElem?_replicate, Array.getElem?_replicate, if_pos hj, if_pos (by omega)]
    · rw [Array.getElem?_eq_none (by simp; omega), Array.getElem?_eq_none (by simp; omega)]
  have hlen : n + (l.drop n).length = l.toArray.size := by simp; omega
  suffices hg : wpAny P .any l.toArray Q (n + (l.drop n).length) (Array.replicate l.toArray.size false) a { w with drawn := w.drawn + 1 } by rw [hlen] at hg; exact hg
  refine wpAny_of_truncE (T := fun a w => wpList P l.toArray Q (l.drop n) a w) b1 b2 b3 hn (fun L a' w' inv' hu' hT => ?_) n _ a _ inv hu ?_
  · have eL : L = (Array.replicate l.length false).mapIdx fun i _ => decide (i < n) := by
      apply Array.ext (by simp [inv'.size])
      intro i h1 h2
      simp only [Array.getElem_mapIdx]
      by_cases hi : i < n
      · have := unl_zero hu' i hi; simp [h1] at this; simp [hi, this]
      · have := inv'.tail i (by omega) (by rw [← inv'.size]; exact h1); simp [h1] at this; simp [hi, this]
    subst eL
    exact wpAny_of_seq (l.drop n) n _ a' w' (fun j => by simp [List.getElem?_drop]) b4 hT
  · rw [e1, e]
    refine wpAny_of_held (S := S) _ _ _ _ ?_
    suffices hg : wpAnyH P .any (l.take n).toArray (Ends fun a w => wpList P l.toArray Q (l.drop n) a w) S (cs.length + rs.length) (Array.replicate n false) a { w with drawn := w.drawn + 1 } by rw [b9] at hg; exact hg
    refine wpAnyH_takes b6 rs _ a _ cs.length hS b7 ?_
    refine wpQuiet_mono (fun a' ha => ?_) _ _ h
    exact wpAnyH_forced cs _ a' _ b8 ha
theorem wp_region_seq {id : Nat} {l : List Oper} {a : Act} {w : World} (n : Nat) (rs cs : List Nat) (S : World → Prop) (hS : S w.drew) (hm : P.follows .mixedOrders = true) (hB : readsB l n rs cs = true)
    (h : wpQuiet P (l.take n).toArray S (fun a' => wpForce P (l.take n).toArray S (fun a w => wpList P l.toArray Q (l.drop n) a w) (cs.filterMap ((l.take n).toArray[·]?)) a' w.drew) (rs.filterMap ((l.take n).toArray[·]?)) a) :
    (Code.region id l.toArray true).wp P Q a w :=
  wp_region_any hm (wpAny_seq n rs cs S hS hB h)
theorem wpIn_region_seq {id : Nat} {l : List Oper} {a : Act} {w : World} (m : Nat) (rs cs : List Nat) (S : World → Prop) (hS : S w.drew) (hm : P.follows .mixedOrders = true) (hB : readsB l m rs cs = true) (hd : l.all noDefer = true)
    (h : wpQuiet P (l.take m).toArray S (fun a' => wpForce P (l.take m).toArray S (fun a w => wpList P l.toArray (Ends fun a w => Q .normal a w) (l.drop m) a w) (cs.filterMap ((l.take m).toArray[·]?)) a' w.drew) (rs.filterMap ((l.take m).toArray[·]?)) a) :
    (Code.region id l.toArray true).wpIn (Fence.wide.inRound r) n P Q a w :=
  wpIn_region_of_any hm hd (wpAny_seq m rs cs S hS hB h)
theorem wpIn_region_reads {id : Nat} {l : List Oper} {a : Act} {w : World} (m : Nat) (rs cs : List Nat) (hm : P.follows .mixedOrders = true) (hB : readsB l m rs cs = true) (hd : l.all noDefer = true)
    (h : wpQuiet P (l.take m).toArray (fun w' => ∃ p : Regrown, w' = Go.Sort.grow (redrawn w p.d) p.os) (fun a' => ∀ w', Below w.heap.size w w' → w'.heap.size = w.heap.size → wpForce P (l.take m).toArray (fun w' => Below w.heap.size w w') (fun a w => wpList P l.toArray (Ends fun a w => Q .normal a w) (l.drop m) a w) (cs.filterMap ((l.take m).toArray[·]?)) a' w') (rs.filterMap ((l.take m).toArray[·]?)) a) :
    (Code.region id l.toArray true).wpIn (Fence.wide.inRound r) n P Q a w :=
  wpIn_region_of_any hm hd (wpAny_reads m rs cs hB h)
end
end Go.Proofs.Ytkjhofbjjogmlaa

/- A law for drawn regions in phases: reads that may be taken first, then what is forced; and again; then a tail. -/
namespace Go.Proofs.Ytkjhofbjjogmlaa
open Go.RowKit Go.Lib

/-- The worlds that meet P, as a class of its own. -/
structure Cls (P : World → Prop) where
  val : World
  h : P val
theorem Cls.here {P : World → Prop} {w : World} (h : P w) : ∃ c : Cls P, w = c.val := ⟨⟨w, h⟩, rfl⟩
section
variable {P : Program} {ops : Array Oper} {md : Region.Mode} {S : World → Prop} {Q : Exit → Act → World → Prop} {T : Act → World → Prop} {r : Nat}
/-- As valueB, assignments let in. -/
def value2B : Op → Bool
  | .assign _ => true
  | o => valueB o
theorem yieldsIf_of_quiet2 {o : Oper} {a : Act} {v : Value} {C : World → Prop} (hv : value2B o.op = true) (hw : Region.wanted o (yielded ops a.tmps) = true) (h : ∀ w, C w → o.quietAt P a C w v) : YieldsIf P ops C o v a := by
  cases ho : o.op with
  | assign x =>
    refine .inl ⟨hw, fun w hC => ?_⟩
    have h1 := h w hC
    unfold Oper.quietAt at h1
    rw [BigFrame.run_assign x ho] at h1 ⊢
    rw [h1.2]
  | _ => exact yieldsIf_of_quiet (by rw [ho] at hv ⊢; exact hv) hw h
def takes2B (md : Region.Mode) (ops : Array Oper) : Array Bool → List Nat → Bool
  | _, [] => true
  | L, i :: rs => (Region.ready md ops L).contains i && Region.free md ops L i && (match ops[i]? with | some o => value2B o.op | none => false) && takes2B md ops (L.setIfInBounds i true) rs
theorem wpAnyH_takes2 (hns : Region.noSelect ops = true) : ∀ (rs : List Nat) (L : Array Bool) (a : Act) (w : World) (f : Nat), S w → takes2B md ops L rs = true →
    wpQuiet P ops S (fun a' => wpAnyH P md ops (Ends T) S f (takenB L rs) a' w) (rs.filterMap (ops[·]?)) a → wpAnyH P md ops (Ends T) S (f + rs.length) L a w
  | [], L, a, w, f, _, _, h => h
  | i :: rs, L, a, w, f, hS, hB, h => by
    simp only [takes2B, Bool.and_eq_true] at hB
    obtain ⟨⟨⟨h1, h2⟩, h3⟩, h4⟩ := hB
    have hi : i ∈ Region.ready md ops L := by simpa using h1
    obtain ⟨_, o, ho, _⟩ := mem_ready.1 hi
    rw [List.filterMap_cons, ho] at h
    rw [ho] at h3
    simp only [wpQuiet] at h
    have hstep : ∃ v, YieldsIf P ops S o v a ∧ wpQuiet P ops S (fun a' => wpAnyH P md ops (Ends T) S f (takenB L (i :: rs)) a' w) (rs.filterMap (ops[·]?)) (a.put o.dst v) := by
      by_cases hw : Region.wanted o (yielded ops a.tmps) = true
      · rw [if_pos hw] at h
        obtain ⟨v, hv, hk⟩ := h
        exact ⟨v, yieldsIf_of_quiet2 h3 hw hv, hk⟩
      · rw [if_neg hw] at h
        exact ⟨undef, .inr ⟨by simpa using hw, rfl⟩, h⟩
    obtain ⟨v, hy, hk⟩ := hstep
    exact wpAnyH_take (i := i) ho hns h2 (by simpa using h1) (fun _ _ _ h => h) hy hS (wpAnyH_takes2 hns rs _ _ w f hS h4 hk)
def forcesB (md : Region.Mode) (ops : Array Oper) : Array Bool → List Nat → Bool
  | _, [] => true
  | L, i :: cs => decide (Region.ready md ops L = [i]) && forcesB md ops (L.setIfInBounds i true) cs
theorem wpAnyH_forces {K : Act → World → Prop} {f : Nat} : ∀ (cs : List Nat) (L : Array Bool) (a : Act) (w : World), forcesB md ops L cs = true → S w → wpForce P ops S K (cs.filterMap (ops[·]?)) a w →
    (∀ a w, S w → K a w → wpAnyH P md ops (Ends T) S f (takenB L cs) a w) → wpAnyH P md ops (Ends T) S (f + cs.length) L a w
  | [], _, a, w, _, hS, h, hK => hK a w hS h
  | i :: cs, L, a, w, hB, hS, h, hK => by
    simp only [forcesB, Bool.and_eq_true, decide_eq_true_eq] at hB
    obtain ⟨h1, h2⟩ := hB
    have hi : i ∈ Region.ready md ops L := by rw [h1]; simp
    obtain ⟨_, o, ho, _⟩ := mem_ready.1 hi
    rw [List.filterMap_cons, ho] at h
    refine ⟨fun h0 => by rw [h1] at h0; (exact absurd h0 (by simp)), fun j hj => ?_⟩
    rw [h1, List.mem_singleton] at hj
    subst hj
    simp only [wpForce, wpList] at h
    unfold wpOp
    simp only [ho]
    split
    · rename_i hw
      rw [if_pos hw] at h
      rcases h with h | ⟨_, a1, w1, h1⟩
      case inr => exact (show False from h1).elim
      refine .inl (Oper.wp_ends (fun a' w' h' => ?_) h)
      have h'' : S w' ∧ wpForce P ops S K (cs.filterMap (ops[·]?)) a' w' := h'
      exact ⟨h''.1, wpAnyH_forces cs _ a' w' h2 h''.1 h''.2 hK⟩
    · rename_i hw
      rw [if_neg hw] at h
      have h'' : S w ∧ wpForce P ops S K (cs.filterMap (ops[·]?)) (a.put o.dst undef) w := h
      exact ⟨h''.1, wpAnyH_forces cs _ _ _ h2 h''.1 h''.2 hK⟩
def phB (md : Region.Mode) (ops : Array Oper) : Array Bool → List (List Nat × List Nat) → Bool
  | L, [] => (Region.ready md ops L).isEmpty
  | L, (rs, cs) :: t => takes2B md ops L rs && forcesB md ops (takenB L rs) cs && phB md ops (takenB (takenB L rs) cs) t
def phLen : List (List Nat × List Nat) → Nat
  | [] => 0
  | (rs, cs) :: t => phLen t + cs.length + rs.length
/-- What is owed, phase by phase. -/
def wpPhases (P : Program) (ops : Array Oper) (S : World → Prop) (T : Act → World → Prop) : List (List Nat × List Nat) → Act → World → Prop
  | [], a, w => T a w
  | (rs, cs) :: t, a, w => wpQuiet P ops S (fun a' => wpForce P ops S (wpPhases P ops S T t) (cs.filterMap (ops[·]?)) a' w) (rs.filterMap (ops[·]?)) a
theorem wpAnyH_phases (hns : Region.noSelect ops = true) : ∀ (t : List (List Nat × List Nat)) (L : Array Bool) (a : Act) (w : World), phB md ops L t = true → S w → wpPhases P ops S T t a w → wpAnyH P md ops (Ends T) S (phLen t) L a w
  | [], L, a, w, hB, _, h => ⟨by simpa [phB] using hB, h⟩
  | (rs, cs) :: t, L, a, w, hB, hS, h => by
    simp only [phB, Bool.and_eq_true] at hB
    obtain ⟨⟨h1, h2⟩, h3⟩ := hB
    refine wpAnyH_takes2 hns rs L a w (phLen t + cs.length) hS h1 (wpQuiet_mono (fun a' ha => ?_) _ _ h)
    exact wpAnyH_forces cs _ a' w h2 hS ha (fun a w hS' hk => wpAnyH_phases hns t _ a w h3 hS' hk)
def phasesB (l : List Oper) (n : Nat) (t : List (List Nat × List Nat)) : Bool :=
  Region.sinkB .any l.toArray n && Region.chainB .any l.toArray n && headOk l.toArray n && Region.seqB .any l.toArray (l.drop n).length n ((Array.replicate l.length false).mapIdx fun i _ => decide (i < n)) && decide (n < l.length) &&
    Region.noSelect (l.take n).toArray && phB .any (l.take n).toArray (Array.replicate n false) t && decide (phLen t = n)
/-- Phase by phase. -/
theorem wpAny_phases {l : List Oper} {a : Act} {w : World} (n : Nat) (t : List (List Nat × List Nat)) (S : World → Prop) (hS : S w.drew) (hB : phasesB l n t = true)
    (h : wpPhases P (l.take n).toArray S (fun a w => wpList P l.toArray Q (l.drop n) a w) t a w.drew) :
    wpAny P .any l.toArray Q l.toArray.size (Array.replicate l.toArray.size false) a { w with drawn := w.drawn + 1 } := by
  simp only [phasesB, Bool.and_eq_true, decide_eq_true_eq] at hB
  obtain ⟨⟨⟨⟨⟨⟨⟨b1, b2⟩, b3⟩, b4⟩, b5⟩, b6⟩, b7⟩, b9⟩ := hB
  have hn : n < l.toArray.size := by simpa using b5
  have e : l.toArray.extract 0 n = (l.take n).toArray := by simp
  have hsz : (l.take n).toArray.size = n := by simp; omega
  have inv : HeadInv .any l.toArray n (Array.replicate l.toArray.size false) := ⟨by simp, (fun j oj _ hl => by rw [getD_replicate_false] at hl; cases hl), fun t _ ht => by simp at ht; simp [ht]⟩
  have hu : unl n (Array.replicate l.toArray.size false) = n := by
    unfold unl
    rw [List.countP_eq_length.2 (fun i hi => by
      have h1 := List.mem_range.1 hi
      have h2 : i < l.length := by omega
      simp [h2]), List.length_range]
  have e1 : (Array.replicate l.toArray.size false).extract 0 n = Array.replicate n false := by
    apply Array.ext_getElem?
    intro j
    by_cases hj : j < n
    · rw [ext0 _ hj, Array.getElem?_replicate, Array.getElem?_replicate, if_pos hj, if_pos (by omega)]
    · rw [Array.getElem?_eq_none (by simp; omega), Array.getElem?_eq_none (by simp; omega)]
  have hlen : n + (l.drop n).length = l.toArray.size := by simp; omega
  suffices hg : wpAny P .any l.toArray Q (n + (l.drop n).length) (Array.replicate l.toArray.size false) a { w with drawn := w.drawn + 1 } by rw [hlen] at hg; exact hg
  refine wpAny_of_truncE (T := fun a w => wpList P l.toArray Q (l.drop n) a w) b1 b2 b3 hn (fun L a' w' inv' hu' hT => ?_) n _ a _ inv hu ?_
  · have eL : L = (Array.replicate l.length false).mapIdx fun i _ => decide (i < n) := by
      apply Array.ext (by simp [inv'.size])
      intro i h1 h2
      simp only [Array.getElem_mapIdx]
      by_cases hi : i < n
      · have := unl_zero hu' i hi; simp [h1] at this; simp [hi, this]
      · have := inv'.tail i (by omega) (by rw [← inv'.size]; exact h1); simp [h1] at this; simp [hi, this]
    subst eL
    exact wpAny_of_seq (l.drop n) n _ a' w' (fun j => by simp [List.getElem?_drop]) b4 hT
  · rw [e1, e]
    refine wpAny_of_held (S := S) _ _ _ _ ?_
    suffices hg : wpAnyH P .any (l.take n).toArray (Ends fun a w => wpList P l.toArray Q (l.drop n) a w) S (phLen t) (Array.replicate n false) a { w with drawn := w.drawn + 1 } by rw [b9] at hg; exact hg
    exact wpAnyH_phases b6 t _ a _ b7 hS h
theorem wp_region_phases {id : Nat} {l : List Oper} {a : Act} {w : World} (n : Nat) (t : List (List Nat × List Nat)) (S : World → Prop) (hS : S w.drew) (hm : P.follows .mixedOrders = true) (hB : phasesB l n t = true)
    (h : wpPhases P (l.take n).toArray S (fun a w => wpList P l.toArray Q (l.drop n) a w) t a w.drew) : (Code.region id l.toArray true).wp P Q a w :=
  wp_region_any hm (wpAny_phases n t S hS hB h)
theorem wpIn_region_phases {n id : Nat} {l : List Oper} {a : Act} {w : World} (m : Nat) (t : List (List Nat × List Nat)) (S : World → Prop) (hS : S w.drew) (hm : P.follows .mixedOrders = true) (hB : phasesB l m t = true) (hd : l.all noDefer = true)
    (h : wpPhases P (l.take m).toArray S (fun a w => wpList P l.toArray (Ends fun a w => Q .normal a w) (l.drop m) a w) t a w.drew) : (Code.region id l.toArray true).wpIn (Fence.wide.inRound r) n P Q a w :=
  wpIn_region_of_any hm hd (wpAny_phases m t S hS hB h)
/-- From an end that is normal. -/
theorem wpAny_of_ends (hT : ∀ a w, T a w → Q .normal a w) : ∀ (f : Nat) (L : Array Bool) (a : Act) (w : World), wpAny P md ops (Ends T) f L a w → wpAny P md ops Q f L a w
  | 0, L, a, w, h => ⟨h.1, hT _ _ h.2⟩
  | f + 1, L, a, w, h => ⟨fun h0 => hT _ _ (h.1 h0), fun i hi => by
    have h1 := h.2 i hi
    have step : ∀ a' w', wpAny P md ops (Ends T) f (L.setIfInBounds i true) a' w' → wpAny P md ops Q f (L.setIfInBounds i true) a' w' := fun a' w' h' => wpAny_of_ends hT f _ a' w' h'
    unfold wpOp at h1 ⊢
    cases ho : ops[i]? with
    | none => simp only [ho] at h1 ⊢; exact step _ _ h1
    | some o =>
      simp only [ho] at h1 ⊢
      split
      · rename_i hw
        rw [if_pos hw] at h1
        rcases h1 with h1 | ⟨_, a1, w1, h2⟩
        · exact .inl (Oper.wp_ends step h1)
        · exact (show False from h2).elim
      · rename_i hw
        rw [if_neg hw] at h1
        exact step _ _ h1⟩
def wholeB (l : List Oper) (t : List (List Nat × List Nat)) : Bool := Region.noSelect l.toArray && phB .any l.toArray (Array.replicate l.toArray.size false) t && decide (phLen t = l.toArray.size)
theorem wpAny_whole {l : List Oper} {a : Act} {w : World} (t : List (List Nat × List Nat)) (S : World → Prop) (hS : S w.drew) (hB : wholeB l t = true) (h : wpPhases P l.toArray S T t a w.drew) :
    wpAny P .any l.toArray (Ends T) l.toArray.size (Array.replicate l.toArray.size false) a { w with drawn := w.drawn + 1 } := by
  simp only [wholeB, Bool.and_eq_true, decide_eq_true_eq] at hB
  obtain ⟨⟨b1, b2⟩, b3⟩ := hB
  refine wpAny_of_held (S := S) _ _ _ _ ?_
  rw [← b3]
  exact wpAnyH_phases b1 t _ a _ (by rw [b3]; exact b2) hS h
/-- A region that comes in phases as a whole. -/
theorem wp_region_whole {id : Nat} {l : List Oper} {a : Act} {w : World} (t : List (List Nat × List Nat)) (S : World → Prop) (hS : S w.drew) (hm : P.follows .mixedOrders = true) (hB : wholeB l t = true)
    (h : wpPhases P l.toArray S (fun a w => Q .normal a w) t a w.drew) : (Code.region id l.toArray true).wp P Q a w :=
  wp_region_any hm (wpAny_of_ends (fun _ _ h => h) _ _ _ _ (wpAny_whole t S hS hB h))
theorem wpIn_region_whole {n id : Nat} {l : List Oper} {a : Act} {w : World} (t : List (List Nat × List Nat)) (S : World → Prop) (hS : S w.drew) (hm : P.follows .mixedOrders = true) (hB : wholeB l t = true) (hd : l.all noDefer = true)
    (h : wpPhases P l.toArray S (fun a w => Q .normal a w) t a w.drew) : (Code.region id l.toArray true).wpIn (Fence.wide.inRound r) n P Q a w :=
  wpIn_region_of_any hm hd (wpAny_whole t S hS hB h)
end
end Go.Proofs.Ytkjhofbjjogmlaa

/- The law of TT where one operation makes a variable at whatever moment. -/
namespace Go.Proofs.Ytkjhofbjjogmlaa
open Go.RowKit Go.Lib

section
variable {P : Program} {ops : Array Oper} {md : Region.Mode} {S : World → Prop} {Q : Exit → Act → World → Prop} {T : Act → World → Prop}
theorem Oper.wp_put {o : Oper} {a : Act} {w : World} {K : Act → World → Prop} (hh : o.wp P a w K (Ends T)) : o.wp P a w (fun a' w' => K a' w' ∧ ∃ v, a'.tmps = (a.put o.dst v).tmps) (Ends T) := by
  unfold Oper.wp at *
  generalize (execOp a.eval o).run P w = r at *
  cases r with
  | ok n w' =>
    cases n <;> simp only [Oper.upon] at hh ⊢
    case value v => exact ⟨hh, v, rfl⟩
    case skip => exact ⟨hh, _, rfl⟩
    case defer d => exact ⟨hh, undef, by cases o.dst <;> rfl⟩
    case enter f args =>
      refine Calls.mono hh (fun e w'' he => ?_)
      cases e with
      | returned v => exact ⟨he, v, rfl⟩
      | panicked c => exact he
      | outgrown => exact he
    case row row args => exact Rows.mono hh (fun v _ he => ⟨he, v, rfl⟩)
  | halt x w' =>
    cases x <;> simp only [Oper.upon] at hh ⊢
    exact hh
theorem put_self {a : Act} {f : Nat} : a.put (some f) (a.tmps.getD f undef) = a := by
  obtain ⟨t, d⟩ := a
  simp only [Act.put]
  congr 1
  apply Array.ext_getElem?
  intro i
  rw [Array.getElem?_setIfInBounds]
  by_cases h : f = i
  · subst h
    by_cases hs : f < t.size
    · simp [hs]
    · simp [hs]
  · rw [if_neg h]
/-- A chain of operations, between any two of which slot f may turn, and memory may grow. -/
def wpFloat (P : Program) (ops : Array Oper) (f : Nat) (T : Act → World → Prop) : List Oper → Act → World → Prop
  | [], a, w => T a w
  | o :: cs, a, w => wpList P ops (Ends fun a' w' => Below w.heap.size w w' ∧ ∀ vf w'', Below w'.heap.size w' w'' → wpFloat P ops f T cs (a'.put (some f) vf) w'') [o] a w
/-- What is asked at the end: the variable lies in block G. -/
def AtG (f : Nat) (t : TypeId) (z : Array Value) (B : Nat) (T : Act → World → Prop) (a : Act) (w : World) : Prop :=
  ∀ G w'', Below w.heap.size w w'' → B ≤ G → Lies w'' G t z → T (a.put (some f) (.pointer (some ⟨G, 0, none⟩))) w''
def forcedFB (md : Region.Mode) (ops : Array Oper) (fi : Nat) : Array Bool → List Nat → Bool
  | L, [] => decide (Region.ready md ops L = [fi]) && forcedB md ops (L.setIfInBounds fi true) []
  | L, i :: cs => (Region.ready md ops L).all (fun j => j == i || j == fi) && (Region.ready md ops L).contains i && (Region.ready md ops L).contains fi && forcedFB md ops fi (L.setIfInBounds i true) cs && forcedB md ops (L.setIfInBounds fi true) (i :: cs)
theorem wpList_one {o : Oper} {a : Act} {w : World} {K : Act → World → Prop} (h : wpList P ops (Ends K) [o] a w) : if Region.wanted o (yielded ops a.tmps) then o.wp P a w K (Ends K) else K (a.put o.dst undef) w := by
  simp only [wpList] at h
  split
  · rename_i hw
    rw [if_pos hw] at h
    rcases h with h | ⟨_, a1, w1, h1⟩
    case inr => exact (show False from h1).elim
    exact Oper.wp_ends (fun a' w' h' => h') h
  · rename_i hw
    rw [if_neg hw] at h
    exact h
/-- The variable is made: the rest of the chain. -/
theorem wpAnyH_done {f : Nat} {t : TypeId} {z : Array Value} {B G : Nat} (hS : ∀ w w', S w → Below w.heap.size w w' → S w') (hB : B ≤ G) : ∀ (cs : List Nat) (L : Array Bool) (a : Act) (w : World), forcedB md ops L cs = true → S w → (∀ i o, i ∈ cs → ops[i]? = some o → o.dst ≠ some f) →
    Lies w G t z → a.tmps.getD f undef = .pointer (some ⟨G, 0, none⟩) → f < a.tmps.size → wpFloat P ops f (AtG f t z B T) (cs.filterMap (ops[·]?)) a w → wpAnyH P md ops (Ends T) S cs.length L a w
  | [], L, a, w, hb, _, _, hl, hf, _, h => ⟨by simpa [forcedB] using hb, by
      have h1 := h G w (Below.refl _ _) hB hl
      rw [← hf, put_self] at h1
      exact h1⟩
  | i :: cs, L, a, w, hb, hs, hd, hl, hf, hfs, h => by
    simp only [forcedB, Bool.and_eq_true, decide_eq_true_eq] at hb
    obtain ⟨h1, h2⟩ := hb
    have hi : i ∈ Region.ready md ops L := by rw [h1]; simp
    obtain ⟨_, o, ho, _⟩ := mem_ready.1 hi
    rw [List.filterMap_cons, ho] at h
    have hdo := hd i o (by simp) ho
    refine ⟨fun h0 => by rw [h1] at h0; (exact absurd h0 (by simp)), fun j hj => ?_⟩
    rw [h1, List.mem_singleton] at hj
    subst hj
    have h3 := wpList_one (show wpList P ops (Ends fun a' w' => Below w.heap.size w w' ∧ ∀ vf w'', Below w'.heap.size w' w'' → wpFloat P ops f (AtG f t z B T) (cs.filterMap (ops[·]?)) (a'.put (some f) vf) w'') [o] a w from h)
    have step : ∀ (a' : Act) (w' : World) (v : Value), a'.tmps = (a.put o.dst v).tmps → (Below w.heap.size w w' ∧ ∀ vf w'', Below w'.heap.size w' w'' → wpFloat P ops f (AtG f t z B T) (cs.filterMap (ops[·]?)) (a'.put (some f) vf) w'') → S w' ∧ wpAnyH P md ops (Ends T) S cs.length (L.setIfInBounds j true) a' w' := by
      intro a' w' v he ⟨hbw, hk⟩
      have hg : a'.tmps.getD f undef = .pointer (some ⟨G, 0, none⟩) := by
        rw [he, ← hf]
        cases hd2 : o.dst with
        | none => rfl
        | some d =>
          have : d ≠ f := fun e => hdo (by rw [hd2, e])
          simp [Act.put, this]
      have hsz : f < a'.tmps.size := by
        rw [he]
        cases o.dst <;> simpa [Act.put] using hfs
      have h4 := hk (a'.tmps.getD f undef) w' (Below.refl _ _)
      rw [put_self] at h4
      exact ⟨hS _ _ hs hbw, wpAnyH_done hS hB cs _ a' w' h2 (hS _ _ hs hbw) (fun i o hi ho => hd i o (List.mem_cons_of_mem _ hi) ho) (hl.call hbw) hg hsz h4⟩
    unfold wpOp
    simp only [ho]
    split
    · rename_i hw
      rw [if_pos hw] at h3
      exact .inl (Oper.wp_ends (fun a' w' h' => step a' w' _ h'.2.choose_spec h'.1) (Oper.wp_put h3))
    · rename_i hw
      rw [if_neg hw] at h3
      exact step _ _ undef rfl h3
/-- The variable is not yet made. -/
theorem wpAnyH_float {f fi : Nat} {t : TypeId} {z : Array Value} {B : Nat} {og : Oper} (hS : ∀ w w', S w → Below w.heap.size w w' → S w') (hSB : ∀ w, S w → B ≤ w.heap.size) (hof : ops[fi]? = some og) (hod : og.dst = some f) (hgu : og.guard = none) (hoo : og.op = .alloc t)
    (hal : ∀ w, (Instr.alloc t true (.tuple #[])).run P w = .ok (.pointer (some ⟨w.heap.size, 0, none⟩)) (w.alloc (.cells z t))) : ∀ (cs : List Nat) (L : Array Bool) (a : Act) (w : World), forcedFB md ops fi L cs = true → S w → (∀ i o, i ∈ cs → ops[i]? = some o → o.dst ≠ some f) → f < a.tmps.size →
    (∀ vf w'', Below w.heap.size w w'' → wpFloat P ops f (AtG f t z B T) (cs.filterMap (ops[·]?)) (a.put (some f) vf) w'') → wpAnyH P md ops (Ends T) S (cs.length + 1) L a w := by
  have alloc : ∀ (cs : List Nat) (L : Array Bool) (a : Act) (w : World), forcedB md ops (L.setIfInBounds fi true) cs = true → S w → (∀ i o, i ∈ cs → ops[i]? = some o → o.dst ≠ some f) → f < a.tmps.size → (∀ vf w'', Below w.heap.size w w'' → wpFloat P ops f (AtG f t z B T) (cs.filterMap (ops[·]?)) (a.put (some f) vf) w'') →
      wpOp P ops (Ends T) fi (fun a' w' => S w' ∧ wpAnyH P md ops (Ends T) S cs.length (L.setIfInBounds fi true) a' w') a w := by
    intro cs L a w hb hs hd hfs h
    have hbw : Below w.heap.size w (w.alloc (.cells z t)) := (Below.refl _ _).alloc (Nat.le_refl _) _
    unfold wpOp
    simp only [hof]
    rw [if_pos (by simp [Region.wanted, hgu])]
    refine .inl ?_
    unfold Oper.wp execOp
    simp only [hoo, Sem.run_bind, hal w, Result.andThen, Sem.run_pure, Oper.upon, hod]
    refine ⟨hS _ _ hs hbw, wpAnyH_done hS (hSB w hs) cs _ _ _ hb (hS _ _ hs hbw) hd (Lies.fresh w t z) ?_ (by simpa [Act.put] using hfs) (h _ _ hbw)⟩
    simp [Act.put, hfs]
  intro cs
  induction cs with
  | nil =>
    intro L a w hb hs hd hfs h
    simp only [forcedFB, Bool.and_eq_true, decide_eq_true_eq] at hb
    refine ⟨fun h0 => by rw [hb.1] at h0; (exact absurd h0 (by simp)), fun j hj => ?_⟩
    rw [hb.1, List.mem_singleton] at hj
    rw [hj]
    exact alloc [] L a w hb.2 hs (fun i o hi => by cases hi) hfs h
  | cons i cs ih =>
    intro L a w hb hs hd hfs h
    simp only [forcedFB, Bool.and_eq_true] at hb
    obtain ⟨⟨⟨⟨h1, h2⟩, h3⟩, h4⟩, h5⟩ := hb
    have hi : i ∈ Region.ready md ops L := by simpa using h2
    obtain ⟨_, o, ho, _⟩ := mem_ready.1 hi
    have hdo := hd i o (by simp) ho
    refine ⟨fun h0 => (by rw [h0] at hi; cases hi), fun j hj => ?_⟩
    have hj2 := List.all_eq_true.1 h1 j hj
    simp only [Bool.or_eq_true, beq_iff_eq] at hj2
    by_cases hji : j = i
    · subst hji
      have h' := h (a.tmps.getD f undef) w (Below.refl _ _)
      rw [put_self, List.filterMap_cons, ho] at h'
      have h3 := wpList_one (show wpList P ops (Ends fun a' w' => Below w.heap.size w w' ∧ ∀ vf w'', Below w'.heap.size w' w'' → wpFloat P ops f (AtG f t z B T) (cs.filterMap (ops[·]?)) (a'.put (some f) vf) w'') [o] a w from h')
      have step : ∀ (a' : Act) (w' : World) (v : Value), a'.tmps = (a.put o.dst v).tmps → (Below w.heap.size w w' ∧ ∀ vf w'', Below w'.heap.size w' w'' → wpFloat P ops f (AtG f t z B T) (cs.filterMap (ops[·]?)) (a'.put (some f) vf) w'') → S w' ∧ wpAnyH P md ops (Ends T) S (cs.length + 1) (L.setIfInBounds j true) a' w' := by
        intro a' w' v he ⟨hbw, hk⟩
        have hsz : f < a'.tmps.size := by
          rw [he]
          cases o.dst <;> simpa [Act.put] using hfs
        exact ⟨hS _ _ hs hbw, ih _ a' w' h4 (hS _ _ hs hbw) (fun i o hi ho => hd i o (List.mem_cons_of_mem _ hi) ho) hsz hk⟩
      unfold wpOp
      simp only [ho]
      split
      · rename_i hw
        rw [if_pos hw] at h3
        exact .inl (Oper.wp_ends (fun a' w' h' => step a' w' _ h'.2.choose_spec h'.1) (Oper.wp_put h3))
      · rename_i hw
        rw [if_neg hw] at h3
        exact step _ _ undef rfl h3
    · have hjf : j = fi := by rcases hj2 with e | e; exact absurd e hji; exact e
      rw [hjf]
      exact alloc (i :: cs) L a w h5 hs hd hfs h
def floatB (l : List Oper) (n : Nat) (rs cs : List Nat) (fi f : Nat) (t : TypeId) : Bool :=
  Region.sinkB .any l.toArray n && Region.chainB .any l.toArray n && headOk l.toArray n && Region.seqB .any l.toArray (l.drop n).length n ((Array.replicate l.length false).mapIdx fun i _ => decide (i < n)) && decide (n < l.length) &&
    Region.noSelect (l.take n).toArray && takesB .any (l.take n).toArray (Array.replicate n false) rs && forcedFB .any (l.take n).toArray fi (takenB (Array.replicate n false) rs) cs && decide (cs.length + 1 + rs.length = n) &&
    cs.all (fun i => match (l.take n)[i]? with | some o => o.dst != some f | none => true) && (match (l.take n)[fi]? with | some o => decide (o.dst = some f) && o.guard.isNone && (match o.op with | .alloc t' => t' == t | _ => false) | none => false)
/-- THE LAW. -/
theorem wp_region_float {id : Nat} {l : List Oper} {a : Act} {w : World} (n : Nat) (rs cs : List Nat) (fi f : Nat) (t : TypeId) (z : Array Value) (hm : P.follows .mixedOrders = true) (hB : floatB l n rs cs fi f t = true) (_hfs : f < a.tmps.size)
    (hal : ∀ w, (Instr.alloc t true (.tuple #[])).run P w = .ok (.pointer (some ⟨w.heap.size, 0, none⟩)) (w.alloc (.cells z t)))
    (h : wpQuiet P (l.take n).toArray (fun w' => ∃ p : Regrown, w' = Go.Sort.grow (redrawn w p.d) p.os) (fun a' => f < a'.tmps.size ∧ ∀ vf w', Below w.heap.size w w' → wpFloat P (l.take n).toArray f (AtG f t z w.heap.size fun a w => wpList P l.toArray Q (l.drop n) a w) (cs.filterMap ((l.take n).toArray[·]?)) (a'.put (some f) vf) w') (rs.filterMap ((l.take n).toArray[·]?)) a) :
    (Code.region id l.toArray true).wp P Q a w := by
  simp only [floatB, Bool.and_eq_true, decide_eq_true_eq] at hB
  obtain ⟨⟨⟨⟨⟨⟨⟨⟨⟨⟨b1, b2⟩, b3⟩, b4⟩, b5⟩, b6⟩, b7⟩, b8⟩, b9⟩, b10⟩, b11⟩ := hB
  have hn : n < l.toArray.size := by simpa using b5
  have e : l.toArray.extract 0 n = (l.take n).toArray := by simp
  have hsz : (l.take n).toArray.size = n := by simp; omega
  refine wp_region_any hm ?_
  have inv : HeadInv .any l.toArray n (Array.replicate l.toArray.size false) := ⟨by simp, (fun j oj _ hl => by rw [getD_replicate_false] at hl; cases hl), fun t _ ht => by simp at ht; simp [ht]⟩
  have hu : unl n (Array.replicate l.toArray.size false) = n := by
    unfold unl
    rw [List.countP_eq_length.2 (fun i hi => by
      have h1 := List.mem_range.1 hi
      have h2 : i < l.length := by omega
      simp [h2]), List.length_range]
  have e1 : (Array.replicate l.toArray.size false).extract 0 n = Array.replicate n false := by
    apply Array.ext_getElem?
    intro j
    by_cases hj : j < n
    · rw [ext0 _ hj, Array.getElem?_replicate, Array.getElem?_replicate, if_pos hj, if_pos (by omega)]
    · rw [Array.getElem?_eq_none (by simp; omega), Array.getElem?_eq_none (by simp; omega)]
  have hbd : Below w.heap.size w { w with drawn := w.drawn + 1 } := (Below.refl w.heap.size w).drew
  have hlen : n + (l.drop n).length = l.toArray.size := by simp; omega
  suffices hg : wpAny P .any l.toArray Q (n + (l.drop n).length) (Array.replicate l.toArray.size false) a { w with drawn := w.drawn + 1 } by rw [hlen] at hg; exact hg
  refine wpAny_of_truncE (T := fun a w => wpList P l.toArray Q (l.drop n) a w) b1 b2 b3 hn (fun L a' w' inv' hu' hT => ?_) n _ a _ inv hu ?_
  · have eL : L = (Array.replicate l.length false).mapIdx fun i _ => decide (i < n) := by
      apply Array.ext (by simp [inv'.size])
      intro i h1 h2
      simp only [Array.getElem_mapIdx]
      by_cases hi : i < n
      · have := unl_zero hu' i hi; simp [h1] at this; simp [hi, this]
      · have := inv'.tail i (by omega) (by rw [← inv'.size]; exact h1); simp [h1] at this; simp [hi, this]
    subst eL
    exact wpAny_of_seq (l.drop n) n _ a' w' (fun j => by simp [List.getElem?_drop]) b4 hT
  · rw [e1, e]
    refine wpAny_of_held (S := fun w' => ∃ p : Regrown, w' = Go.Sort.grow (redrawn w p.d) p.os) _ _ _ _ ?_
    suffices hg : wpAnyH P .any (l.take n).toArray (Ends fun a w => wpList P l.toArray Q (l.drop n) a w) (fun w' => ∃ p : Regrown, w' = Go.Sort.grow (redrawn w p.d) p.os) (cs.length + 1 + rs.length) (Array.replicate n false) a { w with drawn := w.drawn + 1 } by rw [b9] at hg; exact hg
    refine wpAnyH_takes b6 rs _ a _ (cs.length + 1) ⟨⟨w.drawn + 1, #[]⟩, by rw [Go.Sort.grow_empty]; rfl⟩ b7 ?_
    refine wpQuiet_mono (fun a' ha => ?_) _ _ h
    cases ho : (l.take n)[fi]? with
    | none => rw [ho] at b11; cases b11
    | some og =>
      rw [ho] at b11
      simp only [Bool.and_eq_true, decide_eq_true_eq] at b11
      have hgu : og.guard = none := by simpa using b11.1.2
      have hoo : og.op = .alloc t := by
        have h3 := b11.2
        split at h3
        · rename_i t' hq; rw [hq]; congr 1; simpa using h3
        · cases h3
      refine wpAnyH_float (f := f) (B := w.heap.size) (z := z) (t := t) (og := og) (fun w1 w2 h1 h2 => ?_) (fun w1 h1 => ?_) (by simpa using ho) b11.1.1 hgu hoo hal cs _ a' _ b8 ⟨⟨w.drawn + 1, #[]⟩, by rw [Go.Sort.grow_empty]; rfl⟩ (fun i o hi ho2 => ?_) ha.1 (fun vf w'' hb => ha.2 vf w'' (hbd.trans (hb.mono (Nat.le_refl _))))
      · obtain ⟨p, rfl⟩ := h1
        have hb1 := below_regrown w p.d p.os
        exact regrown_of_below (hb1.trans (h2.mono hb1.size))
      · obtain ⟨p, rfl⟩ := h1
        exact (below_regrown w p.d p.os).size
      · have := List.all_eq_true.1 b10 i hi
        rw [show (l.take n)[i]? = some o by simpa using ho2] at this
        simpa using this
end
end Go.Proofs.Ytkjhofbjjogmlaa

/- A law for a region that draws its order: reads first; then whatever ways are left, as a tree; then the tail in its order. -/
namespace Go.Proofs.Ytkjhofbjjogmlaa
open Go.RowKit Go.Lib

/-- The ways in which operations may come: 'way i next rest': i and then next; or one of rest. -/
inductive Ways
  | fin
  | way (i : Nat) (next rest : Ways)
namespace Ways
def heads : Ways → List Nat
  | fin => []
  | way i _ rest => i :: rest.heads
def depth : Ways → Nat
  | fin => 0
  | way _ next rest => max (next.depth + 1) rest.depth
/-- A chain. -/
def chain : List Nat → Ways → Ways
  | [], w => w
  | i :: l, w => way i (chain l w) fin
end Ways
section
variable {P : Program} {ops : Array Oper} {md : Region.Mode} {S : World → Prop} {Q : Exit → Act → World → Prop} {T : Act → World → Prop}
/-- Are these all the ways from here? -/
def waysB (md : Region.Mode) (ops : Array Oper) : Bool → Array Bool → Ways → Bool
  | true, L, .fin => (Region.ready md ops L).isEmpty
  | false, _, .fin => true
  | b, L, .way i next rest => (!b || ((Region.ready md ops L).all fun j => (Ways.way i next rest).heads.contains j) && !(Region.ready md ops L).isEmpty) && waysB md ops true (L.setIfInBounds i true) next && waysB md ops false L rest
/-- What is owed along the ways. -/
def wpWays (P : Program) (ops : Array Oper) (S : World → Prop) (T : Act → World → Prop) : Bool → Ways → Act → World → Prop
  | true, .fin, a, w => T a w
  | false, .fin, _, _ => True
  | _, .way i next rest, a, w => (match ops[i]? with | some o => wpList P ops (Ends fun a' w' => S w' ∧ wpWays P ops S T true next a' w') [o] a w | none => False) ∧ wpWays P ops S T false rest a w
theorem waysB_way (b : Bool) (L : Array Bool) (i : Nat) (next rest : Ways) : waysB md ops b L (.way i next rest) = ((!b || ((Region.ready md ops L).all fun j => (Ways.way i next rest).heads.contains j) && !(Region.ready md ops L).isEmpty) && waysB md ops true (L.setIfInBounds i true) next && waysB md ops false L rest) := by
  cases b <;> rfl
theorem wpWays_way (b : Bool) (i : Nat) (next rest : Ways) (a : Act) (w : World) : wpWays P ops S T b (.way i next rest) a w = ((match ops[i]? with | some o => wpList P ops (Ends fun a' w' => S w' ∧ wpWays P ops S T true next a' w') [o] a w | none => False) ∧ wpWays P ops S T false rest a w) := by
  cases b <;> rfl
theorem wpWays_fin (a : Act) (w : World) : wpWays P ops S T true .fin a w = T a w := rfl
theorem wpWays_none (a : Act) (w : World) : wpWays P ops S T false .fin a w = True := rfl
theorem wpWays_alt : ∀ (t : Ways) (b : Bool) (L : Array Bool) (a : Act) (w : World) (i : Nat), waysB md ops b L t = true → wpWays P ops S T b t a w → i ∈ t.heads →
    ∃ next o, ops[i]? = some o ∧ waysB md ops true (L.setIfInBounds i true) next = true ∧ next.depth + 1 ≤ t.depth ∧ wpList P ops (Ends fun a' w' => S w' ∧ wpWays P ops S T true next a' w') [o] a w
  | .fin, _, _, _, _, _, _, _, hi => by cases hi
  | .way j next rest, b, L, a, w, i, hB, h, hi => by
    rw [waysB_way] at hB
    rw [wpWays_way] at h
    simp only [Bool.and_eq_true] at hB
    obtain ⟨⟨_, h1⟩, h2⟩ := hB
    rcases List.mem_cons.1 hi with e | hi
    · subst e
      have h3 := h.1
      cases ho : ops[i]? with
      | none => rw [ho] at h3; exact h3.elim
      | some o =>
        rw [ho] at h3
        exact ⟨next, o, rfl, h1, Nat.le_max_left _ _, h3⟩
    · obtain ⟨n', o, e1, e2, e3, e4⟩ := wpWays_alt rest false L a w i h2 h.2 hi
      exact ⟨n', o, e1, e2, Nat.le_trans e3 (Nat.le_max_right _ _), e4⟩
theorem wpAnyH_ways : ∀ (m : Nat) (t : Ways) (L : Array Bool) (a : Act) (w : World), t.depth ≤ m → waysB md ops true L t = true → wpWays P ops S T true t a w → wpAnyH P md ops (Ends T) S m L a w
  | m, .fin, L, a, w, _, hB, h => by
    have hr : Region.ready md ops L = [] := by simpa [waysB] using hB
    exact Go.wpAnyH_done hr h m
  | 0, .way i next rest, L, a, w, hd, _, _ => by unfold Ways.depth at hd; omega
  | m + 1, .way i next rest, L, a, w, hd, hB, h => by
    have hB' := hB
    rw [waysB_way] at hB'
    simp only [Bool.not_true, Bool.false_or, Bool.and_eq_true] at hB'
    obtain ⟨⟨⟨hall, hne⟩, _⟩, _⟩ := hB'
    refine ⟨fun h0 => (by rw [h0] at hne; cases hne), fun j hj => ?_⟩
    have hjh : j ∈ (Ways.way i next rest).heads := by simpa using List.all_eq_true.1 hall j hj
    obtain ⟨n', o, ho, h1, h2, h3⟩ := wpWays_alt _ true L a w j hB h hjh
    have h4 := wpList_one h3
    have step : ∀ (a' : Act) (w' : World), (S w' ∧ wpWays P ops S T true n' a' w') → S w' ∧ wpAnyH P md ops (Ends T) S m (L.setIfInBounds j true) a' w' := fun a' w' h' =>
      ⟨h'.1, wpAnyH_ways m n' _ a' w' (by omega) h1 h'.2⟩
    unfold wpOp
    simp only [ho]
    split
    · rename_i hw
      rw [if_pos hw] at h4
      exact .inl (Oper.wp_ends (fun a' w' h' => step a' w' h') h4)
    · rename_i hw
      rw [if_neg hw] at h4
      exact step _ _ h4
def partB (l : List Oper) (n : Nat) (rs : List Nat) (t : Ways) : Bool :=
  Region.sinkB .any l.toArray n && Region.chainB .any l.toArray n && headOk l.toArray n && Region.seqB .any l.toArray (l.drop n).length n ((Array.replicate l.length false).mapIdx fun i _ => decide (i < n)) && decide (n < l.length) &&
    Region.noSelect (l.take n).toArray && takesB .any (l.take n).toArray (Array.replicate n false) rs && waysB .any (l.take n).toArray true (takenB (Array.replicate n false) rs) t && decide (t.depth + rs.length = n)
/-- THE LAW. -/
theorem wp_region_ways {id : Nat} {l : List Oper} {a : Act} {w : World} (n : Nat) (rs : List Nat) (t : Ways) (S : World → Prop) (hm : P.follows .mixedOrders = true) (hB : partB l n rs t = true) (hS : S w.drew)
    (h : wpQuiet P (l.take n).toArray S (fun a' => wpWays P (l.take n).toArray S (fun a w => wpList P l.toArray Q (l.drop n) a w) true t a' w.drew) (rs.filterMap ((l.take n).toArray[·]?)) a) :
    (Code.region id l.toArray true).wp P Q a w := by
  simp only [partB, Bool.and_eq_true, decide_eq_true_eq] at hB
  obtain ⟨⟨⟨⟨⟨⟨⟨⟨b1, b2⟩, b3⟩, b4⟩, b5⟩, b6⟩, b7⟩, b8⟩, b9⟩ := hB
  have hn : n < l.toArray.size := by simpa using b5
  have e : l.toArray.extract 0 n = (l.take n).toArray := by simp
  have hsz : (l.take n).toArray.size = n := by simp; omega
  refine wp_region_any hm ?_
  have inv : HeadInv .any l.toArray n (Array.replicate l.toArray.size false) := ⟨by simp, (fun j oj _ hl => by rw [getD_replicate_false] at hl; cases hl), fun t _ ht => by simp at ht; simp [ht]⟩
  have hu : unl n (Array.replicate l.toArray.size false) = n := by
    unfold unl
    rw [List.countP_eq_length.2 (fun i hi => by
      have h1 := List.mem_range.1 hi
      have h2 : i < l.length := by omega
      simp [h2]), List.length_range]
  have e1 : (Array.replicate l.toArray.size false).extract 0 n = Array.replicate n false := by
    apply Array.ext_getElem?
    intro j
    by_cases hj : j < n
    · rw [ext0 _ hj, Array.getElem?_replicate, Array.getElem?_replicate, if_pos hj, if_pos (by omega)]
    · rw [Array.getElem?_eq_none (by simp; omega), Array.getElem?_eq_none (by simp; omega)]
  have hlen : n + (l.drop n).length = l.toArray.size := by simp; omega
  suffices hg : wpAny P .any l.toArray Q (n + (l.drop n).length) (Array.replicate l.toArray.size false) a { w with drawn := w.drawn + 1 } by rw [hlen] at hg; exact hg
  refine wpAny_of_truncE (T := fun a w => wpList P l.toArray Q (l.drop n) a w) b1 b2 b3 hn (fun L a' w' inv' hu' hT => ?_) n _ a _ inv hu ?_
  · have eL : L = (Array.replicate l.length false).mapIdx fun i _ => decide (i < n) := by
      apply Array.ext (by simp [inv'.size])
      intro i h1 h2
      simp only [Array.getElem_mapIdx]
      by_cases hi : i < n
      · have := unl_zero hu' i hi; simp [h1] at this; simp [hi, this]
      · have := inv'.tail i (by omega) (by rw [← inv'.size]; exact h1); simp [h1] at this; simp [hi, this]
    subst eL
    exact wpAny_of_seq (l.drop n) n _ a' w' (fun j => by simp [List.getElem?_drop]) b4 hT
  · rw [e1, e]
    refine wpAny_of_held (S := S) _ _ _ _ ?_
    suffices hg : wpAnyH P .any (l.take n).toArray (Ends fun a w => wpList P l.toArray Q (l.drop n) a w) S (t.depth + rs.length) (Array.replicate n false) a { w with drawn := w.drawn + 1 } by rw [b9] at hg; exact hg
    refine wpAnyH_takes b6 rs _ a _ t.depth hS b7 ?_
    refine wpQuiet_mono (fun a' ha => ?_) _ _ h
    exact wpAnyH_ways _ t _ a' _ (Nat.le_refl _) b8 ha
end
end Go.Proofs.Ytkjhofbjjogmlaa

/- The law of TW where built-in min, max and len, and assignments, are let in among the reads. -/
namespace Go.Proofs.Ytkjhofbjjogmlaa
open Go.RowKit Go.Lib

section
variable {P : Program} {ops : Array Oper} {md : Region.Mode} {S : World → Prop} {Q : Exit → Act → World → Prop} {T : Act → World → Prop}
/-- As valueB, with assignments and three built-in functions. -/
def value3B : Op → Bool
  | .assign _ => true
  | .build .. => true
  | .call c => (match c.callee with | .builtin .min => true | .builtin .max => true | .builtin .len => true | _ => false)
  | o => valueB o
theorem exec_call3 {o : Oper} {c : Call} (ho : o.op = .call c) (hv : value3B (.call c) = true) (ρ : Operand → Value) (w : World) : (∃ u w', (execOp ρ o).run P w = .ok (.value u) w') ∨ (∃ x w', (execOp ρ o).run P w = .halt x w') := by
  have key : ∀ s : Sem Value, (∃ u w', (do pure (.value (← s)) : Sem Next).run P w = .ok (.value u) w') ∨ (∃ x w', (do pure (.value (← s)) : Sem Next).run P w = .halt x w') := fun s => by
    rw [Sem.run_bind]
    cases h : s.run P w with
    | ok u w' => left; exact ⟨u, w', by simp [Result.andThen, Sem.run_pure]⟩
    | halt x w' => right; exact ⟨x, w', by simp [Result.andThen]⟩
  unfold execOp
  simp only [ho]
  unfold resolve
  simp only [value3B] at hv
  split at hv <;> rename_i hc
  · simp only [hc, pure_bind]; exact key _
  · simp only [hc, pure_bind]; exact key _
  · simp only [hc, pure_bind]; exact key _
  · cases hv
theorem exec_build3 {o : Oper} {t : TypeId} {parts : Array (Nat × Operand)} (ho : o.op = .build t parts) (ρ : Operand → Value) (w : World) : (∃ u w', (execOp ρ o).run P w = .ok (.value u) w') ∨ (∃ x w', (execOp ρ o).run P w = .halt x w') := by
  have key : ∀ s : Sem Value, (∃ u w', (do pure (.value (← s)) : Sem Next).run P w = .ok (.value u) w') ∨ (∃ x w', (do pure (.value (← s)) : Sem Next).run P w = .halt x w') := fun s => by
    rw [Sem.run_bind]
    cases h : s.run P w with
    | ok u w' => left; exact ⟨u, w', by simp [Result.andThen, Sem.run_pure]⟩
    | halt x w' => right; exact ⟨x, w', by simp [Result.andThen]⟩
  unfold execOp
  simp only [ho]
  exact key _
theorem yieldsIf_of_quiet3 {o : Oper} {a : Act} {v : Value} {C : World → Prop} (hv : value3B o.op = true) (hw : Region.wanted o (yielded ops a.tmps) = true) (h : ∀ w, C w → o.quietAt P a C w v) : YieldsIf P ops C o v a := by
  cases ho : o.op with
  | assign x => exact yieldsIf_of_quiet2 (by rw [ho]; rfl) hw h
  | build t parts =>
    refine .inl ⟨hw, fun w hC => ?_⟩
    have h1 := h w hC
    unfold Oper.quietAt at h1
    rcases exec_build3 (P := P) ho a.eval w with ⟨u, w', e⟩ | ⟨x, w', e⟩
    · rw [e] at h1 ⊢
      obtain ⟨rfl, rfl⟩ := h1
      rfl
    · rw [e] at h1; exact h1.elim
  | call c =>
    refine .inl ⟨hw, fun w hC => ?_⟩
    have h1 := h w hC
    unfold Oper.quietAt at h1
    rcases exec_call3 (P := P) ho (by rw [ho] at hv; exact hv) a.eval w with ⟨u, w', e⟩ | ⟨x, w', e⟩
    · rw [e] at h1 ⊢
      obtain ⟨rfl, rfl⟩ := h1
      rfl
    · rw [e] at h1; exact h1.elim
  | _ => exact yieldsIf_of_quiet (by rw [ho] at hv ⊢; exact hv) hw h
def takes3B (md : Region.Mode) (ops : Array Oper) : Array Bool → List Nat → Bool
  | _, [] => true
  | L, i :: rs => (Region.ready md ops L).contains i && Region.free md ops L i && (match ops[i]? with | some o => value3B o.op | none => false) && takes3B md ops (L.setIfInBounds i true) rs
theorem wpAnyH_takes3 (hns : Region.noSelect ops = true) : ∀ (rs : List Nat) (L : Array Bool) (a : Act) (w : World) (f : Nat), S w → takes3B md ops L rs = true →
    wpQuiet P ops S (fun a' => wpAnyH P md ops (Ends T) S f (takenB L rs) a' w) (rs.filterMap (ops[·]?)) a → wpAnyH P md ops (Ends T) S (f + rs.length) L a w
  | [], L, a, w, f, _, _, h => h
  | i :: rs, L, a, w, f, hS, hB, h => by
    simp only [takes3B, Bool.and_eq_true] at hB
    obtain ⟨⟨⟨h1, h2⟩, h3⟩, h4⟩ := hB
    have hi : i ∈ Region.ready md ops L := by simpa using h1
    obtain ⟨_, o, ho, _⟩ := mem_ready.1 hi
    rw [List.filterMap_cons, ho] at h
    rw [ho] at h3
    simp only [wpQuiet] at h
    have hstep : ∃ v, YieldsIf P ops S o v a ∧ wpQuiet P ops S (fun a' => wpAnyH P md ops (Ends T) S f (takenB L (i :: rs)) a' w) (rs.filterMap (ops[·]?)) (a.put o.dst v) := by
      by_cases hw : Region.wanted o (yielded ops a.tmps) = true
      · rw [if_pos hw] at h
        obtain ⟨v, hv, hk⟩ := h
        exact ⟨v, yieldsIf_of_quiet3 h3 hw hv, hk⟩
      · rw [if_neg hw] at h
        exact ⟨undef, .inr ⟨by simpa using hw, rfl⟩, h⟩
    obtain ⟨v, hy, hk⟩ := hstep
    exact wpAnyH_take (i := i) ho hns h2 (by simpa using h1) (fun _ _ _ h => h) hy hS (wpAnyH_takes3 hns rs _ _ w f hS h4 hk)
/-- The ways in which operations may come; 'take i next': i may be taken at once. -/
inductive Wy
  | fin
  | take (i : Nat) (next : Wy)
  | way (i : Nat) (next rest : Wy)
namespace Wy
def heads : Wy → List Nat
  | fin => []
  | take _ _ => []
  | way i _ rest => i :: rest.heads
def depth : Wy → Nat
  | fin => 0
  | take _ next => next.depth + 1
  | way _ next rest => max (next.depth + 1) rest.depth
end Wy
/-- Are these all the ways from here? -/
def wysB (md : Region.Mode) (ops : Array Oper) : Bool → Array Bool → Wy → Bool
  | true, L, .fin => (Region.ready md ops L).isEmpty
  | false, _, .fin => true
  | true, L, .take i next => (Region.ready md ops L).contains i && Region.free md ops L i && (match ops[i]? with | some o => value3B o.op | none => false) && wysB md ops true (L.setIfInBounds i true) next
  | false, _, .take _ _ => false
  | b, L, .way i next rest => (!b || ((Region.ready md ops L).all fun j => (Wy.way i next rest).heads.contains j) && !(Region.ready md ops L).isEmpty) && wysB md ops true (L.setIfInBounds i true) next && wysB md ops false L rest
/-- What is owed along the ways. -/
def wpWy (P : Program) (ops : Array Oper) (S : World → Prop) (T : Act → World → Prop) : Bool → Wy → Act → World → Prop
  | true, .fin, a, w => T a w
  | false, .fin, _, _ => True
  | _, .take i next, a, w => match ops[i]? with | some o => wpQuiet P ops S (fun a' => wpWy P ops S T true next a' w) [o] a | none => False
  | _, .way i next rest, a, w => (match ops[i]? with | some o => wpList P ops (Ends fun a' w' => S w' ∧ wpWy P ops S T true next a' w') [o] a w | none => False) ∧ wpWy P ops S T false rest a w
theorem wysB_way (b : Bool) (L : Array Bool) (i : Nat) (next rest : Wy) : wysB md ops b L (.way i next rest) = ((!b || ((Region.ready md ops L).all fun j => (Wy.way i next rest).heads.contains j) && !(Region.ready md ops L).isEmpty) && wysB md ops true (L.setIfInBounds i true) next && wysB md ops false L rest) := by
  cases b <;> rfl
theorem wpWy_way (b : Bool) (i : Nat) (next rest : Wy) (a : Act) (w : World) : wpWy P ops S T b (.way i next rest) a w = ((match ops[i]? with | some o => wpList P ops (Ends fun a' w' => S w' ∧ wpWy P ops S T true next a' w') [o] a w | none => False) ∧ wpWy P ops S T false rest a w) := by
  cases b <;> rfl
theorem wpWy_take (b : Bool) (i : Nat) (next : Wy) (a : Act) (w : World) : wpWy P ops S T b (.take i next) a w = (match ops[i]? with | some o => wpQuiet P ops S (fun a' => wpWy P ops S T true next a' w) [o] a | none => False) := by
  cases b <;> rfl
theorem wpWy_fin (a : Act) (w : World) : wpWy P ops S T true .fin a w = T a w := rfl
theorem wpWy_alt : ∀ (t : Wy) (b : Bool) (L : Array Bool) (a : Act) (w : World) (i : Nat), wysB md ops b L t = true → wpWy P ops S T b t a w → i ∈ t.heads →
    ∃ next o, ops[i]? = some o ∧ wysB md ops true (L.setIfInBounds i true) next = true ∧ next.depth + 1 ≤ t.depth ∧ wpList P ops (Ends fun a' w' => S w' ∧ wpWy P ops S T true next a' w') [o] a w
  | .fin, _, _, _, _, _, _, _, hi => by cases hi
  | .take _ _, _, _, _, _, _, _, _, hi => by cases hi
  | .way j next rest, b, L, a, w, i, hB, h, hi => by
    rw [wysB_way] at hB
    rw [wpWy_way] at h
    simp only [Bool.and_eq_true] at hB
    obtain ⟨⟨_, h1⟩, h2⟩ := hB
    rcases List.mem_cons.1 hi with e | hi
    · subst e
      have h3 := h.1
      cases ho : ops[i]? with
      | none => rw [ho] at h3; exact h3.elim
      | some o =>
        rw [ho] at h3
        exact ⟨next, o, rfl, h1, Nat.le_max_left _ _, h3⟩
    · obtain ⟨n', o, e1, e2, e3, e4⟩ := wpWy_alt rest false L a w i h2 h.2 hi
      exact ⟨n', o, e1, e2, Nat.le_trans e3 (Nat.le_max_right _ _), e4⟩
theorem wpAnyH_wy (hns : Region.noSelect ops = true) : ∀ (m : Nat) (t : Wy) (L : Array Bool) (a : Act) (w : World), t.depth ≤ m → S w → wysB md ops true L t = true → wpWy P ops S T true t a w → wpAnyH P md ops (Ends T) S m L a w
  | m, .fin, L, a, w, _, _, hB, h => by
    have hr : Region.ready md ops L = [] := by simpa [wysB] using hB
    exact Go.wpAnyH_done hr h m
  | 0, .take i next, L, a, w, hd, _, _, _ => by unfold Wy.depth at hd; omega
  | m + 1, .take i next, L, a, w, hd, hS, hB, h => by
    simp only [wysB, Bool.and_eq_true] at hB
    obtain ⟨⟨⟨h1, h2⟩, h3⟩, h4⟩ := hB
    have hi : i ∈ Region.ready md ops L := by simpa using h1
    obtain ⟨_, o, ho, _⟩ := mem_ready.1 hi
    rw [wpWy_take, ho] at h
    rw [ho] at h3
    simp only [wpQuiet] at h
    have hstep : ∃ v, YieldsIf P ops S o v a ∧ wpWy P ops S T true next (a.put o.dst v) w := by
      by_cases hw : Region.wanted o (yielded ops a.tmps) = true
      · rw [if_pos hw] at h
        obtain ⟨v, hv, hk⟩ := h
        exact ⟨v, yieldsIf_of_quiet3 h3 hw hv, hk⟩
      · rw [if_neg hw] at h
        exact ⟨undef, .inr ⟨by simpa using hw, rfl⟩, h⟩
    obtain ⟨v, hy, hk⟩ := hstep
    refine wpAnyH_take (i := i) ho hns h2 (by simpa using h1) (fun _ _ _ h => h) hy hS ?_
    exact wpAnyH_wy hns m next _ _ w (by unfold Wy.depth at hd; omega) hS h4 hk
  | 0, .way i next rest, L, a, w, hd, _, _, _ => by unfold Wy.depth at hd; omega
  | m + 1, .way i next rest, L, a, w, hd, _, hB, h => by
    have hB' := hB
    rw [wysB_way] at hB'
    simp only [Bool.not_true, Bool.false_or, Bool.and_eq_true] at hB'
    obtain ⟨⟨⟨hall, hne⟩, _⟩, _⟩ := hB'
    refine ⟨fun h0 => (by rw [h0] at hne; cases hne), fun j hj => ?_⟩
    have hjh : j ∈ (Wy.way i next rest).heads := by simpa using List.all_eq_true.1 hall j hj
    obtain ⟨n', o, ho, h1, h2, h3⟩ := wpWy_alt _ true L a w j hB h hjh
    have h4 := wpList_one h3
    have step : ∀ (a' : Act) (w' : World), (S w' ∧ wpWy P ops S T true n' a' w') → S w' ∧ wpAnyH P md ops (Ends T) S m (L.setIfInBounds j true) a' w' := fun a' w' h' =>
      ⟨h'.1, wpAnyH_wy hns m n' _ a' w' (by omega) h'.1 h1 h'.2⟩
    unfold wpOp
    simp only [ho]
    split
    · rename_i hw
      rw [if_pos hw] at h4
      exact .inl (Oper.wp_ends (fun a' w' h' => step a' w' h') h4)
    · rename_i hw
      rw [if_neg hw] at h4
      exact step _ _ h4
def part3B (l : List Oper) (n : Nat) (rs : List Nat) (t : Wy) : Bool :=
  Region.sinkB .any l.toArray n && Region.chainB .any l.toArray n && headOk l.toArray n && Region.seqB .any l.toArray (l.drop n).length n ((Array.replicate l.length false).mapIdx fun i _ => decide (i < n)) && decide (n < l.length) &&
    Region.noSelect (l.take n).toArray && takes3B .any (l.take n).toArray (Array.replicate n false) rs && wysB .any (l.take n).toArray true (takenB (Array.replicate n false) rs) t && decide (t.depth + rs.length = n)
/-- THE LAW. -/
theorem wp_region_ways3 {id : Nat} {l : List Oper} {a : Act} {w : World} (n : Nat) (rs : List Nat) (t : Wy) (S : World → Prop) (hm : P.follows .mixedOrders = true) (hB : part3B l n rs t = true) (hS : S w.drew)
    (h : wpQuiet P (l.take n).toArray S (fun a' => wpWy P (l.take n).toArray S (fun a w => wpList P l.toArray Q (l.drop n) a w) true t a' w.drew) (rs.filterMap ((l.take n).toArray[·]?)) a) :
    (Code.region id l.toArray true).wp P Q a w := by
  simp only [part3B, Bool.and_eq_true, decide_eq_true_eq] at hB
  obtain ⟨⟨⟨⟨⟨⟨⟨⟨b1, b2⟩, b3⟩, b4⟩, b5⟩, b6⟩, b7⟩, b8⟩, b9⟩ := hB
  have hn : n < l.toArray.size := by simpa using b5
  have e : l.toArray.extract 0 n = (l.take n).toArray := by simp
  have hsz : (l.take n).toArray.size = n := by simp; omega
  refine wp_region_any hm ?_
  have inv : HeadInv .any l.toArray n (Array.replicate l.toArray.size false) := ⟨by simp, (fun j oj _ hl => by rw [getD_replicate_false] at hl; cases hl), fun t _ ht => by simp at ht; simp [ht]⟩
  have hu : unl n (Array.replicate l.toArray.size false) = n := by
    unfold unl
    rw [List.countP_eq_length.2 (fun i hi => by
      have h1 := List.mem_range.1 hi
      have h2 : i < l.length := by omega
      simp [h2]), List.length_range]
  have e1 : (Array.replicate l.toArray.size false).extract 0 n = Array.replicate n false := by
    apply Array.ext_getElem?
    intro j
    by_cases hj : j < n
    · rw [ext0 _ hj, Array.getElem?_replicate, Array.getElem?_replicate, if_pos hj, if_pos (by omega)]
    · rw [Array.getElem?_eq_none (by simp; omega), Array.getElem?_eq_none (by simp; omega)]
  have hlen : n + (l.drop n).length = l.toArray.size := by simp; omega
  suffices hg : wpAny P .any l.toArray Q (n + (l.drop n).length) (Array.replicate l.toArray.size false) a { w with drawn := w.drawn + 1 } by rw [hlen] at hg; exact hg
  refine wpAny_of_truncE (T := fun a w => wpList P l.toArray Q (l.drop n) a w) b1 b2 b3 hn (fun L a' w' inv' hu' hT => ?_) n _ a _ inv hu ?_
  · have eL : L = (Array.replicate l.length false).mapIdx fun i _ => decide (i < n) := by
      apply Array.ext (by simp [inv'.size])
      intro i h1 h2
      simp only [Array.getElem_mapIdx]
      by_cases hi : i < n
      · have := unl_zero hu' i hi; simp [h1] at this; simp [hi, this]
      · have := inv'.tail i (by omega) (by rw [← inv'.size]; exact h1); simp [h1] at this; simp [hi, this]
    subst eL
    exact wpAny_of_seq (l.drop n) n _ a' w' (fun j => by simp [List.getElem?_drop]) b4 hT
  · rw [e1, e]
    refine wpAny_of_held (S := S) _ _ _ _ ?_
    suffices hg : wpAnyH P .any (l.take n).toArray (Ends fun a w => wpList P l.toArray Q (l.drop n) a w) S (t.depth + rs.length) (Array.replicate n false) a { w with drawn := w.drawn + 1 } by rw [b9] at hg; exact hg
    refine wpAnyH_takes3 b6 rs _ a _ t.depth hS b7 ?_
    refine wpQuiet_mono (fun a' ha => ?_) _ _ h
    exact wpAnyH_wy b6 _ t _ a' _ (Nat.le_refl _) hS b8 ha
end
end Go.Proofs.Ytkjhofbjjogmlaa

/- A law for drawn regions that go in several ways to their very end. -/
namespace Go.Proofs.Ytkjhofbjjogmlaa
open Go.RowKit Go.Lib

section
variable {P : Program} {Q : Exit → Act → World → Prop}
def wayWB (l : List Oper) (rs : List Nat) (t : Wy) : Bool :=
  Region.noSelect l.toArray && takes3B .any l.toArray (Array.replicate l.toArray.size false) rs && wysB .any l.toArray true (takenB (Array.replicate l.toArray.size false) rs) t && decide (t.depth + rs.length = l.toArray.size)
/-- A drawn region that goes in several ways to its very end. -/
theorem wp_region_wayw {id : Nat} {l : List Oper} {a : Act} {w : World} (rs : List Nat) (t : Wy) (S : World → Prop) (hm : P.follows .mixedOrders = true) (hB : wayWB l rs t = true) (hS : S w.drew)
    (h : wpQuiet P l.toArray S (fun a' => wpWy P l.toArray S (fun a w => Q .normal a w) true t a' w.drew) (rs.filterMap (l.toArray[·]?)) a) :
    (Code.region id l.toArray true).wp P Q a w := by
  simp only [wayWB, Bool.and_eq_true, decide_eq_true_eq] at hB
  obtain ⟨⟨⟨b6, b7⟩, b8⟩, b9⟩ := hB
  refine wp_region_any hm (wpAny_of_ends (T := fun a w => Q .normal a w) (fun _ _ h => h) _ _ _ _ ?_)
  refine wpAny_of_held (S := S) _ _ _ _ ?_
  rw [← b9]
  refine wpAnyH_takes3 b6 rs _ a _ t.depth hS (by rw [b9]; exact b7) ?_
  refine wpQuiet_mono (fun a' ha => ?_) _ _ h
  exact wpAnyH_wy b6 _ t _ a' _ (Nat.le_refl _) hS (by rw [b9]; exact b8) ha
end
end Go.Proofs.Ytkjhofbjjogmlaa

/- Rows of one's own among other blocks. -/
namespace Go.Proofs.Ytkjhofbjjogmlaa
open Go.RowKit Go.Lib
section
variable {w w' : World}
theorem own_at {base : Nat} {e : TypeId} {size : Nat} {v : Value} {n : Nat} {xs : List Value} {g : Nat} (h : w.ownsRow base e size v n xs) (hv : v.ownBlock = some g) : base ≤ g ∧ g < w.heap.size ∧ ∃ cs, Lies w g e cs := by
  rcases h.2 with ⟨rfl, _⟩ | ⟨g', cap, cur, rfl, hb, hg, _⟩
  · cases hv
  · cases hv
    exact ⟨hb, (Array.getElem?_eq_some_iff.1 hg).1, cur, hg⟩
theorem own_keep {base : Nat} {e : TypeId} {size : Nat} {v : Value} {n : Nat} {xs : List Value} (h : w.ownsRow base e size v n xs) (hk : ∀ g, v.ownBlock = some g → w'.heap[g]? = w.heap[g]?) : w'.ownsRow base e size v n xs := by
  refine ⟨h.1, ?_⟩
  rcases h.2 with hn | ⟨g, cap, cur, rfl, hb, hg, rest⟩
  · exact .inl hn
  · exact .inr ⟨g, cap, cur, rfl, hb, (hk g rfl).trans hg, rest⟩
theorem lies_ne {g k : Nat} {t e : TypeId} {cs cs' : Array Value} (h : Lies w g t cs) (h' : Lies w k e cs') (ht : t ≠ e) : g ≠ k := by
  rintro rfl
  unfold Lies at h h'
  rw [h] at h'
  cases h'
  exact ht rfl
/-- Rows of another type are as they were when a row grows. -/
theorem own_other {base base2 : Nat} {e e2 : TypeId} {size size2 : Nat} {v v2 : Value} {n n2 : Nat} {xs xs2 : List Value} (h : w.ownsRow base e size v n xs) (h2 : w.ownsRow base2 e2 size2 v2 n2 xs2) (he : e ≠ e2) (hg : w.grownBy w' v2.ownBlock) : w'.ownsRow base e size v n xs :=
  own_keep h fun g hv => by
    obtain ⟨_, hlt, cs, hl⟩ := own_at h hv
    refine hg.block g hlt (fun e' => ?_)
    obtain ⟨_, _, cs2, hl2⟩ := own_at h2 e'.symm
    exact lies_ne hl hl2 he rfl
theorem own_set {base g i : Nat} {e t : TypeId} {size : Nat} {v : Value} {n : Nat} {xs : List Value} {cs : Array Value} (h : w.ownsRow base e size v n xs) (hl : Lies w g t cs) (he : e ≠ t) (u : Value) : (w.setCell ⟨g, i, none⟩ u).ownsRow base e size v n xs :=
  own_keep h fun k hv => by
    obtain ⟨_, _, cs', hl'⟩ := own_at h hv
    exact heap_setCell_other _ _ _ _ (lies_ne hl' hl he)
theorem own_fit {base : Nat} {e : TypeId} {size : Nat} {v : Value} {n : Nat} {xs : List Value} (h : w.ownsRow base e size v n xs) {G : Nat} {t : TypeId} {cs : Array Value} (hl : Lies w G t cs) (he : e ≠ t) : ∀ g, v.ownBlock = some g → g ≠ G := fun g hv => by
  obtain ⟨_, _, cs', hl'⟩ := own_at h hv
  exact lies_ne hl' hl he
end

/-- The store of a whole aggregate into a block that lies. -/
theorem wpList_store_cells {P : Program} {w : World} {ops : Array Oper} {rest : List Oper} {o : Oper} {a : Act} {Q : Exit → Act → World → Prop} (hgd : o.guard = none) (ty : TypeId) (x y : Operand) (ho : o.op = .store ty x y) (g off : Nat) (hx : a.eval x = .pointer (some ⟨g, off, none⟩)) (t : TypeId) (l vs : List Value)
    (hy : a.eval y = .agg vs.toArray) (hl : Lies w g t l.toArray) (hf : off + vs.length ≤ l.length) (hi : (P.info? ty).map (·.size) = some vs.length) (h1 : ∀ v ∈ vs, v.oneCell' = true)
    (h : ∀ w', Hid (Lies w' g t (splice l off vs).toArray) → Hid (Only g w w') → wpList P ops Q rest (a.put o.dst undef) w') : wpList P ops Q (o :: rest) a w := by
  have hS := Lies.setCells vs off w l hl (by simpa using hf)
  refine wpList_store_mid hgd ty x y ho g off vs.toArray hx hy ?_ (by simpa using hi) (all_oneCell_toArray h1) (h _ ?_ ?_)
  · simpa using Lies.there (o := off) (n := vs.length) hl (by simpa using hf)
  · show Lies _ _ _ _
    simpa using hS.1
  · show Only _ _ _
    simpa using hS.2
theorem splice_whole {cur l : List Value} (h : l.length = cur.length) : splice cur 0 l = l := by unfold splice; simp [h]


theorem own_only {w w' : World} {base g : Nat} {e t : TypeId} {size : Nat} {v : Value} {n : Nat} {xs : List Value} {cs : Array Value} (h : w.ownsRow base e size v n xs) (hl : Lies w g t cs) (he : e ≠ t) (ho : Only g w w') : w'.ownsRow base e size v n xs :=
  own_keep h fun k hv => ho.block k (own_fit h hl he k hv)
end Go.Proofs.Ytkjhofbjjogmlaa

/- Several rows of one's own, apart from one another, in worlds that grow. -/
namespace Go.Proofs.Ytkjhofbjjogmlaa
open Go.RowKit Go.Lib

/-- A row of one's own, as a word. -/
structure RowO where
  B : Nat
  e : TypeId
  s : Nat
  v : Value
  n : Nat
  xs : List Value
def RowO.In (r : RowO) (w : World) : Prop := w.ownsRow r.B r.e r.s r.v r.n r.xs
/-- What has come of a world with the rows l0: the rows l; all else of old is as it was. -/
structure Since (w0 : World) (l0 l : List RowO) (w : World) : Prop where
  os : w.os = w0.os
  tape : w.tape = w0.tape
  output : w.output = w0.output
  size : w0.heap.size ≤ w.heap.size
  block : ∀ k, k < w0.heap.size → (∀ r : RowO, r ∈ l0 → r.v.ownBlock ≠ some k) → w.heap[k]? = w0.heap[k]?
  come : ∀ r : RowO, r ∈ l → ∀ g, r.v.ownBlock = some g → (∃ r0 : RowO, r0 ∈ l0 ∧ r0.v.ownBlock = some g) ∨ w0.heap.size ≤ g
  own : ∀ (i : Nat) (r : RowO), l[i]? = some r → r.In w
  ne : ∀ (i j : Nat) (r r' : RowO), l[i]? = some r → l[j]? = some r' → i ≠ j → ∀ g, r.v.ownBlock = some g → r'.v.ownBlock ≠ some g
namespace Since
variable {w0 w w' : World} {l0 l : List RowO}
theorem start (h : ∀ (i : Nat) (r : RowO), l0[i]? = some r → r.In w0) (hne : ∀ (i j : Nat) (r r' : RowO), l0[i]? = some r → l0[j]? = some r' → i ≠ j → ∀ g, r.v.ownBlock = some g → r'.v.ownBlock ≠ some g) : Since w0 l0 l0 w0 :=
  ⟨rfl, rfl, rfl, Nat.le_refl _, fun _ _ _ => rfl, fun r hr _g hg => .inl ⟨r, hr, hg⟩, h, hne⟩
theorem drew (h : Since w0 l0 l w) : Since w0 l0 l w.drew := ⟨h.os, h.tape, h.output, h.size, h.block, h.come, h.own, h.ne⟩
theorem call (h : Since w0 l0 l w) (hb : Below w.heap.size w w') : Since w0 l0 l w' :=
  ⟨hb.os.trans h.os, hb.tape.trans h.tape, hb.output.trans h.output, Nat.le_trans h.size hb.size, fun k hk hn => (hb.block k (Nat.lt_of_lt_of_le hk h.size)).trans (h.block k hk hn), h.come, fun i r hr => ownsRow_call (h.own i r hr) hb, h.ne⟩
theorem alloc (h : Since w0 l0 l w) (o : Obj) : Since w0 l0 l (w.alloc o) := h.call ((Below.refl _ _).alloc (Nat.le_refl _) _)
/-- An append to row i. -/
theorem app (h : Since w0 l0 l w) {i : Nat} {r : RowO} (hi : l[i]? = some r) {g m c : Nat} {xs : List Value} (hown : w'.ownsRow r.B r.e r.s (.slice (some ⟨g, 0, none⟩) m c) m xs) (hg : w.grownBy w' r.v.ownBlock) (hat : r.v.ownBlock = some g ∨ g = w.heap.size) :
    Since w0 l0 (l.set i ⟨r.B, r.e, r.s, .slice (some ⟨g, 0, none⟩) m c, m, xs⟩) w' := by
  have hlt : i < l.length := (List.getElem?_eq_some_iff.1 hi).1
  have hmem : r ∈ l := List.mem_of_getElem? hi
  have hgb : ∀ b, (Value.slice (some ⟨g, 0, none⟩) m c).ownBlock = some b → b = g := fun b e => by cases e; rfl
  have old : ∀ (j : Nat) (r' : RowO), l[j]? = some r' → j ≠ i → ∀ b, r'.v.ownBlock = some b → some b ≠ r.v.ownBlock ∧ b ≠ g := fun j r' hj hji b hb => by
    refine ⟨fun e => h.ne i j r r' hi hj (Ne.symm hji) b e.symm hb, fun e => ?_⟩
    subst e
    rcases hat with h1 | h1
    · exact h.ne i j r r' hi hj (Ne.symm hji) _ h1 hb
    · have := (own_at (h.own j r' hj) hb).2.1; omega
  refine ⟨hg.os.trans h.os, hg.tape.trans h.tape, hg.output.trans h.output, Nat.le_trans h.size hg.size, fun k hk hn => ?_, fun q hq b hb => ?_, fun j q hj => ?_, fun j j' q q' hj hj' hjj b hb => ?_⟩
  · rw [hg.block k (Nat.lt_of_lt_of_le hk h.size) (fun e => ?_), h.block k hk hn]
    rcases h.come r hmem k e.symm with ⟨r0, h0, h1⟩ | h1
    · exact hn r0 h0 h1
    · omega
  · obtain ⟨j, hj⟩ := List.getElem?_of_mem hq
    rw [List.getElem?_set] at hj
    by_cases hij : i = j
    · rw [if_pos hij, if_pos hlt] at hj
      cases hj
      obtain rfl := hgb b hb
      rcases hat with h1 | h1
      · exact h.come r hmem _ h1
      · right; have := h.size; omega
    · rw [if_neg hij] at hj
      exact h.come q (List.mem_of_getElem? hj) b hb
  · rw [List.getElem?_set] at hj
    by_cases hij : i = j
    · rw [if_pos hij, if_pos hlt] at hj
      cases hj
      exact hown
    · rw [if_neg hij] at hj
      exact own_keep (h.own j q hj) fun b hb => hg.block b (own_at (h.own j q hj) hb).2.1 (old j q hj (Ne.symm hij) b hb).1
  · rw [List.getElem?_set] at hj hj'
    by_cases hij : i = j
    · rw [if_pos hij, if_pos hlt] at hj
      cases hj
      rw [if_neg (by omega)] at hj'
      obtain rfl := hgb b hb
      exact fun e => (old j' q' hj' (by omega) _ e).2 rfl
    · rw [if_neg hij] at hj
      by_cases hij' : i = j'
      · rw [if_pos hij', if_pos hlt] at hj'
        cases hj'
        exact fun e => (old j q hj (by omega) b hb).2 (hgb b e)
      · rw [if_neg hij'] at hj'
        exact h.ne j j' q q' hj hj' hjj b hb
theorem lies {k : Nat} {t : TypeId} {cs : Array Value} (h : Since w0 l0 l w) (hl : Lies w0 k t cs) (hn : ∀ r : RowO, r ∈ l0 → r.v.ownBlock ≠ some k) : Lies w k t cs := hl.to_ (h.block k hl.in_ hn)
theorem cell {p : Addr} {v : Value} (h : Since w0 l0 l w) (hc : w0.cell? p = some v) (hn : ∀ r : RowO, r ∈ l0 → r.v.ownBlock ≠ some p.block) : w.cell? p = some v :=
  (World.cell?_of_block (w := w0) (h.block p.block (World.block_lt_of_cell? w0 _ hc) hn)).trans hc
theorem below {B : Nat} (h : Since w0 l0 l w) (hB : ∀ r : RowO, r ∈ l0 → ∀ g, r.v.ownBlock = some g → B ≤ g) (hs : B ≤ w0.heap.size) : Below B w0 w :=
  ⟨h.os, h.tape, h.output, h.size, fun k hk => h.block k (by omega) (fun r hr e => by have := hB r hr k e; omega)⟩
end Since
/-- The worlds that have come of w0, as a class. -/
structure SinceW (w0 : World) (l0 : List RowO) where
  val : World
  l : List RowO
  h : Since w0 l0 l val
theorem SinceW.cell {w0 : World} {l0 : List RowO} {p : Addr} {v : Value} (hc : w0.cell? p = some v) (hn : ∀ r : RowO, r ∈ l0 → r.v.ownBlock ≠ some p.block) (c : SinceW w0 l0) : c.val.cell? p = some v := c.h.cell hc hn
theorem Since.here {w0 w : World} {l0 l : List RowO} (h : Since w0 l0 l w) : ∃ c : SinceW w0 l0, w = c.val := ⟨⟨w, l, h⟩, rfl⟩
end Go.Proofs.Ytkjhofbjjogmlaa
