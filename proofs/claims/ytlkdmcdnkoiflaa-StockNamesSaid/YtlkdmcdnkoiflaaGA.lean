/- The texts A B C D E Q F G H I J K, joined. -/
import Derived.WalkKit
import Derived.Deep.QuietTactic
import Derived.BigQuiet
import Derived.Outline
import Derived.OwnWalk
import Derived.WalkLawsBesides
import Derived.Lib.Hide
import Derived.Laws.AppendOwnNone
import Derived.Laws.MakeOwn
import Derived.Maps.AppendAt
import Derived.Deep.AppendLies
import Derived.BigRegion
import Derived.Deep.RegionWith
import Derived.Lib.QuietBelow
import Derived.RegionTactic
import Derived.Test.YtlkdmcdnkoiflaaProg
import Derived.Shelf.SlicesQ.IndexFunc
import Derived.Deep.DeepCutAuto
import Derived.Laws.EntriesVeiled
import Derived.Deep.RegionHeld3
import Derived.StillTailTactics
import Derived.Deep.MidRow
import Derived.Laws.CopyOwn
import Derived.WalkSpells
/- Shared words: what a slice of structs reads as, small closers. -/
namespace Go.Proofs.Ytlkdmcdnkoiflaa
open Go.RowKit

theorem ret_bool {a b : Bool} (h : a = b) : Ending.returned (.bool a) = .returned (.bool b) := by rw [h]
theorem ret_int {k : IntKind} {a b : Int} (h : a = b) : Ending.returned (.int k a) = .returned (.int k b) := by rw [h]

/-- The slice with address A reads as l: each element has k cells. -/
def Sl {α : Type} (w : World) (B k : Nat) (enc : α → List Value) (A : Option Addr) (l : List α) : Prop :=
  l ≠ [] → ∃ b off, A = some ⟨b, off, none⟩ ∧ b < B ∧ ∀ i x, l[i]? = some x → ∀ j u, (enc x)[j]? = some u → w.cell? ⟨b, off + i * k + j, none⟩ = some u

section
variable {α : Type} {w w' : World} {B B' k : Nat} {enc : α → List Value} {A : Option Addr} {l : List α}
theorem Sl.nil : Sl w B k enc A ([] : List α) := fun h => absurd rfl h
theorem Sl.keep (h : Sl w B k enc A l) (hk : ∀ p : Addr, p.block < B → w'.cell? p = w.cell? p) : Sl w' B k enc A l := fun hl => by
  obtain ⟨b, off, e, hb, hc⟩ := h hl
  exact ⟨b, off, e, hb, fun i x hx j u hu => (hk ⟨b, off + i * k + j, none⟩ hb).trans (hc i x hx j u hu)⟩
theorem Sl.more (h : Sl w B k enc A l) (hB : B ≤ B') : Sl w B' k enc A l := fun hl => by
  obtain ⟨b, off, e, hb, hc⟩ := h hl
  exact ⟨b, off, e, by omega, hc⟩
theorem Sl.below (h : Sl w B k enc A l) (hb : Below B w w') : Sl w' B k enc A l := h.keep fun _ hp => hb.cell hp
theorem Sl.drewN (h : Sl w B k enc A l) (n : Nat) : Sl (w.drewN n) B k enc A l := h
theorem Sl.drew (h : Sl w B k enc A l) : Sl w.drew B k enc A l := h
theorem Sl.alloc (h : Sl w B k enc A l) (hB : B ≤ w.heap.size) (o : Obj) : Sl (w.alloc o) B k enc A l := h.keep fun p hp => World.cell?_alloc_lt w o p (by omega)
theorem Sl.setCell (h : Sl w B k enc A l) {p : Addr} (hB : B ≤ p.block) (u : Value) : Sl (w.setCell p u) B k enc A l :=
  h.keep fun q hq => World.cell?_setCell_other w p q u (fun e => by subst e; omega)
theorem Sl.at_ (h : Sl w B k enc A l) {i : Nat} {x : α} (hx : l[i]? = some x) : ∃ b off, A = some ⟨b, off, none⟩ ∧ b < B ∧ ∀ j u, (enc x)[j]? = some u → w.cell? ⟨b, off + i * k + j, none⟩ = some u := by
  obtain ⟨b, off, e, hb, hc⟩ := h (by rintro rfl; simp at hx)
  exact ⟨b, off, e, hb, hc i x hx⟩
end

theorem ownsRow_below {w w' : World} {base : Nat} {e : TypeId} {size : Nat} {v : Value} {n : Nat} {xs : List Value} {B : Nat} (h : w.ownsRow base e size v n xs) (hb : Below B w w') (hB : ∀ k, v.ownBlock = some k → k < B) : w'.ownsRow base e size v n xs := by
  refine ⟨h.1, ?_⟩
  rcases h.2 with hn | ⟨g, cap, cur, rfl, hbg, hgg, rest⟩
  · exact .inl hn
  · exact .inr ⟨g, cap, cur, rfl, hbg, (hb.block g (hB g rfl)).trans hgg, rest⟩
/-- A row that was owned is owned behind a call that leaves all old memory alone. -/
theorem ownsRow_call {w w' : World} {base : Nat} {e : TypeId} {size : Nat} {v : Value} {n : Nat} {xs : List Value} (h : w.ownsRow base e size v n xs) (hb : Below w.heap.size w w') : w'.ownsRow base e size v n xs :=
  ownsRow_below h hb fun k hk => (h.lt k hk).2
/-- The cells of a block that was just made. -/
theorem news_alloc (w : World) (cs : List Value) (t : TypeId) : ∀ j u, cs[j]? = some u → (w.alloc (.cells cs.toArray t)).cell? ((⟨w.heap.size, 0, none⟩ : Addr).add j) = some u := fun j u hu => by
  have hadd : (⟨w.heap.size, 0, none⟩ : Addr).add j = ⟨w.heap.size, j, none⟩ := by unfold Addr.add; split <;> simp_all
  rw [hadd, cell_of_row _ _ _ _ _ _ (heap_alloc_new w _)]
  simpa using hu
theorem flat_take_succ {α β : Type} (f : α → List β) {l : List α} {k : Nat} {x : α} (h : l[k]? = some x) : (l.take (k + 1)).flatMap f = (l.take k).flatMap f ++ f x := by
  rw [List.take_add_one, h]; simp

/-- In w block g is a row of the cells cs of type t, which may be written. -/
def Lies (w : World) (g : Nat) (t : TypeId) (cs : Array Value) : Prop := w.heap[g]? = some (.cells cs t (0, 0))
namespace Lies
variable {w w' : World} {g : Nat} {t : TypeId} {cs : Array Value}
theorem in_ (h : Lies w g t cs) : g < w.heap.size := (Array.getElem?_eq_some_iff.1 (show w.heap[g]? = some _ from h)).1
theorem to_ (h : Lies w g t cs) (e : w'.heap[g]? = w.heap[g]?) : Lies w' g t cs := by unfold Lies; rw [e]; exact h
theorem at_ (h : Lies w g t cs) (i : Nat) : w.cell? ⟨g, i, none⟩ = cs[i]? := cell_of_row _ _ _ _ _ _ h
theorem free (h : Lies w g t cs) (i : Nat) : w.frozen? ⟨g, i, none⟩ = false := frozen_of_row _ _ _ _ _ h
theorem fresh (w : World) (t : TypeId) (cs : Array Value) : Lies (w.alloc (.cells cs t)) w.heap.size t cs := heap_alloc_new _ _
theorem drewN (h : Lies w g t cs) (n : Nat) : Lies (w.drewN n) g t cs := h
theorem drew (h : Lies w g t cs) : Lies w.drew g t cs := h
theorem alloc (h : Lies w g t cs) (o : Obj) : Lies (w.alloc o) g t cs := h.to_ (heap_alloc_old _ _ h.in_)
theorem below {B : Nat} (h : Lies w g t cs) (hb : Below B w w') (hg : g < B) : Lies w' g t cs := h.to_ (hb.block _ hg)
theorem call (h : Lies w g t cs) (hb : Below w.heap.size w w') : Lies w' g t cs := h.below hb h.in_
theorem grown {row : Option Nat} (h : Lies w g t cs) (hb : w.grownBy w' row) (hg : some g ≠ row) : Lies w' g t cs := h.to_ (hb.block _ h.in_ hg)
theorem other (h : Lies w g t cs) {p : Addr} (hp : g ≠ p.block) (u : Value) : Lies (w.setCell p u) g t cs := h.to_ (heap_setCell_other _ _ _ _ hp)
theorem set (h : Lies w g t cs) (i : Nat) (u : Value) : Lies (w.setCell ⟨g, i, none⟩ u) g t (cs.setIfInBounds i u) := heap_setCell_same _ _ _ _ _ _ h
theorem four {a b c d : Value} (h : Lies w g t #[a, b, c, d]) : w.cell? ⟨g, 0, none⟩ = some a ∧ w.cell? ⟨g, 1, none⟩ = some b ∧ w.cell? ⟨g, 2, none⟩ = some c ∧ w.cell? ⟨g, 3, none⟩ = some d := ⟨h.at_ 0, h.at_ 1, h.at_ 2, h.at_ 3⟩
theorem six {a b c d e f : Value} (h : Lies w g t #[a, b, c, d, e, f]) : w.cell? ⟨g, 0, none⟩ = some a ∧ w.cell? ⟨g, 1, none⟩ = some b ∧ w.cell? ⟨g, 2, none⟩ = some c ∧ w.cell? ⟨g, 3, none⟩ = some d ∧ w.cell? ⟨g, 4, none⟩ = some e ∧ w.cell? ⟨g, 5, none⟩ = some f :=
  ⟨h.at_ 0, h.at_ 1, h.at_ 2, h.at_ 3, h.at_ 4, h.at_ 5⟩
theorem three {a b c : Value} (h : Lies w g t #[a, b, c]) : w.cell? ⟨g, 0, none⟩ = some a ∧ w.cell? ⟨g, 1, none⟩ = some b ∧ w.cell? ⟨g, 2, none⟩ = some c := ⟨h.at_ 0, h.at_ 1, h.at_ 2⟩
theorem one {a : Value} (h : Lies w g t #[a]) : w.cell? ⟨g, 0, none⟩ = some a := h.at_ 0
end Lies
/-- A row of n cells whose i-th is f i. -/
def Row (w : World) (g : Nat) (t : TypeId) (n : Nat) (f : Nat → Value) : Prop := ∃ cs, Lies w g t cs ∧ cs.size = n ∧ ∀ i, i < n → cs[i]? = some (f i)
namespace Row
variable {w w' : World} {g : Nat} {t : TypeId} {n : Nat} {f : Nat → Value}
theorem in_ : Row w g t n f → g < w.heap.size := fun ⟨_, h, _⟩ => h.in_
theorem at_ (h : Row w g t n f) {i : Nat} (hi : i < n) : w.cell? ⟨g, i, none⟩ = some (f i) := by
  obtain ⟨cs, h, _, hc⟩ := h
  rw [h.at_, hc i hi]
theorem free (h : Row w g t n f) (i : Nat) : w.frozen? ⟨g, i, none⟩ = false := by
  obtain ⟨cs, h, _⟩ := h
  exact h.free i
theorem to_ (h : Row w g t n f) (e : w'.heap[g]? = w.heap[g]?) : Row w' g t n f := by
  obtain ⟨cs, h, r⟩ := h
  exact ⟨cs, h.to_ e, r⟩
theorem drewN (h : Row w g t n f) (k : Nat) : Row (w.drewN k) g t n f := h
theorem drew (h : Row w g t n f) : Row w.drew g t n f := h
theorem alloc (h : Row w g t n f) (o : Obj) : Row (w.alloc o) g t n f := h.to_ (heap_alloc_old _ _ h.in_)
theorem below {B : Nat} (h : Row w g t n f) (hb : Below B w w') (hg : g < B) : Row w' g t n f := h.to_ (hb.block _ hg)
theorem call (h : Row w g t n f) (hb : Below w.heap.size w w') : Row w' g t n f := h.below hb h.in_
theorem grown {row : Option Nat} (h : Row w g t n f) (hb : w.grownBy w' row) (hg : some g ≠ row) : Row w' g t n f := h.to_ (hb.block _ h.in_ hg)
theorem other (h : Row w g t n f) {p : Addr} (hp : g ≠ p.block) (u : Value) : Row (w.setCell p u) g t n f := h.to_ (heap_setCell_other _ _ _ _ hp)
theorem set (h : Row w g t n f) (i : Nat) (u : Value) : Row (w.setCell ⟨g, i, none⟩ u) g t n (fun j => if j = i then u else f j) := by
  obtain ⟨cs, h, hs, hc⟩ := h
  refine ⟨_, h.set i u, by simpa using hs, fun j hj => ?_⟩
  by_cases e : j = i
  · subst e; simp [hs, hj]
  · show _ = some (if j = i then u else f j)
    rw [Array.getElem?_setIfInBounds_ne (Ne.symm e), if_neg e, hc j hj]
theorem made (w : World) (t : TypeId) (n k : Nat) (z : Value) (hk : n = k) : Row (w.alloc (.cells (madeCells #[z] n) t)) w.heap.size t k (fun _ => z) := by
  subst hk
  exact ⟨_, Lies.fresh _ _ _, size_madeCells _ _, fun i hi => by simp [madeCells, hi, Nat.mod_one]⟩
end Row
/-- make([]T, n): the new row. -/
theorem run_make_n {P : Program} (t e : TypeId) (i : TypeInfo) (z : Value) (ht : P.underlying t = some (.slice e)) (hi : P.info? e = some i) (hz : i.zero = some z) (n : Nat) (hb : i.bytes * n ≤ 1000000000) (hn : n ≤ 1000000000) (w : World) :
    (Instr.makeSlice t (.int .i64 (n : Int)) (.int .i64 (n : Int))).run P w = .ok (.slice (some ⟨w.heap.size, 0, none⟩) n n) (w.alloc (.cells (madeCells z.cells (n * i.size)) e)) := by
  have h : ((i.bytes * n : Nat) : Int) ≤ 1000000000 := by omega
  rw [Int.natCast_mul] at h
  have hr := run_make (P := P) w t e i z ht hi hz .i64 .i64 n n (by omega) (by omega) (by omega) (by omega)
  simpa only [Int.toNat_natCast] using hr

/-- 'append(own, src...)' at whatever source, nil let in. -/
theorem wpList_append_sl {P : Program} {w : World} {ops : Array Oper} {rest : List Oper} {o : Oper} {a : Act} {Q : Exit → Act → World → Prop} (hgd : o.guard = none) (s x : Operand) (t : TypeId)
    (ho : o.op = .call { callee := .builtin .append, args := #[s, x], argTypes := #[t, t] })
    (base : Nat) (e : TypeId) (i : TypeInfo) (z : Value) (size bytes : Nat) (ht : P.underlying t = some (.slice e)) (hi : P.info? e = some i) (hz : i.zero = some z)
    (hsize : i.size = size) (hby : i.bytes = bytes) (hzs : z.cells.size = size) (hsz : 0 < size)
    (v : Value) (n : Nat) (xs : List Value) (hs : a.eval s = v) (hown : w.ownsRow base e size v n xs)
    (A : Option Addr) (m c : Nat) (news : List Value) (hx : a.eval x = .slice A m c) (hl : news.length = m * size) (hA : A = none → m = 0 ∧ c = 0)
    (hnews : ∀ ad, A = some ad → ∀ j u, news[j]? = some u → w.cell? (ad.add j) = some u) (h1 : ∀ u ∈ news, u.oneCell' = true)
    (h63 : n + m ≤ maxLen) (hbytes : (n + m) * bytes ≤ 140737488355328) (hbase : base ≤ w.heap.size)
    (h : ∀ v' w', w'.ownsRow base e size v' (n + m) (xs ++ news) → w.grownBy w' v.ownBlock → (v' = .slice none 0 0 ↔ v = .slice none 0 0 ∧ m = 0) → wpList P ops Q rest (a.put o.dst v') w') : wpList P ops Q (o :: rest) a w := by
  cases A with
  | none =>
    obtain ⟨rfl, rfl⟩ := hA rfl
    have hn : news = [] := List.eq_nil_of_length_eq_zero (by simpa using hl)
    subst hn
    exact wpList_append_own_none hgd s x t ho base e i size ht hi v n xs hs hown hx (h v w (by simpa using hown) (World.grownBy.refl _ _) (by simp))
  | some ad => exact wpList_append_own w hgd s x t ho base e i z size bytes ht hi hz hsize hby hzs hsz v n xs hs hown ad m c news hx hl (hnews ad rfl) h1 h63 hbytes hbase h

theorem add_lit (b off j : Nat) : (⟨b, off, none⟩ : Addr).add j = ⟨b, off + j, none⟩ := by unfold Addr.add; split <;> simp_all
/-- What a slice that reads as l hands to an append. -/
theorem Sl.news {α : Type} {w : World} {B k : Nat} {enc : α → List Value} {A : Option Addr} {l : List α} (h : Sl w B k enc A l) (hk : ∀ x, (enc x).length = k) : ∀ ad, A = some ad → ∀ j u, (l.flatMap enc)[j]? = some u → w.cell? (ad.add j) = some u := by
  intro ad hA j u hu
  have hl : l ≠ [] := by rintro rfl; simp at hu
  obtain ⟨b, off, e, _, hc⟩ := h hl
  rw [hA] at e
  obtain rfl := Option.some.inj e
  rw [add_lit]
  clear hA e h hl
  induction l generalizing off j with
  | nil => simp at hu
  | cons x l ih =>
    rw [List.flatMap_cons, List.getElem?_append] at hu
    split at hu
    · have := hc 0 x rfl j u hu
      simpa using this
    · rename_i hlt
      rw [hk x] at hlt hu
      have := ih (off := off + k) (j := j - k) hu (fun i y hy j' u' hu' => by have := hc (i + 1) y (by simpa using hy) j' u' hu'; rw [Nat.add_mul, Nat.one_mul] at this; rw [← this]; congr 2; omega)
      rw [← this]; congr 2; omega
theorem flat_len {α : Type} {enc : α → List Value} {k : Nat} (hk : ∀ x, (enc x).length = k) (l : List α) : (l.flatMap enc).length = l.length * k := by
  induction l with
  | nil => simp
  | cons x l ih => rw [List.flatMap_cons, List.length_append, hk, ih, List.length_cons, Nat.add_mul, Nat.one_mul, Nat.add_comm]
theorem flat_at {α : Type} {enc : α → List Value} {k : Nat} (hk : ∀ x, (enc x).length = k) {l : List α} {i : Nat} {x : α} (hx : l[i]? = some x) {j : Nat} (hj : j < k) : (l.flatMap enc)[i * k + j]? = (enc x)[j]? := by
  induction l generalizing i with
  | nil => simp at hx
  | cons y l ih =>
    rw [List.flatMap_cons]
    cases i with
    | zero =>
      simp at hx; subst hx
      rw [List.getElem?_append_left (by rw [hk]; omega)]; congr 1; omega
    | succ i =>
      rw [List.getElem?_append_right (by rw [hk, Nat.add_mul]; omega), hk]
      rw [← ih (by simpa using hx)]; congr 1; rw [Nat.add_mul]; omega
/-- A row of the call's own reads as its list. -/
theorem Sl.of_own {α : Type} {w : World} {base k : Nat} {e : TypeId} {enc : α → List Value} {v : Value} {l : List α} {xs : List Value} (hk : ∀ x, (enc x).length = k) (h : w.ownsRow base e k v l.length xs) (hxs : xs = l.flatMap enc) :
    ∃ A c, v = .slice A l.length c ∧ (A = none → l.length = 0 ∧ c = 0) ∧ Sl w w.heap.size k enc A l := by
  subst hxs
  rcases h.2 with ⟨rfl, h0⟩ | ⟨g, cap, cur, rfl, hbg, hgg, hnc, hcm, hcs, htake⟩
  · exact ⟨none, 0, by rw [h0], fun _ => ⟨h0, rfl⟩, by rw [List.eq_nil_of_length_eq_zero h0]; exact Sl.nil⟩
  · refine ⟨some ⟨g, 0, none⟩, cap, rfl, (fun e => by cases e), fun hl => ⟨g, 0, rfl, (Array.getElem?_eq_some_iff.1 hgg).1, fun i x hx j u hu => ?_⟩⟩
    have hjk : j < k := by rw [← hk x]; exact (List.getElem?_eq_some_iff.1 hu).1
    have hcell := h.cells (g := g) rfl (i * k + j) u (by rw [flat_at hk hx hjk]; exact hu)
    rw [add_lit] at hcell
    rw [← hcell]; congr 2; omega
theorem ownsRow_base {w : World} {base base' : Nat} {e : TypeId} {size : Nat} {v : Value} {n : Nat} {xs : List Value} (h : w.ownsRow base e size v n xs) (hb : base' ≤ base) : w.ownsRow base' e size v n xs := by
  refine ⟨h.1, ?_⟩
  rcases h.2 with hn | ⟨g, cap, cur, rfl, hbg, rest⟩
  · exact .inl hn
  · exact .inr ⟨g, cap, cur, rfl, by omega, rest⟩
/-- A slice literal of one element. -/
theorem Sl.lit1 {α : Type} (w : World) (k : Nat) (t : TypeId) (enc : α → List Value) (y : α) : Sl (w.alloc (.cells (enc y).toArray t)) (w.alloc (.cells (enc y).toArray t)).heap.size k enc (some ⟨w.heap.size, 0, none⟩) [y] := fun _ =>
  ⟨w.heap.size, 0, rfl, by simp, fun i x hx j u hu => by
    cases i with
    | zero =>
      simp at hx; subst hx
      have := news_alloc w (enc y) t j u hu
      rw [add_lit] at this
      simpa using this
    | succ i => simp at hx⟩
theorem Below.drewN {B : Nat} {a w : World} (h : Below B a w) (n : Nat) : Below B a (w.drewN n) := below_drewN h n
end Go.Proofs.Ytlkdmcdnkoiflaa

/- The checks' leaves: within, upTo, rangeUpTo and their closures, has, isBelow, canBe. -/
namespace Go.Proofs.Ytlkdmcdnkoiflaa
open Go.RowKit

def inB (n lo hi : Int) : Bool := decide (lo ≤ n) && decide (n ≤ hi)
theorem inB_iff {n lo hi : Int} : inB n lo hi = true ↔ lo ≤ n ∧ n ≤ hi := by simp [inB]
theorem within_any (n lo hi : Int) (w : World) : Calls Try.prog 94 #[.int .i64 n, .int .i64 lo, .int .i64 hi] w fun e w' => e = .returned (.bool (inB n lo hi)) ∧ w = w' := by
  go_enter Try.func94, Try.ntmps94
  go_wp2
  all_goals (go_ret; exact ⟨ret_bool (by simp [inB]; try omega), rfl⟩)

theorem isBelow_any (lo hi m : Int) (w : World) : Calls Try.prog 92 #[.agg #[.int .i64 lo, .int .i64 hi], .int .i64 m] w fun e w' => e = .returned (.bool (decide (hi ≤ m))) ∧ Below w.heap.size w w' := by
  go_enter Try.func92, Try.ntmps92
  go_wp2
  all_goals (go_ret; exact ⟨ret_bool (by simp), (by repeat (first | (with_reducible assumption) | (with_reducible exact Below.refl _ _) | (with_reducible refine Below.drew ?_) | (with_reducible refine below_drewN ?_ _) | ((with_reducible refine Below.setCell ?_ ?_ _); rotate_left; focus (first | (simp; done) | (simp; omega) | omega)) | ((with_reducible refine Below.alloc ?_ ?_ _); rotate_left; focus (first | (simp; done) | (simp; omega) | omega))))⟩)

theorem has_any (lo hi n : Int) (w : World) : Calls Try.prog 96 #[.agg #[.int .i64 lo, .int .i64 hi], .int .i64 n] w fun e w' => e = .returned (.bool (inB n lo hi)) ∧ Below w.heap.size w w' := by
  go_enter Try.func96, Try.ntmps96
  go_wp2_with (go_at_call 94; refine (within_any _ _ _ _).mono ?_; rintro e w' ⟨rfl, rfl⟩)
  all_goals (go_ret; exact ⟨rfl, (by repeat (first | (with_reducible assumption) | (with_reducible exact Below.refl _ _) | (with_reducible refine Below.drew ?_) | (with_reducible refine below_drewN ?_ _) | ((with_reducible refine Below.setCell ?_ ?_ _); rotate_left; focus (first | (simp; done) | (simp; omega) | omega)) | ((with_reducible refine Below.alloc ?_ ?_ _); rotate_left; focus (first | (simp; done) | (simp; omega) | omega))))⟩)

theorem canBe_any (a b c m n : Int) (w : World) : Calls Try.prog 81 #[.agg #[.int .i64 a, .int .i64 b, .int .i64 c, .int .i64 m], .int .i64 n] w fun e w' => e = .returned (.bool (inB n 0 m)) ∧ Below w.heap.size w w' := by
  go_enter Try.func81, Try.ntmps81
  go_wp2_with (go_at_call 94; refine (within_any _ _ _ _).mono ?_; rintro e w' ⟨rfl, rfl⟩)
  all_goals (go_ret; exact ⟨rfl, (by repeat (first | (with_reducible assumption) | (with_reducible exact Below.refl _ _) | (with_reducible refine Below.drew ?_) | (with_reducible refine below_drewN ?_ _) | ((with_reducible refine Below.setCell ?_ ?_ _); rotate_left; focus (first | (simp; done) | (simp; omega) | omega)) | ((with_reducible refine Below.alloc ?_ ?_ _); rotate_left; focus (first | (simp; done) | (simp; omega) | omega))))⟩)

theorem low_any (lo hi : Int) (w : World) : Calls Try.prog 109 #[.agg #[.int .i64 lo, .int .i64 hi]] w fun e w' => e = .returned (.int .i64 lo) ∧ Below w.heap.size w w' := by
  go_enter Try.func109, Try.ntmps109
  go_wp2
  all_goals (go_ret; exact ⟨rfl, (by repeat (first | (with_reducible assumption) | (with_reducible exact Below.refl _ _) | (with_reducible refine Below.drew ?_) | (with_reducible refine below_drewN ?_ _) | ((with_reducible refine Below.setCell ?_ ?_ _); rotate_left; focus (first | (simp; done) | (simp; omega) | omega)) | ((with_reducible refine Below.alloc ?_ ?_ _); rotate_left; focus (first | (simp; done) | (simp; omega) | omega))))⟩)
theorem high_any (lo hi : Int) (w : World) : Calls Try.prog 108 #[.agg #[.int .i64 lo, .int .i64 hi]] w fun e w' => e = .returned (.int .i64 hi) ∧ Below w.heap.size w w' := by
  go_enter Try.func108, Try.ntmps108
  go_wp2
  all_goals (go_ret; exact ⟨rfl, (by repeat (first | (with_reducible assumption) | (with_reducible exact Below.refl _ _) | (with_reducible refine Below.drew ?_) | (with_reducible refine below_drewN ?_ _) | ((with_reducible refine Below.setCell ?_ ?_ _); rotate_left; focus (first | (simp; done) | (simp; omega) | omega)) | ((with_reducible refine Below.alloc ?_ ?_ _); rotate_left; focus (first | (simp; done) | (simp; omega) | omega))))⟩)

/-- 'upTo(most)': a new block for most, and the literal over it. -/
theorem upTo_any (m : Int) (w : World) : Calls Try.prog 86 #[.int .i64 m] w fun e w' => e = .returned (.func (.func 117) #[] #[.pointer (some ⟨w.heap.size, 0, none⟩)]) ∧ w.alloc (.cells #[.int .i64 m] 3) = w' := by
  go_enter Try.func86, Try.ntmps86
  go_wp2
  go_ret
  exact ⟨rfl, rfl⟩
theorem rangeUpTo_any (m : Int) (w : World) : Calls Try.prog 87 #[.int .i64 m] w fun e w' => e = .returned (.func (.func 118) #[] #[.pointer (some ⟨w.heap.size, 0, none⟩)]) ∧ w.alloc (.cells #[.int .i64 m] 3) = w' := by
  go_enter Try.func87, Try.ntmps87
  go_wp2
  go_ret
  exact ⟨rfl, rfl⟩
theorem upTo1_any (n m : Int) (g : Nat) (w : World) (hc : w.cell? ⟨g, 0, none⟩ = some (.int .i64 m)) :
    Calls Try.prog 117 #[.int .i64 n, .pointer (some ⟨g, 0, none⟩)] w fun e w' => e = .returned (.bool (inB n 0 m)) ∧ w = w' := by
  go_enter Try.func117, Try.ntmps117
  go_wp2_with (go_at_call 94; refine (within_any _ _ _ _).mono ?_; rintro e w' ⟨rfl, rfl⟩)
  all_goals (go_ret; exact ⟨rfl, rfl⟩)
/-- Is a range one from 0 to m? -/
def spanB (r : Int × Int) (m : Int) : Bool := decide (0 ≤ r.1) && decide (r.1 ≤ r.2) && decide (r.2 ≤ m)
theorem rangeUpTo1_any (lo hi m : Int) (g : Nat) (w : World) (hc : w.cell? ⟨g, 0, none⟩ = some (.int .i64 m)) :
    Calls Try.prog 118 #[.agg #[.int .i64 lo, .int .i64 hi], .pointer (some ⟨g, 0, none⟩)] w fun e w' => e = .returned (.bool (spanB (lo, hi) m)) ∧ Below w.heap.size w w' := by
  have hg := World.block_lt_of_cell? w _ hc
  by_cases h1 : 0 ≤ lo
  · by_cases h2 : lo ≤ hi
    · go_enter Try.func118, Try.ntmps118
      go_wp2_with (go_at_call 92; refine (isBelow_any _ _ _ _).mono ?_; rintro e w' ⟨rfl, hb⟩)
      all_goals (go_ret; exact ⟨ret_bool (by simp [spanB, h1, h2]), (((Below.refl _ _).alloc (Nat.le_refl _) _).trans (hb.mono (by simp)))⟩)
    · go_enter Try.func118, Try.ntmps118
      go_wp2
      all_goals (go_ret; exact ⟨ret_bool (by simp [spanB]; omega), (by repeat (first | (with_reducible assumption) | (with_reducible exact Below.refl _ _) | (with_reducible refine Below.drew ?_) | (with_reducible refine below_drewN ?_ _) | ((with_reducible refine Below.setCell ?_ ?_ _); rotate_left; focus (first | (simp; done) | (simp; omega) | omega)) | ((with_reducible refine Below.alloc ?_ ?_ _); rotate_left; focus (first | (simp; done) | (simp; omega) | omega))))⟩)
  · go_enter Try.func118, Try.ntmps118
    go_wp2
    all_goals (go_ret; exact ⟨ret_bool (by simp [spanB]; omega), (by repeat (first | (with_reducible assumption) | (with_reducible exact Below.refl _ _) | (with_reducible refine Below.drew ?_) | (with_reducible refine below_drewN ?_ _) | ((with_reducible refine Below.setCell ?_ ?_ _); rotate_left; focus (first | (simp; done) | (simp; omega) | omega)) | ((with_reducible refine Below.alloc ?_ ?_ _); rotate_left; focus (first | (simp; done) | (simp; omega) | omega))))⟩)
end Go.Proofs.Ytlkdmcdnkoiflaa

/- every, fits, paired at the types at which the program uses them: by what the function value answers. -/
namespace Go.Proofs.Ytlkdmcdnkoiflaa
open Go.RowKit Go.Lib

/-- What is asked of a function value of one parameter that answers yes or no: at each x that meets D, in whatever later world. -/
structure Ask (P : Program) {α : Type} (enc : α → Value) (g : Nat) (ft lb : Array Value) (p : α → Bool) (D : α → Prop) (w : World) : Prop where
  eg : ∀ args w, (callFunc g args).run P w = .ok (.enter g args) w
  call : ∀ W x, D x → Below w.heap.size w W → Calls P g (ft ++ #[enc x] ++ lb) W fun e w' => e = .returned (.bool (p x)) ∧ Below W.heap.size W w'
theorem Ask.later {P : Program} {α : Type} {enc : α → Value} {g : Nat} {ft lb : Array Value} {p : α → Bool} {D : α → Prop} {w W : World} (h : Ask P enc g ft lb p D w) (hb : Below w.heap.size w W) : Ask P enc g ft lb p D W :=
  ⟨h.eg, fun W' x hx hb' => h.call W' x hx (hb.trans (hb'.mono hb.size))⟩
/-- The same, of two parameters. -/
structure Ask2 (P : Program) {α β : Type} (enc : α → Value) (enc' : β → Value) (g : Nat) (ft lb : Array Value) (p : α → β → Bool) (D : α → β → Prop) (w : World) : Prop where
  eg : ∀ args w, (callFunc g args).run P w = .ok (.enter g args) w
  call : ∀ W x y, D x y → Below w.heap.size w W → Calls P g (ft ++ #[enc x, enc' y] ++ lb) W fun e w' => e = .returned (.bool (p x y)) ∧ Below W.heap.size W w'
theorem Ask2.later {P : Program} {α β : Type} {enc : α → Value} {enc' : β → Value} {g : Nat} {ft lb : Array Value} {p : α → β → Bool} {D : α → β → Prop} {w W : World} (h : Ask2 P enc enc' g ft lb p D w) (hb : Below w.heap.size w W) : Ask2 P enc enc' g ft lb p D W :=
  ⟨h.eg, fun W' x y hx hb' => h.call W' x y hx (hb.trans (hb'.mono hb.size))⟩

theorem all_hit {α : Type} {zs : List α} {p : α → Bool} {k : Nat} {x : α} (hx : zs[k]? = some x) (hp : p x = false) : zs.all p = false := by
  rw [Bool.eq_false_iff]; intro h
  have := List.all_eq_true.1 h x (List.mem_of_getElem? hx)
  rw [hp] at this; cases this
theorem all_miss {α : Type} {zs : List α} {p : α → Bool} (h : ∀ j x, j < zs.length → zs[j]? = some x → p x = true) : zs.all p = true := by
  rw [List.all_eq_true]; intro x hx
  obtain ⟨j, hj, rfl⟩ := List.getElem_of_mem hx
  exact h j _ hj (by simp [hj])
/-- The cell of an element of one cell. -/
theorem Sl.cell1 {α : Type} {enc : α → Value} {w : World} {B : Nat} {A : Option Addr} {l : List α} (h : Sl w B 1 (fun x => [enc x]) A l) {i : Nat} {x : α} (hx : l[i]? = some x) :
    ∃ b off, A = some ⟨b, off, none⟩ ∧ b < B ∧ w.cell? ⟨b, off + i, none⟩ = some (enc x) := by
  obtain ⟨b, off, e, hb, hc⟩ := h.at_ hx
  exact ⟨b, off, e, hb, by have := hc 0 _ rfl; simpa using this⟩
def encR (r : Int × Int) : List Value := [.int .i64 r.1, .int .i64 r.2]
theorem Sl.cellR {w : World} {B : Nat} {A : Option Addr} {l : List (Int × Int)} (h : Sl w B 2 encR A l) {i : Nat} {x : Int × Int} (hx : l[i]? = some x) :
    ∃ b off, A = some ⟨b, off, none⟩ ∧ b < B ∧ w.cell? ⟨b, off + i * 2, none⟩ = some (.int .i64 x.1) ∧ w.cell? ⟨b, off + i * 2 + 1, none⟩ = some (.int .i64 x.2) := by
  obtain ⟨b, off, e, hb, hc⟩ := h.at_ hx
  exact ⟨b, off, e, hb, by have := hc 0 _ rfl; simpa using this, by have := hc 1 _ rfl; simpa using this⟩
theorem Sl.lt {α : Type} {w : World} {B k : Nat} {enc : α → List Value} {A : Option Addr} {l : List α} (h : Sl w B k enc A l) (hl : l ≠ []) : ∃ b off, A = some ⟨b, off, none⟩ ∧ b < B := by
  obtain ⟨b, off, e, hb, _⟩ := h hl; exact ⟨b, off, e, hb⟩

-- pre
/-- A slice as a value. -/
structure Sv (β : Type) where
  A : Option Addr
  l : List β
  c : Nat
def Sv.val {β : Type} (s : Sv β) : Value := .slice s.A s.l.length s.c
structure Cr where
  size : Int
  bulbs : Int
  price : Int
  most : Int
  deriving DecidableEq, Inhabited
def encCr (c : Cr) : List Value := [.int .i64 c.size, .int .i64 c.bulbs, .int .i64 c.price, .int .i64 c.most]
theorem Sl.cellCr {w : World} {B : Nat} {A : Option Addr} {l : List Cr} (h : Sl w B 4 encCr A l) {i : Nat} {x : Cr} (hx : l[i]? = some x) :
    ∃ b off, A = some ⟨b, off, none⟩ ∧ b < B ∧ w.cell? ⟨b, off + i * 4, none⟩ = some (.int .i64 x.size) ∧ w.cell? ⟨b, off + i * 4 + 1, none⟩ = some (.int .i64 x.bulbs) ∧ w.cell? ⟨b, off + i * 4 + 2, none⟩ = some (.int .i64 x.price) ∧ w.cell? ⟨b, off + i * 4 + 3, none⟩ = some (.int .i64 x.most) := by
  obtain ⟨b, off, e, hb, hc⟩ := h.at_ hx
  exact ⟨b, off, e, hb, by have := hc 0 _ rfl; simpa using this, by have := hc 1 _ rfl; simpa using this, by have := hc 2 _ rfl; simpa using this, by have := hc 3 _ rfl; simpa using this⟩
section
set_option maxHeartbeats 1000000

theorem everyInt_any (g : Nat) (ft lb : Array Value) (p : Int → Bool) (A : Option Addr) (c : Nat) (zs : List Int) (w : World) (hA : Sl w w.heap.size 1 (fun x => [Value.int .i64 x]) A zs)
    (hp : Ask Try.prog (Value.int .i64) g ft lb p (· ∈ zs) w) (hl : zs.length ≤ 1000000) :
    Calls Try.prog 105 #[.slice A zs.length c, .func (.func g) ft lb] w fun e w' => e = .returned (.bool (zs.all p)) ∧ Below w.heap.size w w' := by
  have eg := hp.eg
  have HP := Lib.hid hp
  have HA := Lib.hid hA
  clear hp hA
  go_enter Try.func105, Try.ntmps105
  go_wp2
  go_loopg [6, 9] zs.length (fun gg _ s9 wr => ∃ kk : Nat, kk ≤ zs.length ∧ zs.length - kk ≤ gg ∧ s9 = .int .i64 kk ∧ Aside (Below w.heap.size w wr) ∧ Aside (∀ j x, j < kk → zs[j]? = some x → p x = true))
  case atStart => exact ⟨0, Nat.zero_le _, by omega, rfl, Below.refl _ w, fun j x hj => absurd hj (Nat.not_lt_zero _)⟩
  case round =>
    obtain ⟨kk, hkk, hg, rfl, BW, HH⟩ := hrel
    by_cases hlt : kk < zs.length
    · have hltz : (kk : Int) < (zs.length : Int) := by omega
      obtain ⟨x, hx⟩ : ∃ x, zs[kk]? = some x := ⟨zs[kk], by simp [hlt]⟩
      obtain ⟨b, off, rfl, hb, hc⟩ := HA.out.cell1 hx
      have l2 : wr.cell? ⟨b, off + kk, none⟩ = some (.int .i64 x) := by rw [BW.out.cell (p := ⟨b, off + kk, none⟩) hb]; exact hc
      have hcall := HP.out.call wr x (List.mem_of_getElem? hx) BW.out
      clear hc
      have HX := Lib.hid hx
      clear hx
      cases hq : p x with
      | false =>
        rw [hq] at hcall
        have HQ := Lib.hid hq
        clear hq
        go_wp2_with (go_at_fn g; refine hcall.mono ?_; rintro e w' ⟨rfl, hb'⟩)
        go_ret
        exact ⟨ret_bool (all_hit HX.out HQ.out).symm, BW.out.trans (hb'.mono BW.out.size)⟩
      | true =>
        rw [hq] at hcall
        have HQ := Lib.hid hq
        clear hq
        go_wp2_with (go_at_fn g; refine hcall.mono ?_; rintro e w' ⟨rfl, hb'⟩)
        go_roundg (zs.length - (kk + 1))
        case measure => omega
        case rel =>
          refine ⟨kk + 1, by omega, by omega, by go_num, BW.out.trans (hb'.mono BW.out.size), (show Aside _ from fun j y hj hy => ?_)⟩
          by_cases e : j = kk
          · subst e
            rw [HX.out] at hy; cases hy; exact HQ.out
          · exact HH.out j y (by omega) hy
    · have hltz : ¬ (kk : Int) < (zs.length : Int) := by omega
      have he : kk = zs.length := by omega
      have HE := Lib.hid he
      clear he
      go_wp2
      go_ret
      exact ⟨ret_bool (all_miss (by rw [← HE.out]; exact HH.out)).symm, BW.out⟩
-- gen
theorem everyRow_any (g : Nat) (ft lb : Array Value) (p : Sv (Int × Int) → Bool) (A : Option Addr) (c : Nat) (zs : List (Sv (Int × Int))) (w : World) (hA : Sl w w.heap.size 1 (fun x => [x.val]) A zs)
    (hp : Ask Try.prog Sv.val g ft lb p (· ∈ zs) w) (hl : zs.length ≤ 1000000) :
    Calls Try.prog 120 #[.slice A zs.length c, .func (.func g) ft lb] w fun e w' => e = .returned (.bool (zs.all p)) ∧ Below w.heap.size w w' := by
  have eg := hp.eg
  have HP := Lib.hid hp
  have HA := Lib.hid hA
  clear hp hA
  go_enter Try.func120, Try.ntmps120
  go_wp2
  go_loopg [6, 9] zs.length (fun gg _ s9 wr => ∃ kk : Nat, kk ≤ zs.length ∧ zs.length - kk ≤ gg ∧ s9 = .int .i64 kk ∧ Aside (Below w.heap.size w wr) ∧ Aside (∀ j x, j < kk → zs[j]? = some x → p x = true))
  case atStart => exact ⟨0, Nat.zero_le _, by omega, rfl, Below.refl _ w, fun j x hj => absurd hj (Nat.not_lt_zero _)⟩
  case round =>
    obtain ⟨kk, hkk, hg, rfl, BW, HH⟩ := hrel
    by_cases hlt : kk < zs.length
    · have hltz : (kk : Int) < (zs.length : Int) := by omega
      obtain ⟨x, hx⟩ : ∃ x, zs[kk]? = some x := ⟨zs[kk], by simp [hlt]⟩
      obtain ⟨b, off, rfl, hb, hc⟩ := HA.out.cell1 hx
      have l2 : wr.cell? ⟨b, off + kk, none⟩ = some (.slice x.A x.l.length x.c) := by rw [BW.out.cell (p := ⟨b, off + kk, none⟩) hb]; exact hc
      have hcall := HP.out.call wr x (List.mem_of_getElem? hx) BW.out
      clear hc
      have HX := Lib.hid hx
      clear hx
      cases hq : p x with
      | false =>
        rw [hq] at hcall
        have HQ := Lib.hid hq
        clear hq
        go_wp2_with (go_at_fn g; refine hcall.mono ?_; rintro e w' ⟨rfl, hb'⟩)
        go_ret
        exact ⟨ret_bool (all_hit HX.out HQ.out).symm, BW.out.trans (hb'.mono BW.out.size)⟩
      | true =>
        rw [hq] at hcall
        have HQ := Lib.hid hq
        clear hq
        go_wp2_with (go_at_fn g; refine hcall.mono ?_; rintro e w' ⟨rfl, hb'⟩)
        go_roundg (zs.length - (kk + 1))
        case measure => omega
        case rel =>
          refine ⟨kk + 1, by omega, by omega, by go_num, BW.out.trans (hb'.mono BW.out.size), (show Aside _ from fun j y hj hy => ?_)⟩
          by_cases e : j = kk
          · subst e
            rw [HX.out] at hy; cases hy; exact HQ.out
          · exact HH.out j y (by omega) hy
    · have hltz : ¬ (kk : Int) < (zs.length : Int) := by omega
      have he : kk = zs.length := by omega
      have HE := Lib.hid he
      clear he
      go_wp2
      go_ret
      exact ⟨ret_bool (all_miss (by rw [← HE.out]; exact HH.out)).symm, BW.out⟩
theorem everyYear_any (g : Nat) (ft lb : Array Value) (p : Sv (Sv Int) → Bool) (A : Option Addr) (c : Nat) (zs : List (Sv (Sv Int))) (w : World) (hA : Sl w w.heap.size 1 (fun x => [x.val]) A zs)
    (hp : Ask Try.prog Sv.val g ft lb p (· ∈ zs) w) (hl : zs.length ≤ 1000000) :
    Calls Try.prog 121 #[.slice A zs.length c, .func (.func g) ft lb] w fun e w' => e = .returned (.bool (zs.all p)) ∧ Below w.heap.size w w' := by
  have eg := hp.eg
  have HP := Lib.hid hp
  have HA := Lib.hid hA
  clear hp hA
  go_enter Try.func121, Try.ntmps121
  go_wp2
  go_loopg [6, 9] zs.length (fun gg _ s9 wr => ∃ kk : Nat, kk ≤ zs.length ∧ zs.length - kk ≤ gg ∧ s9 = .int .i64 kk ∧ Aside (Below w.heap.size w wr) ∧ Aside (∀ j x, j < kk → zs[j]? = some x → p x = true))
  case atStart => exact ⟨0, Nat.zero_le _, by omega, rfl, Below.refl _ w, fun j x hj => absurd hj (Nat.not_lt_zero _)⟩
  case round =>
    obtain ⟨kk, hkk, hg, rfl, BW, HH⟩ := hrel
    by_cases hlt : kk < zs.length
    · have hltz : (kk : Int) < (zs.length : Int) := by omega
      obtain ⟨x, hx⟩ : ∃ x, zs[kk]? = some x := ⟨zs[kk], by simp [hlt]⟩
      obtain ⟨b, off, rfl, hb, hc⟩ := HA.out.cell1 hx
      have l2 : wr.cell? ⟨b, off + kk, none⟩ = some (.slice x.A x.l.length x.c) := by rw [BW.out.cell (p := ⟨b, off + kk, none⟩) hb]; exact hc
      have hcall := HP.out.call wr x (List.mem_of_getElem? hx) BW.out
      clear hc
      have HX := Lib.hid hx
      clear hx
      cases hq : p x with
      | false =>
        rw [hq] at hcall
        have HQ := Lib.hid hq
        clear hq
        go_wp2_with (go_at_fn g; refine hcall.mono ?_; rintro e w' ⟨rfl, hb'⟩)
        go_ret
        exact ⟨ret_bool (all_hit HX.out HQ.out).symm, BW.out.trans (hb'.mono BW.out.size)⟩
      | true =>
        rw [hq] at hcall
        have HQ := Lib.hid hq
        clear hq
        go_wp2_with (go_at_fn g; refine hcall.mono ?_; rintro e w' ⟨rfl, hb'⟩)
        go_roundg (zs.length - (kk + 1))
        case measure => omega
        case rel =>
          refine ⟨kk + 1, by omega, by omega, by go_num, BW.out.trans (hb'.mono BW.out.size), (show Aside _ from fun j y hj hy => ?_)⟩
          by_cases e : j = kk
          · subst e
            rw [HX.out] at hy; cases hy; exact HQ.out
          · exact HH.out j y (by omega) hy
    · have hltz : ¬ (kk : Int) < (zs.length : Int) := by omega
      have he : kk = zs.length := by omega
      have HE := Lib.hid he
      clear he
      go_wp2
      go_ret
      exact ⟨ret_bool (all_miss (by rw [← HE.out]; exact HH.out)).symm, BW.out⟩
theorem everyRange_any (g : Nat) (ft lb : Array Value) (p : Int × Int → Bool) (A : Option Addr) (c : Nat) (zs : List (Int × Int)) (w : World) (hA : Sl w w.heap.size 2 encR A zs)
    (hp : Ask Try.prog (fun x => .agg (encR x).toArray) g ft lb p (· ∈ zs) w) (hl : zs.length ≤ 1000000) :
    Calls Try.prog 119 #[.slice A zs.length c, .func (.func g) ft lb] w fun e w' => e = .returned (.bool (zs.all p)) ∧ Below w.heap.size w w' := by
  have eg := hp.eg
  have HP := Lib.hid hp
  have HA := Lib.hid hA
  clear hp hA
  go_enter Try.func119, Try.ntmps119
  go_wp2
  go_loopg [6, 9] zs.length (fun gg _ s9 wr => ∃ kk : Nat, kk ≤ zs.length ∧ zs.length - kk ≤ gg ∧ s9 = .int .i64 kk ∧ Aside (Below w.heap.size w wr) ∧ Aside (∀ j x, j < kk → zs[j]? = some x → p x = true))
  case atStart => exact ⟨0, Nat.zero_le _, by omega, rfl, Below.refl _ w, fun j x hj => absurd hj (Nat.not_lt_zero _)⟩
  case round =>
    obtain ⟨kk, hkk, hg, rfl, BW, HH⟩ := hrel
    by_cases hlt : kk < zs.length
    · have hltz : (kk : Int) < (zs.length : Int) := by omega
      obtain ⟨x, hx⟩ : ∃ x, zs[kk]? = some x := ⟨zs[kk], by simp [hlt]⟩
      obtain ⟨b, off, rfl, hb, c0, c1⟩ := HA.out.cellR hx
      have l2 : wr.cell? ⟨b, off + kk * 2, none⟩ = some (.int .i64 x.1) := by rw [BW.out.cell (p := ⟨b, off + kk * 2, none⟩) hb]; exact c0
      have l3 : wr.cell? ⟨b, off + kk * 2 + 1, none⟩ = some (.int .i64 x.2) := by rw [BW.out.cell (p := ⟨b, off + kk * 2 + 1, none⟩) hb]; exact c1
      have hcall := HP.out.call (wr.alloc (.cells (encR x).toArray 39)) x (List.mem_of_getElem? hx) (BW.out.alloc BW.out.size _)
      dsimp only [encR] at hcall
      clear c0 c1
      have HX := Lib.hid hx
      clear hx
      cases hq : p x with
      | false =>
        rw [hq] at hcall
        have HQ := Lib.hid hq
        clear hq
        go_wp2_with (go_at_fn g; refine hcall.mono ?_; rintro e w' ⟨rfl, hb'⟩)
        go_ret
        exact ⟨ret_bool (all_hit HX.out HQ.out).symm, (BW.out.alloc BW.out.size _).trans (hb'.mono (BW.out.alloc BW.out.size _).size)⟩
      | true =>
        rw [hq] at hcall
        have HQ := Lib.hid hq
        clear hq
        go_wp2_with (go_at_fn g; refine hcall.mono ?_; rintro e w' ⟨rfl, hb'⟩)
        go_roundg (zs.length - (kk + 1))
        case measure => omega
        case rel =>
          refine ⟨kk + 1, by omega, by omega, by go_num, (BW.out.alloc BW.out.size _).trans (hb'.mono (BW.out.alloc BW.out.size _).size), (show Aside _ from fun j y hj hy => ?_)⟩
          by_cases e : j = kk
          · subst e
            rw [HX.out] at hy; cases hy; exact HQ.out
          · exact HH.out j y (by omega) hy
    · have hltz : ¬ (kk : Int) < (zs.length : Int) := by omega
      have he : kk = zs.length := by omega
      have HE := Lib.hid he
      clear he
      go_wp2
      go_ret
      exact ⟨ret_bool (all_miss (by rw [← HE.out]; exact HH.out)).symm, BW.out⟩
theorem everyCrate_any (g : Nat) (ft lb : Array Value) (p : Cr → Bool) (A : Option Addr) (c : Nat) (zs : List (Cr)) (w : World) (hA : Sl w w.heap.size 4 encCr A zs)
    (hp : Ask Try.prog (fun x => .agg (encCr x).toArray) g ft lb p (· ∈ zs) w) (hl : zs.length ≤ 1000000) :
    Calls Try.prog 110 #[.slice A zs.length c, .func (.func g) ft lb] w fun e w' => e = .returned (.bool (zs.all p)) ∧ Below w.heap.size w w' := by
  have eg := hp.eg
  have HP := Lib.hid hp
  have HA := Lib.hid hA
  clear hp hA
  go_enter Try.func110, Try.ntmps110
  go_wp2
  go_loopg [6, 9] zs.length (fun gg _ s9 wr => ∃ kk : Nat, kk ≤ zs.length ∧ zs.length - kk ≤ gg ∧ s9 = .int .i64 kk ∧ Aside (Below w.heap.size w wr) ∧ Aside (∀ j x, j < kk → zs[j]? = some x → p x = true))
  case atStart => exact ⟨0, Nat.zero_le _, by omega, rfl, Below.refl _ w, fun j x hj => absurd hj (Nat.not_lt_zero _)⟩
  case round =>
    obtain ⟨kk, hkk, hg, rfl, BW, HH⟩ := hrel
    by_cases hlt : kk < zs.length
    · have hltz : (kk : Int) < (zs.length : Int) := by omega
      obtain ⟨x, hx⟩ : ∃ x, zs[kk]? = some x := ⟨zs[kk], by simp [hlt]⟩
      obtain ⟨b, off, rfl, hb, c0, c1, c2, c3⟩ := HA.out.cellCr hx
      have l2 : wr.cell? ⟨b, off + kk * 4, none⟩ = some (.int .i64 x.size) := by rw [BW.out.cell (p := ⟨b, off + kk * 4, none⟩) hb]; exact c0
      have l3 : wr.cell? ⟨b, off + kk * 4 + 1, none⟩ = some (.int .i64 x.bulbs) := by rw [BW.out.cell (p := ⟨b, off + kk * 4 + 1, none⟩) hb]; exact c1
      have l4 : wr.cell? ⟨b, off + kk * 4 + 2, none⟩ = some (.int .i64 x.price) := by rw [BW.out.cell (p := ⟨b, off + kk * 4 + 2, none⟩) hb]; exact c2
      have l5 : wr.cell? ⟨b, off + kk * 4 + 3, none⟩ = some (.int .i64 x.most) := by rw [BW.out.cell (p := ⟨b, off + kk * 4 + 3, none⟩) hb]; exact c3
      have hcall := HP.out.call (wr.alloc (.cells (encCr x).toArray 93)) x (List.mem_of_getElem? hx) (BW.out.alloc BW.out.size _)
      dsimp only [encCr] at hcall
      clear c0 c1 c2 c3
      have HX := Lib.hid hx
      clear hx
      cases hq : p x with
      | false =>
        rw [hq] at hcall
        have HQ := Lib.hid hq
        clear hq
        go_wp2_with (go_at_fn g; refine hcall.mono ?_; rintro e w' ⟨rfl, hb'⟩)
        go_ret
        exact ⟨ret_bool (all_hit HX.out HQ.out).symm, (BW.out.alloc BW.out.size _).trans (hb'.mono (BW.out.alloc BW.out.size _).size)⟩
      | true =>
        rw [hq] at hcall
        have HQ := Lib.hid hq
        clear hq
        go_wp2_with (go_at_fn g; refine hcall.mono ?_; rintro e w' ⟨rfl, hb'⟩)
        go_roundg (zs.length - (kk + 1))
        case measure => omega
        case rel =>
          refine ⟨kk + 1, by omega, by omega, by go_num, (BW.out.alloc BW.out.size _).trans (hb'.mono (BW.out.alloc BW.out.size _).size), (show Aside _ from fun j y hj hy => ?_)⟩
          by_cases e : j = kk
          · subst e
            rw [HX.out] at hy; cases hy; exact HQ.out
          · exact HH.out j y (by omega) hy
    · have hltz : ¬ (kk : Int) < (zs.length : Int) := by omega
      have he : kk = zs.length := by omega
      have HE := Lib.hid he
      clear he
      go_wp2
      go_ret
      exact ⟨ret_bool (all_miss (by rw [← HE.out]; exact HH.out)).symm, BW.out⟩

theorem fitsInt_any (g : Nat) (ft lb : Array Value) (p : Int → Bool) (A : Option Addr) (c : Nat) (n : Int) (zs : List (Int)) (w : World) (hA : Sl w w.heap.size 1 (fun x => [Value.int .i64 x]) A zs)
    (hp : Ask Try.prog (Value.int .i64) g ft lb p (· ∈ zs) w) (hl : zs.length ≤ 1000000) :
    Calls Try.prog 90 #[.slice A zs.length c, .int .i64 n, .func (.func g) ft lb] w fun e w' => e = .returned (.bool (decide ((zs.length : Int) = n) && zs.all p)) ∧ Below w.heap.size w w' := by
  have HP := Lib.hid hp
  have HA := Lib.hid hA
  clear hp hA
  by_cases hn : (zs.length : Int) = n
  · have hb : ((zs.length : Int) == n) = true := by simpa using hn
    have HN := Lib.hid hn
    clear hn
    go_enter Try.func90, Try.ntmps90
    go_wp2_with (go_at_call 105; refine (everyInt_any g ft lb p A c zs _ HA.out HP.out hl).mono ?_; rintro e w' ⟨rfl, hb'⟩)
    go_ret
    exact ⟨ret_bool (by rw [decide_eq_true HN.out]; rfl), hb'⟩
  · have hb : ((zs.length : Int) == n) = false := by simpa using hn
    have HN := Lib.hid hn
    clear hn
    go_enter Try.func90, Try.ntmps90
    go_wp2_with (fail)
    go_ret
    exact ⟨ret_bool (by rw [decide_eq_false HN.out]; rfl), Below.refl _ _⟩

theorem fitsRow_any (g : Nat) (ft lb : Array Value) (p : Sv (Int × Int) → Bool) (A : Option Addr) (c : Nat) (n : Int) (zs : List (Sv (Int × Int))) (w : World) (hA : Sl w w.heap.size 1 (fun x => [x.val]) A zs)
    (hp : Ask Try.prog Sv.val g ft lb p (· ∈ zs) w) (hl : zs.length ≤ 1000000) :
    Calls Try.prog 93 #[.slice A zs.length c, .int .i64 n, .func (.func g) ft lb] w fun e w' => e = .returned (.bool (decide ((zs.length : Int) = n) && zs.all p)) ∧ Below w.heap.size w w' := by
  have HP := Lib.hid hp
  have HA := Lib.hid hA
  clear hp hA
  by_cases hn : (zs.length : Int) = n
  · have hb : ((zs.length : Int) == n) = true := by simpa using hn
    have HN := Lib.hid hn
    clear hn
    go_enter Try.func93, Try.ntmps93
    go_wp2_with (go_at_call 120; refine (everyRow_any g ft lb p A c zs _ HA.out HP.out hl).mono ?_; rintro e w' ⟨rfl, hb'⟩)
    go_ret
    exact ⟨ret_bool (by rw [decide_eq_true HN.out]; rfl), hb'⟩
  · have hb : ((zs.length : Int) == n) = false := by simpa using hn
    have HN := Lib.hid hn
    clear hn
    go_enter Try.func93, Try.ntmps93
    go_wp2_with (fail)
    go_ret
    exact ⟨ret_bool (by rw [decide_eq_false HN.out]; rfl), Below.refl _ _⟩

theorem fitsYear_any (g : Nat) (ft lb : Array Value) (p : Sv (Sv Int) → Bool) (A : Option Addr) (c : Nat) (n : Int) (zs : List (Sv (Sv Int))) (w : World) (hA : Sl w w.heap.size 1 (fun x => [x.val]) A zs)
    (hp : Ask Try.prog Sv.val g ft lb p (· ∈ zs) w) (hl : zs.length ≤ 1000000) :
    Calls Try.prog 99 #[.slice A zs.length c, .int .i64 n, .func (.func g) ft lb] w fun e w' => e = .returned (.bool (decide ((zs.length : Int) = n) && zs.all p)) ∧ Below w.heap.size w w' := by
  have HP := Lib.hid hp
  have HA := Lib.hid hA
  clear hp hA
  by_cases hn : (zs.length : Int) = n
  · have hb : ((zs.length : Int) == n) = true := by simpa using hn
    have HN := Lib.hid hn
    clear hn
    go_enter Try.func99, Try.ntmps99
    go_wp2_with (go_at_call 121; refine (everyYear_any g ft lb p A c zs _ HA.out HP.out hl).mono ?_; rintro e w' ⟨rfl, hb'⟩)
    go_ret
    exact ⟨ret_bool (by rw [decide_eq_true HN.out]; rfl), hb'⟩
  · have hb : ((zs.length : Int) == n) = false := by simpa using hn
    have HN := Lib.hid hn
    clear hn
    go_enter Try.func99, Try.ntmps99
    go_wp2_with (fail)
    go_ret
    exact ⟨ret_bool (by rw [decide_eq_false HN.out]; rfl), Below.refl _ _⟩

theorem fitsRange_any (g : Nat) (ft lb : Array Value) (p : Int × Int → Bool) (A : Option Addr) (c : Nat) (n : Int) (zs : List (Int × Int)) (w : World) (hA : Sl w w.heap.size 2 encR A zs)
    (hp : Ask Try.prog (fun x => .agg (encR x).toArray) g ft lb p (· ∈ zs) w) (hl : zs.length ≤ 1000000) :
    Calls Try.prog 89 #[.slice A zs.length c, .int .i64 n, .func (.func g) ft lb] w fun e w' => e = .returned (.bool (decide ((zs.length : Int) = n) && zs.all p)) ∧ Below w.heap.size w w' := by
  have HP := Lib.hid hp
  have HA := Lib.hid hA
  clear hp hA
  by_cases hn : (zs.length : Int) = n
  · have hb : ((zs.length : Int) == n) = true := by simpa using hn
    have HN := Lib.hid hn
    clear hn
    go_enter Try.func89, Try.ntmps89
    go_wp2_with (go_at_call 119; refine (everyRange_any g ft lb p A c zs _ HA.out HP.out hl).mono ?_; rintro e w' ⟨rfl, hb'⟩)
    go_ret
    exact ⟨ret_bool (by rw [decide_eq_true HN.out]; rfl), hb'⟩
  · have hb : ((zs.length : Int) == n) = false := by simpa using hn
    have HN := Lib.hid hn
    clear hn
    go_enter Try.func89, Try.ntmps89
    go_wp2_with (fail)
    go_ret
    exact ⟨ret_bool (by rw [decide_eq_false HN.out]; rfl), Below.refl _ _⟩
end
end Go.Proofs.Ytlkdmcdnkoiflaa

/- paired at the types at which the program uses it. -/
namespace Go.Proofs.Ytlkdmcdnkoiflaa
open Go.RowKit Go.Lib

def pairedB {α β : Type} (zs : List α) (ys : List β) (p : α → β → Bool) : Bool := decide (zs.length = ys.length) && (zs.zip ys).all fun q => p q.1 q.2
theorem paired_ne {α β : Type} {zs : List α} {ys : List β} {p : α → β → Bool} (h : zs.length ≠ ys.length) : pairedB zs ys p = false := by
  unfold pairedB; rw [decide_eq_false h]; rfl
theorem zip_at {α β : Type} {zs : List α} {ys : List β} {k : Nat} {x : α} {y : β} (hx : zs[k]? = some x) (hy : ys[k]? = some y) : (zs.zip ys)[k]? = some (x, y) := by
  rw [List.getElem?_zip_eq_some]; exact ⟨hx, hy⟩
theorem paired_hit {α β : Type} {zs : List α} {ys : List β} {p : α → β → Bool} {k : Nat} {x : α} {y : β} (hx : zs[k]? = some x) (hy : ys[k]? = some y) (hp : p x y = false) : pairedB zs ys p = false := by
  unfold pairedB; rw [all_hit (zip_at hx hy) (by exact hp)]; simp
theorem paired_miss {α β : Type} {zs : List α} {ys : List β} {p : α → β → Bool} (hl : zs.length = ys.length) (h : ∀ j x y, j < zs.length → zs[j]? = some x → ys[j]? = some y → p x y = true) : pairedB zs ys p = true := by
  unfold pairedB; rw [decide_eq_true hl, all_miss]; rfl
  intro j q hj hq
  have := List.getElem?_zip_eq_some.1 hq
  exact h j q.1 q.2 (by rw [List.length_zip] at hj; omega) this.1 this.2
section
set_option maxHeartbeats 2000000

theorem pairedRange_any (g : Nat) (ft lb : Array Value) (p : Int × Int → Int → Bool) (A A' : Option Addr) (c c' : Nat) (zs : List (Int × Int)) (ys : List (Int)) (w : World) (hA : Sl w w.heap.size 2 encR A zs) (hA' : Sl w w.heap.size 1 (fun x => [Value.int .i64 x]) A' ys)
    (hp : Ask2 Try.prog (fun x : Int × Int => .agg (encR x).toArray) (Value.int .i64) g ft lb p (fun x y => x ∈ zs ∧ y ∈ ys) w) (hl : zs.length ≤ 1000000) :
    Calls Try.prog 91 #[.slice A zs.length c, .slice A' ys.length c', .func (.func g) ft lb] w fun e w' => e = .returned (.bool (pairedB zs ys p)) ∧ Below w.heap.size w w' := by
  have eg := hp.eg
  have HP := Lib.hid hp
  have HA := Lib.hid hA
  have HA' := Lib.hid hA'
  clear hp hA hA'
  by_cases hn : zs.length = ys.length
  case neg =>
    have hb : (((zs.length : Nat) : Int) != ((ys.length : Nat) : Int)) = true := by rw [bne_iff_ne]; omega
    have HN := Lib.hid hn
    clear hn
    go_enter Try.func91, Try.ntmps91
    go_wp2
    go_ret
    exact ⟨ret_bool (paired_ne HN.out).symm, Below.refl _ _⟩
  have hb : (((zs.length : Nat) : Int) != ((ys.length : Nat) : Int)) = false := by rw [bne_eq_false_iff_eq]; omega
  have HN := Lib.hid hn
  clear hn
  go_enter Try.func91, Try.ntmps91
  go_wp2
  go_loopg [7, 8, 16] zs.length (fun gg _ _ s9 wr => ∃ kk : Nat, kk ≤ zs.length ∧ zs.length - kk ≤ gg ∧ s9 = .int .i64 kk ∧ Aside (Below w.heap.size w wr) ∧ Aside (∀ j x y, j < kk → zs[j]? = some x → ys[j]? = some y → p x y = true))
  case atStart => exact ⟨0, Nat.zero_le _, by omega, rfl, Below.refl _ w, fun j x y hj => absurd hj (Nat.not_lt_zero _)⟩
  case round =>
    obtain ⟨kk, hkk, hg, rfl, BW, HH⟩ := hrel
    by_cases hlt : kk < zs.length
    · have hltz : (kk : Int) < (zs.length : Int) := by omega
      have hlty : (kk : Int) < (ys.length : Int) := by have := HN.out; omega
      have hkk0 : (0 : Int) ≤ (kk : Int) := by omega
      obtain ⟨x, hx⟩ : ∃ x, zs[kk]? = some x := ⟨zs[kk], by simp [hlt]⟩
      obtain ⟨y, hy⟩ : ∃ y, ys[kk]? = some y := ⟨ys[kk]'(by omega), by simp⟩
      obtain ⟨b, off, rfl, hb1, c0, c1⟩ := HA.out.cellR hx
      obtain ⟨b', off', rfl, hb2, d0⟩ := HA'.out.cell1 hy
      have l2 : wr.cell? ⟨b, off + kk * 2, none⟩ = some (.int .i64 x.1) := by rw [BW.out.cell (p := ⟨b, off + kk * 2, none⟩) hb1]; exact c0
      have l3 : wr.cell? ⟨b, off + kk * 2 + 1, none⟩ = some (.int .i64 x.2) := by rw [BW.out.cell (p := ⟨b, off + kk * 2 + 1, none⟩) hb1]; exact c1
      have m2 : wr.cell? ⟨b', off' + kk, none⟩ = some (.int .i64 y) := by rw [BW.out.cell (p := ⟨b', off' + kk, none⟩) hb2]; exact d0
      have hbr : b' < wr.heap.size := by have := BW.out.size; omega
      have hcall : ∀ W, Below wr.heap.size wr W → Calls Try.prog g (ft ++ #[(fun x : Int × Int => .agg (encR x).toArray) x, (Value.int .i64) y] ++ lb) W fun e w' => e = .returned (.bool (p x y)) ∧ Below W.heap.size W w' := fun W hW => HP.out.call W x y ⟨List.mem_of_getElem? hx, List.mem_of_getElem? hy⟩ (BW.out.trans (hW.mono BW.out.size))
      dsimp only [encR, encCr, Sv.val] at hcall
      simp only [Array.append_assoc] at hcall
      have HC := Lib.hid hcall
      clear c0 c1 d0 hcall
      have HX := Lib.hid hx
      have HY := Lib.hid hy
      clear hx hy
      cases hq : p x y with
      | false =>
        rw [hq] at HC
        have HQ := Lib.hid hq
        clear hq
        go_wp2
        have r0 := cell_regrown (show (wr.alloc (.cells #[.int .i64 x.1, .int .i64 x.2] 39)).cell? ⟨wr.heap.size, 0, none⟩ = some (.int .i64 x.1) by simp [World.cell?_alloc_new])
        have r1 := cell_regrown (show (wr.alloc (.cells #[.int .i64 x.1, .int .i64 x.2] 39)).cell? ⟨wr.heap.size, 1, none⟩ = some (.int .i64 x.2) by simp [World.cell?_alloc_new])
        have s2 := cell_regrown (show (wr.alloc (.cells #[.int .i64 x.1, .int .i64 x.2] 39)).cell? ⟨b', off' + kk, none⟩ = some (.int .i64 y) by rw [World.cell?_alloc_lt wr _ ⟨b', off' + kk, none⟩ hbr]; exact m2)
        refine wp_region_quiet_below (by kernel_rfl) (by kernel_rfl) ?_; (repeat (first | go_big_quiet_step (((go_at_fn g; refine Calls.regrown_of (HC.out _ ?_); exact ((Below.refl wr.heap.size wr).alloc (Nat.le_refl _) _).trans ((below_regrown _ _ _).mono (by simp))))) | quiet_step (((go_at_fn g; refine Calls.regrown_of (HC.out _ ?_); exact ((Below.refl wr.heap.size wr).alloc (Nat.le_refl _) _).trans ((below_regrown _ _ _).mono (by simp))))))); refine wpQuiet_nil ?_; intro wq hwq; have hbq : Below _ _ wq := (by obtain ⟨p, rfl⟩ := hwq; exact below_regrown _ _ _); clear hwq
        go_wp2
        go_ret
        exact ⟨ret_bool (paired_hit HX.out HY.out HQ.out).symm, (BW.out.alloc BW.out.size _).trans (hbq.mono (BW.out.alloc BW.out.size _).size)⟩
      | true =>
        rw [hq] at HC
        have HQ := Lib.hid hq
        clear hq
        go_wp2
        have r0 := cell_regrown (show (wr.alloc (.cells #[.int .i64 x.1, .int .i64 x.2] 39)).cell? ⟨wr.heap.size, 0, none⟩ = some (.int .i64 x.1) by simp [World.cell?_alloc_new])
        have r1 := cell_regrown (show (wr.alloc (.cells #[.int .i64 x.1, .int .i64 x.2] 39)).cell? ⟨wr.heap.size, 1, none⟩ = some (.int .i64 x.2) by simp [World.cell?_alloc_new])
        have s2 := cell_regrown (show (wr.alloc (.cells #[.int .i64 x.1, .int .i64 x.2] 39)).cell? ⟨b', off' + kk, none⟩ = some (.int .i64 y) by rw [World.cell?_alloc_lt wr _ ⟨b', off' + kk, none⟩ hbr]; exact m2)
        refine wp_region_quiet_below (by kernel_rfl) (by kernel_rfl) ?_; (repeat (first | go_big_quiet_step (((go_at_fn g; refine Calls.regrown_of (HC.out _ ?_); exact ((Below.refl wr.heap.size wr).alloc (Nat.le_refl _) _).trans ((below_regrown _ _ _).mono (by simp))))) | quiet_step (((go_at_fn g; refine Calls.regrown_of (HC.out _ ?_); exact ((Below.refl wr.heap.size wr).alloc (Nat.le_refl _) _).trans ((below_regrown _ _ _).mono (by simp))))))); refine wpQuiet_nil ?_; intro wq hwq; have hbq : Below _ _ wq := (by obtain ⟨p, rfl⟩ := hwq; exact below_regrown _ _ _); clear hwq
        go_wp2
        go_roundg (zs.length - (kk + 1))
        case measure => omega
        case rel =>
          refine ⟨kk + 1, by omega, by omega, by go_num, (BW.out.alloc BW.out.size _).trans (hbq.mono (BW.out.alloc BW.out.size _).size), (show Aside _ from fun j x' y' hj hx' hy' => ?_)⟩
          by_cases e : j = kk
          · subst e
            rw [HX.out] at hx'; cases hx'
            rw [HY.out] at hy'; cases hy'; exact HQ.out
          · exact HH.out j x' y' (by omega) hx' hy'
    · have hltz : ¬ (kk : Int) < (zs.length : Int) := by omega
      have he : kk = zs.length := by omega
      have HE := Lib.hid he
      clear he
      go_wp2
      go_ret
      exact ⟨ret_bool (paired_miss HN.out (by rw [← HE.out]; exact HH.out)).symm, BW.out⟩
theorem pairedCrate_any (g : Nat) (ft lb : Array Value) (p : Cr → Int → Bool) (A A' : Option Addr) (c c' : Nat) (zs : List (Cr)) (ys : List (Int)) (w : World) (hA : Sl w w.heap.size 4 encCr A zs) (hA' : Sl w w.heap.size 1 (fun x => [Value.int .i64 x]) A' ys)
    (hp : Ask2 Try.prog (fun x : Cr => .agg (encCr x).toArray) (Value.int .i64) g ft lb p (fun x y => x ∈ zs ∧ y ∈ ys) w) (hl : zs.length ≤ 1000000) :
    Calls Try.prog 80 #[.slice A zs.length c, .slice A' ys.length c', .func (.func g) ft lb] w fun e w' => e = .returned (.bool (pairedB zs ys p)) ∧ Below w.heap.size w w' := by
  have eg := hp.eg
  have HP := Lib.hid hp
  have HA := Lib.hid hA
  have HA' := Lib.hid hA'
  clear hp hA hA'
  by_cases hn : zs.length = ys.length
  case neg =>
    have hb : (((zs.length : Nat) : Int) != ((ys.length : Nat) : Int)) = true := by rw [bne_iff_ne]; omega
    have HN := Lib.hid hn
    clear hn
    go_enter Try.func80, Try.ntmps80
    go_wp2
    go_ret
    exact ⟨ret_bool (paired_ne HN.out).symm, Below.refl _ _⟩
  have hb : (((zs.length : Nat) : Int) != ((ys.length : Nat) : Int)) = false := by rw [bne_eq_false_iff_eq]; omega
  have HN := Lib.hid hn
  clear hn
  go_enter Try.func80, Try.ntmps80
  go_wp2
  go_loopg [7, 8, 16] zs.length (fun gg _ _ s9 wr => ∃ kk : Nat, kk ≤ zs.length ∧ zs.length - kk ≤ gg ∧ s9 = .int .i64 kk ∧ Aside (Below w.heap.size w wr) ∧ Aside (∀ j x y, j < kk → zs[j]? = some x → ys[j]? = some y → p x y = true))
  case atStart => exact ⟨0, Nat.zero_le _, by omega, rfl, Below.refl _ w, fun j x y hj => absurd hj (Nat.not_lt_zero _)⟩
  case round =>
    obtain ⟨kk, hkk, hg, rfl, BW, HH⟩ := hrel
    by_cases hlt : kk < zs.length
    · have hltz : (kk : Int) < (zs.length : Int) := by omega
      have hlty : (kk : Int) < (ys.length : Int) := by have := HN.out; omega
      have hkk0 : (0 : Int) ≤ (kk : Int) := by omega
      obtain ⟨x, hx⟩ : ∃ x, zs[kk]? = some x := ⟨zs[kk], by simp [hlt]⟩
      obtain ⟨y, hy⟩ : ∃ y, ys[kk]? = some y := ⟨ys[kk]'(by omega), by simp⟩
      obtain ⟨b, off, rfl, hb1, c0, c1, c2, c3⟩ := HA.out.cellCr hx
      obtain ⟨b', off', rfl, hb2, d0⟩ := HA'.out.cell1 hy
      have l2 : wr.cell? ⟨b, off + kk * 4, none⟩ = some (.int .i64 x.size) := by rw [BW.out.cell (p := ⟨b, off + kk * 4, none⟩) hb1]; exact c0
      have l3 : wr.cell? ⟨b, off + kk * 4 + 1, none⟩ = some (.int .i64 x.bulbs) := by rw [BW.out.cell (p := ⟨b, off + kk * 4 + 1, none⟩) hb1]; exact c1
      have l4 : wr.cell? ⟨b, off + kk * 4 + 2, none⟩ = some (.int .i64 x.price) := by rw [BW.out.cell (p := ⟨b, off + kk * 4 + 2, none⟩) hb1]; exact c2
      have l5 : wr.cell? ⟨b, off + kk * 4 + 3, none⟩ = some (.int .i64 x.most) := by rw [BW.out.cell (p := ⟨b, off + kk * 4 + 3, none⟩) hb1]; exact c3
      have m2 : wr.cell? ⟨b', off' + kk, none⟩ = some (.int .i64 y) := by rw [BW.out.cell (p := ⟨b', off' + kk, none⟩) hb2]; exact d0
      have hbr : b' < wr.heap.size := by have := BW.out.size; omega
      have hcall : ∀ W, Below wr.heap.size wr W → Calls Try.prog g (ft ++ #[(fun x : Cr => .agg (encCr x).toArray) x, (Value.int .i64) y] ++ lb) W fun e w' => e = .returned (.bool (p x y)) ∧ Below W.heap.size W w' := fun W hW => HP.out.call W x y ⟨List.mem_of_getElem? hx, List.mem_of_getElem? hy⟩ (BW.out.trans (hW.mono BW.out.size))
      dsimp only [encR, encCr, Sv.val] at hcall
      simp only [Array.append_assoc] at hcall
      have HC := Lib.hid hcall
      clear c0 c1 c2 c3 d0 hcall
      have HX := Lib.hid hx
      have HY := Lib.hid hy
      clear hx hy
      cases hq : p x y with
      | false =>
        rw [hq] at HC
        have HQ := Lib.hid hq
        clear hq
        go_wp2
        have r0 := cell_regrown (show (wr.alloc (.cells #[.int .i64 x.size, .int .i64 x.bulbs, .int .i64 x.price, .int .i64 x.most] 93)).cell? ⟨wr.heap.size, 0, none⟩ = some (.int .i64 x.size) by simp [World.cell?_alloc_new])
        have r1 := cell_regrown (show (wr.alloc (.cells #[.int .i64 x.size, .int .i64 x.bulbs, .int .i64 x.price, .int .i64 x.most] 93)).cell? ⟨wr.heap.size, 1, none⟩ = some (.int .i64 x.bulbs) by simp [World.cell?_alloc_new])
        have r2 := cell_regrown (show (wr.alloc (.cells #[.int .i64 x.size, .int .i64 x.bulbs, .int .i64 x.price, .int .i64 x.most] 93)).cell? ⟨wr.heap.size, 2, none⟩ = some (.int .i64 x.price) by simp [World.cell?_alloc_new])
        have r3 := cell_regrown (show (wr.alloc (.cells #[.int .i64 x.size, .int .i64 x.bulbs, .int .i64 x.price, .int .i64 x.most] 93)).cell? ⟨wr.heap.size, 3, none⟩ = some (.int .i64 x.most) by simp [World.cell?_alloc_new])
        have s2 := cell_regrown (show (wr.alloc (.cells #[.int .i64 x.size, .int .i64 x.bulbs, .int .i64 x.price, .int .i64 x.most] 93)).cell? ⟨b', off' + kk, none⟩ = some (.int .i64 y) by rw [World.cell?_alloc_lt wr _ ⟨b', off' + kk, none⟩ hbr]; exact m2)
        refine wp_region_quiet_below (by kernel_rfl) (by kernel_rfl) ?_; (repeat (first | go_big_quiet_step (((go_at_fn g; refine Calls.regrown_of (HC.out _ ?_); exact ((Below.refl wr.heap.size wr).alloc (Nat.le_refl _) _).trans ((below_regrown _ _ _).mono (by simp))))) | quiet_step (((go_at_fn g; refine Calls.regrown_of (HC.out _ ?_); exact ((Below.refl wr.heap.size wr).alloc (Nat.le_refl _) _).trans ((below_regrown _ _ _).mono (by simp))))))); refine wpQuiet_nil ?_; intro wq hwq; have hbq : Below _ _ wq := (by obtain ⟨p, rfl⟩ := hwq; exact below_regrown _ _ _); clear hwq
        go_wp2
        go_ret
        exact ⟨ret_bool (paired_hit HX.out HY.out HQ.out).symm, (BW.out.alloc BW.out.size _).trans (hbq.mono (BW.out.alloc BW.out.size _).size)⟩
      | true =>
        rw [hq] at HC
        have HQ := Lib.hid hq
        clear hq
        go_wp2
        have r0 := cell_regrown (show (wr.alloc (.cells #[.int .i64 x.size, .int .i64 x.bulbs, .int .i64 x.price, .int .i64 x.most] 93)).cell? ⟨wr.heap.size, 0, none⟩ = some (.int .i64 x.size) by simp [World.cell?_alloc_new])
        have r1 := cell_regrown (show (wr.alloc (.cells #[.int .i64 x.size, .int .i64 x.bulbs, .int .i64 x.price, .int .i64 x.most] 93)).cell? ⟨wr.heap.size, 1, none⟩ = some (.int .i64 x.bulbs) by simp [World.cell?_alloc_new])
        have r2 := cell_regrown (show (wr.alloc (.cells #[.int .i64 x.size, .int .i64 x.bulbs, .int .i64 x.price, .int .i64 x.most] 93)).cell? ⟨wr.heap.size, 2, none⟩ = some (.int .i64 x.price) by simp [World.cell?_alloc_new])
        have r3 := cell_regrown (show (wr.alloc (.cells #[.int .i64 x.size, .int .i64 x.bulbs, .int .i64 x.price, .int .i64 x.most] 93)).cell? ⟨wr.heap.size, 3, none⟩ = some (.int .i64 x.most) by simp [World.cell?_alloc_new])
        have s2 := cell_regrown (show (wr.alloc (.cells #[.int .i64 x.size, .int .i64 x.bulbs, .int .i64 x.price, .int .i64 x.most] 93)).cell? ⟨b', off' + kk, none⟩ = some (.int .i64 y) by rw [World.cell?_alloc_lt wr _ ⟨b', off' + kk, none⟩ hbr]; exact m2)
        refine wp_region_quiet_below (by kernel_rfl) (by kernel_rfl) ?_; (repeat (first | go_big_quiet_step (((go_at_fn g; refine Calls.regrown_of (HC.out _ ?_); exact ((Below.refl wr.heap.size wr).alloc (Nat.le_refl _) _).trans ((below_regrown _ _ _).mono (by simp))))) | quiet_step (((go_at_fn g; refine Calls.regrown_of (HC.out _ ?_); exact ((Below.refl wr.heap.size wr).alloc (Nat.le_refl _) _).trans ((below_regrown _ _ _).mono (by simp))))))); refine wpQuiet_nil ?_; intro wq hwq; have hbq : Below _ _ wq := (by obtain ⟨p, rfl⟩ := hwq; exact below_regrown _ _ _); clear hwq
        go_wp2
        go_roundg (zs.length - (kk + 1))
        case measure => omega
        case rel =>
          refine ⟨kk + 1, by omega, by omega, by go_num, (BW.out.alloc BW.out.size _).trans (hbq.mono (BW.out.alloc BW.out.size _).size), (show Aside _ from fun j x' y' hj hx' hy' => ?_)⟩
          by_cases e : j = kk
          · subst e
            rw [HX.out] at hx'; cases hx'
            rw [HY.out] at hy'; cases hy'; exact HQ.out
          · exact HH.out j x' y' (by omega) hx' hy'
    · have hltz : ¬ (kk : Int) < (zs.length : Int) := by omega
      have he : kk = zs.length := by omega
      have HE := Lib.hid he
      clear he
      go_wp2
      go_ret
      exact ⟨ret_bool (paired_miss HN.out (by rw [← HE.out]; exact HH.out)).symm, BW.out⟩
theorem pairedRow_any (g : Nat) (ft lb : Array Value) (p : Sv (Int × Int) → Sv Int → Bool) (A A' : Option Addr) (c c' : Nat) (zs : List (Sv (Int × Int))) (ys : List (Sv Int)) (w : World) (hA : Sl w w.heap.size 1 (fun x => [x.val]) A zs) (hA' : Sl w w.heap.size 1 (fun x => [x.val]) A' ys)
    (hp : Ask2 Try.prog Sv.val Sv.val g ft lb p (fun x y => x ∈ zs ∧ y ∈ ys) w) (hl : zs.length ≤ 1000000) :
    Calls Try.prog 98 #[.slice A zs.length c, .slice A' ys.length c', .func (.func g) ft lb] w fun e w' => e = .returned (.bool (pairedB zs ys p)) ∧ Below w.heap.size w w' := by
  have eg := hp.eg
  have HP := Lib.hid hp
  have HA := Lib.hid hA
  have HA' := Lib.hid hA'
  clear hp hA hA'
  by_cases hn : zs.length = ys.length
  case neg =>
    have hb : (((zs.length : Nat) : Int) != ((ys.length : Nat) : Int)) = true := by rw [bne_iff_ne]; omega
    have HN := Lib.hid hn
    clear hn
    go_enter Try.func98, Try.ntmps98
    go_wp2
    go_ret
    exact ⟨ret_bool (paired_ne HN.out).symm, Below.refl _ _⟩
  have hb : (((zs.length : Nat) : Int) != ((ys.length : Nat) : Int)) = false := by rw [bne_eq_false_iff_eq]; omega
  have HN := Lib.hid hn
  clear hn
  go_enter Try.func98, Try.ntmps98
  go_wp2
  go_loopg [7, 8, 16] zs.length (fun gg _ _ s9 wr => ∃ kk : Nat, kk ≤ zs.length ∧ zs.length - kk ≤ gg ∧ s9 = .int .i64 kk ∧ Aside (Below w.heap.size w wr) ∧ Aside (∀ j x y, j < kk → zs[j]? = some x → ys[j]? = some y → p x y = true))
  case atStart => exact ⟨0, Nat.zero_le _, by omega, rfl, Below.refl _ w, fun j x y hj => absurd hj (Nat.not_lt_zero _)⟩
  case round =>
    obtain ⟨kk, hkk, hg, rfl, BW, HH⟩ := hrel
    by_cases hlt : kk < zs.length
    · have hltz : (kk : Int) < (zs.length : Int) := by omega
      have hlty : (kk : Int) < (ys.length : Int) := by have := HN.out; omega
      have hkk0 : (0 : Int) ≤ (kk : Int) := by omega
      obtain ⟨x, hx⟩ : ∃ x, zs[kk]? = some x := ⟨zs[kk], by simp [hlt]⟩
      obtain ⟨y, hy⟩ : ∃ y, ys[kk]? = some y := ⟨ys[kk]'(by omega), by simp⟩
      obtain ⟨b, off, rfl, hb1, c0⟩ := HA.out.cell1 hx
      obtain ⟨b', off', rfl, hb2, d0⟩ := HA'.out.cell1 hy
      have l2 : wr.cell? ⟨b, off + kk, none⟩ = some (.slice x.A x.l.length x.c) := by rw [BW.out.cell (p := ⟨b, off + kk, none⟩) hb1]; exact c0
      have m2 : wr.cell? ⟨b', off' + kk, none⟩ = some (.slice y.A y.l.length y.c) := by rw [BW.out.cell (p := ⟨b', off' + kk, none⟩) hb2]; exact d0
      have hbr : b' < wr.heap.size := by have := BW.out.size; omega
      have hcall : ∀ W, Below wr.heap.size wr W → Calls Try.prog g (ft ++ #[Sv.val x, Sv.val y] ++ lb) W fun e w' => e = .returned (.bool (p x y)) ∧ Below W.heap.size W w' := fun W hW => HP.out.call W x y ⟨List.mem_of_getElem? hx, List.mem_of_getElem? hy⟩ (BW.out.trans (hW.mono BW.out.size))
      dsimp only [encR, encCr, Sv.val] at hcall
      simp only [Array.append_assoc] at hcall
      have HC := Lib.hid hcall
      clear c0 d0 hcall
      have HX := Lib.hid hx
      have HY := Lib.hid hy
      clear hx hy
      cases hq : p x y with
      | false =>
        rw [hq] at HC
        have HQ := Lib.hid hq
        clear hq
        go_wp2_with (go_at_fn g; refine (HC.out _ (Below.refl _ _)).mono ?_; rintro e w' ⟨rfl, hbq⟩)
        go_ret
        exact ⟨ret_bool (paired_hit HX.out HY.out HQ.out).symm, BW.out.trans (hbq.mono BW.out.size)⟩
      | true =>
        rw [hq] at HC
        have HQ := Lib.hid hq
        clear hq
        go_wp2_with (go_at_fn g; refine (HC.out _ (Below.refl _ _)).mono ?_; rintro e w' ⟨rfl, hbq⟩)
        go_roundg (zs.length - (kk + 1))
        case measure => omega
        case rel =>
          refine ⟨kk + 1, by omega, by omega, by go_num, BW.out.trans (hbq.mono BW.out.size), (show Aside _ from fun j x' y' hj hx' hy' => ?_)⟩
          by_cases e : j = kk
          · subst e
            rw [HX.out] at hx'; cases hx'
            rw [HY.out] at hy'; cases hy'; exact HQ.out
          · exact HH.out j x' y' (by omega) hx' hy'
    · have hltz : ¬ (kk : Int) < (zs.length : Int) := by omega
      have he : kk = zs.length := by omega
      have HE := Lib.hid he
      clear he
      go_wp2
      go_ret
      exact ⟨ret_bool (paired_miss HN.out (by rw [← HE.out]; exact HH.out)).symm, BW.out⟩
end
end Go.Proofs.Ytlkdmcdnkoiflaa

/- Plans in memory; CheckPlan. -/
namespace Go.Proofs.Ytlkdmcdnkoiflaa
open Go.RowKit Go.Lib

/-- A plan as it lies in memory. -/
structure PlM where
  s : Sv (Int × Int)
  r : Sv Int
  g : Sv (Sv (Int × Int))
  e : Sv Int
  k : Sv Int
  lo : Int
  hi : Int
  years : Int
def PlM.cells (p : PlM) : List Value := [.slice p.s.A p.s.l.length p.s.c, .slice p.r.A p.r.l.length p.r.c, .slice p.g.A p.g.l.length p.g.c, .slice p.e.A p.e.l.length p.e.c, .slice p.k.A p.k.l.length p.k.c, .int .i64 p.lo, .int .i64 p.hi, .int .i64 p.years]
abbrev encI (x : Int) : List Value := [Value.int .i64 x]
abbrev encV {β : Type} (x : Sv β) : List Value := [x.val]
structure PlM.At (p : PlM) (w : World) (B : Nat) : Prop where
  s : Sl w B 2 encR p.s.A p.s.l
  r : Sl w B 1 encI p.r.A p.r.l
  g : Sl w B 1 encV p.g.A p.g.l
  rows : ∀ x, x ∈ p.g.l → Sl w B 2 encR x.A x.l
  e : Sl w B 1 encI p.e.A p.e.l
  k : Sl w B 1 encI p.k.A p.k.l
  ls : p.s.l.length ≤ 1000000
  lr : p.r.l.length ≤ 1000000
  lg : p.g.l.length ≤ 1000000
  lrows : ∀ x, x ∈ p.g.l → x.l.length ≤ 1000000
  le : p.e.l.length ≤ 1000000
  lk : p.k.l.length ≤ 1000000
theorem PlM.At.below {p : PlM} {w w' : World} {B B' : Nat} (h : p.At w B) (hb : Below B w w') (hB : B ≤ B') : p.At w' B' :=
  ⟨(h.s.below hb).more hB, (h.r.below hb).more hB, (h.g.below hb).more hB, fun x hx => ((h.rows x hx).below hb).more hB, (h.e.below hb).more hB, (h.k.below hb).more hB, h.ls, h.lr, h.lg, h.lrows, h.le, h.lk⟩
def rowB (n : Int) (x : Sv (Int × Int)) : Bool := decide ((x.l.length : Int) = n) && x.l.all fun r => spanB r 5000
/-- The conditions in the order of the text. -/
def PlM.b (p : PlM) : Nat → Bool
  | 0 => decide (1 ≤ (p.s.l.length : Int))
  | 1 => decide ((p.s.l.length : Int) = p.s.l.length) && p.s.l.all fun r => spanB r 1000000
  | 2 => decide ((p.r.l.length : Int) = p.s.l.length) && p.r.l.all fun n => inB n 0 1000000
  | 3 => pairedB p.s.l p.r.l fun r m => decide (r.2 ≤ m)
  | 4 => decide ((p.g.l.length : Int) = p.s.l.length) && p.g.l.all (rowB p.s.l.length)
  | 5 => decide ((p.e.l.length : Int) = p.s.l.length) && p.e.l.all fun n => inB n 0 1000000
  | 6 => decide ((p.k.l.length : Int) = p.s.l.length) && p.k.l.all fun n => inB n 0 1000000
  | 7 => spanB (p.lo, p.hi) 1000
  | _ => inB p.years 0 6
def PlM.validB (p : PlM) : Bool := p.b 0 && p.b 1 && p.b 2 && p.b 3 && p.b 4 && p.b 5 && p.b 6 && p.b 7 && p.b 8

/-- The closures pay what is asked. -/
theorem ask_upTo (m : Int) (g : Nat) (w : World) (hc : w.cell? ⟨g, 0, none⟩ = some (.int .i64 m)) (D : Int → Prop) : Ask Try.prog (Value.int .i64) 117 #[] #[.pointer (some ⟨g, 0, none⟩)] (fun n => inB n 0 m) D w :=
  ⟨enters_of Try.func117 (by kernel_rfl) rfl, fun W x _ hb => (upTo1_any x m g W ((hb.cell (p := ⟨g, 0, none⟩) (World.block_lt_of_cell? w _ hc)).trans hc)).mono fun _ _ ⟨he, hw⟩ => ⟨he, hw ▸ Below.refl _ _⟩⟩
theorem ask_span (m : Int) (g : Nat) (w : World) (hc : w.cell? ⟨g, 0, none⟩ = some (.int .i64 m)) (D : Int × Int → Prop) : Ask Try.prog (fun x : Int × Int => .agg (encR x).toArray) 118 #[] #[.pointer (some ⟨g, 0, none⟩)] (fun r => spanB r m) D w :=
  ⟨enters_of Try.func118 (by kernel_rfl) rfl, fun W x _ hb => rangeUpTo1_any x.1 x.2 m g W ((hb.cell (p := ⟨g, 0, none⟩) (World.block_lt_of_cell? w _ hc)).trans hc)⟩
theorem ask_isBelow (w : World) (D : Int × Int → Int → Prop) : Ask2 Try.prog (fun x : Int × Int => .agg (encR x).toArray) (Value.int .i64) 92 #[] #[] (fun r m => decide (r.2 ≤ m)) D w :=
  ⟨enters_of Try.func92 (by kernel_rfl) rfl, fun W x y _ _ => isBelow_any x.1 x.2 y W⟩
theorem ask_has (w : World) (D : Int × Int → Int → Prop) : Ask2 Try.prog (fun x : Int × Int => .agg (encR x).toArray) (Value.int .i64) 96 #[] #[] (fun r m => inB m r.1 r.2) D w :=
  ⟨enters_of Try.func96 (by kernel_rfl) rfl, fun W x y _ _ => has_any x.1 x.2 y W⟩
theorem ask_hasIn (lo hi : Int) (w : World) (D : Int → Prop) : Ask Try.prog (Value.int .i64) 96 #[.agg #[.int .i64 lo, .int .i64 hi]] #[] (fun m => inB m lo hi) D w :=
  ⟨enters_of Try.func96 (by kernel_rfl) rfl, fun W x _ _ => has_any lo hi x W⟩
theorem ask_canBe (w : World) (D : Cr → Int → Prop) : Ask2 Try.prog (fun x : Cr => .agg (encCr x).toArray) (Value.int .i64) 81 #[] #[] (fun c m => inB m 0 c.most) D w :=
  ⟨enters_of Try.func81 (by kernel_rfl) rfl, fun W x y _ _ => canBe_any x.size x.bulbs x.price x.most y W⟩

/-- isRow. -/
theorem isRow_any (A : Option Addr) (c : Nat) (l : List (Int × Int)) (gs gg gm : Nat) (n : Int) (w : World) (hA : Sl w w.heap.size 2 encR A l) (hl : l.length ≤ 1000000)
    (h1 : w.cell? ⟨gs, 0, none⟩ = some (.int .i64 n)) (h2 : w.cell? ⟨gg, 0, none⟩ = some (.func (.func 118) #[] #[.pointer (some ⟨gm, 0, none⟩)])) (h3 : w.cell? ⟨gm, 0, none⟩ = some (.int .i64 5000)) :
    Calls Try.prog 88 #[.slice A l.length c, .pointer (some ⟨gs, 0, none⟩), .pointer (some ⟨gg, 0, none⟩)] w fun e w' => e = .returned (.bool (decide ((l.length : Int) = n) && l.all fun r => spanB r 5000)) ∧ Below w.heap.size w w' := by
  have H := fitsRange_any 118 #[] #[.pointer (some ⟨gm, 0, none⟩)] (fun r => spanB r 5000) A c n l w hA (ask_span 5000 gm w h3 _) hl
  have HH := Lib.hid H
  clear H hA
  go_enter Try.func88, Try.ntmps88
  go_wp2_with (go_at_call 89; refine HH.out.mono ?_; rintro e w' ⟨rfl, hb⟩)
  go_ret
  exact ⟨rfl, hb⟩
theorem ask_isRow (gs gg gm : Nat) (n : Int) (w : World) (h1 : w.cell? ⟨gs, 0, none⟩ = some (.int .i64 n)) (h2 : w.cell? ⟨gg, 0, none⟩ = some (.func (.func 118) #[] #[.pointer (some ⟨gm, 0, none⟩)])) (h3 : w.cell? ⟨gm, 0, none⟩ = some (.int .i64 5000))
    (D : Sv (Int × Int) → Prop) (hD : ∀ x, D x → Sl w w.heap.size 2 encR x.A x.l ∧ x.l.length ≤ 1000000) :
    Ask Try.prog Sv.val 88 #[] #[.pointer (some ⟨gs, 0, none⟩), .pointer (some ⟨gg, 0, none⟩)] (rowB n) D w :=
  ⟨enters_of Try.func88 (by kernel_rfl) rfl, fun W x hx hb =>
    isRow_any x.A x.c x.l gs gg gm n W (((hD x hx).1.below hb).more hb.size) (hD x hx).2 ((hb.cell (p := ⟨gs, 0, none⟩) (World.block_lt_of_cell? w _ h1)).trans h1) ((hb.cell (p := ⟨gg, 0, none⟩) (World.block_lt_of_cell? w _ h2)).trans h2) ((hb.cell (p := ⟨gm, 0, none⟩) (World.block_lt_of_cell? w _ h3)).trans h3)⟩
end Go.Proofs.Ytlkdmcdnkoiflaa

/- A law for a region that draws its order: its first operations by hand, the rest in the order of the text, quietly. -/
namespace Go.Proofs.Ytlkdmcdnkoiflaa
open Go.RowKit Go.Lib

section
variable {P : Program} {ops : Array Oper} {md : Region.Mode} {C S : World → Prop}
theorem wpAnyH_of_quiet {Q : Act → Prop} {Q' : Exit → Act → World → Prop} (hQ : ∀ a w, C w → Q a → Q' .normal a w) (hS : ∀ w, C w → S w) : ∀ (fuel : Nat) (listed : Array Bool) (a : Act) (w : World), C w →
    wpAnyQ P md ops C Q fuel listed a → wpAnyH P md ops Q' S fuel listed a w
  | 0, _, _, _, hw, h => ⟨h.1, hQ _ _ hw h.2⟩
  | fuel + 1, _, _, _, hw, h => ⟨fun h0 => hQ _ _ hw (h.1 h0), fun i hi => wpOp_of_qOp hw (fun a' w' hw' hk => ⟨hS w' hw', wpAnyH_of_quiet hQ hS fuel _ a' w' hw' hk⟩) (h.2 i hi)⟩
theorem wpAnyH_quiet_from {l : List Oper} {Q' : Exit → Act → World → Prop} (k fuel : Nat) {listed : Array Bool} {a : Act} {w : World} (hf : fuel = (l.drop k).length) (hns : Region.noSelect l.toArray = true) (hB : Region.lexFrom md l.toArray (l.drop k).length k listed = true)
    (hC : C w) (hS : ∀ w, C w → S w) (h : wpQuiet P l.toArray C (fun a' => ∀ w', C w' → Q' .normal a' w') (l.drop k) a) : wpAnyH P md l.toArray Q' S fuel listed a w := by
  subst hf
  exact wpAnyH_of_quiet (Q := fun a' => ∀ w', C w' → Q' .normal a' w') (fun _ w' hw' h => h w' hw') hS _ _ _ _ hC (wpAnyQ_lex hns (l.drop k) k listed a (fun j => by simp [List.getElem?_drop]) hB h)
/-- At the class 'Below'. -/
theorem wpAnyH_below_from {l : List Oper} {Q' : Exit → Act → World → Prop} (k fuel : Nat) {listed : Array Bool} {a : Act} {w : World} (hf : fuel = (l.drop k).length) (hns : Region.noSelect l.toArray = true) (hB : Region.lexFrom md l.toArray (l.drop k).length k listed = true)
    (hS : ∀ p : Regrown, S (Go.Sort.grow (redrawn w p.d) p.os))
    (h : wpQuiet P l.toArray (fun w' => ∃ p : Regrown, w' = Go.Sort.grow (redrawn w p.d) p.os) (fun a' => ∀ w', (∃ p : Regrown, w' = Go.Sort.grow (redrawn w p.d) p.os) → Q' .normal a' w') (l.drop k) a) : wpAnyH P md l.toArray Q' S fuel listed a w :=
  wpAnyH_quiet_from k fuel hf hns hB ⟨⟨w.drawn, #[]⟩, by rw [Go.Sort.grow_empty]; rfl⟩ (fun _ ⟨p, e⟩ => e ▸ hS p) h
end
end Go.Proofs.Ytlkdmcdnkoiflaa

/- isValid, CheckPlan. -/
namespace Go.Proofs.Ytlkdmcdnkoiflaa
open Go.RowKit Go.Lib

/-- The world ahead of isValid's long test. -/
structure VAt (p : PlM) (w W : World) : Prop where
  l : Lies W w.heap.size 41 p.cells.toArray
  c1 : W.cell? ⟨w.heap.size + 1, 0, none⟩ = some (.int .i64 p.s.l.length)
  c2 : W.cell? ⟨w.heap.size + 1 + 1, 0, none⟩ = some (.int .i64 1000000)
  c3 : W.cell? ⟨w.heap.size + 1 + 1 + 1, 0, none⟩ = some (.int .i64 5000)
  c4 : W.cell? ⟨w.heap.size + 1 + 1 + 1 + 1, 0, none⟩ = some (.func (.func 118) #[] #[.pointer (some ⟨w.heap.size + 1 + 1 + 1, 0, none⟩)])
  c5 : W.cell? ⟨w.heap.size + 1 + 1 + 1 + 1 + 1, 0, none⟩ = some (.int .i64 1000)
  b : Below w.heap.size w W
theorem VAt.below {p : PlM} {w W W' : World} (h : VAt p w W) (hb : Below W.heap.size W W') : VAt p w W' :=
  ⟨h.l.call hb, (hb.cell (p := ⟨_, 0, none⟩) (World.block_lt_of_cell? W _ h.c1)).trans h.c1, (hb.cell (p := ⟨_, 0, none⟩) (World.block_lt_of_cell? W _ h.c2)).trans h.c2, (hb.cell (p := ⟨_, 0, none⟩) (World.block_lt_of_cell? W _ h.c3)).trans h.c3, (hb.cell (p := ⟨_, 0, none⟩) (World.block_lt_of_cell? W _ h.c4)).trans h.c4, (hb.cell (p := ⟨_, 0, none⟩) (World.block_lt_of_cell? W _ h.c5)).trans h.c5, h.b.trans (hb.mono h.b.size)⟩
theorem VAt.cells {p : PlM} {w W : World} (h : VAt p w W) : W.cell? ⟨w.heap.size, 0, none⟩ = some (.slice p.s.A p.s.l.length p.s.c) ∧ W.cell? ⟨w.heap.size, 1, none⟩ = some (.slice p.r.A p.r.l.length p.r.c) ∧
    W.cell? ⟨w.heap.size, 2, none⟩ = some (.slice p.g.A p.g.l.length p.g.c) ∧ W.cell? ⟨w.heap.size, 3, none⟩ = some (.slice p.e.A p.e.l.length p.e.c) ∧ W.cell? ⟨w.heap.size, 4, none⟩ = some (.slice p.k.A p.k.l.length p.k.c) ∧
    W.cell? ⟨w.heap.size, 5, none⟩ = some (.int .i64 p.lo) ∧ W.cell? ⟨w.heap.size, 6, none⟩ = some (.int .i64 p.hi) ∧ W.cell? ⟨w.heap.size, 7, none⟩ = some (.int .i64 p.years) ∧ W.cell? ⟨w.heap.size + 1, 0, none⟩ = some (.int .i64 p.s.l.length) :=
  ⟨h.l.at_ 0, h.l.at_ 1, h.l.at_ 2, h.l.at_ 3, h.l.at_ 4, h.l.at_ 5, h.l.at_ 6, h.l.at_ 7, h.c1⟩

section
variable {p : PlM} {w W : World} (hp : p.At w w.heap.size) (h : VAt p w W)
include hp h
theorem v1 (g : Nat) (hc : W.cell? ⟨g, 0, none⟩ = some (.int .i64 1000000)) : Calls Try.prog 89 #[.slice p.s.A p.s.l.length p.s.c, .int .i64 p.s.l.length, .func (.func 118) #[] #[.pointer (some ⟨g, 0, none⟩)]] W fun e w' => e = .returned (.bool (p.b 1)) ∧ Below W.heap.size W w' :=
  fitsRange_any 118 #[] #[.pointer (some ⟨g, 0, none⟩)] (fun r => spanB r 1000000) p.s.A p.s.c _ p.s.l _ ((hp.s.below h.b).more h.b.size) (ask_span 1000000 _ _ hc _) hp.ls
theorem v2 : Calls Try.prog 90 #[.slice p.r.A p.r.l.length p.r.c, .int .i64 p.s.l.length, .func (.func 117) #[] #[.pointer (some ⟨w.heap.size + 1 + 1, 0, none⟩)]] W fun e w' => e = .returned (.bool (p.b 2)) ∧ Below W.heap.size W w' :=
  fitsInt_any _ _ _ (fun n => inB n 0 1000000) _ _ _ p.r.l _ ((hp.r.below h.b).more h.b.size) (ask_upTo 1000000 _ _ h.c2 _) hp.lr
theorem v3 : Calls Try.prog 91 #[.slice p.s.A p.s.l.length p.s.c, .slice p.r.A p.r.l.length p.r.c, .func (.func 92) #[] #[]] W fun e w' => e = .returned (.bool (p.b 3)) ∧ Below W.heap.size W w' :=
  pairedRange_any _ _ _ (fun r m => decide (r.2 ≤ m)) _ _ _ _ p.s.l p.r.l _ ((hp.s.below h.b).more h.b.size) ((hp.r.below h.b).more h.b.size) (ask_isBelow _ _) hp.ls
theorem v4 : Calls Try.prog 93 #[.slice p.g.A p.g.l.length p.g.c, .int .i64 p.s.l.length, .func (.func 88) #[] #[.pointer (some ⟨w.heap.size + 1, 0, none⟩), .pointer (some ⟨w.heap.size + 1 + 1 + 1 + 1, 0, none⟩)]] W fun e w' => e = .returned (.bool (p.b 4)) ∧ Below W.heap.size W w' :=
  fitsRow_any _ _ _ (rowB p.s.l.length) _ _ _ p.g.l _ ((hp.g.below h.b).more h.b.size) (ask_isRow _ _ _ _ _ h.c1 h.c4 h.c3 _ fun x hx => ⟨((hp.rows x hx).below h.b).more h.b.size, hp.lrows x hx⟩) hp.lg
theorem v5 : Calls Try.prog 90 #[.slice p.e.A p.e.l.length p.e.c, .int .i64 p.s.l.length, .func (.func 117) #[] #[.pointer (some ⟨w.heap.size + 1 + 1, 0, none⟩)]] W fun e w' => e = .returned (.bool (p.b 5)) ∧ Below W.heap.size W w' :=
  fitsInt_any _ _ _ (fun n => inB n 0 1000000) _ _ _ p.e.l _ ((hp.e.below h.b).more h.b.size) (ask_upTo 1000000 _ _ h.c2 _) hp.le
theorem v6 : Calls Try.prog 90 #[.slice p.k.A p.k.l.length p.k.c, .int .i64 p.s.l.length, .func (.func 117) #[] #[.pointer (some ⟨w.heap.size + 1 + 1, 0, none⟩)]] W fun e w' => e = .returned (.bool (p.b 6)) ∧ Below W.heap.size W w' :=
  fitsInt_any _ _ _ (fun n => inB n 0 1000000) _ _ _ p.k.l _ ((hp.k.below h.b).more h.b.size) (ask_upTo 1000000 _ _ h.c2 _) hp.lk
omit hp in
theorem v7 : Calls Try.prog 118 #[.agg #[.int .i64 p.lo, .int .i64 p.hi], .pointer (some ⟨w.heap.size + 1 + 1 + 1 + 1 + 1, 0, none⟩)] W fun e w' => e = .returned (.bool (p.b 7)) ∧ Below W.heap.size W w' :=
  rangeUpTo1_any _ _ _ _ _ h.c5
omit hp h in
theorem v8 : Calls Try.prog 94 #[.int .i64 p.years, .int .i64 0, .int .i64 6] W fun e w' => e = .returned (.bool (p.b 8)) ∧ W = w' := within_any _ _ _ _
end

theorem VAt.two {p : PlM} {w W : World} (h : VAt p w W) : W.cell? ⟨w.heap.size + 1, 0, none⟩ = some (.int .i64 p.s.l.length) ∧ W.cell? ⟨w.heap.size, 0, none⟩ = some (.slice p.s.A p.s.l.length p.s.c) := ⟨h.c1, h.l.at_ 0⟩

theorem Lies.fresh' {w : World} {n : Nat} {t : TypeId} {cs : Array Value} (hs : w.heap.size = n) : Lies (w.alloc (.cells cs t)) n t cs := hs ▸ Lies.fresh w t cs
theorem VAt.made (p : PlM) (w : World) : VAt p w ((((((w.alloc (.cells p.cells.toArray 41)).alloc (.cells #[.int .i64 p.s.l.length] 3)).alloc (.cells #[.int .i64 1000000] 3)).alloc (.cells #[.int .i64 5000] 3)).alloc (.cells #[.func (.func 118) #[] #[.pointer (some ⟨w.heap.size + 1 + 1 + 1, 0, none⟩)]] 154)).alloc (.cells #[.int .i64 1000] 3)) := by
  refine ⟨?_, ?_, ?_, ?_, ?_, ?_, ?_⟩
  · exact ((((Lies.fresh w 41 p.cells.toArray).alloc _).alloc _).alloc _).alloc _ |>.alloc _
  · exact (((((Lies.fresh' (by simp)).alloc _).alloc _).alloc _).alloc _).one
  · exact ((((Lies.fresh' (by simp)).alloc _).alloc _).alloc _).one
  · exact (((Lies.fresh' (by simp)).alloc _).alloc _).one
  · exact ((Lies.fresh' (by simp)).alloc _).one
  · exact (Lies.fresh' (by simp)).one
  · exact (by repeat (first | (with_reducible assumption) | (with_reducible exact Below.refl _ _) | (with_reducible refine Below.drew ?_) | (with_reducible refine below_drewN ?_ _) | ((with_reducible refine Below.setCell ?_ ?_ _); rotate_left; focus (first | (simp; done) | (simp; omega) | omega)) | ((with_reducible refine Below.alloc ?_ ?_ _); rotate_left; focus (first | (simp; done) | (simp; omega) | omega))))

end Go.Proofs.Ytlkdmcdnkoiflaa

/- least, greatest at one other number; lists of counts. -/
namespace Go.Proofs.Ytlkdmcdnkoiflaa
open Go.RowKit Go.Lib

def vals (l : List Int) : Array Value := (l.map (Value.int .i64)).toArray
theorem vals_at {l : List Int} {i : Nat} {x : Int} (h : l[i]? = some x) : (vals l)[i]? = some (.int .i64 x) := by simp [vals, h]
theorem vals_set (l : List Int) (i : Nat) (x : Int) : (vals l).setIfInBounds i (.int .i64 x) = vals (l.set i x) := by simp [vals, List.map_set]
theorem vals_size (l : List Int) : (vals l).size = l.length := by simp [vals]
theorem vals_five {l : List Int} (h : l.length = 5) : vals l = #[.int .i64 (l.getD 0 0), .int .i64 (l.getD 1 0), .int .i64 (l.getD 2 0), .int .i64 (l.getD 3 0), .int .i64 (l.getD 4 0)] := by
  match l, h with
  | [a, b, c, d, e], _ => rfl

section
set_option maxHeartbeats 1000000
theorem least_any (a x : Int) (g : Nat) (w : World) (hc : w.cell? ⟨g, 0, none⟩ = some (.int .i64 x)) :
    Calls Try.prog 123 #[.int .i64 a, .slice (some ⟨g, 0, none⟩) 1 1] w fun e w' => e = .returned (.int .i64 (min a x)) ∧ w = w' := by
  go_enter Try.func123, Try.ntmps123
  go_wp2
  go_loop [0, 6, 9] (fun s _ i => ∃ k : Nat, k ≤ 1 ∧ i = .int .i64 k ∧ s = .int .i64 (if k = 0 then a else min a x)) (fun _ _ i => 1 - (intOf i).toNat)
  case atStart => exact ⟨0, by omega, rfl, rfl⟩
  case round =>
    obtain ⟨k, hk, rfl, rfl⟩ := hrel
    by_cases h0 : k = 0
    · subst h0
      by_cases hx : x < a
      all_goals
        go_wp2
        go_round
        case rel => exact ⟨1, by omega, rfl, by simp; omega⟩
        case measure => simp [intOf]
    · obtain rfl : k = 1 := by omega
      go_wp2
      go_ret
      exact ⟨by simp, rfl⟩
theorem greatest_any (a x : Int) (g : Nat) (w : World) (hc : w.cell? ⟨g, 0, none⟩ = some (.int .i64 x)) :
    Calls Try.prog 124 #[.int .i64 a, .slice (some ⟨g, 0, none⟩) 1 1] w fun e w' => e = .returned (.int .i64 (max a x)) ∧ w = w' := by
  go_enter Try.func124, Try.ntmps124
  go_wp2
  go_loop [0, 6, 9] (fun s _ i => ∃ k : Nat, k ≤ 1 ∧ i = .int .i64 k ∧ s = .int .i64 (if k = 0 then a else max a x)) (fun _ _ i => 1 - (intOf i).toNat)
  case atStart => exact ⟨0, by omega, rfl, rfl⟩
  case round =>
    obtain ⟨k, hk, rfl, rfl⟩ := hrel
    by_cases h0 : k = 0
    · subst h0
      by_cases hx : a < x
      all_goals
        go_wp2
        go_round
        case rel => exact ⟨1, by omega, rfl, by simp; omega⟩
        case measure => simp [intOf]
    · obtain rfl : k = 1 := by omega
      go_wp2
      go_ret
      exact ⟨by simp, rfl⟩
end

/-! ### A whole array, by value, out of a block of the call's own and into it -/
/-- Of w nothing but block g has turned. -/
structure Only (g : Nat) (w w' : World) : Prop where
  os : w'.os = w.os
  tape : w'.tape = w.tape
  output : w'.output = w.output
  size : w'.heap.size = w.heap.size
  block : ∀ k, k ≠ g → w'.heap[k]? = w.heap[k]?
theorem Only.below {g B : Nat} {w0 w w' : World} (h : Only g w w') (hb : Below B w0 w) (hg : B ≤ g) : Below B w0 w' :=
  ⟨h.os.trans hb.os, h.tape.trans hb.tape, h.output.trans hb.output, by rw [h.size]; exact hb.size, fun k hk => (h.block k (by omega)).trans (hb.block k hk)⟩
theorem Only.set (g i : Nat) (w : World) (u : Value) : Only g w (w.setCell ⟨g, i, none⟩ u) :=
  ⟨rfl, rfl, rfl, by simp, fun k hk => heap_setCell_other _ _ _ _ hk⟩
theorem Only.trans {g : Nat} {a b c : World} (h : Only g a b) (h' : Only g b c) : Only g a c :=
  ⟨h'.os.trans h.os, h'.tape.trans h.tape, h'.output.trans h.output, h'.size.trans h.size, fun k hk => (h'.block k hk).trans (h.block k hk)⟩
theorem Only.refl (g : Nat) (w : World) : Only g w w := ⟨rfl, rfl, rfl, rfl, fun _ _ => rfl⟩
theorem Only.lies {g k : Nat} {w w' : World} {t : TypeId} {cs : Array Value} (h : Only g w w') (hl : Lies w k t cs) (hk : k ≠ g) : Lies w' k t cs := hl.to_ (h.block k hk)
theorem splice_cons {α : Type} (L : List α) (o : Nat) (v : α) (r : List α) (h : o < L.length) : splice (L.set o v) (o + 1) r = splice L o (v :: r) := by
  have e1 : (L.set o v).take (o + 1) = L.take o ++ [v] := by
    rw [List.take_succ_eq_append_getElem (by simpa using h), List.take_set_of_le (Nat.le_refl _)]; simp
  have e2 : (L.set o v).drop (o + 1 + r.length) = L.drop (o + (v :: r).length) := by
    rw [List.drop_set_of_lt (by omega)]; congr 1; simp; omega
  unfold splice
  rw [e1, e2]; simp
theorem Lies.setCells {g : Nat} {t : TypeId} : ∀ (vs : List Value) (o : Nat) (w : World) (cs : List Value), Lies w g t cs.toArray → o + vs.length ≤ cs.length → Lies (w.setCells g o vs) g t (splice cs o vs).toArray ∧ Only g w (w.setCells g o vs)
  | [], o, w, cs, h, _ => ⟨by simpa [World.setCells, splice] using h, Only.refl _ _⟩
  | v :: r, o, w, cs, h, hl => by
    rw [World.setCells]
    have h1 := h.set o v
    rw [List.setIfInBounds_toArray] at h1
    have := Lies.setCells r (o + 1) (w.setCell ⟨g, o, none⟩ v) (cs.set o v) h1 (by simp at hl ⊢; omega)
    rw [splice_cons _ _ _ _ (by simp at hl; omega)] at this
    exact ⟨this.1, (Only.set g o w v).trans this.2⟩
theorem Lies.range {w : World} {g o : Nat} {t : TypeId} {cs vs : List Value} (h : Lies w g t cs.toArray) (hv : ∀ j v, vs[j]? = some v → cs[o + j]? = some v) : w.rangeAt g o vs := fun j v hj => by
  rw [h.at_]; simpa using hv j v hj
theorem Lies.there {w : World} {g o n : Nat} {t : TypeId} {cs : List Value} (h : Lies w g t cs.toArray) (hn : o + n ≤ cs.length) : w.there g o n := fun j hj =>
  ⟨by rw [h.at_]; simp; omega, h.free _⟩
section
variable {P : Program} {w : World} {ops : Array Oper} {rest : List Oper} {o : Oper} {a : Act} {Q : Exit → Act → World → Prop}
/-- The load of a whole array (or struct) of integers out of a block that lies. -/
theorem wpList_load_ints (hgd : o.guard = none) (ty : TypeId) (x : Operand) (ho : o.op = .load ty x) (g off : Nat) (hx : a.eval x = .pointer (some ⟨g, off, none⟩)) (t : TypeId) (l vs : List Int) (d : TypeDesc)
    (hl : Lies w g t (vals l)) (hv : ∀ j v, vs[j]? = some v → l[off + j]? = some v) (hu : P.underlying ty = some d) (hd : d.isRow = true) (hi : (P.info? ty).map (·.size) = some vs.length)
    (h : wpList P ops Q rest (a.put o.dst (.agg (vals vs))) w) : wpList P ops Q (o :: rest) a w :=
  wpList_load_mid hgd ty x ho g off hx (vs.map (Value.int .i64)) d (hl.range (cs := l.map (Value.int .i64)) (fun j v hj => by
    rw [List.getElem?_map, Option.map_eq_some_iff] at hj
    obtain ⟨u, hu, rfl⟩ := hj
    rw [List.getElem?_map, hv j u hu]; rfl)) hu hd (by simpa using hi) h
theorem ints_one (l : List Int) : ∀ v ∈ l.map (Value.int .i64), v.oneCell' = true := by
  intro v hv
  obtain ⟨x, _, rfl⟩ := List.mem_map.1 hv
  rfl
/-- The store of a whole array of integers into a block that lies. -/
theorem wpList_store_ints (hgd : o.guard = none) (ty : TypeId) (x y : Operand) (ho : o.op = .store ty x y) (g off : Nat) (hx : a.eval x = .pointer (some ⟨g, off, none⟩)) (t : TypeId) (l vs : List Int)
    (hy : a.eval y = .agg (vals vs)) (hl : Lies w g t (vals l)) (hf : off + vs.length ≤ l.length) (hi : (P.info? ty).map (·.size) = some vs.length)
    (h : ∀ w', Hid (Lies w' g t (vals (splice l off vs))) → Hid (Only g w w') → wpList P ops Q rest (a.put o.dst undef) w') : wpList P ops Q (o :: rest) a w := by
  have hl' : Lies w g t (l.map (Value.int .i64)).toArray := hl
  have hS := Lies.setCells (vs.map (Value.int .i64)) off w (l.map (Value.int .i64)) hl' (by simpa using hf)
  refine wpList_store_mid hgd ty x y ho g off (vals vs) hx hy ?_ (by simpa [vals] using hi) (all_oneCell_toArray (ints_one vs)) (h _ ?_ ?_)
  · simpa [vals] using Lies.there (o := off) (n := vs.length) hl' (by simpa using hf)
  · have e : vals (splice l off vs) = (splice (l.map (Value.int .i64)) off (vs.map (Value.int .i64))).toArray := by simp [vals, splice]
    show Lies _ g t _
    rw [e]; exact hS.1
  · exact hS.2
/-- What a function hands back out of a block of integers. -/
theorem results_ints {fn : Func} {p : Tmp} {ty : TypeId} (h : fn.results = #[.cell p ty]) (tmps : Array Value) (w : World) (g : Nat) (t : TypeId) (l : List Int) (d : TypeDesc)
    (hp : tmps.getD p undef = .pointer (some ⟨g, 0, none⟩)) (hg : Lies w g t (vals l)) (hu : P.underlying ty = some d) (hd : (match d with | .struct _ | .array _ _ => true | _ => false) = true) (hi : (P.info? ty).map (·.size) = some l.length) :
    (results fn tmps).run P w = .ok (.agg (vals l)) w := results_cell_row h tmps w g t (vals l) (0, 0) d hp hg hu hd (by rw [vals_size]; exact hi)
end
end Go.Proofs.Ytlkdmcdnkoiflaa

/- countsOf, counts.list, season.loses. -/
namespace Go.Proofs.Ytlkdmcdnkoiflaa
open Go.RowKit Go.Lib

theorem size120 : (Try.prog.info? 120).map (·.size) = some 5 := by kernel_rfl
theorem size123 : (Try.prog.info? 123).map (·.size) = some 20 := by kernel_rfl
theorem sizeInt : (Try.prog.info? 3).map (·.size) = some 1 := by kernel_rfl
/-- Five numbers: those of the list, and zeros. -/
def pad5 (l : List Int) : List Int := splice [0, 0, 0, 0, 0] 0 l
theorem splice_all {cur l : List Int} (h : l.length = cur.length) : splice cur 0 l = l := by unfold splice; simp [h]
theorem pad5_length {l : List Int} (h : l.length ≤ 5) : (pad5 l).length = 5 := by unfold pad5; rw [length_splice]; rfl; simpa using h
theorem pad5_lt {l : List Int} {i : Nat} (h : i < l.length) : (pad5 l)[i]? = l[i]? := by
  unfold pad5 splice; simp [List.getElem?_append_left h]
theorem Sl.ints {w : World} {B : Nat} {A : Option Addr} {l : List Int} (h : Sl w B 1 encI A l) (hl : 0 < l.length) : ∃ ad, A = some ad ∧ ∀ j v, (l.map (Value.int .i64))[j]? = some v → w.cell? (ad.add j) = some v := by
  obtain ⟨b, off, rfl, _, hc⟩ := h (by rintro rfl; simp at hl)
  refine ⟨_, rfl, fun j v hj => ?_⟩
  rw [List.getElem?_map, Option.map_eq_some_iff] at hj
  obtain ⟨x, hx, rfl⟩ := hj
  rw [add_lit]
  have := hc j x hx 0 _ rfl
  simpa using this

/-- copy out of a list of integers into a block of integers. -/
theorem wpList_copy_ints {P : Program} {w : World} {ops : Array Oper} {rest : List Oper} {o : Oper} {a : Act} {Q : Exit → Act → World → Prop} (hgd : o.guard = none) (d s : Operand) (T E : TypeId)
    (ho : o.op = .call { callee := .builtin .copy, args := #[d, s], argTypes := #[T, T] }) (hu : P.underlying T = some (.slice E)) (hsz : (P.info? E).map (·.size) = some 1)
    (A : Option Addr) (g c n : Nat) (l cur : List Int) (t : TypeId) (hd : a.eval d = .slice (some ⟨g, 0, none⟩) n n) (hs : a.eval s = .slice A l.length c) (hg : Lies w g t (vals cur)) (B : Nat) (hA : Sl w B 1 encI A l) (hn : n = cur.length) (hl : l.length ≤ cur.length)
    (B0 : Nat) (w0 : World) (hb : Below B0 w0 w) (hBg : B0 ≤ g)
    (h : ∀ w', Hid (Lies w' g t (vals (splice cur 0 l))) → Below B0 w0 w' → wpList P ops Q rest (a.put o.dst (goInt l.length)) w') : wpList P ops Q (o :: rest) a w := by
  subst hn
  refine wpList_copy_splice hgd d s T T ho E hu hsz (some ⟨g, 0, none⟩) A cur.length cur.length l.length c hd hs g 0 (cur.map (Value.int .i64)) t hg (l.map (Value.int .i64)) (by rw [List.length_map]; exact (Nat.min_eq_left hl).symm) (fun h0 => ⟨rfl, hA.ints (by simpa using h0)⟩) (by simpa using hl) (ints_one l) B0 w0 hb hBg ?_
  intro w' hw' hb'
  have e : vals (splice cur 0 l) = (splice (cur.map (Value.int .i64)) 0 (l.map (Value.int .i64))).toArray := by simp [vals, splice]
  have := h w' (show Lies _ _ _ _ by rw [e]; exact hw'.out) hb'
  simpa using this
section
set_option maxHeartbeats 1000000
set_option maxRecDepth 100000 in
theorem countsOf_any (A : Option Addr) (c : Nat) (l : List Int) (w : World) (hA : Sl w w.heap.size 1 encI A l) (hl : l.length ≤ 5) :
    Calls Try.prog 62 #[.slice A l.length c] w fun e w' => e = .returned (.agg (vals (pad5 l))) ∧ Below w.heap.size w w' := by
  have HA := Lib.hid hA
  clear hA
  have hb2 : Below w.heap.size w ((w.alloc (.cells #[.int .i64 0, .int .i64 0, .int .i64 0, .int .i64 0, .int .i64 0] 120)).alloc (.cells #[.int .i64 0, .int .i64 0, .int .i64 0, .int .i64 0, .int .i64 0] 120)) := ((Below.refl _ _).alloc (Nat.le_refl _) _).alloc (by simp) _
  have hr : Lies ((w.alloc (.cells #[.int .i64 0, .int .i64 0, .int .i64 0, .int .i64 0, .int .i64 0] 120)).alloc (.cells #[.int .i64 0, .int .i64 0, .int .i64 0, .int .i64 0, .int .i64 0] 120)) (w.heap.size + 1) 120 (vals [0, 0, 0, 0, 0]) := Lies.fresh' (by simp)
  have hr0 : Lies ((w.alloc (.cells #[.int .i64 0, .int .i64 0, .int .i64 0, .int .i64 0, .int .i64 0] 120)).alloc (.cells #[.int .i64 0, .int .i64 0, .int .i64 0, .int .i64 0, .int .i64 0] 120)) w.heap.size 120 (vals [0, 0, 0, 0, 0]) := (Lies.fresh w _ _).alloc _
  have HR := Lib.hid hr
  have HR0 := Lib.hid hr0
  have HB2 := Lib.hid hb2
  clear hr hr0 hb2
  go_enter Try.func62, Try.ntmps62
  have HA2 := Lib.hid ((HA.out.below HB2.out))
  go_wp2_with (first
    | (refine wpList_copy_ints (o := ⟨some 6, _, _, _, _, _⟩) ?_ (.tmp 4) (.tmp 5) 23 3 ?_ Try.underlying23 sizeInt A (w.heap.size + 1) c 5 l [0, 0, 0, 0, 0] 120 ?_ ?_ HR.out w.heap.size HA2.out rfl hl (w.heap.size + 1) _ (Below.refl _ _) (Nat.le_refl _) ?_; rfl; rfl; rfl; rfl; intro w1 HL1 hb1; have HL0 := Lib.hid (HR0.out.below hb1 (by omega)); have HB1 := Lib.hid (HB2.out.trans (hb1.mono (by omega))); clear hb1)
    | (refine wpList_load_ints (o := ⟨some 7, _, _, _, _, _⟩) ?_ 120 (.tmp 3) ?_ (w.heap.size + 1) 0 ?_ 120 (pad5 l) (pad5 l) _ HL1.out (fun j v h => by simpa using h) Try.underlying120 rfl (by rw [pad5_length hl]; exact size120) ?_; rfl; rfl; rfl)
    | (refine wpList_store_ints (o := ⟨none, .store 120 _ _, _, _, _, _⟩) ?_ 120 (.tmp 2) (.tmp 7) ?_ w.heap.size 0 ?_ 120 [0, 0, 0, 0, 0] (pad5 l) ?_ HL0.out (by rw [pad5_length hl]; decide) (by rw [pad5_length hl]; exact size120) ?_; rfl; rfl; rfl; rfl; intro w2 HL2 HO2))
  exact bodyPost_ret (results_ints rfl _ _ w.heap.size 120 (pad5 l) _ rfl (by have := HL2.out; rwa [splice_all (pad5_length hl)] at this) Try.underlying120 rfl (by rw [pad5_length hl]; exact size120)) rfl ⟨rfl, HO2.out.below HB1.out (Nat.le_refl _)⟩
end
end Go.Proofs.Ytlkdmcdnkoiflaa

/- counts.list (slices.Clone), season.loses. -/
namespace Go.Proofs.Ytlkdmcdnkoiflaa
open Go.RowKit Go.Lib

theorem info_int : (Try.prog.info? 3).map (fun i => (i.zero, i.size, i.bytes)) = some (some (.int .i64 0), 1, 8) := by kernel_rfl
/-- What a call hands back that makes a list of integers. -/
def RetI (l : List Int) (w : World) (e : Ending) (w' : World) : Prop :=
  ∃ A c, e = .returned (.slice A l.length c) ∧ Sl w' w'.heap.size 1 encI A l ∧ Below w.heap.size w w' ∧ (A = none → l.length = 0 ∧ c = 0)
theorem flat_ints (l : List Int) : l.flatMap encI = l.map (Value.int .i64) := by
  induction l with
  | nil => rfl
  | cons x l ih => rw [List.flatMap_cons, ih]; rfl
section
set_option maxHeartbeats 1000000
theorem clone_any (g o n c : Nat) (l : List Int) (w : World) (hA : Sl w w.heap.size 1 encI (some ⟨g, o, none⟩) l) (hn : n = l.length) (hl : l.length ≤ 1000000) :
    Calls Try.prog 116 #[.slice (some ⟨g, o, none⟩) n c] w (RetI l w) := by
  subst hn
  obtain ⟨i0, hi, hz0, hz1, hz2⟩ := info_parts info_int
  have hown : (w.alloc (.cells #[] 3)).ownsRow w.heap.size 3 1 (.slice (some ⟨w.heap.size, 0, none⟩) 0 0) 0 [] :=
    ⟨rfl, .inr ⟨w.heap.size, 0, #[], rfl, Nat.le_refl _, heap_alloc_new _ _, Nat.le_refl _, by unfold maxLen; omega, rfl, rfl⟩⟩
  have hb0 : Below w.heap.size w (w.alloc (.cells #[] 3)) := (Below.refl _ _).alloc (Nat.le_refl _) _
  have hnews := (hA.below hb0).news (enc := encI) (fun _ => rfl)
  have HO := Lib.hid hown
  have HN := Lib.hid hnews
  have HA := Lib.hid hA
  have Hz0 := Lib.hid hz0
  have Hz1 := Lib.hid hz1
  have Hz2 := Lib.hid hz2
  have HI := Lib.hid hi
  have HB := Lib.hid hb0
  clear hown hnews hA hz0 hz1 hz2 hi hb0
  have q22 : ∀ (w : World) (a : Option Addr) (n c n' c' : Nat), (binOp .eql 23 (.slice a n c) (.slice none n' c')).run Try.prog w = .ok (.bool a.isNone) w := fun w a n c n' c' => Lib.run_eql_slice_nil w _ _ a n c n' c' Try.underlying23
  go_enter Try.func116, Try.ntmps116
  go_wp2_with (at_builtin; refine wpList_append_own _ ?_ (.tmp 5) (.tmp 6) 23 ?_ w.heap.size 3 i0 (.int .i64 0) 1 8 Try.underlying23 HI.out Hz0.out Hz1.out Hz2.out rfl (by decide) _ 0 [] ?_ HO.out ⟨g, o, none⟩ l.length c (l.map (Value.int .i64)) ?_ (by simp) ?_ (ints_one l) (by unfold maxLen; omega) (by omega) (by simp) ?_; rfl; rfl; rfl; rfl; (intro j v hj; exact HN.out _ rfl j v (by rw [flat_ints]; exact hj)); intro v' w1 hown1 hgrow1 hx)
  obtain ⟨A', c', e1, e2, e3⟩ := Sl.of_own (enc := encI) (l := l) (fun _ => rfl) (by simpa using hown1) (by rw [flat_ints])
  subst e1
  go_ret
  exact ⟨A', c', rfl, e3, HB.out.grown hgrow1 (by simp) (by simp [Value.ownBlock]), e2⟩
end
end Go.Proofs.Ytlkdmcdnkoiflaa

/- counts.list, season.loses. -/
namespace Go.Proofs.Ytlkdmcdnkoiflaa
open Go.RowKit Go.Lib

theorem Lies.sl {w : World} {g : Nat} {t : TypeId} {l : List Int} (h : Lies w g t (vals l)) (n : Nat) : Sl w w.heap.size 1 encI (some ⟨g, 0, none⟩) (l.take n) := fun _ => by
  refine ⟨g, 0, rfl, h.in_, fun i x hx j u hu => ?_⟩
  have hi : l[i]? = some x := by
    rw [List.getElem?_take] at hx; split at hx
    · exact hx
    · cases hx
  cases j with
  | zero =>
    simp at hu; subst hu
    rw [h.at_]
    simpa using vals_at hi
  | succ j => simp at hu
theorem ret_slice {A : Option Addr} {c n m : Nat} (h : n = m) : Ending.returned (.slice A n c) = .returned (.slice A m c) := by rw [h]
section
set_option maxHeartbeats 1000000
theorem list_any (cs : List Int) (n : Nat) (w : World) (hl : cs.length = 5) (hn : n ≤ 5) :
    Calls Try.prog 102 #[.agg (vals cs), .int .i64 n] w (RetI (cs.take n) w) := by
  have hL : Lies (w.alloc (.cells (vals cs) 120)) w.heap.size 120 (vals cs) := Lies.fresh _ _ _
  have hb0 : Below w.heap.size w (w.alloc (.cells (vals cs) 120)) := (Below.refl _ _).alloc (Nat.le_refl _) _
  have hC := clone_any w.heap.size 0 n 5 (cs.take n) _ (hL.sl n) (by simp; omega) (by simp; omega)
  have HB := Lib.hid hb0
  have HC := Lib.hid hC
  clear hL hb0 hC
  have hn0 : (0 : Int) ≤ (n : Int) := by omega
  have hn5 : (n : Int) ≤ 5 := by omega
  go_enter Try.func102, Try.ntmps102
  go_wp2_with (go_at_call 116; refine HC.out.mono ?_; rintro e w' ⟨A, c, rfl, h1, h2, h3⟩)
  go_ret
  exact ⟨A, c, ret_slice (by simp; omega), h1, HB.out.trans (h2.mono HB.out.size), h3⟩

/-- What is lost of each size. -/
def lossAt (s : List Int) (loss : Int) (i : Nat) : Int := (s.getD i 0 - s.getD (5 + i) 0) * loss / 1000
def upto5 (f : Nat → Int) (k : Nat) : List Int := (List.range 5).map fun i => if i < k then f i else 0
theorem upto5_length (f : Nat → Int) (k : Nat) : (upto5 f k).length = 5 := by simp [upto5]
theorem upto5_set (f : Nat → Int) (k : Nat) (hk : k < 5) : (upto5 f k).set k (f k) = upto5 f (k + 1) := by
  apply List.ext_getElem?
  intro i
  rw [List.getElem?_set]
  by_cases h : k = i
  · subst h; simp [upto5, hk]
  · rw [if_neg h]
    by_cases hi : i < 5
    · simp [upto5, hi]; by_cases h2 : i < k
      · rw [if_pos h2, if_pos (by omega)]
      · rw [if_neg h2, if_neg (by omega)]
    · simp [upto5, hi]
def lossL (s : List Int) (loss : Int) : List Int := upto5 (lossAt s loss) 5
/-- Twenty numbers of a year, in their bounds. -/
structure Small (s : List Int) : Prop where
  len : s.length = 20
  lo : ∀ i, i < 20 → 0 ≤ s.getD i 0
  hi : ∀ i, i < 20 → s.getD i 0 ≤ 30000000
  le : ∀ i, i < 5 → s.getD (5 + i) 0 ≤ s.getD i 0
theorem getD_some {l : List Int} {i : Nat} (h : i < l.length) : l[i]? = some (l.getD i 0) := by simp [h]
theorem mul_bd {x y l : Int} (a1 : 0 ≤ x) (a2 : x ≤ 30000000) (a3 : 0 ≤ y) (a4 : y ≤ x) (h0 : 0 ≤ l) (h1 : l ≤ 1000) : 0 ≤ (x - y) * l ∧ (x - y) * l ≤ 30000000000 := by
  refine ⟨Int.mul_nonneg (by omega) h0, ?_⟩
  have := Int.mul_le_mul (show x - y ≤ 30000000 by omega) h1 h0 (by omega)
  omega
theorem loses_any (s : List Int) (loss : Int) (w : World) (hs : Small s) (h0 : 0 ≤ loss) (h1 : loss ≤ 1000) :
    Calls Try.prog 125 #[.agg (vals s), .int .i64 loss] w fun e w' => e = .returned (.agg (vals (lossL s loss))) ∧ Below w.heap.size w w' := by
  have HS := Lib.hid hs
  clear hs
  go_enter Try.func125, Try.ntmps125
  have hz : upto5 (lossAt s loss) 0 = [0, 0, 0, 0, 0] := by simp [upto5, List.range, List.range.loop]
  have l0 : Lies ((((w.alloc (.cells (vals s) 123)).alloc (.cells (vals [0, 0, 0, 0, 0]) 120)).alloc (.cells (vals [0, 0, 0, 0, 0]) 120))) w.heap.size 123 (vals s) := ((Lies.fresh' rfl).alloc _).alloc _
  have l1 : Lies ((((w.alloc (.cells (vals s) 123)).alloc (.cells (vals [0, 0, 0, 0, 0]) 120)).alloc (.cells (vals [0, 0, 0, 0, 0]) 120))) (w.heap.size + 1) 120 (vals [0, 0, 0, 0, 0]) := (Lies.fresh' (by simp)).alloc _
  have l2 : Lies ((((w.alloc (.cells (vals s) 123)).alloc (.cells (vals [0, 0, 0, 0, 0]) 120)).alloc (.cells (vals [0, 0, 0, 0, 0]) 120))) (w.heap.size + 1 + 1) 120 (vals (upto5 (lossAt s loss) 0)) := by rw [hz]; exact Lies.fresh' (by simp)
  have lb : Below w.heap.size w ((((w.alloc (.cells (vals s) 123)).alloc (.cells (vals [0, 0, 0, 0, 0]) 120)).alloc (.cells (vals [0, 0, 0, 0, 0]) 120))) := (by repeat (first | (with_reducible assumption) | (with_reducible exact Below.refl _ _) | (with_reducible refine Below.drew ?_) | (with_reducible refine below_drewN ?_ _) | ((with_reducible refine Below.setCell ?_ ?_ _); rotate_left; focus (first | (simp; done) | (simp; omega) | omega)) | ((with_reducible refine Below.alloc ?_ ?_ _); rotate_left; focus (first | (simp; done) | (simp; omega) | omega))))
  have L0 := Lib.hid l0
  have L1 := Lib.hid l1
  have L2 := Lib.hid l2
  have LB := Lib.hid lb
  clear l0 l1 l2 lb hz
  go_wp2
  go_loopw [6, 7, 8] (fun _ _ s8 wr => ∃ k : Nat, k ≤ 5 ∧ s8 = .int .i64 k ∧ Aside (Lies wr w.heap.size 123 (vals s)) ∧ Aside (Lies wr (w.heap.size + 1) 120 (vals [0, 0, 0, 0, 0])) ∧ Aside (Lies wr (w.heap.size + 1 + 1) 120 (vals (upto5 (lossAt s loss) k))) ∧ Aside (Below w.heap.size w wr)) (fun _ _ i _ => 5 - (intOf i).toNat)
  case atStart => exact ⟨0, by omega, rfl, L0.out, L1.out, L2.out, LB.out⟩
  case round =>
    obtain ⟨k, hk, rfl, M0, M1, M2, MB⟩ := hrel
    by_cases hlt : k < 5
    · have hk0 : (0 : Int) ≤ (k : Int) := by omega
      have hk5 : (k : Int) < 5 := by omega
      have hlen := HS.out.len
      have a1 := HS.out.lo k (by omega)
      have a2 := HS.out.hi k (by omega)
      have a3 := HS.out.lo (5 + k) (by omega)
      have a4 := HS.out.le k hlt
      have c1 : wr.cell? ⟨w.heap.size, k, none⟩ = some (.int .i64 (s.getD k 0)) := by rw [M0.out.at_]; exact vals_at (getD_some (by omega))
      have c2 : wr.cell? ⟨w.heap.size, 5 + k, none⟩ = some (.int .i64 (s.getD (5 + k) 0)) := by rw [M0.out.at_]; exact vals_at (getD_some (by omega))
      have c3 : wr.cell? ⟨w.heap.size + 1 + 1, k, none⟩ = some (.int .i64 ((upto5 (lossAt s loss) k).getD k 0)) := by rw [M2.out.at_]; exact vals_at (getD_some (by rw [upto5_length]; exact hlt))
      have f3 := M2.out.free k
      have hm := mul_bd a1 a2 a3 a4 h0 h1
      have hla : lossAt s loss k = (s.getD k 0 - s.getD (5 + k) 0) * loss / 1000 := rfl
      have HLA := Lib.hid hla
      clear hla hlen
      generalize hx : s.getD k 0 = x at *
      generalize hy : s.getD (5 + k) 0 = y at *
      clear hx hy
      go_wp2
      go_quiet (fail)
      go_wp2
      go_roundw
      case rel =>
        refine ⟨k + 1, by omega, by go_num, (M0.out.drewN nq).other (show w.heap.size ≠ w.heap.size + 1 + 1 by omega) _, (M1.out.drewN nq).other (show w.heap.size + 1 ≠ w.heap.size + 1 + 1 by omega) _, ?_, ?_⟩
        · have := (M2.out.drewN nq).set k (.int .i64 ((x - y) * loss / 1000))
          rw [vals_set, ← HLA.out, upto5_set _ _ hlt] at this
          rw [HLA.out] at this
          exact this
        · exact ((below_drewN MB.out nq).setCell (by simp; omega) _)
      case measure => simp [intOf]; omega
    · obtain rfl : k = 5 := by omega
      go_wp2_with (first
        | (refine wpList_load_ints (o := ⟨some 27, _, _, _, _, _⟩) ?_ 120 (.tmp 5) ?_ (w.heap.size + 1 + 1) 0 ?_ 120 (lossL s loss) (lossL s loss) _ M2.out (fun j v h => by simpa using h) Try.underlying120 rfl (by rw [show (lossL s loss).length = 5 from upto5_length _ _]; exact size120) ?_; rfl; rfl; rfl)
        | (refine wpList_store_ints (o := ⟨none, .store 120 _ _, _, _, _, _⟩) ?_ 120 (.tmp 4) (.tmp 27) ?_ (w.heap.size + 1) 0 ?_ 120 [0, 0, 0, 0, 0] (lossL s loss) ?_ M1.out (by rw [show (lossL s loss).length = 5 from upto5_length _ _]; decide) (by rw [show (lossL s loss).length = 5 from upto5_length _ _]; exact size120) ?_; rfl; rfl; rfl; rfl; intro w2 HL2 HO2))
      exact bodyPost_ret (results_ints rfl _ _ (w.heap.size + 1) 120 (lossL s loss) _ rfl (by have := HL2.out; rwa [splice_all (show (lossL s loss).length = 5 from upto5_length _ _)] at this) Try.underlying120 rfl (by rw [show (lossL s loss).length = 5 from upto5_length _ _]; exact size120)) rfl ⟨rfl, HO2.out.below MB.out (by omega)⟩
end
end Go.Proofs.Ytlkdmcdnkoiflaa

/- Truths in memory; course.lifts. -/
namespace Go.Proofs.Ytlkdmcdnkoiflaa
open Go.RowKit Go.Lib

/-- A truth as it lies in memory. -/
structure TrM where
  s : Sv Int
  g : Sv (Sv (Sv Int))
  l : Sv Int
def TrM.cells (t : TrM) : List Value := [.slice t.s.A t.s.l.length t.s.c, .slice t.g.A t.g.l.length t.g.c, .slice t.l.A t.l.l.length t.l.c]
structure TrM.At (t : TrM) (w : World) (B : Nat) : Prop where
  s : Sl w B 1 encI t.s.A t.s.l
  g : Sl w B 1 encV t.g.A t.g.l
  ys : ∀ y, y ∈ t.g.l → Sl w B 1 encV y.A y.l
  rs : ∀ y, y ∈ t.g.l → ∀ r, r ∈ y.l → Sl w B 1 encI r.A r.l
  l : Sl w B 1 encI t.l.A t.l.l
theorem TrM.At.below {t : TrM} {w w' : World} {B B' : Nat} (h : t.At w B) (hb : Below B w w') (hB : B ≤ B') : t.At w' B' :=
  ⟨(h.s.below hb).more hB, (h.g.below hb).more hB, fun y hy => ((h.ys y hy).below hb).more hB, fun y hy r hr => ((h.rs y hy r hr).below hb).more hB, (h.l.below hb).more hB⟩
/-- It is of the form that a plan of n sizes and so many years asks, and in the plan's limits. -/
structure TrM.Fit (t : TrM) (n years : Nat) : Prop where
  s : t.s.l.length = n
  sb : ∀ x, x ∈ t.s.l → 0 ≤ x ∧ x ≤ 1000000
  g : t.g.l.length = years
  gy : ∀ y, y ∈ t.g.l → y.l.length = n
  gr : ∀ y, y ∈ t.g.l → ∀ r, r ∈ y.l → r.l.length = n
  gb : ∀ y, y ∈ t.g.l → ∀ r, r ∈ y.l → ∀ x, x ∈ r.l → 0 ≤ x ∧ x ≤ 5000
  l : t.l.l.length = years
  lb : ∀ x, x ∈ t.l.l → 0 ≤ x ∧ x ≤ 1000

/-- What is lifted of a size from the first f sizes that are planted. -/
def liftAt (pl : List Int) (gr : List (List Int)) (j : Nat) : Nat → Int
  | 0 => 0
  | f + 1 => liftAt pl gr j f + pl.getD f 0 * (gr.getD f []).getD j 0 / 1000
def part (n : Nat) (pl : List Int) (gr : List (List Int)) (f t : Nat) : List Int := (List.range 5).map fun j => if j < n then liftAt pl gr j (if j < t then f + 1 else f) else 0
def liftL (n : Nat) (pl : List Int) (gr : List (List Int)) : List Int := part n pl gr n 0
theorem part_length (n : Nat) (pl : List Int) (gr : List (List Int)) (f t : Nat) : (part n pl gr f t).length = 5 := by simp [part]
theorem part_zero (n : Nat) (pl : List Int) (gr : List (List Int)) : part n pl gr 0 0 = [0, 0, 0, 0, 0] := by
  simp [part, liftAt, List.range, List.range.loop]
theorem part_next (n : Nat) (pl : List Int) (gr : List (List Int)) (f : Nat) : part n pl gr f n = part n pl gr (f + 1) 0 := by
  unfold part
  apply List.map_congr_left
  intro j _
  by_cases h : j < n
  · rw [if_pos h, if_pos h, if_pos h, if_neg (by omega)]
  · rw [if_neg h, if_neg h]
theorem part_at {n : Nat} (pl : List Int) (gr : List (List Int)) {f t j : Nat} (hj : j < n) (hn : n ≤ 5) : (part n pl gr f t)[j]? = some (liftAt pl gr j (if j < t then f + 1 else f)) := by
  have : j < 5 := by omega
  simp [part, this, hj]
theorem part_set {n : Nat} (pl : List Int) (gr : List (List Int)) {f t : Nat} (ht : t < n) (hn : n ≤ 5) : (part n pl gr f t).set t (liftAt pl gr t (f + 1)) = part n pl gr f (t + 1) := by
  apply List.ext_getElem?
  intro i
  rw [List.getElem?_set]
  by_cases h : t = i
  · subst h
    rw [if_pos rfl, part_at pl gr ht hn, if_pos (show t < t + 1 by omega), if_pos (by rw [part_length]; omega)]
  · rw [if_neg h]
    by_cases hi : i < 5
    · simp only [part, List.getElem?_map, List.getElem?_range hi, Option.map_some]
      by_cases h2 : i < t
      · rw [if_pos h2, if_pos (show i < t + 1 by omega)]
      · rw [if_neg h2, if_neg (show ¬ i < t + 1 by omega)]
    · rw [List.getElem?_eq_none (by rw [part_length]; omega), List.getElem?_eq_none (by rw [part_length]; omega)]
/-- The numbers of a row of growth, of what is planted. -/
structure Grown5 (n : Nat) (pl : List Int) (gr : List (List Int)) : Prop where
  pl : ∀ i, i < n → 0 ≤ pl.getD i 0 ∧ pl.getD i 0 ≤ 1000000
  gr : ∀ i j, i < n → j < n → 0 ≤ (gr.getD i []).getD j 0 ∧ (gr.getD i []).getD j 0 ≤ 5000
theorem mul_bd2 {a b : Int} (h0 : 0 ≤ a) (h1 : a ≤ 1000000) (h2 : 0 ≤ b) (h3 : b ≤ 5000) : 0 ≤ a * b ∧ a * b ≤ 5000000000 := by
  refine ⟨Int.mul_nonneg h0 h2, ?_⟩
  have := Int.mul_le_mul h1 h3 h2 (by omega)
  omega
theorem liftAt_bd {n : Nat} {pl : List Int} {gr : List (List Int)} (h : Grown5 n pl gr) {j : Nat} (hj : j < n) : ∀ f : Nat, f ≤ n → 0 ≤ liftAt pl gr j f ∧ liftAt pl gr j f ≤ 5000000 * (f : Int)
  | 0, _ => by simp [liftAt]
  | f + 1, hf => by
    have ih := liftAt_bd h hj f (by omega)
    have hm := mul_bd2 (h.pl f (by omega)).1 (h.pl f (by omega)).2 (h.gr f j (by omega) hj).1 (h.gr f j (by omega) hj).2
    simp only [liftAt]
    omega

/-- The memory of lifts, when f sizes are through, and k of the next one. -/
structure LM (p : PlM) (t : TrM) (gr : List (List Int)) (pl : List Int) (w : World) (f k : Nat) (wr : World) : Prop where
  c : Lies wr w.heap.size 117 (p.cells ++ t.cells).toArray
  d : Lies wr (w.heap.size + 1) 120 (vals pl)
  z : Lies wr (w.heap.size + 1 + 1) 120 (vals [0, 0, 0, 0, 0])
  l : Lies wr (w.heap.size + 1 + 1 + 1) 120 (vals (part p.s.l.length pl gr f k))
  b : Below w.heap.size w wr
theorem LM.next {p : PlM} {t : TrM} {gr : List (List Int)} {pl : List Int} {w wr : World} {f k : Nat} (h : LM p t gr pl w f k wr) (hk : k < p.s.l.length) (hn : p.s.l.length ≤ 5) (n : Nat) :
    LM p t gr pl w f (k + 1) ((wr.drewN n).setCell ⟨w.heap.size + 1 + 1 + 1, k, none⟩ (.int .i64 (liftAt pl gr k (f + 1)))) :=
  ⟨(h.c.drewN n).other (show w.heap.size ≠ w.heap.size + 1 + 1 + 1 by omega) _, (h.d.drewN n).other (show w.heap.size + 1 ≠ w.heap.size + 1 + 1 + 1 by omega) _, (h.z.drewN n).other (show w.heap.size + 1 + 1 ≠ w.heap.size + 1 + 1 + 1 by omega) _,
    by have := (h.l.drewN n).set k (.int .i64 (liftAt pl gr k (f + 1))); rwa [vals_set, part_set pl gr hk hn] at this, (below_drewN h.b n).setCell (by show w.heap.size ≤ w.heap.size + 1 + 1 + 1; omega) _⟩
theorem LM.line {p : PlM} {t : TrM} {gr : List (List Int)} {pl : List Int} {w wr : World} {f : Nat} (h : LM p t gr pl w f p.s.l.length wr) : LM p t gr pl w (f + 1) 0 wr :=
  ⟨h.c, h.d, h.z, by rw [← part_next]; exact h.l, h.b⟩

set_option maxRecDepth 100000 in
set_option maxHeartbeats 2000000 in
theorem lifts_any (p : PlM) (t : TrM) (year : Nat) (y : Sv (Sv Int)) (pl : List Int) (w : World) (ht : t.At w w.heap.size) (hy : t.g.l[year]? = some y) (hn : p.s.l.length ≤ 5) (hyn : y.l.length = p.s.l.length)
    (hyr : ∀ r, r ∈ y.l → r.l.length = p.s.l.length) (hG : Grown5 p.s.l.length pl (y.l.map (·.l))) (hpl : pl.length = 5) (_hyear : t.g.l.length ≤ 1000000) :
    Calls Try.prog 122 #[.agg (p.cells ++ t.cells).toArray, .int .i64 year, .agg (vals pl)] w fun e w' => e = .returned (.agg (vals (liftL p.s.l.length pl (y.l.map (·.l))))) ∧ Below w.heap.size w w' := by
  generalize hgr : y.l.map (·.l) = gr at hG ⊢
  have HGR := Lib.hid hgr
  clear hgr
  have l0 : Lies ((((w.alloc (.cells (p.cells ++ t.cells).toArray 117)).alloc (.cells (vals pl) 120)).alloc (.cells (vals [0, 0, 0, 0, 0]) 120)).alloc (.cells (vals [0, 0, 0, 0, 0]) 120)) w.heap.size 117 (p.cells ++ t.cells).toArray := (((Lies.fresh' rfl).alloc _).alloc _).alloc _
  have l1 : Lies ((((w.alloc (.cells (p.cells ++ t.cells).toArray 117)).alloc (.cells (vals pl) 120)).alloc (.cells (vals [0, 0, 0, 0, 0]) 120)).alloc (.cells (vals [0, 0, 0, 0, 0]) 120)) (w.heap.size + 1) 120 (vals pl) := ((Lies.fresh' (by simp)).alloc _).alloc _
  have l2 : Lies ((((w.alloc (.cells (p.cells ++ t.cells).toArray 117)).alloc (.cells (vals pl) 120)).alloc (.cells (vals [0, 0, 0, 0, 0]) 120)).alloc (.cells (vals [0, 0, 0, 0, 0]) 120)) (w.heap.size + 1 + 1) 120 (vals [0, 0, 0, 0, 0]) := (Lies.fresh' (by simp)).alloc _
  have l3 : Lies ((((w.alloc (.cells (p.cells ++ t.cells).toArray 117)).alloc (.cells (vals pl) 120)).alloc (.cells (vals [0, 0, 0, 0, 0]) 120)).alloc (.cells (vals [0, 0, 0, 0, 0]) 120)) (w.heap.size + 1 + 1 + 1) 120 (vals (part p.s.l.length pl gr 0 0)) := by rw [part_zero]; exact Lies.fresh' (by simp)
  have lb : Below w.heap.size w ((((w.alloc (.cells (p.cells ++ t.cells).toArray 117)).alloc (.cells (vals pl) 120)).alloc (.cells (vals [0, 0, 0, 0, 0]) 120)).alloc (.cells (vals [0, 0, 0, 0, 0]) 120)) := (by repeat (first | (with_reducible assumption) | (with_reducible exact Below.refl _ _) | (with_reducible refine Below.drew ?_) | (with_reducible refine below_drewN ?_ _) | ((with_reducible refine Below.setCell ?_ ?_ _); rotate_left; focus (first | (simp; done) | (simp; omega) | omega)) | ((with_reducible refine Below.alloc ?_ ?_ _); rotate_left; focus (first | (simp; done) | (simp; omega) | omega))))
  have LL := Lib.hid (LM.mk (gr := gr) (f := 0) (k := 0) l0 l1 l2 l3 lb)
  have HT := Lib.hid ht
  have HY := Lib.hid hy
  have HYN := Lib.hid hyn
  have HYR := Lib.hid hyr
  have HG := Lib.hid hG
  have HPL := Lib.hid hpl
  have hyl : year < t.g.l.length := (List.getElem?_eq_some_iff.1 hy).1
  clear l0 l1 l2 l3 lb ht hy hyn hyr hG hpl
  unfold PlM.cells TrM.cells
  go_enter Try.func122, Try.ntmps122
  go_wp2
  go_loopw [9, 10, 16, 19, 20] (fun _ _ s16 _ _ wr => ∃ f : Nat, f ≤ p.s.l.length ∧ s16 = .int .i64 f ∧ Aside (LM p t gr pl w f 0 wr)) (fun _ _ i _ _ _ => p.s.l.length - (intOf i).toNat)
  case atStart => exact ⟨0, by omega, rfl, LL.out⟩
  case round =>
    obtain ⟨f, hf, rfl, M⟩ := hrel
    by_cases hlt : f < p.s.l.length
    · have hltz : (f : Int) < (p.s.l.length : Int) := by omega
      have hf0 : (0 : Int) ≤ (f : Int) := by omega
      obtain ⟨wo, rfl⟩ : ∃ wo : World, wo = wr := ⟨_, rfl⟩
      go_wp2
      go_loopw [10, 20] (fun _ s20 wr => ∃ k : Nat, k ≤ p.s.l.length ∧ s20 = .int .i64 k ∧ Aside (LM p t gr pl w f k wr)) (fun _ i _ => p.s.l.length - (intOf i).toNat)
      case atStart => exact ⟨0, by omega, rfl, M.out⟩
      case round =>
        obtain ⟨k, hk, rfl, N⟩ := hrel
        by_cases hlk : k < p.s.l.length
        · have hlkz : (k : Int) < (p.s.l.length : Int) := by omega
          have hk0 : (0 : Int) ≤ (k : Int) := by omega
          have hk5 : (k : Int) < 5 := by omega
          have hf5 : (f : Int) < 5 := by omega
          have hy0 : (0 : Int) ≤ (year : Int) := by omega
          have hyz : (year : Int) < (t.g.l.length : Int) := by omega
          obtain ⟨bg, og, eg, hbg, cg⟩ := HT.out.g.cell1 HY.out
          have hym := List.mem_of_getElem? HY.out
          obtain ⟨r, hr⟩ : ∃ r, y.l[f]? = some r := ⟨y.l[f]'(by rw [HYN.out]; exact hlt), by simp⟩
          have hrm := List.mem_of_getElem? hr
          have hfy : (f : Int) < (y.l.length : Int) := by have := HYN.out; omega
          have hrl := HYR.out r hrm
          have hkr : (k : Int) < (r.l.length : Int) := by omega
          obtain ⟨by', oy, ey, hby, cy⟩ := (HT.out.ys y hym).cell1 hr
          obtain ⟨x, hx⟩ : ∃ x, r.l[k]? = some x := ⟨r.l[k]'(by rw [hrl]; exact hlk), by simp⟩
          obtain ⟨br, or', er, hbr, cr⟩ := (HT.out.rs y hym r hrm).cell1 hx
          have d0 : wr.cell? ⟨w.heap.size, 9, none⟩ = some (.slice (some ⟨bg, og, none⟩) t.g.l.length t.g.c) := by rw [← eg]; exact N.out.c.at_ 9
          have d1 : wr.cell? ⟨bg, og + year, none⟩ = some (.slice (some ⟨by', oy, none⟩) y.l.length y.c) := by rw [N.out.b.cell (p := ⟨bg, og + year, none⟩) hbg, cg, ← ey]; rfl
          have d2 : wr.cell? ⟨by', oy + f, none⟩ = some (.slice (some ⟨br, or', none⟩) r.l.length r.c) := by rw [N.out.b.cell (p := ⟨by', oy + f, none⟩) hby, cy, ← er]; rfl
          have d3 : wr.cell? ⟨br, or' + k, none⟩ = some (.int .i64 x) := by rw [N.out.b.cell (p := ⟨br, or' + k, none⟩) hbr, cr]
          have d4 : wr.cell? ⟨w.heap.size + 1, f, none⟩ = some (.int .i64 (pl.getD f 0)) := by rw [N.out.d.at_]; exact vals_at (getD_some (by rw [HPL.out]; omega))
          have d5 : wr.cell? ⟨w.heap.size + 1 + 1 + 1, k, none⟩ = some (.int .i64 (liftAt pl gr k f)) := by
            rw [N.out.l.at_]
            have := part_at (f := f) (t := k) pl gr hlk hn
            rw [if_neg (by omega)] at this
            exact vals_at this
          have f5 := N.out.l.free k
          have hb1 := liftAt_bd HG.out hlk f (by omega)
          have hgx : (gr.getD f []).getD k 0 = x := by rw [← HGR.out]; simp [List.getD, hr, hx]
          have hg2 := HG.out.gr f k hlt hlk
          rw [hgx] at hg2
          have hp2 := HG.out.pl f hlt
          have hm := mul_bd2 hp2.1 hp2.2 hg2.1 hg2.2
          have hstep : liftAt pl gr k (f + 1) = liftAt pl gr k f + pl.getD f 0 * x / 1000 := by rw [← hgx]; rfl
          have HST := Lib.hid hstep
          clear hstep hgx cg cy cr hr hx hym hrm hrl eg ey er
          generalize liftAt pl gr k f = lf at *
          generalize pl.getD f 0 = pf at *
          go_wp2
          go_still_tail 22, (by kernel_rfl)
          have w1 : IntKind.i64.wrap (pf * x) = pf * x := IntWalk.i64_in _ (by omega)
          have w2 : (pf * x).tdiv 1000 = pf * x / 1000 := Int.tdiv_eq_ediv_of_nonneg hm.1
          have w3 : IntKind.i64.wrap (pf * x / 1000) = pf * x / 1000 := IntWalk.i64_in _ (by omega)
          have w4 : IntKind.i64.wrap (lf + pf * x / 1000) = lf + pf * x / 1000 := IntWalk.i64_in _ (by omega)
          rw [w1, w2, w3, w4]
          clear w1 w2 w3 w4
          rw [← HST.out]
          change wpList _ _ _ _ _ (wr.drewN 1)
          go_wp2
          go_roundw
          case rel => exact ⟨k + 1, by omega, by go_num, N.out.next hlk hn 1⟩
          case measure => simp [intOf]; omega
        · obtain rfl : k = p.s.l.length := by omega
          go_wp2
          go_roundw
          case rel => exact ⟨f + 1, by omega, by go_num, N.out.line⟩
          case measure => simp [intOf]; omega
    · obtain rfl : f = p.s.l.length := by omega
      have hL := part_length p.s.l.length pl gr p.s.l.length 0
      have HL := Lib.hid hL
      clear hL
      go_wp2_with (first
        | (refine wpList_load_ints (o := ⟨some 47, _, _, _, _, _⟩) ?_ 120 (.tmp 7) ?_ (w.heap.size + 1 + 1 + 1) 0 ?_ 120 (liftL p.s.l.length pl gr) (liftL p.s.l.length pl gr) _ M.out.l (fun j v h => by simpa using h) Try.underlying120 rfl (by rw [show (liftL p.s.l.length pl gr).length = 5 from HL.out]; exact size120) ?_; rfl; rfl; rfl)
        | (refine wpList_store_ints (o := ⟨none, .store 120 _ _, _, _, _, _⟩) ?_ 120 (.tmp 6) (.tmp 47) ?_ (w.heap.size + 1 + 1) 0 ?_ 120 [0, 0, 0, 0, 0] (liftL p.s.l.length pl gr) ?_ M.out.z (by rw [show (liftL p.s.l.length pl gr).length = 5 from HL.out]; decide) (by rw [show (liftL p.s.l.length pl gr).length = 5 from HL.out]; exact size120) ?_; rfl; rfl; rfl; rfl; intro w2 HL2 HO2))
      exact bodyPost_ret (results_ints rfl _ _ (w.heap.size + 1 + 1) 120 (liftL p.s.l.length pl gr) _ rfl (by have := HL2.out; rwa [splice_all (show (liftL p.s.l.length pl gr).length = 5 from HL.out)] at this) Try.underlying120 rfl (by rw [show (liftL p.s.l.length pl gr).length = 5 from HL.out]; exact size120)) rfl ⟨rfl, HO2.out.below M.out.b (by omega)⟩
end Go.Proofs.Ytlkdmcdnkoiflaa
