/- Several rows of one's own, apart from one another, in worlds that grow. -/
import Derived.Test.YteognijlgalahaaTW
import Derived.Test.YteognijlgalahaaZH
import Derived.Deep.RegionLaw
namespace Go.Proofs.Yteognijlgalahaa
open Go.RowKit Go.Lib

/-- A row of one's own, as a word. -/
structure RowO where
  B : Nat
  e : TypeId
  s : Nat
  v : Value
  n : Nat
  xs : List Value
def RowO.In (r : RowO) (w : World) : Prop := w.ownsRow r.B r.e r.s r.v r.n r.xs
/-- What has come of a world with the rows l0: the rows l; all else of old is as it was. -/
structure Since (w0 : World) (l0 l : List RowO) (w : World) : Prop where
  os : w.os = w0.os
  tape : w.tape = w0.tape
  output : w.output = w0.output
  size : w0.heap.size ≤ w.heap.size
  block : ∀ k, k < w0.heap.size → (∀ r : RowO, r ∈ l0 → r.v.ownBlock ≠ some k) → w.heap[k]? = w0.heap[k]?
  come : ∀ r : RowO, r ∈ l → ∀ g, r.v.ownBlock = some g → (∃ r0 : RowO, r0 ∈ l0 ∧ r0.v.ownBlock = some g) ∨ w0.heap.size ≤ g
  own : ∀ (i : Nat) (r : RowO), l[i]? = some r → r.In w
  ne : ∀ (i j : Nat) (r r' : RowO), l[i]? = some r → l[j]? = some r' → i ≠ j → ∀ g, r.v.ownBlock = some g → r'.v.ownBlock ≠ some g
namespace Since
variable {w0 w w' : World} {l0 l : List RowO}
theorem start (h : ∀ (i : Nat) (r : RowO), l0[i]? = some r → r.In w0) (hne : ∀ (i j : Nat) (r r' : RowO), l0[i]? = some r → l0[j]? = some r' → i ≠ j → ∀ g, r.v.ownBlock = some g → r'.v.ownBlock ≠ some g) : Since w0 l0 l0 w0 :=
  ⟨rfl, rfl, rfl, Nat.le_refl _, fun _ _ _ => rfl, fun r hr _g hg => .inl ⟨r, hr, hg⟩, h, hne⟩
theorem drew (h : Since w0 l0 l w) : Since w0 l0 l w.drew := ⟨h.os, h.tape, h.output, h.size, h.block, h.come, h.own, h.ne⟩
theorem call (h : Since w0 l0 l w) (hb : Below w.heap.size w w') : Since w0 l0 l w' :=
  ⟨hb.os.trans h.os, hb.tape.trans h.tape, hb.output.trans h.output, Nat.le_trans h.size hb.size, fun k hk hn => (hb.block k (Nat.lt_of_lt_of_le hk h.size)).trans (h.block k hk hn), h.come, fun i r hr => ownsRow_call (h.own i r hr) hb, h.ne⟩
theorem alloc (h : Since w0 l0 l w) (o : Obj) : Since w0 l0 l (w.alloc o) := h.call ((Below.refl _ _).alloc (Nat.le_refl _) _)
/-- An append to row i. -/
theorem app (h : Since w0 l0 l w) {i : Nat} {r : RowO} (hi : l[i]? = some r) {g m c : Nat} {xs : List Value} (hown : w'.ownsRow r.B r.e r.s (.slice (some ⟨g, 0, none⟩) m c) m xs) (hg : w.grownBy w' r.v.ownBlock) (hat : r.v.ownBlock = some g ∨ g = w.heap.size) :
    Since w0 l0 (l.set i ⟨r.B, r.e, r.s, .slice (some ⟨g, 0, none⟩) m c, m, xs⟩) w' := by
  have hlt : i < l.length := (List.getElem?_eq_some_iff.1 hi).1
  have hmem : r ∈ l := List.mem_of_getElem? hi
  have hgb : ∀ b, (Value.slice (some ⟨g, 0, none⟩) m c).ownBlock = some b → b = g := fun b e => by cases e; rfl
  have old : ∀ (j : Nat) (r' : RowO), l[j]? = some r' → j ≠ i → ∀ b, r'.v.ownBlock = some b → some b ≠ r.v.ownBlock ∧ b ≠ g := fun j r' hj hji b hb => by
    refine ⟨fun e => h.ne i j r r' hi hj (Ne.symm hji) b e.symm hb, fun e => ?_⟩
    subst e
    rcases hat with h1 | h1
    · exact h.ne i j r r' hi hj (Ne.symm hji) _ h1 hb
    · have := (own_at (h.own j r' hj) hb).2.1; omega
  refine ⟨hg.os.trans h.os, hg.tape.trans h.tape, hg.output.trans h.output, Nat.le_trans h.size hg.size, fun k hk hn => ?_, fun q hq b hb => ?_, fun j q hj => ?_, fun j j' q q' hj hj' hjj b hb => ?_⟩
  · rw [hg.block k (Nat.lt_of_lt_of_le hk h.size) (fun e => ?_), h.block k hk hn]
    rcases h.come r hmem k e.symm with ⟨r0, h0, h1⟩ | h1
    · exact hn r0 h0 h1
    · omega
  · obtain ⟨j, hj⟩ := List.getElem?_of_mem hq
    rw [List.getElem?_set] at hj
    by_cases hij : i = j
    · rw [if_pos hij, if_pos hlt] at hj
      cases hj
      obtain rfl := hgb b hb
      rcases hat with h1 | h1
      · exact h.come r hmem _ h1
      · right; have := h.size; omega
    · rw [if_neg hij] at hj
      exact h.come q (List.mem_of_getElem? hj) b hb
  · rw [List.getElem?_set] at hj
    by_cases hij : i = j
    · rw [if_pos hij, if_pos hlt] at hj
      cases hj
      exact hown
    · rw [if_neg hij] at hj
      exact own_keep (h.own j q hj) fun b hb => hg.block b (own_at (h.own j q hj) hb).2.1 (old j q hj (Ne.symm hij) b hb).1
  · rw [List.getElem?_set] at hj hj'
    by_cases hij : i = j
    · rw [if_pos hij, if_pos hlt] at hj
      cases hj
      rw [if_neg (by omega)] at hj'
      obtain rfl := hgb b hb
      exact fun e => (old j' q' hj' (by omega) _ e).2 rfl
    · rw [if_neg hij] at hj
      by_cases hij' : i = j'
      · rw [if_pos hij', if_pos hlt] at hj'
        cases hj'
        exact fun e => (old j q hj (by omega) b hb).2 (hgb b e)
      · rw [if_neg hij'] at hj'
        exact h.ne j j' q q' hj hj' hjj b hb
theorem lies {k : Nat} {t : TypeId} {cs : Array Value} (h : Since w0 l0 l w) (hl : Lies w0 k t cs) (hn : ∀ r : RowO, r ∈ l0 → r.v.ownBlock ≠ some k) : Lies w k t cs := hl.to_ (h.block k hl.in_ hn)
theorem cell {p : Addr} {v : Value} (h : Since w0 l0 l w) (hc : w0.cell? p = some v) (hn : ∀ r : RowO, r ∈ l0 → r.v.ownBlock ≠ some p.block) : w.cell? p = some v :=
  (World.cell?_of_block (w := w0) (h.block p.block (World.block_lt_of_cell? w0 _ hc) hn)).trans hc
theorem below {B : Nat} (h : Since w0 l0 l w) (hB : ∀ r : RowO, r ∈ l0 → ∀ g, r.v.ownBlock = some g → B ≤ g) (hs : B ≤ w0.heap.size) : Below B w0 w :=
  ⟨h.os, h.tape, h.output, h.size, fun k hk => h.block k (by omega) (fun r hr e => by have := hB r hr k e; omega)⟩
end Since
/-- The worlds that have come of w0, as a class. -/
structure SinceW (w0 : World) (l0 : List RowO) where
  val : World
  l : List RowO
  h : Since w0 l0 l val
theorem SinceW.cell {w0 : World} {l0 : List RowO} {p : Addr} {v : Value} (hc : w0.cell? p = some v) (hn : ∀ r : RowO, r ∈ l0 → r.v.ownBlock ≠ some p.block) (c : SinceW w0 l0) : c.val.cell? p = some v := c.h.cell hc hn
theorem Since.here {w0 w : World} {l0 l : List RowO} (h : Since w0 l0 l w) : ∃ c : SinceW w0 l0, w = c.val := ⟨⟨w, l, h⟩, rfl⟩
end Go.Proofs.Yteognijlgalahaa
