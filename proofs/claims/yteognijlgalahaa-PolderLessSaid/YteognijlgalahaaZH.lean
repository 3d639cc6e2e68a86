/- Rows of one's own among other blocks. -/
import Derived.Test.YteognijlgalahaaB2
import Derived.Deep.RegionLaw
namespace Go.Proofs.Yteognijlgalahaa
open Go.RowKit Go.Lib
section
variable {w w' : World}
theorem own_at {base : Nat} {e : TypeId} {size : Nat} {v : Value} {n : Nat} {xs : List Value} {g : Nat} (h : w.ownsRow base e size v n xs) (hv : v.ownBlock = some g) : base ≤ g ∧ g < w.heap.size ∧ ∃ cs, Lies w g e cs := by
  rcases h.2 with ⟨rfl, _⟩ | ⟨g', cap, cur, rfl, hb, hg, _⟩
  · cases hv
  · cases hv
    exact ⟨hb, (Array.getElem?_eq_some_iff.1 hg).1, cur, hg⟩
theorem own_keep {base : Nat} {e : TypeId} {size : Nat} {v : Value} {n : Nat} {xs : List Value} (h : w.ownsRow base e size v n xs) (hk : ∀ g, v.ownBlock = some g → w'.heap[g]? = w.heap[g]?) : w'.ownsRow base e size v n xs := by
  refine ⟨h.1, ?_⟩
  rcases h.2 with hn | ⟨g, cap, cur, rfl, hb, hg, rest⟩
  · exact .inl hn
  · exact .inr ⟨g, cap, cur, rfl, hb, (hk g rfl).trans hg, rest⟩
theorem lies_ne {g k : Nat} {t e : TypeId} {cs cs' : Array Value} (h : Lies w g t cs) (h' : Lies w k e cs') (ht : t ≠ e) : g ≠ k := by
  rintro rfl
  unfold Lies at h h'
  rw [h] at h'
  cases h'
  exact ht rfl
/-- Rows of another type are as they were when a row grows. -/
theorem own_other {base base2 : Nat} {e e2 : TypeId} {size size2 : Nat} {v v2 : Value} {n n2 : Nat} {xs xs2 : List Value} (h : w.ownsRow base e size v n xs) (h2 : w.ownsRow base2 e2 size2 v2 n2 xs2) (he : e ≠ e2) (hg : w.grownBy w' v2.ownBlock) : w'.ownsRow base e size v n xs :=
  own_keep h fun g hv => by
    obtain ⟨_, hlt, cs, hl⟩ := own_at h hv
    refine hg.block g hlt (fun e' => ?_)
    obtain ⟨_, _, cs2, hl2⟩ := own_at h2 e'.symm
    exact lies_ne hl hl2 he rfl
theorem own_set {base g i : Nat} {e t : TypeId} {size : Nat} {v : Value} {n : Nat} {xs : List Value} {cs : Array Value} (h : w.ownsRow base e size v n xs) (hl : Lies w g t cs) (he : e ≠ t) (u : Value) : (w.setCell ⟨g, i, none⟩ u).ownsRow base e size v n xs :=
  own_keep h fun k hv => by
    obtain ⟨_, _, cs', hl'⟩ := own_at h hv
    exact heap_setCell_other _ _ _ _ (lies_ne hl' hl he)
theorem own_fit {base : Nat} {e : TypeId} {size : Nat} {v : Value} {n : Nat} {xs : List Value} (h : w.ownsRow base e size v n xs) {G : Nat} {t : TypeId} {cs : Array Value} (hl : Lies w G t cs) (he : e ≠ t) : ∀ g, v.ownBlock = some g → g ≠ G := fun g hv => by
  obtain ⟨_, _, cs', hl'⟩ := own_at h hv
  exact lies_ne hl' hl he
end

/-- The store of a whole aggregate into a block that lies. -/
theorem wpList_store_cells {P : Program} {w : World} {ops : Array Oper} {rest : List Oper} {o : Oper} {a : Act} {Q : Exit → Act → World → Prop} (hgd : o.guard = none) (ty : TypeId) (x y : Operand) (ho : o.op = .store ty x y) (g off : Nat) (hx : a.eval x = .pointer (some ⟨g, off, none⟩)) (t : TypeId) (l vs : List Value)
    (hy : a.eval y = .agg vs.toArray) (hl : Lies w g t l.toArray) (hf : off + vs.length ≤ l.length) (hi : (P.info? ty).map (·.size) = some vs.length) (h1 : ∀ v ∈ vs, v.oneCell' = true)
    (h : ∀ w', Hid (Lies w' g t (splice l off vs).toArray) → Hid (Only g w w') → wpList P ops Q rest (a.put o.dst undef) w') : wpList P ops Q (o :: rest) a w := by
  have hS := Lies.setCells vs off w l hl (by simpa using hf)
  refine wpList_store_mid hgd ty x y ho g off vs.toArray hx hy ?_ (by simpa using hi) (all_oneCell_toArray h1) (h _ ?_ ?_)
  · simpa using Lies.there (o := off) (n := vs.length) hl (by simpa using hf)
  · show Lies _ _ _ _
    simpa using hS.1
  · show Only _ _ _
    simpa using hS.2
theorem splice_whole {cur l : List Value} (h : l.length = cur.length) : splice cur 0 l = l := by unfold splice; simp [h]


theorem own_only {w w' : World} {base g : Nat} {e t : TypeId} {size : Nat} {v : Value} {n : Nat} {xs : List Value} {cs : Array Value} (h : w.ownsRow base e size v n xs) (hl : Lies w g t cs) (he : e ≠ t) (ho : Only g w w') : w'.ownsRow base e size v n xs :=
  own_keep h fun k hv => ho.block k (own_fit h hl he k hv)
end Go.Proofs.Yteognijlgalahaa
