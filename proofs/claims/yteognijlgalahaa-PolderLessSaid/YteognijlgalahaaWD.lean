/- Small words: rows of one's own of integers. -/
import Derived.Test.YteognijlgalahaaOW
import Derived.Test.YteognijlgalahaaWYW
import Derived.Test.YteognijlgalahaaBN
namespace Go.Proofs.Yteognijlgalahaa
open Go.RowKit Go.Lib

theorem splice_all {cur l : List Int} (h : l.length = cur.length) : splice cur 0 l = l := by unfold splice; simp [h]
theorem info_int : (Try.prog.info? 3).map (fun i => (i.zero, i.size, i.bytes)) = some (some (.int .i64 0), 1, 8) := by kernel_rfl
theorem own_nil {w : World} {base k : Nat} {e : TypeId} {A : Option Addr} {n c : Nat} {xs : List Value} (h : w.ownsRow base e k (.slice A n c) n xs) : A = none → n = 0 ∧ c = 0 := by
  rintro rfl
  obtain ⟨_, h1⟩ := h
  rcases h1 with ⟨e1, h0⟩ | ⟨g, cap, cur, e1, _⟩
  · injection e1 with _ _ e3
    exact ⟨h0, e3⟩
  · injection e1 with e2; cases e2
theorem lies_q {V : World} {b : Nat} {q : List Int} (h : Lies V b 3 (vals q)) : Sl V V.heap.size 1 encI (some ⟨b, 0, none⟩) q := fun _ =>
  ⟨b, 0, rfl, h.in_, fun i x hx j u hu => by
    obtain rfl : j = 0 := by
      have := (List.getElem?_eq_some_iff.1 hu).1
      simp [encI] at this; exact this
    have hu' : u = .int .i64 x := by simpa [encI] using hu.symm
    subst hu'
    rw [Nat.zero_add, Nat.mul_one, Nat.add_zero, h.at_]
    simp [vals, hx]⟩
theorem sl_of_lies {α : Type} {w : World} {g k : Nat} {t : TypeId} {enc : α → List Value} {l : List α} (hk : ∀ x, (enc x).length = k) (h : Lies w g t (l.flatMap enc).toArray) : Sl w w.heap.size k enc (some ⟨g, 0, none⟩) l := fun _ =>
  ⟨g, 0, rfl, h.in_, fun i x hx j u hu => by
    have hj : j < k := by rw [← hk x]; exact (List.getElem?_eq_some_iff.1 hu).1
    rw [h.at_]
    rw [Nat.zero_add, List.getElem?_toArray, flat_at hk hx hj]
    exact hu⟩
/-- append of numbers to a row of one's own. -/
theorem wpList_app_ints {ops : Array Oper} {rest : List Oper} {o : Oper} {a : Act} {w : World} {Q : Exit → Act → World → Prop} (hgd : o.guard = none) (s x : Operand) (ho : o.op = .call { callee := .builtin .append, args := #[s, x], argTypes := #[42, 42] })
    (base : Nat) (v : Value) (xs : List Int) (hs : a.eval s = v) (hown : w.ownsRow base 3 1 v xs.length (xs.flatMap encI)) (A : Option Addr) (c : Nat) (ys : List Int) (hx : a.eval x = .slice A ys.length c) (hA : A = none → ys.length = 0 ∧ c = 0) (hy : Sl w w.heap.size 1 encI A ys) (hl : xs.length + ys.length ≤ 1000) (hb : base ≤ w.heap.size)
    (h : ∀ v' w', w'.ownsRow base 3 1 v' (xs ++ ys).length ((xs ++ ys).flatMap encI) → Below base w w' → w.grownBy w' v.ownBlock → wpList Try.prog ops Q rest (a.put o.dst v') w') : wpList Try.prog ops Q (o :: rest) a w := by
  obtain ⟨i0, hi, hz0, hz1, hz2⟩ := info_parts info_int
  have hln : (ys.flatMap encI).length = ys.length * 1 := flat_len (enc := encI) (fun _ => rfl) _
  have h1c : ∀ u ∈ ys.flatMap encI, u.oneCell' = true := fun u hu => by
    obtain ⟨z, _, hz⟩ := List.mem_flatMap.1 hu
    simp [encI] at hz; subst hz; rfl
  refine wpList_append_sl hgd s x 42 ho base 3 i0 _ 1 8 Try.underlying42 hi hz0 hz1 hz2 rfl (by decide) v xs.length _ hs hown A ys.length c (ys.flatMap encI) hx hln hA (hy.news (enc := encI) (fun _ => rfl)) h1c (by unfold maxLen; omega) (by omega) hb ?_
  intro v' w' hown' hg _
  refine h v' w' (by rw [List.length_append, List.flatMap_append]; exact hown') ((Below.refl base w).grown hg hb (fun k e => (hown.lt k e).1)) hg
/-- A struct or an array is built: by what the program's tables say of its parts. -/
theorem wpList_build {P : Program} {w : World} {ops : Array Oper} {rest : List Oper} {o : Oper} {a : Act} {Q : Exit → Act → World → Prop} (hgd : o.guard = none) (t : TypeId) (parts : Array (Nat × Operand)) (ho : o.op = .build t parts)
    (vs : Array (Nat × Value)) (hv : parts.map (fun p => (p.1, a.eval p.2)) = vs) (cells : Array Value) (h : P.built t vs.toList = some cells) (hk : wpList P ops Q rest (a.put o.dst (.agg cells)) w) : wpList P ops Q (o :: rest) a w := by
  refine wpList_plain hgd fun K hK => ?_
  subst hv
  have hrun := run_build (P := P) w t _ cells h
  unfold Oper.wp
  simp [execOp, ho, hrun, Result.andThen]
  exact hK _ _ hk
end Go.Proofs.Yteognijlgalahaa
