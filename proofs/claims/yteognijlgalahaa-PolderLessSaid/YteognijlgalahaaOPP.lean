/- A polder that came in, opened. -/
import Derived.Test.YteognijlgalahaaPY
import Derived.Test.YteognijlgalahaaOPN
namespace Go.Proofs.Yteognijlgalahaa
open Go.ChangeShapes Go.WideShapes Go.ChangeAt Go.RowKit

theorem len2 {α : Type} : ∀ {l : List α}, l.length = 2 → ∃ a b, l = [a, b]
  | [a, b], _ => ⟨a, b, rfl⟩
theorem len5 {α : Type} : ∀ {l : List α}, l.length = 5 → ∃ a b c d e, l = [a, b, c, d, e]
  | [a, b, c, d, e], _ => ⟨a, b, c, d, e, rfl⟩
theorem len7 {α : Type} : ∀ {l : List α}, l.length = 7 → ∃ a b c d e f g, l = [a, b, c, d, e, f, g]
  | [a, b, c, d, e, f, g], _ => ⟨a, b, c, d, e, f, g, rfl⟩
section
variable {H : Type} {enc : TypeId × Value → H} {w : World} {fuel : Nat} {cs : List Value} {x : DataW H × List MemPlace}
theorem cI : Try.prog.cellsOf 3 = 1 := by kernel_rfl
theorem cRg : Try.prog.cellsOf 23 = 2 := by kernel_rfl
theorem cDy : Try.prog.cellsOf 76 = 5 := by kernel_rfl
theorem cSD : Try.prog.cellsOf 24 = 1 := by kernel_rfl
theorem cPo : Try.prog.cellsOf 26 = 7 := by kernel_rfl
theorem open_range (h : DataW.trod enc Try.prog w 0 (fun _ => true) true fuel 23 cs = some x) : ∃ a b : Int, cs = [.int .i64 a, .int .i64 b] := by
  obtain ⟨xs, n, _, _, hl, hxs, hf⟩ := DataW.trod_struct Try.underlying23 h
  obtain ⟨c0, c1, rfl⟩ := len2 (hl.trans cRg)
  clear hl
  have h0 := hf 0 _ rfl
  have h1 := hf 1 _ rfl
  simp only [List.getElem_toArray, List.getElem_cons_zero, List.getElem_cons_succ, cI, List.drop_zero, List.take_succ_cons, List.take_zero, List.drop_succ_cons] at h0 h1
  have el : ∀ i, i < 2 → ∃ z, xs[i]? = some z := fun i hi => ⟨xs[i]'(by rw [hxs]; exact hi), by simp⟩
  obtain ⟨z0, e0⟩ := el 0 (by decide)
  obtain ⟨z1, e1⟩ := el 1 (by decide)
  rw [e0] at h0
  rw [e1] at h1
  obtain ⟨a, ha, _⟩ := open_num Try.underlying3 h0
  obtain ⟨b, hb, _⟩ := open_num Try.underlying3 h1
  simp only [List.cons.injEq, and_true] at ha hb
  subst ha; subst hb
  exact ⟨a, b, rfl⟩
theorem open_day (h : DataW.trod enc Try.prog w 0 (fun _ => true) true fuel 76 cs = some x) : ∃ y : Dy, cs = encD y ∧ True := by
  obtain ⟨xs, n, _, _, hl, hxs, hf⟩ := DataW.trod_struct Try.underlying76 h
  obtain ⟨c0, c1, c2, c3, c4, rfl⟩ := len5 (hl.trans cDy)
  clear hl
  have h0 := hf 0 _ rfl
  have h1 := hf 1 _ rfl
  have h2 := hf 2 _ rfl
  have h3 := hf 3 _ rfl
  simp only [List.getElem_toArray, List.getElem_cons_zero, List.getElem_cons_succ, cI, cRg, List.drop_zero, List.take_succ_cons, List.take_zero, List.drop_succ_cons] at h0 h1 h2 h3
  have el : ∀ i, i < 4 → ∃ z, xs[i]? = some z := fun i hi => ⟨xs[i]'(by rw [hxs]; exact hi), by simp⟩
  obtain ⟨z0, e0⟩ := el 0 (by decide)
  obtain ⟨z1, e1⟩ := el 1 (by decide)
  obtain ⟨z2, e2⟩ := el 2 (by decide)
  obtain ⟨z3, e3⟩ := el 3 (by decide)
  rw [e0] at h0
  rw [e1] at h1
  rw [e2] at h2
  rw [e3] at h3
  obtain ⟨a, b, hab⟩ := open_range h0
  obtain ⟨c, hc, _⟩ := open_num Try.underlying3 h1
  obtain ⟨d, hd, _⟩ := open_num Try.underlying3 h2
  obtain ⟨e, he, _⟩ := open_num Try.underlying3 h3
  simp only [List.cons.injEq, and_true] at hab hc hd he
  obtain ⟨ha, hb⟩ := hab
  subst ha; subst hb; subst hc; subst hd; subst he
  exact ⟨⟨a, b, c, d, e⟩, rfl, trivial⟩
theorem cap_ge {P : Program} {t e : TypeId} {A : Option Addr} {n c : Nat} {y : DataW H × List MemPlace} {fu : Nat} (ht : P.underlying t = some (.slice e)) (h : DataW.trod enc P w 0 (fun _ => true) true fu t [.slice A n c] = some y) : n ≤ c := by
  rcases Deep.open_slice ht h with ⟨e1, _⟩ | ⟨a, len, cap, m, n, D, Pl, e1, _, hl, hm, hmm, _, hx⟩
  · simp at e1; omega
  · simp only [List.cons.injEq, and_true, Value.slice.injEq] at e1
    omega
theorem open_polder (h : DataW.trod enc Try.prog w 0 (fun _ => true) true fuel 26 cs = some x) : ∃ q : PoM, cs = q.cells ∧ OpenPo q w := by
  obtain ⟨xs, n, _, _, hl, hxs, hf⟩ := DataW.trod_struct Try.underlying26 h
  obtain ⟨c0, c1, c2, c3, c4, c5, c6, rfl⟩ := len7 (hl.trans cPo)
  clear hl
  have h0 := hf 0 _ rfl
  have h1 := hf 1 _ rfl
  have h2 := hf 2 _ rfl
  have h3 := hf 3 _ rfl
  have h4 := hf 4 _ rfl
  have h5 := hf 5 _ rfl
  simp only [List.getElem_toArray, List.getElem_cons_zero, List.getElem_cons_succ, cI, cRg, cSD, List.drop_zero, List.take_succ_cons, List.take_zero, List.drop_succ_cons] at h0 h1 h2 h3 h4 h5
  have el : ∀ i, i < 6 → ∃ z, xs[i]? = some z := fun i hi => ⟨xs[i]'(by rw [hxs]; exact hi), by simp⟩
  obtain ⟨z0, e0⟩ := el 0 (by decide)
  obtain ⟨z1, e1⟩ := el 1 (by decide)
  obtain ⟨z2, e2⟩ := el 2 (by decide)
  obtain ⟨z3, e3⟩ := el 3 (by decide)
  obtain ⟨z4, e4⟩ := el 4 (by decide)
  obtain ⟨z5, e5⟩ := el 5 (by decide)
  rw [e0] at h0
  rw [e1] at h1
  rw [e2] at h2
  rw [e3] at h3
  rw [e4] at h4
  rw [e5] at h5
  obtain ⟨y0, a0, _⟩ := open_num Try.underlying3 h0
  obtain ⟨y1, a1, _⟩ := open_num Try.underlying3 h1
  obtain ⟨y2, y3, a23⟩ := open_range h2
  obtain ⟨y4, a4, _⟩ := open_num Try.underlying3 h3
  obtain ⟨y5, a5, _⟩ := open_num Try.underlying3 h4
  obtain ⟨A6, l6, k6, a6, n6, s6, _, m6⟩ := open_sl (en := encD) (Q := fun _ => True) (by decide) Try.underlying24 cDy (fun _ _ _ h => open_day h) h5
  simp only [List.cons.injEq, and_true] at a0 a1 a23 a4 a5 a6
  obtain ⟨a2, a3⟩ := a23
  subst a0; subst a1; subst a2; subst a3; subst a4; subst a5; subst a6
  exact ⟨⟨y0, y1, y2, y3, y4, y5, ⟨A6, l6, k6⟩⟩, rfl, ⟨s6, m6, cap_ge Try.underlying24 h5⟩⟩
end
end Go.Proofs.Yteognijlgalahaa
