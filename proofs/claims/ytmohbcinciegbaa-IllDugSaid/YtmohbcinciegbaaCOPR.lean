/- A row that came in, opened. -/
import Derived.Test.YtmohbcinciegbaaXE
import Derived.Test.YtmohbcinciegbaaCOPN
namespace Go.Proofs.Ytmohbcinciegbaa
open Go.ChangeShapes Go.WideShapes Go.ChangeAt Go.RowKit

theorem len2 {α : Type} : ∀ {l : List α}, l.length = 2 → ∃ a b, l = [a, b]
  | [a, b], _ => ⟨a, b, rfl⟩
theorem len4 {α : Type} : ∀ {l : List α}, l.length = 4 → ∃ a b c d, l = [a, b, c, d]
  | [a, b, c, d], _ => ⟨a, b, c, d, rfl⟩
theorem len8 {α : Type} : ∀ {l : List α}, l.length = 8 → ∃ a b c d e f g h, l = [a, b, c, d, e, f, g, h]
  | [a, b, c, d, e, f, g, h], _ => ⟨a, b, c, d, e, f, g, h, rfl⟩
section
variable {H : Type} {enc : TypeId × Value → H} {w : World} {fuel : Nat} {cs : List Value} {x : DataW H × List MemPlace}
theorem cI : Try.prog.cellsOf 3 = 1 := by kernel_rfl
theorem cB : Try.prog.cellsOf 4 = 1 := by kernel_rfl
theorem cU : Try.prog.cellsOf 5 = 1 := by kernel_rfl
theorem cWk : Try.prog.cellsOf 76 = 2 := by kernel_rfl
theorem cNt : Try.prog.cellsOf 67 = 4 := by kernel_rfl
theorem cSW : Try.prog.cellsOf 22 = 1 := by kernel_rfl
theorem cSN : Try.prog.cellsOf 24 = 1 := by kernel_rfl
theorem cSI : Try.prog.cellsOf 23 = 1 := by kernel_rfl
theorem cRw : Try.prog.cellsOf 26 = 8 := by kernel_rfl
theorem open_week (h : DataW.trod enc Try.prog w 0 (fun _ => true) true fuel 76 cs = some x) : ∃ y : Wk, cs = encW y ∧ True := by
  obtain ⟨xs, n, _, _, hl, hxs, hf⟩ := DataW.trod_struct Try.underlying76 h
  obtain ⟨c0, c1, rfl⟩ := len2 (hl.trans cWk)
  clear hl
  have h0 := hf 0 _ rfl
  have h1 := hf 1 _ rfl
  simp only [List.getElem_toArray, List.getElem_cons_zero, List.getElem_cons_succ, cI, cB, List.drop_zero, List.take_succ_cons, List.take_zero, List.drop_succ_cons] at h0 h1
  have e0 : xs[0]? = some (xs[0]'(by rw [hxs]; decide)) := by simp
  have e1 : xs[1]? = some (xs[1]'(by rw [hxs]; decide)) := by simp
  rw [e0] at h0
  rw [e1] at h1
  obtain ⟨a, ha, _⟩ := open_num Try.underlying3 h0
  obtain ⟨b, hb, _⟩ := DataW.trod_bool Try.underlying4 h1
  simp only [List.cons.injEq, and_true] at ha hb
  subst ha; subst hb
  exact ⟨⟨a, b⟩, rfl, trivial⟩
theorem open_note (h : DataW.trod enc Try.prog w 0 (fun _ => true) true fuel 67 cs = some x) : ∃ y : Nt, cs = encN y ∧ (0 ≤ y.k ∧ y.k ≤ 255) := by
  obtain ⟨xs, n, _, _, hl, hxs, hf⟩ := DataW.trod_struct Try.underlying67 h
  obtain ⟨c0, c1, c2, c3, rfl⟩ := len4 (hl.trans cNt)
  clear hl
  have h0 := hf 0 _ rfl
  have h1 := hf 1 _ rfl
  have h2 := hf 2 _ rfl
  have h3 := hf 3 _ rfl
  simp only [List.getElem_toArray, List.getElem_cons_zero, List.getElem_cons_succ, cI, cB, cU, List.drop_zero, List.take_succ_cons, List.take_zero, List.drop_succ_cons] at h0 h1 h2 h3
  have el : ∀ i, i < 4 → ∃ z, xs[i]? = some z := fun i hi => ⟨xs[i]'(by rw [hxs]; exact hi), by simp⟩
  obtain ⟨z0, e0⟩ := el 0 (by decide)
  obtain ⟨z1, e1⟩ := el 1 (by decide)
  obtain ⟨z2, e2⟩ := el 2 (by decide)
  obtain ⟨z3, e3⟩ := el 3 (by decide)
  rw [e0] at h0
  rw [e1] at h1
  rw [e2] at h2
  rw [e3] at h3
  obtain ⟨a, ha, _⟩ := open_num Try.underlying3 h0
  obtain ⟨b, hb, _⟩ := open_num Try.underlying3 h1
  obtain ⟨c, hc, hw⟩ := open_num Try.underlying5 h2
  obtain ⟨d, hd, _⟩ := DataW.trod_bool Try.underlying4 h3
  simp only [List.cons.injEq, and_true] at ha hb hc hd
  subst ha; subst hb; subst hc; subst hd
  have hu := bounds_u8 hw
  exact ⟨⟨a, b, c, d⟩, rfl, by omega⟩
theorem open_nums (h : DataW.trod enc Try.prog w 0 (fun _ => true) true fuel 23 cs = some x) : ∃ s : Sv Int, cs = encV s ∧ ((s.A = none → s.l.length = 0 ∧ s.c = 0) ∧ s.l.length ≤ maxLen) ∧ Sl w w.heap.size 1 encI s.A s.l := by
  obtain ⟨A, l, c, e, hn, hs, _, hm⟩ := open_sl (en := encI) (Q := fun _ => True) (by decide) Try.underlying23 cI (fun _ _ _ h => (open_num Try.underlying3 h).imp fun _ h => ⟨h.1, trivial⟩) h
  exact ⟨⟨A, l, c⟩, e, ⟨hn, hm⟩, hs⟩
theorem open_row (h : DataW.trod enc Try.prog w 0 (fun _ => true) true fuel 26 cs = some x) : ∃ r : RwM, cs = r.cells ∧ OpenRow r w := by
  obtain ⟨xs, n, _, _, hl, hxs, hf⟩ := DataW.trod_struct Try.underlying26 h
  obtain ⟨c0, c1, c2, c3, c4, c5, c6, c7, rfl⟩ := len8 (hl.trans cRw)
  clear hl
  have h0 := hf 0 _ rfl
  have h1 := hf 1 _ rfl
  have h2 := hf 2 _ rfl
  have h3 := hf 3 _ rfl
  have h4 := hf 4 _ rfl
  have h5 := hf 5 _ rfl
  have h6 := hf 6 _ rfl
  have h7 := hf 7 _ rfl
  simp only [List.getElem_toArray, List.getElem_cons_zero, List.getElem_cons_succ, cI, cB, cSW, cSN, cSI, List.drop_zero, List.take_succ_cons, List.take_zero, List.drop_succ_cons] at h0 h1 h2 h3 h4 h5 h6 h7
  have el : ∀ i, i < 8 → ∃ z, xs[i]? = some z := fun i hi => ⟨xs[i]'(by rw [hxs]; exact hi), by simp⟩
  obtain ⟨z0, e0⟩ := el 0 (by decide)
  obtain ⟨z1, e1⟩ := el 1 (by decide)
  obtain ⟨z2, e2⟩ := el 2 (by decide)
  obtain ⟨z3, e3⟩ := el 3 (by decide)
  obtain ⟨z4, e4⟩ := el 4 (by decide)
  obtain ⟨z5, e5⟩ := el 5 (by decide)
  obtain ⟨z6, e6⟩ := el 6 (by decide)
  obtain ⟨z7, e7⟩ := el 7 (by decide)
  rw [e0] at h0
  rw [e1] at h1
  rw [e2] at h2
  rw [e3] at h3
  rw [e4] at h4
  rw [e5] at h5
  rw [e6] at h6
  rw [e7] at h7
  obtain ⟨y0, a0, _⟩ := open_num Try.underlying3 h0
  obtain ⟨A1, l1, k1, a1, _, s1, _, m1⟩ := open_sl (en := encW) (Q := fun _ => True) (by decide) Try.underlying22 cWk (fun _ _ _ h => open_week h) h1
  obtain ⟨y2, a2, _⟩ := open_num Try.underlying3 h2
  obtain ⟨y3, a3, _⟩ := open_num Try.underlying3 h3
  obtain ⟨y4, a4, _⟩ := open_num Try.underlying3 h4
  obtain ⟨y5, a5, _⟩ := DataW.trod_bool Try.underlying4 h5
  obtain ⟨A6, l6, k6, a6, n6, s6, _, m6⟩ := open_sl (en := encI) (Q := fun _ => True) (by decide) Try.underlying23 cI (fun _ _ _ h => (open_num Try.underlying3 h).imp fun _ h => ⟨h.1, trivial⟩) h6
  obtain ⟨A7, l7, k7, a7, _, s7, q7, m7⟩ := open_sl (en := encN) (Q := fun y : Nt => 0 ≤ y.k ∧ y.k ≤ 255) (by decide) Try.underlying24 cNt (fun _ _ _ h => open_note h) h7
  simp only [List.cons.injEq, and_true] at a0 a1 a2 a3 a4 a5 a6 a7
  subst a0; subst a1; subst a2; subst a3; subst a4; subst a5; subst a6; subst a7
  exact ⟨⟨y0, ⟨A1, l1, k1⟩, y2, y3, y4, y5, ⟨A6, l6, k6⟩, ⟨A7, l7, k7⟩⟩, rfl, ⟨s1, s6, s7, m1, m6, m7, q7, n6⟩⟩
end
theorem IllDug_walk (r : RwM) (pl wk : Nat) (w : World) (h : OpenRow r w) (hpl : pl ≤ 255) (hwk : wk ≤ 255) : Calls Try.prog 11 #[.agg r.cells.toArray, .int .u8 pl, .int .u8 wk] w fun e w' => e = .returned (.bool true) ∧ Below w.heap.size w w' := by
  cases hy : r.d.thin && decide (r.d.fault = 0) with
  | false => exact IllDug_unready r pl wk w h hy
  | true =>
    have hy2 := hy
    rw [Bool.and_eq_true, decide_eq_true_eq] at hy2
    obtain ⟨hr, ht⟩ := h.thin hy2.1
    by_cases hz : r.ws.l.length = 0
    · exact IllDug_short r pl wk w hr hy hz
    · exact IllDug_main r pl wk w hpl hwk hr ht hy hy2.2 hz
end Go.Proofs.Ytmohbcinciegbaa
