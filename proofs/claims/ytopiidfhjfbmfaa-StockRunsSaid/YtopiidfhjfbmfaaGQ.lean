/- The texts OPT SHT RNO EQS FIT SRN, joined. -/
import Derived.Test.YtopiidfhjfbmfaaGF
import Derived.Test.YtopiidfhjfbmfaaGH
import Derived.Test.YtopiidfhjfbmfaaGD
import Derived.Test.YtopiidfhjfbmfaaGM
import Derived.Test.YtopiidfhjfbmfaaGK
import Derived.Test.YtopiidfhjfbmfaaGO
import Derived.Test.YtopiidfhjfbmfaaGN
/- A truth that came in, opened. -/
namespace Go.Proofs.Ytopiidfhjfbmfaa
open Go.ChangeShapes Go.WideShapes Go.ChangeAt Go.RowKit

theorem len3 {α : Type} : ∀ {l : List α}, l.length = 3 → ∃ a b c, l = [a, b, c]
  | [a, b, c], _ => ⟨a, b, c, rfl⟩
section
variable {H : Type} {enc : TypeId × Value → H} {w : World} {fuel : Nat} {cs : List Value} {x : DataW H × List MemPlace}
theorem cSSI : Try.prog.cellsOf 100 = 1 := by kernel_rfl
theorem cSSSI : Try.prog.cellsOf 29 = 1 := by kernel_rfl
theorem cTr : Try.prog.cellsOf 31 = 3 := by kernel_rfl
theorem open_rows (h : DataW.trod enc Try.prog w 0 (fun _ => true) true fuel 100 cs = some x) : ∃ s : Sv (Sv Int), cs = encV s ∧ Sl w w.heap.size 1 encV s.A s.l ∧ (∀ y, y ∈ s.l → (y.A = none → y.c = 0) ∧ Sl w w.heap.size 1 encI y.A y.l) ∧ s.l.length ≤ 9223372036854775807 := by
  obtain ⟨A, l, c, e, _, hs, hq, hm⟩ := open_sl (en := encV) (Q := fun y : Sv Int => (y.A = none → y.c = 0) ∧ Sl w w.heap.size 1 encI y.A y.l) (by decide) Try.underlying100 cSI (fun _ _ _ h => (open_nums h).imp fun _ h => ⟨h.1, fun e => (h.2.1 e).2, h.2.2⟩) h
  exact ⟨⟨A, l, c⟩, e, hs, hq, hm⟩
theorem open_years (h : DataW.trod enc Try.prog w 0 (fun _ => true) true fuel 29 cs = some x) : ∃ s : Sv (Sv (Sv Int)), cs = encV s ∧ Sl w w.heap.size 1 encV s.A s.l ∧ ∀ g, g ∈ s.l → Sl w w.heap.size 1 encV g.A g.l ∧ (∀ y, y ∈ g.l → (y.A = none → y.c = 0) ∧ Sl w w.heap.size 1 encI y.A y.l) ∧ g.l.length ≤ 9223372036854775807 := by
  obtain ⟨A, l, c, e, _, hs, hq, _⟩ := open_sl (en := encV) (Q := fun g : Sv (Sv Int) => Sl w w.heap.size 1 encV g.A g.l ∧ (∀ y, y ∈ g.l → (y.A = none → y.c = 0) ∧ Sl w w.heap.size 1 encI y.A y.l) ∧ g.l.length ≤ 9223372036854775807) (by decide) Try.underlying29 cSSI (fun _ _ _ h => open_rows h) h
  exact ⟨⟨A, l, c⟩, e, hs, hq⟩
theorem open_truth (h : DataW.trod enc Try.prog w 0 (fun _ => true) true fuel 31 cs = some x) : ∃ t : TrM, cs = t.cells ∧ t.At w w.heap.size ∧ t.Nil ∧ ∀ y, y ∈ t.g.l → y.l.length ≤ 9223372036854775807 := by
  obtain ⟨xs, n, _, _, hl, hxs, hf⟩ := DataW.trod_struct Try.underlying31 h
  obtain ⟨c0, c1, c2, rfl⟩ := len3 (hl.trans cTr)
  clear hl
  have h0 := hf 0 _ rfl
  have h1 := hf 1 _ rfl
  have h2 := hf 2 _ rfl
  simp only [List.getElem_toArray, List.getElem_cons_zero, List.getElem_cons_succ, cSI, cSSSI, List.drop_zero, List.take_succ_cons, List.take_zero, List.drop_succ_cons] at h0 h1 h2
  have el : ∀ i, i < 3 → ∃ z, xs[i]? = some z := fun i hi => ⟨xs[i]'(by rw [hxs]; exact hi), by simp⟩
  obtain ⟨z0, e0⟩ := el 0 (by decide)
  obtain ⟨z1, e1⟩ := el 1 (by decide)
  obtain ⟨z2, e2⟩ := el 2 (by decide)
  rw [e0] at h0
  rw [e1] at h1
  rw [e2] at h2
  obtain ⟨s, a0, ns, l0⟩ := open_nums h0
  obtain ⟨g, a1, l1, l1'⟩ := open_years h1
  obtain ⟨l, a2, nl, l2⟩ := open_nums h2
  simp only [encV, List.cons.injEq, and_true] at a0 a1 a2
  subst a0; subst a1; subst a2
  exact ⟨⟨s, g, l⟩, rfl, ⟨l0, l1, fun y hy => (l1' y hy).1, fun y hy r hr => ((l1' y hy).2.1 r hr).2, l2⟩, ⟨fun e => (ns e).2, fun y hy r hr => ((l1' y hy).2.1 r hr).1, fun e => (nl e).2⟩, fun y hy => (l1' y hy).2.2⟩
end
end Go.Proofs.Ytopiidfhjfbmfaa

/- Short: a truth with at most 8 of everything. -/
namespace Go.Proofs.Ytopiidfhjfbmfaa
open Go.RowKit Go.Lib

/-- At most 8 of everything. -/
structure TrM.Small (t : TrM) : Prop where
  s : t.s.l.length ≤ 8
  g : t.g.l.length ≤ 8
  y : ∀ y, y ∈ t.g.l → y.l.length ≤ 8
  r : ∀ y, y ∈ t.g.l → ∀ r, r ∈ y.l → r.l.length ≤ 8
  l : t.l.l.length ≤ 8
/-- Whatever it says: where it says yes, there are not more. -/
def RetSh (t : TrM) (w : World) (e : Ending) (w' : World) : Prop := ∃ b : Bool, e = .returned (.bool b) ∧ (b = true → t.Small) ∧ Below w.heap.size w w'
set_option maxHeartbeats 1000000 in
set_option maxRecDepth 100000 in
theorem Short_any (t : TrM) (w : World) (ht : t.At w w.heap.size) (hm : ∀ y, y ∈ t.g.l → y.l.length ≤ 9223372036854775807) : Calls Try.prog 18 #[.agg t.cells.toArray] w (RetSh t w) := by
  have l0 : Lies (w.alloc (.cells t.cells.toArray 31)) w.heap.size 31 t.cells.toArray := Lies.fresh _ _ _
  have b0 : Below w.heap.size w (w.alloc (.cells t.cells.toArray 31)) := (Below.refl _ _).alloc (Nat.le_refl _) _
  have HT := Lib.hid ht
  have L0 := Lib.hid l0
  have B0 := Lib.hid b0
  have HM := Lib.hid hm
  clear ht l0 b0 hm
  unfold TrM.cells
  go_enter Try.func18, Try.ntmps18
  go_wp2
  go_loopw [3, 4] (fun i _ wr => ∃ k : Nat, k ≤ 9 ∧ k ≤ t.g.l.length ∧ i = .int .i64 k ∧ Aside (∀ j x, j < k → t.g.l[j]? = some x → x.l.length ≤ 8 ∧ ∀ r, r ∈ x.l → r.l.length ≤ 8) ∧ Aside (Lies wr w.heap.size 31 t.cells.toArray) ∧ Aside (Below w.heap.size w wr)) (fun i _ _ => 9 - (intOf i).toNat)
  case atStart => exact ⟨0, by omega, by omega, rfl, fun j x h => absurd h (by omega), L0.out, B0.out⟩
  case round =>
    obtain ⟨k, hk9, hkl, rfl, hall, M, B1⟩ := hrel
    have d1 : wr.cell? ⟨w.heap.size, 1, none⟩ = some (.slice t.g.A t.g.l.length t.g.c) := M.out.at_ 1
    by_cases hin : k < t.g.l.length ∧ k < 9
    · obtain ⟨hlt, h9⟩ := hin
      have hk0 : (0 : Int) ≤ (k : Int) := by omega
      have h9z : (k : Int) < 9 := by omega
      have hltz : (k : Int) < (t.g.l.length : Int) := by omega
      obtain ⟨x, hx⟩ : ∃ x, t.g.l[k]? = some x := ⟨t.g.l[k], by simp [hlt]⟩
      obtain ⟨b, off, eg, hb, c0⟩ := HT.out.g.cell1 hx
      rw [eg] at d1
      have l2 : wr.cell? ⟨b, off + k, none⟩ = some (.slice x.A x.l.length x.c) := by rw [B1.out.cell (p := ⟨b, off + k, none⟩) hb]; exact c0
      have hxm := HM.out x (List.mem_of_getElem? hx)
      have hxs := HT.out.ys x (List.mem_of_getElem? hx)
      have HX := Lib.hid hx
      have HXS := Lib.hid hxs
      have EG := Lib.hid eg
      have C0 := Lib.hid c0
      have HB := Lib.hid hb
      clear c0 hx eg hxs hb
      by_cases h8 : x.l.length ≤ 8
      · have h8z : (x.l.length : Int) ≤ 8 := by omega
        go_wp2
        clear d1 l2
        go_loopw [4] (fun i wr => ∃ m : Nat, m ≤ x.l.length ∧ i = .int .i64 m ∧ Aside (∀ j r, j < m → x.l[j]? = some r → r.l.length ≤ 8) ∧ Aside (Lies wr w.heap.size 31 t.cells.toArray) ∧ Aside (Below w.heap.size w wr)) (fun i _ => x.l.length - (intOf i).toNat)
        case atStart => exact ⟨0, by omega, rfl, fun j x h => absurd h (by omega), M.out, B1.out⟩
        case round =>
          obtain ⟨m, hm, rfl, hal2, M2, B2⟩ := hrel
          have d1 : wr.cell? ⟨w.heap.size, 1, none⟩ = some (.slice (some ⟨b, off, none⟩) t.g.l.length t.g.c) := by rw [← EG.out]; exact M2.out.at_ 1
          have l2 : wr.cell? ⟨b, off + k, none⟩ = some (.slice x.A x.l.length x.c) := by rw [B2.out.cell (p := ⟨b, off + k, none⟩) HB.out]; exact C0.out
          by_cases hml : m < x.l.length
          · have hm0 : (0 : Int) ≤ (m : Int) := by omega
            have hmz : (m : Int) < (x.l.length : Int) := by omega
            obtain ⟨r, hr⟩ : ∃ r, x.l[m]? = some r := ⟨x.l[m], by simp [hml]⟩
            obtain ⟨b', off', eg', hb', c0'⟩ := HXS.out.cell1 hr
            rw [eg'] at l2
            have l3 : wr.cell? ⟨b', off' + m, none⟩ = some (.slice r.A r.l.length r.c) := by rw [B2.out.cell (p := ⟨b', off' + m, none⟩) hb']; exact c0'
            have HR := Lib.hid hr
            clear c0' hr eg'
            by_cases h8r : r.l.length ≤ 8
            · have h8rz : (r.l.length : Int) ≤ 8 := by omega
              go_wp2
              go_roundw
              case rel =>
                refine ⟨m + 1, by omega, by go_num, fun j y hj hy => ?_, M2.out, B2.out⟩
                by_cases e : j = m
                · subst e; rw [HR.out] at hy; cases hy; exact h8r
                · exact hal2.out j y (by omega) hy
              case measure => simp [intOf]; omega
            · have h8rz : (8 : Int) < (r.l.length : Int) := by omega
              go_wp2
              go_ret
              exact ⟨false, rfl, fun h => absurd h (by decide), B2.out⟩
          · obtain rfl : m = x.l.length := by omega
            have HA2 := Lib.hid hal2.out
            clear hal2
            go_wp2
            go_roundw
            case rel =>
              refine ⟨k + 1, by omega, by omega, by go_num, fun j y hj hy => ?_, M2.out, B2.out⟩
              by_cases e : j = k
              · subst e; rw [HX.out] at hy; cases hy
                refine ⟨h8, fun r hr => ?_⟩
                obtain ⟨i, hi, rfl⟩ := List.getElem_of_mem hr
                exact HA2.out i _ hi (by simp)
              · exact hall.out j y (by omega) hy
            case measure => simp [intOf]; omega
      · have h8z : (8 : Int) < (x.l.length : Int) := by omega
        go_wp2
        go_ret
        exact ⟨false, rfl, fun h => absurd h (by decide), B1.out⟩
    · have d0 : wr.cell? ⟨w.heap.size, 0, none⟩ = some (.slice t.s.A t.s.l.length t.s.c) := M.out.at_ 0
      have d2 : wr.cell? ⟨w.heap.size, 2, none⟩ = some (.slice t.l.A t.l.l.length t.l.c) := M.out.at_ 2
      have hsm : t.s.l.length ≤ 8 → t.g.l.length ≤ 8 → t.l.l.length ≤ 8 → t.Small := fun h1 h2 h3 => by
        have hk : k = t.g.l.length := by omega
        subst hk
        have key : ∀ y, y ∈ t.g.l → y.l.length ≤ 8 ∧ ∀ r, r ∈ y.l → r.l.length ≤ 8 := fun y hy => by
          obtain ⟨i, hi, rfl⟩ := List.getElem_of_mem hy
          exact hall.out i _ hi (by simp)
        exact ⟨h1, h2, fun y hy => (key y hy).1, fun y hy => (key y hy).2, h3⟩
      have HSM := Lib.hid hsm
      clear hsm
      have hor : k = t.g.l.length ∨ (k < t.g.l.length ∧ k = 9) := by omega
      rcases hor with hk | ⟨hk, hk'⟩
      · have hk1 : ¬ (k : Int) < (t.g.l.length : Int) := by omega
        clear hin
        go_wp2
        all_goals (go_ret; exact ⟨_, rfl, fun h => HSM.out (by first | omega | (simp at h <;> omega)) (by first | omega | (simp at h <;> omega)) (by first | omega | (simp at h <;> omega)), B1.out⟩)
      · have hk1 : ¬ (k : Int) < 9 := by omega
        have hk2 : (k : Int) < (t.g.l.length : Int) := by omega
        clear hin
        go_wp2
        all_goals (go_ret; exact ⟨_, rfl, fun h => HSM.out (by first | omega | (simp at h <;> omega)) (by first | omega | (simp at h <;> omega)) (by first | omega | (simp at h <;> omega)), B1.out⟩)
end Go.Proofs.Ytopiidfhjfbmfaa

/- stock.Run of what is not valid, or does not fit. -/
namespace Go.Proofs.Ytopiidfhjfbmfaa
open Go.RowKit Go.Lib

set_option maxRecDepth 100000 in
set_option maxHeartbeats 1000000 in
theorem Run_bad (p : PlM) (t : TrM) (w : World) (hp : p.At w w.heap.size) (hf : p.fault ≠ 0) :
    Calls Try.prog 22 #[.agg p.cells.toArray, .agg t.cells.toArray] w fun e w' => e = .returned (.tuple #[.slice none 0 0, .int .i64 p.fault]) ∧ Below w.heap.size w w' := by
  have l0 : Lies ((w.alloc (.cells p.cells.toArray 41)).alloc (.cells t.cells.toArray 46)) w.heap.size 41 p.cells.toArray := (Lies.fresh _ _ _).alloc _
  have b0 : Below w.heap.size w ((w.alloc (.cells p.cells.toArray 41)).alloc (.cells t.cells.toArray 46)) := (by repeat (first | (with_reducible assumption) | (with_reducible exact Below.refl _ _) | (with_reducible refine Below.drew ?_) | (with_reducible refine below_drewN ?_ _) | ((with_reducible refine Below.setCell ?_ ?_ _); rotate_left; focus (first | (simp; done) | (simp; omega) | omega)) | ((with_reducible refine Below.alloc ?_ ?_ _); rotate_left; focus (first | (simp; done) | (simp; omega) | omega))))
  have hCP : ∀ W, Below w.heap.size w W → Calls Try.prog 20 #[.agg p.cells.toArray] W fun e w' => e = .returned (.int .i64 p.fault) ∧ Below W.heap.size W w' := fun W hb => CheckPlan_any p W (hp.below hb hb.size)
  have HCP := Lib.hid hCP
  have L0 := Lib.hid l0
  have B0 := Lib.hid b0
  clear l0 b0 hCP hp
  generalize p.fault = q at *
  have hne : (q != 0) = true := by simpa using hf
  clear hf
  unfold PlM.cells TrM.cells
  go_enter Try.func22, Try.ntmps22
  go_wp2_with (first
    | (refine wpList_load_row (o := ⟨some 10, _, _, _, _, _⟩) ?_ 41 (.tmp 2) ?_ w.heap.size ?_ 41 p.cells.toArray (0, 0) _ L0.out Try.underlying41 rfl size41 ?_; rfl; rfl; rfl)
    | (go_at_call 20; refine (HCP.out _ B0.out).mono ?_; rintro e w1 ⟨rfl, hb1⟩))
  go_ret2
  exact ⟨rfl, B0.out.trans (hb1.mono B0.out.size)⟩
set_option maxRecDepth 100000 in
set_option maxHeartbeats 1000000 in
theorem Run_unfit (p : PlM) (t : TrM) (w : World) (hp : p.At w w.heap.size) (ht : t.At w w.heap.size) (hg : t.g.l.length ≤ 1000000) (hl : t.l.l.length ≤ 1000000) (hf : p.fault = 0) (hfit : t.fitB p = false) :
    Calls Try.prog 22 #[.agg p.cells.toArray, .agg t.cells.toArray] w fun e w' => e = .returned (.tuple #[.slice none 0 0, .int .i64 2]) ∧ Below w.heap.size w w' := by
  have l0 : Lies ((w.alloc (.cells p.cells.toArray 41)).alloc (.cells t.cells.toArray 46)) w.heap.size 41 p.cells.toArray := (Lies.fresh _ _ _).alloc _
  have l1 : Lies ((w.alloc (.cells p.cells.toArray 41)).alloc (.cells t.cells.toArray 46)) (w.heap.size + 1) 46 t.cells.toArray := Lies.fresh' (by simp)
  have b0 : Below w.heap.size w ((w.alloc (.cells p.cells.toArray 41)).alloc (.cells t.cells.toArray 46)) := (by repeat (first | (with_reducible assumption) | (with_reducible exact Below.refl _ _) | (with_reducible refine Below.drew ?_) | (with_reducible refine below_drewN ?_ _) | ((with_reducible refine Below.setCell ?_ ?_ _); rotate_left; focus (first | (simp; done) | (simp; omega) | omega)) | ((with_reducible refine Below.alloc ?_ ?_ _); rotate_left; focus (first | (simp; done) | (simp; omega) | omega))))
  have hCP : ∀ W, Below w.heap.size w W → Calls Try.prog 20 #[.agg p.cells.toArray] W fun e w' => e = .returned (.int .i64 0) ∧ Below W.heap.size W w' := fun W hb => by
    have := CheckPlan_any p W (hp.below hb hb.size); rwa [hf] at this
  have hIS : ∀ W, Below w.heap.size w W → Calls Try.prog 60 #[.agg t.cells.toArray, .agg p.cells.toArray] W fun e w' => e = .returned (.bool false) ∧ Below W.heap.size W w' := fun W hb => by
    have := isOf_any p t W (hp.below hb hb.size) (ht.below hb hb.size) hg hl
    rwa [hfit] at this
  have HCP := Lib.hid hCP
  have HIS := Lib.hid hIS
  have L0 := Lib.hid l0
  have L1 := Lib.hid l1
  have B0 := Lib.hid b0
  clear l0 l1 b0 hCP hIS hp ht hf hfit hg hl
  unfold PlM.cells TrM.cells
  go_enter Try.func22, Try.ntmps22
  go_wp2_with (first
    | (refine wpList_load_row (o := ⟨some 10, _, _, _, _, _⟩) ?_ 41 (.tmp 2) ?_ w.heap.size ?_ 41 p.cells.toArray (0, 0) _ L0.out Try.underlying41 rfl size41 ?_; rfl; rfl; rfl)
    | (go_at_call 20; refine (HCP.out _ B0.out).mono ?_; rintro e w1 ⟨rfl, hb1⟩; have L2 := Lib.hid (L0.out.call hb1); have L3 := Lib.hid (L1.out.call hb1); have B1 := Lib.hid (B0.out.trans (hb1.mono B0.out.size)))
    | (refine wpList_load_row (o := ⟨some 15, _, _, _, _, _⟩) ?_ 46 (.tmp 3) ?_ (w.heap.size + 1) ?_ 46 t.cells.toArray (0, 0) _ L3.out Try.underlying46 rfl size46 ?_; rfl; rfl; rfl)
    | (refine wpList_load_row (o := ⟨some 16, _, _, _, _, _⟩) ?_ 41 (.tmp 2) ?_ w.heap.size ?_ 41 p.cells.toArray (0, 0) _ L2.out Try.underlying41 rfl size41 ?_; rfl; rfl; rfl)
    | (go_at_call 60; refine (HIS.out _ B1.out).mono ?_; rintro e w2 ⟨rfl, hb2⟩))
  go_ret2
  exact ⟨rfl, B1.out.trans (hb2.mono B1.out.size)⟩
end Go.Proofs.Ytopiidfhjfbmfaa

/- ints, same: equal lists, equal years. -/
namespace Go.Proofs.Ytopiidfhjfbmfaa
open Go.RowKit Go.Lib

set_option maxRecDepth 100000 in
set_option maxHeartbeats 1000000 in
theorem ints_yes (A1 A2 : Option Addr) (c1 c2 : Nat) (l : List Int) (w : World) (h1 : Sl w w.heap.size 1 encI A1 l) (h2 : Sl w w.heap.size 1 encI A2 l) (hl : l.length ≤ 1000000) :
    Calls Try.prog 46 #[.slice A1 l.length c1, .slice A2 l.length c2] w fun e w' => e = .returned (.bool true) ∧ Below w.heap.size w w' := by
  have H1 := Lib.hid h1
  have H2 := Lib.hid h2
  have hlz : (l.length : Int) ≤ 1000000 := by omega
  clear h1 h2
  go_enter Try.func46, Try.ntmps46
  go_wp2
  go_loopw [5] (fun i wr => ∃ k : Nat, k ≤ l.length ∧ i = .int .i64 k ∧ Aside (Below w.heap.size w wr)) (fun i _ => l.length - (intOf i).toNat)
  case atStart => exact ⟨0, by omega, rfl, Below.refl _ _⟩
  case round =>
    obtain ⟨k, hk, rfl, hb⟩ := hrel
    by_cases hlt : k < l.length
    · have hltz : (k : Int) < (l.length : Int) := by omega
      have hk0 : (0 : Int) ≤ (k : Int) := by omega
      obtain ⟨x, hx⟩ : ∃ x, l[k]? = some x := ⟨l[k], by simp [hlt]⟩
      obtain ⟨b1, o1, rfl, hb1, p1⟩ := H1.out.cell1 hx
      obtain ⟨b2, o2, rfl, hb2, p2⟩ := H2.out.cell1 hx
      have r1 := cell_regrown ((hb.out.cell (p := ⟨b1, o1 + k, none⟩) hb1).trans p1)
      have r2 := cell_regrown ((hb.out.cell (p := ⟨b2, o2 + k, none⟩) hb2).trans p2)
      have HB := Lib.hid hb.out
      clear p1 p2 hx hb
      go_wp2
      refine wp_region_quiet_below (by kernel_rfl) (by kernel_rfl) ?_; (repeat (first | go_big_quiet_step ((fail)) | quiet_step ((fail)))); refine wpQuiet_nil ?_; intro wq hwq; have hbq : Below _ _ wq := (by obtain ⟨p, rfl⟩ := hwq; exact below_regrown _ _ _); clear hwq
      clear r1 r2
      go_wp2
      go_roundw
      case rel => exact ⟨k + 1, by omega, by go_num, HB.out.trans (hbq.mono HB.out.size)⟩
      case measure => simp [intOf]; omega
    · obtain rfl : k = l.length := by omega
      go_wp2
      go_ret
      exact ⟨rfl, hb.out⟩
set_option maxRecDepth 100000 in
set_option maxHeartbeats 1000000 in
theorem same_yes (y z : Y4) (n : Nat) (w : World) (hy : y.In w w.heap.size) (hz : z.In w w.heap.size) (he : y.lists = z.lists) (ha : y.a.l.length = n) (hb : y.b.l.length = n) (hc : y.c.l.length = n) (hd : y.d.l.length = n) (hn : n ≤ 5) :
    Calls Try.prog 27 #[.agg #[.slice y.a.A n y.a.c, .slice y.b.A n y.b.c, .slice y.c.A n y.c.c, .slice y.d.A n y.d.c], .agg #[.slice z.a.A n z.a.c, .slice z.b.A n z.b.c, .slice z.c.A n z.c.c, .slice z.d.A n z.d.c]] w fun e w' => e = .returned (.bool true) ∧ Below w.heap.size w w' := by
  have ea : y.a.l = z.a.l := congrArg (·.1) he
  have eb : y.b.l = z.b.l := congrArg (·.2.1) he
  have ec : y.c.l = z.c.l := congrArg (·.2.2.1) he
  have ed : y.d.l = z.d.l := congrArg (·.2.2.2) he
  have key : ∀ {s u : Sv Int}, SlT w w.heap.size 1 3 encI s.A s.l → SlT w w.heap.size 1 3 encI u.A u.l → s.l = u.l → s.l.length = n → ∀ W, Below w.heap.size w W → Calls Try.prog 46 #[.slice s.A n s.c, .slice u.A n u.c] W fun e w' => e = .returned (.bool true) ∧ Below W.heap.size W w' := fun {s u} h1 h2 h3 h4 W hw => by
    have q2 := h2.sl
    rw [← h3] at q2
    have := ints_yes s.A u.A s.c u.c s.l W ((h1.sl.below hw).more hw.size) ((q2.below hw).more hw.size) (by omega)
    rwa [h4] at this
  have QA := Lib.hid (key hy.a hz.a ea ha)
  have QB := Lib.hid (key hy.b hz.b eb hb)
  have QC := Lib.hid (key hy.c hz.c ec hc)
  have QD := Lib.hid (key hy.d hz.d ed hd)
  have l0 : Lies ((w.alloc (.cells #[.slice y.a.A n y.a.c, .slice y.b.A n y.b.c, .slice y.c.A n y.c.c, .slice y.d.A n y.d.c] 54)).alloc (.cells #[.slice z.a.A n z.a.c, .slice z.b.A n z.b.c, .slice z.c.A n z.c.c, .slice z.d.A n z.d.c] 55)) w.heap.size 54 #[.slice y.a.A n y.a.c, .slice y.b.A n y.b.c, .slice y.c.A n y.c.c, .slice y.d.A n y.d.c] := (Lies.fresh _ _ _).alloc _
  have l1 : Lies ((w.alloc (.cells #[.slice y.a.A n y.a.c, .slice y.b.A n y.b.c, .slice y.c.A n y.c.c, .slice y.d.A n y.d.c] 54)).alloc (.cells #[.slice z.a.A n z.a.c, .slice z.b.A n z.b.c, .slice z.c.A n z.c.c, .slice z.d.A n z.d.c] 55)) (w.heap.size + 1) 55 #[.slice z.a.A n z.a.c, .slice z.b.A n z.b.c, .slice z.c.A n z.c.c, .slice z.d.A n z.d.c] := Lies.fresh' (by simp)
  have b0 : Below w.heap.size w ((w.alloc (.cells #[.slice y.a.A n y.a.c, .slice y.b.A n y.b.c, .slice y.c.A n y.c.c, .slice y.d.A n y.d.c] 54)).alloc (.cells #[.slice z.a.A n z.a.c, .slice z.b.A n z.b.c, .slice z.c.A n z.c.c, .slice z.d.A n z.d.c] 55)) := (by repeat (first | (with_reducible assumption) | (with_reducible exact Below.refl _ _) | (with_reducible refine Below.drew ?_) | (with_reducible refine below_drewN ?_ _) | ((with_reducible refine Below.setCell ?_ ?_ _); rotate_left; focus (first | (simp; done) | (simp; omega) | omega)) | ((with_reducible refine Below.alloc ?_ ?_ _); rotate_left; focus (first | (simp; done) | (simp; omega) | omega))))
  have L0 := Lib.hid l0
  have L1 := Lib.hid l1
  have B0 := Lib.hid b0
  clear l0 l1 b0 key ea eb ec ed hy hz he ha hb hc hd
  go_enter Try.func27, Try.ntmps27
  go_wp2_with (first
    | (go_at_call_of 46 (Value.slice y.a.A n y.a.c); refine (QA.out _ B0.out).mono ?_; rintro e w1 ⟨rfl, hb1⟩; have M0 := Lib.hid (L0.out.call hb1); have M1 := Lib.hid (L1.out.call hb1); have B1 := Lib.hid (B0.out.trans (hb1.mono B0.out.size)); have d1 : w1.cell? ⟨w.heap.size, 1, none⟩ = some (.slice y.b.A n y.b.c) := M0.out.at_ 1; have e1 : w1.cell? ⟨w.heap.size + 1, 1, none⟩ = some (.slice z.b.A n z.b.c) := M1.out.at_ 1)
    | (go_at_call_of 46 (Value.slice y.b.A n y.b.c); refine (QB.out _ B1.out).mono ?_; rintro e w2 ⟨rfl, hb2⟩; have N0 := Lib.hid (M0.out.call hb2); have N1 := Lib.hid (M1.out.call hb2); have B2 := Lib.hid (B1.out.trans (hb2.mono B1.out.size)); have d2 : w2.cell? ⟨w.heap.size, 2, none⟩ = some (.slice y.c.A n y.c.c) := N0.out.at_ 2; have e2 : w2.cell? ⟨w.heap.size + 1, 2, none⟩ = some (.slice z.c.A n z.c.c) := N1.out.at_ 2)
    | (go_at_call_of 46 (Value.slice y.c.A n y.c.c); refine (QC.out _ B2.out).mono ?_; rintro e w3 ⟨rfl, hb3⟩; have O0 := Lib.hid (N0.out.call hb3); have O1 := Lib.hid (N1.out.call hb3); have B3 := Lib.hid (B2.out.trans (hb3.mono B2.out.size)); have d3 : w3.cell? ⟨w.heap.size, 3, none⟩ = some (.slice y.d.A n y.d.c) := O0.out.at_ 3; have e3 : w3.cell? ⟨w.heap.size + 1, 3, none⟩ = some (.slice z.d.A n z.d.c) := O1.out.at_ 3)
    | (go_at_call_of 46 (Value.slice y.d.A n y.d.c); refine (QD.out _ B3.out).mono ?_; rintro e w4 ⟨rfl, hb4⟩))
  go_ret
  exact ⟨rfl, B3.out.trans (hb4.mono B3.out.size)⟩
end Go.Proofs.Ytopiidfhjfbmfaa

/- Fits: whether a truth has just one number of each range. -/
namespace Go.Proofs.Ytopiidfhjfbmfaa
open Go.RowKit Go.Lib

/-- Just one number of each range. -/
structure FitP (p : PlM) (t : TrM) : Prop where
  ls : t.s.l.length = p.s.l.length
  lg : (t.g.l.length : Int) = p.years
  ll : (t.l.l.length : Int) = p.years
  ss : ∀ (i : Nat) (q : Int × Int) (x : Int), p.s.l[i]? = some q → t.s.l[i]? = some x → inB x q.1 q.2 = true
  yy : ∀ (y : Nat) (v : Int), t.l.l[y]? = some v → inB v p.lo p.hi = true
  gg : ∀ (y : Nat) (G : Sv (Sv Int)), t.g.l[y]? = some G → G.l.length = p.s.l.length
  rr : ∀ (y : Nat) (G : Sv (Sv Int)) (s : Nat) (R : Sv Int), t.g.l[y]? = some G → G.l[s]? = some R → R.l.length = p.s.l.length
  cc : ∀ (y : Nat) (G : Sv (Sv Int)) (s : Nat) (R : Sv Int) (P : Sv (Int × Int)) (k : Nat) (q : Int × Int) (x : Int), t.g.l[y]? = some G → G.l[s]? = some R → p.g.l[s]? = some P → P.l[k]? = some q → R.l[k]? = some x → inB x q.1 q.2 = true
theorem fitP_iff {p : PlM} {t : TrM} (hv : p.Valid) : FitP p t ↔ fitD p.d t.d = true := by
  have key : fitD p.d t.d = true ↔ (p.s.l.length = t.s.l.length ∧ ∀ (i : Nat) (q : Int × Int) (x : Int), p.s.l[i]? = some q → t.s.l[i]? = some x → hasB q x = true) ∧
      ((((t.g.l.map fun y => y.l.map (·.l)).length : Int) = p.years ∧ ∀ z, z ∈ (t.g.l.map fun y => y.l.map (·.l)) → pairedB p.d.g z (fun x r => pairedB x r hasB) = true) ∧ ((t.l.l.length : Int) = p.years ∧ ∀ z, z ∈ t.l.l → inB z p.lo p.hi = true)) := by
    unfold fitD
    simp only [Bool.and_eq_true, decide_eq_true_eq, List.all_eq_true, pairedB_iff (p := hasB)]
    exact Iff.rfl
  rw [key]
  constructor
  · intro h
    refine ⟨⟨h.ls.symm, h.ss⟩, ⟨by rw [List.length_map]; exact h.lg, fun z hz => ?_⟩, h.ll, fun z hz => ?_⟩
    · obtain ⟨G, hG, rfl⟩ := List.mem_map.1 hz
      obtain ⟨y, hy⟩ := List.getElem?_of_mem hG
      rw [pairedB_iff]
      refine ⟨by show (p.g.l.map (·.l)).length = _; rw [List.length_map, List.length_map, hv.g, h.gg y G hy], fun s P' R' hP hR => ?_⟩
      have hP' : (p.g.l.map (·.l))[s]? = some P' := hP
      rw [List.getElem?_map, Option.map_eq_some_iff] at hP' hR
      obtain ⟨P, hP1, rfl⟩ := hP'
      obtain ⟨R, hR1, rfl⟩ := hR
      rw [pairedB_iff]
      exact ⟨by rw [hv.gl P (List.mem_of_getElem? hP1), h.rr y G s R hy hR1], fun k q x hq hx => h.cc y G s R P k q x hy hR1 hP1 hq hx⟩
    · obtain ⟨y, hy⟩ := List.getElem?_of_mem hz
      exact h.yy y z hy
  · rintro ⟨⟨h1, h2⟩, ⟨h3, h4⟩, h5, h6⟩
    have hrow : ∀ (y : Nat) (G : Sv (Sv Int)), t.g.l[y]? = some G → (p.g.l.map (·.l)).length = (G.l.map (·.l)).length ∧ ∀ (i : Nat) (x : List (Int × Int)) (r : List Int), (p.g.l.map (·.l))[i]? = some x → (G.l.map (·.l))[i]? = some r → pairedB x r hasB = true := fun y G hy => by
      have h := h4 _ (List.mem_map.2 ⟨G, List.mem_of_getElem? hy, rfl⟩)
      rw [pairedB_iff] at h
      exact h
    have hcell : ∀ (y : Nat) (G : Sv (Sv Int)) (s : Nat) (R : Sv Int) (P : Sv (Int × Int)), t.g.l[y]? = some G → G.l[s]? = some R → p.g.l[s]? = some P → P.l.length = R.l.length ∧ ∀ (k : Nat) (q : Int × Int) (x : Int), P.l[k]? = some q → R.l[k]? = some x → hasB q x = true := fun y G s R P hy hR hP => by
      have h := (hrow y G hy).2 s P.l R.l (by rw [List.getElem?_map, hP]; rfl) (by rw [List.getElem?_map, hR]; rfl)
      rw [pairedB_iff] at h
      exact h
    refine ⟨h1.symm, by rw [List.length_map] at h3; exact h3, h5, h2, fun y v hy => h6 v (List.mem_of_getElem? hy), fun y G hy => ?_, fun y G s R hy hR => ?_, fun y G s R P k q x hy hR hP hq hx => (hcell y G s R P hy hR hP).2 k q x hq hx⟩
    · have h := (hrow y G hy).1
      rw [List.length_map, List.length_map, hv.g] at h
      exact h.symm
    · have hs : s < p.g.l.length := by
        have h := (hrow y G hy).1
        rw [List.length_map, List.length_map] at h
        rw [h]; exact (List.getElem?_eq_some_iff.1 hR).1
      have h := (hcell y G s R _ hy hR (List.getElem?_eq_getElem hs)).1
      rw [← h, hv.gl _ (List.getElem_mem hs)]
/-- What Fits hands back. -/
def RetF (p : PlM) (t : TrM) (w : World) (e : Ending) (w' : World) : Prop := ∃ b : Bool, e = .returned (.bool b) ∧ (b = true ↔ FitP p t) ∧ Below w.heap.size w w'
set_option maxRecDepth 100000 in
theorem refhas_any (lo hi n : Int) (w : World) : Calls Try.prog 65 #[.agg #[.int .i64 lo, .int .i64 hi], .int .i64 n] w fun e w' => e = .returned (.bool (inB n lo hi)) ∧ Below w.heap.size w w' := by
  have b0 : Below w.heap.size w (w.alloc (.cells #[.int .i64 lo, .int .i64 hi] 26)) := (Below.refl _ _).alloc (Nat.le_refl _) _
  have hI : ∀ W, Calls Try.prog 37 #[.int .i64 n, .int .i64 lo, .int .i64 hi] W fun e w' => e = .returned (.bool (inB n lo hi)) ∧ Below W.heap.size W w' := fun W => In_below n lo hi W
  have HI := Lib.hid hI
  have B0 := Lib.hid b0
  clear hI b0
  generalize inB n lo hi = bb at *
  go_enter Try.func65, Try.ntmps65
  go_wp2_with (go_at_call 37; refine (HI.out _).mono ?_; rintro e w1 ⟨rfl, hb1⟩)
  go_ret
  exact ⟨rfl, B0.out.trans (hb1.mono B0.out.size)⟩
/-- A row of a year, and a year, fit. -/
def rowOk (p : PlM) (s : Nat) (R : Sv Int) : Prop := R.l.length = p.s.l.length ∧ ∀ (P : Sv (Int × Int)) (k : Nat) (q : Int × Int) (x : Int), p.g.l[s]? = some P → P.l[k]? = some q → R.l[k]? = some x → inB x q.1 q.2 = true
def yearOk (p : PlM) (t : TrM) (y : Nat) : Prop := (∀ v, t.l.l[y]? = some v → inB v p.lo p.hi = true) ∧ ∀ G, t.g.l[y]? = some G → G.l.length = p.s.l.length ∧ ∀ s R, G.l[s]? = some R → rowOk p s R
/-- The memory of Fits. -/
structure FtM (p : PlM) (t : TrM) (w wr : World) : Prop where
  pb : Lies wr w.heap.size 28 p.cells.toArray
  tb : Lies wr (w.heap.size + 1) 31 t.cells.toArray
  bel : Below w.heap.size w wr
theorem FtM.call {p : PlM} {t : TrM} {w wr wq : World} (M : FtM p t w wr) (hb : Below wr.heap.size wr wq) : FtM p t w wq := ⟨M.pb.call hb, M.tb.call hb, M.bel.trans (hb.mono M.bel.size)⟩
set_option maxRecDepth 100000 in
set_option maxHeartbeats 4000000 in
theorem Fits_any (p : PlM) (t : TrM) (w : World) (hp : p.At w w.heap.size) (hv : p.Valid) (ht : t.At w w.heap.size) (hs : t.Small) : Calls Try.prog 25 #[.agg p.cells.toArray, .agg t.cells.toArray] w (RetF p t w) := by
  have hn5 := hv.ok.n
  obtain ⟨Y, hY⟩ : ∃ Y : Nat, p.years = (Y : Int) := ⟨p.years.toNat, years_nat hv⟩
  have hY6 : Y ≤ 6 := by have := hv.y; omega
  have hM : FtM p t w ((w.alloc (.cells p.cells.toArray 28)).alloc (.cells t.cells.toArray 31)) := ⟨(Lies.fresh _ _ _).alloc _, Lies.fresh' (by simp), (by repeat (first | (with_reducible assumption) | (with_reducible exact Below.refl _ _) | (with_reducible refine Below.drew ?_) | (with_reducible refine below_drewN ?_ _) | ((with_reducible refine Below.setCell ?_ ?_ _); rotate_left; focus (first | (simp; done) | (simp; omega) | omega)) | ((with_reducible refine Below.alloc ?_ ?_ _); rotate_left; focus (first | (simp; done) | (simp; omega) | omega))))⟩
  have HM := Lib.hid hM
  have HP := Lib.hid hp
  have HT := Lib.hid ht
  have HV := Lib.hid hv
  have HS := Lib.hid hs
  have HY := Lib.hid hY
  have hs8 := hs.s
  have hg8 := hs.g
  have hl8 := hs.l
  have hnz : (p.s.l.length : Int) ≤ 5 := by omega
  have hsz : (t.s.l.length : Int) ≤ 8 := by omega
  have hgz : (t.g.l.length : Int) ≤ 8 := by omega
  have hlz : (t.l.l.length : Int) ≤ 8 := by omega
  have hYz : (Y : Int) ≤ 6 := by omega
  clear hM hp ht hv hs hY
  by_cases h1 : t.s.l.length = p.s.l.length
  case neg =>
    have hA : ((t.s.l.length : Int) != (p.s.l.length : Int)) = true := by simp; omega
    unfold PlM.cells TrM.cells
    go_enter Try.func25, Try.ntmps25
    go_wp2
    go_ret
    exact ⟨false, rfl, iff_of_false (by decide) fun h => h1 h.ls, HM.out.bel⟩
  have hA1 : ((t.s.l.length : Int) != (p.s.l.length : Int)) = false := by simp; omega
  have H1 := Lib.hid h1
  clear h1
  by_cases h2 : (t.g.l.length : Int) = p.years
  case neg =>
    have hA : ((t.g.l.length : Int) != p.years) = true := by simpa using h2
    have H2 := Lib.hid h2
    clear h2
    unfold PlM.cells TrM.cells
    go_enter Try.func25, Try.ntmps25
    go_wp2
    go_ret
    exact ⟨false, rfl, iff_of_false (by decide) fun h => H2.out h.lg, HM.out.bel⟩
  have hA2 : ((t.g.l.length : Int) != p.years) = false := by simpa using h2
  have H2 := Lib.hid h2
  clear h2
  by_cases h3 : (t.l.l.length : Int) = p.years
  case neg =>
    have hA : ((t.l.l.length : Int) != p.years) = true := by simpa using h3
    have H3 := Lib.hid h3
    clear h3
    unfold PlM.cells TrM.cells
    go_enter Try.func25, Try.ntmps25
    go_wp2
    go_ret
    exact ⟨false, rfl, iff_of_false (by decide) fun h => H3.out h.ll, HM.out.bel⟩
  have hA3 : ((t.l.l.length : Int) != p.years) = false := by simpa using h3
  have H3 := Lib.hid h3
  clear h3
  unfold PlM.cells TrM.cells
  go_enter Try.func25, Try.ntmps25
  go_wp2
  clear hA1 hA2 hA3
  go_loopw [6] (fun i wr => ∃ k : Nat, k ≤ p.s.l.length ∧ i = .int .i64 k ∧ Aside (∀ (j : Nat) (q : Int × Int) (x : Int), j < k → p.s.l[j]? = some q → t.s.l[j]? = some x → inB x q.1 q.2 = true) ∧ Aside (FtM p t w wr)) (fun i _ => p.s.l.length - (intOf i).toNat)
  case atStart => exact ⟨0, by omega, rfl, fun j q x h => absurd h (by omega), HM.out⟩
  case round =>
    obtain ⟨k, hk, rfl, hall, M⟩ := hrel
    by_cases hlt : k < p.s.l.length
    · have hltz : (k : Int) < (p.s.l.length : Int) := by omega
      have hk0 : (0 : Int) ≤ (k : Int) := by omega
      have hkt : (k : Int) < (t.s.l.length : Int) := by have := H1.out; omega
      obtain ⟨q, hq⟩ : ∃ q, p.s.l[k]? = some q := ⟨p.s.l[k], by simp [hlt]⟩
      obtain ⟨x, hx⟩ : ∃ x, t.s.l[k]? = some x := ⟨t.s.l[k]'(by rw [H1.out]; exact hlt), by simp⟩
      obtain ⟨b1, o1, e1, hb1, c0, c1⟩ := HP.out.s.cellR hq
      obtain ⟨b2, o2, e2, hb2, c2⟩ := HT.out.s.cell1 hx
      have r0 := cell_regrown (show wr.cell? ⟨w.heap.size, 0, none⟩ = some (.slice (some ⟨b1, o1, none⟩) p.s.l.length p.s.c) by rw [← e1]; exact M.out.pb.at_ 0)
      have r1 := cell_regrown (show wr.cell? ⟨w.heap.size + 1, 0, none⟩ = some (.slice (some ⟨b2, o2, none⟩) t.s.l.length t.s.c) by rw [← e2]; exact M.out.tb.at_ 0)
      have r2 := cell_regrown ((M.out.bel.cell (p := ⟨b1, o1 + k * 2, none⟩) hb1).trans c0)
      have r3 := cell_regrown ((M.out.bel.cell (p := ⟨b1, o1 + k * 2 + 1, none⟩) hb1).trans c1)
      have r4 := cell_regrown ((M.out.bel.cell (p := ⟨b2, o2 + k, none⟩) hb2).trans c2)
      have hH : ∀ W, Calls Try.prog 65 #[.agg #[.int .i64 q.1, .int .i64 q.2], .int .i64 x] W fun e w' => e = .returned (.bool (inB x q.1 q.2)) ∧ Below W.heap.size W w' := fun W => refhas_any q.1 q.2 x W
      obtain ⟨bb, hbb⟩ : ∃ bb, bb = inB x q.1 q.2 := ⟨_, rfl⟩
      rw [← hbb] at hH
      have HH := Lib.hid hH
      have HBB := Lib.hid hbb
      have HQ := Lib.hid hq
      have HX := Lib.hid hx
      have HALL := Lib.hid hall.out
      have HMM := Lib.hid M.out
      clear hH hbb hq hx e1 e2 c0 c1 c2 hall M hb1 hb2
      go_wp2
      refine wp_region_quiet_below (by kernel_rfl) (by kernel_rfl) ?_; (repeat (first | go_big_quiet_step ((go_at_call 65; exact Calls.regrown_of (HH.out _))) | quiet_step ((go_at_call 65; exact Calls.regrown_of (HH.out _))))); refine wpQuiet_nil ?_; intro wq hwq; have hbq : Below _ _ wq := (by obtain ⟨p, rfl⟩ := hwq; exact below_regrown _ _ _); clear hwq
      clear r0 r1 r2 r3 r4
      cases bb with
      | false =>
        go_wp2
        go_ret
        exact ⟨false, rfl, iff_of_false (by decide) (fun h => by have h4 := h.ss k q x HQ.out HX.out; rw [← HBB.out] at h4; cases h4), (HMM.out.call hbq).bel⟩
      | true =>
        go_wp2
        go_roundw
        case rel =>
          refine ⟨k + 1, by omega, by go_num, fun j q' x' hj hq' hx' => ?_, HMM.out.call hbq⟩
          by_cases e : j = k
          · subst e
            rw [HQ.out] at hq'; cases hq'
            rw [HX.out] at hx'; cases hx'
            exact HBB.out.symm
          · exact HALL.out j q' x' (by omega) hq' hx'
        case measure => simp [intOf]; omega
    · obtain rfl : k = p.s.l.length := by omega
      have HSS := Lib.hid (show ∀ (j : Nat) (q : Int × Int) (x : Int), p.s.l[j]? = some q → t.s.l[j]? = some x → inB x q.1 q.2 = true from fun j q x h h' => hall.out j q x (List.getElem?_eq_some_iff.1 h).1 h h')
      have HMM := Lib.hid M.out
      clear hall M HM
      go_wp2
      go_loopw [7, 8, 9] (fun i _ _ wr => ∃ y : Nat, y ≤ Y ∧ i = .int .i64 y ∧ Aside (∀ j : Nat, j < y → yearOk p t j) ∧ Aside (FtM p t w wr)) (fun i _ _ _ => Y - (intOf i).toNat)
      case atStart => exact ⟨0, by omega, rfl, fun j h => absurd h (by omega), HMM.out⟩
      case round =>
        obtain ⟨y, hy, rfl, hyr, M2⟩ := hrel
        have HYR := Lib.hid hyr.out
        have M2 := Lib.hid M2.out
        clear hyr HMM
        have d7 : wr.cell? ⟨w.heap.size, 7, none⟩ = some (.int .i64 (Y : Int)) := by rw [← HY.out]; exact M2.out.pb.at_ 7
        by_cases hyl : y < Y
        · have hylz : (y : Int) < (Y : Int) := by omega
          have hy0 : (0 : Int) ≤ (y : Int) := by omega
          have hyg : (y : Int) < (t.g.l.length : Int) := by have := H2.out; have := HY.out; omega
          have hyL : (y : Int) < (t.l.l.length : Int) := by have := H3.out; have := HY.out; omega
          obtain ⟨v, hv⟩ : ∃ v, t.l.l[y]? = some v := ⟨t.l.l[y]'(by omega), by simp⟩
          obtain ⟨G, hG⟩ : ∃ G, t.g.l[y]? = some G := ⟨t.g.l[y]'(by omega), by simp⟩
          obtain ⟨bl, ol, e1, hb1, c1⟩ := HT.out.l.cell1 hv
          obtain ⟨bg, og, e2, hb2, c2⟩ := HT.out.g.cell1 hG
          have hG8 := HS.out.y G (List.mem_of_getElem? hG)
          have hGs := HT.out.ys G (List.mem_of_getElem? hG)
          have hGr := HT.out.rs G (List.mem_of_getElem? hG)
          have hR8 := HS.out.r G (List.mem_of_getElem? hG)
          have hG8z : (G.l.length : Int) ≤ 8 := by omega
          have r0 := cell_regrown (show wr.cell? ⟨w.heap.size, 5, none⟩ = some (.int .i64 p.lo) from M2.out.pb.at_ 5)
          have r1 := cell_regrown (show wr.cell? ⟨w.heap.size, 6, none⟩ = some (.int .i64 p.hi) from M2.out.pb.at_ 6)
          have r2 := cell_regrown (show wr.cell? ⟨w.heap.size + 1, 2, none⟩ = some (.slice (some ⟨bl, ol, none⟩) t.l.l.length t.l.c) by rw [← e1]; exact M2.out.tb.at_ 2)
          have r3 := cell_regrown ((M2.out.bel.cell (p := ⟨bl, ol + y, none⟩) hb1).trans c1)
          have r4 := cell_regrown (show wr.cell? ⟨w.heap.size + 1, 1, none⟩ = some (.slice (some ⟨bg, og, none⟩) t.g.l.length t.g.c) by rw [← e2]; exact M2.out.tb.at_ 1)
          have r5 := cell_regrown (show wr.cell? ⟨bg, og + y, none⟩ = some (.slice G.A G.l.length G.c) from (M2.out.bel.cell (p := ⟨bg, og + y, none⟩) hb2).trans c2)
          have hH : ∀ W, Calls Try.prog 65 #[.agg #[.int .i64 p.lo, .int .i64 p.hi], .int .i64 v] W fun e w' => e = .returned (.bool (inB v p.lo p.hi)) ∧ Below W.heap.size W w' := fun W => refhas_any p.lo p.hi v W
          obtain ⟨bb, hbb⟩ : ∃ bb, bb = inB v p.lo p.hi := ⟨_, rfl⟩
          rw [← hbb] at hH
          have HH := Lib.hid hH
          have HBB := Lib.hid hbb
          have HVV := Lib.hid hv
          have HG := Lib.hid hG
          have EG := Lib.hid e2
          have CG := Lib.hid c2
          have HGS := Lib.hid hGs
          have HGR := Lib.hid hGr
          have HR8 := Lib.hid hR8
          clear hH hbb hv hG e1 e2 c1 c2 hb1 hGs hGr hR8 hG8
          cases bb with
          | false =>
            go_wp2
            refine wp_region_quiet_below (by kernel_rfl) (by kernel_rfl) ?_; (repeat (first | go_big_quiet_step ((go_at_call 65; exact Calls.regrown_of (HH.out _))) | quiet_step ((go_at_call 65; exact Calls.regrown_of (HH.out _))))); refine wpQuiet_nil ?_; intro wq hwq; have hbq : Below _ _ wq := (by obtain ⟨p, rfl⟩ := hwq; exact below_regrown _ _ _); clear hwq
            clear r0 r1 r2 r3 r4 r5 d7
            go_wp2
            go_ret
            exact ⟨false, rfl, iff_of_false (by decide) (fun h => by have h4 := h.yy y v HVV.out; rw [← HBB.out] at h4; cases h4), (M2.out.call hbq).bel⟩
          | true =>
            by_cases hGl : G.l.length = p.s.l.length
            case neg =>
              have hA : ((G.l.length : Int) != (p.s.l.length : Int)) = true := by simp; omega
              have HGL := Lib.hid hGl
              clear hGl
              go_wp2
              refine wp_region_quiet_below (by kernel_rfl) (by kernel_rfl) ?_; (repeat (first | go_big_quiet_step ((go_at_call 65; exact Calls.regrown_of (HH.out _))) | quiet_step ((go_at_call 65; exact Calls.regrown_of (HH.out _))))); refine wpQuiet_nil ?_; intro wq hwq; have hbq : Below _ _ wq := (by obtain ⟨p, rfl⟩ := hwq; exact below_regrown _ _ _); clear hwq
              clear r0 r1 r2 r3 r4 r5 d7
              go_wp2
              go_ret
              exact ⟨false, rfl, iff_of_false (by decide) (fun h => HGL.out (h.gg y G HG.out)), (M2.out.call hbq).bel⟩
            have hA : ((G.l.length : Int) != (p.s.l.length : Int)) = false := by simp; omega
            have HGL := Lib.hid hGl
            clear hGl
            go_wp2
            refine wp_region_quiet_below (by kernel_rfl) (by kernel_rfl) ?_; (repeat (first | go_big_quiet_step ((go_at_call 65; exact Calls.regrown_of (HH.out _))) | quiet_step ((go_at_call 65; exact Calls.regrown_of (HH.out _))))); refine wpQuiet_nil ?_; intro wq hwq; have hbq : Below _ _ wq := (by obtain ⟨p, rfl⟩ := hwq; exact below_regrown _ _ _); clear hwq
            clear r0 r1 r2 r3 r4 r5 d7 hA
            have M3 := Lib.hid (M2.out.call hbq)
            clear M2 hbq HH
            go_wp2
            go_loopw [8, 9] (fun i _ wr => ∃ s : Nat, s ≤ p.s.l.length ∧ i = .int .i64 s ∧ Aside (∀ (j : Nat) (R : Sv Int), j < s → G.l[j]? = some R → rowOk p j R) ∧ Aside (FtM p t w wr)) (fun i _ _ => p.s.l.length - (intOf i).toNat)
            case atStart => exact ⟨0, by omega, rfl, fun j R h => absurd h (by omega), M3.out⟩
            case round =>
              obtain ⟨s, hs, rfl, hsr, M4⟩ := hrel
              have HSR := Lib.hid hsr.out
              have M4 := Lib.hid M4.out
              clear hsr M3
              by_cases hsl : s < p.s.l.length
              · have hslz : (s : Int) < (p.s.l.length : Int) := by omega
                have hs0 : (0 : Int) ≤ (s : Int) := by omega
                have hsG : (s : Int) < (G.l.length : Int) := by have := HGL.out; omega
                have hsP : (s : Int) < (p.g.l.length : Int) := by have := HV.out.g; omega
                obtain ⟨R, hR⟩ : ∃ R, G.l[s]? = some R := ⟨G.l[s]'(by omega), by simp⟩
                obtain ⟨P, hP⟩ : ∃ P, p.g.l[s]? = some P := ⟨p.g.l[s]'(by omega), by simp⟩
                obtain ⟨bG, oG, e3, hb3, c3⟩ := HGS.out.cell1 hR
                obtain ⟨bp, op, e4, hb4, c4⟩ := HP.out.g.cell1 hP
                have hRs := HGR.out R (List.mem_of_getElem? hR)
                have hPs := HP.out.rows P (List.mem_of_getElem? hP)
                have hPl := HV.out.gl P (List.mem_of_getElem? hP)
                have hR8 := HR8.out R (List.mem_of_getElem? hR)
                have hR8z : (R.l.length : Int) ≤ 8 := by omega
                have d1 : wr.cell? ⟨w.heap.size + 1, 1, none⟩ = some (.slice (some ⟨bg, og, none⟩) t.g.l.length t.g.c) := by rw [← EG.out]; exact M4.out.tb.at_ 1
                have d2 : wr.cell? ⟨bg, og + y, none⟩ = some (.slice (some ⟨bG, oG, none⟩) G.l.length G.c) := by rw [M4.out.bel.cell (p := ⟨bg, og + y, none⟩) hb2, CG.out, ← e3]; rfl
                have d3 : wr.cell? ⟨bG, oG + s, none⟩ = some (.slice R.A R.l.length R.c) := by rw [M4.out.bel.cell (p := ⟨bG, oG + s, none⟩) hb3]; exact c3
                have HR := Lib.hid hR
                have HPP := Lib.hid hP
                have E3 := Lib.hid e3
                have E4 := Lib.hid e4
                have C3 := Lib.hid c3
                have C4 := Lib.hid c4
                have HRS := Lib.hid hRs
                have HPS := Lib.hid hPs
                have HPL := Lib.hid hPl
                clear hR hP e3 e4 c3 c4 hRs hPs hPl hR8
                by_cases hRl : R.l.length = p.s.l.length
                case neg =>
                  have hA : ((R.l.length : Int) != (p.s.l.length : Int)) = true := by simp; omega
                  have HRL := Lib.hid hRl
                  clear hRl
                  go_wp2
                  go_ret
                  exact ⟨false, rfl, iff_of_false (by decide) (fun h => HRL.out (h.rr y G s R HG.out HR.out)), M4.out.bel⟩
                have hA : ((R.l.length : Int) != (p.s.l.length : Int)) = false := by simp; omega
                have HRL := Lib.hid hRl
                clear hRl
                go_wp2
                clear d1 d2 d3 hA
                go_loopw [9] (fun i wr => ∃ k : Nat, k ≤ p.s.l.length ∧ i = .int .i64 k ∧ Aside (∀ (j : Nat) (q : Int × Int) (x : Int), j < k → P.l[j]? = some q → R.l[j]? = some x → inB x q.1 q.2 = true) ∧ Aside (FtM p t w wr)) (fun i _ => p.s.l.length - (intOf i).toNat)
                case atStart => exact ⟨0, by omega, rfl, fun j q x h => absurd h (by omega), M4.out⟩
                case round =>
                  obtain ⟨k, hk, rfl, hkr, M5⟩ := hrel
                  have HKR := Lib.hid hkr.out
                  have M5 := Lib.hid M5.out
                  clear hkr M4
                  by_cases hkl : k < p.s.l.length
                  · have hklz : (k : Int) < (p.s.l.length : Int) := by omega
                    have hk0 : (0 : Int) ≤ (k : Int) := by omega
                    have hkR : (k : Int) < (R.l.length : Int) := by have := HRL.out; omega
                    have hkP : (k : Int) < (P.l.length : Int) := by have := HPL.out; omega
                    obtain ⟨q, hq⟩ : ∃ q, P.l[k]? = some q := ⟨P.l[k]'(by omega), by simp⟩
                    obtain ⟨x, hx⟩ : ∃ x, R.l[k]? = some x := ⟨R.l[k]'(by omega), by simp⟩
                    obtain ⟨bP, oP, e5, hb5, c5, c6⟩ := HPS.out.cellR hq
                    obtain ⟨bR, oR, e6, hb6, c7⟩ := HRS.out.cell1 hx
                    have r0 := cell_regrown (show wr.cell? ⟨w.heap.size, 2, none⟩ = some (.slice (some ⟨bp, op, none⟩) p.g.l.length p.g.c) by rw [← E4.out]; exact M5.out.pb.at_ 2)
                    have r1 := cell_regrown (show wr.cell? ⟨bp, op + s, none⟩ = some (.slice (some ⟨bP, oP, none⟩) P.l.length P.c) by rw [M5.out.bel.cell (p := ⟨bp, op + s, none⟩) hb4, C4.out, ← e5]; rfl)
                    have r2 := cell_regrown ((M5.out.bel.cell (p := ⟨bP, oP + k * 2, none⟩) hb5).trans c5)
                    have r3 := cell_regrown ((M5.out.bel.cell (p := ⟨bP, oP + k * 2 + 1, none⟩) hb5).trans c6)
                    have r4 := cell_regrown (show wr.cell? ⟨w.heap.size + 1, 1, none⟩ = some (.slice (some ⟨bg, og, none⟩) t.g.l.length t.g.c) by rw [← EG.out]; exact M5.out.tb.at_ 1)
                    have r5 := cell_regrown (show wr.cell? ⟨bg, og + y, none⟩ = some (.slice (some ⟨bG, oG, none⟩) G.l.length G.c) by rw [M5.out.bel.cell (p := ⟨bg, og + y, none⟩) hb2, CG.out, ← E3.out]; rfl)
                    have r6 := cell_regrown (show wr.cell? ⟨bG, oG + s, none⟩ = some (.slice (some ⟨bR, oR, none⟩) R.l.length R.c) by rw [M5.out.bel.cell (p := ⟨bG, oG + s, none⟩) hb3, C3.out, ← e6]; rfl)
                    have r7 := cell_regrown ((M5.out.bel.cell (p := ⟨bR, oR + k, none⟩) hb6).trans c7)
                    have hH : ∀ W, Calls Try.prog 65 #[.agg #[.int .i64 q.1, .int .i64 q.2], .int .i64 x] W fun e w' => e = .returned (.bool (inB x q.1 q.2)) ∧ Below W.heap.size W w' := fun W => refhas_any q.1 q.2 x W
                    obtain ⟨bb, hbb⟩ : ∃ bb, bb = inB x q.1 q.2 := ⟨_, rfl⟩
                    rw [← hbb] at hH
                    have HH := Lib.hid hH
                    have HB2 := Lib.hid hbb
                    have HQ := Lib.hid hq
                    have HX := Lib.hid hx
                    clear hH hbb hq hx e5 e6 c5 c6 c7 hb5 hb6
                    go_wp2
                    refine wp_region_quiet_below (by kernel_rfl) (by kernel_rfl) ?_; (repeat (first | go_big_quiet_step ((go_at_call 65; exact Calls.regrown_of (HH.out _))) | quiet_step ((go_at_call 65; exact Calls.regrown_of (HH.out _))))); refine wpQuiet_nil ?_; intro wq hwq; have hbq : Below _ _ wq := (by obtain ⟨p, rfl⟩ := hwq; exact below_regrown _ _ _); clear hwq
                    clear r0 r1 r2 r3 r4 r5 r6 r7
                    cases bb with
                    | false =>
                      go_wp2
                      go_ret
                      exact ⟨false, rfl, iff_of_false (by decide) (fun h => by have h4 := h.cc y G s R P k q x HG.out HR.out HPP.out HQ.out HX.out; rw [← HB2.out] at h4; cases h4), (M5.out.call hbq).bel⟩
                    | true =>
                      go_wp2
                      go_roundw
                      case rel =>
                        refine ⟨k + 1, by omega, by go_num, fun j q' x' hj hq' hx' => ?_, M5.out.call hbq⟩
                        by_cases e : j = k
                        · subst e
                          rw [HQ.out] at hq'; cases hq'
                          rw [HX.out] at hx'; cases hx'
                          exact HB2.out.symm
                        · exact HKR.out j q' x' (by omega) hq' hx'
                      case measure => simp [intOf]; omega
                  · obtain rfl : k = p.s.l.length := by omega
                    go_wp2
                    go_roundw
                    case rel =>
                      refine ⟨s + 1, by omega, by go_num, fun j R' hj hR' => ?_, M5.out⟩
                      by_cases e : j = s
                      · subst e
                        rw [HR.out] at hR'; cases hR'
                        refine ⟨HRL.out, fun P' k q x hP' hq hx => ?_⟩
                        rw [HPP.out] at hP'; cases hP'
                        exact HKR.out k q x (by have := (List.getElem?_eq_some_iff.1 hx).1; have := HRL.out; omega) hq hx
                      · exact HSR.out j R' (by omega) hR'
                    case measure => simp [intOf]; omega
              · obtain rfl : s = p.s.l.length := by omega
                go_wp2
                go_roundw
                case rel =>
                  refine ⟨y + 1, by omega, by go_num, fun j hj => ?_, M4.out⟩
                  by_cases e : j = y
                  · subst e
                    refine ⟨fun v' hv' => ?_, fun G' hG' => ?_⟩
                    · rw [HVV.out] at hv'; cases hv'
                      exact HBB.out.symm
                    · rw [HG.out] at hG'; cases hG'
                      exact ⟨HGL.out, fun s R hR => HSR.out s R (by have := (List.getElem?_eq_some_iff.1 hR).1; have := HGL.out; omega) hR⟩
                  · exact HYR.out j (by omega)
                case measure => simp [intOf]; omega
        · obtain rfl : y = Y := by omega
          go_wp2
          go_ret
          have hall : ∀ (j : Nat), j < t.g.l.length → yearOk p t j := fun j hj => HYR.out j (by have := H2.out; have := HY.out; omega)
          exact ⟨true, rfl, iff_of_true rfl ⟨H1.out, H2.out, H3.out, HSS.out, fun y v hv => (HYR.out y (by have := (List.getElem?_eq_some_iff.1 hv).1; have := H3.out; have := HY.out; omega)).1 v hv,
            fun y G hG => ((hall y (List.getElem?_eq_some_iff.1 hG).1).2 G hG).1, fun y G s R hG hR => (((hall y (List.getElem?_eq_some_iff.1 hG).1).2 G hG).2 s R hR).1,
            fun y G s R P k q x hG hR hP hq hx => (((hall y (List.getElem?_eq_some_iff.1 hG).1).2 G hG).2 s R hR).2 P k q x hP hq hx⟩, M2.out.bel⟩
end Go.Proofs.Ytopiidfhjfbmfaa

/- StockRuns: the walk. -/
namespace Go.Proofs.Ytopiidfhjfbmfaa
open Go.RowKit Go.Lib
attribute [local go_sem] Oper.semAt_some

theorem CheckPlan_at (p : PlM) (q : PlM) (W : World) (h : q.d = p.d) (hq : q.At W W.heap.size) : Calls Try.prog 20 #[.agg q.cells.toArray] W fun e w' => e = .returned (.int .i64 p.fault) ∧ Below W.heap.size W w' := by
  have := CheckPlan_any q W hq
  rwa [fault_congr h] at this
theorem trD_lens {u t : TrM} (h : u.d = t.d) : u.g.l.length = t.g.l.length ∧ u.l.l.length = t.l.l.length := by
  have h1 := congrArg (fun d : TD => d.g.length) h
  have h2 := congrArg (fun d : TD => d.l.length) h
  simp only [TrM.d, List.length_map] at h1 h2
  exact ⟨h1, h2⟩
theorem Truth_small (t : TrM) (W : World) (ht : t.At W W.heap.size) (hn : t.Nil) (hs : t.Small) : Calls Try.prog 23 #[.agg t.cells.toArray] W (RetT t.d W) :=
  Truth_any t W ht hn (by have := hs.s; omega) (by have := hs.g; omega) (fun y hy => by have := hs.y y hy; omega) (fun y hy r hr => by have := hs.r y hy r hr; omega) (by have := hs.l; omega)
theorem Fits_bool (p : PlM) (t : TrM) (W : World) (bb : Bool) (hp : p.At W W.heap.size) (hv : p.Valid) (ht : t.At W W.heap.size) (hs : t.Small) (hb : fitD p.d t.d = bb) :
    Calls Try.prog 25 #[.agg p.cells.toArray, .agg t.cells.toArray] W fun e w' => e = .returned (.bool bb) ∧ Below W.heap.size W w' := by
  refine (Fits_any p t W hp hv ht hs).mono ?_
  rintro e w' ⟨b, rfl, hiff, hbl⟩
  have : b = bb := by
    rw [fitP_iff hv, hb] at hiff
    cases b <;> cases bb <;> simp_all
  subst this
  exact ⟨rfl, hbl⟩
set_option maxRecDepth 100000 in
set_option maxHeartbeats 1000000 in
theorem Runs_thick (p : PlM) (t : TrM) (w : World) (hp : p.Lay w w.heap.size) (ht : thinB p = false) : Calls Try.prog 3 #[.agg p.cells.toArray, .agg t.cells.toArray] w fun e w' => e = .returned (.bool true) ∧ Below w.heap.size w w' := by
  have l0 : Lies ((w.alloc (.cells p.cells.toArray 28)).alloc (.cells t.cells.toArray 31)) w.heap.size 28 p.cells.toArray := (Lies.fresh _ _ _).alloc _
  have b0 : Below w.heap.size w ((w.alloc (.cells p.cells.toArray 28)).alloc (.cells t.cells.toArray 31)) := (by repeat (first | (with_reducible assumption) | (with_reducible exact Below.refl _ _) | (with_reducible refine Below.drew ?_) | (with_reducible refine below_drewN ?_ _) | ((with_reducible refine Below.setCell ?_ ?_ _); rotate_left; focus (first | (simp; done) | (simp; omega) | omega)) | ((with_reducible refine Below.alloc ?_ ?_ _); rotate_left; focus (first | (simp; done) | (simp; omega) | omega))))
  have hT := Thin_any p _ (hp.below b0 b0.size)
  rw [ht] at hT
  have L0 := Lib.hid l0
  have B0 := Lib.hid b0
  have HT := Lib.hid hT
  clear l0 b0 hT hp ht
  unfold PlM.cells TrM.cells at HT ⊢
  go_enter Try.func3, Try.ntmps3
  go_wp2_with (first
    | (refine wpList_load_row (o := ⟨some 11, _, _, _, _, _⟩) ?_ 28 (.tmp 2) ?_ w.heap.size ?_ 28 p.cells.toArray (0, 0) _ L0.out Try.underlying28 rfl size28 ?_; rfl; rfl; rfl)
    | (go_at_call 17; refine HT.out.mono ?_; rintro e w1 ⟨rfl, hb1⟩)
    | (go_at_call 19; refine (awake_any _).mono ?_; rintro e w2 ⟨rfl, hb2⟩))
  go_ret
  have hx := B0.out.trans (hb1.mono B0.out.size)
  exact ⟨rfl, hx.trans (hb2.mono hx.size)⟩
set_option maxRecDepth 100000 in
set_option maxHeartbeats 4000000 in
theorem Runs_bad (p : PlM) (t : TrM) (w : World) (hp : p.Lay w w.heap.size) (hta : t.At w w.heap.size) (htn : t.Nil) (htm : ∀ y, y ∈ t.g.l → y.l.length ≤ 9223372036854775807) (ht : thinB p = true) (hf : p.fault ≠ 0) : Calls Try.prog 3 #[.agg p.cells.toArray, .agg t.cells.toArray] w fun e w' => e = .returned (.bool true) ∧ Below w.heap.size w w' := by
  have hat := hp.at ht
  have l0 : Lies ((w.alloc (.cells p.cells.toArray 28)).alloc (.cells t.cells.toArray 31)) w.heap.size 28 p.cells.toArray := (Lies.fresh _ _ _).alloc _
  have l1 : Lies ((w.alloc (.cells p.cells.toArray 28)).alloc (.cells t.cells.toArray 31)) (w.heap.size + 1) 31 t.cells.toArray := Lies.fresh' (by simp)
  have b0 : Below w.heap.size w ((w.alloc (.cells p.cells.toArray 28)).alloc (.cells t.cells.toArray 31)) := (by repeat (first | (with_reducible assumption) | (with_reducible exact Below.refl _ _) | (with_reducible refine Below.drew ?_) | (with_reducible refine below_drewN ?_ _) | ((with_reducible refine Below.setCell ?_ ?_ _); rotate_left; focus (first | (simp; done) | (simp; omega) | omega)) | ((with_reducible refine Below.alloc ?_ ?_ _); rotate_left; focus (first | (simp; done) | (simp; omega) | omega))))
  have hT := Thin_any p _ (hp.below b0 b0.size)
  rw [ht] at hT
  have hSh : ∀ W, Below w.heap.size w W → Calls Try.prog 18 #[.agg t.cells.toArray] W (RetSh t W) := fun W hb => Short_any t W (hta.below hb hb.size) htm
  have hP : ∀ W, Below w.heap.size w W → Calls Try.prog 21 #[.agg p.cells.toArray] W (RetP p W) := fun W hb => Plan_any p W (hat.below hb hb.size) hp.nr hp.ne hp.nk
  have hTr : ∀ (_ : t.Small) (W : World), Below w.heap.size w W → Calls Try.prog 23 #[.agg t.cells.toArray] W (RetT t.d W) := fun hs W hb => Truth_small t W (hta.below hb hb.size) htn hs
  have hFa : ∀ W, Below w.heap.size w W → Calls Try.prog 24 #[.agg p.cells.toArray] W fun e w' => e = .returned (.int .i64 p.fault) ∧ Below W.heap.size W w' := fun W hb => Fault_any p W (hat.below hb hb.size)
  have hCk : ∀ (q : PlM) (W : World), q.d = p.d → q.At W W.heap.size → Calls Try.prog 20 #[.agg q.cells.toArray] W fun e w' => e = .returned (.int .i64 p.fault) ∧ Below W.heap.size W w' := fun q W h hq => CheckPlan_at p q W h hq
  have hRu : ∀ (_ : t.Small) (q : PlM) (u : TrM) (W : World), q.d = p.d → u.d = t.d → q.At W W.heap.size → u.At W W.heap.size → Calls Try.prog 22 #[.agg q.cells.toArray, .agg u.cells.toArray] W fun e w' => e = .returned (.tuple #[.slice none 0 0, .int .i64 p.fault]) ∧ Below W.heap.size W w' := fun _ q u W h1 _ h3 _ => by
    have := Run_bad q u W h3 (by rw [fault_congr h1]; exact hf)
    rwa [fault_congr h1] at this
  have HRU := Lib.hid hRu
  clear hRu
  have L0 := Lib.hid l0
  have L1 := Lib.hid l1
  have B0 := Lib.hid b0
  have HT := Lib.hid hT
  have HSH := Lib.hid hSh
  have HP := Lib.hid hP
  have HTR := Lib.hid hTr
  have HFA := Lib.hid hFa
  have HCK := Lib.hid hCk
  clear l0 l1 b0 hT hSh hP hTr hFa hCk htm htn hp ht hta hat
  generalize p.fault = qf at *
  have hne : (qf != 0) = true := by simpa using hf
  have hne2 : (qf == 0) = false := by simpa using hf
  clear hf
  unfold PlM.cells TrM.cells at HT ⊢
  go_enter Try.func3, Try.ntmps3
  go_wp2_with (first
    | (refine wpList_load_row (o := ⟨some 11, _, _, _, _, _⟩) ?_ 28 (.tmp 2) ?_ w.heap.size ?_ 28 p.cells.toArray (0, 0) _ L0.out Try.underlying28 rfl size28 ?_; rfl; rfl; rfl)
    | (go_at_call 17; refine HT.out.mono ?_; rintro e w1 ⟨rfl, hb1⟩; have K0 := Lib.hid (L0.out.call hb1); have K1 := Lib.hid (L1.out.call hb1); have B1 := Lib.hid (B0.out.trans (hb1.mono B0.out.size)); clear hb1)
    | (refine wpList_load_rowG (o := ⟨some 15, _, _, _, _, _⟩) ?_ 31 (.tmp 3) ?_ (w.heap.size + 1) ?_ 31 t.cells.toArray (0, 0) _ K1.out Try.underlying31 rfl size31 ?_; kernel_rfl; rfl; rfl))
  refine (HSH.out _ B1.out).mono ?_
  rintro e w2 ⟨b, rfl, hsb, hb2⟩
  have K0' := Lib.hid (K0.out.call hb2)
  have K1' := Lib.hid (K1.out.call hb2)
  have B2 := Lib.hid (B1.out.trans (hb2.mono B1.out.size))
  clear hb2 K0 K1 L0 L1 B0 B1 HT HSH
  cases b with
  | false =>
    go_wp2_with (go_at_call 19; refine (awake_any _).mono ?_; rintro e w3 ⟨rfl, hb3⟩)
    go_ret
    exact ⟨rfl, B2.out.trans (hb3.mono B2.out.size)⟩
  | true =>
    have hsm : t.Small := hsb rfl
    have HSM := Lib.hid hsm
    clear hsb hsm
    go_upto_region 4 with (first
      | (refine wpList_load_row (o := ⟨some 20, _, _, _, _, _⟩) ?_ 28 (.tmp 2) ?_ w.heap.size ?_ 28 p.cells.toArray (0, 0) _ K0'.out Try.underlying28 rfl size28 ?_; rfl; rfl; rfl)
      | (go_at_call 21; refine (HP.out _ B2.out).mono ?_; rintro e w3 ⟨q0, rfl, hd, hq, hb3⟩; have M0 := Lib.hid (K0'.out.call hb3); have M1 := Lib.hid (K1'.out.call hb3); have B3 := Lib.hid (B2.out.trans (hb3.mono B2.out.size)); clear hb3)
      | (go_at_call 20; refine (HCK.out q0 _ hd hq).mono ?_; rintro e w4 ⟨rfl, hb4⟩; have N0 := Lib.hid (M0.out.call hb4); have N1 := Lib.hid (M1.out.call hb4); have B4 := Lib.hid (B3.out.trans (hb4.mono B3.out.size)); clear hb4))
    clear hd hq M0 M1 B3 K0' K1' B2 HCK
    have hrp : ∀ W, (∃ c : Cls (fun W => Below w4.heap.size w4 W), W = c.val) → W.rangeAt w.heap.size 0 p.cells := by
      rintro W ⟨c, rfl⟩
      exact Lies.range (cs := p.cells) (N0.out.call c.h) (fun j v hj => by simpa using hj)
    have hrt : ∀ W, (∃ c : Cls (fun W => Below w4.heap.size w4 W), W = c.val) → W.rangeAt (w.heap.size + 1) 0 t.cells := by
      rintro W ⟨c, rfl⟩
      exact Lies.range (cs := t.cells) (N1.out.call c.h) (fun j v hj => by simpa using hj)
    have HRP := Lib.hid hrp
    have HRT := Lib.hid hrt
    clear hrp hrt
    haveI hne4 : Nonempty (Cls (fun W => Below w4.heap.size w4 W)) := ⟨⟨w4, Below.refl _ _⟩⟩
    refine wp_region_whole [([0, 2], [1, 3, 4]), ([5, 6, 7, 8, 9], [])] (fun W => ∃ c : Cls (fun W => Below w4.heap.size w4 W), W = c.val) (Cls.here (Below.refl _ _).drew) (by kernel_rfl) (by kernel_rfl) ?_
    simp only [wpPhases, List.filterMap_cons, List.filterMap_nil, List.getElem?_toArray, List.getElem?_cons_zero, List.getElem?_cons_succ]
    refine wpQuiet_load_whole (o := ⟨some 24, _, _, _, _, _⟩) ?_ 28 (.tmp 2) ?_ w.heap.size 0 ?_ p.cells _ HRP.out Try.underlying28 rfl size28 ?_
    rfl; rfl; rfl
    simp only [Act.put, List.setIfInBounds_toArray, List.set_cons_zero, List.set_cons_succ]
    refine wpQuiet_load_whole (o := ⟨some 26, _, _, _, _, _⟩) ?_ 31 (.tmp 3) ?_ (w.heap.size + 1) 0 ?_ t.cells _ HRT.out Try.underlying31 rfl size31 ?_
    rfl; rfl; rfl
    simp only [Act.put, List.setIfInBounds_toArray, List.set_cons_zero, List.set_cons_succ]
    refine wpQuiet_nil ?_
    simp only [wpForce]
    have hd1 : Below w4.heap.size w4 w4.drew := (Below.refl _ _).drew
    generalize w4.drew = v1 at *
    go_wp2_with (go_at_call 21; refine (HP.out _ (B4.out.trans (hd1.mono B4.out.size))).mono ?_; rintro e v2 ⟨q, rfl, hqd, hqa, hb⟩)
    have hd2 := hd1.trans (hb.mono hd1.size)
    refine Ends.intro ⟨Cls.here hd2, ?_⟩
    clear hb
    go_wp2_with (go_at_call 23; refine (HTR.out HSM.out _ (B4.out.trans (hd2.mono B4.out.size))).mono ?_; rintro e v3 ⟨u, rfl, hud, hua, _, hb⟩)
    have hd3 := hd2.trans (hb.mono hd2.size)
    refine Ends.intro ⟨Cls.here hd3, ?_⟩
    have hqa3 := hqa.below hb hb.size
    clear hb
    go_wp2_with (go_at_call 22; refine (HRU.out HSM.out q u _ hqd hud hqa3 hua).mono ?_; rintro e v4 ⟨rfl, hb⟩)
    have hd4 := hd3.trans (hb.mono hd3.size)
    refine Ends.intro ⟨Cls.here hd4, ?_⟩
    have P0 := Lib.hid (N0.out.call hd4)
    have P1 := Lib.hid (N1.out.call hd4)
    have B5 := Lib.hid (B4.out.trans (hd4.mono B4.out.size))
    clear hb hd1 hd2 hd3 hd4 hqd hqa hqa3 hud hua HRP HRT
    repeat (first | go_big_quiet_step (fail) | quiet_step (fail))
    refine wpQuiet_nil ?_
    clear N0 N1 B4 hne4
    go_wp2_with (first
      | (refine wpList_load_row (o := ⟨some 31, _, _, _, _, _⟩) ?_ 28 (.tmp 2) ?_ w.heap.size ?_ 28 p.cells.toArray (0, 0) _ P0.out Try.underlying28 rfl size28 ?_; rfl; rfl; rfl)
      | (go_at_call 24; refine (HFA.out _ B5.out).mono ?_; rintro e w6 ⟨rfl, hb6⟩)
      | (go_at_call 19; refine (awake_any _).mono ?_; rintro e w7 ⟨rfl, hb7⟩))
    go_ret
    have hx := B5.out.trans (hb6.mono B5.out.size)
    exact ⟨rfl, hx.trans (hb7.mono hx.size)⟩
set_option maxRecDepth 100000 in
set_option maxHeartbeats 4000000 in
theorem Runs_unfit (p : PlM) (t : TrM) (w : World) (hp : p.Lay w w.heap.size) (hta : t.At w w.heap.size) (htn : t.Nil) (htm : ∀ y, y ∈ t.g.l → y.l.length ≤ 9223372036854775807) (ht : thinB p = true) (hf : p.fault = 0) (hfit : fitD p.d t.d = false) : Calls Try.prog 3 #[.agg p.cells.toArray, .agg t.cells.toArray] w fun e w' => e = .returned (.bool true) ∧ Below w.heap.size w w' := by
  have hat := hp.at ht
  have l0 : Lies ((w.alloc (.cells p.cells.toArray 28)).alloc (.cells t.cells.toArray 31)) w.heap.size 28 p.cells.toArray := (Lies.fresh _ _ _).alloc _
  have l1 : Lies ((w.alloc (.cells p.cells.toArray 28)).alloc (.cells t.cells.toArray 31)) (w.heap.size + 1) 31 t.cells.toArray := Lies.fresh' (by simp)
  have b0 : Below w.heap.size w ((w.alloc (.cells p.cells.toArray 28)).alloc (.cells t.cells.toArray 31)) := (by repeat (first | (with_reducible assumption) | (with_reducible exact Below.refl _ _) | (with_reducible refine Below.drew ?_) | (with_reducible refine below_drewN ?_ _) | ((with_reducible refine Below.setCell ?_ ?_ _); rotate_left; focus (first | (simp; done) | (simp; omega) | omega)) | ((with_reducible refine Below.alloc ?_ ?_ _); rotate_left; focus (first | (simp; done) | (simp; omega) | omega))))
  have hT := Thin_any p _ (hp.below b0 b0.size)
  rw [ht] at hT
  have hSh : ∀ W, Below w.heap.size w W → Calls Try.prog 18 #[.agg t.cells.toArray] W (RetSh t W) := fun W hb => Short_any t W (hta.below hb hb.size) htm
  have hP : ∀ W, Below w.heap.size w W → Calls Try.prog 21 #[.agg p.cells.toArray] W (RetP p W) := fun W hb => Plan_any p W (hat.below hb hb.size) hp.nr hp.ne hp.nk
  have hTr : ∀ (_ : t.Small) (W : World), Below w.heap.size w W → Calls Try.prog 23 #[.agg t.cells.toArray] W (RetT t.d W) := fun hs W hb => Truth_small t W (hta.below hb hb.size) htn hs
  have hFa : ∀ W, Below w.heap.size w W → Calls Try.prog 24 #[.agg p.cells.toArray] W fun e w' => e = .returned (.int .i64 p.fault) ∧ Below W.heap.size W w' := fun W hb => Fault_any p W (hat.below hb hb.size)
  have hCk : ∀ (q : PlM) (W : World), q.d = p.d → q.At W W.heap.size → Calls Try.prog 20 #[.agg q.cells.toArray] W fun e w' => e = .returned (.int .i64 p.fault) ∧ Below W.heap.size W w' := fun q W h hq => CheckPlan_at p q W h hq
  rw [hf] at hFa
  have hv := fault_zero hf
  have hRu : ∀ (_ : t.Small) (q : PlM) (u : TrM) (W : World), q.d = p.d → u.d = t.d → q.At W W.heap.size → u.At W W.heap.size → Calls Try.prog 22 #[.agg q.cells.toArray, .agg u.cells.toArray] W fun e w' => e = .returned (.tuple #[.slice none 0 0, .int .i64 2]) ∧ Below W.heap.size W w' := fun hs q u W h1 h2 h3 h4 =>
    Run_unfit q u W h3 h4 (by have := (trD_lens h2).1; have := hs.g; omega) (by have := (trD_lens h2).2; have := hs.l; omega) (by rw [fault_congr h1]; exact hf) (by rw [fit_d, h1, h2]; exact hfit)
  have hFi : ∀ (_ : t.Small) (W : World), Below w.heap.size w W → Calls Try.prog 25 #[.agg p.cells.toArray, .agg t.cells.toArray] W fun e w' => e = .returned (.bool false) ∧ Below W.heap.size W w' := fun hs W hb => Fits_bool p t W false (hat.below hb hb.size) hv (hta.below hb hb.size) hs hfit
  rw [hf] at hCk
  have HRU := Lib.hid hRu
  have HFI := Lib.hid hFi
  clear hRu hFi
  have L0 := Lib.hid l0
  have L1 := Lib.hid l1
  have B0 := Lib.hid b0
  have HT := Lib.hid hT
  have HSH := Lib.hid hSh
  have HP := Lib.hid hP
  have HTR := Lib.hid hTr
  have HFA := Lib.hid hFa
  have HCK := Lib.hid hCk
  clear l0 l1 b0 hT hSh hP hTr hFa hCk htm htn hp ht hta hat hf hfit hv
  unfold PlM.cells TrM.cells at HT ⊢
  go_enter Try.func3, Try.ntmps3
  go_wp2_with (first
    | (refine wpList_load_row (o := ⟨some 11, _, _, _, _, _⟩) ?_ 28 (.tmp 2) ?_ w.heap.size ?_ 28 p.cells.toArray (0, 0) _ L0.out Try.underlying28 rfl size28 ?_; rfl; rfl; rfl)
    | (go_at_call 17; refine HT.out.mono ?_; rintro e w1 ⟨rfl, hb1⟩; have K0 := Lib.hid (L0.out.call hb1); have K1 := Lib.hid (L1.out.call hb1); have B1 := Lib.hid (B0.out.trans (hb1.mono B0.out.size)); clear hb1)
    | (refine wpList_load_rowG (o := ⟨some 15, _, _, _, _, _⟩) ?_ 31 (.tmp 3) ?_ (w.heap.size + 1) ?_ 31 t.cells.toArray (0, 0) _ K1.out Try.underlying31 rfl size31 ?_; kernel_rfl; rfl; rfl))
  refine (HSH.out _ B1.out).mono ?_
  rintro e w2 ⟨b, rfl, hsb, hb2⟩
  have K0' := Lib.hid (K0.out.call hb2)
  have K1' := Lib.hid (K1.out.call hb2)
  have B2 := Lib.hid (B1.out.trans (hb2.mono B1.out.size))
  clear hb2 K0 K1 L0 L1 B0 B1 HT HSH
  cases b with
  | false =>
    go_wp2_with (go_at_call 19; refine (awake_any _).mono ?_; rintro e w3 ⟨rfl, hb3⟩)
    go_ret
    exact ⟨rfl, B2.out.trans (hb3.mono B2.out.size)⟩
  | true =>
    have hsm : t.Small := hsb rfl
    have HSM := Lib.hid hsm
    clear hsb hsm
    go_upto_region 4 with (first
      | (refine wpList_load_row (o := ⟨some 20, _, _, _, _, _⟩) ?_ 28 (.tmp 2) ?_ w.heap.size ?_ 28 p.cells.toArray (0, 0) _ K0'.out Try.underlying28 rfl size28 ?_; rfl; rfl; rfl)
      | (go_at_call 21; refine (HP.out _ B2.out).mono ?_; rintro e w3 ⟨q0, rfl, hd, hq, hb3⟩; have M0 := Lib.hid (K0'.out.call hb3); have M1 := Lib.hid (K1'.out.call hb3); have B3 := Lib.hid (B2.out.trans (hb3.mono B2.out.size)); clear hb3)
      | (go_at_call 20; refine (HCK.out q0 _ hd hq).mono ?_; rintro e w4 ⟨rfl, hb4⟩; have N0 := Lib.hid (M0.out.call hb4); have N1 := Lib.hid (M1.out.call hb4); have B4 := Lib.hid (B3.out.trans (hb4.mono B3.out.size)); clear hb4))
    clear hd hq M0 M1 B3 K0' K1' B2 HCK
    have hrp : ∀ W, (∃ c : Cls (fun W => Below w4.heap.size w4 W), W = c.val) → W.rangeAt w.heap.size 0 p.cells := by
      rintro W ⟨c, rfl⟩
      exact Lies.range (cs := p.cells) (N0.out.call c.h) (fun j v hj => by simpa using hj)
    have hrt : ∀ W, (∃ c : Cls (fun W => Below w4.heap.size w4 W), W = c.val) → W.rangeAt (w.heap.size + 1) 0 t.cells := by
      rintro W ⟨c, rfl⟩
      exact Lies.range (cs := t.cells) (N1.out.call c.h) (fun j v hj => by simpa using hj)
    have HRP := Lib.hid hrp
    have HRT := Lib.hid hrt
    clear hrp hrt
    haveI hne4 : Nonempty (Cls (fun W => Below w4.heap.size w4 W)) := ⟨⟨w4, Below.refl _ _⟩⟩
    refine wp_region_whole [([0, 2], [1, 3, 4]), ([5, 6, 7, 8, 9], [])] (fun W => ∃ c : Cls (fun W => Below w4.heap.size w4 W), W = c.val) (Cls.here (Below.refl _ _).drew) (by kernel_rfl) (by kernel_rfl) ?_
    simp only [wpPhases, List.filterMap_cons, List.filterMap_nil, List.getElem?_toArray, List.getElem?_cons_zero, List.getElem?_cons_succ]
    refine wpQuiet_load_whole (o := ⟨some 24, _, _, _, _, _⟩) ?_ 28 (.tmp 2) ?_ w.heap.size 0 ?_ p.cells _ HRP.out Try.underlying28 rfl size28 ?_
    rfl; rfl; rfl
    simp only [Act.put, List.setIfInBounds_toArray, List.set_cons_zero, List.set_cons_succ]
    refine wpQuiet_load_whole (o := ⟨some 26, _, _, _, _, _⟩) ?_ 31 (.tmp 3) ?_ (w.heap.size + 1) 0 ?_ t.cells _ HRT.out Try.underlying31 rfl size31 ?_
    rfl; rfl; rfl
    simp only [Act.put, List.setIfInBounds_toArray, List.set_cons_zero, List.set_cons_succ]
    refine wpQuiet_nil ?_
    simp only [wpForce]
    have hd1 : Below w4.heap.size w4 w4.drew := (Below.refl _ _).drew
    generalize w4.drew = v1 at *
    go_wp2_with (go_at_call 21; refine (HP.out _ (B4.out.trans (hd1.mono B4.out.size))).mono ?_; rintro e v2 ⟨q, rfl, hqd, hqa, hb⟩)
    have hd2 := hd1.trans (hb.mono hd1.size)
    refine Ends.intro ⟨Cls.here hd2, ?_⟩
    clear hb
    go_wp2_with (go_at_call 23; refine (HTR.out HSM.out _ (B4.out.trans (hd2.mono B4.out.size))).mono ?_; rintro e v3 ⟨u, rfl, hud, hua, _, hb⟩)
    have hd3 := hd2.trans (hb.mono hd2.size)
    refine Ends.intro ⟨Cls.here hd3, ?_⟩
    have hqa3 := hqa.below hb hb.size
    clear hb
    go_wp2_with (go_at_call 22; refine (HRU.out HSM.out q u _ hqd hud hqa3 hua).mono ?_; rintro e v4 ⟨rfl, hb⟩)
    have hd4 := hd3.trans (hb.mono hd3.size)
    refine Ends.intro ⟨Cls.here hd4, ?_⟩
    have P0 := Lib.hid (N0.out.call hd4)
    have P1 := Lib.hid (N1.out.call hd4)
    have B5 := Lib.hid (B4.out.trans (hd4.mono B4.out.size))
    clear hb hd1 hd2 hd3 hd4 hqd hqa hqa3 hud hua HRP HRT
    repeat (first | go_big_quiet_step (fail) | quiet_step (fail))
    refine wpQuiet_nil ?_
    clear N0 N1 B4 hne4
    go_wp2_with (first
      | (refine wpList_load_row (o := ⟨some 31, _, _, _, _, _⟩) ?_ 28 (.tmp 2) ?_ w.heap.size ?_ 28 p.cells.toArray (0, 0) _ P0.out Try.underlying28 rfl size28 ?_; rfl; rfl; rfl)
      | (go_at_call 24; refine (HFA.out _ B5.out).mono ?_; rintro e w6 ⟨rfl, hb6⟩; have Q0 := Lib.hid (P0.out.call hb6); have Q1 := Lib.hid (P1.out.call hb6); have B6 := Lib.hid (B5.out.trans (hb6.mono B5.out.size)); clear hb6)
      | (refine wpList_load_rowG (o := ⟨some 39, _, _, _, _, _⟩) ?_ 28 (.tmp 2) ?_ w.heap.size ?_ 28 p.cells.toArray (0, 0) _ Q0.out Try.underlying28 rfl size28 ?_; kernel_rfl; rfl; rfl)
      | (refine wpList_load_rowG (o := ⟨some 40, _, _, _, _, _⟩) ?_ 31 (.tmp 3) ?_ (w.heap.size + 1) ?_ 31 t.cells.toArray (0, 0) _ Q1.out Try.underlying31 rfl size31 ?_; kernel_rfl; rfl; rfl)
      | (go_at_call 25; refine (HFI.out HSM.out _ B6.out).mono ?_; rintro e w7 ⟨rfl, hb7⟩)
      | (go_at_call 19; refine (awake_any _).mono ?_; rintro e w8 ⟨rfl, hb8⟩))
    go_ret
    have hx := B6.out.trans (hb7.mono B6.out.size)
    exact ⟨rfl, hx.trans (hb8.mono hx.size)⟩
set_option maxRecDepth 100000 in
set_option maxHeartbeats 4000000 in
theorem Runs_good (p : PlM) (t : TrM) (w : World) (hp : p.Lay w w.heap.size) (hta : t.At w w.heap.size) (htn : t.Nil) (htm : ∀ y, y ∈ t.g.l → y.l.length ≤ 9223372036854775807) (ht : thinB p = true) (hf : p.fault = 0) (hfit : fitD p.d t.d = true) : Calls Try.prog 3 #[.agg p.cells.toArray, .agg t.cells.toArray] w fun e w' => e = .returned (.bool true) ∧ Below w.heap.size w w' := by
  have hat := hp.at ht
  have l0 : Lies ((w.alloc (.cells p.cells.toArray 28)).alloc (.cells t.cells.toArray 31)) w.heap.size 28 p.cells.toArray := (Lies.fresh _ _ _).alloc _
  have l1 : Lies ((w.alloc (.cells p.cells.toArray 28)).alloc (.cells t.cells.toArray 31)) (w.heap.size + 1) 31 t.cells.toArray := Lies.fresh' (by simp)
  have b0 : Below w.heap.size w ((w.alloc (.cells p.cells.toArray 28)).alloc (.cells t.cells.toArray 31)) := (by repeat (first | (with_reducible assumption) | (with_reducible exact Below.refl _ _) | (with_reducible refine Below.drew ?_) | (with_reducible refine below_drewN ?_ _) | ((with_reducible refine Below.setCell ?_ ?_ _); rotate_left; focus (first | (simp; done) | (simp; omega) | omega)) | ((with_reducible refine Below.alloc ?_ ?_ _); rotate_left; focus (first | (simp; done) | (simp; omega) | omega))))
  have hT := Thin_any p _ (hp.below b0 b0.size)
  rw [ht] at hT
  have hSh : ∀ W, Below w.heap.size w W → Calls Try.prog 18 #[.agg t.cells.toArray] W (RetSh t W) := fun W hb => Short_any t W (hta.below hb hb.size) htm
  have hP : ∀ W, Below w.heap.size w W → Calls Try.prog 21 #[.agg p.cells.toArray] W (RetP p W) := fun W hb => Plan_any p W (hat.below hb hb.size) hp.nr hp.ne hp.nk
  have hTr : ∀ (_ : t.Small) (W : World), Below w.heap.size w W → Calls Try.prog 23 #[.agg t.cells.toArray] W (RetT t.d W) := fun hs W hb => Truth_small t W (hta.below hb hb.size) htn hs
  have hFa : ∀ W, Below w.heap.size w W → Calls Try.prog 24 #[.agg p.cells.toArray] W fun e w' => e = .returned (.int .i64 p.fault) ∧ Below W.heap.size W w' := fun W hb => Fault_any p W (hat.below hb hb.size)
  have hCk : ∀ (q : PlM) (W : World), q.d = p.d → q.At W W.heap.size → Calls Try.prog 20 #[.agg q.cells.toArray] W fun e w' => e = .returned (.int .i64 p.fault) ∧ Below W.heap.size W w' := fun q W h hq => CheckPlan_at p q W h hq
  rw [hf] at hFa
  rw [hf] at hCk
  have hv := fault_zero hf
  have hn5 := hv.ok.n
  have hn1 := hv.ok.one
  obtain ⟨Y, hY⟩ : ∃ Y : Nat, p.years = (Y : Int) := ⟨p.years.toNat, years_nat hv⟩
  have hY6 : Y ≤ 6 := by have := hv.y; omega
  have hYz : (Y : Int) ≤ 6 := by omega
  have hRu : ∀ (_ : t.Small) (q : PlM) (u : TrM) (W : World), q.d = p.d → u.d = t.d → q.At W W.heap.size → u.At W W.heap.size → Calls Try.prog 22 #[.agg q.cells.toArray, .agg u.cells.toArray] W (RetR (fun k => toldL p.d.s.length (yrT p.d t.d k)) Y W) := fun _ q u W h1 h2 h3 h4 =>
    Run_law q u p.d t.d Y W h1 h2 h3 h4 (by rw [fault_congr h1]; exact hf) hfit (by rw [← hY]; show q.d.years = _; rw [h1]; rfl)
  have hFi : ∀ (_ : t.Small) (W : World), Below w.heap.size w W → Calls Try.prog 25 #[.agg p.cells.toArray, .agg t.cells.toArray] W fun e w' => e = .returned (.bool true) ∧ Below W.heap.size W w' := fun hs W hb => Fits_bool p t W true (hat.below hb hb.size) hv (hta.below hb hb.size) hs hfit
  have hRr : ∀ (W : World), Below w.heap.size w W → Calls Try.prog 26 #[.agg p.cells.toArray, .agg t.cells.toArray] W (RetQ (fun k => toldL p.d.s.length (yrT p.d t.d k)) Y W) := fun W hb => refRun_law p t p.d t.d Y W rfl rfl (hat.below hb hb.size) (hta.below hb hb.size) hf hfit hY
  have HRU := Lib.hid hRu
  have HFI := Lib.hid hFi
  have HRR := Lib.hid hRr
  have HV := Lib.hid hv
  clear hRu hFi hRr
  have L0 := Lib.hid l0
  have L1 := Lib.hid l1
  have B0 := Lib.hid b0
  have HT := Lib.hid hT
  have HSH := Lib.hid hSh
  have HP := Lib.hid hP
  have HTR := Lib.hid hTr
  have HFA := Lib.hid hFa
  have HCK := Lib.hid hCk
  clear l0 l1 b0 hT hSh hP hTr hFa hCk htm htn hp ht hta hat hf hfit hv hY
  unfold PlM.cells TrM.cells at HT ⊢
  go_enter Try.func3, Try.ntmps3
  go_wp2_with (first
    | (refine wpList_load_row (o := ⟨some 11, _, _, _, _, _⟩) ?_ 28 (.tmp 2) ?_ w.heap.size ?_ 28 p.cells.toArray (0, 0) _ L0.out Try.underlying28 rfl size28 ?_; rfl; rfl; rfl)
    | (go_at_call 17; refine HT.out.mono ?_; rintro e w1 ⟨rfl, hb1⟩; have K0 := Lib.hid (L0.out.call hb1); have K1 := Lib.hid (L1.out.call hb1); have B1 := Lib.hid (B0.out.trans (hb1.mono B0.out.size)); clear hb1)
    | (refine wpList_load_rowG (o := ⟨some 15, _, _, _, _, _⟩) ?_ 31 (.tmp 3) ?_ (w.heap.size + 1) ?_ 31 t.cells.toArray (0, 0) _ K1.out Try.underlying31 rfl size31 ?_; kernel_rfl; rfl; rfl))
  refine (HSH.out _ B1.out).mono ?_
  rintro e w2 ⟨b, rfl, hsb, hb2⟩
  have K0' := Lib.hid (K0.out.call hb2)
  have K1' := Lib.hid (K1.out.call hb2)
  have B2 := Lib.hid (B1.out.trans (hb2.mono B1.out.size))
  clear hb2 K0 K1 L0 L1 B0 B1 HT HSH
  cases b with
  | false =>
    go_wp2_with (go_at_call 19; refine (awake_any _).mono ?_; rintro e w3 ⟨rfl, hb3⟩)
    go_ret
    exact ⟨rfl, B2.out.trans (hb3.mono B2.out.size)⟩
  | true =>
    have hsm : t.Small := hsb rfl
    have HSM := Lib.hid hsm
    clear hsb hsm
    go_upto_region 4 with (first
      | (refine wpList_load_row (o := ⟨some 20, _, _, _, _, _⟩) ?_ 28 (.tmp 2) ?_ w.heap.size ?_ 28 p.cells.toArray (0, 0) _ K0'.out Try.underlying28 rfl size28 ?_; rfl; rfl; rfl)
      | (go_at_call 21; refine (HP.out _ B2.out).mono ?_; rintro e w3 ⟨q0, rfl, hd, hq, hb3⟩; have M0 := Lib.hid (K0'.out.call hb3); have M1 := Lib.hid (K1'.out.call hb3); have B3 := Lib.hid (B2.out.trans (hb3.mono B2.out.size)); clear hb3)
      | (go_at_call 20; refine (HCK.out q0 _ hd hq).mono ?_; rintro e w4 ⟨rfl, hb4⟩; have N0 := Lib.hid (M0.out.call hb4); have N1 := Lib.hid (M1.out.call hb4); have B4 := Lib.hid (B3.out.trans (hb4.mono B3.out.size)); clear hb4))
    clear hd hq M0 M1 B3 K0' K1' B2 HCK
    have hrp : ∀ W, (∃ c : Cls (fun W => Below w4.heap.size w4 W), W = c.val) → W.rangeAt w.heap.size 0 p.cells := by
      rintro W ⟨c, rfl⟩
      exact Lies.range (cs := p.cells) (N0.out.call c.h) (fun j v hj => by simpa using hj)
    have hrt : ∀ W, (∃ c : Cls (fun W => Below w4.heap.size w4 W), W = c.val) → W.rangeAt (w.heap.size + 1) 0 t.cells := by
      rintro W ⟨c, rfl⟩
      exact Lies.range (cs := t.cells) (N1.out.call c.h) (fun j v hj => by simpa using hj)
    have HRP := Lib.hid hrp
    have HRT := Lib.hid hrt
    clear hrp hrt
    haveI hne4 : Nonempty (Cls (fun W => Below w4.heap.size w4 W)) := ⟨⟨w4, Below.refl _ _⟩⟩
    refine wp_region_whole [([0, 2], [1, 3, 4]), ([5, 6, 7, 8, 9], [])] (fun W => ∃ c : Cls (fun W => Below w4.heap.size w4 W), W = c.val) (Cls.here (Below.refl _ _).drew) (by kernel_rfl) (by kernel_rfl) ?_
    simp only [wpPhases, List.filterMap_cons, List.filterMap_nil, List.getElem?_toArray, List.getElem?_cons_zero, List.getElem?_cons_succ]
    refine wpQuiet_load_whole (o := ⟨some 24, _, _, _, _, _⟩) ?_ 28 (.tmp 2) ?_ w.heap.size 0 ?_ p.cells _ HRP.out Try.underlying28 rfl size28 ?_
    rfl; rfl; rfl
    simp only [Act.put, List.setIfInBounds_toArray, List.set_cons_zero, List.set_cons_succ]
    refine wpQuiet_load_whole (o := ⟨some 26, _, _, _, _, _⟩) ?_ 31 (.tmp 3) ?_ (w.heap.size + 1) 0 ?_ t.cells _ HRT.out Try.underlying31 rfl size31 ?_
    rfl; rfl; rfl
    simp only [Act.put, List.setIfInBounds_toArray, List.set_cons_zero, List.set_cons_succ]
    refine wpQuiet_nil ?_
    simp only [wpForce]
    have hd1 : Below w4.heap.size w4 w4.drew := (Below.refl _ _).drew
    generalize w4.drew = v1 at *
    go_wp2_with (go_at_call 21; refine (HP.out _ (B4.out.trans (hd1.mono B4.out.size))).mono ?_; rintro e v2 ⟨q, rfl, hqd, hqa, hb⟩)
    have hd2 := hd1.trans (hb.mono hd1.size)
    refine Ends.intro ⟨Cls.here hd2, ?_⟩
    clear hb
    go_wp2_with (go_at_call 23; refine (HTR.out HSM.out _ (B4.out.trans (hd2.mono B4.out.size))).mono ?_; rintro e v3 ⟨u, rfl, hud, hua, _, hb⟩)
    have hd3 := hd2.trans (hb.mono hd2.size)
    refine Ends.intro ⟨Cls.here hd3, ?_⟩
    have hqa3 := hqa.below hb hb.size
    clear hb
    go_wp2_with (go_at_call 22; refine (HRU.out HSM.out q u _ hqd hud hqa3 hua).mono ?_; rintro e v4 ⟨A1, c1, ys, rfl, hys, hym, hyi, hb⟩)
    have hd4 := hd3.trans (hb.mono hd3.size)
    refine Ends.intro ⟨Cls.here hd4, ?_⟩
    have P0 := Lib.hid (N0.out.call hd4)
    have P1 := Lib.hid (N1.out.call hd4)
    have B5 := Lib.hid (B4.out.trans (hd4.mono B4.out.size))
    have HYS := Lib.hid hys
    have HYM := Lib.hid hym
    have HYI := Lib.hid hyi
    clear hys hym hyi
    clear hb hd1 hd2 hd3 hd4 hqd hqa hqa3 hud hua HRP HRT
    repeat (first | go_big_quiet_step (fail) | quiet_step (fail))
    refine wpQuiet_nil ?_
    clear N0 N1 B4 hne4
    go_wp2_with (first
      | (refine wpList_load_row (o := ⟨some 31, _, _, _, _, _⟩) ?_ 28 (.tmp 2) ?_ w.heap.size ?_ 28 p.cells.toArray (0, 0) _ P0.out Try.underlying28 rfl size28 ?_; rfl; rfl; rfl)
      | (go_at_call 24; refine (HFA.out _ B5.out).mono ?_; rintro e w6 ⟨rfl, hb6⟩; have Q0 := Lib.hid (P0.out.call hb6); have Q1 := Lib.hid (P1.out.call hb6); have B6 := Lib.hid (B5.out.trans (hb6.mono B5.out.size)); have D6 := Lib.hid hb6; clear hb6)
      | (refine wpList_load_rowG (o := ⟨some 39, _, _, _, _, _⟩) ?_ 28 (.tmp 2) ?_ w.heap.size ?_ 28 p.cells.toArray (0, 0) _ Q0.out Try.underlying28 rfl size28 ?_; kernel_rfl; rfl; rfl)
      | (refine wpList_load_rowG (o := ⟨some 40, _, _, _, _, _⟩) ?_ 31 (.tmp 3) ?_ (w.heap.size + 1) ?_ 31 t.cells.toArray (0, 0) _ Q1.out Try.underlying31 rfl size31 ?_; kernel_rfl; rfl; rfl)
      | (go_at_call 25; refine (HFI.out HSM.out _ B6.out).mono ?_; rintro e w7 ⟨rfl, hb7⟩; have R0 := Lib.hid (Q0.out.call hb7); have R1 := Lib.hid (Q1.out.call hb7); have B7 := Lib.hid (B6.out.trans (hb7.mono B6.out.size)); have D7 := Lib.hid (D6.out.trans (hb7.mono D6.out.size)); clear hb7)
      | (refine wpList_load_row (o := ⟨some 57, _, _, _, _, _⟩) ?_ 28 (.tmp 2) ?_ w.heap.size ?_ 28 p.cells.toArray (0, 0) _ R0.out Try.underlying28 rfl size28 ?_; rfl; rfl; rfl)
      | (refine wpList_load_row (o := ⟨some 58, _, _, _, _, _⟩) ?_ 31 (.tmp 3) ?_ (w.heap.size + 1) ?_ 31 t.cells.toArray (0, 0) _ R1.out Try.underlying31 rfl size31 ?_; rfl; rfl; rfl))
    clear P0 P1 Q0 Q1 R0 R1 HFA HFI HRU HTR HP
    refine (HRR.out _ B7.out).mono ?_
    rintro e w8 ⟨A2, c2, zs, rfl, hzs, hzm, hzi, hb8⟩
    have HZS := Lib.hid hzs.sl
    have HZM := Lib.hid hzm
    have HZI := Lib.hid hzi
    have B8 := Lib.hid (B7.out.trans (hb8.mono B7.out.size))
    have D8 := Lib.hid (D7.out.trans (hb8.mono D7.out.size))
    have HYS2 := Lib.hid ((HYS.out.sl.below D8.out).more D8.out.size)
    have HYI2 := Lib.hid (show ∀ y, y ∈ ys → y.In w8 w8.heap.size from fun y hy => (HYI.out y hy).call D8.out)
    clear hzs hzm hzi hb8 HRR D7 D6 B6 B5 B7 HYS HYI D8
    go_wp2
    go_loopw [10] (fun i wr => ∃ k : Nat, k ≤ Y ∧ i = .int .i64 k ∧ Aside (Below w8.heap.size w8 wr)) (fun i _ => Y - (intOf i).toNat)
    case atStart => exact ⟨0, by omega, rfl, Below.refl _ _⟩
    case round =>
      obtain ⟨k, hk, rfl, hb⟩ := hrel
      by_cases hlt : k < Y
      · have hltz : (k : Int) < (Y : Int) := by omega
        have hk0 : (0 : Int) ≤ (k : Int) := by omega
        have hl := told_lens (d := p.d) (t := t.d) (k := k) hn5
        obtain ⟨b1, o1, y, rfl, e1, g1, hb1, i1⟩ := year_more (n := p.s.l.length) HYS2.out HYM.out HYI2.out hl hlt
        obtain ⟨b2, o2, z, rfl, e2, g2, hb2, i2⟩ := year_more (n := p.s.l.length) HZS.out HZM.out HZI.out hl hlt
        have hr1 : ∀ W, (∃ q : Regrown, W = Go.Sort.grow (redrawn wr q.d) q.os) → W.rangeAt b1 (o1 + k * 4) [.slice y.a.A p.s.l.length y.a.c, .slice y.b.A p.s.l.length y.b.c, .slice y.c.A p.s.l.length y.c.c, .slice y.d.A p.s.l.length y.d.c] := by
          rintro W ⟨q, rfl⟩
          have hbw := hb.out.trans ((below_regrown wr q.d q.os).mono hb.out.size)
          exact fun j v hj => (hbw.cell (p := ⟨b1, o1 + k * 4 + j, none⟩) hb1).trans (range4 g1 j v hj)
        have hr2 : ∀ W, (∃ q : Regrown, W = Go.Sort.grow (redrawn wr q.d) q.os) → W.rangeAt b2 (o2 + k * 4) [.slice z.a.A p.s.l.length z.a.c, .slice z.b.A p.s.l.length z.b.c, .slice z.c.A p.s.l.length z.c.c, .slice z.d.A p.s.l.length z.d.c] := by
          rintro W ⟨q, rfl⟩
          have hbw := hb.out.trans ((below_regrown wr q.d q.os).mono hb.out.size)
          exact fun j v hj => (hbw.cell (p := ⟨b2, o2 + k * 4 + j, none⟩) hb2).trans (range4 g2 j v hj)
        obtain ⟨n1, n2, n3, n4⟩ : y.a.l.length = p.s.l.length ∧ y.b.l.length = p.s.l.length ∧ y.c.l.length = p.s.l.length ∧ y.d.l.length = p.s.l.length := by rw [← e1] at hl; exact hl
        have hSm : ∀ W, Below wr.heap.size wr W → Calls Try.prog 27 #[.agg #[.slice y.a.A p.s.l.length y.a.c, .slice y.b.A p.s.l.length y.b.c, .slice y.c.A p.s.l.length y.c.c, .slice y.d.A p.s.l.length y.d.c], .agg #[.slice z.a.A p.s.l.length z.a.c, .slice z.b.A p.s.l.length z.b.c, .slice z.c.A p.s.l.length z.c.c, .slice z.d.A p.s.l.length z.d.c]] W fun e w' => e = .returned (.bool true) ∧ Below W.heap.size W w' := fun W hw => by
          have hbw := hb.out.trans (hw.mono hb.out.size)
          exact same_yes y z p.s.l.length W (i1.call hbw) (i2.call hbw) (e1.trans e2.symm) n1 n2 n3 n4 hn5
        have HR1 := Lib.hid hr1
        have HR2 := Lib.hid hr2
        have HS := Lib.hid hSm
        have HB := Lib.hid hb.out
        clear hr1 hr2 hSm hb hl e1 g1 hb1 i1 e2 g2 hb2 i2 n1 n2 n3 n4
        go_upto_region 18 with (fail)
        refine wp_region_quiet_below (by kernel_rfl) (by kernel_rfl) ?_
        iterate 3 (first | go_big_quiet_step (fail) | quiet_step (fail))
        (refine wpQuiet_load_whole (o := ⟨some 78, _, _, _, _, _⟩) ?_ 54 (.tmp 77) ?_ b1 (o1 + k * 4) ?_ [.slice y.a.A p.s.l.length y.a.c, .slice y.b.A p.s.l.length y.b.c, .slice y.c.A p.s.l.length y.c.c, .slice y.d.A p.s.l.length y.d.c] _ HR1.out Try.underlying54 rfl sizeYr ?_; rfl; rfl; rfl; simp only [Act.put, List.setIfInBounds_toArray, List.set_cons_zero, List.set_cons_succ])
        iterate 3 (first | go_big_quiet_step (fail) | quiet_step (fail))
        (refine wpQuiet_load_whole (o := ⟨some 82, _, _, _, _, _⟩) ?_ 55 (.tmp 81) ?_ b2 (o2 + k * 4) ?_ [.slice z.a.A p.s.l.length z.a.c, .slice z.b.A p.s.l.length z.b.c, .slice z.c.A p.s.l.length z.c.c, .slice z.d.A p.s.l.length z.d.c] _ HR2.out Try.underlying55 rfl sizeYear ?_; rfl; rfl; rfl; simp only [Act.put, List.setIfInBounds_toArray, List.set_cons_zero, List.set_cons_succ])
        clear HR1 HR2
        (repeat (first | go_big_quiet_step ((go_at_call 27; exact Calls.regrown_of (HS.out _ (below_regrown _ _ _)))) | quiet_step ((go_at_call 27; exact Calls.regrown_of (HS.out _ (below_regrown _ _ _))))))
        refine wpQuiet_nil ?_
        intro wq hwq
        have hbq : Below _ _ wq := (by obtain ⟨p, rfl⟩ := hwq; exact below_regrown _ _ _)
        clear hwq HS
        go_wp2
        go_roundw
        case rel => exact ⟨k + 1, by omega, by go_num, HB.out.trans (hbq.mono HB.out.size)⟩
        case measure => simp [intOf]; omega
      · obtain rfl : k = Y := by omega
        go_wp2_with (go_at_call 19; refine (awake_any _).mono ?_; rintro e w9 ⟨rfl, hb9⟩)
        go_ret
        have hx := B8.out.trans (hb.out.mono B8.out.size)
        exact ⟨rfl, hx.trans (hb9.mono hx.size)⟩
theorem StockRuns_walk (p : PlM) (t : TrM) (w : World) (hp : p.Lay w w.heap.size) (hta : t.At w w.heap.size ∧ t.Nil ∧ ∀ y, y ∈ t.g.l → y.l.length ≤ 9223372036854775807) : Calls Try.prog 3 #[.agg p.cells.toArray, .agg t.cells.toArray] w fun e w' => e = .returned (.bool true) ∧ Below w.heap.size w w' := by
  obtain ⟨h1, h2, h3⟩ := hta
  cases ht : thinB p with
  | false => exact Runs_thick p t w hp ht
  | true =>
    by_cases hf : p.fault = 0
    · cases hfit : fitD p.d t.d with
      | false => exact Runs_unfit p t w hp h1 h2 h3 ht hf hfit
      | true => exact Runs_good p t w hp h1 h2 h3 ht hf hfit
    · exact Runs_bad p t w hp h1 h2 h3 ht hf
end Go.Proofs.Ytopiidfhjfbmfaa
