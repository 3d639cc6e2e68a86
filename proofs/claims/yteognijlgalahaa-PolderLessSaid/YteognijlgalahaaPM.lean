/- isValid, CheckPolder. -/
import Derived.Test.YteognijlgalahaaPL
namespace Go.Proofs.Yteognijlgalahaa
open Go.RowKit Go.Lib
attribute [local go_sem] Oper.semAt_some

theorem ask_day (w : World) (D : Dy → Prop) : Ask Try.prog (fun x : Dy => .agg (encD x).toArray) 69 #[] #[] (fun x => x.okB) D w :=
  ⟨enters_of Try.func69 (by kernel_rfl) rfl, fun W x _ _ => dyValid_any x W⟩
theorem valid_eq (p : PoM) : p.d.validB = (spanP p.low p.high 0 60 && decide (p.slo ≤ p.shi) && (inB p.slo p.low p.high && inB p.shi p.low p.high) && (inB p.pump 0 20 && inB p.inl 0 20) && decide ((0 : Int) < (p.ds.l.length : Int)) && p.ds.l.all Dy.okB) := by
  have e : p.d.validB = (decide (1 ≤ p.ds.l.length) && spanP p.low p.high 0 60 && spanP p.slo p.shi p.low p.high && inB p.pump 0 20 && inB p.inl 0 20 && p.ds.l.all Dy.okB) := rfl
  rw [e]
  generalize p.ds.l.all Dy.okB = q
  rw [Bool.eq_iff_iff]
  simp only [Bool.and_eq_true, spanP_iff, inB_iff, decide_eq_true_eq]
  constructor
  · rintro ⟨⟨⟨⟨⟨h1, h2⟩, h3⟩, h4⟩, h5⟩, h6⟩; exact ⟨⟨⟨⟨⟨h2, by omega⟩, by omega⟩, by omega⟩, by omega⟩, h6⟩
  · rintro ⟨⟨⟨⟨⟨h1, h2⟩, h3⟩, h4⟩, h5⟩, h6⟩; exact ⟨⟨⟨⟨⟨by omega, h1⟩, by omega⟩, by omega⟩, by omega⟩, h6⟩
set_option maxRecDepth 100000 in
set_option maxHeartbeats 20000000 in
theorem isValid_any (p : PoM) (w : World) (hp : p.At w w.heap.size) : Calls Try.prog 47 #[.agg p.cells.toArray] w fun e w' => e = .returned (.bool p.d.validB) ∧ Below w.heap.size w w' := by
  have l0 : Lies (w.alloc (.cells p.cells.toArray 34)) w.heap.size 34 p.cells.toArray := Lies.fresh _ _ _
  have b0 : Below w.heap.size w (w.alloc (.cells p.cells.toArray 34)) := (by repeat (first | (with_reducible assumption) | (with_reducible exact Below.refl _ _) | (with_reducible refine Below.drew ?_) | (with_reducible refine below_drewN ?_ _) | ((with_reducible refine Below.setCell ?_ ?_ _); rotate_left; focus (first | (simp; done) | (simp; omega) | omega)) | ((with_reducible refine Below.alloc ?_ ?_ _); rotate_left; focus (first | (simp; done) | (simp; omega) | omega))))
  have hq := valid_eq p
  have q0 := fun W => isUpTo_any p.low p.high 60 W
  have q2 : ∀ A c (W : World), Sl W W.heap.size 1 encI A [p.slo, p.shi] → Calls Try.prog 65 #[.slice A 2 c, .func (.func 66) #[.agg p.cells.toArray] #[]] W fun e w' => e = .returned (.bool (inB p.slo p.low p.high && inB p.shi p.low p.high)) ∧ Below W.heap.size W w' := fun A c W h => by
    have := everyInt_any 66 #[.agg p.cells.toArray] #[] (fun n => inB n p.low p.high) A c [p.slo, p.shi] W h (ask_kept p W _) (by simp)
    simpa using this
  have q3 : ∀ A c (W : World), Sl W W.heap.size 1 encI A [p.pump, p.inl] → Calls Try.prog 65 #[.slice A 2 c, .func (.func 67) #[.agg #[.int .i64 0, .int .i64 20]] #[]] W fun e w' => e = .returned (.bool (inB p.pump 0 20 && inB p.inl 0 20)) ∧ Below W.heap.size W w' := fun A c W h => by
    have := everyInt_any 67 #[.agg #[.int .i64 0, .int .i64 20]] #[] (fun n => inB n 0 20) A c [p.pump, p.inl] W h (ask_has 0 20 W _) (by simp)
    simpa using this
  have q5 : ∀ W, Below w.heap.size w W → Calls Try.prog 68 #[.slice p.ds.A p.ds.l.length p.ds.c, .func (.func 69) #[] #[]] W fun e w' => e = .returned (.bool (p.ds.l.all Dy.okB)) ∧ Below W.heap.size W w' := fun W hb =>
    everyDy_any _ _ _ _ p.ds.A p.ds.c p.ds.l W ((hp.s.below hb).more hb.size) (ask_day W _) hp.l
  have Q0 := Lib.hid q0
  have Q2 := Lib.hid q2
  have Q3 := Lib.hid q3
  have Q5 := Lib.hid q5
  have HR := Lib.hid hq
  have L0 := Lib.hid l0
  have B0 := Lib.hid b0
  have K3 := Lib.hid True.intro
  clear q0 q2 q3 q5 hq l0 b0 hp
  generalize spanP p.low p.high 0 60 = y0 at *
  generalize (inB p.slo p.low p.high && inB p.shi p.low p.high) = y2 at *
  generalize (inB p.pump 0 20 && inB p.inl 0 20) = y3 at *
  generalize p.ds.l.all Dy.okB = y5 at *
  generalize hy1 : decide (p.slo ≤ p.shi) = y1 at *
  generalize hy4 : decide ((0 : Int) < (p.ds.l.length : Int)) = y4 at *
  have hy4n : decide (0 < p.ds.l.length) = y4 := by rw [← hy4]; congr 1; simp
  cases y0 with
  | false =>
    go_enter Try.func47, Try.ntmps47
    go_upto_region 1 with (fail)
    change Code.wp _ _ _ _ (w.alloc (.cells p.cells.toArray 34))
    generalize w.alloc (.cells p.cells.toArray 34) = w1 at *
    go_wp2_with (first
      | (have h := K3; clear h; refine wpList_load_row (o := ⟨some 3, _, _, _, _, _⟩) ?_ 34 (.tmp 1) ?_ w.heap.size ?_ 34 p.cells.toArray (0, 0) _ L0.out Try.underlying34 rfl size_po ?_; rfl; rfl; rfl; have K4 := Lib.hid True.intro; clear K3)
      | (have h := K4; clear h; go_at_call 63; refine (levels_any p _).mono ?_; rintro e w2 ⟨rfl, hb2⟩; have B2 := Lib.hid (B0.out.trans (hb2.mono B0.out.size)); have L2 := Lib.hid (L0.out.call hb2); clear hb2; have K5 := Lib.hid True.intro; clear K4)
      | (have h := K5; clear h; go_at_call 64; refine (Q0.out _).mono ?_; rintro e w3 ⟨rfl, hb3⟩; have B3 := Lib.hid (B2.out.trans (hb3.mono B2.out.size)); have L3 := Lib.hid (L2.out.call hb3); have c9 : w3.cell? ⟨w.heap.size, 2, none⟩ = some (.int .i64 p.slo) := L3.out.at_ 2; have c12 : w3.cell? ⟨w.heap.size, 3, none⟩ = some (.int .i64 p.shi) := L3.out.at_ 3; clear hb3 B2 L2; have K23 := Lib.hid True.intro; clear K5))
    go_ret
    exact ⟨ret_bool (by rw [HR.out]; simp), B3.out⟩
  | true =>
  cases y1 with
  | false =>
    go_enter Try.func47, Try.ntmps47
    go_upto_region 1 with (fail)
    change Code.wp _ _ _ _ (w.alloc (.cells p.cells.toArray 34))
    generalize w.alloc (.cells p.cells.toArray 34) = w1 at *
    go_wp2_with (first
      | (have h := K3; clear h; refine wpList_load_row (o := ⟨some 3, _, _, _, _, _⟩) ?_ 34 (.tmp 1) ?_ w.heap.size ?_ 34 p.cells.toArray (0, 0) _ L0.out Try.underlying34 rfl size_po ?_; rfl; rfl; rfl; have K4 := Lib.hid True.intro; clear K3)
      | (have h := K4; clear h; go_at_call 63; refine (levels_any p _).mono ?_; rintro e w2 ⟨rfl, hb2⟩; have B2 := Lib.hid (B0.out.trans (hb2.mono B0.out.size)); have L2 := Lib.hid (L0.out.call hb2); clear hb2; have K5 := Lib.hid True.intro; clear K4)
      | (have h := K5; clear h; go_at_call 64; refine (Q0.out _).mono ?_; rintro e w3 ⟨rfl, hb3⟩; have B3 := Lib.hid (B2.out.trans (hb3.mono B2.out.size)); have L3 := Lib.hid (L2.out.call hb3); have c9 : w3.cell? ⟨w.heap.size, 2, none⟩ = some (.int .i64 p.slo) := L3.out.at_ 2; have c12 : w3.cell? ⟨w.heap.size, 3, none⟩ = some (.int .i64 p.shi) := L3.out.at_ 3; clear hb3 B2 L2; have K23 := Lib.hid True.intro; clear K5))
    go_ret
    exact ⟨ret_bool (by rw [HR.out]; simp), B3.out⟩
  | true =>
  have hss : p.slo ≤ p.shi := by simpa using hy1
  cases y2 with
  | false =>
    go_enter Try.func47, Try.ntmps47
    go_upto_region 1 with (fail)
    change Code.wp _ _ _ _ (w.alloc (.cells p.cells.toArray 34))
    generalize w.alloc (.cells p.cells.toArray 34) = w1 at *
    go_wp2_with (first
      | (have h := K3; clear h; refine wpList_load_row (o := ⟨some 3, _, _, _, _, _⟩) ?_ 34 (.tmp 1) ?_ w.heap.size ?_ 34 p.cells.toArray (0, 0) _ L0.out Try.underlying34 rfl size_po ?_; rfl; rfl; rfl; have K4 := Lib.hid True.intro; clear K3)
      | (have h := K4; clear h; go_at_call 63; refine (levels_any p _).mono ?_; rintro e w2 ⟨rfl, hb2⟩; have B2 := Lib.hid (B0.out.trans (hb2.mono B0.out.size)); have L2 := Lib.hid (L0.out.call hb2); clear hb2; have K5 := Lib.hid True.intro; clear K4)
      | (have h := K5; clear h; go_at_call 64; refine (Q0.out _).mono ?_; rintro e w3 ⟨rfl, hb3⟩; have B3 := Lib.hid (B2.out.trans (hb3.mono B2.out.size)); have L3 := Lib.hid (L2.out.call hb3); have c9 : w3.cell? ⟨w.heap.size, 2, none⟩ = some (.int .i64 p.slo) := L3.out.at_ 2; have c12 : w3.cell? ⟨w.heap.size, 3, none⟩ = some (.int .i64 p.shi) := L3.out.at_ 3; clear hb3 B2 L2; have K23 := Lib.hid True.intro; clear K5)
      | (have h := K23; clear h; refine wpList_load_rowG (o := ⟨some 23, _, _, _, _, _⟩) ?_ 34 (.tmp 1) ?_ w.heap.size ?_ 34 p.cells.toArray (0, 0) _ (L3.out.alloc _) Try.underlying34 rfl size_po ?_; rfl; rfl; rfl; have K25 := Lib.hid True.intro; clear K23)
      | (have h := K25; clear h; go_at_call 65; refine (Q2.out _ 2 _ (lies_q (q := [p.slo, p.shi]) (Lies.fresh _ _ _))).mono ?_; rintro e w4 ⟨rfl, hb4⟩; have hb4' := ((Below.refl w3.heap.size w3).alloc (Nat.le_refl _) (.cells (vals [p.slo, p.shi]) 3)).trans (hb4.mono (by simp)); have B4 := Lib.hid (B3.out.trans (hb4'.mono B3.out.size)); have L4 := Lib.hid (L3.out.call hb4'); have c29 : w4.cell? ⟨w.heap.size, 4, none⟩ = some (.int .i64 p.pump) := L4.out.at_ 4; have c31 : w4.cell? ⟨w.heap.size, 5, none⟩ = some (.int .i64 p.inl) := L4.out.at_ 5; clear hb4 hb4' c9 c12; have K35 := Lib.hid True.intro; clear K25))
    go_ret
    exact ⟨ret_bool (by rw [HR.out]; simp), B4.out⟩
  | true =>
  cases y3 with
  | false =>
    go_enter Try.func47, Try.ntmps47
    go_upto_region 1 with (fail)
    change Code.wp _ _ _ _ (w.alloc (.cells p.cells.toArray 34))
    generalize w.alloc (.cells p.cells.toArray 34) = w1 at *
    go_wp2_with (first
      | (have h := K3; clear h; refine wpList_load_row (o := ⟨some 3, _, _, _, _, _⟩) ?_ 34 (.tmp 1) ?_ w.heap.size ?_ 34 p.cells.toArray (0, 0) _ L0.out Try.underlying34 rfl size_po ?_; rfl; rfl; rfl; have K4 := Lib.hid True.intro; clear K3)
      | (have h := K4; clear h; go_at_call 63; refine (levels_any p _).mono ?_; rintro e w2 ⟨rfl, hb2⟩; have B2 := Lib.hid (B0.out.trans (hb2.mono B0.out.size)); have L2 := Lib.hid (L0.out.call hb2); clear hb2; have K5 := Lib.hid True.intro; clear K4)
      | (have h := K5; clear h; go_at_call 64; refine (Q0.out _).mono ?_; rintro e w3 ⟨rfl, hb3⟩; have B3 := Lib.hid (B2.out.trans (hb3.mono B2.out.size)); have L3 := Lib.hid (L2.out.call hb3); have c9 : w3.cell? ⟨w.heap.size, 2, none⟩ = some (.int .i64 p.slo) := L3.out.at_ 2; have c12 : w3.cell? ⟨w.heap.size, 3, none⟩ = some (.int .i64 p.shi) := L3.out.at_ 3; clear hb3 B2 L2; have K23 := Lib.hid True.intro; clear K5)
      | (have h := K23; clear h; refine wpList_load_rowG (o := ⟨some 23, _, _, _, _, _⟩) ?_ 34 (.tmp 1) ?_ w.heap.size ?_ 34 p.cells.toArray (0, 0) _ (L3.out.alloc _) Try.underlying34 rfl size_po ?_; rfl; rfl; rfl; have K25 := Lib.hid True.intro; clear K23)
      | (have h := K25; clear h; go_at_call 65; refine (Q2.out _ 2 _ (lies_q (q := [p.slo, p.shi]) (Lies.fresh _ _ _))).mono ?_; rintro e w4 ⟨rfl, hb4⟩; have hb4' := ((Below.refl w3.heap.size w3).alloc (Nat.le_refl _) (.cells (vals [p.slo, p.shi]) 3)).trans (hb4.mono (by simp)); have B4 := Lib.hid (B3.out.trans (hb4'.mono B3.out.size)); have L4 := Lib.hid (L3.out.call hb4'); have c29 : w4.cell? ⟨w.heap.size, 4, none⟩ = some (.int .i64 p.pump) := L4.out.at_ 4; have c31 : w4.cell? ⟨w.heap.size, 5, none⟩ = some (.int .i64 p.inl) := L4.out.at_ 5; clear hb4 hb4' c9 c12; have K35 := Lib.hid True.intro; clear K25)
      | (have h := K35; clear h; go_at_call 65; refine (Q3.out _ 2 _ (lies_q (q := [p.pump, p.inl]) (Lies.fresh _ _ _))).mono ?_; rintro e w5 ⟨rfl, hb5⟩; have hb5' := ((Below.refl w4.heap.size w4).alloc (Nat.le_refl _) (.cells (vals [p.pump, p.inl]) 3)).trans (hb5.mono (by simp)); have B5 := Lib.hid (B4.out.trans (hb5'.mono B4.out.size)); have L5 := Lib.hid (L4.out.call hb5'); have c39 : w5.cell? ⟨w.heap.size, 6, none⟩ = some (.slice p.ds.A p.ds.l.length p.ds.c) := L5.out.at_ 6; clear hb5 hb5' c29 c31; have K46 := Lib.hid True.intro; clear K35))
    go_ret
    exact ⟨ret_bool (by rw [HR.out]; simp), B5.out⟩
  | true =>
  cases y4 with
  | false =>
    go_enter Try.func47, Try.ntmps47
    go_upto_region 1 with (fail)
    change Code.wp _ _ _ _ (w.alloc (.cells p.cells.toArray 34))
    generalize w.alloc (.cells p.cells.toArray 34) = w1 at *
    go_wp2_with (first
      | (have h := K3; clear h; refine wpList_load_row (o := ⟨some 3, _, _, _, _, _⟩) ?_ 34 (.tmp 1) ?_ w.heap.size ?_ 34 p.cells.toArray (0, 0) _ L0.out Try.underlying34 rfl size_po ?_; rfl; rfl; rfl; have K4 := Lib.hid True.intro; clear K3)
      | (have h := K4; clear h; go_at_call 63; refine (levels_any p _).mono ?_; rintro e w2 ⟨rfl, hb2⟩; have B2 := Lib.hid (B0.out.trans (hb2.mono B0.out.size)); have L2 := Lib.hid (L0.out.call hb2); clear hb2; have K5 := Lib.hid True.intro; clear K4)
      | (have h := K5; clear h; go_at_call 64; refine (Q0.out _).mono ?_; rintro e w3 ⟨rfl, hb3⟩; have B3 := Lib.hid (B2.out.trans (hb3.mono B2.out.size)); have L3 := Lib.hid (L2.out.call hb3); have c9 : w3.cell? ⟨w.heap.size, 2, none⟩ = some (.int .i64 p.slo) := L3.out.at_ 2; have c12 : w3.cell? ⟨w.heap.size, 3, none⟩ = some (.int .i64 p.shi) := L3.out.at_ 3; clear hb3 B2 L2; have K23 := Lib.hid True.intro; clear K5)
      | (have h := K23; clear h; refine wpList_load_rowG (o := ⟨some 23, _, _, _, _, _⟩) ?_ 34 (.tmp 1) ?_ w.heap.size ?_ 34 p.cells.toArray (0, 0) _ (L3.out.alloc _) Try.underlying34 rfl size_po ?_; rfl; rfl; rfl; have K25 := Lib.hid True.intro; clear K23)
      | (have h := K25; clear h; go_at_call 65; refine (Q2.out _ 2 _ (lies_q (q := [p.slo, p.shi]) (Lies.fresh _ _ _))).mono ?_; rintro e w4 ⟨rfl, hb4⟩; have hb4' := ((Below.refl w3.heap.size w3).alloc (Nat.le_refl _) (.cells (vals [p.slo, p.shi]) 3)).trans (hb4.mono (by simp)); have B4 := Lib.hid (B3.out.trans (hb4'.mono B3.out.size)); have L4 := Lib.hid (L3.out.call hb4'); have c29 : w4.cell? ⟨w.heap.size, 4, none⟩ = some (.int .i64 p.pump) := L4.out.at_ 4; have c31 : w4.cell? ⟨w.heap.size, 5, none⟩ = some (.int .i64 p.inl) := L4.out.at_ 5; clear hb4 hb4' c9 c12; have K35 := Lib.hid True.intro; clear K25)
      | (have h := K35; clear h; go_at_call 65; refine (Q3.out _ 2 _ (lies_q (q := [p.pump, p.inl]) (Lies.fresh _ _ _))).mono ?_; rintro e w5 ⟨rfl, hb5⟩; have hb5' := ((Below.refl w4.heap.size w4).alloc (Nat.le_refl _) (.cells (vals [p.pump, p.inl]) 3)).trans (hb5.mono (by simp)); have B5 := Lib.hid (B4.out.trans (hb5'.mono B4.out.size)); have L5 := Lib.hid (L4.out.call hb5'); have c39 : w5.cell? ⟨w.heap.size, 6, none⟩ = some (.slice p.ds.A p.ds.l.length p.ds.c) := L5.out.at_ 6; clear hb5 hb5' c29 c31; have K46 := Lib.hid True.intro; clear K35))
    go_ret
    exact ⟨ret_bool (by rw [HR.out]; simp), B5.out⟩
  | true =>
  have hlz : (0 : Int) < (p.ds.l.length : Int) := by simpa using hy4
  have hlz' : 0 < p.ds.l.length := by omega
  go_enter Try.func47, Try.ntmps47
  go_upto_region 1 with (fail)
  change Code.wp _ _ _ _ (w.alloc (.cells p.cells.toArray 34))
  generalize w.alloc (.cells p.cells.toArray 34) = w1 at *
  go_wp2_with (first
    | (have h := K3; clear h; refine wpList_load_row (o := ⟨some 3, _, _, _, _, _⟩) ?_ 34 (.tmp 1) ?_ w.heap.size ?_ 34 p.cells.toArray (0, 0) _ L0.out Try.underlying34 rfl size_po ?_; rfl; rfl; rfl; have K4 := Lib.hid True.intro; clear K3)
    | (have h := K4; clear h; go_at_call 63; refine (levels_any p _).mono ?_; rintro e w2 ⟨rfl, hb2⟩; have B2 := Lib.hid (B0.out.trans (hb2.mono B0.out.size)); have L2 := Lib.hid (L0.out.call hb2); clear hb2; have K5 := Lib.hid True.intro; clear K4)
    | (have h := K5; clear h; go_at_call 64; refine (Q0.out _).mono ?_; rintro e w3 ⟨rfl, hb3⟩; have B3 := Lib.hid (B2.out.trans (hb3.mono B2.out.size)); have L3 := Lib.hid (L2.out.call hb3); have c9 : w3.cell? ⟨w.heap.size, 2, none⟩ = some (.int .i64 p.slo) := L3.out.at_ 2; have c12 : w3.cell? ⟨w.heap.size, 3, none⟩ = some (.int .i64 p.shi) := L3.out.at_ 3; clear hb3 B2 L2; have K23 := Lib.hid True.intro; clear K5)
    | (have h := K23; clear h; refine wpList_load_rowG (o := ⟨some 23, _, _, _, _, _⟩) ?_ 34 (.tmp 1) ?_ w.heap.size ?_ 34 p.cells.toArray (0, 0) _ (L3.out.alloc _) Try.underlying34 rfl size_po ?_; rfl; rfl; rfl; have K25 := Lib.hid True.intro; clear K23)
    | (have h := K25; clear h; go_at_call 65; refine (Q2.out _ 2 _ (lies_q (q := [p.slo, p.shi]) (Lies.fresh _ _ _))).mono ?_; rintro e w4 ⟨rfl, hb4⟩; have hb4' := ((Below.refl w3.heap.size w3).alloc (Nat.le_refl _) (.cells (vals [p.slo, p.shi]) 3)).trans (hb4.mono (by simp)); have B4 := Lib.hid (B3.out.trans (hb4'.mono B3.out.size)); have L4 := Lib.hid (L3.out.call hb4'); have c29 : w4.cell? ⟨w.heap.size, 4, none⟩ = some (.int .i64 p.pump) := L4.out.at_ 4; have c31 : w4.cell? ⟨w.heap.size, 5, none⟩ = some (.int .i64 p.inl) := L4.out.at_ 5; clear hb4 hb4' c9 c12; have K35 := Lib.hid True.intro; clear K25)
    | (have h := K35; clear h; go_at_call 65; refine (Q3.out _ 2 _ (lies_q (q := [p.pump, p.inl]) (Lies.fresh _ _ _))).mono ?_; rintro e w5 ⟨rfl, hb5⟩; have hb5' := ((Below.refl w4.heap.size w4).alloc (Nat.le_refl _) (.cells (vals [p.pump, p.inl]) 3)).trans (hb5.mono (by simp)); have B5 := Lib.hid (B4.out.trans (hb5'.mono B4.out.size)); have L5 := Lib.hid (L4.out.call hb5'); have c39 : w5.cell? ⟨w.heap.size, 6, none⟩ = some (.slice p.ds.A p.ds.l.length p.ds.c) := L5.out.at_ 6; clear hb5 hb5' c29 c31; have K46 := Lib.hid True.intro; clear K35)
    | (have h := K46; clear h; go_at_call 68; refine (Q5.out _ B5.out).mono ?_; rintro e w6 ⟨rfl, hb6⟩; have B6 := Lib.hid (B5.out.trans (hb6.mono B5.out.size)); clear K46))
  go_ret
  exact ⟨ret_bool (by rw [HR.out]; simp), B6.out⟩
theorem PoD.fault_cases (p : PoD) : p.fault = if 12 < p.ds.length then 3 else if p.validB then 0 else 1 := rfl
end Go.Proofs.Yteognijlgalahaa
