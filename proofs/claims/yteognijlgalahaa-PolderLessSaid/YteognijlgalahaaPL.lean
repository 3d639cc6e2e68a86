/- isValid, CheckPolder, checkLevel. -/
import Derived.Test.YteognijlgalahaaPJ
namespace Go.Proofs.Yteognijlgalahaa
open Go.RowKit Go.Lib
attribute [local go_sem] Oper.semAt_some

theorem ask_has (lo hi : Int) (w : World) (D : Int → Prop) : Ask Try.prog (Value.int .i64) 67 #[.agg #[.int .i64 lo, .int .i64 hi]] #[] (fun n => inB n lo hi) D w :=
  ⟨enters_of Try.func67 (by kernel_rfl) rfl, fun W x _ _ => has_any lo hi x W⟩
theorem ask_kept (p : PoM) (w : World) (D : Int → Prop) : Ask Try.prog (Value.int .i64) 66 #[.agg p.cells.toArray] #[] (fun n => inB n p.low p.high) D w :=
  ⟨enters_of Try.func66 (by kernel_rfl) rfl, fun W x _ _ => isKept_any p x W⟩
set_option maxRecDepth 100000 in
set_option maxHeartbeats 4000000 in
theorem dyValid_any (d : Dy) (w : World) : Calls Try.prog 69 #[.agg (encD d).toArray] w fun e w' => e = .returned (.bool d.okB) ∧ Below w.heap.size w w' := by
  have l0 : Lies (w.alloc (.cells (encD d).toArray 72)) w.heap.size 72 (encD d).toArray := Lies.fresh _ _ _
  have b0 : Below w.heap.size w (w.alloc (.cells (encD d).toArray 72)) := (by repeat (first | (with_reducible assumption) | (with_reducible exact Below.refl _ _) | (with_reducible refine Below.drew ?_) | (with_reducible refine below_drewN ?_ _) | ((with_reducible refine Below.setCell ?_ ?_ _); rotate_left; focus (first | (simp; done) | (simp; omega) | omega)) | ((with_reducible refine Below.alloc ?_ ?_ _); rotate_left; focus (first | (simp; done) | (simp; omega) | omega))))
  have hq : d.okB = (spanP d.lo d.hi 0 30 && inB d.sp 0 30 && inB d.ou 0 100 && inB d.inn 0 100) := rfl
  have q0 := fun W => isUpTo_any d.lo d.hi 30 W
  have q1 := fun W => has_any 0 30 d.sp W
  have q2 : ∀ A c (W : World), Sl W W.heap.size 1 encI A [d.ou, d.inn] → Calls Try.prog 65 #[.slice A 2 c, .func (.func 67) #[.agg #[.int .i64 0, .int .i64 100]] #[]] W fun e w' => e = .returned (.bool (inB d.ou 0 100 && inB d.inn 0 100)) ∧ Below W.heap.size W w' := fun A c W h => by
    have := everyInt_any 67 #[.agg #[.int .i64 0, .int .i64 100]] #[] (fun n => inB n 0 100) A c [d.ou, d.inn] W h (ask_has 0 100 W _) (by simp)
    simpa using this
  have hrg : (w.alloc (.cells (encD d).toArray 72)).rangeAt w.heap.size 0 [.int .i64 d.lo, .int .i64 d.hi] := Lies.range (cs := encD d) l0 (fun j v hj => by
    match j, hj with
    | 0, hj => exact hj
    | 1, hj => exact hj)
  have Q0 := Lib.hid q0
  have Q1 := Lib.hid q1
  have Q2 := Lib.hid q2
  have HR := Lib.hid hq
  have L0 := Lib.hid l0
  have B0 := Lib.hid b0
  have HRG := Lib.hid hrg
  clear q0 q1 q2 hq l0 b0 hrg
  generalize hy0 : spanP d.lo d.hi 0 30 = y0 at *
  generalize hy1 : inB d.sp 0 30 = y1 at *
  clear hy0 hy1
  go_enter Try.func69, Try.ntmps69
  go_upto_region 1 with (fail)
  change Code.wp _ _ _ _ (w.alloc (.cells (encD d).toArray 72))
  generalize w.alloc (.cells (encD d).toArray 72) = w1 at *
  cases y0 with
  | false =>
    go_wp2_with (first
      | (have h := HRG; clear h; refine wpList_load_mid (op := ⟨some 4, _, _, _, _, _⟩) ?_ 31 (.tmp 3) ?_ w.heap.size 0 ?_ [.int .i64 d.lo, .int .i64 d.hi] _ HRG.out Try.underlying31 rfl size_rg ?_; rfl; rfl; rfl; clear HRG)
      | (go_at_call 64; refine (Q0.out _).mono ?_; rintro e w2 ⟨rfl, hb2⟩; have B2 := Lib.hid (B0.out.trans (hb2.mono B0.out.size)); have c9 : w2.cell? ⟨w.heap.size, 2, none⟩ = some (.int .i64 d.sp) := (L0.out.call hb2).at_ 2; have L2 := Lib.hid (L0.out.call hb2); clear hb2))
    go_ret
    exact ⟨ret_bool (by rw [HR.out]; rfl), B2.out⟩
  | true =>
    cases y1 with
    | false =>
      go_wp2_with (first
        | (have h := HRG; clear h; refine wpList_load_mid (op := ⟨some 4, _, _, _, _, _⟩) ?_ 31 (.tmp 3) ?_ w.heap.size 0 ?_ [.int .i64 d.lo, .int .i64 d.hi] _ HRG.out Try.underlying31 rfl size_rg ?_; rfl; rfl; rfl; clear HRG)
        | (go_at_call 64; refine (Q0.out _).mono ?_; rintro e w2 ⟨rfl, hb2⟩; have B2 := Lib.hid (B0.out.trans (hb2.mono B0.out.size)); have c9 : w2.cell? ⟨w.heap.size, 2, none⟩ = some (.int .i64 d.sp) := (L0.out.call hb2).at_ 2; have L2 := Lib.hid (L0.out.call hb2); clear hb2)
        | (go_at_call 67; refine (Q1.out _).mono ?_; rintro e w3 ⟨rfl, hb3⟩; have B3 := Lib.hid (B2.out.trans (hb3.mono B2.out.size)); have c14 : w3.cell? ⟨w.heap.size, 3, none⟩ = some (.int .i64 d.ou) := (L2.out.call hb3).at_ 3; have c16 : w3.cell? ⟨w.heap.size, 4, none⟩ = some (.int .i64 d.inn) := (L2.out.call hb3).at_ 4; clear c9 hb3))
      go_ret
      exact ⟨ret_bool (by rw [HR.out]; rfl), B3.out⟩
    | true =>
      go_wp2_with (first
        | (have h := HRG; clear h; refine wpList_load_mid (op := ⟨some 4, _, _, _, _, _⟩) ?_ 31 (.tmp 3) ?_ w.heap.size 0 ?_ [.int .i64 d.lo, .int .i64 d.hi] _ HRG.out Try.underlying31 rfl size_rg ?_; rfl; rfl; rfl; clear HRG)
        | (go_at_call 64; refine (Q0.out _).mono ?_; rintro e w2 ⟨rfl, hb2⟩; have B2 := Lib.hid (B0.out.trans (hb2.mono B0.out.size)); have c9 : w2.cell? ⟨w.heap.size, 2, none⟩ = some (.int .i64 d.sp) := (L0.out.call hb2).at_ 2; have L2 := Lib.hid (L0.out.call hb2); clear hb2)
        | (go_at_call 67; refine (Q1.out _).mono ?_; rintro e w3 ⟨rfl, hb3⟩; have B3 := Lib.hid (B2.out.trans (hb3.mono B2.out.size)); have c14 : w3.cell? ⟨w.heap.size, 3, none⟩ = some (.int .i64 d.ou) := (L2.out.call hb3).at_ 3; have c16 : w3.cell? ⟨w.heap.size, 4, none⟩ = some (.int .i64 d.inn) := (L2.out.call hb3).at_ 4; clear c9 hb3)
        | (go_at_call 65; refine (Q2.out _ 2 _ (lies_q (q := [d.ou, d.inn]) (Lies.fresh _ _ _))).mono ?_; rintro e w4 ⟨rfl, hb4⟩))
      go_ret
      exact ⟨ret_bool (by rw [HR.out]; simp), (B3.out.alloc B3.out.size _).trans (hb4.mono (B3.out.alloc B3.out.size _).size)⟩
end Go.Proofs.Yteognijlgalahaa
