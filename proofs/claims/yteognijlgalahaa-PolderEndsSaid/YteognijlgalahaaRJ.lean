/- PolderEnds: the walk. -/
import Derived.Test.YteognijlgalahaaRH
import Derived.Test.YteognijlgalahaaRI
import Derived.Test.YteognijlgalahaaPY
namespace Go.Proofs.Yteognijlgalahaa
open Go.RowKit Go.Lib
attribute [local go_sem] Oper.semAt_some

theorem size_l4 : (Try.prog.info? 79).map (·.size) = some 4 := by kernel_rfl
theorem Sl.cellRg {w : World} {B : Nat} {A : Option Addr} {l : List (Int × Int)} (h : Sl w B 2 encRg A l) {i : Nat} {x : Int × Int} (hx : l[i]? = some x) : ∃ b off, A = some ⟨b, off, none⟩ ∧ b < B ∧ w.cell? ⟨b, off + i * 2, none⟩ = some (.int .i64 x.1) ∧ w.cell? ⟨b, off + i * 2 + 1, none⟩ = some (.int .i64 x.2) := by
  obtain ⟨b, off, e, hb, hc⟩ := h.at_ hx
  exact ⟨b, off, e, hb, hc 0 _ rfl, hc 1 _ rfl⟩
theorem In_below (n lo hi : Int) (w : World) : Calls Try.prog 25 #[.int .i64 n, .int .i64 lo, .int .i64 hi] w fun e w' => e = .returned (.bool (inB n lo hi)) ∧ Below w.heap.size w w' :=
  (In_any n lo hi w).mono fun e w' ⟨h1, h2⟩ => ⟨h1, by rw [← h2]; exact Below.refl _ _⟩
/-- Four levels. -/
def four (lo hi : Int) (k : Nat) : Int := if k = 0 then lo - 1 else if k = 1 then lo else if k = 2 then hi else hi + 1
theorem Best_with (q : PoM) (day lv : Int) {x : Int × Int × Int} (h : q.d.bestR day lv = x) (A : Option Addr) (c : Nat) (W : World) (hat : (q.withA A c).At W W.heap.size) :
    Calls Try.prog 23 #[.agg (q.withA A c).cells.toArray, .int .i64 day, .int .i64 lv] W fun e w' => e = .returned (.tuple #[.int .i64 x.1, .int .i64 x.2.1, .int .i64 x.2.2]) ∧ Below W.heap.size W w' := by
  subst h
  exact Best_any (q.withA A c) day lv W hat
set_option maxRecDepth 100000 in
set_option maxHeartbeats 16000000 in
theorem PolderEnds_walk (q : PoM) (x y : Nat) (w : World) (h : OpenPo q w) (hx255 : x ≤ 255) (hy255 : y ≤ 255) : Calls Try.prog 11 #[.agg q.cells.toArray, .int .u8 x, .int .u8 y] w fun e w' => e = .returned (.bool true) ∧ Below w.heap.size w w' := by
  have l0 : Lies (w.alloc (.cells q.cells.toArray 26)) w.heap.size 26 q.cells.toArray := Lies.fresh _ _ _
  have b0 : Below w.heap.size w (w.alloc (.cells q.cells.toArray 26)) := (by repeat (first | (with_reducible assumption) | (with_reducible exact Below.refl _ _) | (with_reducible refine Below.drew ?_) | (with_reducible refine below_drewN ?_ _) | ((with_reducible refine Below.setCell ?_ ?_ _); rotate_left; focus (first | (simp; done) | (simp; omega) | omega)) | ((with_reducible refine Below.alloc ?_ ?_ _); rotate_left; focus (first | (simp; done) | (simp; omega) | omega))))
  have hre := ready_any q (w.alloc (.cells q.cells.toArray 26)) ⟨(h.s.below b0).more b0.size, h.m, h.c⟩
  have hrr : q.d.readyB = true → q.d.Ok ∧ q.ds.l.length ≤ 12 := fun h => by
    unfold PoD.readyB at h
    rw [Bool.and_eq_true, decide_eq_true_eq, decide_eq_true_eq] at h
    have := PoD.fault_iff.1 h.2
    exact ⟨this, this.n2⟩
  have HR := Lib.hid hre
  have HRR := Lib.hid hrr
  have HO := Lib.hid h
  have L0 := Lib.hid l0
  have B0 := Lib.hid b0
  have K23 := Lib.hid True.intro
  clear l0 b0 hre hrr h
  cases hyy : q.d.readyB with
  | false =>
    rw [hyy] at HR
    clear hyy HRR
    go_enter Try.func11, Try.ntmps11
    go_upto_region 1 with (fail)
    change Code.wp _ _ _ _ (w.alloc (.cells q.cells.toArray 26))
    generalize w.alloc (.cells q.cells.toArray 26) = w1 at *
    go_wp2_with (first
      | (have h := K23; clear h; refine wpList_load_row (o := ⟨some 23, _, _, _, _, _⟩) ?_ 26 (.tmp 3) ?_ w.heap.size ?_ 26 q.cells.toArray (0, 0) _ L0.out Try.underlying26 rfl size_rp ?_; rfl; rfl; rfl; clear K23)
      | (go_at_call 42; refine HR.out.mono ?_; rintro e w2 ⟨rfl, hb2⟩)
      | (go_at_call 16; refine (wakes_any _).mono ?_; rintro e w3 ⟨rfl, hb3⟩))
    go_ret
    exact ⟨rfl, B0.out.trans ((hb2.trans (hb3.mono hb2.size)).mono B0.out.size)⟩
  | true =>
    rw [hyy] at HR
    obtain ⟨hok, hl12⟩ := HRR.out hyy
    have hn1 : 1 ≤ q.ds.l.length := hok.n1
    have hl0 : 0 ≤ q.low := hok.l0
    have hl1 : q.low ≤ q.high := hok.l1
    have hl2 : q.high ≤ 60 := hok.l2
    obtain ⟨N, hN⟩ : ∃ N, N = q.ds.l.length := ⟨_, rfl⟩
    obtain ⟨M, hM⟩ : ∃ M : Nat, (M : Int) = q.high - q.low + 1 := ⟨(q.high - q.low + 1).toNat, by omega⟩
    have hN0 : (N : Int) ≠ 0 := by omega
    have hNz : (N : Int) ≤ 12 := by omega
    have hM0 : (M : Int) ≠ 0 := by omega
    have hMz : (M : Int) ≤ 61 := by omega
    have hn0 : (0 : Int) ≤ (x : Int) % (N : Int) := Int.emod_nonneg _ (by omega)
    have hn1' : (x : Int) % (N : Int) < N := Int.emod_lt_of_pos _ (by omega)
    have hm0 : (0 : Int) ≤ (y : Int) % (M : Int) := Int.emod_nonneg _ (by omega)
    have hm1 : (y : Int) % (M : Int) < M := Int.emod_lt_of_pos _ (by omega)
    obtain ⟨d, hd⟩ : ∃ d : Nat, (x : Int) % (N : Int) = (d : Int) := ⟨x % N, by omega⟩
    obtain ⟨lv, hlv⟩ : ∃ lv : Int, q.low + (y : Int) % (M : Int) = lv := ⟨_, rfl⟩
    have hdN : d < q.ds.l.length := by omega
    have hdn : d < N := by omega
    have hlv0 : q.low ≤ lv := by omega
    have hlv1 : lv ≤ q.high := by omega
    have hall := ends_all (p := q.d) hok hdN
    have HALL := Lib.hid hall
    have hat : q.At w w.heap.size := HO.out.at_ (by omega)
    have HAT := Lib.hid hat
    have HN := Lib.hid hN
    have HD := Lib.hid hd
    have hl15 : q.ds.l.length ≤ 15 := by omega
    have HL15 := Lib.hid hl15
    have HKEPT := Lib.hid (show q.d.kept lv from ⟨hlv0, hlv1⟩)
    have hxz : (x : Int) ≤ 255 := by omega
    have hyz : (y : Int) ≤ 255 := by omega
    have hwx : IntKind.i64.wrap (x : Int) = x := IntWalk.i64_in _ (by omega)
    have hwy : IntKind.i64.wrap (y : Int) = y := IntWalk.i64_in _ (by omega)
    have hwM : IntKind.i64.wrap (q.high - q.low) = q.high - q.low := IntWalk.i64_in _ (by omega)
    have hwM1 : IntKind.i64.wrap (q.high - q.low + 1) = (M : Int) := by rw [IntWalk.i64_in _ (by omega), hM]
    have hwL : IntKind.i64.wrap (q.low + (y : Int) % (M : Int)) = lv := by rw [IntWalk.i64_in _ (by omega), hlv]
    clear hyy HRR hok hall hat hN hM hlv hdN hl15 hl12 hn1 HO
    go_enter Try.func11, Try.ntmps11
    go_upto_region 1 with (fail)
    change Code.wp _ _ _ _ (w.alloc (.cells q.cells.toArray 26))
    generalize w.alloc (.cells q.cells.toArray 26) = w1 at *
    go_upto_region 3 with (first
      | (have h := K23; clear h; refine wpList_load_row (o := ⟨some 23, _, _, _, _, _⟩) ?_ 26 (.tmp 3) ?_ w.heap.size ?_ 26 q.cells.toArray (0, 0) _ L0.out Try.underlying26 rfl size_rp ?_; rfl; rfl; rfl; clear K23)
      | (go_at_call 42; refine HR.out.mono ?_; rintro e w2 ⟨rfl, hb2⟩; have B2 := Lib.hid (B0.out.trans (hb2.mono B0.out.size)); have L2 := Lib.hid (L0.out.call hb2); clear hb2))
    clear HR B0 L0
    have K28 := Lib.hid True.intro
    rcases HALL.out with ⟨e1, e2⟩ | ⟨lo, hi, e1, ehl, ehd, elo, ele, ehi, eall⟩
    · have HE1 := Lib.hid (fun A3 c3 W (hat : (q.withA A3 c3).At W W.heap.size) => (show Calls Try.prog 19 #[.agg (q.withA A3 c3).cells.toArray] W (HoldO ([], 9) W) by
        have := Hold_any (q.withA A3 c3) W hat
        rw [show (q.withA A3 c3).d.holdR = ([], 9) from e1] at this
        exact this))
      have HE2 := Lib.hid (e2 lv HKEPT.out)
      clear e1 e2 HALL
      go_upto_region 5 with (first
        | (have h := K28; clear h; refine wpList_load_row (o := ⟨some 28, _, _, _, _, _⟩) ?_ 26 (.tmp 3) ?_ w.heap.size ?_ 26 q.cells.toArray (0, 0) _ L2.out Try.underlying26 rfl size_rp ?_; rfl; rfl; rfl; have K29 := Lib.hid True.intro; clear K28)
        | (have h := K29; clear h; go_at_call 18; refine (Copy_any q _ (HAT.out.below B2.out B2.out.size) HL15.out).mono ?_; rintro e w3 ⟨A3, c3, rfl, hat3, hb3⟩; have HT3 := Lib.hid hat3; have B3 := Lib.hid (B2.out.trans (hb3.mono B2.out.size)); have L3 := Lib.hid (L2.out.call hb3); clear hat3 hb3; have K30 := Lib.hid True.intro; clear K29)
        | (have h := K30; clear h; go_at_call 19; refine (HE1.out A3 c3 _ HT3.out).mono ?_; rintro e w4 ⟨A4, c4, rfl, _, hb4⟩; have B4 := Lib.hid (B3.out.trans (hb4.mono B3.out.size)); have L4 := Lib.hid (L3.out.call hb4); have c36 : w4.cell? ⟨w.heap.size, 6, none⟩ = some (.slice q.ds.A N q.ds.c) := (by rw [HN.out]; exact L4.out.at_ 6); clear hb4; clear K30))
      have c40 := (show w4.cell? ⟨w.heap.size, 0, none⟩ = some (.int .i64 q.low) from L4.out.at_ 0)
      have c44 := (show w4.cell? ⟨w.heap.size, 1, none⟩ = some (.int .i64 q.high) from L4.out.at_ 1)
      clear c36
      go_quiet (fail)
      clear c40 c44
      have hbd : Below w4.heap.size w4 (w4.drewN nq) := below_drewN (Below.refl _ _) nq
      have B5 := Lib.hid (B4.out.trans (hbd.mono B4.out.size))
      have L5 := Lib.hid (L4.out.call hbd)
      clear hbd B4 L4
      generalize w4.drewN nq = w5 at *
      have K54 := Lib.hid True.intro
      go_wp2_with (first
        | (have h := K54; clear h; refine wpList_load_row (o := ⟨some 54, _, _, _, _, _⟩) ?_ 26 (.tmp 3) ?_ w.heap.size ?_ 26 q.cells.toArray (0, 0) _ L5.out Try.underlying26 rfl size_rp ?_; rfl; rfl; rfl; have K55 := Lib.hid True.intro; clear K54)
        | (have h := K55; clear h; go_at_call 18; refine (Copy_any q _ (HAT.out.below B5.out B5.out.size) HL15.out).mono ?_; rintro e w6 ⟨A5, c5, rfl, hat6, hb6⟩; have HT6 := Lib.hid hat6; have B6 := Lib.hid (B5.out.trans (hb6.mono B5.out.size)); have L6 := Lib.hid (L5.out.call hb6); clear hat6 hb6; have K57 := Lib.hid True.intro; clear K55)
        | (have h := K57; clear h; go_at_call 23; refine (Best_with q 0 lv HE2.out A5 c5 _ HT6.out).mono ?_; rintro e w7 ⟨rfl, hb7⟩; have B7 := Lib.hid (B6.out.trans (hb7.mono B6.out.size)); clear hb7; have KW := Lib.hid True.intro; clear K57)
        | (have h := KW; clear h; go_at_call 16; refine (wakes_any _).mono ?_; rintro e w11 ⟨rfl, hb11⟩; clear KW))
      go_ret
      exact ⟨rfl, B7.out.trans (hb11.mono B7.out.size)⟩
    · have ehl' : q.d.holdL.length = N := by rw [HN.out]; exact ehl
      obtain ⟨hl, hhl⟩ : ∃ hl, hl = q.d.holdL := ⟨_, rfl⟩
      rw [← hhl] at e1 ehl' ehd
      have HE1 := Lib.hid (fun A3 c3 W (hat : (q.withA A3 c3).At W W.heap.size) => (show Calls Try.prog 19 #[.agg (q.withA A3 c3).cells.toArray] W (HoldO (hl, 0) W) by
        have := Hold_any (q.withA A3 c3) W hat
        rw [show (q.withA A3 c3).d.holdR = (hl, 0) from e1] at this
        exact this))
      have HEA := Lib.hid eall
      have HHD := Lib.hid ehd
      have elo' : q.low ≤ lo := elo
      have ehi' : hi ≤ q.high := ehi
      clear e1 eall HALL ehl ehd hhl elo ehi
      go_upto_region 5 with (first
        | (have h := K28; clear h; refine wpList_load_row (o := ⟨some 28, _, _, _, _, _⟩) ?_ 26 (.tmp 3) ?_ w.heap.size ?_ 26 q.cells.toArray (0, 0) _ L2.out Try.underlying26 rfl size_rp ?_; rfl; rfl; rfl; have K29 := Lib.hid True.intro; clear K28)
        | (have h := K29; clear h; go_at_call 18; refine (Copy_any q _ (HAT.out.below B2.out B2.out.size) HL15.out).mono ?_; rintro e w3 ⟨A3, c3, rfl, hat3, hb3⟩; have HT3 := Lib.hid hat3; have B3 := Lib.hid (B2.out.trans (hb3.mono B2.out.size)); have L3 := Lib.hid (L2.out.call hb3); clear hat3 hb3; have K30 := Lib.hid True.intro; clear K29)
        | (have h := K30; clear h; go_at_call 19; refine (HE1.out A3 c3 _ HT3.out).mono ?_; rintro e w4 ⟨A4, c4, rfl, hs4, hb4⟩; have S4 := Lib.hid hs4; have B4 := Lib.hid (B3.out.trans (hb4.mono B3.out.size)); have L4 := Lib.hid (L3.out.call hb4); have c36 : w4.cell? ⟨w.heap.size, 6, none⟩ = some (.slice q.ds.A N q.ds.c) := (by rw [HN.out]; exact L4.out.at_ 6); clear hb4 hs4; clear K30))
      obtain ⟨bh, oh, hA4, hbh, hch1, hch2⟩ := S4.out.cellRg HHD.out
      subst hA4
      dsimp only at hch1 hch2
      have F1 := Lib.hid (fun V (h : Below w4.heap.size w4 V) => (show V.cell? ⟨bh, oh + d * 2, none⟩ = some (.int .i64 lo) from (h.cell (p := ⟨bh, oh + d * 2, none⟩) hbh).trans hch1))
      have F2 := Lib.hid (fun V (h : Below w4.heap.size w4 V) => (show V.cell? ⟨bh, oh + d * 2 + 1, none⟩ = some (.int .i64 hi) from (h.cell (p := ⟨bh, oh + d * 2 + 1, none⟩) hbh).trans hch2))
      have c40 := (show w4.cell? ⟨w.heap.size, 0, none⟩ = some (.int .i64 q.low) from L4.out.at_ 0)
      have c44 := (show w4.cell? ⟨w.heap.size, 1, none⟩ = some (.int .i64 q.high) from L4.out.at_ 1)
      clear c36 hbh hch1 hch2
      go_quiet (fail)
      clear c40 c44
      have hbd : Below w4.heap.size w4 (w4.drewN nq) := below_drewN (Below.refl _ _) nq
      have B5 := Lib.hid (B4.out.trans (hbd.mono B4.out.size))
      have L5 := Lib.hid (L4.out.call hbd)
      have W5 := Lib.hid hbd
      clear hbd B4 L4
      generalize w4.drewN nq = w5 at *
      rw [HD.out]
      clear hn0 hn1' hm0 hm1 hN0 hM0 hwM hwM1 hwL hwx hwy hxz hyz hMz ehl'
      have hdnz : (d : Int) < (N : Int) := by omega
      have hd0 : (0 : Int) ≤ (d : Int) := by omega
      have HI1 := Lib.hid (fun W => (show Calls Try.prog 25 #[.int .i64 lo, .int .i64 q.low, .int .i64 hi] W fun e w' => e = .returned (.bool true) ∧ Below W.heap.size W w' by
        have := In_below lo q.low hi W
        rw [inB_iff.2 ⟨elo', ele⟩] at this
        exact this))
      go_upto_region 9 with (fail)
      have r73 := cell_regrown (show w5.cell? ⟨w.heap.size, 6, none⟩ = some (.slice q.ds.A N q.ds.c) by rw [HN.out]; exact L5.out.at_ 6)
      have r81 := cell_regrown (F1.out _ W5.out)
      have r88 := cell_regrown (F2.out _ W5.out)
      have r83 := cell_regrown (show w5.cell? ⟨w.heap.size, 0, none⟩ = some (.int .i64 q.low) from L5.out.at_ 0)
      have r99 := cell_regrown (show w5.cell? ⟨w.heap.size, 1, none⟩ = some (.int .i64 q.high) from L5.out.at_ 1)
      have hgh : ¬ q.high < hi := by omega
      refine wp_region_quiet_below (by kernel_rfl) (by kernel_rfl) ?_; (repeat (first | go_big_quiet_step ((go_at_call 25; exact Calls.regrown_of (HI1.out _))) | quiet_step ((go_at_call 25; exact Calls.regrown_of (HI1.out _))))); refine wpQuiet_nil ?_; intro wq hwq; have hbq : Below _ _ wq := (by obtain ⟨p, rfl⟩ := hwq; exact below_regrown _ _ _); clear hwq
      clear r73 r81 r88 r83 r99 hgh HI1
      have B6 := Lib.hid (B5.out.trans (hbq.mono B5.out.size))
      have L6 := Lib.hid (L5.out.call hbq)
      have W6 := Lib.hid (W5.out.trans (hbq.mono W5.out.size))
      clear hbq B5 L5 W5
      go_upto_region 11 with (fail)
      have hw1 : IntKind.i64.wrap (lo - 1) = lo - 1 := IntWalk.i64_in _ (by omega)
      have hw2 : IntKind.i64.wrap (hi + 1) = hi + 1 := IntWalk.i64_in _ (by omega)
      have r1 : ∀ cc : Cls (fun W => Below wq.heap.size wq W), cc.val.cell? ⟨bh, oh + d * 2, none⟩ = some (.int .i64 lo) := fun cc => F1.out _ (W6.out.trans (cc.h.mono W6.out.size))
      have r2 : ∀ cc : Cls (fun W => Below wq.heap.size wq W), cc.val.cell? ⟨bh, oh + d * 2 + 1, none⟩ = some (.int .i64 hi) := fun cc => F2.out _ (W6.out.trans (cc.h.mono W6.out.size))
      haveI hne : Nonempty (Cls (fun W => Below wq.heap.size wq W)) := ⟨⟨wq, Below.refl _ _⟩⟩
      refine wp_region_wayw [0, 1, 2, 3, 4, 5, 6, 7, 8, 9, 10, 11, 12, 13, 14, 15, 16, 17, 18, 19, 20, 21, 22] (.way 23 (.way 24 .fin .fin) .fin) (fun W => ∃ cc : Cls (fun W => Below wq.heap.size wq W), W = cc.val) (by kernel_rfl) (by kernel_rfl) (Cls.here (Below.refl _ _).drew) ?_
      simp only [List.filterMap_cons, List.filterMap_nil, List.getElem?_toArray, List.getElem?_cons_zero, List.getElem?_cons_succ]
      repeat (first | go_big_quiet_step (rfl) | quiet_step (rfl))
      refine wpQuiet_nil ?_
      have D0 := Lib.hid (show Below wq.heap.size wq wq.drew from (Below.refl _ _).drew)
      generalize wq.drew = d0 at *
      rw [wpWy_way]
      refine ⟨?_, by exact trivial⟩
      simp only [List.getElem?_toArray, List.getElem?_cons_succ, List.getElem?_cons_zero]
      go_wp2
      have D1 := Lib.hid (D0.out.alloc D0.out.size (.cells #[.int .i64 0, .int .i64 0, .int .i64 0, .int .i64 0] 79))
      have Z1 := Lib.hid (Lies.fresh d0 79 #[.int .i64 0, .int .i64 0, .int .i64 0, .int .i64 0])
      refine Ends.intro ⟨Cls.here D1.out, ?_⟩
      have HG := Lib.hid (show wq.heap.size ≤ d0.heap.size from D0.out.size)
      generalize d0.alloc (.cells #[.int .i64 0, .int .i64 0, .int .i64 0, .int .i64 0] 79) = d1 at *
      generalize d0.heap.size = g14 at *
      clear D0 r1 r2
      rw [wpWy_way]
      refine ⟨?_, by exact trivial⟩
      simp only [List.getElem?_toArray, List.getElem?_cons_succ, List.getElem?_cons_zero]
      go_wp2_with (refine wpList_store_cells (o := ⟨none, .store 79 (.tmp 14) _, _, _, _, _⟩) ?_ 79 (.tmp 14) (.tmp 124) ?_ g14 0 ?_ 79 [.int .i64 0, .int .i64 0, .int .i64 0, .int .i64 0] [.int .i64 (lo - 1), .int .i64 lo, .int .i64 hi, .int .i64 (hi + 1)] ?_ Z1.out (by simp) size_l4 (by intro u hu; simp only [List.mem_cons, List.not_mem_nil, or_false] at hu; rcases hu with rfl | rfl | rfl | rfl <;> rfl) ?_; rfl; rfl; rfl; rfl; intro d2 HS2 HO2)
      have hs2 := HS2.out
      rw [splice_whole (by simp)] at hs2
      have D2 := Lib.hid (HO2.out.below D1.out HG.out)
      have T2 := Lib.hid hs2
      refine Ends.intro ⟨Cls.here D2.out, ?_⟩
      clear hs2 HS2 HO2 D1 Z1 hne
      rw [wpWy_fin]
      have B7 := Lib.hid (B6.out.trans (D2.out.mono B6.out.size))
      have L7 := Lib.hid (L6.out.call D2.out)
      have W7 := Lib.hid (W6.out.trans (D2.out.mono W6.out.size))
      clear D2 B6 L6 W6
      have K174 := Lib.hid True.intro
      go_upto_region 12 with (fail)
      go_wp2
      go_loopw [6, 15, 16, 17, 18, 19] (fun _ s15 _ _ _ _ wr => ∃ (k : Nat), k ≤ 4 ∧ s15 = .int .i64 k ∧ Aside (Below d2.heap.size d2 wr)) (fun _ i _ _ _ _ _ => 4 - (intOf i).toNat)
      case atStart => exact ⟨0, by omega, rfl, Below.refl _ _⟩
      case round =>
        obtain ⟨k, hk4, rfl, HW⟩ := hrel
        have BW := Lib.hid (B7.out.trans (HW.out.mono B7.out.size))
        have LW := Lib.hid (L7.out.call HW.out)
        have TW := Lib.hid (T2.out.call HW.out)
        have WW := Lib.hid HW.out
        clear HW
        by_cases hlt : k < 4
        · have hltz : (k : Int) < 4 := by omega
          have hk0 : (0 : Int) ≤ (k : Int) := by omega
          obtain ⟨xk, hxk⟩ : ∃ xk, xk = four lo hi k := ⟨_, rfl⟩
          have hcx : ∀ V, Below wr.heap.size wr V → V.cell? ⟨g14, k, none⟩ = some (.int .i64 xk) := fun V hb => by
            have h := TW.out.call hb
            rw [hxk]
            have : k = 0 ∨ k = 1 ∨ k = 2 ∨ k = 3 := by omega
            rcases this with rfl | rfl | rfl | rfl
            · exact h.at_ 0
            · exact h.at_ 1
            · exact h.at_ 2
            · exact h.at_ 3
          have HCX := Lib.hid hcx
          have hthree : ((k = 1 ∨ k = 2) ∧ ∃ a c, q.d.bestR d xk = (a, c, 0)) ∨ ((k ≠ 1 ∧ k ≠ 2) ∧ q.d.bestR d xk = (0, 0, 9)) ∨ ((k ≠ 1 ∧ k ≠ 2) ∧ q.d.bestR d xk = (0, 0, 2) ∧ inB xk q.low q.high = false) := by
            have h := HEA.out xk
            have hk : k = 0 ∨ k = 1 ∨ k = 2 ∨ k = 3 := by omega
            have hout : ∀ z, inB z lo hi = false → ¬ (lo ≤ z ∧ z ≤ hi) := fun z hz hh => by rw [inB_iff.2 hh] at hz; cases hz
            have hin : ∀ z, inB z lo hi = true → lo ≤ z ∧ z ≤ hi := fun z hz => inB_iff.1 hz
            have hnk : ∀ z, ¬ q.d.kept z → inB z q.low q.high = false := fun z hz => by rw [Bool.eq_false_iff]; intro hb; exact hz (inB_iff.1 hb)
            rcases h with ⟨h1, h2, a, c, h3, h4⟩ | ⟨h1, h2, h3⟩ | ⟨h1, h2, h3⟩
            · refine .inl ⟨?_, a, c, h4⟩
              have := hin _ h2
              rcases hk with rfl | rfl | rfl | rfl
              · have e : xk = lo - 1 := hxk
                omega
              · exact .inl rfl
              · exact .inr rfl
              · have e : xk = hi + 1 := hxk
                omega
            · refine .inr (.inl ⟨?_, h3⟩)
              have := hout _ h2
              rcases hk with rfl | rfl | rfl | rfl
              · omega
              · have e : xk = lo := hxk
                omega
              · have e : xk = hi := hxk
                omega
              · omega
            · refine .inr (.inr ⟨?_, h3, hnk _ h1⟩)
              have := hout _ h2
              rcases hk with rfl | rfl | rfl | rfl
              · omega
              · have e : xk = lo := hxk
                omega
              · have e : xk = hi := hxk
                omega
              · omega
          have HTH := Lib.hid hthree
          clear hcx hthree hxk
          have r135 : ∀ cc : Cls (fun W => Below wr.heap.size wr W), cc.val.cell? ⟨g14, k, none⟩ = some (.int .i64 xk) := fun cc => HCX.out _ cc.h
          have hrp : ∀ V, (∃ cc : Cls (fun W => Below wr.heap.size wr W), V = cc.val) → V.rangeAt w.heap.size 0 q.cells := by
            rintro V ⟨cc, rfl⟩
            exact Lies.range (cs := q.cells) (LW.out.call cc.h) (fun j v hj => by simpa using hj)
          have HRP := Lib.hid hrp
          clear hrp
          go_upto_region 15 with (fail)
          haveI hne : Nonempty (Cls (fun W => Below wr.heap.size wr W)) := ⟨⟨wr, Below.refl _ _⟩⟩
          refine wp_region_wayw [0, 2, 3, 4, 5] (.way 1 (.way 6 (.take 7 (.take 8 (.take 9 (.take 10 (.take 11 (.take 12 (.take 13 .fin))))))) .fin) .fin) (fun W => ∃ cc : Cls (fun W => Below wr.heap.size wr W), W = cc.val) (by kernel_rfl) (by kernel_rfl) (Cls.here (Below.refl _ _).drew) ?_
          simp only [List.filterMap_cons, List.filterMap_nil, List.getElem?_toArray, List.getElem?_cons_zero, List.getElem?_cons_succ]
          repeat (first
            | (refine wpQuiet_load_wholeG (o := ⟨some 130, _, _, _, _, _⟩) ?_ 26 (.tmp 3) ?_ w.heap.size 0 ?_ q.cells _ HRP.out Try.underlying26 rfl size_rp ?_; rfl; rfl; rfl; simp only [Act.put, List.setIfInBounds_toArray, List.set_cons_zero, List.set_cons_succ])
            | go_big_quiet_step (rfl) | quiet_step (rfl))
          refine wpQuiet_nil ?_
          have D0 := Lib.hid (show Below wr.heap.size wr wr.drew from (Below.refl _ _).drew)
          generalize wr.drew = d0 at *
          rw [wpWy_way]
          refine ⟨?_, by exact trivial⟩
          simp only [List.getElem?_toArray, List.getElem?_cons_succ, List.getElem?_cons_zero]
          go_wp2_with (go_at_call 18; refine (Copy_any q _ (HAT.out.below (BW.out.trans (D0.out.mono BW.out.size)) (BW.out.trans (D0.out.mono BW.out.size)).size) HL15.out).mono ?_; rintro e d1 ⟨A8, c8, rfl, hat8, hb8⟩)
          have D1 := Lib.hid (D0.out.trans (hb8.mono D0.out.size))
          have HT8 := Lib.hid hat8
          clear hb8 hat8 D0
          refine Ends.intro ⟨Cls.here D1.out, ?_⟩
          rw [wpWy_way]
          refine ⟨?_, by exact trivial⟩
          simp only [List.getElem?_toArray, List.getElem?_cons_succ, List.getElem?_cons_zero]
          rcases HTH.out with ⟨hka, a, c, hbe⟩ | ⟨⟨hk1, hk2⟩, hbe⟩ | ⟨⟨hk1, hk2⟩, hbe, hci⟩
          · rcases hka with rfl | rfl
            · have HBE := Lib.hid hbe
              clear hbe HTH
              go_wp2_with (go_at_call 23; refine (Best_with q d xk HBE.out A8 c8 _ HT8.out).mono ?_; rintro e d3 ⟨rfl, hb9⟩)
              have D3 := Lib.hid (D1.out.trans (hb9.mono D1.out.size))
              clear hb9 D1
              refine Ends.intro ⟨Cls.here D3.out, ?_⟩
              rw [wpWy_take]
              simp only [List.getElem?_toArray, List.getElem?_cons_succ, List.getElem?_cons_zero]
              first | go_big_quiet_step (rfl) | quiet_step (rfl)
              refine wpQuiet_nil ?_
              rw [wpWy_take]
              simp only [List.getElem?_toArray, List.getElem?_cons_succ, List.getElem?_cons_zero]
              first | go_big_quiet_step (rfl) | quiet_step (rfl)
              refine wpQuiet_nil ?_
              rw [wpWy_take]
              simp only [List.getElem?_toArray, List.getElem?_cons_succ, List.getElem?_cons_zero]
              first | go_big_quiet_step (rfl) | quiet_step (rfl)
              refine wpQuiet_nil ?_
              rw [wpWy_take]
              simp only [List.getElem?_toArray, List.getElem?_cons_succ, List.getElem?_cons_zero]
              first | go_big_quiet_step (rfl) | quiet_step (rfl)
              refine wpQuiet_nil ?_
              rw [wpWy_take]
              simp only [List.getElem?_toArray, List.getElem?_cons_succ, List.getElem?_cons_zero]
              first | go_big_quiet_step (rfl) | quiet_step (rfl)
              refine wpQuiet_nil ?_
              rw [wpWy_take]
              simp only [List.getElem?_toArray, List.getElem?_cons_succ, List.getElem?_cons_zero]
              first | go_big_quiet_step (rfl) | quiet_step (rfl)
              refine wpQuiet_nil ?_
              rw [wpWy_take]
              simp only [List.getElem?_toArray, List.getElem?_cons_succ, List.getElem?_cons_zero]
              first | go_big_quiet_step (rfl) | quiet_step (rfl)
              refine wpQuiet_nil ?_
              rw [wpWy_fin]
              clear r135 HRP hne
              have D4 := Lib.hid (WW.out.trans (D3.out.mono WW.out.size))
              have L9 := Lib.hid (LW.out.call D3.out)
              go_upto_region 17 with (fail)
              refine wp_region_quiet_below (by kernel_rfl) (by kernel_rfl) ?_
              repeat (first | go_big_quiet_skip | go_big_quiet_step (fail) | quiet_step (fail))
              refine wpQuiet_nil ?_
              intro wz hwz
              have hbz : Below _ _ wz := (by obtain ⟨p, rfl⟩ := hwz; exact below_regrown _ _ _)
              clear hwz
              go_wp2
              go_roundw
              case rel => exact ⟨1 + 1, by omega, by first | rfl | go_num, D4.out.trans (hbz.mono D4.out.size)⟩
              case measure => simp [intOf] <;> omega
            · have HBE := Lib.hid hbe
              clear hbe HTH
              go_wp2_with (go_at_call 23; refine (Best_with q d xk HBE.out A8 c8 _ HT8.out).mono ?_; rintro e d3 ⟨rfl, hb9⟩)
              have D3 := Lib.hid (D1.out.trans (hb9.mono D1.out.size))
              clear hb9 D1
              refine Ends.intro ⟨Cls.here D3.out, ?_⟩
              rw [wpWy_take]
              simp only [List.getElem?_toArray, List.getElem?_cons_succ, List.getElem?_cons_zero]
              first | go_big_quiet_step (rfl) | quiet_step (rfl)
              refine wpQuiet_nil ?_
              rw [wpWy_take]
              simp only [List.getElem?_toArray, List.getElem?_cons_succ, List.getElem?_cons_zero]
              first | go_big_quiet_step (rfl) | quiet_step (rfl)
              refine wpQuiet_nil ?_
              rw [wpWy_take]
              simp only [List.getElem?_toArray, List.getElem?_cons_succ, List.getElem?_cons_zero]
              first | go_big_quiet_step (rfl) | quiet_step (rfl)
              refine wpQuiet_nil ?_
              rw [wpWy_take]
              simp only [List.getElem?_toArray, List.getElem?_cons_succ, List.getElem?_cons_zero]
              first | go_big_quiet_step (rfl) | quiet_step (rfl)
              refine wpQuiet_nil ?_
              rw [wpWy_take]
              simp only [List.getElem?_toArray, List.getElem?_cons_succ, List.getElem?_cons_zero]
              first | go_big_quiet_step (rfl) | quiet_step (rfl)
              refine wpQuiet_nil ?_
              rw [wpWy_take]
              simp only [List.getElem?_toArray, List.getElem?_cons_succ, List.getElem?_cons_zero]
              first | go_big_quiet_step (rfl) | quiet_step (rfl)
              refine wpQuiet_nil ?_
              rw [wpWy_take]
              simp only [List.getElem?_toArray, List.getElem?_cons_succ, List.getElem?_cons_zero]
              first | go_big_quiet_step (rfl) | quiet_step (rfl)
              refine wpQuiet_nil ?_
              rw [wpWy_fin]
              clear r135 HRP hne
              have D4 := Lib.hid (WW.out.trans (D3.out.mono WW.out.size))
              have L9 := Lib.hid (LW.out.call D3.out)
              go_upto_region 17 with (fail)
              refine wp_region_quiet_below (by kernel_rfl) (by kernel_rfl) ?_
              repeat (first | go_big_quiet_skip | go_big_quiet_step (fail) | quiet_step (fail))
              refine wpQuiet_nil ?_
              intro wz hwz
              have hbz : Below _ _ wz := (by obtain ⟨p, rfl⟩ := hwz; exact below_regrown _ _ _)
              clear hwz
              go_wp2
              go_roundw
              case rel => exact ⟨2 + 1, by omega, by first | rfl | go_num, D4.out.trans (hbz.mono D4.out.size)⟩
              case measure => simp [intOf] <;> omega
          · have HBE := Lib.hid hbe
            have e1 : ((k : Int) == 1) = false := by simp; omega
            have e2 : ((k : Int) == 2) = false := by simp; omega
            clear hbe HTH
            go_wp2_with (go_at_call 23; refine (Best_with q d xk HBE.out A8 c8 _ HT8.out).mono ?_; rintro e d3 ⟨rfl, hb9⟩)
            have D3 := Lib.hid (D1.out.trans (hb9.mono D1.out.size))
            clear hb9 D1
            refine Ends.intro ⟨Cls.here D3.out, ?_⟩
            rw [wpWy_take]
            simp only [List.getElem?_toArray, List.getElem?_cons_succ, List.getElem?_cons_zero]
            first | go_big_quiet_step (rfl) | quiet_step (rfl)
            refine wpQuiet_nil ?_
            rw [wpWy_take]
            simp only [List.getElem?_toArray, List.getElem?_cons_succ, List.getElem?_cons_zero]
            first | go_big_quiet_step (rfl) | quiet_step (rfl)
            refine wpQuiet_nil ?_
            rw [wpWy_take]
            simp only [List.getElem?_toArray, List.getElem?_cons_succ, List.getElem?_cons_zero]
            first | go_big_quiet_step (rfl) | quiet_step (rfl)
            refine wpQuiet_nil ?_
            rw [wpWy_take]
            simp only [List.getElem?_toArray, List.getElem?_cons_succ, List.getElem?_cons_zero]
            first | go_big_quiet_step (rfl) | quiet_step (rfl)
            refine wpQuiet_nil ?_
            rw [wpWy_take]
            simp only [List.getElem?_toArray, List.getElem?_cons_succ, List.getElem?_cons_zero]
            first | go_big_quiet_step (rfl) | quiet_step (rfl)
            refine wpQuiet_nil ?_
            rw [wpWy_take]
            simp only [List.getElem?_toArray, List.getElem?_cons_succ, List.getElem?_cons_zero]
            first | go_big_quiet_step (rfl) | quiet_step (rfl)
            refine wpQuiet_nil ?_
            rw [wpWy_take]
            simp only [List.getElem?_toArray, List.getElem?_cons_succ, List.getElem?_cons_zero]
            first | go_big_quiet_step (rfl) | quiet_step (rfl)
            refine wpQuiet_nil ?_
            rw [wpWy_fin]
            clear r135 HRP hne
            have D4 := Lib.hid (WW.out.trans (D3.out.mono WW.out.size))
            have L9 := Lib.hid (LW.out.call D3.out)
            go_upto_region 17 with (fail)
            refine wp_region_quiet_below (by kernel_rfl) (by kernel_rfl) ?_
            repeat (first | go_big_quiet_skip | go_big_quiet_step (fail) | quiet_step (fail))
            refine wpQuiet_nil ?_
            intro wz hwz
            have hbz : Below _ _ wz := (by obtain ⟨p, rfl⟩ := hwz; exact below_regrown _ _ _)
            clear hwz
            go_wp2
            go_roundw
            case rel => exact ⟨k + 1, by omega, by first | rfl | go_num, D4.out.trans (hbz.mono D4.out.size)⟩
            case measure => simp [intOf] <;> omega
          · have HBE := Lib.hid hbe
            have e1 : ((k : Int) == 1) = false := by simp; omega
            have e2 : ((k : Int) == 2) = false := by simp; omega
            clear hbe HTH
            go_wp2_with (go_at_call 23; refine (Best_with q d xk HBE.out A8 c8 _ HT8.out).mono ?_; rintro e d3 ⟨rfl, hb9⟩)
            have D3 := Lib.hid (D1.out.trans (hb9.mono D1.out.size))
            clear hb9 D1
            refine Ends.intro ⟨Cls.here D3.out, ?_⟩
            rw [wpWy_take]
            simp only [List.getElem?_toArray, List.getElem?_cons_succ, List.getElem?_cons_zero]
            first | go_big_quiet_step (rfl) | quiet_step (rfl)
            refine wpQuiet_nil ?_
            rw [wpWy_take]
            simp only [List.getElem?_toArray, List.getElem?_cons_succ, List.getElem?_cons_zero]
            first | go_big_quiet_step (rfl) | quiet_step (rfl)
            refine wpQuiet_nil ?_
            rw [wpWy_take]
            simp only [List.getElem?_toArray, List.getElem?_cons_succ, List.getElem?_cons_zero]
            first | go_big_quiet_step (rfl) | quiet_step (rfl)
            refine wpQuiet_nil ?_
            rw [wpWy_take]
            simp only [List.getElem?_toArray, List.getElem?_cons_succ, List.getElem?_cons_zero]
            first | go_big_quiet_step (rfl) | quiet_step (rfl)
            refine wpQuiet_nil ?_
            rw [wpWy_take]
            simp only [List.getElem?_toArray, List.getElem?_cons_succ, List.getElem?_cons_zero]
            first | go_big_quiet_step (rfl) | quiet_step (rfl)
            refine wpQuiet_nil ?_
            rw [wpWy_take]
            simp only [List.getElem?_toArray, List.getElem?_cons_succ, List.getElem?_cons_zero]
            first | go_big_quiet_step (rfl) | quiet_step (rfl)
            refine wpQuiet_nil ?_
            rw [wpWy_take]
            simp only [List.getElem?_toArray, List.getElem?_cons_succ, List.getElem?_cons_zero]
            first | go_big_quiet_step (rfl) | quiet_step (rfl)
            refine wpQuiet_nil ?_
            rw [wpWy_fin]
            clear r135 HRP hne
            have D4 := Lib.hid (WW.out.trans (D3.out.mono WW.out.size))
            have L9 := Lib.hid (LW.out.call D3.out)
            go_upto_region 17 with (fail)
            have HI := Lib.hid (fun W => (show Calls Try.prog 25 #[.int .i64 xk, .int .i64 q.low, .int .i64 q.high] W fun e w' => e = .returned (.bool false) ∧ Below W.heap.size W w' by
              have := In_below xk q.low q.high W
              rw [hci] at this
              exact this))
            have r164 := cell_regrown (HCX.out _ D3.out)
            have r166 := cell_regrown (show d3.cell? ⟨w.heap.size, 0, none⟩ = some (.int .i64 q.low) from L9.out.at_ 0)
            have r168 := cell_regrown (show d3.cell? ⟨w.heap.size, 1, none⟩ = some (.int .i64 q.high) from L9.out.at_ 1)
            refine wp_region_quiet_below (by kernel_rfl) (by kernel_rfl) ?_
            repeat (first | go_big_quiet_skip | go_big_quiet_step (first | (go_at_call 25; exact Calls.regrown_of (HI.out _))) | quiet_step (first | (go_at_call 25; exact Calls.regrown_of (HI.out _))))
            refine wpQuiet_nil ?_
            intro wz hwz
            have hbz : Below _ _ wz := (by obtain ⟨p, rfl⟩ := hwz; exact below_regrown _ _ _)
            clear hwz
            go_wp2
            go_roundw
            case rel => exact ⟨k + 1, by omega, by first | rfl | go_num, D4.out.trans (hbz.mono D4.out.size)⟩
            case measure => simp [intOf] <;> omega
        · obtain rfl : k = 4 := by omega
          have hdd0 : (0 : Int) ≤ (d : Int) := by omega
          rcases HEA.out lv with ⟨-, hci, a, c, hc0, hbe⟩ | ⟨-, hci, hbe⟩ | ⟨hnk, -, -⟩
          · have HBE := Lib.hid hbe
            clear hbe
            go_upto_region 20 with (first
              | (have h := K174; clear h; refine wpList_load_row (o := ⟨some 174, _, _, _, _, _⟩) ?_ 26 (.tmp 3) ?_ w.heap.size ?_ 26 q.cells.toArray (0, 0) _ LW.out Try.underlying26 rfl size_rp ?_; rfl; rfl; rfl; have K175 := Lib.hid True.intro; clear K174)
              | (have h := K175; clear h; go_at_call 18; refine (Copy_any q _ (HAT.out.below BW.out BW.out.size) HL15.out).mono ?_; rintro e d1 ⟨A8, c8, rfl, hat8, hb8⟩; have HT8 := Lib.hid hat8; have X1 := Lib.hid hb8; clear hb8 hat8; have K178 := Lib.hid True.intro; clear K175)
              | (have h := K178; clear h; go_at_call 23; refine (Best_with q d lv HBE.out A8 c8 _ HT8.out).mono ?_; rintro e d2' ⟨rfl, hb9⟩; have X2 := Lib.hid (X1.out.trans (hb9.mono X1.out.size)); clear hb9 X1; clear K178))
            have B9 := Lib.hid (BW.out.trans (X2.out.mono BW.out.size))
            have W9 := Lib.hid (W7.out.trans ((WW.out.trans (X2.out.mono WW.out.size)).mono W7.out.size))
            have HI := Lib.hid (fun W => (show Calls Try.prog 25 #[.int .i64 lv, .int .i64 lo, .int .i64 hi] W fun e w' => e = .returned (.bool true) ∧ Below W.heap.size W w' by
              have := In_below lv lo hi W
              rw [hci] at this
              exact this))
            have HWK := Lib.hid (fun W => wakes_any W)
            have r189 := cell_regrown (F1.out _ W9.out)
            have r194 := cell_regrown (F2.out _ W9.out)
            clear X2 W9
            refine wp_region_quiet_below (by kernel_rfl) (by kernel_rfl) ?_
            repeat (first | go_big_quiet_skip | go_big_quiet_step (first | (go_at_call 25; exact Calls.regrown_of (HI.out _)) | (go_at_call 16; exact Calls.regrown_of (HWK.out _))) | quiet_step (first | (go_at_call 25; exact Calls.regrown_of (HI.out _)) | (go_at_call 16; exact Calls.regrown_of (HWK.out _))))
            refine wpQuiet_nil ?_
            intro wz hwz
            have hbz : Below _ _ wz := (by obtain ⟨p, rfl⟩ := hwz; exact below_regrown _ _ _)
            clear hwz r189 r194
            go_wp2
            go_ret
            exact ⟨rfl, B9.out.trans (hbz.mono B9.out.size)⟩
          · have HBE := Lib.hid hbe
            clear hbe
            go_upto_region 20 with (first
              | (have h := K174; clear h; refine wpList_load_row (o := ⟨some 174, _, _, _, _, _⟩) ?_ 26 (.tmp 3) ?_ w.heap.size ?_ 26 q.cells.toArray (0, 0) _ LW.out Try.underlying26 rfl size_rp ?_; rfl; rfl; rfl; have K175 := Lib.hid True.intro; clear K174)
              | (have h := K175; clear h; go_at_call 18; refine (Copy_any q _ (HAT.out.below BW.out BW.out.size) HL15.out).mono ?_; rintro e d1 ⟨A8, c8, rfl, hat8, hb8⟩; have HT8 := Lib.hid hat8; have X1 := Lib.hid hb8; clear hb8 hat8; have K178 := Lib.hid True.intro; clear K175)
              | (have h := K178; clear h; go_at_call 23; refine (Best_with q d lv HBE.out A8 c8 _ HT8.out).mono ?_; rintro e d2' ⟨rfl, hb9⟩; have X2 := Lib.hid (X1.out.trans (hb9.mono X1.out.size)); clear hb9 X1; clear K178))
            have B9 := Lib.hid (BW.out.trans (X2.out.mono BW.out.size))
            have W9 := Lib.hid (W7.out.trans ((WW.out.trans (X2.out.mono WW.out.size)).mono W7.out.size))
            have HI := Lib.hid (fun W => (show Calls Try.prog 25 #[.int .i64 lv, .int .i64 lo, .int .i64 hi] W fun e w' => e = .returned (.bool false) ∧ Below W.heap.size W w' by
              have := In_below lv lo hi W
              rw [hci] at this
              exact this))
            have HWK := Lib.hid (fun W => wakes_any W)
            have r189 := cell_regrown (F1.out _ W9.out)
            have r194 := cell_regrown (F2.out _ W9.out)
            clear X2 W9
            refine wp_region_quiet_below (by kernel_rfl) (by kernel_rfl) ?_
            repeat (first | go_big_quiet_skip | go_big_quiet_step (first | (go_at_call 25; exact Calls.regrown_of (HI.out _)) | (go_at_call 16; exact Calls.regrown_of (HWK.out _))) | quiet_step (first | (go_at_call 25; exact Calls.regrown_of (HI.out _)) | (go_at_call 16; exact Calls.regrown_of (HWK.out _))))
            refine wpQuiet_nil ?_
            intro wz hwz
            have hbz : Below _ _ wz := (by obtain ⟨p, rfl⟩ := hwz; exact below_regrown _ _ _)
            clear hwz r189 r194
            go_wp2
            go_ret
            exact ⟨rfl, B9.out.trans (hbz.mono B9.out.size)⟩
          · exact absurd HKEPT.out hnk
end Go.Proofs.Yteognijlgalahaa
