/- PolderCosts: the walk. -/
import Derived.Test.YteognijlgalahaaCCA
namespace Go.Proofs.Yteognijlgalahaa
open Go.RowKit Go.Lib
attribute [local go_sem] Oper.semAt_some

/-- What Best tells of any day and level. -/
theorem best_three {p : PoD} (h : p.Ok) (day lv : Int) : (inB day 0 ((p.ds.length : Int) - 1) = false ∧ p.bestR day lv = (0, 0, 2)) ∨ (inB day 0 ((p.ds.length : Int) - 1) = true ∧ inB lv p.low p.high = false ∧ p.bestR day lv = (0, 0, 2)) ∨
    (inB day 0 ((p.ds.length : Int) - 1) = true ∧ inB lv p.low p.high = true ∧ ∃ (d : Nat) (dy : Dy) (a c : Int), day = d ∧ p.ds[d]? = some dy ∧ p.bestD (p.vals (p.ds.drop (d + 1))) dy lv = (a, c) ∧ ((c = -1 ∧ p.bestR day lv = (0, 0, 9)) ∨ (0 ≤ c ∧ p.bestR day lv = (a, c, 0)))) := by
  have hb : p.bestR day lv = if p.levR day lv ≠ 0 then (0, 0, p.levR day lv) else if (p.bestD (p.vals (p.ds.drop (day.toNat + 1))) (p.ds.getD day.toNat ⟨0, 0, 0, 0, 0⟩) lv).2 = -1 then (0, 0, 9) else ((p.bestD (p.vals (p.ds.drop (day.toNat + 1))) (p.ds.getD day.toNat ⟨0, 0, 0, 0, 0⟩) lv).1, (p.bestD (p.vals (p.ds.drop (day.toNat + 1))) (p.ds.getD day.toNat ⟨0, 0, 0, 0, 0⟩) lv).2, 0) := rfl
  have hl : p.levR day lv = if p.levB day lv then 0 else 2 := by unfold PoD.levR; rw [PoD.fault_iff.2 h, if_neg (by simp)]
  have hno : p.levB day lv = false → p.bestR day lv = (0, 0, 2) := fun e => by rw [hb, hl, e, if_pos (by decide)]; rfl
  cases hd : inB day 0 ((p.ds.length : Int) - 1) with
  | false =>
    refine .inl ⟨rfl, hno ?_⟩
    rw [Bool.eq_false_iff] at hd ⊢
    intro hh
    unfold PoD.levB at hh
    rw [Bool.and_eq_true, Bool.and_eq_true, decide_eq_true_eq, decide_eq_true_eq] at hh
    exact hd (inB_iff.2 ⟨hh.1.1, by omega⟩)
  | true =>
    obtain ⟨h1, h2⟩ := inB_iff.1 hd
    cases hk : inB lv p.low p.high with
    | false =>
      refine .inr (.inl ⟨rfl, rfl, hno ?_⟩)
      unfold PoD.levB
      rw [hk, Bool.and_false]
    | true =>
      obtain ⟨d, rfl⟩ : ∃ d : Nat, day = d := ⟨day.toNat, by omega⟩
      have hdl : d < p.ds.length := by omega
      refine .inr (.inr ⟨rfl, rfl, d, p.ds[d], (p.bestD (p.vals (p.ds.drop (d + 1))) p.ds[d] lv).1, (p.bestD (p.vals (p.ds.drop (d + 1))) p.ds[d] lv).2, rfl, by simp, rfl, ?_⟩)
      have hy : p.levB d lv = true := by
        unfold PoD.levB
        rw [hk, Bool.and_true, Bool.and_eq_true, decide_eq_true_eq, decide_eq_true_eq]
        omega
      have e : p.ds.getD (d : Int).toNat ⟨0, 0, 0, 0, 0⟩ = p.ds[d] := by rw [Int.toNat_natCast, List.getD, List.getElem?_eq_getElem hdl]; rfl
      rw [hb, hl, hy, if_pos rfl, if_neg (by simp), e, Int.toNat_natCast]
      rcases PoD.best_spec h.p0 h.i0 (h.cstDrop (d + 1)) (h.d _ (List.getElem_mem hdl)) lv with ⟨b1, -⟩ | ⟨-, -, -, -, b2, -⟩
      · rw [b1]; exact .inl ⟨rfl, by rw [if_pos rfl]⟩
      · exact .inr ⟨b2, by rw [if_neg (by omega)]⟩
set_option maxRecDepth 100000 in
set_option maxHeartbeats 16000000 in
theorem PolderCosts_walk (q : PoM) (day lv : Int) (w : World) (h : OpenPo q w) (hdb : -9223372036854775808 ≤ day ∧ day ≤ 9223372036854775807) (hlb : -9223372036854775808 ≤ lv ∧ lv ≤ 9223372036854775807) : Calls Try.prog 4 #[.agg q.cells.toArray, .int .i64 day, .int .i64 lv] w fun e w' => e = .returned (.bool true) ∧ Below w.heap.size w w' := by
  have l0 : Lies (w.alloc (.cells q.cells.toArray 26)) w.heap.size 26 q.cells.toArray := Lies.fresh _ _ _
  have b0 : Below w.heap.size w (w.alloc (.cells q.cells.toArray 26)) := (by repeat (first | (with_reducible assumption) | (with_reducible exact Below.refl _ _) | (with_reducible refine Below.drew ?_) | (with_reducible refine below_drewN ?_ _) | ((with_reducible refine Below.setCell ?_ ?_ _); rotate_left; focus (first | (simp; done) | (simp; omega) | omega)) | ((with_reducible refine Below.alloc ?_ ?_ _); rotate_left; focus (first | (simp; done) | (simp; omega) | omega))))
  have HTH := Lib.hid (fun W => Thin_any q W)
  have HO := Lib.hid h
  have L := Lib.hid l0
  have B := Lib.hid b0
  have K17 := Lib.hid True.intro
  clear l0 b0 h
  by_cases hthin : q.ds.l.length ≤ 15
  · rw [decide_eq_true hthin] at HTH
    have HL15 := Lib.hid hthin
    have HAT := Lib.hid (HO.out.at_ hthin)
    clear hthin HO
    by_cases hff : q.d.fault = 0
    · have HOK := Lib.hid (fault_ok hff)
      obtain ⟨N, hN⟩ : ∃ N, N = q.ds.l.length := ⟨_, rfl⟩
      have hNz : (N : Int) ≤ 12 := by have := HOK.out.n2; have h2 : q.d.ds.length = q.ds.l.length := rfl; omega
      have hl0 : 0 ≤ q.low := HOK.out.l0
      have hl2 : q.high ≤ 60 := HOK.out.l2
      have hwN : IntKind.i64.wrap ((N : Int) - 1) = (N : Int) - 1 := IntWalk.i64_in _ (by omega)
      have hthree := best_three HOK.out day lv
      have hd1 : (q.d.ds.length : Int) = (N : Int) := by rw [hN]; rfl
      rw [hd1] at hthree
      have HT3 := Lib.hid hthree
      have HN := Lib.hid hN
      have HFA := Lib.hid (fun W (hq : q.At W W.heap.size) => (show Calls Try.prog 20 #[.agg q.cells.toArray] W fun e w' => e = .returned (.int .i64 0) ∧ Below W.heap.size W w' by
        have := lawFault_any q W hq
        rw [hff] at this
        exact this))
      clear hN hthree hd1
      by_cases hcn : q.d.costD = -1
      · have hcd := hcn
        have hle : q.d.leastR = (0, 9) := by unfold PoD.leastR; rw [hff, if_neg (by simp), if_pos hcn]
        have HLE := Lib.hid (fun A c W (hat : (q.withA A c).At W W.heap.size) => (show Calls Try.prog 22 #[.agg (q.withA A c).cells.toArray] W fun e w' => e = .returned (.tuple #[.int .i64 0, .int .i64 9]) ∧ Below W.heap.size W w' by
          have := Least_any (q.withA A c) W hat
          rw [show (q.withA A c).d.leastR = (0, 9) from hle] at this
          exact this))
        have HCO := Lib.hid (fun g row W (hv : VlM q.d g row W) => (show Calls Try.prog 24 #[.agg q.cells.toArray, .slice (some ⟨g, 0, none⟩) (q.ds.l.length + 1) (q.ds.l.length + 1)] W fun e w' => e = .returned (.int .i64 (-1)) ∧ Below W.heap.size W w' by
          have := refCost_any q g row W HOK.out hv
          rw [hcd] at this
          exact this))
        clear hcd hle hcn hff
        rcases HT3.out with ⟨hin_HI1, hbe⟩ | ⟨hin_HI1, hin_HI2, hbe⟩ | ⟨hin_HI1, hin_HI2, d, dy, a, c, hdd, hdy, hac, (⟨hc1, hbe⟩ | ⟨hc1, hbe⟩)⟩
        · have HI1 := Lib.hid (fun W => (show Calls Try.prog 25 #[.int .i64 day, .int .i64 0, .int .i64 ((N : Int) - 1)] W fun e w' => e = .returned (.bool false) ∧ W = w' by
            have := In_any day 0 ((N : Int) - 1) W
            rw [show inB day 0 ((N : Int) - 1) = false from hin_HI1] at this
            exact this))
          have HBE := Lib.hid (fun A c0 W (hat : (q.withA A c0).At W W.heap.size) => (show Calls Try.prog 23 #[.agg (q.withA A c0).cells.toArray, .int .i64 day, .int .i64 lv] W fun e w' => e = .returned (.tuple #[.int .i64 0, .int .i64 0, .int .i64 2]) ∧ Below W.heap.size W w' by
            have := Best_any (q.withA A c0) day lv W hat
            rw [show (q.withA A c0).d.bestR day lv = (0, 0, 2) from hbe] at this
            exact this))
          clear hin_HI1 hbe HT3
          go_enter Try.func4, Try.ntmps4
          go_upto_region 1 with (fail)
          change Code.wp _ _ _ _ (w.alloc (.cells q.cells.toArray 26))
          generalize w.alloc (.cells q.cells.toArray 26) = w1 at *
          go_upto_region 15 with (first
              | (have h := K17; clear h; refine wpList_load_row (o := ⟨some 17, _, _, _, _, _⟩) ?_ 26 (.tmp 3) ?_ w.heap.size ?_ 26 q.cells.toArray (0, 0) _ L.out Try.underlying26 rfl size_rp ?_; rfl; rfl; rfl; have K18 := Lib.hid True.intro; clear K17)
              | (have h := K18; clear h; go_at_call 15; refine (HTH.out _).mono ?_; rintro e w2 ⟨rfl, hb⟩; replace B := Lib.hid (B.out.trans (hb.mono B.out.size)); replace L := Lib.hid (L.out.call hb); clear hb; have K22 := Lib.hid True.intro; clear K18)
              | (have h := K22; clear h; refine wpList_load_row (o := ⟨some 22, _, _, _, _, _⟩) ?_ 26 (.tmp 3) ?_ w.heap.size ?_ 26 q.cells.toArray (0, 0) _ L.out Try.underlying26 rfl size_rp ?_; rfl; rfl; rfl; have K23 := Lib.hid True.intro; clear K22)
              | (have h := K23; clear h; go_at_call 18; refine (Copy_any q _ (HAT.out.below B.out B.out.size) HL15.out).mono ?_; rintro e w3 ⟨A3, c3, rfl, hat, hb⟩; replace B := Lib.hid (B.out.trans (hb.mono B.out.size)); replace L := Lib.hid (L.out.call hb); have T3 := Lib.hid hat; clear hat; clear hb; have K24 := Lib.hid True.intro; clear K23)
              | (have h := K24; clear h; go_at_call 22; refine (HLE.out A3 c3 _ T3.out).mono ?_; rintro e w4 ⟨rfl, hb⟩; replace B := Lib.hid (B.out.trans (hb.mono B.out.size)); replace L := Lib.hid (L.out.call hb); replace T3 := Lib.hid (T3.out.below hb hb.size); clear hb; have K28 := Lib.hid True.intro; clear K24)
              | (have h := K28; clear h; refine wpList_load_row (o := ⟨some 28, _, _, _, _, _⟩) ?_ 26 (.tmp 3) ?_ w.heap.size ?_ 26 q.cells.toArray (0, 0) _ L.out Try.underlying26 rfl size_rp ?_; rfl; rfl; rfl; have K29 := Lib.hid True.intro; clear K28)
              | (have h := K29; clear h; go_at_call 18; refine (Copy_any q _ (HAT.out.below B.out B.out.size) HL15.out).mono ?_; rintro e w5 ⟨A4, c4, rfl, hat, hb⟩; replace B := Lib.hid (B.out.trans (hb.mono B.out.size)); replace L := Lib.hid (L.out.call hb); replace T3 := Lib.hid (T3.out.below hb hb.size); have T4 := Lib.hid hat; clear hat; clear hb; have K32 := Lib.hid True.intro; clear K29)
              | (have h := K32; clear h; go_at_call 23; refine (HBE.out A4 c4 _ T4.out).mono ?_; rintro e w6 ⟨rfl, hb⟩; replace B := Lib.hid (B.out.trans (hb.mono B.out.size)); replace L := Lib.hid (L.out.call hb); replace T3 := Lib.hid (T3.out.below hb hb.size); replace T4 := Lib.hid (T4.out.below hb hb.size); clear hb; have K36 := Lib.hid True.intro; clear K32)
              | (have h := K36; clear h; refine wpList_load_row (o := ⟨some 36, _, _, _, _, _⟩) ?_ 26 (.tmp 3) ?_ w.heap.size ?_ 26 q.cells.toArray (0, 0) _ L.out Try.underlying26 rfl size_rp ?_; rfl; rfl; rfl; have K37 := Lib.hid True.intro; clear K36)
              | (have h := K37; clear h; go_at_call 20; refine (HFA.out _ (HAT.out.below B.out B.out.size)).mono ?_; rintro e w7 ⟨rfl, hb⟩; replace B := Lib.hid (B.out.trans (hb.mono B.out.size)); replace L := Lib.hid (L.out.call hb); replace T3 := Lib.hid (T3.out.below hb hb.size); replace T4 := Lib.hid (T4.out.below hb hb.size); clear hb; have K63 := Lib.hid True.intro; clear K37)
              | (have h := K63; clear h; refine wpList_load_row (o := ⟨some 63, _, _, _, _, _⟩) ?_ 26 (.tmp 3) ?_ w.heap.size ?_ 26 q.cells.toArray (0, 0) _ L.out Try.underlying26 rfl size_rp ?_; rfl; rfl; rfl; have K64 := Lib.hid True.intro; clear K63)
              | (have h := K64; clear h; go_at_call 21; refine (Values_any q _ (HAT.out.below B.out B.out.size) HOK.out).mono ?_; rintro e w8 ⟨gv, row, rfl, _, hvl, hb⟩; replace B := Lib.hid (B.out.trans (hb.mono B.out.size)); replace L := Lib.hid (L.out.call hb); replace T3 := Lib.hid (T3.out.below hb hb.size); replace T4 := Lib.hid (T4.out.below hb hb.size); have VL := Lib.hid hvl; clear hvl; rw [show q.d.ds.length + 1 = q.ds.l.length + 1 from rfl]; clear hb; have K65 := Lib.hid True.intro; clear K64)
              | (have h := K65; clear h; refine wpList_load_row (o := ⟨some 65, _, _, _, _, _⟩) ?_ 26 (.tmp 3) ?_ w.heap.size ?_ 26 q.cells.toArray (0, 0) _ L.out Try.underlying26 rfl size_rp ?_; rfl; rfl; rfl; have K67 := Lib.hid True.intro; clear K65)
              | (have h := K67; clear h; go_at_call 24; refine (HCO.out gv row _ VL.out).mono ?_; rintro e w9 ⟨rfl, hb⟩; replace B := Lib.hid (B.out.trans (hb.mono B.out.size)); replace L := Lib.hid (L.out.call hb); replace T3 := Lib.hid (T3.out.below hb hb.size); replace T4 := Lib.hid (T4.out.below hb hb.size); replace VL := Lib.hid (VL.out.call hb); clear hb; have KZ := Lib.hid True.intro; clear K67))
          have c85 : w9.cell? ⟨w.heap.size, 6, none⟩ = some (.slice q.ds.A N q.ds.c) := by rw [HN.out]; exact L.out.at_ 6
          have c93 : w9.cell? ⟨w.heap.size, 0, none⟩ = some (.int .i64 q.low) := L.out.at_ 0
          have c95 : w9.cell? ⟨w.heap.size, 1, none⟩ = some (.int .i64 q.high) := L.out.at_ 1
          go_wp2_with (first | (go_at_call 25; refine (HI1.out _).mono ?_; rintro e w' ⟨rfl, rfl⟩) | (go_at_call 16; refine (wakes_any _).mono ?_; rintro e w99 ⟨rfl, hb9⟩))
          go_ret
          exact ⟨rfl, B.out.trans (hb9.mono B.out.size)⟩
        · have HI1 := Lib.hid (fun W => (show Calls Try.prog 25 #[.int .i64 day, .int .i64 0, .int .i64 ((N : Int) - 1)] W fun e w' => e = .returned (.bool true) ∧ W = w' by
            have := In_any day 0 ((N : Int) - 1) W
            rw [show inB day 0 ((N : Int) - 1) = true from hin_HI1] at this
            exact this))
          have HI2 := Lib.hid (fun W => (show Calls Try.prog 25 #[.int .i64 lv, .int .i64 q.low, .int .i64 q.high] W fun e w' => e = .returned (.bool false) ∧ W = w' by
            have := In_any lv q.low q.high W
            rw [show inB lv q.low q.high = false from hin_HI2] at this
            exact this))
          have HBE := Lib.hid (fun A c0 W (hat : (q.withA A c0).At W W.heap.size) => (show Calls Try.prog 23 #[.agg (q.withA A c0).cells.toArray, .int .i64 day, .int .i64 lv] W fun e w' => e = .returned (.tuple #[.int .i64 0, .int .i64 0, .int .i64 2]) ∧ Below W.heap.size W w' by
            have := Best_any (q.withA A c0) day lv W hat
            rw [show (q.withA A c0).d.bestR day lv = (0, 0, 2) from hbe] at this
            exact this))
          clear hin_HI1 hin_HI2 hbe HT3
          go_enter Try.func4, Try.ntmps4
          go_upto_region 1 with (fail)
          change Code.wp _ _ _ _ (w.alloc (.cells q.cells.toArray 26))
          generalize w.alloc (.cells q.cells.toArray 26) = w1 at *
          go_upto_region 15 with (first
              | (have h := K17; clear h; refine wpList_load_row (o := ⟨some 17, _, _, _, _, _⟩) ?_ 26 (.tmp 3) ?_ w.heap.size ?_ 26 q.cells.toArray (0, 0) _ L.out Try.underlying26 rfl size_rp ?_; rfl; rfl; rfl; have K18 := Lib.hid True.intro; clear K17)
              | (have h := K18; clear h; go_at_call 15; refine (HTH.out _).mono ?_; rintro e w2 ⟨rfl, hb⟩; replace B := Lib.hid (B.out.trans (hb.mono B.out.size)); replace L := Lib.hid (L.out.call hb); clear hb; have K22 := Lib.hid True.intro; clear K18)
              | (have h := K22; clear h; refine wpList_load_row (o := ⟨some 22, _, _, _, _, _⟩) ?_ 26 (.tmp 3) ?_ w.heap.size ?_ 26 q.cells.toArray (0, 0) _ L.out Try.underlying26 rfl size_rp ?_; rfl; rfl; rfl; have K23 := Lib.hid True.intro; clear K22)
              | (have h := K23; clear h; go_at_call 18; refine (Copy_any q _ (HAT.out.below B.out B.out.size) HL15.out).mono ?_; rintro e w3 ⟨A3, c3, rfl, hat, hb⟩; replace B := Lib.hid (B.out.trans (hb.mono B.out.size)); replace L := Lib.hid (L.out.call hb); have T3 := Lib.hid hat; clear hat; clear hb; have K24 := Lib.hid True.intro; clear K23)
              | (have h := K24; clear h; go_at_call 22; refine (HLE.out A3 c3 _ T3.out).mono ?_; rintro e w4 ⟨rfl, hb⟩; replace B := Lib.hid (B.out.trans (hb.mono B.out.size)); replace L := Lib.hid (L.out.call hb); replace T3 := Lib.hid (T3.out.below hb hb.size); clear hb; have K28 := Lib.hid True.intro; clear K24)
              | (have h := K28; clear h; refine wpList_load_row (o := ⟨some 28, _, _, _, _, _⟩) ?_ 26 (.tmp 3) ?_ w.heap.size ?_ 26 q.cells.toArray (0, 0) _ L.out Try.underlying26 rfl size_rp ?_; rfl; rfl; rfl; have K29 := Lib.hid True.intro; clear K28)
              | (have h := K29; clear h; go_at_call 18; refine (Copy_any q _ (HAT.out.below B.out B.out.size) HL15.out).mono ?_; rintro e w5 ⟨A4, c4, rfl, hat, hb⟩; replace B := Lib.hid (B.out.trans (hb.mono B.out.size)); replace L := Lib.hid (L.out.call hb); replace T3 := Lib.hid (T3.out.below hb hb.size); have T4 := Lib.hid hat; clear hat; clear hb; have K32 := Lib.hid True.intro; clear K29)
              | (have h := K32; clear h; go_at_call 23; refine (HBE.out A4 c4 _ T4.out).mono ?_; rintro e w6 ⟨rfl, hb⟩; replace B := Lib.hid (B.out.trans (hb.mono B.out.size)); replace L := Lib.hid (L.out.call hb); replace T3 := Lib.hid (T3.out.below hb hb.size); replace T4 := Lib.hid (T4.out.below hb hb.size); clear hb; have K36 := Lib.hid True.intro; clear K32)
              | (have h := K36; clear h; refine wpList_load_row (o := ⟨some 36, _, _, _, _, _⟩) ?_ 26 (.tmp 3) ?_ w.heap.size ?_ 26 q.cells.toArray (0, 0) _ L.out Try.underlying26 rfl size_rp ?_; rfl; rfl; rfl; have K37 := Lib.hid True.intro; clear K36)
              | (have h := K37; clear h; go_at_call 20; refine (HFA.out _ (HAT.out.below B.out B.out.size)).mono ?_; rintro e w7 ⟨rfl, hb⟩; replace B := Lib.hid (B.out.trans (hb.mono B.out.size)); replace L := Lib.hid (L.out.call hb); replace T3 := Lib.hid (T3.out.below hb hb.size); replace T4 := Lib.hid (T4.out.below hb hb.size); clear hb; have K63 := Lib.hid True.intro; clear K37)
              | (have h := K63; clear h; refine wpList_load_row (o := ⟨some 63, _, _, _, _, _⟩) ?_ 26 (.tmp 3) ?_ w.heap.size ?_ 26 q.cells.toArray (0, 0) _ L.out Try.underlying26 rfl size_rp ?_; rfl; rfl; rfl; have K64 := Lib.hid True.intro; clear K63)
              | (have h := K64; clear h; go_at_call 21; refine (Values_any q _ (HAT.out.below B.out B.out.size) HOK.out).mono ?_; rintro e w8 ⟨gv, row, rfl, _, hvl, hb⟩; replace B := Lib.hid (B.out.trans (hb.mono B.out.size)); replace L := Lib.hid (L.out.call hb); replace T3 := Lib.hid (T3.out.below hb hb.size); replace T4 := Lib.hid (T4.out.below hb hb.size); have VL := Lib.hid hvl; clear hvl; rw [show q.d.ds.length + 1 = q.ds.l.length + 1 from rfl]; clear hb; have K65 := Lib.hid True.intro; clear K64)
              | (have h := K65; clear h; refine wpList_load_row (o := ⟨some 65, _, _, _, _, _⟩) ?_ 26 (.tmp 3) ?_ w.heap.size ?_ 26 q.cells.toArray (0, 0) _ L.out Try.underlying26 rfl size_rp ?_; rfl; rfl; rfl; have K67 := Lib.hid True.intro; clear K65)
              | (have h := K67; clear h; go_at_call 24; refine (HCO.out gv row _ VL.out).mono ?_; rintro e w9 ⟨rfl, hb⟩; replace B := Lib.hid (B.out.trans (hb.mono B.out.size)); replace L := Lib.hid (L.out.call hb); replace T3 := Lib.hid (T3.out.below hb hb.size); replace T4 := Lib.hid (T4.out.below hb hb.size); replace VL := Lib.hid (VL.out.call hb); clear hb; have KZ := Lib.hid True.intro; clear K67))
          have c85 : w9.cell? ⟨w.heap.size, 6, none⟩ = some (.slice q.ds.A N q.ds.c) := by rw [HN.out]; exact L.out.at_ 6
          have c93 : w9.cell? ⟨w.heap.size, 0, none⟩ = some (.int .i64 q.low) := L.out.at_ 0
          have c95 : w9.cell? ⟨w.heap.size, 1, none⟩ = some (.int .i64 q.high) := L.out.at_ 1
          have KI1 := Lib.hid True.intro
          go_wp2_with (first | (have h := KI1; clear h; go_at_call 25; refine (HI1.out _).mono ?_; rintro e w' ⟨rfl, rfl⟩; have KI2 := Lib.hid True.intro; clear KI1) | (have h := KI2; clear h; go_at_call 25; refine (HI2.out _).mono ?_; rintro e w' ⟨rfl, rfl⟩; clear KI2) | (go_at_call 16; refine (wakes_any _).mono ?_; rintro e w99 ⟨rfl, hb9⟩))
          go_ret
          exact ⟨rfl, B.out.trans (hb9.mono B.out.size)⟩
        · have hlk := inB_iff.1 hin_HI2
          have hlk0 : q.low ≤ lv := hlk.1
          have hlk1 : lv ≤ q.high := hlk.2
          subst hdd
          have HI1 := Lib.hid (fun W => (show Calls Try.prog 25 #[.int .i64 (d : Int), .int .i64 0, .int .i64 ((N : Int) - 1)] W fun e w' => e = .returned (.bool true) ∧ W = w' by
            have := In_any (d : Int) 0 ((N : Int) - 1) W
            rw [show inB (d : Int) 0 ((N : Int) - 1) = true from hin_HI1] at this
            exact this))
          have HI2 := Lib.hid (fun W => (show Calls Try.prog 25 #[.int .i64 lv, .int .i64 q.low, .int .i64 q.high] W fun e w' => e = .returned (.bool true) ∧ W = w' by
            have := In_any lv q.low q.high W
            rw [show inB lv q.low q.high = true from hin_HI2] at this
            exact this))
          subst hc1
          have HBE := Lib.hid (fun A c0 W (hat : (q.withA A c0).At W W.heap.size) => (show Calls Try.prog 23 #[.agg (q.withA A c0).cells.toArray, .int .i64 d, .int .i64 lv] W fun e w' => e = .returned (.tuple #[.int .i64 0, .int .i64 0, .int .i64 9]) ∧ Below W.heap.size W w' by
            have := Best_any (q.withA A c0) d lv W hat
            rw [show (q.withA A c0).d.bestR d lv = (0, 0, 9) from hbe] at this
            exact this))
          have HDY := Lib.hid hdy
          have HAC := Lib.hid hac
          clear hin_HI1 hin_HI2 hbe hdy hac HT3 hlk
          go_enter Try.func4, Try.ntmps4
          go_upto_region 1 with (fail)
          change Code.wp _ _ _ _ (w.alloc (.cells q.cells.toArray 26))
          generalize w.alloc (.cells q.cells.toArray 26) = w1 at *
          go_upto_region 15 with (first
              | (have h := K17; clear h; refine wpList_load_row (o := ⟨some 17, _, _, _, _, _⟩) ?_ 26 (.tmp 3) ?_ w.heap.size ?_ 26 q.cells.toArray (0, 0) _ L.out Try.underlying26 rfl size_rp ?_; rfl; rfl; rfl; have K18 := Lib.hid True.intro; clear K17)
              | (have h := K18; clear h; go_at_call 15; refine (HTH.out _).mono ?_; rintro e w2 ⟨rfl, hb⟩; replace B := Lib.hid (B.out.trans (hb.mono B.out.size)); replace L := Lib.hid (L.out.call hb); clear hb; have K22 := Lib.hid True.intro; clear K18)
              | (have h := K22; clear h; refine wpList_load_row (o := ⟨some 22, _, _, _, _, _⟩) ?_ 26 (.tmp 3) ?_ w.heap.size ?_ 26 q.cells.toArray (0, 0) _ L.out Try.underlying26 rfl size_rp ?_; rfl; rfl; rfl; have K23 := Lib.hid True.intro; clear K22)
              | (have h := K23; clear h; go_at_call 18; refine (Copy_any q _ (HAT.out.below B.out B.out.size) HL15.out).mono ?_; rintro e w3 ⟨A3, c3, rfl, hat, hb⟩; replace B := Lib.hid (B.out.trans (hb.mono B.out.size)); replace L := Lib.hid (L.out.call hb); have T3 := Lib.hid hat; clear hat; clear hb; have K24 := Lib.hid True.intro; clear K23)
              | (have h := K24; clear h; go_at_call 22; refine (HLE.out A3 c3 _ T3.out).mono ?_; rintro e w4 ⟨rfl, hb⟩; replace B := Lib.hid (B.out.trans (hb.mono B.out.size)); replace L := Lib.hid (L.out.call hb); replace T3 := Lib.hid (T3.out.below hb hb.size); clear hb; have K28 := Lib.hid True.intro; clear K24)
              | (have h := K28; clear h; refine wpList_load_row (o := ⟨some 28, _, _, _, _, _⟩) ?_ 26 (.tmp 3) ?_ w.heap.size ?_ 26 q.cells.toArray (0, 0) _ L.out Try.underlying26 rfl size_rp ?_; rfl; rfl; rfl; have K29 := Lib.hid True.intro; clear K28)
              | (have h := K29; clear h; go_at_call 18; refine (Copy_any q _ (HAT.out.below B.out B.out.size) HL15.out).mono ?_; rintro e w5 ⟨A4, c4, rfl, hat, hb⟩; replace B := Lib.hid (B.out.trans (hb.mono B.out.size)); replace L := Lib.hid (L.out.call hb); replace T3 := Lib.hid (T3.out.below hb hb.size); have T4 := Lib.hid hat; clear hat; clear hb; have K32 := Lib.hid True.intro; clear K29)
              | (have h := K32; clear h; go_at_call 23; refine (HBE.out A4 c4 _ T4.out).mono ?_; rintro e w6 ⟨rfl, hb⟩; replace B := Lib.hid (B.out.trans (hb.mono B.out.size)); replace L := Lib.hid (L.out.call hb); replace T3 := Lib.hid (T3.out.below hb hb.size); replace T4 := Lib.hid (T4.out.below hb hb.size); clear hb; have K36 := Lib.hid True.intro; clear K32)
              | (have h := K36; clear h; refine wpList_load_row (o := ⟨some 36, _, _, _, _, _⟩) ?_ 26 (.tmp 3) ?_ w.heap.size ?_ 26 q.cells.toArray (0, 0) _ L.out Try.underlying26 rfl size_rp ?_; rfl; rfl; rfl; have K37 := Lib.hid True.intro; clear K36)
              | (have h := K37; clear h; go_at_call 20; refine (HFA.out _ (HAT.out.below B.out B.out.size)).mono ?_; rintro e w7 ⟨rfl, hb⟩; replace B := Lib.hid (B.out.trans (hb.mono B.out.size)); replace L := Lib.hid (L.out.call hb); replace T3 := Lib.hid (T3.out.below hb hb.size); replace T4 := Lib.hid (T4.out.below hb hb.size); clear hb; have K63 := Lib.hid True.intro; clear K37)
              | (have h := K63; clear h; refine wpList_load_row (o := ⟨some 63, _, _, _, _, _⟩) ?_ 26 (.tmp 3) ?_ w.heap.size ?_ 26 q.cells.toArray (0, 0) _ L.out Try.underlying26 rfl size_rp ?_; rfl; rfl; rfl; have K64 := Lib.hid True.intro; clear K63)
              | (have h := K64; clear h; go_at_call 21; refine (Values_any q _ (HAT.out.below B.out B.out.size) HOK.out).mono ?_; rintro e w8 ⟨gv, row, rfl, _, hvl, hb⟩; replace B := Lib.hid (B.out.trans (hb.mono B.out.size)); replace L := Lib.hid (L.out.call hb); replace T3 := Lib.hid (T3.out.below hb hb.size); replace T4 := Lib.hid (T4.out.below hb hb.size); have VL := Lib.hid hvl; clear hvl; rw [show q.d.ds.length + 1 = q.ds.l.length + 1 from rfl]; clear hb; have K65 := Lib.hid True.intro; clear K64)
              | (have h := K65; clear h; refine wpList_load_row (o := ⟨some 65, _, _, _, _, _⟩) ?_ 26 (.tmp 3) ?_ w.heap.size ?_ 26 q.cells.toArray (0, 0) _ L.out Try.underlying26 rfl size_rp ?_; rfl; rfl; rfl; have K67 := Lib.hid True.intro; clear K65)
              | (have h := K67; clear h; go_at_call 24; refine (HCO.out gv row _ VL.out).mono ?_; rintro e w9 ⟨rfl, hb⟩; replace B := Lib.hid (B.out.trans (hb.mono B.out.size)); replace L := Lib.hid (L.out.call hb); replace T3 := Lib.hid (T3.out.below hb hb.size); replace T4 := Lib.hid (T4.out.below hb hb.size); replace VL := Lib.hid (VL.out.call hb); clear hb; have KZ := Lib.hid True.intro; clear K67))
          have c85 : w9.cell? ⟨w.heap.size, 6, none⟩ = some (.slice q.ds.A N q.ds.c) := by rw [HN.out]; exact L.out.at_ 6
          have c93 : w9.cell? ⟨w.heap.size, 0, none⟩ = some (.int .i64 q.low) := L.out.at_ 0
          have c95 : w9.cell? ⟨w.heap.size, 1, none⟩ = some (.int .i64 q.high) := L.out.at_ 1
          have KI1 := Lib.hid True.intro
          go_upto_region 17 with (first | (have h := KI1; clear h; go_at_call 25; refine (HI1.out _).mono ?_; rintro e w' ⟨rfl, rfl⟩; have KI2 := Lib.hid True.intro; clear KI1) | (have h := KI2; clear h; go_at_call 25; refine (HI2.out _).mono ?_; rintro e w' ⟨rfl, rfl⟩; clear KI2))
          clear c85 c93 c95
          have hdk : d + 1 ≤ q.d.ds.length := (List.getElem?_eq_some_iff.1 HDY.out).1
          have hgv : gv < w9.heap.size := by obtain ⟨cs, h1, _⟩ := VL.out.c; exact h1.in_
          have r118 := cell_regrown (VL.out.cell hdk)
          have HAM := Lib.hid (fun W (hb : Below w9.heap.size w9 W) => (show Calls Try.prog 26 #[.agg q.cells.toArray, .slice (row (d + 1)).A (row (d + 1)).l.length (row (d + 1)).c, .int .i64 d, .int .i64 lv] W fun e w' => e = .returned (.tuple #[.int .i64 a, .int .i64 (-1)]) ∧ Below W.heap.size W w' by
            have := Amount_row q gv row W ((HAT.out.below B.out B.out.size).below hb hb.size) HOK.out (VL.out.call hb) d dy lv HDY.out (by omega) (by omega)
            rw [HAC.out] at this
            exact this))
          have HRQ := Lib.hid (fun W (h : ∃ p : Regrown, W = Go.Sort.grow (redrawn w9 p.d) p.os) => (show W.rangeAt w.heap.size 0 q.cells by
            obtain ⟨p, rfl⟩ := h
            exact Lies.range (cs := q.cells) (L.out.call (below_regrown _ _ _)) (fun j v hj => by simpa using hj)))
          have hd1 : (d : Int) + 1 < (q.ds.l.length : Int) + 1 := by have h2 : d + 1 ≤ q.ds.l.length := hdk; omega
          have hdz : (d : Int) ≤ 20 := by have h2 : d + 1 ≤ q.ds.l.length := hdk; have := HL15.out; omega
          have hd0 : (0 : Int) ≤ (d : Int) + 1 := by omega
          have hqz : (q.ds.l.length : Int) ≤ 15 := by have := HL15.out; omega
          clear hdk hgv
          refine wp_region_quiet_below (by kernel_rfl) (by kernel_rfl) ?_
          repeat (first
            | (refine wpQuiet_load_wholeG (o := ⟨some 113, _, _, _, _, _⟩) ?_ 26 (.tmp 3) ?_ w.heap.size 0 ?_ q.cells _ HRQ.out Try.underlying26 rfl size_rp ?_; rfl; rfl; rfl; simp only [Act.put, List.setIfInBounds_toArray, List.set_cons_zero, List.set_cons_succ])
            | go_big_quiet_step (first | (go_at_call 26; exact Calls.regrown_of (HAM.out _ (below_regrown _ _ _)))) | quiet_step (first | (go_at_call 26; exact Calls.regrown_of (HAM.out _ (below_regrown _ _ _)))))
          refine wpQuiet_nil ?_
          intro wz hwz
          have hbz : Below _ _ wz := (by obtain ⟨p, rfl⟩ := hwz; exact below_regrown _ _ _)
          clear hwz r118 HRQ
          have BZ := Lib.hid (B.out.trans (hbz.mono B.out.size))
          clear hbz
          go_wp2_with (go_at_call 16; refine (wakes_any _).mono ?_; rintro e w99 ⟨rfl, hb9⟩)
          go_ret
          exact ⟨rfl, BZ.out.trans (hb9.mono BZ.out.size)⟩
        · have hlk := inB_iff.1 hin_HI2
          have hlk0 : q.low ≤ lv := hlk.1
          have hlk1 : lv ≤ q.high := hlk.2
          subst hdd
          have HI1 := Lib.hid (fun W => (show Calls Try.prog 25 #[.int .i64 (d : Int), .int .i64 0, .int .i64 ((N : Int) - 1)] W fun e w' => e = .returned (.bool true) ∧ W = w' by
            have := In_any (d : Int) 0 ((N : Int) - 1) W
            rw [show inB (d : Int) 0 ((N : Int) - 1) = true from hin_HI1] at this
            exact this))
          have HI2 := Lib.hid (fun W => (show Calls Try.prog 25 #[.int .i64 lv, .int .i64 q.low, .int .i64 q.high] W fun e w' => e = .returned (.bool true) ∧ W = w' by
            have := In_any lv q.low q.high W
            rw [show inB lv q.low q.high = true from hin_HI2] at this
            exact this))
          have hcn : ¬ c < 0 := by omega
          have HBE := Lib.hid (fun A c0 W (hat : (q.withA A c0).At W W.heap.size) => (show Calls Try.prog 23 #[.agg (q.withA A c0).cells.toArray, .int .i64 d, .int .i64 lv] W fun e w' => e = .returned (.tuple #[.int .i64 a, .int .i64 c, .int .i64 0]) ∧ Below W.heap.size W w' by
            have := Best_any (q.withA A c0) d lv W hat
            rw [show (q.withA A c0).d.bestR d lv = (a, c, 0) from hbe] at this
            exact this))
          have HDY := Lib.hid hdy
          have HAC := Lib.hid hac
          clear hin_HI1 hin_HI2 hbe hdy hac HT3 hlk
          go_enter Try.func4, Try.ntmps4
          go_upto_region 1 with (fail)
          change Code.wp _ _ _ _ (w.alloc (.cells q.cells.toArray 26))
          generalize w.alloc (.cells q.cells.toArray 26) = w1 at *
          go_upto_region 15 with (first
              | (have h := K17; clear h; refine wpList_load_row (o := ⟨some 17, _, _, _, _, _⟩) ?_ 26 (.tmp 3) ?_ w.heap.size ?_ 26 q.cells.toArray (0, 0) _ L.out Try.underlying26 rfl size_rp ?_; rfl; rfl; rfl; have K18 := Lib.hid True.intro; clear K17)
              | (have h := K18; clear h; go_at_call 15; refine (HTH.out _).mono ?_; rintro e w2 ⟨rfl, hb⟩; replace B := Lib.hid (B.out.trans (hb.mono B.out.size)); replace L := Lib.hid (L.out.call hb); clear hb; have K22 := Lib.hid True.intro; clear K18)
              | (have h := K22; clear h; refine wpList_load_row (o := ⟨some 22, _, _, _, _, _⟩) ?_ 26 (.tmp 3) ?_ w.heap.size ?_ 26 q.cells.toArray (0, 0) _ L.out Try.underlying26 rfl size_rp ?_; rfl; rfl; rfl; have K23 := Lib.hid True.intro; clear K22)
              | (have h := K23; clear h; go_at_call 18; refine (Copy_any q _ (HAT.out.below B.out B.out.size) HL15.out).mono ?_; rintro e w3 ⟨A3, c3, rfl, hat, hb⟩; replace B := Lib.hid (B.out.trans (hb.mono B.out.size)); replace L := Lib.hid (L.out.call hb); have T3 := Lib.hid hat; clear hat; clear hb; have K24 := Lib.hid True.intro; clear K23)
              | (have h := K24; clear h; go_at_call 22; refine (HLE.out A3 c3 _ T3.out).mono ?_; rintro e w4 ⟨rfl, hb⟩; replace B := Lib.hid (B.out.trans (hb.mono B.out.size)); replace L := Lib.hid (L.out.call hb); replace T3 := Lib.hid (T3.out.below hb hb.size); clear hb; have K28 := Lib.hid True.intro; clear K24)
              | (have h := K28; clear h; refine wpList_load_row (o := ⟨some 28, _, _, _, _, _⟩) ?_ 26 (.tmp 3) ?_ w.heap.size ?_ 26 q.cells.toArray (0, 0) _ L.out Try.underlying26 rfl size_rp ?_; rfl; rfl; rfl; have K29 := Lib.hid True.intro; clear K28)
              | (have h := K29; clear h; go_at_call 18; refine (Copy_any q _ (HAT.out.below B.out B.out.size) HL15.out).mono ?_; rintro e w5 ⟨A4, c4, rfl, hat, hb⟩; replace B := Lib.hid (B.out.trans (hb.mono B.out.size)); replace L := Lib.hid (L.out.call hb); replace T3 := Lib.hid (T3.out.below hb hb.size); have T4 := Lib.hid hat; clear hat; clear hb; have K32 := Lib.hid True.intro; clear K29)
              | (have h := K32; clear h; go_at_call 23; refine (HBE.out A4 c4 _ T4.out).mono ?_; rintro e w6 ⟨rfl, hb⟩; replace B := Lib.hid (B.out.trans (hb.mono B.out.size)); replace L := Lib.hid (L.out.call hb); replace T3 := Lib.hid (T3.out.below hb hb.size); replace T4 := Lib.hid (T4.out.below hb hb.size); clear hb; have K36 := Lib.hid True.intro; clear K32)
              | (have h := K36; clear h; refine wpList_load_row (o := ⟨some 36, _, _, _, _, _⟩) ?_ 26 (.tmp 3) ?_ w.heap.size ?_ 26 q.cells.toArray (0, 0) _ L.out Try.underlying26 rfl size_rp ?_; rfl; rfl; rfl; have K37 := Lib.hid True.intro; clear K36)
              | (have h := K37; clear h; go_at_call 20; refine (HFA.out _ (HAT.out.below B.out B.out.size)).mono ?_; rintro e w7 ⟨rfl, hb⟩; replace B := Lib.hid (B.out.trans (hb.mono B.out.size)); replace L := Lib.hid (L.out.call hb); replace T3 := Lib.hid (T3.out.below hb hb.size); replace T4 := Lib.hid (T4.out.below hb hb.size); clear hb; have K63 := Lib.hid True.intro; clear K37)
              | (have h := K63; clear h; refine wpList_load_row (o := ⟨some 63, _, _, _, _, _⟩) ?_ 26 (.tmp 3) ?_ w.heap.size ?_ 26 q.cells.toArray (0, 0) _ L.out Try.underlying26 rfl size_rp ?_; rfl; rfl; rfl; have K64 := Lib.hid True.intro; clear K63)
              | (have h := K64; clear h; go_at_call 21; refine (Values_any q _ (HAT.out.below B.out B.out.size) HOK.out).mono ?_; rintro e w8 ⟨gv, row, rfl, _, hvl, hb⟩; replace B := Lib.hid (B.out.trans (hb.mono B.out.size)); replace L := Lib.hid (L.out.call hb); replace T3 := Lib.hid (T3.out.below hb hb.size); replace T4 := Lib.hid (T4.out.below hb hb.size); have VL := Lib.hid hvl; clear hvl; rw [show q.d.ds.length + 1 = q.ds.l.length + 1 from rfl]; clear hb; have K65 := Lib.hid True.intro; clear K64)
              | (have h := K65; clear h; refine wpList_load_row (o := ⟨some 65, _, _, _, _, _⟩) ?_ 26 (.tmp 3) ?_ w.heap.size ?_ 26 q.cells.toArray (0, 0) _ L.out Try.underlying26 rfl size_rp ?_; rfl; rfl; rfl; have K67 := Lib.hid True.intro; clear K65)
              | (have h := K67; clear h; go_at_call 24; refine (HCO.out gv row _ VL.out).mono ?_; rintro e w9 ⟨rfl, hb⟩; replace B := Lib.hid (B.out.trans (hb.mono B.out.size)); replace L := Lib.hid (L.out.call hb); replace T3 := Lib.hid (T3.out.below hb hb.size); replace T4 := Lib.hid (T4.out.below hb hb.size); replace VL := Lib.hid (VL.out.call hb); clear hb; have KZ := Lib.hid True.intro; clear K67))
          have c85 : w9.cell? ⟨w.heap.size, 6, none⟩ = some (.slice q.ds.A N q.ds.c) := by rw [HN.out]; exact L.out.at_ 6
          have c93 : w9.cell? ⟨w.heap.size, 0, none⟩ = some (.int .i64 q.low) := L.out.at_ 0
          have c95 : w9.cell? ⟨w.heap.size, 1, none⟩ = some (.int .i64 q.high) := L.out.at_ 1
          have KI1 := Lib.hid True.intro
          go_upto_region 17 with (first | (have h := KI1; clear h; go_at_call 25; refine (HI1.out _).mono ?_; rintro e w' ⟨rfl, rfl⟩; have KI2 := Lib.hid True.intro; clear KI1) | (have h := KI2; clear h; go_at_call 25; refine (HI2.out _).mono ?_; rintro e w' ⟨rfl, rfl⟩; clear KI2))
          clear c85 c93 c95
          have hdk : d + 1 ≤ q.d.ds.length := (List.getElem?_eq_some_iff.1 HDY.out).1
          have hgv : gv < w9.heap.size := by obtain ⟨cs, h1, _⟩ := VL.out.c; exact h1.in_
          have r118 := cell_regrown (VL.out.cell hdk)
          have HAM := Lib.hid (fun W (hb : Below w9.heap.size w9 W) => (show Calls Try.prog 26 #[.agg q.cells.toArray, .slice (row (d + 1)).A (row (d + 1)).l.length (row (d + 1)).c, .int .i64 d, .int .i64 lv] W fun e w' => e = .returned (.tuple #[.int .i64 a, .int .i64 c]) ∧ Below W.heap.size W w' by
            have := Amount_row q gv row W ((HAT.out.below B.out B.out.size).below hb hb.size) HOK.out (VL.out.call hb) d dy lv HDY.out (by omega) (by omega)
            rw [HAC.out] at this
            exact this))
          have HRQ := Lib.hid (fun W (h : ∃ p : Regrown, W = Go.Sort.grow (redrawn w9 p.d) p.os) => (show W.rangeAt w.heap.size 0 q.cells by
            obtain ⟨p, rfl⟩ := h
            exact Lies.range (cs := q.cells) (L.out.call (below_regrown _ _ _)) (fun j v hj => by simpa using hj)))
          have hd1 : (d : Int) + 1 < (q.ds.l.length : Int) + 1 := by have h2 : d + 1 ≤ q.ds.l.length := hdk; omega
          have hdz : (d : Int) ≤ 20 := by have h2 : d + 1 ≤ q.ds.l.length := hdk; have := HL15.out; omega
          have hd0 : (0 : Int) ≤ (d : Int) + 1 := by omega
          have hqz : (q.ds.l.length : Int) ≤ 15 := by have := HL15.out; omega
          clear hdk hgv
          refine wp_region_quiet_below (by kernel_rfl) (by kernel_rfl) ?_
          repeat (first
            | (refine wpQuiet_load_wholeG (o := ⟨some 113, _, _, _, _, _⟩) ?_ 26 (.tmp 3) ?_ w.heap.size 0 ?_ q.cells _ HRQ.out Try.underlying26 rfl size_rp ?_; rfl; rfl; rfl; simp only [Act.put, List.setIfInBounds_toArray, List.set_cons_zero, List.set_cons_succ])
            | go_big_quiet_step (first | (go_at_call 26; exact Calls.regrown_of (HAM.out _ (below_regrown _ _ _)))) | quiet_step (first | (go_at_call 26; exact Calls.regrown_of (HAM.out _ (below_regrown _ _ _)))))
          refine wpQuiet_nil ?_
          intro wz hwz
          have hbz : Below _ _ wz := (by obtain ⟨p, rfl⟩ := hwz; exact below_regrown _ _ _)
          clear hwz r118 HRQ
          have BZ := Lib.hid (B.out.trans (hbz.mono B.out.size))
          clear hbz
          go_wp2_with (go_at_call 16; refine (wakes_any _).mono ?_; rintro e w99 ⟨rfl, hb9⟩)
          go_ret
          exact ⟨rfl, BZ.out.trans (hb9.mono BZ.out.size)⟩
      · obtain ⟨x, hx⟩ : ∃ x, x = q.d.costD := ⟨_, rfl⟩
        have hcd := hx.symm
        have hle : q.d.leastR = (x, 0) := by unfold PoD.leastR; rw [hff, if_neg (by simp), if_neg hcn, hx]
        have hx0 : 0 ≤ x := by
          have h1 : -1 ≤ q.d.costD := greTo_ge (f := q.d.costAt (q.d.vals q.d.ds)) (fun k => HOK.out.cst _) _
          omega
        have hxn : ¬ x < 0 := by omega
        have HLE := Lib.hid (fun A c W (hat : (q.withA A c).At W W.heap.size) => (show Calls Try.prog 22 #[.agg (q.withA A c).cells.toArray] W fun e w' => e = .returned (.tuple #[.int .i64 x, .int .i64 0]) ∧ Below W.heap.size W w' by
          have := Least_any (q.withA A c) W hat
          rw [show (q.withA A c).d.leastR = (x, 0) from hle] at this
          exact this))
        have HCO := Lib.hid (fun g row W (hv : VlM q.d g row W) => (show Calls Try.prog 24 #[.agg q.cells.toArray, .slice (some ⟨g, 0, none⟩) (q.ds.l.length + 1) (q.ds.l.length + 1)] W fun e w' => e = .returned (.int .i64 x) ∧ Below W.heap.size W w' by
          have := refCost_any q g row W HOK.out hv
          rw [hcd] at this
          exact this))
        clear hcd hle hcn hff hx
        rcases HT3.out with ⟨hin_HI1, hbe⟩ | ⟨hin_HI1, hin_HI2, hbe⟩ | ⟨hin_HI1, hin_HI2, d, dy, a, c, hdd, hdy, hac, (⟨hc1, hbe⟩ | ⟨hc1, hbe⟩)⟩
        · have HI1 := Lib.hid (fun W => (show Calls Try.prog 25 #[.int .i64 day, .int .i64 0, .int .i64 ((N : Int) - 1)] W fun e w' => e = .returned (.bool false) ∧ W = w' by
            have := In_any day 0 ((N : Int) - 1) W
            rw [show inB day 0 ((N : Int) - 1) = false from hin_HI1] at this
            exact this))
          have HBE := Lib.hid (fun A c0 W (hat : (q.withA A c0).At W W.heap.size) => (show Calls Try.prog 23 #[.agg (q.withA A c0).cells.toArray, .int .i64 day, .int .i64 lv] W fun e w' => e = .returned (.tuple #[.int .i64 0, .int .i64 0, .int .i64 2]) ∧ Below W.heap.size W w' by
            have := Best_any (q.withA A c0) day lv W hat
            rw [show (q.withA A c0).d.bestR day lv = (0, 0, 2) from hbe] at this
            exact this))
          clear hin_HI1 hbe HT3
          go_enter Try.func4, Try.ntmps4
          go_upto_region 1 with (fail)
          change Code.wp _ _ _ _ (w.alloc (.cells q.cells.toArray 26))
          generalize w.alloc (.cells q.cells.toArray 26) = w1 at *
          go_upto_region 15 with (first
              | (have h := K17; clear h; refine wpList_load_row (o := ⟨some 17, _, _, _, _, _⟩) ?_ 26 (.tmp 3) ?_ w.heap.size ?_ 26 q.cells.toArray (0, 0) _ L.out Try.underlying26 rfl size_rp ?_; rfl; rfl; rfl; have K18 := Lib.hid True.intro; clear K17)
              | (have h := K18; clear h; go_at_call 15; refine (HTH.out _).mono ?_; rintro e w2 ⟨rfl, hb⟩; replace B := Lib.hid (B.out.trans (hb.mono B.out.size)); replace L := Lib.hid (L.out.call hb); clear hb; have K22 := Lib.hid True.intro; clear K18)
              | (have h := K22; clear h; refine wpList_load_row (o := ⟨some 22, _, _, _, _, _⟩) ?_ 26 (.tmp 3) ?_ w.heap.size ?_ 26 q.cells.toArray (0, 0) _ L.out Try.underlying26 rfl size_rp ?_; rfl; rfl; rfl; have K23 := Lib.hid True.intro; clear K22)
              | (have h := K23; clear h; go_at_call 18; refine (Copy_any q _ (HAT.out.below B.out B.out.size) HL15.out).mono ?_; rintro e w3 ⟨A3, c3, rfl, hat, hb⟩; replace B := Lib.hid (B.out.trans (hb.mono B.out.size)); replace L := Lib.hid (L.out.call hb); have T3 := Lib.hid hat; clear hat; clear hb; have K24 := Lib.hid True.intro; clear K23)
              | (have h := K24; clear h; go_at_call 22; refine (HLE.out A3 c3 _ T3.out).mono ?_; rintro e w4 ⟨rfl, hb⟩; replace B := Lib.hid (B.out.trans (hb.mono B.out.size)); replace L := Lib.hid (L.out.call hb); replace T3 := Lib.hid (T3.out.below hb hb.size); clear hb; have K28 := Lib.hid True.intro; clear K24)
              | (have h := K28; clear h; refine wpList_load_row (o := ⟨some 28, _, _, _, _, _⟩) ?_ 26 (.tmp 3) ?_ w.heap.size ?_ 26 q.cells.toArray (0, 0) _ L.out Try.underlying26 rfl size_rp ?_; rfl; rfl; rfl; have K29 := Lib.hid True.intro; clear K28)
              | (have h := K29; clear h; go_at_call 18; refine (Copy_any q _ (HAT.out.below B.out B.out.size) HL15.out).mono ?_; rintro e w5 ⟨A4, c4, rfl, hat, hb⟩; replace B := Lib.hid (B.out.trans (hb.mono B.out.size)); replace L := Lib.hid (L.out.call hb); replace T3 := Lib.hid (T3.out.below hb hb.size); have T4 := Lib.hid hat; clear hat; clear hb; have K32 := Lib.hid True.intro; clear K29)
              | (have h := K32; clear h; go_at_call 23; refine (HBE.out A4 c4 _ T4.out).mono ?_; rintro e w6 ⟨rfl, hb⟩; replace B := Lib.hid (B.out.trans (hb.mono B.out.size)); replace L := Lib.hid (L.out.call hb); replace T3 := Lib.hid (T3.out.below hb hb.size); replace T4 := Lib.hid (T4.out.below hb hb.size); clear hb; have K36 := Lib.hid True.intro; clear K32)
              | (have h := K36; clear h; refine wpList_load_row (o := ⟨some 36, _, _, _, _, _⟩) ?_ 26 (.tmp 3) ?_ w.heap.size ?_ 26 q.cells.toArray (0, 0) _ L.out Try.underlying26 rfl size_rp ?_; rfl; rfl; rfl; have K37 := Lib.hid True.intro; clear K36)
              | (have h := K37; clear h; go_at_call 20; refine (HFA.out _ (HAT.out.below B.out B.out.size)).mono ?_; rintro e w7 ⟨rfl, hb⟩; replace B := Lib.hid (B.out.trans (hb.mono B.out.size)); replace L := Lib.hid (L.out.call hb); replace T3 := Lib.hid (T3.out.below hb hb.size); replace T4 := Lib.hid (T4.out.below hb hb.size); clear hb; have K63 := Lib.hid True.intro; clear K37)
              | (have h := K63; clear h; refine wpList_load_row (o := ⟨some 63, _, _, _, _, _⟩) ?_ 26 (.tmp 3) ?_ w.heap.size ?_ 26 q.cells.toArray (0, 0) _ L.out Try.underlying26 rfl size_rp ?_; rfl; rfl; rfl; have K64 := Lib.hid True.intro; clear K63)
              | (have h := K64; clear h; go_at_call 21; refine (Values_any q _ (HAT.out.below B.out B.out.size) HOK.out).mono ?_; rintro e w8 ⟨gv, row, rfl, _, hvl, hb⟩; replace B := Lib.hid (B.out.trans (hb.mono B.out.size)); replace L := Lib.hid (L.out.call hb); replace T3 := Lib.hid (T3.out.below hb hb.size); replace T4 := Lib.hid (T4.out.below hb hb.size); have VL := Lib.hid hvl; clear hvl; rw [show q.d.ds.length + 1 = q.ds.l.length + 1 from rfl]; clear hb; have K65 := Lib.hid True.intro; clear K64)
              | (have h := K65; clear h; refine wpList_load_row (o := ⟨some 65, _, _, _, _, _⟩) ?_ 26 (.tmp 3) ?_ w.heap.size ?_ 26 q.cells.toArray (0, 0) _ L.out Try.underlying26 rfl size_rp ?_; rfl; rfl; rfl; have K67 := Lib.hid True.intro; clear K65)
              | (have h := K67; clear h; go_at_call 24; refine (HCO.out gv row _ VL.out).mono ?_; rintro e w9 ⟨rfl, hb⟩; replace B := Lib.hid (B.out.trans (hb.mono B.out.size)); replace L := Lib.hid (L.out.call hb); replace T3 := Lib.hid (T3.out.below hb hb.size); replace T4 := Lib.hid (T4.out.below hb hb.size); replace VL := Lib.hid (VL.out.call hb); clear hb; have KZ := Lib.hid True.intro; clear K67))
          have c85 : w9.cell? ⟨w.heap.size, 6, none⟩ = some (.slice q.ds.A N q.ds.c) := by rw [HN.out]; exact L.out.at_ 6
          have c93 : w9.cell? ⟨w.heap.size, 0, none⟩ = some (.int .i64 q.low) := L.out.at_ 0
          have c95 : w9.cell? ⟨w.heap.size, 1, none⟩ = some (.int .i64 q.high) := L.out.at_ 1
          go_wp2_with (first | (go_at_call 25; refine (HI1.out _).mono ?_; rintro e w' ⟨rfl, rfl⟩) | (go_at_call 16; refine (wakes_any _).mono ?_; rintro e w99 ⟨rfl, hb9⟩))
          go_ret
          exact ⟨rfl, B.out.trans (hb9.mono B.out.size)⟩
        · have HI1 := Lib.hid (fun W => (show Calls Try.prog 25 #[.int .i64 day, .int .i64 0, .int .i64 ((N : Int) - 1)] W fun e w' => e = .returned (.bool true) ∧ W = w' by
            have := In_any day 0 ((N : Int) - 1) W
            rw [show inB day 0 ((N : Int) - 1) = true from hin_HI1] at this
            exact this))
          have HI2 := Lib.hid (fun W => (show Calls Try.prog 25 #[.int .i64 lv, .int .i64 q.low, .int .i64 q.high] W fun e w' => e = .returned (.bool false) ∧ W = w' by
            have := In_any lv q.low q.high W
            rw [show inB lv q.low q.high = false from hin_HI2] at this
            exact this))
          have HBE := Lib.hid (fun A c0 W (hat : (q.withA A c0).At W W.heap.size) => (show Calls Try.prog 23 #[.agg (q.withA A c0).cells.toArray, .int .i64 day, .int .i64 lv] W fun e w' => e = .returned (.tuple #[.int .i64 0, .int .i64 0, .int .i64 2]) ∧ Below W.heap.size W w' by
            have := Best_any (q.withA A c0) day lv W hat
            rw [show (q.withA A c0).d.bestR day lv = (0, 0, 2) from hbe] at this
            exact this))
          clear hin_HI1 hin_HI2 hbe HT3
          go_enter Try.func4, Try.ntmps4
          go_upto_region 1 with (fail)
          change Code.wp _ _ _ _ (w.alloc (.cells q.cells.toArray 26))
          generalize w.alloc (.cells q.cells.toArray 26) = w1 at *
          go_upto_region 15 with (first
              | (have h := K17; clear h; refine wpList_load_row (o := ⟨some 17, _, _, _, _, _⟩) ?_ 26 (.tmp 3) ?_ w.heap.size ?_ 26 q.cells.toArray (0, 0) _ L.out Try.underlying26 rfl size_rp ?_; rfl; rfl; rfl; have K18 := Lib.hid True.intro; clear K17)
              | (have h := K18; clear h; go_at_call 15; refine (HTH.out _).mono ?_; rintro e w2 ⟨rfl, hb⟩; replace B := Lib.hid (B.out.trans (hb.mono B.out.size)); replace L := Lib.hid (L.out.call hb); clear hb; have K22 := Lib.hid True.intro; clear K18)
              | (have h := K22; clear h; refine wpList_load_row (o := ⟨some 22, _, _, _, _, _⟩) ?_ 26 (.tmp 3) ?_ w.heap.size ?_ 26 q.cells.toArray (0, 0) _ L.out Try.underlying26 rfl size_rp ?_; rfl; rfl; rfl; have K23 := Lib.hid True.intro; clear K22)
              | (have h := K23; clear h; go_at_call 18; refine (Copy_any q _ (HAT.out.below B.out B.out.size) HL15.out).mono ?_; rintro e w3 ⟨A3, c3, rfl, hat, hb⟩; replace B := Lib.hid (B.out.trans (hb.mono B.out.size)); replace L := Lib.hid (L.out.call hb); have T3 := Lib.hid hat; clear hat; clear hb; have K24 := Lib.hid True.intro; clear K23)
              | (have h := K24; clear h; go_at_call 22; refine (HLE.out A3 c3 _ T3.out).mono ?_; rintro e w4 ⟨rfl, hb⟩; replace B := Lib.hid (B.out.trans (hb.mono B.out.size)); replace L := Lib.hid (L.out.call hb); replace T3 := Lib.hid (T3.out.below hb hb.size); clear hb; have K28 := Lib.hid True.intro; clear K24)
              | (have h := K28; clear h; refine wpList_load_row (o := ⟨some 28, _, _, _, _, _⟩) ?_ 26 (.tmp 3) ?_ w.heap.size ?_ 26 q.cells.toArray (0, 0) _ L.out Try.underlying26 rfl size_rp ?_; rfl; rfl; rfl; have K29 := Lib.hid True.intro; clear K28)
              | (have h := K29; clear h; go_at_call 18; refine (Copy_any q _ (HAT.out.below B.out B.out.size) HL15.out).mono ?_; rintro e w5 ⟨A4, c4, rfl, hat, hb⟩; replace B := Lib.hid (B.out.trans (hb.mono B.out.size)); replace L := Lib.hid (L.out.call hb); replace T3 := Lib.hid (T3.out.below hb hb.size); have T4 := Lib.hid hat; clear hat; clear hb; have K32 := Lib.hid True.intro; clear K29)
              | (have h := K32; clear h; go_at_call 23; refine (HBE.out A4 c4 _ T4.out).mono ?_; rintro e w6 ⟨rfl, hb⟩; replace B := Lib.hid (B.out.trans (hb.mono B.out.size)); replace L := Lib.hid (L.out.call hb); replace T3 := Lib.hid (T3.out.below hb hb.size); replace T4 := Lib.hid (T4.out.below hb hb.size); clear hb; have K36 := Lib.hid True.intro; clear K32)
              | (have h := K36; clear h; refine wpList_load_row (o := ⟨some 36, _, _, _, _, _⟩) ?_ 26 (.tmp 3) ?_ w.heap.size ?_ 26 q.cells.toArray (0, 0) _ L.out Try.underlying26 rfl size_rp ?_; rfl; rfl; rfl; have K37 := Lib.hid True.intro; clear K36)
              | (have h := K37; clear h; go_at_call 20; refine (HFA.out _ (HAT.out.below B.out B.out.size)).mono ?_; rintro e w7 ⟨rfl, hb⟩; replace B := Lib.hid (B.out.trans (hb.mono B.out.size)); replace L := Lib.hid (L.out.call hb); replace T3 := Lib.hid (T3.out.below hb hb.size); replace T4 := Lib.hid (T4.out.below hb hb.size); clear hb; have K63 := Lib.hid True.intro; clear K37)
              | (have h := K63; clear h; refine wpList_load_row (o := ⟨some 63, _, _, _, _, _⟩) ?_ 26 (.tmp 3) ?_ w.heap.size ?_ 26 q.cells.toArray (0, 0) _ L.out Try.underlying26 rfl size_rp ?_; rfl; rfl; rfl; have K64 := Lib.hid True.intro; clear K63)
              | (have h := K64; clear h; go_at_call 21; refine (Values_any q _ (HAT.out.below B.out B.out.size) HOK.out).mono ?_; rintro e w8 ⟨gv, row, rfl, _, hvl, hb⟩; replace B := Lib.hid (B.out.trans (hb.mono B.out.size)); replace L := Lib.hid (L.out.call hb); replace T3 := Lib.hid (T3.out.below hb hb.size); replace T4 := Lib.hid (T4.out.below hb hb.size); have VL := Lib.hid hvl; clear hvl; rw [show q.d.ds.length + 1 = q.ds.l.length + 1 from rfl]; clear hb; have K65 := Lib.hid True.intro; clear K64)
              | (have h := K65; clear h; refine wpList_load_row (o := ⟨some 65, _, _, _, _, _⟩) ?_ 26 (.tmp 3) ?_ w.heap.size ?_ 26 q.cells.toArray (0, 0) _ L.out Try.underlying26 rfl size_rp ?_; rfl; rfl; rfl; have K67 := Lib.hid True.intro; clear K65)
              | (have h := K67; clear h; go_at_call 24; refine (HCO.out gv row _ VL.out).mono ?_; rintro e w9 ⟨rfl, hb⟩; replace B := Lib.hid (B.out.trans (hb.mono B.out.size)); replace L := Lib.hid (L.out.call hb); replace T3 := Lib.hid (T3.out.below hb hb.size); replace T4 := Lib.hid (T4.out.below hb hb.size); replace VL := Lib.hid (VL.out.call hb); clear hb; have KZ := Lib.hid True.intro; clear K67))
          have c85 : w9.cell? ⟨w.heap.size, 6, none⟩ = some (.slice q.ds.A N q.ds.c) := by rw [HN.out]; exact L.out.at_ 6
          have c93 : w9.cell? ⟨w.heap.size, 0, none⟩ = some (.int .i64 q.low) := L.out.at_ 0
          have c95 : w9.cell? ⟨w.heap.size, 1, none⟩ = some (.int .i64 q.high) := L.out.at_ 1
          have KI1 := Lib.hid True.intro
          go_wp2_with (first | (have h := KI1; clear h; go_at_call 25; refine (HI1.out _).mono ?_; rintro e w' ⟨rfl, rfl⟩; have KI2 := Lib.hid True.intro; clear KI1) | (have h := KI2; clear h; go_at_call 25; refine (HI2.out _).mono ?_; rintro e w' ⟨rfl, rfl⟩; clear KI2) | (go_at_call 16; refine (wakes_any _).mono ?_; rintro e w99 ⟨rfl, hb9⟩))
          go_ret
          exact ⟨rfl, B.out.trans (hb9.mono B.out.size)⟩
        · have hlk := inB_iff.1 hin_HI2
          have hlk0 : q.low ≤ lv := hlk.1
          have hlk1 : lv ≤ q.high := hlk.2
          subst hdd
          have HI1 := Lib.hid (fun W => (show Calls Try.prog 25 #[.int .i64 (d : Int), .int .i64 0, .int .i64 ((N : Int) - 1)] W fun e w' => e = .returned (.bool true) ∧ W = w' by
            have := In_any (d : Int) 0 ((N : Int) - 1) W
            rw [show inB (d : Int) 0 ((N : Int) - 1) = true from hin_HI1] at this
            exact this))
          have HI2 := Lib.hid (fun W => (show Calls Try.prog 25 #[.int .i64 lv, .int .i64 q.low, .int .i64 q.high] W fun e w' => e = .returned (.bool true) ∧ W = w' by
            have := In_any lv q.low q.high W
            rw [show inB lv q.low q.high = true from hin_HI2] at this
            exact this))
          subst hc1
          have HBE := Lib.hid (fun A c0 W (hat : (q.withA A c0).At W W.heap.size) => (show Calls Try.prog 23 #[.agg (q.withA A c0).cells.toArray, .int .i64 d, .int .i64 lv] W fun e w' => e = .returned (.tuple #[.int .i64 0, .int .i64 0, .int .i64 9]) ∧ Below W.heap.size W w' by
            have := Best_any (q.withA A c0) d lv W hat
            rw [show (q.withA A c0).d.bestR d lv = (0, 0, 9) from hbe] at this
            exact this))
          have HDY := Lib.hid hdy
          have HAC := Lib.hid hac
          clear hin_HI1 hin_HI2 hbe hdy hac HT3 hlk
          go_enter Try.func4, Try.ntmps4
          go_upto_region 1 with (fail)
          change Code.wp _ _ _ _ (w.alloc (.cells q.cells.toArray 26))
          generalize w.alloc (.cells q.cells.toArray 26) = w1 at *
          go_upto_region 15 with (first
              | (have h := K17; clear h; refine wpList_load_row (o := ⟨some 17, _, _, _, _, _⟩) ?_ 26 (.tmp 3) ?_ w.heap.size ?_ 26 q.cells.toArray (0, 0) _ L.out Try.underlying26 rfl size_rp ?_; rfl; rfl; rfl; have K18 := Lib.hid True.intro; clear K17)
              | (have h := K18; clear h; go_at_call 15; refine (HTH.out _).mono ?_; rintro e w2 ⟨rfl, hb⟩; replace B := Lib.hid (B.out.trans (hb.mono B.out.size)); replace L := Lib.hid (L.out.call hb); clear hb; have K22 := Lib.hid True.intro; clear K18)
              | (have h := K22; clear h; refine wpList_load_row (o := ⟨some 22, _, _, _, _, _⟩) ?_ 26 (.tmp 3) ?_ w.heap.size ?_ 26 q.cells.toArray (0, 0) _ L.out Try.underlying26 rfl size_rp ?_; rfl; rfl; rfl; have K23 := Lib.hid True.intro; clear K22)
              | (have h := K23; clear h; go_at_call 18; refine (Copy_any q _ (HAT.out.below B.out B.out.size) HL15.out).mono ?_; rintro e w3 ⟨A3, c3, rfl, hat, hb⟩; replace B := Lib.hid (B.out.trans (hb.mono B.out.size)); replace L := Lib.hid (L.out.call hb); have T3 := Lib.hid hat; clear hat; clear hb; have K24 := Lib.hid True.intro; clear K23)
              | (have h := K24; clear h; go_at_call 22; refine (HLE.out A3 c3 _ T3.out).mono ?_; rintro e w4 ⟨rfl, hb⟩; replace B := Lib.hid (B.out.trans (hb.mono B.out.size)); replace L := Lib.hid (L.out.call hb); replace T3 := Lib.hid (T3.out.below hb hb.size); clear hb; have K28 := Lib.hid True.intro; clear K24)
              | (have h := K28; clear h; refine wpList_load_row (o := ⟨some 28, _, _, _, _, _⟩) ?_ 26 (.tmp 3) ?_ w.heap.size ?_ 26 q.cells.toArray (0, 0) _ L.out Try.underlying26 rfl size_rp ?_; rfl; rfl; rfl; have K29 := Lib.hid True.intro; clear K28)
              | (have h := K29; clear h; go_at_call 18; refine (Copy_any q _ (HAT.out.below B.out B.out.size) HL15.out).mono ?_; rintro e w5 ⟨A4, c4, rfl, hat, hb⟩; replace B := Lib.hid (B.out.trans (hb.mono B.out.size)); replace L := Lib.hid (L.out.call hb); replace T3 := Lib.hid (T3.out.below hb hb.size); have T4 := Lib.hid hat; clear hat; clear hb; have K32 := Lib.hid True.intro; clear K29)
              | (have h := K32; clear h; go_at_call 23; refine (HBE.out A4 c4 _ T4.out).mono ?_; rintro e w6 ⟨rfl, hb⟩; replace B := Lib.hid (B.out.trans (hb.mono B.out.size)); replace L := Lib.hid (L.out.call hb); replace T3 := Lib.hid (T3.out.below hb hb.size); replace T4 := Lib.hid (T4.out.below hb hb.size); clear hb; have K36 := Lib.hid True.intro; clear K32)
              | (have h := K36; clear h; refine wpList_load_row (o := ⟨some 36, _, _, _, _, _⟩) ?_ 26 (.tmp 3) ?_ w.heap.size ?_ 26 q.cells.toArray (0, 0) _ L.out Try.underlying26 rfl size_rp ?_; rfl; rfl; rfl; have K37 := Lib.hid True.intro; clear K36)
              | (have h := K37; clear h; go_at_call 20; refine (HFA.out _ (HAT.out.below B.out B.out.size)).mono ?_; rintro e w7 ⟨rfl, hb⟩; replace B := Lib.hid (B.out.trans (hb.mono B.out.size)); replace L := Lib.hid (L.out.call hb); replace T3 := Lib.hid (T3.out.below hb hb.size); replace T4 := Lib.hid (T4.out.below hb hb.size); clear hb; have K63 := Lib.hid True.intro; clear K37)
              | (have h := K63; clear h; refine wpList_load_row (o := ⟨some 63, _, _, _, _, _⟩) ?_ 26 (.tmp 3) ?_ w.heap.size ?_ 26 q.cells.toArray (0, 0) _ L.out Try.underlying26 rfl size_rp ?_; rfl; rfl; rfl; have K64 := Lib.hid True.intro; clear K63)
              | (have h := K64; clear h; go_at_call 21; refine (Values_any q _ (HAT.out.below B.out B.out.size) HOK.out).mono ?_; rintro e w8 ⟨gv, row, rfl, _, hvl, hb⟩; replace B := Lib.hid (B.out.trans (hb.mono B.out.size)); replace L := Lib.hid (L.out.call hb); replace T3 := Lib.hid (T3.out.below hb hb.size); replace T4 := Lib.hid (T4.out.below hb hb.size); have VL := Lib.hid hvl; clear hvl; rw [show q.d.ds.length + 1 = q.ds.l.length + 1 from rfl]; clear hb; have K65 := Lib.hid True.intro; clear K64)
              | (have h := K65; clear h; refine wpList_load_row (o := ⟨some 65, _, _, _, _, _⟩) ?_ 26 (.tmp 3) ?_ w.heap.size ?_ 26 q.cells.toArray (0, 0) _ L.out Try.underlying26 rfl size_rp ?_; rfl; rfl; rfl; have K67 := Lib.hid True.intro; clear K65)
              | (have h := K67; clear h; go_at_call 24; refine (HCO.out gv row _ VL.out).mono ?_; rintro e w9 ⟨rfl, hb⟩; replace B := Lib.hid (B.out.trans (hb.mono B.out.size)); replace L := Lib.hid (L.out.call hb); replace T3 := Lib.hid (T3.out.below hb hb.size); replace T4 := Lib.hid (T4.out.below hb hb.size); replace VL := Lib.hid (VL.out.call hb); clear hb; have KZ := Lib.hid True.intro; clear K67))
          have c85 : w9.cell? ⟨w.heap.size, 6, none⟩ = some (.slice q.ds.A N q.ds.c) := by rw [HN.out]; exact L.out.at_ 6
          have c93 : w9.cell? ⟨w.heap.size, 0, none⟩ = some (.int .i64 q.low) := L.out.at_ 0
          have c95 : w9.cell? ⟨w.heap.size, 1, none⟩ = some (.int .i64 q.high) := L.out.at_ 1
          have KI1 := Lib.hid True.intro
          go_upto_region 17 with (first | (have h := KI1; clear h; go_at_call 25; refine (HI1.out _).mono ?_; rintro e w' ⟨rfl, rfl⟩; have KI2 := Lib.hid True.intro; clear KI1) | (have h := KI2; clear h; go_at_call 25; refine (HI2.out _).mono ?_; rintro e w' ⟨rfl, rfl⟩; clear KI2))
          clear c85 c93 c95
          have hdk : d + 1 ≤ q.d.ds.length := (List.getElem?_eq_some_iff.1 HDY.out).1
          have hgv : gv < w9.heap.size := by obtain ⟨cs, h1, _⟩ := VL.out.c; exact h1.in_
          have r118 := cell_regrown (VL.out.cell hdk)
          have HAM := Lib.hid (fun W (hb : Below w9.heap.size w9 W) => (show Calls Try.prog 26 #[.agg q.cells.toArray, .slice (row (d + 1)).A (row (d + 1)).l.length (row (d + 1)).c, .int .i64 d, .int .i64 lv] W fun e w' => e = .returned (.tuple #[.int .i64 a, .int .i64 (-1)]) ∧ Below W.heap.size W w' by
            have := Amount_row q gv row W ((HAT.out.below B.out B.out.size).below hb hb.size) HOK.out (VL.out.call hb) d dy lv HDY.out (by omega) (by omega)
            rw [HAC.out] at this
            exact this))
          have HRQ := Lib.hid (fun W (h : ∃ p : Regrown, W = Go.Sort.grow (redrawn w9 p.d) p.os) => (show W.rangeAt w.heap.size 0 q.cells by
            obtain ⟨p, rfl⟩ := h
            exact Lies.range (cs := q.cells) (L.out.call (below_regrown _ _ _)) (fun j v hj => by simpa using hj)))
          have hd1 : (d : Int) + 1 < (q.ds.l.length : Int) + 1 := by have h2 : d + 1 ≤ q.ds.l.length := hdk; omega
          have hdz : (d : Int) ≤ 20 := by have h2 : d + 1 ≤ q.ds.l.length := hdk; have := HL15.out; omega
          have hd0 : (0 : Int) ≤ (d : Int) + 1 := by omega
          have hqz : (q.ds.l.length : Int) ≤ 15 := by have := HL15.out; omega
          clear hdk hgv
          refine wp_region_quiet_below (by kernel_rfl) (by kernel_rfl) ?_
          repeat (first
            | (refine wpQuiet_load_wholeG (o := ⟨some 113, _, _, _, _, _⟩) ?_ 26 (.tmp 3) ?_ w.heap.size 0 ?_ q.cells _ HRQ.out Try.underlying26 rfl size_rp ?_; rfl; rfl; rfl; simp only [Act.put, List.setIfInBounds_toArray, List.set_cons_zero, List.set_cons_succ])
            | go_big_quiet_step (first | (go_at_call 26; exact Calls.regrown_of (HAM.out _ (below_regrown _ _ _)))) | quiet_step (first | (go_at_call 26; exact Calls.regrown_of (HAM.out _ (below_regrown _ _ _)))))
          refine wpQuiet_nil ?_
          intro wz hwz
          have hbz : Below _ _ wz := (by obtain ⟨p, rfl⟩ := hwz; exact below_regrown _ _ _)
          clear hwz r118 HRQ
          have BZ := Lib.hid (B.out.trans (hbz.mono B.out.size))
          clear hbz
          go_wp2_with (go_at_call 16; refine (wakes_any _).mono ?_; rintro e w99 ⟨rfl, hb9⟩)
          go_ret
          exact ⟨rfl, BZ.out.trans (hb9.mono BZ.out.size)⟩
        · have hlk := inB_iff.1 hin_HI2
          have hlk0 : q.low ≤ lv := hlk.1
          have hlk1 : lv ≤ q.high := hlk.2
          subst hdd
          have HI1 := Lib.hid (fun W => (show Calls Try.prog 25 #[.int .i64 (d : Int), .int .i64 0, .int .i64 ((N : Int) - 1)] W fun e w' => e = .returned (.bool true) ∧ W = w' by
            have := In_any (d : Int) 0 ((N : Int) - 1) W
            rw [show inB (d : Int) 0 ((N : Int) - 1) = true from hin_HI1] at this
            exact this))
          have HI2 := Lib.hid (fun W => (show Calls Try.prog 25 #[.int .i64 lv, .int .i64 q.low, .int .i64 q.high] W fun e w' => e = .returned (.bool true) ∧ W = w' by
            have := In_any lv q.low q.high W
            rw [show inB lv q.low q.high = true from hin_HI2] at this
            exact this))
          have hcn : ¬ c < 0 := by omega
          have HBE := Lib.hid (fun A c0 W (hat : (q.withA A c0).At W W.heap.size) => (show Calls Try.prog 23 #[.agg (q.withA A c0).cells.toArray, .int .i64 d, .int .i64 lv] W fun e w' => e = .returned (.tuple #[.int .i64 a, .int .i64 c, .int .i64 0]) ∧ Below W.heap.size W w' by
            have := Best_any (q.withA A c0) d lv W hat
            rw [show (q.withA A c0).d.bestR d lv = (a, c, 0) from hbe] at this
            exact this))
          have HDY := Lib.hid hdy
          have HAC := Lib.hid hac
          clear hin_HI1 hin_HI2 hbe hdy hac HT3 hlk
          go_enter Try.func4, Try.ntmps4
          go_upto_region 1 with (fail)
          change Code.wp _ _ _ _ (w.alloc (.cells q.cells.toArray 26))
          generalize w.alloc (.cells q.cells.toArray 26) = w1 at *
          go_upto_region 15 with (first
              | (have h := K17; clear h; refine wpList_load_row (o := ⟨some 17, _, _, _, _, _⟩) ?_ 26 (.tmp 3) ?_ w.heap.size ?_ 26 q.cells.toArray (0, 0) _ L.out Try.underlying26 rfl size_rp ?_; rfl; rfl; rfl; have K18 := Lib.hid True.intro; clear K17)
              | (have h := K18; clear h; go_at_call 15; refine (HTH.out _).mono ?_; rintro e w2 ⟨rfl, hb⟩; replace B := Lib.hid (B.out.trans (hb.mono B.out.size)); replace L := Lib.hid (L.out.call hb); clear hb; have K22 := Lib.hid True.intro; clear K18)
              | (have h := K22; clear h; refine wpList_load_row (o := ⟨some 22, _, _, _, _, _⟩) ?_ 26 (.tmp 3) ?_ w.heap.size ?_ 26 q.cells.toArray (0, 0) _ L.out Try.underlying26 rfl size_rp ?_; rfl; rfl; rfl; have K23 := Lib.hid True.intro; clear K22)
              | (have h := K23; clear h; go_at_call 18; refine (Copy_any q _ (HAT.out.below B.out B.out.size) HL15.out).mono ?_; rintro e w3 ⟨A3, c3, rfl, hat, hb⟩; replace B := Lib.hid (B.out.trans (hb.mono B.out.size)); replace L := Lib.hid (L.out.call hb); have T3 := Lib.hid hat; clear hat; clear hb; have K24 := Lib.hid True.intro; clear K23)
              | (have h := K24; clear h; go_at_call 22; refine (HLE.out A3 c3 _ T3.out).mono ?_; rintro e w4 ⟨rfl, hb⟩; replace B := Lib.hid (B.out.trans (hb.mono B.out.size)); replace L := Lib.hid (L.out.call hb); replace T3 := Lib.hid (T3.out.below hb hb.size); clear hb; have K28 := Lib.hid True.intro; clear K24)
              | (have h := K28; clear h; refine wpList_load_row (o := ⟨some 28, _, _, _, _, _⟩) ?_ 26 (.tmp 3) ?_ w.heap.size ?_ 26 q.cells.toArray (0, 0) _ L.out Try.underlying26 rfl size_rp ?_; rfl; rfl; rfl; have K29 := Lib.hid True.intro; clear K28)
              | (have h := K29; clear h; go_at_call 18; refine (Copy_any q _ (HAT.out.below B.out B.out.size) HL15.out).mono ?_; rintro e w5 ⟨A4, c4, rfl, hat, hb⟩; replace B := Lib.hid (B.out.trans (hb.mono B.out.size)); replace L := Lib.hid (L.out.call hb); replace T3 := Lib.hid (T3.out.below hb hb.size); have T4 := Lib.hid hat; clear hat; clear hb; have K32 := Lib.hid True.intro; clear K29)
              | (have h := K32; clear h; go_at_call 23; refine (HBE.out A4 c4 _ T4.out).mono ?_; rintro e w6 ⟨rfl, hb⟩; replace B := Lib.hid (B.out.trans (hb.mono B.out.size)); replace L := Lib.hid (L.out.call hb); replace T3 := Lib.hid (T3.out.below hb hb.size); replace T4 := Lib.hid (T4.out.below hb hb.size); clear hb; have K36 := Lib.hid True.intro; clear K32)
              | (have h := K36; clear h; refine wpList_load_row (o := ⟨some 36, _, _, _, _, _⟩) ?_ 26 (.tmp 3) ?_ w.heap.size ?_ 26 q.cells.toArray (0, 0) _ L.out Try.underlying26 rfl size_rp ?_; rfl; rfl; rfl; have K37 := Lib.hid True.intro; clear K36)
              | (have h := K37; clear h; go_at_call 20; refine (HFA.out _ (HAT.out.below B.out B.out.size)).mono ?_; rintro e w7 ⟨rfl, hb⟩; replace B := Lib.hid (B.out.trans (hb.mono B.out.size)); replace L := Lib.hid (L.out.call hb); replace T3 := Lib.hid (T3.out.below hb hb.size); replace T4 := Lib.hid (T4.out.below hb hb.size); clear hb; have K63 := Lib.hid True.intro; clear K37)
              | (have h := K63; clear h; refine wpList_load_row (o := ⟨some 63, _, _, _, _, _⟩) ?_ 26 (.tmp 3) ?_ w.heap.size ?_ 26 q.cells.toArray (0, 0) _ L.out Try.underlying26 rfl size_rp ?_; rfl; rfl; rfl; have K64 := Lib.hid True.intro; clear K63)
              | (have h := K64; clear h; go_at_call 21; refine (Values_any q _ (HAT.out.below B.out B.out.size) HOK.out).mono ?_; rintro e w8 ⟨gv, row, rfl, _, hvl, hb⟩; replace B := Lib.hid (B.out.trans (hb.mono B.out.size)); replace L := Lib.hid (L.out.call hb); replace T3 := Lib.hid (T3.out.below hb hb.size); replace T4 := Lib.hid (T4.out.below hb hb.size); have VL := Lib.hid hvl; clear hvl; rw [show q.d.ds.length + 1 = q.ds.l.length + 1 from rfl]; clear hb; have K65 := Lib.hid True.intro; clear K64)
              | (have h := K65; clear h; refine wpList_load_row (o := ⟨some 65, _, _, _, _, _⟩) ?_ 26 (.tmp 3) ?_ w.heap.size ?_ 26 q.cells.toArray (0, 0) _ L.out Try.underlying26 rfl size_rp ?_; rfl; rfl; rfl; have K67 := Lib.hid True.intro; clear K65)
              | (have h := K67; clear h; go_at_call 24; refine (HCO.out gv row _ VL.out).mono ?_; rintro e w9 ⟨rfl, hb⟩; replace B := Lib.hid (B.out.trans (hb.mono B.out.size)); replace L := Lib.hid (L.out.call hb); replace T3 := Lib.hid (T3.out.below hb hb.size); replace T4 := Lib.hid (T4.out.below hb hb.size); replace VL := Lib.hid (VL.out.call hb); clear hb; have KZ := Lib.hid True.intro; clear K67))
          have c85 : w9.cell? ⟨w.heap.size, 6, none⟩ = some (.slice q.ds.A N q.ds.c) := by rw [HN.out]; exact L.out.at_ 6
          have c93 : w9.cell? ⟨w.heap.size, 0, none⟩ = some (.int .i64 q.low) := L.out.at_ 0
          have c95 : w9.cell? ⟨w.heap.size, 1, none⟩ = some (.int .i64 q.high) := L.out.at_ 1
          have KI1 := Lib.hid True.intro
          go_upto_region 17 with (first | (have h := KI1; clear h; go_at_call 25; refine (HI1.out _).mono ?_; rintro e w' ⟨rfl, rfl⟩; have KI2 := Lib.hid True.intro; clear KI1) | (have h := KI2; clear h; go_at_call 25; refine (HI2.out _).mono ?_; rintro e w' ⟨rfl, rfl⟩; clear KI2))
          clear c85 c93 c95
          have hdk : d + 1 ≤ q.d.ds.length := (List.getElem?_eq_some_iff.1 HDY.out).1
          have hgv : gv < w9.heap.size := by obtain ⟨cs, h1, _⟩ := VL.out.c; exact h1.in_
          have r118 := cell_regrown (VL.out.cell hdk)
          have HAM := Lib.hid (fun W (hb : Below w9.heap.size w9 W) => (show Calls Try.prog 26 #[.agg q.cells.toArray, .slice (row (d + 1)).A (row (d + 1)).l.length (row (d + 1)).c, .int .i64 d, .int .i64 lv] W fun e w' => e = .returned (.tuple #[.int .i64 a, .int .i64 c]) ∧ Below W.heap.size W w' by
            have := Amount_row q gv row W ((HAT.out.below B.out B.out.size).below hb hb.size) HOK.out (VL.out.call hb) d dy lv HDY.out (by omega) (by omega)
            rw [HAC.out] at this
            exact this))
          have HRQ := Lib.hid (fun W (h : ∃ p : Regrown, W = Go.Sort.grow (redrawn w9 p.d) p.os) => (show W.rangeAt w.heap.size 0 q.cells by
            obtain ⟨p, rfl⟩ := h
            exact Lies.range (cs := q.cells) (L.out.call (below_regrown _ _ _)) (fun j v hj => by simpa using hj)))
          have hd1 : (d : Int) + 1 < (q.ds.l.length : Int) + 1 := by have h2 : d + 1 ≤ q.ds.l.length := hdk; omega
          have hdz : (d : Int) ≤ 20 := by have h2 : d + 1 ≤ q.ds.l.length := hdk; have := HL15.out; omega
          have hd0 : (0 : Int) ≤ (d : Int) + 1 := by omega
          have hqz : (q.ds.l.length : Int) ≤ 15 := by have := HL15.out; omega
          clear hdk hgv
          refine wp_region_quiet_below (by kernel_rfl) (by kernel_rfl) ?_
          repeat (first
            | (refine wpQuiet_load_wholeG (o := ⟨some 113, _, _, _, _, _⟩) ?_ 26 (.tmp 3) ?_ w.heap.size 0 ?_ q.cells _ HRQ.out Try.underlying26 rfl size_rp ?_; rfl; rfl; rfl; simp only [Act.put, List.setIfInBounds_toArray, List.set_cons_zero, List.set_cons_succ])
            | go_big_quiet_step (first | (go_at_call 26; exact Calls.regrown_of (HAM.out _ (below_regrown _ _ _)))) | quiet_step (first | (go_at_call 26; exact Calls.regrown_of (HAM.out _ (below_regrown _ _ _)))))
          refine wpQuiet_nil ?_
          intro wz hwz
          have hbz : Below _ _ wz := (by obtain ⟨p, rfl⟩ := hwz; exact below_regrown _ _ _)
          clear hwz r118 HRQ
          have BZ := Lib.hid (B.out.trans (hbz.mono B.out.size))
          clear hbz
          go_wp2_with (go_at_call 16; refine (wakes_any _).mono ?_; rintro e w99 ⟨rfl, hb9⟩)
          go_ret
          exact ⟨rfl, BZ.out.trans (hb9.mono BZ.out.size)⟩
    · obtain ⟨ff, hff0⟩ : ∃ ff, ff = q.d.fault := ⟨_, rfl⟩
      have hle : q.d.leastR = (0, ff) := by unfold PoD.leastR; rw [if_pos hff, ← hff0]
      have hbe : q.d.bestR day lv = (0, 0, ff) := by
        have h1 : q.d.levR day lv = ff := by unfold PoD.levR; rw [if_pos hff, ← hff0]
        unfold PoD.bestR
        rw [h1, if_pos (by rw [hff0]; exact hff)]
      rw [← hff0] at hff
      have hne : ((ff : Int) == 0) = false := by simpa using hff
      have hne2 : ((ff : Int) != 0) = true := by simpa using hff
      have hee : ((ff : Int) == ff) = true := by simp
      clear hff
      have hff := hff0.symm
      have HFA := Lib.hid (fun W (hq : q.At W W.heap.size) => (show Calls Try.prog 20 #[.agg q.cells.toArray] W fun e w' => e = .returned (.int .i64 ff) ∧ Below W.heap.size W w' by
        have := lawFault_any q W hq
        rw [hff] at this
        exact this))
      have HLE := Lib.hid (fun A c W (hat : (q.withA A c).At W W.heap.size) => (show Calls Try.prog 22 #[.agg (q.withA A c).cells.toArray] W fun e w' => e = .returned (.tuple #[.int .i64 0, .int .i64 ff]) ∧ Below W.heap.size W w' by
        have := Least_any (q.withA A c) W hat
        rw [show (q.withA A c).d.leastR = (0, ff) from hle] at this
        exact this))
      have HBE := Lib.hid (fun A c0 W (hat : (q.withA A c0).At W W.heap.size) => (show Calls Try.prog 23 #[.agg (q.withA A c0).cells.toArray, .int .i64 day, .int .i64 lv] W fun e w' => e = .returned (.tuple #[.int .i64 0, .int .i64 0, .int .i64 ff]) ∧ Below W.heap.size W w' by
        have := Best_any (q.withA A c0) day lv W hat
        rw [show (q.withA A c0).d.bestR day lv = (0, 0, ff) from hbe] at this
        exact this))
      clear hle hbe hff hff0
      go_enter Try.func4, Try.ntmps4
      go_upto_region 1 with (fail)
      change Code.wp _ _ _ _ (w.alloc (.cells q.cells.toArray 26))
      generalize w.alloc (.cells q.cells.toArray 26) = w1 at *
      go_upto_region 7 with (first
          | (have h := K17; clear h; refine wpList_load_row (o := ⟨some 17, _, _, _, _, _⟩) ?_ 26 (.tmp 3) ?_ w.heap.size ?_ 26 q.cells.toArray (0, 0) _ L.out Try.underlying26 rfl size_rp ?_; rfl; rfl; rfl; have K18 := Lib.hid True.intro; clear K17)
          | (have h := K18; clear h; go_at_call 15; refine (HTH.out _).mono ?_; rintro e w2 ⟨rfl, hb⟩; replace B := Lib.hid (B.out.trans (hb.mono B.out.size)); replace L := Lib.hid (L.out.call hb); clear hb; have K22 := Lib.hid True.intro; clear K18)
          | (have h := K22; clear h; refine wpList_load_row (o := ⟨some 22, _, _, _, _, _⟩) ?_ 26 (.tmp 3) ?_ w.heap.size ?_ 26 q.cells.toArray (0, 0) _ L.out Try.underlying26 rfl size_rp ?_; rfl; rfl; rfl; have K23 := Lib.hid True.intro; clear K22)
          | (have h := K23; clear h; go_at_call 18; refine (Copy_any q _ (HAT.out.below B.out B.out.size) HL15.out).mono ?_; rintro e w3 ⟨A3, c3, rfl, hat, hb⟩; replace B := Lib.hid (B.out.trans (hb.mono B.out.size)); replace L := Lib.hid (L.out.call hb); have T3 := Lib.hid hat; clear hat; clear hb; have K24 := Lib.hid True.intro; clear K23)
          | (have h := K24; clear h; go_at_call 22; refine (HLE.out A3 c3 _ T3.out).mono ?_; rintro e w4 ⟨rfl, hb⟩; replace B := Lib.hid (B.out.trans (hb.mono B.out.size)); replace L := Lib.hid (L.out.call hb); replace T3 := Lib.hid (T3.out.below hb hb.size); clear hb; have K28 := Lib.hid True.intro; clear K24)
          | (have h := K28; clear h; refine wpList_load_row (o := ⟨some 28, _, _, _, _, _⟩) ?_ 26 (.tmp 3) ?_ w.heap.size ?_ 26 q.cells.toArray (0, 0) _ L.out Try.underlying26 rfl size_rp ?_; rfl; rfl; rfl; have K29 := Lib.hid True.intro; clear K28)
          | (have h := K29; clear h; go_at_call 18; refine (Copy_any q _ (HAT.out.below B.out B.out.size) HL15.out).mono ?_; rintro e w5 ⟨A4, c4, rfl, hat, hb⟩; replace B := Lib.hid (B.out.trans (hb.mono B.out.size)); replace L := Lib.hid (L.out.call hb); replace T3 := Lib.hid (T3.out.below hb hb.size); have T4 := Lib.hid hat; clear hat; clear hb; have K32 := Lib.hid True.intro; clear K29)
          | (have h := K32; clear h; go_at_call 23; refine (HBE.out A4 c4 _ T4.out).mono ?_; rintro e w6 ⟨rfl, hb⟩; replace B := Lib.hid (B.out.trans (hb.mono B.out.size)); replace L := Lib.hid (L.out.call hb); replace T3 := Lib.hid (T3.out.below hb hb.size); replace T4 := Lib.hid (T4.out.below hb hb.size); clear hb; have K36 := Lib.hid True.intro; clear K32)
          | (have h := K36; clear h; refine wpList_load_row (o := ⟨some 36, _, _, _, _, _⟩) ?_ 26 (.tmp 3) ?_ w.heap.size ?_ 26 q.cells.toArray (0, 0) _ L.out Try.underlying26 rfl size_rp ?_; rfl; rfl; rfl; have K37 := Lib.hid True.intro; clear K36)
          | (have h := K37; clear h; go_at_call 20; refine (HFA.out _ (HAT.out.below B.out B.out.size)).mono ?_; rintro e w7 ⟨rfl, hb⟩; replace B := Lib.hid (B.out.trans (hb.mono B.out.size)); replace L := Lib.hid (L.out.call hb); replace T3 := Lib.hid (T3.out.below hb hb.size); replace T4 := Lib.hid (T4.out.below hb hb.size); clear hb; have K63 := Lib.hid True.intro; clear K37))
      go_wp2_with (go_at_call 16; refine (wakes_any _).mono ?_; rintro e w99 ⟨rfl, hb9⟩)
      go_ret
      exact ⟨rfl, B.out.trans (hb9.mono B.out.size)⟩
  · rw [decide_eq_false hthin] at HTH
    clear hthin HO
    go_enter Try.func4, Try.ntmps4
    go_upto_region 1 with (fail)
    change Code.wp _ _ _ _ (w.alloc (.cells q.cells.toArray 26))
    generalize w.alloc (.cells q.cells.toArray 26) = w1 at *
    go_wp2_with (first
        | (have h := K17; clear h; refine wpList_load_row (o := ⟨some 17, _, _, _, _, _⟩) ?_ 26 (.tmp 3) ?_ w.heap.size ?_ 26 q.cells.toArray (0, 0) _ L.out Try.underlying26 rfl size_rp ?_; rfl; rfl; rfl; have K18 := Lib.hid True.intro; clear K17)
        | (have h := K18; clear h; go_at_call 15; refine (HTH.out _).mono ?_; rintro e w2 ⟨rfl, hb⟩; replace B := Lib.hid (B.out.trans (hb.mono B.out.size)); replace L := Lib.hid (L.out.call hb); clear hb; have KW := Lib.hid True.intro; clear K18)
        | (have h := KW; clear h; go_at_call 16; refine (wakes_any _).mono ?_; rintro e w3 ⟨rfl, hb⟩; replace B := Lib.hid (B.out.trans (hb.mono B.out.size)); replace L := Lib.hid (L.out.call hb); clear hb; have KWW := Lib.hid True.intro; clear KW))
    go_ret
    exact ⟨rfl, B.out⟩
end Go.Proofs.Yteognijlgalahaa
