/- The reference's Fault; Thin; ready. -/
import Derived.Test.YteognijlgalahaaPW
namespace Go.Proofs.Yteognijlgalahaa
open Go.RowKit Go.Lib
attribute [local go_sem] Oper.semAt_some

theorem wpList_load_midG {P : Program} {ops : Array Oper} {rest : List Oper} {op : Oper} {a : Act} {w : World} {Q : Exit → Act → World → Prop} (hw : Region.wanted op (yielded ops a.tmps) = true) (ty : TypeId) (x : Operand) (ho : op.op = .load ty x)
    (b o : Nat) (hx : a.eval x = .pointer (some ⟨b, o, none⟩)) (cs : List Value) (d : TypeDesc) (hc : w.rangeAt b o cs)
    (hu : P.underlying ty = some d) (hd : d.isRow = true) (hi : (P.info? ty).map (·.size) = some cs.length)
    (h : wpList P ops Q rest (a.put op.dst (.agg cs.toArray)) w) : wpList P ops Q (op :: rest) a w :=
  wpList_step fun K hK => by
    rw [if_pos hw]
    exact wp_load_mid ty x ho b o hx cs d hc hu hd hi (hK _ _ h)
theorem In_any (n lo hi : Int) (w : World) : Calls Try.prog 25 #[.int .i64 n, .int .i64 lo, .int .i64 hi] w fun e w' => e = .returned (.bool (inB n lo hi)) ∧ w = w' := by
  go_enter Try.func25, Try.ntmps25
  go_wp2
  all_goals (go_ret; exact ⟨ret_bool (by simp [inB]; try omega), rfl⟩)
theorem span_any (lo hi a b : Int) (w : World) : Calls Try.prog 62 #[.agg #[.int .i64 lo, .int .i64 hi], .int .i64 a, .int .i64 b] w fun e w' => e = .returned (.bool (spanP lo hi a b)) ∧ Below w.heap.size w w' := by
  have hq : spanP lo hi a b = (inB lo a hi && decide (hi ≤ b)) := rfl
  have HQ := Lib.hid hq
  have HI := Lib.hid (fun W => In_any lo a hi W)
  clear hq
  generalize spanP lo hi a b = q at *
  generalize inB lo a hi = y at *
  generalize hz : decide (hi ≤ b) = z at *
  cases y with
  | false =>
    go_enter Try.func62, Try.ntmps62
    go_wp2_with (go_at_call 25; refine (HI.out _).mono ?_; rintro e w' ⟨rfl, rfl⟩)
    go_ret
    exact ⟨ret_bool (by rw [HQ.out]; rfl), (by repeat (first | (with_reducible assumption) | (with_reducible exact Below.refl _ _) | (with_reducible refine Below.drew ?_) | (with_reducible refine below_drewN ?_ _) | ((with_reducible refine Below.setCell ?_ ?_ _); rotate_left; focus (first | (simp; done) | (simp; omega) | omega)) | ((with_reducible refine Below.alloc ?_ ?_ _); rotate_left; focus (first | (simp; done) | (simp; omega) | omega))))⟩
  | true =>
    cases z with
    | false =>
      have hlt : ¬ hi ≤ b := by simpa using hz
      go_enter Try.func62, Try.ntmps62
      go_wp2_with (go_at_call 25; refine (HI.out _).mono ?_; rintro e w' ⟨rfl, rfl⟩)
      go_ret
      exact ⟨ret_bool (by rw [HQ.out]; rfl), (by repeat (first | (with_reducible assumption) | (with_reducible exact Below.refl _ _) | (with_reducible refine Below.drew ?_) | (with_reducible refine below_drewN ?_ _) | ((with_reducible refine Below.setCell ?_ ?_ _); rotate_left; focus (first | (simp; done) | (simp; omega) | omega)) | ((with_reducible refine Below.alloc ?_ ?_ _); rotate_left; focus (first | (simp; done) | (simp; omega) | omega))))⟩
    | true =>
      have hlt : hi ≤ b := by simpa using hz
      go_enter Try.func62, Try.ntmps62
      go_wp2_with (go_at_call 25; refine (HI.out _).mono ?_; rintro e w' ⟨rfl, rfl⟩)
      go_ret
      exact ⟨ret_bool (by rw [HQ.out]; rfl), (by repeat (first | (with_reducible assumption) | (with_reducible exact Below.refl _ _) | (with_reducible refine Below.drew ?_) | (with_reducible refine below_drewN ?_ _) | ((with_reducible refine Below.setCell ?_ ?_ _); rotate_left; focus (first | (simp; done) | (simp; omega) | omega)) | ((with_reducible refine Below.alloc ?_ ?_ _); rotate_left; focus (first | (simp; done) | (simp; omega) | omega))))⟩
theorem size_rr : (Try.prog.info? 23).map (·.size) = some 2 := by kernel_rfl
theorem size_rp : (Try.prog.info? 26).map (·.size) = some 7 := by kernel_rfl
set_option maxRecDepth 100000 in
set_option maxHeartbeats 20000000 in
theorem Fault_any (q : PoM) (w : World) (hq : q.At w w.heap.size) : Calls Try.prog 46 #[.agg q.cells.toArray] w fun e w' => e = .returned (.int .i64 q.d.fault) ∧ Below w.heap.size w w' := by
  have l0 : Lies (w.alloc (.cells q.cells.toArray 26)) w.heap.size 26 q.cells.toArray := Lies.fresh _ _ _
  have b0 : Below w.heap.size w (w.alloc (.cells q.cells.toArray 26)) := (by repeat (first | (with_reducible assumption) | (with_reducible exact Below.refl _ _) | (with_reducible refine Below.drew ?_) | (with_reducible refine below_drewN ?_ _) | ((with_reducible refine Below.setCell ?_ ?_ _); rotate_left; focus (first | (simp; done) | (simp; omega) | omega)) | ((with_reducible refine Below.alloc ?_ ?_ _); rotate_left; focus (first | (simp; done) | (simp; omega) | omega))))
  have hqs : q.At (w.alloc (.cells q.cells.toArray 26)) w.heap.size := hq.below b0 (Nat.le_refl _) |> fun h => ⟨hq.s.below b0, h.l⟩
  have hf : q.d.fault = if 12 < q.ds.l.length then 3 else if (decide (1 ≤ q.ds.l.length) && spanP q.low q.high 0 60 && spanP q.slo q.shi q.low q.high && inB q.pump 0 20 && inB q.inl 0 20 && q.ds.l.all Dy.okB) then 0 else 1 := rfl
  have hlz : (q.ds.l.length : Int) ≤ 1000000 := by have := hq.l; omega
  have Q1 := Lib.hid (fun W => span_any q.low q.high 0 60 W)
  have Q2 := Lib.hid (fun W => span_any q.slo q.shi q.low q.high W)
  have Q3 := Lib.hid (fun W => In_any q.pump 0 20 W)
  have Q4 := Lib.hid (fun W => In_any q.inl 0 20 W)
  have HF := Lib.hid hf
  have L0 := Lib.hid l0
  have B0 := Lib.hid b0
  have HS := Lib.hid hqs
  clear l0 b0 hf hq hqs
  generalize q.d.fault = ff at *
  generalize spanP q.low q.high 0 60 = y1 at *
  generalize spanP q.slo q.shi q.low q.high = y2 at *
  generalize inB q.pump 0 20 = y3 at *
  generalize inB q.inl 0 20 = y4 at *
  obtain ⟨N, hN⟩ : ∃ N, N = q.ds.l.length := ⟨_, rfl⟩
  have HN := Lib.hid hN
  rw [← hN] at HF hlz
  clear hN
  go_enter Try.func46, Try.ntmps46
  go_upto_region 1 with (fail)
  change Code.wp _ _ _ _ (w.alloc (.cells q.cells.toArray 26))
  generalize w.alloc (.cells q.cells.toArray 26) = w1 at *
  have a6 : w1.cell? ⟨w.heap.size, 6, none⟩ = some (.slice q.ds.A N q.ds.c) := by rw [HN.out]; exact L0.out.at_ 6
  by_cases h12 : 12 < N
  · have hz : (12 : Int) < (N : Int) := by omega
    rw [if_pos h12] at HF
    clear h12
    go_wp2
    go_ret
    exact ⟨ret_int HF.out.symm, B0.out⟩
  · have hz : ¬ (12 : Int) < (N : Int) := by omega
    rw [if_neg h12] at HF
    clear h12
    have a0 : w1.cell? ⟨w.heap.size, 0, none⟩ = some (.int .i64 q.low) := L0.out.at_ 0
    have a1 : w1.cell? ⟨w.heap.size, 1, none⟩ = some (.int .i64 q.high) := L0.out.at_ 1
    have K19 := Lib.hid True.intro
    by_cases h1 : N < 1
    · have hz1 : (N : Int) < 1 := by omega
      rw [decide_eq_false (by omega)] at HF
      clear h1
      go_wp2
      go_ret
      exact ⟨ret_int (by rw [HF.out]; simp), B0.out⟩
    · have hz1 : ¬ (N : Int) < 1 := by omega
      have hz1' : decide ((N : Int) < 1) = false := by simp; omega
      rw [decide_eq_true (by omega)] at HF
      clear h1
      cases y1 with
      | false =>
        go_wp2_with (first
          | (have h := K19; clear h; go_at_call 62; refine (Q1.out _).mono ?_; rintro e w2 ⟨rfl, hb2⟩; have B2 := Lib.hid (B0.out.trans (hb2.mono B0.out.size)); have L2 := Lib.hid (L0.out.call hb2); have X2 := Lib.hid hb2; clear hb2; have c26 : w2.cell? ⟨w.heap.size, 0, none⟩ = some (.int .i64 q.low) := L2.out.at_ 0; have c28 : w2.cell? ⟨w.heap.size, 1, none⟩ = some (.int .i64 q.high) := L2.out.at_ 1; have HRG := Lib.hid (show w2.rangeAt w.heap.size 2 [.int .i64 q.slo, .int .i64 q.shi] from Lies.range (cs := q.cells) L2.out (fun j v hj => by match j, hj with | 0, hj => exact hj | 1, hj => exact hj)); have K24 := Lib.hid True.intro; clear K19))
        go_ret
        exact ⟨ret_int (by rw [HF.out]; simp), B2.out⟩
      | true =>
      cases y2 with
      | false =>
        go_wp2_with (first
          | (have h := K19; clear h; go_at_call 62; refine (Q1.out _).mono ?_; rintro e w2 ⟨rfl, hb2⟩; have B2 := Lib.hid (B0.out.trans (hb2.mono B0.out.size)); have L2 := Lib.hid (L0.out.call hb2); have X2 := Lib.hid hb2; clear hb2; have c26 : w2.cell? ⟨w.heap.size, 0, none⟩ = some (.int .i64 q.low) := L2.out.at_ 0; have c28 : w2.cell? ⟨w.heap.size, 1, none⟩ = some (.int .i64 q.high) := L2.out.at_ 1; have HRG := Lib.hid (show w2.rangeAt w.heap.size 2 [.int .i64 q.slo, .int .i64 q.shi] from Lies.range (cs := q.cells) L2.out (fun j v hj => by match j, hj with | 0, hj => exact hj | 1, hj => exact hj)); have K24 := Lib.hid True.intro; clear K19)
          | (have h := K24; clear h; refine wpList_load_midG (op := ⟨some 24, _, _, _, _, _⟩) ?_ 23 (.tmp 23) ?_ w.heap.size 2 ?_ [.int .i64 q.slo, .int .i64 q.shi] _ HRG.out Try.underlying23 rfl size_rr ?_; rfl; rfl; rfl; have K29 := Lib.hid True.intro; clear K24)
          | (have h := K29; clear h; go_at_call 62; refine (Q2.out _).mono ?_; rintro e w3 ⟨rfl, hb3⟩; have B3 := Lib.hid (B2.out.trans (hb3.mono B2.out.size)); have L3 := Lib.hid (L2.out.call hb3); have X3 := Lib.hid (X2.out.trans (hb3.mono X2.out.size)); clear hb3 c26 c28; have c34 : w3.cell? ⟨w.heap.size, 4, none⟩ = some (.int .i64 q.pump) := L3.out.at_ 4; have c40 : w3.cell? ⟨w.heap.size, 5, none⟩ = some (.int .i64 q.inl) := L3.out.at_ 5; have c46 : w3.cell? ⟨w.heap.size, 6, none⟩ = some (.slice q.ds.A N q.ds.c) := (by rw [HN.out]; exact L3.out.at_ 6); have K35 := Lib.hid True.intro; clear K29))
        go_ret
        exact ⟨ret_int (by rw [HF.out]; simp), B3.out⟩
      | true =>
      cases y3 with
      | false =>
        go_wp2_with (first
          | (have h := K19; clear h; go_at_call 62; refine (Q1.out _).mono ?_; rintro e w2 ⟨rfl, hb2⟩; have B2 := Lib.hid (B0.out.trans (hb2.mono B0.out.size)); have L2 := Lib.hid (L0.out.call hb2); have X2 := Lib.hid hb2; clear hb2; have c26 : w2.cell? ⟨w.heap.size, 0, none⟩ = some (.int .i64 q.low) := L2.out.at_ 0; have c28 : w2.cell? ⟨w.heap.size, 1, none⟩ = some (.int .i64 q.high) := L2.out.at_ 1; have HRG := Lib.hid (show w2.rangeAt w.heap.size 2 [.int .i64 q.slo, .int .i64 q.shi] from Lies.range (cs := q.cells) L2.out (fun j v hj => by match j, hj with | 0, hj => exact hj | 1, hj => exact hj)); have K24 := Lib.hid True.intro; clear K19)
          | (have h := K24; clear h; refine wpList_load_midG (op := ⟨some 24, _, _, _, _, _⟩) ?_ 23 (.tmp 23) ?_ w.heap.size 2 ?_ [.int .i64 q.slo, .int .i64 q.shi] _ HRG.out Try.underlying23 rfl size_rr ?_; rfl; rfl; rfl; have K29 := Lib.hid True.intro; clear K24)
          | (have h := K29; clear h; go_at_call 62; refine (Q2.out _).mono ?_; rintro e w3 ⟨rfl, hb3⟩; have B3 := Lib.hid (B2.out.trans (hb3.mono B2.out.size)); have L3 := Lib.hid (L2.out.call hb3); have X3 := Lib.hid (X2.out.trans (hb3.mono X2.out.size)); clear hb3 c26 c28; have c34 : w3.cell? ⟨w.heap.size, 4, none⟩ = some (.int .i64 q.pump) := L3.out.at_ 4; have c40 : w3.cell? ⟨w.heap.size, 5, none⟩ = some (.int .i64 q.inl) := L3.out.at_ 5; have c46 : w3.cell? ⟨w.heap.size, 6, none⟩ = some (.slice q.ds.A N q.ds.c) := (by rw [HN.out]; exact L3.out.at_ 6); have K35 := Lib.hid True.intro; clear K29)
          | (have h := K35; clear h; go_at_call 25; refine (Q3.out _).mono ?_; rintro e w' ⟨rfl, rfl⟩; have K41 := Lib.hid True.intro; clear K35))
        go_ret
        exact ⟨ret_int (by rw [HF.out]; simp), B3.out⟩
      | true =>
      cases y4 with
      | false =>
        go_wp2_with (first
          | (have h := K19; clear h; go_at_call 62; refine (Q1.out _).mono ?_; rintro e w2 ⟨rfl, hb2⟩; have B2 := Lib.hid (B0.out.trans (hb2.mono B0.out.size)); have L2 := Lib.hid (L0.out.call hb2); have X2 := Lib.hid hb2; clear hb2; have c26 : w2.cell? ⟨w.heap.size, 0, none⟩ = some (.int .i64 q.low) := L2.out.at_ 0; have c28 : w2.cell? ⟨w.heap.size, 1, none⟩ = some (.int .i64 q.high) := L2.out.at_ 1; have HRG := Lib.hid (show w2.rangeAt w.heap.size 2 [.int .i64 q.slo, .int .i64 q.shi] from Lies.range (cs := q.cells) L2.out (fun j v hj => by match j, hj with | 0, hj => exact hj | 1, hj => exact hj)); have K24 := Lib.hid True.intro; clear K19)
          | (have h := K24; clear h; refine wpList_load_midG (op := ⟨some 24, _, _, _, _, _⟩) ?_ 23 (.tmp 23) ?_ w.heap.size 2 ?_ [.int .i64 q.slo, .int .i64 q.shi] _ HRG.out Try.underlying23 rfl size_rr ?_; rfl; rfl; rfl; have K29 := Lib.hid True.intro; clear K24)
          | (have h := K29; clear h; go_at_call 62; refine (Q2.out _).mono ?_; rintro e w3 ⟨rfl, hb3⟩; have B3 := Lib.hid (B2.out.trans (hb3.mono B2.out.size)); have L3 := Lib.hid (L2.out.call hb3); have X3 := Lib.hid (X2.out.trans (hb3.mono X2.out.size)); clear hb3 c26 c28; have c34 : w3.cell? ⟨w.heap.size, 4, none⟩ = some (.int .i64 q.pump) := L3.out.at_ 4; have c40 : w3.cell? ⟨w.heap.size, 5, none⟩ = some (.int .i64 q.inl) := L3.out.at_ 5; have c46 : w3.cell? ⟨w.heap.size, 6, none⟩ = some (.slice q.ds.A N q.ds.c) := (by rw [HN.out]; exact L3.out.at_ 6); have K35 := Lib.hid True.intro; clear K29)
          | (have h := K35; clear h; go_at_call 25; refine (Q3.out _).mono ?_; rintro e w' ⟨rfl, rfl⟩; have K41 := Lib.hid True.intro; clear K35)
          | (have h := K41; clear h; go_at_call 25; refine (Q4.out _).mono ?_; rintro e w' ⟨rfl, rfl⟩; clear K41))
        go_ret
        exact ⟨ret_int (by rw [HF.out]; simp), B3.out⟩
      | true =>
        go_wp2_with (first
          | (have h := K19; clear h; go_at_call 62; refine (Q1.out _).mono ?_; rintro e w2 ⟨rfl, hb2⟩; have B2 := Lib.hid (B0.out.trans (hb2.mono B0.out.size)); have L2 := Lib.hid (L0.out.call hb2); have X2 := Lib.hid hb2; clear hb2; have c26 : w2.cell? ⟨w.heap.size, 0, none⟩ = some (.int .i64 q.low) := L2.out.at_ 0; have c28 : w2.cell? ⟨w.heap.size, 1, none⟩ = some (.int .i64 q.high) := L2.out.at_ 1; have HRG := Lib.hid (show w2.rangeAt w.heap.size 2 [.int .i64 q.slo, .int .i64 q.shi] from Lies.range (cs := q.cells) L2.out (fun j v hj => by match j, hj with | 0, hj => exact hj | 1, hj => exact hj)); have K24 := Lib.hid True.intro; clear K19)
          | (have h := K24; clear h; refine wpList_load_midG (op := ⟨some 24, _, _, _, _, _⟩) ?_ 23 (.tmp 23) ?_ w.heap.size 2 ?_ [.int .i64 q.slo, .int .i64 q.shi] _ HRG.out Try.underlying23 rfl size_rr ?_; rfl; rfl; rfl; have K29 := Lib.hid True.intro; clear K24)
          | (have h := K29; clear h; go_at_call 62; refine (Q2.out _).mono ?_; rintro e w3 ⟨rfl, hb3⟩; have B3 := Lib.hid (B2.out.trans (hb3.mono B2.out.size)); have L3 := Lib.hid (L2.out.call hb3); have X3 := Lib.hid (X2.out.trans (hb3.mono X2.out.size)); clear hb3 c26 c28; have c34 : w3.cell? ⟨w.heap.size, 4, none⟩ = some (.int .i64 q.pump) := L3.out.at_ 4; have c40 : w3.cell? ⟨w.heap.size, 5, none⟩ = some (.int .i64 q.inl) := L3.out.at_ 5; have c46 : w3.cell? ⟨w.heap.size, 6, none⟩ = some (.slice q.ds.A N q.ds.c) := (by rw [HN.out]; exact L3.out.at_ 6); have K35 := Lib.hid True.intro; clear K29)
          | (have h := K35; clear h; go_at_call 25; refine (Q3.out _).mono ?_; rintro e w' ⟨rfl, rfl⟩; have K41 := Lib.hid True.intro; clear K35)
          | (have h := K41; clear h; go_at_call 25; refine (Q4.out _).mono ?_; rintro e w' ⟨rfl, rfl⟩; clear K41))
        have HF2 := Lib.hid (show ff = if q.ds.l.all Dy.okB then 0 else 1 by rw [HF.out]; simp)
        clear HF c34 c40 a0 a1 a6 L2 B2 HRG
        go_loopw [3, 4] (fun s3 _ wr => ∃ k : Nat, k ≤ N ∧ s3 = .int .i64 k ∧ Aside (Below w3.heap.size w3 wr) ∧ Aside (∀ j x, j < k → q.ds.l[j]? = some x → x.okB = true)) (fun i _ _ => N - (intOf i).toNat)
        case atStart => exact ⟨0, by omega, rfl, Below.refl _ _, fun j x hj => absurd hj (Nat.not_lt_zero _)⟩
        case round =>
          obtain ⟨k, hkN, rfl, BW, HH⟩ := hrel
          have a46 : wr.cell? ⟨w.heap.size, 6, none⟩ = some (.slice q.ds.A N q.ds.c) := by rw [HN.out]; exact (L3.out.call BW.out).at_ 6
          by_cases hlt : k < N
          · have hltz : (k : Int) < (N : Int) := by omega
            have hk0 : (0 : Int) ≤ (k : Int) := by omega
            have hdl : k < q.ds.l.length := by have := HN.out; omega
            obtain ⟨d, hd⟩ : ∃ d, q.ds.l[k]? = some d := ⟨q.ds.l[k]'hdl, by simp⟩
            have hsz3 : w.heap.size ≤ w3.heap.size := B3.out.size
            have hsz1 : w.heap.size ≤ w1.heap.size := B0.out.size
            obtain ⟨bd, od, hA, hbd, hrg⟩ := Sl.cellD ((HS.out.s.below (X3.out.mono hsz1)).below (BW.out.mono hsz3)) hd
            rw [hA] at a46
            have hq : d.okB = (spanP d.lo d.hi 0 30 && inB d.sp 0 30 && inB d.ou 0 100 && inB d.inn 0 100) := rfl
            have R1 := Lib.hid (fun W => span_any d.lo d.hi 0 30 W)
            have R2 := Lib.hid (fun W => In_any d.sp 0 30 W)
            have R3 := Lib.hid (fun W => In_any d.ou 0 100 W)
            have R4 := Lib.hid (fun W => In_any d.inn 0 100 W)
            have HRG := Lib.hid hrg
            have HQ := Lib.hid hq
            have HD := Lib.hid hd
            have HWB := Lib.hid (B3.out.trans (BW.out.mono B3.out.size))
            have BW0 := Lib.hid BW.out
            have HH0 := Lib.hid HH.out
            clear hA hbd hrg hq hd BW HH hdl
            generalize spanP d.lo d.hi 0 30 = z1 at *
            generalize inB d.sp 0 30 = z2 at *
            generalize inB d.ou 0 100 = z3 at *
            generalize inB d.inn 0 100 = z4 at *
            have K55 := Lib.hid True.intro
            go_upto_region 9 with (first
              | (have h := K55; clear h; refine wpList_load_mid (op := ⟨some 55, _, _, _, _, _⟩) ?_ 76 (.tmp 54) ?_ bd (od + k * 5) ?_ (encD d) _ HRG.out Try.underlying76 rfl size_rd ?_; rfl; rfl; rfl; clear K55))
            have R5 := Lib.hid (Lies.fresh wr 76 (encD d).toArray)
            have hal := (Below.refl wr.heap.size wr).alloc (Nat.le_refl _) (.cells (encD d).toArray 76)
            have BW5 := Lib.hid (BW0.out.trans (hal.mono BW0.out.size))
            have HW5 := Lib.hid (HWB.out.trans (hal.mono HWB.out.size))
            change Code.wp _ _ _ _ (wr.alloc (.cells (encD d).toArray 76))
            clear HRG a46 hal BW0 HWB
            generalize wr.alloc (.cells (encD d).toArray 76) = w5 at *
            generalize wr.heap.size = g5 at *
            have HR5 := Lib.hid (show w5.rangeAt g5 0 [.int .i64 d.lo, .int .i64 d.hi] from Lies.range (cs := encD d) R5.out (fun j v hj => by
              match j, hj with
              | 0, hj => exact hj
              | 1, hj => exact hj))
            have K57 := Lib.hid True.intro
            cases z1 with
            | false =>
              go_wp2_with (first
                | (have h := K57; clear h; refine wpList_load_mid (op := ⟨some 57, _, _, _, _, _⟩) ?_ 23 (.tmp 56) ?_ g5 0 ?_ [.int .i64 d.lo, .int .i64 d.hi] _ HR5.out Try.underlying23 rfl size_rr ?_; rfl; rfl; rfl; have K58 := Lib.hid True.intro; clear K57)
                | (have h := K58; clear h; go_at_call 62; refine (R1.out _).mono ?_; rintro e w6 ⟨rfl, hb6⟩; have BW6 := Lib.hid (BW5.out.trans (hb6.mono BW5.out.size)); have HW6 := Lib.hid (HW5.out.trans (hb6.mono HW5.out.size)); have R6 := Lib.hid (R5.out.call hb6); clear hb6; have c62 : w6.cell? ⟨g5, 2, none⟩ = some (.int .i64 d.sp) := R6.out.at_ 2; have c68 : w6.cell? ⟨g5, 3, none⟩ = some (.int .i64 d.ou) := R6.out.at_ 3; have c74 : w6.cell? ⟨g5, 4, none⟩ = some (.int .i64 d.inn) := R6.out.at_ 4; have K63 := Lib.hid True.intro; clear K58))
              go_ret
              exact ⟨ret_int (by rw [HF2.out, all_hit HD.out (by rw [HQ.out]; rfl)]; rfl), HW6.out⟩
            | true =>
            cases z2 with
            | false =>
              go_wp2_with (first
                | (have h := K57; clear h; refine wpList_load_mid (op := ⟨some 57, _, _, _, _, _⟩) ?_ 23 (.tmp 56) ?_ g5 0 ?_ [.int .i64 d.lo, .int .i64 d.hi] _ HR5.out Try.underlying23 rfl size_rr ?_; rfl; rfl; rfl; have K58 := Lib.hid True.intro; clear K57)
                | (have h := K58; clear h; go_at_call 62; refine (R1.out _).mono ?_; rintro e w6 ⟨rfl, hb6⟩; have BW6 := Lib.hid (BW5.out.trans (hb6.mono BW5.out.size)); have HW6 := Lib.hid (HW5.out.trans (hb6.mono HW5.out.size)); have R6 := Lib.hid (R5.out.call hb6); clear hb6; have c62 : w6.cell? ⟨g5, 2, none⟩ = some (.int .i64 d.sp) := R6.out.at_ 2; have c68 : w6.cell? ⟨g5, 3, none⟩ = some (.int .i64 d.ou) := R6.out.at_ 3; have c74 : w6.cell? ⟨g5, 4, none⟩ = some (.int .i64 d.inn) := R6.out.at_ 4; have K63 := Lib.hid True.intro; clear K58)
                | (have h := K63; clear h; go_at_call 25; refine (R2.out _).mono ?_; rintro e w' ⟨rfl, rfl⟩; have K69 := Lib.hid True.intro; clear K63))
              go_ret
              exact ⟨ret_int (by rw [HF2.out, all_hit HD.out (by rw [HQ.out]; rfl)]; rfl), HW6.out⟩
            | true =>
            cases z3 with
            | false =>
              go_wp2_with (first
                | (have h := K57; clear h; refine wpList_load_mid (op := ⟨some 57, _, _, _, _, _⟩) ?_ 23 (.tmp 56) ?_ g5 0 ?_ [.int .i64 d.lo, .int .i64 d.hi] _ HR5.out Try.underlying23 rfl size_rr ?_; rfl; rfl; rfl; have K58 := Lib.hid True.intro; clear K57)
                | (have h := K58; clear h; go_at_call 62; refine (R1.out _).mono ?_; rintro e w6 ⟨rfl, hb6⟩; have BW6 := Lib.hid (BW5.out.trans (hb6.mono BW5.out.size)); have HW6 := Lib.hid (HW5.out.trans (hb6.mono HW5.out.size)); have R6 := Lib.hid (R5.out.call hb6); clear hb6; have c62 : w6.cell? ⟨g5, 2, none⟩ = some (.int .i64 d.sp) := R6.out.at_ 2; have c68 : w6.cell? ⟨g5, 3, none⟩ = some (.int .i64 d.ou) := R6.out.at_ 3; have c74 : w6.cell? ⟨g5, 4, none⟩ = some (.int .i64 d.inn) := R6.out.at_ 4; have K63 := Lib.hid True.intro; clear K58)
                | (have h := K63; clear h; go_at_call 25; refine (R2.out _).mono ?_; rintro e w' ⟨rfl, rfl⟩; have K69 := Lib.hid True.intro; clear K63)
                | (have h := K69; clear h; go_at_call 25; refine (R3.out _).mono ?_; rintro e w' ⟨rfl, rfl⟩; have K75 := Lib.hid True.intro; clear K69))
              go_ret
              exact ⟨ret_int (by rw [HF2.out, all_hit HD.out (by rw [HQ.out]; rfl)]; rfl), HW6.out⟩
            | true =>
            cases z4 with
            | false =>
              go_wp2_with (first
                | (have h := K57; clear h; refine wpList_load_mid (op := ⟨some 57, _, _, _, _, _⟩) ?_ 23 (.tmp 56) ?_ g5 0 ?_ [.int .i64 d.lo, .int .i64 d.hi] _ HR5.out Try.underlying23 rfl size_rr ?_; rfl; rfl; rfl; have K58 := Lib.hid True.intro; clear K57)
                | (have h := K58; clear h; go_at_call 62; refine (R1.out _).mono ?_; rintro e w6 ⟨rfl, hb6⟩; have BW6 := Lib.hid (BW5.out.trans (hb6.mono BW5.out.size)); have HW6 := Lib.hid (HW5.out.trans (hb6.mono HW5.out.size)); have R6 := Lib.hid (R5.out.call hb6); clear hb6; have c62 : w6.cell? ⟨g5, 2, none⟩ = some (.int .i64 d.sp) := R6.out.at_ 2; have c68 : w6.cell? ⟨g5, 3, none⟩ = some (.int .i64 d.ou) := R6.out.at_ 3; have c74 : w6.cell? ⟨g5, 4, none⟩ = some (.int .i64 d.inn) := R6.out.at_ 4; have K63 := Lib.hid True.intro; clear K58)
                | (have h := K63; clear h; go_at_call 25; refine (R2.out _).mono ?_; rintro e w' ⟨rfl, rfl⟩; have K69 := Lib.hid True.intro; clear K63)
                | (have h := K69; clear h; go_at_call 25; refine (R3.out _).mono ?_; rintro e w' ⟨rfl, rfl⟩; have K75 := Lib.hid True.intro; clear K69)
                | (have h := K75; clear h; go_at_call 25; refine (R4.out _).mono ?_; rintro e w' ⟨rfl, rfl⟩; clear K75))
              go_ret
              exact ⟨ret_int (by rw [HF2.out, all_hit HD.out (by rw [HQ.out]; rfl)]; rfl), HW6.out⟩
            | true =>
              go_wp2_with (first
                | (have h := K57; clear h; refine wpList_load_mid (op := ⟨some 57, _, _, _, _, _⟩) ?_ 23 (.tmp 56) ?_ g5 0 ?_ [.int .i64 d.lo, .int .i64 d.hi] _ HR5.out Try.underlying23 rfl size_rr ?_; rfl; rfl; rfl; have K58 := Lib.hid True.intro; clear K57)
                | (have h := K58; clear h; go_at_call 62; refine (R1.out _).mono ?_; rintro e w6 ⟨rfl, hb6⟩; have BW6 := Lib.hid (BW5.out.trans (hb6.mono BW5.out.size)); have HW6 := Lib.hid (HW5.out.trans (hb6.mono HW5.out.size)); have R6 := Lib.hid (R5.out.call hb6); clear hb6; have c62 : w6.cell? ⟨g5, 2, none⟩ = some (.int .i64 d.sp) := R6.out.at_ 2; have c68 : w6.cell? ⟨g5, 3, none⟩ = some (.int .i64 d.ou) := R6.out.at_ 3; have c74 : w6.cell? ⟨g5, 4, none⟩ = some (.int .i64 d.inn) := R6.out.at_ 4; have K63 := Lib.hid True.intro; clear K58)
                | (have h := K63; clear h; go_at_call 25; refine (R2.out _).mono ?_; rintro e w' ⟨rfl, rfl⟩; have K69 := Lib.hid True.intro; clear K63)
                | (have h := K69; clear h; go_at_call 25; refine (R3.out _).mono ?_; rintro e w' ⟨rfl, rfl⟩; have K75 := Lib.hid True.intro; clear K69)
                | (have h := K75; clear h; go_at_call 25; refine (R4.out _).mono ?_; rintro e w' ⟨rfl, rfl⟩; clear K75))
              go_roundw
              case rel =>
                refine ⟨k + 1, by omega, by go_num, BW6.out, (show Aside _ from fun j y hj hy => ?_)⟩
                by_cases e : j = k
                · subst e
                  rw [HD.out] at hy; cases hy; rw [HQ.out]; rfl
                · exact HH0.out j y (by omega) hy
              case measure => simp [intOf]; omega
          · obtain rfl : k = N := by omega
            have HW5 := Lib.hid (B3.out.trans (BW.out.mono B3.out.size))
            have hall : q.ds.l.all Dy.okB = true := all_miss (fun j x hj hx => HH.out j x (by rw [HN.out]; exact hj) hx)
            have HALL := Lib.hid hall
            clear hall BW HH
            go_wp2
            go_ret
            exact ⟨ret_int (by rw [HF2.out, HALL.out]; rfl), HW5.out⟩
theorem Thin_any (q : PoM) (w : World) : Calls Try.prog 15 #[.agg q.cells.toArray] w fun e w' => e = .returned (.bool (decide (q.ds.l.length ≤ 15))) ∧ Below w.heap.size w w' := by
  have b0 : Below w.heap.size w (w.alloc (.cells q.cells.toArray 26)) := (by repeat (first | (with_reducible assumption) | (with_reducible exact Below.refl _ _) | (with_reducible refine Below.drew ?_) | (with_reducible refine below_drewN ?_ _) | ((with_reducible refine Below.setCell ?_ ?_ _); rotate_left; focus (first | (simp; done) | (simp; omega) | omega)) | ((with_reducible refine Below.alloc ?_ ?_ _); rotate_left; focus (first | (simp; done) | (simp; omega) | omega))))
  have l0 : Lies (w.alloc (.cells q.cells.toArray 26)) w.heap.size 26 q.cells.toArray := Lies.fresh _ _ _
  have a6 : (w.alloc (.cells q.cells.toArray 26)).cell? ⟨w.heap.size, 6, none⟩ = some (.slice q.ds.A q.ds.l.length q.ds.c) := l0.at_ 6
  have B0 := Lib.hid b0
  clear b0 l0
  by_cases h : q.ds.l.length ≤ 15
  · have hz : (q.ds.l.length : Int) ≤ 15 := by omega
    rw [decide_eq_true h]
    clear h
    go_enter Try.func15, Try.ntmps15
    go_upto_region 1 with (fail)
    change Code.wp _ _ _ _ (w.alloc (.cells q.cells.toArray 26))
    generalize w.alloc (.cells q.cells.toArray 26) = w1 at *
    go_wp2
    go_ret
    exact ⟨ret_bool rfl, B0.out⟩
  · have hz : ¬ (q.ds.l.length : Int) ≤ 15 := by omega
    rw [decide_eq_false h]
    clear h
    go_enter Try.func15, Try.ntmps15
    go_upto_region 1 with (fail)
    change Code.wp _ _ _ _ (w.alloc (.cells q.cells.toArray 26))
    generalize w.alloc (.cells q.cells.toArray 26) = w1 at *
    go_wp2
    go_ret
    exact ⟨ret_bool rfl, B0.out⟩
end Go.Proofs.Yteognijlgalahaa
