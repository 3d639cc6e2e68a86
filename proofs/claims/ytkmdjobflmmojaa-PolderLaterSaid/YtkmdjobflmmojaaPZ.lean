/- PolderLater. -/
import Derived.Test.YtkmdjobflmmojaaPY
namespace Go.Proofs.Ytkmdjobflmmojaa
open Go.RowKit Go.Lib
attribute [local go_sem] Oper.semAt_some

/-- The polder from a day on, with a level as its start. -/
def PoD.later (p : PoD) (d : Nat) (lv : Int) : PoD := { p with slo := lv, shi := lv, ds := p.ds.drop d }
theorem later_bestTo (p : PoD) (d : Nat) (lv : Int) (nx : Int → Int) (dy : Dy) (l : Int) : ∀ k, (p.later d lv).bestTo nx dy l k = p.bestTo nx dy l k
  | 0 => rfl
  | k + 1 => by
    unfold PoD.bestTo
    rw [later_bestTo p d lv nx dy l k]
    rfl
theorem later_best (p : PoD) (d : Nat) (lv : Int) (nx : Int → Int) (dy : Dy) (l : Int) : (p.later d lv).bestD nx dy l = p.bestD nx dy l := later_bestTo p d lv nx dy l _
theorem later_vals (p : PoD) (d : Nat) (lv : Int) : ∀ ds, (p.later d lv).vals ds = p.vals ds
  | [] => rfl
  | dy :: ds => by
    funext l
    show ((p.later d lv).bestD ((p.later d lv).vals ds) dy l).2 = (p.bestD (p.vals ds) dy l).2
    rw [later_vals p d lv ds, later_best]
theorem PoD.Ok.later {p : PoD} (h : p.Ok) {d : Nat} {lv : Int} (hd : d < p.ds.length) (h1 : p.low ≤ lv) (h2 : lv ≤ p.high) : (p.later d lv).Ok :=
  ⟨by show 1 ≤ (p.ds.drop d).length; rw [List.length_drop]; omega, by show (p.ds.drop d).length ≤ 12; rw [List.length_drop]; have := h.n2; omega, h.l0, h.l1, h.l2, h1, Int.le_refl _, h2, h.p0, h.p1, h.i0, h.i1, fun x hx => h.d x (List.mem_of_mem_drop hx)⟩
/-- What Best and Least tell of it. -/
theorem later_all {p : PoD} (h : p.Ok) {d : Nat} {lv : Int} (hd : d < p.ds.length) (h1 : p.low ≤ lv) (h2 : lv ≤ p.high) :
    ∃ a c : Int, ((c = -1 ∧ p.bestR d lv = (0, 0, 9) ∧ (p.later d lv).leastR = (0, 9) ∧ (p.later d lv).bestR 0 lv = (0, 0, 9)) ∨ (c ≠ -1 ∧ p.bestR d lv = (a, c, 0) ∧ (p.later d lv).leastR = (c, 0) ∧ (p.later d lv).bestR 0 lv = (a, c, 0))) := by
  have hok := h.later hd h1 h2
  have hf := PoD.fault_iff.2 hok
  obtain ⟨dy, hdy⟩ : ∃ dy, p.ds[d]? = some dy := ⟨p.ds[d], by simp [hd]⟩
  obtain ⟨b, hb⟩ : ∃ b, b = p.bestD (p.vals (p.ds.drop (d + 1))) dy lv := ⟨_, rfl⟩
  have hdr : p.ds.drop d = dy :: p.ds.drop (d + 1) := by rw [List.drop_eq_getElem_cons hd, (List.getElem?_eq_some_iff.1 hdy).2]
  have hv : p.vals (p.ds.drop d) lv = b.2 := by rw [hdr, hb]; rfl
  have hge : -1 ≤ b.2 := by rw [← hv]; exact h.cstDrop d lv
  have r1 : p.bestR d lv = if b.2 = -1 then (0, 0, 9) else (b.1, b.2, 0) := by
    have h0 : p.levR d lv = 0 := PoD.levR_zero.2 ⟨h, by unfold PoD.levB; rw [Bool.and_eq_true, Bool.and_eq_true, decide_eq_true_eq, decide_eq_true_eq, inB_iff]; omega⟩
    unfold PoD.bestR
    rw [h0, if_neg (by simp)]
    have e : p.ds.getD (d : Int).toNat ⟨0, 0, 0, 0, 0⟩ = dy := by rw [Int.toNat_natCast, List.getD, hdy]; rfl
    rw [e, Int.toNat_natCast, ← hb]
  have r3 : (p.later d lv).bestR 0 lv = if b.2 = -1 then (0, 0, 9) else (b.1, b.2, 0) := by
    have h0 : (p.later d lv).levR 0 lv = 0 := PoD.levR_zero.2 ⟨hok, by unfold PoD.levB; rw [Bool.and_eq_true, Bool.and_eq_true, decide_eq_true_eq, decide_eq_true_eq, inB_iff]; exact ⟨⟨Int.le_refl _, by have := hok.n1; omega⟩, h1, h2⟩⟩
    unfold PoD.bestR
    rw [h0, if_neg (by simp)]
    have e : (p.later d lv).ds.getD (0 : Int).toNat ⟨0, 0, 0, 0, 0⟩ = dy := by show (p.ds.drop d).getD 0 _ = dy; rw [hdr]; rfl
    have e2 : (p.later d lv).ds.drop ((0 : Int).toNat + 1) = p.ds.drop (d + 1) := by show (p.ds.drop d).drop 1 = _; rw [List.drop_drop]
    rw [e, e2, later_vals, later_best, ← hb]
  have r2 : (p.later d lv).costD = b.2 := by
    unfold PoD.costD
    have e : (p.later d lv).starts = 1 := by show (lv + 1 - lv).toNat = 1; omega
    rw [e]
    show gre 0 ((p.later d lv).vals (p.ds.drop d) (lv + ((0 : Nat) : Int))) = b.2
    rw [later_vals, show lv + ((0 : Nat) : Int) = lv by omega, hv]
    unfold gre
    rw [if_neg (by decide)]
    split
    · rename_i e3; rw [e3]
    · omega
  refine ⟨b.1, b.2, ?_⟩
  by_cases hc : b.2 = -1
  · refine .inl ⟨hc, by rw [r1, if_pos hc], ?_, by rw [r3, if_pos hc]⟩
    unfold PoD.leastR
    rw [hf, r2, if_neg (by simp), if_pos hc]
  · refine .inr ⟨hc, by rw [r1, if_neg hc], ?_, by rw [r3, if_neg hc]⟩
    unfold PoD.leastR
    rw [hf, r2, if_neg (by simp), if_neg hc]
theorem from_d (q : PoM) (b off d : Nat) (lv : Int) : (q.from_ b off d lv).d = q.d.later d lv := rfl
theorem from_at {q : PoM} {w : World} (h : q.At w w.heap.size) {b off d : Nat} {lv : Int} (hA : q.ds.A = some ⟨b, off, none⟩) (hd : d < q.ds.l.length) : (q.from_ b off d lv).At w w.heap.size :=
  ⟨fun hne => by
    obtain ⟨b', off', e, hb, hc⟩ := h.s (by intro e; rw [e] at hd; simp at hd)
    rw [hA] at e
    cases e
    refine ⟨b, off + d * 5, rfl, hb, fun i x hx k u hu => ?_⟩
    have hx' : (q.ds.l.drop d)[i]? = some x := hx
    rw [List.getElem?_drop] at hx'
    have := hc (d + i) x hx' k u hu
    have e : off + d * 5 + i * 5 = off + (d + i) * 5 := by omega
    rw [e]; exact this, by show (q.ds.l.drop d).length ≤ _; rw [List.length_drop]; have := h.l; omega⟩
set_option maxRecDepth 100000 in
set_option maxHeartbeats 8000000 in
theorem PolderLater_walk (q : PoM) (x y : Nat) (w : World) (h : OpenPo q w) (hx255 : x ≤ 255) (hy255 : y ≤ 255) : Calls Try.prog 13 #[.agg q.cells.toArray, .int .u8 x, .int .u8 y] w fun e w' => e = .returned (.bool true) ∧ Below w.heap.size w w' := by
  have l0 : Lies (w.alloc (.cells q.cells.toArray 26)) w.heap.size 26 q.cells.toArray := Lies.fresh _ _ _
  have b0 : Below w.heap.size w (w.alloc (.cells q.cells.toArray 26)) := (by repeat (first | (with_reducible assumption) | (with_reducible exact Below.refl _ _) | (with_reducible refine Below.drew ?_) | (with_reducible refine below_drewN ?_ _) | ((with_reducible refine Below.setCell ?_ ?_ _); rotate_left; focus (first | (simp; done) | (simp; omega) | omega)) | ((with_reducible refine Below.alloc ?_ ?_ _); rotate_left; focus (first | (simp; done) | (simp; omega) | omega))))
  have hre := ready_any q (w.alloc (.cells q.cells.toArray 26)) ⟨(h.s.below b0).more b0.size, h.m, h.c⟩
  have hrr : q.d.readyB = true → q.d.Ok ∧ q.ds.l.length ≤ 12 := fun h => by
    unfold PoD.readyB at h
    rw [Bool.and_eq_true, decide_eq_true_eq, decide_eq_true_eq] at h
    have := PoD.fault_iff.1 h.2
    exact ⟨this, this.n2⟩
  have HR := Lib.hid hre
  have HRR := Lib.hid hrr
  have HO := Lib.hid h
  have L0 := Lib.hid l0
  have B0 := Lib.hid b0
  have K18 := Lib.hid True.intro
  clear l0 b0 hre hrr h
  cases hyy : q.d.readyB with
  | false =>
    rw [hyy] at HR
    clear hyy HRR
    go_enter Try.func13, Try.ntmps13
    go_upto_region 1 with (fail)
    change Code.wp _ _ _ _ (w.alloc (.cells q.cells.toArray 26))
    generalize w.alloc (.cells q.cells.toArray 26) = w1 at *
    go_wp2_with (first
      | (have h := K18; clear h; refine wpList_load_row (o := ⟨some 18, _, _, _, _, _⟩) ?_ 26 (.tmp 3) ?_ w.heap.size ?_ 26 q.cells.toArray (0, 0) _ L0.out Try.underlying26 rfl size_rp ?_; rfl; rfl; rfl; clear K18)
      | (go_at_call 42; refine HR.out.mono ?_; rintro e w2 ⟨rfl, hb2⟩)
      | (go_at_call 16; refine (wakes_any _).mono ?_; rintro e w3 ⟨rfl, hb3⟩))
    go_ret
    exact ⟨rfl, B0.out.trans ((hb2.trans (hb3.mono hb2.size)).mono B0.out.size)⟩
  | true =>
    rw [hyy] at HR
    obtain ⟨hok, hl12⟩ := HRR.out hyy
    have hn1 : 1 ≤ q.ds.l.length := hok.n1
    have hl0 : 0 ≤ q.low := hok.l0
    have hl1 : q.low ≤ q.high := hok.l1
    have hl2 : q.high ≤ 60 := hok.l2
    obtain ⟨N, hN⟩ : ∃ N, N = q.ds.l.length := ⟨_, rfl⟩
    obtain ⟨M, hM⟩ : ∃ M : Nat, (M : Int) = q.high - q.low + 1 := ⟨(q.high - q.low + 1).toNat, by omega⟩
    have hN0 : (N : Int) ≠ 0 := by omega
    have hNz : (N : Int) ≤ 12 := by omega
    have hM0 : (M : Int) ≠ 0 := by omega
    have hMz : (M : Int) ≤ 61 := by omega
    have hn0 : (0 : Int) ≤ (x : Int) % (N : Int) := Int.emod_nonneg _ (by omega)
    have hn1' : (x : Int) % (N : Int) < N := Int.emod_lt_of_pos _ (by omega)
    have hm0 : (0 : Int) ≤ (y : Int) % (M : Int) := Int.emod_nonneg _ (by omega)
    have hm1 : (y : Int) % (M : Int) < M := Int.emod_lt_of_pos _ (by omega)
    obtain ⟨d, hd⟩ : ∃ d : Nat, (x : Int) % (N : Int) = (d : Int) := ⟨x % N, by omega⟩
    obtain ⟨lv, hlv⟩ : ∃ lv : Int, q.low + (y : Int) % (M : Int) = lv := ⟨_, rfl⟩
    have hdN : d < q.ds.l.length := by omega
    have hlv0 : q.low ≤ lv := by omega
    have hlv1 : lv ≤ q.high := by omega
    obtain ⟨a, c, hall⟩ := later_all (p := q.d) hok hdN hlv0 hlv1
    have HALL := Lib.hid hall
    have hat : q.At w w.heap.size := HO.out.at_ (by omega)
    have HAT := Lib.hid hat
    have HC := Lib.hid HO.out.c
    have HM := Lib.hid hM
    have HN := Lib.hid hN
    have HD := Lib.hid hd
    have HLV := Lib.hid hlv
    have HDN := Lib.hid hdN
    have hl15 : q.ds.l.length ≤ 15 := by omega
    have HL15 := Lib.hid hl15
    have hxz : (x : Int) ≤ 255 := by omega
    have hyz : (y : Int) ≤ 255 := by omega
    have hwx : IntKind.i64.wrap (x : Int) = x := IntWalk.i64_in _ (by omega)
    have hwy : IntKind.i64.wrap (y : Int) = y := IntWalk.i64_in _ (by omega)
    have hwM : IntKind.i64.wrap (q.high - q.low) = q.high - q.low := IntWalk.i64_in _ (by omega)
    have hwM1 : IntKind.i64.wrap (q.high - q.low + 1) = (M : Int) := by rw [IntWalk.i64_in _ (by omega), hM]
    have hwL : IntKind.i64.wrap (q.low + (y : Int) % (M : Int)) = lv := by rw [IntWalk.i64_in _ (by omega), hlv]
    clear hyy HRR hok hall hat hN hM hd hlv hdN hl15 hl12 hn1 HO
    go_enter Try.func13, Try.ntmps13
    go_upto_region 1 with (fail)
    change Code.wp _ _ _ _ (w.alloc (.cells q.cells.toArray 26))
    generalize w.alloc (.cells q.cells.toArray 26) = w1 at *
    go_upto_region 3 with (first
      | (have h := K18; clear h; refine wpList_load_row (o := ⟨some 18, _, _, _, _, _⟩) ?_ 26 (.tmp 3) ?_ w.heap.size ?_ 26 q.cells.toArray (0, 0) _ L0.out Try.underlying26 rfl size_rp ?_; rfl; rfl; rfl; clear K18)
      | (go_at_call 42; refine HR.out.mono ?_; rintro e w2 ⟨rfl, hb2⟩; have B2 := Lib.hid (B0.out.trans (hb2.mono B0.out.size)); have L2 := Lib.hid (L0.out.call hb2); clear hb2))
    have c25 := (show w2.cell? ⟨w.heap.size, 6, none⟩ = some (.slice q.ds.A N q.ds.c) by rw [HN.out]; exact L2.out.at_ 6)
    have c29 := (show w2.cell? ⟨w.heap.size, 0, none⟩ = some (.int .i64 q.low) from L2.out.at_ 0)
    have c33 := (show w2.cell? ⟨w.heap.size, 1, none⟩ = some (.int .i64 q.high) from L2.out.at_ 1)
    clear HR B0 L0
    go_quiet (fail)
    clear c25 c29 c33
    rw [HD.out]
    have hbd : Below w2.heap.size w2 (w2.drewN nq) := below_drewN (Below.refl _ _) nq
    have B3 := Lib.hid (B2.out.trans (hbd.mono B2.out.size))
    have L3 := Lib.hid (L2.out.call hbd)
    clear hbd B2 L2
    generalize w2.drewN nq = w3 at *
    clear hn0 hn1' hm0 hm1 hN0 hM0 hwM hwM1 hwL hwx hwy hxz hyz hNz hMz HM HLV HN
    rcases HALL.out with ⟨hcc, e1, e2, e3⟩ | ⟨hcc, e1, e2, e3⟩
    · have HE1 := Lib.hid (fun A3 c3 W (hat : (q.withA A3 c3).At W W.heap.size) => (show Calls Try.prog 23 #[.agg (q.withA A3 c3).cells.toArray, .int .i64 d, .int .i64 lv] W fun e w' => e = .returned (.tuple #[.int .i64 0, .int .i64 0, .int .i64 9]) ∧ Below W.heap.size W w' by
        have := Best_any (q.withA A3 c3) d lv W hat
        rw [show (q.withA A3 c3).d.bestR d lv = (0, 0, 9) from e1] at this
        exact this))
      have HE2 := Lib.hid (fun bf off A4 c4 W (hat : ((q.from_ bf off d lv).withA A4 c4).At W W.heap.size) => (show Calls Try.prog 22 #[.agg ((q.from_ bf off d lv).withA A4 c4).cells.toArray] W fun e w' => e = .returned (.tuple #[.int .i64 0, .int .i64 9]) ∧ Below W.heap.size W w' by
        have := Least_any ((q.from_ bf off d lv).withA A4 c4) W hat
        rw [show ((q.from_ bf off d lv).withA A4 c4).d.leastR = (0, 9) from e2] at this
        exact this))
      have HE3 := Lib.hid (fun bf off A4 c4 W (hat : ((q.from_ bf off d lv).withA A4 c4).At W W.heap.size) => (show Calls Try.prog 23 #[.agg ((q.from_ bf off d lv).withA A4 c4).cells.toArray, .int .i64 0, .int .i64 lv] W fun e w' => e = .returned (.tuple #[.int .i64 0, .int .i64 0, .int .i64 9]) ∧ Below W.heap.size W w' by
        have := Best_any ((q.from_ bf off d lv).withA A4 c4) 0 lv W hat
        rw [show ((q.from_ bf off d lv).withA A4 c4).d.bestR 0 lv = (0, 0, 9) from e3] at this
        exact this))
      clear hcc e1 e2 e3 HALL
      have K41 := Lib.hid True.intro
      go_upto_region 6 with (first
        | (have h := K41; clear h; refine wpList_load_row (o := ⟨some 41, _, _, _, _, _⟩) ?_ 26 (.tmp 3) ?_ w.heap.size ?_ 26 q.cells.toArray (0, 0) _ L3.out Try.underlying26 rfl size_rp ?_; rfl; rfl; rfl; have K42 := Lib.hid True.intro; clear K41)
        | (have h := K42; clear h; go_at_call 18; refine (Copy_any q _ (HAT.out.below B3.out B3.out.size) HL15.out).mono ?_; rintro e w4 ⟨A3, c3, rfl, hat4, hb4⟩; have HT4 := Lib.hid hat4; have B4 := Lib.hid (B3.out.trans (hb4.mono B3.out.size)); have L4 := Lib.hid (L3.out.call hb4); clear hat4 hb4; have K45 := Lib.hid True.intro; clear K42)
        | (have h := K45; clear h; go_at_call 23; refine (HE1.out A3 c3 _ HT4.out).mono ?_; rintro e w5 ⟨rfl, hb5⟩; have B5 := Lib.hid (B4.out.trans (hb5.mono B4.out.size)); have L5 := Lib.hid (L4.out.call hb5); clear hb5; have K49 := Lib.hid True.intro; clear K45)
        | (have h := K49; clear h; refine wpList_load_row (o := ⟨some 49, _, _, _, _, _⟩) ?_ 26 (.tmp 3) ?_ w.heap.size ?_ 26 q.cells.toArray (0, 0) _ L5.out Try.underlying26 rfl size_rp ?_; rfl; rfl; rfl; have K52 := Lib.hid True.intro; clear K49)
        | (have h := K52; clear h; go_at_call 45; refine (From_any q d lv _ (HAT.out.below B5.out B5.out.size) HDN.out HL15.out HC.out).mono ?_; rintro e w6 ⟨bf, off, hAf, rfl, hb6⟩; have HAF := Lib.hid hAf; have B6 := Lib.hid (B5.out.trans (hb6.mono B5.out.size)); have HF6 := Lib.hid (from_at (lv := lv) (HAT.out.below B6.out B6.out.size) hAf HDN.out); clear hb6 hAf; have K53 := Lib.hid True.intro; clear K52)
        | (have h := K53; clear h; go_at_call 18; refine (Copy_any (q.from_ bf off d lv) _ HF6.out (show (q.ds.l.drop d).length ≤ 15 by rw [List.length_drop]; have := HL15.out; omega)).mono ?_; rintro e w7 ⟨A4, c4, rfl, hat7, hb7⟩; have HT7 := Lib.hid hat7; have B7 := Lib.hid (B6.out.trans (hb7.mono B6.out.size)); have Z7 := Lib.hid (Lies.fresh w7 34 zpo.toArray); clear hat7 hb7; have KST := Lib.hid True.intro; clear K53)
        | (have h := KST; clear h; refine wpList_store_cells (o := ⟨none, .store 34 (.tmp 12) _, _, _, _, _⟩) ?_ 34 (.tmp 12) (.tmp 53) ?_ w7.heap.size 0 ?_ 34 zpo ((q.from_ bf off d lv).withA A4 c4).cells ?_ Z7.out (by simp [zpo, PoM.cells]) size_po (cells_one _) ?_; rfl; rfl; rfl; rfl; intro w8 HS8 HO8; clear KST))
      have hs8 := HS8.out
      rw [splice_whole (by simp [zpo, PoM.cells])] at hs8
      have hb8 : Below w7.heap.size w7 w8 := HO8.out.below ((Below.refl _ _).alloc (Nat.le_refl _) _) (Nat.le_refl _)
      have L8 := Lib.hid hs8
      have B8 := Lib.hid (B7.out.trans (hb8.mono B7.out.size))
      have HT8 := Lib.hid (HT7.out.below hb8 hb8.size)
      clear hs8 hb8 HS8 HO8 HT7 Z7 L5 L4 HE1
      generalize w7.heap.size = g12 at *
      have K55 := Lib.hid True.intro
      go_wp2_with (first
        | (have h := K55; clear h; refine wpList_load_row (o := ⟨some 55, _, _, _, _, _⟩) ?_ 34 (.tmp 12) ?_ g12 ?_ 34 ((q.from_ bf off d lv).withA A4 c4).cells.toArray (0, 0) _ L8.out Try.underlying34 rfl size_po ?_; rfl; rfl; rfl; have K56 := Lib.hid True.intro; clear K55)
        | (have h := K56; clear h; go_at_call 22; refine (HE2.out bf off A4 c4 _ HT8.out).mono ?_; rintro e w9 ⟨rfl, hb9⟩; have B9 := Lib.hid (B8.out.trans (hb9.mono B8.out.size)); have L9 := Lib.hid (L8.out.call hb9); have HT9 := Lib.hid (HT8.out.below hb9 hb9.size); clear hb9; have K60 := Lib.hid True.intro; clear K56)
        | (have h := K60; clear h; refine wpList_load_row (o := ⟨some 60, _, _, _, _, _⟩) ?_ 34 (.tmp 12) ?_ g12 ?_ 34 ((q.from_ bf off d lv).withA A4 c4).cells.toArray (0, 0) _ L9.out Try.underlying34 rfl size_po ?_; rfl; rfl; rfl; have K62 := Lib.hid True.intro; clear K60)
        | (have h := K62; clear h; go_at_call 23; refine (HE3.out bf off A4 c4 _ HT9.out).mono ?_; rintro e w10 ⟨rfl, hb10⟩; have B10 := Lib.hid (B9.out.trans (hb10.mono B9.out.size)); clear hb10; have KW := Lib.hid True.intro; clear K62)
        | (have h := KW; clear h; go_at_call 16; refine (wakes_any _).mono ?_; rintro e w11 ⟨rfl, hb11⟩; clear KW))
      go_ret
      exact ⟨rfl, B10.out.trans (hb11.mono B10.out.size)⟩
    · have HE1 := Lib.hid (fun A3 c3 W (hat : (q.withA A3 c3).At W W.heap.size) => (show Calls Try.prog 23 #[.agg (q.withA A3 c3).cells.toArray, .int .i64 d, .int .i64 lv] W fun e w' => e = .returned (.tuple #[.int .i64 a, .int .i64 c, .int .i64 0]) ∧ Below W.heap.size W w' by
        have := Best_any (q.withA A3 c3) d lv W hat
        rw [show (q.withA A3 c3).d.bestR d lv = (a, c, 0) from e1] at this
        exact this))
      have HE2 := Lib.hid (fun bf off A4 c4 W (hat : ((q.from_ bf off d lv).withA A4 c4).At W W.heap.size) => (show Calls Try.prog 22 #[.agg ((q.from_ bf off d lv).withA A4 c4).cells.toArray] W fun e w' => e = .returned (.tuple #[.int .i64 c, .int .i64 0]) ∧ Below W.heap.size W w' by
        have := Least_any ((q.from_ bf off d lv).withA A4 c4) W hat
        rw [show ((q.from_ bf off d lv).withA A4 c4).d.leastR = (c, 0) from e2] at this
        exact this))
      have HE3 := Lib.hid (fun bf off A4 c4 W (hat : ((q.from_ bf off d lv).withA A4 c4).At W W.heap.size) => (show Calls Try.prog 23 #[.agg ((q.from_ bf off d lv).withA A4 c4).cells.toArray, .int .i64 0, .int .i64 lv] W fun e w' => e = .returned (.tuple #[.int .i64 a, .int .i64 c, .int .i64 0]) ∧ Below W.heap.size W w' by
        have := Best_any ((q.from_ bf off d lv).withA A4 c4) 0 lv W hat
        rw [show ((q.from_ bf off d lv).withA A4 c4).d.bestR 0 lv = (a, c, 0) from e3] at this
        exact this))
      clear hcc e1 e2 e3 HALL
      have K41 := Lib.hid True.intro
      go_upto_region 6 with (first
        | (have h := K41; clear h; refine wpList_load_row (o := ⟨some 41, _, _, _, _, _⟩) ?_ 26 (.tmp 3) ?_ w.heap.size ?_ 26 q.cells.toArray (0, 0) _ L3.out Try.underlying26 rfl size_rp ?_; rfl; rfl; rfl; have K42 := Lib.hid True.intro; clear K41)
        | (have h := K42; clear h; go_at_call 18; refine (Copy_any q _ (HAT.out.below B3.out B3.out.size) HL15.out).mono ?_; rintro e w4 ⟨A3, c3, rfl, hat4, hb4⟩; have HT4 := Lib.hid hat4; have B4 := Lib.hid (B3.out.trans (hb4.mono B3.out.size)); have L4 := Lib.hid (L3.out.call hb4); clear hat4 hb4; have K45 := Lib.hid True.intro; clear K42)
        | (have h := K45; clear h; go_at_call 23; refine (HE1.out A3 c3 _ HT4.out).mono ?_; rintro e w5 ⟨rfl, hb5⟩; have B5 := Lib.hid (B4.out.trans (hb5.mono B4.out.size)); have L5 := Lib.hid (L4.out.call hb5); clear hb5; have K49 := Lib.hid True.intro; clear K45)
        | (have h := K49; clear h; refine wpList_load_row (o := ⟨some 49, _, _, _, _, _⟩) ?_ 26 (.tmp 3) ?_ w.heap.size ?_ 26 q.cells.toArray (0, 0) _ L5.out Try.underlying26 rfl size_rp ?_; rfl; rfl; rfl; have K52 := Lib.hid True.intro; clear K49)
        | (have h := K52; clear h; go_at_call 45; refine (From_any q d lv _ (HAT.out.below B5.out B5.out.size) HDN.out HL15.out HC.out).mono ?_; rintro e w6 ⟨bf, off, hAf, rfl, hb6⟩; have HAF := Lib.hid hAf; have B6 := Lib.hid (B5.out.trans (hb6.mono B5.out.size)); have HF6 := Lib.hid (from_at (lv := lv) (HAT.out.below B6.out B6.out.size) hAf HDN.out); clear hb6 hAf; have K53 := Lib.hid True.intro; clear K52)
        | (have h := K53; clear h; go_at_call 18; refine (Copy_any (q.from_ bf off d lv) _ HF6.out (show (q.ds.l.drop d).length ≤ 15 by rw [List.length_drop]; have := HL15.out; omega)).mono ?_; rintro e w7 ⟨A4, c4, rfl, hat7, hb7⟩; have HT7 := Lib.hid hat7; have B7 := Lib.hid (B6.out.trans (hb7.mono B6.out.size)); have Z7 := Lib.hid (Lies.fresh w7 34 zpo.toArray); clear hat7 hb7; have KST := Lib.hid True.intro; clear K53)
        | (have h := KST; clear h; refine wpList_store_cells (o := ⟨none, .store 34 (.tmp 12) _, _, _, _, _⟩) ?_ 34 (.tmp 12) (.tmp 53) ?_ w7.heap.size 0 ?_ 34 zpo ((q.from_ bf off d lv).withA A4 c4).cells ?_ Z7.out (by simp [zpo, PoM.cells]) size_po (cells_one _) ?_; rfl; rfl; rfl; rfl; intro w8 HS8 HO8; clear KST))
      have hs8 := HS8.out
      rw [splice_whole (by simp [zpo, PoM.cells])] at hs8
      have hb8 : Below w7.heap.size w7 w8 := HO8.out.below ((Below.refl _ _).alloc (Nat.le_refl _) _) (Nat.le_refl _)
      have L8 := Lib.hid hs8
      have B8 := Lib.hid (B7.out.trans (hb8.mono B7.out.size))
      have HT8 := Lib.hid (HT7.out.below hb8 hb8.size)
      clear hs8 hb8 HS8 HO8 HT7 Z7 L5 L4 HE1
      generalize w7.heap.size = g12 at *
      have K55 := Lib.hid True.intro
      go_wp2_with (first
        | (have h := K55; clear h; refine wpList_load_row (o := ⟨some 55, _, _, _, _, _⟩) ?_ 34 (.tmp 12) ?_ g12 ?_ 34 ((q.from_ bf off d lv).withA A4 c4).cells.toArray (0, 0) _ L8.out Try.underlying34 rfl size_po ?_; rfl; rfl; rfl; have K56 := Lib.hid True.intro; clear K55)
        | (have h := K56; clear h; go_at_call 22; refine (HE2.out bf off A4 c4 _ HT8.out).mono ?_; rintro e w9 ⟨rfl, hb9⟩; have B9 := Lib.hid (B8.out.trans (hb9.mono B8.out.size)); have L9 := Lib.hid (L8.out.call hb9); have HT9 := Lib.hid (HT8.out.below hb9 hb9.size); clear hb9; have K60 := Lib.hid True.intro; clear K56)
        | (have h := K60; clear h; refine wpList_load_row (o := ⟨some 60, _, _, _, _, _⟩) ?_ 34 (.tmp 12) ?_ g12 ?_ 34 ((q.from_ bf off d lv).withA A4 c4).cells.toArray (0, 0) _ L9.out Try.underlying34 rfl size_po ?_; rfl; rfl; rfl; have K62 := Lib.hid True.intro; clear K60)
        | (have h := K62; clear h; go_at_call 23; refine (HE3.out bf off A4 c4 _ HT9.out).mono ?_; rintro e w10 ⟨rfl, hb10⟩; have B10 := Lib.hid (B9.out.trans (hb10.mono B9.out.size)); clear hb10; have KW := Lib.hid True.intro; clear K62)
        | (have h := KW; clear h; go_at_call 16; refine (wakes_any _).mono ?_; rintro e w11 ⟨rfl, hb11⟩; clear KW))
      go_ret
      exact ⟨rfl, B10.out.trans (hb11.mono B10.out.size)⟩
end Go.Proofs.Ytkmdjobflmmojaa
