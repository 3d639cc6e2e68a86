/- PolderRain: the walk. -/
import Derived.Test.YteognijlgalahaaRB
namespace Go.Proofs.Yteognijlgalahaa
open Go.RowKit Go.Lib
attribute [local go_sem] Oper.semAt_some

/-- What Least and Play tell of a polder and rain. -/
theorem rain_all {p : PoD} (h : p.Ok) {st : Int} (h1 : p.slo ≤ st) (h2 : st ≤ p.shi) :
    (p.leastR = (0, 9) ∧ ∀ rs, p.rainy rs → p.playR st rs = ([], [], 0, 9)) ∨
      (∃ n, p.leastR = (n, 0) ∧ ∀ rs, p.rainy rs → ∃ (ls us : List Int) (c : Int) (lv : Nat → Int) (ct : Nat → Int), p.playR st rs = (ls, us, c, 0) ∧ ls.length = p.ds.length ∧ us.length = p.ds.length ∧ c ≤ n ∧ c = ct p.ds.length ∧ ct 0 = 0 ∧ lv 0 = st ∧
        ∀ (i : Nat) d r, p.ds[i]? = some d → rs[i]? = some r → ∃ a x, us[i]? = some a ∧ ls[i]? = some x ∧ lv i + r - d.sp - a = x ∧ lv (i + 1) = x ∧ ct (i + 1) = ct i + d.price a ∧ -p.inl ≤ a ∧ a ≤ p.pump ∧ p.low ≤ x ∧ x ≤ p.high) := by
  have hf := PoD.fault_iff.2 h
  have r0 : ∀ rs, p.rainy rs → p.rainR st rs = 0 := fun rs hr => PoD.rainR_zero.2 ⟨h, h1, h2, hr⟩
  by_cases hc : p.costD = -1
  · refine .inl ⟨?_, fun rs hr => ?_⟩
    · unfold PoD.leastR
      rw [hf, if_neg (by simp), if_pos hc]
    · unfold PoD.playR
      rw [r0 rs hr, if_neg (by simp), if_pos hc]
  · refine .inr ⟨p.costD, ?_, fun rs hr => ?_⟩
    · unfold PoD.leastR
      rw [hf, if_neg (by simp), if_neg hc]
    · obtain ⟨l1, l2⟩ := play_len p (ds := p.ds) (lv := st) hr.1
      have hv : p.vals p.ds st ≠ -1 := fun e => hc (h.cost_iff.2 ⟨st, h1, h2, e⟩)
      obtain ⟨o1, -, o3, o4⟩ := PoD.play_ok h.p0 h.i0 (ds := p.ds) (rs := rs) (lv := st) h.d hr.1 hr.2 hv
      refine ⟨_, _, _, p.lvAt p.ds st rs, costTo p.ds (p.play p.ds st rs).2.1, ?_, l1, l2, Int.le_trans o1 (h.cost_le hc h1 h2), play_cost p hr.1, rfl, rfl, fun i d r hd hr' => ?_⟩
      · unfold PoD.playR
        rw [r0 rs hr, if_neg (by simp), if_neg hc]
      · obtain ⟨a, x, e1, e2, e3, e4⟩ := play_step p (lv := st) hd hr'
        have k1 := o3 x (List.mem_of_getElem? e2)
        have k2 := o4 a (List.mem_of_getElem? e1)
        exact ⟨a, x, e1, e2, e3, e4, costTo_succ hd e1, k2.1, k2.2, k1.1, k1.2⟩
set_option maxRecDepth 100000 in
set_option maxHeartbeats 8000000 in
theorem PolderRain_walk (q : PoM) (s : Sv Nat) (x : Nat) (w : World) (h : OpenPo q w) (hm : (∀ x, x ∈ s.l → x < 256) ∧ s.l.length ≤ maxLen) (hs : Sl w w.heap.size 1 enc8 s.A s.l) (hx255 : x ≤ 255) : Calls Try.prog 9 #[.agg q.cells.toArray, .slice s.A s.l.length s.c, .int .u8 x] w fun e w' => e = .returned (.bool true) ∧ Below w.heap.size w w' := by
  have l0 : Lies (w.alloc (.cells q.cells.toArray 26)) w.heap.size 26 q.cells.toArray := Lies.fresh _ _ _
  have b0 : Below w.heap.size w (w.alloc (.cells q.cells.toArray 26)) := (by repeat (first | (with_reducible assumption) | (with_reducible exact Below.refl _ _) | (with_reducible refine Below.drew ?_) | (with_reducible refine below_drewN ?_ _) | ((with_reducible refine Below.setCell ?_ ?_ _); rotate_left; focus (first | (simp; done) | (simp; omega) | omega)) | ((with_reducible refine Below.alloc ?_ ?_ _); rotate_left; focus (first | (simp; done) | (simp; omega) | omega))))
  have hre := ready_any q (w.alloc (.cells q.cells.toArray 26)) ⟨(h.s.below b0).more b0.size, h.m, h.c⟩
  have hrr : q.d.readyB = true → q.d.Ok ∧ q.ds.l.length ≤ 12 := fun h => by
    unfold PoD.readyB at h
    rw [Bool.and_eq_true, decide_eq_true_eq, decide_eq_true_eq] at h
    have := PoD.fault_iff.1 h.2
    exact ⟨this, this.n2⟩
  have HR := Lib.hid hre
  have HRR := Lib.hid hrr
  have HO := Lib.hid h
  have HS := Lib.hid hs
  have HM := Lib.hid hm
  have L0 := Lib.hid l0
  have B0 := Lib.hid b0
  have K18 := Lib.hid True.intro
  obtain ⟨sl, hsl⟩ : ∃ n, n = s.l.length := ⟨_, rfl⟩
  have HSL := Lib.hid hsl
  rw [← hsl]
  clear l0 b0 hre hrr h hs hm hsl
  cases hyy : q.d.readyB with
  | false =>
    rw [hyy] at HR
    clear hyy HRR
    go_enter Try.func9, Try.ntmps9
    go_upto_region 1 with (fail)
    change Code.wp _ _ _ _ (w.alloc (.cells q.cells.toArray 26))
    generalize w.alloc (.cells q.cells.toArray 26) = w1 at *
    go_wp2_with (first
      | (have h := K18; clear h; refine wpList_load_row (o := ⟨some 18, _, _, _, _, _⟩) ?_ 26 (.tmp 3) ?_ w.heap.size ?_ 26 q.cells.toArray (0, 0) _ L0.out Try.underlying26 rfl size_rp ?_; rfl; rfl; rfl; clear K18)
      | (go_at_call 42; refine HR.out.mono ?_; rintro e w2 ⟨rfl, hb2⟩)
      | (go_at_call 16; refine (wakes_any _).mono ?_; rintro e w3 ⟨rfl, hb3⟩))
    go_ret
    exact ⟨rfl, B0.out.trans ((hb2.trans (hb3.mono hb2.size)).mono B0.out.size)⟩
  | true =>
    rw [hyy] at HR
    obtain ⟨hok, hl12⟩ := HRR.out hyy
    have hl0 : 0 ≤ q.low := hok.l0
    have hl2 : q.high ≤ 60 := hok.l2
    have hs0 : q.low ≤ q.slo := hok.s0
    have hs1 : q.slo ≤ q.shi := hok.s1
    have hs2 : q.shi ≤ q.high := hok.s2
    have hi0 : 0 ≤ q.inl := hok.i0
    have hi1 : q.inl ≤ 20 := hok.i1
    have hp0 : 0 ≤ q.pump := hok.p0
    have hp1 : q.pump ≤ 20 := hok.p1
    obtain ⟨N, hN⟩ : ∃ N, N = q.ds.l.length := ⟨_, rfl⟩
    have hn1 : 1 ≤ q.ds.l.length := hok.n1
    have hN1 : 1 ≤ N := by omega
    have hNz : (N : Int) ≤ 12 := by omega
    obtain ⟨M, hM⟩ : ∃ M : Nat, (M : Int) = q.shi - q.slo + 1 := ⟨(q.shi - q.slo + 1).toNat, by omega⟩
    have hM0 : (M : Int) ≠ 0 := by omega
    have hMz : (M : Int) ≤ 61 := by omega
    have hm0 : (0 : Int) ≤ (x : Int) % (M : Int) := Int.emod_nonneg _ (by omega)
    have hm1 : (x : Int) % (M : Int) < M := Int.emod_lt_of_pos _ (by omega)
    obtain ⟨st, hst⟩ : ∃ st : Int, q.slo + (x : Int) % (M : Int) = st := ⟨_, rfl⟩
    have hst0 : q.slo ≤ st := by omega
    have hst1 : st ≤ q.shi := by omega
    have hall := rain_all (p := q.d) hok hst0 hst1
    have HALL := Lib.hid hall
    have hat : q.At w w.heap.size := HO.out.at_ (by omega)
    have HAT := Lib.hid hat
    have HOK := Lib.hid hok
    have HN := Lib.hid hN
    have hl15 : q.ds.l.length ≤ 15 := by omega
    have HL15 := Lib.hid hl15
    have hxz : (x : Int) ≤ 255 := by omega
    have hwx : IntKind.i64.wrap (x : Int) = x := IntWalk.i64_in _ (by omega)
    have hwM : IntKind.i64.wrap (q.shi - q.slo) = q.shi - q.slo := IntWalk.i64_in _ (by omega)
    have hwM1 : IntKind.i64.wrap (q.shi - q.slo + 1) = (M : Int) := by rw [IntWalk.i64_in _ (by omega), hM]
    have hwL : IntKind.i64.wrap (q.slo + (x : Int) % (M : Int)) = st := by rw [IntWalk.i64_in _ (by omega), hst]
    clear hyy HRR hok hall hat hN hM hst hl15 hl12 hn1 HO
    go_enter Try.func9, Try.ntmps9
    go_upto_region 1 with (fail)
    change Code.wp _ _ _ _ (w.alloc (.cells q.cells.toArray 26))
    generalize w.alloc (.cells q.cells.toArray 26) = w1 at *
    go_upto_region 3 with (first
      | (have h := K18; clear h; refine wpList_load_row (o := ⟨some 18, _, _, _, _, _⟩) ?_ 26 (.tmp 3) ?_ w.heap.size ?_ 26 q.cells.toArray (0, 0) _ L0.out Try.underlying26 rfl size_rp ?_; rfl; rfl; rfl; clear K18)
      | (go_at_call 42; refine HR.out.mono ?_; rintro e w2 ⟨rfl, hb2⟩; have B2 := Lib.hid (B0.out.trans (hb2.mono B0.out.size)); have L2 := Lib.hid (L0.out.call hb2); clear hb2))
    have c24 := (show w2.cell? ⟨w.heap.size, 2, none⟩ = some (.int .i64 q.slo) from L2.out.at_ 2)
    have c29 := (show w2.cell? ⟨w.heap.size, 3, none⟩ = some (.int .i64 q.shi) from L2.out.at_ 3)
    clear HR B0 L0
    go_quiet (fail)
    clear c24 c29
    have hbd : Below w2.heap.size w2 (w2.drewN nq) := below_drewN (Below.refl _ _) nq
    have B3 := Lib.hid (B2.out.trans (hbd.mono B2.out.size))
    have L3 := Lib.hid (L2.out.call hbd)
    clear hbd B2 L2
    generalize w2.drewN nq = w3 at *
    clear hm0 hm1 hM0 hwM hwM1 hwL hwx hxz hMz
    have K37 := Lib.hid True.intro
    rcases HALL.out with ⟨e1, e2⟩ | ⟨n, e1, e2⟩
    · have HE1 := Lib.hid (fun A3 c3 W (hat : (q.withA A3 c3).At W W.heap.size) => (show Calls Try.prog 22 #[.agg (q.withA A3 c3).cells.toArray] W fun e w' => e = .returned (.tuple #[.int .i64 0, .int .i64 9]) ∧ Below W.heap.size W w' by
        have := Least_any (q.withA A3 c3) W hat
        rw [show (q.withA A3 c3).d.leastR = (0, 9) from e1] at this
        exact this))
      have HE2 := Lib.hid (fun rs (hr : q.d.rainy rs) A3 c3 A5 c5 W (hat : (q.withA A3 c3).At W W.heap.size) (hs : Sl W W.heap.size 1 encI A5 rs) => (show Calls Try.prog 27 #[.agg (q.withA A3 c3).cells.toArray, .int .i64 st, .slice A5 rs.length c5] W (PlayE ([], [], 0, 9) W) by
        have := Play_any (q.withA A3 c3) st A5 c5 rs W hat hs (by have h3 : rs.length = q.ds.l.length := hr.1; have := HL15.out; omega)
        rw [show (q.withA A3 c3).d.playR st rs = ([], [], 0, 9) from e2 rs hr] at this
        exact this))
      clear e1 e2 HALL
      go_wp2_with (first
        | (have h := K37; clear h; refine wpList_load_row (o := ⟨some 37, _, _, _, _, _⟩) ?_ 26 (.tmp 3) ?_ w.heap.size ?_ 26 q.cells.toArray (0, 0) _ L3.out Try.underlying26 rfl size_rp ?_; rfl; rfl; rfl; have K39 := Lib.hid True.intro; clear K37)
        | (have h := K39; clear h; go_at_call 43; rw [HSL.out]; refine (Fallen_any q s.A s.c s.l _ (HAT.out.below B3.out B3.out.size) HOK.out ((HS.out.below B3.out).more B3.out.size) HM.out.2 HM.out.1).mono ?_; rintro e w4 ⟨rs, Af, cf, rfl, hra, hsf, hb4⟩; have HRA := Lib.hid hra; have B4 := Lib.hid (B3.out.trans (hb4.mono B3.out.size)); have L4 := Lib.hid (L3.out.call hb4); have S4 := Lib.hid hsf; obtain ⟨R, hR⟩ : ∃ R, R = rs.length := ⟨_, rfl⟩; have HRL := Lib.hid hR; rw [← hR]; clear hra hsf hb4 hR; have K41 := Lib.hid True.intro; clear K39)
        | (have h := K41; clear h; refine wpList_load_row (o := ⟨some 41, _, _, _, _, _⟩) ?_ 26 (.tmp 3) ?_ w.heap.size ?_ 26 q.cells.toArray (0, 0) _ L4.out Try.underlying26 rfl size_rp ?_; rfl; rfl; rfl; have K42 := Lib.hid True.intro; clear K41)
        | (have h := K42; clear h; go_at_call 18; refine (Copy_any q _ (HAT.out.below B4.out B4.out.size) HL15.out).mono ?_; rintro e w5 ⟨A3, c3, rfl, hat5, hb5⟩; have HT5 := Lib.hid hat5; have B5 := Lib.hid (B4.out.trans (hb5.mono B4.out.size)); have L5 := Lib.hid (L4.out.call hb5); have S5 := Lib.hid ((S4.out.below hb5).more hb5.size); clear hat5 hb5; have K43 := Lib.hid True.intro; clear K42)
        | (have h := K43; clear h; go_at_call 22; refine (HE1.out A3 c3 _ HT5.out).mono ?_; rintro e w6 ⟨rfl, hb6⟩; have B6 := Lib.hid (B5.out.trans (hb6.mono B5.out.size)); have L6 := Lib.hid (L5.out.call hb6); have S6 := Lib.hid ((S5.out.below hb6).more hb6.size); clear hb6; have K47 := Lib.hid True.intro; clear K43)
        | (have h := K47; clear h; refine wpList_load_row (o := ⟨some 47, _, _, _, _, _⟩) ?_ 26 (.tmp 3) ?_ w.heap.size ?_ 26 q.cells.toArray (0, 0) _ L6.out Try.underlying26 rfl size_rp ?_; rfl; rfl; rfl; have K48 := Lib.hid True.intro; clear K47)
        | (have h := K48; clear h; go_at_call 18; refine (Copy_any q _ (HAT.out.below B6.out B6.out.size) HL15.out).mono ?_; rintro e w7 ⟨A4, c4, rfl, hat7, hb7⟩; have HT7 := Lib.hid hat7; have B7 := Lib.hid (B6.out.trans (hb7.mono B6.out.size)); have L7 := Lib.hid (L6.out.call hb7); have S7 := Lib.hid ((S6.out.below hb7).more hb7.size); clear hat7 hb7; have K51 := Lib.hid True.intro; clear K48)
        | (have h := K51; clear h; go_at_call 28; rw [HRL.out]; refine (lawList_own Af cf rs _ S7.out (by have := HRA.out.1; have h2 := HL15.out; have h3 : rs.length = q.ds.l.length := this; omega) (fun e => by have h3 : rs.length = q.ds.l.length := HRA.out.1; exfalso; have := HN.out; obtain ⟨b, o, e2, _⟩ := S7.out (by intro e3; rw [e3] at h3; simp at h3; omega); rw [e] at e2; cases e2)).mono ?_; rintro e w8 ⟨A5, c5, rfl, ho8, hb8⟩; obtain ⟨A5', c5', e5, _, hs5⟩ := Sl.of_own (enc := encI) (l := rs) (fun _ => rfl) ho8 rfl; cases e5; have S8 := Lib.hid ((S7.out.below hb8).more hb8.size); have P8 := Lib.hid hs5; have B8 := Lib.hid (B7.out.trans (hb8.mono B7.out.size)); have L8 := Lib.hid (L7.out.call hb8); have HT8 := Lib.hid (HT7.out.below hb8 hb8.size); clear ho8 hb8 hs5; have K52 := Lib.hid True.intro; clear K51)
        | (have h := K52; clear h; go_at_call 27; refine (HE2.out rs HRA.out A4 c4 A5 c5 _ HT8.out P8.out).mono ?_; rintro e w9 ⟨A1, c1, A2, c2, rfl, _, _, hb9⟩; have B9 := Lib.hid (B8.out.trans (hb9.mono B8.out.size)); clear hb9; have KW := Lib.hid True.intro; clear K52)
        | (have h := KW; clear h; go_at_call 16; refine (wakes_any _).mono ?_; rintro e w11 ⟨rfl, hb11⟩; clear KW))
      go_ret
      exact ⟨rfl, B9.out.trans (hb11.mono B9.out.size)⟩
    · have HE1 := Lib.hid (fun A3 c3 W (hat : (q.withA A3 c3).At W W.heap.size) => (show Calls Try.prog 22 #[.agg (q.withA A3 c3).cells.toArray] W fun e w' => e = .returned (.tuple #[.int .i64 n, .int .i64 0]) ∧ Below W.heap.size W w' by
        have := Least_any (q.withA A3 c3) W hat
        rw [show (q.withA A3 c3).d.leastR = (n, 0) from e1] at this
        exact this))
      have HE2 := Lib.hid e2
      clear e1 e2 HALL
      go_upto_region 6 with (first
        | (have h := K37; clear h; refine wpList_load_row (o := ⟨some 37, _, _, _, _, _⟩) ?_ 26 (.tmp 3) ?_ w.heap.size ?_ 26 q.cells.toArray (0, 0) _ L3.out Try.underlying26 rfl size_rp ?_; rfl; rfl; rfl; have K39 := Lib.hid True.intro; clear K37)
        | (have h := K39; clear h; go_at_call 43; rw [HSL.out]; refine (Fallen_any q s.A s.c s.l _ (HAT.out.below B3.out B3.out.size) HOK.out ((HS.out.below B3.out).more B3.out.size) HM.out.2 HM.out.1).mono ?_; rintro e w4 ⟨rs, Af, cf, rfl, hra, hsf, hb4⟩; have HRA := Lib.hid hra; have B4 := Lib.hid (B3.out.trans (hb4.mono B3.out.size)); have L4 := Lib.hid (L3.out.call hb4); have S4 := Lib.hid hsf; obtain ⟨R, hR⟩ : ∃ R, R = rs.length := ⟨_, rfl⟩; have HRL := Lib.hid hR; rw [← hR]; clear hra hsf hb4 hR; have K41 := Lib.hid True.intro; clear K39)
        | (have h := K41; clear h; refine wpList_load_row (o := ⟨some 41, _, _, _, _, _⟩) ?_ 26 (.tmp 3) ?_ w.heap.size ?_ 26 q.cells.toArray (0, 0) _ L4.out Try.underlying26 rfl size_rp ?_; rfl; rfl; rfl; have K42 := Lib.hid True.intro; clear K41)
        | (have h := K42; clear h; go_at_call 18; refine (Copy_any q _ (HAT.out.below B4.out B4.out.size) HL15.out).mono ?_; rintro e w5 ⟨A3, c3, rfl, hat5, hb5⟩; have HT5 := Lib.hid hat5; have B5 := Lib.hid (B4.out.trans (hb5.mono B4.out.size)); have L5 := Lib.hid (L4.out.call hb5); have S5 := Lib.hid ((S4.out.below hb5).more hb5.size); clear hat5 hb5; have K43 := Lib.hid True.intro; clear K42)
        | (have h := K43; clear h; go_at_call 22; refine (HE1.out A3 c3 _ HT5.out).mono ?_; rintro e w6 ⟨rfl, hb6⟩; have B6 := Lib.hid (B5.out.trans (hb6.mono B5.out.size)); have L6 := Lib.hid (L5.out.call hb6); have S6 := Lib.hid ((S5.out.below hb6).more hb6.size); clear hb6; have K47 := Lib.hid True.intro; clear K43))
      obtain ⟨ls, us, c, lv, ct, ep, ell, eul, ecn, ecc, ec0, el0, est⟩ := HE2.out rs HRA.out
      have HE3 := Lib.hid (fun A3 c3 A5 c5 W (hat : (q.withA A3 c3).At W W.heap.size) (hs : Sl W W.heap.size 1 encI A5 rs) => (show Calls Try.prog 27 #[.agg (q.withA A3 c3).cells.toArray, .int .i64 st, .slice A5 rs.length c5] W (PlayE (ls, us, c, 0) W) by
        have := Play_any (q.withA A3 c3) st A5 c5 rs W hat hs (by have h3 : rs.length = q.ds.l.length := HRA.out.1; have := HL15.out; omega)
        rw [show (q.withA A3 c3).d.playR st rs = (ls, us, c, 0) from ep] at this
        exact this))
      have HST := Lib.hid est
      have HCC := Lib.hid ecc
      have HC0 := Lib.hid ec0
      have HL0 := Lib.hid el0
      have ell' : ls.length = N := by rw [HN.out]; exact ell
      have eul' : us.length = N := by rw [HN.out]; exact eul
      have HLL := Lib.hid ell'
      have HUL := Lib.hid eul'
      have hcn : ¬ n < c := by omega
      clear ep est ecc ec0 el0 ell eul HE1 HE2 ecn
      go_upto_region 9 with (first
        | (have h := K47; clear h; refine wpList_load_row (o := ⟨some 47, _, _, _, _, _⟩) ?_ 26 (.tmp 3) ?_ w.heap.size ?_ 26 q.cells.toArray (0, 0) _ L6.out Try.underlying26 rfl size_rp ?_; rfl; rfl; rfl; have K48 := Lib.hid True.intro; clear K47)
        | (have h := K48; clear h; go_at_call 18; refine (Copy_any q _ (HAT.out.below B6.out B6.out.size) HL15.out).mono ?_; rintro e w7 ⟨A4, c4, rfl, hat7, hb7⟩; have HT7 := Lib.hid hat7; have B7 := Lib.hid (B6.out.trans (hb7.mono B6.out.size)); have L7 := Lib.hid (L6.out.call hb7); have S7 := Lib.hid ((S6.out.below hb7).more hb7.size); clear hat7 hb7; have K51 := Lib.hid True.intro; clear K48)
        | (have h := K51; clear h; go_at_call 28; rw [HRL.out]; refine (lawList_own Af cf rs _ S7.out (by have := HRA.out.1; have h2 := HL15.out; have h3 : rs.length = q.ds.l.length := this; omega) (fun e => by have h3 : rs.length = q.ds.l.length := HRA.out.1; exfalso; have := HN.out; obtain ⟨b, o, e2, _⟩ := S7.out (by intro e3; rw [e3] at h3; simp at h3; omega); rw [e] at e2; cases e2)).mono ?_; rintro e w8 ⟨A5, c5, rfl, ho8, hb8⟩; obtain ⟨A5', c5', e5, _, hs5⟩ := Sl.of_own (enc := encI) (l := rs) (fun _ => rfl) ho8 rfl; cases e5; have S8 := Lib.hid ((S7.out.below hb8).more hb8.size); have P8 := Lib.hid hs5; have B8 := Lib.hid (B7.out.trans (hb8.mono B7.out.size)); have L8 := Lib.hid (L7.out.call hb8); have HT8 := Lib.hid (HT7.out.below hb8 hb8.size); clear ho8 hb8 hs5; have K52 := Lib.hid True.intro; clear K51)
        | (have h := K52; clear h; go_at_call 27; refine (HE3.out A4 c4 A5 c5 _ HT8.out P8.out).mono ?_; rintro e w9 ⟨A1, c1, A2, c2, rfl, hs1, hs2, hb9⟩; have B9 := Lib.hid (B8.out.trans (hb9.mono B8.out.size)); have L9 := Lib.hid (L8.out.call hb9); have S9 := Lib.hid ((S8.out.below hb9).more hb9.size); have U1 := Lib.hid hs1; have U2 := Lib.hid hs2; clear hb9 hs1 hs2; clear K52))
      have hrN : rs.length = N := by rw [HN.out]; exact HRA.out.1
      rw [hrN]
      clear ell' eul'
      have HRN := Lib.hid hrN
      clear hrN
      have c75 : w9.cell? ⟨w.heap.size, 6, none⟩ = some (.slice q.ds.A N q.ds.c) := by rw [HN.out]; exact L9.out.at_ 6
      go_upto_region 12 with (fail)
      clear c75 hcn
      have Q9 := Lib.hid (HAT.out.below B9.out B9.out.size)
      go_wp2
      go_loopw [6, 15, 16, 17] (fun _ s15 s16 s17 wr => ∃ (k : Nat), k ≤ N ∧ s15 = .int .i64 (lv k) ∧ s16 = .int .i64 (ct k) ∧ s17 = .int .i64 k ∧ Aside (Below w9.heap.size w9 wr ∧ 0 ≤ lv k ∧ lv k ≤ 60 ∧ 0 ≤ ct k ∧ ct k ≤ 2000 * (k : Int))) (fun _ _ _ i _ => N - (intOf i).toNat)
      case atStart => exact ⟨0, by omega, by rw [HL0.out], by rw [HC0.out], rfl, Below.refl _ _, by rw [HL0.out]; omega, by rw [HL0.out]; omega, by rw [HC0.out]; omega, by rw [HC0.out]; omega⟩
      case round =>
        obtain ⟨k, hkN, rfl, rfl, rfl, HW⟩ := hrel
        have hk0 : (0 : Int) ≤ (k : Int) := by omega
        obtain ⟨hbw, lv0, lv1, ct0, ct1⟩ := HW.out
        clear HW
        have BW := Lib.hid hbw
        clear hbw
        by_cases hlt : k < N
        · have hltz : (k : Int) < (N : Int) := by omega
          have hdl : k < q.ds.l.length := by have := HN.out; omega
          have hrl : k < rs.length := by have := HRN.out; omega
          obtain ⟨d, hd⟩ : ∃ d, q.ds.l[k]? = some d := ⟨q.ds.l[k]'hdl, by simp⟩
          obtain ⟨r, hr⟩ : ∃ r, rs[k]? = some r := ⟨rs[k]'hrl, by simp⟩
          obtain ⟨a, y, ea, ey, e3, e4, e5, a0, a1, y0, y1⟩ := HST.out k d r hd hr
          have a0' : -q.inl ≤ a := a0
          have a1' : a ≤ q.pump := a1
          have y0' : q.low ≤ y := y0
          have y1' : y ≤ q.high := y1
          have hdk := HOK.out.d d (List.mem_of_getElem? hd)
          obtain ⟨r0, r1⟩ := HRA.out.2 k d r hd hr
          obtain ⟨d0, d1, d2, d3, d4, -, -, -, -⟩ := hdk
          have hpr0 := d.price_nonneg (HOK.out.d d (List.mem_of_getElem? hd)) a
          have hpr1 := Dy.price_le (HOK.out.d d (List.mem_of_getElem? hd)) (a := a) (by omega) (by omega)
          have HPR := Lib.hid (fun W => refPrice_any d a W (HOK.out.d d (List.mem_of_getElem? hd)) (by omega) (by omega))
          obtain ⟨pr, hpr⟩ : ∃ pr, pr = d.price a := ⟨_, rfl⟩
          rw [← hpr] at hpr0 hpr1 HPR e5
          have HI1 := Lib.hid (fun W => (show Calls Try.prog 25 #[.int .i64 a, .int .i64 (-q.inl), .int .i64 q.pump] W fun e w' => e = .returned (.bool true) ∧ Below W.heap.size W w' from (In_any a (-q.inl) q.pump W).mono fun e w' ⟨h1, h2⟩ => ⟨by rw [h1, inB_iff.2 ⟨a0', a1'⟩], by rw [← h2]; exact Below.refl _ _⟩))
          have HI2 := Lib.hid (fun W => (show Calls Try.prog 25 #[.int .i64 y, .int .i64 q.low, .int .i64 q.high] W fun e w' => e = .returned (.bool true) ∧ w' = W from (In_any y q.low q.high W).mono fun e w' ⟨h1, h2⟩ => ⟨by rw [h1, inB_iff.2 ⟨y0', y1'⟩], h2.symm⟩))
          obtain ⟨bd, od, hA, hbd, hrg⟩ := Sl.cellD Q9.out.s hd
          obtain ⟨br, orr, hAr, hbr, hcr⟩ := S9.out.cell1 hr
          obtain ⟨bu, ou, hAu, hbu, hcu⟩ := U2.out.cell1 ea
          obtain ⟨bl, ol, hAl, hbl, hcl⟩ := U1.out.cell1 ey
          subst hAr hAu hAl
          have FU := Lib.hid (fun V (h : Below w9.heap.size w9 V) => (show V.cell? ⟨bu, ou + k, none⟩ = some (.int .i64 a) from (h.cell (p := ⟨bu, ou + k, none⟩) hbu).trans hcu))
          have FL := Lib.hid (fun V (h : Below w9.heap.size w9 V) => (show V.cell? ⟨bl, ol + k, none⟩ = some (.int .i64 y) from (h.cell (p := ⟨bl, ol + k, none⟩) hbl).trans hcl))
          have FR := Lib.hid (fun V (h : Below w9.heap.size w9 V) => (show V.cell? ⟨br, orr + k, none⟩ = some (.int .i64 r) from (h.cell (p := ⟨br, orr + k, none⟩) hbr).trans hcr))
          have FD := Lib.hid (fun V (h : Below w9.heap.size w9 V) => (show V.rangeAt bd (od + k * 5) (encD d) from fun i v hv => (h.cell (p := ⟨bd, od + k * 5 + i, none⟩) hbd).trans (hrg i v hv)))
          have FS := Lib.hid (fun V (h : Below w9.heap.size w9 V) => (show V.cell? ⟨w.heap.size, 6, none⟩ = some (.slice (some ⟨bd, od, none⟩) N q.ds.c) by rw [← hA, HN.out]; exact (L9.out.call h).at_ 6))
          have hwi : IntKind.i64.wrap (-q.inl) = -q.inl := IntWalk.i64_in _ (by omega)
          have hw1 : IntKind.i64.wrap (lv k + r) = lv k + r := IntWalk.i64_in _ (by omega)
          have hw2 : IntKind.i64.wrap (lv k + r - d.sp) = lv k + r - d.sp := IntWalk.i64_in _ (by omega)
          have hw3 : IntKind.i64.wrap (lv k + r - d.sp - a) = y := by rw [IntWalk.i64_in _ (by omega), e3]
          have hw4 : IntKind.i64.wrap (ct k + pr) = ct k + pr := IntWalk.i64_in _ (by omega)
          have hend : lv (k + 1) = y ∧ ct (k + 1) = ct k + pr := ⟨e4, e5⟩
          have HE := Lib.hid hend
          clear hd hr ea ey e3 e4 e5 a0 a1 y0 y1 hpr hA hbd hrg hbr hcr hbu hcu hbl hcl hend
          have r102 := cell_regrown (FU.out _ BW.out)
          have r104 := cell_regrown (show wr.cell? ⟨w.heap.size, 5, none⟩ = some (.int .i64 q.inl) from (L9.out.call BW.out).at_ 5)
          have r107 := cell_regrown (show wr.cell? ⟨w.heap.size, 4, none⟩ = some (.int .i64 q.pump) from (L9.out.call BW.out).at_ 4)
          go_upto_region 15 with (fail)
          refine wp_region_quiet_below (by kernel_rfl) (by kernel_rfl) ?_; (repeat (first | go_big_quiet_step ((go_at_call 25; exact Calls.regrown_of (HI1.out _))) | quiet_step ((go_at_call 25; exact Calls.regrown_of (HI1.out _))))); refine wpQuiet_nil ?_; intro wq hwq; have hbq : Below _ _ wq := (by obtain ⟨p, rfl⟩ := hwq; exact below_regrown _ _ _); clear hwq
          clear r102 r104 r107
          have BQ := Lib.hid (BW.out.trans (hbq.mono BW.out.size))
          clear hbq BW
          have r114 := cell_regrown (FR.out _ BQ.out)
          have r117 := cell_regrown (FS.out _ BQ.out)
          have r121 := cell_regrown (FD.out _ BQ.out 2 (.int .i64 d.sp) rfl)
          have r126 := cell_regrown (FU.out _ BQ.out)
          go_upto_region 17 with (fail)
          refine wp_region_quiet_below (by kernel_rfl) (by kernel_rfl) ?_; (repeat (first | go_big_quiet_step ((fail)) | quiet_step ((fail)))); refine wpQuiet_nil ?_; intro wq hwq; have hbq : Below _ _ wq := (by obtain ⟨p, rfl⟩ := hwq; exact below_regrown _ _ _); clear hwq
          clear r114 r117 r121 r126 hw1 hw2 hw3
          have BR := Lib.hid (BQ.out.trans (hbq.mono BQ.out.size))
          clear hbq BQ
          have r130 := cell_regrown (FS.out _ BR.out)
          have r137 := cell_regrown (FU.out _ BR.out)
          have HRD := Lib.hid (fun W (h : ∃ p : Regrown, W = Go.Sort.grow (redrawn wq p.d) p.os) => (show W.rangeAt bd (od + k * 5) (encD d) by
            obtain ⟨p, rfl⟩ := h
            exact FD.out _ (BR.out.trans ((below_regrown _ _ _).mono BR.out.size))))
          go_upto_region 18 with (fail)
          refine wp_region_quiet_below (by kernel_rfl) (by kernel_rfl) ?_
          repeat (first
            | (refine wpQuiet_load_wholeG (o := ⟨some 133, _, _, _, _, _⟩) ?_ 76 (.tmp 132) ?_ bd (od + k * 5) ?_ (encD d) _ HRD.out Try.underlying76 rfl size_rd ?_; rfl; rfl; rfl; simp only [Act.put, List.setIfInBounds_toArray, List.set_cons_zero, List.set_cons_succ])
            | go_big_quiet_step (first | (go_at_call 44; exact Calls.regrown_of (HPR.out _))) | quiet_step (first | (go_at_call 44; exact Calls.regrown_of (HPR.out _))))
          refine wpQuiet_nil ?_
          intro wz hwz
          have hbz : Below _ _ wz := (by obtain ⟨p, rfl⟩ := hwz; exact below_regrown _ _ _)
          clear hwz r130 r137 HRD hw4
          have BZ := Lib.hid (BR.out.trans (hbz.mono BR.out.size))
          clear hbz BR
          have c143 := FL.out _ BZ.out
          have c149 : wz.cell? ⟨w.heap.size, 0, none⟩ = some (.int .i64 q.low) := (L9.out.call BZ.out).at_ 0
          have c151 : wz.cell? ⟨w.heap.size, 1, none⟩ = some (.int .i64 q.high) := (L9.out.call BZ.out).at_ 1
          go_wp2_with (go_at_call 25; refine (HI2.out _).mono ?_; rintro e w' ⟨rfl, rfl⟩)
          go_roundw
          case rel => exact ⟨k + 1, by omega, by rw [HE.out.1], by rw [HE.out.2], by go_num, BZ.out, by rw [HE.out.1]; omega, by rw [HE.out.1]; omega, by rw [HE.out.2]; omega, by rw [HE.out.2]; omega⟩
          case measure => simp [intOf]; omega
        · obtain rfl : k = N := by omega
          have hcc : (c == ct k) = true := by have := HCC.out; have h2 := HN.out; rw [this]; simp; rw [h2]; rfl
          go_wp2_with (go_at_call 16; refine (wakes_any _).mono ?_; rintro e w11 ⟨rfl, hb11⟩)
          go_ret
          exact ⟨rfl, B9.out.trans ((BW.out.trans (hb11.mono BW.out.size)).mono B9.out.size)⟩
end Go.Proofs.Yteognijlgalahaa
