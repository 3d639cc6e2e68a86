/- The texts VA VB VC VD HA, joined. -/
import Derived.Test.YteognijlgalahaaMV
import Derived.Test.YteognijlgalahaaRB
/- The reference's At, After, Amount. -/
namespace Go.Proofs.Yteognijlgalahaa
open Go.RowKit Go.Lib
attribute [local go_sem] Oper.semAt_some

theorem look_at {p : PoD} {l : List Int} (hl : (l.length : Int) = p.high - p.low + 1) {lv : Int} (h : p.kept lv) : ∃ i : Nat, lv = p.low + (i : Int) ∧ i < l.length ∧ l[i]? = some (p.look l lv) := by
  obtain ⟨h1, h2⟩ := h
  obtain ⟨i, hi⟩ : ∃ i : Nat, lv = p.low + (i : Int) := ⟨(lv - p.low).toNat, by omega⟩
  refine ⟨i, hi, by omega, ?_⟩
  unfold PoD.look
  have e : (lv - p.low).toNat = i := by omega
  have hil : i < l.length := by omega
  rw [e, List.getD, List.getElem?_eq_getElem hil]; rfl
set_option maxRecDepth 100000 in
set_option maxHeartbeats 4000000 in
theorem refAt_any (q : PoM) (A : Option Addr) (c : Nat) (l : List Int) (lv : Int) (w : World) (hs : Sl w w.heap.size 1 encI A l) (hl : (l.length : Int) = q.high - q.low + 1) (h0 : 0 ≤ q.low) (h1 : q.high ≤ 60) :
    Calls Try.prog 79 #[.agg q.cells.toArray, .slice A l.length c, .int .i64 lv] w fun e w' => e = .returned (.int .i64 (q.d.atD (q.d.look l) lv)) ∧ Below w.heap.size w w' := by
  have l0 : Lies (w.alloc (.cells q.cells.toArray 26)) w.heap.size 26 q.cells.toArray := Lies.fresh _ _ _
  have b0 : Below w.heap.size w (w.alloc (.cells q.cells.toArray 26)) := (by repeat (first | (with_reducible assumption) | (with_reducible exact Below.refl _ _) | (with_reducible refine Below.drew ?_) | (with_reducible refine below_drewN ?_ _) | ((with_reducible refine Below.setCell ?_ ?_ _); rotate_left; focus (first | (simp; done) | (simp; omega) | omega)) | ((with_reducible refine Below.alloc ?_ ?_ _); rotate_left; focus (first | (simp; done) | (simp; omega) | omega))))
  have hat : q.d.atD (q.d.look l) lv = if inB lv q.low q.high then q.d.look l lv else -1 := rfl
  have HI := Lib.hid (fun W => In_any lv q.low q.high W)
  have HAT := Lib.hid hat
  have c9 : (w.alloc (.cells q.cells.toArray 26)).cell? ⟨w.heap.size, 0, none⟩ = some (.int .i64 q.low) := l0.at_ 0
  have c11 : (w.alloc (.cells q.cells.toArray 26)).cell? ⟨w.heap.size, 1, none⟩ = some (.int .i64 q.high) := l0.at_ 1
  have B0 := Lib.hid b0
  clear l0
  by_cases hin : inB lv q.low q.high = true
  · obtain ⟨i, hi, hil, hx⟩ := look_at (p := q.d) hl (show q.d.kept lv from inB_iff.1 hin)
    have hi' : lv = q.low + (i : Int) := hi
    obtain ⟨b, o, hA, hb, hc⟩ := hs.cell1 hx
    have c20 : (w.alloc (.cells q.cells.toArray 26)).cell? ⟨b, o + i, none⟩ = some (.int .i64 (q.d.look l lv)) := (b0.cell (p := ⟨b, o + i, none⟩) hb).trans hc
    have hwi : IntKind.i64.wrap (lv - q.low) = (i : Int) := by rw [IntWalk.i64_in _ (by omega)]; omega
    have hiz : (i : Int) < (l.length : Int) := by omega
    have hi0 : (0 : Int) ≤ (i : Int) := by omega
    have hlz : (l.length : Int) ≤ 61 := by omega
    rw [hin] at HI HAT
    rw [if_pos rfl] at HAT
    subst hA
    generalize q.d.atD (q.d.look l) lv = r at *
    generalize q.d.look l lv = v at *
    clear hs hat hx hb hc b0 hin hi hi' hil
    go_enter Try.func79, Try.ntmps79
    go_upto_region 1 with (fail)
    change Code.wp _ _ _ _ (w.alloc (.cells q.cells.toArray 26))
    generalize w.alloc (.cells q.cells.toArray 26) = w0 at *
    go_wp2_with (go_at_call 25; refine (HI.out _).mono ?_; rintro e w' ⟨rfl, rfl⟩)
    go_ret
    exact ⟨ret_int HAT.out.symm, B0.out⟩
  · have hf : inB lv q.low q.high = false := by simpa using hin
    rw [hf] at HI HAT
    rw [if_neg (by simp)] at HAT
    generalize q.d.atD (q.d.look l) lv = r at *
    clear hs hat b0 hin hf hl
    go_enter Try.func79, Try.ntmps79
    go_upto_region 1 with (fail)
    change Code.wp _ _ _ _ (w.alloc (.cells q.cells.toArray 26))
    generalize w.alloc (.cells q.cells.toArray 26) = w0 at *
    go_wp2_with (go_at_call 25; refine (HI.out _).mono ?_; rintro e w' ⟨rfl, rfl⟩)
    go_ret
    exact ⟨ret_int HAT.out.symm, B0.out⟩
set_option maxRecDepth 100000 in
set_option maxHeartbeats 8000000 in
theorem After_any (q : PoM) (A : Option Addr) (c : Nat) (l : List Int) (day : Nat) (d : Dy) (lv am : Int) (w : World) (hq : q.At w w.heap.size) (hd : q.ds.l[day]? = some d) (dok : d.Ok) (hs : Sl w w.heap.size 1 encI A l) (hl : (l.length : Int) = q.high - q.low + 1) (h0 : 0 ≤ q.low) (h1 : q.high ≤ 60)
    (hc : Cst (q.d.look l)) (b0 : -1000 ≤ lv) (b1 : lv ≤ 1000) (b2 : -1000 ≤ am) (b3 : am ≤ 1000) :
    Calls Try.prog 53 #[.agg q.cells.toArray, .slice A l.length c, .int .i64 day, .int .i64 lv, .int .i64 am] w fun e w' => e = .returned (.int .i64 (q.d.wor (q.d.look l) d (lv - am))) ∧ Below w.heap.size w w' := by
  obtain ⟨R, hR⟩ : ∃ R, R = d.rains := ⟨_, rfl⟩
  have hRz : (R : Int) = d.hi + 1 - d.lo := by rw [hR]; unfold Dy.rains; have := dok.r1; omega
  obtain ⟨f, hf⟩ : ∃ f, f = q.d.worAt (q.d.look l) d (lv - am) := ⟨_, rfl⟩
  have hfk : ∀ k : Nat, f k = q.d.atD (q.d.look l) (lv - am + (d.lo + (k : Int)) - d.sp) := fun k => by rw [hf]; rfl
  have hfge : ∀ k, -1 ≤ f k := fun k => by rw [hfk]; exact PoD.atD_ge hc _
  have hwor : q.d.wor (q.d.look l) d (lv - am) = greTo f R := by rw [hf, hR]; rfl
  have hge : ∀ k, -1 ≤ greTo f k := fun k => greTo_ge hfge k
  obtain ⟨d0, d1, d2, d3, d4, -, -, -, -⟩ := dok
  obtain ⟨bd, od, hA, hbd, hrg⟩ := hq.s.cellD hd
  have hday : day < q.ds.l.length := (List.getElem?_eq_some_iff.1 hd).1
  have hdayz : (day : Int) < (q.ds.l.length : Int) := by omega
  have hday0 : (0 : Int) ≤ (day : Int) := by omega
  have hqz : (q.ds.l.length : Int) ≤ 1000000 := by have := hq.l; omega
  have bb0 : Below w.heap.size w (w.alloc (.cells q.cells.toArray 26)) := (by repeat (first | (with_reducible assumption) | (with_reducible exact Below.refl _ _) | (with_reducible refine Below.drew ?_) | (with_reducible refine below_drewN ?_ _) | ((with_reducible refine Below.setCell ?_ ?_ _); rotate_left; focus (first | (simp; done) | (simp; omega) | omega)) | ((with_reducible refine Below.alloc ?_ ?_ _); rotate_left; focus (first | (simp; done) | (simp; omega) | omega))))
  have l0 : Lies (w.alloc (.cells q.cells.toArray 26)) w.heap.size 26 q.cells.toArray := Lies.fresh _ _ _
  have c16 : (w.alloc (.cells q.cells.toArray 26)).cell? ⟨w.heap.size, 6, none⟩ = some (.slice (some ⟨bd, od, none⟩) q.ds.l.length q.ds.c) := by rw [← hA]; exact l0.at_ 6
  have HRG := Lib.hid (show (w.alloc (.cells q.cells.toArray 26)).rangeAt bd (od + day * 5) (encD d) from fun i v hv => (bb0.cell (p := ⟨bd, od + day * 5 + i, none⟩) hbd).trans (hrg i v hv))
  have HZ := Lib.hid (show (w.alloc (.cells q.cells.toArray 26)).heap.size = w.heap.size + 1 by simp)
  have HAT := Lib.hid (fun z W (hb : Below w.heap.size w W) => refAt_any q A c l z W ((hs.below hb).more hb.size) hl h0 h1)
  have L0 := Lib.hid l0
  have B0 := Lib.hid bb0
  have HF := Lib.hid hfk
  have HFG := Lib.hid hfge
  have HGE := Lib.hid hge
  have HW := Lib.hid hwor
  generalize q.d.wor (q.d.look l) d (lv - am) = rr at *
  generalize l.length = ln at *
  clear hR hf hfk hfge hge hwor hA hbd hrg hday hd hq hs hl bb0 l0 hc
  have K19 := Lib.hid True.intro
  go_enter Try.func53, Try.ntmps53
  go_upto_region 2 with (fail)
  change Code.wp _ _ _ _ (w.alloc (.cells q.cells.toArray 26))
  generalize w.alloc (.cells q.cells.toArray 26) = w0 at *
  go_upto_region 3 with (have h := K19; clear h; refine wpList_load_mid (op := ⟨some 19, _, _, _, _, _⟩) ?_ 76 (.tmp 18) ?_ bd (od + day * 5) ?_ (encD d) _ HRG.out Try.underlying76 rfl size_rd ?_; rfl; rfl; rfl; clear K19)
  have hb2 : Below w0.heap.size w0 (w0.alloc (.cells (encD d).toArray 76)) := (Below.refl _ _).alloc (Nat.le_refl _) _
  have B2 := Lib.hid (B0.out.trans (hb2.mono B0.out.size))
  have L2 := Lib.hid (L0.out.call hb2)
  have D2 := Lib.hid (show Lies (w0.alloc (.cells (encD d).toArray 76)) (w.heap.size + 1) 76 (encD d).toArray from Lies.fresh' HZ.out)
  rw [HZ.out]
  change Code.wp _ _ _ _ (w0.alloc (.cells (encD d).toArray 76))
  clear hb2 c16 HRG B0 L0 HZ
  generalize w0.alloc (.cells (encD d).toArray 76) = w2 at *
  have c22 : w2.cell? ⟨w.heap.size + 1, 0, none⟩ = some (.int .i64 d.lo) := D2.out.at_ 0
  go_wp2
  clear c22
  go_loopw [10, 11, 13, 14] (fun _ s11 s13 _ wr => ∃ k : Nat, k ≤ R ∧ s11 = .int .i64 (greTo f k) ∧ s13 = .int .i64 (d.lo + (k : Int)) ∧ Aside (greTo f k ≠ -1 ∧ Below w2.heap.size w2 wr)) (fun _ _ i _ _ => (d.hi + 1 - intOf i).toNat)
  case atStart => exact ⟨0, by omega, rfl, by simp, by show (0 : Int) ≠ -1; omega, Below.refl _ _⟩
  case round =>
    obtain ⟨k, hk, rfl, rfl, HH⟩ := hrel
    have BW := Lib.hid (B2.out.trans (HH.out.2.mono B2.out.size))
    have WW := Lib.hid HH.out.2
    have LW := Lib.hid (L2.out.call HH.out.2)
    have c26 : wr.cell? ⟨w.heap.size + 1, 1, none⟩ = some (.int .i64 d.hi) := (D2.out.call HH.out.2).at_ 1
    have c36 : wr.cell? ⟨w.heap.size + 1, 2, none⟩ = some (.int .i64 d.sp) := (D2.out.call HH.out.2).at_ 2
    have hn1 : greTo f k ≠ -1 := HH.out.1
    have hn2 := HGE.out k
    clear HH
    by_cases hlt : k < R
    · have hle : d.lo + (k : Int) ≤ d.hi := by omega
      obtain ⟨v, hv⟩ : ∃ v, v = f k := ⟨_, rfl⟩
      have hvg : -1 ≤ v := by rw [hv]; exact HFG.out k
      have hw1 : IntKind.i64.wrap (lv + (d.lo + (k : Int))) = lv + (d.lo + (k : Int)) := IntWalk.i64_in _ (by omega)
      have hw2 : IntKind.i64.wrap (lv + (d.lo + (k : Int)) - d.sp) = lv + (d.lo + (k : Int)) - d.sp := IntWalk.i64_in _ (by omega)
      have hw3 : IntKind.i64.wrap (lv + (d.lo + (k : Int)) - d.sp - am) = lv - am + (d.lo + (k : Int)) - d.sp := by rw [IntWalk.i64_in _ (by omega)]; omega
      have hw4 : IntKind.i64.wrap (d.lo + (k : Int) + 1) = d.lo + (k : Int) + 1 := IntWalk.i64_in _ (by omega)
      have HV := Lib.hid (show Calls Try.prog 79 #[.agg q.cells.toArray, .slice A ln c, .int .i64 (lv - am + (d.lo + (k : Int)) - d.sp)] wr fun e w' => e = .returned (.int .i64 v) ∧ Below wr.heap.size wr w' by
        have := HAT.out (lv - am + (d.lo + (k : Int)) - d.sp) wr BW.out
        rw [← HF.out k, ← hv] at this
        exact this)
      have HVV := Lib.hid hv
      clear hv
      have K30 := Lib.hid True.intro
      by_cases hvn : v = -1
      · have hstop := greTo_no (f := f) (i := k + 1) (j := R) (by omega) (greTo_stop (by rw [← HVV.out]; exact hvn))
        have HS := Lib.hid hstop
        subst hvn
        clear hstop hvg
        go_wp2_with (first
          | (have h := K30; clear h; refine wpList_load_row (o := ⟨some 30, _, _, _, _, _⟩) ?_ 26 (.tmp 5) ?_ w.heap.size ?_ 26 q.cells.toArray (0, 0) _ LW.out Try.underlying26 rfl size_rp ?_; rfl; rfl; rfl; clear K30)
          | (go_at_call 79; refine HV.out.mono ?_; rintro e w4 ⟨rfl, hb4⟩))
        go_ret
        exact ⟨ret_int (by rw [HW.out, HS.out]), BW.out.trans (hb4.mono BW.out.size)⟩
      · have hv0 : 0 ≤ v := by omega
        have hnx := greTo_next (f := f) hn1 (show f k ≠ -1 by rw [← HVV.out]; exact hvn)
        rw [← HVV.out] at hnx
        have HNX := Lib.hid hnx
        have hvl : ¬ v < 0 := by omega
        clear hnx
        generalize greTo f k = gk at *
        go_wp2_with (first
          | (have h := K30; clear h; refine wpList_load_row (o := ⟨some 30, _, _, _, _, _⟩) ?_ 26 (.tmp 5) ?_ w.heap.size ?_ 26 q.cells.toArray (0, 0) _ LW.out Try.underlying26 rfl size_rp ?_; rfl; rfl; rfl; clear K30)
          | (go_at_call 79; refine HV.out.mono ?_; rintro e w4 ⟨rfl, hb4⟩; have W4 := Lib.hid (WW.out.trans (hb4.mono WW.out.size)); clear hb4))
        go_roundw
        case rel => exact ⟨k + 1, by omega, by rw [HNX.out], by go_num, by rw [HNX.out]; omega, W4.out⟩
        case measure => simp [intOf]; omega
    · have hgt : ¬ d.lo + (k : Int) ≤ d.hi := by omega
      obtain rfl : k = R := by omega
      go_wp2
      go_ret
      exact ⟨ret_int HW.out.symm, BW.out⟩
end Go.Proofs.Yteognijlgalahaa

/- The reference's Amount. -/
namespace Go.Proofs.Yteognijlgalahaa
open Go.RowKit Go.Lib
attribute [local go_sem] Oper.semAt_some

set_option maxRecDepth 100000 in
set_option maxHeartbeats 8000000 in
theorem Amount_any (q : PoM) (A : Option Addr) (c : Nat) (l : List Int) (day : Nat) (d : Dy) (lv : Int) (w : World) (hq : q.At w w.heap.size) (hd : q.ds.l[day]? = some d) (hok : q.d.Ok) (hs : Sl w w.heap.size 1 encI A l) (hl : (l.length : Int) = q.high - q.low + 1)
    (hc : Cst (q.d.look l)) (hub : ∀ z, q.d.look l z ≤ 1000000) (b0 : -500 ≤ lv) (b1 : lv ≤ 500) :
    Calls Try.prog 26 #[.agg q.cells.toArray, .slice A l.length c, .int .i64 day, .int .i64 lv] w fun e w' => e = .returned (.tuple #[.int .i64 (q.d.bestD (q.d.look l) d lv).1, .int .i64 (q.d.bestD (q.d.look l) d lv).2]) ∧ Below w.heap.size w w' := by
  have h0 : 0 ≤ q.low := hok.l0
  have h1 : q.high ≤ 60 := hok.l2
  have hp0 : 0 ≤ q.pump := hok.p0
  have hp1 : q.pump ≤ 20 := hok.p1
  have hi0 : 0 ≤ q.inl := hok.i0
  have hi1 : q.inl ≤ 20 := hok.i1
  have dok := hok.d d (List.mem_of_getElem? hd)
  obtain ⟨K, hK⟩ : ∃ K, K = q.d.amts := ⟨_, rfl⟩
  have hKz : (K : Int) = q.pump + 1 + q.inl := by
    rw [hK]
    show ((q.pump + 1 + q.inl).toNat : Int) = _
    omega
  have hbe := PoD.amt_best (p := q.d) hok.p0 hok.i0 hc dok lv
  rw [← hK] at hbe
  have hwg : ∀ z, -1 ≤ q.d.wor (q.d.look l) d z := fun z => PoD.wor_ge hc z
  have hwl : ∀ z, q.d.wor (q.d.look l) d z ≤ 1000000 := fun z => worTo_le hc hub d z _
  have hst : ∀ k : Nat, q.d.amtTo (q.d.look l) d lv (k + 1) = if q.d.wor (q.d.look l) d (lv - (q.pump - (k : Int))) = -1 then q.d.amtTo (q.d.look l) d lv k else if (q.d.amtTo (q.d.look l) d lv k).2 < 0 ∨ q.d.wor (q.d.look l) d (lv - (q.pump - (k : Int))) + d.price (q.pump - (k : Int)) ≤ (q.d.amtTo (q.d.look l) d lv k).2 then (q.pump - (k : Int), q.d.wor (q.d.look l) d (lv - (q.pump - (k : Int))) + d.price (q.pump - (k : Int))) else q.d.amtTo (q.d.look l) d lv k := fun k => rfl
  have haf : ∀ (z : Int) W, Below w.heap.size w W → -1000 ≤ z → z ≤ 1000 → Calls Try.prog 53 #[.agg q.cells.toArray, .slice A l.length c, .int .i64 day, .int .i64 lv, .int .i64 z] W fun e w' => e = .returned (.int .i64 (q.d.wor (q.d.look l) d (lv - z))) ∧ Below W.heap.size W w' := fun z W hb hz0 hz1 =>
    After_any q A c l day d lv z W (hq.below hb hb.size) hd dok ((hs.below hb).more hb.size) hl h0 h1 hc (by omega) (by omega) hz0 hz1
  obtain ⟨bd, od, hA, hbd, hrg⟩ := hq.s.cellD hd
  have hday : day < q.ds.l.length := (List.getElem?_eq_some_iff.1 hd).1
  have hdayz : (day : Int) < (q.ds.l.length : Int) := by omega
  have hday0 : (0 : Int) ≤ (day : Int) := by omega
  have hqz : (q.ds.l.length : Int) ≤ 1000000 := by have := hq.l; omega
  have bb0 : Below w.heap.size w (w.alloc (.cells q.cells.toArray 26)) := (by repeat (first | (with_reducible assumption) | (with_reducible exact Below.refl _ _) | (with_reducible refine Below.drew ?_) | (with_reducible refine below_drewN ?_ _) | ((with_reducible refine Below.setCell ?_ ?_ _); rotate_left; focus (first | (simp; done) | (simp; omega) | omega)) | ((with_reducible refine Below.alloc ?_ ?_ _); rotate_left; focus (first | (simp; done) | (simp; omega) | omega))))
  have l0 : Lies (w.alloc (.cells q.cells.toArray 26)) w.heap.size 26 q.cells.toArray := Lies.fresh _ _ _
  have HRG := Lib.hid (fun V (h : Below w.heap.size w V) => (show V.rangeAt bd (od + day * 5) (encD d) from fun i v hv => (h.cell (p := ⟨bd, od + day * 5 + i, none⟩) hbd).trans (hrg i v hv)))
  have HAF := Lib.hid haf
  have HST := Lib.hid hst
  have HAM0 := Lib.hid (show q.d.amtTo (q.d.look l) d lv 0 = (0, -1) from rfl)
  have HWG := Lib.hid hwg
  have HWL := Lib.hid hwl
  have HBE := Lib.hid hbe
  have HDK := Lib.hid dok
  have HA := Lib.hid hA
  have L0 := Lib.hid l0
  have B0 := Lib.hid bb0
  generalize q.d.bestD (q.d.look l) d lv = bb at *
  generalize q.d.amtTo (q.d.look l) d lv = am at *
  generalize q.d.wor (q.d.look l) d = wo at *
  generalize l.length = ln at *
  clear hK hwg hwl hst haf hbe hA hbd hrg hday hd hq hs hl bb0 l0 hc hub dok hok
  go_enter Try.func26, Try.ntmps26
  go_upto_region 2 with (fail)
  change Code.wp _ _ _ _ (w.alloc (.cells q.cells.toArray 26))
  generalize w.alloc (.cells q.cells.toArray 26) = w2 at *
  have c16 : w2.cell? ⟨w.heap.size, 4, none⟩ = some (.int .i64 q.pump) := L0.out.at_ 4
  go_wp2
  clear c16
  go_loopw [10, 11, 12, 13, 14] (fun s10 s11 s12 _ _ wr => ∃ k : Nat, k ≤ K ∧ s10 = .int .i64 (am k).1 ∧ s11 = .int .i64 (am k).2 ∧ s12 = .int .i64 (q.pump - (k : Int)) ∧ Aside (Below w2.heap.size w2 wr)) (fun _ _ i _ _ _ => (intOf i + q.inl + 1).toNat)
  case atStart => exact ⟨0, by omega, by rw [HAM0.out], by rw [HAM0.out], by simp, Below.refl _ _⟩
  case round =>
    obtain ⟨k, hk, rfl, rfl, rfl, HH⟩ := hrel
    have BW := Lib.hid (B0.out.trans (HH.out.mono B0.out.size))
    have WW := Lib.hid HH.out
    have LW := Lib.hid (L0.out.call HH.out)
    have c19 : wr.cell? ⟨w.heap.size, 5, none⟩ = some (.int .i64 q.inl) := (L0.out.call HH.out).at_ 5
    have hwi : IntKind.i64.wrap (-q.inl) = -q.inl := IntWalk.i64_in _ (by omega)
    clear HH
    by_cases hlt : k < K
    · have hle : -q.inl ≤ q.pump - (k : Int) := by omega
      obtain ⟨a, ha⟩ : ∃ a, a = q.pump - (k : Int) := ⟨_, rfl⟩
      have hst := HST.out k
      rw [← ha] at hst hle
      obtain ⟨n, hn⟩ : ∃ n, n = wo (lv - a) := ⟨_, rfl⟩
      have hng : -1 ≤ n := by rw [hn]; exact HWG.out _
      have hnl : n ≤ 1000000 := by rw [hn]; exact HWL.out _
      have HV := Lib.hid (HAF.out a wr BW.out (by omega) (by omega))
      rw [← hn] at hst HV
      have hwa : IntKind.i64.wrap (a - 1) = a - 1 := IntWalk.i64_in _ (by omega)
      have HA1 := Lib.hid (show a - 1 = q.pump - ((k + 1 : Nat) : Int) by omega)
      have hak : a ≤ 20 := by omega
      rw [← ha]
      have HAA := Lib.hid ha
      clear ha hn
      have K24 := Lib.hid True.intro
      by_cases hnn : n = -1
      · rw [if_pos hnn] at hst
        have HS := Lib.hid hst
        subst hnn
        clear hst hng hnl
        generalize am k = ak at *
        go_wp2_with (first
          | (have h := K24; clear h; refine wpList_load_row (o := ⟨some 24, _, _, _, _, _⟩) ?_ 26 (.tmp 4) ?_ w.heap.size ?_ 26 q.cells.toArray (0, 0) _ LW.out Try.underlying26 rfl size_rp ?_; rfl; rfl; rfl; clear K24)
          | (go_at_call 53; refine HV.out.mono ?_; rintro e w4 ⟨rfl, hb4⟩; have W4 := Lib.hid (WW.out.trans (hb4.mono WW.out.size)); clear hb4))
        go_roundw
        case rel => exact ⟨k + 1, by omega, by rw [HS.out], by rw [HS.out], by rw [← HA1.out], W4.out⟩
        case measure => simp [intOf]; have := HAA.out; omega
      · rw [if_neg hnn] at hst
        have hn0 : 0 ≤ n := by omega
        have hnlt : ¬ n < 0 := by omega
        have hpr0 := Dy.price_nonneg HDK.out a
        have hpr1 := Dy.price_le HDK.out (a := a) (by omega) (by omega)
        have HPR := Lib.hid (fun W => refPrice_any d a W HDK.out (by omega) (by omega))
        generalize d.price a = pr at *
        obtain ⟨cc, hcc⟩ : ∃ cc, cc = n + pr := ⟨_, rfl⟩
        have hwc : IntKind.i64.wrap (n + pr) = cc := by rw [IntWalk.i64_in _ (by omega), hcc]
        rw [← hcc] at hst
        have HS := Lib.hid hst
        clear hst hng hnl hcc
        obtain ⟨⟨x, y⟩, hxy⟩ : ∃ r, r = am k := ⟨_, rfl⟩
        rw [← hxy] at HS ⊢
        clear hxy
        dsimp only at HS ⊢
        by_cases hy : y < 0
        · rw [if_pos (.inl hy)] at HS
          go_wp2_with (first
            | (have h := K24; clear h; refine wpList_load_row (o := ⟨some 24, _, _, _, _, _⟩) ?_ 26 (.tmp 4) ?_ w.heap.size ?_ 26 q.cells.toArray (0, 0) _ LW.out Try.underlying26 rfl size_rp ?_; rfl; rfl; rfl; clear K24)
            | (go_at_call 53; refine HV.out.mono ?_; rintro e w4 ⟨rfl, hb4⟩; have W4 := Lib.hid (WW.out.trans (hb4.mono WW.out.size)); have c34 : w4.cell? ⟨w.heap.size, 6, none⟩ = some (.slice (some ⟨bd, od, none⟩) q.ds.l.length q.ds.c) := (by rw [← HA.out]; exact (LW.out.call hb4).at_ 6); have HRW := Lib.hid (HRG.out w4 (BW.out.trans (hb4.mono BW.out.size))); clear hb4; have K37 := Lib.hid True.intro)
            | (have h := K37; clear h; refine wpList_load_mid (op := ⟨some 37, _, _, _, _, _⟩) ?_ 76 (.tmp 36) ?_ bd (od + day * 5) ?_ (encD d) _ HRW.out Try.underlying76 rfl size_rd ?_; rfl; rfl; rfl; clear K37)
            | (go_at_call 44; refine (HPR.out _).mono ?_; rintro e w5 ⟨rfl, hb5⟩; have W5 := Lib.hid (W4.out.trans (hb5.mono W4.out.size)); clear hb5))
          go_roundw
          case rel => exact ⟨k + 1, by omega, by rw [HS.out], by rw [HS.out], by rw [← HA1.out], W5.out⟩
          case measure => simp [intOf]; have := HAA.out; omega
        · by_cases hle2 : cc ≤ y
          · rw [if_pos (.inr hle2)] at HS
            go_wp2_with (first
              | (have h := K24; clear h; refine wpList_load_row (o := ⟨some 24, _, _, _, _, _⟩) ?_ 26 (.tmp 4) ?_ w.heap.size ?_ 26 q.cells.toArray (0, 0) _ LW.out Try.underlying26 rfl size_rp ?_; rfl; rfl; rfl; clear K24)
              | (go_at_call 53; refine HV.out.mono ?_; rintro e w4 ⟨rfl, hb4⟩; have W4 := Lib.hid (WW.out.trans (hb4.mono WW.out.size)); have c34 : w4.cell? ⟨w.heap.size, 6, none⟩ = some (.slice (some ⟨bd, od, none⟩) q.ds.l.length q.ds.c) := (by rw [← HA.out]; exact (LW.out.call hb4).at_ 6); have HRW := Lib.hid (HRG.out w4 (BW.out.trans (hb4.mono BW.out.size))); clear hb4; have K37 := Lib.hid True.intro)
              | (have h := K37; clear h; refine wpList_load_mid (op := ⟨some 37, _, _, _, _, _⟩) ?_ 76 (.tmp 36) ?_ bd (od + day * 5) ?_ (encD d) _ HRW.out Try.underlying76 rfl size_rd ?_; rfl; rfl; rfl; clear K37)
              | (go_at_call 44; refine (HPR.out _).mono ?_; rintro e w5 ⟨rfl, hb5⟩; have W5 := Lib.hid (W4.out.trans (hb5.mono W4.out.size)); clear hb5))
            go_roundw
            case rel => exact ⟨k + 1, by omega, by rw [HS.out], by rw [HS.out], by rw [← HA1.out], W5.out⟩
            case measure => simp [intOf]; have := HAA.out; omega
          · rw [if_neg (by omega)] at HS
            go_wp2_with (first
              | (have h := K24; clear h; refine wpList_load_row (o := ⟨some 24, _, _, _, _, _⟩) ?_ 26 (.tmp 4) ?_ w.heap.size ?_ 26 q.cells.toArray (0, 0) _ LW.out Try.underlying26 rfl size_rp ?_; rfl; rfl; rfl; clear K24)
              | (go_at_call 53; refine HV.out.mono ?_; rintro e w4 ⟨rfl, hb4⟩; have W4 := Lib.hid (WW.out.trans (hb4.mono WW.out.size)); have c34 : w4.cell? ⟨w.heap.size, 6, none⟩ = some (.slice (some ⟨bd, od, none⟩) q.ds.l.length q.ds.c) := (by rw [← HA.out]; exact (LW.out.call hb4).at_ 6); have HRW := Lib.hid (HRG.out w4 (BW.out.trans (hb4.mono BW.out.size))); clear hb4; have K37 := Lib.hid True.intro)
              | (have h := K37; clear h; refine wpList_load_mid (op := ⟨some 37, _, _, _, _, _⟩) ?_ 76 (.tmp 36) ?_ bd (od + day * 5) ?_ (encD d) _ HRW.out Try.underlying76 rfl size_rd ?_; rfl; rfl; rfl; clear K37)
              | (go_at_call 44; refine (HPR.out _).mono ?_; rintro e w5 ⟨rfl, hb5⟩; have W5 := Lib.hid (W4.out.trans (hb5.mono W4.out.size)); clear hb5))
            go_roundw
            case rel => exact ⟨k + 1, by omega, by rw [HS.out], by rw [HS.out], by rw [← HA1.out], W5.out⟩
            case measure => simp [intOf]; have := HAA.out; omega
    · have hgt : ¬ -q.inl ≤ q.pump - (k : Int) := by omega
      obtain rfl : k = K := by omega
      rw [HBE.out]
      go_wp2
      go_ret2
      exact ⟨rfl, BW.out⟩
end Go.Proofs.Yteognijlgalahaa

/- Tables of the reference in memory. -/
namespace Go.Proofs.Yteognijlgalahaa
open Go.RowKit Go.Lib
attribute [local go_sem] Oper.semAt_some

theorem info_ll : (Try.prog.info? 42).map (fun i => (i.zero, i.size, i.bytes)) = some (some (.slice none 0 0), 1, 24) := by kernel_rfl
theorem make_rows (n : Nat) (hn : n ≤ 1000000) (w : World) : (Instr.makeSlice 40 (.int .i64 (n : Int)) (.int .i64 (n : Int))).run Try.prog w = .ok (.slice (some ⟨w.heap.size, 0, none⟩) n n) (w.alloc (.cells (List.replicate n (Value.slice none 0 0)).toArray 42)) := by
  obtain ⟨j0, hj, yz0, yz1, yz2⟩ := info_parts info_ll
  have := run_make_n (P := Try.prog) 40 42 j0 _ Try.underlying40 hj yz0 n (by rw [yz2]; omega) (by omega) w
  rw [yz1, Nat.mul_one] at this
  rw [this]
  have e : madeCells (Value.slice none 0 0).cells n = (List.replicate n (Value.slice none 0 0)).toArray := by
    apply Array.ext
    · simp [size_madeCells]
    · intro i h1 h2
      simp [madeCells, Value.cells, Nat.mod_one]
  rw [e]
theorem make_zeros (n : Nat) (hn : n ≤ 1000000) (w : World) : (Instr.makeSlice 42 (.int .i64 (n : Int)) (.int .i64 (n : Int))).run Try.prog w = .ok (.slice (some ⟨w.heap.size, 0, none⟩) n n) (w.alloc (.cells (vals (List.replicate n 0)) 3)) := by
  obtain ⟨j0, hj, yz0, yz1, yz2⟩ := info_parts info_int
  have := run_make_n (P := Try.prog) 42 3 j0 _ Try.underlying42 hj yz0 n (by rw [yz2]; omega) (by omega) w
  rw [yz1, Nat.mul_one] at this
  rw [this]
  have e : madeCells (Value.int .i64 0).cells n = vals (List.replicate n 0) := by
    apply Array.ext
    · simp [size_madeCells, vals]
    · intro i h1 h2
      simp [madeCells, Value.cells, Nat.mod_one, vals]
  rw [e]
/-- What a row looks up. -/
theorem look_rowT {p : PoD} {day : Nat} {lv : Int} (h : p.kept lv) : p.look (p.rowT day) lv = p.vals (p.ds.drop day) lv := by
  obtain ⟨h1, h2⟩ := h
  unfold PoD.look
  have hil : (lv - p.low).toNat < p.levels := by unfold PoD.levels; omega
  rw [List.getD, PoD.rowT_at p day hil]
  show p.vals (p.ds.drop day) (p.low + ((lv - p.low).toNat : Int)) = _
  rw [show p.low + ((lv - p.low).toNat : Int) = lv by omega]
theorem look_cst {p : PoD} {l : List Int} (h : ∀ x, x ∈ l → -1 ≤ x) : Cst (p.look l) := fun lv => by
  unfold PoD.look
  rw [List.getD]
  cases hx : l[(lv - p.low).toNat]? with
  | none => show (-1 : Int) ≤ 0; omega
  | some x => exact h x (List.mem_of_getElem? hx)
theorem look_le {p : PoD} {l : List Int} {b : Int} (hb : 0 ≤ b) (h : ∀ x, x ∈ l → x ≤ b) : ∀ lv, p.look l lv ≤ b := fun lv => by
  unfold PoD.look
  rw [List.getD]
  cases hx : l[(lv - p.low).toNat]? with
  | none => exact hb
  | some x => exact h x (List.mem_of_getElem? hx)
theorem rowT_b {p : PoD} (hok : p.Ok) (day : Nat) : ∀ x, x ∈ p.rowT day → -1 ≤ x ∧ x ≤ 1000000 := fun x hx => by
  unfold PoD.rowT at hx
  obtain ⟨i, -, rfl⟩ := List.mem_map.1 hx
  have h2 := PoD.vals_le hok.p0 hok.i0 hok.p1 hok.i1 (ds := p.ds.drop day) (fun d hd => hok.d d (List.mem_of_mem_drop hd)) (p.low + (i : Int))
  have h3 := hok.n2
  have h4 : (p.ds.drop day).length ≤ p.ds.length := by rw [List.length_drop]; omega
  refine ⟨hok.cstDrop day _, ?_⟩
  have h5 : ((p.ds.drop day).length : Int) ≤ 12 := by omega
  omega
/-- By a row of the table: the best amount. -/
theorem rowT_best {p : PoD} (day : Nat) (d : Dy) (lv : Int) : p.bestD (p.look (p.rowT day)) d lv = p.bestD (p.vals (p.ds.drop day)) d lv := PoD.best_congr (fun _ h => look_rowT h) d lv
theorem rowT_next {p : PoD} {day : Nat} {d : Dy} (hd : p.ds[day]? = some d) {m : Nat} (hm : m < p.levels) : p.rowT day = p.rowT day ∧ (p.rowT day)[m]? = some (p.bestD (p.look (p.rowT (day + 1))) d (p.low + (m : Int))).2 := by
  refine ⟨rfl, ?_⟩
  rw [PoD.rowT_at p day hm, rowT_best]
  have hdl := (List.getElem?_eq_some_iff.1 hd).1
  rw [List.drop_eq_getElem_cons hdl, (List.getElem?_eq_some_iff.1 hd).2]
  rfl
theorem rowT_last (p : PoD) : p.rowT p.ds.length = List.replicate p.levels 0 := by
  unfold PoD.rowT
  apply List.ext_getElem
  · simp
  · intro i h1 h2
    simp [List.drop_eq_nil_of_le (Nat.le_refl _), PoD.vals]
/-- The table's rows, each its own. -/
structure VlM (p : PoD) (g : Nat) (row : Nat → Sv Int) (V : World) : Prop where
  c : ∃ cs : List Value, Lies V g 42 cs.toArray ∧ cs.length = p.ds.length + 1 ∧ ∀ i, i ≤ p.ds.length → cs[i]? = some (row i).val
  r : ∀ i, i ≤ p.ds.length → (row i).l = p.rowT i ∧ V.ownsRow (g + 1) 3 1 (row i).val (row i).l.length ((row i).l.flatMap encI)
  s : ∀ i j, i < j → j ≤ p.ds.length → ∀ b b', (row i).val.ownBlock = some b → (row j).val.ownBlock = some b' → b' < b
section
variable {p : PoD} {g : Nat} {row : Nat → Sv Int} {V V' : World}
theorem VlM.call (h : VlM p g row V) (hb : Below V.heap.size V V') : VlM p g row V' := by
  obtain ⟨cs, h1, h2⟩ := h.c
  exact ⟨⟨cs, h1.call hb, h2⟩, fun i hi => ⟨(h.r i hi).1, own_keep (h.r i hi).2 fun k hk => hb.block k (own_at (h.r i hi).2 hk).2.1⟩, h.s⟩
theorem VlM.cell (h : VlM p g row V) {i : Nat} (hi : i ≤ p.ds.length) : V.cell? ⟨g, i, none⟩ = some (.slice (row i).A (row i).l.length (row i).c) := by
  obtain ⟨cs, h1, h2, h3⟩ := h.c
  have := h3 i hi
  rw [h1.at_]
  simpa [Sv.val] using this
theorem VlM.sl (h : VlM p g row V) {i : Nat} (hi : i ≤ p.ds.length) : Sl V V.heap.size 1 encI (row i).A (row i).l := by
  obtain ⟨A', c', e', _, hs⟩ := Sl.of_own (enc := encI) (l := (row i).l) (fun _ => rfl) (h.r i hi).2 rfl
  cases e'
  exact hs
theorem VlM.len (h : VlM p g row V) {i : Nat} (hi : i ≤ p.ds.length) : (row i).l.length = p.levels := by rw [(h.r i hi).1, PoD.rowT_length]
end
/-- What Values hands back. -/
def ValE (p : PoD) (w : World) (e : Ending) (w' : World) : Prop := ∃ (g : Nat) (row : Nat → Sv Int), e = .returned (.slice (some ⟨g, 0, none⟩) (p.ds.length + 1) (p.ds.length + 1)) ∧ w.heap.size ≤ g ∧ VlM p g row w' ∧ Below w.heap.size w w'
/-- While Values works: the rows from day k on stand. -/
structure VaM (q : PoM) (w : World) (N k : Nat) (cs : List Value) (row : Nat → Sv Int) (V : World) : Prop where
  l : Lies V w.heap.size 26 q.cells.toArray
  qa : q.At V w.heap.size
  g : Lies V (w.heap.size + 1) 42 cs.toArray
  n : cs.length = N + 1
  z : ∀ i, i < k → cs[i]? = some (.slice none 0 0)
  r : ∀ i, k ≤ i → i ≤ N → cs[i]? = some (row i).val ∧ (row i).l = q.d.rowT i ∧ V.ownsRow (w.heap.size + 2) 3 1 (row i).val (row i).l.length ((row i).l.flatMap encI)
  s : ∀ i j, k ≤ i → i < j → j ≤ N → ∀ b b', (row i).val.ownBlock = some b → (row j).val.ownBlock = some b' → b' < b
  b : Below w.heap.size w V
/-- While it fills a row, the block of which lies behind B. -/
structure VbM (q : PoM) (w : World) (N day B : Nat) (cs : List Value) (row : Nat → Sv Int) (v : Value) (xs : List Int) (V : World) : Prop where
  l : Lies V w.heap.size 26 q.cells.toArray
  qa : q.At V w.heap.size
  g : Lies V (w.heap.size + 1) 42 (cs.set day v).toArray
  r : ∀ i, day < i → i ≤ N → V.ownsRow (w.heap.size + 2) 3 1 (row i).val (row i).l.length ((row i).l.flatMap encI) ∧ ∀ b, (row i).val.ownBlock = some b → b < B
  o : V.ownsRow B 3 1 v xs.length (xs.flatMap encI)
  b : Below w.heap.size w V
  B0 : w.heap.size + 2 ≤ B
  B1 : B ≤ V.heap.size
section
variable {q : PoM} {w : World} {N k day B b0 c0 : Nat} {cs : List Value} {row : Nat → Sv Int} {v : Value} {xs : List Int} {V V' : World}
theorem VaM.size (h : VaM q w N k cs row V) : w.heap.size + 2 ≤ V.heap.size := h.g.in_
theorem VbM.call (h : VbM q w N day B cs row v xs V) (hb : Below V.heap.size V V') : VbM q w N day B cs row v xs V' :=
  ⟨h.l.call hb, h.qa.below (hb.mono (by have := h.B0; have := h.B1; omega)) (Nat.le_refl _), h.g.call hb, fun i h1 h2 => ⟨own_keep (h.r i h1 h2).1 fun b hk => hb.block b (own_at (h.r i h1 h2).1 hk).2.1, (h.r i h1 h2).2⟩, own_keep h.o fun b hk => hb.block b (own_at h.o hk).2.1, h.b.trans (hb.mono (by have := h.B0; have := h.B1; omega)), h.B0, Nat.le_trans h.B1 hb.size⟩
/-- A row begins. -/
theorem VaM.begin (h : VaM q w N (day + 1) cs row V) : VbM q w N day V.heap.size cs row (.slice none 0 0) [] V := by
  refine ⟨h.l, h.qa, ?_, fun i h1 h2 => ⟨(h.r i h1 h2).2.2, fun b hb => (own_at (h.r i h1 h2).2.2 hb).2.1⟩, World.ownsRow_nil _ _ _ _, h.b, h.size, Nat.le_refl _⟩
  have hz := h.z day (by omega)
  have e : cs.set day (.slice none 0 0) = cs := by
    obtain ⟨hlt, hg⟩ := List.getElem?_eq_some_iff.1 hz
    rw [← hg, List.set_getElem_self]
  rw [e]
  exact h.g
/-- A row ends. -/
theorem VbM.done (h : VbM q w N day B cs row (.slice (some ⟨b0, 0, none⟩) xs.length c0) xs V) (ha : ∀ i, day + 1 ≤ i → i ≤ N → cs[i]? = some (row i).val ∧ (row i).l = q.d.rowT i) (hs : ∀ i j, day + 1 ≤ i → i < j → j ≤ N → ∀ b b', (row i).val.ownBlock = some b → (row j).val.ownBlock = some b' → b' < b) (hn : cs.length = N + 1) (hz : ∀ i, i < day + 1 → cs[i]? = some (.slice none 0 0)) (hd : day ≤ N) (hx : xs = q.d.rowT day) :
    VaM q w N day (cs.set day (.slice (some ⟨b0, 0, none⟩) xs.length c0)) (fun i => if i = day then ⟨some ⟨b0, 0, none⟩, xs, c0⟩ else row i) V := by
  refine ⟨h.l, h.qa, h.g, by rw [List.length_set]; exact hn, fun i hi => ?_, fun i h1 h2 => ?_, fun i j h1 h2 h3 b b' hb hb' => ?_, h.b⟩
  · rw [List.getElem?_set_ne (by omega)]
    exact hz i (by omega)
  · by_cases e : i = day
    · subst e
      rw [if_pos rfl, List.getElem?_set_self (by omega)]
      refine ⟨rfl, hx, ?_⟩
      have ho := h.o
      exact ⟨ho.1, by
        rcases ho.2 with ⟨h3, h4⟩ | ⟨g1, cap, cur, h3, h4, h5⟩
        · exact .inl ⟨h3, h4⟩
        · exact .inr ⟨g1, cap, cur, h3, Nat.le_trans h.B0 h4, h5⟩⟩
    · rw [if_neg e, List.getElem?_set_ne (by omega)]
      obtain ⟨h3, h4⟩ := ha i (by omega) h2
      exact ⟨h3, h4, (h.r i (by omega) h2).1⟩
  · by_cases e : i = day
    · subst e
      rw [if_pos rfl] at hb
      rw [if_neg (by omega)] at hb'
      have h4 := (own_at h.o hb).1
      have h5 := (h.r j (by omega) h3).2 b' hb'
      omega
    · rw [if_neg e] at hb
      rw [if_neg (by omega)] at hb'
      exact hs i j (by omega) h2 h3 b b' hb hb'
theorem VbM.app (h : VbM q w N day B cs row v xs V) {g c : Nat} {x : Int} (ho : V'.ownsRow B 3 1 (.slice (some ⟨g, 0, none⟩) (xs ++ [x]).length c) (xs ++ [x]).length ((xs ++ [x]).flatMap encI)) (hg : V.grownBy V' v.ownBlock) :
    VbM q w N day B cs row (.slice (some ⟨g, 0, none⟩) (xs ++ [x]).length c) (xs ++ [x]) (V'.setCell ⟨w.heap.size + 1, day, none⟩ (.slice (some ⟨g, 0, none⟩) (xs ++ [x]).length c)) := by
  have hb : Below B V V' := below_of_grown hg (fun k hk => (own_at h.o hk).1) h.B1
  have hB0 := h.B0
  have hon := Only.set (w.heap.size + 1) day V' (.slice (some ⟨g, 0, none⟩) (xs ++ [x]).length c)
  have hl1 : Lies V' (w.heap.size + 1) 42 (cs.set day v).toArray := h.g.to_ (hb.block _ (by omega))
  refine ⟨hon.lies (h.l.to_ (hb.block _ (by omega))) (by omega), ?_, ?_, fun i h1 h2 => ⟨own_keep (h.r i h1 h2).1 fun b hk => ?_, (h.r i h1 h2).2⟩, own_keep ho fun b hk => hon.block b (by have := (own_at ho hk).1; omega), hon.below (h.b.trans (hb.mono (by omega))) (by omega), hB0, by rw [hon.size]; exact Nat.le_trans h.B1 hb.size⟩
  · exact (h.qa.below (hb.mono (by omega)) (Nat.le_refl _)).below (hon.below (Below.refl _ _) (by omega)) (Nat.le_refl _)
  · have := hl1.set day (.slice (some ⟨g, 0, none⟩) (xs ++ [x]).length c)
    simpa [List.set_set] using this
  · have h3 := (h.r i h1 h2).2 b hk
    have h4 := (own_at (h.r i h1 h2).1 hk).1
    exact (hon.block b (by omega)).trans (hb.block b h3)
theorem VbM.slot (h : VbM q w N day B cs row v xs V) (hd : day < cs.length) : V.cell? ⟨w.heap.size + 1, day, none⟩ = some v := by
  rw [h.g.at_, List.getElem?_toArray, List.getElem?_set_self hd]
theorem VbM.grew (h : VbM q w N day B cs row v xs V) (hd : day < cs.length) (hg : V.grownBy V' v.ownBlock) : V'.cell? ⟨w.heap.size + 1, day, none⟩ = some v ∧ V'.frozen? ⟨w.heap.size + 1, day, none⟩ = false := by
  have hb : Below B V V' := below_of_grown hg (fun k hk => (own_at h.o hk).1) h.B1
  have hB0 := h.B0
  have hl1 : Lies V' (w.heap.size + 1) 42 (cs.set day v).toArray := h.g.to_ (hb.block _ (by omega))
  refine ⟨?_, hl1.free day⟩
  rw [hl1.at_, List.getElem?_toArray, List.getElem?_set_self hd]
theorem VbM.next (h : VbM q w N day B cs row v xs V) (hd : day < N) (hc : cs[day + 1]? = some (row (day + 1)).val) : V.cell? ⟨w.heap.size + 1, day + 1, none⟩ = some (row (day + 1)).val ∧ Sl V V.heap.size 1 encI (row (day + 1)).A (row (day + 1)).l := by
  refine ⟨?_, ?_⟩
  · rw [h.g.at_, List.getElem?_toArray, List.getElem?_set_ne (by omega)]
    exact hc
  · obtain ⟨A', c', e', _, hs⟩ := Sl.of_own (enc := encI) (l := (row (day + 1)).l) (fun _ => rfl) (h.r (day + 1) (by omega) (by omega)).1 rfl
    cases e'
    exact hs
end
end Go.Proofs.Yteognijlgalahaa

/- The reference's Values. -/
namespace Go.Proofs.Yteognijlgalahaa
open Go.RowKit Go.Lib
attribute [local go_sem] Oper.semAt_some

theorem own_of_lies {W : World} {g base : Nat} {l : List Int} (h : Lies W g 3 (vals l)) (hb : base ≤ g) (hm : l.length ≤ maxLen) : W.ownsRow base 3 1 (.slice (some ⟨g, 0, none⟩) l.length l.length) l.length (l.flatMap encI) := by
  have hf := flat_ints l
  refine ⟨by rw [hf]; simp, .inr ⟨g, l.length, vals l, rfl, hb, h, Nat.le_refl _, hm, by simp [vals], ?_⟩⟩
  rw [hf, Nat.mul_one]
  unfold vals
  rw [List.toList_toArray, List.take_of_length_le (by simp)]
set_option maxRecDepth 100000 in
set_option maxHeartbeats 8000000 in
theorem Values_any (q : PoM) (w : World) (hq : q.At w w.heap.size) (hok : q.d.Ok) : Calls Try.prog 21 #[.agg q.cells.toArray] w (ValE q.d w) := by
  have hl0 : 0 ≤ q.low := hok.l0
  have hl1 : q.low ≤ q.high := hok.l1
  have hl2 : q.high ≤ 60 := hok.l2
  obtain ⟨N, hN⟩ : ∃ N, N = q.ds.l.length := ⟨_, rfl⟩
  have hn12 : q.ds.l.length ≤ 12 := hok.n2
  have hNz : (N : Int) ≤ 12 := by omega
  obtain ⟨n1, hn1⟩ : ∃ n1, n1 = N + 1 := ⟨_, rfl⟩
  have hz1 : (N : Int) + 1 = (n1 : Int) := by omega
  have hwz1 : IntKind.i64.wrap (n1 : Int) = (n1 : Int) := IntWalk.i64_in _ (by omega)
  have hNn : (N : Int) < (n1 : Int) := by omega
  obtain ⟨M, hM⟩ : ∃ M, M = q.d.levels := ⟨_, rfl⟩
  have hMz : q.high - q.low + 1 = (M : Int) := by
    rw [hM]
    show _ = (((q.high + 1 - q.low).toNat : Nat) : Int)
    omega
  have hwM0 : IntKind.i64.wrap (q.high - q.low) = q.high - q.low := IntWalk.i64_in _ (by omega)
  have hwM1 : IntKind.i64.wrap (M : Int) = (M : Int) := IntWalk.i64_in _ (by omega)
  have hmk1 := make_rows n1 (by omega)
  have hmk2 := make_zeros M (by omega)
  have l0 : Lies (w.alloc (.cells q.cells.toArray 26)) w.heap.size 26 q.cells.toArray := Lies.fresh _ _ _
  have b0 : Below w.heap.size w (w.alloc (.cells q.cells.toArray 26)) := (by repeat (first | (with_reducible assumption) | (with_reducible exact Below.refl _ _) | (with_reducible refine Below.drew ?_) | (with_reducible refine below_drewN ?_ _) | ((with_reducible refine Below.setCell ?_ ?_ _); rotate_left; focus (first | (simp; done) | (simp; omega) | omega)) | ((with_reducible refine Below.alloc ?_ ?_ _); rotate_left; focus (first | (simp; done) | (simp; omega) | omega))))
  have HSW := Lib.hid (show w.heap.size ≤ (w.alloc (.cells q.cells.toArray 26)).heap.size by simp)
  have HZ := Lib.hid (show (w.alloc (.cells q.cells.toArray 26)).heap.size = w.heap.size + 1 by simp)
  have c9 : (w.alloc (.cells q.cells.toArray 26)).cell? ⟨w.heap.size, 6, none⟩ = some (.slice q.ds.A N q.ds.c) := by rw [hN]; exact l0.at_ 6
  have HQ := Lib.hid (hq.below b0 (Nat.le_refl _))
  have HOK := Lib.hid hok
  have HN := Lib.hid hN
  have HN1 := Lib.hid hn1
  have HM := Lib.hid hM
  have L0 := Lib.hid l0
  have B0 := Lib.hid b0
  clear hq hok hN hn1 hM l0 b0 hn12
  go_enter Try.func21, Try.ntmps21
  go_upto_region 1 with (fail)
  change Code.wp _ _ _ _ (w.alloc (.cells q.cells.toArray 26))
  generalize w.alloc (.cells q.cells.toArray 26) = w1 at *
  go_upto_region 2 with (fail)
  have hb2 : Below w1.heap.size w1 (w1.alloc (.cells (List.replicate n1 (Value.slice none 0 0)).toArray 42)) := (Below.refl _ _).alloc (Nat.le_refl _) _
  have L2 := Lib.hid (L0.out.call hb2)
  have B2 := Lib.hid (B0.out.trans (hb2.mono B0.out.size))
  have G2 := Lib.hid (show Lies (w1.alloc (.cells (List.replicate n1 (Value.slice none 0 0)).toArray 42)) (w.heap.size + 1) 42 (List.replicate n1 (Value.slice none 0 0)).toArray from Lies.fresh' HZ.out)
  rw [HZ.out]
  clear hb2 c9 L0 B0 HZ hmk1
  have hQ2 : q.At (w1.alloc (.cells (List.replicate n1 (Value.slice none 0 0)).toArray 42)) w.heap.size := HQ.out.below ((Below.refl w.heap.size w1).alloc HSW.out _) (Nat.le_refl _)
  have Q2 := Lib.hid hQ2
  clear hQ2 HQ HSW
  change Code.wp _ _ _ _ (w1.alloc (.cells (List.replicate n1 (Value.slice none 0 0)).toArray 42))
  generalize w1.alloc (.cells (List.replicate n1 (Value.slice none 0 0)).toArray 42) = w2 at *
  have r15 : ∀ cc : Cls (fun W => Lies W w.heap.size 26 q.cells.toArray), cc.val.cell? ⟨w.heap.size, 6, none⟩ = some (.slice q.ds.A N q.ds.c) := fun cc => by rw [HN.out]; exact cc.h.at_ 6
  have r18 : ∀ cc : Cls (fun W => Lies W w.heap.size 26 q.cells.toArray), cc.val.cell? ⟨w.heap.size, 1, none⟩ = some (.int .i64 q.high) := fun cc => cc.h.at_ 1
  have r20 : ∀ cc : Cls (fun W => Lies W w.heap.size 26 q.cells.toArray), cc.val.cell? ⟨w.heap.size, 0, none⟩ = some (.int .i64 q.low) := fun cc => cc.h.at_ 0
  haveI hne : Nonempty (Cls (fun W => Lies W w.heap.size 26 q.cells.toArray)) := ⟨⟨w2, L2.out⟩⟩
  have hdr : Below w2.heap.size w2 w2.drew := (Below.refl _ _).drew
  refine wp_region_wayw [0, 1, 2, 3, 4, 5, 6, 7, 8, 9] (.way 10 (.take 11 (.way 12 .fin .fin)) .fin) (fun W => ∃ cc : Cls (fun W => Lies W w.heap.size 26 q.cells.toArray), W = cc.val) (by kernel_rfl) (by kernel_rfl) (Cls.here (L2.out.call hdr)) ?_
  simp only [List.filterMap_cons, List.filterMap_nil, List.getElem?_toArray, List.getElem?_cons_zero, List.getElem?_cons_succ]
  repeat (first | go_big_quiet_step (rfl) | quiet_step (rfl))
  refine wpQuiet_nil ?_
  have L3 := Lib.hid (L2.out.call hdr)
  have B3 := Lib.hid (B2.out.trans (hdr.mono B2.out.size))
  have G3 := Lib.hid (G2.out.call hdr)
  have Q3 := Lib.hid (Q2.out.below (hdr.mono B2.out.size) (Nat.le_refl _))
  clear hdr L2 B2 G2 Q2
  generalize w2.drew = d0 at *
  rw [wpWy_way]
  refine ⟨?_, by exact trivial⟩
  simp only [List.getElem?_toArray, List.getElem?_cons_succ, List.getElem?_cons_zero]
  go_wp2
  have hb1 : Below d0.heap.size d0 (d0.alloc (.cells (vals (List.replicate M 0)) 3)) := (Below.refl _ _).alloc (Nat.le_refl _) _
  have L4 := Lib.hid (L3.out.call hb1)
  have B4 := Lib.hid (B3.out.trans (hb1.mono B3.out.size))
  have G4 := Lib.hid (G3.out.call hb1)
  have Q4 := Lib.hid (Q3.out.below (hb1.mono B3.out.size) (Nat.le_refl _))
  have Z4 := Lib.hid (Lies.fresh d0 3 (vals (List.replicate M 0)))
  have HG := Lib.hid G3.out.in_
  refine Ends.intro ⟨Cls.here L4.out, ?_⟩
  clear hb1 L3 B3 G3 Q3 hmk2
  generalize d0.alloc (.cells (vals (List.replicate M 0)) 3) = d1 at *
  generalize d0.heap.size = g2 at *
  rw [wpWy_take]
  simp only [List.getElem?_toArray, List.getElem?_cons_succ, List.getElem?_cons_zero]
  first | go_big_quiet_step (rfl) | quiet_step (rfl)
  refine wpQuiet_nil ?_
  rw [wpWy_way]
  refine ⟨?_, by exact trivial⟩
  simp only [List.getElem?_toArray, List.getElem?_cons_succ, List.getElem?_cons_zero]
  have f24 : d1.frozen? ⟨w.heap.size + 1, N, none⟩ = false := G4.out.free N
  have c24 : d1.cell? ⟨w.heap.size + 1, N, none⟩ = some (.slice none 0 0) := by
    rw [G4.out.at_]
    have := HN1.out
    rw [List.getElem?_toArray, List.getElem?_replicate, if_pos (by omega)]
  go_wp2
  have ho := Only.set (w.heap.size + 1) N d1 (.slice (some ⟨g2, 0, none⟩) M M)
  have hg2 : w.heap.size + 2 ≤ g2 := HG.out
  have L5 := Lib.hid (ho.lies L4.out (by omega))
  have V5 := Lib.hid (show VaM q w N N ((List.replicate n1 (Value.slice none 0 0)).set N (.slice (some ⟨g2, 0, none⟩) M M)) (fun _ => ⟨some ⟨g2, 0, none⟩, List.replicate M 0, M⟩) (d1.setCell ⟨w.heap.size + 1, N, none⟩ (.slice (some ⟨g2, 0, none⟩) M M)) from
    ⟨L5.out, Q4.out.below (ho.below (Below.refl _ _) (by omega)) (Nat.le_refl _), by have h := G4.out.set N (.slice (some ⟨g2, 0, none⟩) M M); rwa [List.setIfInBounds_toArray] at h, by rw [List.length_set, List.length_replicate]; exact HN1.out, fun i hi => by
      rw [List.getElem?_set_ne (by omega), List.getElem?_replicate, if_pos (by have := HN1.out; omega)], fun i h1 h2 => by
      obtain rfl : i = N := by omega
      refine ⟨?_, ?_, ?_⟩
      · rw [List.getElem?_set_self (by rw [List.length_replicate]; have := HN1.out; omega)]
        simp [Sv.val]
      · show List.replicate M 0 = q.d.rowT i
        rw [HN.out, HM.out]
        exact (rowT_last q.d).symm
      · have h3 := own_of_lies (base := w.heap.size + 2) (ho.lies Z4.out (by omega)) hg2 (by rw [List.length_replicate]; unfold maxLen; omega)
        simpa [Sv.val] using h3, fun i j h1 h2 h3 => by omega, ho.below B4.out (by omega)⟩)
  refine Ends.intro ⟨Cls.here L5.out, ?_⟩
  rw [wpWy_fin]
  clear c24 f24 ho L4 B4 G4 Q4 Z4 HG L5 r15 r18 r20 hne hg2
  generalize d1.setCell ⟨w.heap.size + 1, N, none⟩ (.slice (some ⟨g2, 0, none⟩) M M) = w3 at *
  have c26 : w3.cell? ⟨w.heap.size, 6, none⟩ = some (.slice q.ds.A N q.ds.c) := by rw [HN.out]; exact V5.out.l.at_ 6
  go_wp2
  clear c26
  go_loopw [4, 5, 6, 7] (fun s4 _ _ _ wr => ∃ (k : Nat), k ≤ N ∧ s4 = .int .i64 ((k : Int) - 1) ∧ Aside (∃ cs row, VaM q w N k cs row wr)) (fun i _ _ _ _ => (intOf i + 1).toNat)
  case atStart => exact ⟨N, by omega, rfl, _, _, V5.out⟩
  case round =>
    obtain ⟨k, hkN, rfl, HH⟩ := hrel
    obtain ⟨cs, row, hva⟩ := HH.out
    have HV := Lib.hid hva
    clear HH hva
    by_cases hk0 : k = 0
    · subst hk0
      go_wp2
      go_ret
      refine ⟨w.heap.size + 1, row, ?_, by omega, ⟨⟨cs, HV.out.g, by rw [HV.out.n, HN.out]; rfl, fun i hi => (HV.out.r i (by omega) (by rw [HN.out]; exact hi)).1⟩, fun i hi => (HV.out.r i (by omega) (by rw [HN.out]; exact hi)).2, fun i j h1 h2 => HV.out.s i j (by omega) h1 (by rw [HN.out]; exact h2)⟩, HV.out.b⟩
      have e : q.d.ds.length + 1 = n1 := by rw [HN1.out, HN.out]; rfl
      rw [e]; rfl
    · obtain ⟨day, rfl⟩ : ∃ day, k = day + 1 := ⟨k - 1, by omega⟩
      have hdk : ((day + 1 : Nat) : Int) - 1 = (day : Int) := by omega
      rw [hdk]
      have hdayN : (day : Int) < (N : Int) := by omega
      have hday0 : (0 : Int) ≤ (day : Int) := by omega
      have hdl : day < q.ds.l.length := by have := HN.out; omega
      obtain ⟨d, hd⟩ : ∃ d, q.ds.l[day]? = some d := ⟨q.ds.l[day]'hdl, by simp⟩
      have hbeg := HV.out.begin (day := day)
      obtain ⟨Bq, hBq⟩ : ∃ B, B = wr.heap.size := ⟨_, rfl⟩
      rw [← hBq] at hbeg
      have HB := Lib.hid hbeg
      have HD := Lib.hid hd
      have hr1 := HV.out.r (day + 1) (by omega) (by omega)
      have HR1 := Lib.hid hr1
      have HROW := Lib.hid (show ∀ i, day + 1 ≤ i → i ≤ N → cs[i]? = some (row i).val ∧ (row i).l = q.d.rowT i from fun i h1 h2 => ⟨(HV.out.r i h1 h2).1, (HV.out.r i h1 h2).2.1⟩)
      have HSS := Lib.hid HV.out.s
      have HNN := Lib.hid HV.out.n
      have HZZ := Lib.hid HV.out.z
      clear hbeg hBq hd hr1 HV
      have hw1 : IntKind.i64.wrap ((day : Int) + 1) = (day : Int) + 1 := IntWalk.i64_in _ (by omega)
      have c34 : wr.cell? ⟨w.heap.size, 0, none⟩ = some (.int .i64 q.low) := HB.out.l.at_ 0
      go_wp2
      clear c34
      go_loopw [5, 6, 7] (fun s5 _ _ wq => ∃ (m : Nat) (A1 : Option Addr) (c1 : Nat), m ≤ M ∧ s5 = .int .i64 (q.low + (m : Int)) ∧ Aside (VbM q w N day Bq cs row (.slice A1 ((q.d.rowT day).take m).length c1) ((q.d.rowT day).take m) wq)) (fun i _ _ _ => (q.high + 1 - intOf i).toNat)
      case atStart => exact ⟨0, none, 0, by omega, by simp, HB.out⟩
      case round =>
        obtain ⟨m, A1, c1, hmM, rfl, HH⟩ := hrel
        have HV := Lib.hid HH.out
        clear HH HB
        have c37 : wr.cell? ⟨w.heap.size, 1, none⟩ = some (.int .i64 q.high) := HV.out.l.at_ 1
        by_cases hm : m < M
        · have hle : q.low + (m : Int) ≤ q.high := by omega
          obtain ⟨hn1, hn2⟩ := HV.out.next (by omega) HR1.out.1
          obtain ⟨s, hs⟩ : ∃ s, s = row (day + 1) := ⟨_, rfl⟩
          rw [← hs] at hn1 hn2
          have hsl : s.l = q.d.rowT (day + 1) := by rw [hs]; exact HR1.out.2.1
          have hsn : (s.l.length : Int) = q.high - q.low + 1 := by rw [hsl, PoD.rowT_length, hMz, HM.out]
          have hcst : Cst (q.d.look s.l) := by rw [hsl]; exact look_cst fun x hx => (rowT_b HOK.out _ x hx).1
          have hubb : ∀ z, q.d.look s.l z ≤ 1000000 := by rw [hsl]; exact look_le (by omega) fun x hx => (rowT_b HOK.out _ x hx).2
          obtain ⟨⟨a, y⟩, hay⟩ : ∃ r, r = q.d.bestD (q.d.look s.l) d (q.low + (m : Int)) := ⟨_, rfl⟩
          have hnx := (rowT_next (p := q.d) HD.out (m := m) (by rw [← HM.out]; exact hm)).2
          rw [← hsl, show q.d.low = q.low from rfl, ← hay] at hnx
          have HNX := Lib.hid hnx
          have HAM := Lib.hid (fun W (hb : Below wr.heap.size wr W) => (show Calls Try.prog 26 #[.agg q.cells.toArray, .slice s.A s.l.length s.c, .int .i64 day, .int .i64 (q.low + (m : Int))] W fun e w' => e = .returned (.tuple #[.int .i64 a, .int .i64 y]) ∧ Below W.heap.size W w' by
            have := Amount_any q s.A s.c s.l day d (q.low + (m : Int)) W ((HV.out.qa.below (hb.mono (by have := HV.out.B0; have := HV.out.B1; omega)) (Nat.le_refl _)).below (Below.refl _ _) (by have := hb.size; have := HV.out.B0; have := HV.out.B1; omega)) HD.out HOK.out ((hn2.below hb).more hb.size) hsn hcst hubb (by omega) (by omega)
            rw [← hay] at this
            exact this))
          have r47 := cell_regrown (show wr.cell? ⟨w.heap.size + 1, day + 1, none⟩ = some (.slice s.A s.l.length s.c) from hn1)
          have HRQ := Lib.hid (fun W (h : ∃ p : Regrown, W = Go.Sort.grow (redrawn wr p.d) p.os) => (show W.rangeAt w.heap.size 0 q.cells by
            obtain ⟨p, rfl⟩ := h
            exact Lies.range (cs := q.cells) (HV.out.l.call (below_regrown _ _ _)) (fun j v hj => by simpa using hj)))
          have hd1 : (day : Int) + 1 < (n1 : Int) := by have := HN1.out; omega
          have hd2 : (0 : Int) ≤ (day : Int) + 1 := by omega
          have hdn : (day : Int) < (n1 : Int) := by omega
          have hcl : day < cs.length := by rw [HNN.out]; omega
          clear hn1 hn2 hs hsl hsn hcst hubb hay hnx
          go_upto_region 9 with (fail)
          refine wp_region_quiet_below (by kernel_rfl) (by kernel_rfl) ?_
          repeat (first
            | (refine wpQuiet_load_wholeG (o := ⟨some 42, _, _, _, _, _⟩) ?_ 26 (.tmp 1) ?_ w.heap.size 0 ?_ q.cells _ HRQ.out Try.underlying26 rfl size_rp ?_; rfl; rfl; rfl; simp only [Act.put, List.setIfInBounds_toArray, List.set_cons_zero, List.set_cons_succ])
            | go_big_quiet_step (first | (go_at_call 26; exact Calls.regrown_of (HAM.out _ (below_regrown _ _ _)))) | quiet_step (first | (go_at_call 26; exact Calls.regrown_of (HAM.out _ (below_regrown _ _ _)))))
          refine wpQuiet_nil ?_
          intro wz hwz
          have hbz : Below _ _ wz := (by obtain ⟨p, rfl⟩ := hwz; exact below_regrown _ _ _)
          clear hwz r47 HRQ c37
          have M1 := Lib.hid (HV.out.call hbz)
          clear hbz HAM HV
          obtain ⟨xs, hxs⟩ : ∃ xs, xs = (q.d.rowT day).take m := ⟨_, rfl⟩
          rw [← hxs] at M1
          have HXS := Lib.hid hxs
          have hxl : xs.length ≤ 61 := by rw [hxs, List.length_take]; omega
          have HXL := Lib.hid hxl
          clear hxs hxl
          have c58 : wz.cell? ⟨w.heap.size + 1, day, none⟩ = some (.slice A1 xs.length c1) := M1.out.slot hcl
          have hba : Below wz.heap.size wz (wz.alloc (.cells #[.int .i64 y] 3)) := (Below.refl _ _).alloc (Nat.le_refl _) _
          have M2 := Lib.hid (M1.out.call hba)
          have N2 := Lib.hid ((Lies.fresh wz 3 #[.int .i64 y]).at_ 0)
          have HCL := Lib.hid hcl
          clear hba M1
          have K61 := Lib.hid True.intro
          go_wp2_with (have h := K61; clear h; refine wpList_app_one (o := ⟨some 61, _, _, _, _, _⟩) ?_ (.tmp 58) (.tmp 60) ?_ Bq _ xs ?_ M2.out.o wz.heap.size 1 y ?_ N2.out (by have := HXL.out; omega) M2.out.B1 ?_; rfl; rfl; rfl; rfl; intro g3 cap3 u3 ho3 hg3 hat3; obtain ⟨c62, f62⟩ := M2.out.grew HCL.out hg3; have M4 := Lib.hid (M2.out.app ho3 hg3); clear ho3 hg3 hat3; clear K61)
          have hxl2 : (xs ++ [y]).length = xs.length + 1 := by simp
          have htk : xs ++ [y] = (q.d.rowT day).take (m + 1) := by rw [List.take_add_one, HNX.out, HXS.out]; rfl
          have hm4 := M4.out
          rw [htk] at hm4
          have htl : xs.length + 1 = ((q.d.rowT day).take (m + 1)).length := by rw [← htk, hxl2]
          rw [htl]
          have M5 := Lib.hid hm4
          clear hm4 htl htk hxl2 c62 f62 c58
          go_roundw
          case rel => exact ⟨m + 1, some ⟨g3, 0, none⟩, cap3, by omega, by go_num, M5.out⟩
          case measure => simp [intOf]; omega
        · obtain rfl : m = M := by omega
          have hgt : ¬ q.low + (m : Int) ≤ q.high := by omega
          have htk : (q.d.rowT day).take m = q.d.rowT day := List.take_of_length_le (by rw [PoD.rowT_length, HM.out]; exact Nat.le_refl _)
          have hne : (q.d.rowT day).length ≠ 0 := by rw [PoD.rowT_length, ← HM.out]; omega
          have hv := HV.out
          rw [htk] at hv
          obtain ⟨b1, hA1⟩ : ∃ b1, A1 = some ⟨b1, 0, none⟩ := by
            rcases hv.o.2 with ⟨h3, h4⟩ | ⟨g1, cap, cur, h3, h4, h5⟩
            · rw [Value.slice.injEq] at h3
              exact absurd h3.2.1 hne
            · cases h3
              exact ⟨g1, rfl⟩
          subst hA1
          have hva := hv.done HROW.out HSS.out HNN.out HZZ.out (by omega) rfl
          have M5 := Lib.hid hva
          clear hv hva HV htk hne
          have hdd : ((day : Int) - 1 + 1) = (day : Int) := by omega
          go_wp2
          go_roundw
          case rel => exact ⟨day, by omega, by go_num, _, _, M5.out⟩
          case measure => simp [intOf]
end Go.Proofs.Yteognijlgalahaa

/- The law's fault; tables that are read. -/
namespace Go.Proofs.Yteognijlgalahaa
open Go.RowKit Go.Lib
attribute [local go_sem] Oper.semAt_some

theorem lawFault_any (q : PoM) (w : World) (hq : q.At w w.heap.size) : Calls Try.prog 20 #[.agg q.cells.toArray] w fun e w' => e = .returned (.int .i64 q.d.fault) ∧ Below w.heap.size w w' := by
  have l0 : Lies (w.alloc (.cells q.cells.toArray 26)) w.heap.size 26 q.cells.toArray := Lies.fresh _ _ _
  have b0 : Below w.heap.size w (w.alloc (.cells q.cells.toArray 26)) := (by repeat (first | (with_reducible assumption) | (with_reducible exact Below.refl _ _) | (with_reducible refine Below.drew ?_) | (with_reducible refine below_drewN ?_ _) | ((with_reducible refine Below.setCell ?_ ?_ _); rotate_left; focus (first | (simp; done) | (simp; omega) | omega)) | ((with_reducible refine Below.alloc ?_ ?_ _); rotate_left; focus (first | (simp; done) | (simp; omega) | omega))))
  have HF := Lib.hid (fun W (hb : Below w.heap.size w W) => Fault_any q W (hq.below hb hb.size))
  have HB : IntKind.i64.wrap q.d.fault = q.d.fault := by
    unfold PoD.fault
    split
    · rfl
    · split <;> rfl
  have L0 := Lib.hid l0
  have B0 := Lib.hid b0
  have K3 := Lib.hid True.intro
  clear l0 b0 hq
  generalize q.d.fault = ff at *
  go_enter Try.func20, Try.ntmps20
  go_upto_region 1 with (fail)
  change Code.wp _ _ _ _ (w.alloc (.cells q.cells.toArray 26))
  generalize w.alloc (.cells q.cells.toArray 26) = w1 at *
  go_wp2_with (first
    | (have h := K3; clear h; refine wpList_load_row (o := ⟨some 3, _, _, _, _, _⟩) ?_ 26 (.tmp 1) ?_ w.heap.size ?_ 26 q.cells.toArray (0, 0) _ L0.out Try.underlying26 rfl size_rp ?_; rfl; rfl; rfl; clear K3)
    | (go_at_call 46; refine (HF.out _ B0.out).mono ?_; rintro e w2 ⟨rfl, hb2⟩))
  go_ret
  exact ⟨rfl, B0.out.trans (hb2.mono B0.out.size)⟩
/-- The rows of a table that is read. -/
theorem OutM.cell {B c : Nat} {out : List (Sv Int)} {A : Option Addr} {W : World} (h : OutM B out A c W) {i : Nat} {s : Sv Int} (hs : out[i]? = some s) : ∃ b off, A = some ⟨b, off, none⟩ ∧ b < W.heap.size ∧ W.cell? ⟨b, off + i, none⟩ = some (.slice s.A s.l.length s.c) ∧ Sl W W.heap.size 1 encI s.A s.l := by
  obtain ⟨A', c', e', _, hso⟩ := Sl.of_own (enc := encV) (l := out) (fun _ => rfl) h.o rfl
  cases e'
  obtain ⟨b, off, e, hb, hc⟩ := hso.at_ hs
  have h0 := hc 0 _ rfl
  rw [Nat.mul_one, Nat.add_zero] at h0
  obtain ⟨_, _, e2, _, hsi⟩ := Sl.of_own (enc := encI) (l := s.l) (fun _ => rfl) (h.i s (List.mem_of_getElem? hs)) rfl
  cases e2
  exact ⟨b, off, e, hb, by simpa [Sv.val] using h0, hsi⟩
theorem openThin {q : PoM} {w : World} (h : OpenPo q w) (hl : q.ds.l.length ≤ 15) : q.At w w.heap.size := h.at_ hl
theorem fault_ok {p : PoD} (h : p.fault = 0) : p.Ok := PoD.fault_iff.1 h
end Go.Proofs.Yteognijlgalahaa
