/- CheckPolder, Least, checkLevel, Best. -/
import Derived.Test.YteognijlgalahaaPM
namespace Go.Proofs.Yteognijlgalahaa
open Go.RowKit Go.Lib
attribute [local go_sem] Oper.semAt_some

set_option maxRecDepth 100000 in
set_option maxHeartbeats 4000000 in
theorem CheckPolder_any (p : PoM) (w : World) (hp : p.At w w.heap.size) : Calls Try.prog 17 #[.agg p.cells.toArray] w fun e w' => e = .returned (.int .i64 p.d.fault) ∧ Below w.heap.size w w' := by
  have l0 : Lies (w.alloc (.cells p.cells.toArray 34)) w.heap.size 34 p.cells.toArray := Lies.fresh _ _ _
  have b0 : Below w.heap.size w (w.alloc (.cells p.cells.toArray 34)) := (by repeat (first | (with_reducible assumption) | (with_reducible exact Below.refl _ _) | (with_reducible refine Below.drew ?_) | (with_reducible refine below_drewN ?_ _) | ((with_reducible refine Below.setCell ?_ ?_ _); rotate_left; focus (first | (simp; done) | (simp; omega) | omega)) | ((with_reducible refine Below.alloc ?_ ?_ _); rotate_left; focus (first | (simp; done) | (simp; omega) | omega))))
  have hlz : (p.ds.l.length : Int) ≤ 1000000 := by have := hp.l; omega
  have hf : p.d.fault = if 12 < p.ds.l.length then 3 else if p.d.validB then 0 else 1 := rfl
  have hv := isValid_any p (w.alloc (.cells p.cells.toArray 34)) (hp.below b0 b0.size)
  have HV := Lib.hid hv
  have HF := Lib.hid hf
  have L0 := Lib.hid l0
  have B0 := Lib.hid b0
  clear hv hf l0 b0 hp
  generalize p.d.fault = ff at *
  generalize p.d.validB = y at *
  go_enter Try.func17, Try.ntmps17
  go_upto_region 1 with (fail)
  change Code.wp _ _ _ _ (w.alloc (.cells p.cells.toArray 34))
  generalize w.alloc (.cells p.cells.toArray 34) = w1 at *
  have c4 : w1.cell? ⟨w.heap.size, 6, none⟩ = some (.slice p.ds.A p.ds.l.length p.ds.c) := L0.out.at_ 6
  by_cases h12 : 12 < p.ds.l.length
  · have hz : (12 : Int) < (p.ds.l.length : Int) := by omega
    go_wp2
    go_ret
    exact ⟨ret_int (by rw [HF.out, if_pos h12]), B0.out⟩
  · have hz : ¬ (12 : Int) < (p.ds.l.length : Int) := by omega
    rw [if_neg h12] at HF
    clear h12
    cases y with
    | false =>
      go_wp2_with (first
        | (refine wpList_load_row (o := ⟨some 7, _, _, _, _, _⟩) ?_ 34 (.tmp 1) ?_ w.heap.size ?_ 34 p.cells.toArray (0, 0) _ L0.out Try.underlying34 rfl size_po ?_; rfl; rfl; rfl)
        | (go_at_call 47; refine HV.out.mono ?_; rintro e w2 ⟨rfl, hb2⟩))
      go_ret
      exact ⟨ret_int (by rw [HF.out]; rfl), B0.out.trans (hb2.mono B0.out.size)⟩
    | true =>
      go_wp2_with (first
        | (refine wpList_load_row (o := ⟨some 7, _, _, _, _, _⟩) ?_ 34 (.tmp 1) ?_ w.heap.size ?_ 34 p.cells.toArray (0, 0) _ L0.out Try.underlying34 rfl size_po ?_; rfl; rfl; rfl)
        | (go_at_call 47; refine HV.out.mono ?_; rintro e w2 ⟨rfl, hb2⟩))
      go_ret
      exact ⟨ret_int (by rw [HF.out]; rfl), B0.out.trans (hb2.mono B0.out.size)⟩
theorem inRange_any (b : Bool) (w : World) : Calls Try.prog 75 #[.bool b] w fun e w' => e = .returned (.int .i64 (if b then 0 else 2)) ∧ w = w' := by
  cases b
  all_goals
    go_enter Try.func75, Try.ntmps75
    go_wp2
    go_ret
    exact ⟨ret_int rfl, rfl⟩
/-- What Least tells. -/
def PoD.leastR (p : PoD) : Int × Int := if p.fault ≠ 0 then (0, p.fault) else if p.costD = -1 then (0, 9) else (p.costD, 0)
set_option maxRecDepth 100000 in
set_option maxHeartbeats 4000000 in
theorem Least_any (p : PoM) (w : World) (hp : p.At w w.heap.size) : Calls Try.prog 22 #[.agg p.cells.toArray] w fun e w' => e = .returned (.tuple #[.int .i64 p.d.leastR.1, .int .i64 p.d.leastR.2]) ∧ Below w.heap.size w w' := by
  have l0 : Lies (w.alloc (.cells p.cells.toArray 34)) w.heap.size 34 p.cells.toArray := Lies.fresh _ _ _
  have b0 : Below w.heap.size w (w.alloc (.cells p.cells.toArray 34)) := (by repeat (first | (with_reducible assumption) | (with_reducible exact Below.refl _ _) | (with_reducible refine Below.drew ?_) | (with_reducible refine below_drewN ?_ _) | ((with_reducible refine Below.setCell ?_ ?_ _); rotate_left; focus (first | (simp; done) | (simp; omega) | omega)) | ((with_reducible refine Below.alloc ?_ ?_ _); rotate_left; focus (first | (simp; done) | (simp; omega) | omega))))
  have hv := CheckPolder_any p (w.alloc (.cells p.cells.toArray 34)) (hp.below b0 b0.size)
  have hke : ∀ W, p.d.fault = 0 → Below w.heap.size w W → Calls Try.prog 48 #[.agg p.cells.toArray] W fun e w' => ∃ D mb, e = .returned (.agg (keC p D mb).toArray) ∧ KeM p p.T 0 D mb w' ∧ Below W.heap.size W w' := fun W h hb => (keep_any p W (PoD.fault_iff.1 h) (hp.below hb hb.size)).mono (by rintro e w' ⟨D, mb, h1, h2, h3, h4, h5⟩; exact ⟨D, mb, h1, h2, h5⟩)
  have hco : p.d.fault = 0 → ∀ D mb W, KeM p p.T 0 D mb W → Calls Try.prog 50 #[.agg (keC p D mb).toArray] W fun e w' => e = .returned (.int .i64 p.d.costD) ∧ Below W.heap.size W w' := fun h D mb W hk => cost_any p D mb W (PoD.fault_iff.1 h) hk
  have hf : p.d.leastR = if p.d.fault ≠ 0 then (0, p.d.fault) else if p.d.costD = -1 then (0, 9) else (p.d.costD, 0) := rfl
  have HV := Lib.hid hv
  have HF := Lib.hid hf
  have HK := Lib.hid hke
  have HC := Lib.hid hco
  have L0 := Lib.hid l0
  have B0 := Lib.hid b0
  clear hv hf l0 b0 hp hke hco
  generalize p.d.leastR = rr at *
  generalize p.d.costD = cc at *
  generalize p.d.fault = ff at *
  go_enter Try.func22, Try.ntmps22
  go_upto_region 2 with (first
    | (refine wpList_load_row (o := ⟨some 6, _, _, _, _, _⟩) ?_ 34 (.tmp 1) ?_ w.heap.size ?_ 34 p.cells.toArray (0, 0) _ L0.out Try.underlying34 rfl size_po ?_; rfl; rfl; rfl)
    | (go_at_call 17; refine HV.out.mono ?_; rintro e w2 ⟨rfl, hb2⟩))
  have B2 := Lib.hid (B0.out.trans (hb2.mono B0.out.size))
  have L2 := Lib.hid (L0.out.call hb2)
  clear hb2 HV L0 B0
  by_cases h0 : ff = 0
  · subst h0
    have HKK := Lib.hid (HK.out w2 rfl B2.out)
    have HCC := Lib.hid (HC.out rfl)
    rw [if_neg (by simp)] at HF
    clear HK HC
    go_upto_region 5 with (first
      | (have h := HKK; clear h; refine wpList_load_row (o := ⟨some 11, _, _, _, _, _⟩) ?_ 34 (.tmp 1) ?_ w.heap.size ?_ 34 p.cells.toArray (0, 0) _ L2.out Try.underlying34 rfl size_po ?_; rfl; rfl; rfl)
      | (go_at_call 48; refine HKK.out.mono ?_; rintro e w3 ⟨D, mb, rfl, hk3, hb3⟩; have K3 := Lib.hid hk3; clear hk3 HKK)
      | (go_at_call 50; refine (HCC.out D mb _ K3.out).mono ?_; rintro e w4 ⟨rfl, hb4⟩))
    have B4 := Lib.hid (B2.out.trans ((hb3.trans (hb4.mono hb3.size)).mono B2.out.size))
    clear hb3 hb4 K3 HCC L2 B2
    by_cases hc : cc = -1
    · have hce : ((cc : Int) == -1) = true := by simp [hc]
      rw [if_pos hc] at HF
      clear hc
      go_wp2
      go_ret2
      rw [HF.out]
      exact ⟨rfl, B4.out⟩
    · have hce : ((cc : Int) == -1) = false := by simpa using hc
      rw [if_neg hc] at HF
      clear hc
      go_wp2
      go_ret2
      rw [HF.out]
      exact ⟨rfl, B4.out⟩
  · have hne : ((ff : Int) == 0) = false := by simpa using h0
    have hne2 : ((ff : Int) != 0) = true := by simpa using h0
    rw [if_pos h0] at HF
    clear h0 HK HC
    go_wp2
    go_ret2
    rw [HF.out]
    exact ⟨rfl, B2.out⟩
end Go.Proofs.Yteognijlgalahaa
