/- Hold. -/
import Derived.Test.YteognijlgalahaaRG
namespace Go.Proofs.Yteognijlgalahaa
open Go.RowKit Go.Lib
attribute [local go_sem] Oper.semAt_some

/-- What Hold hands back. -/
def HoldO (x : List (Int × Int) × Int) (w : World) (e : Ending) (w' : World) : Prop := ∃ A c, e = .returned (.tuple #[.slice A x.1.length c, .int .i64 x.2]) ∧ Sl w' w'.heap.size 2 encRg A x.1 ∧ Below w.heap.size w w'
theorem nilRg (w : World) : Sl w w.heap.size 2 encRg none [] := fun h => absurd rfl h
set_option maxRecDepth 100000 in
set_option maxHeartbeats 4000000 in
theorem Hold_any (p : PoM) (w : World) (hp : p.At w w.heap.size) : Calls Try.prog 19 #[.agg p.cells.toArray] w (HoldO p.d.holdR w) := by
  have l0 : Lies (w.alloc (.cells p.cells.toArray 34)) w.heap.size 34 p.cells.toArray := Lies.fresh _ _ _
  have b0 : Below w.heap.size w (w.alloc (.cells p.cells.toArray 34)) := (by repeat (first | (with_reducible assumption) | (with_reducible exact Below.refl _ _) | (with_reducible refine Below.drew ?_) | (with_reducible refine below_drewN ?_ _) | ((with_reducible refine Below.setCell ?_ ?_ _); rotate_left; focus (first | (simp; done) | (simp; omega) | omega)) | ((with_reducible refine Below.alloc ?_ ?_ _); rotate_left; focus (first | (simp; done) | (simp; omega) | omega))))
  have hv := CheckPolder_any p (w.alloc (.cells p.cells.toArray 34)) (hp.below b0 b0.size)
  have hke : ∀ W, p.d.fault = 0 → Below w.heap.size w W → Calls Try.prog 48 #[.agg p.cells.toArray] W fun e w' => ∃ D mb, e = .returned (.agg (keC p D mb).toArray) ∧ KeM p p.T 0 D mb w' ∧ Below W.heap.size W w' := fun W h hb => (keep_any p W (PoD.fault_iff.1 h) (hp.below hb hb.size)).mono (by rintro e w' ⟨D, mb, h1, h2, h3, h4, h5⟩; exact ⟨D, mb, h1, h2, h5⟩)
  have hco : p.d.fault = 0 → ∀ D mb W, KeM p p.T 0 D mb W → Calls Try.prog 49 #[.agg (keC p D mb).toArray] W (HeldE (if p.d.canHold then p.d.holdL else []) p.d.canHold W) := fun h D mb W hk => held_any p D mb W hk (PoD.fault_iff.1 h)
  have hf : p.d.holdR = if p.d.fault ≠ 0 then ([], p.d.fault) else if p.d.canHold then (p.d.holdL, 0) else ([], 9) := rfl
  have HV := Lib.hid hv
  have HF := Lib.hid hf
  have HK := Lib.hid hke
  have HC := Lib.hid hco
  have L0 := Lib.hid l0
  have B0 := Lib.hid b0
  have K7 := Lib.hid True.intro
  clear hv hf l0 b0 hp hke hco
  generalize p.d.holdR = rr at *
  generalize p.d.holdL = hl at *
  generalize p.d.canHold = cb at *
  generalize p.d.fault = ff at *
  go_enter Try.func19, Try.ntmps19
  go_upto_region 2 with (first
    | (have h := K7; clear h; refine wpList_load_row (o := ⟨some 7, _, _, _, _, _⟩) ?_ 34 (.tmp 1) ?_ w.heap.size ?_ 34 p.cells.toArray (0, 0) _ L0.out Try.underlying34 rfl size_po ?_; rfl; rfl; rfl; clear K7)
    | (go_at_call 17; refine HV.out.mono ?_; rintro e w2 ⟨rfl, hb2⟩))
  have B2 := Lib.hid (B0.out.trans (hb2.mono B0.out.size))
  have L2 := Lib.hid (L0.out.call hb2)
  clear hb2 HV L0 B0
  by_cases h0 : ff = 0
  · subst h0
    have HKK := Lib.hid (HK.out w2 rfl B2.out)
    have HCC := Lib.hid (HC.out rfl)
    rw [if_neg (by simp)] at HF
    clear HK HC
    cases cb with
    | true =>
      rw [if_pos rfl] at HF HCC
      have K13 := Lib.hid True.intro
      go_wp2_with (first
        | (have h := K13; clear h; refine wpList_load_row (o := ⟨some 13, _, _, _, _, _⟩) ?_ 34 (.tmp 1) ?_ w.heap.size ?_ 34 p.cells.toArray (0, 0) _ L2.out Try.underlying34 rfl size_po ?_; rfl; rfl; rfl; clear K13)
        | (go_at_call 48; refine HKK.out.mono ?_; rintro e w3 ⟨D, mb, rfl, hk3, hb3⟩; have K3 := Lib.hid hk3; have B3 := Lib.hid (B2.out.trans (hb3.mono B2.out.size)); clear hk3 hb3 HKK)
        | (go_at_call 49; refine (HCC.out D mb _ K3.out).mono ?_; rintro e w4 ⟨A4, c4, rfl, hs4, hb4⟩; have S4 := Lib.hid hs4; have B4 := Lib.hid (B3.out.trans (hb4.mono B3.out.size)); clear hs4 hb4))
      go_ret2
      rw [HF.out]
      exact ⟨A4, c4, rfl, S4.out, B4.out⟩
    | false =>
      rw [if_neg (by simp)] at HF HCC
      have K13 := Lib.hid True.intro
      go_wp2_with (first
        | (have h := K13; clear h; refine wpList_load_row (o := ⟨some 13, _, _, _, _, _⟩) ?_ 34 (.tmp 1) ?_ w.heap.size ?_ 34 p.cells.toArray (0, 0) _ L2.out Try.underlying34 rfl size_po ?_; rfl; rfl; rfl; clear K13)
        | (go_at_call 48; refine HKK.out.mono ?_; rintro e w3 ⟨D, mb, rfl, hk3, hb3⟩; have K3 := Lib.hid hk3; have B3 := Lib.hid (B2.out.trans (hb3.mono B2.out.size)); clear hk3 hb3 HKK)
        | (go_at_call 49; refine (HCC.out D mb _ K3.out).mono ?_; rintro e w4 ⟨A4, c4, rfl, hs4, hb4⟩; have B4 := Lib.hid (B3.out.trans (hb4.mono B3.out.size)); clear hs4 hb4))
      go_ret2
      rw [HF.out]
      exact ⟨none, 0, rfl, nilRg _, B4.out⟩
  · have hne : ((ff : Int) == 0) = false := by simpa using h0
    have hne2 : ((ff : Int) != 0) = true := by simpa using h0
    rw [if_pos h0] at HF
    clear h0 HK HC
    go_wp2
    go_ret2
    rw [HF.out]
    exact ⟨none, 0, rfl, nilRg _, B2.out⟩
end Go.Proofs.Yteognijlgalahaa
