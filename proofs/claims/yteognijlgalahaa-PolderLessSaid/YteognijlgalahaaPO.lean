/- checkLevel, Best. -/
import Derived.Test.YteognijlgalahaaPN
namespace Go.Proofs.Yteognijlgalahaa
open Go.RowKit Go.Lib
attribute [local go_sem] Oper.semAt_some

def PoD.levB (p : PoD) (day lv : Int) : Bool := decide (0 ≤ day) && decide (day < (p.ds.length : Int)) && inB lv p.low p.high
def PoD.levR (p : PoD) (day lv : Int) : Int := if p.fault ≠ 0 then p.fault else if p.levB day lv then 0 else 2
set_option maxRecDepth 100000 in
set_option maxHeartbeats 8000000 in
theorem checkLevel_any (p : PoM) (day lv : Int) (w : World) (hp : p.At w w.heap.size) : Calls Try.prog 51 #[.agg p.cells.toArray, .int .i64 day, .int .i64 lv] w fun e w' => e = .returned (.int .i64 (p.d.levR day lv)) ∧ Below w.heap.size w w' := by
  have l0 : Lies (w.alloc (.cells p.cells.toArray 34)) w.heap.size 34 p.cells.toArray := Lies.fresh _ _ _
  have b0 : Below w.heap.size w (w.alloc (.cells p.cells.toArray 34)) := (by repeat (first | (with_reducible assumption) | (with_reducible exact Below.refl _ _) | (with_reducible refine Below.drew ?_) | (with_reducible refine below_drewN ?_ _) | ((with_reducible refine Below.setCell ?_ ?_ _); rotate_left; focus (first | (simp; done) | (simp; omega) | omega)) | ((with_reducible refine Below.alloc ?_ ?_ _); rotate_left; focus (first | (simp; done) | (simp; omega) | omega))))
  have hv := CheckPolder_any p (w.alloc (.cells p.cells.toArray 34)) (hp.below b0 b0.size)
  have hki := fun W => isKept_any p lv W
  have hf : p.d.levR day lv = if p.d.fault ≠ 0 then p.d.fault else if (decide (0 ≤ day) && decide (day < (p.ds.l.length : Int)) && inB lv p.low p.high) then 0 else 2 := rfl
  have HV := Lib.hid hv
  have HF := Lib.hid hf
  have HK := Lib.hid hki
  have L0 := Lib.hid l0
  have B0 := Lib.hid b0
  clear hv hf l0 b0 hp hki
  generalize p.d.levR day lv = rr at *
  generalize p.d.fault = ff at *
  generalize inB lv p.low p.high = y3 at *
  generalize hy1 : decide (0 ≤ day) = y1 at *
  generalize hy2 : decide (day < (p.ds.l.length : Int)) = y2 at *
  go_enter Try.func51, Try.ntmps51
  go_upto_region 2 with (first
    | (refine wpList_load_row (o := ⟨some 8, _, _, _, _, _⟩) ?_ 34 (.tmp 3) ?_ w.heap.size ?_ 34 p.cells.toArray (0, 0) _ L0.out Try.underlying34 rfl size_po ?_; rfl; rfl; rfl)
    | (go_at_call 17; refine HV.out.mono ?_; rintro e w2 ⟨rfl, hb2⟩))
  have B2 := Lib.hid (B0.out.trans (hb2.mono B0.out.size))
  have L2 := Lib.hid (L0.out.call hb2)
  clear hb2 HV L0 B0
  by_cases h0 : ff = 0
  · subst h0
    rw [if_neg (by simp)] at HF
    have c18 : w2.cell? ⟨w.heap.size, 6, none⟩ = some (.slice p.ds.A p.ds.l.length p.ds.c) := L2.out.at_ 6
    have K23 := Lib.hid True.intro
    cases y1 with
    | false =>
      go_wp2_with (first
        | (go_at_call 75; refine (inRange_any _ _).mono ?_; rintro e w' ⟨rfl, rfl⟩))
      go_ret
      exact ⟨ret_int (by rw [HF.out]; rfl), B2.out⟩
    | true =>
      have hd0 : 0 ≤ day := by simpa using hy1
      cases y2 with
      | false =>
        have hdl : ¬ day < (p.ds.l.length : Int) := by simpa using hy2
        go_wp2_with (first
          | (go_at_call 75; refine (inRange_any _ _).mono ?_; rintro e w' ⟨rfl, rfl⟩))
        go_ret
        exact ⟨ret_int (by rw [HF.out]; rfl), B2.out⟩
      | true =>
        have hdl : day < (p.ds.l.length : Int) := by simpa using hy2
        cases y3 with
        | false =>
          go_wp2_with (first
            | (have h := K23; clear h; refine wpList_load_rowG (o := ⟨some 23, _, _, _, _, _⟩) ?_ 34 (.tmp 3) ?_ w.heap.size ?_ 34 p.cells.toArray (0, 0) _ L2.out Try.underlying34 rfl size_po ?_; rfl; rfl; rfl; have K25 := Lib.hid True.intro; clear K23)
            | (have h := K25; clear h; go_at_call 66; refine (HK.out _).mono ?_; rintro e w3 ⟨rfl, hb3⟩; have B3 := Lib.hid (B2.out.trans (hb3.mono B2.out.size)); clear hb3; clear K25)
            | (go_at_call 75; refine (inRange_any _ _).mono ?_; rintro e w' ⟨rfl, rfl⟩))
          go_ret
          exact ⟨ret_int (by rw [HF.out]; rfl), B3.out⟩
        | true =>
          go_wp2_with (first
            | (have h := K23; clear h; refine wpList_load_rowG (o := ⟨some 23, _, _, _, _, _⟩) ?_ 34 (.tmp 3) ?_ w.heap.size ?_ 34 p.cells.toArray (0, 0) _ L2.out Try.underlying34 rfl size_po ?_; rfl; rfl; rfl; have K25 := Lib.hid True.intro; clear K23)
            | (have h := K25; clear h; go_at_call 66; refine (HK.out _).mono ?_; rintro e w3 ⟨rfl, hb3⟩; have B3 := Lib.hid (B2.out.trans (hb3.mono B2.out.size)); clear hb3; clear K25)
            | (go_at_call 75; refine (inRange_any _ _).mono ?_; rintro e w' ⟨rfl, rfl⟩))
          go_ret
          exact ⟨ret_int (by rw [HF.out]; rfl), B3.out⟩
  · have hne : ((ff : Int) == 0) = false := by simpa using h0
    have hne2 : ((ff : Int) != 0) = true := by simpa using h0
    rw [if_pos h0] at HF
    clear h0 HK
    go_wp2
    go_ret
    exact ⟨ret_int HF.out.symm, B2.out⟩
/-- What Best tells. -/
def PoD.bestR (p : PoD) (day lv : Int) : Int × Int × Int :=
  if p.levR day lv ≠ 0 then (0, 0, p.levR day lv) else
    let b := p.bestD (p.vals (p.ds.drop (day.toNat + 1))) (p.ds.getD day.toNat ⟨0, 0, 0, 0, 0⟩) lv
    if b.2 = -1 then (0, 0, 9) else (b.1, b.2, 0)
theorem PoD.levR_zero {p : PoD} {day lv : Int} : p.levR day lv = 0 ↔ p.Ok ∧ p.levB day lv = true := by
  unfold PoD.levR
  by_cases h : p.fault = 0
  · rw [if_neg (by simp [h])]
    have hk := PoD.fault_iff.1 h
    cases hb : p.levB day lv
    · simp
    · simp [hk]
  · rw [if_pos h]
    constructor
    · intro h'; exact absurd h' h
    · rintro ⟨h', -⟩; exact absurd (PoD.fault_iff.2 h') h
set_option maxRecDepth 100000 in
set_option maxHeartbeats 8000000 in
theorem Best_any (p : PoM) (day lv : Int) (w : World) (hp : p.At w w.heap.size) : Calls Try.prog 23 #[.agg p.cells.toArray, .int .i64 day, .int .i64 lv] w fun e w' => e = .returned (.tuple #[.int .i64 (p.d.bestR day lv).1, .int .i64 (p.d.bestR day lv).2.1, .int .i64 (p.d.bestR day lv).2.2]) ∧ Below w.heap.size w w' := by
  have l0 : Lies (w.alloc (.cells p.cells.toArray 34)) w.heap.size 34 p.cells.toArray := Lies.fresh _ _ _
  have b0 : Below w.heap.size w (w.alloc (.cells p.cells.toArray 34)) := (by repeat (first | (with_reducible assumption) | (with_reducible exact Below.refl _ _) | (with_reducible refine Below.drew ?_) | (with_reducible refine below_drewN ?_ _) | ((with_reducible refine Below.setCell ?_ ?_ _); rotate_left; focus (first | (simp; done) | (simp; omega) | omega)) | ((with_reducible refine Below.alloc ?_ ?_ _); rotate_left; focus (first | (simp; done) | (simp; omega) | omega))))
  have hv := checkLevel_any p day lv (w.alloc (.cells p.cells.toArray 34)) (hp.below b0 b0.size)
  obtain ⟨b, hb⟩ : ∃ b, b = p.d.bestD (p.d.vals (p.ds.l.drop (day.toNat + 1))) (p.ds.l.getD day.toNat ⟨0, 0, 0, 0, 0⟩) lv := ⟨_, rfl⟩
  have hke : ∀ W, p.d.levR day lv = 0 → Below w.heap.size w W → Calls Try.prog 48 #[.agg p.cells.toArray] W fun e w' => ∃ D mb, e = .returned (.agg (keC p D mb).toArray) ∧ KeM p p.T 0 D mb w' ∧ W.heap.size ≤ mb ∧ Below W.heap.size W w' := fun W h hb => (keep_any p W (PoD.levR_zero.1 h).1 (hp.below hb hb.size)).mono (by rintro e w' ⟨D, mb, h1, h2, h3, h4, h5⟩; exact ⟨D, mb, h1, h2, h4, h5⟩)
  have hbe : p.d.levR day lv = 0 → ∀ D mb W, KeM p p.T 0 D mb W → Calls Try.prog 52 #[.agg (keC p D mb).toArray, .int .i64 day, .int .i64 lv] W fun e w' => e = .returned (.tuple #[.int .i64 b.1, .int .i64 b.2]) ∧ KeM p p.T 0 D mb w' ∧ W.grownBy w' (some mb) := fun h D mb W hk => by
    obtain ⟨hok, hl⟩ := PoD.levR_zero.1 h
    unfold PoD.levB at hl
    rw [Bool.and_eq_true, Bool.and_eq_true, decide_eq_true_eq, decide_eq_true_eq, inB_iff] at hl
    obtain ⟨⟨h1, h2⟩, h3, h4⟩ := hl
    have h2' : day < (p.ds.l.length : Int) := h2
    have hl0 : 0 ≤ p.low := hok.l0
    have hl2 : p.high ≤ 60 := hok.l2
    have h3' : p.low ≤ lv := h3
    have h4' : lv ≤ p.high := h4
    obtain ⟨n, rfl⟩ : ∃ n : Nat, day = (n : Int) := ⟨day.toNat, by omega⟩
    have hn : n < p.ds.l.length := by omega
    have hd : p.ds.l[n]? = some p.ds.l[n] := by simp [hn]
    rw [hb]
    have e1 : p.ds.l.getD (n : Int).toNat ⟨0, 0, 0, 0, 0⟩ = p.ds.l[n] := by simp [List.getD, hn]
    have e2 : ((n : Int).toNat + 1) = n + 1 := by simp
    rw [e1, e2]
    exact best_any p p.T 0 D mb n p.ds.l[n] lv W hk hok hd (by omega) (p.tok hok) (by omega) (by omega)
  have hf : p.d.bestR day lv = if p.d.levR day lv ≠ 0 then (0, 0, p.d.levR day lv) else if b.2 = -1 then (0, 0, 9) else (b.1, b.2, 0) := by rw [hb]; rfl
  obtain ⟨a, c⟩ := b
  dsimp only at hf hbe
  have HV := Lib.hid hv
  have HF := Lib.hid hf
  have HK := Lib.hid hke
  have HC := Lib.hid hbe
  have L0 := Lib.hid l0
  have B0 := Lib.hid b0
  clear hv hf l0 b0 hp hke hbe hb
  generalize p.d.bestR day lv = rr at *
  generalize p.d.levR day lv = ff at *
  go_enter Try.func23, Try.ntmps23
  go_upto_region 2 with (first
    | (refine wpList_load_row (o := ⟨some 10, _, _, _, _, _⟩) ?_ 34 (.tmp 3) ?_ w.heap.size ?_ 34 p.cells.toArray (0, 0) _ L0.out Try.underlying34 rfl size_po ?_; rfl; rfl; rfl)
    | (go_at_call 51; refine HV.out.mono ?_; rintro e w2 ⟨rfl, hb2⟩))
  have B2 := Lib.hid (B0.out.trans (hb2.mono B0.out.size))
  have L2 := Lib.hid (L0.out.call hb2)
  clear hb2 HV L0 B0
  by_cases h0 : ff = 0
  · subst h0
    have HKK := Lib.hid (HK.out w2 rfl B2.out)
    have HCC := Lib.hid (HC.out rfl)
    rw [if_neg (by simp)] at HF
    clear HK HC
    go_upto_region 5 with (first
      | (have h := HKK; clear h; refine wpList_load_row (o := ⟨some 18, _, _, _, _, _⟩) ?_ 34 (.tmp 3) ?_ w.heap.size ?_ 34 p.cells.toArray (0, 0) _ L2.out Try.underlying34 rfl size_po ?_; rfl; rfl; rfl)
      | (go_at_call 48; refine HKK.out.mono ?_; rintro e w3 ⟨D, mb, rfl, hk3, hmb, hb3⟩; have K3 := Lib.hid hk3; clear hk3 HKK)
      | (go_at_call 52; refine (HCC.out D mb _ K3.out).mono ?_; rintro e w4 ⟨rfl, hk4, hg4⟩))
    have B4 := Lib.hid (show Below w.heap.size w w4 from (StepC.of_grown (D := mb) hg4).below (B2.out.trans (hb3.mono B2.out.size)) (Nat.le_trans B2.out.size hmb) (Nat.le_trans B2.out.size hmb) (Nat.le_trans B2.out.size hb3.size))
    clear hb3 hk4 hg4 hmb K3 HCC L2 B2
    by_cases hc : c = -1
    · have hce : ((c : Int) == -1) = true := by simp [hc]
      rw [if_pos hc] at HF
      clear hc
      go_wp2
      go_ret3
      rw [HF.out]
      exact ⟨rfl, B4.out⟩
    · have hce : ((c : Int) == -1) = false := by simpa using hc
      rw [if_neg hc] at HF
      clear hc
      go_wp2
      go_ret3
      rw [HF.out]
      exact ⟨rfl, B4.out⟩
  · have hne : ((ff : Int) == 0) = false := by simpa using h0
    have hne2 : ((ff : Int) != 0) = true := by simpa using h0
    rw [if_pos h0] at HF
    clear h0 HK HC
    go_wp2
    go_ret3
    rw [HF.out]
    exact ⟨rfl, B2.out⟩
end Go.Proofs.Yteognijlgalahaa
