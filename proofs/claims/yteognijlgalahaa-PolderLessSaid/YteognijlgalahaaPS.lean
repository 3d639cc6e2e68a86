/- checkRains, Play. -/
import Derived.Test.YteognijlgalahaaPR
namespace Go.Proofs.Yteognijlgalahaa
open Go.RowKit Go.Lib
attribute [local go_sem] Oper.semAt_some

def PoD.rainR (p : PoD) (start : Int) (rs : List Int) : Int := if p.fault ≠ 0 then p.fault else if inB start p.slo p.shi && p.rainyB rs then 0 else 2
set_option maxRecDepth 100000 in
set_option maxHeartbeats 8000000 in
theorem checkRains_any (p : PoM) (start : Int) (A : Option Addr) (c : Nat) (rs : List Int) (w : World) (hp : p.At w w.heap.size) (hs : Sl w w.heap.size 1 encI A rs) (hl : rs.length ≤ 1000000) :
    Calls Try.prog 54 #[.agg p.cells.toArray, .int .i64 start, .slice A rs.length c] w fun e w' => e = .returned (.int .i64 (p.d.rainR start rs)) ∧ Below w.heap.size w w' := by
  have l0 : Lies (w.alloc (.cells p.cells.toArray 34)) w.heap.size 34 p.cells.toArray := Lies.fresh _ _ _
  have b0 : Below w.heap.size w (w.alloc (.cells p.cells.toArray 34)) := (by repeat (first | (with_reducible assumption) | (with_reducible exact Below.refl _ _) | (with_reducible refine Below.drew ?_) | (with_reducible refine below_drewN ?_ _) | ((with_reducible refine Below.setCell ?_ ?_ _); rotate_left; focus (first | (simp; done) | (simp; omega) | omega)) | ((with_reducible refine Below.alloc ?_ ?_ _); rotate_left; focus (first | (simp; done) | (simp; omega) | omega))))
  have hv := CheckPolder_any p (w.alloc (.cells p.cells.toArray 34)) (hp.below b0 b0.size)
  have hca := fun W (hb : Below w.heap.size w W) => canRain_any p A c rs W (hp.below hb hb.size) ((hs.below hb).more hb.size) hl
  have hha := fun W => has_any p.slo p.shi start W
  have hf : p.d.rainR start rs = if p.d.fault ≠ 0 then p.d.fault else if inB start p.slo p.shi && p.d.rainyB rs then 0 else 2 := rfl
  have HV := Lib.hid hv
  have HF := Lib.hid hf
  have HCA := Lib.hid hca
  have HHA := Lib.hid hha
  have L0 := Lib.hid l0
  have B0 := Lib.hid b0
  clear hv hf l0 b0 hp hs hl hca hha
  generalize p.d.rainR start rs = rr at *
  generalize p.d.fault = ff at *
  generalize inB start p.slo p.shi = y1 at *
  generalize p.d.rainyB rs = y2 at *
  generalize rs.length = N at *
  go_enter Try.func54, Try.ntmps54
  go_upto_region 2 with (first
    | (refine wpList_load_row (o := ⟨some 8, _, _, _, _, _⟩) ?_ 34 (.tmp 3) ?_ w.heap.size ?_ 34 p.cells.toArray (0, 0) _ L0.out Try.underlying34 rfl size_po ?_; rfl; rfl; rfl)
    | (go_at_call 17; refine HV.out.mono ?_; rintro e w2 ⟨rfl, hb2⟩))
  have B2 := Lib.hid (B0.out.trans (hb2.mono B0.out.size))
  have L2 := Lib.hid (L0.out.call hb2)
  clear hb2 HV L0 B0
  by_cases h0 : ff = 0
  · subst h0
    rw [if_neg (by simp)] at HF
    have HRG := Lib.hid (show w2.rangeAt w.heap.size 2 [.int .i64 p.slo, .int .i64 p.shi] from Lies.range (cs := p.cells) L2.out (fun j v hj => by
      match j, hj with
      | 0, hj => exact hj
      | 1, hj => exact hj))
    have K14 := Lib.hid True.intro
    cases y1 with
    | false =>
      go_wp2_with (first
        | (have h := K14; clear h; refine wpList_load_mid (op := ⟨some 14, _, _, _, _, _⟩) ?_ 31 (.tmp 13) ?_ w.heap.size 2 ?_ [.int .i64 p.slo, .int .i64 p.shi] _ HRG.out Try.underlying31 rfl size_rg ?_; rfl; rfl; rfl; have K16 := Lib.hid True.intro; clear K14)
        | (have h := K16; clear h; go_at_call 67; refine (HHA.out _).mono ?_; rintro e w3 ⟨rfl, hb3⟩; have B3 := Lib.hid (B2.out.trans (hb3.mono B2.out.size)); have L3 := Lib.hid (L2.out.call hb3); clear hb3; have K18 := Lib.hid True.intro; clear K16)
        | (go_at_call 75; refine (inRange_any _ _).mono ?_; rintro e w' ⟨rfl, rfl⟩))
      go_ret
      exact ⟨ret_int (by rw [HF.out]; rfl), B3.out⟩
    | true =>
      cases y2 with
      | false =>
        go_wp2_with (first
          | (have h := K14; clear h; refine wpList_load_mid (op := ⟨some 14, _, _, _, _, _⟩) ?_ 31 (.tmp 13) ?_ w.heap.size 2 ?_ [.int .i64 p.slo, .int .i64 p.shi] _ HRG.out Try.underlying31 rfl size_rg ?_; rfl; rfl; rfl; have K16 := Lib.hid True.intro; clear K14)
          | (have h := K16; clear h; go_at_call 67; refine (HHA.out _).mono ?_; rintro e w3 ⟨rfl, hb3⟩; have B3 := Lib.hid (B2.out.trans (hb3.mono B2.out.size)); have L3 := Lib.hid (L2.out.call hb3); clear hb3; have K18 := Lib.hid True.intro; clear K16)
          | (have h := K18; clear h; refine wpList_load_rowG (o := ⟨some 18, _, _, _, _, _⟩) ?_ 34 (.tmp 3) ?_ w.heap.size ?_ 34 p.cells.toArray (0, 0) _ L3.out Try.underlying34 rfl size_po ?_; rfl; rfl; rfl; have K20 := Lib.hid True.intro; clear K18)
          | (have h := K20; clear h; go_at_call 80; refine (HCA.out _ B3.out).mono ?_; rintro e w4 ⟨rfl, hb4⟩; have B4 := Lib.hid (B3.out.trans (hb4.mono B3.out.size)); clear hb4; clear K20)
          | (go_at_call 75; refine (inRange_any _ _).mono ?_; rintro e w' ⟨rfl, rfl⟩))
        go_ret
        exact ⟨ret_int (by rw [HF.out]; rfl), B4.out⟩
      | true =>
        go_wp2_with (first
          | (have h := K14; clear h; refine wpList_load_mid (op := ⟨some 14, _, _, _, _, _⟩) ?_ 31 (.tmp 13) ?_ w.heap.size 2 ?_ [.int .i64 p.slo, .int .i64 p.shi] _ HRG.out Try.underlying31 rfl size_rg ?_; rfl; rfl; rfl; have K16 := Lib.hid True.intro; clear K14)
          | (have h := K16; clear h; go_at_call 67; refine (HHA.out _).mono ?_; rintro e w3 ⟨rfl, hb3⟩; have B3 := Lib.hid (B2.out.trans (hb3.mono B2.out.size)); have L3 := Lib.hid (L2.out.call hb3); clear hb3; have K18 := Lib.hid True.intro; clear K16)
          | (have h := K18; clear h; refine wpList_load_rowG (o := ⟨some 18, _, _, _, _, _⟩) ?_ 34 (.tmp 3) ?_ w.heap.size ?_ 34 p.cells.toArray (0, 0) _ L3.out Try.underlying34 rfl size_po ?_; rfl; rfl; rfl; have K20 := Lib.hid True.intro; clear K18)
          | (have h := K20; clear h; go_at_call 80; refine (HCA.out _ B3.out).mono ?_; rintro e w4 ⟨rfl, hb4⟩; have B4 := Lib.hid (B3.out.trans (hb4.mono B3.out.size)); clear hb4; clear K20)
          | (go_at_call 75; refine (inRange_any _ _).mono ?_; rintro e w' ⟨rfl, rfl⟩))
        go_ret
        exact ⟨ret_int (by rw [HF.out]; rfl), B4.out⟩
  · have hne : ((ff : Int) == 0) = false := by simpa using h0
    have hne2 : ((ff : Int) != 0) = true := by simpa using h0
    rw [if_pos h0] at HF
    clear h0 HCA HHA
    go_wp2
    go_ret
    exact ⟨ret_int HF.out.symm, B2.out⟩
theorem PoD.rainR_zero {p : PoD} {start : Int} {rs : List Int} : p.rainR start rs = 0 ↔ p.Ok ∧ p.slo ≤ start ∧ start ≤ p.shi ∧ p.rainy rs := by
  unfold PoD.rainR
  by_cases h : p.fault = 0
  · rw [if_neg (by simp [h])]
    have hk := PoD.fault_iff.1 h
    rw [← PoD.rainyB_iff]
    cases hb : (inB start p.slo p.shi && p.rainyB rs)
    · simp only [Bool.false_eq_true, if_false]
      constructor
      · intro h'; omega
      · rintro ⟨-, h1, h2, h3⟩
        rw [Bool.and_eq_false_iff] at hb
        rcases hb with hb | hb
        · have := inB_iff.2 ⟨h1, h2⟩; rw [hb] at this; cases this
        · rw [hb] at h3; cases h3
    · rw [Bool.and_eq_true, inB_iff] at hb
      simp [hk, hb.1.1, hb.1.2, hb.2]
  · rw [if_pos h]
    constructor
    · intro h'; exact absurd h' h
    · rintro ⟨h', -⟩; exact absurd (PoD.fault_iff.2 h') h
/-- What Play tells. -/
def PoD.playR (p : PoD) (start : Int) (rs : List Int) : List Int × List Int × Int × Int :=
  if p.rainR start rs ≠ 0 then ([], [], 0, p.rainR start rs) else if p.costD = -1 then ([], [], 0, 9) else ((p.play p.ds start rs).1, (p.play p.ds start rs).2.1, (p.play p.ds start rs).2.2, 0)
/-- What Play hands back. -/
def PlayE (x : List Int × List Int × Int × Int) (w : World) (e : Ending) (w' : World) : Prop := ∃ A1 c1 A2 c2, e = .returned (.tuple #[.slice A1 x.1.length c1, .slice A2 x.2.1.length c2, .int .i64 x.2.2.1, .int .i64 x.2.2.2]) ∧ Sl w' w'.heap.size 1 encI A1 x.1 ∧ Sl w' w'.heap.size 1 encI A2 x.2.1 ∧ Below w.heap.size w w'
theorem nilI (w : World) : Sl w w.heap.size 1 encI none [] := fun h => absurd rfl h
set_option maxRecDepth 100000 in
set_option maxHeartbeats 8000000 in
theorem Play_any (p : PoM) (start : Int) (A : Option Addr) (c : Nat) (rs : List Int) (w : World) (hp : p.At w w.heap.size) (hs : Sl w w.heap.size 1 encI A rs) (hl : rs.length ≤ 1000000) :
    Calls Try.prog 27 #[.agg p.cells.toArray, .int .i64 start, .slice A rs.length c] w (PlayE (p.d.playR start rs) w) := by
  have l0 : Lies (w.alloc (.cells p.cells.toArray 34)) w.heap.size 34 p.cells.toArray := Lies.fresh _ _ _
  have b0 : Below w.heap.size w (w.alloc (.cells p.cells.toArray 34)) := (by repeat (first | (with_reducible assumption) | (with_reducible exact Below.refl _ _) | (with_reducible refine Below.drew ?_) | (with_reducible refine below_drewN ?_ _) | ((with_reducible refine Below.setCell ?_ ?_ _); rotate_left; focus (first | (simp; done) | (simp; omega) | omega)) | ((with_reducible refine Below.alloc ?_ ?_ _); rotate_left; focus (first | (simp; done) | (simp; omega) | omega))))
  have hv := checkRains_any p start A c rs (w.alloc (.cells p.cells.toArray 34)) (hp.below b0 b0.size) ((hs.below b0).more b0.size) hl
  have hke : ∀ W, p.d.rainR start rs = 0 → Below w.heap.size w W → Calls Try.prog 48 #[.agg p.cells.toArray] W fun e w' => ∃ D mb, e = .returned (.agg (keC p D mb).toArray) ∧ KeM p p.T 0 D mb w' ∧ W.heap.size ≤ D ∧ W.heap.size ≤ mb ∧ Below W.heap.size W w' := fun W h hb => keep_any p W (PoD.rainR_zero.1 h).1 (hp.below hb hb.size)
  have hco : p.d.rainR start rs = 0 → ∀ D mb W, KeM p p.T 0 D mb W → Calls Try.prog 50 #[.agg (keC p D mb).toArray] W fun e w' => e = .returned (.int .i64 p.d.costD) ∧ Below W.heap.size W w' := fun h D mb W hk => cost_any p D mb W (PoD.rainR_zero.1 h).1 hk
  have hpl : p.d.rainR start rs = 0 → p.d.costD ≠ -1 → ∀ D mb W, KeM p p.T 0 D mb W → Below w.heap.size w W → Calls Try.prog 55 #[.agg (keC p D mb).toArray, .int .i64 start, .slice A rs.length c] W fun e w' => ∃ A1 c1 A2 c2, e = .returned (.tuple #[.slice A1 (p.d.play p.ds.l start rs).1.length c1, .slice A2 (p.d.play p.ds.l start rs).2.1.length c2, .int .i64 (p.d.play p.ds.l start rs).2.2]) ∧
      Sl w' w'.heap.size 1 encI A1 (p.d.play p.ds.l start rs).1 ∧ Sl w' w'.heap.size 1 encI A2 (p.d.play p.ds.l start rs).2.1 ∧ StepB mb W w' := fun h hc D mb W hk hb => by
    obtain ⟨hok, h1, h2, h3⟩ := PoD.rainR_zero.1 h
    have s0 : p.low ≤ p.slo := hok.s0
    have s2 : p.shi ≤ p.high := hok.s2
    have h1' : p.slo ≤ start := h1
    have h2' : start ≤ p.shi := h2
    exact play_any p D mb start A c rs W hk hok ((hs.below hb).more hb.size) h3 (show p.low ≤ start ∧ start ≤ p.high by omega) (fun e => hc (hok.cost_iff.2 ⟨start, h1, h2, e⟩))
  have hf : p.d.playR start rs = if p.d.rainR start rs ≠ 0 then ([], [], 0, p.d.rainR start rs) else if p.d.costD = -1 then ([], [], 0, 9) else ((p.d.play p.ds.l start rs).1, (p.d.play p.ds.l start rs).2.1, (p.d.play p.ds.l start rs).2.2, 0) := rfl
  obtain ⟨⟨X, Y, Z⟩, hx⟩ : ∃ x, x = p.d.play p.ds.l start rs := ⟨_, rfl⟩
  rw [← hx] at hf hpl
  dsimp only at hf hpl
  have HV := Lib.hid hv
  have HF := Lib.hid hf
  have HK := Lib.hid hke
  have HCO := Lib.hid hco
  have HPL := Lib.hid hpl
  have L0 := Lib.hid l0
  have B0 := Lib.hid b0
  clear hv hf l0 b0 hp hs hl hke hco hpl hx
  generalize p.d.playR start rs = rr at *
  generalize p.d.rainR start rs = ff at *
  generalize p.d.costD = cc at *
  generalize rs.length = N at *
  go_enter Try.func27, Try.ntmps27
  go_upto_region 2 with (first
    | (refine wpList_load_row (o := ⟨some 12, _, _, _, _, _⟩) ?_ 34 (.tmp 3) ?_ w.heap.size ?_ 34 p.cells.toArray (0, 0) _ L0.out Try.underlying34 rfl size_po ?_; rfl; rfl; rfl)
    | (go_at_call 54; refine HV.out.mono ?_; rintro e w2 ⟨rfl, hb2⟩))
  have B2 := Lib.hid (B0.out.trans (hb2.mono B0.out.size))
  have L2 := Lib.hid (L0.out.call hb2)
  clear hb2 HV L0 B0
  by_cases h0 : ff = 0
  · subst h0
    have HKK := Lib.hid (HK.out w2 rfl B2.out)
    have HCC := Lib.hid (HCO.out rfl)
    have HPP := Lib.hid (HPL.out rfl)
    rw [if_neg (by simp)] at HF
    clear HK HCO HPL
    have K19 := Lib.hid True.intro
    go_upto_region 5 with (first
      | (have h := K19; clear h; refine wpList_load_row (o := ⟨some 19, _, _, _, _, _⟩) ?_ 34 (.tmp 3) ?_ w.heap.size ?_ 34 p.cells.toArray (0, 0) _ L2.out Try.underlying34 rfl size_po ?_; rfl; rfl; rfl; clear K19)
      | (go_at_call 48; refine HKK.out.mono ?_; rintro e w3 ⟨D, mb, rfl, hk3, hD3, hm3, hb3⟩; have B3 := Lib.hid (B2.out.trans (hb3.mono B2.out.size)); have hDz := Nat.le_trans B2.out.size hD3; have hmz := Nat.le_trans B2.out.size hm3; have E3 := Lib.hid hk3; have Z3 := Lib.hid (Lies.fresh w3 89 zke.toArray); clear hk3 hD3 hm3 hb3; have KST := Lib.hid True.intro)
      | (have h := KST; clear h; refine wpList_store_cells (o := ⟨none, .store 89 (.tmp 11) _, _, _, _, _⟩) ?_ 89 (.tmp 11) (.tmp 20) ?_ w3.heap.size 0 ?_ 89 zke (keC p D mb) ?_ Z3.out (by simp [zke, keC, PoM.cells]) size_ke (keV_one p _ _ _ mb) ?_; rfl; rfl; rfl; rfl; intro w4 HS4 HO4))
    have hs4 := HS4.out
    rw [splice_whole (by simp [zke, keC, PoM.cells])] at hs4
    have hb4 : Below w3.heap.size w3 w4 := HO4.out.below ((Below.refl _ _).alloc (Nat.le_refl _) _) (Nat.le_refl _)
    have B4 := Lib.hid (B3.out.trans (hb4.mono B3.out.size))
    have E4 := Lib.hid (E3.out.call hb4)
    have L4 := Lib.hid hs4
    clear hs4 hb4 HS4 HO4 KST Z3 E3 HKK L2 B2 B3
    generalize w3.heap.size = g3 at *
    have K21 := Lib.hid True.intro
    by_cases hc : cc = -1
    · have hce : ((cc : Int) == -1) = true := by simp [hc]
      rw [if_pos hc] at HF
      clear hc HPP
      go_wp2_with (first
        | (have h := K21; clear h; refine wpList_load_row (o := ⟨some 21, _, _, _, _, _⟩) ?_ 89 (.tmp 11) ?_ g3 ?_ 89 (keC p D mb).toArray (0, 0) _ L4.out Try.underlying89 rfl size_ke ?_; rfl; rfl; rfl; have K22 := Lib.hid True.intro; clear K21)
        | (have h := K22; clear h; go_at_call 50; refine (HCC.out D mb _ E4.out).mono ?_; rintro e w5 ⟨rfl, hb5⟩; have B5 := Lib.hid (B4.out.trans (hb5.mono B4.out.size)); have E5 := Lib.hid (E4.out.call hb5); have L5 := Lib.hid (L4.out.call hb5); clear hb5; have K25 := Lib.hid True.intro; clear K22))
      refine bodyPost_ret (v := .tuple #[.slice none 0 0, .slice none 0 0, .int .i64 0, .int .i64 9]) (by simp [results, Try.results27, go_sem]) rfl ?_
      rw [HF.out]
      exact ⟨none, 0, none, 0, rfl, nilI _, nilI _, B5.out⟩
    · have hce : ((cc : Int) == -1) = false := by simpa using hc
      rw [if_neg hc] at HF
      have HPQ := Lib.hid (HPP.out hc)
      clear hc HPP
      go_wp2_with (first
        | (have h := K21; clear h; refine wpList_load_row (o := ⟨some 21, _, _, _, _, _⟩) ?_ 89 (.tmp 11) ?_ g3 ?_ 89 (keC p D mb).toArray (0, 0) _ L4.out Try.underlying89 rfl size_ke ?_; rfl; rfl; rfl; have K22 := Lib.hid True.intro; clear K21)
        | (have h := K22; clear h; go_at_call 50; refine (HCC.out D mb _ E4.out).mono ?_; rintro e w5 ⟨rfl, hb5⟩; have B5 := Lib.hid (B4.out.trans (hb5.mono B4.out.size)); have E5 := Lib.hid (E4.out.call hb5); have L5 := Lib.hid (L4.out.call hb5); clear hb5; have K25 := Lib.hid True.intro; clear K22)
        | (have h := K25; clear h; refine wpList_load_row (o := ⟨some 25, _, _, _, _, _⟩) ?_ 89 (.tmp 11) ?_ g3 ?_ 89 (keC p D mb).toArray (0, 0) _ L5.out Try.underlying89 rfl size_ke ?_; rfl; rfl; rfl; have K28 := Lib.hid True.intro; clear K25)
        | (have h := K28; clear h; go_at_call 55; refine (HPQ.out D mb _ E5.out B5.out).mono ?_; rintro e w6 ⟨A1, c1, A2, c2, rfl, hs1, hs2, hst⟩; clear K28))
      refine bodyPost_ret (v := .tuple #[.slice A1 X.length c1, .slice A2 Y.length c2, .int .i64 Z, .int .i64 0]) (by simp [results, Try.results27, go_sem]) rfl ?_
      rw [HF.out]
      exact ⟨A1, c1, A2, c2, rfl, hs1, hs2, (StepC.of_grown (D := D) hst).below B5.out hDz hmz B5.out.size⟩
  · have hne : ((ff : Int) == 0) = false := by simpa using h0
    have hne2 : ((ff : Int) != 0) = true := by simpa using h0
    rw [if_pos h0] at HF
    clear h0 HK HCO HPL
    go_wp2
    refine bodyPost_ret (v := .tuple #[.slice none 0 0, .slice none 0 0, .int .i64 0, .int .i64 ff]) (by simp [results, Try.results27, go_sem]) rfl ?_
    rw [HF.out]
    exact ⟨none, 0, none, 0, rfl, nilI _, nilI _, B2.out⟩
end Go.Proofs.Yteognijlgalahaa
