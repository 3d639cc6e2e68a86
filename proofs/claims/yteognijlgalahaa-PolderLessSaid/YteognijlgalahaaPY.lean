/- ready, From. -/
import Derived.Test.YteognijlgalahaaPX
namespace Go.Proofs.Yteognijlgalahaa
open Go.RowKit Go.Lib
attribute [local go_sem] Oper.semAt_some

/-- A polder that came in. -/
structure OpenPo (q : PoM) (w : World) : Prop where
  s : Sl w w.heap.size 5 encD q.ds.A q.ds.l
  m : q.ds.l.length ≤ maxLen
  c : q.ds.l.length ≤ q.ds.c
theorem OpenPo.at_ {q : PoM} {w : World} (h : OpenPo q w) (hl : q.ds.l.length ≤ 15) : q.At w w.heap.size := ⟨h.s, by omega⟩
def PoD.readyB (p : PoD) : Bool := decide (p.ds.length ≤ 15) && decide (p.fault = 0)
set_option maxRecDepth 100000 in
set_option maxHeartbeats 4000000 in
theorem ready_any (q : PoM) (w : World) (h : OpenPo q w) : Calls Try.prog 42 #[.agg q.cells.toArray] w fun e w' => e = .returned (.bool q.d.readyB) ∧ Below w.heap.size w w' := by
  have l0 : Lies (w.alloc (.cells q.cells.toArray 26)) w.heap.size 26 q.cells.toArray := Lies.fresh _ _ _
  have b0 : Below w.heap.size w (w.alloc (.cells q.cells.toArray 26)) := (by repeat (first | (with_reducible assumption) | (with_reducible exact Below.refl _ _) | (with_reducible refine Below.drew ?_) | (with_reducible refine below_drewN ?_ _) | ((with_reducible refine Below.setCell ?_ ?_ _); rotate_left; focus (first | (simp; done) | (simp; omega) | omega)) | ((with_reducible refine Below.alloc ?_ ?_ _); rotate_left; focus (first | (simp; done) | (simp; omega) | omega))))
  have hq : q.d.readyB = (decide (q.ds.l.length ≤ 15) && decide (q.d.fault = 0)) := rfl
  have hth := fun W => Thin_any q W
  have hfa : q.ds.l.length ≤ 15 → ∀ W, Below w.heap.size w W → Calls Try.prog 46 #[.agg q.cells.toArray] W fun e w' => e = .returned (.int .i64 q.d.fault) ∧ Below W.heap.size W w' := fun hl W hb => Fault_any q W ((h.at_ hl).below hb hb.size)
  have HTH := Lib.hid hth
  have HFA := Lib.hid hfa
  have HQ := Lib.hid hq
  have L0 := Lib.hid l0
  have B0 := Lib.hid b0
  have K3 := Lib.hid True.intro
  clear l0 b0 hq hth hfa h
  generalize q.d.readyB = rr at *
  generalize q.d.fault = ff at *
  go_enter Try.func42, Try.ntmps42
  go_upto_region 1 with (fail)
  change Code.wp _ _ _ _ (w.alloc (.cells q.cells.toArray 26))
  generalize w.alloc (.cells q.cells.toArray 26) = w1 at *
  by_cases hl : q.ds.l.length ≤ 15
  · have HFF := Lib.hid (HFA.out hl)
    rw [decide_eq_true hl] at HQ HTH
    clear HFA hl
    have hFz : ((ff : Int) == 0) = decide (ff = 0) := by by_cases h : ff = 0 <;> simp [h]
    generalize hz : decide (ff = 0) = z at *
    go_wp2_with (first
      | (have h := K3; clear h; refine wpList_load_row (o := ⟨some 3, _, _, _, _, _⟩) ?_ 26 (.tmp 1) ?_ w.heap.size ?_ 26 q.cells.toArray (0, 0) _ L0.out Try.underlying26 rfl size_rp ?_; rfl; rfl; rfl; clear K3)
      | (go_at_call 15; refine (HTH.out _).mono ?_; rintro e w2 ⟨rfl, hb2⟩; have B2 := Lib.hid (B0.out.trans (hb2.mono B0.out.size)); have L2 := Lib.hid (L0.out.call hb2); clear hb2; have K6 := Lib.hid True.intro)
      | (have h := K6; clear h; refine wpList_load_rowG (o := ⟨some 6, _, _, _, _, _⟩) ?_ 26 (.tmp 1) ?_ w.heap.size ?_ 26 q.cells.toArray (0, 0) _ L2.out Try.underlying26 rfl size_rp ?_; rfl; rfl; rfl; clear K6)
      | (go_at_call 46; refine (HFF.out _ B2.out).mono ?_; rintro e w3 ⟨rfl, hb3⟩))
    go_ret
    exact ⟨ret_bool (by rw [HQ.out]; simp), B2.out.trans (hb3.mono B2.out.size)⟩
  · rw [decide_eq_false hl] at HQ HTH
    clear HFA hl
    go_wp2_with (first
      | (have h := K3; clear h; refine wpList_load_row (o := ⟨some 3, _, _, _, _, _⟩) ?_ 26 (.tmp 1) ?_ w.heap.size ?_ 26 q.cells.toArray (0, 0) _ L0.out Try.underlying26 rfl size_rp ?_; rfl; rfl; rfl; clear K3)
      | (go_at_call 15; refine (HTH.out _).mono ?_; rintro e w2 ⟨rfl, hb2⟩; have B2 := Lib.hid (B0.out.trans (hb2.mono B0.out.size)); clear hb2))
    go_ret
    exact ⟨ret_bool (by rw [HQ.out]; rfl), B2.out⟩
/-- The polder from a day on. -/
def PoM.from_ (q : PoM) (b off d : Nat) (lv : Int) : PoM := { q with slo := lv, shi := lv, ds := ⟨some ⟨b, off + d * 5, none⟩, q.ds.l.drop d, q.ds.c - d⟩ }
set_option maxRecDepth 100000 in
set_option maxHeartbeats 4000000 in
theorem From_any (q : PoM) (d : Nat) (lv : Int) (w : World) (hq : q.At w w.heap.size) (hd : d < q.ds.l.length) (hl : q.ds.l.length ≤ 15) (hc : q.ds.l.length ≤ q.ds.c) : Calls Try.prog 45 #[.agg q.cells.toArray, .int .i64 d, .int .i64 lv] w fun e w' => ∃ b off, q.ds.A = some ⟨b, off, none⟩ ∧ e = .returned (.agg (q.from_ b off d lv).cells.toArray) ∧ Below w.heap.size w w' := by
  obtain ⟨b, off, hA, -⟩ := hq.s.lt (by intro e; rw [e] at hd; simp at hd)
  obtain ⟨N, hN⟩ : ∃ N, N = q.ds.l.length := ⟨_, rfl⟩
  have hdN : d ≤ N := by omega
  have hdz : (d : Int) ≤ (N : Int) := by omega
  have hd0 : (0 : Int) ≤ (d : Int) := by omega
  have hcz : (N : Int) ≤ (q.ds.c : Int) := by omega
  have hcn : N ≤ q.ds.c := by omega
  have hcd : ¬ q.ds.c = d := by omega
  have l0 : Lies ((w.alloc (.cells q.cells.toArray 26)).alloc (.cells zpo.toArray 26)) w.heap.size 26 q.cells.toArray := (Lies.fresh _ _ _).alloc _
  have l1 : Lies ((w.alloc (.cells q.cells.toArray 26)).alloc (.cells zpo.toArray 26)) (w.heap.size + 1) 26 zpo.toArray := Lies.fresh' (by simp)
  have b0 : Below w.heap.size w ((w.alloc (.cells q.cells.toArray 26)).alloc (.cells zpo.toArray 26)) := (by repeat (first | (with_reducible assumption) | (with_reducible exact Below.refl _ _) | (with_reducible refine Below.drew ?_) | (with_reducible refine below_drewN ?_ _) | ((with_reducible refine Below.setCell ?_ ?_ _); rotate_left; focus (first | (simp; done) | (simp; omega) | omega)) | ((with_reducible refine Below.alloc ?_ ?_ _); rotate_left; focus (first | (simp; done) | (simp; omega) | omega))))
  have hz0 : ((w.alloc (.cells q.cells.toArray 26)).alloc (.cells zpo.toArray 26)).heap.size = w.heap.size + 2 := by simp
  have L0 := Lib.hid l0
  have L1 := Lib.hid l1
  have B0 := Lib.hid b0
  have HZ := Lib.hid hz0
  have HA := Lib.hid hA
  have HN := Lib.hid hN
  have K8 := Lib.hid True.intro
  clear l0 l1 b0 hz0 hA hN hq hd hl hc
  go_enter Try.func45, Try.ntmps45
  go_upto_region 1 with (fail)
  change Code.wp _ _ _ _ ((w.alloc (.cells q.cells.toArray 26)).alloc (.cells zpo.toArray 26))
  generalize (w.alloc (.cells q.cells.toArray 26)).alloc (.cells zpo.toArray 26) = w1 at *
  have Z := Lib.hid (Lies.fresh w1 26 zpo.toArray)
  have KST := Lib.hid True.intro
  go_upto_region 2 with (first
    | (have h := K8; clear h; refine wpList_load_row (o := ⟨some 8, _, _, _, _, _⟩) ?_ 26 (.tmp 3) ?_ w.heap.size ?_ 26 q.cells.toArray (0, 0) _ L0.out Try.underlying26 rfl size_rp ?_; rfl; rfl; rfl; clear K8)
    | (have h := KST; clear h; refine wpList_store_cells (o := ⟨none, .store 26 (.tmp 7) _, _, _, _, _⟩) ?_ 26 (.tmp 7) (.tmp 8) ?_ w1.heap.size 0 ?_ 26 zpo q.cells ?_ Z.out (by simp [zpo, PoM.cells]) size_rp (cells_one q) ?_; rfl; rfl; rfl; rfl; intro w2 HS2 HO2; clear KST))
  have hs2 := HS2.out
  rw [splice_whole (by simp [zpo, PoM.cells])] at hs2
  have hb12 : Below w1.heap.size w1 w2 := HO2.out.below ((Below.refl _ _).alloc (Nat.le_refl _) _) (Nat.le_refl _)
  have B2 := Lib.hid (B0.out.trans (hb12.mono B0.out.size))
  have L12 := Lib.hid (L1.out.call hb12)
  have c10 : w2.cell? ⟨w.heap.size, 6, none⟩ = some (.slice (some ⟨b, off, none⟩) N q.ds.c) := by rw [← HA.out, HN.out]; exact (L0.out.call hb12).at_ 6
  have c16 : w2.cell? ⟨w1.heap.size, 6, none⟩ = some (.slice (some ⟨b, off, none⟩) N q.ds.c) := by rw [← HA.out, HN.out]; exact hs2.at_ 6
  have f16 : w2.frozen? ⟨w1.heap.size, 6, none⟩ = false := hs2.free 6
  have H2 := Lib.hid hs2
  have HA5 := Lib.hid HA.out
  clear hs2 HS2 HO2 hb12 L0 L1 B0 Z HA
  rw [HZ.out] at *
  have hg7 : w.heap.size + 2 ≠ w.heap.size := by omega
  have hdl : (q.ds.l.drop d).length = N - d := by rw [List.length_drop, HN.out]
  have H3 := Lib.hid (show Lies (w2.setCell ⟨w.heap.size + 2, 6, none⟩ (.slice (some ⟨b, off + d * 5, none⟩) (N - d) (q.ds.c - d))) (w.heap.size + 2) 26 (q.part (.slice (some ⟨b, off + d * 5, none⟩) (N - d) (q.ds.c - d))).toArray from H2.out.set 6 _)
  have HDL := Lib.hid hdl
  clear hdl
  have KS2 := Lib.hid True.intro
  go_upto_region 3 with (first
    | (have h := KS2; clear h; refine wpList_store_cells (o := ⟨none, .store 23 (.tmp 17) _, _, _, _, _⟩) ?_ 23 (.tmp 17) (.tmp 15) ?_ (w.heap.size + 2) 2 ?_ 26 (q.part (.slice (some ⟨b, off + d * 5, none⟩) (N - d) (q.ds.c - d))) [.int .i64 lv, .int .i64 lv] ?_ H3.out (by simp [PoM.part]) size_rr (by intro u hu; simp at hu; subst hu; rfl) ?_; rfl; rfl; rfl; rfl; intro w3 HS3 HO3; clear KS2))
  have hs3 := HS3.out
  have hsp : splice (q.part (.slice (some ⟨b, off + d * 5, none⟩) (N - d) (q.ds.c - d))) 2 [.int .i64 lv, .int .i64 lv] = (q.from_ b off d lv).cells := by
    show _ = ([.int .i64 q.low, .int .i64 q.high, .int .i64 lv, .int .i64 lv, .int .i64 q.pump, .int .i64 q.inl, .slice (some ⟨b, off + d * 5, none⟩) (q.ds.l.drop d).length (q.ds.c - d)] : List Value)
    rw [HDL.out]; rfl
  rw [hsp] at hs3
  have hon := Only.trans (Only.set (w.heap.size + 2) 6 w2 (.slice (some ⟨b, off + d * 5, none⟩) (N - d) (q.ds.c - d))) HO3.out
  have B3 := Lib.hid (hon.below B2.out (by omega))
  have L3 := Lib.hid (hon.lies L12.out (by omega))
  have H4 := Lib.hid hs3
  clear hs3 HS3 HO3 hsp hon H3 H2 B2 L12 c10 c16 f16
  go_wp2_with (first
    | (refine wpList_load_row (o := ⟨some 18, _, _, _, _, _⟩) ?_ 26 (.tmp 7) ?_ (w.heap.size + 2) ?_ 26 (q.from_ b off d lv).cells.toArray (0, 0) _ H4.out Try.underlying26 rfl size_rp ?_; rfl; rfl; rfl)
    | (refine wpList_store_cells (o := ⟨none, .store 26 (.tmp 6) _, _, _, _, _⟩) ?_ 26 (.tmp 6) (.tmp 18) ?_ (w.heap.size + 1) 0 ?_ 26 zpo (q.from_ b off d lv).cells ?_ L3.out (by simp [zpo, PoM.cells]) size_rp (cells_one _) ?_; rfl; rfl; rfl; rfl; intro w5 HS5 HO5))
  have hs5 := HS5.out
  rw [splice_whole (by simp [zpo, PoM.cells])] at hs5
  refine bodyPost_ret (results_cell_row rfl _ _ (w.heap.size + 1) 26 (q.from_ b off d lv).cells.toArray (0, 0) _ rfl hs5 Try.underlying26 rfl size_rp) rfl ?_
  exact ⟨b, off, HA5.out, rfl, HO5.out.below B3.out (by omega)⟩
end Go.Proofs.Yteognijlgalahaa
