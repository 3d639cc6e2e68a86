/- ref.IsSample. -/
import Derived.Test.YtkjhofbjjogmlaaYD
import Derived.Test.YtkjhofbjjogmlaaYB
import Derived.BigQuiet
import Derived.Test.YtkjhofbjjogmlaaYG
namespace Go.Proofs.Ytkjhofbjjogmlaa
open Go.RowKit Go.Lib

/-- Can place i of a list stand in a sample? -/
def RwD.sampAt (r : RwD) (l : List Int) (i : Nat) : Bool := inB (l.getD i 0) 0 (r.n - 1) && r.lastB (l.getD i 0).toNat && risesAt l i
theorem sample_all (r : RwD) (l : List Int) : r.sampleB l = (List.range l.length).all (r.sampAt l) := by
  rw [Bool.eq_iff_iff, all_range]
  unfold RwD.sampleB
  rw [Bool.and_eq_true, Bool.and_eq_true, List.all_eq_true, List.all_eq_true]
  constructor
  · rintro ⟨⟨h1, h2⟩, h3⟩ i hi
    unfold RwD.sampAt
    rw [h1 _ (getD_mem hi), h2 _ (getD_mem hi), all_range.1 h3 i hi]; rfl
  · intro h
    have h' : ∀ i, i < l.length → inB (l.getD i 0) 0 (r.n - 1) = true ∧ r.lastB (l.getD i 0).toNat = true ∧ risesAt l i = true := fun i hi => by
      have := h i hi
      unfold RwD.sampAt at this
      rw [Bool.and_eq_true, Bool.and_eq_true] at this
      exact ⟨this.1.1, this.1.2, this.2⟩
    refine ⟨⟨fun x hx => ?_, fun x hx => ?_⟩, all_range.2 fun i hi => (h' i hi).2.2⟩
    · obtain ⟨i, hi⟩ := List.getElem?_of_mem hx
      have := (h' i (List.getElem?_eq_some_iff.1 hi).1).1
      rwa [List.getD, hi] at this
    · obtain ⟨i, hi⟩ := List.getElem?_of_mem hx
      have := (h' i (List.getElem?_eq_some_iff.1 hi).1).2.1
      rwa [List.getD, hi] at this
set_option maxRecDepth 100000 in
set_option maxHeartbeats 8000000 in
theorem refIsSample_any (r : RwM) (A : Option Addr) (c : Nat) (l : List Int) (w : World) (hr : r.At w w.heap.size) (hok : r.d.Ok) (hA : Sl w w.heap.size 1 encI A l) (hl : l.length ≤ 1000000) :
    Calls Try.prog 35 #[.agg r.cells.toArray, .slice A l.length c] w fun e w' => e = .returned (.bool (r.d.sampleB l)) ∧ Below w.heap.size w w' := by
  obtain ⟨N, hN⟩ : ∃ N, N = r.dug.l.length := ⟨_, rfl⟩
  have hnn : r.n = (N : Int) := by rw [hN]; exact hok.dug.symm
  have hN1 : 1 ≤ N := by have := hok.n0; have h2 : r.d.n = r.n := rfl; omega
  have hN10 : N ≤ 10 := by have := hok.n1; have h2 : r.d.n = r.n := rfl; omega
  have hN1z : (1 : Int) ≤ (N : Int) := by omega
  have hN10z : (N : Int) ≤ 10 := by omega
  have hw1 : IntKind.i64.wrap ((N : Int) - 1) = (N : Int) - 1 := IntWalk.i64_in _ (by omega)
  have hYz : (r.ws.l.length : Int) ≤ 30 := by have h2 : r.ws.l.length ≤ 30 := hok.nw; omega
  have l0 : Lies (w.alloc (.cells r.cells.toArray 26)) w.heap.size 26 r.cells.toArray := Lies.fresh _ _ _
  have b0 : Below w.heap.size w (w.alloc (.cells r.cells.toArray 26)) := (by repeat (first | (with_reducible assumption) | (with_reducible exact Below.refl _ _) | (with_reducible refine Below.drew ?_) | (with_reducible refine below_drewN ?_ _) | ((with_reducible refine Below.setCell ?_ ?_ _); rotate_left; focus (first | (simp; done) | (simp; omega) | omega)) | ((with_reducible refine Below.alloc ?_ ?_ _); rotate_left; focus (first | (simp; done) | (simp; omega) | omega))))
  have hSQ := fun (q : Nat) (hq : q < N) W (hb : Below w.heap.size w W) => (refStands_any r q (r.d.dg (q : Nat)) (r.ws.l.length : Int) W ((hr.dug.below hb).more hb.size) (by show r.dug.l[q]? = some (r.dug.l.getD q 0); rw [hN] at hq; simp [List.getD, hq]) hr.ld : Calls Try.prog 42 #[.agg r.cells.toArray, .int .i64 q, .int .i64 r.ws.l.length] W fun e w' => e = .returned (.bool (r.d.lastB q)) ∧ Below W.heap.size W w')
  have hno : ∀ k, k < l.length → r.d.sampAt l k = false → r.d.sampleB l = false := fun k hk h => by rw [sample_all]; exact all_range_no hk h
  have hyes : (∀ k, k < l.length → r.d.sampAt l k = true) → r.d.sampleB l = true := fun h => by rw [sample_all]; exact all_range.2 h
  have hdn : r.d.n = (N : Int) := hnn
  have L0 := Lib.hid l0
  have B0 := Lib.hid b0
  have HSQ := Lib.hid hSQ
  have HNE := Lib.hid hnn
  have HDN := Lib.hid hdn
  have HAA := Lib.hid hA
  have HNO := Lib.hid hno
  have HYES := Lib.hid hyes
  clear l0 b0 hSQ hnn hA hr hok hN hno hyes hdn
  go_enter Try.func35, Try.ntmps35
  go_upto_region 1 with (fail)
  change Code.wp _ _ _ _ (w.alloc (.cells r.cells.toArray 26))
  generalize w.alloc (.cells r.cells.toArray 26) = w0 at *
  go_wp2
  go_loopw [5] (fun s5 wr => ∃ k : Nat, k ≤ l.length ∧ s5 = .int .i64 k ∧ Aside (Below w.heap.size w wr) ∧ Aside (Lies wr w.heap.size 26 r.cells.toArray) ∧ Aside (∀ j, j < k → r.d.sampAt l j = true)) (fun i _ => l.length - (intOf i).toNat)
  case atStart => exact ⟨0, by omega, rfl, B0.out, L0.out, fun j h => absurd h (by omega)⟩
  case round =>
    obtain ⟨k, hk, rfl, HB, HL, HH⟩ := hrel
    clear L0 B0
    by_cases hlt : k < l.length
    · have hltz : (k : Int) < (l.length : Int) := by omega
      have hk0 : (0 : Int) ≤ (k : Int) := by omega
      obtain ⟨x, hx⟩ : ∃ x, l[k]? = some x := ⟨l[k], by simp [hlt]⟩
      obtain ⟨lb, lo, rfl, hlb, c16'⟩ := HAA.out.cell1 hx
      have hxg : l.getD k 0 = x := by rw [List.getD, hx]; rfl
      have hsat : r.d.sampAt l k = (inB x 0 ((N : Int) - 1) && r.d.lastB x.toNat && risesAt l k) := by unfold RwD.sampAt; rw [hxg, HDN.out]
      have r1 := cell_regrown ((HB.out.cell (p := ⟨lb, lo + k, none⟩) hlb).trans c16')
      have r2 := cell_regrown (show wr.cell? ⟨w.heap.size, 0, none⟩ = some (.int .i64 N) by rw [← HNE.out]; exact HL.out.at_ 0)
      have r3 := cell_regrown (show wr.cell? ⟨w.heap.size, 1, none⟩ = some (.slice r.ws.A r.ws.l.length r.ws.c) from HL.out.at_ 1)
      have hq1 : ∀ W, Calls Try.prog 33 #[.int .i64 x, .int .i64 0, .int .i64 ((N : Int) - 1)] W fun e w' => e = .returned (.bool (inB x 0 ((N : Int) - 1))) ∧ Below W.heap.size W w' := fun W => refIn_below _ _ _ _
      have hr0 : ∀ V, (∃ p : Regrown, V = Go.Sort.grow (redrawn wr p.d) p.os) → V.rangeAt w.heap.size 0 r.cells := by
        rintro V ⟨p, rfl⟩
        exact Lies.range (cs := r.cells) (HL.out.call (below_regrown _ _ _)) (fun j v hj => by simpa using hj)
      have HR0 := Lib.hid hr0
      have HSAT := Lib.hid hsat
      have HXG := Lib.hid hxg
      have HBB := Lib.hid HB.out
      have HLL := Lib.hid HL.out
      have hdx : inB x 0 ((N : Int) - 1) = true → 0 ≤ x ∧ x.toNat < N := fun h => by have := inB_iff.1 h; omega
      have HDX := Lib.hid hdx
      obtain ⟨y1, hy1⟩ : ∃ y, y = inB x 0 ((N : Int) - 1) := ⟨_, rfl⟩
      rw [← hy1] at hq1
      have Q1 := Lib.hid hq1
      have HY1 := Lib.hid hy1
      clear hx c16' hsat hxg hq1 hr0 hdx hy1 HB HL
      go_upto_region 4 with (fail)
      cases y1 with
      | false =>
        refine wp_region_quiet_below (by kernel_rfl) (by kernel_rfl) ?_
        repeat (first | go_big_quiet_step ((go_at_call 33; exact Calls.regrown_of (Q1.out _))) | quiet_step ((go_at_call 33; exact Calls.regrown_of (Q1.out _))))
        refine wpQuiet_nil ?_
        intro wq hwq
        have hbq : Below _ _ wq := (by obtain ⟨p, rfl⟩ := hwq; exact below_regrown _ _ _)
        clear hwq r1 r2 r3
        go_wp2
        go_ret
        exact ⟨ret_bool (HNO.out k hlt (by rw [HSAT.out, ← HY1.out]; rfl)).symm, HBB.out.trans (hbq.mono HBB.out.size)⟩
      | true =>
        obtain ⟨hx0, hxN⟩ := HDX.out HY1.out.symm
        obtain ⟨p, hp⟩ : ∃ p : Nat, x = (p : Int) := ⟨x.toNat, by omega⟩
        subst hp
        have hst := fun W (hb : Below wr.heap.size wr W) => HSQ.out p (by omega) W (HBB.out.trans (hb.mono HBB.out.size))
        obtain ⟨y2, hy2⟩ : ∃ y, y = stB (r.d.dg (p : Nat)) (r.ws.l.length : Int) := ⟨_, rfl⟩
        rw [← hy2] at hst
        have HST := Lib.hid hst
        have HY2 := Lib.hid (show y2 = r.d.lastB p from hy2)
        clear hst hy2 hx0 hxN
        cases y2 with
        | false =>
          refine wp_region_quiet_below (by kernel_rfl) (by kernel_rfl) ?_
          repeat (first
            | go_big_quiet_skip
            | (refine wpQuiet_load_wholeG (o := ⟨some 22, _, _, _, _, _⟩) ?_ 26 (.tmp 2) ?_ w.heap.size 0 ?_ r.cells _ HR0.out Try.underlying26 rfl size_refrow ?_; kernel_rfl; rfl; rfl; simp only [Act.put, List.setIfInBounds_toArray, List.set_cons_zero, List.set_cons_succ])
            | go_big_quiet_step (first | (go_at_call 33; exact Calls.regrown_of (Q1.out _)) | (go_at_call 42; exact Calls.regrown_of (HST.out _ (below_regrown _ _ _)))) | quiet_step (first | (go_at_call 33; exact Calls.regrown_of (Q1.out _)) | (go_at_call 42; exact Calls.regrown_of (HST.out _ (below_regrown _ _ _)))))
          refine wpQuiet_nil ?_
          intro wq hwq
          have hbq : Below _ _ wq := (by obtain ⟨p, rfl⟩ := hwq; exact below_regrown _ _ _)
          clear hwq r1 r2 r3
          go_wp2
          go_ret
          exact ⟨ret_bool (HNO.out k hlt (by rw [HSAT.out, ← HY1.out, Int.toNat_natCast, ← HY2.out]; rfl)).symm, HBB.out.trans (hbq.mono HBB.out.size)⟩
        | true =>
          have hsa : r.d.sampAt l k = risesAt l k := by rw [HSAT.out, ← HY1.out, Int.toNat_natCast, ← HY2.out]; rfl
          by_cases h0 : k = 0
          · have d0 : decide (0 < k) = false := decide_eq_false (by omega)
            have hra : risesAt l k = true := by unfold risesAt; rw [h0]; rfl
            have HS := Lib.hid (hsa.trans hra)
            clear h0 hsa hra
            refine wp_region_quiet_below (by kernel_rfl) (by kernel_rfl) ?_
            repeat (first
              | go_big_quiet_skip
              | (refine wpQuiet_load_wholeG (o := ⟨some 22, _, _, _, _, _⟩) ?_ 26 (.tmp 2) ?_ w.heap.size 0 ?_ r.cells _ HR0.out Try.underlying26 rfl size_refrow ?_; kernel_rfl; rfl; rfl; simp only [Act.put, List.setIfInBounds_toArray, List.set_cons_zero, List.set_cons_succ])
              | go_big_quiet_step (first | (go_at_call 33; exact Calls.regrown_of (Q1.out _)) | (go_at_call 42; exact Calls.regrown_of (HST.out _ (below_regrown _ _ _)))) | quiet_step (first | (go_at_call 33; exact Calls.regrown_of (Q1.out _)) | (go_at_call 42; exact Calls.regrown_of (HST.out _ (below_regrown _ _ _)))))
            refine wpQuiet_nil ?_
            intro wq hwq
            have hbq : Below _ _ wq := (by obtain ⟨p, rfl⟩ := hwq; exact below_regrown _ _ _)
            clear hwq r1 r2 r3
            go_wp2
            go_roundw
            case rel => exact ⟨k + 1, by omega, by go_num, HBB.out.trans (hbq.mono HBB.out.size), HLL.out.call hbq, fun j hj => by
              by_cases e : j = k
              · rw [e]; exact HS.out
              · exact HH.out j (by omega)⟩
            case measure => simp [intOf]; omega
          · obtain ⟨j, hj⟩ : ∃ j, j + 1 = k := ⟨k - 1, by omega⟩
            have d0 : decide (0 < k) = true := decide_eq_true (by omega)
            have hjz : (k : Int) - 1 = (j : Int) := by omega
            have hj0 : (0 : Int) ≤ (j : Int) := by omega
            have hjl : (j : Int) < (l.length : Int) := by omega
            have hw2 : IntKind.i64.wrap (j : Int) = (j : Int) := IntWalk.i64_in _ (by omega)
            obtain ⟨y, hy⟩ : ∃ y, l[j]? = some y := ⟨l[j]'(by omega), by simp⟩
            obtain ⟨b', off', e', hb', hc'⟩ := HAA.out.cell1 hy
            cases e'
            have r4 := cell_regrown ((HBB.out.cell (p := ⟨lb, lo + j, none⟩) hb').trans hc')
            have hyg : l.getD (k - 1) 0 = y := by rw [← hj, Nat.add_sub_cancel, List.getD, hy]; rfl
            have hra : risesAt l k = decide (y < (p : Int)) := by unfold risesAt; rw [hyg, HXG.out, decide_eq_false h0]; rfl
            have hsa2 := hsa.trans hra
            clear hy hc' hyg hb' h0 hsa hra
            by_cases hxy : (p : Int) ≤ y
            · have d1 : decide ((p : Int) ≤ y) = true := decide_eq_true hxy
              have HS := Lib.hid (hsa2.trans (decide_eq_false (by omega)))
              clear hsa2
              refine wp_region_quiet_below (by kernel_rfl) (by kernel_rfl) ?_
              repeat (first
                | go_big_quiet_skip
                | (refine wpQuiet_load_wholeG (o := ⟨some 22, _, _, _, _, _⟩) ?_ 26 (.tmp 2) ?_ w.heap.size 0 ?_ r.cells _ HR0.out Try.underlying26 rfl size_refrow ?_; kernel_rfl; rfl; rfl; simp only [Act.put, List.setIfInBounds_toArray, List.set_cons_zero, List.set_cons_succ])
                | go_big_quiet_step (first | (go_at_call 33; exact Calls.regrown_of (Q1.out _)) | (go_at_call 42; exact Calls.regrown_of (HST.out _ (below_regrown _ _ _)))) | quiet_step (first | (go_at_call 33; exact Calls.regrown_of (Q1.out _)) | (go_at_call 42; exact Calls.regrown_of (HST.out _ (below_regrown _ _ _)))))
              refine wpQuiet_nil ?_
              intro wq hwq
              have hbq : Below _ _ wq := (by obtain ⟨p, rfl⟩ := hwq; exact below_regrown _ _ _)
              clear hwq r1 r2 r3 r4
              go_wp2
              go_ret
              exact ⟨ret_bool (HNO.out k hlt HS.out).symm, HBB.out.trans (hbq.mono HBB.out.size)⟩
            · have d1 : decide ((p : Int) ≤ y) = false := decide_eq_false hxy
              have HS := Lib.hid (hsa2.trans (decide_eq_true (by omega)))
              clear hsa2
              refine wp_region_quiet_below (by kernel_rfl) (by kernel_rfl) ?_
              repeat (first
                | go_big_quiet_skip
                | (refine wpQuiet_load_wholeG (o := ⟨some 22, _, _, _, _, _⟩) ?_ 26 (.tmp 2) ?_ w.heap.size 0 ?_ r.cells _ HR0.out Try.underlying26 rfl size_refrow ?_; kernel_rfl; rfl; rfl; simp only [Act.put, List.setIfInBounds_toArray, List.set_cons_zero, List.set_cons_succ])
                | go_big_quiet_step (first | (go_at_call 33; exact Calls.regrown_of (Q1.out _)) | (go_at_call 42; exact Calls.regrown_of (HST.out _ (below_regrown _ _ _)))) | quiet_step (first | (go_at_call 33; exact Calls.regrown_of (Q1.out _)) | (go_at_call 42; exact Calls.regrown_of (HST.out _ (below_regrown _ _ _)))))
              refine wpQuiet_nil ?_
              intro wq hwq
              have hbq : Below _ _ wq := (by obtain ⟨p, rfl⟩ := hwq; exact below_regrown _ _ _)
              clear hwq r1 r2 r3 r4
              go_wp2
              go_roundw
              case rel => exact ⟨k + 1, by omega, by go_num, HBB.out.trans (hbq.mono HBB.out.size), HLL.out.call hbq, fun i hi => by
                by_cases e : i = k
                · rw [e]; exact HS.out
                · exact HH.out i (by omega)⟩
              case measure => simp [intOf]; omega
    · obtain rfl : k = l.length := by omega
      have HBB := Lib.hid HB.out
      have HS := Lib.hid (HYES.out HH.out)
      clear HB HL
      go_wp2
      go_ret
      exact ⟨ret_bool HS.out.symm, HBB.out⟩
end Go.Proofs.Ytkjhofbjjogmlaa

namespace Go.Proofs.Ytkjhofbjjogmlaa
open Go.RowKit Go.Lib

theorem bit_at (i p : Nat) : (((i : Int) / 2 ^ p).tmod 2 == 1) = i.testBit p := by
  have h1 : (i : Int) / 2 ^ p = ((i / 2 ^ p : Nat) : Int) := by simp
  rw [h1, Nat.testBit_eq_decide_div_mod_eq]
  have h2 : (((i / 2 ^ p : Nat) : Int).tmod 2) = ((i / 2 ^ p % 2 : Nat) : Int) := rfl
  rw [h2, Bool.eq_iff_iff, beq_iff_eq, decide_eq_true_eq]
  omega
theorem smp_next {good : List Int → Bool} {n i : Nat} {f : Bool} {b : List Int} (h : smpTo good n i = if f then some b else none) :
    smpTo good n (i + 1) = if good (setL n i) && (!f || shortL (setL n i) b) then some (setL n i) else if f then some b else none := by
  rw [smpTo, h]
  cases f <;> simp
set_option maxRecDepth 100000 in
set_option maxHeartbeats 8000000 in
theorem refSample_any (r : RwM) (A7 : Option Addr) (c7 : Nat) (out : List (Sv Int)) (number : Int) (best : List Int) (w : World) (hr : r.At w w.heap.size) (hok : r.d.Ok) (hM : LlM out A7 w) (hl : out.length ≤ 1000000) (hL : ∀ s, s ∈ out → s.l.length = r.d.dug.length ∧ ∀ o, o ∈ s.l → -1 ≤ o ∧ o ≤ 30)
    (hbest : smpTo (fun l => r.d.sampleB l && r.d.refEn (out.map Sv.l) number l) r.d.dug.length (2 ^ r.d.dug.length) = some best) :
    Calls Try.prog 34 #[.agg r.cells.toArray, .slice A7 out.length c7, .int .i64 number] w (RetIs best w) := by
  obtain ⟨N, hN⟩ : ∃ N, N = r.d.dug.length := ⟨_, rfl⟩
  obtain ⟨L, hLo⟩ : ∃ L, L = out.length := ⟨_, rfl⟩
  have hN10 : N ≤ 10 := by have := hok.n1; have := hok.dug; omega
  have hnn : r.n = (N : Int) := by rw [hN]; exact hok.dug.symm
  obtain ⟨D, hD⟩ : ∃ D, D = 2 ^ N := ⟨_, rfl⟩
  have hD1 : D ≤ 1024 := by rw [hD]; exact Nat.le_trans (Nat.pow_le_pow_right (by decide) hN10) (by decide)
  have hLz : (L : Int) ≤ 1000000 := by omega
  have hNz : (N : Int) ≤ 10 := by omega
  have hDz : (D : Int) ≤ 1024 := by omega
  have hDI : (2 : Int) ^ N = (D : Int) := by rw [hD]; simp
  have hw64 : wrap64 ((2 : Int) ^ N) = (D : Int) := by rw [hDI]; unfold wrap64; omega
  have l0 : Lies (w.alloc (.cells r.cells.toArray 26)) w.heap.size 26 r.cells.toArray := Lies.fresh _ _ _
  have b0 : Below w.heap.size w (w.alloc (.cells r.cells.toArray 26)) := (by repeat (first | (with_reducible assumption) | (with_reducible exact Below.refl _ _) | (with_reducible refine Below.drew ?_) | (with_reducible refine below_drewN ?_ _) | ((with_reducible refine Below.setCell ?_ ?_ _); rotate_left; focus (first | (simp; done) | (simp; omega) | omega)) | ((with_reducible refine Below.alloc ?_ ?_ _); rotate_left; focus (first | (simp; done) | (simp; omega) | omega))))
  obtain ⟨ls, hls⟩ : ∃ ls, ls = out.map Sv.l := ⟨_, rfl⟩
  have hIS := fun (A : Option Addr) (c : Nat) (l : List Int) W (hb : Below w.heap.size w W) (hA : Sl W W.heap.size 1 encI A l) (hl : l.length ≤ 1000) => refIsSample_any r A c l W (hr.below hb hb.size) hok hA (by omega)
  have hEN := fun (A : Option Addr) (c : Nat) (i : Nat) W (hb : Below w.heap.size w W) (hA : Sl W W.heap.size 1 encI A (setL N i)) => refEnough_any r A7 c7 out number A c (setL N i) W (hr.below hb hb.size) hok (hM.below hb) hl hL hA (Nat.le_trans (setL_length N i) (by omega)) (fun p hp => by
    obtain ⟨q, rfl, h1, -⟩ := mem_setL.1 hp
    omega)
  rw [← hls, ← hN] at hbest
  rw [← hD] at hbest
  rw [← hLo, ← hls] at hEN
  rw [← hLo]
  obtain ⟨good, hgood⟩ : ∃ good, good = fun l => r.d.sampleB l && r.d.refEn ls number l := ⟨_, rfl⟩
  rw [← hgood] at hbest
  have hgd : ∀ l, good l = (r.d.sampleB l && r.d.refEn ls number l) := fun l => by rw [hgood]
  have HNE := Lib.hid hnn
  have L0 := Lib.hid l0
  have B0 := Lib.hid b0
  have HIS := Lib.hid hIS
  have HEN := Lib.hid hEN
  have HBE := Lib.hid hbest
  have HGD := Lib.hid hgd
  clear l0 b0 hnn hN hD hr hok hM hLo hL hbest hls hl hDI hIS hEN hgood hgd
  go_enter Try.func34, Try.ntmps34
  go_upto_region 1 with (fail)
  change Code.wp _ _ _ _ (w.alloc (.cells r.cells.toArray 26))
  generalize w.alloc (.cells r.cells.toArray 26) = w0 at *
  have a0 : w0.cell? ⟨w.heap.size, 0, none⟩ = some (.int .i64 N) := by rw [← HNE.out]; exact L0.out.at_ 0
  go_wp2
  go_loopw [7, 8, 9, 10, 11] (fun s7 s8 s9 _ _ wr => ∃ (i : Nat) (Ab : Option Addr) (b : List Int) (cb : Nat) (f : Bool), i ≤ D ∧ s7 = .slice Ab b.length cb ∧ s8 = .bool f ∧ s9 = .int .i64 i ∧ Aside (Below w.heap.size w wr) ∧ Aside (Lies wr w.heap.size 26 r.cells.toArray) ∧ Aside (Sl wr wr.heap.size 1 encI Ab b ∧ (Ab = none → b.length = 0 ∧ cb = 0) ∧ b.length ≤ N) ∧ Aside (smpTo good N i = if f then some b else none)) (fun _ _ i _ _ _ => D - (intOf i).toNat)
  case atStart => exact ⟨0, none, [], 0, false, by omega, rfl, rfl, rfl, B0.out, L0.out, ⟨fun h => absurd rfl h, fun _ => ⟨rfl, rfl⟩, by simp⟩, rfl⟩
  case round =>
    obtain ⟨i, Ab, b, cb, f, hi, rfl, rfl, rfl, HB, HL, HS, HX⟩ := hrel
    have cn : wr.cell? ⟨w.heap.size, 0, none⟩ = some (.int .i64 N) := by rw [← HNE.out]; exact HL.out.at_ 0
    by_cases hlt : i < D
    · have hltz : (i : Int) < (D : Int) := by omega
      have hi0 : (0 : Int) ≤ (i : Int) := by omega
      obtain ⟨v, hv⟩ : ∃ v, v = wr := ⟨_, rfl⟩
      subst hv
      have HBB := Lib.hid HB.out
      have HLB := Lib.hid HL.out
      have HSB := Lib.hid HS.out
      have HNX := Lib.hid (smp_next HX.out)
      clear a0 HB HL HS HX L0 B0
      go_wp2
      clear cn hw64
      go_loopw [10, 11] (fun s10 s11 wz => ∃ (p : Nat) (Al : Option Addr) (cl : Nat), p ≤ N ∧ s10 = .slice Al (setL p i).length cl ∧ s11 = .int .i64 p ∧ Aside (Below v.heap.size v wz) ∧ Aside (wz.ownsRow v.heap.size 3 1 (.slice Al (setL p i).length cl) (setL p i).length ((setL p i).flatMap encI))) (fun _ p _ => N - (intOf p).toNat)
      case atStart => exact ⟨0, none, 0, by omega, rfl, rfl, Below.refl _ _, World.ownsRow_nil _ _ _ _⟩
      case round =>
        obtain ⟨p, Al, cl, hp, rfl, rfl, HW, HO⟩ := hrel
        have HLW := Lib.hid (HLB.out.call HW.out)
        have cn : wr.cell? ⟨w.heap.size, 0, none⟩ = some (.int .i64 N) := by rw [← HNE.out]; exact HLW.out.at_ 0
        have hsl := setL_length p i
        have hslz : ((setL p i).length : Int) ≤ 10 := by omega
        by_cases hpt : p < N
        · have hptz : (p : Int) < (N : Int) := by omega
          have hp0 : (0 : Int) ≤ (p : Int) := by omega
          have hbt := bit_at i p
          have hsu := setL_succ p i
          obtain ⟨sl, hse⟩ : ∃ sl, sl = setL p i := ⟨_, rfl⟩
          rw [← hse] at hsu hsl hslz HO ⊢
          have HSU := Lib.hid hsu
          have HOO := Lib.hid HO.out
          have HWW := Lib.hid HW.out
          clear hsu hse HO HW
          cases htb : i.testBit p with
          | true =>
            rw [htb] at hbt HSU
            rw [if_pos rfl] at HSU
            go_wp2_with (refine wpList_app_ints (o := ⟨some 35, _, _, _, _, _⟩) ?_ (.tmp 32) (.tmp 34) ?_ v.heap.size (.slice Al sl.length cl) sl ?_ (ownsRow_call HOO.out ((Below.refl _ _).alloc (Nat.le_refl _) _)) (some ⟨wr.heap.size, 0, none⟩) 1 [(p : Int)] ?_ (by simp) (lies_one (enc := encI) (x := (p : Int)) rfl (Lies.fresh' rfl)) (by simp; omega) (by have h := HWW.out.size; simp; omega) ?_; rfl; rfl; rfl; rfl; intro v5 w5 hown5 hb5 hg5)
            obtain ⟨A5, c5, hv5, -, -⟩ := Sl.of_own (enc := encI) (fun _ => rfl) hown5 rfl
            subst hv5
            have hb6 := (HWW.out.trans (((Below.refl wr.heap.size wr).alloc (Nat.le_refl _) (.cells #[.int .i64 p] 3)).mono HWW.out.size)).trans hb5
            have HN1 := Lib.hid hown5
            have HN2 := Lib.hid hb6
            clear hown5 hb5 hg5 hb6
            go_roundw
            case rel => exact ⟨p + 1, A5, c5, by omega, by rw [HSU.out], by go_num, HN2.out, (show Aside _ by rw [HSU.out]; exact HN1.out)⟩
            case measure => simp [intOf]; omega
          | false =>
            rw [htb] at hbt HSU
            rw [if_neg (by simp), List.append_nil] at HSU
            go_wp2
            go_roundw
            case rel => exact ⟨p + 1, Al, cl, by omega, by rw [HSU.out], by go_num, HWW.out, (show Aside _ by rw [HSU.out]; exact HOO.out)⟩
            case measure => simp [intOf]; omega
        · obtain rfl : p = N := by omega
          obtain ⟨A', c', e1, hAn, hSl⟩ := Sl.of_own (enc := encI) (fun _ => rfl) HO.out rfl
          cases e1
          have hbw := HBB.out.trans (HW.out.mono HBB.out.size)
          have hbx := HSB.out
          have hsb2 := (hbx.1.below HW.out).more HW.out.size
          have hsbn := hbx.2.1
          have hsbl := hbx.2.2
          have hgd := HGD.out (setL p i)
          have hnx := HNX.out
          rw [hgd] at hnx
          have hsm := fun W (hb : Below wr.heap.size wr W) => HIS.out Al cl (setL p i) W (hbw.trans (hb.mono hbw.size)) ((hSl.below hb).more hb.size) (by omega)
          have hen := fun W (hb : Below wr.heap.size wr W) => HEN.out Al cl i W (hbw.trans (hb.mono hbw.size)) ((hSl.below hb).more hb.size)
          have hle := fun W (hb : Below wr.heap.size wr W) => refLess_any Al Ab cl cb (setL p i) b W ((hSl.below hb).more hb.size) ((hsb2.below hb).more hb.size) (by omega) (by omega)
          obtain ⟨l, hle0⟩ : ∃ l, l = setL p i := ⟨_, rfl⟩
          rw [← hle0] at hsm hen hle hnx hSl hAn hsl hslz ⊢
          obtain ⟨sb, hsb⟩ : ∃ sb, sb = r.d.sampleB l := ⟨_, rfl⟩
          obtain ⟨lb, hlb⟩ : ∃ lb, lb = shortL l b := ⟨_, rfl⟩
          obtain ⟨en, heq⟩ : ∃ en, en = r.d.refEn ls number l := ⟨_, rfl⟩
          rw [← hsb] at hsm hnx
          rw [← hlb] at hle hnx
          rw [← heq] at hen hnx
          have HSM := Lib.hid hsm
          have HEE := Lib.hid hen
          have HLE := Lib.hid hle
          have HNN := Lib.hid hnx
          have HBW := Lib.hid hbw
          have HSL := Lib.hid hSl
          have HAN := Lib.hid hAn
          have HS2 := Lib.hid (show Sl wr wr.heap.size 1 encI Ab b ∧ (Ab = none → b.length = 0 ∧ cb = 0) ∧ b.length ≤ p from ⟨hsb2, hsbn, hsbl⟩)
          have Z0 := Lib.hid (Below.refl wr.heap.size wr)
          clear hsm hen hle hnx hbw hSl hAn hsb hlb heq hle0 hgd hsb2 hsbn hbx HSB HBB HLB HW HO HNX HIS HEN
          cases sb with
          | false =>
            go_wp2_with (first
              | ((fail_if_success (have hxx := D1)); refine wpList_load_row (o := ⟨some 36, _, _, _, _, _⟩) ?_ 26 (.tmp 3) ?_ w.heap.size ?_ 26 r.cells.toArray (0, 0) _ HLW.out Try.underlying26 rfl size_refrow ?_; rfl; rfl; rfl)
              | ((fail_if_success (have hxx := D1)); go_at_call_of 35 (Value.agg r.cells.toArray); refine (HSM.out _ Z0.out).mono ?_; rintro e w1 ⟨rfl, hb1⟩; have D1 := Lib.hid hb1; have L1 := Lib.hid (HLW.out.call hb1)))
            go_roundw
            case rel => exact ⟨i + 1, Ab, b, cb, f, by omega, rfl, rfl, by go_num, HBW.out.trans (D1.out.mono HBW.out.size), HLW.out.call D1.out, ⟨(HS2.out.1.below D1.out).more D1.out.size, HS2.out.2⟩, by show smpTo good p (i + 1) = _; rw [HNN.out]; simp⟩
            case measure => simp [intOf]; omega
          | true =>
            cases f with
            | false =>
              cases en with
              | false =>
                go_wp2_with (first
                  | ((fail_if_success (have hxx := D1)); refine wpList_load_row (o := ⟨some 36, _, _, _, _, _⟩) ?_ 26 (.tmp 3) ?_ w.heap.size ?_ 26 r.cells.toArray (0, 0) _ HLW.out Try.underlying26 rfl size_refrow ?_; rfl; rfl; rfl)
                  | ((fail_if_success (have hxx := D1)); go_at_call_of 35 (Value.agg r.cells.toArray); refine (HSM.out _ Z0.out).mono ?_; rintro e w1 ⟨rfl, hb1⟩; have D1 := Lib.hid hb1; have L1 := Lib.hid (HLW.out.call hb1))
                  | ((fail_if_success (have hxx := D3)); have hxx := D1; clear hxx; refine wpList_load_rowG (o := ⟨some 49, _, _, _, _, _⟩) ?_ 26 (.tmp 3) ?_ w.heap.size ?_ 26 r.cells.toArray (0, 0) _ L1.out Try.underlying26 rfl size_refrow ?_; kernel_rfl; rfl; rfl)
                  | ((fail_if_success (have hxx := D3)); have hxx := D1; clear hxx; go_at_call_of 36 (Value.agg r.cells.toArray); refine (HEE.out _ D1.out).mono ?_; rintro e w3 ⟨rfl, hb3⟩; have D3 := Lib.hid (D1.out.trans (hb3.mono D1.out.size))))
                go_roundw
                case rel => exact ⟨i + 1, Ab, b, cb, false, by omega, rfl, rfl, by go_num, HBW.out.trans (D3.out.mono HBW.out.size), HLW.out.call D3.out, ⟨(HS2.out.1.below D3.out).more D3.out.size, HS2.out.2⟩, by show smpTo good p (i + 1) = _; rw [HNN.out]; simp⟩
                case measure => simp [intOf]; omega
              | true =>
                go_wp2_with (first
                  | ((fail_if_success (have hxx := D1)); refine wpList_load_row (o := ⟨some 36, _, _, _, _, _⟩) ?_ 26 (.tmp 3) ?_ w.heap.size ?_ 26 r.cells.toArray (0, 0) _ HLW.out Try.underlying26 rfl size_refrow ?_; rfl; rfl; rfl)
                  | ((fail_if_success (have hxx := D1)); go_at_call_of 35 (Value.agg r.cells.toArray); refine (HSM.out _ Z0.out).mono ?_; rintro e w1 ⟨rfl, hb1⟩; have D1 := Lib.hid hb1; have L1 := Lib.hid (HLW.out.call hb1))
                  | ((fail_if_success (have hxx := D3)); have hxx := D1; clear hxx; refine wpList_load_rowG (o := ⟨some 49, _, _, _, _, _⟩) ?_ 26 (.tmp 3) ?_ w.heap.size ?_ 26 r.cells.toArray (0, 0) _ L1.out Try.underlying26 rfl size_refrow ?_; kernel_rfl; rfl; rfl)
                  | ((fail_if_success (have hxx := D3)); have hxx := D1; clear hxx; go_at_call_of 36 (Value.agg r.cells.toArray); refine (HEE.out _ D1.out).mono ?_; rintro e w3 ⟨rfl, hb3⟩; have D3 := Lib.hid (D1.out.trans (hb3.mono D1.out.size))))
                go_roundw
                case rel => exact ⟨i + 1, Al, l, cl, true, by omega, rfl, rfl, by go_num, HBW.out.trans (D3.out.mono HBW.out.size), HLW.out.call D3.out, ⟨(HSL.out.below D3.out).more D3.out.size, HAN.out, hsl⟩, by show smpTo good p (i + 1) = _; rw [HNN.out]; simp⟩
                case measure => simp [intOf]; omega
            | true =>
              cases lb with
              | false =>
                go_wp2_with (first
                  | ((fail_if_success (have hxx := D1)); refine wpList_load_row (o := ⟨some 36, _, _, _, _, _⟩) ?_ 26 (.tmp 3) ?_ w.heap.size ?_ 26 r.cells.toArray (0, 0) _ HLW.out Try.underlying26 rfl size_refrow ?_; rfl; rfl; rfl)
                  | ((fail_if_success (have hxx := D1)); go_at_call_of 35 (Value.agg r.cells.toArray); refine (HSM.out _ Z0.out).mono ?_; rintro e w1 ⟨rfl, hb1⟩; have D1 := Lib.hid hb1; have L1 := Lib.hid (HLW.out.call hb1))
                  | ((fail_if_success (have hxx := D2)); have hxx := D1; clear hxx; go_at_call 62; refine (HLE.out _ D1.out).mono ?_; rintro e w2 ⟨rfl, hb2⟩; have D2 := Lib.hid (D1.out.trans (hb2.mono D1.out.size)); have L2 := Lib.hid (L1.out.call hb2)))
                go_roundw
                case rel => exact ⟨i + 1, Ab, b, cb, true, by omega, rfl, rfl, by go_num, HBW.out.trans (D2.out.mono HBW.out.size), HLW.out.call D2.out, ⟨(HS2.out.1.below D2.out).more D2.out.size, HS2.out.2⟩, by show smpTo good p (i + 1) = _; rw [HNN.out]; simp⟩
                case measure => simp [intOf]; omega
              | true =>
                cases en with
                | false =>
                  go_wp2_with (first
                    | ((fail_if_success (have hxx := D1)); refine wpList_load_row (o := ⟨some 36, _, _, _, _, _⟩) ?_ 26 (.tmp 3) ?_ w.heap.size ?_ 26 r.cells.toArray (0, 0) _ HLW.out Try.underlying26 rfl size_refrow ?_; rfl; rfl; rfl)
                    | ((fail_if_success (have hxx := D1)); go_at_call_of 35 (Value.agg r.cells.toArray); refine (HSM.out _ Z0.out).mono ?_; rintro e w1 ⟨rfl, hb1⟩; have D1 := Lib.hid hb1; have L1 := Lib.hid (HLW.out.call hb1))
                    | ((fail_if_success (have hxx := D2)); have hxx := D1; clear hxx; go_at_call 62; refine (HLE.out _ D1.out).mono ?_; rintro e w2 ⟨rfl, hb2⟩; have D2 := Lib.hid (D1.out.trans (hb2.mono D1.out.size)); have L2 := Lib.hid (L1.out.call hb2))
                    | ((fail_if_success (have hxx := D3)); have hxx := D2; clear hxx; refine wpList_load_rowG (o := ⟨some 49, _, _, _, _, _⟩) ?_ 26 (.tmp 3) ?_ w.heap.size ?_ 26 r.cells.toArray (0, 0) _ L2.out Try.underlying26 rfl size_refrow ?_; kernel_rfl; rfl; rfl)
                    | ((fail_if_success (have hxx := D3)); have hxx := D2; clear hxx; go_at_call_of 36 (Value.agg r.cells.toArray); refine (HEE.out _ D2.out).mono ?_; rintro e w3 ⟨rfl, hb3⟩; have D3 := Lib.hid (D2.out.trans (hb3.mono D2.out.size))))
                  go_roundw
                  case rel => exact ⟨i + 1, Ab, b, cb, true, by omega, rfl, rfl, by go_num, HBW.out.trans (D3.out.mono HBW.out.size), HLW.out.call D3.out, ⟨(HS2.out.1.below D3.out).more D3.out.size, HS2.out.2⟩, by show smpTo good p (i + 1) = _; rw [HNN.out]; simp⟩
                  case measure => simp [intOf]; omega
                | true =>
                  go_wp2_with (first
                    | ((fail_if_success (have hxx := D1)); refine wpList_load_row (o := ⟨some 36, _, _, _, _, _⟩) ?_ 26 (.tmp 3) ?_ w.heap.size ?_ 26 r.cells.toArray (0, 0) _ HLW.out Try.underlying26 rfl size_refrow ?_; rfl; rfl; rfl)
                    | ((fail_if_success (have hxx := D1)); go_at_call_of 35 (Value.agg r.cells.toArray); refine (HSM.out _ Z0.out).mono ?_; rintro e w1 ⟨rfl, hb1⟩; have D1 := Lib.hid hb1; have L1 := Lib.hid (HLW.out.call hb1))
                    | ((fail_if_success (have hxx := D2)); have hxx := D1; clear hxx; go_at_call 62; refine (HLE.out _ D1.out).mono ?_; rintro e w2 ⟨rfl, hb2⟩; have D2 := Lib.hid (D1.out.trans (hb2.mono D1.out.size)); have L2 := Lib.hid (L1.out.call hb2))
                    | ((fail_if_success (have hxx := D3)); have hxx := D2; clear hxx; refine wpList_load_rowG (o := ⟨some 49, _, _, _, _, _⟩) ?_ 26 (.tmp 3) ?_ w.heap.size ?_ 26 r.cells.toArray (0, 0) _ L2.out Try.underlying26 rfl size_refrow ?_; kernel_rfl; rfl; rfl)
                    | ((fail_if_success (have hxx := D3)); have hxx := D2; clear hxx; go_at_call_of 36 (Value.agg r.cells.toArray); refine (HEE.out _ D2.out).mono ?_; rintro e w3 ⟨rfl, hb3⟩; have D3 := Lib.hid (D2.out.trans (hb3.mono D2.out.size))))
                  go_roundw
                  case rel => exact ⟨i + 1, Al, l, cl, true, by omega, rfl, rfl, by go_num, HBW.out.trans (D3.out.mono HBW.out.size), HLW.out.call D3.out, ⟨(HSL.out.below D3.out).more D3.out.size, HAN.out, hsl⟩, by show smpTo good p (i + 1) = _; rw [HNN.out]; simp⟩
                  case measure => simp [intOf]; omega
    · obtain rfl : i = D := by omega
      have hx := HX.out
      rw [HBE.out] at hx
      have hbs : b = best := by
        cases f with
        | true => rw [if_pos rfl] at hx; exact (Option.some.inj hx).symm
        | false => rw [if_neg (by simp)] at hx; cases hx
      subst hbs
      have HBB := Lib.hid HB.out
      have HSB := Lib.hid HS.out
      clear hx HB HL HS HX L0 B0
      go_wp2
      go_ret
      exact ⟨Ab, cb, rfl, HSB.out.2.1, HSB.out.1, HBB.out⟩
end Go.Proofs.Ytkjhofbjjogmlaa

namespace Go.Proofs.Ytkjhofbjjogmlaa
open Go.RowKit Go.Lib

set_option maxRecDepth 100000 in
set_option maxHeartbeats 8000000 in
theorem IllSamples_not (r : RwM) (number : Int) (A : Option Addr) (n c : Nat) (w : World) (hF : ∀ W, Below w.heap.size w W → Calls Try.prog 15 #[.agg r.cells.toArray] W fun e w' => e = .returned (.bool false) ∧ Below W.heap.size W w') : Calls Try.prog 5 #[.agg r.cells.toArray, .int .i64 number, .slice A n c] w fun e w' => e = .returned (.bool true) ∧ Below w.heap.size w w' := by
  have l0 : Lies (w.alloc (.cells r.cells.toArray 26)) w.heap.size 26 r.cells.toArray := Lies.fresh _ _ _
  have b0 : Below w.heap.size w (w.alloc (.cells r.cells.toArray 26)) := (by repeat (first | (with_reducible assumption) | (with_reducible exact Below.refl _ _) | (with_reducible refine Below.drew ?_) | (with_reducible refine below_drewN ?_ _) | ((with_reducible refine Below.setCell ?_ ?_ _); rotate_left; focus (first | (simp; done) | (simp; omega) | omega)) | ((with_reducible refine Below.alloc ?_ ?_ _); rotate_left; focus (first | (simp; done) | (simp; omega) | omega))))
  have HF := Lib.hid hF
  have L0 := Lib.hid l0
  have B0 := Lib.hid b0
  clear hF l0 b0
  go_enter Try.func5, Try.ntmps5
  go_upto_region 1 with (fail)
  change Code.wp _ _ _ _ (w.alloc (.cells r.cells.toArray 26))
  generalize w.alloc (.cells r.cells.toArray 26) = w0 at *
  go_wp2_with (first
    | (refine wpList_load_row (o := ⟨some 12, _, _, _, _, _⟩) ?_ 26 (.tmp 3) ?_ w.heap.size ?_ 26 r.cells.toArray (0, 0) _ L0.out Try.underlying26 rfl size_refrow ?_; rfl; rfl; rfl)
    | (go_at_call 15; refine (HF.out _ B0.out).mono ?_; rintro e w1 ⟨rfl, hb1⟩)
    | (go_at_call 16; refine (awake_any _).mono ?_; rintro e w2 ⟨rfl, hb2⟩))
  go_ret
  exact ⟨rfl, B0.out.trans ((hb1.trans (hb2.mono hb1.size)).mono B0.out.size)⟩
set_option maxRecDepth 100000 in
set_option maxHeartbeats 8000000 in
theorem IllSamples_long (r : RwM) (number : Int) (A : Option Addr) (n c : Nat) (w : World) (hn : 15 < n) (hF : ∀ W, Below w.heap.size w W → Calls Try.prog 15 #[.agg r.cells.toArray] W fun e w' => e = .returned (.bool true) ∧ Below W.heap.size W w') : Calls Try.prog 5 #[.agg r.cells.toArray, .int .i64 number, .slice A n c] w fun e w' => e = .returned (.bool true) ∧ Below w.heap.size w w' := by
  have l0 : Lies (w.alloc (.cells r.cells.toArray 26)) w.heap.size 26 r.cells.toArray := Lies.fresh _ _ _
  have b0 : Below w.heap.size w (w.alloc (.cells r.cells.toArray 26)) := (by repeat (first | (with_reducible assumption) | (with_reducible exact Below.refl _ _) | (with_reducible refine Below.drew ?_) | (with_reducible refine below_drewN ?_ _) | ((with_reducible refine Below.setCell ?_ ?_ _); rotate_left; focus (first | (simp; done) | (simp; omega) | omega)) | ((with_reducible refine Below.alloc ?_ ?_ _); rotate_left; focus (first | (simp; done) | (simp; omega) | omega))))
  have hnz : (15 : Int) < (n : Int) := by omega
  have HF := Lib.hid hF
  have L0 := Lib.hid l0
  have B0 := Lib.hid b0
  clear hF l0 b0 hn
  go_enter Try.func5, Try.ntmps5
  go_upto_region 1 with (fail)
  change Code.wp _ _ _ _ (w.alloc (.cells r.cells.toArray 26))
  generalize w.alloc (.cells r.cells.toArray 26) = w0 at *
  go_wp2_with (first
    | (refine wpList_load_row (o := ⟨some 12, _, _, _, _, _⟩) ?_ 26 (.tmp 3) ?_ w.heap.size ?_ 26 r.cells.toArray (0, 0) _ L0.out Try.underlying26 rfl size_refrow ?_; rfl; rfl; rfl)
    | (go_at_call 15; refine (HF.out _ B0.out).mono ?_; rintro e w1 ⟨rfl, hb1⟩)
    | (go_at_call 16; refine (awake_any _).mono ?_; rintro e w2 ⟨rfl, hb2⟩))
  go_ret
  exact ⟨rfl, B0.out.trans ((hb1.trans (hb2.mono hb1.size)).mono B0.out.size)⟩
theorem Sample_of_bad {r q : RwM} {w W : World} (number : Int) (hq : LawR r w q W) (hf : r.d.fault ≠ 0) : Calls Try.prog 31 #[.agg q.cells.toArray, .int .i64 number] W (NoE r.d.fault W) := by
  have := Sample_bad q number W hq.at_ (by rw [hq.d]; exact hf)
  rwa [hq.d] at this
theorem Sample_of_out {r q : RwM} {w W : World} (number : Int) (hq : LawR r w q W) (hf : r.d.fault = 0) (ha : r.d.askD number = false) : Calls Try.prog 31 #[.agg q.cells.toArray, .int .i64 number] W (NoE 2 W) := by
  exact Sample_out q number W hq.at_ (by rw [hq.d]; exact hf) (by rw [hq.d]; exact ha)
theorem Sample_of_sick {r q : RwM} {w W : World} (number : Int) (hq : LawR r w q W) (hf : r.d.fault = 0) (ha : r.d.askD number = true) (hc : r.d.can = false) : Calls Try.prog 31 #[.agg q.cells.toArray, .int .i64 number] W (NoE 10 W) := by
  exact Sample_sick q number W hq.at_ (by rw [hq.d]; exact hf) (by rw [hq.d]; exact ha) (by rw [hq.d]; exact hc)
theorem Sample_of_yes {r q : RwM} {w W : World} (number : Int) (hq : LawR r w q W) (hf : r.d.fault = 0) (ha : r.d.askD number = true) (hc : r.d.can = true) : Calls Try.prog 31 #[.agg q.cells.toArray, .int .i64 number] W (RetE (r.d.bestD r.d.wins number) W) := by
  have := Sample_yes q number W hq.at_ (by rw [hq.d]; exact hf) (by rw [hq.d]; exact ha) (by rw [hq.d]; exact hc)
  rwa [hq.d] at this
theorem best_length {r : RwD} (hok : r.Ok) {k : Int} (hk : 0 ≤ k) : (r.bestD r.wins k).length ≤ 10 := by
  have h1 := (best_is (r := r) hok r.wins_length hk).1.length_le
  have h2 : (r.tells r.wins).length ≤ r.dug.length := by
    unfold RwD.tells thoseD
    rw [List.length_map]
    exact Nat.le_trans (List.length_filter_le ..) (by simp)
  have := hok.dug
  have := hok.n1
  omega
set_option maxRecDepth 100000 in
set_option maxHeartbeats 8000000 in
theorem IllSamples_bad (r : RwM) (number : Int) (s : Sv Int) (w : World) (hr : r.At w w.heap.size) (ht : ThinM r) (hs : Sl w w.heap.size 1 encI s.A s.l) (hsn : s.A = none → s.l.length = 0 ∧ s.c = 0) (hl : s.l.length ≤ 15) (hF : ∀ W, Below w.heap.size w W → Calls Try.prog 15 #[.agg r.cells.toArray] W fun e w' => e = .returned (.bool true) ∧ Below W.heap.size W w') (hf : r.d.fault ≠ 0) : Calls Try.prog 5 #[.agg r.cells.toArray, .int .i64 number, .slice s.A s.l.length s.c] w fun e w' => e = .returned (.bool true) ∧ Below w.heap.size w w' := by
  have l0 : Lies (w.alloc (.cells r.cells.toArray 26)) w.heap.size 26 r.cells.toArray := Lies.fresh _ _ _
  have b0 : Below w.heap.size w (w.alloc (.cells r.cells.toArray 26)) := (by repeat (first | (with_reducible assumption) | (with_reducible exact Below.refl _ _) | (with_reducible refine Below.drew ?_) | (with_reducible refine below_drewN ?_ _) | ((with_reducible refine Below.setCell ?_ ?_ _); rotate_left; focus (first | (simp; done) | (simp; omega) | omega)) | ((with_reducible refine Below.alloc ?_ ?_ _); rotate_left; focus (first | (simp; done) | (simp; omega) | omega))))
  have hlz : (s.l.length : Int) ≤ 15 := by omega
  have RW := Lib.hid (fun W (hb : Below w.heap.size w W) => lawRow_thin r W (hr.below hb hb.size) ht)
  have RL := Lib.hid (fun W (hb : Below w.heap.size w W) => lawList_any s.A s.c s.l W ((hs.below hb).more hb.size) (by omega) hsn)
  have hFA := fun W (hb : Below w.heap.size w W) => refFault_any r W (hr.below hb hb.size)
  have hPR := fun (q : RwM) (w0 V W : World) (A : Option Addr) (c : Nat) (h : LawR r w0 q V) (hb : Below V.heap.size V W) (hA : Sl W W.heap.size 1 encI A s.l) => (by have h2 := ProveSample_any q number A c s.l W (h.at_.below hb hb.size) hA (by omega); rw [h.d] at h2; exact h2 : Calls Try.prog 32 #[.agg q.cells.toArray, .int .i64 number, .slice A s.l.length c] W fun e w' => e = .returned (.bool (r.d.proveS number s.l)) ∧ Below W.heap.size W w')
  have her : r.d.err ≠ 0 := by rw [err_bad hf]; exact hf
  have hSM := fun q w0 W (h : LawR r w0 q W) => Sample_of_bad number h hf
  have hpf : r.d.proveS number s.l = false := by unfold RwD.proveS; rw [decide_eq_false her]; rfl
  rw [hpf] at hPR
  generalize r.d.fault = fl at *
  have hf1 : (fl == 0) = false := by simpa using hf
  have hf2 : (fl != 0) = true := by simpa using hf
  unfold NoE at hSM
  have HF := Lib.hid hF
  have HFA := Lib.hid hFA
  have HPR := Lib.hid hPR
  have HSM := Lib.hid hSM
  have L0 := Lib.hid l0
  have B0 := Lib.hid b0
  clear hF l0 b0 hr ht hs hsn hl hFA hPR hSM hf her hpf
  go_enter Try.func5, Try.ntmps5
  go_upto_region 1 with (fail)
  change Code.wp _ _ _ _ (w.alloc (.cells r.cells.toArray 26))
  generalize w.alloc (.cells r.cells.toArray 26) = w0 at *
  go_upto_region 3 with (first
    | (refine wpList_load_row (o := ⟨some 12, _, _, _, _, _⟩) ?_ 26 (.tmp 3) ?_ w.heap.size ?_ 26 r.cells.toArray (0, 0) _ L0.out Try.underlying26 rfl size_refrow ?_; rfl; rfl; rfl)
    | (go_at_call 15; refine (HF.out _ B0.out).mono ?_; rintro e w1 ⟨rfl, hb1⟩))
  have L1 := Lib.hid (L0.out.call hb1)
  have B1 := Lib.hid (B0.out.trans (hb1.mono B0.out.size))
  clear hb1 L0 B0 HF
  go_upto_region 4 with (first
    | (refine wpList_load_row (o := ⟨some 22, _, _, _, _, _⟩) ?_ 26 (.tmp 3) ?_ w.heap.size ?_ 26 r.cells.toArray (0, 0) _ L1.out Try.underlying26 rfl size_refrow ?_; rfl; rfl; rfl)
    | (go_at_call_of 18 (Value.agg r.cells.toArray); refine (RW.out _ B1.out).mono ?_; rintro e w2 ⟨q2, rfl, hq2⟩)
    | (go_at_call_of 31 (Value.agg q2.cells.toArray); refine (HSM.out q2 _ _ hq2).mono ?_; rintro e w3 ⟨rfl, hb3⟩))
  have D3 := Lib.hid (hq2.b.trans (hb3.mono hq2.b.size))
  have L3 := Lib.hid (L1.out.call D3.out)
  have B3 := Lib.hid (B1.out.trans (D3.out.mono B1.out.size))
  clear hq2 hb3 D3 L1 B1 HSM
  go_upto_region 5 with (first
    | (refine wpList_load_row (o := ⟨some 28, _, _, _, _, _⟩) ?_ 26 (.tmp 3) ?_ w.heap.size ?_ 26 r.cells.toArray (0, 0) _ L3.out Try.underlying26 rfl size_refrow ?_; rfl; rfl; rfl)
    | (go_at_call_of 18 (Value.agg r.cells.toArray); refine (RW.out _ B3.out).mono ?_; rintro e w6 ⟨q6, rfl, hq6⟩; have C6 := Lib.hid (B3.out.trans (hq6.b.mono B3.out.size)))
    | (go_at_call_of 21 (Value.slice s.A s.l.length s.c); refine (RL.out _ C6.out).mono ?_; rintro e w7 ⟨Al, cl, rfl, hAl, hSl, hbl⟩)
    | (go_at_call_of 32 (Value.agg q6.cells.toArray); refine (HPR.out q6 _ _ _ Al cl hq6 hbl hSl).mono ?_; rintro e w8 ⟨rfl, hb8⟩))
  have D8 := Lib.hid (hq6.b.trans ((hbl.trans (hb8.mono hbl.size)).mono hq6.b.size))
  have L8 := Lib.hid (L3.out.call D8.out)
  have B8 := Lib.hid (B3.out.trans (D8.out.mono B3.out.size))
  clear hq6 hbl hb8 hSl hAl C6 D8 L3 B3 HPR RW RL
  go_upto_region 6 with (first
    | (refine wpList_load_row (o := ⟨some 34, _, _, _, _, _⟩) ?_ 26 (.tmp 3) ?_ w.heap.size ?_ 26 r.cells.toArray (0, 0) _ L8.out Try.underlying26 rfl size_refrow ?_; rfl; rfl; rfl)
    | (go_at_call_of 22 (Value.agg r.cells.toArray); refine (HFA.out _ B8.out).mono ?_; rintro e w9 ⟨rfl, hb9⟩))
  have L9 := Lib.hid (L8.out.call hb9)
  have B9 := Lib.hid (B8.out.trans (hb9.mono B8.out.size))
  clear hb9 L8 B8 HFA
  go_wp2_with (first
    | (go_at_call 16; refine (awake_any _).mono ?_; rintro e v1 ⟨rfl, hv1⟩))
  go_ret
  exact ⟨by simp, B9.out.trans (hv1.mono B9.out.size)⟩
set_option maxRecDepth 100000 in
set_option maxHeartbeats 8000000 in
theorem IllSamples_out (r : RwM) (number : Int) (s : Sv Int) (w : World) (hr : r.At w w.heap.size) (ht : ThinM r) (hs : Sl w w.heap.size 1 encI s.A s.l) (hsn : s.A = none → s.l.length = 0 ∧ s.c = 0) (hl : s.l.length ≤ 15) (hF : ∀ W, Below w.heap.size w W → Calls Try.prog 15 #[.agg r.cells.toArray] W fun e w' => e = .returned (.bool true) ∧ Below W.heap.size W w') (hf : r.d.fault = 0) (ha : r.d.askD number = false) : Calls Try.prog 5 #[.agg r.cells.toArray, .int .i64 number, .slice s.A s.l.length s.c] w fun e w' => e = .returned (.bool true) ∧ Below w.heap.size w w' := by
  have l0 : Lies (w.alloc (.cells r.cells.toArray 26)) w.heap.size 26 r.cells.toArray := Lies.fresh _ _ _
  have b0 : Below w.heap.size w (w.alloc (.cells r.cells.toArray 26)) := (by repeat (first | (with_reducible assumption) | (with_reducible exact Below.refl _ _) | (with_reducible refine Below.drew ?_) | (with_reducible refine below_drewN ?_ _) | ((with_reducible refine Below.setCell ?_ ?_ _); rotate_left; focus (first | (simp; done) | (simp; omega) | omega)) | ((with_reducible refine Below.alloc ?_ ?_ _); rotate_left; focus (first | (simp; done) | (simp; omega) | omega))))
  have hlz : (s.l.length : Int) ≤ 15 := by omega
  have RW := Lib.hid (fun W (hb : Below w.heap.size w W) => lawRow_thin r W (hr.below hb hb.size) ht)
  have RL := Lib.hid (fun W (hb : Below w.heap.size w W) => lawList_any s.A s.c s.l W ((hs.below hb).more hb.size) (by omega) hsn)
  have hFA := fun W (hb : Below w.heap.size w W) => refFault_any r W (hr.below hb hb.size)
  have hPR := fun (q : RwM) (w0 V W : World) (A : Option Addr) (c : Nat) (h : LawR r w0 q V) (hb : Below V.heap.size V W) (hA : Sl W W.heap.size 1 encI A s.l) => (by have h2 := ProveSample_any q number A c s.l W (h.at_.below hb hb.size) hA (by omega); rw [h.d] at h2; exact h2 : Calls Try.prog 32 #[.agg q.cells.toArray, .int .i64 number, .slice A s.l.length c] W fun e w' => e = .returned (.bool (r.d.proveS number s.l)) ∧ Below W.heap.size W w')
  have hlw : r.ws.l.length ≤ 30 := (fault_ok hf).2.2.2.1
  have hwz : (r.ws.l.length : Int) ≤ 30 := by omega
  have hIN := fun W => refIn_below number 0 10 W
  obtain ⟨ib, hib⟩ : ∃ ib, ib = inB number 0 10 := ⟨_, rfl⟩
  rw [← hib] at hIN
  have hask : r.d.askD number = (ib && decide ((0 : Int) < r.ws.l.length)) := by rw [hib]; rfl
  rw [ha] at hask
  rw [hf] at hFA
  have hSM := fun q w0 W (h : LawR r w0 q W) => Sample_of_out number h hf ha
  have hpf : r.d.proveS number s.l = false := by unfold RwD.proveS; rw [ha]; simp
  rw [hpf] at hPR
  unfold NoE at hSM
  have HF := Lib.hid hF
  have HFA := Lib.hid hFA
  have HPR := Lib.hid hPR
  have HSM := Lib.hid hSM
  have L0 := Lib.hid l0
  have B0 := Lib.hid b0
  have HIN := Lib.hid hIN
  have HASK := Lib.hid hask
  clear hF l0 b0 hr ht hs hsn hl hFA hPR hSM hf hIN hask hib hlw ha hpf
  go_enter Try.func5, Try.ntmps5
  go_upto_region 1 with (fail)
  change Code.wp _ _ _ _ (w.alloc (.cells r.cells.toArray 26))
  generalize w.alloc (.cells r.cells.toArray 26) = w0 at *
  go_upto_region 3 with (first
    | (refine wpList_load_row (o := ⟨some 12, _, _, _, _, _⟩) ?_ 26 (.tmp 3) ?_ w.heap.size ?_ 26 r.cells.toArray (0, 0) _ L0.out Try.underlying26 rfl size_refrow ?_; rfl; rfl; rfl)
    | (go_at_call 15; refine (HF.out _ B0.out).mono ?_; rintro e w1 ⟨rfl, hb1⟩))
  have L1 := Lib.hid (L0.out.call hb1)
  have B1 := Lib.hid (B0.out.trans (hb1.mono B0.out.size))
  clear hb1 L0 B0 HF
  go_upto_region 4 with (first
    | (refine wpList_load_row (o := ⟨some 22, _, _, _, _, _⟩) ?_ 26 (.tmp 3) ?_ w.heap.size ?_ 26 r.cells.toArray (0, 0) _ L1.out Try.underlying26 rfl size_refrow ?_; rfl; rfl; rfl)
    | (go_at_call_of 18 (Value.agg r.cells.toArray); refine (RW.out _ B1.out).mono ?_; rintro e w2 ⟨q2, rfl, hq2⟩)
    | (go_at_call_of 31 (Value.agg q2.cells.toArray); refine (HSM.out q2 _ _ hq2).mono ?_; rintro e w3 ⟨rfl, hb3⟩))
  have D3 := Lib.hid (hq2.b.trans (hb3.mono hq2.b.size))
  have L3 := Lib.hid (L1.out.call D3.out)
  have B3 := Lib.hid (B1.out.trans (D3.out.mono B1.out.size))
  clear hq2 hb3 D3 L1 B1 HSM
  go_upto_region 5 with (first
    | (refine wpList_load_row (o := ⟨some 28, _, _, _, _, _⟩) ?_ 26 (.tmp 3) ?_ w.heap.size ?_ 26 r.cells.toArray (0, 0) _ L3.out Try.underlying26 rfl size_refrow ?_; rfl; rfl; rfl)
    | (go_at_call_of 18 (Value.agg r.cells.toArray); refine (RW.out _ B3.out).mono ?_; rintro e w6 ⟨q6, rfl, hq6⟩; have C6 := Lib.hid (B3.out.trans (hq6.b.mono B3.out.size)))
    | (go_at_call_of 21 (Value.slice s.A s.l.length s.c); refine (RL.out _ C6.out).mono ?_; rintro e w7 ⟨Al, cl, rfl, hAl, hSl, hbl⟩)
    | (go_at_call_of 32 (Value.agg q6.cells.toArray); refine (HPR.out q6 _ _ _ Al cl hq6 hbl hSl).mono ?_; rintro e w8 ⟨rfl, hb8⟩))
  have D8 := Lib.hid (hq6.b.trans ((hbl.trans (hb8.mono hbl.size)).mono hq6.b.size))
  have L8 := Lib.hid (L3.out.call D8.out)
  have B8 := Lib.hid (B3.out.trans (D8.out.mono B3.out.size))
  clear hq6 hbl hb8 hSl hAl C6 D8 L3 B3 HPR RW RL
  go_upto_region 6 with (first
    | (refine wpList_load_row (o := ⟨some 34, _, _, _, _, _⟩) ?_ 26 (.tmp 3) ?_ w.heap.size ?_ 26 r.cells.toArray (0, 0) _ L8.out Try.underlying26 rfl size_refrow ?_; rfl; rfl; rfl)
    | (go_at_call_of 22 (Value.agg r.cells.toArray); refine (HFA.out _ B8.out).mono ?_; rintro e w9 ⟨rfl, hb9⟩))
  have L9 := Lib.hid (L8.out.call hb9)
  have B9 := Lib.hid (B8.out.trans (hb9.mono B8.out.size))
  clear hb9 L8 B8 HFA
  have hask := HASK.out
  cases ib with
  | false =>
    clear hask
    go_wp2_with (first
      | (go_at_call 33; refine (HIN.out _).mono ?_; rintro e w10 ⟨rfl, hb10⟩; have D10 := Lib.hid hb10; have a1 : w10.cell? ⟨w.heap.size, 1, none⟩ = some (.slice r.ws.A r.ws.l.length r.ws.c) := (L9.out.call hb10).at_ 1)
      | (go_at_call 16; refine (awake_any _).mono ?_; rintro e v1 ⟨rfl, hv1⟩))
    go_ret
    exact ⟨rfl, B9.out.trans ((hb10.trans (hv1.mono hb10.size)).mono B9.out.size)⟩
  | true =>
    rw [Bool.true_and] at hask
    have h0 := of_decide_eq_false hask.symm
    have hz : r.ws.l.length = 0 := by omega
    have hwn : ((r.ws.l.length : Int) == 0) = true := by rw [hz]; rfl
    clear hask h0 hz
    go_wp2_with (first
      | (go_at_call 33; refine (HIN.out _).mono ?_; rintro e w10 ⟨rfl, hb10⟩; have D10 := Lib.hid hb10; have a1 : w10.cell? ⟨w.heap.size, 1, none⟩ = some (.slice r.ws.A r.ws.l.length r.ws.c) := (L9.out.call hb10).at_ 1)
      | (go_at_call 16; refine (awake_any _).mono ?_; rintro e v1 ⟨rfl, hv1⟩))
    go_ret
    exact ⟨rfl, B9.out.trans ((hb10.trans (hv1.mono hb10.size)).mono B9.out.size)⟩
set_option maxRecDepth 100000 in
set_option maxHeartbeats 8000000 in
theorem IllSamples_sick (r : RwM) (number : Int) (s : Sv Int) (w : World) (hr : r.At w w.heap.size) (ht : ThinM r) (hs : Sl w w.heap.size 1 encI s.A s.l) (hsn : s.A = none → s.l.length = 0 ∧ s.c = 0) (hl : s.l.length ≤ 15) (hF : ∀ W, Below w.heap.size w W → Calls Try.prog 15 #[.agg r.cells.toArray] W fun e w' => e = .returned (.bool true) ∧ Below W.heap.size W w') (hf : r.d.fault = 0) (hbig : (r.d.ws.length + 2) ^ r.d.dug.length ≤ 400000) (ha : r.d.askD number = true) (hc : r.d.can = false) : Calls Try.prog 5 #[.agg r.cells.toArray, .int .i64 number, .slice s.A s.l.length s.c] w fun e w' => e = .returned (.bool true) ∧ Below w.heap.size w w' := by
  have l0 : Lies (w.alloc (.cells r.cells.toArray 26)) w.heap.size 26 r.cells.toArray := Lies.fresh _ _ _
  have b0 : Below w.heap.size w (w.alloc (.cells r.cells.toArray 26)) := (by repeat (first | (with_reducible assumption) | (with_reducible exact Below.refl _ _) | (with_reducible refine Below.drew ?_) | (with_reducible refine below_drewN ?_ _) | ((with_reducible refine Below.setCell ?_ ?_ _); rotate_left; focus (first | (simp; done) | (simp; omega) | omega)) | ((with_reducible refine Below.alloc ?_ ?_ _); rotate_left; focus (first | (simp; done) | (simp; omega) | omega))))
  have hlz : (s.l.length : Int) ≤ 15 := by omega
  have RW := Lib.hid (fun W (hb : Below w.heap.size w W) => lawRow_thin r W (hr.below hb hb.size) ht)
  have RL := Lib.hid (fun W (hb : Below w.heap.size w W) => lawList_any s.A s.c s.l W ((hs.below hb).more hb.size) (by omega) hsn)
  have hFA := fun W (hb : Below w.heap.size w W) => refFault_any r W (hr.below hb hb.size)
  have hPR := fun (q : RwM) (w0 V W : World) (A : Option Addr) (c : Nat) (h : LawR r w0 q V) (hb : Below V.heap.size V W) (hA : Sl W W.heap.size 1 encI A s.l) => (by have h2 := ProveSample_any q number A c s.l W (h.at_.below hb hb.size) hA (by omega); rw [h.d] at h2; exact h2 : Calls Try.prog 32 #[.agg q.cells.toArray, .int .i64 number, .slice A s.l.length c] W fun e w' => e = .returned (.bool (r.d.proveS number s.l)) ∧ Below W.heap.size W w')
  have hlw : r.ws.l.length ≤ 30 := (fault_ok hf).2.2.2.1
  have hwz : (r.ws.l.length : Int) ≤ 30 := by omega
  have hIN := fun W => refIn_below number 0 10 W
  obtain ⟨ib, hib⟩ : ∃ ib, ib = inB number 0 10 := ⟨_, rfl⟩
  rw [← hib] at hIN
  have hask : r.d.askD number = (ib && decide ((0 : Int) < r.ws.l.length)) := by rw [hib]; rfl
  rw [ha] at hask
  rw [hf] at hFA
  have hib1 : ib = true := by
    cases ib with
    | true => rfl
    | false => cases hask
  have hw0 : (0 : Int) < r.ws.l.length := by
    rw [hib1, Bool.true_and] at hask
    exact of_decide_eq_true hask.symm
  have hwn : ((r.ws.l.length : Int) == 0) = false := by
    have h : (r.ws.l.length : Int) ≠ 0 := by omega
    simpa using h
  have hkn : ∀ n, n ∈ r.d.ns → 0 ≤ n.k := fun n hn => (hr.kn n hn).1
  have hT := truths_ret r w hr hf hbig
  rw [hib1] at hIN
  have hSM := fun q w0 W (h : LawR r w0 q W) => Sample_of_sick number h hf ha hc
  have hpf : r.d.proveS number s.l = false := by unfold RwD.proveS; rw [err_sick hf hc]; rfl
  rw [hpf] at hPR
  unfold NoE at hSM
  rw [(all_nil hf hkn).2 hc] at hT
  unfold RetT at hT
  have HF := Lib.hid hF
  have HFA := Lib.hid hFA
  have HPR := Lib.hid hPR
  have HSM := Lib.hid hSM
  have L0 := Lib.hid l0
  have B0 := Lib.hid b0
  have HIN := Lib.hid hIN
  have HT := Lib.hid hT
  clear hF l0 b0 hr ht hs hsn hl hFA hPR hSM hf hIN hask hib hlw ha hib1 hw0 hT hkn hbig hc hpf
  go_enter Try.func5, Try.ntmps5
  go_upto_region 1 with (fail)
  change Code.wp _ _ _ _ (w.alloc (.cells r.cells.toArray 26))
  generalize w.alloc (.cells r.cells.toArray 26) = w0 at *
  go_upto_region 3 with (first
    | (refine wpList_load_row (o := ⟨some 12, _, _, _, _, _⟩) ?_ 26 (.tmp 3) ?_ w.heap.size ?_ 26 r.cells.toArray (0, 0) _ L0.out Try.underlying26 rfl size_refrow ?_; rfl; rfl; rfl)
    | (go_at_call 15; refine (HF.out _ B0.out).mono ?_; rintro e w1 ⟨rfl, hb1⟩))
  have L1 := Lib.hid (L0.out.call hb1)
  have B1 := Lib.hid (B0.out.trans (hb1.mono B0.out.size))
  clear hb1 L0 B0 HF
  go_upto_region 4 with (first
    | (refine wpList_load_row (o := ⟨some 22, _, _, _, _, _⟩) ?_ 26 (.tmp 3) ?_ w.heap.size ?_ 26 r.cells.toArray (0, 0) _ L1.out Try.underlying26 rfl size_refrow ?_; rfl; rfl; rfl)
    | (go_at_call_of 18 (Value.agg r.cells.toArray); refine (RW.out _ B1.out).mono ?_; rintro e w2 ⟨q2, rfl, hq2⟩)
    | (go_at_call_of 31 (Value.agg q2.cells.toArray); refine (HSM.out q2 _ _ hq2).mono ?_; rintro e w3 ⟨rfl, hb3⟩))
  have D3 := Lib.hid (hq2.b.trans (hb3.mono hq2.b.size))
  have L3 := Lib.hid (L1.out.call D3.out)
  have B3 := Lib.hid (B1.out.trans (D3.out.mono B1.out.size))
  clear hq2 hb3 D3 L1 B1 HSM
  go_upto_region 5 with (first
    | (refine wpList_load_row (o := ⟨some 28, _, _, _, _, _⟩) ?_ 26 (.tmp 3) ?_ w.heap.size ?_ 26 r.cells.toArray (0, 0) _ L3.out Try.underlying26 rfl size_refrow ?_; rfl; rfl; rfl)
    | (go_at_call_of 18 (Value.agg r.cells.toArray); refine (RW.out _ B3.out).mono ?_; rintro e w6 ⟨q6, rfl, hq6⟩; have C6 := Lib.hid (B3.out.trans (hq6.b.mono B3.out.size)))
    | (go_at_call_of 21 (Value.slice s.A s.l.length s.c); refine (RL.out _ C6.out).mono ?_; rintro e w7 ⟨Al, cl, rfl, hAl, hSl, hbl⟩)
    | (go_at_call_of 32 (Value.agg q6.cells.toArray); refine (HPR.out q6 _ _ _ Al cl hq6 hbl hSl).mono ?_; rintro e w8 ⟨rfl, hb8⟩))
  have D8 := Lib.hid (hq6.b.trans ((hbl.trans (hb8.mono hbl.size)).mono hq6.b.size))
  have L8 := Lib.hid (L3.out.call D8.out)
  have B8 := Lib.hid (B3.out.trans (D8.out.mono B3.out.size))
  clear hq6 hbl hb8 hSl hAl C6 D8 L3 B3 HPR RW RL
  go_upto_region 6 with (first
    | (refine wpList_load_row (o := ⟨some 34, _, _, _, _, _⟩) ?_ 26 (.tmp 3) ?_ w.heap.size ?_ 26 r.cells.toArray (0, 0) _ L8.out Try.underlying26 rfl size_refrow ?_; rfl; rfl; rfl)
    | (go_at_call_of 22 (Value.agg r.cells.toArray); refine (HFA.out _ B8.out).mono ?_; rintro e w9 ⟨rfl, hb9⟩))
  have L9 := Lib.hid (L8.out.call hb9)
  have B9 := Lib.hid (B8.out.trans (hb9.mono B8.out.size))
  clear hb9 L8 B8 HFA
  go_upto_region 10 with (first
    | (go_at_call 33; refine (HIN.out _).mono ?_; rintro e w10 ⟨rfl, hb10⟩; have D10 := Lib.hid hb10; have a1 : w10.cell? ⟨w.heap.size, 1, none⟩ = some (.slice r.ws.A r.ws.l.length r.ws.c) := (L9.out.call hb10).at_ 1))
  have L10 := Lib.hid (L9.out.call hb10)
  have B10 := Lib.hid (B9.out.trans (hb10.mono B9.out.size))
  clear hb10 D10 L9 B9 HIN a1 hwn
  go_upto_region 11 with (first
    | ((fail_if_success (have hxx := D11)); refine wpList_load_row (o := ⟨some 51, _, _, _, _, _⟩) ?_ 26 (.tmp 3) ?_ w.heap.size ?_ 26 r.cells.toArray (0, 0) _ L10.out Try.underlying26 rfl size_refrow ?_; rfl; rfl; rfl)
    | (go_at_call_of 24 (Value.agg r.cells.toArray); refine (HT.out _ B10.out).mono ?_; rintro e w11 ⟨out, A11, c11, rfl, ho11, hO11, hb11⟩; have D11 := Lib.hid hb11))
  have B11 := Lib.hid (B10.out.trans (hb11.mono B10.out.size))
  have ho : out = [] := by simpa using ho11
  subst ho
  clear ho11 hO11 hb11 D11 L10 B10 HT
  go_wp2_with (first
    | (go_at_call 16; refine (awake_any _).mono ?_; rintro e v1 ⟨rfl, hv1⟩))
  go_ret
  exact ⟨rfl, B11.out.trans (hv1.mono B11.out.size)⟩
set_option maxRecDepth 100000 in
set_option maxHeartbeats 8000000 in
theorem IllSamples_yes (r : RwM) (number : Int) (s : Sv Int) (w : World) (hr : r.At w w.heap.size) (ht : ThinM r) (hs : Sl w w.heap.size 1 encI s.A s.l) (hsn : s.A = none → s.l.length = 0 ∧ s.c = 0) (hl : s.l.length ≤ 15) (hF : ∀ W, Below w.heap.size w W → Calls Try.prog 15 #[.agg r.cells.toArray] W fun e w' => e = .returned (.bool true) ∧ Below W.heap.size W w') (hf : r.d.fault = 0) (hbig : (r.d.ws.length + 2) ^ r.d.dug.length ≤ 400000) (ha : r.d.askD number = true) (hc : r.d.can = true) : Calls Try.prog 5 #[.agg r.cells.toArray, .int .i64 number, .slice s.A s.l.length s.c] w fun e w' => e = .returned (.bool true) ∧ Below w.heap.size w w' := by
  have l0 : Lies (w.alloc (.cells r.cells.toArray 26)) w.heap.size 26 r.cells.toArray := Lies.fresh _ _ _
  have b0 : Below w.heap.size w (w.alloc (.cells r.cells.toArray 26)) := (by repeat (first | (with_reducible assumption) | (with_reducible exact Below.refl _ _) | (with_reducible refine Below.drew ?_) | (with_reducible refine below_drewN ?_ _) | ((with_reducible refine Below.setCell ?_ ?_ _); rotate_left; focus (first | (simp; done) | (simp; omega) | omega)) | ((with_reducible refine Below.alloc ?_ ?_ _); rotate_left; focus (first | (simp; done) | (simp; omega) | omega))))
  have hlz : (s.l.length : Int) ≤ 15 := by omega
  have RW := Lib.hid (fun W (hb : Below w.heap.size w W) => lawRow_thin r W (hr.below hb hb.size) ht)
  have RL := Lib.hid (fun W (hb : Below w.heap.size w W) => lawList_any s.A s.c s.l W ((hs.below hb).more hb.size) (by omega) hsn)
  have hFA := fun W (hb : Below w.heap.size w W) => refFault_any r W (hr.below hb hb.size)
  have hPR := fun (q : RwM) (w0 V W : World) (A : Option Addr) (c : Nat) (h : LawR r w0 q V) (hb : Below V.heap.size V W) (hA : Sl W W.heap.size 1 encI A s.l) => (by have h2 := ProveSample_any q number A c s.l W (h.at_.below hb hb.size) hA (by omega); rw [h.d] at h2; exact h2 : Calls Try.prog 32 #[.agg q.cells.toArray, .int .i64 number, .slice A s.l.length c] W fun e w' => e = .returned (.bool (r.d.proveS number s.l)) ∧ Below W.heap.size W w')
  have hlw : r.ws.l.length ≤ 30 := (fault_ok hf).2.2.2.1
  have hwz : (r.ws.l.length : Int) ≤ 30 := by omega
  have hIN := fun W => refIn_below number 0 10 W
  obtain ⟨ib, hib⟩ : ∃ ib, ib = inB number 0 10 := ⟨_, rfl⟩
  rw [← hib] at hIN
  have hask : r.d.askD number = (ib && decide ((0 : Int) < r.ws.l.length)) := by rw [hib]; rfl
  rw [ha] at hask
  rw [hf] at hFA
  have hib1 : ib = true := by
    cases ib with
    | true => rfl
    | false => cases hask
  have hw0 : (0 : Int) < r.ws.l.length := by
    rw [hib1, Bool.true_and] at hask
    exact of_decide_eq_true hask.symm
  have hwn : ((r.ws.l.length : Int) == 0) = false := by
    have h : (r.ws.l.length : Int) ≠ 0 := by omega
    simpa using h
  have hkn : ∀ n, n ∈ r.d.ns → 0 ≤ n.k := fun n hn => (hr.kn n hn).1
  have hT := truths_ret r w hr hf hbig
  rw [hib1] at hIN
  have hSM := fun q w0 W (h : LawR r w0 q W) => Sample_of_yes number h hf ha hc
  have hok := (fault_ok hf).1
  have h10 : r.d.dug.length ≤ 10 := by have := hok.dug; have := hok.n1; omega
  have hne : r.d.allD ≠ [] := fun h => by rw [all_nil hf hkn, hc] at h; cases h
  obtain ⟨ls, hal⟩ : ∃ ls, ls = r.d.allD := ⟨_, rfl⟩
  have hmm : ∀ l, l ∈ ls → l.length = r.d.dug.length ∧ ∀ o, o ∈ l → -1 ≤ o ∧ o ≤ 30 := fun l h => by
    rw [hal] at h
    have h2 := prove_has ((mem_all hf hkn).1 h)
    exact ⟨h2.2.2.1, fun o ho => by have := h2.2.2.2.2 o ho; have h3 : r.d.ws.length = r.ws.l.length := rfl; omega⟩
  have hlen : ls.length ≤ 400000 := by rw [hal]; exact Nat.le_trans (truths_length _ _ _) hbig
  have hpos : 1 ≤ ls.length := by rw [hal]; exact List.length_pos_iff.2 hne
  have hnum := inB_iff.1 (hib.symm.trans hib1)
  have hbl := best_length (r := r.d) hok hnum.1
  have hsmp : smpTo (fun l => r.d.sampleB l && r.d.refEn ls number l) r.d.dug.length (2 ^ r.d.dug.length) = some (r.d.bestD r.d.wins number) := by
    rw [← best_smp hok hnum.1]
    congr 1
    funext l
    cases hsb : r.d.sampleB l with
    | false => rfl
    | true =>
      rw [Bool.true_and, Bool.true_and, hal]
      have h1 := (sample_at hsb).1
      exact refEn_iff hf hkn fun p hp => by have := h1 p hp; have := hok.dug; omega
  have hIS := fun W (hb : Below w.heap.size w W) => refIsSample_any r s.A s.c s.l W (hr.below hb hb.size) hok ((hs.below hb).more hb.size) (by omega)
  have hpv : r.d.proveS number s.l = (r.d.sampleB s.l && r.d.refEn ls number s.l) := by
    unfold RwD.proveS
    rw [err_ok hf hc, ha]
    cases hsb : r.d.sampleB s.l with
    | false => rfl
    | true =>
      have h1 := (sample_at hsb).1
      rw [hal, refEn_iff hf hkn fun p hp => by have := h1 p hp; have := hok.dug; omega]; rfl
  have hEN := fun (h : r.d.sampleB s.l = true) (A : Option Addr) (c : Nat) (out : List (Sv Int)) W (ho : out.map Sv.l = ls) (hb : Below w.heap.size w W) (hM : LlM out A W) => (by have h2 := refEnough_any r A c out number s.A s.c s.l W (hr.below hb hb.size) hok hM (by rw [← ho, List.length_map] at hlen; omega) (fun x hx => hmm x.l (by rw [← ho]; exact List.mem_map.2 ⟨x, hx, rfl⟩)) ((hs.below hb).more hb.size) (by omega) (fun p hp => by have := (sample_at h).1 p hp; have := hok.dug; omega); rw [ho] at h2; exact h2 : Calls Try.prog 36 #[.agg r.cells.toArray, .slice A out.length c, .int .i64 number, .slice s.A s.l.length s.c] W fun e w' => e = .returned (.bool (r.d.refEn ls number s.l)) ∧ Below W.heap.size W w')
  have hSA := fun (A : Option Addr) (c : Nat) (out : List (Sv Int)) W (ho : out.map Sv.l = ls) (hb : Below w.heap.size w W) (hM : LlM out A W) => refSample_any r A c out number (r.d.bestD r.d.wins number) W (hr.below hb hb.size) hok hM (by rw [← ho, List.length_map] at hlen; omega) (fun x hx => hmm x.l (by rw [← ho]; exact List.mem_map.2 ⟨x, hx, rfl⟩)) (by rw [ho]; exact hsmp)
  rw [← hal] at hT
  unfold RetT at hT
  generalize r.d.bestD r.d.wins number = lf at *
  obtain ⟨sb, hsb⟩ : ∃ sb, sb = r.d.sampleB s.l := ⟨_, rfl⟩
  obtain ⟨en, heq⟩ : ∃ en, en = r.d.refEn ls number s.l := ⟨_, rfl⟩
  rw [hpv] at hPR
  rw [← hsb] at hIS hEN hPR
  rw [← heq] at hEN hPR
  have hp2 : ((sb && en) == (sb && en)) = true := by simp
  unfold RetE at hSM
  have hlf : (lf.length : Int) ≤ 10 := by omega
  have HF := Lib.hid hF
  have HFA := Lib.hid hFA
  have HPR := Lib.hid hPR
  have HSM := Lib.hid hSM
  have L0 := Lib.hid l0
  have B0 := Lib.hid b0
  have HIN := Lib.hid hIN
  have HT := Lib.hid hT
  have HIS := Lib.hid hIS
  have HEN := Lib.hid hEN
  have HSA := Lib.hid hSA
  have HLN := Lib.hid hlen
  have HPOS := Lib.hid hpos
  have HLF := Lib.hid hbl
  clear hF l0 b0 hr ht hs hsn hl hFA hPR hSM hf hIN hask hib hlw ha hib1 hw0 hT hkn hbig hc hok h10 hne hal hmm hlen hpos hnum hbl hsmp hIS hpv hEN hSA hsb heq
  go_enter Try.func5, Try.ntmps5
  go_upto_region 1 with (fail)
  change Code.wp _ _ _ _ (w.alloc (.cells r.cells.toArray 26))
  generalize w.alloc (.cells r.cells.toArray 26) = w0 at *
  go_upto_region 3 with (first
    | (refine wpList_load_row (o := ⟨some 12, _, _, _, _, _⟩) ?_ 26 (.tmp 3) ?_ w.heap.size ?_ 26 r.cells.toArray (0, 0) _ L0.out Try.underlying26 rfl size_refrow ?_; rfl; rfl; rfl)
    | (go_at_call 15; refine (HF.out _ B0.out).mono ?_; rintro e w1 ⟨rfl, hb1⟩))
  have L1 := Lib.hid (L0.out.call hb1)
  have B1 := Lib.hid (B0.out.trans (hb1.mono B0.out.size))
  clear hb1 L0 B0 HF
  go_upto_region 4 with (first
    | (refine wpList_load_row (o := ⟨some 22, _, _, _, _, _⟩) ?_ 26 (.tmp 3) ?_ w.heap.size ?_ 26 r.cells.toArray (0, 0) _ L1.out Try.underlying26 rfl size_refrow ?_; rfl; rfl; rfl)
    | (go_at_call_of 18 (Value.agg r.cells.toArray); refine (RW.out _ B1.out).mono ?_; rintro e w2 ⟨q2, rfl, hq2⟩)
    | (go_at_call_of 31 (Value.agg q2.cells.toArray); refine (HSM.out q2 _ _ hq2).mono ?_; rintro e w3 ⟨A5, c5, rfl, hA5, hS5, hb3⟩))
  have D3 := Lib.hid (hq2.b.trans (hb3.mono hq2.b.size))
  have L3 := Lib.hid (L1.out.call D3.out)
  have B3 := Lib.hid (B1.out.trans (D3.out.mono B1.out.size))
  have S5 := Lib.hid hS5
  clear hS5 hA5
  clear hq2 hb3 D3 L1 B1 HSM
  go_upto_region 5 with (first
    | (refine wpList_load_row (o := ⟨some 28, _, _, _, _, _⟩) ?_ 26 (.tmp 3) ?_ w.heap.size ?_ 26 r.cells.toArray (0, 0) _ L3.out Try.underlying26 rfl size_refrow ?_; rfl; rfl; rfl)
    | (go_at_call_of 18 (Value.agg r.cells.toArray); refine (RW.out _ B3.out).mono ?_; rintro e w6 ⟨q6, rfl, hq6⟩; have C6 := Lib.hid (B3.out.trans (hq6.b.mono B3.out.size)))
    | (go_at_call_of 21 (Value.slice s.A s.l.length s.c); refine (RL.out _ C6.out).mono ?_; rintro e w7 ⟨Al, cl, rfl, hAl, hSl, hbl⟩)
    | (go_at_call_of 32 (Value.agg q6.cells.toArray); refine (HPR.out q6 _ _ _ Al cl hq6 hbl hSl).mono ?_; rintro e w8 ⟨rfl, hb8⟩))
  have D8 := Lib.hid (hq6.b.trans ((hbl.trans (hb8.mono hbl.size)).mono hq6.b.size))
  have L8 := Lib.hid (L3.out.call D8.out)
  have B8 := Lib.hid (B3.out.trans (D8.out.mono B3.out.size))
  have S8 := Lib.hid ((S5.out.below D8.out).more D8.out.size)
  clear S5
  clear hq6 hbl hb8 hSl hAl C6 D8 L3 B3 HPR RW RL
  go_upto_region 6 with (first
    | (refine wpList_load_row (o := ⟨some 34, _, _, _, _, _⟩) ?_ 26 (.tmp 3) ?_ w.heap.size ?_ 26 r.cells.toArray (0, 0) _ L8.out Try.underlying26 rfl size_refrow ?_; rfl; rfl; rfl)
    | (go_at_call_of 22 (Value.agg r.cells.toArray); refine (HFA.out _ B8.out).mono ?_; rintro e w9 ⟨rfl, hb9⟩))
  have L9 := Lib.hid (L8.out.call hb9)
  have B9 := Lib.hid (B8.out.trans (hb9.mono B8.out.size))
  have S9 := Lib.hid ((S8.out.below hb9).more hb9.size)
  clear S8
  clear hb9 L8 B8 HFA
  go_upto_region 10 with (first
    | (go_at_call 33; refine (HIN.out _).mono ?_; rintro e w10 ⟨rfl, hb10⟩; have D10 := Lib.hid hb10; have a1 : w10.cell? ⟨w.heap.size, 1, none⟩ = some (.slice r.ws.A r.ws.l.length r.ws.c) := (L9.out.call hb10).at_ 1))
  have L10 := Lib.hid (L9.out.call hb10)
  have B10 := Lib.hid (B9.out.trans (hb10.mono B9.out.size))
  have S10 := Lib.hid ((S9.out.below hb10).more hb10.size)
  clear S9
  clear hb10 D10 L9 B9 HIN a1 hwn
  go_upto_region 11 with (first
    | ((fail_if_success (have hxx := D11)); refine wpList_load_row (o := ⟨some 51, _, _, _, _, _⟩) ?_ 26 (.tmp 3) ?_ w.heap.size ?_ 26 r.cells.toArray (0, 0) _ L10.out Try.underlying26 rfl size_refrow ?_; rfl; rfl; rfl)
    | (go_at_call_of 24 (Value.agg r.cells.toArray); refine (HT.out _ B10.out).mono ?_; rintro e w11 ⟨out, A11, c11, rfl, ho11, hO11, hb11⟩; have D11 := Lib.hid hb11))
  have B11 := Lib.hid (B10.out.trans (hb11.mono B10.out.size))
  have L11 := Lib.hid (L10.out.call hb11)
  have S11 := Lib.hid ((S10.out.below hb11).more hb11.size)
  have hO := hO11.ll
  have hsa := HSA.out A11 c11 out w11 ho11 B11.out hO
  have hen := fun (h : sb = true) W (hb : Below w11.heap.size w11 W) => HEN.out h A11 c11 out W ho11 (B11.out.trans (hb.mono B11.out.size)) (hO.below hb)
  have his := fun W (hb : Below w11.heap.size w11 W) => HIS.out W (B11.out.trans (hb.mono B11.out.size))
  obtain ⟨L, hL⟩ : ∃ L, L = out.length := ⟨_, rfl⟩
  have hLl : ls.length = L := by rw [← ho11, List.length_map, hL]
  have hLn : ((L : Int) == 0) = false := by have := HPOS.out; simp; omega
  have hLz : (L : Int) ≤ 400000 := by have := HLN.out; omega
  rw [← hL] at hsa hen ⊢
  have HSA2 := Lib.hid hsa
  have HEN2 := Lib.hid hen
  have HIS2 := Lib.hid his
  clear hO11 hb11 D11 L10 B10 HT hO hsa hen his HSA HEN HIS hL hLl S10 ho11
  go_upto_region 15 with (fail)
  cases sb with
  | false =>
    have hp3 : (false && en) = false := rfl
    rw [hp3] at hp2 ⊢
    go_wp2_with (first
      | ((fail_if_success (have hxx := E1)); refine wpList_load_rowG (o := ⟨some 77, _, _, _, _, _⟩) ?_ 26 (.tmp 3) ?_ w.heap.size ?_ 26 r.cells.toArray (0, 0) _ L11.out Try.underlying26 rfl size_refrow ?_; kernel_rfl; rfl; rfl)
      | ((fail_if_success (have hxx := E1)); go_at_call_of 34 (Value.agg r.cells.toArray); refine HSA2.out.mono ?_; rintro e v1 ⟨Af, cf, rfl, hAf, hSf, hv1⟩; have E1 := Lib.hid hv1; have SV := Lib.hid ((S11.out.below hv1).more hv1.size))
      | ((fail_if_success (have hxx := E2)); have hxx := E1; clear hxx; go_at_call 25; refine (ints_yes A5 Af c5 cf lf v1 SV.out hSf (by have := HLF.out; omega)).mono ?_; rintro e v2 ⟨rfl, hv2⟩; have E2 := Lib.hid (E1.out.trans (hv2.mono E1.out.size)); have L12 := Lib.hid (L11.out.call E2.out))
      | ((fail_if_success (have hxx := E3)); have hxx := E2; clear hxx; refine wpList_load_rowG (o := ⟨some 85, _, _, _, _, _⟩) ?_ 26 (.tmp 3) ?_ w.heap.size ?_ 26 r.cells.toArray (0, 0) _ L12.out Try.underlying26 rfl size_refrow ?_; kernel_rfl; rfl; rfl)
      | ((fail_if_success (have hxx := E3)); have hxx := E2; clear hxx; go_at_call_of 35 (Value.agg r.cells.toArray); refine (HIS2.out _ E2.out).mono ?_; rintro e v3 ⟨rfl, hv3⟩; have E3 := Lib.hid (E2.out.trans (hv3.mono E2.out.size)); have L13 := Lib.hid (L12.out.call hv3))
      | (have hxx := E3; clear hxx; go_at_call 16; refine (awake_any _).mono ?_; rintro e v5 ⟨rfl, hv5⟩))
    go_ret
    exact ⟨rfl, B11.out.trans ((E3.out.trans (hv5.mono E3.out.size)).mono B11.out.size)⟩
  | true =>
    rw [Bool.true_and] at hp2 ⊢
    have hen3 := HEN2.out rfl
    clear HEN2
    have HEN2 := Lib.hid hen3
    clear hen3
    cases en with
    | false =>
      go_wp2_with (first
        | ((fail_if_success (have hxx := E1)); refine wpList_load_rowG (o := ⟨some 77, _, _, _, _, _⟩) ?_ 26 (.tmp 3) ?_ w.heap.size ?_ 26 r.cells.toArray (0, 0) _ L11.out Try.underlying26 rfl size_refrow ?_; kernel_rfl; rfl; rfl)
        | ((fail_if_success (have hxx := E1)); go_at_call_of 34 (Value.agg r.cells.toArray); refine HSA2.out.mono ?_; rintro e v1 ⟨Af, cf, rfl, hAf, hSf, hv1⟩; have E1 := Lib.hid hv1; have SV := Lib.hid ((S11.out.below hv1).more hv1.size))
        | ((fail_if_success (have hxx := E2)); have hxx := E1; clear hxx; go_at_call 25; refine (ints_yes A5 Af c5 cf lf v1 SV.out hSf (by have := HLF.out; omega)).mono ?_; rintro e v2 ⟨rfl, hv2⟩; have E2 := Lib.hid (E1.out.trans (hv2.mono E1.out.size)); have L12 := Lib.hid (L11.out.call E2.out))
        | ((fail_if_success (have hxx := E3)); have hxx := E2; clear hxx; refine wpList_load_rowG (o := ⟨some 85, _, _, _, _, _⟩) ?_ 26 (.tmp 3) ?_ w.heap.size ?_ 26 r.cells.toArray (0, 0) _ L12.out Try.underlying26 rfl size_refrow ?_; kernel_rfl; rfl; rfl)
        | ((fail_if_success (have hxx := E3)); have hxx := E2; clear hxx; go_at_call_of 35 (Value.agg r.cells.toArray); refine (HIS2.out _ E2.out).mono ?_; rintro e v3 ⟨rfl, hv3⟩; have E3 := Lib.hid (E2.out.trans (hv3.mono E2.out.size)); have L13 := Lib.hid (L12.out.call hv3))
        | ((fail_if_success (have hxx := E4)); have hxx := E3; clear hxx; refine wpList_load_rowG (o := ⟨some 89, _, _, _, _, _⟩) ?_ 26 (.tmp 3) ?_ w.heap.size ?_ 26 r.cells.toArray (0, 0) _ L13.out Try.underlying26 rfl size_refrow ?_; kernel_rfl; rfl; rfl)
        | ((fail_if_success (have hxx := E4)); have hxx := E3; clear hxx; go_at_call_of 36 (Value.agg r.cells.toArray); refine (HEN2.out _ E3.out).mono ?_; rintro e v4 ⟨rfl, hv4⟩; have E4 := Lib.hid (E3.out.trans (hv4.mono E3.out.size)))
        | (have hxx := E4; clear hxx; go_at_call 16; refine (awake_any _).mono ?_; rintro e v5 ⟨rfl, hv5⟩))
      go_ret
      exact ⟨rfl, B11.out.trans ((E4.out.trans (hv5.mono E4.out.size)).mono B11.out.size)⟩
    | true =>
      go_wp2_with (first
        | ((fail_if_success (have hxx := E1)); refine wpList_load_rowG (o := ⟨some 77, _, _, _, _, _⟩) ?_ 26 (.tmp 3) ?_ w.heap.size ?_ 26 r.cells.toArray (0, 0) _ L11.out Try.underlying26 rfl size_refrow ?_; kernel_rfl; rfl; rfl)
        | ((fail_if_success (have hxx := E1)); go_at_call_of 34 (Value.agg r.cells.toArray); refine HSA2.out.mono ?_; rintro e v1 ⟨Af, cf, rfl, hAf, hSf, hv1⟩; have E1 := Lib.hid hv1; have SV := Lib.hid ((S11.out.below hv1).more hv1.size))
        | ((fail_if_success (have hxx := E2)); have hxx := E1; clear hxx; go_at_call 25; refine (ints_yes A5 Af c5 cf lf v1 SV.out hSf (by have := HLF.out; omega)).mono ?_; rintro e v2 ⟨rfl, hv2⟩; have E2 := Lib.hid (E1.out.trans (hv2.mono E1.out.size)); have L12 := Lib.hid (L11.out.call E2.out))
        | ((fail_if_success (have hxx := E3)); have hxx := E2; clear hxx; refine wpList_load_rowG (o := ⟨some 85, _, _, _, _, _⟩) ?_ 26 (.tmp 3) ?_ w.heap.size ?_ 26 r.cells.toArray (0, 0) _ L12.out Try.underlying26 rfl size_refrow ?_; kernel_rfl; rfl; rfl)
        | ((fail_if_success (have hxx := E3)); have hxx := E2; clear hxx; go_at_call_of 35 (Value.agg r.cells.toArray); refine (HIS2.out _ E2.out).mono ?_; rintro e v3 ⟨rfl, hv3⟩; have E3 := Lib.hid (E2.out.trans (hv3.mono E2.out.size)); have L13 := Lib.hid (L12.out.call hv3))
        | ((fail_if_success (have hxx := E4)); have hxx := E3; clear hxx; refine wpList_load_rowG (o := ⟨some 89, _, _, _, _, _⟩) ?_ 26 (.tmp 3) ?_ w.heap.size ?_ 26 r.cells.toArray (0, 0) _ L13.out Try.underlying26 rfl size_refrow ?_; kernel_rfl; rfl; rfl)
        | ((fail_if_success (have hxx := E4)); have hxx := E3; clear hxx; go_at_call_of 36 (Value.agg r.cells.toArray); refine (HEN2.out _ E3.out).mono ?_; rintro e v4 ⟨rfl, hv4⟩; have E4 := Lib.hid (E3.out.trans (hv4.mono E3.out.size)))
        | (have hxx := E4; clear hxx; go_at_call 16; refine (awake_any _).mono ?_; rintro e v5 ⟨rfl, hv5⟩))
      go_ret
      exact ⟨rfl, B11.out.trans ((E4.out.trans (hv5.mono E4.out.size)).mono B11.out.size)⟩
theorem IllSamples_walk (r : RwM) (number : Int) (s : Sv Int) (w : World) (h : OpenRow r w) (_hn : -9223372036854775808 ≤ number ∧ number ≤ 9223372036854775807) (hsn : (s.A = none → s.l.length = 0 ∧ s.c = 0) ∧ s.l.length ≤ maxLen) (hs : Sl w w.heap.size 1 encI s.A s.l) :
    Calls Try.prog 5 #[.agg r.cells.toArray, .int .i64 number, s.val] w fun e w' => e = .returned (.bool true) ∧ Below w.heap.size w w' := by
  unfold Sv.val
  cases ht : r.d.thin with
  | false => exact IllSamples_not r number _ _ _ w fun W _ => few_thick r W h.lw h.ln h.ld ht
  | true =>
    obtain ⟨hr, htm⟩ := h.thin ht
    have hF := fun W (hb : Below w.heap.size w W) => few_thin r W (hr.below hb hb.size) ht htm.w
    cases hfw : r.d.fewB with
    | false => rw [hfw] at hF; exact IllSamples_not r number _ _ _ w hF
    | true =>
      rw [hfw] at hF
      by_cases hl : 15 < s.l.length
      · exact IllSamples_long r number _ _ _ w hl hF
      · by_cases hf : r.d.fault = 0
        · cases ha : r.d.askD number with
          | false => exact IllSamples_out r number s w hr htm hs hsn.1 (by omega) hF hf ha
          | true =>
            cases hc : r.d.can with
            | false => exact IllSamples_sick r number s w hr htm hs hsn.1 (by omega) hF hf (few_big hfw hf) ha hc
            | true => exact IllSamples_yes r number s w hr htm hs hsn.1 (by omega) hF hf (few_big hfw hf) ha hc
        · exact IllSamples_bad r number s w hr htm hs hsn.1 (by omega) hF hf
end Go.Proofs.Ytkjhofbjjogmlaa
