/- The reference's Cost. -/
import Derived.Test.YteognijlgalahaaGA
namespace Go.Proofs.Yteognijlgalahaa
open Go.RowKit Go.Lib
attribute [local go_sem] Oper.semAt_some

set_option maxRecDepth 100000 in
set_option maxHeartbeats 8000000 in
theorem refCost_any (q : PoM) (g : Nat) (row : Nat → Sv Int) (w : World) (hok : q.d.Ok) (hv : VlM q.d g row w) :
    Calls Try.prog 24 #[.agg q.cells.toArray, .slice (some ⟨g, 0, none⟩) (q.ds.l.length + 1) (q.ds.l.length + 1)] w fun e w' => e = .returned (.int .i64 q.d.costD) ∧ Below w.heap.size w w' := by
  have hl0 : 0 ≤ q.low := hok.l0
  have hl2 : q.high ≤ 60 := hok.l2
  have hs0 : q.low ≤ q.slo := hok.s0
  have hs1 : q.slo ≤ q.shi := hok.s1
  have hs2 : q.shi ≤ q.high := hok.s2
  obtain ⟨R, hR⟩ : ∃ R, R = q.d.starts := ⟨_, rfl⟩
  have hRz : (R : Int) = q.shi + 1 - q.slo := by
    rw [hR]
    show (((q.shi + 1 - q.slo).toNat : Nat) : Int) = _
    omega
  obtain ⟨f, hf⟩ : ∃ f, f = q.d.costAt (q.d.vals q.d.ds) := ⟨_, rfl⟩
  have hfk : ∀ k : Nat, f k = q.d.vals q.d.ds (q.slo + (k : Int)) := fun k => by rw [hf]; rfl
  have hfge : ∀ k, -1 ≤ f k := fun k => by rw [hfk]; exact hok.cst _
  have hcost : q.d.costD = greTo f R := by rw [hf, hR]; rfl
  have hge : ∀ k, -1 ≤ greTo f k := fun k => greTo_ge hfge k
  obtain ⟨n1, hn1⟩ : ∃ n1, n1 = q.ds.l.length + 1 := ⟨_, rfl⟩
  have hn0 : (0 : Int) < (n1 : Int) := by omega
  have hg : g < w.heap.size := by obtain ⟨cs, h1, _⟩ := hv.c; exact h1.in_
  have hrow : (row 0).l = q.d.rowT 0 := (hv.r 0 (Nat.zero_le _)).1
  have hcell := hv.cell (i := 0) (Nat.zero_le _)
  have hsl := hv.sl (i := 0) (Nat.zero_le _)
  have hlen := hv.len (i := 0) (Nat.zero_le _)
  have hlz : ((row 0).l.length : Int) = q.high + 1 - q.low := by
    rw [hlen]
    show (((q.high + 1 - q.low).toNat : Nat) : Int) = _
    omega
  have hat : ∀ k : Nat, k < R → ∃ i : Nat, q.slo + (k : Int) - q.low = (i : Int) ∧ i < (row 0).l.length ∧ (row 0).l[i]? = some (f k) := fun k hk => by
    refine ⟨(q.slo + (k : Int) - q.low).toNat, by omega, by omega, ?_⟩
    rw [hrow, PoD.rowT_at q.d 0 (by rw [← hlen]; omega), hfk, List.drop_zero]
    show some (q.d.vals q.d.ds (q.low + (((q.slo + (k : Int) - q.low).toNat : Nat) : Int))) = _
    rw [show q.low + (((q.slo + (k : Int) - q.low).toNat : Nat) : Int) = q.slo + (k : Int) by omega]
  obtain ⟨⟨Ar, lr, cr⟩, hr0⟩ : ∃ s, s = row 0 := ⟨_, rfl⟩
  rw [← hr0] at hcell hsl hlz hat
  dsimp only at hcell hsl hlz hat
  have bb0 : Below w.heap.size w (w.alloc (.cells q.cells.toArray 26)) := (by repeat (first | (with_reducible assumption) | (with_reducible exact Below.refl _ _) | (with_reducible refine Below.drew ?_) | (with_reducible refine below_drewN ?_ _) | ((with_reducible refine Below.setCell ?_ ?_ _); rotate_left; focus (first | (simp; done) | (simp; omega) | omega)) | ((with_reducible refine Below.alloc ?_ ?_ _); rotate_left; focus (first | (simp; done) | (simp; omega) | omega))))
  have l0 : Lies (w.alloc (.cells q.cells.toArray 26)) w.heap.size 26 q.cells.toArray := Lies.fresh _ _ _
  have FC := Lib.hid (fun V (h : Below w.heap.size w V) => (show V.cell? ⟨g, 0, none⟩ = some (.slice Ar lr.length cr) from (h.cell (p := ⟨g, 0, none⟩) hg).trans hcell))
  have FS := Lib.hid hsl
  have HAT := Lib.hid hat
  have L0 := Lib.hid l0
  have B0 := Lib.hid bb0
  have HFG := Lib.hid hfge
  have HGE := Lib.hid hge
  have HW := Lib.hid hcost
  rw [← hn1]
  generalize q.d.costD = rr at *
  clear hR hf hfk hfge hge hcost hrow hcell hsl hlen hat hr0 bb0 l0 hv hok hn1
  go_enter Try.func24, Try.ntmps24
  go_upto_region 2 with (fail)
  change Code.wp _ _ _ _ (w.alloc (.cells q.cells.toArray 26))
  generalize w.alloc (.cells q.cells.toArray 26) = w2 at *
  have c10 : w2.cell? ⟨w.heap.size, 2, none⟩ = some (.int .i64 q.slo) := L0.out.at_ 2
  go_wp2
  clear c10
  go_loopw [4, 5, 6, 7] (fun _ s5 s6 _ wr => ∃ k : Nat, k ≤ R ∧ s5 = .int .i64 (greTo f k) ∧ s6 = .int .i64 (q.slo + (k : Int)) ∧ Aside (greTo f k ≠ -1 ∧ Below w2.heap.size w2 wr)) (fun _ _ i _ _ => (q.shi + 1 - intOf i).toNat)
  case atStart => exact ⟨0, by omega, rfl, by simp, by show (0 : Int) ≠ -1; omega, Below.refl _ _⟩
  case round =>
    obtain ⟨k, hk, rfl, rfl, HH⟩ := hrel
    have BW := Lib.hid (B0.out.trans (HH.out.2.mono B0.out.size))
    have WW := Lib.hid HH.out.2
    have c14 : wr.cell? ⟨w.heap.size, 3, none⟩ = some (.int .i64 q.shi) := (L0.out.call HH.out.2).at_ 3
    have hn1 : greTo f k ≠ -1 := HH.out.1
    have hn2 := HGE.out k
    by_cases hlt : k < R
    · have hle : q.slo + (k : Int) ≤ q.shi := by omega
      obtain ⟨i, hi, hil, hx⟩ := HAT.out k hlt
      obtain ⟨v, hv⟩ : ∃ v, v = f k := ⟨_, rfl⟩
      have hvg : -1 ≤ v := by rw [hv]; exact HFG.out k
      have HVV := Lib.hid hv
      rw [← hv] at hx
      obtain ⟨ba, oa, hA, hba, hca⟩ := FS.out.cell1 hx
      have hwi : IntKind.i64.wrap (q.slo + (k : Int) - q.low) = (i : Int) := by rw [IntWalk.i64_in _ (by omega), hi]
      have hiz : (i : Int) < (lr.length : Int) := by omega
      have hi0 : (0 : Int) ≤ (i : Int) := by omega
      have hlz2 : (lr.length : Int) ≤ 61 := by omega
      subst hA
      have r20 := cell_regrown (FC.out _ BW.out)
      have r23 := cell_regrown (show wr.cell? ⟨w.heap.size, 0, none⟩ = some (.int .i64 q.low) from (L0.out.call HH.out.2).at_ 0)
      have r26 := cell_regrown ((BW.out.cell (p := ⟨ba, oa + i, none⟩) hba).trans hca)
      clear HH hx hv hba hca hi hil
      go_upto_region 5 with (fail)
      refine wp_region_quiet_below (by kernel_rfl) (by kernel_rfl) ?_; (repeat (first | go_big_quiet_step ((fail)) | quiet_step ((fail)))); refine wpQuiet_nil ?_; intro wq hwq; have hbq : Below _ _ wq := (by obtain ⟨p, rfl⟩ := hwq; exact below_regrown _ _ _); clear hwq
      clear r20 r23 r26 hwi
      have BQ := Lib.hid (BW.out.trans (hbq.mono BW.out.size))
      have WQ := Lib.hid (WW.out.trans (hbq.mono WW.out.size))
      clear hbq
      by_cases hvn : v = -1
      · have hstop := greTo_no (f := f) (i := k + 1) (j := R) (by omega) (greTo_stop (by rw [← HVV.out]; exact hvn))
        have HS := Lib.hid hstop
        subst hvn
        clear hstop hvg
        go_wp2
        go_ret
        exact ⟨ret_int (by rw [HW.out, HS.out]), BQ.out⟩
      · have hv0 : 0 ≤ v := by omega
        have hnx := greTo_next (f := f) hn1 (show f k ≠ -1 by rw [← HVV.out]; exact hvn)
        rw [← HVV.out] at hnx
        have HNX := Lib.hid hnx
        have hvl : ¬ v < 0 := by omega
        clear hnx
        generalize greTo f k = gk at *
        go_wp2
        go_roundw
        case rel => exact ⟨k + 1, by omega, by rw [HNX.out], by go_num, by rw [HNX.out]; omega, WQ.out⟩
        case measure => simp [intOf]; omega
    · have hgt : ¬ q.slo + (k : Int) ≤ q.shi := by omega
      obtain rfl : k = R := by omega
      clear HH
      go_wp2
      go_ret
      exact ⟨ret_int HW.out.symm, BW.out⟩
/-- Amount by a table. -/
theorem Amount_row (q : PoM) (g : Nat) (row : Nat → Sv Int) (w : World) (hq : q.At w w.heap.size) (hok : q.d.Ok) (hv : VlM q.d g row w) (day : Nat) (d : Dy) (lv : Int) (hd : q.ds.l[day]? = some d) (b0 : -500 ≤ lv) (b1 : lv ≤ 500) :
    Calls Try.prog 26 #[.agg q.cells.toArray, .slice (row (day + 1)).A (row (day + 1)).l.length (row (day + 1)).c, .int .i64 day, .int .i64 lv] w fun e w' => e = .returned (.tuple #[.int .i64 (q.d.bestD (q.d.vals (q.d.ds.drop (day + 1))) d lv).1, .int .i64 (q.d.bestD (q.d.vals (q.d.ds.drop (day + 1))) d lv).2]) ∧ Below w.heap.size w w' := by
  have hdl : day < q.ds.l.length := (List.getElem?_eq_some_iff.1 hd).1
  have hdl' : day + 1 ≤ q.d.ds.length := hdl
  have hr := (hv.r (day + 1) hdl').1
  have hl0 : 0 ≤ q.low := hok.l0
  have hl1 : q.low ≤ q.high := hok.l1
  have := Amount_any q (row (day + 1)).A (row (day + 1)).c (row (day + 1)).l day d lv w hq hd hok (hv.sl hdl') (by
    rw [hv.len hdl']
    show (((q.high + 1 - q.low).toNat : Nat) : Int) = q.high - q.low + 1
    omega) (by rw [hr]; exact look_cst fun x hx => (rowT_b hok _ x hx).1) (by rw [hr]; exact look_le (by omega) fun x hx => (rowT_b hok _ x hx).2) b0 b1
  rw [hr] at this ⊢
  rw [rowT_best] at this
  exact this
end Go.Proofs.Yteognijlgalahaa
