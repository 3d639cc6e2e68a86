/- PolderTables: the walk. -/
import Derived.Test.YteognijlgalahaaGA
namespace Go.Proofs.Yteognijlgalahaa
open Go.RowKit Go.Lib
attribute [local go_sem] Oper.semAt_some

set_option maxRecDepth 100000 in
set_option maxHeartbeats 16000000 in
theorem PolderTables_walk (q : PoM) (w : World) (h : OpenPo q w) : Calls Try.prog 6 #[.agg q.cells.toArray] w fun e w' => e = .returned (.bool true) ∧ Below w.heap.size w w' := by
  have l0 : Lies (w.alloc (.cells q.cells.toArray 26)) w.heap.size 26 q.cells.toArray := Lies.fresh _ _ _
  have b0 : Below w.heap.size w (w.alloc (.cells q.cells.toArray 26)) := (by repeat (first | (with_reducible assumption) | (with_reducible exact Below.refl _ _) | (with_reducible refine Below.drew ?_) | (with_reducible refine below_drewN ?_ _) | ((with_reducible refine Below.setCell ?_ ?_ _); rotate_left; focus (first | (simp; done) | (simp; omega) | omega)) | ((with_reducible refine Below.alloc ?_ ?_ _); rotate_left; focus (first | (simp; done) | (simp; omega) | omega))))
  have HTH := Lib.hid (fun W => Thin_any q W)
  have HO := Lib.hid h
  have L := Lib.hid l0
  have B := Lib.hid b0
  have K8 := Lib.hid True.intro
  clear l0 b0 h
  by_cases hthin : q.ds.l.length ≤ 15
  · rw [decide_eq_true hthin] at HTH
    have HL15 := Lib.hid hthin
    have HAT := Lib.hid (HO.out.at_ hthin)
    clear hthin HO
    by_cases hf0 : q.d.fault = 0
    · have HOK := Lib.hid (fault_ok hf0)
      have HFA := Lib.hid (fun W (hq : q.At W W.heap.size) => (show Calls Try.prog 20 #[.agg q.cells.toArray] W fun e w' => e = .returned (.int .i64 0) ∧ Below W.heap.size W w' by
        have := lawFault_any q W hq
        rw [hf0] at this
        exact this))
      have HTA := Lib.hid (fun A c W (hat : (q.withA A c).At W W.heap.size) => (show Calls Try.prog 33 #[.agg (q.withA A c).cells.toArray] W (TabE (q.d.tableD, 0) W) by
        have := Table_any (q.withA A c) W hat
        rw [show (q.withA A c).d.tabR = (q.d.tableD, 0) by unfold PoD.tabR; rw [show (q.withA A c).d.fault = 0 from hf0, if_neg (by simp)]; rfl] at this
        exact this))
      clear hf0
      go_enter Try.func6, Try.ntmps6
      go_upto_region 1 with (fail)
      change Code.wp _ _ _ _ (w.alloc (.cells q.cells.toArray 26))
      generalize w.alloc (.cells q.cells.toArray 26) = w1 at *
      go_upto_region 8 with (first
          | (have h := K8; clear h; refine wpList_load_row (o := ⟨some 8, _, _, _, _, _⟩) ?_ 26 (.tmp 1) ?_ w.heap.size ?_ 26 q.cells.toArray (0, 0) _ L.out Try.underlying26 rfl size_rp ?_; rfl; rfl; rfl; have K9 := Lib.hid True.intro; clear K8)
          | (have h := K9; clear h; go_at_call 15; refine (HTH.out _).mono ?_; rintro e w2 ⟨rfl, hb⟩; replace B := Lib.hid (B.out.trans (hb.mono B.out.size)); replace L := Lib.hid (L.out.call hb); clear hb; have K13 := Lib.hid True.intro; clear K9)
          | (have h := K13; clear h; refine wpList_load_row (o := ⟨some 13, _, _, _, _, _⟩) ?_ 26 (.tmp 1) ?_ w.heap.size ?_ 26 q.cells.toArray (0, 0) _ L.out Try.underlying26 rfl size_rp ?_; rfl; rfl; rfl; have K14 := Lib.hid True.intro; clear K13)
          | (have h := K14; clear h; go_at_call 18; refine (Copy_any q _ (HAT.out.below B.out B.out.size) HL15.out).mono ?_; rintro e w3 ⟨A3, c3, rfl, hat, hb⟩; replace B := Lib.hid (B.out.trans (hb.mono B.out.size)); replace L := Lib.hid (L.out.call hb); have T3 := Lib.hid hat; clear hat; clear hb; have K15 := Lib.hid True.intro; clear K14)
          | (have h := K15; clear h; go_at_call 33; refine (HTA.out A3 c3 _ T3.out).mono ?_; rintro e w4 ⟨out, Ao, co, rfl, hol, hom, hb⟩; replace B := Lib.hid (B.out.trans (hb.mono B.out.size)); replace L := Lib.hid (L.out.call hb); replace T3 := Lib.hid (T3.out.below hb hb.size); have OM := Lib.hid hom; have HOL := Lib.hid hol; clear hom hol; clear hb; have K18 := Lib.hid True.intro; clear K15)
          | (have h := K18; clear h; refine wpList_load_row (o := ⟨some 18, _, _, _, _, _⟩) ?_ 26 (.tmp 1) ?_ w.heap.size ?_ 26 q.cells.toArray (0, 0) _ L.out Try.underlying26 rfl size_rp ?_; rfl; rfl; rfl; have K19 := Lib.hid True.intro; clear K18)
          | (have h := K19; clear h; go_at_call 20; refine (HFA.out _ (HAT.out.below B.out B.out.size)).mono ?_; rintro e w5 ⟨rfl, hb⟩; replace B := Lib.hid (B.out.trans (hb.mono B.out.size)); replace L := Lib.hid (L.out.call hb); replace T3 := Lib.hid (T3.out.below hb hb.size); replace OM := Lib.hid (OM.out.call hb); clear hb; have K33 := Lib.hid True.intro; clear K19)
          | (have h := K33; clear h; refine wpList_load_row (o := ⟨some 33, _, _, _, _, _⟩) ?_ 26 (.tmp 1) ?_ w.heap.size ?_ 26 q.cells.toArray (0, 0) _ L.out Try.underlying26 rfl size_rp ?_; rfl; rfl; rfl; have K34 := Lib.hid True.intro; clear K33)
          | (have h := K34; clear h; go_at_call 21; refine (Values_any q _ (HAT.out.below B.out B.out.size) HOK.out).mono ?_; rintro e w6 ⟨gv, row, rfl, _, hvl, hb⟩; replace B := Lib.hid (B.out.trans (hb.mono B.out.size)); replace L := Lib.hid (L.out.call hb); replace T3 := Lib.hid (T3.out.below hb hb.size); replace OM := Lib.hid (OM.out.call hb); have VL := Lib.hid hvl; clear hvl; clear hb; have KX := Lib.hid True.intro; clear K34))
      have hol : out.length = q.ds.l.length + 1 := by
        have := congrArg List.length HOL.out
        simp only [List.length_map] at this
        rw [this]
        show (List.map q.d.rowT (List.range (q.ds.l.length + 1))).length = _
        simp
      obtain ⟨N, hN⟩ : ∃ N, N = q.ds.l.length + 1 := ⟨_, rfl⟩
      have hvN : q.d.ds.length + 1 = N := by rw [hN]; rfl
      have HN := Lib.hid hN
      rw [← hN] at hol
      rw [hvN]
      have hNz : (N : Int) ≤ 16 := by have := HL15.out; omega
      have HOLN := Lib.hid hol
      clear hN hvN
      go_upto_region 10 with (fail)
      rw [hol]
      clear hol
      have BW0 := Lib.hid B.out
      go_wp2

      go_loopw [2, 7] (fun _ s7 wr => ∃ (k : Nat), k ≤ N ∧ s7 = .int .i64 k ∧ Aside (Below w6.heap.size w6 wr)) (fun _ i _ => N - (intOf i).toNat)
      case atStart => exact ⟨0, by omega, rfl, Below.refl _ _⟩
      case round =>
        obtain ⟨k, hkN, rfl, HH⟩ := hrel
        have HB := Lib.hid HH.out
        clear HH
        have hk0 : (0 : Int) ≤ (k : Int) := by omega
        by_cases hlt : k < N
        · have hltz : (k : Int) < (N : Int) := by omega
          obtain ⟨s, hs⟩ : ∃ s, out[k]? = some s := ⟨out[k]'(by rw [HOLN.out]; exact hlt), by simp⟩
          have hkd : k ≤ q.d.ds.length := by have := HN.out; show k ≤ q.ds.l.length; omega
          have hsl : s.l = (row k).l := by
            rw [(VL.out.r k hkd).1]
            have h1 : (out.map Sv.l)[k]? = some s.l := by rw [List.getElem?_map, hs]; rfl
            rw [HOL.out] at h1
            unfold PoD.tableD at h1
            rw [List.getElem?_map, List.getElem?_range (by omega)] at h1
            exact (Option.some.inj h1).symm
          obtain ⟨bo, oo, hAo, hbo, hco, hso⟩ := OM.out.cell hs
          have hcv := VL.out.cell hkd
          have hsv := VL.out.sl hkd
          have hgv : gv < w6.heap.size := by obtain ⟨cs, h1, _⟩ := VL.out.c; exact h1.in_
          have hlen : (row k).l.length ≤ 1000000 := by
            rw [VL.out.len hkd]
            have h1 := HOK.out.l2
            have h2 := HOK.out.l0
            unfold PoD.levels
            omega
          rw [← hsl] at hcv hsv hlen
          have HIN := Lib.hid (fun W (hb : Below wr.heap.size wr W) => (show Calls Try.prog 32 #[.slice s.A s.l.length s.c, .slice (row k).A s.l.length (row k).c] W fun e w' => e = .returned (.bool true) ∧ Below W.heap.size W w' from
            ints_yes s.A (row k).A s.c (row k).c s.l W (((hso.below HB.out).more HB.out.size |>.below hb).more hb.size) (((hsv.below HB.out).more HB.out.size |>.below hb).more hb.size) hlen))
          subst hAo
          have r53 := cell_regrown ((HB.out.cell (p := ⟨bo, oo + k, none⟩) hbo).trans hco)
          have r57 := cell_regrown ((HB.out.cell (p := ⟨gv, k, none⟩) hgv).trans hcv)
          clear hs hsl hso hcv hsv hgv hlen hco hbo
          go_upto_region 13 with (fail)
          refine wp_region_quiet_below (by kernel_rfl) (by kernel_rfl) ?_; (repeat (first | go_big_quiet_step ((first | (go_at_call 32; exact Calls.regrown_of (HIN.out _ (below_regrown _ _ _))))) | quiet_step ((first | (go_at_call 32; exact Calls.regrown_of (HIN.out _ (below_regrown _ _ _))))))); refine wpQuiet_nil ?_; intro wq hwq; have hbq : Below _ _ wq := (by obtain ⟨p, rfl⟩ := hwq; exact below_regrown _ _ _); clear hwq
          clear r53 r57
          go_wp2
          go_roundw
          case rel => exact ⟨k + 1, by omega, by go_num, HB.out.trans (hbq.mono HB.out.size)⟩
          case measure => simp [intOf]; omega
        · obtain rfl : k = N := by omega
          go_wp2_with (go_at_call 16; refine (wakes_any _).mono ?_; rintro e w99 ⟨rfl, hb9⟩)
          go_ret
          exact ⟨rfl, BW0.out.trans ((HB.out.trans (hb9.mono HB.out.size)).mono BW0.out.size)⟩
    · obtain ⟨ff, hff⟩ : ∃ ff, ff = q.d.fault := ⟨_, rfl⟩
      have HFA := Lib.hid (fun W (hq : q.At W W.heap.size) => (show Calls Try.prog 20 #[.agg q.cells.toArray] W fun e w' => e = .returned (.int .i64 ff) ∧ Below W.heap.size W w' by
        have := lawFault_any q W hq
        rw [← hff] at this
        exact this))
      have HTA := Lib.hid (fun A c W (hat : (q.withA A c).At W W.heap.size) => (show Calls Try.prog 33 #[.agg (q.withA A c).cells.toArray] W (TabE ([], ff) W) by
        have := Table_any (q.withA A c) W hat
        rw [show (q.withA A c).d.tabR = ([], ff) by unfold PoD.tabR; rw [show (q.withA A c).d.fault = q.d.fault from rfl, if_pos hf0, ← hff]] at this
        exact this))
      rw [← hff] at hf0
      have hne : ((ff : Int) == 0) = false := by simpa using hf0
      have hne2 : ((ff : Int) != 0) = true := by simpa using hf0
      have hee : ((ff : Int) == ff) = true := by simp
      clear hff hf0
      go_enter Try.func6, Try.ntmps6
      go_upto_region 1 with (fail)
      change Code.wp _ _ _ _ (w.alloc (.cells q.cells.toArray 26))
      generalize w.alloc (.cells q.cells.toArray 26) = w1 at *
      go_upto_region 5 with (first
          | (have h := K8; clear h; refine wpList_load_row (o := ⟨some 8, _, _, _, _, _⟩) ?_ 26 (.tmp 1) ?_ w.heap.size ?_ 26 q.cells.toArray (0, 0) _ L.out Try.underlying26 rfl size_rp ?_; rfl; rfl; rfl; have K9 := Lib.hid True.intro; clear K8)
          | (have h := K9; clear h; go_at_call 15; refine (HTH.out _).mono ?_; rintro e w2 ⟨rfl, hb⟩; replace B := Lib.hid (B.out.trans (hb.mono B.out.size)); replace L := Lib.hid (L.out.call hb); clear hb; have K13 := Lib.hid True.intro; clear K9)
          | (have h := K13; clear h; refine wpList_load_row (o := ⟨some 13, _, _, _, _, _⟩) ?_ 26 (.tmp 1) ?_ w.heap.size ?_ 26 q.cells.toArray (0, 0) _ L.out Try.underlying26 rfl size_rp ?_; rfl; rfl; rfl; have K14 := Lib.hid True.intro; clear K13)
          | (have h := K14; clear h; go_at_call 18; refine (Copy_any q _ (HAT.out.below B.out B.out.size) HL15.out).mono ?_; rintro e w3 ⟨A3, c3, rfl, hat, hb⟩; replace B := Lib.hid (B.out.trans (hb.mono B.out.size)); replace L := Lib.hid (L.out.call hb); have T3 := Lib.hid hat; clear hat; clear hb; have K15 := Lib.hid True.intro; clear K14)
          | (have h := K15; clear h; go_at_call 33; refine (HTA.out A3 c3 _ T3.out).mono ?_; rintro e w4 ⟨out, Ao, co, rfl, hol, _, hb⟩; replace B := Lib.hid (B.out.trans (hb.mono B.out.size)); replace L := Lib.hid (L.out.call hb); replace T3 := Lib.hid (T3.out.below hb hb.size); have HOL := Lib.hid hol; clear hol; clear hb; have K18 := Lib.hid True.intro; clear K15)
          | (have h := K18; clear h; refine wpList_load_row (o := ⟨some 18, _, _, _, _, _⟩) ?_ 26 (.tmp 1) ?_ w.heap.size ?_ 26 q.cells.toArray (0, 0) _ L.out Try.underlying26 rfl size_rp ?_; rfl; rfl; rfl; have K19 := Lib.hid True.intro; clear K18)
          | (have h := K19; clear h; go_at_call 20; refine (HFA.out _ (HAT.out.below B.out B.out.size)).mono ?_; rintro e w5 ⟨rfl, hb⟩; replace B := Lib.hid (B.out.trans (hb.mono B.out.size)); replace L := Lib.hid (L.out.call hb); replace T3 := Lib.hid (T3.out.below hb hb.size); clear hb; have KX := Lib.hid True.intro; clear K19))
      obtain rfl : out = [] := by
        have := congrArg List.length HOL.out
        simp only [List.length_map, List.length_nil] at this
        exact List.eq_nil_of_length_eq_zero this
      go_wp2_with (go_at_call 16; refine (wakes_any _).mono ?_; rintro e w99 ⟨rfl, hb9⟩)
      go_ret
      exact ⟨rfl, B.out.trans (hb9.mono B.out.size)⟩
  · rw [decide_eq_false hthin] at HTH
    clear hthin HO
    go_enter Try.func6, Try.ntmps6
    go_upto_region 1 with (fail)
    change Code.wp _ _ _ _ (w.alloc (.cells q.cells.toArray 26))
    generalize w.alloc (.cells q.cells.toArray 26) = w1 at *
    go_wp2_with (first
        | (have h := K8; clear h; refine wpList_load_row (o := ⟨some 8, _, _, _, _, _⟩) ?_ 26 (.tmp 1) ?_ w.heap.size ?_ 26 q.cells.toArray (0, 0) _ L.out Try.underlying26 rfl size_rp ?_; rfl; rfl; rfl; have K9 := Lib.hid True.intro; clear K8)
        | (have h := K9; clear h; go_at_call 15; refine (HTH.out _).mono ?_; rintro e w2 ⟨rfl, hb⟩; replace B := Lib.hid (B.out.trans (hb.mono B.out.size)); replace L := Lib.hid (L.out.call hb); clear hb; have KW := Lib.hid True.intro; clear K9)
        | (have h := KW; clear h; go_at_call 16; refine (wakes_any _).mono ?_; rintro e w3 ⟨rfl, hb⟩; replace B := Lib.hid (B.out.trans (hb.mono B.out.size)); replace L := Lib.hid (L.out.call hb); clear hb; have KWW := Lib.hid True.intro; clear KW))
    go_ret
    exact ⟨rfl, B.out⟩
end Go.Proofs.Yteognijlgalahaa
