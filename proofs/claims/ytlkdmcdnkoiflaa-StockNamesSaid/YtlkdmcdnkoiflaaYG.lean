/- StockNames: its walk. -/
import Derived.Test.YtlkdmcdnkoiflaaYF
import Derived.Test.YtlkdmcdnkoiflaaGF
namespace Go.Proofs.Ytlkdmcdnkoiflaa
open Go.RowKit Go.Lib

set_option maxRecDepth 100000 in
set_option maxHeartbeats 4000000 in
theorem StockNames_walk (w : World) : Calls Try.prog 8 #[] w fun e w' => e = .returned (.bool true) ∧ Below w.heap.size w w' := by
  go_enter Try.func8, Try.ntmps8
  go_upto_region 2 with (first
    | (go_at_call 48; refine (field_any _).mono ?_; rintro e w1 ⟨q1, rfl, hd1, hq1, hb1⟩; obtain ⟨f1, y1, _⟩ := valid_field hd1; have hC := Count_ok q1 2 w1 hq1 f1 y1; rw [hd1] at hC; have HC := Lib.hid hC; clear hC f1 y1 hd1 hq1)
    | (go_at_call 28; refine HC.out.mono ?_; rintro e w2 ⟨A, c, bs, rfl, hs2, hl2, ha2, hb2⟩))
  rw [field_bnds] at hl2
  obtain ⟨x0, x1, rfl⟩ : ∃ x0 x1 : BdM, bs = [x0, x1] := by
    have h := congrArg List.length hl2
    simp only [List.length_map, List.length_cons, List.length_nil] at h
    match bs, h with
    | [x0, x1], _ => exact ⟨x0, x1, rfl⟩
  simp only [List.map_cons, List.map_nil, List.cons.injEq, and_true] at hl2
  have hx0 := hl2.1
  have hx := ha2 x0 (by simp)
  clear hl2 ha2
  obtain ⟨⟨Aa, la, ca⟩, ⟨Ab, lb, cb⟩, ⟨Ac, lc, cc⟩, ⟨Ad, ld, cd⟩⟩ := x0
  simp only [BdM.lists, Prod.mk.injEq] at hx0
  obtain ⟨rfl, rfl, rfl, rfl⟩ := hx0
  obtain ⟨b, off, rfl, hbb, hcell⟩ := hs2.at_ (i := 0) (x := ⟨⟨Aa, [(500, 840), (300, 480)], ca⟩, ⟨Ab, [(0, 0), (200, 200)], cb⟩, ⟨Ac, [(25, 84), (5, 28)], cc⟩, ⟨Ad, [(450, 798), (90, 266)], cd⟩⟩) rfl
  have d0 : w2.cell? ⟨b, off, none⟩ = some (.slice Aa 2 ca) := hcell 0 _ rfl
  have d1 : w2.cell? ⟨b, off + 1, none⟩ = some (.slice Ab 2 cb) := hcell 1 _ rfl
  have d2 : w2.cell? ⟨b, off + 2, none⟩ = some (.slice Ac 2 cc) := hcell 2 _ rfl
  have d3 : w2.cell? ⟨b, off + 3, none⟩ = some (.slice Ad 2 cd) := hcell 3 _ rfl
  have D0 := Lib.hid d0
  have D1 := Lib.hid d1
  have D2 := Lib.hid d2
  have D3 := Lib.hid d3
  have HX := Lib.hid hx
  have BW := Lib.hid (hb1.trans (hb2.mono hb1.size))
  clear d0 d1 d2 d3 hx hcell hs2 HC hb1 hb2 x1
  have G1 := Lib.hid (Below.refl w2.heap.size w2)
  -- three questions about reach
  go_upto_region 3 with (first
    | (go_at_call 48; refine (field_any _).mono ?_; rintro e w3 ⟨q3, rfl, hd3, hq3, hb3⟩)
    | (go_at_call 31; refine (f_reach hd3 _ hq3 300 1 1 (by decide) (by decide) (by decide) (by decide)).mono ?_; rintro e w4 ⟨rfl, hb4⟩))
  have G4 := Lib.hid (G1.out.trans ((hb3.trans (hb4.mono hb3.size)).mono G1.out.size))
  clear hb3 hb4 hd3 hq3 G1
  go_upto_region 4 with (first
    | (go_at_call 48; refine (field_any _).mono ?_; rintro e w5 ⟨q5, rfl, hd5, hq5, hb5⟩)
    | (go_at_call 31; refine (f_reach hd5 _ hq5 400 1 (-1) (by decide) (by decide) (by decide) (by decide)).mono ?_; rintro e w6 ⟨rfl, hb6⟩))
  have G6 := Lib.hid (G4.out.trans ((hb5.trans (hb6.mono hb5.size)).mono G4.out.size))
  clear hb5 hb6 hd5 hq5 G4
  go_upto_region 5 with (first
    | (go_at_call 48; refine (field_any _).mono ?_; rintro e w7 ⟨q7, rfl, hd7, hq7, hb7⟩)
    | (go_at_call 31; refine (f_reach hd7 _ hq7 401 (-1) (-1) (by decide) (by decide) (by decide) (by decide)).mono ?_; rintro e w8 ⟨rfl, hb8⟩))
  have G8 := Lib.hid (G6.out.trans ((hb7.trans (hb8.mono hb7.size)).mono G6.out.size))
  clear hb7 hb8 hd7 hq7 G6
  -- the cheapest of the offers
  go_upto_region 6 with (first
    | (go_at_call 48; refine (field_any _).mono ?_; rintro e w9 ⟨q9, rfl, hd9, hq9, hb9⟩)
    | (go_at_call 49; refine (offers_any _).mono ?_; rintro e w10 ⟨AO, cO, rfl, hsO, hb10⟩)
    | (go_at_call 41; refine (f_cheap hd9 _ (hq9.below hb10 hb10.size) AO cO 400 (by decide) (by decide) hsO).mono ?_; rintro e w11 ⟨v11, rfl, hz11, hb11⟩))
  rw [f_cheap400] at hz11 ⊢
  obtain ⟨AB, cB, rfl, _, hB⟩ := hz11
  have hBs := hB.sl
  have hc10 := hb9.trans ((hb10.trans (hb11.mono hb10.size)).mono hb9.size)
  have G11 := Lib.hid (G8.out.trans (hc10.mono G8.out.size))
  have SB := Lib.hid hBs
  have hpr : prZ offersL (some [0, 1]) = 30 := by kernel_rfl
  have her : errZ (some [0, 1]) = 0 := rfl
  rw [hpr, her]
  clear hb9 hb10 hb11 hd9 hq9 hsO hB hBs hc10 hpr her G8
  go_upto_region 7 with (first
    | (go_at_call 48; refine (field_any _).mono ?_; rintro e w12 ⟨q12, rfl, hd12, hq12, hba⟩)
    | (go_at_call 49; refine (offers_any _).mono ?_; rintro e w13 ⟨AO, cO, rfl, hsO, hbo⟩; have hal := (Below.refl w13.heap.size w13).alloc (Nat.le_refl _) (.cells #[.int .i64 1, .int .i64 0] 3))
    | (go_at_call 38; refine (f_enough hd12 _ ((hq12.below hbo hbo.size).below hal hal.size) AO _ cO 2 offersL [1, 0] 400 _ (f_off 400 (by decide) (by decide)) f_en10 ((hsO.below hal).more hal.size) (sl_of_lies (t := 3) (enc := encI) (l := [1, 0]) (fun _ => rfl) (Lies.fresh' rfl))).mono ?_; rintro e w14 ⟨rfl, hbe⟩))
  have hcc := hba.trans ((hbo.trans ((hal.trans (hbe.mono hal.size)).mono hbo.size)).mono hba.size)
  have G14 := Lib.hid (G11.out.trans (hcc.mono G11.out.size))
  have SB14 := Lib.hid ((SB.out.below hcc).more hcc.size)
  clear hba hbo hal hbe hcc hd12 hq12 hsO G11 SB
  go_upto_region 8 with (first
    | (go_at_call 48; refine (field_any _).mono ?_; rintro e w15 ⟨q15, rfl, hd15, hq15, hba⟩)
    | (go_at_call 49; refine (offers_any _).mono ?_; rintro e w16 ⟨AO, cO, rfl, hsO, hbo⟩; have hal := (Below.refl w16.heap.size w16).alloc (Nat.le_refl _) (.cells #[.int .i64 0, .int .i64 0] 3))
    | (go_at_call 38; refine (f_enough hd15 _ ((hq15.below hbo hbo.size).below hal hal.size) AO _ cO 2 offersL [0, 0] 400 _ (f_off 400 (by decide) (by decide)) f_en00 ((hsO.below hal).more hal.size) (sl_of_lies (t := 3) (enc := encI) (l := [0, 0]) (fun _ => rfl) (Lies.fresh' rfl))).mono ?_; rintro e w17 ⟨rfl, hbe⟩))
  have hcc := hba.trans ((hbo.trans ((hal.trans (hbe.mono hal.size)).mono hbo.size)).mono hba.size)
  have G17 := Lib.hid (G14.out.trans (hcc.mono G14.out.size))
  have SB17 := Lib.hid ((SB14.out.below hcc).more hcc.size)
  clear hba hbo hal hbe hcc hd15 hq15 hsO G14 SB14
  have d0 := (G17.out.cell (p := ⟨b, off, none⟩) hbb).trans D0.out
  have d1 := (G17.out.cell (p := ⟨b, off + 1, none⟩) hbb).trans D1.out
  have d2 := (G17.out.cell (p := ⟨b, off + 2, none⟩) hbb).trans D2.out
  have d3 := (G17.out.cell (p := ⟨b, off + 3, none⟩) hbb).trans D3.out
  have HX17 := Lib.hid (HX.out.below G17.out G17.out.size)
  have BW17 := Lib.hid (BW.out.trans (G17.out.mono BW.out.size))
  clear D0 D1 D2 D3 HX G17 BW hbb
  go_upto_region 10 with (first
    | (go_at_call 50; (first
        | (with_reducible refine (ranged_any Aa ca 500 840 300 480 _ HX17.out.a).mono ?_)
        | (with_reducible refine (ranged_any Ab cb 0 0 200 200 _ HX17.out.b).mono ?_)
        | (with_reducible refine (ranged_any Ac cc 25 84 5 28 _ HX17.out.c).mono ?_)
        | (with_reducible refine (ranged_any Ad cd 450 798 90 266 _ HX17.out.d).mono ?_)); rintro e w' ⟨rfl, rfl⟩)
    | (go_at_call 46; have hal := (Below.refl w17.heap.size w17).alloc (Nat.le_refl _) (.cells #[.int .i64 0, .int .i64 1] 3); refine (ints_yes AB _ cB 2 [0, 1] _ ((SB17.out.below hal).more hal.size) (sl_of_lies (t := 3) (enc := encI) (l := [0, 1]) (fun _ => rfl) (Lies.fresh' rfl)) (by decide)).mono ?_; rintro e w18 ⟨rfl, hb18⟩))
  have hcc := hal.trans (hb18.mono hal.size)
  have K18 := Lib.hid (BW17.out.trans (hcc.mono BW17.out.size))
  clear hal hb18 hcc SB17 HX17 BW17 d0 d1 d2 d3
  go_upto_region 11 with (first
    | (go_at_call 48; refine (field_any _).mono ?_; rintro e w19 ⟨q19, rfl, hd19, hq19, hba⟩)
    | (go_at_call 22; refine (f_run hd19 _ hq19 ⟨⟨none, [], 0⟩, ⟨none, [], 0⟩, ⟨none, [], 0⟩⟩ (nilT_at _ _) rfl rfl rfl).mono ?_; rintro e w20 ⟨rfl, hbe⟩))
  have hcc := hba.trans (hbe.mono hba.size)
  have K20 := Lib.hid (K18.out.trans (hcc.mono K18.out.size))
  clear hba hbe hcc hd19 hq19 K18
  go_upto_region 12 with (first
    | (go_at_call 48; refine (field_any _).mono ?_; rintro e w21 ⟨q21, rfl, hd21, hq21, hba⟩)
    | (go_at_call 31; refine (f_reachno hd21 _ hq21 2 0 2 f_asked20 (by decide)).mono ?_; rintro e w22 ⟨rfl, hbe⟩))
  have hcc := hba.trans (hbe.mono hba.size)
  have K22 := Lib.hid (K20.out.trans (hcc.mono K20.out.size))
  clear hba hbe hcc hd21 hq21 K20
  go_upto_region 13 with (first
    | (go_at_call 48; refine (field_any _).mono ?_; rintro e w23 ⟨q23, rfl, hd23, hq23, hba⟩)
    | (go_at_call 31; refine (f_reachno hd23 _ hq23 0 (-1) 2 f_asked0m (by decide)).mono ?_; rintro e w24 ⟨rfl, hbe⟩))
  have hcc := hba.trans (hbe.mono hba.size)
  have K24 := Lib.hid (K22.out.trans (hcc.mono K22.out.size))
  clear hba hbe hcc hd23 hq23 K22
  go_upto_region 14 with (first
    | (go_at_call 48; refine (field_any _).mono ?_; rintro e w25 ⟨q25, rfl, hd25, hq25, hba⟩)
    | (go_at_call 34; refine (f_least9 hd25 _ hq25).mono ?_; rintro e w26 ⟨rfl, hbe⟩))
  have hcc := hba.trans (hbe.mono hba.size)
  have K26 := Lib.hid (K24.out.trans (hcc.mono K24.out.size))
  clear hba hbe hcc hd25 hq25 K24
  go_upto_region 15 with (first
    | (go_at_call 48; refine (field_any _).mono ?_; rintro e w27 ⟨q27, rfl, hd27, hq27, hba⟩)
    | (go_at_call 34; refine (f_leastno hd27 _ hq27).mono ?_; rintro e w28 ⟨rfl, hbe⟩))
  have hcc := hba.trans (hbe.mono hba.size)
  have K28 := Lib.hid (K26.out.trans (hcc.mono K26.out.size))
  clear hba hbe hcc hd27 hq27 K26
  go_cut [16] from 204 to 210 (fun s16 wx => s16 = .int .i64 3 ∧ Aside (Below w28.heap.size w28 wx))
  case first =>
    have hmk := make_crates5
    haveI hne : Nonempty (Cls (fun W => Below w28.heap.size w28 W)) := ⟨⟨w28, Below.refl _ _⟩⟩
    refine wp_region_wayw [] (.way 0 (.way 1 (.way 2 (.take 3 (.take 4 (.take 5 (.take 6 (.take 7 .fin))))) .fin) .fin) (.way 1 (.way 0 (.way 2 (.take 3 (.take 4 (.take 5 (.take 6 (.take 7 .fin))))) .fin) .fin) .fin)) (fun W => ∃ cc : Cls (fun W => Below w28.heap.size w28 W), W = cc.val) (by kernel_rfl) (by kernel_rfl) (Cls.here (Below.refl _ _).drew) ?_
    simp only [List.filterMap_nil]
    refine wpQuiet_nil ?_
    have D0 := Lib.hid (show Below w28.heap.size w28 w28.drew from (Below.refl _ _).drew)
    generalize w28.drew = d0 at *
    rw [wpWy_way]
    refine ⟨?_, ?_⟩
    · simp only [List.getElem?_toArray, List.getElem?_cons_zero]
      go_wp2_with (go_at_call 48; refine (field_any _).mono ?_; rintro e d1 ⟨q29, rfl, hd29, hq29, hb1⟩)
      have D1 := Lib.hid (D0.out.trans (hb1.mono D0.out.size))
      refine Ends.intro ⟨Cls.here D1.out, ?_⟩
      rw [wpWy_way]
      refine ⟨?_, by exact trivial⟩
      simp only [List.getElem?_toArray, List.getElem?_cons_succ, List.getElem?_cons_zero]
      have hal := (Below.refl d1.heap.size d1).alloc (Nat.le_refl _) (.cells c5 93)
      have HCN := Lib.hid (f_cheapno hd29 _ (hq29.below hal hal.size) (some ⟨d1.heap.size, 0, none⟩) 5 [zeroCr, zeroCr, zeroCr, zeroCr, zeroCr] 3 (by decide) f_off5 (by decide) (sl_of_lies (t := 93) (enc := encCr) (l := [zeroCr, zeroCr, zeroCr, zeroCr, zeroCr]) (fun _ => rfl) (Lies.fresh' rfl)))
      have D2 := Lib.hid (D1.out.trans (hal.mono D1.out.size))
      clear hal hb1 hd29 hq29
      go_wp2_with (fail)
      generalize d1.alloc (.cells c5 93) = d2 at *
      refine Ends.intro ⟨Cls.here D2.out, ?_⟩
      rw [wpWy_way]
      refine ⟨?_, by exact trivial⟩
      simp only [List.getElem?_toArray, List.getElem?_cons_succ, List.getElem?_cons_zero]
      go_wp2_with (go_at_call 41; refine HCN.out.mono ?_; rintro e dz ⟨rfl, hbz⟩)
      have DZ := Lib.hid (D2.out.trans (hbz.mono D2.out.size))
      clear hbz
      refine Ends.intro ⟨Cls.here DZ.out, ?_⟩
      rw [wpWy_take]
      simp only [List.getElem?_toArray, List.getElem?_cons_succ, List.getElem?_cons_zero]
      first | go_big_quiet_step (rfl) | quiet_step (rfl)
      refine wpQuiet_nil ?_
      rw [wpWy_take]
      simp only [List.getElem?_toArray, List.getElem?_cons_succ, List.getElem?_cons_zero]
      first | go_big_quiet_step (rfl) | quiet_step (rfl)
      refine wpQuiet_nil ?_
      rw [wpWy_take]
      simp only [List.getElem?_toArray, List.getElem?_cons_succ, List.getElem?_cons_zero]
      first | go_big_quiet_step (rfl) | quiet_step (rfl)
      refine wpQuiet_nil ?_
      rw [wpWy_take]
      simp only [List.getElem?_toArray, List.getElem?_cons_succ, List.getElem?_cons_zero]
      first | go_big_quiet_step (rfl) | quiet_step (rfl)
      refine wpQuiet_nil ?_
      rw [wpWy_take]
      simp only [List.getElem?_toArray, List.getElem?_cons_succ, List.getElem?_cons_zero]
      first | go_big_quiet_step (rfl) | quiet_step (rfl)
      refine wpQuiet_nil ?_
      rw [wpWy_fin]
      go_wp2
      go_meet
      case rel => exact ⟨rfl, DZ.out⟩
    · rw [wpWy_way]
      refine ⟨?_, by exact trivial⟩
      simp only [List.getElem?_toArray, List.getElem?_cons_succ, List.getElem?_cons_zero]
      have hal := (Below.refl d0.heap.size d0).alloc (Nat.le_refl _) (.cells c5 93)
      have SC := Lib.hid (show Sl (d0.alloc (.cells c5 93)) (d0.alloc (.cells c5 93)).heap.size 4 encCr (some ⟨d0.heap.size, 0, none⟩) [zeroCr, zeroCr, zeroCr, zeroCr, zeroCr] from sl_of_lies (t := 93) (enc := encCr) (fun _ => rfl) (Lies.fresh' rfl))
      have D1 := Lib.hid (D0.out.trans (hal.mono D0.out.size))
      clear hal
      go_wp2_with (fail)
      generalize d0.alloc (.cells c5 93) = d1 at *
      refine Ends.intro ⟨Cls.here D1.out, ?_⟩
      rw [wpWy_way]
      refine ⟨?_, by exact trivial⟩
      simp only [List.getElem?_toArray, List.getElem?_cons_zero]
      go_wp2_with (go_at_call 48; refine (field_any _).mono ?_; rintro e d2 ⟨q29, rfl, hd29, hq29, hb1⟩)
      have D2 := Lib.hid (D1.out.trans (hb1.mono D1.out.size))
      have HCN := Lib.hid (f_cheapno hd29 _ hq29 (some ⟨d0.heap.size, 0, none⟩) 5 [zeroCr, zeroCr, zeroCr, zeroCr, zeroCr] 3 (by decide) f_off5 (by decide) ((SC.out.below hb1).more hb1.size))
      clear hb1 hd29 hq29 SC
      refine Ends.intro ⟨Cls.here D2.out, ?_⟩
      rw [wpWy_way]
      refine ⟨?_, by exact trivial⟩
      simp only [List.getElem?_toArray, List.getElem?_cons_succ, List.getElem?_cons_zero]
      go_wp2_with (go_at_call 41; refine HCN.out.mono ?_; rintro e dz ⟨rfl, hbz⟩)
      have DZ := Lib.hid (D2.out.trans (hbz.mono D2.out.size))
      clear hbz
      refine Ends.intro ⟨Cls.here DZ.out, ?_⟩
      rw [wpWy_take]
      simp only [List.getElem?_toArray, List.getElem?_cons_succ, List.getElem?_cons_zero]
      first | go_big_quiet_step (rfl) | quiet_step (rfl)
      refine wpQuiet_nil ?_
      rw [wpWy_take]
      simp only [List.getElem?_toArray, List.getElem?_cons_succ, List.getElem?_cons_zero]
      first | go_big_quiet_step (rfl) | quiet_step (rfl)
      refine wpQuiet_nil ?_
      rw [wpWy_take]
      simp only [List.getElem?_toArray, List.getElem?_cons_succ, List.getElem?_cons_zero]
      first | go_big_quiet_step (rfl) | quiet_step (rfl)
      refine wpQuiet_nil ?_
      rw [wpWy_take]
      simp only [List.getElem?_toArray, List.getElem?_cons_succ, List.getElem?_cons_zero]
      first | go_big_quiet_step (rfl) | quiet_step (rfl)
      refine wpQuiet_nil ?_
      rw [wpWy_take]
      simp only [List.getElem?_toArray, List.getElem?_cons_succ, List.getElem?_cons_zero]
      first | go_big_quiet_step (rfl) | quiet_step (rfl)
      refine wpQuiet_nil ?_
      rw [wpWy_fin]
      go_wp2
      go_meet
      case rel => exact ⟨rfl, DZ.out⟩
  case rest =>
    obtain ⟨rfl, hcd⟩ := hcut
    have K30 := Lib.hid (K28.out.trans (hcd.out.mono K28.out.size))
    clear hcd K28
    go_upto_region 17 with (first
      | (go_at_call 48; refine (field_any _).mono ?_; rintro e w31 ⟨q31, rfl, hd31, hq31, hba⟩; have hal := (Below.refl w31.heap.size w31).alloc (Nat.le_refl _) (.cells #[.int .i64 0, .int .i64 0, .int .i64 0, .int .i64 0] 93))
      | (go_at_call 41; refine (f_cheapno hd31 _ (hq31.below hal hal.size) _ 1 [zeroCr] 1 (by decide) f_off1 (by decide) (sl_of_lies (t := 93) (enc := encCr) (l := [zeroCr]) (fun _ => rfl) (Lies.fresh' rfl))).mono ?_; rintro e w32 ⟨rfl, hbe⟩))
    have hcc := hba.trans ((hal.trans (hbe.mono hal.size)).mono hba.size)
    have K32 := Lib.hid (K30.out.trans (hcc.mono K30.out.size))
    clear hba hal hbe hcc hd31 hq31 K30
    go_upto_region 18 with (first
      | (go_at_call 48; refine (field_any _).mono ?_; rintro e w33 ⟨q33, rfl, hd33, hq33, hba⟩)
      | (go_at_call 49; refine (offers_any _).mono ?_; rintro e w34 ⟨AO, cO, rfl, hsO, hbo⟩; have hal := (Below.refl w34.heap.size w34).alloc (Nat.le_refl _) (.cells #[.int .i64 4, .int .i64 0] 3))
      | (go_at_call 38; refine (f_enough hd33 _ ((hq33.below hbo hbo.size).below hal hal.size) AO _ cO 2 offersL [4, 0] 400 _ (f_off 400 (by decide) (by decide)) f_en40 ((hsO.below hal).more hal.size) (sl_of_lies (t := 3) (enc := encI) (l := [4, 0]) (fun _ => rfl) (Lies.fresh' rfl))).mono ?_; rintro e w35 ⟨rfl, hbe⟩))
    have hcc := hba.trans ((hbo.trans ((hal.trans (hbe.mono hal.size)).mono hbo.size)).mono hba.size)
    have K35 := Lib.hid (K32.out.trans (hcc.mono K32.out.size))
    clear hba hbo hal hbe hcc hd33 hq33 hsO K32
    go_upto_region 19 with (first
      | (go_at_call 48; refine (field_any _).mono ?_; rintro e w36 ⟨q36, rfl, hd36, hq36, hba⟩)
      | (go_at_call 49; refine (offers_any _).mono ?_; rintro e w37 ⟨AO, cO, rfl, hsO, hbo⟩)
      | (go_at_call 41; refine (f_cheap hd36 _ (hq36.below hbo hbo.size) AO cO 401 (by decide) (by decide) hsO).mono ?_; rintro e w38 ⟨v38, rfl, hz38, hbe⟩))
    rw [f_cheap401] at hz38 ⊢
    obtain rfl : v38 = .slice none 0 0 := hz38
    simp only [errZ_none, prZ_none]
    have hcc := hba.trans ((hbo.trans (hbe.mono hbo.size)).mono hba.size)
    have K38 := Lib.hid (K35.out.trans (hcc.mono K35.out.size))
    clear hba hbo hbe hcc hd36 hq36 hsO K35
    go_upto_region 20 with (first
      | (go_at_call 48; refine (field_any _).mono ?_; rintro e w39 ⟨q39, rfl, hd39, hq39, hba⟩; have hal := (Below.refl w39.heap.size w39).alloc (Nat.le_refl _) (.cells #[.int .i64 0, .int .i64 3801, .int .i64 0, .int .i64 1] 93); have hal2 := (Below.refl (w39.alloc (.cells #[.int .i64 0, .int .i64 3801, .int .i64 0, .int .i64 1] 93)).heap.size (w39.alloc (.cells #[.int .i64 0, .int .i64 3801, .int .i64 0, .int .i64 1] 93))).alloc (Nat.le_refl _) (.cells #[.int .i64 1] 3); have hsc : Sl (w39.alloc (.cells #[.int .i64 0, .int .i64 3801, .int .i64 0, .int .i64 1] 93)) (w39.alloc (.cells #[.int .i64 0, .int .i64 3801, .int .i64 0, .int .i64 1] 93)).heap.size 4 encCr (some ⟨w39.heap.size, 0, none⟩) fullL := sl_of_lies (t := 93) (enc := encCr) (fun _ => rfl) (Lies.fresh' rfl); have hsi : Sl ((w39.alloc (.cells #[.int .i64 0, .int .i64 3801, .int .i64 0, .int .i64 1] 93)).alloc (.cells #[.int .i64 1] 3)) ((w39.alloc (.cells #[.int .i64 0, .int .i64 3801, .int .i64 0, .int .i64 1] 93)).alloc (.cells #[.int .i64 1] 3)).heap.size 1 encI (some ⟨w39.heap.size + 1, 0, none⟩) [1] := sl_of_lies (t := 3) (enc := encI) (fun _ => rfl) (Lies.fresh' (by simp)))
      | (go_at_call 38; refine (f_enough hd39 _ ((hq39.below hal hal.size).below hal2 hal2.size) (some ⟨w39.heap.size, 0, none⟩) (some ⟨w39.heap.size + 1, 0, none⟩) 1 1 fullL [1] 0 _ f_offull f_enfull ((hsc.below hal2).more hal2.size) hsi).mono ?_; rintro e w40 ⟨rfl, hbe⟩))
    have hcc := hba.trans ((hal.trans ((hal2.trans (hbe.mono hal2.size)).mono hal.size)).mono hba.size)
    have K40 := Lib.hid (K38.out.trans (hcc.mono K38.out.size))
    clear hba hal hal2 hbe hcc hd39 hq39 hsc hsi K38
    -- too many sizes
    go_upto_region 21 with (first
      | (go_at_call 48; refine (field_any _).mono ?_; rintro e w41 ⟨q41, rfl, hd41, hq41, hba⟩)
      | (refine wpList_store_cells (o := ⟨none, .store 41 (.tmp 26) _, _, _, _, _⟩) ?_ 41 (.tmp 26) (.tmp 241) ?_ w41.heap.size 0 ?_ 41 zplan q41.cells ?_ (Lies.fresh w41 _ _) (Nat.le_refl 8) size41 (by simp [PlM.cells, Value.oneCell']) ?_; rfl; rfl; rfl; rfl; intro w42 HS42 HO42))
    have x42 : Lies w42 w41.heap.size 41 q41.cells.toArray := by have := HS42.out; rwa [splice_whole (by simp [PlM.cells])] at this
    have hb42 : Below w41.heap.size w41 w42 := HO42.out.below ((Below.refl _ _).alloc (Nat.le_refl _) _) (Nat.le_refl _)
    have K41 := Lib.hid (K40.out.trans (hba.mono K40.out.size))
    have Q41 := Lib.hid hq41
    have B42 := Lib.hid hb42
    have X42 := Lib.hid x42
    clear hba hd41 hq41 x42 hb42 HS42 HO42 K40
    have hmk := make_ranges6 w42
    have c0 : (w42.alloc (.cells c6 39)).cell? ⟨w41.heap.size, 0, none⟩ = some (.slice q41.s.A q41.s.l.length q41.s.c) := (X42.out.alloc _).at_ 0
    have f0 : (w42.alloc (.cells c6 39)).frozen? ⟨w41.heap.size, 0, none⟩ = false := (X42.out.alloc _).free 0
    go_upto_region 22 with (fail)
    clear hmk c0 f0
    have hm42 : w41.heap.size < w42.heap.size := X42.out.in_
    have hO := Only.set w41.heap.size 0 (w42.alloc (.cells c6 39)) (.slice (some ⟨w42.heap.size, 0, none⟩) 6 6)
    have hx := (X42.out.alloc (.cells c6 39)).set 0 (.slice (some ⟨w42.heap.size, 0, none⟩) 6 6)
    have hg6 : Lies ((w42.alloc (.cells c6 39)).setCell ⟨w41.heap.size, 0, none⟩ (.slice (some ⟨w42.heap.size, 0, none⟩) 6 6)) w42.heap.size 39 c6 := hO.lies (Lies.fresh w42 _ _) (by omega)
    have hb43 : Below w41.heap.size w41 ((w42.alloc (.cells c6 39)).setCell ⟨w41.heap.size, 0, none⟩ (.slice (some ⟨w42.heap.size, 0, none⟩) 6 6)) := hO.below (B42.out.alloc B42.out.size _) (Nat.le_refl _)
    generalize w42.heap.size = g6 at *
    generalize hmm : w41.heap.size = m at *
    generalize (w42.alloc (.cells c6 39)).setCell ⟨m, 0, none⟩ (.slice (some ⟨g6, 0, none⟩) 6 6) = w43 at *
    have X43 := Lib.hid (show Lies w43 m 41 (q41.onS (some ⟨g6, 0, none⟩) 6 sixR).cells.toArray from hx)
    have G43 := Lib.hid hg6
    have B43 := Lib.hid hb43
    have HMM := Lib.hid hmm
    clear hm42 hO hx hg6 hb43 X42 B42 hmm
    -- a start that has no room
    go_upto_region 23 with (first
      | (go_at_call 48; refine (field_own _).mono ?_; rintro e w44 ⟨rfl, hfd, hba⟩)
      | (refine wpList_store_cells (o := ⟨none, .store 41 (.tmp 27) _, _, _, _, _⟩) ?_ 41 (.tmp 27) (.tmp 244) ?_ w44.heap.size 0 ?_ 41 zplan (fieldP w43.heap.size 1200).cells ?_ (Lies.fresh w44 _ _) (Nat.le_refl 8) size41 (by simp [PlM.cells, Value.oneCell']) ?_; rfl; rfl; rfl; rfl; intro w45 HS45 HO45))
    have hx : Lies w45 w44.heap.size 41 (fieldP w43.heap.size 1200).cells.toArray := by have := HS45.out; rwa [splice_whole (by simp [PlM.cells])] at this
    have hb45 : Below w44.heap.size w44 w45 := HO45.out.below ((Below.refl _ _).alloc (Nat.le_refl _) _) (Nat.le_refl _)
    have hf45 := hfd.call hb45
    have hgo : w43.heap.size + 7 < w44.heap.size := hfd.k.in_
    have hc45 := hba.trans (hb45.mono hba.size)
    have X45 := Lib.hid (X43.out.call hc45)
    have G45 := Lib.hid (G43.out.call hc45)
    have hlt6 := G43.out.in_
    have hltm := X43.out.in_
    have B45 := Lib.hid (B43.out.trans (hc45.mono (by rw [← HMM.out]; exact Nat.le_of_lt (by rw [HMM.out]; exact hltm))))
    have HFD := Lib.hid hf45
    have HGO := Lib.hid hgo
    have HX45 := Lib.hid hx
    have HL6 := Lib.hid hlt6
    have HLM := Lib.hid hltm
    clear hba hfd hx hb45 hf45 hgo hc45 HS45 HO45 X43 G43 B43 hlt6 hltm
    generalize w43.heap.size = gf at *
    generalize w44.heap.size = o at *
    have c0 : w45.cell? ⟨o, 0, none⟩ = some (.slice (some ⟨gf + 1, 0, none⟩) 2 2) := HX45.out.at_ 0
    have c1 : w45.cell? ⟨gf + 1, 1, none⟩ = some (.int .i64 1200) := HFD.out.s.at_ 1
    have f1 : w45.frozen? ⟨gf + 1, 1, none⟩ = false := HFD.out.s.free 1
    go_upto_region 24 with (fail)
    clear c0 c1 f1
    have hO := Only.set (gf + 1) 1 w45 (.int .i64 5001)
    have hfd := HFD.out.set 5001
    have hxo := hO.lies HX45.out (by have := HGO.out; omega)
    have hxm := hO.lies X45.out (by have := HLM.out; omega)
    have hx6 := hO.lies G45.out (by have := HL6.out; omega)
    have hb46 := hO.below B45.out (by have := HLM.out; omega)
    generalize w45.setCell ⟨gf + 1, 1, none⟩ (.int .i64 5001) = w46 at *
    have hat := Q41.out.below hb46 (show m ≤ w46.heap.size by rw [← HMM.out]; exact hb46.size)
    rw [← HMM.out] at hb46
    have KW := Lib.hid (K41.out.trans (hb46.mono K41.out.size))
    have HMY := Lib.hid (check_many hat hx6)
    have HOD := Lib.hid hfd
    have HXO := Lib.hid hxo
    have HXM := Lib.hid hxm
    clear hO hfd hxo hxm hx6 hb46 hat HFD HX45 X45 G45 B45 HL6 HLM HGO Q41 K41 HMM
    go_wp2_with (first
      | (refine wpList_load_rowC (o := ⟨some 292, _, _, _, _, _⟩) ?_ 41 (.tmp 26) ?_ m ?_ 41 (q41.onS (some ⟨g6, 0, none⟩) 6 sixR).cells.toArray (0, 0) _ HXM.out Try.underlying41 rfl size41 ?_; kernel_rfl; rfl; rfl)
      | (refine wpList_load_rowC (o := ⟨some 297, _, _, _, _, _⟩) ?_ 41 (.tmp 27) ?_ o ?_ 41 (fieldP gf 5001).cells.toArray (0, 0) _ HXO2.out Try.underlying41 rfl size41 ?_; kernel_rfl; rfl; rfl)
      | (go_at_call 20; (first
          | (with_reducible refine HMY.out.mono ?_; rintro e w47 ⟨rfl, hb47⟩; have HXO2 := Lib.hid (HXO.out.call hb47); have HOD2 := Lib.hid (HOD.out.call hb47))
          | (refine (check_odd HOD2.out).mono ?_; rintro e w48 ⟨rfl, hb48⟩)
          | (refine (check_no _).mono ?_; rintro e w49 ⟨rfl, hb49⟩)))
      | (go_at_call 19; refine (awake_any _).mono ?_; rintro e w50 ⟨rfl, hb50⟩))
    go_ret
    have h1 := KW.out.trans (hb47.mono KW.out.size)
    have h2 := h1.trans (hb48.mono h1.size)
    have h3 := h2.trans (hb49.mono h2.size)
    exact ⟨rfl, h3.trans (hb50.mono h3.size)⟩
end Go.Proofs.Ytlkdmcdnkoiflaa
