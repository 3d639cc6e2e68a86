/- keep. -/
import Derived.Test.YteognijlgalahaaPG
namespace Go.Proofs.Yteognijlgalahaa
open Go.RowKit Go.Lib
attribute [local go_sem] Oper.semAt_some

theorem T_end (p : PoM) (lv : Int) : p.T p.ds.l.length lv = 0 := by
  show p.d.vals (p.ds.l.drop p.ds.l.length) lv = 0
  rw [List.drop_eq_nil_of_le (Nat.le_refl _)]; rfl
theorem made_ke {p : PoM} {D : Nat} {V : World} (hh : p.high ≤ 60) (h : Lies V D 116 (madeCells (Array.replicate 61 (.int .i64 0)) ((p.ds.l.length + 1) * 61))) : CoM p p.T p.ds.l.length D V := by
  refine ⟨_, h, by rw [size_madeCells]; omega, fun i hi => ⟨0, ?_⟩, fun day hj hn lv h1 h2 => ?_⟩
  · rw [size_madeCells] at hi
    exact made_costs _ _ hi
  · have e : day = p.ds.l.length := by omega
    subst e
    rw [T_end]
    exact made_costs _ _ (by omega)
theorem StepC.below {D mb B : Nat} {w v v' : World} (h : StepC D mb v v') (hb : Below B w v) (hD : B ≤ D) (hm : B ≤ mb) (hB : B ≤ v.heap.size) : Below B w v' :=
  ⟨h.os.trans hb.os, h.tape.trans hb.tape, h.output.trans hb.output, Nat.le_trans hb.size h.size, fun k hk => (h.block k (by omega) (by omega) (by omega)).trans (hb.block k hk)⟩
set_option maxRecDepth 100000 in
set_option maxHeartbeats 8000000 in
theorem keep_any (p : PoM) (w : World) (hok : p.d.Ok) (hp : p.At w w.heap.size) : Calls Try.prog 48 #[.agg p.cells.toArray] w fun e w' => ∃ D mb, e = .returned (.agg (keC p D mb).toArray) ∧ KeM p p.T 0 D mb w' ∧ w.heap.size ≤ D ∧ w.heap.size ≤ mb ∧ Below w.heap.size w w' := by
  have hln : p.ds.l.length ≤ 12 := hok.n2
  have hAw : ∀ a, p.ds.A = some a → p.ds.l ≠ [] → a.block < w.heap.size := fun a e hne => by
    obtain ⟨b, off, e2, hb, -⟩ := hp.s hne
    rw [e] at e2; cases e2; exact hb
  have HAW := Lib.hid hAw
  have HP := Lib.hid hp
  have HOK := Lib.hid hok
  have hmk := make_costs (p.ds.l.length + 1) (by omega)
  obtain ⟨n1, hn1⟩ : ∃ n : Nat, n = p.ds.l.length + 1 := ⟨_, rfl⟩
  have hz1 : (p.ds.l.length : Int) + 1 = (n1 : Int) := by omega
  have hwz1 : IntKind.i64.wrap (n1 : Int) = (n1 : Int) := IntWalk.i64_in _ (by omega)
  have HN1 := Lib.hid hn1
  rw [← hn1] at hmk
  clear hAw hp hok hn1
  go_enter Try.func48, Try.ntmps48
  have l0 : Lies (w.alloc (.cells p.cells.toArray 34)) w.heap.size 34 p.cells.toArray := Lies.fresh _ _ _
  have b0 : Below w.heap.size w (w.alloc (.cells p.cells.toArray 34)) := (by repeat (first | (with_reducible assumption) | (with_reducible exact Below.refl _ _) | (with_reducible refine Below.drew ?_) | (with_reducible refine below_drewN ?_ _) | ((with_reducible refine Below.setCell ?_ ?_ _); rotate_left; focus (first | (simp; done) | (simp; omega) | omega)) | ((with_reducible refine Below.alloc ?_ ?_ _); rotate_left; focus (first | (simp; done) | (simp; omega) | omega))))
  have l1 := l0.alloc (.cells zke.toArray 89)
  have b1 := b0.alloc b0.size (.cells zke.toArray 89)
  have lk : Lies ((w.alloc (.cells p.cells.toArray 34)).alloc (.cells zke.toArray 89)) (w.heap.size + 1) 89 zke.toArray := Lies.fresh' (by simp)
  have hz1' : ((w.alloc (.cells p.cells.toArray 34)).alloc (.cells zke.toArray 89)).heap.size = w.heap.size + 2 := by simp
  have L1 := Lib.hid l1
  have B1 := Lib.hid b1
  have LK := Lib.hid lk
  have HZ1 := Lib.hid hz1'
  clear l0 b0 l1 b1 lk hz1'
  go_upto_region 1 with (fail)
  rename_i K0 hK0
  change Code.wp _ _ _ _ ((w.alloc (.cells p.cells.toArray 34)).alloc (.cells zke.toArray 89))
  generalize (w.alloc (.cells p.cells.toArray 34)).alloc (.cells zke.toArray 89) = w1 at *
  have REST : ∀ (g3 D mb : Nat) (V : World), w1.heap.size ≤ D → w1.heap.size ≤ mb → w1.heap.size ≤ g3 → Lies V g3 89 (keC p D mb).toArray → KeM p p.T p.ds.l.length D mb V → Below w1.heap.size w1 V →
      K0 { tmps := #[.agg p.cells.toArray, .pointer (some ⟨w.heap.size, 0, none⟩), .pointer (some ⟨w.heap.size + 1, 0, none⟩), .pointer (some ⟨g3, 0, none⟩), undef, .agg p.cells.toArray, .pointer (some ⟨w.heap.size, 6, none⟩), .slice p.ds.A p.ds.l.length p.ds.c, .int .i64 p.ds.l.length, .int .i64 n1, .slice (some ⟨D, 0, none⟩) n1 n1, .agg (keC p D mb).toArray, undef, undef, undef, undef], defers := [] } V := by
    intro g3 D mb V hD hm hg hk he hb
    have HPV := Lib.hid (L1.out.call hb)
    refine hK0 _ _ ?_
    clear hK0 hmk
    have HKK := Lib.hid hk
    have HEE := Lib.hid he
    have HBB := Lib.hid hb
    clear hk he hb
    go_upto_region 4 with (fail)
    have CA := Lib.hid (show CaM p D mb w.heap.size V.heap.size g3 (V.alloc (.cells #[fFind w.heap.size V.heap.size g3] 111)) from ⟨HPV.out.alloc _, Lies.fresh _ _ _, HKK.out.alloc _⟩)
    have hbf : Below V.heap.size V (V.alloc (.cells #[fFind w.heap.size V.heap.size g3] 111)) := (Below.refl _ _).alloc (Nat.le_refl _) _
    have E1 := Lib.hid (HEE.out.call hbf)
    have BV := Lib.hid (show Below w.heap.size w (V.alloc (.cells #[fFind w.heap.size V.heap.size g3] 111)) from (B1.out.trans (HBB.out.mono B1.out.size)).trans (hbf.mono (Nat.le_trans B1.out.size HBB.out.size)))
    have L2 := Lib.hid ((LK.out.call HBB.out).call hbf)
    have hw1z := HZ1.out
    change Code.wp _ _ _ _ (V.alloc (.cells #[fFind w.heap.size V.heap.size g3] 111))
    clear HPV HKK HEE HBB hbf LK B1 L1
    generalize V.alloc (.cells #[fFind w.heap.size V.heap.size g3] 111) = V1 at *
    generalize V.heap.size = gf at *
    have c13 : V1.cell? ⟨gf, 0, none⟩ = some (fFind w.heap.size gf g3) := CA.out.F.at_ 0
    have hent := enters_find
    have HF := Lib.hid (find_any p D mb w.heap.size gf g3 HOK.out (fun a e hne => by have := HAW.out a e hne; omega) p.ds.l.length 0 (by omega) V1 CA.out E1.out)
    go_upto_region 5 with (fail)
    refine HF.out.mono ?_
    rintro e V2 ⟨⟨v2, rfl⟩, hk2, hs2⟩
    have CK2 := Lib.hid (hs2.lies CA.out.K (E1.out.noD CA.out.K (by decide)) (E1.out.noM CA.out.K))
    have L3 := Lib.hid (hs2.lies L2.out (by omega) (by omega))
    have BV2 := Lib.hid (hs2.below BV.out (by omega) (by omega) BV.out.size)
    have K2 := Lib.hid hk2
    clear hs2 hk2 c13 hent CA E1 L2 HF BV
    go_wp2_with (first
      | (refine wpList_load_row (o := ⟨some 15, _, _, _, _, _⟩) ?_ 89 (.tmp 3) ?_ g3 ?_ 89 (keC p D mb).toArray (0, 0) _ CK2.out Try.underlying89 rfl size_ke ?_; rfl; rfl; rfl)
      | (refine wpList_store_cells (o := ⟨none, .store 89 (.tmp 2) _, _, _, _, _⟩) ?_ 89 (.tmp 2) (.tmp 15) ?_ (w.heap.size + 1) 0 ?_ 89 zke (keC p D mb) ?_ L3.out (by simp [zke, keC, PoM.cells]) size_ke (keV_one p _ _ _ mb) ?_; rfl; rfl; rfl; rfl; intro V3 HS3 HO3))
    have hs3 := HS3.out
    rw [splice_whole (by simp [zke, keC, PoM.cells])] at hs3
    have hb3 : Below w.heap.size w V3 := HO3.out.below BV2.out (by omega)
    have hk3 : KeM p p.T 0 D mb V3 := K2.out.only HO3.out (by omega) L3.out (fun a e hne => by have := HAW.out a e hne; omega)
    refine bodyPost_ret (results_cell_row rfl _ _ (w.heap.size + 1) 89 (keC p D mb).toArray (0, 0) _ rfl hs3 Try.underlying89 rfl size_ke) rfl ?_
    exact ⟨D, mb, rfl, hk3, by omega, by omega, hb3⟩
  clear hK0
  have RST := Lib.hid REST
  clear REST
  have HQ := Lib.hid (HP.out.below B1.out B1.out.size)
  have hh60 : p.high ≤ 60 := HOK.out.l2
  haveI hne : Nonempty (Cls (fun W => Below w1.heap.size w1 W)) := ⟨⟨w1, Below.refl _ _⟩⟩
  have r5 : ∀ W, (∃ cc : Cls (fun W => Below w1.heap.size w1 W), W = cc.val) → W.rangeAt w.heap.size 0 p.cells := by
    rintro W ⟨cc, rfl⟩; exact Lies.range (cs := p.cells) (L1.out.call cc.h) (fun j v hj => by simpa using hj)
  have R5 := Lib.hid r5
  have r7 : ∀ cc : Cls (fun W => Below w1.heap.size w1 W), cc.val.cell? ⟨w.heap.size, 6, none⟩ = some (.slice p.ds.A p.ds.l.length p.ds.c) := fun cc => (L1.out.call cc.h).at_ 6
  clear r5
  refine wp_region_wayw [1, 2, 3, 4, 0] (.way 5 (.way 6 (.way 7 (.way 8 .fin .fin) .fin) (.way 7 (.way 6 (.way 8 .fin .fin) .fin) .fin)) (.way 7 (.way 5 (.way 6 (.way 8 .fin .fin) .fin) .fin) .fin)) (fun W => ∃ cc : Cls (fun W => Below w1.heap.size w1 W), W = cc.val) (by kernel_rfl) (by kernel_rfl) (Cls.here (Below.refl _ _).drew) ?_
  simp only [List.filterMap_cons, List.filterMap_nil, List.getElem?_toArray, List.getElem?_cons_zero, List.getElem?_cons_succ]
  change wpQuiet _ _ _ _ (_ :: _ :: _ :: _ :: _ :: []) _
  repeat (first
    | (refine wpQuiet_load_whole (o := ⟨some 5, _, _, _, _, _⟩) ?_ 34 (.tmp 1) ?_ w.heap.size 0 ?_ p.cells _ R5.out Try.underlying34 rfl size_po ?_; rfl; rfl; rfl; simp only [Act.put, List.setIfInBounds_toArray, List.set_cons_zero, List.set_cons_succ])
    | go_big_quiet_step (fail) | quiet_step (fail))
  refine wpQuiet_nil ?_
  clear r7 R5
  have B0 := Lib.hid (show Below w1.heap.size w1 w1.drew from (Below.refl _ _).drew)
  generalize w1.drew = v0 at *
  rw [wpWy_way]
  refine ⟨?_, ?_⟩
  · simp only [List.getElem?_toArray, List.getElem?_cons_zero, List.getElem?_cons_succ]
    have hz1 := B0.out.size
    have B1 := Lib.hid (B0.out.alloc B0.out.size (.cells (madeCells (Array.replicate 61 (.int .i64 0)) (n1 * 61)) 116))
    have LD1 := Lib.hid (Lies.fresh v0 116 (madeCells (Array.replicate 61 (.int .i64 0)) (n1 * 61)))
    go_wp2
    refine Ends.intro ⟨Cls.here B1.out, ?_⟩
    generalize v0.alloc (.cells (madeCells (Array.replicate 61 (.int .i64 0)) (n1 * 61)) 116) = v1 at *
    generalize v0.heap.size = D at *
    clear B0
    rw [wpWy_way]
    refine ⟨?_, ?_⟩
    · simp only [List.getElem?_toArray, List.getElem?_cons_zero, List.getElem?_cons_succ]
      go_wp2_with (go_at_call 70; refine (with_any p (some ⟨D, 0, none⟩) n1 n1 _).mono ?_; rintro e v2 ⟨mb, hmb, rfl, hm2, hb2⟩)
      have B2 := Lib.hid (B1.out.trans (hb2.mono B1.out.size))
      have LD2 := Lib.hid (LD1.out.call hb2)
      have MM2 := Lib.hid hm2
      have hmz : w1.heap.size ≤ mb := Nat.le_trans B1.out.size hmb
      rw [show keV p (.slice (some ⟨D, 0, none⟩) n1 n1) mb = keC p D mb by rw [HN1.out]; rfl]
      clear hb2 hm2 hmb B1 LD1
      refine Ends.intro ⟨Cls.here B2.out, ?_⟩
      rw [wpWy_way]
      refine ⟨?_, by exact trivial⟩
      simp only [List.getElem?_toArray, List.getElem?_cons_zero, List.getElem?_cons_succ]
      have hz3 := B2.out.size
      have B3 := Lib.hid (B2.out.alloc B2.out.size (.cells zke.toArray 89))
      have G3 := Lib.hid (Lies.fresh v2 89 zke.toArray)
      have LD3 := Lib.hid (LD2.out.alloc (.cells zke.toArray 89))
      have MM3 := Lib.hid (fun R => (MM2.out R).call ((Below.refl v2.heap.size v2).alloc (Nat.le_refl _) (.cells zke.toArray 89)))
      go_wp2
      refine Ends.intro ⟨Cls.here B3.out, ?_⟩
      change wpWy _ _ _ _ _ _ _ (v2.alloc (.cells zke.toArray 89))
      generalize v2.alloc (.cells zke.toArray 89) = v3 at *
      generalize v2.heap.size = g3 at *
      clear LD2
      clear MM2
      clear B2
      rw [wpWy_way]
      refine ⟨?_, by exact trivial⟩
      simp only [List.getElem?_toArray, List.getElem?_cons_zero, List.getElem?_cons_succ]
      refine wpList_store_cells (o := ⟨none, .store 89 (.tmp 3) _, _, _, _, _⟩) ?_ 89 (.tmp 3) (.tmp 11) ?_ g3 0 ?_ 89 zke (keC p D mb) ?_ G3.out (by simp [zke, keC, PoM.cells]) size_ke (keV_one p _ _ _ mb) ?_
      rfl; rfl; rfl; rfl
      intro v4 HS HO
      refine wpList_nil ?_
      have hs := HS.out
      rw [splice_whole (by simp [zke, keC, PoM.cells])] at hs
      have hg3 : w1.heap.size ≤ g3 := by assumption
      have hDz : w1.heap.size ≤ D := by assumption
      have hld := HO.out.lies LD3.out (lies_ne LD3.out G3.out (by decide))
      have hmm : ∀ R, MemoM v4 mb R := fun R => (MM3.out R).to_ (HO.out.block _ ((MM3.out R).ne G3.out))
      have hb := HO.out.below B3.out hg3
      refine ⟨Cls.here hb, ?_⟩
      rw [wpWy_fin]
      have hh60 : p.high ≤ 60 := HOK.out.l2
      rw [HN1.out] at hld
      exact RST.out g3 D mb v4 hDz hmz hg3 hs ⟨HQ.out.below hb hb.size, made_ke hh60 hld, hmm _⟩ hb
    · rw [wpWy_way]
      refine ⟨?_, by exact trivial⟩
      simp only [List.getElem?_toArray, List.getElem?_cons_zero, List.getElem?_cons_succ]
      have hz2 := B1.out.size
      have B2 := Lib.hid (B1.out.alloc B1.out.size (.cells zke.toArray 89))
      have G2 := Lib.hid (Lies.fresh v1 89 zke.toArray)
      have LD2 := Lib.hid (LD1.out.alloc (.cells zke.toArray 89))
      go_wp2
      refine Ends.intro ⟨Cls.here B2.out, ?_⟩
      change wpWy _ _ _ _ _ _ _ (v1.alloc (.cells zke.toArray 89))
      generalize v1.alloc (.cells zke.toArray 89) = v2 at *
      generalize v1.heap.size = g3 at *
      clear LD1
      clear B1
      rw [wpWy_way]
      refine ⟨?_, by exact trivial⟩
      simp only [List.getElem?_toArray, List.getElem?_cons_zero, List.getElem?_cons_succ]
      go_wp2_with (go_at_call 70; refine (with_any p (some ⟨D, 0, none⟩) n1 n1 _).mono ?_; rintro e v3 ⟨mb, hmb, rfl, hm3, hb3⟩)
      have B3 := Lib.hid (B2.out.trans (hb3.mono B2.out.size))
      have LD3 := Lib.hid (LD2.out.call hb3)
      have MM3 := Lib.hid hm3
      have hmz : w1.heap.size ≤ mb := Nat.le_trans B2.out.size hmb
      have G3 := Lib.hid (G2.out.call hb3)
      rw [show keV p (.slice (some ⟨D, 0, none⟩) n1 n1) mb = keC p D mb by rw [HN1.out]; rfl]
      clear hb3 hm3 hmb B2 LD2
      refine Ends.intro ⟨Cls.here B3.out, ?_⟩
      rw [wpWy_way]
      refine ⟨?_, by exact trivial⟩
      simp only [List.getElem?_toArray, List.getElem?_cons_zero, List.getElem?_cons_succ]
      refine wpList_store_cells (o := ⟨none, .store 89 (.tmp 3) _, _, _, _, _⟩) ?_ 89 (.tmp 3) (.tmp 11) ?_ g3 0 ?_ 89 zke (keC p D mb) ?_ G3.out (by simp [zke, keC, PoM.cells]) size_ke (keV_one p _ _ _ mb) ?_
      rfl; rfl; rfl; rfl
      intro v4 HS HO
      refine wpList_nil ?_
      have hs := HS.out
      rw [splice_whole (by simp [zke, keC, PoM.cells])] at hs
      have hg3 : w1.heap.size ≤ g3 := by assumption
      have hDz : w1.heap.size ≤ D := by assumption
      have hld := HO.out.lies LD3.out (lies_ne LD3.out G3.out (by decide))
      have hmm : ∀ R, MemoM v4 mb R := fun R => (MM3.out R).to_ (HO.out.block _ ((MM3.out R).ne G3.out))
      have hb := HO.out.below B3.out hg3
      refine ⟨Cls.here hb, ?_⟩
      rw [wpWy_fin]
      have hh60 : p.high ≤ 60 := HOK.out.l2
      rw [HN1.out] at hld
      exact RST.out g3 D mb v4 hDz hmz hg3 hs ⟨HQ.out.below hb hb.size, made_ke hh60 hld, hmm _⟩ hb
  · rw [wpWy_way]
    refine ⟨?_, by exact trivial⟩
    simp only [List.getElem?_toArray, List.getElem?_cons_zero, List.getElem?_cons_succ]
    have hz1 := B0.out.size
    have B1 := Lib.hid (B0.out.alloc B0.out.size (.cells zke.toArray 89))
    have G1 := Lib.hid (Lies.fresh v0 89 zke.toArray)
    go_wp2
    refine Ends.intro ⟨Cls.here B1.out, ?_⟩
    change wpWy _ _ _ _ _ _ _ (v0.alloc (.cells zke.toArray 89))
    generalize v0.alloc (.cells zke.toArray 89) = v1 at *
    generalize v0.heap.size = g3 at *
    clear B0
    rw [wpWy_way]
    refine ⟨?_, by exact trivial⟩
    simp only [List.getElem?_toArray, List.getElem?_cons_zero, List.getElem?_cons_succ]
    have hz2 := B1.out.size
    have B2 := Lib.hid (B1.out.alloc B1.out.size (.cells (madeCells (Array.replicate 61 (.int .i64 0)) (n1 * 61)) 116))
    have LD2 := Lib.hid (Lies.fresh v1 116 (madeCells (Array.replicate 61 (.int .i64 0)) (n1 * 61)))
    have G2 := Lib.hid (G1.out.alloc (.cells (madeCells (Array.replicate 61 (.int .i64 0)) (n1 * 61)) 116))
    go_wp2
    refine Ends.intro ⟨Cls.here B2.out, ?_⟩
    generalize v1.alloc (.cells (madeCells (Array.replicate 61 (.int .i64 0)) (n1 * 61)) 116) = v2 at *
    generalize v1.heap.size = D at *
    clear G1
    clear B1
    rw [wpWy_way]
    refine ⟨?_, by exact trivial⟩
    simp only [List.getElem?_toArray, List.getElem?_cons_zero, List.getElem?_cons_succ]
    go_wp2_with (go_at_call 70; refine (with_any p (some ⟨D, 0, none⟩) n1 n1 _).mono ?_; rintro e v3 ⟨mb, hmb, rfl, hm3, hb3⟩)
    have B3 := Lib.hid (B2.out.trans (hb3.mono B2.out.size))
    have LD3 := Lib.hid (LD2.out.call hb3)
    have MM3 := Lib.hid hm3
    have hmz : w1.heap.size ≤ mb := Nat.le_trans B2.out.size hmb
    have G3 := Lib.hid (G2.out.call hb3)
    rw [show keV p (.slice (some ⟨D, 0, none⟩) n1 n1) mb = keC p D mb by rw [HN1.out]; rfl]
    clear hb3 hm3 hmb B2 LD2
    refine Ends.intro ⟨Cls.here B3.out, ?_⟩
    rw [wpWy_way]
    refine ⟨?_, by exact trivial⟩
    simp only [List.getElem?_toArray, List.getElem?_cons_zero, List.getElem?_cons_succ]
    refine wpList_store_cells (o := ⟨none, .store 89 (.tmp 3) _, _, _, _, _⟩) ?_ 89 (.tmp 3) (.tmp 11) ?_ g3 0 ?_ 89 zke (keC p D mb) ?_ G3.out (by simp [zke, keC, PoM.cells]) size_ke (keV_one p _ _ _ mb) ?_
    rfl; rfl; rfl; rfl
    intro v4 HS HO
    refine wpList_nil ?_
    have hs := HS.out
    rw [splice_whole (by simp [zke, keC, PoM.cells])] at hs
    have hg3 : w1.heap.size ≤ g3 := by assumption
    have hDz : w1.heap.size ≤ D := by assumption
    have hld := HO.out.lies LD3.out (lies_ne LD3.out G3.out (by decide))
    have hmm : ∀ R, MemoM v4 mb R := fun R => (MM3.out R).to_ (HO.out.block _ ((MM3.out R).ne G3.out))
    have hb := HO.out.below B3.out hg3
    refine ⟨Cls.here hb, ?_⟩
    rw [wpWy_fin]
    have hh60 : p.high ≤ 60 := HOK.out.l2
    rw [HN1.out] at hld
    exact RST.out g3 D mb v4 hDz hmz hg3 hs ⟨HQ.out.below hb hb.size, made_ke hh60 hld, hmm _⟩ hb
end Go.Proofs.Yteognijlgalahaa
