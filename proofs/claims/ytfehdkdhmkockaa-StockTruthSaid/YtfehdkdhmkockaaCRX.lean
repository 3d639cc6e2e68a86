/- StockTruth. -/
import Derived.Test.YtfehdkdhmkockaaGK
import Derived.Test.YtfehdkdhmkockaaGJ
import Derived.Test.YtfehdkdhmkockaaGL
namespace Go.Proofs.Ytfehdkdhmkockaa
open Go.RowKit Go.Lib
attribute [local go_sem] Oper.semAt_some

set_option maxRecDepth 100000 in
set_option maxHeartbeats 1000000 in
theorem Truths_no (p : PlM) (ws : Sv Nat) (w : World) (hp : p.Lay w w.heap.size) (hr : readyB p = false) : Calls Try.prog 9 #[.agg p.cells.toArray, .slice ws.A ws.l.length ws.c] w fun e w' => e = .returned (.bool true) ∧ Below w.heap.size w w' := by
  have l0 : Lies (w.alloc (.cells p.cells.toArray 28)) w.heap.size 28 p.cells.toArray := Lies.fresh _ _ _
  have b0 : Below w.heap.size w (w.alloc (.cells p.cells.toArray 28)) := (Below.refl _ _).alloc (Nat.le_refl _) _
  have hR := ready_any p _ (hp.below b0 b0.size)
  rw [hr] at hR
  have L0 := Lib.hid l0
  have B0 := Lib.hid b0
  have HR := Lib.hid hR
  clear l0 b0 hR hp hr
  unfold PlM.cells at HR ⊢
  go_enter Try.func9, Try.ntmps9
  go_wp2_with (first
    | (refine wpList_load_row (o := ⟨some 20, _, _, _, _, _⟩) ?_ 28 (.tmp 2) ?_ w.heap.size ?_ 28 p.cells.toArray (0, 0) _ L0.out Try.underlying28 rfl size28 ?_; rfl; rfl; rfl)
    | (go_at_call 51; refine HR.out.mono ?_; rintro e w1 ⟨rfl, hb1⟩)
    | (go_at_call 19; refine (awake_any _).mono ?_; rintro e w2 ⟨rfl, hb2⟩))
  go_ret
  have hx := B0.out.trans (hb1.mono B0.out.size)
  exact ⟨rfl, hx.trans (hb2.mono hx.size)⟩
/-- What the calls of the law answer. -/
structure TC (p : PlM) (Y : Nat) (ws : Sv Nat) (w : World) : Prop where
  plan : ∀ W, Below w.heap.size w W → Calls Try.prog 21 #[.agg p.cells.toArray] W (RetP p W)
  count : ∀ (q : PlM) (W : World), q.d = p.d → q.At W W.heap.size → Calls Try.prog 28 #[.agg q.cells.toArray] W (RetC p.d Y W)
  ends : ∀ (hg : Bool) (year : Int) (W : World), Below w.heap.size w W → Calls Try.prog 29 #[.agg p.cells.toArray, .bool hg, .int .i64 year] W (RetT (endsD p.d Y hg year) W)
  pick : ∀ W, Below w.heap.size w W → Calls Try.prog 52 #[.agg p.cells.toArray, .slice ws.A ws.l.length ws.c] W (RetT (pickD p.d Y ws.l) W)
  truthP : ∀ (u : TrM) (W : World), u.d = pickD p.d Y ws.l → u.At W W.heap.size → u.Nil → Calls Try.prog 23 #[.agg u.cells.toArray] W (RetT (pickD p.d Y ws.l) W)
  truthE : ∀ (hg : Bool) (year : Int) (u : TrM) (W : World), u.d = endsD p.d Y hg year → u.At W W.heap.size → u.Nil → Calls Try.prog 23 #[.agg u.cells.toArray] W (RetT (endsD p.d Y hg year) W)
  runP : ∀ (q : PlM) (u : TrM) (W : World), q.d = p.d → u.d = pickD p.d Y ws.l → q.At W W.heap.size → u.At W W.heap.size → Calls Try.prog 22 #[.agg q.cells.toArray, .agg u.cells.toArray] W (RetR (fun k => toldL p.d.s.length (yrT p.d (pickD p.d Y ws.l) k)) Y W)
  runE : ∀ (hg : Bool) (year : Int) (q : PlM) (u : TrM) (W : World), q.d = p.d → u.d = endsD p.d Y hg year → q.At W W.heap.size → u.At W W.heap.size → Calls Try.prog 22 #[.agg q.cells.toArray, .agg u.cells.toArray] W (RetR (fun k => toldL p.d.s.length (yrT p.d (endsD p.d Y hg year) k)) Y W)
theorem tc_of {p : PlM} {Y : Nat} {ws : Sv Nat} {w : World} (hp : p.Lay w w.heap.size) (hat : p.At w w.heap.size) (hf : p.fault = 0) (hY : p.years = (Y : Int)) (hA : Sl w w.heap.size 1 encW ws.A ws.l) (hw : ∀ x, x ∈ ws.l → x < 65536) (hl : ws.l.length ≤ 9223372036854775807) : TC p Y ws w := by
  have hv := fault_zero hf
  have hn5 := hv.ok.n
  have hY6 : Y ≤ 6 := by have := hv.y; omega
  have hq : ∀ q : PlM, q.d = p.d → q.fault = 0 ∧ q.years = (Y : Int) := fun q h => ⟨by rw [fault_congr h]; exact hf, by rw [← hY]; show q.d.years = _; rw [h]; rfl⟩
  exact ⟨fun W hb => Plan_any p W (hat.below hb hb.size) hp.nr hp.ne hp.nk, fun q W h1 h2 => Count_law q p.d Y W h1 h2 (hq q h1).1 (hq q h1).2, fun hg year W hb => Ends_any p Y hg year W (hat.below hb hb.size) hv hY,
    fun W hb => Picked_any p Y ws.A ws.c ws.l W (hat.below hb hb.size) hv hY ((hA.below hb).more hb.size) hw hl,
    fun u W h1 h2 h3 => Truth_law u _ p.s.l.length Y W h1 h2 h3 (pick_sizes p.d Y ws.l) hn5 hY6, fun hg year u W h1 h2 h3 => Truth_law u _ p.s.l.length Y W h1 h2 h3 (ends_sizes p.d Y hg year) hn5 hY6,
    fun q u W h1 h2 h3 h4 => Run_law q u p.d _ Y W h1 h2 h3 h4 (hq q h1).1 (pick_fits hv hY ws.l) (hq q h1).2, fun hg year q u W h1 h2 h3 h4 => Run_law q u p.d _ Y W h1 h2 h3 h4 (hq q h1).1 (ends_fits hv hY hg year) (hq q h1).2⟩
set_option maxRecDepth 100000 in
set_option maxHeartbeats 8000000 in
theorem Truths_yes (p : PlM) (ws : Sv Nat) (w : World) (hp : p.Lay w w.heap.size) (hr : readyB p = true) (hA : Sl w w.heap.size 1 encW ws.A ws.l) (hw : ∀ x, x ∈ ws.l → x < 65536) (hl : ws.l.length ≤ 9223372036854775807) :
    Calls Try.prog 9 #[.agg p.cells.toArray, .slice ws.A ws.l.length ws.c] w fun e w' => e = .returned (.bool true) ∧ Below w.heap.size w w' := by
  obtain ⟨ht, hf⟩ := ready_iff.1 hr
  have hat := hp.at ht
  have hv := fault_zero hf
  obtain ⟨Y, hY⟩ : ∃ Y : Nat, p.years = (Y : Int) := ⟨p.years.toNat, years_nat hv⟩
  have hY6 : Y ≤ 6 := by have := hv.y; omega
  have hn5 := hv.ok.n
  have l0 : Lies (w.alloc (.cells p.cells.toArray 28)) w.heap.size 28 p.cells.toArray := Lies.fresh _ _ _
  have b0 : Below w.heap.size w (w.alloc (.cells p.cells.toArray 28)) := (Below.refl _ _).alloc (Nat.le_refl _) _
  have hR := ready_any p _ (hp.below b0 b0.size)
  rw [hr] at hR
  have HTC := Lib.hid (tc_of hp hat hf hY hA hw hl)
  have L0 := Lib.hid l0
  have B0 := Lib.hid b0
  have HR := Lib.hid hR
  have HV := Lib.hid hv
  have HY := Lib.hid hY
  clear l0 b0 hR hp hr hat hv hf hY ht hA hw hl
  unfold PlM.cells at HR ⊢
  go_enter Try.func9, Try.ntmps9
  go_upto_region 3 with (first
    | (refine wpList_load_row (o := ⟨some 20, _, _, _, _, _⟩) ?_ 28 (.tmp 2) ?_ w.heap.size ?_ 28 p.cells.toArray (0, 0) _ L0.out Try.underlying28 rfl size28 ?_; rfl; rfl; rfl)
    | (go_at_call 51; refine HR.out.mono ?_; rintro e w1 ⟨rfl, hb1⟩; have L1 := Lib.hid (L0.out.call hb1); have B1 := Lib.hid (B0.out.trans (hb1.mono B0.out.size)); have r0 : w1.cell? ⟨w.heap.size, 0, none⟩ = some (.slice p.s.A p.s.l.length p.s.c) := L1.out.at_ 0))
  clear hb1 L0 B0 HR
  go_upto_region 5 with (first
    | (refine wpList_load_row (o := ⟨some 28, _, _, _, _, _⟩) ?_ 28 (.tmp 2) ?_ w.heap.size ?_ 28 p.cells.toArray (0, 0) _ L1.out Try.underlying28 rfl size28 ?_; rfl; rfl; rfl)
    | (go_at_call 21; refine (HTC.out.plan _ B1.out).mono ?_; rintro e w2 ⟨q, rfl, hqd, hqa, hb2⟩)
    | (go_at_call 28; refine (HTC.out.count q _ hqd hqa).mono ?_; rintro e w3 ⟨AB, cB, bs, rfl, hbs, hbm, hba, hb3⟩))
  have hd3 := hb2.trans (hb3.mono hb2.size)
  have L3 := Lib.hid (L1.out.call hd3)
  have B3 := Lib.hid (B1.out.trans (hd3.mono B1.out.size))
  have HBS := Lib.hid hbs
  have HBM := Lib.hid hbm
  have HBA := Lib.hid hba
  clear r0 hd3 hb2 hb3 hqd hqa hbs hbm hba L1 B1
  as_aux_lemma =>
  have hrg : ∀ W, (∃ c : Cls (fun W => Below w3.heap.size w3 W), W = c.val) → W.rangeAt w.heap.size 0 p.cells := by
    rintro W ⟨c, rfl⟩
    exact Lies.range (cs := p.cells) (L3.out.call c.h) (fun j v hj => by simpa using hj)
  have HRG := Lib.hid hrg
  haveI hnea : Nonempty (Cls (fun W => Below w3.heap.size w3 W)) := ⟨⟨w3, Below.refl _ _⟩⟩
  clear hrg
  refine wp_region_whole [([0, 2, 3], [1, 4, 5, 6]), ([7, 8, 9, 10, 11], [])] (fun W => ∃ c : Cls (fun W => Below w3.heap.size w3 W), W = c.val) (Cls.here (Below.refl _ _).drew) (by kernel_rfl) (by kernel_rfl) ?_
  simp only [wpPhases, List.filterMap_cons, List.filterMap_nil, List.getElem?_toArray, List.getElem?_cons_zero, List.getElem?_cons_succ]
  refine wpQuiet_load_whole (o := ⟨some 34, _, _, _, _, _⟩) ?_ 28 (.tmp 2) ?_ w.heap.size 0 ?_ p.cells _ HRG.out Try.underlying28 rfl size28 ?_
  rfl; rfl; rfl
  simp only [Act.put, List.setIfInBounds_toArray, List.set_cons_zero, List.set_cons_succ]
  refine wpQuiet_load_whole (o := ⟨some 36, _, _, _, _, _⟩) ?_ 28 (.tmp 2) ?_ w.heap.size 0 ?_ p.cells _ HRG.out Try.underlying28 rfl size28 ?_
  rfl; rfl; rfl
  simp only [Act.put, List.setIfInBounds_toArray, List.set_cons_zero, List.set_cons_succ]
  change wpQuiet _ _ _ _ (_ :: []) _
  repeat (first | go_big_quiet_step (rfl) | quiet_step (rfl))
  refine wpQuiet_nil ?_
  simp only [wpForce]
  have hd1 : Below w3.heap.size w3 w3.drew := (Below.refl _ _).drew
  generalize w3.drew = v1a at *
  go_wp2_with (go_at_call 21; refine (HTC.out.plan _ (B3.out.trans (hd1.mono B3.out.size))).mono ?_; rintro e v2a ⟨qa, rfl, hqd, hqa, hb2⟩)
  have hd2 := hd1.trans (hb2.mono hd1.size)
  refine Ends.intro ⟨Cls.here hd2, ?_⟩
  go_wp2_with (go_at_call 52; refine (HTC.out.pick _ (B3.out.trans (hd2.mono B3.out.size))).mono ?_; rintro e v3a ⟨ua, rfl, hud, hua, hun, hb3⟩)
  have hd3 := hd2.trans (hb3.mono hd2.size)
  refine Ends.intro ⟨Cls.here hd3, ?_⟩
  go_wp2_with (go_at_call 23; refine (HTC.out.truthP ua _ hud hua hun).mono ?_; rintro e v4a ⟨xa, rfl, hxd, hxa, hxn, hb4⟩)
  have hd4 := hd3.trans (hb4.mono hd3.size)
  refine Ends.intro ⟨Cls.here hd4, ?_⟩
  have hqa4 : qa.At v4a v4a.heap.size := (hqa.below hb3 hb3.size).below hb4 hb4.size
  go_wp2_with (go_at_call 22; refine (HTC.out.runP qa xa _ hqd hxd hqa4 hxa).mono ?_; rintro e v5a ⟨Aa, ca, ysa, rfl, hys, hym, hya, hb5⟩)
  have hd5 := hd4.trans (hb5.mono hd4.size)
  refine Ends.intro ⟨Cls.here hd5, ?_⟩
  have HYSa := Lib.hid hys
  have HYMa := Lib.hid hym
  have HYAa := Lib.hid hya
  have Da := Lib.hid hd5
  have La := Lib.hid (L3.out.call hd5)
  have Ba := Lib.hid (B3.out.trans (hd5.mono B3.out.size))
  clear hys hym hya hqa hqd hua hud hun hxa hxd hxn hqa4 hb2 hb3 hb4 hb5 hd1 hd2 hd3 hd4 hd5 L3 B3 HRG
  change wpQuiet _ _ _ _ (_ :: _ :: _ :: _ :: _ :: []) _
  repeat (first | go_big_quiet_step (rfl) | quiet_step (rfl))
  refine wpQuiet_nil ?_
  go_upto_region 6 with (fail)
  as_aux_lemma =>
  have hrg : ∀ W, (∃ c : Cls (fun W => Below v5a.heap.size v5a W), W = c.val) → W.rangeAt w.heap.size 0 p.cells := by
    rintro W ⟨c, rfl⟩
    exact Lies.range (cs := p.cells) (La.out.call c.h) (fun j v hj => by simpa using hj)
  have r7 : ∀ c : Cls (fun W => Below v5a.heap.size v5a W), c.val.cell? ⟨w.heap.size, 7, none⟩ = some (.int .i64 (Y : Int)) := fun c => by rw [← HY.out]; exact (La.out.call c.h).at_ 7
  have HRG := Lib.hid hrg
  haveI hneb : Nonempty (Cls (fun W => Below v5a.heap.size v5a W)) := ⟨⟨v5a, Below.refl _ _⟩⟩
  clear hrg
  refine wp_region_whole [([0, 2, 3, 4], [1, 5, 6, 7]), ([8, 9, 10, 11, 12], [])] (fun W => ∃ c : Cls (fun W => Below v5a.heap.size v5a W), W = c.val) (Cls.here (Below.refl _ _).drew) (by kernel_rfl) (by kernel_rfl) ?_
  simp only [wpPhases, List.filterMap_cons, List.filterMap_nil, List.getElem?_toArray, List.getElem?_cons_zero, List.getElem?_cons_succ]
  refine wpQuiet_load_whole (o := ⟨some 44, _, _, _, _, _⟩) ?_ 28 (.tmp 2) ?_ w.heap.size 0 ?_ p.cells _ HRG.out Try.underlying28 rfl size28 ?_
  rfl; rfl; rfl
  simp only [Act.put, List.setIfInBounds_toArray, List.set_cons_zero, List.set_cons_succ]
  refine wpQuiet_load_whole (o := ⟨some 46, _, _, _, _, _⟩) ?_ 28 (.tmp 2) ?_ w.heap.size 0 ?_ p.cells _ HRG.out Try.underlying28 rfl size28 ?_
  rfl; rfl; rfl
  simp only [Act.put, List.setIfInBounds_toArray, List.set_cons_zero, List.set_cons_succ]
  change wpQuiet _ _ _ _ (_ :: _ :: []) _
  repeat (first | go_big_quiet_step (rfl) | quiet_step (rfl))
  refine wpQuiet_nil ?_
  simp only [wpForce]
  have hd1 : Below v5a.heap.size v5a v5a.drew := (Below.refl _ _).drew
  generalize v5a.drew = v1b at *
  go_wp2_with (go_at_call 21; refine (HTC.out.plan _ (Ba.out.trans (hd1.mono Ba.out.size))).mono ?_; rintro e v2b ⟨qb, rfl, hqd, hqa, hb2⟩)
  have hd2 := hd1.trans (hb2.mono hd1.size)
  refine Ends.intro ⟨Cls.here hd2, ?_⟩
  go_wp2_with (go_at_call 29; refine (HTC.out.ends false Y _ (Ba.out.trans (hd2.mono Ba.out.size))).mono ?_; rintro e v3b ⟨ub, rfl, hud, hua, hun, hb3⟩)
  have hd3 := hd2.trans (hb3.mono hd2.size)
  refine Ends.intro ⟨Cls.here hd3, ?_⟩
  go_wp2_with (go_at_call 23; refine (HTC.out.truthE false Y ub _ hud hua hun).mono ?_; rintro e v4b ⟨xb, rfl, hxd, hxa, hxn, hb4⟩)
  have hd4 := hd3.trans (hb4.mono hd3.size)
  refine Ends.intro ⟨Cls.here hd4, ?_⟩
  have hqa4 : qb.At v4b v4b.heap.size := (hqa.below hb3 hb3.size).below hb4 hb4.size
  go_wp2_with (go_at_call 22; refine (HTC.out.runE false Y qb xb _ hqd hxd hqa4 hxa).mono ?_; rintro e v5b ⟨Ab, cb, ysb, rfl, hys, hym, hya, hb5⟩)
  have hd5 := hd4.trans (hb5.mono hd4.size)
  refine Ends.intro ⟨Cls.here hd5, ?_⟩
  have HYSb := Lib.hid hys
  have HYMb := Lib.hid hym
  have HYAb := Lib.hid hya
  have Db := Lib.hid hd5
  have Lb := Lib.hid (La.out.call hd5)
  have Bb := Lib.hid (Ba.out.trans (hd5.mono Ba.out.size))
  clear hys hym hya hqa hqd hua hud hun hxa hxd hxn hqa4 hb2 hb3 hb4 hb5 hd1 hd2 hd3 hd4 hd5 La Ba HRG r7
  change wpQuiet _ _ _ _ (_ :: _ :: _ :: _ :: _ :: []) _
  repeat (first | go_big_quiet_step (rfl) | quiet_step (rfl))
  refine wpQuiet_nil ?_
  go_upto_region 7 with (fail)
  as_aux_lemma =>
  have hrg : ∀ W, (∃ c : Cls (fun W => Below v5b.heap.size v5b W), W = c.val) → W.rangeAt w.heap.size 0 p.cells := by
    rintro W ⟨c, rfl⟩
    exact Lies.range (cs := p.cells) (Lb.out.call c.h) (fun j v hj => by simpa using hj)
  have r7 : ∀ c : Cls (fun W => Below v5b.heap.size v5b W), c.val.cell? ⟨w.heap.size, 7, none⟩ = some (.int .i64 (Y : Int)) := fun c => by rw [← HY.out]; exact (Lb.out.call c.h).at_ 7
  have HRG := Lib.hid hrg
  haveI hnec : Nonempty (Cls (fun W => Below v5b.heap.size v5b W)) := ⟨⟨v5b, Below.refl _ _⟩⟩
  clear hrg
  refine wp_region_whole [([0, 2, 3, 4], [1, 5, 6, 7]), ([8, 9, 10, 11, 12], [])] (fun W => ∃ c : Cls (fun W => Below v5b.heap.size v5b W), W = c.val) (Cls.here (Below.refl _ _).drew) (by kernel_rfl) (by kernel_rfl) ?_
  simp only [wpPhases, List.filterMap_cons, List.filterMap_nil, List.getElem?_toArray, List.getElem?_cons_zero, List.getElem?_cons_succ]
  refine wpQuiet_load_whole (o := ⟨some 55, _, _, _, _, _⟩) ?_ 28 (.tmp 2) ?_ w.heap.size 0 ?_ p.cells _ HRG.out Try.underlying28 rfl size28 ?_
  rfl; rfl; rfl
  simp only [Act.put, List.setIfInBounds_toArray, List.set_cons_zero, List.set_cons_succ]
  refine wpQuiet_load_whole (o := ⟨some 57, _, _, _, _, _⟩) ?_ 28 (.tmp 2) ?_ w.heap.size 0 ?_ p.cells _ HRG.out Try.underlying28 rfl size28 ?_
  rfl; rfl; rfl
  simp only [Act.put, List.setIfInBounds_toArray, List.set_cons_zero, List.set_cons_succ]
  change wpQuiet _ _ _ _ (_ :: _ :: []) _
  repeat (first | go_big_quiet_step (rfl) | quiet_step (rfl))
  refine wpQuiet_nil ?_
  simp only [wpForce]
  have hd1 : Below v5b.heap.size v5b v5b.drew := (Below.refl _ _).drew
  generalize v5b.drew = v1c at *
  go_wp2_with (go_at_call 21; refine (HTC.out.plan _ (Bb.out.trans (hd1.mono Bb.out.size))).mono ?_; rintro e v2c ⟨qc, rfl, hqd, hqa, hb2⟩)
  have hd2 := hd1.trans (hb2.mono hd1.size)
  refine Ends.intro ⟨Cls.here hd2, ?_⟩
  go_wp2_with (go_at_call 29; refine (HTC.out.ends true Y _ (Bb.out.trans (hd2.mono Bb.out.size))).mono ?_; rintro e v3c ⟨uc, rfl, hud, hua, hun, hb3⟩)
  have hd3 := hd2.trans (hb3.mono hd2.size)
  refine Ends.intro ⟨Cls.here hd3, ?_⟩
  go_wp2_with (go_at_call 23; refine (HTC.out.truthE true Y uc _ hud hua hun).mono ?_; rintro e v4c ⟨xc, rfl, hxd, hxa, hxn, hb4⟩)
  have hd4 := hd3.trans (hb4.mono hd3.size)
  refine Ends.intro ⟨Cls.here hd4, ?_⟩
  have hqa4 : qc.At v4c v4c.heap.size := (hqa.below hb3 hb3.size).below hb4 hb4.size
  go_wp2_with (go_at_call 22; refine (HTC.out.runE true Y qc xc _ hqd hxd hqa4 hxa).mono ?_; rintro e v5c ⟨Ac, cc, ysc, rfl, hys, hym, hya, hb5⟩)
  have hd5 := hd4.trans (hb5.mono hd4.size)
  refine Ends.intro ⟨Cls.here hd5, ?_⟩
  have HYSc := Lib.hid hys
  have HYMc := Lib.hid hym
  have HYAc := Lib.hid hya
  have Dc := Lib.hid hd5
  have Lc := Lib.hid (Lb.out.call hd5)
  have Bc := Lib.hid (Bb.out.trans (hd5.mono Bb.out.size))
  clear hys hym hya hqa hqd hua hud hun hxa hxd hxn hqa4 hb2 hb3 hb4 hb5 hd1 hd2 hd3 hd4 hd5 Lb Bb HRG r7
  change wpQuiet _ _ _ _ (_ :: _ :: _ :: _ :: _ :: []) _
  repeat (first | go_big_quiet_step (rfl) | quiet_step (rfl))
  refine wpQuiet_nil ?_
  have d7 : v5c.cell? ⟨w.heap.size, 7, none⟩ = some (.int .i64 (Y : Int)) := by rw [← HY.out]; exact Lc.out.at_ 7
  have hYz : (Y : Int) ≤ 6 := by omega
  have hY0 : (0 : Int) ≤ (Y : Int) := by omega
  go_wp2
  clear d7
  have Dac := Lib.hid (Db.out.trans (Dc.out.mono Db.out.size))
  have D3c := Lib.hid (Da.out.trans (Dac.out.mono Da.out.size))
  clear Da Db
  go_loopw [14, 15, 16, 17, 18, 19] (fun i _ _ _ _ _ wr => ∃ k : Nat, k ≤ Y ∧ i = .int .i64 k ∧ Aside (Below v5c.heap.size v5c wr)) (fun i _ _ _ _ _ _ => Y - (intOf i).toNat)
  case atStart => exact ⟨0, by omega, rfl, Below.refl _ _⟩
  case round =>
    obtain ⟨k, hk, rfl, hb⟩ := hrel
    have d7 : wr.cell? ⟨w.heap.size, 7, none⟩ = some (.int .i64 (Y : Int)) := by rw [← HY.out]; exact (Lc.out.call hb.out).at_ 7
    by_cases hlt : k < Y
    · have hltz : (k : Int) < (Y : Int) := by omega
      have hk0 : (0 : Int) ≤ (k : Int) := by omega
      have LK := Lib.hid (Lc.out.call hb.out)
      have BK := Lib.hid (Bc.out.trans (hb.out.mono Bc.out.size))
      go_upto_region 13 with (fail)
      clear d7
      as_aux_lemma =>
      have hrg : ∀ W, (∃ c : Cls (fun W => Below wr.heap.size wr W), W = c.val) → W.rangeAt w.heap.size 0 p.cells := by
        rintro W ⟨c, rfl⟩
        exact Lies.range (cs := p.cells) (LK.out.call c.h) (fun j v hj => by simpa using hj)
      have HRG := Lib.hid hrg
      haveI hned : Nonempty (Cls (fun W => Below wr.heap.size wr W)) := ⟨⟨wr, Below.refl _ _⟩⟩
      clear hrg
      refine wp_region_whole [([0, 2, 3], [1, 4, 5, 6]), ([7, 8, 9, 10, 11], [])] (fun W => ∃ c : Cls (fun W => Below wr.heap.size wr W), W = c.val) (Cls.here (Below.refl _ _).drew) (by kernel_rfl) (by kernel_rfl) ?_
      simp only [wpPhases, List.filterMap_cons, List.filterMap_nil, List.getElem?_toArray, List.getElem?_cons_zero, List.getElem?_cons_succ]
      refine wpQuiet_load_whole (o := ⟨some 114, _, _, _, _, _⟩) ?_ 28 (.tmp 2) ?_ w.heap.size 0 ?_ p.cells _ HRG.out Try.underlying28 rfl size28 ?_
      rfl; rfl; rfl
      simp only [Act.put, List.setIfInBounds_toArray, List.set_cons_zero, List.set_cons_succ]
      refine wpQuiet_load_whole (o := ⟨some 116, _, _, _, _, _⟩) ?_ 28 (.tmp 2) ?_ w.heap.size 0 ?_ p.cells _ HRG.out Try.underlying28 rfl size28 ?_
      rfl; rfl; rfl
      simp only [Act.put, List.setIfInBounds_toArray, List.set_cons_zero, List.set_cons_succ]
      change wpQuiet _ _ _ _ (_ :: []) _
      repeat (first | go_big_quiet_step (rfl) | quiet_step (rfl))
      refine wpQuiet_nil ?_
      simp only [wpForce]
      have hd1 : Below wr.heap.size wr wr.drew := (Below.refl _ _).drew
      generalize wr.drew = v1d at *
      go_wp2_with (go_at_call 21; refine (HTC.out.plan _ (BK.out.trans (hd1.mono BK.out.size))).mono ?_; rintro e v2d ⟨qd, rfl, hqd, hqa, hb2⟩)
      have hd2 := hd1.trans (hb2.mono hd1.size)
      refine Ends.intro ⟨Cls.here hd2, ?_⟩
      go_wp2_with (go_at_call 29; refine (HTC.out.ends false (k : Int) _ (BK.out.trans (hd2.mono BK.out.size))).mono ?_; rintro e v3d ⟨ud, rfl, hud, hua, hun, hb3⟩)
      have hd3 := hd2.trans (hb3.mono hd2.size)
      refine Ends.intro ⟨Cls.here hd3, ?_⟩
      go_wp2_with (go_at_call 23; refine (HTC.out.truthE false (k : Int) ud _ hud hua hun).mono ?_; rintro e v4d ⟨xd, rfl, hxd, hxa, hxn, hb4⟩)
      have hd4 := hd3.trans (hb4.mono hd3.size)
      refine Ends.intro ⟨Cls.here hd4, ?_⟩
      have hqa4 : qd.At v4d v4d.heap.size := (hqa.below hb3 hb3.size).below hb4 hb4.size
      go_wp2_with (go_at_call 22; refine (HTC.out.runE false (k : Int) qd xd _ hqd hxd hqa4 hxa).mono ?_; rintro e v5d ⟨Ad, cd, ysd, rfl, hys, hym, hya, hb5⟩)
      have hd5 := hd4.trans (hb5.mono hd4.size)
      refine Ends.intro ⟨Cls.here hd5, ?_⟩
      have HYSd := Lib.hid hys
      have HYMd := Lib.hid hym
      have HYAd := Lib.hid hya
      have Dd := Lib.hid hd5
      have Ld := Lib.hid (LK.out.call hd5)
      have Bd := Lib.hid (BK.out.trans (hd5.mono BK.out.size))
      clear hys hym hya hqa hqd hua hud hun hxa hxd hxn hqa4 hb2 hb3 hb4 hb5 hd1 hd2 hd3 hd4 hd5  HRG
      change wpQuiet _ _ _ _ (_ :: _ :: _ :: _ :: _ :: []) _
      repeat (first | go_big_quiet_step (rfl) | quiet_step (rfl))
      refine wpQuiet_nil ?_
      go_upto_region 14 with (fail)
      as_aux_lemma =>
      have hrg : ∀ W, (∃ c : Cls (fun W => Below v5d.heap.size v5d W), W = c.val) → W.rangeAt w.heap.size 0 p.cells := by
        rintro W ⟨c, rfl⟩
        exact Lies.range (cs := p.cells) (Ld.out.call c.h) (fun j v hj => by simpa using hj)
      have HRG := Lib.hid hrg
      haveI hnee : Nonempty (Cls (fun W => Below v5d.heap.size v5d W)) := ⟨⟨v5d, Below.refl _ _⟩⟩
      clear hrg
      refine wp_region_whole [([0, 2, 3], [1, 4, 5, 6]), ([7, 8, 9, 10, 11], [])] (fun W => ∃ c : Cls (fun W => Below v5d.heap.size v5d W), W = c.val) (Cls.here (Below.refl _ _).drew) (by kernel_rfl) (by kernel_rfl) ?_
      simp only [wpPhases, List.filterMap_cons, List.filterMap_nil, List.getElem?_toArray, List.getElem?_cons_zero, List.getElem?_cons_succ]
      refine wpQuiet_load_whole (o := ⟨some 124, _, _, _, _, _⟩) ?_ 28 (.tmp 2) ?_ w.heap.size 0 ?_ p.cells _ HRG.out Try.underlying28 rfl size28 ?_
      rfl; rfl; rfl
      simp only [Act.put, List.setIfInBounds_toArray, List.set_cons_zero, List.set_cons_succ]
      refine wpQuiet_load_whole (o := ⟨some 126, _, _, _, _, _⟩) ?_ 28 (.tmp 2) ?_ w.heap.size 0 ?_ p.cells _ HRG.out Try.underlying28 rfl size28 ?_
      rfl; rfl; rfl
      simp only [Act.put, List.setIfInBounds_toArray, List.set_cons_zero, List.set_cons_succ]
      change wpQuiet _ _ _ _ (_ :: []) _
      repeat (first | go_big_quiet_step (rfl) | quiet_step (rfl))
      refine wpQuiet_nil ?_
      simp only [wpForce]
      have hd1 : Below v5d.heap.size v5d v5d.drew := (Below.refl _ _).drew
      generalize v5d.drew = v1e at *
      go_wp2_with (go_at_call 21; refine (HTC.out.plan _ (Bd.out.trans (hd1.mono Bd.out.size))).mono ?_; rintro e v2e ⟨qe, rfl, hqd, hqa, hb2⟩)
      have hd2 := hd1.trans (hb2.mono hd1.size)
      refine Ends.intro ⟨Cls.here hd2, ?_⟩
      go_wp2_with (go_at_call 29; refine (HTC.out.ends true (k : Int) _ (Bd.out.trans (hd2.mono Bd.out.size))).mono ?_; rintro e v3e ⟨ue, rfl, hud, hua, hun, hb3⟩)
      have hd3 := hd2.trans (hb3.mono hd2.size)
      refine Ends.intro ⟨Cls.here hd3, ?_⟩
      go_wp2_with (go_at_call 23; refine (HTC.out.truthE true (k : Int) ue _ hud hua hun).mono ?_; rintro e v4e ⟨xe, rfl, hxd, hxa, hxn, hb4⟩)
      have hd4 := hd3.trans (hb4.mono hd3.size)
      refine Ends.intro ⟨Cls.here hd4, ?_⟩
      have hqa4 : qe.At v4e v4e.heap.size := (hqa.below hb3 hb3.size).below hb4 hb4.size
      go_wp2_with (go_at_call 22; refine (HTC.out.runE true (k : Int) qe xe _ hqd hxd hqa4 hxa).mono ?_; rintro e v5e ⟨Ae, ce, yse, rfl, hys, hym, hya, hb5⟩)
      have hd5 := hd4.trans (hb5.mono hd4.size)
      refine Ends.intro ⟨Cls.here hd5, ?_⟩
      have HYSe := Lib.hid hys
      have HYMe := Lib.hid hym
      have HYAe := Lib.hid hya
      have De := Lib.hid hd5
      have Le := Lib.hid (Ld.out.call hd5)
      have Be := Lib.hid (Bd.out.trans (hd5.mono Bd.out.size))
      clear hys hym hya hqa hqd hua hud hun hxa hxd hxn hqa4 hb2 hb3 hb4 hb5 hd1 hd2 hd3 hd4 hd5 Ld Bd HRG
      change wpQuiet _ _ _ _ (_ :: _ :: _ :: _ :: _ :: []) _
      repeat (first | go_big_quiet_step (rfl) | quiet_step (rfl))
      refine wpQuiet_nil ?_
      go_upto_region 15 with (fail)
      have hce : Below v5c.heap.size v5c v5e := hb.out.trans ((Dd.out.trans (De.out.mono Dd.out.size)).mono hb.out.size)
      have hae := Dac.out.trans (hce.mono Dac.out.size)
      have hbe := Dc.out.trans (hce.mono Dc.out.size)
      have h3e := D3c.out.trans (hce.mono D3c.out.size)
      have hde := De.out
      obtain ⟨b0, o0, y0, rfl, Q0⟩ := bnd_all (n := p.s.l.length) HBS.out HBM.out HBA.out (bnd_lens2 p.d k) hlt
      obtain ⟨ba, oa, ya, rfl, Qa⟩ := year_all (n := p.s.l.length) HYSa.out.sl HYMa.out HYAa.out (told_lens hn5) hlt
      obtain ⟨bb, ob, yb, rfl, Qb⟩ := year_all (n := p.s.l.length) HYSb.out.sl HYMb.out HYAb.out (told_lens hn5) hlt
      obtain ⟨bc, oc, yc, rfl, Qc⟩ := year_all (n := p.s.l.length) HYSc.out.sl HYMc.out HYAc.out (told_lens hn5) hlt
      obtain ⟨bd, od, yd, rfl, Qd⟩ := year_all (n := p.s.l.length) HYSd.out.sl HYMd.out HYAd.out (told_lens hn5) hlt
      obtain ⟨be, oe, ye, rfl, Qe⟩ := year_all (n := p.s.l.length) HYSe.out.sl HYMe.out HYAe.out (told_lens hn5) hlt
      have M0 := Lib.hid (Q0.below h3e)
      have Ma := Lib.hid (Qa.below hae)
      have Mb := Lib.hid (Qb.below hbe)
      have Mc := Lib.hid (Qc.below hce)
      have Md := Lib.hid (Qd.below hde)
      have Me := Lib.hid Qe
      have HCE := Lib.hid hce
      have HTI := Lib.hid (fun (t : Nat) (ht : t < p.s.l.length) => truth_in HV.out HY.out (pick_fits HV.out HY.out ws.l) hlt ht)
      have HTE := Lib.hid (fun (t : Nat) (ht : t < p.s.l.length) => truth_ends HV.out (Y := Y) hlt ht)
      clear Q0 Qa Qb Qc Qd Qe hae hbe h3e hde hce HBS HBM HBA HYSa HYMa HYAa HYSb HYMb HYAb HYSc HYMc HYAc HYSd HYMd HYAd HYSe HYMe HYAe Dd De hb LK BK Be
      have d7 : v5e.cell? ⟨w.heap.size, 7, none⟩ = some (.int .i64 (Y : Int)) := by rw [← HY.out]; exact Le.out.at_ 7
      have hn0 : (0 : Int) ≤ (p.s.l.length : Int) := by omega
      as_aux_lemma =>
      obtain ⟨c0, c1', c2, c3⟩ := M0.out.h v5e (Below.refl _ _)
      go_wp2_with (fail)
      refine (bounded_any _ _ _ _ _ _ _ _ _ _ hn5).mono ?_
      rintro e x0 ⟨rfl, hx⟩
      have HX0 := Lib.hid hx
      clear c0 c1' c2 c3 d7 hx
      obtain ⟨c0, c1', c2, c3⟩ := Ma.out.h x0 HX0.out
      go_wp2_with (fail)
      refine (whole_any _ _ _ _ _ _ _ _ _ _).mono ?_
      rintro e x1 ⟨rfl, hx⟩
      have HX1 := Lib.hid (HX0.out.trans (hx.mono HX0.out.size))
      clear c0 c1' c2 c3 hx HX0
      obtain ⟨c0, c1', c2, c3⟩ := Mb.out.h x1 HX1.out
      go_wp2_with (fail)
      refine (whole_any _ _ _ _ _ _ _ _ _ _).mono ?_
      rintro e x2 ⟨rfl, hx⟩
      have HX2 := Lib.hid (HX1.out.trans (hx.mono HX1.out.size))
      clear c0 c1' c2 c3 hx HX1
      obtain ⟨c0, c1', c2, c3⟩ := Mc.out.h x2 HX2.out
      go_wp2_with (fail)
      refine (whole_any _ _ _ _ _ _ _ _ _ _).mono ?_
      rintro e x3 ⟨rfl, hx⟩
      have HX3 := Lib.hid (HX2.out.trans (hx.mono HX2.out.size))
      clear c0 c1' c2 c3 hx HX2
      obtain ⟨c0, c1', c2, c3⟩ := Md.out.h x3 HX3.out
      go_wp2_with (fail)
      refine (whole_any _ _ _ _ _ _ _ _ _ _).mono ?_
      rintro e x4 ⟨rfl, hx⟩
      have HX4 := Lib.hid (HX3.out.trans (hx.mono HX3.out.size))
      clear c0 c1' c2 c3 hx HX3
      obtain ⟨c0, c1', c2, c3⟩ := Me.out.h x4 HX4.out
      go_wp2_with (fail)
      refine (whole_any _ _ _ _ _ _ _ _ _ _).mono ?_
      rintro e x5 ⟨rfl, hx⟩
      have HX5 := Lib.hid (HX4.out.trans (hx.mono HX4.out.size))
      clear c0 c1' c2 c3 hx HX4
      go_wp2
      go_loopw [19] (fun i wz => ∃ t : Nat, t ≤ p.s.l.length ∧ i = .int .i64 t ∧ Aside (Below v5e.heap.size v5e wz)) (fun i _ => p.s.l.length - (intOf i).toNat)
      case atStart => exact ⟨0, by omega, rfl, HX5.out⟩
      case round =>
        obtain ⟨t, ht, rfl, hz⟩ := hrel
        by_cases htl : t < p.s.l.length
        · have htz : (t : Int) < (p.s.l.length : Int) := by omega
          have ht0 : (0 : Int) ≤ (t : Int) := by omega
          obtain ⟨a, b, c, e, ra, rb, rc, re, ⟨ta, tb, tc, te⟩, ⟨ga, gb, gc, ge⟩, ⟨ia0, ia1⟩, ⟨ib0, ib1⟩, ⟨ic0, ic1⟩, ⟨ie0, ie1⟩⟩ := HTI.out t htl
          obtain ⟨ra', rb', rc', re', ⟨ga', gb', gc', ge'⟩, ⟨la, lb, le⟩, ⟨ua, ub, ue⟩, lc, uc⟩ := HTE.out t htl
          obtain rfl : ra = ra' := Option.some.inj (ga.symm.trans ga')
          obtain rfl : rb = rb' := Option.some.inj (gb.symm.trans gb')
          obtain rfl : rc = rc' := Option.some.inj (gc.symm.trans gc')
          obtain rfl : re = re' := Option.some.inj (ge.symm.trans ge')
          have hb0 := M0.out.h
          have hba := Ma.out.h
          have hbb := Mb.out.h
          have hbc := Mc.out.h
          have hbd := Md.out.h
          have hbe := Me.out.h
          obtain ⟨ma, za, k0a, q0a⟩ := M0.out.r1 t ra ga
          obtain ⟨mb, zb, k0b, q0b⟩ := M0.out.r2 t rb gb
          obtain ⟨mc, zc, k0c, q0c⟩ := M0.out.r3 t rc gc
          obtain ⟨me, ze, k0e, q0e⟩ := M0.out.r4 t re ge
          rw [k0a, k0b, k0c, k0e] at hb0
          obtain ⟨na, wa, kaa, qaa⟩ := Ma.out.r1 t a ta
          obtain ⟨nb, wb, kab, qab⟩ := Ma.out.r2 t b tb
          obtain ⟨nc, wc, kac, qac⟩ := Ma.out.r3 t c tc
          obtain ⟨ne, we, kae, qae⟩ := Ma.out.r4 t e te
          rw [kaa, kab, kac, kae] at hba
          obtain ⟨pa, xa, kba, qba⟩ := Mb.out.r1 t ra.1 la
          obtain ⟨pb, xb, kbb, qbb⟩ := Mb.out.r2 t rb.1 lb
          obtain ⟨pe, xe, kbe, qbe⟩ := Mb.out.r4 t re.1 le
          rw [kba, kbb, kbe] at hbb
          obtain ⟨sa, va, kca, qca⟩ := Mc.out.r1 t ra.2 ua
          obtain ⟨sb, vb, kcb, qcb⟩ := Mc.out.r2 t rb.2 ub
          obtain ⟨se, ve, kce, qce⟩ := Mc.out.r4 t re.2 ue
          rw [kca, kcb, kce] at hbc
          obtain ⟨pc, xc, kdc, qdc⟩ := Md.out.r3 t rc.1 lc
          rw [kdc] at hbd
          obtain ⟨sc, vc, kec, qec⟩ := Me.out.r3 t rc.2 uc
          rw [kec] at hbe
          have H0 := Lib.hid hb0
          have HA := Lib.hid hba
          have HB := Lib.hid hbb
          have HC := Lib.hid hbc
          have HD := Lib.hid hbd
          have HE := Lib.hid hbe
          have I0a := Lib.hid q0a
          have I0b := Lib.hid q0b
          have I0c := Lib.hid q0c
          have I0e := Lib.hid q0e
          have Iaa := Lib.hid qaa
          have Iab := Lib.hid qab
          have Iac := Lib.hid qac
          have Iae := Lib.hid qae
          have Iba := Lib.hid qba
          have Ibb := Lib.hid qbb
          have Ibe := Lib.hid qbe
          have Ica := Lib.hid qca
          have Icb := Lib.hid qcb
          have Ice := Lib.hid qce
          have Idc := Lib.hid qdc
          have Iec := Lib.hid qec
          clear hb0 hba hbb hbc hbd hbe q0a q0b q0c q0e qaa qab qac qae qba qbb qbe qca qcb qce qdc qec k0a k0b k0c k0e kaa kab kac kae kba kbb kbe kca kcb kce kdc kec ga gb gc ge ga' gb' gc' ge' ta tb tc te la lb le ua ub ue lc uc
          have r1 := cell_regrown (H0.out wr hz.out).1
          have r2 := cell_regrown (H0.out wr hz.out).2.1
          have r3 := cell_regrown (H0.out wr hz.out).2.2.1
          have r4 := cell_regrown (H0.out wr hz.out).2.2.2
          have r5 := cell_regrown (HA.out wr hz.out).1
          have r6 := cell_regrown (HA.out wr hz.out).2.1
          have r7 := cell_regrown (HA.out wr hz.out).2.2.1
          have r8 := cell_regrown (HA.out wr hz.out).2.2.2
          have s1 := cell_regrown (I0a.out wr hz.out).1
          have s2 := cell_regrown (I0a.out wr hz.out).2
          have s3 := cell_regrown (I0b.out wr hz.out).1
          have s4 := cell_regrown (I0b.out wr hz.out).2
          have s5 := cell_regrown (I0c.out wr hz.out).1
          have s6 := cell_regrown (I0c.out wr hz.out).2
          have s7 := cell_regrown (I0e.out wr hz.out).1
          have s8 := cell_regrown (I0e.out wr hz.out).2
          have t1 := cell_regrown (Iaa.out wr hz.out)
          have t2 := cell_regrown (Iab.out wr hz.out)
          have t3 := cell_regrown (Iac.out wr hz.out)
          have t4 := cell_regrown (Iae.out wr hz.out)
          go_wp2_with (fail)
          simp only [List.append_eq, List.cons_append, List.nil_append]
          refine wp_region_quiet_below (by as_aux_lemma => kernel_rfl) (by as_aux_lemma => kernel_rfl) ?_
          repeat (first | go_big_quiet_step ((go_at_call 55; refine Calls.regrown_of (in_any _ _ _ (by assumption) (by assumption) _))) | quiet_step ((go_at_call 55; refine Calls.regrown_of (in_any _ _ _ (by assumption) (by assumption) _))))
          refine wpQuiet_nil ?_
          intro wq hwq
          have hbq : Below wr.heap.size wr wq := (by obtain ⟨p, rfl⟩ := hwq; exact below_regrown _ _ _)
          clear hwq
          clear r1 r2 r3 r4 r5 r6 r7 r8 s1 s2 s3 s4 s5 s6 s7 s8 t1 t2 t3 t4 ia0 ia1 ib0 ib1 ic0 ic1 ie0 ie1
          have hzq : Below v5e.heap.size v5e wq := hz.out.trans (hbq.mono hz.out.size)
          have HZ := Lib.hid hzq
          clear hbq hzq hz
          as_aux_lemma =>
          have r1 := cell_regrown (H0.out wq HZ.out).1
          have r2 := cell_regrown (H0.out wq HZ.out).2.1
          have r3 := cell_regrown (H0.out wq HZ.out).2.2.1
          have r4 := cell_regrown (H0.out wq HZ.out).2.2.2
          have s1 := cell_regrown (I0a.out wq HZ.out).1
          have s2 := cell_regrown (I0a.out wq HZ.out).2
          have s3 := cell_regrown (I0b.out wq HZ.out).1
          have s4 := cell_regrown (I0b.out wq HZ.out).2
          have s5 := cell_regrown (I0c.out wq HZ.out).1
          have s6 := cell_regrown (I0c.out wq HZ.out).2
          have s7 := cell_regrown (I0e.out wq HZ.out).1
          have s8 := cell_regrown (I0e.out wq HZ.out).2
          have b1 := cell_regrown (HB.out wq HZ.out).1
          have b2 := cell_regrown (HB.out wq HZ.out).2.1
          have b4 := cell_regrown (HB.out wq HZ.out).2.2.2
          have b5 := cell_regrown (Iba.out wq HZ.out)
          have b6 := cell_regrown (Ibb.out wq HZ.out)
          have b8 := cell_regrown (Ibe.out wq HZ.out)
          have h1 := cell_regrown (HC.out wq HZ.out).1
          have h2 := cell_regrown (HC.out wq HZ.out).2.1
          have h4 := cell_regrown (HC.out wq HZ.out).2.2.2
          have h5 := cell_regrown (Ica.out wq HZ.out)
          have h6 := cell_regrown (Icb.out wq HZ.out)
          have h8 := cell_regrown (Ice.out wq HZ.out)
          have e1 := cell_regrown (HD.out wq HZ.out).2.2.1
          have e2 := cell_regrown (Idc.out wq HZ.out)
          have e3 := cell_regrown (HE.out wq HZ.out).2.2.1
          have e4 := cell_regrown (Iec.out wq HZ.out)
          go_wp2_with (fail)
          (try simp only [List.append_eq, List.cons_append, List.nil_append])
          refine wp_region_quiet_below (by as_aux_lemma => kernel_rfl) (lexB_five 22 (by rfl) (by as_aux_lemma => kernel_rfl) (by as_aux_lemma => kernel_rfl) (by as_aux_lemma => kernel_rfl) (by as_aux_lemma => kernel_rfl) (by as_aux_lemma => kernel_rfl) (by as_aux_lemma => kernel_rfl) (by as_aux_lemma => kernel_rfl)) ?_
          as_aux_lemma =>
          iterate 18 (first | go_big_quiet_step (fail) | quiet_step (fail))
          as_aux_lemma =>
          iterate 18 (first | go_big_quiet_step (fail) | quiet_step (fail))
          as_aux_lemma =>
          iterate 18 (first | go_big_quiet_step (fail) | quiet_step (fail))
          as_aux_lemma =>
          iterate 18 (first | go_big_quiet_step (fail) | quiet_step (fail))
          as_aux_lemma =>
          iterate 18 (first | go_big_quiet_step (fail) | quiet_step (fail))
          as_aux_lemma =>
          repeat (first | go_big_quiet_step (fail) | quiet_step (fail))
          refine wpQuiet_nil ?_
          intro wq2 hwq2
          have hbq : Below wq.heap.size wq wq2 := (by obtain ⟨p, rfl⟩ := hwq2; exact below_regrown _ _ _)
          clear hwq2 r1 r2 r3 r4 s1 s2 s3 s4 s5 s6 s7 s8 b1 b2 b4 b5 b6 b8 h1 h2 h4 h5 h6 h8 e1 e2 e3 e4
          go_wp2
          go_roundw
          case rel => exact ⟨t + 1, by omega, by go_num, HZ.out.trans (hbq.mono HZ.out.size)⟩
          case measure => simp [intOf]; omega
        · obtain rfl : t = p.s.l.length := by omega
          go_wp2
          go_roundw
          case rel => exact ⟨k + 1, by omega, by go_num, HCE.out.trans (hz.out.mono HCE.out.size)⟩
          case measure => simp [intOf]; omega
    · obtain rfl : k = Y := by omega
      go_wp2_with (go_at_call 19; refine (awake_any _).mono ?_; rintro e w9 ⟨rfl, hb9⟩)
      go_ret
      have hx := Bc.out.trans (hb.out.mono Bc.out.size)
      exact ⟨rfl, hx.trans (hb9.mono hx.size)⟩
theorem StockTruth_walk (p : PlM) (ws : Sv Nat) (w : World) (hp : p.Lay w w.heap.size) (hm : (∀ x, x ∈ ws.l → x < 65536) ∧ ws.l.length ≤ 9223372036854775807) (hA : Sl w w.heap.size 1 encW ws.A ws.l) :
    Calls Try.prog 9 #[.agg p.cells.toArray, .slice ws.A ws.l.length ws.c] w fun e w' => e = .returned (.bool true) ∧ Below w.heap.size w w' := by
  cases hr : readyB p with
  | false => exact Truths_no p ws w hp hr
  | true => exact Truths_yes p ws w hp hr hA hm.1 hm.2
end Go.Proofs.Ytfehdkdhmkockaa
