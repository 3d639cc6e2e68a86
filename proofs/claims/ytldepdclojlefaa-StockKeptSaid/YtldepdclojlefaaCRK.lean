/- StockKept. -/
import Derived.Test.YtldepdclojlefaaGH
namespace Go.Proofs.Ytldepdclojlefaa
open Go.RowKit Go.Lib

theorem PlM.Lay.wb {p : PlM} {w : World} (h : p.Lay w w.heap.size) {W : World} (hb : Below w.heap.size w W) : p.Lay W W.heap.size := h.below hb hb.size
set_option maxRecDepth 100000 in
set_option maxHeartbeats 1000000 in
theorem Kept_no (p : PlM) (ws : Sv Nat) (w : World) (hp : p.Lay w w.heap.size) (hr : readyB p = false) : Calls Try.prog 10 #[.agg p.cells.toArray, .slice ws.A ws.l.length ws.c] w fun e w' => e = .returned (.bool true) ∧ Below w.heap.size w w' := by
  have l0 : Lies (w.alloc (.cells p.cells.toArray 28)) w.heap.size 28 p.cells.toArray := Lies.fresh _ _ _
  have b0 : Below w.heap.size w (w.alloc (.cells p.cells.toArray 28)) := (Below.refl _ _).alloc (Nat.le_refl _) _
  have hR := ready_any p _ (hp.below b0 b0.size)
  rw [hr] at hR
  have L0 := Lib.hid l0
  have B0 := Lib.hid b0
  have HR := Lib.hid hR
  clear l0 b0 hR hp hr
  unfold PlM.cells at HR ⊢
  go_enter Try.func10, Try.ntmps10
  go_wp2_with (first
    | (refine wpList_load_row (o := ⟨some 14, _, _, _, _, _⟩) ?_ 28 (.tmp 2) ?_ w.heap.size ?_ 28 p.cells.toArray (0, 0) _ L0.out Try.underlying28 rfl size28 ?_; rfl; rfl; rfl)
    | (go_at_call 51; refine HR.out.mono ?_; rintro e w1 ⟨rfl, hb1⟩)
    | (go_at_call 19; refine (awake_any _).mono ?_; rintro e w2 ⟨rfl, hb2⟩))
  go_ret
  have hx := B0.out.trans (hb1.mono B0.out.size)
  exact ⟨rfl, hx.trans (hb2.mono hx.size)⟩
/-- What is picked fits. -/
theorem pick_fits {p : PlM} (hv : p.Valid) {Y : Nat} (hY : p.years = (Y : Int)) (ws : List Nat) : fitD p.d (pickD p.d Y ws) = true := by
  unfold pickD
  refine fit_mkT hv hY (fun s hs => pickN_has ?_ ws _) (fun y s k _ hs hk => pickN_has ?_ ws _) (fun y _ => inB_iff.2 (pickN_in (r := (p.d.lo, p.d.hi)) ?_ ws _))
  · obtain ⟨r, hr⟩ : ∃ r, p.s.l[s]? = some r := ⟨p.s.l[s], by simp [hs]⟩
    have h := hv.sb r (List.mem_of_getElem? hr)
    have e : p.d.s.getD s (0, 0) = r := by show p.s.l.getD s (0, 0) = r; simp [List.getD, hr]
    rw [e]; exact h.2.1
  · obtain ⟨x, hx⟩ : ∃ x, p.g.l[s]? = some x := ⟨p.g.l[s]'(by rw [hv.g]; exact hs), by simp⟩
    have hxm := List.mem_of_getElem? hx
    obtain ⟨r, hr⟩ : ∃ r, x.l[k]? = some r := ⟨x.l[k]'(by rw [hv.gl x hxm]; exact hk), by simp⟩
    have h := hv.gb x hxm r (List.mem_of_getElem? hr)
    have e : (p.d.g.getD s []).getD k (0, 0) = r := by show ((p.g.l.map (·.l)).getD s []).getD k (0, 0) = r; simp [List.getD, hx, hr]
    rw [e]; exact h.2.1
  · exact hv.l.2.1
theorem pick_sizes (d : PD) (Y : Nat) (ws : List Nat) : (pickD d Y ws).s.length = d.s.length ∧ (pickD d Y ws).g.length = Y ∧ (∀ y, y ∈ (pickD d Y ws).g → y.length = d.s.length) ∧ (∀ y, y ∈ (pickD d Y ws).g → ∀ r, r ∈ y → r.length = d.s.length) ∧ (pickD d Y ws).l.length = Y := by
  unfold pickD mkT
  refine ⟨by simp, by simp, fun y hy => ?_, fun y hy r hr => ?_, by simp⟩
  · obtain ⟨i, _, rfl⟩ := List.mem_map.1 hy
    simp
  · obtain ⟨i, _, rfl⟩ := List.mem_map.1 hy
    obtain ⟨j, _, rfl⟩ := List.mem_map.1 hr
    simp
/-- The law's Truth of a truth whose lists are short. -/
theorem Truth_law (u : TrM) (T : TD) (n Y : Nat) (W : World) (hT : u.d = T) (hu : u.At W W.heap.size) (hn : u.Nil) (hs : T.s.length = n ∧ T.g.length = Y ∧ (∀ y, y ∈ T.g → y.length = n) ∧ (∀ y, y ∈ T.g → ∀ r, r ∈ y → r.length = n) ∧ T.l.length = Y) (hn5 : n ≤ 5) (hY : Y ≤ 6) :
    Calls Try.prog 23 #[.agg u.cells.toArray] W (RetT T W) := by
  subst hT
  obtain ⟨h1, h2, h3, h4, h5⟩ := hs
  refine Truth_any u W hu hn ?_ ?_ (fun y hy => ?_) (fun y hy r hr => ?_) ?_
  · have : u.d.s.length = u.s.l.length := rfl
    omega
  · have : u.d.g.length = u.g.l.length := by simp [TrM.d]
    omega
  · have := h3 (y.l.map (·.l)) (List.mem_map.2 ⟨y, hy, rfl⟩)
    rw [List.length_map] at this
    omega
  · have := h4 (y.l.map (·.l)) (List.mem_map.2 ⟨y, hy, rfl⟩) r.l (List.mem_map.2 ⟨r, hr, rfl⟩)
    omega
  · have : u.d.l.length = u.l.l.length := rfl
    omega
set_option maxRecDepth 100000 in
set_option maxHeartbeats 4000000 in
theorem Kept_yes (p : PlM) (ws : Sv Nat) (w : World) (hp : p.Lay w w.heap.size) (hr : readyB p = true) (hA : Sl w w.heap.size 1 encW ws.A ws.l) (hw : ∀ x, x ∈ ws.l → x < 65536) (hl : ws.l.length ≤ 9223372036854775807) :
    Calls Try.prog 10 #[.agg p.cells.toArray, .slice ws.A ws.l.length ws.c] w fun e w' => e = .returned (.bool true) ∧ Below w.heap.size w w' := by
  obtain ⟨ht, hf⟩ := ready_iff.1 hr
  have hat := hp.at ht
  have hv := fault_zero hf
  obtain ⟨Y, hY⟩ : ∃ Y : Nat, p.years = (Y : Int) := ⟨p.years.toNat, years_nat hv⟩
  have hY6 : Y ≤ 6 := by have := hv.y; omega
  have hn5 := hv.ok.n
  have l0 : Lies (w.alloc (.cells p.cells.toArray 28)) w.heap.size 28 p.cells.toArray := Lies.fresh _ _ _
  have b0 : Below w.heap.size w (w.alloc (.cells p.cells.toArray 28)) := (Below.refl _ _).alloc (Nat.le_refl _) _
  have hR := ready_any p _ (hp.below b0 b0.size)
  rw [hr] at hR
  have hP : ∀ W, Below w.heap.size w W → Calls Try.prog 21 #[.agg p.cells.toArray] W (RetP p W) := fun W hb => Plan_any p W (hat.below hb hb.size) hp.nr hp.ne hp.nk
  have hK : ∀ W, Below w.heap.size w W → Calls Try.prog 52 #[.agg p.cells.toArray, .slice ws.A ws.l.length ws.c] W (RetT (pickD p.d Y ws.l) W) := fun W hb => Picked_any p Y ws.A ws.c ws.l W (hat.below hb hb.size) hv hY ((hA.below hb).more hb.size) hw hl
  have hT : ∀ (u : TrM) (W : World), u.d = pickD p.d Y ws.l → u.At W W.heap.size → u.Nil → Calls Try.prog 23 #[.agg u.cells.toArray] W (RetT (pickD p.d Y ws.l) W) := fun u W h1 h2 h3 => Truth_law u _ p.s.l.length Y W h1 h2 h3 (pick_sizes p.d Y ws.l) hn5 hY6
  have hRun : ∀ (q : PlM) (u : TrM) (W : World), q.d = p.d → u.d = pickD p.d Y ws.l → q.At W W.heap.size → u.At W W.heap.size → Calls Try.prog 22 #[.agg q.cells.toArray, .agg u.cells.toArray] W (RetR (fun k => toldL p.d.s.length (yrT p.d (pickD p.d Y ws.l) k)) Y W) := fun q u W h1 h2 h3 h4 =>
    Run_law q u p.d _ Y W h1 h2 h3 h4 (by rw [fault_congr h1]; exact hf) (pick_fits hv hY ws.l) (by rw [← hY]; show q.d.years = _; rw [h1]; rfl)
  have L0 := Lib.hid l0
  have B0 := Lib.hid b0
  have HR := Lib.hid hR
  have HPL := Lib.hid hP
  have HPK := Lib.hid hK
  have HTR := Lib.hid hT
  have HRU := Lib.hid hRun
  have HV := Lib.hid hv
  have HAT := Lib.hid hat
  have HY := Lib.hid hY
  clear l0 b0 hR hp hr hat hv hf hY ht hP hK hT hRun hA hw hl
  unfold PlM.cells at HR ⊢
  go_enter Try.func10, Try.ntmps10
  go_upto_region 3 with (first
    | (refine wpList_load_row (o := ⟨some 14, _, _, _, _, _⟩) ?_ 28 (.tmp 2) ?_ w.heap.size ?_ 28 p.cells.toArray (0, 0) _ L0.out Try.underlying28 rfl size28 ?_; rfl; rfl; rfl)
    | (go_at_call 51; refine HR.out.mono ?_; rintro e w1 ⟨rfl, hb1⟩; have L1 := Lib.hid (L0.out.call hb1); have B1 := Lib.hid (B0.out.trans (hb1.mono B0.out.size))))
  have hrg : ∀ W, (∃ c : Cls (fun W => Below w1.heap.size w1 W), W = c.val) → W.rangeAt w.heap.size 0 p.cells := by
    rintro W ⟨c, rfl⟩
    exact Lies.range (cs := p.cells) (L1.out.call c.h) (fun j v hj => by simpa using hj)
  have HRG := Lib.hid hrg
  haveI hne : Nonempty (Cls (fun W => Below w1.heap.size w1 W)) := ⟨⟨w1, Below.refl _ _⟩⟩
  clear hrg hb1 L0 B0 HR
  refine wp_region_whole [([0, 2, 3], [1, 4, 5, 6]), ([7, 8, 9, 10, 11], [])] (fun W => ∃ c : Cls (fun W => Below w1.heap.size w1 W), W = c.val) (Cls.here (Below.refl _ _).drew) (by kernel_rfl) (by kernel_rfl) ?_
  simp only [wpPhases, List.filterMap_cons, List.filterMap_nil, List.getElem?_toArray, List.getElem?_cons_zero, List.getElem?_cons_succ]
  refine wpQuiet_load_whole (o := ⟨some 19, _, _, _, _, _⟩) ?_ 28 (.tmp 2) ?_ w.heap.size 0 ?_ p.cells _ HRG.out Try.underlying28 rfl size28 ?_
  rfl; rfl; rfl
  simp only [Act.put, List.setIfInBounds_toArray, List.set_cons_zero, List.set_cons_succ]
  refine wpQuiet_load_whole (o := ⟨some 21, _, _, _, _, _⟩) ?_ 28 (.tmp 2) ?_ w.heap.size 0 ?_ p.cells _ HRG.out Try.underlying28 rfl size28 ?_
  rfl; rfl; rfl
  simp only [Act.put, List.setIfInBounds_toArray, List.set_cons_zero, List.set_cons_succ]
  change wpQuiet _ _ _ _ (_ :: []) _
  repeat (first | go_big_quiet_step (fail) | quiet_step (fail))
  refine wpQuiet_nil ?_
  simp only [wpForce]
  have hd1 : Below w1.heap.size w1 w1.drew := (Below.refl _ _).drew
  generalize w1.drew = v1 at *
  go_wp2_with (go_at_call 21; refine (HPL.out _ (B1.out.trans (hd1.mono B1.out.size))).mono ?_; rintro e v2 ⟨q, rfl, hqd, hqa, hb2⟩)
  have hd2 := hd1.trans (hb2.mono hd1.size)
  refine Ends.intro ⟨Cls.here hd2, ?_⟩
  go_wp2_with (go_at_call 52; refine (HPK.out _ (B1.out.trans (hd2.mono B1.out.size))).mono ?_; rintro e v3 ⟨u, rfl, hud, hua, hun, hb3⟩)
  have hd3 := hd2.trans (hb3.mono hd2.size)
  refine Ends.intro ⟨Cls.here hd3, ?_⟩
  go_wp2_with (go_at_call 23; refine (HTR.out u _ hud hua hun).mono ?_; rintro e v4 ⟨x, rfl, hxd, hxa, hxn, hb4⟩)
  have hd4 := hd3.trans (hb4.mono hd3.size)
  refine Ends.intro ⟨Cls.here hd4, ?_⟩
  have hqa4 : q.At v4 v4.heap.size := (hqa.below hb3 hb3.size).below hb4 hb4.size
  go_wp2_with (go_at_call 22; refine (HRU.out q x _ hqd hxd hqa4 hxa).mono ?_; rintro e v5 ⟨A1, c1, ys, rfl, hys, hym, hya, hb5⟩)
  have hd5 := hd4.trans (hb5.mono hd4.size)
  refine Ends.intro ⟨Cls.here hd5, ?_⟩
  have HYS := Lib.hid hys
  have HYM := Lib.hid hym
  have HYA := Lib.hid hya
  have L5 := Lib.hid (L1.out.call hd5)
  have B5 := Lib.hid (B1.out.trans (hd5.mono B1.out.size))
  have hkp : ∀ k i, k < Y → i < p.s.l.length → ∃ a b c d : Int, (toldL p.d.s.length (yrT p.d (pickD p.d Y ws.l) k)).1[i]? = some a ∧ (toldL p.d.s.length (yrT p.d (pickD p.d Y ws.l) k)).2.1[i]? = some b ∧ (toldL p.d.s.length (yrT p.d (pickD p.d Y ws.l) k)).2.2.1[i]? = some c ∧ (toldL p.d.s.length (yrT p.d (pickD p.d Y ws.l) k)).2.2.2[i]? = some d ∧
      Kept (p.e.l.getD i 0) (p.r.l.getD i 0) (p.k.l.getD i 0) a b c d := fun k i hk hi => by
    have hpt := pt_of_fit (t := x) HV.out (by rw [fit_d, hxd]; exact pick_fits HV.out HY.out ws.l)
    have h := kept_at HV.out hpt (k := k) (i := i) (by have := hpt.years; have := HY.out; omega) hi
    rw [hxd] at h
    exact h
  have HKP := Lib.hid hkp
  have d7 : v5.cell? ⟨w.heap.size, 7, none⟩ = some (.int .i64 (Y : Int)) := by rw [← HY.out]; exact L5.out.at_ 7
  clear hkp hys hym hya hqa hqd hua hud hun hxa hxd hxn hqa4 hb2 hb3 hb4 hb5 hd1 hd2 hd3 hd4 hd5 L1 B1 HRG HPL HPK HTR HRU
  change wpQuiet _ _ _ _ (_ :: _ :: _ :: _ :: _ :: []) _
  repeat (first | go_big_quiet_step (fail) | quiet_step (fail))
  refine wpQuiet_nil ?_
  go_wp2
  have hYz : (Y : Int) ≤ 6 := by omega
  have hY0 : (0 : Int) ≤ (Y : Int) := by omega
  clear d7
  go_loopw [7, 8, 9, 10, 11, 12, 13] (fun i _ _ _ _ _ _ wr => ∃ k : Nat, k ≤ Y ∧ i = .int .i64 k ∧ Aside (Below v5.heap.size v5 wr)) (fun i _ _ _ _ _ _ _ => Y - (intOf i).toNat)
  case atStart => exact ⟨0, by omega, rfl, Below.refl _ _⟩
  case round =>
    obtain ⟨k, hk, rfl, hb⟩ := hrel
    have d7 : wr.cell? ⟨w.heap.size, 7, none⟩ = some (.int .i64 (Y : Int)) := by rw [← HY.out]; exact (L5.out.call hb.out).at_ 7
    by_cases hlt : k < Y
    · have hltz : (k : Int) < (Y : Int) := by omega
      have hk0 : (0 : Int) ≤ (k : Int) := by omega
      obtain ⟨y, hy⟩ : ∃ y, ys[k]? = some y := ⟨ys[k]'(by have := congrArg List.length HYM.out; simp at this; omega), by simp⟩
      have ey : y.lists = toldL p.d.s.length (yrT p.d (pickD p.d Y ws.l) k) := by
        have h := congrArg (·[k]?) HYM.out
        simp only [List.getElem?_map, hy, Option.map_some, List.getElem?_range hlt] at h
        exact Option.some.inj h
      have hyin := HYA.out y (List.mem_of_getElem? hy)
      obtain ⟨b1, o1, rfl, hb1, q1⟩ := HYS.out.sl.at_ hy
      have hlen := told_lens (d := p.d) (t := pickD p.d Y ws.l) (k := k) hn5
      rw [← ey] at hlen
      obtain ⟨la, lb, lc, ld⟩ : y.a.l.length = p.s.l.length ∧ y.b.l.length = p.s.l.length ∧ y.c.l.length = p.s.l.length ∧ y.d.l.length = p.s.l.length := hlen
      have e0 : ∀ W, Below v5.heap.size v5 W → W.cell? ⟨b1, o1 + k * 4, none⟩ = some (.slice y.a.A p.s.l.length y.a.c) := fun W h => by rw [h.cell (p := ⟨b1, o1 + k * 4, none⟩) hb1, ← la]; exact q1 0 _ rfl
      have e1 : ∀ W, Below v5.heap.size v5 W → W.cell? ⟨b1, o1 + k * 4 + 1, none⟩ = some (.slice y.b.A p.s.l.length y.b.c) := fun W h => by rw [h.cell (p := ⟨b1, o1 + k * 4 + 1, none⟩) hb1, ← lb]; exact q1 1 _ rfl
      have e2 : ∀ W, Below v5.heap.size v5 W → W.cell? ⟨b1, o1 + k * 4 + 2, none⟩ = some (.slice y.c.A p.s.l.length y.c.c) := fun W h => by rw [h.cell (p := ⟨b1, o1 + k * 4 + 2, none⟩) hb1, ← lc]; exact q1 2 _ rfl
      have e3 : ∀ W, Below v5.heap.size v5 W → W.cell? ⟨b1, o1 + k * 4 + 3, none⟩ = some (.slice y.d.A p.s.l.length y.d.c) := fun W h => by rw [h.cell (p := ⟨b1, o1 + k * 4 + 3, none⟩) hb1, ← ld]; exact q1 3 _ rfl
      have r0 := cell_regrown (e0 wr hb.out)
      have r1 := cell_regrown (e1 wr hb.out)
      have r2 := cell_regrown (e2 wr hb.out)
      have r3 := cell_regrown (e3 wr hb.out)
      have r4 := cell_regrown (show wr.cell? ⟨w.heap.size, 0, none⟩ = some (.slice p.s.A p.s.l.length p.s.c) from (L5.out.call hb.out).at_ 0)
      have hkk := fun i hi => HKP.out k i hlt hi
      have E0 := Lib.hid e0
      have E1 := Lib.hid e1
      have E2 := Lib.hid e2
      have E3 := Lib.hid e3
      have EY := Lib.hid ey
      have HKK := Lib.hid hkk
      have HYI := Lib.hid hyin
      have LA := Lib.hid la
      have LB := Lib.hid lb
      have LC := Lib.hid lc
      have LD := Lib.hid ld
      clear e0 e1 e2 e3 ey hkk hyin la lb lc ld q1 hy
      go_wp2
      refine wp_region_quiet_below (by kernel_rfl) (by kernel_rfl) ?_; (repeat (first | go_big_quiet_step ((go_at_call 54; refine Calls.regrown_of (whole_any _ _ _ _ _ _ _ _ _ _))) | quiet_step ((go_at_call 54; refine Calls.regrown_of (whole_any _ _ _ _ _ _ _ _ _ _))))); refine wpQuiet_nil ?_; intro wq hwq; have hbq : Below _ _ wq := (by obtain ⟨p, rfl⟩ := hwq; exact below_regrown _ _ _); clear hwq
      clear r0 r1 r2 r3 r4
      go_wp2
      have hbk : Below v5.heap.size v5 wq := hb.out.trans (hbq.mono hb.out.size)
      have HBK := Lib.hid hbk
      clear hbk hbq d7
      go_loopw [8, 9, 10, 11, 12, 13] (fun i _ _ _ _ _ wz => ∃ t : Nat, t ≤ p.s.l.length ∧ i = .int .i64 t ∧ Aside (Below v5.heap.size v5 wz)) (fun i _ _ _ _ _ _ => p.s.l.length - (intOf i).toNat)
      case atStart => exact ⟨0, by omega, rfl, HBK.out⟩
      case round =>
        obtain ⟨t, ht, rfl, hz⟩ := hrel
        have d0 : wr.cell? ⟨w.heap.size, 0, none⟩ = some (.slice p.s.A p.s.l.length p.s.c) := (L5.out.call hz.out).at_ 0
        by_cases htl : t < p.s.l.length
        · have htz : (t : Int) < (p.s.l.length : Int) := by omega
          have ht0 : (0 : Int) ≤ (t : Int) := by omega
          obtain ⟨a, b, c, d, ga, gb, gc, gd, K⟩ := HKK.out t htl
          rw [← EY.out] at ga gb gc gd
          obtain ⟨ma, ya, ia, ja, pa⟩ := HYI.out.a.sl.cell1 (show y.a.l[t]? = some a from ga)
          obtain ⟨mb, yb, ib, jb, pb⟩ := HYI.out.b.sl.cell1 (show y.b.l[t]? = some b from gb)
          obtain ⟨mc, yc, ic, jc, pc⟩ := HYI.out.c.sl.cell1 (show y.c.l[t]? = some c from gc)
          obtain ⟨md, yd, id, jd, pd⟩ := HYI.out.d.sl.cell1 (show y.d.l[t]? = some d from gd)
          obtain ⟨be, oe, ee, hbe, ce⟩ := HAT.out.e.cell1 (getD_some (l := p.e.l) (i := t) (by rw [HV.out.ok.e]; exact htl))
          obtain ⟨bk, ok, ek, hbk, ck⟩ := HAT.out.k.cell1 (getD_some (l := p.k.l) (i := t) (by rw [HV.out.ok.k]; exact htl))
          obtain ⟨br, orr, er, hbr, cr⟩ := HAT.out.r.cell1 (getD_some (l := p.r.l) (i := t) (by rw [HV.out.ok.r]; exact htl))
          have x0 := E0.out wr hz.out
          have x1 := E1.out wr hz.out
          have x2 := E2.out wr hz.out
          have x3 := E3.out wr hz.out
          rw [ia] at x0
          rw [ib] at x1
          rw [ic] at x2
          rw [id] at x3
          have hzw := B5.out.trans (hz.out.mono B5.out.size)
          have r0 := cell_regrown x0
          have r1 := cell_regrown x1
          have r2 := cell_regrown x2
          have r3 := cell_regrown x3
          have s0 := cell_regrown ((hz.out.cell (p := ⟨ma, ya + t, none⟩) ja).trans pa)
          have s1 := cell_regrown ((hz.out.cell (p := ⟨mb, yb + t, none⟩) jb).trans pb)
          have s2 := cell_regrown ((hz.out.cell (p := ⟨mc, yc + t, none⟩) jc).trans pc)
          have s3 := cell_regrown ((hz.out.cell (p := ⟨md, yd + t, none⟩) jd).trans pd)
          have hCE : ∀ W, Below v5.heap.size v5 W → W.cell? ⟨w.heap.size, 3, none⟩ = some (.slice (some ⟨be, oe, none⟩) p.e.l.length p.e.c) ∧ W.cell? ⟨be, oe + t, none⟩ = some (.int .i64 (p.e.l.getD t 0)) ∧ W.cell? ⟨w.heap.size, 1, none⟩ = some (.slice (some ⟨br, orr, none⟩) p.r.l.length p.r.c) ∧ W.cell? ⟨br, orr + t, none⟩ = some (.int .i64 (p.r.l.getD t 0)) ∧ W.cell? ⟨w.heap.size, 4, none⟩ = some (.slice (some ⟨bk, ok, none⟩) p.k.l.length p.k.c) ∧ W.cell? ⟨bk, ok + t, none⟩ = some (.int .i64 (p.k.l.getD t 0)) := fun W h => by
            have hw := B5.out.trans (h.mono B5.out.size)
            rw [← ee, ← er, ← ek]
            exact ⟨(L5.out.call h).at_ 3, (hw.cell (p := ⟨be, oe + t, none⟩) hbe).trans ce, (L5.out.call h).at_ 1, (hw.cell (p := ⟨br, orr + t, none⟩) hbr).trans cr, (L5.out.call h).at_ 4, (hw.cell (p := ⟨bk, ok + t, none⟩) hbk).trans ck⟩
          have HCE := Lib.hid hCE
          have hke : (t : Int) < (p.e.l.length : Int) := by have := HV.out.ok.e; omega
          have hkk : (t : Int) < (p.k.l.length : Int) := by have := HV.out.ok.k; omega
          have hkr : (t : Int) < (p.r.l.length : Int) := by have := HV.out.ok.r; omega
          have HK := Lib.hid K
          clear ga gb gc gd ia ib ic id pa pb pc pd ee ek er ce ck cr hCE x0 x1 x2 x3 K hzw
          generalize p.e.l.getD t 0 = se at *
          generalize p.k.l.getD t 0 = ke at *
          generalize p.r.l.getD t 0 = re at *
          go_wp2
          refine wp_region_quiet_below (by kernel_rfl) (by kernel_rfl) ?_; (repeat (first | go_big_quiet_step ((fail)) | quiet_step ((fail)))); refine wpQuiet_nil ?_; intro wq hwq; have hbq : Below _ _ wq := (by obtain ⟨p, rfl⟩ := hwq; exact below_regrown _ _ _); clear hwq
          clear r0 r1 r2 r3 s0 s1 s2 s3
          have hbz : Below v5.heap.size v5 wq := hz.out.trans (hbq.mono hz.out.size)
          obtain ⟨u0, u1, u2, u3, u4, u5⟩ := HCE.out wq hbz
          have HBZ := Lib.hid hbz
          clear hbz hbq d0 hz
          obtain ⟨a0, a1, b0, b1', c0, d0, c1', k1, k2, k3, k4, k5⟩ := HK.out
          go_upto_region 16 with (fail)
          have z1 : decide (b < 0) = false := by simp; omega
          have z2 : decide (c < 0) = false := by simp; omega
          have z3 : decide (d < 0) = false := by simp; omega
          have z4 : decide (se < b) = false := by simp; omega
          have z5 : decide (re < d) = false := by simp; omega
          have z6 : decide (a - b - c - d < 0) = false := by simp; omega
          by_cases hth : 0 < a - b - c - d
          · have z7 : decide (0 < a - b - c - d) = true := by simpa using hth
            have z8 : decide (d < re) = false := by simp; exact k4 hth
            clear k4
            by_cases hb0 : 0 < b
            · have z9 : decide (0 < b) = true := by simpa using hb0
              have z10 : decide (a - b < ke) = false := by simp; exact k5 hb0
              clear k5
              go_wp2
              go_roundw
              case rel => exact ⟨t + 1, by omega, by go_num, HBZ.out⟩
              case measure => simp [intOf]; omega
            · have z9 : decide (0 < b) = false := by simpa using hb0
              clear k5
              go_wp2
              go_roundw
              case rel => exact ⟨t + 1, by omega, by go_num, HBZ.out⟩
              case measure => simp [intOf]; omega
          · have z7 : decide (0 < a - b - c - d) = false := by simpa using hth
            clear k4
            by_cases hb0 : 0 < b
            · have z9 : decide (0 < b) = true := by simpa using hb0
              have z10 : decide (a - b < ke) = false := by simp; exact k5 hb0
              clear k5
              go_wp2
              go_roundw
              case rel => exact ⟨t + 1, by omega, by go_num, HBZ.out⟩
              case measure => simp [intOf]; omega
            · have z9 : decide (0 < b) = false := by simpa using hb0
              clear k5
              go_wp2
              go_roundw
              case rel => exact ⟨t + 1, by omega, by go_num, HBZ.out⟩
              case measure => simp [intOf]; omega
        · obtain rfl : t = p.s.l.length := by omega
          go_wp2
          go_roundw
          case rel => exact ⟨k + 1, by omega, by go_num, hz.out⟩
          case measure => simp [intOf]; omega
    · obtain rfl : k = Y := by omega
      go_wp2_with (go_at_call 19; refine (awake_any _).mono ?_; rintro e w9 ⟨rfl, hb9⟩)
      go_ret
      have hx := B5.out.trans (hb.out.mono B5.out.size)
      exact ⟨rfl, hx.trans (hb9.mono hx.size)⟩
theorem StockKept_walk (p : PlM) (ws : Sv Nat) (w : World) (hp : p.Lay w w.heap.size) (hm : (∀ x, x ∈ ws.l → x < 65536) ∧ ws.l.length ≤ 9223372036854775807) (hA : Sl w w.heap.size 1 encW ws.A ws.l) :
    Calls Try.prog 10 #[.agg p.cells.toArray, .slice ws.A ws.l.length ws.c] w fun e w' => e = .returned (.bool true) ∧ Below w.heap.size w w' := by
  cases hr : readyB p with
  | false => exact Kept_no p ws w hp hr
  | true => exact Kept_yes p ws w hp hr hA hm.1 hm.2
end Go.Proofs.Ytldepdclojlefaa
