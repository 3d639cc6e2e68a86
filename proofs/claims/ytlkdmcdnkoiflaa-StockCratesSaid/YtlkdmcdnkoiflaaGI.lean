/- The texts RK RJ TG RM RN RO, joined. -/
import Derived.Test.YtlkdmcdnkoiflaaGH
import Derived.Test.YtlkdmcdnkoiflaaGF
/- StockKept. -/
namespace Go.Proofs.Ytlkdmcdnkoiflaa
open Go.RowKit Go.Lib

theorem PlM.Lay.wb {p : PlM} {w : World} (h : p.Lay w w.heap.size) {W : World} (hb : Below w.heap.size w W) : p.Lay W W.heap.size := h.below hb hb.size
set_option maxRecDepth 100000 in
set_option maxHeartbeats 1000000 in
theorem Kept_no (p : PlM) (ws : Sv Nat) (w : World) (hp : p.Lay w w.heap.size) (hr : readyB p = false) : Calls Try.prog 10 #[.agg p.cells.toArray, .slice ws.A ws.l.length ws.c] w fun e w' => e = .returned (.bool true) ∧ Below w.heap.size w w' := by
  have l0 : Lies (w.alloc (.cells p.cells.toArray 28)) w.heap.size 28 p.cells.toArray := Lies.fresh _ _ _
  have b0 : Below w.heap.size w (w.alloc (.cells p.cells.toArray 28)) := (Below.refl _ _).alloc (Nat.le_refl _) _
  have hR := ready_any p _ (hp.below b0 b0.size)
  rw [hr] at hR
  have L0 := Lib.hid l0
  have B0 := Lib.hid b0
  have HR := Lib.hid hR
  clear l0 b0 hR hp hr
  unfold PlM.cells at HR ⊢
  go_enter Try.func10, Try.ntmps10
  go_wp2_with (first
    | (refine wpList_load_row (o := ⟨some 14, _, _, _, _, _⟩) ?_ 28 (.tmp 2) ?_ w.heap.size ?_ 28 p.cells.toArray (0, 0) _ L0.out Try.underlying28 rfl size28 ?_; rfl; rfl; rfl)
    | (go_at_call 51; refine HR.out.mono ?_; rintro e w1 ⟨rfl, hb1⟩)
    | (go_at_call 19; refine (awake_any _).mono ?_; rintro e w2 ⟨rfl, hb2⟩))
  go_ret
  have hx := B0.out.trans (hb1.mono B0.out.size)
  exact ⟨rfl, hx.trans (hb2.mono hx.size)⟩
/-- What is picked fits. -/
theorem pick_fits {p : PlM} (hv : p.Valid) {Y : Nat} (hY : p.years = (Y : Int)) (ws : List Nat) : fitD p.d (pickD p.d Y ws) = true := by
  unfold pickD
  refine fit_mkT hv hY (fun s hs => pickN_has ?_ ws _) (fun y s k _ hs hk => pickN_has ?_ ws _) (fun y _ => inB_iff.2 (pickN_in (r := (p.d.lo, p.d.hi)) ?_ ws _))
  · obtain ⟨r, hr⟩ : ∃ r, p.s.l[s]? = some r := ⟨p.s.l[s], by simp [hs]⟩
    have h := hv.sb r (List.mem_of_getElem? hr)
    have e : p.d.s.getD s (0, 0) = r := by show p.s.l.getD s (0, 0) = r; simp [List.getD, hr]
    rw [e]; exact h.2.1
  · obtain ⟨x, hx⟩ : ∃ x, p.g.l[s]? = some x := ⟨p.g.l[s]'(by rw [hv.g]; exact hs), by simp⟩
    have hxm := List.mem_of_getElem? hx
    obtain ⟨r, hr⟩ : ∃ r, x.l[k]? = some r := ⟨x.l[k]'(by rw [hv.gl x hxm]; exact hk), by simp⟩
    have h := hv.gb x hxm r (List.mem_of_getElem? hr)
    have e : (p.d.g.getD s []).getD k (0, 0) = r := by show ((p.g.l.map (·.l)).getD s []).getD k (0, 0) = r; simp [List.getD, hx, hr]
    rw [e]; exact h.2.1
  · exact hv.l.2.1
theorem pick_sizes (d : PD) (Y : Nat) (ws : List Nat) : (pickD d Y ws).s.length = d.s.length ∧ (pickD d Y ws).g.length = Y ∧ (∀ y, y ∈ (pickD d Y ws).g → y.length = d.s.length) ∧ (∀ y, y ∈ (pickD d Y ws).g → ∀ r, r ∈ y → r.length = d.s.length) ∧ (pickD d Y ws).l.length = Y := by
  unfold pickD mkT
  refine ⟨by simp, by simp, fun y hy => ?_, fun y hy r hr => ?_, by simp⟩
  · obtain ⟨i, _, rfl⟩ := List.mem_map.1 hy
    simp
  · obtain ⟨i, _, rfl⟩ := List.mem_map.1 hy
    obtain ⟨j, _, rfl⟩ := List.mem_map.1 hr
    simp
/-- The law's Truth of a truth whose lists are short. -/
theorem Truth_law (u : TrM) (T : TD) (n Y : Nat) (W : World) (hT : u.d = T) (hu : u.At W W.heap.size) (hn : u.Nil) (hs : T.s.length = n ∧ T.g.length = Y ∧ (∀ y, y ∈ T.g → y.length = n) ∧ (∀ y, y ∈ T.g → ∀ r, r ∈ y → r.length = n) ∧ T.l.length = Y) (hn5 : n ≤ 5) (hY : Y ≤ 6) :
    Calls Try.prog 23 #[.agg u.cells.toArray] W (RetT T W) := by
  subst hT
  obtain ⟨h1, h2, h3, h4, h5⟩ := hs
  refine Truth_any u W hu hn ?_ ?_ (fun y hy => ?_) (fun y hy r hr => ?_) ?_
  · have : u.d.s.length = u.s.l.length := rfl
    omega
  · have : u.d.g.length = u.g.l.length := by simp [TrM.d]
    omega
  · have := h3 (y.l.map (·.l)) (List.mem_map.2 ⟨y, hy, rfl⟩)
    rw [List.length_map] at this
    omega
  · have := h4 (y.l.map (·.l)) (List.mem_map.2 ⟨y, hy, rfl⟩) r.l (List.mem_map.2 ⟨r, hr, rfl⟩)
    omega
  · have : u.d.l.length = u.l.l.length := rfl
    omega
set_option maxRecDepth 100000 in
set_option maxHeartbeats 4000000 in
theorem Kept_yes (p : PlM) (ws : Sv Nat) (w : World) (hp : p.Lay w w.heap.size) (hr : readyB p = true) (hA : Sl w w.heap.size 1 encW ws.A ws.l) (hw : ∀ x, x ∈ ws.l → x < 65536) (hl : ws.l.length ≤ 9223372036854775807) :
    Calls Try.prog 10 #[.agg p.cells.toArray, .slice ws.A ws.l.length ws.c] w fun e w' => e = .returned (.bool true) ∧ Below w.heap.size w w' := by
  obtain ⟨ht, hf⟩ := ready_iff.1 hr
  have hat := hp.at ht
  have hv := fault_zero hf
  obtain ⟨Y, hY⟩ : ∃ Y : Nat, p.years = (Y : Int) := ⟨p.years.toNat, years_nat hv⟩
  have hY6 : Y ≤ 6 := by have := hv.y; omega
  have hn5 := hv.ok.n
  have l0 : Lies (w.alloc (.cells p.cells.toArray 28)) w.heap.size 28 p.cells.toArray := Lies.fresh _ _ _
  have b0 : Below w.heap.size w (w.alloc (.cells p.cells.toArray 28)) := (Below.refl _ _).alloc (Nat.le_refl _) _
  have hR := ready_any p _ (hp.below b0 b0.size)
  rw [hr] at hR
  have hP : ∀ W, Below w.heap.size w W → Calls Try.prog 21 #[.agg p.cells.toArray] W (RetP p W) := fun W hb => Plan_any p W (hat.below hb hb.size) hp.nr hp.ne hp.nk
  have hK : ∀ W, Below w.heap.size w W → Calls Try.prog 52 #[.agg p.cells.toArray, .slice ws.A ws.l.length ws.c] W (RetT (pickD p.d Y ws.l) W) := fun W hb => Picked_any p Y ws.A ws.c ws.l W (hat.below hb hb.size) hv hY ((hA.below hb).more hb.size) hw hl
  have hT : ∀ (u : TrM) (W : World), u.d = pickD p.d Y ws.l → u.At W W.heap.size → u.Nil → Calls Try.prog 23 #[.agg u.cells.toArray] W (RetT (pickD p.d Y ws.l) W) := fun u W h1 h2 h3 => Truth_law u _ p.s.l.length Y W h1 h2 h3 (pick_sizes p.d Y ws.l) hn5 hY6
  have hRun : ∀ (q : PlM) (u : TrM) (W : World), q.d = p.d → u.d = pickD p.d Y ws.l → q.At W W.heap.size → u.At W W.heap.size → Calls Try.prog 22 #[.agg q.cells.toArray, .agg u.cells.toArray] W (RetR (fun k => toldL p.d.s.length (yrT p.d (pickD p.d Y ws.l) k)) Y W) := fun q u W h1 h2 h3 h4 =>
    Run_law q u p.d _ Y W h1 h2 h3 h4 (by rw [fault_congr h1]; exact hf) (pick_fits hv hY ws.l) (by rw [← hY]; show q.d.years = _; rw [h1]; rfl)
  have L0 := Lib.hid l0
  have B0 := Lib.hid b0
  have HR := Lib.hid hR
  have HPL := Lib.hid hP
  have HPK := Lib.hid hK
  have HTR := Lib.hid hT
  have HRU := Lib.hid hRun
  have HV := Lib.hid hv
  have HAT := Lib.hid hat
  have HY := Lib.hid hY
  clear l0 b0 hR hp hr hat hv hf hY ht hP hK hT hRun hA hw hl
  unfold PlM.cells at HR ⊢
  go_enter Try.func10, Try.ntmps10
  go_upto_region 3 with (first
    | (refine wpList_load_row (o := ⟨some 14, _, _, _, _, _⟩) ?_ 28 (.tmp 2) ?_ w.heap.size ?_ 28 p.cells.toArray (0, 0) _ L0.out Try.underlying28 rfl size28 ?_; rfl; rfl; rfl)
    | (go_at_call 51; refine HR.out.mono ?_; rintro e w1 ⟨rfl, hb1⟩; have L1 := Lib.hid (L0.out.call hb1); have B1 := Lib.hid (B0.out.trans (hb1.mono B0.out.size))))
  have hrg : ∀ W, (∃ c : Cls (fun W => Below w1.heap.size w1 W), W = c.val) → W.rangeAt w.heap.size 0 p.cells := by
    rintro W ⟨c, rfl⟩
    exact Lies.range (cs := p.cells) (L1.out.call c.h) (fun j v hj => by simpa using hj)
  have HRG := Lib.hid hrg
  haveI hne : Nonempty (Cls (fun W => Below w1.heap.size w1 W)) := ⟨⟨w1, Below.refl _ _⟩⟩
  clear hrg hb1 L0 B0 HR
  refine wp_region_whole [([0, 2, 3], [1, 4, 5, 6]), ([7, 8, 9, 10, 11], [])] (fun W => ∃ c : Cls (fun W => Below w1.heap.size w1 W), W = c.val) (Cls.here (Below.refl _ _).drew) (by kernel_rfl) (by kernel_rfl) ?_
  simp only [wpPhases, List.filterMap_cons, List.filterMap_nil, List.getElem?_toArray, List.getElem?_cons_zero, List.getElem?_cons_succ]
  refine wpQuiet_load_whole (o := ⟨some 19, _, _, _, _, _⟩) ?_ 28 (.tmp 2) ?_ w.heap.size 0 ?_ p.cells _ HRG.out Try.underlying28 rfl size28 ?_
  rfl; rfl; rfl
  simp only [Act.put, List.setIfInBounds_toArray, List.set_cons_zero, List.set_cons_succ]
  refine wpQuiet_load_whole (o := ⟨some 21, _, _, _, _, _⟩) ?_ 28 (.tmp 2) ?_ w.heap.size 0 ?_ p.cells _ HRG.out Try.underlying28 rfl size28 ?_
  rfl; rfl; rfl
  simp only [Act.put, List.setIfInBounds_toArray, List.set_cons_zero, List.set_cons_succ]
  change wpQuiet _ _ _ _ (_ :: []) _
  repeat (first | go_big_quiet_step (fail) | quiet_step (fail))
  refine wpQuiet_nil ?_
  simp only [wpForce]
  have hd1 : Below w1.heap.size w1 w1.drew := (Below.refl _ _).drew
  generalize w1.drew = v1 at *
  go_wp2_with (go_at_call 21; refine (HPL.out _ (B1.out.trans (hd1.mono B1.out.size))).mono ?_; rintro e v2 ⟨q, rfl, hqd, hqa, hb2⟩)
  have hd2 := hd1.trans (hb2.mono hd1.size)
  refine Ends.intro ⟨Cls.here hd2, ?_⟩
  go_wp2_with (go_at_call 52; refine (HPK.out _ (B1.out.trans (hd2.mono B1.out.size))).mono ?_; rintro e v3 ⟨u, rfl, hud, hua, hun, hb3⟩)
  have hd3 := hd2.trans (hb3.mono hd2.size)
  refine Ends.intro ⟨Cls.here hd3, ?_⟩
  go_wp2_with (go_at_call 23; refine (HTR.out u _ hud hua hun).mono ?_; rintro e v4 ⟨x, rfl, hxd, hxa, hxn, hb4⟩)
  have hd4 := hd3.trans (hb4.mono hd3.size)
  refine Ends.intro ⟨Cls.here hd4, ?_⟩
  have hqa4 : q.At v4 v4.heap.size := (hqa.below hb3 hb3.size).below hb4 hb4.size
  go_wp2_with (go_at_call 22; refine (HRU.out q x _ hqd hxd hqa4 hxa).mono ?_; rintro e v5 ⟨A1, c1, ys, rfl, hys, hym, hya, hb5⟩)
  have hd5 := hd4.trans (hb5.mono hd4.size)
  refine Ends.intro ⟨Cls.here hd5, ?_⟩
  have HYS := Lib.hid hys
  have HYM := Lib.hid hym
  have HYA := Lib.hid hya
  have L5 := Lib.hid (L1.out.call hd5)
  have B5 := Lib.hid (B1.out.trans (hd5.mono B1.out.size))
  have hkp : ∀ k i, k < Y → i < p.s.l.length → ∃ a b c d : Int, (toldL p.d.s.length (yrT p.d (pickD p.d Y ws.l) k)).1[i]? = some a ∧ (toldL p.d.s.length (yrT p.d (pickD p.d Y ws.l) k)).2.1[i]? = some b ∧ (toldL p.d.s.length (yrT p.d (pickD p.d Y ws.l) k)).2.2.1[i]? = some c ∧ (toldL p.d.s.length (yrT p.d (pickD p.d Y ws.l) k)).2.2.2[i]? = some d ∧
      Kept (p.e.l.getD i 0) (p.r.l.getD i 0) (p.k.l.getD i 0) a b c d := fun k i hk hi => by
    have hpt := pt_of_fit (t := x) HV.out (by rw [fit_d, hxd]; exact pick_fits HV.out HY.out ws.l)
    have h := kept_at HV.out hpt (k := k) (i := i) (by have := hpt.years; have := HY.out; omega) hi
    rw [hxd] at h
    exact h
  have HKP := Lib.hid hkp
  have d7 : v5.cell? ⟨w.heap.size, 7, none⟩ = some (.int .i64 (Y : Int)) := by rw [← HY.out]; exact L5.out.at_ 7
  clear hkp hys hym hya hqa hqd hua hud hun hxa hxd hxn hqa4 hb2 hb3 hb4 hb5 hd1 hd2 hd3 hd4 hd5 L1 B1 HRG HPL HPK HTR HRU
  change wpQuiet _ _ _ _ (_ :: _ :: _ :: _ :: _ :: []) _
  repeat (first | go_big_quiet_step (fail) | quiet_step (fail))
  refine wpQuiet_nil ?_
  go_wp2
  have hYz : (Y : Int) ≤ 6 := by omega
  have hY0 : (0 : Int) ≤ (Y : Int) := by omega
  clear d7
  go_loopw [7, 8, 9, 10, 11, 12, 13] (fun i _ _ _ _ _ _ wr => ∃ k : Nat, k ≤ Y ∧ i = .int .i64 k ∧ Aside (Below v5.heap.size v5 wr)) (fun i _ _ _ _ _ _ _ => Y - (intOf i).toNat)
  case atStart => exact ⟨0, by omega, rfl, Below.refl _ _⟩
  case round =>
    obtain ⟨k, hk, rfl, hb⟩ := hrel
    have d7 : wr.cell? ⟨w.heap.size, 7, none⟩ = some (.int .i64 (Y : Int)) := by rw [← HY.out]; exact (L5.out.call hb.out).at_ 7
    by_cases hlt : k < Y
    · have hltz : (k : Int) < (Y : Int) := by omega
      have hk0 : (0 : Int) ≤ (k : Int) := by omega
      obtain ⟨y, hy⟩ : ∃ y, ys[k]? = some y := ⟨ys[k]'(by have := congrArg List.length HYM.out; simp at this; omega), by simp⟩
      have ey : y.lists = toldL p.d.s.length (yrT p.d (pickD p.d Y ws.l) k) := by
        have h := congrArg (·[k]?) HYM.out
        simp only [List.getElem?_map, hy, Option.map_some, List.getElem?_range hlt] at h
        exact Option.some.inj h
      have hyin := HYA.out y (List.mem_of_getElem? hy)
      obtain ⟨b1, o1, rfl, hb1, q1⟩ := HYS.out.sl.at_ hy
      have hlen := told_lens (d := p.d) (t := pickD p.d Y ws.l) (k := k) hn5
      rw [← ey] at hlen
      obtain ⟨la, lb, lc, ld⟩ : y.a.l.length = p.s.l.length ∧ y.b.l.length = p.s.l.length ∧ y.c.l.length = p.s.l.length ∧ y.d.l.length = p.s.l.length := hlen
      have e0 : ∀ W, Below v5.heap.size v5 W → W.cell? ⟨b1, o1 + k * 4, none⟩ = some (.slice y.a.A p.s.l.length y.a.c) := fun W h => by rw [h.cell (p := ⟨b1, o1 + k * 4, none⟩) hb1, ← la]; exact q1 0 _ rfl
      have e1 : ∀ W, Below v5.heap.size v5 W → W.cell? ⟨b1, o1 + k * 4 + 1, none⟩ = some (.slice y.b.A p.s.l.length y.b.c) := fun W h => by rw [h.cell (p := ⟨b1, o1 + k * 4 + 1, none⟩) hb1, ← lb]; exact q1 1 _ rfl
      have e2 : ∀ W, Below v5.heap.size v5 W → W.cell? ⟨b1, o1 + k * 4 + 2, none⟩ = some (.slice y.c.A p.s.l.length y.c.c) := fun W h => by rw [h.cell (p := ⟨b1, o1 + k * 4 + 2, none⟩) hb1, ← lc]; exact q1 2 _ rfl
      have e3 : ∀ W, Below v5.heap.size v5 W → W.cell? ⟨b1, o1 + k * 4 + 3, none⟩ = some (.slice y.d.A p.s.l.length y.d.c) := fun W h => by rw [h.cell (p := ⟨b1, o1 + k * 4 + 3, none⟩) hb1, ← ld]; exact q1 3 _ rfl
      have r0 := cell_regrown (e0 wr hb.out)
      have r1 := cell_regrown (e1 wr hb.out)
      have r2 := cell_regrown (e2 wr hb.out)
      have r3 := cell_regrown (e3 wr hb.out)
      have r4 := cell_regrown (show wr.cell? ⟨w.heap.size, 0, none⟩ = some (.slice p.s.A p.s.l.length p.s.c) from (L5.out.call hb.out).at_ 0)
      have hkk := fun i hi => HKP.out k i hlt hi
      have E0 := Lib.hid e0
      have E1 := Lib.hid e1
      have E2 := Lib.hid e2
      have E3 := Lib.hid e3
      have EY := Lib.hid ey
      have HKK := Lib.hid hkk
      have HYI := Lib.hid hyin
      have LA := Lib.hid la
      have LB := Lib.hid lb
      have LC := Lib.hid lc
      have LD := Lib.hid ld
      clear e0 e1 e2 e3 ey hkk hyin la lb lc ld q1 hy
      go_wp2
      refine wp_region_quiet_below (by kernel_rfl) (by kernel_rfl) ?_; (repeat (first | go_big_quiet_step ((go_at_call 54; refine Calls.regrown_of (whole_any _ _ _ _ _ _ _ _ _ _))) | quiet_step ((go_at_call 54; refine Calls.regrown_of (whole_any _ _ _ _ _ _ _ _ _ _))))); refine wpQuiet_nil ?_; intro wq hwq; have hbq : Below _ _ wq := (by obtain ⟨p, rfl⟩ := hwq; exact below_regrown _ _ _); clear hwq
      clear r0 r1 r2 r3 r4
      go_wp2
      have hbk : Below v5.heap.size v5 wq := hb.out.trans (hbq.mono hb.out.size)
      have HBK := Lib.hid hbk
      clear hbk hbq d7
      go_loopw [8, 9, 10, 11, 12, 13] (fun i _ _ _ _ _ wz => ∃ t : Nat, t ≤ p.s.l.length ∧ i = .int .i64 t ∧ Aside (Below v5.heap.size v5 wz)) (fun i _ _ _ _ _ _ => p.s.l.length - (intOf i).toNat)
      case atStart => exact ⟨0, by omega, rfl, HBK.out⟩
      case round =>
        obtain ⟨t, ht, rfl, hz⟩ := hrel
        have d0 : wr.cell? ⟨w.heap.size, 0, none⟩ = some (.slice p.s.A p.s.l.length p.s.c) := (L5.out.call hz.out).at_ 0
        by_cases htl : t < p.s.l.length
        · have htz : (t : Int) < (p.s.l.length : Int) := by omega
          have ht0 : (0 : Int) ≤ (t : Int) := by omega
          obtain ⟨a, b, c, d, ga, gb, gc, gd, K⟩ := HKK.out t htl
          rw [← EY.out] at ga gb gc gd
          obtain ⟨ma, ya, ia, ja, pa⟩ := HYI.out.a.sl.cell1 (show y.a.l[t]? = some a from ga)
          obtain ⟨mb, yb, ib, jb, pb⟩ := HYI.out.b.sl.cell1 (show y.b.l[t]? = some b from gb)
          obtain ⟨mc, yc, ic, jc, pc⟩ := HYI.out.c.sl.cell1 (show y.c.l[t]? = some c from gc)
          obtain ⟨md, yd, id, jd, pd⟩ := HYI.out.d.sl.cell1 (show y.d.l[t]? = some d from gd)
          obtain ⟨be, oe, ee, hbe, ce⟩ := HAT.out.e.cell1 (getD_some (l := p.e.l) (i := t) (by rw [HV.out.ok.e]; exact htl))
          obtain ⟨bk, ok, ek, hbk, ck⟩ := HAT.out.k.cell1 (getD_some (l := p.k.l) (i := t) (by rw [HV.out.ok.k]; exact htl))
          obtain ⟨br, orr, er, hbr, cr⟩ := HAT.out.r.cell1 (getD_some (l := p.r.l) (i := t) (by rw [HV.out.ok.r]; exact htl))
          have x0 := E0.out wr hz.out
          have x1 := E1.out wr hz.out
          have x2 := E2.out wr hz.out
          have x3 := E3.out wr hz.out
          rw [ia] at x0
          rw [ib] at x1
          rw [ic] at x2
          rw [id] at x3
          have hzw := B5.out.trans (hz.out.mono B5.out.size)
          have r0 := cell_regrown x0
          have r1 := cell_regrown x1
          have r2 := cell_regrown x2
          have r3 := cell_regrown x3
          have s0 := cell_regrown ((hz.out.cell (p := ⟨ma, ya + t, none⟩) ja).trans pa)
          have s1 := cell_regrown ((hz.out.cell (p := ⟨mb, yb + t, none⟩) jb).trans pb)
          have s2 := cell_regrown ((hz.out.cell (p := ⟨mc, yc + t, none⟩) jc).trans pc)
          have s3 := cell_regrown ((hz.out.cell (p := ⟨md, yd + t, none⟩) jd).trans pd)
          have hCE : ∀ W, Below v5.heap.size v5 W → W.cell? ⟨w.heap.size, 3, none⟩ = some (.slice (some ⟨be, oe, none⟩) p.e.l.length p.e.c) ∧ W.cell? ⟨be, oe + t, none⟩ = some (.int .i64 (p.e.l.getD t 0)) ∧ W.cell? ⟨w.heap.size, 1, none⟩ = some (.slice (some ⟨br, orr, none⟩) p.r.l.length p.r.c) ∧ W.cell? ⟨br, orr + t, none⟩ = some (.int .i64 (p.r.l.getD t 0)) ∧ W.cell? ⟨w.heap.size, 4, none⟩ = some (.slice (some ⟨bk, ok, none⟩) p.k.l.length p.k.c) ∧ W.cell? ⟨bk, ok + t, none⟩ = some (.int .i64 (p.k.l.getD t 0)) := fun W h => by
            have hw := B5.out.trans (h.mono B5.out.size)
            rw [← ee, ← er, ← ek]
            exact ⟨(L5.out.call h).at_ 3, (hw.cell (p := ⟨be, oe + t, none⟩) hbe).trans ce, (L5.out.call h).at_ 1, (hw.cell (p := ⟨br, orr + t, none⟩) hbr).trans cr, (L5.out.call h).at_ 4, (hw.cell (p := ⟨bk, ok + t, none⟩) hbk).trans ck⟩
          have HCE := Lib.hid hCE
          have hke : (t : Int) < (p.e.l.length : Int) := by have := HV.out.ok.e; omega
          have hkk : (t : Int) < (p.k.l.length : Int) := by have := HV.out.ok.k; omega
          have hkr : (t : Int) < (p.r.l.length : Int) := by have := HV.out.ok.r; omega
          have HK := Lib.hid K
          clear ga gb gc gd ia ib ic id pa pb pc pd ee ek er ce ck cr hCE x0 x1 x2 x3 K hzw
          generalize p.e.l.getD t 0 = se at *
          generalize p.k.l.getD t 0 = ke at *
          generalize p.r.l.getD t 0 = re at *
          go_wp2
          refine wp_region_quiet_below (by kernel_rfl) (by kernel_rfl) ?_; (repeat (first | go_big_quiet_step ((fail)) | quiet_step ((fail)))); refine wpQuiet_nil ?_; intro wq hwq; have hbq : Below _ _ wq := (by obtain ⟨p, rfl⟩ := hwq; exact below_regrown _ _ _); clear hwq
          clear r0 r1 r2 r3 s0 s1 s2 s3
          have hbz : Below v5.heap.size v5 wq := hz.out.trans (hbq.mono hz.out.size)
          obtain ⟨u0, u1, u2, u3, u4, u5⟩ := HCE.out wq hbz
          have HBZ := Lib.hid hbz
          clear hbz hbq d0 hz
          obtain ⟨a0, a1, b0, b1', c0, d0, c1', k1, k2, k3, k4, k5⟩ := HK.out
          go_upto_region 16 with (fail)
          have z1 : decide (b < 0) = false := by simp; omega
          have z2 : decide (c < 0) = false := by simp; omega
          have z3 : decide (d < 0) = false := by simp; omega
          have z4 : decide (se < b) = false := by simp; omega
          have z5 : decide (re < d) = false := by simp; omega
          have z6 : decide (a - b - c - d < 0) = false := by simp; omega
          by_cases hth : 0 < a - b - c - d
          · have z7 : decide (0 < a - b - c - d) = true := by simpa using hth
            have z8 : decide (d < re) = false := by simp; exact k4 hth
            clear k4
            by_cases hb0 : 0 < b
            · have z9 : decide (0 < b) = true := by simpa using hb0
              have z10 : decide (a - b < ke) = false := by simp; exact k5 hb0
              clear k5
              go_wp2
              go_roundw
              case rel => exact ⟨t + 1, by omega, by go_num, HBZ.out⟩
              case measure => simp [intOf]; omega
            · have z9 : decide (0 < b) = false := by simpa using hb0
              clear k5
              go_wp2
              go_roundw
              case rel => exact ⟨t + 1, by omega, by go_num, HBZ.out⟩
              case measure => simp [intOf]; omega
          · have z7 : decide (0 < a - b - c - d) = false := by simpa using hth
            clear k4
            by_cases hb0 : 0 < b
            · have z9 : decide (0 < b) = true := by simpa using hb0
              have z10 : decide (a - b < ke) = false := by simp; exact k5 hb0
              clear k5
              go_wp2
              go_roundw
              case rel => exact ⟨t + 1, by omega, by go_num, HBZ.out⟩
              case measure => simp [intOf]; omega
            · have z9 : decide (0 < b) = false := by simpa using hb0
              clear k5
              go_wp2
              go_roundw
              case rel => exact ⟨t + 1, by omega, by go_num, HBZ.out⟩
              case measure => simp [intOf]; omega
        · obtain rfl : t = p.s.l.length := by omega
          go_wp2
          go_roundw
          case rel => exact ⟨k + 1, by omega, by go_num, hz.out⟩
          case measure => simp [intOf]; omega
    · obtain rfl : k = Y := by omega
      go_wp2_with (go_at_call 19; refine (awake_any _).mono ?_; rintro e w9 ⟨rfl, hb9⟩)
      go_ret
      have hx := B5.out.trans (hb.out.mono B5.out.size)
      exact ⟨rfl, hx.trans (hb9.mono hx.size)⟩
theorem StockKept_walk (p : PlM) (ws : Sv Nat) (w : World) (hp : p.Lay w w.heap.size) (hm : (∀ x, x ∈ ws.l → x < 65536) ∧ ws.l.length ≤ 9223372036854775807) (hA : Sl w w.heap.size 1 encW ws.A ws.l) :
    Calls Try.prog 10 #[.agg p.cells.toArray, .slice ws.A ws.l.length ws.c] w fun e w' => e = .returned (.bool true) ∧ Below w.heap.size w w' := by
  cases hr : readyB p with
  | false => exact Kept_no p ws w hp hr
  | true => exact Kept_yes p ws w hp hr hA hm.1 hm.2
end Go.Proofs.Ytlkdmcdnkoiflaa

/- The reference's Ends: a truth at the ends of a plan's ranges. -/
namespace Go.Proofs.Ytlkdmcdnkoiflaa
open Go.RowKit Go.Lib

/-- An end of a range. -/
def endF (b : Bool) (r : Int × Int) : Int := if b then r.2 else r.1
/-- The truth at the ends. -/
def endsD (d : PD) (Y : Nat) (hg : Bool) (year : Int) : TD :=
  mkT d.s.length Y (fun s => endF hg (d.s.getD s (0, 0))) (fun _ s k => endF hg ((d.g.getD s []).getD k (0, 0))) (fun y => endF (hg != decide ((y : Int) < year)) (d.lo, d.hi))
theorem end_any (lo hi : Int) (b : Bool) (w : World) : Calls Try.prog 68 #[.agg #[.int .i64 lo, .int .i64 hi], .bool b] w fun e w' => e = .returned (.int .i64 (endF b (lo, hi))) ∧ Below w.heap.size w w' := by
  unfold endF
  cases b
  all_goals
    go_enter Try.func68, Try.ntmps68
    go_wp2
    go_ret
    exact ⟨rfl, (by repeat (first | (with_reducible assumption) | (with_reducible exact Below.refl _ _) | (with_reducible refine Below.drew ?_) | (with_reducible refine below_drewN ?_ _) | ((with_reducible refine Below.setCell ?_ ?_ _); rotate_left; focus (first | (simp; done) | (simp; omega) | omega)) | ((with_reducible refine Below.alloc ?_ ?_ _); rotate_left; focus (first | (simp; done) | (simp; omega) | omega))))⟩
set_option maxRecDepth 100000 in
set_option maxHeartbeats 4000000 in
theorem Ends_any (p : PlM) (Y : Nat) (hg : Bool) (year : Int) (w : World) (hp : p.At w w.heap.size) (hv : p.Valid) (hY : p.years = (Y : Int)) :
    Calls Try.prog 29 #[.agg p.cells.toArray, .bool hg, .int .i64 year] w (RetT (endsD p.d Y hg year) w) := by
  obtain ⟨i0, hi, hz0, hz1, hz2⟩ := info_parts infoInt
  obtain ⟨i1, hi1, hz10, hz11, hz12⟩ := info_parts infoInts
  obtain ⟨i2, hi2, hz20, hz21, hz22⟩ := info_parts infoRows
  have hn5 := hv.ok.n
  have hn1 := hv.ok.one
  have hY6 : Y ≤ 6 := by have := hv.y; omega
  have hPI : ∀ (W : World) (lo hi : Int) (b : Bool), Calls Try.prog 68 #[.agg #[.int .i64 lo, .int .i64 hi], .bool b] W fun e w' => e = .returned (.int .i64 (endF b (lo, hi))) ∧ Below W.heap.size W w' := fun W lo hi b => end_any lo hi b W
  have l0 : Lies (((w.alloc (.cells p.cells.toArray 28)).alloc (.cells #[.slice none 0 0, .slice none 0 0, .slice none 0 0] 31)).alloc (.cells #[.slice none 0 0, .slice none 0 0, .slice none 0 0] 31)) w.heap.size 28 p.cells.toArray := ((Lies.fresh _ _ _).alloc _).alloc _
  have l1 : Lies (((w.alloc (.cells p.cells.toArray 28)).alloc (.cells #[.slice none 0 0, .slice none 0 0, .slice none 0 0] 31)).alloc (.cells #[.slice none 0 0, .slice none 0 0, .slice none 0 0] 31)) (w.heap.size + 1) 31 #[.slice none 0 0, .slice none 0 0, .slice none 0 0] := (Lies.fresh' (by simp)).alloc _
  have l2 : Lies (((w.alloc (.cells p.cells.toArray 28)).alloc (.cells #[.slice none 0 0, .slice none 0 0, .slice none 0 0] 31)).alloc (.cells #[.slice none 0 0, .slice none 0 0, .slice none 0 0] 31)) (w.heap.size + 1 + 1) 31 #[.slice none 0 0, .slice none 0 0, .slice none 0 0] := Lies.fresh' (by simp)
  have b0 : Below w.heap.size w (((w.alloc (.cells p.cells.toArray 28)).alloc (.cells #[.slice none 0 0, .slice none 0 0, .slice none 0 0] 31)).alloc (.cells #[.slice none 0 0, .slice none 0 0, .slice none 0 0] 31)) := (by repeat (first | (with_reducible assumption) | (with_reducible exact Below.refl _ _) | (with_reducible refine Below.drew ?_) | (with_reducible refine below_drewN ?_ _) | ((with_reducible refine Below.setCell ?_ ?_ _); rotate_left; focus (first | (simp; done) | (simp; omega) | omega)) | ((with_reducible refine Below.alloc ?_ ?_ _); rotate_left; focus (first | (simp; done) | (simp; omega) | omega))))
  have hM : PK1 p w (fun s => endF hg (p.d.s.getD s (0, 0))) (.slice none 0 0) 0 (((w.alloc (.cells p.cells.toArray 28)).alloc (.cells #[.slice none 0 0, .slice none 0 0, .slice none 0 0] 31)).alloc (.cells #[.slice none 0 0, .slice none 0 0, .slice none 0 0] 31)) := ⟨l0, l1, l2, by simpa using World.ownsRow_nil _ _ _ _, b0⟩
  have HM := Lib.hid hM
  have HP := Lib.hid hp
  have HV := Lib.hid hv
  have HYE := Lib.hid hY
  have HPI := Lib.hid hPI
  have L0 := Lib.hid l0
  have HI := Lib.hid hi
  have Hz0 := Lib.hid hz0
  have Hz1 := Lib.hid hz1
  have Hz2 := Lib.hid hz2
  have HI1 := Lib.hid hi1
  have Hz10 := Lib.hid hz10
  have Hz11 := Lib.hid hz11
  have Hz12 := Lib.hid hz12
  have HI2 := Lib.hid hi2
  have Hz20 := Lib.hid hz20
  have Hz21 := Lib.hid hz21
  have Hz22 := Lib.hid hz22
  have r0 : (((w.alloc (.cells p.cells.toArray 28)).alloc (.cells #[.slice none 0 0, .slice none 0 0, .slice none 0 0] 31)).alloc (.cells #[.slice none 0 0, .slice none 0 0, .slice none 0 0] 31)).cell? ⟨w.heap.size, 0, none⟩ = some (.slice p.s.A p.s.l.length p.s.c) := l0.at_ 0
  clear hM hp hv hY hPI l0 l1 l2 b0 hi hz0 hz1 hz2 hi1 hz10 hz11 hz12 hi2 hz20 hz21 hz22
  unfold PlM.cells at r0 ⊢
  go_enter Try.func29, Try.ntmps29
  go_wp2
  clear r0
  go_loopw [8] (fun i wr => ∃ (k : Nat) (v : Value), k ≤ p.s.l.length ∧ i = .int .i64 k ∧ Aside (PK1 p w (fun s => endF hg (p.d.s.getD s (0, 0))) v k wr)) (fun i _ => p.s.l.length - (intOf i).toNat)
  case atStart => exact ⟨0, _, by omega, rfl, HM.out⟩
  case round =>
    obtain ⟨k, v, hk, rfl, M⟩ := hrel
    have d0 : wr.cell? ⟨w.heap.size, 0, none⟩ = some (.slice p.s.A p.s.l.length p.s.c) := M.out.pb.at_ 0
    by_cases hlt : k < p.s.l.length
    · have hltz : (k : Int) < (p.s.l.length : Int) := by omega
      have hk0 : (0 : Int) ≤ (k : Int) := by omega
      obtain ⟨r, hr⟩ : ∃ r, p.s.l[k]? = some r := ⟨p.s.l[k], by simp [hlt]⟩
      obtain ⟨b, o, eA, hb, c0, c1⟩ := HP.out.s.cellR hr
      have hrb := HV.out.sb r (List.mem_of_getElem? hr)
      have hfk : endF hg (p.d.s.getD k (0, 0)) = endF hg (r.1, r.2) := by
        show endF hg (p.s.l.getD k (0, 0)) = _
        rw [List.getD, hr]; rfl
      go_wp2
      clear d0
      have q0 := cell_regrown (show wr.cell? ⟨w.heap.size + 1 + 1, 0, none⟩ = some v from M.out.tb.at_ 0)
      have q1 := cell_regrown (show wr.cell? ⟨w.heap.size, 0, none⟩ = some (.slice (some ⟨b, o, none⟩) p.s.l.length p.s.c) by rw [← eA]; exact M.out.pb.at_ 0)
      have q2 := cell_regrown (show wr.cell? ⟨b, o + k * 2, none⟩ = some (.int .i64 r.1) by rw [M.out.b.cell (p := ⟨b, o + k * 2, none⟩) hb]; exact c0)
      have q3 := cell_regrown (show wr.cell? ⟨b, o + k * 2 + 1, none⟩ = some (.int .i64 r.2) by rw [M.out.b.cell (p := ⟨b, o + k * 2 + 1, none⟩) hb]; exact c1)
      have HFK := Lib.hid hfk
      have HRB := Lib.hid hrb
      have HE := Lib.hid eA
      clear hfk hrb c0 c1 hr eA
      refine wp_region_reads 10 [0, 1, 2, 3, 4, 5, 6, 7] [8, 9] (by kernel_rfl) (by kernel_rfl) ?_
      simp only [List.filterMap_cons, List.filterMap_nil, List.take_succ_cons, List.take_zero, List.getElem?_toArray, List.getElem?_cons_zero, List.getElem?_cons_succ, List.drop_succ_cons, List.drop_zero]
      repeat (first | go_big_quiet_step (fail) | quiet_step (fail))
      refine wpQuiet_nil ?_
      intro w0 hb0 hz0
      clear q0 q1 q2 q3 hz0
      simp only [wpForce]
      have M1 := Lib.hid (M.out.call hb0)
      go_wp2_with (go_at_call 68; refine (HPI.out _ r.1 r.2 hg).mono ?_; rintro e w4 ⟨rfl, hb4⟩)
      have M4 := Lib.hid (M1.out.call hb4)
      have hb04 := hb0.trans (hb4.mono hb0.size)
      refine Ends.intro ⟨hb04, ?_⟩
      clear hb4 M1 hb0
      go_wp2
      have M5 := Lib.hid (M4.out.call ((Below.refl _ _).alloc (Nat.le_refl _) (.cells #[.int .i64 (endF hg (r.1, r.2))] 3)))
      have HN5 := Lib.hid (news_alloc w4 [.int .i64 (endF hg (r.1, r.2))] 3)
      refine Ends.intro ⟨hb04.alloc hb04.size _, ?_⟩
      have hz5 : w.heap.size + 3 ≤ (w4.alloc (.cells #[.int .i64 (endF hg (r.1, r.2))] 3)).heap.size := by have := M5.out.tb.in_; omega
      clear hb04
      go_wp2_with (at_builtin; refine wpList_append_lies _ rfl (.tmp 22) (.tmp 30) 23 rfl (w.heap.size + 3) 3 i0 _ 1 8 Try.underlying23 HI.out Hz0.out Hz1.out Hz2.out rfl (by decide) v k (((List.range k).map (fun s => endF hg (p.d.s.getD s (0, 0)))).map (Value.int .i64)) rfl M5.out.own ⟨w4.heap.size, 0, none⟩ 1 1 [.int .i64 (endF hg (r.1, r.2))] rfl rfl HN5.out (by intro u hu; simp at hu; subst hu; rfl) Nat.one_pos (by unfold maxLen; omega) (by omega) hz5 _ rfl ?_; intro g6 cap6 w6 hown6 hg6 hat6 hlt6; have hN := M5.out.next hg6 (by rw [HFK.out]; exact hown6); have c6 : w6.cell? ⟨w.heap.size + 1 + 1, 0, none⟩ = some v := hN.2.2.1.at_ 0; have f6 := hN.2.2.1.free 0; have HN := Lib.hid hN; clear hN hown6 hg6 hat6 hlt6)
      clear hz5 M4 M5 HN5 HFK
      exact ⟨⟨k + 1, _, by omega, by go_num, HN.out.1⟩, by simp [intOf]; omega⟩
    · obtain rfl : k = p.s.l.length := by omega
      have hM2 : PK2 w wr wr.heap.size v (.slice none 0 0) (.slice none 0 0) (fun y => (List.range p.s.l.length).map fun s => (List.range p.s.l.length).map fun k => endF hg ((p.d.g.getD s []).getD k (0, 0))) (fun y : Nat => endF (hg != decide ((y : Int) < year)) (p.d.lo, p.d.hi)) 0 0 wr :=
        ⟨M.out.tb, ⟨[], by simpa using World.ownsRow_nil _ _ _ _, rfl, fun g hg => by cases hg⟩, by simpa using World.ownsRow_nil _ _ _ _, fun _ _ _ => rfl, M.out.b, Nat.le_refl _⟩
      have HM2 := Lib.hid hM2
      have hB2 : w.heap.size + 1 + 1 < wr.heap.size := M.out.tb.in_
      have hYz : (Y : Int) ≤ 6 := by omega
      clear hM2
      obtain ⟨w2, rfl⟩ : ∃ w2 : World, w2 = wr := ⟨_, rfl⟩
      go_wp2
      clear d0
      go_loopw [9, 10, 11, 12, 13] (fun i _ _ _ _ wr => ∃ (y : Nat) (vg vl : Value), y ≤ Y ∧ i = .int .i64 y ∧ Aside (PK2 w w2 w2.heap.size v vg vl (fun y => (List.range p.s.l.length).map fun s => (List.range p.s.l.length).map fun k => endF hg ((p.d.g.getD s []).getD k (0, 0))) (fun y : Nat => endF (hg != decide ((y : Int) < year)) (p.d.lo, p.d.hi)) y y wr)) (fun i _ _ _ _ _ => Y - (intOf i).toNat)
      case atStart => exact ⟨0, _, _, by omega, rfl, HM2.out⟩
      case round =>
        obtain ⟨y, vg, vl, hy, rfl, N⟩ := hrel
        have hPB : ∀ W, (∀ j, j < w2.heap.size → j ≠ w.heap.size + 1 + 1 → W.heap[j]? = w2.heap[j]?) → Lies W w.heap.size 28 p.cells.toArray := fun W h => M.out.pb.to_ (h _ (by omega) (by omega))
        have d7 : wr.cell? ⟨w.heap.size, 7, none⟩ = some (.int .i64 (Y : Int)) := by rw [← HYE.out]; exact (hPB wr N.out.old).at_ 7
        have HPB := Lib.hid hPB
        clear hPB
        obtain ⟨wo, rfl⟩ : ∃ wo : World, wo = wr := ⟨_, rfl⟩
        by_cases hyl : y < Y
        · have hyz : (y : Int) < (Y : Int) := by omega
          have hy0 : (0 : Int) ≤ (y : Int) := by omega
          go_wp2
          clear d7
          go_loopw [10, 11, 12, 13] (fun vr s _ _ wr => ∃ j : Nat, j ≤ p.s.l.length ∧ s = .int .i64 j ∧ Aside (PK3 wo (fun s => (List.range p.s.l.length).map fun k => endF hg ((p.d.g.getD s []).getD k (0, 0))) vr j wr)) (fun _ s _ _ _ => p.s.l.length - (intOf s).toNat)
          case atStart => exact ⟨0, by omega, rfl, PK3.start _ _⟩
          case round =>
            obtain ⟨j, hj, rfl, R⟩ := hrel
            have d0 : wr.cell? ⟨w.heap.size, 0, none⟩ = some (.slice p.s.A p.s.l.length p.s.c) := (HPB.out wr (fun i h1 h2 => by
              have z1 := N.out.z
              rw [R.out.b.block i (by omega), N.out.old i h1 h2])).at_ 0
            obtain ⟨w3, rfl⟩ : ∃ w3 : World, w3 = wr := ⟨_, rfl⟩
            by_cases hjl : j < p.s.l.length
            · have hjz : (j : Int) < (p.s.l.length : Int) := by omega
              have hj0 : (0 : Int) ≤ (j : Int) := by omega
              go_wp2
              clear d0
              go_loopw [12, 13] (fun v4 i wr => ∃ q : Nat, q ≤ p.s.l.length ∧ i = .int .i64 q ∧ Aside (Below w3.heap.size w3 wr ∧ wr.ownsRow w3.heap.size 3 1 v4 q (((List.range q).map fun k => endF hg ((p.d.g.getD j []).getD k (0, 0))).map (Value.int .i64)))) (fun _ i _ => p.s.l.length - (intOf i).toNat)
              case atStart => exact ⟨0, by omega, rfl, Below.refl _ _, by simpa using World.ownsRow_nil _ _ _ _⟩
              case round =>
                obtain ⟨q, hq, rfl, HQ⟩ := hrel
                have hb3 : Below w.heap.size w wr := (N.out.b.trans (R.out.b.mono N.out.b.size)).trans (HQ.out.1.mono (Nat.le_trans N.out.b.size R.out.b.size))
                have hold : ∀ j, j < w2.heap.size → j ≠ w.heap.size + 1 + 1 → wr.heap[j]? = w2.heap[j]? := fun j h1 h2 => by
                  have z1 := N.out.z
                  have z2 := R.out.b.size
                  rw [HQ.out.1.block j (by omega), R.out.b.block j (by omega), N.out.old j h1 h2]
                have d0 : wr.cell? ⟨w.heap.size, 0, none⟩ = some (.slice p.s.A p.s.l.length p.s.c) := (HPB.out wr hold).at_ 0
                by_cases hql : q < p.s.l.length
                · have hqz : (q : Int) < (p.s.l.length : Int) := by omega
                  have hq0 : (0 : Int) ≤ (q : Int) := by omega
                  obtain ⟨x, hx⟩ : ∃ x, p.g.l[j]? = some x := ⟨p.g.l[j]'(by rw [HV.out.g]; exact hjl), by simp⟩
                  have hxm := List.mem_of_getElem? hx
                  have hxl := HV.out.gl x hxm
                  obtain ⟨r, hr⟩ : ∃ r, x.l[q]? = some r := ⟨x.l[q]'(by rw [hxl]; exact hql), by simp⟩
                  have hrb := HV.out.gb x hxm r (List.mem_of_getElem? hr)
                  obtain ⟨bg, og, eg, hbg, cg⟩ := HP.out.g.cell1 hx
                  obtain ⟨br, orr, er, hbr, cr0, cr1⟩ := (HP.out.rows x hxm).cellR hr
                  have d2 : wr.cell? ⟨w.heap.size, 2, none⟩ = some (.slice (some ⟨bg, og, none⟩) p.g.l.length p.g.c) := by rw [← eg]; exact (HPB.out wr hold).at_ 2
                  have d3 : wr.cell? ⟨bg, og + j, none⟩ = some (.slice (some ⟨br, orr, none⟩) p.s.l.length x.c) := by rw [hb3.cell (p := ⟨bg, og + j, none⟩) hbg, cg, ← er, ← hxl]; rfl
                  have d4 : wr.cell? ⟨br, orr + q * 2, none⟩ = some (.int .i64 r.1) := by rw [hb3.cell (p := ⟨br, orr + q * 2, none⟩) hbr]; exact cr0
                  have d5 : wr.cell? ⟨br, orr + q * 2 + 1, none⟩ = some (.int .i64 r.2) := by rw [hb3.cell (p := ⟨br, orr + q * 2 + 1, none⟩) hbr]; exact cr1
                  have hgz : (j : Int) < (p.g.l.length : Int) := by have := HV.out.g; omega
                  have hfk : endF hg ((p.d.g.getD j []).getD q (0, 0)) = endF hg (r.1, r.2) := by
                    have e1 : (p.d.g.getD j []).getD q (0, 0) = r := by
                      show ((p.g.l.map (·.l)).getD j []).getD q (0, 0) = r
                      simp [List.getD, hx, hr]
                    rw [e1]
                  have hy5 : (y : Int) ≤ 5 := by omega
                  have hj5 : (j : Int) ≤ 4 := by omega
                  have hq5 : (q : Int) ≤ 4 := by omega
                  have HFK := Lib.hid hfk
                  have HRB := Lib.hid hrb
                  have HB3 := Lib.hid hb3
                  have HOW := Lib.hid HQ.out.2
                  have HBW := Lib.hid HQ.out.1
                  have hz3 := HQ.out.1.size
                  clear hfk hrb hb3 hold eg er cg cr0 cr1 hx hxm hxl hr HQ
                  go_wp2_with (first
                    | (go_at_call 68; refine (HPI.out _ r.1 r.2 hg).mono ?_; rintro e w4 ⟨rfl, hb4⟩; have HN5 := Lib.hid (news_alloc w4 [.int .i64 (endF hg (r.1, r.2))] 3); have HO5 := Lib.hid ((ownsRow_call HOW.out hb4).alloc (.cells #[.int .i64 (endF hg (r.1, r.2))] 3)); have hz5 : w3.heap.size ≤ (w4.alloc (.cells #[.int .i64 (endF hg (r.1, r.2))] 3)).heap.size := (by have := hb4.size; simp; omega); have HB4 := Lib.hid hb4; clear hb4)
                    | (at_builtin; refine wpList_append_lies _ rfl (.tmp 53) (.tmp 64) 23 rfl w3.heap.size 3 i0 _ 1 8 Try.underlying23 HI.out Hz0.out Hz1.out Hz2.out rfl (by decide) u12 q _ rfl HO5.out ⟨w4.heap.size, 0, none⟩ 1 1 [.int .i64 (endF hg (r.1, r.2))] rfl rfl HN5.out (by intro u hu; simp at hu; subst hu; rfl) Nat.one_pos (by unfold maxLen; omega) (by omega) hz5 _ rfl ?_; intro g6 cap6 w6 hown6 hg6 hat6 hlt6; clear hat6 hlt6))
                  have hb6 : Below w3.heap.size w3 w6 := ((HBW.out.trans (HB4.out.mono hz3)).alloc (by have := HB4.out.size; omega) _).grown hg6 hz5 (fun i e => (own_at HO5.out e).1)
                  have ho6 : w6.ownsRow w3.heap.size 3 1 (.slice (some ⟨g6, 0, none⟩) (q + 1) cap6) (q + 1) (((List.range (q + 1)).map fun k => endF hg ((p.d.g.getD j []).getD k (0, 0))).map (Value.int .i64)) := by
                    rw [List.range_succ, List.map_append, List.map_append]
                    simp only [List.map_cons, List.map_nil]
                    rw [HFK.out]
                    exact hown6
                  have H6 := Lib.hid (And.intro hb6 ho6)
                  clear hb6 ho6 hown6 hg6 d0 d2 d3 d4 d5
                  go_roundw
                  case rel => exact ⟨q + 1, by omega, by go_num, H6.out⟩
                  case measure => simp [intOf]; omega
                · obtain rfl : q = p.s.l.length := by omega
                  obtain ⟨x, e1, hxl, hxs, hxb⟩ := own_done (enc := encI) (l := (List.range p.s.l.length).map fun k => endF hg ((p.d.g.getD j []).getD k (0, 0))) (fun _ => rfl) (by rw [List.length_map, List.length_range, flat_ints]; exact HQ.out.2)
                  rw [List.length_map, List.length_range] at e1
                  subst e1
                  have hR5 := (R.out.call HQ.out.1).call ((Below.refl _ _).alloc (Nat.le_refl _) (.cells #[.slice x.A p.s.l.length x.c] 23))
                  have hxs5 := hxs.call ((Below.refl _ _).alloc (Nat.le_refl _) (.cells #[.slice x.A p.s.l.length x.c] 23))
                  obtain ⟨rs, hown, hrs, hro⟩ := hR5.own
                  have hN5 := news_alloc wr [.slice x.A p.s.l.length x.c] 23
                  have hxlen : x.l.length = p.s.l.length := by rw [hxl]; simp
                  have hz3 := R.out.b.size
                  have hz4 := HQ.out.1.size
                  have hz5 : wo.heap.size ≤ (wr.alloc (.cells #[.slice x.A p.s.l.length x.c] 23)).heap.size := by simp; omega
                  have HR5 := Lib.hid hR5
                  have HXS := Lib.hid (And.intro hxs5 (hxb.more hz3 (by simp : wr.heap.size ≤ (wr.alloc (.cells #[.slice x.A p.s.l.length x.c] 23)).heap.size)))
                  have HXL := Lib.hid hxl
                  have HXN := Lib.hid hxlen
                  have HOW := Lib.hid hown
                  have HRS := Lib.hid hrs
                  have HRO := Lib.hid hro
                  have HN5 := Lib.hid hN5
                  clear hR5 hxs hxs5 hxb hxl hxlen hown hrs hro hN5 HQ hb3 hold
                  go_wp2_with (at_builtin; refine wpList_append_lies _ rfl (.tmp 66) (.tmp 68) 100 rfl wo.heap.size 23 i1 _ 1 24 Try.underlying100 HI1.out Hz10.out Hz11.out Hz12.out rfl (by decide) u10 j _ rfl HOW.out ⟨wr.heap.size, 0, none⟩ 1 1 [.slice x.A p.s.l.length x.c] rfl rfl HN5.out (by intro u hu; simp at hu; subst hu; rfl) Nat.one_pos (by unfold maxLen; omega) (by omega) hz5 _ rfl ?_; intro g7 cap7 w7 hown7 hg7 hat7 hlt7; clear hat7 hlt7)
                  have hR7 := HR5.out.next (r := x) HOW.out HRS.out HRO.out HXS.out HXL.out hg7 (by have h := hown7; rw [← HXN.out] at h; exact h)
                  have HR7 := Lib.hid hR7
                  clear hR7 hown7 hg7
                  go_roundw
                  case rel => exact ⟨j + 1, by omega, by go_num, HR7.out⟩
                  case measure => simp [intOf]; omega
            · obtain rfl : j = p.s.l.length := by omega
              obtain ⟨rs, hown, hrs, hro⟩ := R.out.own
              have hrl : rs.length = p.s.l.length := by have := congrArg List.length hrs; simpa using this
              obtain ⟨G, e1, hgl, hgs, hgb⟩ := own_done (enc := encV) (l := rs) (fun _ => rfl) (by rw [hrl]; exact hown)
              rw [hrl] at e1
              subst e1
              have hAl : (Below w3.heap.size w3 (w3.alloc (.cells #[.slice G.A p.s.l.length G.c] 100))) := (Below.refl _ _).alloc (Nat.le_refl _) _
              have hN5 := (N.out.call R.out.b).call hAl
              obtain ⟨gs, hgo, hgm, hga⟩ := hN5.og
              have hnw := news_alloc w3 [.slice G.A p.s.l.length G.c] 100
              have hG1 := hgs.call hAl
              have hvl : ∀ b, vl.ownBlock = some b → b < wo.heap.size := fun b e => (own_at N.out.ol e).2.1
              have hG2 : ∀ r, r ∈ G.l → SlT (w3.alloc (.cells #[.slice G.A p.s.l.length G.c] 100)) (w3.alloc (.cells #[.slice G.A p.s.l.length G.c] 100)).heap.size 1 3 encI r.A r.l ∧ Ap r.A vl ∧ Bt r 0 (w3.alloc (.cells #[.slice G.A p.s.l.length G.c] 100)).heap.size := fun r hr => by
                rw [hgl] at hr
                refine ⟨(hro r hr).1.call hAl, fun a e h => ?_, (hro r hr).2.more (Nat.zero_le _) hAl.size⟩
                have := hvl _ h
                have := ((hro r hr).2.1 a e).1
                omega
              have hG3 : G.l.map (·.l) = (List.range p.s.l.length).map fun s => (List.range p.s.l.length).map fun k => endF hg ((p.d.g.getD s []).getD k (0, 0)) := by rw [hgl, hrs]
              have hGn : G.l.length = p.s.l.length := by rw [hgl, hrl]
              have t1 : w3.cell? ⟨w.heap.size + 1 + 1, 1, none⟩ = some vg := (N.out.call R.out.b).tb.at_ 1
              have hz5 := hN5.z
              have HN5 := Lib.hid hN5
              have HGO := Lib.hid hgo
              have HGM := Lib.hid hgm
              have HGA := Lib.hid hga
              have HNW := Lib.hid hnw
              have HG1 := Lib.hid hG1
              have HG2 := Lib.hid hG2
              have HG3 := Lib.hid hG3
              have HGN := Lib.hid hGn
              clear hN5 hgo hgm hga hnw hG1 hG2 hG3 hGn hown hrs hro hrl hgl hgs hgb hAl hvl R
              go_upto_region 20 with (at_builtin; refine wpList_append_lies _ rfl (.tmp 71) (.tmp 73) 29 rfl w2.heap.size 100 i2 _ 1 24 Try.underlying29 HI2.out Hz20.out Hz21.out Hz22.out rfl (by decide) vg y _ rfl HGO.out ⟨w3.heap.size, 0, none⟩ 1 1 [.slice G.A p.s.l.length G.c] rfl rfl HNW.out (by intro u hu; simp at hu; subst hu; rfl) Nat.one_pos (by unfold maxLen; omega) (by omega) hz5 _ rfl ?_; intro g7 cap7 w7 hown7 hg7 hat7 hlt7; clear hat7 hlt7; have e7 := HN5.out.grow (g := G) HGO.out HGM.out HGA.out HG1.out HG2.out HG3.out hB2 hg7 (by have h := hown7; rw [← HGN.out] at h; exact h); have c7 : w7.cell? ⟨w.heap.size + 1 + 1, 1, none⟩ = some vg := e7.2.at_ 1; have f7 := e7.2.free 1; have E7 := Lib.hid e7.1; clear e7 hown7 hg7)
              clear t1 c7 f7 d0 HN5 HGO HGM HGA HNW HG1 HG2 HG3 HGN
              generalize w7.setCell ⟨w.heap.size + 1 + 1, 1, none⟩ (.slice (some ⟨g7, 0, none⟩) (y + 1) cap7) = w8 at *
              have q0 := cell_regrown (show w8.cell? ⟨w.heap.size + 1 + 1, 2, none⟩ = some vl from E7.out.tb.at_ 2)
              have q1 := cell_regrown (show w8.cell? ⟨w.heap.size, 5, none⟩ = some (.int .i64 p.lo) from (HPB.out _ E7.out.old).at_ 5)
              have q2 := cell_regrown (show w8.cell? ⟨w.heap.size, 6, none⟩ = some (.int .i64 p.hi) from (HPB.out _ E7.out.old).at_ 6)
              have hlo := HV.out.l
              have HLO := Lib.hid hlo
              clear hlo
              have hend : ∀ W, Calls Try.prog 68 #[.agg #[.int .i64 p.lo, .int .i64 p.hi], .bool (hg != decide ((y : Int) < year))] W fun e w' => e = .returned (.int .i64 (endF (hg != decide ((y : Int) < year)) (p.lo, p.hi))) ∧ Below W.heap.size W w' := fun W => HPI.out W p.lo p.hi _
              generalize hZ : endF (hg != decide ((y : Int) < year)) (p.lo, p.hi) = Z at hend
              have HZ := Lib.hid hZ
              clear hZ
              have HEND := Lib.hid hend
              clear hend
              obtain ⟨b1, hb1⟩ : ∃ b1 : Bool, decide ((y : Int) < year) = b1 := ⟨_, rfl⟩
              rw [hb1] at HEND
              cases b1 <;> cases hg
              all_goals simp only [bne_self_eq_false, Bool.bne_false, Bool.bne_true, Bool.not_false] at HEND
              all_goals
                refine wp_region_reads 11 [0, 1, 2, 3, 4, 5, 6, 7, 8] [9, 10] (by kernel_rfl) (by kernel_rfl) ?_
                simp only [List.filterMap_cons, List.filterMap_nil, List.take_succ_cons, List.take_zero, List.getElem?_toArray, List.getElem?_cons_zero, List.getElem?_cons_succ, List.drop_succ_cons, List.drop_zero]
                repeat (first | go_big_quiet_step (fail) | quiet_step (fail))
                refine wpQuiet_nil ?_
                intro w0 hb0 hz0
                clear q0 q1 q2 hz0 hb1
                simp only [wpForce]
                have M1 := Lib.hid (E7.out.call hb0)
                go_wp2_with (go_at_call 68; refine (HEND.out _).mono ?_; rintro e w9 ⟨rfl, hb9⟩)
                have M4 := Lib.hid (M1.out.call hb9)
                have hb09 := hb0.trans (hb9.mono hb0.size)
                refine Ends.intro ⟨hb09, ?_⟩
                clear hb9 M1 hb0
                go_wp2
                have M5 := Lib.hid (M4.out.call ((Below.refl _ _).alloc (Nat.le_refl _) (.cells #[.int .i64 (Z)] 3)))
                have HN5 := Lib.hid (news_alloc w9 [.int .i64 (Z)] 3)
                refine Ends.intro ⟨hb09.alloc hb09.size _, ?_⟩
                have hz6 := M5.out.z
                clear hb09
                go_wp2_with (at_builtin; refine wpList_append_lies _ rfl (.tmp 77) (.tmp 86) 23 rfl w2.heap.size 3 i0 _ 1 8 Try.underlying23 HI.out Hz0.out Hz1.out Hz2.out rfl (by decide) vl y _ rfl M5.out.ol ⟨w9.heap.size, 0, none⟩ 1 1 [.int .i64 (Z)] rfl rfl HN5.out (by intro u hu; simp at hu; subst hu; rfl) Nat.one_pos (by unfold maxLen; omega) (by omega) hz6 _ rfl ?_; intro g6 cap6 w6 hown6 hg6 hat6 hlt6; have hN := M5.out.loss hB2 hg6 hat6 (by have h := hown6; rw [← HZ.out] at h; exact h); have c6 : w6.cell? ⟨w.heap.size + 1 + 1, 2, none⟩ = some vl := hN.2.at_ 2; have f6 := hN.2.free 2; have HN := Lib.hid hN.1; clear hN hown6 hg6 hat6 hlt6)
                clear hz6 M4 M5 HN5
                exact ⟨⟨y + 1, _, _, by omega, by go_num, HN.out⟩, by simp [intOf]; omega⟩
        · obtain rfl : y = Y := by omega
          obtain ⟨gs, hgo, hgm, hga⟩ := N.out.og
          have hgl : gs.length = y := by have := congrArg List.length hgm; simpa using this
          have hso : wo.ownsRow (w.heap.size + 3) 3 1 v p.s.l.length (((List.range p.s.l.length).map fun s => endF hg (p.d.s.getD s (0, 0))).map (Value.int .i64)) := own_keep M.out.own fun g hg => N.out.old g (own_at M.out.own hg).2.1 (by have := (own_at M.out.own hg).1; omega)
          obtain ⟨xs, es, hsl, hss, hsn⟩ := own_done (enc := encI) (l := (List.range p.s.l.length).map fun s => endF hg (p.d.s.getD s (0, 0))) (fun _ => rfl) (by rw [List.length_map, List.length_range, flat_ints]; exact hso)
          obtain ⟨xg, eg, hgl', hgs, _⟩ := own_done (enc := encV) (l := gs) (fun _ => rfl) (by rw [hgl]; exact hgo)
          obtain ⟨xl, el, hll, hls, hln⟩ := own_done (enc := encI) (l := (List.range y).map fun y : Nat => endF (hg != decide ((y : Int) < year)) (p.d.lo, p.d.hi)) (fun _ => rfl) (by rw [List.length_map, List.length_range, flat_ints]; exact N.out.ol)
          rw [List.length_map, List.length_range] at es el
          rw [hgl] at eg
          subst es eg el
          have hzb : Lies wo (w.heap.size + 1) 31 #[.slice none 0 0, .slice none 0 0, .slice none 0 0] := M.out.zb.to_ (N.out.old _ (by omega) (by omega))
          have htd : (⟨xs, xg, xl⟩ : TrM).d = endsD p.d y hg year := by
            unfold TrM.d endsD mkT
            simp only [hsl, hgl', hll, hgm]
            rfl
          have hcs : (⟨xs, xg, xl⟩ : TrM).cells = [.slice xs.A p.s.l.length xs.c, .slice xg.A y xg.c, .slice xl.A y xl.c] := by
            unfold TrM.cells
            rw [show xs.l.length = p.s.l.length by rw [hsl]; simp, show xg.l.length = y by rw [hgl', hgl], show xl.l.length = y by rw [hll]; simp]
          have ZB := Lib.hid hzb
          have TB := Lib.hid N.out.tb
          have HB := Lib.hid N.out.b
          have HTD := Lib.hid htd
          have HCS := Lib.hid hcs
          have hnil : (⟨xs, xg, xl⟩ : TrM).Nil := ⟨hsn.2, fun g hg r hr => ((hga g (by rw [← hgl']; exact hg)).2 r hr).2.2.2, hln.2⟩
          have HNIL := Lib.hid hnil
          have HAT := Lib.hid (And.intro hss (And.intro hgs (And.intro hls (hgl' ▸ hga))))
          clear hnil hsn hln hgo hgm hga hgl hso hsl hss hgl' hgs hll hls hzb htd hcs
          go_upto_region 21 with (fail)
          apply wp_region_lit
          refine wpList_load_row (o := ⟨some 89, _, _, _, _, _⟩) ?_ 31 (.tmp 7) ?_ (w.heap.size + 1 + 1) ?_ 31 #[.slice xs.A p.s.l.length xs.c, .slice xg.A y xg.c, .slice xl.A y xl.c] (0, 0) _ TB.out Try.underlying31 rfl size31 ?_
          rfl; rfl; rfl
          simp only [Act.put, List.setIfInBounds_toArray, List.set_cons_zero, List.set_cons_succ]
          refine wpList_store_cells (o := ⟨none, .store 31 (.tmp 6) _, _, _, _, _⟩) ?_ 31 (.tmp 6) (.tmp 89) ?_ (w.heap.size + 1) 0 ?_ 31 [.slice none 0 0, .slice none 0 0, .slice none 0 0] [.slice xs.A p.s.l.length xs.c, .slice xg.A y xg.c, .slice xl.A y xl.c] ?_ ZB.out (Nat.le_refl 3) size31 (by simp [Value.oneCell']) ?_
          rfl; rfl; rfl; rfl
          intro w9 HS9 HO9
          refine wpList_nil ?_
          have hs9 : Lies w9 (w.heap.size + 1) 31 #[.slice xs.A p.s.l.length xs.c, .slice xg.A y xg.c, .slice xl.A y xl.c] := HS9.out
          have hk9 : ∀ {α : Type} {k : Nat} {T : TypeId} {enc : α → List Value} {A : Option Addr} {l : List α}, T ≠ 31 → SlT wo wo.heap.size k T enc A l → Sl w9 w9.heap.size k enc A l := fun hT h => by
            rw [HO9.out.size]
            exact (h.only HO9.out ZB.out hT).sl
          have hres : RetT (endsD p.d y hg year) w (.returned (.agg #[.slice xs.A p.s.l.length xs.c, .slice xg.A y xg.c, .slice xl.A y xl.c])) w9 :=
            ⟨⟨xs, xg, xl⟩, by rw [HCS.out], HTD.out, ⟨hk9 (by decide) HAT.out.1, hk9 (by decide) HAT.out.2.1, fun g hg => hk9 (by decide) (HAT.out.2.2.2 g hg).1, fun g hg r hr => hk9 (by decide) ((HAT.out.2.2.2 g hg).2 r hr).1, hk9 (by decide) HAT.out.2.2.1⟩, HNIL.out, HO9.out.below HB.out (by omega)⟩
          have HRES := Lib.hid hres
          have HS := Lib.hid hs9
          clear hres hs9 HS9 HO9 hk9
          go_wp2
          exact bodyPost_ret (results_cell_row rfl _ _ (w.heap.size + 1) 31 #[.slice xs.A p.s.l.length xs.c, .slice xg.A y xg.c, .slice xl.A y xl.c] (0, 0) _ rfl HS.out Try.underlying31 rfl size31) rfl HRES.out
end Go.Proofs.Ytlkdmcdnkoiflaa

/- The law of TF where several operations make variables at whatever moment. -/
namespace Go.Proofs.Ytlkdmcdnkoiflaa
open Go.RowKit Go.Lib

/-- A variable: the operation that makes it, its slot, its type, its first cells. -/
structure Fl where
  fi : Nat
  f : Nat
  t : TypeId
  z : Array Value
/-- All the slots, set. -/
def putF (a : Act) (fs : List Nat) (val : Nat → Value) : Act := fs.foldl (fun a f => a.put (some f) (val f)) a
theorem putF_cons (a : Act) (f : Nat) (fs : List Nat) (val : Nat → Value) : putF a (f :: fs) val = putF (a.put (some f) (val f)) fs val := rfl
theorem putF_self (a : Act) : ∀ fs : List Nat, putF a fs (fun f => a.tmps.getD f undef) = a
  | [] => rfl
  | f :: fs => by rw [putF_cons, put_self]; exact putF_self a fs
theorem put_put {a : Act} {f : Nat} {u v : Value} : (a.put (some f) u).put (some f) v = a.put (some f) v := by simp [Act.put]
theorem put_comm {a : Act} {f g : Nat} {u v : Value} (h : f ≠ g) : (a.put (some f) u).put (some g) v = (a.put (some g) v).put (some f) u := by
  simp only [Act.put]
  congr 1
  apply Array.ext_getElem?
  intro i
  simp only [Array.getElem?_setIfInBounds, Array.size_setIfInBounds]
  by_cases h1 : g = i <;> by_cases h2 : f = i <;> simp_all
theorem putF_put {f : Nat} {u : Value} (val : Nat → Value) : ∀ (fs : List Nat) (a : Act), f ∈ fs → putF (a.put (some f) u) fs val = putF a fs val
  | g :: fs, a, h => by
    rw [putF_cons, putF_cons]
    by_cases e : f = g
    · subst e; rw [put_put]
    · rw [put_comm e]
      exact putF_put val fs _ (by rcases List.mem_cons.1 h with h | h; exact absurd h e; exact h)
section
variable {P : Program} {ops : Array Oper} {md : Region.Mode} {S : World → Prop} {Q : Exit → Act → World → Prop} {T : Act → World → Prop} {r : Nat}
/-- A chain of operations, between any two of which the slots fs may turn, and memory may grow. -/
def wpFloats (P : Program) (ops : Array Oper) (fs : List Nat) (T : Act → World → Prop) : List Oper → Act → World → Prop
  | [], a, w => T a w
  | o :: cs, a, w => wpList P ops (Ends fun a' w' => Below w.heap.size w w' ∧ ∀ val w'', Below w'.heap.size w' w'' → wpFloats P ops fs T cs (putF a' fs val) w'') [o] a w
/-- What is asked at the end: the variables lie in blocks of their own. -/
def AtGs (fls : List Fl) (B : Nat) (T : Act → World → Prop) (a : Act) (w : World) : Prop :=
  ∀ (G : Nat → Nat) (w'' : World), Below w.heap.size w w'' → (∀ fl, fl ∈ fls → B ≤ G fl.f ∧ Lies w'' (G fl.f) fl.t fl.z) → (∀ fl fl', fl ∈ fls → fl' ∈ fls → fl.f ≠ fl'.f → G fl.f ≠ G fl'.f) →
    T (putF a (fls.map (·.f)) fun f => .pointer (some ⟨G f, 0, none⟩)) w''
def floatsB (md : Region.Mode) (ops : Array Oper) : Nat → Array Bool → List Nat → List Fl → Bool
  | 0, L, cs, pend => cs.isEmpty && pend.isEmpty && (Region.ready md ops L).isEmpty
  | n + 1, L, cs, pend => !(Region.ready md ops L).isEmpty && (Region.ready md ops L).all (fun j => cs.head? == some j || pend.any fun fl => fl.fi == j) &&
      (match cs with | [] => true | i :: cs => floatsB md ops n (L.setIfInBounds i true) cs pend) && pend.all fun fl => floatsB md ops n (L.setIfInBounds fl.fi true) cs (pend.filter fun q => q.fi != fl.fi)
/-- The variable is made. -/
def MadeF (a : Act) (w : World) (B : Nat) (G : Nat → Nat) (fl : Fl) : Prop := a.tmps.getD fl.f undef = .pointer (some ⟨G fl.f, 0, none⟩) ∧ B ≤ G fl.f ∧ Lies w (G fl.f) fl.t fl.z
theorem wpAnyH_floats {fls : List Fl} {B : Nat} (hS : ∀ w w', S w → Below w.heap.size w w' → S w') (hSB : ∀ w, S w → B ≤ w.heap.size)
    (hop : ∀ fl, fl ∈ fls → ∃ og, ops[fl.fi]? = some og ∧ og.dst = some fl.f ∧ og.guard = none ∧ og.op = .alloc fl.t) (hal : ∀ fl, fl ∈ fls → ∀ w, (Instr.alloc fl.t true (.tuple #[])).run P w = .ok (.pointer (some ⟨w.heap.size, 0, none⟩)) (w.alloc (.cells fl.z fl.t)))
    (hnd : ∀ fl fl', fl ∈ fls → fl' ∈ fls → fl.f = fl'.f → fl = fl') :
    ∀ (n : Nat) (cs : List Nat) (pend done : List Fl) (L : Array Bool) (a : Act) (w : World) (G : Nat → Nat), floatsB md ops n L cs pend = true → S w → (∀ i o fl, i ∈ cs → ops[i]? = some o → fl ∈ fls → o.dst ≠ some fl.f) → (∀ fl, fl ∈ fls → fl.f < a.tmps.size) →
      (∀ fl, fl ∈ pend → fl ∈ fls) → (∀ fl, fl ∈ done → fl ∈ fls ∧ MadeF a w B G fl) → (∀ fl, fl ∈ fls → fl ∈ pend ∨ fl ∈ done) → (∀ fl fl', fl ∈ done → fl' ∈ done → fl.f ≠ fl'.f → G fl.f ≠ G fl'.f) →
      (∀ val w'', Below w.heap.size w w'' → wpFloats P ops (fls.map (·.f)) (AtGs fls B T) (cs.filterMap (ops[·]?)) (putF a (fls.map (·.f)) val) w'') → wpAnyH P md ops (Ends T) S n L a w := by
  intro n
  induction n with
  | zero =>
    intro cs pend done L a w G hb hs hd hsz hp hdn hm hdis h
    simp only [floatsB, Bool.and_eq_true, List.isEmpty_iff] at hb
    obtain ⟨⟨h1, h2⟩, h3⟩ := hb
    subst h1 h2
    refine ⟨h3, ?_⟩
    have h4 := h (fun f => a.tmps.getD f undef) w (Below.refl _ _)
    rw [putF_self] at h4
    have hin : ∀ fl, fl ∈ fls → fl ∈ done := fun fl hfl => by
      rcases hm fl hfl with h | h
      · cases h
      · exact h
    have h5 := h4 G w (Below.refl _ _) (fun fl hfl => (hdn fl (hin fl hfl)).2.2) (fun fl fl' h1 h2 => hdis fl fl' (hin fl h1) (hin fl' h2))
    have e : putF a (fls.map (·.f)) (fun f => .pointer (some ⟨G f, 0, none⟩)) = a := by
      have key : ∀ l : List Fl, (∀ fl, fl ∈ l → fl ∈ fls) → putF a (l.map (·.f)) (fun f => .pointer (some ⟨G f, 0, none⟩)) = a := by
        intro l
        induction l with
        | nil => intro _; rfl
        | cons fl l ih =>
          intro hl
          rw [List.map_cons, putF_cons, ← (hdn fl (hin fl (hl fl (by simp)))).2.1, put_self]
          exact ih fun q hq => hl q (List.mem_cons_of_mem _ hq)
      exact key fls fun _ h => h
    rw [e] at h5
    exact h5
  | succ n ih =>
    intro cs pend done L a w G hb hs hd hsz hp hdn hm hdis h
    simp only [floatsB, Bool.and_eq_true] at hb
    obtain ⟨⟨⟨h0, h1⟩, h2⟩, h3⟩ := hb
    refine ⟨fun e => (by rw [e] at h0; cases h0), fun j hj => ?_⟩
    have hj2 := List.all_eq_true.1 h1 j hj
    simp only [Bool.or_eq_true, beq_iff_eq] at hj2
    rcases hj2 with hj2 | hj2
    · cases cs with
      | nil => cases hj2
      | cons i cs =>
        obtain rfl : i = j := by simpa using hj2
        obtain ⟨_, o, ho, _⟩ := mem_ready.1 hj
        have h' := h (fun f => a.tmps.getD f undef) w (Below.refl _ _)
        rw [putF_self, List.filterMap_cons, ho] at h'
        have h4 := wpList_one (show wpList P ops (Ends fun a' w' => Below w.heap.size w w' ∧ ∀ val w'', Below w'.heap.size w' w'' → wpFloats P ops (fls.map (·.f)) (AtGs fls B T) (cs.filterMap (ops[·]?)) (putF a' (fls.map (·.f)) val) w'') [o] a w from h')
        have step : ∀ (a' : Act) (w' : World) (v : Value), a'.tmps = (a.put o.dst v).tmps → (Below w.heap.size w w' ∧ ∀ val w'', Below w'.heap.size w' w'' → wpFloats P ops (fls.map (·.f)) (AtGs fls B T) (cs.filterMap (ops[·]?)) (putF a' (fls.map (·.f)) val) w'') →
            S w' ∧ wpAnyH P md ops (Ends T) S n (L.setIfInBounds i true) a' w' := by
          intro a' w' v he ⟨hbw, hk⟩
          have hget : ∀ fl, fl ∈ fls → a'.tmps.getD fl.f undef = a.tmps.getD fl.f undef := fun fl hfl => by
            rw [he]
            cases hd2 : o.dst with
            | none => rfl
            | some d =>
              have : d ≠ fl.f := fun e => hd i o fl (by simp) ho hfl (by rw [hd2, e])
              simp [Act.put, this]
          refine ⟨hS _ _ hs hbw, ih cs pend done _ a' w' G h2 (hS _ _ hs hbw) (fun i o fl hi ho hfl => hd i o fl (List.mem_cons_of_mem _ hi) ho hfl) (fun fl hfl => ?_) hp (fun fl hfl => ?_) hm hdis hk⟩
          · rw [he]
            cases o.dst <;> simpa [Act.put] using hsz fl hfl
          · obtain ⟨e1, e2⟩ := hdn fl hfl
            exact ⟨e1, by rw [hget fl e1]; exact e2.1, e2.2.1, e2.2.2.call hbw⟩
        unfold wpOp
        simp only [ho]
        split
        · rename_i hw
          rw [if_pos hw] at h4
          exact .inl (Oper.wp_ends (fun a' w' h' => step a' w' _ h'.2.choose_spec h'.1) (Oper.wp_put h4))
        · rename_i hw
          rw [if_neg hw] at h4
          exact step _ _ undef rfl h4
    · obtain ⟨fl, hfl, hfj⟩ := List.any_eq_true.1 hj2
      have hfj : fl.fi = j := by simpa using hfj
      have hflm := hp fl hfl
      obtain ⟨og, g1, g2, g3, g4⟩ := hop fl hflm
      have hbw : Below w.heap.size w (w.alloc (.cells fl.z fl.t)) := (Below.refl _ _).alloc (Nat.le_refl _) _
      have h3' := List.all_eq_true.1 h3 fl hfl
      subst hfj
      unfold wpOp
      simp only [g1]
      rw [if_pos (by simp [Region.wanted, g3])]
      refine .inl ?_
      unfold Oper.wp execOp
      simp only [g4, Sem.run_bind, hal fl hflm w, Result.andThen, Sem.run_pure, Oper.upon, g2]
      have hsf := hsz fl hflm
      refine ⟨hS _ _ hs hbw, ih cs _ (fl :: done) _ _ _ (fun f => if f = fl.f then w.heap.size else G f) h3' (hS _ _ hs hbw) hd (fun q hq => by simpa [Act.put] using hsz q hq) (fun q hq => hp q (List.mem_filter.1 hq).1) (fun q hq => ?_) (fun q hq => ?_) (fun q q' hq hq' hne => ?_) (fun val w'' hb'' => ?_)⟩
      · by_cases e : q.f = fl.f
        · have hqm : q ∈ fls := by
            rcases List.mem_cons.1 hq with rfl | hq
            · exact hflm
            · exact (hdn q hq).1
          obtain rfl := hnd q fl hqm hflm e
          exact ⟨hqm, by simp [Act.put, hsf], by simp; exact hSB w hs, by simp; exact Lies.fresh w q.t q.z⟩
        · rcases List.mem_cons.1 hq with rfl | hq
          · exact absurd rfl e
          · obtain ⟨e1, e2⟩ := hdn q hq
            have e' : fl.f ≠ q.f := fun h => e h.symm
            refine ⟨e1, ?_, by simp only [if_neg e]; exact e2.2.1, by simp only [if_neg e]; exact e2.2.2.call hbw⟩
            simp only [if_neg e]
            rw [← e2.1]
            simp [Act.put, e']
      · rcases hm q hq with h | h
        · by_cases e : q.fi = fl.fi
          · right
            obtain ⟨og', k1, k2, _, _⟩ := hop q hq
            rw [e, g1] at k1
            cases k1
            have : q.f = fl.f := by rw [g2] at k2; exact (Option.some.inj k2).symm
            rw [hnd q fl hq hflm this]
            simp
          · left
            exact List.mem_filter.2 ⟨h, by simpa using e⟩
        · exact .inr (List.mem_cons_of_mem _ h)
      · have hlt : ∀ q, q ∈ done → q.f ≠ fl.f → G q.f < w.heap.size := fun q hq _ => (hdn q hq).2.2.2.in_
        by_cases e : q.f = fl.f
        · have e' : q'.f ≠ fl.f := fun h => hne (e.trans h.symm)
          rw [if_pos e, if_neg e']
          rcases List.mem_cons.1 hq' with rfl | hq'
          · exact absurd rfl e'
          · have := hlt q' hq' e'; omega
        · rw [if_neg e]
          by_cases e' : q'.f = fl.f
          · rw [if_pos e']
            rcases List.mem_cons.1 hq with rfl | hq
            · exact absurd rfl e
            · have := hlt q hq e; omega
          · rw [if_neg e']
            rcases List.mem_cons.1 hq with rfl | hq
            · exact absurd rfl e
            · rcases List.mem_cons.1 hq' with rfl | hq'
              · exact absurd rfl e'
              · exact hdis q q' hq hq' hne
      · rw [putF_put val _ a (List.mem_map.2 ⟨fl, hflm, rfl⟩)]
        exact h val w'' (hbw.trans (hb''.mono hbw.size))
def manyB (l : List Oper) (n : Nat) (rs cs : List Nat) (fls : List Fl) : Bool :=
  Region.sinkB .any l.toArray n && Region.chainB .any l.toArray n && headOk l.toArray n && Region.seqB .any l.toArray (l.drop n).length n ((Array.replicate l.length false).mapIdx fun i _ => decide (i < n)) && decide (n < l.length) &&
    Region.noSelect (l.take n).toArray && takesB .any (l.take n).toArray (Array.replicate n false) rs && floatsB .any (l.take n).toArray (n - rs.length) (takenB (Array.replicate n false) rs) cs fls && decide (rs.length ≤ n) &&
    cs.all (fun i => match (l.take n)[i]? with | some o => fls.all fun fl => o.dst != some fl.f | none => true) && fls.all fun fl => match (l.take n)[fl.fi]? with | some o => decide (o.dst = some fl.f) && o.guard.isNone && (match o.op with | .alloc t' => t' == fl.t | _ => false) | none => false
/-- THE LAW. -/
theorem wp_region_many {id : Nat} {l : List Oper} {a : Act} {w : World} (n : Nat) (rs cs : List Nat) (fls : List Fl) (hm : P.follows .mixedOrders = true) (hB : manyB l n rs cs fls = true)
    (hal : ∀ fl, fl ∈ fls → ∀ w, (Instr.alloc fl.t true (.tuple #[])).run P w = .ok (.pointer (some ⟨w.heap.size, 0, none⟩)) (w.alloc (.cells fl.z fl.t))) (hnd : ∀ fl fl', fl ∈ fls → fl' ∈ fls → fl.f = fl'.f → fl = fl')
    (h : wpQuiet P (l.take n).toArray (fun w' => ∃ p : Regrown, w' = Go.Sort.grow (redrawn w p.d) p.os) (fun a' => (∀ fl, fl ∈ fls → fl.f < a'.tmps.size) ∧ ∀ val w', Below w.heap.size w w' → wpFloats P (l.take n).toArray (fls.map (·.f)) (AtGs fls w.heap.size fun a w => wpList P l.toArray Q (l.drop n) a w) (cs.filterMap ((l.take n).toArray[·]?)) (putF a' (fls.map (·.f)) val) w') (rs.filterMap ((l.take n).toArray[·]?)) a) :
    (Code.region id l.toArray true).wp P Q a w := by
  simp only [manyB, Bool.and_eq_true, decide_eq_true_eq] at hB
  obtain ⟨⟨⟨⟨⟨⟨⟨⟨⟨⟨b1, b2⟩, b3⟩, b4⟩, b5⟩, b6⟩, b7⟩, b8⟩, b9⟩, b10⟩, b11⟩ := hB
  have hn : n < l.toArray.size := by simpa using b5
  have e : l.toArray.extract 0 n = (l.take n).toArray := by simp
  have hsz : (l.take n).toArray.size = n := by simp; omega
  refine wp_region_any hm ?_
  have inv : HeadInv .any l.toArray n (Array.replicate l.toArray.size false) := ⟨by simp, (fun j oj _ hl => by rw [getD_replicate_false] at hl; cases hl), fun t _ ht => by simp at ht; simp [ht]⟩
  have hu : unl n (Array.replicate l.toArray.size false) = n := by
    unfold unl
    rw [List.countP_eq_length.2 (fun i hi => by
      have h1 := List.mem_range.1 hi
      have h2 : i < l.length := by omega
      simp [h2]), List.length_range]
  have e1 : (Array.replicate l.toArray.size false).extract 0 n = Array.replicate n false := by
    apply Array.ext_getElem?
    intro j
    by_cases hj : j < n
    · rw [ext0 _ hj, Array.getElem?_replicate, Array.getElem?_replicate, if_pos hj, if_pos (by omega)]
    · rw [Array.getElem?_eq_none (by simp; omega), Array.getElem?_eq_none (by simp; omega)]
  have hbd : Below w.heap.size w { w with drawn := w.drawn + 1 } := (Below.refl w.heap.size w).drew
  have hlen : n + (l.drop n).length = l.toArray.size := by simp; omega
  suffices hg : wpAny P .any l.toArray Q (n + (l.drop n).length) (Array.replicate l.toArray.size false) a { w with drawn := w.drawn + 1 } by rw [hlen] at hg; exact hg
  refine wpAny_of_truncE (T := fun a w => wpList P l.toArray Q (l.drop n) a w) b1 b2 b3 hn (fun L a' w' inv' hu' hT => ?_) n _ a _ inv hu ?_
  · have eL : L = (Array.replicate l.length false).mapIdx fun i _ => decide (i < n) := by
      apply Array.ext (by simp [inv'.size])
      intro i h1 h2
      simp only [Array.getElem_mapIdx]
      by_cases hi : i < n
      · have := unl_zero hu' i hi; simp [h1] at this; simp [hi, this]
      · have := inv'.tail i (by omega) (by rw [← inv'.size]; exact h1); simp [h1] at this; simp [hi, this]
    subst eL
    exact wpAny_of_seq (l.drop n) n _ a' w' (fun j => by simp [List.getElem?_drop]) b4 hT
  · rw [e1, e]
    refine wpAny_of_held (S := fun w' => ∃ p : Regrown, w' = Go.Sort.grow (redrawn w p.d) p.os) _ _ _ _ ?_
    suffices hg : wpAnyH P .any (l.take n).toArray (Ends fun a w => wpList P l.toArray Q (l.drop n) a w) (fun w' => ∃ p : Regrown, w' = Go.Sort.grow (redrawn w p.d) p.os) ((n - rs.length) + rs.length) (Array.replicate n false) a { w with drawn := w.drawn + 1 } by rw [Nat.sub_add_cancel b9] at hg; exact hg
    refine wpAnyH_takes b6 rs _ a _ (n - rs.length) ⟨⟨w.drawn + 1, #[]⟩, by rw [Go.Sort.grow_empty]; rfl⟩ b7 ?_
    refine wpQuiet_mono (fun a' ha => ?_) _ _ h
    refine wpAnyH_floats (B := w.heap.size) (fls := fls) (fun w1 w2 h1 h2 => ?_) (fun w1 h1 => ?_) (fun fl hfl => ?_) hal hnd _ cs fls [] _ a' _ (fun _ => 0) b8 ⟨⟨w.drawn + 1, #[]⟩, by rw [Go.Sort.grow_empty]; rfl⟩ (fun i o fl hi ho2 hfl => ?_) ha.1 (fun _ h => h) (fun fl h => by cases h) (fun _ h => .inl h) (fun fl fl' h => by cases h) (fun val w'' hb => ha.2 val w'' (hbd.trans (hb.mono (Nat.le_refl _))))
    · obtain ⟨p, rfl⟩ := h1
      have hb1 := below_regrown w p.d p.os
      exact regrown_of_below (hb1.trans (h2.mono hb1.size))
    · obtain ⟨p, rfl⟩ := h1
      exact (below_regrown w p.d p.os).size
    · have h1 := List.all_eq_true.1 b11 fl hfl
      cases ho : (l.take n)[fl.fi]? with
      | none => rw [ho] at h1; cases h1
      | some og =>
        rw [ho] at h1
        simp only [Bool.and_eq_true, decide_eq_true_eq] at h1
        refine ⟨og, by simpa using ho, h1.1.1, by simpa using h1.1.2, ?_⟩
        have h3 := h1.2
        split at h3
        · rename_i t' hq; rw [hq]; congr 1; simpa using h3
        · cases h3
    · have h1 := List.all_eq_true.1 b10 i hi
      rw [show (l.take n)[i]? = some o by simpa using ho2] at h1
      have h2 := List.all_eq_true.1 h1 fl hfl
      simpa using h2
end
end Go.Proofs.Ytlkdmcdnkoiflaa

/- stock.Reach of what can be asked. -/
namespace Go.Proofs.Ytlkdmcdnkoiflaa
open Go.RowKit Go.Lib

/-- What is sold of a size up to each year, at one end. -/
def soldE (d : PD) (hi : Bool) (size k : Nat) : Int :=
  match hi with
  | true => soldUpD d (fun _ => growF d (·.2)) (fun _ => d.lo) (pad5 (d.s.map (·.2))) size k
  | false => soldUpD d (fun _ => growF d (·.1)) (fun _ => d.hi) (pad5 (d.s.map (·.1))) size k
/-- The first of Y years up to which so many are sold, or -1. -/
def ReachP (f : Nat → Int) (Y : Nat) (number r : Int) : Prop := (r = -1 ∧ ∀ j, j < Y → f (j + 1) < number) ∨ ∃ k : Nat, k < Y ∧ r = k ∧ number ≤ f (k + 1) ∧ ∀ j, j < k → f (j + 1) < number
theorem reachL_spec (p : PlM) (t : TrM) (pl : List Int) (size : Nat) (number : Int) (Y : Nat) (f : Nat → Int) (hf : ∀ k, k ≤ Y → soldUp p t pl size k = f k) : ReachP f Y number (reachL p t pl size number Y) := by
  unfold reachL
  cases h : (List.range Y).find? (fun k => decide (number ≤ soldUp p t pl size (k + 1))) with
  | none =>
    refine .inl ⟨rfl, fun j hj => ?_⟩
    have := List.find?_eq_none.1 h j (List.mem_range.2 hj)
    rw [hf _ (by omega)] at this
    simpa using this
  | some k =>
    obtain ⟨h1, i, hi, h2, h3⟩ := List.find?_eq_some_iff_getElem.1 h
    simp only [List.length_range] at hi
    simp only [List.getElem_range] at h2
    subst h2
    refine .inr ⟨i, hi, rfl, ?_, fun j hj => ?_⟩
    · rw [← hf _ (by omega)]; simpa using h1
    · have := h3 j hj
      simp only [List.getElem_range] at this
      rw [hf _ (by omega)] at this
      simpa using this
theorem soldUp_endsK {p : PlM} {t : TrM} {fb fc : Int × Int → Int} {Y : Nat} (e2 : t.g.l.length = Y) (e3 : ∀ y, y ∈ t.g.l → y.l.map (·.l) = p.g.l.map fun x => x.l.map fb) (e4 : t.l.l = List.replicate Y (fc (p.lo, p.hi))) (pl : List Int) (size : Nat) {k : Nat} (hk : k ≤ Y) :
    soldUp p t pl size k = soldUpD p.d (fun _ => growF p.d fb) (fun _ => fc (p.d.lo, p.d.hi)) pl size k := by
  rw [soldUp_d]
  exact soldUpD_congr rfl rfl rfl rfl k fun j hj => ends_gr e2 e3 e4 (by omega)
def RetRe (d : PD) (Y size : Nat) (number : Int) (w : World) (e : Ending) (w' : World) : Prop :=
  ∃ a b : Int, e = .returned (.tuple #[.int .i64 a, .int .i64 b, .int .i64 0]) ∧ ReachP (soldE d true size) Y number a ∧ ReachP (soldE d false size) Y number b ∧ Below w.heap.size w w'
set_option maxRecDepth 100000 in
set_option maxHeartbeats 4000000 in
theorem Reach_ok (p : PlM) (Y size : Nat) (number : Int) (w : World) (hp : p.At w w.heap.size) (hY : p.years = (Y : Int)) (hq : askedL p number [(size : Int)] = 0) :
    Calls Try.prog 31 #[.agg p.cells.toArray, .int .i64 size, .int .i64 number] w (RetRe p.d Y size number w) := by
  obtain ⟨hv, hsz, hnb⟩ := asked_zero hq
  have hn5 := hv.ok.n
  have hss : size < p.s.l.length := by have := hsz size (by simp); omega
  have hY6 : Y ≤ 6 := by have := hv.y; omega
  have l0 : Lies (w.alloc (.cells p.cells.toArray 41)) w.heap.size 41 p.cells.toArray := Lies.fresh _ _ _
  have b0 : Below w.heap.size w (w.alloc (.cells p.cells.toArray 41)) := (Below.refl _ _).alloc (Nat.le_refl _) _
  have hA : ∀ W, Below w.heap.size w W → Sl W W.heap.size 1 (fun x => [Value.int .i64 x]) (some ⟨w.heap.size + 1, 0, none⟩) [(size : Int)] → Calls Try.prog 69 #[.agg p.cells.toArray, .int .i64 number, .slice (some ⟨w.heap.size + 1, 0, none⟩) 1 1] W fun e w' => e = .returned (.int .i64 0) ∧ Below W.heap.size W w' := fun W hb hs => by
    have h := checkAsked_any p number (some ⟨w.heap.size + 1, 0, none⟩) 1 [(size : Int)] W (hp.below hb hb.size) hs (by simp)
    rw [hq] at h
    exact h
  have hFl : ∀ W, Below w.heap.size w W → Calls Try.prog 70 #[.agg p.cells.toArray, .agg (endsC 109 109 108 109).toArray] W (FollowR p (·.1) (·.1) (·.2) Y W) := fun W hb => follow_any p _ _ _ _ _ _ _ Y W (hp.below hb hb.size) hY hY6 takes_low takes_low takes_high
  have hFh : ∀ W, Below w.heap.size w W → Calls Try.prog 70 #[.agg p.cells.toArray, .agg (endsC 108 108 109 108).toArray] W (FollowR p (·.2) (·.2) (·.1) Y W) := fun W hb => follow_any p _ _ _ _ _ _ _ Y W (hp.below hb hb.size) hY hY6 takes_high takes_high takes_low
  have L0 := Lib.hid l0
  have B0 := Lib.hid b0
  have HA := Lib.hid hA
  have HFL := Lib.hid hFl
  have HFH := Lib.hid hFh
  have HP := Lib.hid hp
  have HV := Lib.hid hv
  have HYE := Lib.hid hY
  clear l0 b0 hA hFl hFh hp hv hY hq hsz
  unfold PlM.cells at HA ⊢
  go_enter Try.func31, Try.ntmps31
  go_upto_region 4 with (first
    | (refine wpList_load_row (o := ⟨some 12, _, _, _, _, _⟩) ?_ 41 (.tmp 3) ?_ w.heap.size ?_ 41 p.cells.toArray (0, 0) _ L0.out Try.underlying41 rfl size41 ?_; rfl; rfl; rfl)
    | (go_at_call 69; refine (HA.out _ (B0.out.alloc B0.out.size _) ?_).mono ?_; exact sl_of_lies (enc := encI) (fun _ => rfl) (Lies.fresh' (by simp)); rintro e w1 ⟨rfl, hb1⟩))
  have b1 : Below w.heap.size w w1 := (B0.out.alloc B0.out.size _).trans (hb1.mono (B0.out.alloc B0.out.size _).size)
  have k0 := (L0.out.alloc (.cells #[.int .i64 size] 3)).call hb1
  have hrg : ∀ W, (∃ q : Regrown, W = Go.Sort.grow (redrawn w1 q.d) q.os) → W.rangeAt w.heap.size 0 p.cells := by
    rintro W ⟨q, rfl⟩
    exact Lies.range (cs := p.cells) (k0.call (below_regrown _ q.d q.os)) (fun j v hj => by simpa using hj)
  have HRG := Lib.hid hrg
  have K0 := Lib.hid k0
  have B1 := Lib.hid b1
  have hz1 : w.heap.size + 1 ≤ w1.heap.size := by have := hb1.size; simp at this; omega
  clear hrg k0 b1 hb1 HA L0 B0
  refine wp_region_many 8 [0, 3] [1, 2, 4, 5] [⟨6, 10, 117, zcourse.toArray⟩, ⟨7, 11, 117, zcourse.toArray⟩] (by kernel_rfl) (by kernel_rfl) (fun fl h => ?_) (fun fl fl' h h' => ?_) ?_
  · simp only [List.mem_cons, List.not_mem_nil, or_false] at h
    rcases h with rfl | rfl <;> exact alloc_course
  · simp only [List.mem_cons, List.not_mem_nil, or_false] at h h'
    rcases h with rfl | rfl <;> rcases h' with rfl | rfl <;> simp
  simp only [List.filterMap_cons, List.filterMap_nil, List.take_succ_cons, List.take_zero, List.getElem?_toArray, List.getElem?_cons_zero, List.getElem?_cons_succ, List.drop_succ_cons, List.drop_zero, List.map_cons, List.map_nil]
  refine wpQuiet_load_whole (o := ⟨some 20, _, _, _, _, _⟩) ?_ 41 (.tmp 3) ?_ w.heap.size 0 ?_ p.cells _ HRG.out Try.underlying41 rfl size41 ?_
  rfl; rfl; rfl
  simp only [Act.put, List.setIfInBounds_toArray, List.set_cons_zero, List.set_cons_succ]
  refine wpQuiet_load_whole (o := ⟨some 23, _, _, _, _, _⟩) ?_ 41 (.tmp 3) ?_ w.heap.size 0 ?_ p.cells _ HRG.out Try.underlying41 rfl size41 ?_
  rfl; rfl; rfl
  simp only [Act.put, List.setIfInBounds_toArray, List.set_cons_zero, List.set_cons_succ]
  refine wpQuiet_nil ?_
  refine ⟨by simp, ?_⟩
  intro vf0 w2 hx2
  simp only [putF, List.foldl_cons, List.foldl_nil, Act.put, List.setIfInBounds_toArray, List.set_cons_zero, List.set_cons_succ]
  simp only [wpFloats]
  go_wp2_with (go_at_call 71; refine (greaterEnds_any _).mono ?_; rintro e u3 ⟨rfl, hb3⟩)
  refine Ends.intro ⟨hb3, ?_⟩
  intro vf3 w3 hx3
  simp only [putF, List.foldl_cons, List.foldl_nil, Act.put, List.setIfInBounds_toArray, List.set_cons_zero, List.set_cons_succ]
  have hc3 := hx2.trans ((hb3.trans (hx3.mono hb3.size)).mono hx2.size)
  go_wp2_with (go_at_call 70; refine (HFH.out _ (B1.out.trans (hc3.mono B1.out.size))).mono ?_; rintro e u4 ⟨t, rfl, ht, e1, e2, e3, e4, hb4⟩)
  refine Ends.intro ⟨hb4, ?_⟩
  intro vf4 w4 hx4
  simp only [List.setIfInBounds_toArray, List.set_cons_zero, List.set_cons_succ]
  have h34 := hb4.trans (hx4.mono hb4.size)
  have hc4 := hc3.trans (h34.mono hc3.size)
  have hW4 : t.Within w4 w3.heap.size u4.heap.size := ht.mid fun j _ hj => hx4.block j hj
  go_wp2_with (go_at_call 72; refine (lesserEnds_any _).mono ?_; rintro e u5 ⟨rfl, hb5⟩)
  refine Ends.intro ⟨hb5, ?_⟩
  intro vf5 w5 hx5
  simp only [List.setIfInBounds_toArray, List.set_cons_zero, List.set_cons_succ]
  have h45 := hb5.trans (hx5.mono hb5.size)
  have hc5 := hc4.trans (h45.mono hc4.size)
  go_wp2_with (go_at_call 70; refine (HFL.out _ (B1.out.trans (hc5.mono B1.out.size))).mono ?_; rintro e u6 ⟨x, rfl, hx, f1, f2, f3, f4, hb6⟩)
  refine Ends.intro ⟨hb6, ?_⟩
  intro vf6 w6 hx6
  simp only [List.setIfInBounds_toArray, List.set_cons_zero, List.set_cons_succ]
  intro G w7 hx7 hG hGG
  simp only [List.map_cons, List.map_nil, putF, List.foldl_cons, List.foldl_nil, Act.put, List.setIfInBounds_toArray, List.set_cons_zero, List.set_cons_succ]
  have h67 := hx6.trans (hx7.mono hx6.size)
  have h57 := hb6.trans (h67.mono hb6.size)
  have hc7 := hc5.trans (h57.mono hc5.size)
  have h47 := h45.trans (h57.mono h45.size)
  obtain ⟨ga, la⟩ := hG ⟨6, 10, 117, zcourse.toArray⟩ (by simp)
  obtain ⟨gb, lb⟩ := hG ⟨7, 11, 117, zcourse.toArray⟩ (by simp)
  have hne := hGG ⟨6, 10, 117, zcourse.toArray⟩ ⟨7, 11, 117, zcourse.toArray⟩ (by simp) (by simp) (by simp)
  simp only at ga la gb lb hne
  generalize G 10 = g1 at *
  generalize G 11 = g2 at *
  have hz4 := hx4.size
  have hz47 := h47.size
  have ht7 : t.Within w7 w3.heap.size u4.heap.size := hW4.mid fun j _ hj => h47.block j (by omega)
  have hx7' : x.Within w7 w5.heap.size u6.heap.size := hx.mid fun j _ hj => h67.block j hj
  have hz6 := h67.size
  refine wpList_store_cells (o := ⟨none, .store 117 (.tmp 10) _, _, _, _, _⟩) ?_ 117 (.tmp 10) (.tmp 22) ?_ g1 0 ?_ 117 zcourse (p.cells ++ t.cells) ?_ la (by simp [PlM.cells, TrM.cells]) size117 (by simp [PlM.cells, TrM.cells, Value.oneCell']) ?_
  rfl; rfl; rfl; rfl
  intro w8 HS8 HO8
  have lb8 := HO8.out.lies lb (Ne.symm hne)
  refine wpList_store_cells (o := ⟨none, .store 117 (.tmp 11) _, _, _, _, _⟩) ?_ 117 (.tmp 11) (.tmp 25) ?_ g2 0 ?_ 117 zcourse (p.cells ++ x.cells) ?_ lb8 (by simp [PlM.cells, TrM.cells]) size117 (by simp [PlM.cells, TrM.cells, Value.oneCell']) ?_
  rfl; rfl; rfl; rfl
  intro w9 HS9 HO9
  refine wpList_nil ?_
  have s8 : Lies w8 g1 117 (p.cells ++ t.cells).toArray := by have := HS8.out; rwa [splice_whole (by simp [PlM.cells, TrM.cells])] at this
  have s9 : Lies w9 g2 117 (p.cells ++ x.cells).toArray := by have := HS9.out; rwa [splice_whole (by simp [PlM.cells, TrM.cells])] at this
  have s89 := HO9.out.lies s8 hne
  have t9 := (ht7.only HO8.out la).only HO9.out lb8
  have x9 := (hx7'.only HO8.out la).only HO9.out lb8
  have hz9 : w9.heap.size = w7.heap.size := by rw [HO9.out.size, HO8.out.size]
  have ta : t.At w9 w9.heap.size := t9.at (by omega)
  have xa : x.At w9 w9.heap.size := x9.at (by omega)
  have b9 : Below w.heap.size w w9 := HO9.out.below (HO8.out.below (B1.out.trans (hc7.mono B1.out.size)) (by omega)) (by omega)
  have pt1 := ends_fit HV.out between_high between_high between_low HYE.out e1 e2 e3 e4
  have pt2 := ends_fit HV.out between_low between_low between_high HYE.out f1 f2 f3 f4
  have r1 : ∀ W, Below w9.heap.size w9 W → Calls Try.prog 73 #[.agg (p.cells ++ t.cells).toArray, .int .i64 size, .int .i64 number] W fun e w' => ∃ r : Int, e = .returned (.int .i64 r) ∧ ReachP (soldE p.d true size) Y number r ∧ Below W.heap.size W w' := fun W hb => by
    have hbw := b9.trans (hb.mono b9.size)
    refine (reach_any p t size number W (HP.out.below hbw hbw.size) (ta.below hb hb.size) pt1 (by rw [pt1.fit.s]; exact hn5) (start_five pt1) (by omega)).mono fun e w' ⟨he, hb'⟩ => ⟨_, he, ?_, hb'⟩
    rw [e2, e1]
    exact reachL_spec p t _ size number Y _ fun k hk => by unfold soldE; exact soldUp_endsK (fb := (·.2)) (fc := (·.1)) e2 e3 e4 _ size hk
  have r2 : ∀ W, Below w9.heap.size w9 W → Calls Try.prog 73 #[.agg (p.cells ++ x.cells).toArray, .int .i64 size, .int .i64 number] W fun e w' => ∃ r : Int, e = .returned (.int .i64 r) ∧ ReachP (soldE p.d false size) Y number r ∧ Below W.heap.size W w' := fun W hb => by
    have hbw := b9.trans (hb.mono b9.size)
    refine (reach_any p x size number W (HP.out.below hbw hbw.size) (xa.below hb hb.size) pt2 (by rw [pt2.fit.s]; exact hn5) (start_five pt2) (by omega)).mono fun e w' ⟨he, hb'⟩ => ⟨_, he, ?_, hb'⟩
    rw [f2, f1]
    exact reachL_spec p x _ size number Y _ fun k hk => by unfold soldE; exact soldUp_endsK (fb := (·.1)) (fc := (·.2)) f2 f3 f4 _ size hk
  have g1r : ∀ W, (∃ c : Cls (fun W => Below w9.heap.size w9 W), W = c.val) → W.rangeAt g1 0 (p.cells ++ t.cells) := by
    rintro W ⟨c, rfl⟩
    exact Lies.range (cs := p.cells ++ t.cells) (s89.call c.h) (fun j v hj => by simpa using hj)
  have g2r : ∀ W, (∃ c : Cls (fun W => Below w9.heap.size w9 W), W = c.val) → W.rangeAt g2 0 (p.cells ++ x.cells) := by
    rintro W ⟨c, rfl⟩
    exact Lies.range (cs := p.cells ++ x.cells) (s9.call c.h) (fun j v hj => by simpa using hj)
  have R1 := Lib.hid r1
  have R2 := Lib.hid r2
  have G1R := Lib.hid g1r
  have G2R := Lib.hid g2r
  have B9 := Lib.hid b9
  haveI hne9 : Nonempty (Cls (fun W => Below w9.heap.size w9 W)) := ⟨⟨w9, Below.refl _ _⟩⟩
  clear r1 r2 g1r g2r b9 pt1 pt2 ta xa t9 x9 s8 s9 s89 lb8 la lb HS8 HO8 HS9 HO9 hG hGG hx7 hx6 hx5 hx4 hx3 hx2 hb3 hb4 hb5 hb6 ht hx e1 e2 e3 e4 f1 f2 f3 f4 h34 h45 h67 h57 h47 hc3 hc4 hc5 hc7 hW4 ht7 hx7' K0 B1 HRG HFL HFH
  go_upto_region 5 with (fail)
  refine wp_region_whole [([0, 1, 2, 4, 5, 6], [3, 7]), ([8, 9, 10], [])] (fun W => ∃ c : Cls (fun W => Below w9.heap.size w9 W), W = c.val) (Cls.here (Below.refl _ _).drew) (by kernel_rfl) (by kernel_rfl) ?_
  simp only [wpPhases, List.filterMap_cons, List.filterMap_nil, List.getElem?_toArray, List.getElem?_cons_zero, List.getElem?_cons_succ]
  refine wpQuiet_load_whole (o := ⟨some 26, _, _, _, _, _⟩) ?_ 117 (.tmp 10) ?_ g1 0 ?_ (p.cells ++ t.cells) _ G1R.out Try.underlying117 rfl size117 ?_
  rfl; rfl; rfl
  simp only [Act.put, List.setIfInBounds_toArray, List.set_cons_zero, List.set_cons_succ]
  change wpQuiet _ _ _ _ (_ :: _ :: _ :: _ :: _ :: []) _
  go_big_quiet_step (fail)
  go_big_quiet_step (fail)
  refine wpQuiet_load_whole (o := ⟨some 30, _, _, _, _, _⟩) ?_ 117 (.tmp 11) ?_ g2 0 ?_ (p.cells ++ x.cells) _ G2R.out Try.underlying117 rfl size117 ?_
  rfl; rfl; rfl
  simp only [Act.put, List.setIfInBounds_toArray, List.set_cons_zero, List.set_cons_succ]
  change wpQuiet _ _ _ _ (_ :: _ :: []) _
  go_big_quiet_step (fail)
  go_big_quiet_step (fail)
  refine wpQuiet_nil ?_
  simp only [wpForce]
  have hd : Below w9.heap.size w9 w9.drew := (Below.refl _ _).drew
  generalize w9.drew = v0 at *
  go_wp2_with (go_at_call 73; refine (R1.out _ hd).mono ?_; rintro e v1 ⟨ra, rfl, hra, hb1⟩)
  have hd1 := hd.trans (hb1.mono hd.size)
  refine Ends.intro ⟨Cls.here hd1, ?_⟩
  go_wp2_with (go_at_call 73; refine (R2.out _ hd1).mono ?_; rintro e v2 ⟨rb, rfl, hrb, hb2⟩)
  have hd2 := hd1.trans (hb2.mono hd1.size)
  refine Ends.intro ⟨Cls.here hd2, ?_⟩
  change wpQuiet _ _ _ _ (_ :: _ :: _ :: []) _
  repeat (first | go_big_quiet_step (fail) | quiet_step (fail))
  refine wpQuiet_nil ?_
  have HRES := Lib.hid (show RetRe p.d Y size number w (.returned (.tuple #[.int .i64 ra, .int .i64 rb, .int .i64 0])) v2 from ⟨ra, rb, rfl, hra, hrb, B9.out.trans (hd2.mono B9.out.size)⟩)
  clear hra hrb hb1 hb2 hd hd1 hd2 R1 R2 G1R G2R B9
  go_wp2
  go_ret3
  exact HRES.out
end Go.Proofs.Ytlkdmcdnkoiflaa

/- The first year up to which enough are sold; between the ends. -/
namespace Go.Proofs.Ytlkdmcdnkoiflaa
open Go.RowKit Go.Lib

/-- The first of Y years up to which so many are sold; Y: there is none. -/
def FirstP (f : Nat → Int) (Y : Nat) (number : Int) (r : Nat) : Prop := r ≤ Y ∧ (∀ j, j < r → f (j + 1) < number) ∧ (r < Y → number ≤ f (r + 1))
theorem FirstP.le {f g : Nat → Int} {Y r s : Nat} {n m : Int} (h1 : FirstP f Y n r) (h2 : FirstP g Y m s) (hn : n ≤ m) (h : ∀ k, k ≤ Y → g k ≤ f k) : r ≤ s := by
  by_cases hlt : s < r
  · have a := h1.1
    have b := h1.2.1 s hlt
    have c := h2.2.2 (by omega)
    have d := h (s + 1) (by omega)
    omega
  · omega
theorem ReachP.first {f : Nat → Int} {Y : Nat} {number r : Int} (h : ReachP f Y number r) : ∃ k : Nat, FirstP f Y number k ∧ ((r = -1 ∧ k = Y) ∨ (r = (k : Int) ∧ k < Y)) := by
  rcases h with ⟨h1, h2⟩ | ⟨k, h1, h2, h3, h4⟩
  · exact ⟨Y, ⟨Nat.le_refl _, h2, fun h => by omega⟩, .inl ⟨h1, rfl⟩⟩
  · exact ⟨k, ⟨by omega, h4, fun _ => h3⟩, .inr ⟨h2, h1⟩⟩
/-- What is sold of a size in a truth up to each year. -/
def soldT (d : PD) (t : TD) (size k : Nat) : Int := soldUpD d (fun k => t.g.getD k []) (fun k => t.l.getD k 0) (pad5 t.s) size k
theorem soldT_step {d : PD} {t : TD} {size k : Nat} (hs : size < d.s.length) (hn : d.s.length ≤ 5) : ∃ b : Int, (toldL d.s.length (yrT d t k)).2.1[size]? = some b ∧ soldT d t size (k + 1) = soldT d t size k + b :=
  ⟨_, (told_at hs hn).2.1, by unfold soldT; rw [soldUpD, yrD_sold hn _ _ _ _ hs]⟩
/-- What is sold in a truth lies between what is sold at the ends. -/
theorem soldT_between {p : PlM} {t : TD} (hv : p.Valid) {Y : Nat} (hY : p.years = (Y : Int)) (hf : fitD p.d t = true) {size k : Nat} (hs : size < p.s.l.length) (hk : k ≤ Y) :
    soldE p.d false size k ≤ soldT p.d t size k ∧ soldT p.d t size k ≤ soldE p.d true size k := by
  have hn5 := hv.ok.n
  have hlo := hv.l
  unfold fitD at hf
  simp only [Bool.and_eq_true, decide_eq_true_eq, List.all_eq_true] at hf
  obtain ⟨h0, ⟨h1, h2⟩, h3, h4⟩ := hf
  have hst := (pairedB_iff.1 h0)
  have hgl : t.g.length = Y := by have : p.d.years = p.years := rfl; omega
  have hll : t.l.length = Y := by have : p.d.years = p.years := rfl; omega
  have hds : p.d.s.length = p.s.l.length := rfl
  have hS : ∀ i, i < p.s.l.length → ∃ r v, p.s.l[i]? = some r ∧ t.s.getD i 0 = v ∧ 0 ≤ r.1 ∧ r.1 ≤ v ∧ v ≤ r.2 ∧ (p.d.s.map (·.1)).getD i 0 = r.1 ∧ (p.d.s.map (·.2)).getD i 0 = r.2 := fun i hi => by
    have hx : p.d.s[i]? = some p.s.l[i] := by show p.s.l[i]? = _; simp [hi]
    have hi2 : i < t.s.length := by rw [← hst.1]; exact hi
    have hy : t.s[i]? = some t.s[i] := by simp [hi2]
    have := inB_iff.1 (hst.2 i _ _ hx hy)
    have hr := hv.sb _ (List.getElem_mem hi)
    exact ⟨p.s.l[i], t.s[i], hx, by simp [List.getD, hy], hr.1, this.1, this.2, by simp [List.getD, hx], by simp [List.getD, hx]⟩
  have hG : ∀ y, y < Y → ∀ i j, i < p.s.l.length → j < p.s.l.length → ∃ r : Int × Int, 0 ≤ r.1 ∧ r.1 ≤ ((t.g.getD y []).getD i []).getD j 0 ∧ ((t.g.getD y []).getD i []).getD j 0 ≤ r.2 ∧ ((growF p.d (·.1)).getD i []).getD j 0 = r.1 ∧ ((growF p.d (·.2)).getD i []).getD j 0 = r.2 := fun y hy i j hi hj => by
    have hyl : y < t.g.length := by omega
    have hp2 := pairedB_iff.1 (h2 t.g[y] (List.getElem_mem hyl))
    have hdg : p.d.g.length = p.s.l.length := by show (p.g.l.map (·.l)).length = _; rw [List.length_map]; exact hv.g
    have hgi : i < p.d.g.length := by omega
    have hti : i < t.g[y].length := by rw [← hp2.1]; omega
    have hp3 := pairedB_iff.1 (hp2.2 i p.d.g[i] t.g[y][i] (by simp [hgi]) (by simp [hti]))
    have hpi : i < p.g.l.length := by rw [hv.g]; exact hi
    have hdi : p.d.g[i] = p.g.l[i].l := by simp [PlM.d]
    have hrl : p.d.g[i].length = p.s.l.length := by rw [hdi]; exact hv.gl _ (List.getElem_mem hpi)
    have hj1 : j < p.d.g[i].length := by omega
    have hj2 : j < t.g[y][i].length := by rw [← hp3.1]; omega
    have hh := inB_iff.1 (hp3.2 j p.d.g[i][j] t.g[y][i][j] (by simp [hj1]) (by simp [hj2]))
    have hb := hv.gb _ (List.getElem_mem hpi) (p.d.g[i][j]) (by rw [← hdi]; exact List.getElem_mem hj1)
    have e : ((t.g.getD y []).getD i []).getD j 0 = t.g[y][i][j] := by simp [List.getD, hyl, hti, hj2]
    rw [e]
    exact ⟨p.d.g[i][j], hb.1, hh.1, hh.2, by simp [growF, List.getD, hgi, hj1], by simp [growF, List.getD, hgi, hj1]⟩
  have hL : ∀ y, y < Y → p.lo ≤ t.l.getD y 0 ∧ t.l.getD y 0 ≤ p.hi := fun y hy => inB_iff.1 (h4 _ (getD_mem (by omega)))
  have hln1 : (p.d.s.map (·.1)).length = p.s.l.length := by simp [PlM.d]
  have hln2 : (p.d.s.map (·.2)).length = p.s.l.length := by simp [PlM.d]
  have hlt : t.s.length = p.s.l.length := hst.1.symm
  constructor
  · refine soldUpD_mono (d := p.d) hn5 (fun i hi => ?_) (fun i hi => nums_bd hv hi) hs k (fun y hy i j hi hj => ?_) (fun y hy => ?_)
    · obtain ⟨r, v, _, e2, b0, b1, b2, e3, e4⟩ := hS i hi
      rw [pad5_getD (by omega) i (by omega), pad5_getD (by omega) i (by omega), e2, e3]
      omega
    · obtain ⟨r, b0, b1, b2, e3, e4⟩ := hG y (by omega) i j hi hj
      show 0 ≤ ((growF p.d (·.1)).getD i []).getD j 0 ∧ ((growF p.d (·.1)).getD i []).getD j 0 ≤ ((t.g.getD y []).getD i []).getD j 0
      rw [e3]
      omega
    · have := hL y (by omega)
      exact ⟨show 0 ≤ p.hi by omega, this.2, show p.hi ≤ 1000 by omega⟩
  · refine soldUpD_mono (d := p.d) hn5 (fun i hi => ?_) (fun i hi => nums_bd hv hi) hs k (fun y hy i j hi hj => ?_) (fun y hy => ?_)
    · obtain ⟨r, v, _, e2, b0, b1, b2, e3, e4⟩ := hS i hi
      rw [pad5_getD (by omega) i (by omega), pad5_getD (by omega) i (by omega), e2, e4]
      omega
    · obtain ⟨r, b0, b1, b2, e3, e4⟩ := hG y (by omega) i j hi hj
      show 0 ≤ ((t.g.getD y []).getD i []).getD j 0 ∧ ((t.g.getD y []).getD i []).getD j 0 ≤ ((growF p.d (·.2)).getD i []).getD j 0
      rw [e4]
      omega
    · have := hL y (by omega)
      exact ⟨show 0 ≤ t.l.getD y 0 by omega, this.1, show t.l.getD y 0 ≤ 1000 by omega⟩
set_option maxRecDepth 100000 in
set_option maxHeartbeats 4000000 in
theorem first_any (A : Option Addr) (c : Nat) (ys : List Y4) (Y : Nat) (f : Nat → Int) (size : Nat) (number : Int) (w : World) (hA : Sl w w.heap.size 4 encY4 A ys) (hin : ∀ y, y ∈ ys → y.In w w.heap.size) (hl : ys.length = Y) (hY6 : Y ≤ 6) (hs5 : size < 5)
    (h0 : f 0 = 0) (hf : ∀ k y, ys[k]? = some y → ∃ b : Int, y.b.l[size]? = some b ∧ f (k + 1) = f k + b ∧ 0 ≤ b ∧ b ≤ 30000000) :
    Calls Try.prog 56 #[.slice A Y c, .int .i64 size, .int .i64 number] w fun e w' => ∃ r : Nat, e = .returned (.int .i64 r) ∧ FirstP f Y number r ∧ Below w.heap.size w w' := by
  have hfb : ∀ k, k ≤ Y → 0 ≤ f k ∧ f k ≤ 30000000 * k := by
    intro k
    induction k with
    | zero => intro _; omega
    | succ k ih =>
      intro hk
      have hkl : k < ys.length := by omega
      obtain ⟨b, _, e, b0, b1⟩ := hf k ys[k] (by simp [hkl])
      have := ih (by omega)
      omega
  have HA := Lib.hid hA
  have HIN := Lib.hid hin
  have HF := Lib.hid hf
  have HFB := Lib.hid hfb
  have HN := Lib.hid (show ∀ j, j < 0 → f (j + 1) < number from fun j hj => by omega)
  clear hA hin hf hfb
  go_enter Try.func56, Try.ntmps56
  go_wp2
  go_loopw [7, 8] (fun n i wr => ∃ k : Nat, k ≤ Y ∧ i = .int .i64 k ∧ n = .int .i64 (f k) ∧ Aside (∀ j, j < k → f (j + 1) < number) ∧ Aside (Below w.heap.size w wr)) (fun _ i _ => Y - (intOf i).toNat)
  case atStart => exact ⟨0, by omega, rfl, by rw [h0], HN.out, Below.refl _ _⟩
  case round =>
    obtain ⟨k, hk, rfl, rfl, hj, hb⟩ := hrel
    by_cases hlt : k < Y
    · have hltz : (k : Int) < (Y : Int) := by omega
      have hk0 : (0 : Int) ≤ (k : Int) := by omega
      obtain ⟨y, hy⟩ : ∃ y, ys[k]? = some y := ⟨ys[k]'(by omega), by simp⟩
      obtain ⟨b, hyb, hfk, hb0, hb1⟩ := HF.out k y hy
      obtain ⟨b1, o1, rfl, hbb, q1⟩ := HA.out.at_ hy
      obtain ⟨mb, yb, ib, jb, pb⟩ := (HIN.out y (List.mem_of_getElem? hy)).b.sl.cell1 hyb
      have hsl : size < y.b.l.length := (List.getElem?_eq_some_iff.1 hyb).1
      have hslz : (size : Int) < (y.b.l.length : Int) := by omega
      have hs0 : (0 : Int) ≤ (size : Int) := by omega
      have c1 : wr.cell? ⟨b1, o1 + k * 4 + 1, none⟩ = some (.slice (some ⟨mb, yb, none⟩) y.b.l.length y.b.c) := by
        rw [← ib]; exact (hb.out.cell (p := ⟨b1, o1 + k * 4 + 1, none⟩) hbb).trans (q1 1 _ rfl)
      have c2 : wr.cell? ⟨mb, yb + size, none⟩ = some (.int .i64 b) := (hb.out.cell (p := ⟨mb, yb + size, none⟩) jb).trans pb
      have fb := HFB.out k hk
      have fbz : f k ≤ 180000000 := by omega
      have fb0 := fb.1
      have HFK := Lib.hid hfk
      clear q1 pb ib hyb hfk fb hy
      generalize y.b.l.length = yl at *
      by_cases hge : number ≤ f k + b
      · go_wp2
        go_ret
        exact ⟨k, rfl, ⟨by omega, hj.out, fun _ => by rw [HFK.out]; exact hge⟩, hb.out⟩
      · go_wp2
        go_roundw
        case rel => exact ⟨k + 1, by omega, by go_num, by rw [HFK.out], (fun j hjk => by
          by_cases e : j = k
          · subst e; rw [HFK.out]; omega
          · exact hj.out j (by omega)), hb.out⟩
        case measure => simp [intOf]; omega
    · obtain rfl : k = Y := by omega
      go_wp2
      go_ret
      exact ⟨k, rfl, ⟨by omega, hj.out, fun h => by omega⟩, hb.out⟩
end Go.Proofs.Ytlkdmcdnkoiflaa

/- StockReached. -/
namespace Go.Proofs.Ytlkdmcdnkoiflaa
open Go.RowKit Go.Lib
attribute [local go_sem] Oper.semAt_some

theorem Reach_law (q : PlM) (d : PD) (Y size : Nat) (number : Int) (W : World) (hd : q.d = d) (hq : q.At W W.heap.size) (hf : q.fault = 0) (hY : q.years = (Y : Int)) (hs : size < d.s.length) (h0 : 0 ≤ number) (h1 : number ≤ 10000000) :
    Calls Try.prog 31 #[.agg q.cells.toArray, .int .i64 size, .int .i64 number] W (RetRe d Y size number W) := by
  subst hd
  refine Reach_ok q Y size number W hq hY ?_
  have hl : q.d.s.length = q.s.l.length := rfl
  unfold askedL
  rw [if_neg (by simpa using hf), if_pos]
  simp only [List.all_cons, List.all_nil, Bool.and_true, Bool.and_eq_true, inB_iff]
  omega
set_option maxRecDepth 100000 in
set_option maxHeartbeats 1000000 in
theorem Reached_no (p : PlM) (ws : Sv Nat) (sz nm mo : Nat) (w : World) (hp : p.Lay w w.heap.size) (hr : readyB p = false) : Calls Try.prog 12 #[.agg p.cells.toArray, .slice ws.A ws.l.length ws.c, .int .u8 sz, .int .u32 nm, .int .u32 mo] w fun e w' => e = .returned (.bool true) ∧ Below w.heap.size w w' := by
  have l0 : Lies (w.alloc (.cells p.cells.toArray 28)) w.heap.size 28 p.cells.toArray := Lies.fresh _ _ _
  have b0 : Below w.heap.size w (w.alloc (.cells p.cells.toArray 28)) := (Below.refl _ _).alloc (Nat.le_refl _) _
  have hR := ready_any p _ (hp.below b0 b0.size)
  rw [hr] at hR
  have L0 := Lib.hid l0
  have B0 := Lib.hid b0
  have HR := Lib.hid hR
  clear l0 b0 hR hp hr
  unfold PlM.cells at HR ⊢
  go_enter Try.func12, Try.ntmps12
  go_wp2_with (first
    | (refine wpList_load_row (o := ⟨some 24, _, _, _, _, _⟩) ?_ 28 (.tmp 5) ?_ w.heap.size ?_ 28 p.cells.toArray (0, 0) _ L0.out Try.underlying28 rfl size28 ?_; rfl; rfl; rfl)
    | (go_at_call 51; refine HR.out.mono ?_; rintro e w1 ⟨rfl, hb1⟩)
    | (go_at_call 19; refine (awake_any _).mono ?_; rintro e w2 ⟨rfl, hb2⟩))
  go_ret
  have hx := B0.out.trans (hb1.mono B0.out.size)
  exact ⟨rfl, hx.trans (hb2.mono hx.size)⟩
/-- The lists of a truth, as a truth that lies nowhere. -/
def TD.m (T : TD) : TrM := ⟨⟨none, T.s, 0⟩, ⟨none, T.g.map fun y => ⟨none, y.map fun r => ⟨none, r, 0⟩, 0⟩, 0⟩, ⟨none, T.l, 0⟩⟩
theorem TD.m_d (T : TD) : T.m.d = T := by
  unfold TD.m TrM.d
  simp [List.map_map, Function.comp_def]
theorem law_kept {p : PlM} {T : TD} (hv : p.Valid) {Y : Nat} (hY : p.years = (Y : Int)) (hf : fitD p.d T = true) {k i : Nat} (hk : k < Y) (hi : i < p.s.l.length) :
    ∃ a b c d : Int, (toldL p.d.s.length (yrT p.d T k)).1[i]? = some a ∧ (toldL p.d.s.length (yrT p.d T k)).2.1[i]? = some b ∧ (toldL p.d.s.length (yrT p.d T k)).2.2.1[i]? = some c ∧ (toldL p.d.s.length (yrT p.d T k)).2.2.2[i]? = some d ∧
      Kept (p.e.l.getD i 0) (p.r.l.getD i 0) (p.k.l.getD i 0) a b c d := by
  have hpt := pt_of_fit (t := T.m) hv (by rw [fit_d, T.m_d]; exact hf)
  have h := kept_at hv hpt (k := k) (i := i) (by have := hpt.years; omega) hi
  rw [T.m_d] at h
  exact h
/-- Four years: those up to k put right. -/
def lateL (xs ks : List Int) (k : Nat) : Array Value := ((ks.take k ++ xs.drop k).map (Value.int .i64)).toArray
theorem late_at {x0 x1 x2 x3 k0 k1 k2 k3 : Int} {k : Nat} (hk : k < 4) {P : Int → Int → Prop} (h0 : P x0 k0) (h1 : P x1 k1) (h2 : P x2 k2) (h3 : P x3 k3) :
    ∃ x y : Int, P x y ∧ (lateL [x0, x1, x2, x3] [k0, k1, k2, k3] k)[k]? = some (.int .i64 x) ∧ (lateL [x0, x1, x2, x3] [k0, k1, k2, k3] k).setIfInBounds k (.int .i64 y) = lateL [x0, x1, x2, x3] [k0, k1, k2, k3] (k + 1) ∧
      (x = y → lateL [x0, x1, x2, x3] [k0, k1, k2, k3] k = lateL [x0, x1, x2, x3] [k0, k1, k2, k3] (k + 1)) := by
  rcases (show k = 0 ∨ k = 1 ∨ k = 2 ∨ k = 3 by omega) with rfl | rfl | rfl | rfl
  · exact ⟨x0, k0, h0, rfl, rfl, fun e => by subst e; rfl⟩
  · exact ⟨x1, k1, h1, rfl, rfl, fun e => by subst e; rfl⟩
  · exact ⟨x2, k2, h2, rfl, rfl, fun e => by subst e; rfl⟩
  · exact ⟨x3, k3, h3, rfl, rfl, fun e => by subst e; rfl⟩
set_option maxRecDepth 100000 in
set_option maxHeartbeats 4000000 in
theorem Reached_yes (p : PlM) (ws : Sv Nat) (sz nm mo : Nat) (w : World) (hp : p.Lay w w.heap.size) (hr : readyB p = true) (hA : Sl w w.heap.size 1 encW ws.A ws.l) (hw : ∀ x, x ∈ ws.l → x < 65536) (hl : ws.l.length ≤ 9223372036854775807) (hsz : sz ≤ 255) (hnm : nm ≤ 4294967295) (hmo : mo ≤ 4294967295) :
    Calls Try.prog 12 #[.agg p.cells.toArray, .slice ws.A ws.l.length ws.c, .int .u8 sz, .int .u32 nm, .int .u32 mo] w fun e w' => e = .returned (.bool true) ∧ Below w.heap.size w w' := by
  obtain ⟨ht, hf⟩ := ready_iff.1 hr
  have hat := hp.at ht
  have hv := fault_zero hf
  obtain ⟨Y, hY⟩ : ∃ Y : Nat, p.years = (Y : Int) := ⟨p.years.toNat, years_nat hv⟩
  have hY6 : Y ≤ 6 := by have := hv.y; omega
  have hn5 := hv.ok.n
  have hn1 := hv.ok.one
  obtain ⟨S, hS, hSl⟩ : ∃ S : Nat, (sz : Int) % (p.s.l.length : Int) = (S : Int) ∧ S < p.s.l.length := ⟨sz % p.s.l.length, by rw [Int.natCast_emod], Nat.mod_lt _ (by omega)⟩
  obtain ⟨N, hN, hNl⟩ : ∃ N : Nat, (nm : Int) % 10000001 = (N : Int) ∧ N ≤ 10000000 := ⟨nm % 10000001, by omega, by omega⟩
  have l0 : Lies (w.alloc (.cells p.cells.toArray 28)) w.heap.size 28 p.cells.toArray := Lies.fresh _ _ _
  have b0 : Below w.heap.size w (w.alloc (.cells p.cells.toArray 28)) := (Below.refl _ _).alloc (Nat.le_refl _) _
  have hR := ready_any p _ (hp.below b0 b0.size)
  rw [hr] at hR
  have hP : ∀ W, Below w.heap.size w W → Calls Try.prog 21 #[.agg p.cells.toArray] W (RetP p W) := fun W hb => Plan_any p W (hat.below hb hb.size) hp.nr hp.ne hp.nk
  have hK : ∀ W, Below w.heap.size w W → Calls Try.prog 52 #[.agg p.cells.toArray, .slice ws.A ws.l.length ws.c] W (RetT (pickD p.d Y ws.l) W) := fun W hb => Picked_any p Y ws.A ws.c ws.l W (hat.below hb hb.size) hv hY ((hA.below hb).more hb.size) hw hl
  have hT : ∀ (u : TrM) (W : World), u.d = pickD p.d Y ws.l → u.At W W.heap.size → u.Nil → Calls Try.prog 23 #[.agg u.cells.toArray] W (RetT (pickD p.d Y ws.l) W) := fun u W h1 h2 h3 => Truth_law u _ p.s.l.length Y W h1 h2 h3 (pick_sizes p.d Y ws.l) hn5 hY6
  have hRun : ∀ (q : PlM) (u : TrM) (W : World), q.d = p.d → u.d = pickD p.d Y ws.l → q.At W W.heap.size → u.At W W.heap.size → Calls Try.prog 22 #[.agg q.cells.toArray, .agg u.cells.toArray] W (RetR (fun k => toldL p.d.s.length (yrT p.d (pickD p.d Y ws.l) k)) Y W) := fun q u W h1 h2 h3 h4 =>
    Run_law q u p.d _ Y W h1 h2 h3 h4 (by rw [fault_congr h1]; exact hf) (pick_fits hv hY ws.l) (by rw [← hY]; show q.d.years = _; rw [h1]; rfl)
  have hRe : ∀ (q : PlM) (x : Int) (W : World), q.d = p.d → q.At W W.heap.size → 0 ≤ x → x ≤ 10000000 → Calls Try.prog 31 #[.agg q.cells.toArray, .int .i64 S, .int .i64 x] W (RetRe p.d Y S x W) := fun q x W h1 h2 h3 h4 =>
    Reach_law q p.d Y S x W h1 h2 (by rw [fault_congr h1]; exact hf) (by rw [← hY]; show q.d.years = _; rw [h1]; rfl) hSl h3 h4
  have hbt := fun k (hk : k ≤ Y) => soldT_between hv hY (pick_fits hv hY ws.l) (size := S) hSl hk
  have hka : ∀ k i, k < Y → i < p.s.l.length → ∃ a b c d : Int, (toldL p.d.s.length (yrT p.d (pickD p.d Y ws.l) k)).1[i]? = some a ∧ (toldL p.d.s.length (yrT p.d (pickD p.d Y ws.l) k)).2.1[i]? = some b ∧ (toldL p.d.s.length (yrT p.d (pickD p.d Y ws.l) k)).2.2.1[i]? = some c ∧ (toldL p.d.s.length (yrT p.d (pickD p.d Y ws.l) k)).2.2.2[i]? = some d ∧
      Kept (p.e.l.getD i 0) (p.r.l.getD i 0) (p.k.l.getD i 0) a b c d := fun k i hk hi => law_kept hv hY (pick_fits hv hY ws.l) hk hi
  have HKA := Lib.hid hka
  have L0 := Lib.hid l0
  have B0 := Lib.hid b0
  have HR := Lib.hid hR
  have HPL := Lib.hid hP
  have HPK := Lib.hid hK
  have HTR := Lib.hid hT
  have HRU := Lib.hid hRun
  have HRE := Lib.hid hRe
  have HBT := Lib.hid hbt
  have HV := Lib.hid hv
  have HAT := Lib.hid hat
  have HY := Lib.hid hY
  have HS := Lib.hid hS
  have HN := Lib.hid hN
  clear l0 b0 hR hp hr hat hv hf hY ht hP hK hT hRun hRe hbt hka hA hw hl hS hN
  unfold PlM.cells at HR ⊢
  go_enter Try.func12, Try.ntmps12
  have hn0 : (0 : Int) < (p.s.l.length : Int) := by omega
  go_upto_region 3 with (first
    | (refine wpList_load_row (o := ⟨some 24, _, _, _, _, _⟩) ?_ 28 (.tmp 5) ?_ w.heap.size ?_ 28 p.cells.toArray (0, 0) _ L0.out Try.underlying28 rfl size28 ?_; rfl; rfl; rfl)
    | (go_at_call 51; refine HR.out.mono ?_; rintro e w1 ⟨rfl, hb1⟩; have L1 := Lib.hid (L0.out.call hb1); have B1 := Lib.hid (B0.out.trans (hb1.mono B0.out.size)); have r0 : w1.cell? ⟨w.heap.size, 0, none⟩ = some (.slice p.s.A p.s.l.length p.s.c) := L1.out.at_ 0))
  go_upto_region 4 with (fail)
  simp only [HS.out, HN.out]
  go_upto_region 5 with (first
    | (refine wpList_load_row (o := ⟨some 38, _, _, _, _, _⟩) ?_ 28 (.tmp 5) ?_ w.heap.size ?_ 28 p.cells.toArray (0, 0) _ L1.out Try.underlying28 rfl size28 ?_; rfl; rfl; rfl)
    | (go_at_call 21; refine (HPL.out _ B1.out).mono ?_; rintro e w2 ⟨q, rfl, hqd, hqa, hb2⟩)
    | (go_at_call 31; refine (HRE.out q _ _ hqd hqa (by omega) (by omega)).mono ?_; rintro e w3 ⟨x0, x1, rfl, hx0, hx1, hb3⟩))
  obtain ⟨k0, F0, D0⟩ := hx0.first
  obtain ⟨k1, F1, D1⟩ := hx1.first
  have hd3 : Below w1.heap.size w1 w3 := hb2.trans (hb3.mono hb2.size)
  have L3 := Lib.hid (L1.out.call hd3)
  have B3 := Lib.hid (B1.out.trans (hd3.mono B1.out.size))
  have HF0 := Lib.hid F0
  have HF1 := Lib.hid F1
  clear hx0 hx1 hd3 hb2 hb3 hqd hqa F0 F1 r0 L1 B1 HR hb1
  go_upto_region 6 with (first
    | (refine wpList_load_row (o := ⟨some 47, _, _, _, _, _⟩) ?_ 28 (.tmp 5) ?_ w.heap.size ?_ 28 p.cells.toArray (0, 0) _ L3.out Try.underlying28 rfl size28 ?_; rfl; rfl; rfl)
    | (go_at_call 21; refine (HPL.out _ B3.out).mono ?_; rintro e w4 ⟨q, rfl, hqd, hqa, hb4⟩)
    | (go_at_call 31; refine (HRE.out q _ _ hqd hqa (by omega) (by omega)).mono ?_; rintro e w5 ⟨x2, x3, rfl, hx2, hx3, hb5⟩))
  obtain ⟨k2, F2, D2⟩ := hx2.first
  obtain ⟨k3, F3, D3⟩ := hx3.first
  have hd5 : Below w3.heap.size w3 w5 := hb4.trans (hb5.mono hb4.size)
  have L5 := Lib.hid (L3.out.call hd5)
  have B5 := Lib.hid (B3.out.trans (hd5.mono B3.out.size))
  have hNM : (N : Int) ≤ min 10000000 ((N : Int) + (mo : Int)) := by omega
  have c01 := HF0.out.le HF1.out (Int.le_refl _) fun k hk => by have := HBT.out k hk; omega
  have c02 := HF0.out.le F2 hNM fun k _ => Int.le_refl _
  have c13 := HF1.out.le F3 hNM fun k _ => Int.le_refl _
  have z0 := HF0.out.1
  have z1 := HF1.out.1
  have z2 := F2.1
  have z3 := F3.1
  clear hx2 hx3 hd5 hb4 hb5 hqd hqa F2 F3 L3 B3 hNM
  have hrg : ∀ W, (∃ c : Cls (fun W => Below w5.heap.size w5 W), W = c.val) → W.rangeAt w.heap.size 0 p.cells := by
    rintro W ⟨c, rfl⟩
    exact Lies.range (cs := p.cells) (L5.out.call c.h) (fun j v hj => by simpa using hj)
  have HRG := Lib.hid hrg
  haveI hne : Nonempty (Cls (fun W => Below w5.heap.size w5 W)) := ⟨⟨w5, Below.refl _ _⟩⟩
  clear hrg
  refine wp_region_whole [([0, 2, 3], [1, 4, 5, 6]), ([7, 8, 9, 10, 11], [])] (fun W => ∃ c : Cls (fun W => Below w5.heap.size w5 W), W = c.val) (Cls.here (Below.refl _ _).drew) (by kernel_rfl) (by kernel_rfl) ?_
  simp only [wpPhases, List.filterMap_cons, List.filterMap_nil, List.getElem?_toArray, List.getElem?_cons_zero, List.getElem?_cons_succ]
  refine wpQuiet_load_whole (o := ⟨some 60, _, _, _, _, _⟩) ?_ 28 (.tmp 5) ?_ w.heap.size 0 ?_ p.cells _ HRG.out Try.underlying28 rfl size28 ?_
  rfl; rfl; rfl
  simp only [Act.put, List.setIfInBounds_toArray, List.set_cons_zero, List.set_cons_succ]
  refine wpQuiet_load_whole (o := ⟨some 62, _, _, _, _, _⟩) ?_ 28 (.tmp 5) ?_ w.heap.size 0 ?_ p.cells _ HRG.out Try.underlying28 rfl size28 ?_
  rfl; rfl; rfl
  simp only [Act.put, List.setIfInBounds_toArray, List.set_cons_zero, List.set_cons_succ]
  change wpQuiet _ _ _ _ (_ :: []) _
  repeat (first | go_big_quiet_step (fail) | quiet_step (fail))
  refine wpQuiet_nil ?_
  simp only [wpForce]
  have hd1 : Below w5.heap.size w5 w5.drew := (Below.refl _ _).drew
  generalize w5.drew = v1 at *
  go_wp2_with (go_at_call 21; refine (HPL.out _ (B5.out.trans (hd1.mono B5.out.size))).mono ?_; rintro e v2 ⟨qr, rfl, hqd, hqa, hb2⟩)
  have hd2 := hd1.trans (hb2.mono hd1.size)
  refine Ends.intro ⟨Cls.here hd2, ?_⟩
  go_wp2_with (go_at_call 52; refine (HPK.out _ (B5.out.trans (hd2.mono B5.out.size))).mono ?_; rintro e v3 ⟨u, rfl, hud, hua, hun, hb3⟩)
  have hd3 := hd2.trans (hb3.mono hd2.size)
  refine Ends.intro ⟨Cls.here hd3, ?_⟩
  go_wp2_with (go_at_call 23; refine (HTR.out u _ hud hua hun).mono ?_; rintro e v4 ⟨x, rfl, hxd, hxa, hxn, hb4⟩)
  have hd4 := hd3.trans (hb4.mono hd3.size)
  refine Ends.intro ⟨Cls.here hd4, ?_⟩
  have hqa4 : qr.At v4 v4.heap.size := (hqa.below hb3 hb3.size).below hb4 hb4.size
  go_wp2_with (go_at_call 22; refine (HRU.out qr x _ hqd hxd hqa4 hxa).mono ?_; rintro e v5 ⟨A1, c1, ys, rfl, hys, hym, hya, hb5⟩)
  have hd5 := hd4.trans (hb5.mono hd4.size)
  refine Ends.intro ⟨Cls.here hd5, ?_⟩
  have HYS := Lib.hid hys
  have HYM := Lib.hid hym
  have HYA := Lib.hid hya
  have L6 := Lib.hid (L5.out.call hd5)
  have B6 := Lib.hid (B5.out.trans (hd5.mono B5.out.size))
  have d7 : v5.cell? ⟨w.heap.size, 7, none⟩ = some (.int .i64 (Y : Int)) := by rw [← HY.out]; exact L6.out.at_ 7
  clear hys hym hya hqa hqd hua hud hun hxa hxd hxn hqa4 hb2 hb3 hb4 hb5 hd1 hd2 hd3 hd4 hd5 L5 B5 HRG HPL HPK HTR HRU HRE
  change wpQuiet _ _ _ _ (_ :: _ :: _ :: _ :: _ :: []) _
  repeat (first | go_big_quiet_step (fail) | quiet_step (fail))
  refine wpQuiet_nil ?_
  go_wp2
  have hYz : (Y : Int) ≤ 6 := by omega
  have hY0 : (0 : Int) ≤ (Y : Int) := by omega
  have lg : Lies (v5.alloc (.cells #[.int .i64 x0, .int .i64 x1, .int .i64 x2, .int .i64 x3] 103)) v5.heap.size 103 (lateL [x0, x1, x2, x3] [(k0 : Int), (k1 : Int), (k2 : Int), (k3 : Int)] 0) := Lies.fresh _ _ _
  have lb : Below v5.heap.size v5 (v5.alloc (.cells #[.int .i64 x0, .int .i64 x1, .int .i64 x2, .int .i64 x3] 103)) := (by repeat (first | (with_reducible assumption) | (with_reducible exact Below.refl _ _) | (with_reducible refine Below.drew ?_) | (with_reducible refine below_drewN ?_ _) | ((with_reducible refine Below.setCell ?_ ?_ _); rotate_left; focus (first | (simp; done) | (simp; omega) | omega)) | ((with_reducible refine Below.alloc ?_ ?_ _); rotate_left; focus (first | (simp; done) | (simp; omega) | omega))))
  have LG := Lib.hid lg
  have LB := Lib.hid lb
  have DD := Lib.hid (And.intro D0 (And.intro D1 (And.intro D2 D3)))
  clear d7 lg lb D0 D1 D2 D3
  go_loopw [22] (fun i wr => ∃ k : Nat, k ≤ 4 ∧ i = .int .i64 k ∧ Aside (Lies wr v5.heap.size 103 (lateL [x0, x1, x2, x3] [(k0 : Int), (k1 : Int), (k2 : Int), (k3 : Int)] k)) ∧ Aside (Below v5.heap.size v5 wr)) (fun i _ => 4 - (intOf i).toNat)
  case atStart => exact ⟨0, by omega, rfl, LG.out, LB.out⟩
  case round =>
    obtain ⟨k, hk, rfl, hL, hb⟩ := hrel
    by_cases hlt : k < 4
    · have hltz : (k : Int) < 4 := by omega
      have hkz : (0 : Int) ≤ (k : Int) := by omega
      obtain ⟨x, y, hxy, hat, hst, hsm⟩ := late_at (x0 := x0) (x1 := x1) (x2 := x2) (x3 := x3) (k0 := (k0 : Int)) (k1 := (k1 : Int)) (k2 := (k2 : Int)) (k3 := (k3 : Int)) hlt (P := fun x y : Int => (x = -1 ∧ y = (Y : Int)) ∨ (x = y ∧ 0 ≤ y ∧ y < (Y : Int))) (by have := DD.out.1; omega) (by have := DD.out.2.1; omega) (by have := DD.out.2.2.1; omega) (by have := DD.out.2.2.2; omega)
      have hc : ∀ W, Below wr.heap.size wr W → W.cell? ⟨v5.heap.size, k, none⟩ = some (.int .i64 x) := fun W h => ((hL.out.call h).at_ k).trans hat
      have hd : ∀ W, Below wr.heap.size wr W → W.cell? ⟨w.heap.size, 7, none⟩ = some (.int .i64 (Y : Int)) := fun W h => by rw [← HY.out]; exact ((L6.out.call hb.out).call h).at_ 7
      have r0 := cell_regrown (hc wr (Below.refl _ _))
      have r1 := cell_regrown (hd wr (Below.refl _ _))
      have g1 : decide (x < -1) = false := by simp; omega
      have g2 : decide ((Y : Int) ≤ x) = false := by simp; omega
      have HC := Lib.hid hc
      have HD := Lib.hid hd
      have HST := Lib.hid hst
      have HSM := Lib.hid hsm
      clear hc hd hat hst hsm
      go_wp2
      refine wp_region_quiet_below (by kernel_rfl) (by kernel_rfl) ?_; (repeat (first | go_big_quiet_step ((fail)) | quiet_step ((fail)))); refine wpQuiet_nil ?_; intro wq hwq; have hbq : Below _ _ wq := (by obtain ⟨p, rfl⟩ := hwq; exact below_regrown _ _ _); clear hwq
      clear r0 r1
      have c0 := HC.out wq hbq
      have c1' := HD.out wq hbq
      have hLq := Lib.hid (hL.out.call hbq)
      have hbr : Below v5.heap.size v5 wq := hb.out.trans (hbq.mono hb.out.size)
      have HBR := Lib.hid hbr
      clear hbq hbr
      by_cases hx0 : x < 0
      · have hyY : y = (Y : Int) := by omega
        have hLs := hLq.out.set k (.int .i64 (Y : Int))
        rw [← hyY, HST.out] at hLs
        have HLS := Lib.hid hLs
        have fz : wq.frozen? ⟨v5.heap.size, k, none⟩ = false := hLq.out.free k
        clear hLs
        go_wp2
        go_roundw
        case rel => exact ⟨k + 1, by omega, by go_num, by rw [← hyY]; exact HLS.out, HBR.out.setCell (Nat.le_refl _) _⟩
        case measure => simp [intOf]; omega
      · have hxe : x = y := by omega
        go_wp2
        go_roundw
        case rel => exact ⟨k + 1, by omega, by go_num, by rw [← HSM.out hxe]; exact hLq.out, HBR.out⟩
        case measure => simp [intOf]; omega
    · obtain rfl : k = 4 := by omega
      have hF := first_any A1 c1 ys Y (soldT p.d (pickD p.d Y ws.l) S) S (N : Int) wr (HYS.out.sl.below hb.out |>.more hb.out.size) (fun y hy => (HYA.out y hy).call hb.out) (by have h := congrArg List.length HYM.out; simpa using h) hY6 (by omega) rfl fun k y hy => by
        have hk : k < Y := by have h := congrArg List.length HYM.out; simp only [List.length_map, List.length_range] at h; have := (List.getElem?_eq_some_iff.1 hy).1; omega
        have ey : y.lists = toldL p.d.s.length (yrT p.d (pickD p.d Y ws.l) k) := by
          have h := congrArg (·[k]?) HYM.out
          simp only [List.getElem?_map, hy, Option.map_some, List.getElem?_range hk] at h
          exact Option.some.inj h
        have eb : y.b.l = (toldL p.d.s.length (yrT p.d (pickD p.d Y ws.l) k)).2.1 := by rw [← ey]; rfl
        obtain ⟨b, h1, h2⟩ := soldT_step (d := p.d) (t := pickD p.d Y ws.l) (size := S) (k := k) hSl hn5
        obtain ⟨a', b', c', d', h3, h4, _, _, K⟩ := HKA.out k S hk hSl
        obtain rfl : b = b' := by rw [h1] at h4; exact Option.some.inj h4
        exact ⟨b, by rw [eb]; exact h1, h2, K.b0, by have := K.b1; have := K.a1; omega⟩
      have HFF := Lib.hid hF
      clear hF
      go_upto_region 18 with (go_at_call 56; refine HFF.out.mono ?_; rintro e w7 ⟨r, rfl, hr, hb7⟩)
      have m0 := HF0.out.le hr (Int.le_refl _) fun k hk => (HBT.out k hk).2
      have m1 := hr.le HF1.out (Int.le_refl _) fun k hk => (HBT.out k hk).1
      have hL7 := hL.out.call hb7
      have c0 : w7.cell? ⟨v5.heap.size, 0, none⟩ = some (.int .i64 (k0 : Int)) := hL7.at_ 0
      have c1' : w7.cell? ⟨v5.heap.size, 1, none⟩ = some (.int .i64 (k1 : Int)) := hL7.at_ 1
      have c2 : w7.cell? ⟨v5.heap.size, 2, none⟩ = some (.int .i64 (k2 : Int)) := hL7.at_ 2
      have c3 : w7.cell? ⟨v5.heap.size, 3, none⟩ = some (.int .i64 (k3 : Int)) := hL7.at_ 3
      have q0 : (k0 : Int) ≤ (k1 : Int) := by omega
      have q1 : (k0 : Int) ≤ (k2 : Int) := by omega
      have q2 : (k1 : Int) ≤ (k3 : Int) := by omega
      have q3 : (k0 : Int) ≤ (r : Int) := by omega
      have q4 : (r : Int) ≤ (k1 : Int) := by omega
      have B7 := Lib.hid (hb.out.trans (hb7.mono hb.out.size))
      clear hL7 hr HFF hb7
      go_wp2_with (go_at_call 19; refine (awake_any _).mono ?_; rintro e w9 ⟨rfl, hb9⟩)
      go_ret
      have hx := B6.out.trans (B7.out.mono B6.out.size)
      exact ⟨rfl, hx.trans (hb9.mono hx.size)⟩
theorem StockReached_walk (p : PlM) (ws : Sv Nat) (sz nm mo : Nat) (w : World) (hp : p.Lay w w.heap.size) (hm : (∀ x, x ∈ ws.l → x < 65536) ∧ ws.l.length ≤ 9223372036854775807) (hA : Sl w w.heap.size 1 encW ws.A ws.l) (hsz : sz ≤ 255) (hnm : nm ≤ 4294967295) (hmo : mo ≤ 4294967295) :
    Calls Try.prog 12 #[.agg p.cells.toArray, .slice ws.A ws.l.length ws.c, .int .u8 sz, .int .u32 nm, .int .u32 mo] w fun e w' => e = .returned (.bool true) ∧ Below w.heap.size w w' := by
  cases hr : readyB p with
  | false => exact Reached_no p ws sz nm mo w hp hr
  | true => exact Reached_yes p ws sz nm mo w hp hr hA hm.1 hm.2 hsz hnm hmo
end Go.Proofs.Ytlkdmcdnkoiflaa
