/- The texts SZ SL SM SN, joined. -/
import Derived.Test.YtopiidfhjfbmfaaGM
import Derived.Test.YtopiidfhjfbmfaaGL
import Derived.Test.YtopiidfhjfbmfaaGJ
/- Surely; Least of what cannot be asked. -/
namespace Go.Proofs.Ytopiidfhjfbmfaa
open Go.RowKit Go.Lib
attribute [local go_sem] Oper.semAt_some

theorem Sold_law (A : Option Addr) (c : Nat) (ys : List Y4) (d : PD) (T : TD) (p : PlM) (Y S : Nat) (w : World) (hd : p.d = d) (hv : p.Valid) (hY : p.years = (Y : Int)) (hf : fitD d T = true) (hS : S < d.s.length) (hA : Sl w w.heap.size 4 encY4 A ys) (hm : ys.map Y4.lists = (List.range Y).map fun k => toldL d.s.length (yrT d T k)) (hin : ∀ y, y ∈ ys → y.In w w.heap.size) :
    Calls Try.prog 74 #[.slice A Y c, .int .i64 S] w fun e w' => ∃ A' c', e = .returned (.slice A' Y c') ∧ Sl w' w'.heap.size 1 encI A' (soldS (soldT d T S) Y) ∧ Below w.heap.size w w' := by
  subst hd
  have hl : ys.length = Y := by have := congrArg List.length hm; simpa using this
  have hY6 : Y ≤ 6 := by have := hv.y; omega
  refine Sold_any A c ys Y S (soldT p.d T S) w hA hl (soldF_of hm hin hv.ok.n hS hY6 fun k b hk hb => ?_)
  obtain ⟨a', b', c', d', _, h4, _, _, K⟩ := law_kept hv hY hf hk (show S < p.s.l.length from hS)
  obtain rfl := Option.some.inj (h4.symm.trans hb)
  have := K.a1; have := K.b0; have := K.b1
  omega
set_option maxRecDepth 100000 in
set_option maxHeartbeats 4000000 in
theorem Surely_any (p : PlM) (Y S : Nat) (number : Int) (w : World) (hp : p.At w w.heap.size) (hf : p.fault = 0) (hY : p.years = (Y : Int)) (hS : S < p.s.l.length) :
    Calls Try.prog 35 #[.agg p.cells.toArray, .int .i64 S, .int .i64 number] w fun e w' => e = .returned (.bool (decide (number ≤ soldE p.d false S Y))) ∧ Below w.heap.size w w' := by
  have hv := fault_zero hf
  have hY6 : Y ≤ 6 := by have := hv.y; omega
  have l0 : Lies (w.alloc (.cells p.cells.toArray 28)) w.heap.size 28 p.cells.toArray := Lies.fresh _ _ _
  have b0 : Below w.heap.size w (w.alloc (.cells p.cells.toArray 28)) := (Below.refl _ _).alloc (Nat.le_refl _) _
  have hE : ∀ W, Below w.heap.size w W → Calls Try.prog 29 #[.agg p.cells.toArray, .bool false, .int .i64 Y] W (RetT (endsD p.d Y false (Y : Int)) W) := fun W hb => Ends_any p Y false Y W (hp.below hb hb.size) hv hY
  have hR : ∀ (u : TrM) (W : World), Below w.heap.size w W → u.d = endsD p.d Y false (Y : Int) → u.At W W.heap.size → Calls Try.prog 26 #[.agg p.cells.toArray, .agg u.cells.toArray] W (RetQ (fun k => toldL p.d.s.length (yrT p.d (endsD p.d Y false (Y : Int)) k)) Y W) := fun u W hb h1 h2 =>
    refRun_law p u p.d _ Y W rfl h1 (hp.below hb hb.size) h2 hf (ends_fits hv hY false Y) hY
  have hSo : ∀ (A : Option Addr) (c : Nat) (ys : List Y4) (W : World), Sl W W.heap.size 4 encY4 A ys → ys.map Y4.lists = (List.range Y).map (fun k => toldL p.d.s.length (yrT p.d (endsD p.d Y false (Y : Int)) k)) → (∀ y, y ∈ ys → y.In W W.heap.size) →
      Calls Try.prog 74 #[.slice A Y c, .int .i64 S] W fun e w' => ∃ A' c', e = .returned (.slice A' Y c') ∧ Sl w' w'.heap.size 1 encI A' (soldS (soldT p.d (endsD p.d Y false (Y : Int)) S) Y) ∧ Below W.heap.size W w' := fun A c ys W h1 h2 h3 =>
    Sold_law A c ys p.d _ p Y S W rfl hv hY (ends_fits hv hY false (Y : Int)) hS h1 h2 h3
  have hlast : ∀ M, Y = M + 1 → (soldS (soldT p.d (endsD p.d Y false (Y : Int)) S) Y)[M]? = some (soldE p.d false S Y) := fun M h => by
    rw [soldS_at _ (by omega), soldT_endsB hv false S (by omega), ← h]
  have hzero : Y = 0 → soldE p.d false S Y = 0 := fun h => by subst h; rfl
  have L0 := Lib.hid l0
  have B0 := Lib.hid b0
  have HE := Lib.hid hE
  have HR := Lib.hid hR
  have HSO := Lib.hid hSo
  have HLA := Lib.hid hlast
  have HZE := Lib.hid hzero
  have HY := Lib.hid hY
  have hYz : (Y : Int) ≤ 6 := by omega
  have hY0 : (0 : Int) ≤ (Y : Int) := by omega
  clear l0 b0 hE hR hSo hlast hzero hp hf hY hv hS
  generalize soldT p.d (endsD p.d Y false (Y : Int)) S = f at *
  generalize soldE p.d false S Y = sE at *
  unfold PlM.cells
  go_enter Try.func35, Try.ntmps35
  go_upto_region 1 with (fail)
  change Code.wp _ _ _ _ (w.alloc (.cells p.cells.toArray 28))
  generalize w.alloc (.cells p.cells.toArray 28) = w0 at *
  have hrg : ∀ W, (∃ c : Cls (fun W => Below w0.heap.size w0 W), W = c.val) → W.rangeAt w.heap.size 0 p.cells := by
    rintro W ⟨c, rfl⟩
    exact Lies.range (cs := p.cells) (L0.out.call c.h) (fun j v hj => by simpa using hj)
  have r7 : ∀ c : Cls (fun W => Below w0.heap.size w0 W), c.val.cell? ⟨w.heap.size, 6 + 1, none⟩ = some (.int .i64 (Y : Int)) := fun c => by rw [← HY.out]; exact (L0.out.call c.h).at_ 7
  have HRG := Lib.hid hrg
  haveI hne4 : Nonempty (Cls (fun W => Below w0.heap.size w0 W)) := ⟨⟨w0, Below.refl _ _⟩⟩
  clear hrg
  refine wp_region_whole [([0, 1, 2, 3, 6], [4, 5, 7]), ([8], [])] (fun W => ∃ c : Cls (fun W => Below w0.heap.size w0 W), W = c.val) (Cls.here (Below.refl _ _).drew) (by kernel_rfl) (by kernel_rfl) ?_
  simp only [wpPhases, List.filterMap_cons, List.filterMap_nil, List.getElem?_toArray, List.getElem?_cons_zero, List.getElem?_cons_succ]
  repeat (first
    | (refine wpQuiet_load_whole (o := ⟨some 9, _, _, _, _, _⟩) ?_ 28 (.tmp 3) ?_ w.heap.size 0 ?_ p.cells _ HRG.out Try.underlying28 rfl size28 ?_; rfl; rfl; rfl; simp only [Act.put, List.setIfInBounds_toArray, List.set_cons_zero, List.set_cons_succ])
    | (refine wpQuiet_load_whole (o := ⟨some 10, _, _, _, _, _⟩) ?_ 28 (.tmp 3) ?_ w.heap.size 0 ?_ p.cells _ HRG.out Try.underlying28 rfl size28 ?_; rfl; rfl; rfl; simp only [Act.put, List.setIfInBounds_toArray, List.set_cons_zero, List.set_cons_succ])
    | go_big_quiet_step (rfl) | quiet_step (rfl))
  refine wpQuiet_nil ?_
  (try simp only [wpForce])
  have hd1 : Below w0.heap.size w0 w0.drew := (Below.refl _ _).drew
  generalize w0.drew = v1 at *
  go_wp2_with (go_at_call 29; refine (HE.out _ (B0.out.trans (hd1.mono B0.out.size))).mono ?_; rintro e v2 ⟨u1, rfl, hud, hua, _, hb⟩)
  have hd2 := hd1.trans (hb.mono hd1.size)
  refine Ends.intro ⟨Cls.here hd2, ?_⟩
  clear hb
  go_wp2_with (go_at_call 26; refine (HR.out u1 _ (B0.out.trans (hd2.mono B0.out.size)) hud hua).mono ?_; rintro e v3 ⟨Al, cl, yl, rfl, hsl, hml, hil, hb⟩)
  have hd3 := hd2.trans (hb.mono hd2.size)
  refine Ends.intro ⟨Cls.here hd3, ?_⟩
  clear hb hud hua
  go_wp2_with (go_at_call 74; refine (HSO.out Al cl yl _ hsl.sl hml hil).mono ?_; rintro e v4 ⟨As, cs, rfl, hss, hb⟩)
  have hd4 := hd3.trans (hb.mono hd3.size)
  refine Ends.intro ⟨Cls.here hd4, ?_⟩
  clear hb hsl hml hil r7 HRG
  repeat (first | go_big_quiet_step (rfl) | quiet_step (rfl))
  refine wpQuiet_nil ?_
  have B4 := Lib.hid (B0.out.trans (hd4.mono B0.out.size))
  have HSS := Lib.hid hss
  clear hd1 hd2 hd3 hd4 hss B0 L0
  by_cases hpos : Y = 0
  · have hz := HZE.out hpos
    subst hpos
    obtain rfl : sE = 0 := hz
    clear HLA HSS HZE
    go_wp2
    all_goals (go_ret; exact ⟨rfl, B4.out⟩)
  · obtain ⟨M, hM⟩ : ∃ M, Y = M + 1 := ⟨Y - 1, by omega⟩
    obtain ⟨bs, os, rfl, hbs, cs0⟩ := HSS.out.cell1 (HLA.out M hM)
    have hY1 : (Y : Int) - 1 = (M : Int) := by omega
    have hMl : (M : Int) < (Y : Int) := by omega
    have hM0 : (0 : Int) ≤ (M : Int) := by omega
    have hYp : (0 : Int) < (Y : Int) := by omega
    clear HLA HSS HZE hM hpos
    go_wp2
    all_goals (go_ret; exact ⟨rfl, B4.out⟩)
end Go.Proofs.Ytopiidfhjfbmfaa

/- StockLeasts: Least of what cannot be asked; With and Surely. -/
namespace Go.Proofs.Ytopiidfhjfbmfaa
open Go.RowKit Go.Lib
attribute [local go_sem] Oper.semAt_some

set_option maxRecDepth 100000 in
set_option maxHeartbeats 2000000 in
theorem Least_no (p : PlM) (planted size number : Int) (w : World) (hp : p.At w w.heap.size) (hq : askedL p number [planted, size] ≠ 0) :
    Calls Try.prog 34 #[.agg p.cells.toArray, .int .i64 planted, .int .i64 size, .int .i64 number] w fun e w' => e = .returned (.tuple #[.int .i64 0, .int .i64 (askedL p number [planted, size])]) ∧ Below w.heap.size w w' := by
  have l0 : Lies ((((w.alloc (.cells p.cells.toArray 41)).alloc (.cells #[.int .i64 planted] 3)).alloc (.cells #[.int .i64 size] 3)).alloc (.cells #[.int .i64 number] 3)) w.heap.size 41 p.cells.toArray := (((Lies.fresh _ _ _).alloc _).alloc _).alloc _
  have b0 : Below w.heap.size w ((((w.alloc (.cells p.cells.toArray 41)).alloc (.cells #[.int .i64 planted] 3)).alloc (.cells #[.int .i64 size] 3)).alloc (.cells #[.int .i64 number] 3)) := (by repeat (first | (with_reducible assumption) | (with_reducible exact Below.refl _ _) | (with_reducible refine Below.drew ?_) | (with_reducible refine below_drewN ?_ _) | ((with_reducible refine Below.setCell ?_ ?_ _); rotate_left; focus (first | (simp; done) | (simp; omega) | omega)) | ((with_reducible refine Below.alloc ?_ ?_ _); rotate_left; focus (first | (simp; done) | (simp; omega) | omega))))
  have hA : ∀ W, Below w.heap.size w W → Sl W W.heap.size 1 (fun x => [Value.int .i64 x]) (some ⟨w.heap.size + 1 + 1 + 1 + 1, 0, none⟩) [planted, size] → Calls Try.prog 69 #[.agg p.cells.toArray, .int .i64 number, .slice (some ⟨w.heap.size + 1 + 1 + 1 + 1, 0, none⟩) 2 2] W fun e w' => e = .returned (.int .i64 (askedL p number [planted, size])) ∧ Below W.heap.size W w' := fun W hb hs =>
    checkAsked_any p number (some ⟨w.heap.size + 1 + 1 + 1 + 1, 0, none⟩) 2 [planted, size] W (hp.below hb hb.size) hs (by simp)
  have L0 := Lib.hid l0
  have B0 := Lib.hid b0
  have HA := Lib.hid hA
  clear l0 b0 hA hp
  generalize askedL p number [planted, size] = q at *
  have hne : (q != 0) = true := by simpa using hq
  clear hq
  unfold PlM.cells at HA ⊢
  go_enter Try.func34, Try.ntmps34
  go_wp2_with (first
    | (refine wpList_load_row (o := ⟨some 16, _, _, _, _, _⟩) ?_ 41 (.tmp 4) ?_ w.heap.size ?_ 41 p.cells.toArray (0, 0) _ L0.out Try.underlying41 rfl size41 ?_; rfl; rfl; rfl)
    | (go_at_call 69; refine (HA.out _ (B0.out.alloc B0.out.size _) ?_).mono ?_; exact sl_of_lies (enc := encI) (fun _ => rfl) (Lies.fresh' (by simp)); rintro e w1 ⟨rfl, hb1⟩))
  go_ret2
  exact ⟨rfl, (B0.out.alloc B0.out.size _).trans (hb1.mono (B0.out.alloc B0.out.size _).size)⟩
/-- What the calls of StockLeasts answer, of a start of h. -/
structure LS2 (p : PlM) (Y Q S : Nat) (N : Int) (w : World) (h : Int) : Prop where
  with_ : ∀ W, Below w.heap.size w W → Calls Try.prog 36 #[.agg p.cells.toArray, .int .i64 Q, .agg #[.int .i64 h, .int .i64 h]] W (RetW p Q (h, h) W)
  surely : ∀ A c W, (p.withS A c Q (h, h)).At W W.heap.size → Calls Try.prog 35 #[.agg (p.withS A c Q (h, h)).cells.toArray, .int .i64 S, .int .i64 N] W fun e w' => e = .returned (.bool (enoughD p.d Y Q S N h)) ∧ Below W.heap.size W w'
theorem ls2_of {p : PlM} {Y Q S : Nat} {N : Int} {w : World} {h : Int} (hat : p.At w w.heap.size) (hf : p.fault = 0) (hY : p.years = (Y : Int)) (hQ : Q < p.s.l.length) (hS : S < p.s.l.length) (h0 : 0 ≤ h) (h1 : h ≤ p.r.l.getD Q 0) : LS2 p Y Q S N w h := by
  have hn5 := (fault_zero hf).ok.n
  refine ⟨fun W hb => With_any p Q (h, h) W (hat.below hb hb.size) hQ hn5, fun A c W hA => ?_⟩
  have e := enough_soldE (d := p.d) hn5 (show Q < p.d.s.length from hQ) h S Y N
  rw [e]
  exact Surely_any (p.withS A c Q (h, h)) Y S N W hA (withS_fault hf hQ h0 h1 A c) hY (by show S < (p.s.l.set Q (h, h)).length; rw [List.length_set]; exact hS)
end Go.Proofs.Ytopiidfhjfbmfaa

/- StockLeasts. -/
namespace Go.Proofs.Ytopiidfhjfbmfaa
open Go.RowKit Go.Lib
attribute [local go_sem] Oper.semAt_some

set_option maxRecDepth 100000 in
set_option maxHeartbeats 1000000 in
theorem Leasts_thick (p : PlM) (planted size number : Int) (w : World) (hp : p.Lay w w.heap.size) (ht : thinB p = false) : Calls Try.prog 6 #[.agg p.cells.toArray, .int .i64 planted, .int .i64 size, .int .i64 number] w fun e w' => e = .returned (.bool true) ∧ Below w.heap.size w w' := by
  have l0 : Lies (w.alloc (.cells p.cells.toArray 28)) w.heap.size 28 p.cells.toArray := Lies.fresh _ _ _
  have b0 : Below w.heap.size w (w.alloc (.cells p.cells.toArray 28)) := (Below.refl _ _).alloc (Nat.le_refl _) _
  have hT := Thin_any p _ (hp.below b0 b0.size)
  rw [ht] at hT
  have L0 := Lib.hid l0
  have B0 := Lib.hid b0
  have HT := Lib.hid hT
  clear l0 b0 hT hp ht
  unfold PlM.cells at HT ⊢
  go_enter Try.func6, Try.ntmps6
  go_wp2_with (first
    | (refine wpList_load_row (o := ⟨some 12, _, _, _, _, _⟩) ?_ 28 (.tmp 4) ?_ w.heap.size ?_ 28 p.cells.toArray (0, 0) _ L0.out Try.underlying28 rfl size28 ?_; rfl; rfl; rfl)
    | (go_at_call 17; refine HT.out.mono ?_; rintro e w1 ⟨rfl, hb1⟩)
    | (go_at_call 19; refine (awake_any _).mono ?_; rintro e w2 ⟨rfl, hb2⟩))
  go_ret
  have hx := B0.out.trans (hb1.mono B0.out.size)
  exact ⟨rfl, hx.trans (hb2.mono hx.size)⟩
set_option maxRecDepth 100000 in
set_option maxHeartbeats 2000000 in
theorem Leasts_bad (p : PlM) (planted size number : Int) (w : World) (hp : p.Lay w w.heap.size) (ht : thinB p = true) (hq : askedL p number [planted, size] ≠ 0) : Calls Try.prog 6 #[.agg p.cells.toArray, .int .i64 planted, .int .i64 size, .int .i64 number] w fun e w' => e = .returned (.bool true) ∧ Below w.heap.size w w' := by
  have hat := hp.at ht
  have l0 : Lies (w.alloc (.cells p.cells.toArray 28)) w.heap.size 28 p.cells.toArray := Lies.fresh _ _ _
  have b0 : Below w.heap.size w (w.alloc (.cells p.cells.toArray 28)) := (Below.refl _ _).alloc (Nat.le_refl _) _
  have hT := Thin_any p _ (hp.below b0 b0.size)
  rw [ht] at hT
  have hP : ∀ W, Below w.heap.size w W → Calls Try.prog 21 #[.agg p.cells.toArray] W (RetP p W) := fun W hb => Plan_any p W (hat.below hb hb.size) hp.nr hp.ne hp.nk
  have hR : ∀ (q : PlM) (W : World), q.d = p.d → q.At W W.heap.size → Calls Try.prog 34 #[.agg q.cells.toArray, .int .i64 planted, .int .i64 size, .int .i64 number] W fun e w' => e = .returned (.tuple #[.int .i64 0, .int .i64 (askedL p number [planted, size])]) ∧ Below W.heap.size W w' := fun q W hd hq' => by
    have e : askedL q number [planted, size] = askedL p number [planted, size] := by
      have e1 : q.s.l = p.s.l := congrArg PD.s hd
      unfold askedL; rw [fault_congr hd, e1]
    have := Least_no q planted size number W hq' (by rw [e]; exact hq)
    rwa [e] at this
  have hA : ∀ (g : Nat) (W : World), Below w.heap.size w W → Sl W W.heap.size 1 (fun x => [Value.int .i64 x]) (some ⟨g, 0, none⟩) [planted, size] → Calls Try.prog 32 #[.agg p.cells.toArray, .int .i64 number, .slice (some ⟨g, 0, none⟩) 2 2] W fun e w' => e = .returned (.int .i64 (askedL p number [planted, size])) ∧ Below W.heap.size W w' := fun g W hb hs =>
    asked_any p number (some ⟨g, 0, none⟩) 2 [planted, size] W (hat.below hb hb.size) hs (by simp)
  have L0 := Lib.hid l0
  have B0 := Lib.hid b0
  have HT := Lib.hid hT
  have HP := Lib.hid hP
  have HR := Lib.hid hR
  have HA := Lib.hid hA
  clear l0 b0 hT hp ht hP hR hA hat
  generalize askedL p number [planted, size] = q at *
  have hne : (q != 0) = true := by simpa using hq
  have hne2 : (q == 0) = false := by simpa using hq
  have hne3 : decide (q = 0) = false := by simpa using hq
  clear hq
  unfold PlM.cells at HT HA ⊢
  go_enter Try.func6, Try.ntmps6
  go_upto_region 5 with (first
    | (refine wpList_load_row (o := ⟨some 12, _, _, _, _, _⟩) ?_ 28 (.tmp 4) ?_ w.heap.size ?_ 28 p.cells.toArray (0, 0) _ L0.out Try.underlying28 rfl size28 ?_; rfl; rfl; rfl)
    | (go_at_call 17; refine HT.out.mono ?_; rintro e w1 ⟨rfl, hb1⟩; have L1 := Lib.hid (L0.out.call hb1); have B1 := Lib.hid (B0.out.trans (hb1.mono B0.out.size)); clear hb1)
    | (refine wpList_load_row (o := ⟨some 17, _, _, _, _, _⟩) ?_ 28 (.tmp 4) ?_ w.heap.size ?_ 28 p.cells.toArray (0, 0) _ L1.out Try.underlying28 rfl size28 ?_; rfl; rfl; rfl)
    | (go_at_call 21; refine (HP.out _ B1.out).mono ?_; rintro e w2 ⟨x, rfl, hd, hx, hb2⟩; have L2 := Lib.hid (L1.out.call hb2); have B2 := Lib.hid (B1.out.trans (hb2.mono B1.out.size)); clear hb2)
    | (go_at_call 34; refine (HR.out x _ hd hx).mono ?_; rintro e w3 ⟨rfl, hb3⟩; have L3 := Lib.hid (L2.out.call hb3); have B3 := Lib.hid (B2.out.trans (hb3.mono B2.out.size)); clear hb3)
    | (refine wpList_load_row (o := ⟨some 25, _, _, _, _, _⟩) ?_ 28 (.tmp 4) ?_ w.heap.size ?_ 28 p.cells.toArray (0, 0) _ L3.out Try.underlying28 rfl size28 ?_; rfl; rfl; rfl)
    | (go_at_call 32; refine (HA.out w3.heap.size _ (B3.out.alloc B3.out.size _) ?_).mono ?_; exact sl_of_lies (enc := encI) (fun _ => rfl) (Lies.fresh' (by simp)); rintro e w4 ⟨rfl, hb4⟩))
  have hy := (B3.out.alloc B3.out.size (.cells #[.int .i64 planted, .int .i64 size] 3)).trans (hb4.mono (B3.out.alloc B3.out.size (.cells #[.int .i64 planted, .int .i64 size] 3)).size)
  have B4 := Lib.hid hy
  clear hy hb4 hd hx L0 L1 L2 L3 B0 B1 B2 B3 HT HP HR HA
  refine wp_region_quiet_below (by kernel_rfl) (by kernel_rfl) ?_; (repeat (first | go_big_quiet_step ((fail)) | quiet_step ((fail)))); refine wpQuiet_nil ?_; intro wq hwq; have hbq : Below _ _ wq := (by obtain ⟨p, rfl⟩ := hwq; exact below_regrown _ _ _); clear hwq
  go_wp2_with (go_at_call 19; refine (awake_any _).mono ?_; rintro e w5 ⟨rfl, hb5⟩)
  go_ret
  have hz := B4.out.trans (hbq.mono B4.out.size)
  exact ⟨rfl, hz.trans (hb5.mono hz.size)⟩
end Go.Proofs.Ytopiidfhjfbmfaa

/- StockLeasts: what can be asked; the walk. -/
namespace Go.Proofs.Ytopiidfhjfbmfaa
open Go.RowKit Go.Lib
attribute [local go_sem] Oper.semAt_some

/-- A whole aggregate, read behind a guard. -/
theorem wpList_load_rowG {P : Program} {ops : Array Oper} {rest : List Oper} {o : Oper} {a : Act} {w : World} {Q : Exit → Act → World → Prop} (hw : Region.wanted o (yielded ops a.tmps) = true) (ty : TypeId) (x : Operand) (ho : o.op = .load ty x)
    (g : Nat) (hx : a.eval x = .pointer (some ⟨g, 0, none⟩)) (t : TypeId) (cs : Array Value) (fr : Nat × Nat) (d : TypeDesc) (hg : w.heap[g]? = some (.cells cs t fr))
    (hu : P.underlying ty = some d) (hd : (match d with | .struct _ | .array _ _ => true | _ => false) = true) (hi : (P.info? ty).map (·.size) = some cs.size)
    (h : wpList P ops Q rest (a.put o.dst (.agg cs)) w) : wpList P ops Q (o :: rest) a w :=
  wpList_step fun K hK => by
    rw [if_pos hw]
    exact wp_load_row ty x ho g hx t cs fr d hg hu hd hi (hK _ _ h)
set_option maxRecDepth 100000 in
set_option maxHeartbeats 8000000 in
theorem Leasts_good (p : PlM) (Q S : Nat) (number : Int) (w : World) (hp : p.Lay w w.heap.size) (ht : thinB p = true) (hq : askedL p number [(Q : Int), (S : Int)] = 0) : Calls Try.prog 6 #[.agg p.cells.toArray, .int .i64 Q, .int .i64 S, .int .i64 number] w fun e w' => e = .returned (.bool true) ∧ Below w.heap.size w w' := by
  have hat := hp.at ht
  obtain ⟨hv, hsz, hnb⟩ := asked_zero hq
  have hf : p.fault = 0 := by unfold askedL at hq; by_cases h : p.fault = 0; exact h; rw [if_pos h] at hq; exact absurd hq h
  obtain ⟨Y, hY⟩ : ∃ Y : Nat, p.years = (Y : Int) := ⟨p.years.toNat, years_nat hv⟩
  have hQl : Q < p.s.l.length := by have := hsz Q (by simp); omega
  have hSl : S < p.s.l.length := by have := hsz S (by simp); omega
  have hrl : p.r.l.length = p.s.l.length := hv.ok.r
  have hrs : p.r.l[Q]? = some (p.r.l.getD Q 0) := getD_some (by omega)
  have hRb := hv.ok.rb _ (List.mem_of_getElem? hrs)
  obtain ⟨br, orr, er, hbr, cr⟩ := hat.r.cell1 hrs
  have l0 : Lies (w.alloc (.cells p.cells.toArray 28)) w.heap.size 28 p.cells.toArray := Lies.fresh _ _ _
  have b0 : Below w.heap.size w (w.alloc (.cells p.cells.toArray 28)) := (Below.refl _ _).alloc (Nat.le_refl _) _
  have hT := Thin_any p _ (hp.below b0 b0.size)
  rw [ht] at hT
  have hP : ∀ W, Below w.heap.size w W → Calls Try.prog 21 #[.agg p.cells.toArray] W (RetP p W) := fun W hb => Plan_any p W (hat.below hb hb.size) hp.nr hp.ne hp.nk
  have hR : ∀ (q : PlM) (W : World), q.d = p.d → q.At W W.heap.size → Calls Try.prog 34 #[.agg q.cells.toArray, .int .i64 Q, .int .i64 S, .int .i64 number] W (RetL2 p.d Y Q S number (p.r.l.getD Q 0) W) := fun q W hd hq' =>
    Least_law q p.d Y Q S number (p.r.l.getD Q 0) W hd hq' (by rw [fault_congr hd]; exact hf) (by rw [← hY]; show q.d.years = _; rw [hd]; rfl) hQl hSl hnb.1 hnb.2 rfl hRb.1
  have hA : ∀ (g : Nat) (W : World), Below w.heap.size w W → Sl W W.heap.size 1 (fun x => [Value.int .i64 x]) (some ⟨g, 0, none⟩) [(Q : Int), (S : Int)] → Calls Try.prog 32 #[.agg p.cells.toArray, .int .i64 number, .slice (some ⟨g, 0, none⟩) 2 2] W fun e w' => e = .returned (.int .i64 0) ∧ Below W.heap.size W w' := fun g W hb hs => by
    have h := asked_any p number (some ⟨g, 0, none⟩) 2 [(Q : Int), (S : Int)] W (hat.below hb hb.size) hs (by simp)
    rwa [hq] at h
  have hLS : ∀ h : Int, 0 ≤ h → h ≤ p.r.l.getD Q 0 → LS2 p Y Q S number w h := fun h h0 h1 => ls2_of hat hf hY hQl hSl h0 h1
  have hMono : ∀ h h' : Int, 0 ≤ h → h ≤ h' → enoughD p.d Y Q S number h = true → enoughD p.d Y Q S number h' = true := fun h h' h0 hh he => enough_mono hv hQl hSl h0 hh he
  have HAT := Lib.hid hat
  have L0 := Lib.hid l0
  have B0 := Lib.hid b0
  have HT := Lib.hid hT
  have HP := Lib.hid hP
  have HR := Lib.hid hR
  have HA := Lib.hid hA
  have HLS := Lib.hid hLS
  have HMO := Lib.hid hMono
  have HER := Lib.hid er
  have HCR := Lib.hid cr
  have HRL := Lib.hid hrl
  have hQz : (Q : Int) < (p.r.l.length : Int) := by omega
  have hQ0 : (0 : Int) ≤ (Q : Int) := by omega
  have hR0 := hRb.1
  have hR1 := hRb.2
  clear l0 b0 hT hp ht hP hR hA hat hv hsz hnb hf hY hq hQl hSl hrs hLS hMono er cr hrl hRb
  generalize p.r.l.getD Q 0 = R at *
  unfold PlM.cells at HT HA ⊢
  go_enter Try.func6, Try.ntmps6
  go_upto_region 5 with (first
    | (refine wpList_load_row (o := ⟨some 12, _, _, _, _, _⟩) ?_ 28 (.tmp 4) ?_ w.heap.size ?_ 28 p.cells.toArray (0, 0) _ L0.out Try.underlying28 rfl size28 ?_; rfl; rfl; rfl)
    | (go_at_call 17; refine HT.out.mono ?_; rintro e w1 ⟨rfl, hb1⟩; have L1 := Lib.hid (L0.out.call hb1); have B1 := Lib.hid (B0.out.trans (hb1.mono B0.out.size)); clear hb1)
    | (refine wpList_load_row (o := ⟨some 17, _, _, _, _, _⟩) ?_ 28 (.tmp 4) ?_ w.heap.size ?_ 28 p.cells.toArray (0, 0) _ L1.out Try.underlying28 rfl size28 ?_; rfl; rfl; rfl)
    | (go_at_call 21; refine (HP.out _ B1.out).mono ?_; rintro e w2 ⟨x, rfl, hd, hx, hb2⟩; have L2 := Lib.hid (L1.out.call hb2); have B2 := Lib.hid (B1.out.trans (hb2.mono B1.out.size)); clear hb2)
    | (go_at_call 34; refine (HR.out x _ hd hx).mono ?_; rintro e w3 ⟨v, ec, rfl, hcase, hb3⟩; have L3 := Lib.hid (L2.out.call hb3); have B3 := Lib.hid (B2.out.trans (hb3.mono B2.out.size)); have HCS := Lib.hid hcase; clear hb3 hcase)
    | (refine wpList_load_row (o := ⟨some 25, _, _, _, _, _⟩) ?_ 28 (.tmp 4) ?_ w.heap.size ?_ 28 p.cells.toArray (0, 0) _ L3.out Try.underlying28 rfl size28 ?_; rfl; rfl; rfl)
    | (go_at_call 32; refine (HA.out w3.heap.size _ (B3.out.alloc B3.out.size _) ?_).mono ?_; exact sl_of_lies (enc := encI) (fun _ => rfl) (Lies.fresh' (by simp)); rintro e w4 ⟨rfl, hb4⟩))
  have hy := (B3.out.alloc B3.out.size (.cells #[.int .i64 (Q : Int), .int .i64 (S : Int)] 3)).trans (hb4.mono (B3.out.alloc B3.out.size (.cells #[.int .i64 (Q : Int), .int .i64 (S : Int)] 3)).size)
  have L4 := Lib.hid ((L3.out.alloc (.cells #[.int .i64 (Q : Int), .int .i64 (S : Int)] 3)).call hb4)
  have B4 := Lib.hid hy
  clear hy hb4 hd hx L0 L1 L2 L3 B0 B1 B2 B3 HT HP HR HA
  -- the plan, and its room, in each world behind
  have hrg : ∀ W0, Below w4.heap.size w4 W0 → ∀ W, From1 W0 W → W.rangeAt w.heap.size 0 p.cells := fun W0 h W hW =>
    Lies.range (cs := p.cells) (L4.out.call (h.trans (hW.below.mono h.size))) (fun j v hj => by simpa using hj)
  have hro : ∀ W, Below w4.heap.size w4 W → W.cell? ⟨w.heap.size, 1, none⟩ = some (.slice (some ⟨br, orr, none⟩) p.r.l.length p.r.c) ∧ W.cell? ⟨br, orr + Q, none⟩ = some (.int .i64 R) := fun W h => by
    have hw := B4.out.trans (h.mono B4.out.size)
    rw [← HER.out]
    exact ⟨(L4.out.call h).at_ 1, (hw.cell (p := ⟨br, orr + Q, none⟩) hbr).trans HCR.out⟩
  have HRG := Lib.hid hrg
  have HRO := Lib.hid hro
  clear hrg hro
  refine wp_region_stps 21 [.take 0, .take 1, .take 2, .take 3, .take 4, .take 5, .take 6, .take 7, .take 8, .take 9, .take 10, .take 11, .take 12, .take 13, .take 14, .take 15, .take 17, .take 18, .force 16, .force 19, .take 20] [] (by kernel_rfl) (by kernel_rfl) (fun fl h => by cases h) (fun fl fl' h => by cases h) (fun fl h => by cases h) ?_
  have hd1 : Below w4.heap.size w4 w4.drew := (Below.refl _ _).drew
  simp only [List.take_succ_cons, List.take_zero, List.map_nil]
  generalize w4.drew = v1 at *
  haveI hne1 : Nonempty (Cls (fun W => Below v1.heap.size v1 W)) := ⟨⟨v1, Below.refl _ _⟩⟩
  have q1 : ∀ c : Cls (fun W => Below v1.heap.size v1 W), c.val.cell? ⟨w.heap.size, 1, none⟩ = some (.slice (some ⟨br, orr, none⟩) p.r.l.length p.r.c) := fun c => (HRO.out c.val (hd1.trans (c.h.mono hd1.size))).1
  have q2 : ∀ c : Cls (fun W => Below v1.heap.size v1 W), c.val.cell? ⟨br, orr + Q, none⟩ = some (.int .i64 R) := fun c => (HRO.out c.val (hd1.trans (c.h.mono hd1.size))).2
  simp only [wpStps_take, wpStps_force, List.getElem?_toArray, List.getElem?_cons_zero, List.getElem?_cons_succ]
  iterate 3 ((first | go_big_quiet_step (rfl) | quiet_step (rfl)); refine wpQuiet_nil ?_)
  (refine wpQuiet_load_wholeG (o := ⟨some 34, _, _, _, _, _⟩) (by kernel_rfl) 28 (.tmp 4) ?_ w.heap.size 0 ?_ p.cells _ (fun W hW => HRG.out v1 hd1 W hW) Try.underlying28 rfl size28 ?_; rfl; rfl; simp only [Act.put, List.setIfInBounds_toArray, List.set_cons_zero, List.set_cons_succ])
  refine wpQuiet_nil ?_
  iterate 14 ((first | go_big_quiet_step (rfl) | quiet_step (rfl)); refine wpQuiet_nil ?_)
  clear q1 q2
  intro val w5 hw5
  (try simp only [putF, List.foldl_nil])
  have hd5 := hd1.trans (hw5.mono hd1.size)
  obtain ⟨HW, HS⟩ := HLS.out R hR0 (Int.le_refl _)
  have HWI := Lib.hid HW
  have HSU := Lib.hid HS
  clear HW HS
  go_wp2_with (go_at_call 36; refine (HWI.out _ (B4.out.trans (hd5.mono B4.out.size))).mono ?_; rintro e w6 ⟨A6, c6, rfl, hs6, hb6⟩)
  refine Ends.intro ⟨hb6, ?_⟩
  have hd6 := hd5.trans (hb6.mono hd5.size)
  have ha6 := withS_at (c := c6) HAT.out (B4.out.trans (hd6.mono B4.out.size)) hs6
  intro val7 w7 hw7
  (try simp only [putF, List.foldl_nil])
  have hd7 := hd6.trans (hw7.mono hd6.size)
  have ha7 := ha6.below hw7 hw7.size
  go_wp2_with (go_at_call 35; refine (HSU.out A6 c6 _ ha7).mono ?_; rintro e w8 ⟨rfl, hb8⟩)
  refine Ends.intro ⟨hb8, ?_⟩
  have hd8 := hd7.trans (hb8.mono hd7.size)
  have D8 := Lib.hid hd8
  clear hd1 hd5 hd6 hd7 hd8 hw5 hw7 hb6 hb8 hs6 ha6 ha7 HWI HSU hne1
  haveI hne8 : Nonempty (Cls (fun W => Below w8.heap.size w8 W)) := ⟨⟨w8, Below.refl _ _⟩⟩
  (first | go_big_quiet_step (rfl) | quiet_step (rfl))
  refine wpQuiet_nil ?_
  intro G w9 hb9 _ _
  (try simp only [List.map_nil, putF, List.foldl_nil])
  have D9 := Lib.hid (D8.out.trans (hb9.mono D8.out.size))
  clear hb9 D8 hne8
  rcases HCS.out with ⟨rfl, i, rfl, hiR, hlow, hen⟩ | ⟨rfl, rfl, hen⟩
  · have hER := HMO.out (i : Int) R (by omega) hiR hen
    rw [hER]
    obtain ⟨q1, q2⟩ := HRO.out w9 D9.out
    have hI : ∀ W, Calls Try.prog 37 #[.int .i64 (i : Int), .int .i64 0, .int .i64 R] W fun e w' => e = .returned (.bool true) ∧ Below W.heap.size W w' := fun W => by
      have h := In_below (i : Int) 0 R W
      rwa [show inB (i : Int) 0 R = true from inB_iff.2 ⟨by omega, hiR⟩] at h
    obtain ⟨HW, HS⟩ := HLS.out (i : Int) (by omega) hiR
    rw [hen] at HS
    have HIN := Lib.hid hI
    have HWI := Lib.hid HW
    have HSU := Lib.hid HS
    have hi0 : (0 : Int) ≤ (i : Int) := by omega
    have hi6 : (i : Int) ≤ 1000000 := by omega
    by_cases hz : i = 0
    · have hiz : (i : Int) = 0 := by omega
      clear hI HW HS hen hER hlow HCS HMO
      subst hz
      go_wp2_with (first
        | (go_at_call 37; refine (HIN.out _).mono ?_; rintro e w10 ⟨rfl, hb10⟩; have D10 := Lib.hid (D9.out.trans (hb10.mono D9.out.size)); have L10 := Lib.hid (L4.out.call D10.out))
        | (refine wpList_load_rowG (o := ⟨some 77, _, _, _, _, _⟩) ?_ 28 (.tmp 4) ?_ w.heap.size ?_ 28 p.cells.toArray (0, 0) _ L10.out Try.underlying28 rfl size28 ?_; kernel_rfl; rfl; rfl)
        | (go_at_call 36; refine (HWI.out _ (B4.out.trans (D10.out.mono B4.out.size))).mono ?_; rintro e w11 ⟨A11, c11, rfl, hs11, hb11⟩; have D11 := Lib.hid (D10.out.trans (hb11.mono D10.out.size)); have a11 := withS_at (c := c11) HAT.out (B4.out.trans (D11.out.mono B4.out.size)) hs11))
      refine (HSU.out A11 c11 _ a11).mono ?_
      rintro e w12 ⟨rfl, hb12⟩
      have D12 := Lib.hid (D11.out.trans (hb12.mono D11.out.size))
      clear HLS HRG HRO HSU HWI HIN hs11 a11 hb12 hb11 D11 D10 L10 hb10 D9 q1 q2
      go_wp2_with (fail)
      refine (awake_any _).mono ?_
      rintro e w15 ⟨rfl, hb15⟩
      go_wp2
      go_ret
      have hy := B4.out.trans (D12.out.mono B4.out.size)
      exact ⟨rfl, hy.trans (hb15.mono hy.size)⟩
    · obtain ⟨M, hM⟩ : ∃ M, i = M + 1 := ⟨i - 1, by omega⟩
      obtain ⟨HW2, HS2⟩ := HLS.out (M : Int) (by omega) (by omega)
      have hlo := hlow (by omega)
      rw [show i - 1 = M by omega] at hlo
      rw [hlo] at HS2
      have HWJ := Lib.hid HW2
      have HSJ := Lib.hid HS2
      have hi1 : (i : Int) - 1 = (M : Int) := by omega
      have hnz : decide ((i : Int) = 0) = false := by simp; omega
      have hnz2 : ((i : Int) == 0) = false := by simp; omega
      clear hI HW HS HW2 HS2 hen hER hlow hlo hM HCS HMO hz
      go_wp2_with (first
        | (go_at_call 37; refine (HIN.out _).mono ?_; rintro e w10 ⟨rfl, hb10⟩; have D10 := Lib.hid (D9.out.trans (hb10.mono D9.out.size)); have L10 := Lib.hid (L4.out.call D10.out))
        | (refine wpList_load_rowG (o := ⟨some 77, _, _, _, _, _⟩) ?_ 28 (.tmp 4) ?_ w.heap.size ?_ 28 p.cells.toArray (0, 0) _ L10.out Try.underlying28 rfl size28 ?_; kernel_rfl; rfl; rfl)
        | (go_at_call 36; refine (HWI.out _ (B4.out.trans (D10.out.mono B4.out.size))).mono ?_; rintro e w11 ⟨A11, c11, rfl, hs11, hb11⟩; have D11 := Lib.hid (D10.out.trans (hb11.mono D10.out.size)); have a11 := withS_at (c := c11) HAT.out (B4.out.trans (D11.out.mono B4.out.size)) hs11))
      refine (HSU.out A11 c11 _ a11).mono ?_
      rintro e w12 ⟨rfl, hb12⟩
      have D12 := Lib.hid (D11.out.trans (hb12.mono D11.out.size))
      have L12 := Lib.hid (L4.out.call D12.out)
      clear HLS HRG HRO HSU HWI HIN hs11 a11 hb12 hb11 D11 D10 L10 hb10 D9 q1 q2
      go_wp2_with (first
        | (refine wpList_load_rowG (o := ⟨some 91, _, _, _, _, _⟩) ?_ 28 (.tmp 4) ?_ w.heap.size ?_ 28 p.cells.toArray (0, 0) _ L12.out Try.underlying28 rfl size28 ?_; kernel_rfl; rfl; rfl)
        | (go_at_call 36; refine (HWJ.out _ (B4.out.trans (D12.out.mono B4.out.size))).mono ?_; rintro e w13 ⟨A13, c13, rfl, hs13, hb13⟩; have D13 := Lib.hid (D12.out.trans (hb13.mono D12.out.size)); have a13 := withS_at (c := c13) HAT.out (B4.out.trans (D13.out.mono B4.out.size)) hs13))
      refine (HSJ.out A13 c13 _ a13).mono ?_
      rintro e w14 ⟨rfl, hb14⟩
      have D14 := Lib.hid (D13.out.trans (hb14.mono D13.out.size))
      clear HSJ HWJ hs13 a13 hb14 hb13 D13 D12 L12
      go_wp2_with (fail)
      refine (awake_any _).mono ?_
      rintro e w15 ⟨rfl, hb15⟩
      go_wp2
      go_ret
      have hy := B4.out.trans (D14.out.mono B4.out.size)
      exact ⟨rfl, hy.trans (hb15.mono hy.size)⟩
  · rw [hen]
    go_wp2_with (go_at_call 19; refine (awake_any _).mono ?_; rintro e w10 ⟨rfl, hb10⟩)
    go_ret
    have hz := B4.out.trans (D9.out.mono B4.out.size)
    exact ⟨rfl, hz.trans (hb10.mono hz.size)⟩
theorem StockLeasts_walk (p : PlM) (planted size number : Int) (w : World) (hp : p.Lay w w.heap.size) (_h1 : -9223372036854775808 ≤ planted ∧ planted ≤ 9223372036854775807) (_h2 : -9223372036854775808 ≤ size ∧ size ≤ 9223372036854775807) (_h3 : -9223372036854775808 ≤ number ∧ number ≤ 9223372036854775807) :
    Calls Try.prog 6 #[.agg p.cells.toArray, .int .i64 planted, .int .i64 size, .int .i64 number] w fun e w' => e = .returned (.bool true) ∧ Below w.heap.size w w' := by
  cases ht : thinB p with
  | false => exact Leasts_thick p planted size number w hp ht
  | true =>
    by_cases hq : askedL p number [planted, size] = 0
    · obtain ⟨_, hs, _⟩ := asked_zero hq
      have h0 := (hs planted (by simp)).1
      have h1 := (hs size (by simp)).1
      obtain ⟨Q, rfl⟩ : ∃ Q : Nat, planted = (Q : Int) := ⟨planted.toNat, by omega⟩
      obtain ⟨S, rfl⟩ : ∃ S : Nat, size = (S : Int) := ⟨size.toNat, by omega⟩
      exact Leasts_good p Q S number w hp ht hq
    · exact Leasts_bad p planted size number w hp ht hq
end Go.Proofs.Ytopiidfhjfbmfaa
