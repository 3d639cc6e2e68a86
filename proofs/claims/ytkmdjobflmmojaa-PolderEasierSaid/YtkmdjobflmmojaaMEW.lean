/- PolderEasier: up to its switch. -/
import Derived.Test.YtkmdjobflmmojaaPMW
import Derived.Test.YtkmdjobflmmojaaME
import Derived.RegionTactic
import Derived.ChangeAlike
import Derived.BigRegion
namespace Go.Proofs.Ytkmdjobflmmojaa
open Go.RowKit Go.Lib
attribute [local go_sem] Oper.semAt_some

theorem sl_setD {B b o i f : Nat} {l : List Dy} {d : Dy} {y : Int} {upd : Dy → Dy} {W : World} {t : TypeId} {cs : Array Value} (h : Sl W B 5 encD (some ⟨b, o, none⟩) l) (hr : Lies W b t cs) (hd : l[i]? = some d) (hf : f < 5) (hu : encD (upd d) = (encD d).set f (.int .i64 y)) : Sl (W.setCell ⟨b, o + i * 5 + f, none⟩ (.int .i64 y)) B 5 encD (some ⟨b, o, none⟩) (l.modify i upd) := fun hne => by
  have hne' : l ≠ [] := by intro e; rw [e] at hd; simp at hd
  obtain ⟨b', o', e, hb, hc⟩ := h hne'
  cases e
  refine ⟨b, o, rfl, hb, fun j x hx k u hu' => ?_⟩
  have hk : k < 5 := (List.getElem?_eq_some_iff.1 hu').1
  rw [(hr.set _ _).at_]
  have hin : o + i * 5 + f < cs.size := by
    have := hc i d hd f _ (show (encD d)[f]? = some ((encD d)[f]'hf) by simp)
    rw [hr.at_] at this
    exact (Array.getElem?_eq_some_iff.1 this).1
  rw [List.getElem?_modify] at hx
  by_cases e : i = j
  · subst e
    rw [hd] at hx
    obtain rfl : x = upd d := by simpa using hx.symm
    rw [hu] at hu'
    by_cases e2 : f = k
    · subst e2
      rw [List.getElem?_set_self (by exact hf)] at hu'
      cases hu'
      simp [hin]
    · rw [List.getElem?_set_ne e2] at hu'
      rw [Array.getElem?_setIfInBounds_ne (by omega), ← hr.at_]
      exact hc i d hd k u hu'
  · have hx' : l[j]? = some x := by simpa [e] using hx
    rw [Array.getElem?_setIfInBounds_ne (by omega), ← hr.at_]
    exact hc j x hx' k u hu'
theorem mod_mod (l : List Dy) (i : Nat) (f g : Dy → Dy) : (l.modify i f).modify i g = l.modify i (fun d => g (f d)) := by
  apply List.ext_getElem?
  intro j
  rw [List.getElem?_modify, List.getElem?_modify, List.getElem?_modify]
  cases l[j]? <;> by_cases e : i = j <;> simp [e]
theorem sl_only {α : Type} {enc : α → List Value} {B k b o g : Nat} {l : List α} {W W' : World} (h : Sl W B k enc (some ⟨b, o, none⟩) l) (ho : Only g W W') (hg : b ≠ g) : Sl W' B k enc (some ⟨b, o, none⟩) l := fun hne => by
  obtain ⟨b', o', e, hb, hc⟩ := h hne
  cases e
  refine ⟨b, o, rfl, hb, fun i x hx j u hu => ?_⟩
  have h1 := hc i x hx j u hu
  simp only [World.cell?, ho.block b hg] at h1 ⊢
  exact h1
structure EaM (q : PoM) (w : World) (g9 b6 o6 c6 : Nat) (V : World) : Prop where
  b : Lies V w.heap.size 26 q.cells.toArray
  o : Lies V g9 26 (q.part (.slice (some ⟨b6, o6, none⟩) q.ds.l.length c6)).toArray
  s : Sl V V.heap.size 5 encD (some ⟨b6, o6, none⟩) q.ds.l
  r : ∃ cs, Lies V b6 76 cs
  g : w.heap.size < g9 ∧ g9 < b6
  bw : Below w.heap.size w V
theorem EaM.call {q : PoM} {w : World} {g9 b6 o6 c6 : Nat} {V V' : World} (h : EaM q w g9 b6 o6 c6 V) (hb : Below V.heap.size V V') : EaM q w g9 b6 o6 c6 V' :=
  ⟨h.b.call hb, h.o.call hb, (h.s.below hb).more hb.size, by obtain ⟨cs, h⟩ := h.r; exact ⟨cs, h.call hb⟩, h.g, h.bw.trans (hb.mono h.bw.size)⟩
set_option maxRecDepth 100000 in
set_option maxHeartbeats 16000000 in
theorem PolderEasier_unready (q : PoM) (x y z : Nat) (w : World) (h : OpenPo q w) (hyy : q.d.readyB = false) : Calls Try.prog 12 #[.agg q.cells.toArray, .int .u8 z, .int .u8 x, .int .u8 y] w fun e w' => e = .returned (.bool true) ∧ Below w.heap.size w w' := by
  have l0 : Lies (w.alloc (.cells q.cells.toArray 26)) w.heap.size 26 q.cells.toArray := Lies.fresh _ _ _
  have b0 : Below w.heap.size w (w.alloc (.cells q.cells.toArray 26)) := (by repeat (first | (with_reducible assumption) | (with_reducible exact Below.refl _ _) | (with_reducible refine Below.drew ?_) | (with_reducible refine below_drewN ?_ _) | ((with_reducible refine Below.setCell ?_ ?_ _); rotate_left; focus (first | (simp; done) | (simp; omega) | omega)) | ((with_reducible refine Below.alloc ?_ ?_ _); rotate_left; focus (first | (simp; done) | (simp; omega) | omega))))
  have hre := ready_any q (w.alloc (.cells q.cells.toArray 26)) ⟨(h.s.below b0).more b0.size, h.m, h.c⟩
  rw [hyy] at hre
  have HR := Lib.hid hre
  have L0 := Lib.hid l0
  have B0 := Lib.hid b0
  have K16 := Lib.hid True.intro
  clear l0 b0 hre h hyy
  go_enter Try.func12, Try.ntmps12
  go_upto_region 1 with (fail)
  change Code.wp _ _ _ _ (w.alloc (.cells q.cells.toArray 26))
  generalize w.alloc (.cells q.cells.toArray 26) = w1 at *
  go_wp2_with (first
    | (have h := K16; clear h; refine wpList_load_row (o := ⟨some 16, _, _, _, _, _⟩) ?_ 26 (.tmp 4) ?_ w.heap.size ?_ 26 q.cells.toArray (0, 0) _ L0.out Try.underlying26 rfl size_rp ?_; rfl; rfl; rfl; clear K16)
    | (go_at_call 42; refine HR.out.mono ?_; rintro e w2 ⟨rfl, hb2⟩)
    | (go_at_call 16; refine (wakes_any _).mono ?_; rintro e w3 ⟨rfl, hb3⟩))
  go_ret
  exact ⟨rfl, B0.out.trans ((hb2.trans (hb3.mono hb2.size)).mono B0.out.size)⟩
set_option maxRecDepth 100000 in
set_option maxHeartbeats 16000000 in
theorem PolderEasier_try (q : PoM) (x y z s i n : Nat) (w : World) (h : OpenPo q w) (hyy : q.d.readyB = true) (hz : (z : Int) % 7 = (s : Int)) (hs7 : s < 7) (hi : (x : Int) % (q.ds.l.length : Int) = (i : Int)) (hil : i < q.ds.l.length) (hn : (y : Int) % 6 = (n : Int)) (hn6 : n < 6) (hx255 : x ≤ 255) (hy255 : y ≤ 255) (hz255 : z ≤ 255) : Calls Try.prog 12 #[.agg q.cells.toArray, .int .u8 z, .int .u8 x, .int .u8 y] w fun e w' => e = .returned (.bool true) ∧ Below w.heap.size w w' := by
  have l0 : Lies (w.alloc (.cells q.cells.toArray 26)) w.heap.size 26 q.cells.toArray := Lies.fresh _ _ _
  have b0 : Below w.heap.size w (w.alloc (.cells q.cells.toArray 26)) := (by repeat (first | (with_reducible assumption) | (with_reducible exact Below.refl _ _) | (with_reducible refine Below.drew ?_) | (with_reducible refine below_drewN ?_ _) | ((with_reducible refine Below.setCell ?_ ?_ _); rotate_left; focus (first | (simp; done) | (simp; omega) | omega)) | ((with_reducible refine Below.alloc ?_ ?_ _); rotate_left; focus (first | (simp; done) | (simp; omega) | omega))))
  have hz0 : (w.alloc (.cells q.cells.toArray 26)).heap.size = w.heap.size + 1 := by simp
  have hre := ready_any q (w.alloc (.cells q.cells.toArray 26)) ⟨(h.s.below b0).more b0.size, h.m, h.c⟩
  have hrr : q.d.Ok ∧ q.ds.l.length ≤ 12 := by
    have h := hyy
    unfold PoD.readyB at h
    rw [Bool.and_eq_true, decide_eq_true_eq, decide_eq_true_eq] at h
    have := PoD.fault_iff.1 h.2
    exact ⟨this, this.n2⟩
  obtain ⟨hok, hl12⟩ := hrr
  rw [hyy] at hre
  have hne : q.ds.l ≠ [] := by intro e; rw [e] at hil; simp at hil
  have HR := Lib.hid hre
  have HNE := Lib.hid hne
  have HAN := Lib.hid (show q.ds.A = none → q.ds.l.length = 0 ∧ q.ds.c = 0 from fun e => by obtain ⟨b, off, e2, -⟩ := h.s.lt hne; rw [e] at e2; cases e2)
  have HAT := Lib.hid (h.at_ (by omega))
  have HOK := Lib.hid hok
  have HL15 := Lib.hid (show q.ds.l.length ≤ 15 by omega)
  have L0 := Lib.hid l0
  have B0 := Lib.hid b0
  have HZ0 := Lib.hid hz0
  have HI := Lib.hid hi
  have HIL := Lib.hid hil
  have HN := Lib.hid hn
  have HZ := Lib.hid hz
  have K16 := Lib.hid True.intro
  clear l0 b0 hz0 hre h hyy hok hl12 hne hi hil hn hz
  go_enter Try.func12, Try.ntmps12
  go_upto_region 1 with (fail)
  change Code.wp _ _ _ _ (w.alloc (.cells q.cells.toArray 26))
  generalize w.alloc (.cells q.cells.toArray 26) = w1 at *
  go_upto_region 4 with (first
    | (have h := K16; clear h; refine wpList_load_row (o := ⟨some 16, _, _, _, _, _⟩) ?_ 26 (.tmp 4) ?_ w.heap.size ?_ 26 q.cells.toArray (0, 0) _ L0.out Try.underlying26 rfl size_rp ?_; rfl; rfl; rfl; clear K16)
    | (go_at_call 42; refine HR.out.mono ?_; rintro e w2 ⟨rfl, hb2⟩; have B2 := Lib.hid (B0.out.trans (hb2.mono B0.out.size)); have L2 := Lib.hid (L0.out.call hb2); have hg9 : w.heap.size < w2.heap.size := (by have := HZ0.out; have := hb2.size; omega); have Z2 := Lib.hid (Lies.fresh w2 26 zpo.toArray); clear hb2; have K20 := Lib.hid True.intro)
    | (have h := K20; clear h; refine wpList_load_row (o := ⟨some 20, _, _, _, _, _⟩) ?_ 26 (.tmp 4) ?_ w.heap.size ?_ 26 q.cells.toArray (0, 0) _ L2.out Try.underlying26 rfl size_rp ?_; rfl; rfl; rfl; have KST := Lib.hid True.intro; clear K20)
    | (have h := KST; clear h; refine wpList_store_cells (o := ⟨none, .store 26 (.tmp 9) _, _, _, _, _⟩) ?_ 26 (.tmp 9) (.tmp 20) ?_ w2.heap.size 0 ?_ 26 zpo q.cells ?_ Z2.out (by simp [zpo, PoM.cells]) size_rp (cells_one q) ?_; rfl; rfl; rfl; rfl; intro w3 HS3 HO3; clear KST))
  have hs3 := HS3.out
  rw [splice_whole (by simp [zpo, PoM.cells])] at hs3
  have hb23 : Below w2.heap.size w2 w3 := HO3.out.below ((Below.refl _ _).alloc (Nat.le_refl _) _) (Nat.le_refl _)
  have hal : Below w3.heap.size w3 (w3.alloc (.cells #[] 76)) := (Below.refl _ _).alloc (Nat.le_refl _) _
  have B3 := Lib.hid (B2.out.trans (hb23.mono B2.out.size))
  have B4 := Lib.hid (B3.out.trans (hal.mono B3.out.size))
  have L4 := Lib.hid ((L2.out.call hb23).call hal)
  have X4 := Lib.hid (hs3.call hal)
  have HG4 := Lib.hid (show w2.heap.size < w3.heap.size from hs3.in_)
  have OW4 := Lib.hid (show (w3.alloc (.cells #[] 76)).ownsRow w3.heap.size 76 5 (.slice (some ⟨w3.heap.size, 0, none⟩) 0 0) ([] : List Dy).length (([] : List Dy).flatMap encD) from ⟨rfl, .inr ⟨w3.heap.size, 0, #[], rfl, Nat.le_refl _, heap_alloc_new _ _, Nat.le_refl _, by unfold maxLen; omega, rfl, rfl⟩⟩)
  have SL4 := Lib.hid ((HAT.out.s.below B4.out).more B4.out.size)
  have c23 : (w3.alloc (.cells #[] 76)).cell? ⟨w.heap.size, 6, none⟩ = some (.slice q.ds.A q.ds.l.length q.ds.c) := L4.out.at_ 6
  clear hs3 HS3 HO3 hb23 hal L2 B2 L0 B0 HZ0 HR Z2
  generalize w2.heap.size = g9 at *
  have K24 := Lib.hid True.intro
  go_upto_region 5 with (first
    | (have h := K24; clear h; refine wpList_app_rdays (o := ⟨some 24, _, _, _, _, _⟩) ?_ (.tmp 21) (.tmp 23) ?_ w3.heap.size (.slice (some ⟨w3.heap.size, 0, none⟩) 0 0) [] ?_ OW4.out q.ds.A q.ds.c q.ds.l ?_ HAN.out SL4.out (by have := HL15.out; simp; omega) (by simp) ?_; rfl; rfl; rfl; rfl; intro v' w5 ho5 hb5 hg5; have HO5 := Lib.hid ho5; have HB5 := Lib.hid hb5; obtain ⟨A6, c6, hv6, -, hs5⟩ := Sl.of_own (enc := encD) (l := q.ds.l) (fun _ => rfl) ho5 rfl; obtain ⟨b6, o6, hA6, hbb6⟩ := hs5.lt HNE.out; have HS5 := Lib.hid hs5; subst hA6; subst hv6; have lo5 := X4.out.to_ (hb5.block g9 (by have := HG4.out; omega)); have c25 : w5.cell? ⟨g9, 6, none⟩ = some (.slice q.ds.A q.ds.l.length q.ds.c) := lo5.at_ 6; have f25 : w5.frozen? ⟨g9, 6, none⟩ = false := lo5.free 6; have LO5 := Lib.hid lo5; clear ho5 hb5 hg5 hs5 lo5 hbb6; clear K24))
  have hon := Only.set g9 6 w5 (.slice (some ⟨b6, o6, none⟩) q.ds.l.length c6)
  have hgb : w3.heap.size ≤ b6 := (own_at HO5.out rfl).1
  have ho6 := own_keep HO5.out (fun g hv => hon.block g (by have := (own_at HO5.out hv).1; have := HG4.out; omega))
  obtain ⟨_, _, e6, -, hs6⟩ := Sl.of_own (enc := encD) (l := q.ds.l) (fun _ => rfl) ho6 rfl
  cases e6
  have M6 := Lib.hid (show EaM q w g9 b6 o6 c6 (w5.setCell ⟨g9, 6, none⟩ (.slice (some ⟨b6, o6, none⟩) q.ds.l.length c6)) from
    ⟨hon.lies (L4.out.to_ (HB5.out.block _ (by have := HG4.out; omega))) (by omega), LO5.out.set 6 _, hs6, (own_at ho6 rfl).2.2, ⟨hg9, by have := HG4.out; omega⟩, hon.below (B4.out.trans (HB5.out.mono B3.out.size)) (by omega)⟩)
  change Code.wp _ _ _ _ (w5.setCell ⟨g9, 6, none⟩ (.slice (some ⟨b6, o6, none⟩) q.ds.l.length c6))
  clear hon hgb ho6 hs6 HO5 HB5 HS5 LO5 L4 X4 OW4 SL4 B3 B4 HG4 c23 c25 f25
  generalize w5.setCell ⟨g9, 6, none⟩ (.slice (some ⟨b6, o6, none⟩) q.ds.l.length c6) = w6 at *
  have c27 : w6.cell? ⟨g9, 6, none⟩ = some (.slice (some ⟨b6, o6, none⟩) q.ds.l.length c6) := M6.out.o.at_ 6
  have hi := HI.out
  have hn := HN.out
  have hz := HZ.out
  have hil := HIL.out
  have hl15 := HL15.out
  obtain ⟨N, hNN⟩ : ∃ N, N = q.ds.l.length := ⟨_, rfl⟩
  rw [← hNN] at hi hil hl15 c27
  have hN0 : (N : Int) ≠ 0 := by omega
  have hNz : (N : Int) ≤ 15 := by omega
  have hilz : (i : Int) < (N : Int) := by omega
  have hi0 : (0 : Int) ≤ (i : Int) := by omega
  have hwx : IntKind.i64.wrap (x : Int) = x := IntWalk.i64_in _ (by omega)
  have hwy : IntKind.i64.wrap (y : Int) = y := IntWalk.i64_in _ (by omega)
  have HNN := Lib.hid hNN
  clear hNN
  go_quiet (fail)
  have hbq : Below w6.heap.size w6 (w6.drewN nq) := below_drewN (Below.refl _ _) nq
  have M7 := Lib.hid (M6.out.call hbq)
  clear c27 hbq M6
  generalize w6.drewN nq = w7 at *
  have HR1 := Lib.hid True.intro
  obtain rfl | rfl | rfl | rfl | rfl | rfl | rfl : s = 0 ∨ s = 1 ∨ s = 2 ∨ s = 3 ∨ s = 4 ∨ s = 5 ∨ s = 6 := by omega
  · have hw8 : IntKind.i64.wrap (q.pump + (n : Int)) = q.pump + (n : Int) := IntWalk.i64_in _ (by have := HOK.out.p0; have := HOK.out.p1; have := HOK.out.i0; have := HOK.out.i1; have := HOK.out.l0; have := HOK.out.l1; have := HOK.out.l2; simp only [PoM.d] at *; omega)
    have c63 : w7.cell? ⟨g9, 4, none⟩ = some (.int .i64 q.pump) := M7.out.o.at_ 4
    have f63 : w7.frozen? ⟨g9, 4, none⟩ = false := M7.out.o.free 4
    clear HR1
    go_upto_region 21 with (fail)
    have hon := Only.set g9 4 w7 (.int .i64 (min 20 (q.pump + (n : Int))))
    obtain ⟨xx, hxx⟩ : ∃ xx : PoM, xx = { q with pump := min 20 (q.pump + (n : Int)), ds := ⟨some ⟨b6, o6, none⟩, q.ds.l, c6⟩ } := ⟨_, rfl⟩
    have HXD := Lib.hid (show xx.d = q.d.eas 0 i (n : Int) by rw [hxx]; rfl)
    have O8 := Lib.hid (show Lies (w7.setCell ⟨g9, 4, none⟩ (.int .i64 (min 20 (q.pump + (n : Int))))) g9 26 xx.cells.toArray by rw [hxx]; exact M7.out.o.set 4 _)
    have X8 := Lib.hid (hon.lies M7.out.b (by have := M7.out.g; omega))
    have W8 := Lib.hid (hon.below M7.out.bw (by have := M7.out.g; omega))
    have XA8 := Lib.hid (show xx.At (w7.setCell ⟨g9, 4, none⟩ (.int .i64 (min 20 (q.pump + (n : Int))))) (w7.setCell ⟨g9, 4, none⟩ (.int .i64 (min 20 (q.pump + (n : Int))))).heap.size by
      rw [hxx, hon.size]; exact ⟨sl_only M7.out.s hon (by have := M7.out.g; omega), by have := HL15.out; show q.ds.l.length ≤ _; omega⟩)
    have HXL := Lib.hid (show xx.ds.l.length ≤ 15 by rw [hxx]; exact HL15.out)
    clear hxx hon c63 f63 hw8 M7
    generalize w7.setCell ⟨g9, 4, none⟩ (.int .i64 (min 20 (q.pump + (n : Int)))) = w8 at *
    have hle := (PoD.eas_ok HOK.out 0 i (n := (n : Int)) (by omega) (by omega)).2.least HOK.out (PoD.eas_ok HOK.out 0 i (n := (n : Int)) (by omega) (by omega)).1
    rcases hle with ⟨va, vb, e1, e2, hba⟩ | ⟨e1, vb, f, e2, rfl | rfl⟩
    · have HL1 := Lib.hid (fun A c W (hat : (q.withA A c).At W W.heap.size) => (show Calls Try.prog 22 #[.agg (q.withA A c).cells.toArray] W fun e w' => e = .returned (.tuple #[.int .i64 va, .int .i64 0]) ∧ Below W.heap.size W w' by
        have := Least_any (q.withA A c) W hat
        rw [show (q.withA A c).d.leastR = (va, 0) from e1] at this
        exact this))
      have HL2 := Lib.hid (fun A c W (hat : (xx.withA A c).At W W.heap.size) => (show Calls Try.prog 22 #[.agg (xx.withA A c).cells.toArray] W fun e w' => e = .returned (.tuple #[.int .i64 vb, .int .i64 0]) ∧ Below W.heap.size W w' by
        have := Least_any (xx.withA A c) W hat
        rw [show (xx.withA A c).d.leastR = (vb, 0) from (congrArg PoD.leastR HXD.out).trans e2] at this
        exact this))
      clear e1 e2
      have K131 := Lib.hid True.intro
      go_wp2_with (first
        | (have h := K131; clear h; refine wpList_load_row (o := ⟨some 131, _, _, _, _, _⟩) ?_ 26 (.tmp 4) ?_ w.heap.size ?_ 26 q.cells.toArray (0, 0) _ X8.out Try.underlying26 rfl size_rp ?_; rfl; rfl; rfl; have K132 := Lib.hid True.intro; clear K131)
        | (have h := K132; clear h; go_at_call 18; refine (Copy_any q _ (HAT.out.below W8.out W8.out.size) HL15.out).mono ?_; rintro e w9 ⟨A9, c9, rfl, hat9, hb9⟩; have T9 := Lib.hid hat9; have W9 := Lib.hid (W8.out.trans (hb9.mono W8.out.size)); have O9 := Lib.hid (O8.out.call hb9); have XA9 := Lib.hid (XA8.out.below hb9 hb9.size); clear hat9 hb9; have K133 := Lib.hid True.intro; clear K132)
        | (have h := K133; clear h; go_at_call 22; refine (HL1.out A9 c9 _ T9.out).mono ?_; rintro e w10 ⟨rfl, hb10⟩; have W10 := Lib.hid (W9.out.trans (hb10.mono W9.out.size)); have O10 := Lib.hid (O9.out.call hb10); have XA10 := Lib.hid (XA9.out.below hb10 hb10.size); clear hb10; have K137 := Lib.hid True.intro; clear K133)
        | (have h := K137; clear h; refine wpList_load_row (o := ⟨some 137, _, _, _, _, _⟩) ?_ 26 (.tmp 9) ?_ g9 ?_ 26 xx.cells.toArray (0, 0) _ O10.out Try.underlying26 rfl size_rp ?_; rfl; rfl; rfl; have K138 := Lib.hid True.intro; clear K137)
        | (have h := K138; clear h; go_at_call 18; refine (Copy_any xx _ XA10.out HXL.out).mono ?_; rintro e w11 ⟨A11, c11, rfl, hat11, hb11⟩; have T11 := Lib.hid hat11; have W11 := Lib.hid (W10.out.trans (hb11.mono W10.out.size)); clear hat11 hb11; have K139 := Lib.hid True.intro; clear K138)
        | (have h := K139; clear h; go_at_call 22; refine (HL2.out A11 c11 _ T11.out).mono ?_; rintro e w12 ⟨rfl, hb12⟩; have W12 := Lib.hid (W11.out.trans (hb12.mono W11.out.size)); clear hb12; have KW := Lib.hid True.intro; clear K139)
        | (have h := KW; clear h; go_at_call 16; refine (wakes_any _).mono ?_; rintro e w13 ⟨rfl, hb13⟩; clear KW))
      go_ret
      exact ⟨rfl, W12.out.trans (hb13.mono W12.out.size)⟩
    · have HL1 := Lib.hid (fun A c W (hat : (q.withA A c).At W W.heap.size) => (show Calls Try.prog 22 #[.agg (q.withA A c).cells.toArray] W fun e w' => e = .returned (.tuple #[.int .i64 0, .int .i64 9]) ∧ Below W.heap.size W w' by
        have := Least_any (q.withA A c) W hat
        rw [show (q.withA A c).d.leastR = (0, 9) from e1] at this
        exact this))
      have HL2 := Lib.hid (fun A c W (hat : (xx.withA A c).At W W.heap.size) => (show Calls Try.prog 22 #[.agg (xx.withA A c).cells.toArray] W fun e w' => e = .returned (.tuple #[.int .i64 vb, .int .i64 0]) ∧ Below W.heap.size W w' by
        have := Least_any (xx.withA A c) W hat
        rw [show (xx.withA A c).d.leastR = (vb, 0) from (congrArg PoD.leastR HXD.out).trans e2] at this
        exact this))
      clear e1 e2
      have K131 := Lib.hid True.intro
      go_wp2_with (first
        | (have h := K131; clear h; refine wpList_load_row (o := ⟨some 131, _, _, _, _, _⟩) ?_ 26 (.tmp 4) ?_ w.heap.size ?_ 26 q.cells.toArray (0, 0) _ X8.out Try.underlying26 rfl size_rp ?_; rfl; rfl; rfl; have K132 := Lib.hid True.intro; clear K131)
        | (have h := K132; clear h; go_at_call 18; refine (Copy_any q _ (HAT.out.below W8.out W8.out.size) HL15.out).mono ?_; rintro e w9 ⟨A9, c9, rfl, hat9, hb9⟩; have T9 := Lib.hid hat9; have W9 := Lib.hid (W8.out.trans (hb9.mono W8.out.size)); have O9 := Lib.hid (O8.out.call hb9); have XA9 := Lib.hid (XA8.out.below hb9 hb9.size); clear hat9 hb9; have K133 := Lib.hid True.intro; clear K132)
        | (have h := K133; clear h; go_at_call 22; refine (HL1.out A9 c9 _ T9.out).mono ?_; rintro e w10 ⟨rfl, hb10⟩; have W10 := Lib.hid (W9.out.trans (hb10.mono W9.out.size)); have O10 := Lib.hid (O9.out.call hb10); have XA10 := Lib.hid (XA9.out.below hb10 hb10.size); clear hb10; have K137 := Lib.hid True.intro; clear K133)
        | (have h := K137; clear h; refine wpList_load_row (o := ⟨some 137, _, _, _, _, _⟩) ?_ 26 (.tmp 9) ?_ g9 ?_ 26 xx.cells.toArray (0, 0) _ O10.out Try.underlying26 rfl size_rp ?_; rfl; rfl; rfl; have K138 := Lib.hid True.intro; clear K137)
        | (have h := K138; clear h; go_at_call 18; refine (Copy_any xx _ XA10.out HXL.out).mono ?_; rintro e w11 ⟨A11, c11, rfl, hat11, hb11⟩; have T11 := Lib.hid hat11; have W11 := Lib.hid (W10.out.trans (hb11.mono W10.out.size)); clear hat11 hb11; have K139 := Lib.hid True.intro; clear K138)
        | (have h := K139; clear h; go_at_call 22; refine (HL2.out A11 c11 _ T11.out).mono ?_; rintro e w12 ⟨rfl, hb12⟩; have W12 := Lib.hid (W11.out.trans (hb12.mono W11.out.size)); clear hb12; have KW := Lib.hid True.intro; clear K139)
        | (have h := KW; clear h; go_at_call 16; refine (wakes_any _).mono ?_; rintro e w13 ⟨rfl, hb13⟩; clear KW))
      go_ret
      exact ⟨rfl, W12.out.trans (hb13.mono W12.out.size)⟩
    · have HL1 := Lib.hid (fun A c W (hat : (q.withA A c).At W W.heap.size) => (show Calls Try.prog 22 #[.agg (q.withA A c).cells.toArray] W fun e w' => e = .returned (.tuple #[.int .i64 0, .int .i64 9]) ∧ Below W.heap.size W w' by
        have := Least_any (q.withA A c) W hat
        rw [show (q.withA A c).d.leastR = (0, 9) from e1] at this
        exact this))
      have HL2 := Lib.hid (fun A c W (hat : (xx.withA A c).At W W.heap.size) => (show Calls Try.prog 22 #[.agg (xx.withA A c).cells.toArray] W fun e w' => e = .returned (.tuple #[.int .i64 vb, .int .i64 9]) ∧ Below W.heap.size W w' by
        have := Least_any (xx.withA A c) W hat
        rw [show (xx.withA A c).d.leastR = (vb, 9) from (congrArg PoD.leastR HXD.out).trans e2] at this
        exact this))
      clear e1 e2
      have K131 := Lib.hid True.intro
      go_wp2_with (first
        | (have h := K131; clear h; refine wpList_load_row (o := ⟨some 131, _, _, _, _, _⟩) ?_ 26 (.tmp 4) ?_ w.heap.size ?_ 26 q.cells.toArray (0, 0) _ X8.out Try.underlying26 rfl size_rp ?_; rfl; rfl; rfl; have K132 := Lib.hid True.intro; clear K131)
        | (have h := K132; clear h; go_at_call 18; refine (Copy_any q _ (HAT.out.below W8.out W8.out.size) HL15.out).mono ?_; rintro e w9 ⟨A9, c9, rfl, hat9, hb9⟩; have T9 := Lib.hid hat9; have W9 := Lib.hid (W8.out.trans (hb9.mono W8.out.size)); have O9 := Lib.hid (O8.out.call hb9); have XA9 := Lib.hid (XA8.out.below hb9 hb9.size); clear hat9 hb9; have K133 := Lib.hid True.intro; clear K132)
        | (have h := K133; clear h; go_at_call 22; refine (HL1.out A9 c9 _ T9.out).mono ?_; rintro e w10 ⟨rfl, hb10⟩; have W10 := Lib.hid (W9.out.trans (hb10.mono W9.out.size)); have O10 := Lib.hid (O9.out.call hb10); have XA10 := Lib.hid (XA9.out.below hb10 hb10.size); clear hb10; have K137 := Lib.hid True.intro; clear K133)
        | (have h := K137; clear h; refine wpList_load_row (o := ⟨some 137, _, _, _, _, _⟩) ?_ 26 (.tmp 9) ?_ g9 ?_ 26 xx.cells.toArray (0, 0) _ O10.out Try.underlying26 rfl size_rp ?_; rfl; rfl; rfl; have K138 := Lib.hid True.intro; clear K137)
        | (have h := K138; clear h; go_at_call 18; refine (Copy_any xx _ XA10.out HXL.out).mono ?_; rintro e w11 ⟨A11, c11, rfl, hat11, hb11⟩; have T11 := Lib.hid hat11; have W11 := Lib.hid (W10.out.trans (hb11.mono W10.out.size)); clear hat11 hb11; have K139 := Lib.hid True.intro; clear K138)
        | (have h := K139; clear h; go_at_call 22; refine (HL2.out A11 c11 _ T11.out).mono ?_; rintro e w12 ⟨rfl, hb12⟩; have W12 := Lib.hid (W11.out.trans (hb12.mono W11.out.size)); clear hb12; have KW := Lib.hid True.intro; clear K139)
        | (have h := KW; clear h; go_at_call 16; refine (wakes_any _).mono ?_; rintro e w13 ⟨rfl, hb13⟩; clear KW))
      go_ret
      exact ⟨rfl, W12.out.trans (hb13.mono W12.out.size)⟩
  · have hw8 : IntKind.i64.wrap (q.inl + (n : Int)) = q.inl + (n : Int) := IntWalk.i64_in _ (by have := HOK.out.p0; have := HOK.out.p1; have := HOK.out.i0; have := HOK.out.i1; have := HOK.out.l0; have := HOK.out.l1; have := HOK.out.l2; simp only [PoM.d] at *; omega)
    have c63 : w7.cell? ⟨g9, 5, none⟩ = some (.int .i64 q.inl) := M7.out.o.at_ 5
    have f63 : w7.frozen? ⟨g9, 5, none⟩ = false := M7.out.o.free 5
    clear HR1
    go_upto_region 21 with (fail)
    have hon := Only.set g9 5 w7 (.int .i64 (min 20 (q.inl + (n : Int))))
    obtain ⟨xx, hxx⟩ : ∃ xx : PoM, xx = { q with inl := min 20 (q.inl + (n : Int)), ds := ⟨some ⟨b6, o6, none⟩, q.ds.l, c6⟩ } := ⟨_, rfl⟩
    have HXD := Lib.hid (show xx.d = q.d.eas 1 i (n : Int) by rw [hxx]; rfl)
    have O8 := Lib.hid (show Lies (w7.setCell ⟨g9, 5, none⟩ (.int .i64 (min 20 (q.inl + (n : Int))))) g9 26 xx.cells.toArray by rw [hxx]; exact M7.out.o.set 5 _)
    have X8 := Lib.hid (hon.lies M7.out.b (by have := M7.out.g; omega))
    have W8 := Lib.hid (hon.below M7.out.bw (by have := M7.out.g; omega))
    have XA8 := Lib.hid (show xx.At (w7.setCell ⟨g9, 5, none⟩ (.int .i64 (min 20 (q.inl + (n : Int))))) (w7.setCell ⟨g9, 5, none⟩ (.int .i64 (min 20 (q.inl + (n : Int))))).heap.size by
      rw [hxx, hon.size]; exact ⟨sl_only M7.out.s hon (by have := M7.out.g; omega), by have := HL15.out; show q.ds.l.length ≤ _; omega⟩)
    have HXL := Lib.hid (show xx.ds.l.length ≤ 15 by rw [hxx]; exact HL15.out)
    clear hxx hon c63 f63 hw8 M7
    generalize w7.setCell ⟨g9, 5, none⟩ (.int .i64 (min 20 (q.inl + (n : Int)))) = w8 at *
    have hle := (PoD.eas_ok HOK.out 1 i (n := (n : Int)) (by omega) (by omega)).2.least HOK.out (PoD.eas_ok HOK.out 1 i (n := (n : Int)) (by omega) (by omega)).1
    rcases hle with ⟨va, vb, e1, e2, hba⟩ | ⟨e1, vb, f, e2, rfl | rfl⟩
    · have HL1 := Lib.hid (fun A c W (hat : (q.withA A c).At W W.heap.size) => (show Calls Try.prog 22 #[.agg (q.withA A c).cells.toArray] W fun e w' => e = .returned (.tuple #[.int .i64 va, .int .i64 0]) ∧ Below W.heap.size W w' by
        have := Least_any (q.withA A c) W hat
        rw [show (q.withA A c).d.leastR = (va, 0) from e1] at this
        exact this))
      have HL2 := Lib.hid (fun A c W (hat : (xx.withA A c).At W W.heap.size) => (show Calls Try.prog 22 #[.agg (xx.withA A c).cells.toArray] W fun e w' => e = .returned (.tuple #[.int .i64 vb, .int .i64 0]) ∧ Below W.heap.size W w' by
        have := Least_any (xx.withA A c) W hat
        rw [show (xx.withA A c).d.leastR = (vb, 0) from (congrArg PoD.leastR HXD.out).trans e2] at this
        exact this))
      clear e1 e2
      have K131 := Lib.hid True.intro
      go_wp2_with (first
        | (have h := K131; clear h; refine wpList_load_row (o := ⟨some 131, _, _, _, _, _⟩) ?_ 26 (.tmp 4) ?_ w.heap.size ?_ 26 q.cells.toArray (0, 0) _ X8.out Try.underlying26 rfl size_rp ?_; rfl; rfl; rfl; have K132 := Lib.hid True.intro; clear K131)
        | (have h := K132; clear h; go_at_call 18; refine (Copy_any q _ (HAT.out.below W8.out W8.out.size) HL15.out).mono ?_; rintro e w9 ⟨A9, c9, rfl, hat9, hb9⟩; have T9 := Lib.hid hat9; have W9 := Lib.hid (W8.out.trans (hb9.mono W8.out.size)); have O9 := Lib.hid (O8.out.call hb9); have XA9 := Lib.hid (XA8.out.below hb9 hb9.size); clear hat9 hb9; have K133 := Lib.hid True.intro; clear K132)
        | (have h := K133; clear h; go_at_call 22; refine (HL1.out A9 c9 _ T9.out).mono ?_; rintro e w10 ⟨rfl, hb10⟩; have W10 := Lib.hid (W9.out.trans (hb10.mono W9.out.size)); have O10 := Lib.hid (O9.out.call hb10); have XA10 := Lib.hid (XA9.out.below hb10 hb10.size); clear hb10; have K137 := Lib.hid True.intro; clear K133)
        | (have h := K137; clear h; refine wpList_load_row (o := ⟨some 137, _, _, _, _, _⟩) ?_ 26 (.tmp 9) ?_ g9 ?_ 26 xx.cells.toArray (0, 0) _ O10.out Try.underlying26 rfl size_rp ?_; rfl; rfl; rfl; have K138 := Lib.hid True.intro; clear K137)
        | (have h := K138; clear h; go_at_call 18; refine (Copy_any xx _ XA10.out HXL.out).mono ?_; rintro e w11 ⟨A11, c11, rfl, hat11, hb11⟩; have T11 := Lib.hid hat11; have W11 := Lib.hid (W10.out.trans (hb11.mono W10.out.size)); clear hat11 hb11; have K139 := Lib.hid True.intro; clear K138)
        | (have h := K139; clear h; go_at_call 22; refine (HL2.out A11 c11 _ T11.out).mono ?_; rintro e w12 ⟨rfl, hb12⟩; have W12 := Lib.hid (W11.out.trans (hb12.mono W11.out.size)); clear hb12; have KW := Lib.hid True.intro; clear K139)
        | (have h := KW; clear h; go_at_call 16; refine (wakes_any _).mono ?_; rintro e w13 ⟨rfl, hb13⟩; clear KW))
      go_ret
      exact ⟨rfl, W12.out.trans (hb13.mono W12.out.size)⟩
    · have HL1 := Lib.hid (fun A c W (hat : (q.withA A c).At W W.heap.size) => (show Calls Try.prog 22 #[.agg (q.withA A c).cells.toArray] W fun e w' => e = .returned (.tuple #[.int .i64 0, .int .i64 9]) ∧ Below W.heap.size W w' by
        have := Least_any (q.withA A c) W hat
        rw [show (q.withA A c).d.leastR = (0, 9) from e1] at this
        exact this))
      have HL2 := Lib.hid (fun A c W (hat : (xx.withA A c).At W W.heap.size) => (show Calls Try.prog 22 #[.agg (xx.withA A c).cells.toArray] W fun e w' => e = .returned (.tuple #[.int .i64 vb, .int .i64 0]) ∧ Below W.heap.size W w' by
        have := Least_any (xx.withA A c) W hat
        rw [show (xx.withA A c).d.leastR = (vb, 0) from (congrArg PoD.leastR HXD.out).trans e2] at this
        exact this))
      clear e1 e2
      have K131 := Lib.hid True.intro
      go_wp2_with (first
        | (have h := K131; clear h; refine wpList_load_row (o := ⟨some 131, _, _, _, _, _⟩) ?_ 26 (.tmp 4) ?_ w.heap.size ?_ 26 q.cells.toArray (0, 0) _ X8.out Try.underlying26 rfl size_rp ?_; rfl; rfl; rfl; have K132 := Lib.hid True.intro; clear K131)
        | (have h := K132; clear h; go_at_call 18; refine (Copy_any q _ (HAT.out.below W8.out W8.out.size) HL15.out).mono ?_; rintro e w9 ⟨A9, c9, rfl, hat9, hb9⟩; have T9 := Lib.hid hat9; have W9 := Lib.hid (W8.out.trans (hb9.mono W8.out.size)); have O9 := Lib.hid (O8.out.call hb9); have XA9 := Lib.hid (XA8.out.below hb9 hb9.size); clear hat9 hb9; have K133 := Lib.hid True.intro; clear K132)
        | (have h := K133; clear h; go_at_call 22; refine (HL1.out A9 c9 _ T9.out).mono ?_; rintro e w10 ⟨rfl, hb10⟩; have W10 := Lib.hid (W9.out.trans (hb10.mono W9.out.size)); have O10 := Lib.hid (O9.out.call hb10); have XA10 := Lib.hid (XA9.out.below hb10 hb10.size); clear hb10; have K137 := Lib.hid True.intro; clear K133)
        | (have h := K137; clear h; refine wpList_load_row (o := ⟨some 137, _, _, _, _, _⟩) ?_ 26 (.tmp 9) ?_ g9 ?_ 26 xx.cells.toArray (0, 0) _ O10.out Try.underlying26 rfl size_rp ?_; rfl; rfl; rfl; have K138 := Lib.hid True.intro; clear K137)
        | (have h := K138; clear h; go_at_call 18; refine (Copy_any xx _ XA10.out HXL.out).mono ?_; rintro e w11 ⟨A11, c11, rfl, hat11, hb11⟩; have T11 := Lib.hid hat11; have W11 := Lib.hid (W10.out.trans (hb11.mono W10.out.size)); clear hat11 hb11; have K139 := Lib.hid True.intro; clear K138)
        | (have h := K139; clear h; go_at_call 22; refine (HL2.out A11 c11 _ T11.out).mono ?_; rintro e w12 ⟨rfl, hb12⟩; have W12 := Lib.hid (W11.out.trans (hb12.mono W11.out.size)); clear hb12; have KW := Lib.hid True.intro; clear K139)
        | (have h := KW; clear h; go_at_call 16; refine (wakes_any _).mono ?_; rintro e w13 ⟨rfl, hb13⟩; clear KW))
      go_ret
      exact ⟨rfl, W12.out.trans (hb13.mono W12.out.size)⟩
    · have HL1 := Lib.hid (fun A c W (hat : (q.withA A c).At W W.heap.size) => (show Calls Try.prog 22 #[.agg (q.withA A c).cells.toArray] W fun e w' => e = .returned (.tuple #[.int .i64 0, .int .i64 9]) ∧ Below W.heap.size W w' by
        have := Least_any (q.withA A c) W hat
        rw [show (q.withA A c).d.leastR = (0, 9) from e1] at this
        exact this))
      have HL2 := Lib.hid (fun A c W (hat : (xx.withA A c).At W W.heap.size) => (show Calls Try.prog 22 #[.agg (xx.withA A c).cells.toArray] W fun e w' => e = .returned (.tuple #[.int .i64 vb, .int .i64 9]) ∧ Below W.heap.size W w' by
        have := Least_any (xx.withA A c) W hat
        rw [show (xx.withA A c).d.leastR = (vb, 9) from (congrArg PoD.leastR HXD.out).trans e2] at this
        exact this))
      clear e1 e2
      have K131 := Lib.hid True.intro
      go_wp2_with (first
        | (have h := K131; clear h; refine wpList_load_row (o := ⟨some 131, _, _, _, _, _⟩) ?_ 26 (.tmp 4) ?_ w.heap.size ?_ 26 q.cells.toArray (0, 0) _ X8.out Try.underlying26 rfl size_rp ?_; rfl; rfl; rfl; have K132 := Lib.hid True.intro; clear K131)
        | (have h := K132; clear h; go_at_call 18; refine (Copy_any q _ (HAT.out.below W8.out W8.out.size) HL15.out).mono ?_; rintro e w9 ⟨A9, c9, rfl, hat9, hb9⟩; have T9 := Lib.hid hat9; have W9 := Lib.hid (W8.out.trans (hb9.mono W8.out.size)); have O9 := Lib.hid (O8.out.call hb9); have XA9 := Lib.hid (XA8.out.below hb9 hb9.size); clear hat9 hb9; have K133 := Lib.hid True.intro; clear K132)
        | (have h := K133; clear h; go_at_call 22; refine (HL1.out A9 c9 _ T9.out).mono ?_; rintro e w10 ⟨rfl, hb10⟩; have W10 := Lib.hid (W9.out.trans (hb10.mono W9.out.size)); have O10 := Lib.hid (O9.out.call hb10); have XA10 := Lib.hid (XA9.out.below hb10 hb10.size); clear hb10; have K137 := Lib.hid True.intro; clear K133)
        | (have h := K137; clear h; refine wpList_load_row (o := ⟨some 137, _, _, _, _, _⟩) ?_ 26 (.tmp 9) ?_ g9 ?_ 26 xx.cells.toArray (0, 0) _ O10.out Try.underlying26 rfl size_rp ?_; rfl; rfl; rfl; have K138 := Lib.hid True.intro; clear K137)
        | (have h := K138; clear h; go_at_call 18; refine (Copy_any xx _ XA10.out HXL.out).mono ?_; rintro e w11 ⟨A11, c11, rfl, hat11, hb11⟩; have T11 := Lib.hid hat11; have W11 := Lib.hid (W10.out.trans (hb11.mono W10.out.size)); clear hat11 hb11; have K139 := Lib.hid True.intro; clear K138)
        | (have h := K139; clear h; go_at_call 22; refine (HL2.out A11 c11 _ T11.out).mono ?_; rintro e w12 ⟨rfl, hb12⟩; have W12 := Lib.hid (W11.out.trans (hb12.mono W11.out.size)); clear hb12; have KW := Lib.hid True.intro; clear K139)
        | (have h := KW; clear h; go_at_call 16; refine (wakes_any _).mono ?_; rintro e w13 ⟨rfl, hb13⟩; clear KW))
      go_ret
      exact ⟨rfl, W12.out.trans (hb13.mono W12.out.size)⟩
  · have hw8 : IntKind.i64.wrap (q.low - (n : Int)) = q.low - (n : Int) := IntWalk.i64_in _ (by have := HOK.out.p0; have := HOK.out.p1; have := HOK.out.i0; have := HOK.out.i1; have := HOK.out.l0; have := HOK.out.l1; have := HOK.out.l2; simp only [PoM.d] at *; omega)
    have c63 : w7.cell? ⟨g9, 0, none⟩ = some (.int .i64 q.low) := M7.out.o.at_ 0
    have f63 : w7.frozen? ⟨g9, 0, none⟩ = false := M7.out.o.free 0
    clear HR1
    go_upto_region 21 with (fail)
    have hon := Only.set g9 0 w7 (.int .i64 (max 0 (q.low - (n : Int))))
    obtain ⟨xx, hxx⟩ : ∃ xx : PoM, xx = { q with low := max 0 (q.low - (n : Int)), ds := ⟨some ⟨b6, o6, none⟩, q.ds.l, c6⟩ } := ⟨_, rfl⟩
    have HXD := Lib.hid (show xx.d = q.d.eas 2 i (n : Int) by rw [hxx]; rfl)
    have O8 := Lib.hid (show Lies (w7.setCell ⟨g9, 0, none⟩ (.int .i64 (max 0 (q.low - (n : Int))))) g9 26 xx.cells.toArray by rw [hxx]; exact M7.out.o.set 0 _)
    have X8 := Lib.hid (hon.lies M7.out.b (by have := M7.out.g; omega))
    have W8 := Lib.hid (hon.below M7.out.bw (by have := M7.out.g; omega))
    have XA8 := Lib.hid (show xx.At (w7.setCell ⟨g9, 0, none⟩ (.int .i64 (max 0 (q.low - (n : Int))))) (w7.setCell ⟨g9, 0, none⟩ (.int .i64 (max 0 (q.low - (n : Int))))).heap.size by
      rw [hxx, hon.size]; exact ⟨sl_only M7.out.s hon (by have := M7.out.g; omega), by have := HL15.out; show q.ds.l.length ≤ _; omega⟩)
    have HXL := Lib.hid (show xx.ds.l.length ≤ 15 by rw [hxx]; exact HL15.out)
    clear hxx hon c63 f63 hw8 M7
    generalize w7.setCell ⟨g9, 0, none⟩ (.int .i64 (max 0 (q.low - (n : Int)))) = w8 at *
    have hle := (PoD.eas_ok HOK.out 2 i (n := (n : Int)) (by omega) (by omega)).2.least HOK.out (PoD.eas_ok HOK.out 2 i (n := (n : Int)) (by omega) (by omega)).1
    rcases hle with ⟨va, vb, e1, e2, hba⟩ | ⟨e1, vb, f, e2, rfl | rfl⟩
    · have HL1 := Lib.hid (fun A c W (hat : (q.withA A c).At W W.heap.size) => (show Calls Try.prog 22 #[.agg (q.withA A c).cells.toArray] W fun e w' => e = .returned (.tuple #[.int .i64 va, .int .i64 0]) ∧ Below W.heap.size W w' by
        have := Least_any (q.withA A c) W hat
        rw [show (q.withA A c).d.leastR = (va, 0) from e1] at this
        exact this))
      have HL2 := Lib.hid (fun A c W (hat : (xx.withA A c).At W W.heap.size) => (show Calls Try.prog 22 #[.agg (xx.withA A c).cells.toArray] W fun e w' => e = .returned (.tuple #[.int .i64 vb, .int .i64 0]) ∧ Below W.heap.size W w' by
        have := Least_any (xx.withA A c) W hat
        rw [show (xx.withA A c).d.leastR = (vb, 0) from (congrArg PoD.leastR HXD.out).trans e2] at this
        exact this))
      clear e1 e2
      have K131 := Lib.hid True.intro
      go_wp2_with (first
        | (have h := K131; clear h; refine wpList_load_row (o := ⟨some 131, _, _, _, _, _⟩) ?_ 26 (.tmp 4) ?_ w.heap.size ?_ 26 q.cells.toArray (0, 0) _ X8.out Try.underlying26 rfl size_rp ?_; rfl; rfl; rfl; have K132 := Lib.hid True.intro; clear K131)
        | (have h := K132; clear h; go_at_call 18; refine (Copy_any q _ (HAT.out.below W8.out W8.out.size) HL15.out).mono ?_; rintro e w9 ⟨A9, c9, rfl, hat9, hb9⟩; have T9 := Lib.hid hat9; have W9 := Lib.hid (W8.out.trans (hb9.mono W8.out.size)); have O9 := Lib.hid (O8.out.call hb9); have XA9 := Lib.hid (XA8.out.below hb9 hb9.size); clear hat9 hb9; have K133 := Lib.hid True.intro; clear K132)
        | (have h := K133; clear h; go_at_call 22; refine (HL1.out A9 c9 _ T9.out).mono ?_; rintro e w10 ⟨rfl, hb10⟩; have W10 := Lib.hid (W9.out.trans (hb10.mono W9.out.size)); have O10 := Lib.hid (O9.out.call hb10); have XA10 := Lib.hid (XA9.out.below hb10 hb10.size); clear hb10; have K137 := Lib.hid True.intro; clear K133)
        | (have h := K137; clear h; refine wpList_load_row (o := ⟨some 137, _, _, _, _, _⟩) ?_ 26 (.tmp 9) ?_ g9 ?_ 26 xx.cells.toArray (0, 0) _ O10.out Try.underlying26 rfl size_rp ?_; rfl; rfl; rfl; have K138 := Lib.hid True.intro; clear K137)
        | (have h := K138; clear h; go_at_call 18; refine (Copy_any xx _ XA10.out HXL.out).mono ?_; rintro e w11 ⟨A11, c11, rfl, hat11, hb11⟩; have T11 := Lib.hid hat11; have W11 := Lib.hid (W10.out.trans (hb11.mono W10.out.size)); clear hat11 hb11; have K139 := Lib.hid True.intro; clear K138)
        | (have h := K139; clear h; go_at_call 22; refine (HL2.out A11 c11 _ T11.out).mono ?_; rintro e w12 ⟨rfl, hb12⟩; have W12 := Lib.hid (W11.out.trans (hb12.mono W11.out.size)); clear hb12; have KW := Lib.hid True.intro; clear K139)
        | (have h := KW; clear h; go_at_call 16; refine (wakes_any _).mono ?_; rintro e w13 ⟨rfl, hb13⟩; clear KW))
      go_ret
      exact ⟨rfl, W12.out.trans (hb13.mono W12.out.size)⟩
    · have HL1 := Lib.hid (fun A c W (hat : (q.withA A c).At W W.heap.size) => (show Calls Try.prog 22 #[.agg (q.withA A c).cells.toArray] W fun e w' => e = .returned (.tuple #[.int .i64 0, .int .i64 9]) ∧ Below W.heap.size W w' by
        have := Least_any (q.withA A c) W hat
        rw [show (q.withA A c).d.leastR = (0, 9) from e1] at this
        exact this))
      have HL2 := Lib.hid (fun A c W (hat : (xx.withA A c).At W W.heap.size) => (show Calls Try.prog 22 #[.agg (xx.withA A c).cells.toArray] W fun e w' => e = .returned (.tuple #[.int .i64 vb, .int .i64 0]) ∧ Below W.heap.size W w' by
        have := Least_any (xx.withA A c) W hat
        rw [show (xx.withA A c).d.leastR = (vb, 0) from (congrArg PoD.leastR HXD.out).trans e2] at this
        exact this))
      clear e1 e2
      have K131 := Lib.hid True.intro
      go_wp2_with (first
        | (have h := K131; clear h; refine wpList_load_row (o := ⟨some 131, _, _, _, _, _⟩) ?_ 26 (.tmp 4) ?_ w.heap.size ?_ 26 q.cells.toArray (0, 0) _ X8.out Try.underlying26 rfl size_rp ?_; rfl; rfl; rfl; have K132 := Lib.hid True.intro; clear K131)
        | (have h := K132; clear h; go_at_call 18; refine (Copy_any q _ (HAT.out.below W8.out W8.out.size) HL15.out).mono ?_; rintro e w9 ⟨A9, c9, rfl, hat9, hb9⟩; have T9 := Lib.hid hat9; have W9 := Lib.hid (W8.out.trans (hb9.mono W8.out.size)); have O9 := Lib.hid (O8.out.call hb9); have XA9 := Lib.hid (XA8.out.below hb9 hb9.size); clear hat9 hb9; have K133 := Lib.hid True.intro; clear K132)
        | (have h := K133; clear h; go_at_call 22; refine (HL1.out A9 c9 _ T9.out).mono ?_; rintro e w10 ⟨rfl, hb10⟩; have W10 := Lib.hid (W9.out.trans (hb10.mono W9.out.size)); have O10 := Lib.hid (O9.out.call hb10); have XA10 := Lib.hid (XA9.out.below hb10 hb10.size); clear hb10; have K137 := Lib.hid True.intro; clear K133)
        | (have h := K137; clear h; refine wpList_load_row (o := ⟨some 137, _, _, _, _, _⟩) ?_ 26 (.tmp 9) ?_ g9 ?_ 26 xx.cells.toArray (0, 0) _ O10.out Try.underlying26 rfl size_rp ?_; rfl; rfl; rfl; have K138 := Lib.hid True.intro; clear K137)
        | (have h := K138; clear h; go_at_call 18; refine (Copy_any xx _ XA10.out HXL.out).mono ?_; rintro e w11 ⟨A11, c11, rfl, hat11, hb11⟩; have T11 := Lib.hid hat11; have W11 := Lib.hid (W10.out.trans (hb11.mono W10.out.size)); clear hat11 hb11; have K139 := Lib.hid True.intro; clear K138)
        | (have h := K139; clear h; go_at_call 22; refine (HL2.out A11 c11 _ T11.out).mono ?_; rintro e w12 ⟨rfl, hb12⟩; have W12 := Lib.hid (W11.out.trans (hb12.mono W11.out.size)); clear hb12; have KW := Lib.hid True.intro; clear K139)
        | (have h := KW; clear h; go_at_call 16; refine (wakes_any _).mono ?_; rintro e w13 ⟨rfl, hb13⟩; clear KW))
      go_ret
      exact ⟨rfl, W12.out.trans (hb13.mono W12.out.size)⟩
    · have HL1 := Lib.hid (fun A c W (hat : (q.withA A c).At W W.heap.size) => (show Calls Try.prog 22 #[.agg (q.withA A c).cells.toArray] W fun e w' => e = .returned (.tuple #[.int .i64 0, .int .i64 9]) ∧ Below W.heap.size W w' by
        have := Least_any (q.withA A c) W hat
        rw [show (q.withA A c).d.leastR = (0, 9) from e1] at this
        exact this))
      have HL2 := Lib.hid (fun A c W (hat : (xx.withA A c).At W W.heap.size) => (show Calls Try.prog 22 #[.agg (xx.withA A c).cells.toArray] W fun e w' => e = .returned (.tuple #[.int .i64 vb, .int .i64 9]) ∧ Below W.heap.size W w' by
        have := Least_any (xx.withA A c) W hat
        rw [show (xx.withA A c).d.leastR = (vb, 9) from (congrArg PoD.leastR HXD.out).trans e2] at this
        exact this))
      clear e1 e2
      have K131 := Lib.hid True.intro
      go_wp2_with (first
        | (have h := K131; clear h; refine wpList_load_row (o := ⟨some 131, _, _, _, _, _⟩) ?_ 26 (.tmp 4) ?_ w.heap.size ?_ 26 q.cells.toArray (0, 0) _ X8.out Try.underlying26 rfl size_rp ?_; rfl; rfl; rfl; have K132 := Lib.hid True.intro; clear K131)
        | (have h := K132; clear h; go_at_call 18; refine (Copy_any q _ (HAT.out.below W8.out W8.out.size) HL15.out).mono ?_; rintro e w9 ⟨A9, c9, rfl, hat9, hb9⟩; have T9 := Lib.hid hat9; have W9 := Lib.hid (W8.out.trans (hb9.mono W8.out.size)); have O9 := Lib.hid (O8.out.call hb9); have XA9 := Lib.hid (XA8.out.below hb9 hb9.size); clear hat9 hb9; have K133 := Lib.hid True.intro; clear K132)
        | (have h := K133; clear h; go_at_call 22; refine (HL1.out A9 c9 _ T9.out).mono ?_; rintro e w10 ⟨rfl, hb10⟩; have W10 := Lib.hid (W9.out.trans (hb10.mono W9.out.size)); have O10 := Lib.hid (O9.out.call hb10); have XA10 := Lib.hid (XA9.out.below hb10 hb10.size); clear hb10; have K137 := Lib.hid True.intro; clear K133)
        | (have h := K137; clear h; refine wpList_load_row (o := ⟨some 137, _, _, _, _, _⟩) ?_ 26 (.tmp 9) ?_ g9 ?_ 26 xx.cells.toArray (0, 0) _ O10.out Try.underlying26 rfl size_rp ?_; rfl; rfl; rfl; have K138 := Lib.hid True.intro; clear K137)
        | (have h := K138; clear h; go_at_call 18; refine (Copy_any xx _ XA10.out HXL.out).mono ?_; rintro e w11 ⟨A11, c11, rfl, hat11, hb11⟩; have T11 := Lib.hid hat11; have W11 := Lib.hid (W10.out.trans (hb11.mono W10.out.size)); clear hat11 hb11; have K139 := Lib.hid True.intro; clear K138)
        | (have h := K139; clear h; go_at_call 22; refine (HL2.out A11 c11 _ T11.out).mono ?_; rintro e w12 ⟨rfl, hb12⟩; have W12 := Lib.hid (W11.out.trans (hb12.mono W11.out.size)); clear hb12; have KW := Lib.hid True.intro; clear K139)
        | (have h := KW; clear h; go_at_call 16; refine (wakes_any _).mono ?_; rintro e w13 ⟨rfl, hb13⟩; clear KW))
      go_ret
      exact ⟨rfl, W12.out.trans (hb13.mono W12.out.size)⟩
  · have hw8 : IntKind.i64.wrap (q.high + (n : Int)) = q.high + (n : Int) := IntWalk.i64_in _ (by have := HOK.out.p0; have := HOK.out.p1; have := HOK.out.i0; have := HOK.out.i1; have := HOK.out.l0; have := HOK.out.l1; have := HOK.out.l2; simp only [PoM.d] at *; omega)
    have c63 : w7.cell? ⟨g9, 1, none⟩ = some (.int .i64 q.high) := M7.out.o.at_ 1
    have f63 : w7.frozen? ⟨g9, 1, none⟩ = false := M7.out.o.free 1
    clear HR1
    go_upto_region 21 with (fail)
    have hon := Only.set g9 1 w7 (.int .i64 (min 60 (q.high + (n : Int))))
    obtain ⟨xx, hxx⟩ : ∃ xx : PoM, xx = { q with high := min 60 (q.high + (n : Int)), ds := ⟨some ⟨b6, o6, none⟩, q.ds.l, c6⟩ } := ⟨_, rfl⟩
    have HXD := Lib.hid (show xx.d = q.d.eas 3 i (n : Int) by rw [hxx]; rfl)
    have O8 := Lib.hid (show Lies (w7.setCell ⟨g9, 1, none⟩ (.int .i64 (min 60 (q.high + (n : Int))))) g9 26 xx.cells.toArray by rw [hxx]; exact M7.out.o.set 1 _)
    have X8 := Lib.hid (hon.lies M7.out.b (by have := M7.out.g; omega))
    have W8 := Lib.hid (hon.below M7.out.bw (by have := M7.out.g; omega))
    have XA8 := Lib.hid (show xx.At (w7.setCell ⟨g9, 1, none⟩ (.int .i64 (min 60 (q.high + (n : Int))))) (w7.setCell ⟨g9, 1, none⟩ (.int .i64 (min 60 (q.high + (n : Int))))).heap.size by
      rw [hxx, hon.size]; exact ⟨sl_only M7.out.s hon (by have := M7.out.g; omega), by have := HL15.out; show q.ds.l.length ≤ _; omega⟩)
    have HXL := Lib.hid (show xx.ds.l.length ≤ 15 by rw [hxx]; exact HL15.out)
    clear hxx hon c63 f63 hw8 M7
    generalize w7.setCell ⟨g9, 1, none⟩ (.int .i64 (min 60 (q.high + (n : Int)))) = w8 at *
    have hle := (PoD.eas_ok HOK.out 3 i (n := (n : Int)) (by omega) (by omega)).2.least HOK.out (PoD.eas_ok HOK.out 3 i (n := (n : Int)) (by omega) (by omega)).1
    rcases hle with ⟨va, vb, e1, e2, hba⟩ | ⟨e1, vb, f, e2, rfl | rfl⟩
    · have HL1 := Lib.hid (fun A c W (hat : (q.withA A c).At W W.heap.size) => (show Calls Try.prog 22 #[.agg (q.withA A c).cells.toArray] W fun e w' => e = .returned (.tuple #[.int .i64 va, .int .i64 0]) ∧ Below W.heap.size W w' by
        have := Least_any (q.withA A c) W hat
        rw [show (q.withA A c).d.leastR = (va, 0) from e1] at this
        exact this))
      have HL2 := Lib.hid (fun A c W (hat : (xx.withA A c).At W W.heap.size) => (show Calls Try.prog 22 #[.agg (xx.withA A c).cells.toArray] W fun e w' => e = .returned (.tuple #[.int .i64 vb, .int .i64 0]) ∧ Below W.heap.size W w' by
        have := Least_any (xx.withA A c) W hat
        rw [show (xx.withA A c).d.leastR = (vb, 0) from (congrArg PoD.leastR HXD.out).trans e2] at this
        exact this))
      clear e1 e2
      have K131 := Lib.hid True.intro
      go_wp2_with (first
        | (have h := K131; clear h; refine wpList_load_row (o := ⟨some 131, _, _, _, _, _⟩) ?_ 26 (.tmp 4) ?_ w.heap.size ?_ 26 q.cells.toArray (0, 0) _ X8.out Try.underlying26 rfl size_rp ?_; rfl; rfl; rfl; have K132 := Lib.hid True.intro; clear K131)
        | (have h := K132; clear h; go_at_call 18; refine (Copy_any q _ (HAT.out.below W8.out W8.out.size) HL15.out).mono ?_; rintro e w9 ⟨A9, c9, rfl, hat9, hb9⟩; have T9 := Lib.hid hat9; have W9 := Lib.hid (W8.out.trans (hb9.mono W8.out.size)); have O9 := Lib.hid (O8.out.call hb9); have XA9 := Lib.hid (XA8.out.below hb9 hb9.size); clear hat9 hb9; have K133 := Lib.hid True.intro; clear K132)
        | (have h := K133; clear h; go_at_call 22; refine (HL1.out A9 c9 _ T9.out).mono ?_; rintro e w10 ⟨rfl, hb10⟩; have W10 := Lib.hid (W9.out.trans (hb10.mono W9.out.size)); have O10 := Lib.hid (O9.out.call hb10); have XA10 := Lib.hid (XA9.out.below hb10 hb10.size); clear hb10; have K137 := Lib.hid True.intro; clear K133)
        | (have h := K137; clear h; refine wpList_load_row (o := ⟨some 137, _, _, _, _, _⟩) ?_ 26 (.tmp 9) ?_ g9 ?_ 26 xx.cells.toArray (0, 0) _ O10.out Try.underlying26 rfl size_rp ?_; rfl; rfl; rfl; have K138 := Lib.hid True.intro; clear K137)
        | (have h := K138; clear h; go_at_call 18; refine (Copy_any xx _ XA10.out HXL.out).mono ?_; rintro e w11 ⟨A11, c11, rfl, hat11, hb11⟩; have T11 := Lib.hid hat11; have W11 := Lib.hid (W10.out.trans (hb11.mono W10.out.size)); clear hat11 hb11; have K139 := Lib.hid True.intro; clear K138)
        | (have h := K139; clear h; go_at_call 22; refine (HL2.out A11 c11 _ T11.out).mono ?_; rintro e w12 ⟨rfl, hb12⟩; have W12 := Lib.hid (W11.out.trans (hb12.mono W11.out.size)); clear hb12; have KW := Lib.hid True.intro; clear K139)
        | (have h := KW; clear h; go_at_call 16; refine (wakes_any _).mono ?_; rintro e w13 ⟨rfl, hb13⟩; clear KW))
      go_ret
      exact ⟨rfl, W12.out.trans (hb13.mono W12.out.size)⟩
    · have HL1 := Lib.hid (fun A c W (hat : (q.withA A c).At W W.heap.size) => (show Calls Try.prog 22 #[.agg (q.withA A c).cells.toArray] W fun e w' => e = .returned (.tuple #[.int .i64 0, .int .i64 9]) ∧ Below W.heap.size W w' by
        have := Least_any (q.withA A c) W hat
        rw [show (q.withA A c).d.leastR = (0, 9) from e1] at this
        exact this))
      have HL2 := Lib.hid (fun A c W (hat : (xx.withA A c).At W W.heap.size) => (show Calls Try.prog 22 #[.agg (xx.withA A c).cells.toArray] W fun e w' => e = .returned (.tuple #[.int .i64 vb, .int .i64 0]) ∧ Below W.heap.size W w' by
        have := Least_any (xx.withA A c) W hat
        rw [show (xx.withA A c).d.leastR = (vb, 0) from (congrArg PoD.leastR HXD.out).trans e2] at this
        exact this))
      clear e1 e2
      have K131 := Lib.hid True.intro
      go_wp2_with (first
        | (have h := K131; clear h; refine wpList_load_row (o := ⟨some 131, _, _, _, _, _⟩) ?_ 26 (.tmp 4) ?_ w.heap.size ?_ 26 q.cells.toArray (0, 0) _ X8.out Try.underlying26 rfl size_rp ?_; rfl; rfl; rfl; have K132 := Lib.hid True.intro; clear K131)
        | (have h := K132; clear h; go_at_call 18; refine (Copy_any q _ (HAT.out.below W8.out W8.out.size) HL15.out).mono ?_; rintro e w9 ⟨A9, c9, rfl, hat9, hb9⟩; have T9 := Lib.hid hat9; have W9 := Lib.hid (W8.out.trans (hb9.mono W8.out.size)); have O9 := Lib.hid (O8.out.call hb9); have XA9 := Lib.hid (XA8.out.below hb9 hb9.size); clear hat9 hb9; have K133 := Lib.hid True.intro; clear K132)
        | (have h := K133; clear h; go_at_call 22; refine (HL1.out A9 c9 _ T9.out).mono ?_; rintro e w10 ⟨rfl, hb10⟩; have W10 := Lib.hid (W9.out.trans (hb10.mono W9.out.size)); have O10 := Lib.hid (O9.out.call hb10); have XA10 := Lib.hid (XA9.out.below hb10 hb10.size); clear hb10; have K137 := Lib.hid True.intro; clear K133)
        | (have h := K137; clear h; refine wpList_load_row (o := ⟨some 137, _, _, _, _, _⟩) ?_ 26 (.tmp 9) ?_ g9 ?_ 26 xx.cells.toArray (0, 0) _ O10.out Try.underlying26 rfl size_rp ?_; rfl; rfl; rfl; have K138 := Lib.hid True.intro; clear K137)
        | (have h := K138; clear h; go_at_call 18; refine (Copy_any xx _ XA10.out HXL.out).mono ?_; rintro e w11 ⟨A11, c11, rfl, hat11, hb11⟩; have T11 := Lib.hid hat11; have W11 := Lib.hid (W10.out.trans (hb11.mono W10.out.size)); clear hat11 hb11; have K139 := Lib.hid True.intro; clear K138)
        | (have h := K139; clear h; go_at_call 22; refine (HL2.out A11 c11 _ T11.out).mono ?_; rintro e w12 ⟨rfl, hb12⟩; have W12 := Lib.hid (W11.out.trans (hb12.mono W11.out.size)); clear hb12; have KW := Lib.hid True.intro; clear K139)
        | (have h := KW; clear h; go_at_call 16; refine (wakes_any _).mono ?_; rintro e w13 ⟨rfl, hb13⟩; clear KW))
      go_ret
      exact ⟨rfl, W12.out.trans (hb13.mono W12.out.size)⟩
    · have HL1 := Lib.hid (fun A c W (hat : (q.withA A c).At W W.heap.size) => (show Calls Try.prog 22 #[.agg (q.withA A c).cells.toArray] W fun e w' => e = .returned (.tuple #[.int .i64 0, .int .i64 9]) ∧ Below W.heap.size W w' by
        have := Least_any (q.withA A c) W hat
        rw [show (q.withA A c).d.leastR = (0, 9) from e1] at this
        exact this))
      have HL2 := Lib.hid (fun A c W (hat : (xx.withA A c).At W W.heap.size) => (show Calls Try.prog 22 #[.agg (xx.withA A c).cells.toArray] W fun e w' => e = .returned (.tuple #[.int .i64 vb, .int .i64 9]) ∧ Below W.heap.size W w' by
        have := Least_any (xx.withA A c) W hat
        rw [show (xx.withA A c).d.leastR = (vb, 9) from (congrArg PoD.leastR HXD.out).trans e2] at this
        exact this))
      clear e1 e2
      have K131 := Lib.hid True.intro
      go_wp2_with (first
        | (have h := K131; clear h; refine wpList_load_row (o := ⟨some 131, _, _, _, _, _⟩) ?_ 26 (.tmp 4) ?_ w.heap.size ?_ 26 q.cells.toArray (0, 0) _ X8.out Try.underlying26 rfl size_rp ?_; rfl; rfl; rfl; have K132 := Lib.hid True.intro; clear K131)
        | (have h := K132; clear h; go_at_call 18; refine (Copy_any q _ (HAT.out.below W8.out W8.out.size) HL15.out).mono ?_; rintro e w9 ⟨A9, c9, rfl, hat9, hb9⟩; have T9 := Lib.hid hat9; have W9 := Lib.hid (W8.out.trans (hb9.mono W8.out.size)); have O9 := Lib.hid (O8.out.call hb9); have XA9 := Lib.hid (XA8.out.below hb9 hb9.size); clear hat9 hb9; have K133 := Lib.hid True.intro; clear K132)
        | (have h := K133; clear h; go_at_call 22; refine (HL1.out A9 c9 _ T9.out).mono ?_; rintro e w10 ⟨rfl, hb10⟩; have W10 := Lib.hid (W9.out.trans (hb10.mono W9.out.size)); have O10 := Lib.hid (O9.out.call hb10); have XA10 := Lib.hid (XA9.out.below hb10 hb10.size); clear hb10; have K137 := Lib.hid True.intro; clear K133)
        | (have h := K137; clear h; refine wpList_load_row (o := ⟨some 137, _, _, _, _, _⟩) ?_ 26 (.tmp 9) ?_ g9 ?_ 26 xx.cells.toArray (0, 0) _ O10.out Try.underlying26 rfl size_rp ?_; rfl; rfl; rfl; have K138 := Lib.hid True.intro; clear K137)
        | (have h := K138; clear h; go_at_call 18; refine (Copy_any xx _ XA10.out HXL.out).mono ?_; rintro e w11 ⟨A11, c11, rfl, hat11, hb11⟩; have T11 := Lib.hid hat11; have W11 := Lib.hid (W10.out.trans (hb11.mono W10.out.size)); clear hat11 hb11; have K139 := Lib.hid True.intro; clear K138)
        | (have h := K139; clear h; go_at_call 22; refine (HL2.out A11 c11 _ T11.out).mono ?_; rintro e w12 ⟨rfl, hb12⟩; have W12 := Lib.hid (W11.out.trans (hb12.mono W11.out.size)); clear hb12; have KW := Lib.hid True.intro; clear K139)
        | (have h := KW; clear h; go_at_call 16; refine (wakes_any _).mono ?_; rintro e w13 ⟨rfl, hb13⟩; clear KW))
      go_ret
      exact ⟨rfl, W12.out.trans (hb13.mono W12.out.size)⟩
  · obtain ⟨d, hd⟩ : ∃ d, q.ds.l[i]? = some d := ⟨q.ds.l[i]'HIL.out, by simp [HIL.out]⟩
    have hdk := HOK.out.d d (List.mem_of_getElem? hd)
    obtain ⟨d0, d1, d2, d3, d4, d5, d6, d7, d8⟩ := hdk
    have hw8 : IntKind.i64.wrap (d.lo + (n : Int)) = d.lo + (n : Int) := IntWalk.i64_in _ (by omega)
    obtain ⟨b', o', e', hb', hcc⟩ := M7.out.s HNE.out
    cases e'
    have r0 := cell_regrown (show w7.cell? ⟨b6, o6 + i * 5, none⟩ = some (.int .i64 d.lo) from hcc i d hd 0 _ rfl)
    have r1 := cell_regrown (show w7.cell? ⟨b6, o6 + i * 5 + 1, none⟩ = some (.int .i64 d.hi) from hcc i d hd 1 _ rfl)
    have HD := Lib.hid hd
    clear HR1 hb' hcc hd d0 d1 d2 d3 d4 d5 d6 d7 d8
    go_upto_region 18 with (fail)
    refine wp_region_tail 17 (by kernel_rfl) (by kernel_rfl) (by kernel_rfl) (by kernel_rfl) (by kernel_rfl) (by kernel_rfl) (by simp) ?_
    simp only [List.take_succ_cons, List.take_zero, List.drop_succ_cons, List.drop_zero]
    repeat (first | go_big_quiet_step (fail) | quiet_step (fail))
    refine wpQuiet_nil ?_
    intro wq hwq
    have hbq : Below w7.heap.size w7 wq := (by obtain ⟨q, rfl⟩ := hwq; exact below_regrown _ _ _)
    have MQ := Lib.hid (M7.out.call hbq)
    clear hwq r0 r1 hbq M7
    obtain ⟨b', o', e', hb', hcc⟩ := MQ.out.s HNE.out
    cases e'
    obtain ⟨cs, hcs⟩ := MQ.out.r
    have c0 : wq.cell? ⟨b6, o6 + i * 5, none⟩ = some (.int .i64 d.lo) := hcc i d HD.out 0 _ rfl
    have f0 : wq.frozen? ⟨b6, o6 + i * 5, none⟩ = false := hcs.free _
    have HCS := Lib.hid hcs
    clear hb' hcc hcs
    go_upto_region 21 with (fail)
    have hon := Only.set b6 (o6 + i * 5) wq (.int .i64 (min d.hi (d.lo + (n : Int))))
    obtain ⟨xx, hxx⟩ : ∃ xx : PoM, xx = { q with ds := ⟨some ⟨b6, o6, none⟩, q.ds.l.modify i fun d => { d with lo := min d.hi (d.lo + (n : Int)) }, c6⟩ } := ⟨_, rfl⟩
    have HXD := Lib.hid (show xx.d = q.d.eas 4 i (n : Int) by rw [hxx]; rfl)
    have O8 := Lib.hid (show Lies (wq.setCell ⟨b6, o6 + i * 5, none⟩ (.int .i64 (min d.hi (d.lo + (n : Int))))) g9 26 xx.cells.toArray by
      rw [hxx]
      have h := hon.lies MQ.out.o (by have := MQ.out.g; omega)
      have e : (q.ds.l.modify i fun d => { d with lo := min d.hi (d.lo + (n : Int)) }).length = q.ds.l.length := List.length_modify ..
      show Lies _ g9 _ (q.part (.slice (some ⟨b6, o6, none⟩) (q.ds.l.modify i fun d => { d with lo := min d.hi (d.lo + (n : Int)) }).length c6)).toArray
      rw [e]; exact h)
    have X8 := Lib.hid (hon.lies MQ.out.b (by have := MQ.out.g; omega))
    have W8 := Lib.hid (hon.below MQ.out.bw (by have := MQ.out.g; omega))
    have XA8 := Lib.hid (show xx.At (wq.setCell ⟨b6, o6 + i * 5, none⟩ (.int .i64 (min d.hi (d.lo + (n : Int))))) (wq.setCell ⟨b6, o6 + i * 5, none⟩ (.int .i64 (min d.hi (d.lo + (n : Int))))).heap.size by
      rw [hxx, hon.size]
      exact ⟨sl_setD (f := 0) (upd := fun d => { d with lo := min d.hi (d.lo + (n : Int)) }) MQ.out.s HCS.out HD.out (by omega) rfl, by have := HL15.out; show (q.ds.l.modify i _).length ≤ _; rw [List.length_modify]; omega⟩)
    have HXL := Lib.hid (show xx.ds.l.length ≤ 15 by rw [hxx]; show (q.ds.l.modify i _).length ≤ 15; rw [List.length_modify]; exact HL15.out)
    clear hxx hon c0 f0 hw8 MQ HCS
    generalize wq.setCell ⟨b6, o6 + i * 5, none⟩ (.int .i64 (min d.hi (d.lo + (n : Int)))) = w8 at *
    have hle := (PoD.eas_ok HOK.out 4 i (n := (n : Int)) (by omega) (by omega)).2.least HOK.out (PoD.eas_ok HOK.out 4 i (n := (n : Int)) (by omega) (by omega)).1
    rcases hle with ⟨va, vb, e1, e2, hba⟩ | ⟨e1, vb, f, e2, rfl | rfl⟩
    · have HL1 := Lib.hid (fun A c W (hat : (q.withA A c).At W W.heap.size) => (show Calls Try.prog 22 #[.agg (q.withA A c).cells.toArray] W fun e w' => e = .returned (.tuple #[.int .i64 va, .int .i64 0]) ∧ Below W.heap.size W w' by
        have := Least_any (q.withA A c) W hat
        rw [show (q.withA A c).d.leastR = (va, 0) from e1] at this
        exact this))
      have HL2 := Lib.hid (fun A c W (hat : (xx.withA A c).At W W.heap.size) => (show Calls Try.prog 22 #[.agg (xx.withA A c).cells.toArray] W fun e w' => e = .returned (.tuple #[.int .i64 vb, .int .i64 0]) ∧ Below W.heap.size W w' by
        have := Least_any (xx.withA A c) W hat
        rw [show (xx.withA A c).d.leastR = (vb, 0) from (congrArg PoD.leastR HXD.out).trans e2] at this
        exact this))
      clear e1 e2
      have K131 := Lib.hid True.intro
      go_wp2_with (first
        | (have h := K131; clear h; refine wpList_load_row (o := ⟨some 131, _, _, _, _, _⟩) ?_ 26 (.tmp 4) ?_ w.heap.size ?_ 26 q.cells.toArray (0, 0) _ X8.out Try.underlying26 rfl size_rp ?_; rfl; rfl; rfl; have K132 := Lib.hid True.intro; clear K131)
        | (have h := K132; clear h; go_at_call 18; refine (Copy_any q _ (HAT.out.below W8.out W8.out.size) HL15.out).mono ?_; rintro e w9 ⟨A9, c9, rfl, hat9, hb9⟩; have T9 := Lib.hid hat9; have W9 := Lib.hid (W8.out.trans (hb9.mono W8.out.size)); have O9 := Lib.hid (O8.out.call hb9); have XA9 := Lib.hid (XA8.out.below hb9 hb9.size); clear hat9 hb9; have K133 := Lib.hid True.intro; clear K132)
        | (have h := K133; clear h; go_at_call 22; refine (HL1.out A9 c9 _ T9.out).mono ?_; rintro e w10 ⟨rfl, hb10⟩; have W10 := Lib.hid (W9.out.trans (hb10.mono W9.out.size)); have O10 := Lib.hid (O9.out.call hb10); have XA10 := Lib.hid (XA9.out.below hb10 hb10.size); clear hb10; have K137 := Lib.hid True.intro; clear K133)
        | (have h := K137; clear h; refine wpList_load_row (o := ⟨some 137, _, _, _, _, _⟩) ?_ 26 (.tmp 9) ?_ g9 ?_ 26 xx.cells.toArray (0, 0) _ O10.out Try.underlying26 rfl size_rp ?_; rfl; rfl; rfl; have K138 := Lib.hid True.intro; clear K137)
        | (have h := K138; clear h; go_at_call 18; refine (Copy_any xx _ XA10.out HXL.out).mono ?_; rintro e w11 ⟨A11, c11, rfl, hat11, hb11⟩; have T11 := Lib.hid hat11; have W11 := Lib.hid (W10.out.trans (hb11.mono W10.out.size)); clear hat11 hb11; have K139 := Lib.hid True.intro; clear K138)
        | (have h := K139; clear h; go_at_call 22; refine (HL2.out A11 c11 _ T11.out).mono ?_; rintro e w12 ⟨rfl, hb12⟩; have W12 := Lib.hid (W11.out.trans (hb12.mono W11.out.size)); clear hb12; have KW := Lib.hid True.intro; clear K139)
        | (have h := KW; clear h; go_at_call 16; refine (wakes_any _).mono ?_; rintro e w13 ⟨rfl, hb13⟩; clear KW))
      go_ret
      exact ⟨rfl, W12.out.trans (hb13.mono W12.out.size)⟩
    · have HL1 := Lib.hid (fun A c W (hat : (q.withA A c).At W W.heap.size) => (show Calls Try.prog 22 #[.agg (q.withA A c).cells.toArray] W fun e w' => e = .returned (.tuple #[.int .i64 0, .int .i64 9]) ∧ Below W.heap.size W w' by
        have := Least_any (q.withA A c) W hat
        rw [show (q.withA A c).d.leastR = (0, 9) from e1] at this
        exact this))
      have HL2 := Lib.hid (fun A c W (hat : (xx.withA A c).At W W.heap.size) => (show Calls Try.prog 22 #[.agg (xx.withA A c).cells.toArray] W fun e w' => e = .returned (.tuple #[.int .i64 vb, .int .i64 0]) ∧ Below W.heap.size W w' by
        have := Least_any (xx.withA A c) W hat
        rw [show (xx.withA A c).d.leastR = (vb, 0) from (congrArg PoD.leastR HXD.out).trans e2] at this
        exact this))
      clear e1 e2
      have K131 := Lib.hid True.intro
      go_wp2_with (first
        | (have h := K131; clear h; refine wpList_load_row (o := ⟨some 131, _, _, _, _, _⟩) ?_ 26 (.tmp 4) ?_ w.heap.size ?_ 26 q.cells.toArray (0, 0) _ X8.out Try.underlying26 rfl size_rp ?_; rfl; rfl; rfl; have K132 := Lib.hid True.intro; clear K131)
        | (have h := K132; clear h; go_at_call 18; refine (Copy_any q _ (HAT.out.below W8.out W8.out.size) HL15.out).mono ?_; rintro e w9 ⟨A9, c9, rfl, hat9, hb9⟩; have T9 := Lib.hid hat9; have W9 := Lib.hid (W8.out.trans (hb9.mono W8.out.size)); have O9 := Lib.hid (O8.out.call hb9); have XA9 := Lib.hid (XA8.out.below hb9 hb9.size); clear hat9 hb9; have K133 := Lib.hid True.intro; clear K132)
        | (have h := K133; clear h; go_at_call 22; refine (HL1.out A9 c9 _ T9.out).mono ?_; rintro e w10 ⟨rfl, hb10⟩; have W10 := Lib.hid (W9.out.trans (hb10.mono W9.out.size)); have O10 := Lib.hid (O9.out.call hb10); have XA10 := Lib.hid (XA9.out.below hb10 hb10.size); clear hb10; have K137 := Lib.hid True.intro; clear K133)
        | (have h := K137; clear h; refine wpList_load_row (o := ⟨some 137, _, _, _, _, _⟩) ?_ 26 (.tmp 9) ?_ g9 ?_ 26 xx.cells.toArray (0, 0) _ O10.out Try.underlying26 rfl size_rp ?_; rfl; rfl; rfl; have K138 := Lib.hid True.intro; clear K137)
        | (have h := K138; clear h; go_at_call 18; refine (Copy_any xx _ XA10.out HXL.out).mono ?_; rintro e w11 ⟨A11, c11, rfl, hat11, hb11⟩; have T11 := Lib.hid hat11; have W11 := Lib.hid (W10.out.trans (hb11.mono W10.out.size)); clear hat11 hb11; have K139 := Lib.hid True.intro; clear K138)
        | (have h := K139; clear h; go_at_call 22; refine (HL2.out A11 c11 _ T11.out).mono ?_; rintro e w12 ⟨rfl, hb12⟩; have W12 := Lib.hid (W11.out.trans (hb12.mono W11.out.size)); clear hb12; have KW := Lib.hid True.intro; clear K139)
        | (have h := KW; clear h; go_at_call 16; refine (wakes_any _).mono ?_; rintro e w13 ⟨rfl, hb13⟩; clear KW))
      go_ret
      exact ⟨rfl, W12.out.trans (hb13.mono W12.out.size)⟩
    · have HL1 := Lib.hid (fun A c W (hat : (q.withA A c).At W W.heap.size) => (show Calls Try.prog 22 #[.agg (q.withA A c).cells.toArray] W fun e w' => e = .returned (.tuple #[.int .i64 0, .int .i64 9]) ∧ Below W.heap.size W w' by
        have := Least_any (q.withA A c) W hat
        rw [show (q.withA A c).d.leastR = (0, 9) from e1] at this
        exact this))
      have HL2 := Lib.hid (fun A c W (hat : (xx.withA A c).At W W.heap.size) => (show Calls Try.prog 22 #[.agg (xx.withA A c).cells.toArray] W fun e w' => e = .returned (.tuple #[.int .i64 vb, .int .i64 9]) ∧ Below W.heap.size W w' by
        have := Least_any (xx.withA A c) W hat
        rw [show (xx.withA A c).d.leastR = (vb, 9) from (congrArg PoD.leastR HXD.out).trans e2] at this
        exact this))
      clear e1 e2
      have K131 := Lib.hid True.intro
      go_wp2_with (first
        | (have h := K131; clear h; refine wpList_load_row (o := ⟨some 131, _, _, _, _, _⟩) ?_ 26 (.tmp 4) ?_ w.heap.size ?_ 26 q.cells.toArray (0, 0) _ X8.out Try.underlying26 rfl size_rp ?_; rfl; rfl; rfl; have K132 := Lib.hid True.intro; clear K131)
        | (have h := K132; clear h; go_at_call 18; refine (Copy_any q _ (HAT.out.below W8.out W8.out.size) HL15.out).mono ?_; rintro e w9 ⟨A9, c9, rfl, hat9, hb9⟩; have T9 := Lib.hid hat9; have W9 := Lib.hid (W8.out.trans (hb9.mono W8.out.size)); have O9 := Lib.hid (O8.out.call hb9); have XA9 := Lib.hid (XA8.out.below hb9 hb9.size); clear hat9 hb9; have K133 := Lib.hid True.intro; clear K132)
        | (have h := K133; clear h; go_at_call 22; refine (HL1.out A9 c9 _ T9.out).mono ?_; rintro e w10 ⟨rfl, hb10⟩; have W10 := Lib.hid (W9.out.trans (hb10.mono W9.out.size)); have O10 := Lib.hid (O9.out.call hb10); have XA10 := Lib.hid (XA9.out.below hb10 hb10.size); clear hb10; have K137 := Lib.hid True.intro; clear K133)
        | (have h := K137; clear h; refine wpList_load_row (o := ⟨some 137, _, _, _, _, _⟩) ?_ 26 (.tmp 9) ?_ g9 ?_ 26 xx.cells.toArray (0, 0) _ O10.out Try.underlying26 rfl size_rp ?_; rfl; rfl; rfl; have K138 := Lib.hid True.intro; clear K137)
        | (have h := K138; clear h; go_at_call 18; refine (Copy_any xx _ XA10.out HXL.out).mono ?_; rintro e w11 ⟨A11, c11, rfl, hat11, hb11⟩; have T11 := Lib.hid hat11; have W11 := Lib.hid (W10.out.trans (hb11.mono W10.out.size)); clear hat11 hb11; have K139 := Lib.hid True.intro; clear K138)
        | (have h := K139; clear h; go_at_call 22; refine (HL2.out A11 c11 _ T11.out).mono ?_; rintro e w12 ⟨rfl, hb12⟩; have W12 := Lib.hid (W11.out.trans (hb12.mono W11.out.size)); clear hb12; have KW := Lib.hid True.intro; clear K139)
        | (have h := KW; clear h; go_at_call 16; refine (wakes_any _).mono ?_; rintro e w13 ⟨rfl, hb13⟩; clear KW))
      go_ret
      exact ⟨rfl, W12.out.trans (hb13.mono W12.out.size)⟩
  · obtain ⟨d, hd⟩ : ∃ d, q.ds.l[i]? = some d := ⟨q.ds.l[i]'HIL.out, by simp [HIL.out]⟩
    have hdk := HOK.out.d d (List.mem_of_getElem? hd)
    obtain ⟨d0, d1, d2, d3, d4, d5, d6, d7, d8⟩ := hdk
    have hw8 : IntKind.i64.wrap (d.hi - (n : Int)) = d.hi - (n : Int) := IntWalk.i64_in _ (by omega)
    obtain ⟨b', o', e', hb', hcc⟩ := M7.out.s HNE.out
    cases e'
    have r0 := cell_regrown (show w7.cell? ⟨b6, o6 + i * 5, none⟩ = some (.int .i64 d.lo) from hcc i d hd 0 _ rfl)
    have r1 := cell_regrown (show w7.cell? ⟨b6, o6 + i * 5 + 1, none⟩ = some (.int .i64 d.hi) from hcc i d hd 1 _ rfl)
    have HD := Lib.hid hd
    clear HR1 hb' hcc hd d0 d1 d2 d3 d4 d5 d6 d7 d8
    go_upto_region 20 with (fail)
    refine wp_region_tail 17 (by kernel_rfl) (by kernel_rfl) (by kernel_rfl) (by kernel_rfl) (by kernel_rfl) (by kernel_rfl) (by simp) ?_
    simp only [List.take_succ_cons, List.take_zero, List.drop_succ_cons, List.drop_zero]
    repeat (first | go_big_quiet_step (fail) | quiet_step (fail))
    refine wpQuiet_nil ?_
    intro wq hwq
    have hbq : Below w7.heap.size w7 wq := (by obtain ⟨q, rfl⟩ := hwq; exact below_regrown _ _ _)
    have MQ := Lib.hid (M7.out.call hbq)
    clear hwq r0 r1 hbq M7
    obtain ⟨b', o', e', hb', hcc⟩ := MQ.out.s HNE.out
    cases e'
    obtain ⟨cs, hcs⟩ := MQ.out.r
    have c0 : wq.cell? ⟨b6, o6 + i * 5 + 1, none⟩ = some (.int .i64 d.hi) := hcc i d HD.out 1 _ rfl
    have f0 : wq.frozen? ⟨b6, o6 + i * 5 + 1, none⟩ = false := hcs.free _
    have HCS := Lib.hid hcs
    clear hb' hcc hcs
    go_upto_region 21 with (fail)
    have hon := Only.set b6 (o6 + i * 5 + 1) wq (.int .i64 (max d.lo (d.hi - (n : Int))))
    obtain ⟨xx, hxx⟩ : ∃ xx : PoM, xx = { q with ds := ⟨some ⟨b6, o6, none⟩, q.ds.l.modify i fun d => { d with hi := max d.lo (d.hi - (n : Int)) }, c6⟩ } := ⟨_, rfl⟩
    have HXD := Lib.hid (show xx.d = q.d.eas 5 i (n : Int) by rw [hxx]; rfl)
    have O8 := Lib.hid (show Lies (wq.setCell ⟨b6, o6 + i * 5 + 1, none⟩ (.int .i64 (max d.lo (d.hi - (n : Int))))) g9 26 xx.cells.toArray by
      rw [hxx]
      have h := hon.lies MQ.out.o (by have := MQ.out.g; omega)
      have e : (q.ds.l.modify i fun d => { d with hi := max d.lo (d.hi - (n : Int)) }).length = q.ds.l.length := List.length_modify ..
      show Lies _ g9 _ (q.part (.slice (some ⟨b6, o6, none⟩) (q.ds.l.modify i fun d => { d with hi := max d.lo (d.hi - (n : Int)) }).length c6)).toArray
      rw [e]; exact h)
    have X8 := Lib.hid (hon.lies MQ.out.b (by have := MQ.out.g; omega))
    have W8 := Lib.hid (hon.below MQ.out.bw (by have := MQ.out.g; omega))
    have XA8 := Lib.hid (show xx.At (wq.setCell ⟨b6, o6 + i * 5 + 1, none⟩ (.int .i64 (max d.lo (d.hi - (n : Int))))) (wq.setCell ⟨b6, o6 + i * 5 + 1, none⟩ (.int .i64 (max d.lo (d.hi - (n : Int))))).heap.size by
      rw [hxx, hon.size]
      exact ⟨sl_setD (f := 1) (upd := fun d => { d with hi := max d.lo (d.hi - (n : Int)) }) MQ.out.s HCS.out HD.out (by omega) rfl, by have := HL15.out; show (q.ds.l.modify i _).length ≤ _; rw [List.length_modify]; omega⟩)
    have HXL := Lib.hid (show xx.ds.l.length ≤ 15 by rw [hxx]; show (q.ds.l.modify i _).length ≤ 15; rw [List.length_modify]; exact HL15.out)
    clear hxx hon c0 f0 hw8 MQ HCS
    generalize wq.setCell ⟨b6, o6 + i * 5 + 1, none⟩ (.int .i64 (max d.lo (d.hi - (n : Int)))) = w8 at *
    have hle := (PoD.eas_ok HOK.out 5 i (n := (n : Int)) (by omega) (by omega)).2.least HOK.out (PoD.eas_ok HOK.out 5 i (n := (n : Int)) (by omega) (by omega)).1
    rcases hle with ⟨va, vb, e1, e2, hba⟩ | ⟨e1, vb, f, e2, rfl | rfl⟩
    · have HL1 := Lib.hid (fun A c W (hat : (q.withA A c).At W W.heap.size) => (show Calls Try.prog 22 #[.agg (q.withA A c).cells.toArray] W fun e w' => e = .returned (.tuple #[.int .i64 va, .int .i64 0]) ∧ Below W.heap.size W w' by
        have := Least_any (q.withA A c) W hat
        rw [show (q.withA A c).d.leastR = (va, 0) from e1] at this
        exact this))
      have HL2 := Lib.hid (fun A c W (hat : (xx.withA A c).At W W.heap.size) => (show Calls Try.prog 22 #[.agg (xx.withA A c).cells.toArray] W fun e w' => e = .returned (.tuple #[.int .i64 vb, .int .i64 0]) ∧ Below W.heap.size W w' by
        have := Least_any (xx.withA A c) W hat
        rw [show (xx.withA A c).d.leastR = (vb, 0) from (congrArg PoD.leastR HXD.out).trans e2] at this
        exact this))
      clear e1 e2
      have K131 := Lib.hid True.intro
      go_wp2_with (first
        | (have h := K131; clear h; refine wpList_load_row (o := ⟨some 131, _, _, _, _, _⟩) ?_ 26 (.tmp 4) ?_ w.heap.size ?_ 26 q.cells.toArray (0, 0) _ X8.out Try.underlying26 rfl size_rp ?_; rfl; rfl; rfl; have K132 := Lib.hid True.intro; clear K131)
        | (have h := K132; clear h; go_at_call 18; refine (Copy_any q _ (HAT.out.below W8.out W8.out.size) HL15.out).mono ?_; rintro e w9 ⟨A9, c9, rfl, hat9, hb9⟩; have T9 := Lib.hid hat9; have W9 := Lib.hid (W8.out.trans (hb9.mono W8.out.size)); have O9 := Lib.hid (O8.out.call hb9); have XA9 := Lib.hid (XA8.out.below hb9 hb9.size); clear hat9 hb9; have K133 := Lib.hid True.intro; clear K132)
        | (have h := K133; clear h; go_at_call 22; refine (HL1.out A9 c9 _ T9.out).mono ?_; rintro e w10 ⟨rfl, hb10⟩; have W10 := Lib.hid (W9.out.trans (hb10.mono W9.out.size)); have O10 := Lib.hid (O9.out.call hb10); have XA10 := Lib.hid (XA9.out.below hb10 hb10.size); clear hb10; have K137 := Lib.hid True.intro; clear K133)
        | (have h := K137; clear h; refine wpList_load_row (o := ⟨some 137, _, _, _, _, _⟩) ?_ 26 (.tmp 9) ?_ g9 ?_ 26 xx.cells.toArray (0, 0) _ O10.out Try.underlying26 rfl size_rp ?_; rfl; rfl; rfl; have K138 := Lib.hid True.intro; clear K137)
        | (have h := K138; clear h; go_at_call 18; refine (Copy_any xx _ XA10.out HXL.out).mono ?_; rintro e w11 ⟨A11, c11, rfl, hat11, hb11⟩; have T11 := Lib.hid hat11; have W11 := Lib.hid (W10.out.trans (hb11.mono W10.out.size)); clear hat11 hb11; have K139 := Lib.hid True.intro; clear K138)
        | (have h := K139; clear h; go_at_call 22; refine (HL2.out A11 c11 _ T11.out).mono ?_; rintro e w12 ⟨rfl, hb12⟩; have W12 := Lib.hid (W11.out.trans (hb12.mono W11.out.size)); clear hb12; have KW := Lib.hid True.intro; clear K139)
        | (have h := KW; clear h; go_at_call 16; refine (wakes_any _).mono ?_; rintro e w13 ⟨rfl, hb13⟩; clear KW))
      go_ret
      exact ⟨rfl, W12.out.trans (hb13.mono W12.out.size)⟩
    · have HL1 := Lib.hid (fun A c W (hat : (q.withA A c).At W W.heap.size) => (show Calls Try.prog 22 #[.agg (q.withA A c).cells.toArray] W fun e w' => e = .returned (.tuple #[.int .i64 0, .int .i64 9]) ∧ Below W.heap.size W w' by
        have := Least_any (q.withA A c) W hat
        rw [show (q.withA A c).d.leastR = (0, 9) from e1] at this
        exact this))
      have HL2 := Lib.hid (fun A c W (hat : (xx.withA A c).At W W.heap.size) => (show Calls Try.prog 22 #[.agg (xx.withA A c).cells.toArray] W fun e w' => e = .returned (.tuple #[.int .i64 vb, .int .i64 0]) ∧ Below W.heap.size W w' by
        have := Least_any (xx.withA A c) W hat
        rw [show (xx.withA A c).d.leastR = (vb, 0) from (congrArg PoD.leastR HXD.out).trans e2] at this
        exact this))
      clear e1 e2
      have K131 := Lib.hid True.intro
      go_wp2_with (first
        | (have h := K131; clear h; refine wpList_load_row (o := ⟨some 131, _, _, _, _, _⟩) ?_ 26 (.tmp 4) ?_ w.heap.size ?_ 26 q.cells.toArray (0, 0) _ X8.out Try.underlying26 rfl size_rp ?_; rfl; rfl; rfl; have K132 := Lib.hid True.intro; clear K131)
        | (have h := K132; clear h; go_at_call 18; refine (Copy_any q _ (HAT.out.below W8.out W8.out.size) HL15.out).mono ?_; rintro e w9 ⟨A9, c9, rfl, hat9, hb9⟩; have T9 := Lib.hid hat9; have W9 := Lib.hid (W8.out.trans (hb9.mono W8.out.size)); have O9 := Lib.hid (O8.out.call hb9); have XA9 := Lib.hid (XA8.out.below hb9 hb9.size); clear hat9 hb9; have K133 := Lib.hid True.intro; clear K132)
        | (have h := K133; clear h; go_at_call 22; refine (HL1.out A9 c9 _ T9.out).mono ?_; rintro e w10 ⟨rfl, hb10⟩; have W10 := Lib.hid (W9.out.trans (hb10.mono W9.out.size)); have O10 := Lib.hid (O9.out.call hb10); have XA10 := Lib.hid (XA9.out.below hb10 hb10.size); clear hb10; have K137 := Lib.hid True.intro; clear K133)
        | (have h := K137; clear h; refine wpList_load_row (o := ⟨some 137, _, _, _, _, _⟩) ?_ 26 (.tmp 9) ?_ g9 ?_ 26 xx.cells.toArray (0, 0) _ O10.out Try.underlying26 rfl size_rp ?_; rfl; rfl; rfl; have K138 := Lib.hid True.intro; clear K137)
        | (have h := K138; clear h; go_at_call 18; refine (Copy_any xx _ XA10.out HXL.out).mono ?_; rintro e w11 ⟨A11, c11, rfl, hat11, hb11⟩; have T11 := Lib.hid hat11; have W11 := Lib.hid (W10.out.trans (hb11.mono W10.out.size)); clear hat11 hb11; have K139 := Lib.hid True.intro; clear K138)
        | (have h := K139; clear h; go_at_call 22; refine (HL2.out A11 c11 _ T11.out).mono ?_; rintro e w12 ⟨rfl, hb12⟩; have W12 := Lib.hid (W11.out.trans (hb12.mono W11.out.size)); clear hb12; have KW := Lib.hid True.intro; clear K139)
        | (have h := KW; clear h; go_at_call 16; refine (wakes_any _).mono ?_; rintro e w13 ⟨rfl, hb13⟩; clear KW))
      go_ret
      exact ⟨rfl, W12.out.trans (hb13.mono W12.out.size)⟩
    · have HL1 := Lib.hid (fun A c W (hat : (q.withA A c).At W W.heap.size) => (show Calls Try.prog 22 #[.agg (q.withA A c).cells.toArray] W fun e w' => e = .returned (.tuple #[.int .i64 0, .int .i64 9]) ∧ Below W.heap.size W w' by
        have := Least_any (q.withA A c) W hat
        rw [show (q.withA A c).d.leastR = (0, 9) from e1] at this
        exact this))
      have HL2 := Lib.hid (fun A c W (hat : (xx.withA A c).At W W.heap.size) => (show Calls Try.prog 22 #[.agg (xx.withA A c).cells.toArray] W fun e w' => e = .returned (.tuple #[.int .i64 vb, .int .i64 9]) ∧ Below W.heap.size W w' by
        have := Least_any (xx.withA A c) W hat
        rw [show (xx.withA A c).d.leastR = (vb, 9) from (congrArg PoD.leastR HXD.out).trans e2] at this
        exact this))
      clear e1 e2
      have K131 := Lib.hid True.intro
      go_wp2_with (first
        | (have h := K131; clear h; refine wpList_load_row (o := ⟨some 131, _, _, _, _, _⟩) ?_ 26 (.tmp 4) ?_ w.heap.size ?_ 26 q.cells.toArray (0, 0) _ X8.out Try.underlying26 rfl size_rp ?_; rfl; rfl; rfl; have K132 := Lib.hid True.intro; clear K131)
        | (have h := K132; clear h; go_at_call 18; refine (Copy_any q _ (HAT.out.below W8.out W8.out.size) HL15.out).mono ?_; rintro e w9 ⟨A9, c9, rfl, hat9, hb9⟩; have T9 := Lib.hid hat9; have W9 := Lib.hid (W8.out.trans (hb9.mono W8.out.size)); have O9 := Lib.hid (O8.out.call hb9); have XA9 := Lib.hid (XA8.out.below hb9 hb9.size); clear hat9 hb9; have K133 := Lib.hid True.intro; clear K132)
        | (have h := K133; clear h; go_at_call 22; refine (HL1.out A9 c9 _ T9.out).mono ?_; rintro e w10 ⟨rfl, hb10⟩; have W10 := Lib.hid (W9.out.trans (hb10.mono W9.out.size)); have O10 := Lib.hid (O9.out.call hb10); have XA10 := Lib.hid (XA9.out.below hb10 hb10.size); clear hb10; have K137 := Lib.hid True.intro; clear K133)
        | (have h := K137; clear h; refine wpList_load_row (o := ⟨some 137, _, _, _, _, _⟩) ?_ 26 (.tmp 9) ?_ g9 ?_ 26 xx.cells.toArray (0, 0) _ O10.out Try.underlying26 rfl size_rp ?_; rfl; rfl; rfl; have K138 := Lib.hid True.intro; clear K137)
        | (have h := K138; clear h; go_at_call 18; refine (Copy_any xx _ XA10.out HXL.out).mono ?_; rintro e w11 ⟨A11, c11, rfl, hat11, hb11⟩; have T11 := Lib.hid hat11; have W11 := Lib.hid (W10.out.trans (hb11.mono W10.out.size)); clear hat11 hb11; have K139 := Lib.hid True.intro; clear K138)
        | (have h := K139; clear h; go_at_call 22; refine (HL2.out A11 c11 _ T11.out).mono ?_; rintro e w12 ⟨rfl, hb12⟩; have W12 := Lib.hid (W11.out.trans (hb12.mono W11.out.size)); clear hb12; have KW := Lib.hid True.intro; clear K139)
        | (have h := KW; clear h; go_at_call 16; refine (wakes_any _).mono ?_; rintro e w13 ⟨rfl, hb13⟩; clear KW))
      go_ret
      exact ⟨rfl, W12.out.trans (hb13.mono W12.out.size)⟩
  · obtain ⟨d, hd⟩ : ∃ d, q.ds.l[i]? = some d := ⟨q.ds.l[i]'HIL.out, by simp [HIL.out]⟩
    have hdk := HOK.out.d d (List.mem_of_getElem? hd)
    obtain ⟨d0, d1, d2, d3, d4, d5, d6, d7, d8⟩ := hdk
    have hw8 : IntKind.i64.wrap (d.ou - (n : Int)) = d.ou - (n : Int) := IntWalk.i64_in _ (by omega)
    have hw9 : IntKind.i64.wrap (d.inn - (n : Int)) = d.inn - (n : Int) := IntWalk.i64_in _ (by omega)
    obtain ⟨b', o', e', hb', hcc⟩ := M7.out.s HNE.out
    cases e'
    obtain ⟨cs, hcs⟩ := M7.out.r
    have c45 : w7.cell? ⟨b6, o6 + i * 5 + 3, none⟩ = some (.int .i64 d.ou) := hcc i d hd 3 _ rfl
    have c52 : w7.cell? ⟨b6, o6 + i * 5 + 4, none⟩ = some (.int .i64 d.inn) := hcc i d hd 4 _ rfl
    have f45 : w7.frozen? ⟨b6, o6 + i * 5 + 3, none⟩ = false := hcs.free _
    have f52 : w7.frozen? ⟨b6, o6 + i * 5 + 4, none⟩ = false := hcs.free _
    have HD := Lib.hid hd
    have HCS := Lib.hid hcs
    have HBD := Lib.hid (show (0 ≤ d.ou ∧ d.ou ≤ 100) ∧ 0 ≤ d.inn ∧ d.inn ≤ 100 from ⟨⟨d5, d6⟩, d7, d8⟩)
    clear HR1 hb' hcc hcs hd d0 d1 d2 d3 d4 d5 d6 d7 d8
    go_upto_region 8 with (fail)
    clear hi hn hz hil hl15 hN0 hNz hilz hi0 hwx hwy
    go_region
    have e8 : wrap64 (d.ou - (y : Int) % 6) = d.ou - (n : Int) := by rw [HN.out]; obtain ⟨⟨q1, q2⟩, q3, q4⟩ := HBD.out; unfold RowKit.wrap64; omega
    have e9 : wrap64 (d.inn - (y : Int) % 6) = d.inn - (n : Int) := by rw [HN.out]; obtain ⟨⟨q1, q2⟩, q3, q4⟩ := HBD.out; unfold RowKit.wrap64; omega
    rw [e8, e9]
    have hon1 := Only.set b6 (o6 + i * 5 + 3) w7 (.int .i64 (max 0 (d.ou - (n : Int))))
    have hon2 := Only.set b6 (o6 + i * 5 + 4) (w7.setCell ⟨b6, o6 + i * 5 + 3, none⟩ (.int .i64 (max 0 (d.ou - (n : Int))))) (.int .i64 (max 0 (d.inn - (n : Int))))
    have hon0 := hon1.trans hon2
    have hon : Only b6 w7 ((w7.setCell ⟨b6, o6 + i * 5 + 3, none⟩ (.int .i64 (max 0 (d.ou - (n : Int))))).setCell ⟨b6, o6 + i * 5 + 4, none⟩ (.int .i64 (max 0 (d.inn - (n : Int))))).drew := ⟨hon0.os, hon0.tape, hon0.output, hon0.size, hon0.block⟩
    have hs1 := sl_setD (f := 3) (upd := fun d => { d with ou := max 0 (d.ou - (n : Int)) }) M7.out.s HCS.out HD.out (by omega) rfl
    have hs2 := sl_setD (f := 4) (d := { d with ou := max 0 (d.ou - (n : Int)) }) (y := max 0 (d.inn - (n : Int))) (upd := fun d => { d with inn := max 0 (d.inn - (n : Int)) }) hs1 (HCS.out.set _ _) (by rw [List.getElem?_modify, HD.out]; simp) (by omega) rfl
    rw [mod_mod] at hs2
    obtain ⟨xx, hxx⟩ : ∃ xx : PoM, xx = { q with ds := ⟨some ⟨b6, o6, none⟩, q.ds.l.modify i fun d => { d with ou := max 0 (d.ou - (n : Int)), inn := max 0 (d.inn - (n : Int)) }, c6⟩ } := ⟨_, rfl⟩
    have HXD := Lib.hid (show xx.d = q.d.eas 6 i (n : Int) by rw [hxx]; rfl)
    have O8 := Lib.hid (show Lies ((w7.setCell ⟨b6, o6 + i * 5 + 3, none⟩ (.int .i64 (max 0 (d.ou - (n : Int))))).setCell ⟨b6, o6 + i * 5 + 4, none⟩ (.int .i64 (max 0 (d.inn - (n : Int))))).drew g9 26 xx.cells.toArray by
      rw [hxx]
      have h := hon.lies M7.out.o (by have := M7.out.g; omega)
      have e : (q.ds.l.modify i fun d => { d with ou := max 0 (d.ou - (n : Int)), inn := max 0 (d.inn - (n : Int)) }).length = q.ds.l.length := List.length_modify ..
      show Lies _ g9 _ (q.part (.slice (some ⟨b6, o6, none⟩) (q.ds.l.modify i fun d => { d with ou := max 0 (d.ou - (n : Int)), inn := max 0 (d.inn - (n : Int)) }).length c6)).toArray
      rw [e]; exact h)
    have X8 := Lib.hid (hon.lies M7.out.b (by have := M7.out.g; omega))
    have W8 := Lib.hid (hon.below M7.out.bw (by have := M7.out.g; omega))
    have XA8 := Lib.hid (show xx.At ((w7.setCell ⟨b6, o6 + i * 5 + 3, none⟩ (.int .i64 (max 0 (d.ou - (n : Int))))).setCell ⟨b6, o6 + i * 5 + 4, none⟩ (.int .i64 (max 0 (d.inn - (n : Int))))).drew ((w7.setCell ⟨b6, o6 + i * 5 + 3, none⟩ (.int .i64 (max 0 (d.ou - (n : Int))))).setCell ⟨b6, o6 + i * 5 + 4, none⟩ (.int .i64 (max 0 (d.inn - (n : Int))))).drew.heap.size by
      rw [hxx, hon.size]
      exact ⟨hs2, by have := HL15.out; show (q.ds.l.modify i _).length ≤ _; rw [List.length_modify]; omega⟩)
    have HXL := Lib.hid (show xx.ds.l.length ≤ 15 by rw [hxx]; show (q.ds.l.modify i _).length ≤ 15; rw [List.length_modify]; exact HL15.out)
    clear hxx hon hon0 hon1 hon2 hs1 hs2 c45 c52 f45 f52 hw8 hw9 e8 e9 M7 HCS
    generalize ((w7.setCell ⟨b6, o6 + i * 5 + 3, none⟩ (.int .i64 (max 0 (d.ou - (n : Int))))).setCell ⟨b6, o6 + i * 5 + 4, none⟩ (.int .i64 (max 0 (d.inn - (n : Int))))).drew = w8 at *
    have hle := (PoD.eas_ok HOK.out 6 i (n := (n : Int)) (by omega) (by omega)).2.least HOK.out (PoD.eas_ok HOK.out 6 i (n := (n : Int)) (by omega) (by omega)).1
    rcases hle with ⟨va, vb, e1, e2, hba⟩ | ⟨e1, vb, f, e2, rfl | rfl⟩
    · have HL1 := Lib.hid (fun A c W (hat : (q.withA A c).At W W.heap.size) => (show Calls Try.prog 22 #[.agg (q.withA A c).cells.toArray] W fun e w' => e = .returned (.tuple #[.int .i64 va, .int .i64 0]) ∧ Below W.heap.size W w' by
        have := Least_any (q.withA A c) W hat
        rw [show (q.withA A c).d.leastR = (va, 0) from e1] at this
        exact this))
      have HL2 := Lib.hid (fun A c W (hat : (xx.withA A c).At W W.heap.size) => (show Calls Try.prog 22 #[.agg (xx.withA A c).cells.toArray] W fun e w' => e = .returned (.tuple #[.int .i64 vb, .int .i64 0]) ∧ Below W.heap.size W w' by
        have := Least_any (xx.withA A c) W hat
        rw [show (xx.withA A c).d.leastR = (vb, 0) from (congrArg PoD.leastR HXD.out).trans e2] at this
        exact this))
      clear e1 e2
      have K131 := Lib.hid True.intro
      go_wp2_with (first
        | (have h := K131; clear h; refine wpList_load_row (o := ⟨some 131, _, _, _, _, _⟩) ?_ 26 (.tmp 4) ?_ w.heap.size ?_ 26 q.cells.toArray (0, 0) _ X8.out Try.underlying26 rfl size_rp ?_; rfl; rfl; rfl; have K132 := Lib.hid True.intro; clear K131)
        | (have h := K132; clear h; go_at_call 18; refine (Copy_any q _ (HAT.out.below W8.out W8.out.size) HL15.out).mono ?_; rintro e w9 ⟨A9, c9, rfl, hat9, hb9⟩; have T9 := Lib.hid hat9; have W9 := Lib.hid (W8.out.trans (hb9.mono W8.out.size)); have O9 := Lib.hid (O8.out.call hb9); have XA9 := Lib.hid (XA8.out.below hb9 hb9.size); clear hat9 hb9; have K133 := Lib.hid True.intro; clear K132)
        | (have h := K133; clear h; go_at_call 22; refine (HL1.out A9 c9 _ T9.out).mono ?_; rintro e w10 ⟨rfl, hb10⟩; have W10 := Lib.hid (W9.out.trans (hb10.mono W9.out.size)); have O10 := Lib.hid (O9.out.call hb10); have XA10 := Lib.hid (XA9.out.below hb10 hb10.size); clear hb10; have K137 := Lib.hid True.intro; clear K133)
        | (have h := K137; clear h; refine wpList_load_row (o := ⟨some 137, _, _, _, _, _⟩) ?_ 26 (.tmp 9) ?_ g9 ?_ 26 xx.cells.toArray (0, 0) _ O10.out Try.underlying26 rfl size_rp ?_; rfl; rfl; rfl; have K138 := Lib.hid True.intro; clear K137)
        | (have h := K138; clear h; go_at_call 18; refine (Copy_any xx _ XA10.out HXL.out).mono ?_; rintro e w11 ⟨A11, c11, rfl, hat11, hb11⟩; have T11 := Lib.hid hat11; have W11 := Lib.hid (W10.out.trans (hb11.mono W10.out.size)); clear hat11 hb11; have K139 := Lib.hid True.intro; clear K138)
        | (have h := K139; clear h; go_at_call 22; refine (HL2.out A11 c11 _ T11.out).mono ?_; rintro e w12 ⟨rfl, hb12⟩; have W12 := Lib.hid (W11.out.trans (hb12.mono W11.out.size)); clear hb12; have KW := Lib.hid True.intro; clear K139)
        | (have h := KW; clear h; go_at_call 16; refine (wakes_any _).mono ?_; rintro e w13 ⟨rfl, hb13⟩; clear KW))
      go_ret
      exact ⟨rfl, W12.out.trans (hb13.mono W12.out.size)⟩
    · have HL1 := Lib.hid (fun A c W (hat : (q.withA A c).At W W.heap.size) => (show Calls Try.prog 22 #[.agg (q.withA A c).cells.toArray] W fun e w' => e = .returned (.tuple #[.int .i64 0, .int .i64 9]) ∧ Below W.heap.size W w' by
        have := Least_any (q.withA A c) W hat
        rw [show (q.withA A c).d.leastR = (0, 9) from e1] at this
        exact this))
      have HL2 := Lib.hid (fun A c W (hat : (xx.withA A c).At W W.heap.size) => (show Calls Try.prog 22 #[.agg (xx.withA A c).cells.toArray] W fun e w' => e = .returned (.tuple #[.int .i64 vb, .int .i64 0]) ∧ Below W.heap.size W w' by
        have := Least_any (xx.withA A c) W hat
        rw [show (xx.withA A c).d.leastR = (vb, 0) from (congrArg PoD.leastR HXD.out).trans e2] at this
        exact this))
      clear e1 e2
      have K131 := Lib.hid True.intro
      go_wp2_with (first
        | (have h := K131; clear h; refine wpList_load_row (o := ⟨some 131, _, _, _, _, _⟩) ?_ 26 (.tmp 4) ?_ w.heap.size ?_ 26 q.cells.toArray (0, 0) _ X8.out Try.underlying26 rfl size_rp ?_; rfl; rfl; rfl; have K132 := Lib.hid True.intro; clear K131)
        | (have h := K132; clear h; go_at_call 18; refine (Copy_any q _ (HAT.out.below W8.out W8.out.size) HL15.out).mono ?_; rintro e w9 ⟨A9, c9, rfl, hat9, hb9⟩; have T9 := Lib.hid hat9; have W9 := Lib.hid (W8.out.trans (hb9.mono W8.out.size)); have O9 := Lib.hid (O8.out.call hb9); have XA9 := Lib.hid (XA8.out.below hb9 hb9.size); clear hat9 hb9; have K133 := Lib.hid True.intro; clear K132)
        | (have h := K133; clear h; go_at_call 22; refine (HL1.out A9 c9 _ T9.out).mono ?_; rintro e w10 ⟨rfl, hb10⟩; have W10 := Lib.hid (W9.out.trans (hb10.mono W9.out.size)); have O10 := Lib.hid (O9.out.call hb10); have XA10 := Lib.hid (XA9.out.below hb10 hb10.size); clear hb10; have K137 := Lib.hid True.intro; clear K133)
        | (have h := K137; clear h; refine wpList_load_row (o := ⟨some 137, _, _, _, _, _⟩) ?_ 26 (.tmp 9) ?_ g9 ?_ 26 xx.cells.toArray (0, 0) _ O10.out Try.underlying26 rfl size_rp ?_; rfl; rfl; rfl; have K138 := Lib.hid True.intro; clear K137)
        | (have h := K138; clear h; go_at_call 18; refine (Copy_any xx _ XA10.out HXL.out).mono ?_; rintro e w11 ⟨A11, c11, rfl, hat11, hb11⟩; have T11 := Lib.hid hat11; have W11 := Lib.hid (W10.out.trans (hb11.mono W10.out.size)); clear hat11 hb11; have K139 := Lib.hid True.intro; clear K138)
        | (have h := K139; clear h; go_at_call 22; refine (HL2.out A11 c11 _ T11.out).mono ?_; rintro e w12 ⟨rfl, hb12⟩; have W12 := Lib.hid (W11.out.trans (hb12.mono W11.out.size)); clear hb12; have KW := Lib.hid True.intro; clear K139)
        | (have h := KW; clear h; go_at_call 16; refine (wakes_any _).mono ?_; rintro e w13 ⟨rfl, hb13⟩; clear KW))
      go_ret
      exact ⟨rfl, W12.out.trans (hb13.mono W12.out.size)⟩
    · have HL1 := Lib.hid (fun A c W (hat : (q.withA A c).At W W.heap.size) => (show Calls Try.prog 22 #[.agg (q.withA A c).cells.toArray] W fun e w' => e = .returned (.tuple #[.int .i64 0, .int .i64 9]) ∧ Below W.heap.size W w' by
        have := Least_any (q.withA A c) W hat
        rw [show (q.withA A c).d.leastR = (0, 9) from e1] at this
        exact this))
      have HL2 := Lib.hid (fun A c W (hat : (xx.withA A c).At W W.heap.size) => (show Calls Try.prog 22 #[.agg (xx.withA A c).cells.toArray] W fun e w' => e = .returned (.tuple #[.int .i64 vb, .int .i64 9]) ∧ Below W.heap.size W w' by
        have := Least_any (xx.withA A c) W hat
        rw [show (xx.withA A c).d.leastR = (vb, 9) from (congrArg PoD.leastR HXD.out).trans e2] at this
        exact this))
      clear e1 e2
      have K131 := Lib.hid True.intro
      go_wp2_with (first
        | (have h := K131; clear h; refine wpList_load_row (o := ⟨some 131, _, _, _, _, _⟩) ?_ 26 (.tmp 4) ?_ w.heap.size ?_ 26 q.cells.toArray (0, 0) _ X8.out Try.underlying26 rfl size_rp ?_; rfl; rfl; rfl; have K132 := Lib.hid True.intro; clear K131)
        | (have h := K132; clear h; go_at_call 18; refine (Copy_any q _ (HAT.out.below W8.out W8.out.size) HL15.out).mono ?_; rintro e w9 ⟨A9, c9, rfl, hat9, hb9⟩; have T9 := Lib.hid hat9; have W9 := Lib.hid (W8.out.trans (hb9.mono W8.out.size)); have O9 := Lib.hid (O8.out.call hb9); have XA9 := Lib.hid (XA8.out.below hb9 hb9.size); clear hat9 hb9; have K133 := Lib.hid True.intro; clear K132)
        | (have h := K133; clear h; go_at_call 22; refine (HL1.out A9 c9 _ T9.out).mono ?_; rintro e w10 ⟨rfl, hb10⟩; have W10 := Lib.hid (W9.out.trans (hb10.mono W9.out.size)); have O10 := Lib.hid (O9.out.call hb10); have XA10 := Lib.hid (XA9.out.below hb10 hb10.size); clear hb10; have K137 := Lib.hid True.intro; clear K133)
        | (have h := K137; clear h; refine wpList_load_row (o := ⟨some 137, _, _, _, _, _⟩) ?_ 26 (.tmp 9) ?_ g9 ?_ 26 xx.cells.toArray (0, 0) _ O10.out Try.underlying26 rfl size_rp ?_; rfl; rfl; rfl; have K138 := Lib.hid True.intro; clear K137)
        | (have h := K138; clear h; go_at_call 18; refine (Copy_any xx _ XA10.out HXL.out).mono ?_; rintro e w11 ⟨A11, c11, rfl, hat11, hb11⟩; have T11 := Lib.hid hat11; have W11 := Lib.hid (W10.out.trans (hb11.mono W10.out.size)); clear hat11 hb11; have K139 := Lib.hid True.intro; clear K138)
        | (have h := K139; clear h; go_at_call 22; refine (HL2.out A11 c11 _ T11.out).mono ?_; rintro e w12 ⟨rfl, hb12⟩; have W12 := Lib.hid (W11.out.trans (hb12.mono W11.out.size)); clear hb12; have KW := Lib.hid True.intro; clear K139)
        | (have h := KW; clear h; go_at_call 16; refine (wakes_any _).mono ?_; rintro e w13 ⟨rfl, hb13⟩; clear KW))
      go_ret
      exact ⟨rfl, W12.out.trans (hb13.mono W12.out.size)⟩
theorem PolderEasier_walk (q : PoM) (z x y : Nat) (w : World) (h : OpenPo q w) (hz255 : z ≤ 255) (hx255 : x ≤ 255) (hy255 : y ≤ 255) : Calls Try.prog 12 #[.agg q.cells.toArray, .int .u8 z, .int .u8 x, .int .u8 y] w fun e w' => e = .returned (.bool true) ∧ Below w.heap.size w w' := by
  cases hyy : q.d.readyB with
  | false => exact PolderEasier_unready q x y z w h hyy
  | true =>
    have hn1 : 1 ≤ q.ds.l.length := by
      have h := hyy
      unfold PoD.readyB at h
      rw [Bool.and_eq_true, decide_eq_true_eq, decide_eq_true_eq] at h
      exact (PoD.fault_iff.1 h.2).n1
    exact PolderEasier_try q x y z (z % 7) (x % q.ds.l.length) (y % 6) w h hyy (by omega) (by omega) (by omega) (Nat.mod_lt _ (by omega)) (by omega) (by omega) hx255 hy255 hz255

end Go.Proofs.Ytkmdjobflmmojaa
