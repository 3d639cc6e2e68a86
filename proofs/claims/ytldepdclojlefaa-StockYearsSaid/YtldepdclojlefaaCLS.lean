/- StockYears. -/
import Derived.Test.YtldepdclojlefaaGF
namespace Go.Proofs.Ytldepdclojlefaa
open Go.RowKit Go.Lib

theorem PlM.At.years {p : PlM} {w : World} {B : Nat} (h : p.At w B) {X : Int} : PlM.At { p with years := X } w B := ⟨h.s, h.r, h.g, h.rows, h.e, h.k, h.ls, h.lr, h.lg, h.lrows, h.le, h.lk⟩
theorem bnd_lens {x : BdM} {d : PD} {k : Nat} (h : x.lists = bndD d k) : x.a.l.length = d.s.length ∧ x.b.l.length = d.s.length ∧ x.c.l.length = d.s.length ∧ x.d.l.length = d.s.length := by
  unfold BdM.lists bndD bndL at h
  simp only [Prod.mk.injEq] at h
  obtain ⟨h1, h2, h3, h4⟩ := h
  simp [h1, h2, h3, h4, rangesL]
theorem lists_eq {x z : BdM} (h : z.lists = x.lists) : z.a.l = x.a.l ∧ z.b.l = x.b.l ∧ z.c.l = x.c.l ∧ z.d.l = x.d.l := by
  unfold BdM.lists at h
  simpa only [Prod.mk.injEq] using h
set_option maxRecDepth 100000 in
set_option maxHeartbeats 1000000 in
theorem Years_no (p : PlM) (yr : Nat) (w : World) (hp : p.Lay w w.heap.size) (hr : readyB p = false) : Calls Try.prog 15 #[.agg p.cells.toArray, .int .u8 yr] w fun e w' => e = .returned (.bool true) ∧ Below w.heap.size w w' := by
  have l0 : Lies (w.alloc (.cells p.cells.toArray 28)) w.heap.size 28 p.cells.toArray := Lies.fresh _ _ _
  have b0 : Below w.heap.size w (w.alloc (.cells p.cells.toArray 28)) := (Below.refl _ _).alloc (Nat.le_refl _) _
  have hR := ready_any p _ (hp.below b0 b0.size)
  rw [hr] at hR
  have L0 := Lib.hid l0
  have B0 := Lib.hid b0
  have HR := Lib.hid hR
  clear l0 b0 hR hp hr
  unfold PlM.cells at HR ⊢
  go_enter Try.func15, Try.ntmps15
  go_wp2_with (first
    | (refine wpList_load_row (o := ⟨some 13, _, _, _, _, _⟩) ?_ 28 (.tmp 2) ?_ w.heap.size ?_ 28 p.cells.toArray (0, 0) _ L0.out Try.underlying28 rfl size28 ?_; rfl; rfl; rfl)
    | (go_at_call 51; refine HR.out.mono ?_; rintro e w1 ⟨rfl, hb1⟩)
    | (go_at_call 19; refine (awake_any _).mono ?_; rintro e w2 ⟨rfl, hb2⟩))
  go_ret
  have hx := B0.out.trans (hb1.mono B0.out.size)
  exact ⟨rfl, hx.trans (hb2.mono hx.size)⟩
set_option maxRecDepth 100000 in
set_option maxHeartbeats 1000000 in
theorem Years_yes (p : PlM) (yr : Nat) (w : World) (hp : p.Lay w w.heap.size) (hr : readyB p = true) (hyr : yr ≤ 255) : Calls Try.prog 15 #[.agg p.cells.toArray, .int .u8 yr] w fun e w' => e = .returned (.bool true) ∧ Below w.heap.size w w' := by
  obtain ⟨ht, hf⟩ := ready_iff.1 hr
  have hat := hp.at ht
  have hv := fault_zero hf
  obtain ⟨Y, hY⟩ : ∃ Y : Nat, p.years = (Y : Int) := ⟨p.years.toNat, years_nat hv⟩
  have hY6 : Y ≤ 6 := by have := hv.y; omega
  have hn5 := hv.ok.n
  obtain ⟨X, hX⟩ : ∃ X : Nat, (yr : Int) % ((Y : Int) + 1) = (X : Int) := ⟨yr % (Y + 1), by rw [Int.natCast_emod]; rfl⟩
  have hXY : X ≤ Y := by
    have h1 := Int.emod_lt_of_pos (yr : Int) (show (0 : Int) < (Y : Int) + 1 by omega)
    rw [hX] at h1; omega
  have l0 : Lies (w.alloc (.cells p.cells.toArray 28)) w.heap.size 28 p.cells.toArray := Lies.fresh _ _ _
  have b0 : Below w.heap.size w (w.alloc (.cells p.cells.toArray 28)) := (Below.refl _ _).alloc (Nat.le_refl _) _
  have hR := ready_any p _ (hp.below b0 b0.size)
  rw [hr] at hR
  have L0 := Lib.hid l0
  have B0 := Lib.hid b0
  have HR := Lib.hid hR
  have HP := Lib.hid hp
  have HAT := Lib.hid hat
  have HV := Lib.hid hv
  have HF := Lib.hid hf
  have HY := Lib.hid hY
  have HX := Lib.hid hX
  have hyz : (yr : Int) ≤ 255 := by omega
  have hy0 : (0 : Int) ≤ (yr : Int) := by omega
  have hYz : (Y : Int) ≤ 6 := by omega
  have hY0 : (0 : Int) ≤ (Y : Int) := by omega
  clear l0 b0 hR hp hr hat hv hf hY hX ht
  unfold PlM.cells at HR ⊢
  go_enter Try.func15, Try.ntmps15
  go_upto_region 4 with (first
    | (refine wpList_load_row (o := ⟨some 13, _, _, _, _, _⟩) ?_ 28 (.tmp 2) ?_ w.heap.size ?_ 28 p.cells.toArray (0, 0) _ L0.out Try.underlying28 rfl size28 ?_; rfl; rfl; rfl)
    | (go_at_call 51; refine HR.out.mono ?_; rintro e w1 ⟨rfl, hb1⟩; have L1 := Lib.hid (L0.out.call hb1))
    | (refine wpList_load_row (o := ⟨some 17, _, _, _, _, _⟩) ?_ 28 (.tmp 2) ?_ w.heap.size ?_ 28 p.cells.toArray (0, 0) _ L1.out Try.underlying28 rfl size28 ?_; rfl; rfl; rfl)
    | (refine wpList_store_cells (o := ⟨none, .store 28 (.tmp 5) _, _, _, _, _⟩) ?_ 28 (.tmp 5) (.tmp 17) ?_ w1.heap.size 0 ?_ 28 zplan p.cells ?_ (Lies.fresh w1 28 zplan.toArray) (Nat.le_refl 8) size28 (by simp [PlM.cells, Value.oneCell']) ?_; rfl; rfl; rfl; rfl; intro w3 HS3 HO3; (try simp only [Act.put])))
  have hz1 : w.heap.size + 1 ≤ w1.heap.size := by have := hb1.size; simpa using this
  have b1 : Below w.heap.size w w1 := B0.out.trans (hb1.mono B0.out.size)
  have hx3 : Lies w3 w1.heap.size 28 p.cells.toArray := by have := HS3.out; rwa [splice_whole (by simp [PlM.cells])] at this
  have hp3 : Lies w3 w.heap.size 28 p.cells.toArray := HO3.out.lies (L1.out.alloc _) (by omega)
  have b3 : Below w.heap.size w w3 := HO3.out.below (b1.alloc b1.size _) (by omega)
  have d7 : w3.cell? ⟨w.heap.size, 7, none⟩ = some (.int .i64 (Y : Int)) := by rw [← HY.out]; exact hp3.at_ 7
  have e7 : w3.cell? ⟨w1.heap.size, 7, none⟩ = some (.int .i64 (Y : Int)) := by rw [← HY.out]; exact hx3.at_ 7
  have f7 := hx3.free 7
  have HX3 := Lib.hid hx3
  have HP3 := Lib.hid hp3
  have B3 := Lib.hid b3
  clear hx3 hp3 b3 b1 hb1 HS3 HO3 L1 L0 B0 HR
  have hXv : (yr : Int) % ((Y : Int) + 1) = (X : Int) := HX.out
  have HXV := Lib.hid hXv
  clear hXv HX
  go_upto_region 5 with (fail)
  have hx4 : Lies (w3.setCell ⟨w1.heap.size, 7, none⟩ (.int .i64 ((yr : Int) % ((Y : Int) + 1)))) w1.heap.size 28 ({ p with years := (X : Int) } : PlM).cells.toArray := by
    have h := HX3.out.set 7 (.int .i64 ((yr : Int) % ((Y : Int) + 1)))
    rw [HXV.out] at h ⊢
    exact h
  have hp4 : Lies (w3.setCell ⟨w1.heap.size, 7, none⟩ (.int .i64 ((yr : Int) % ((Y : Int) + 1)))) w.heap.size 28 p.cells.toArray := HP3.out.other (show w.heap.size ≠ w1.heap.size by omega) _
  have b4 : Below w.heap.size w (w3.setCell ⟨w1.heap.size, 7, none⟩ (.int .i64 ((yr : Int) % ((Y : Int) + 1)))) := B3.out.setCell (show w.heap.size ≤ w1.heap.size by omega) _
  have HX4 := Lib.hid hx4
  have HP4 := Lib.hid hp4
  have B4 := Lib.hid b4
  clear hx4 hp4 b4 HX3 HP3 B3 d7 e7 f7
  generalize (w3.setCell ⟨w1.heap.size, 7, none⟩ (.int .i64 ((yr : Int) % ((Y : Int) + 1)))) = w4 at *
  generalize w1.heap.size = gx at *
  have hP : ∀ W, Below w.heap.size w W → Calls Try.prog 21 #[.agg p.cells.toArray] W (RetP p W) := fun W hb => Plan_any p W (HAT.out.below hb hb.size) HP.out.nr HP.out.ne HP.out.nk
  have hPX : ∀ W, Below w.heap.size w W → Calls Try.prog 21 #[.agg ({ p with years := (X : Int) } : PlM).cells.toArray] W (RetP { p with years := (X : Int) } W) := fun W hb => Plan_any { p with years := (X : Int) } W (HAT.out.below hb hb.size).years HP.out.nr HP.out.ne HP.out.nk
  have HPL := Lib.hid hP
  have HPX := Lib.hid hPX
  clear hP hPX
  go_wp2_with (first
    | (refine wpList_load_row (o := ⟨some 26, _, _, _, _, _⟩) ?_ 28 (.tmp 2) ?_ w.heap.size ?_ 28 p.cells.toArray (0, 0) _ HP4.out Try.underlying28 rfl size28 ?_; rfl; rfl; rfl)
    | (go_at_call 21; refine (HPL.out _ B4.out).mono ?_; rintro e w5 ⟨q, rfl, hd, hq, hb5⟩))
  have hC := Count_ok q Y w5 hq (by rw [fault_congr hd]; exact HF.out) (by rw [show q.years = q.d.years from rfl, hd]; exact HY.out)
  rw [hd] at hC
  have HC := Lib.hid hC
  have b5 := B4.out.trans (hb5.mono B4.out.size)
  have HX5 := Lib.hid (HX4.out.call hb5)
  have HP5 := Lib.hid (HP4.out.call hb5)
  have B5 := Lib.hid b5
  clear hC hd hq hb5 b5 HX4 HP4 B4 HPL
  go_wp2_with (first
    | (go_at_call 28; refine HC.out.mono ?_; rintro e w6 ⟨A1, c1, bs, rfl, hs6, hl6, ha6, hb6⟩; have HX6 := Lib.hid (HX5.out.call hb6); have HP6 := Lib.hid (HP5.out.call hb6))
    | (refine wpList_load_row (o := ⟨some 32, _, _, _, _, _⟩) ?_ 28 (.tmp 5) ?_ gx ?_ 28 ({ p with years := (X : Int) } : PlM).cells.toArray (0, 0) _ HX6.out Try.underlying28 rfl size28 ?_; rfl; rfl; rfl))
  have B6 := Lib.hid (B5.out.trans (hb6.mono B5.out.size))
  have hbs : bs.length = Y := by have := congrArg List.length hl6; simpa using this
  have HS6 := Lib.hid hs6
  have HL6 := Lib.hid hl6
  have HA6 := Lib.hid ha6
  have HBS := Lib.hid hbs
  clear hs6 hl6 ha6 hb6 HP5 HX5 B5 HC hbs
  go_wp2_with (go_at_call 21; refine (HPX.out _ B6.out).mono ?_; rintro e w7 ⟨q, rfl, hd, hq, hb7⟩)
  have hC := Count_ok q X w7 hq (by rw [fault_congr hd]; exact fault_years HF.out (by omega) (by omega)) (by rw [show q.years = q.d.years from rfl, hd]; rfl)
  rw [hd] at hC
  have hbb : ∀ k, bndD (PlM.d { p with years := (X : Int) }) k = bndD p.d k := fun k => bndD_years p.d X k
  have HC := Lib.hid hC
  have HBB := Lib.hid hbb
  have B7 := Lib.hid (B6.out.trans (hb7.mono B6.out.size))
  have B67 := Lib.hid hb7
  have HP7 := Lib.hid (HP6.out.call hb7)
  have HX7 := Lib.hid (HX6.out.call hb7)
  clear hC hd hq hb7 HPX hbb
  go_wp2_with (go_at_call 28; refine HC.out.mono ?_; rintro e w8 ⟨A2, c2, bt, rfl, hs8, hl8, ha8, hb8⟩; have d0 : w8.cell? ⟨w.heap.size, 0, none⟩ = some (.slice p.s.A p.s.l.length p.s.c) := (HP7.out.call hb8).at_ 0; have d7 : w8.cell? ⟨w.heap.size, 7, none⟩ = some (.int .i64 (Y : Int)) := (by rw [← HY.out]; exact (HP7.out.call hb8).at_ 7); have d7x : w8.cell? ⟨gx, 7, none⟩ = some (.int .i64 (X : Int)) := (HX7.out.call hb8).at_ 7)
  have B8 := Lib.hid (B7.out.trans (hb8.mono B7.out.size))
  have hbt : bt.length = X := by have := congrArg List.length hl8; simpa using this
  have b68 : Below w6.heap.size w6 w8 := B67.out.trans (hb8.mono B67.out.size)
  have HS6' := Lib.hid ((HS6.out.below b68).more b68.size)
  have HA6' := Lib.hid (show ∀ x, x ∈ bs → x.At w8 w8.heap.size from fun x hx => (HA6.out x hx).below b68 b68.size)
  have HX8 := Lib.hid (HX7.out.call hb8)
  have HS8 := Lib.hid hs8
  have HL8 := Lib.hid hl8
  have HA8 := Lib.hid ha8
  have HBT := Lib.hid hbt
  clear hs8 hl8 ha8 hb8 hbt b68 HC HP7 HX7 HS6 HA6 B7 B67 B6 HP6 HX6 d0 d7 d7x
  have hX6 : (X : Int) ≤ 6 := by omega
  have hX0 : (0 : Int) ≤ (X : Int) := by omega
  have hXYz : (X : Int) ≤ (Y : Int) := by omega
  go_loopw [11] (fun i wr => ∃ k : Nat, k ≤ X ∧ i = .int .i64 k ∧ Aside (Below w8.heap.size w8 wr)) (fun i _ => X - (intOf i).toNat)
  case atStart => exact ⟨0, by omega, rfl, Below.refl _ _⟩
  case round =>
    obtain ⟨k, hk, rfl, hb⟩ := hrel
    have d7 : wr.cell? ⟨gx, 7, none⟩ = some (.int .i64 (X : Int)) := (HX8.out.call hb.out).at_ 7
    by_cases hlt : k < X
    · have hltz : (k : Int) < (X : Int) := by omega
      have hltY : (k : Int) < (Y : Int) := by omega
      have hk0 : (0 : Int) ≤ (k : Int) := by omega
      obtain ⟨x, hx⟩ : ∃ x, bs[k]? = some x := ⟨bs[k]'(by rw [HBS.out]; omega), by simp⟩
      obtain ⟨z, hz⟩ : ∃ z, bt[k]? = some z := ⟨bt[k]'(by rw [HBT.out]; omega), by simp⟩
      have ex : x.lists = bndD p.d k := by
        have h := congrArg (·[k]?) HL6.out
        simp only [List.getElem?_map, hx, Option.map_some, List.getElem?_range (show k < Y by omega)] at h
        exact Option.some.inj h
      have ez : z.lists = bndD p.d k := by
        have h := congrArg (·[k]?) HL8.out
        simp only [List.getElem?_map, hz, Option.map_some, List.getElem?_range hlt] at h
        rw [HBB.out] at h
        exact Option.some.inj h
      have hxa := (HA6'.out x (List.mem_of_getElem? hx)).below hb.out hb.out.size
      have hza := (HA8.out z (List.mem_of_getElem? hz)).below hb.out hb.out.size
      obtain ⟨la, lb, lc, ld⟩ : x.a.l.length = p.s.l.length ∧ x.b.l.length = p.s.l.length ∧ x.c.l.length = p.s.l.length ∧ x.d.l.length = p.s.l.length := bnd_lens ex
      obtain ⟨ea, eb, ec, ed⟩ : z.a.l = x.a.l ∧ z.b.l = x.b.l ∧ z.c.l = x.c.l ∧ z.d.l = x.d.l := lists_eq (ez.trans ex.symm)
      obtain ⟨b1, o1, r1, hb1, q1⟩ := HS6'.out.at_ hx
      obtain ⟨b2, o2, r2, hb2, q2⟩ := HS8.out.at_ hz
      subst r1; subst r2
      have c0 : wr.cell? ⟨b1, o1 + k * 4, none⟩ = some (.slice x.a.A p.s.l.length x.a.c) := by rw [hb.out.cell (p := ⟨b1, o1 + k * 4, none⟩) hb1, ← la]; exact q1 0 _ rfl
      have c1' : wr.cell? ⟨b1, o1 + k * 4 + 1, none⟩ = some (.slice x.b.A p.s.l.length x.b.c) := by rw [hb.out.cell (p := ⟨b1, o1 + k * 4 + 1, none⟩) hb1, ← lb]; exact q1 1 _ rfl
      have c2' : wr.cell? ⟨b1, o1 + k * 4 + 2, none⟩ = some (.slice x.c.A p.s.l.length x.c.c) := by rw [hb.out.cell (p := ⟨b1, o1 + k * 4 + 2, none⟩) hb1, ← lc]; exact q1 2 _ rfl
      have c3' : wr.cell? ⟨b1, o1 + k * 4 + 3, none⟩ = some (.slice x.d.A p.s.l.length x.d.c) := by rw [hb.out.cell (p := ⟨b1, o1 + k * 4 + 3, none⟩) hb1, ← ld]; exact q1 3 _ rfl
      have e0 : wr.cell? ⟨b2, o2 + k * 4, none⟩ = some (.slice z.a.A p.s.l.length z.a.c) := by rw [hb.out.cell (p := ⟨b2, o2 + k * 4, none⟩) hb2, ← la, ← ea]; exact q2 0 _ rfl
      have e1 : wr.cell? ⟨b2, o2 + k * 4 + 1, none⟩ = some (.slice z.b.A p.s.l.length z.b.c) := by rw [hb.out.cell (p := ⟨b2, o2 + k * 4 + 1, none⟩) hb2, ← lb, ← eb]; exact q2 1 _ rfl
      have e2 : wr.cell? ⟨b2, o2 + k * 4 + 2, none⟩ = some (.slice z.c.A p.s.l.length z.c.c) := by rw [hb.out.cell (p := ⟨b2, o2 + k * 4 + 2, none⟩) hb2, ← lc, ← ec]; exact q2 2 _ rfl
      have e3 : wr.cell? ⟨b2, o2 + k * 4 + 3, none⟩ = some (.slice z.d.A p.s.l.length z.d.c) := by rw [hb.out.cell (p := ⟨b2, o2 + k * 4 + 3, none⟩) hb2, ← ld, ← ed]; exact q2 3 _ rfl
      have HXA := Lib.hid hxa
      have HZA := Lib.hid hza
      have hBd : ∀ (a1 a2 a3 a4 : Option Addr) (u1 u2 u3 u4 : Nat) (W : World), Calls Try.prog 53 #[.agg #[.slice a1 p.s.l.length u1, .slice a2 p.s.l.length u2, .slice a3 p.s.l.length u3, .slice a4 p.s.l.length u4], .int .i64 p.s.l.length] W fun e w' => e = .returned (.bool true) ∧ Below W.heap.size W w' := fun a1 a2 a3 a4 u1 u2 u3 u4 W => bounded_any a1 a2 a3 a4 p.s.l.length u1 u2 u3 u4 W hn5
      have HBD := Lib.hid hBd
      have LA := Lib.hid la
      have LB := Lib.hid lb
      have LC := Lib.hid lc
      have LD := Lib.hid ld
      have EA := Lib.hid ea
      have EB := Lib.hid eb
      have EC := Lib.hid ec
      have ED := Lib.hid ed
      have G0 := Lib.hid c0
      have G1 := Lib.hid c1'
      have G2 := Lib.hid c2'
      have G3 := Lib.hid c3'
      have K0 := Lib.hid e0
      have K1 := Lib.hid e1
      have K2 := Lib.hid e2
      have K3 := Lib.hid e3
      clear hxa hza hBd la lb lc ld ea eb ec ed ex ez q1 q2 hx hz e0 e1 e2 e3
      go_wp2_with (fail)
      refine (HBD.out _ _ _ _ _ _ _ _ _).mono ?_
      rintro e w9 ⟨rfl, hb9⟩
      have e0 := (hb9.cell (p := ⟨b2, o2 + k * 4, none⟩) (show b2 < wr.heap.size from Nat.lt_of_lt_of_le hb2 hb.out.size)).trans K0.out
      have e1 := (hb9.cell (p := ⟨b2, o2 + k * 4 + 1, none⟩) (show b2 < wr.heap.size from Nat.lt_of_lt_of_le hb2 hb.out.size)).trans K1.out
      have e2 := (hb9.cell (p := ⟨b2, o2 + k * 4 + 2, none⟩) (show b2 < wr.heap.size from Nat.lt_of_lt_of_le hb2 hb.out.size)).trans K2.out
      have e3 := (hb9.cell (p := ⟨b2, o2 + k * 4 + 3, none⟩) (show b2 < wr.heap.size from Nat.lt_of_lt_of_le hb2 hb.out.size)).trans K3.out
      go_wp2_with (fail)
      refine (HBD.out _ _ _ _ _ _ _ _ _).mono ?_
      rintro e w10 ⟨rfl, hb10⟩
      clear e0 e1 e2 e3
      have hb910 := Lib.hid (hb9.trans (hb10.mono hb9.size))
      clear hb9 hb10 HBD
      go_wp2
      have hb10 : Below wr.heap.size wr w10 := hb910.out
      have hb1o : b1 < wr.heap.size := Nat.lt_of_lt_of_le hb1 hb.out.size
      have hb2o : b2 < wr.heap.size := Nat.lt_of_lt_of_le hb2 hb.out.size
      have HB := Lib.hid hb
      clear c0 c1' c2' c3' hb910 hb d7
      have hn0 : (0 : Int) ≤ (p.s.l.length : Int) := by omega
      go_loopw [12] (fun i wz => ∃ t : Nat, t ≤ p.s.l.length ∧ i = .int .i64 t ∧ Aside (Below wr.heap.size wr wz)) (fun i _ => p.s.l.length - (intOf i).toNat)
      case atStart => exact ⟨0, by omega, rfl, hb10⟩
      case round =>
        obtain ⟨t, ht, rfl, hz⟩ := hrel
        clear hb10
        by_cases htl : t < p.s.l.length
        · have htz : (t : Int) < (p.s.l.length : Int) := by omega
          have ht0 : (0 : Int) ≤ (t : Int) := by omega
          obtain ⟨va, hva⟩ : ∃ v, x.a.l[t]? = some v := ⟨x.a.l[t]'(by rw [LA.out]; exact htl), by simp⟩
          obtain ⟨ma, ya, ia, ja, ka0, ka1⟩ := HXA.out.a.cellR hva
          obtain ⟨na, za, ua, la, sa0, sa1⟩ := HZA.out.a.cellR (show z.a.l[t]? = some va by rw [EA.out]; exact hva)
          have ga := G0.out
          rw [ia] at ga
          have ea := K0.out
          rw [ua] at ea
          have pa := cell_regrown ((hz.out.cell (p := ⟨b1, o1 + k * 4, none⟩) hb1o).trans ga)
          have qa := cell_regrown ((hz.out.cell (p := ⟨b2, o2 + k * 4, none⟩) hb2o).trans ea)
          have pa0 := cell_regrown ((hz.out.cell (p := ⟨ma, ya + t * 2, none⟩) ja).trans ka0)
          have pa1 := cell_regrown ((hz.out.cell (p := ⟨ma, ya + t * 2 + 1, none⟩) ja).trans ka1)
          have qa0 := cell_regrown ((hz.out.cell (p := ⟨na, za + t * 2, none⟩) la).trans sa0)
          have qa1 := cell_regrown ((hz.out.cell (p := ⟨na, za + t * 2 + 1, none⟩) la).trans sa1)
          clear hva ia ka0 ka1 ua sa0 sa1 ga ea
          obtain ⟨vb, hvb⟩ : ∃ v, x.b.l[t]? = some v := ⟨x.b.l[t]'(by rw [LB.out]; exact htl), by simp⟩
          obtain ⟨mb, yb, ib, jb, kb0, kb1⟩ := HXA.out.b.cellR hvb
          obtain ⟨nb, zb, ub, lb, sb0, sb1⟩ := HZA.out.b.cellR (show z.b.l[t]? = some vb by rw [EB.out]; exact hvb)
          have gb := G1.out
          rw [ib] at gb
          have eb := K1.out
          rw [ub] at eb
          have pb := cell_regrown ((hz.out.cell (p := ⟨b1, o1 + k * 4 + 1, none⟩) hb1o).trans gb)
          have qb := cell_regrown ((hz.out.cell (p := ⟨b2, o2 + k * 4 + 1, none⟩) hb2o).trans eb)
          have pb0 := cell_regrown ((hz.out.cell (p := ⟨mb, yb + t * 2, none⟩) jb).trans kb0)
          have pb1 := cell_regrown ((hz.out.cell (p := ⟨mb, yb + t * 2 + 1, none⟩) jb).trans kb1)
          have qb0 := cell_regrown ((hz.out.cell (p := ⟨nb, zb + t * 2, none⟩) lb).trans sb0)
          have qb1 := cell_regrown ((hz.out.cell (p := ⟨nb, zb + t * 2 + 1, none⟩) lb).trans sb1)
          clear hvb ib kb0 kb1 ub sb0 sb1 gb eb
          obtain ⟨vc, hvc⟩ : ∃ v, x.c.l[t]? = some v := ⟨x.c.l[t]'(by rw [LC.out]; exact htl), by simp⟩
          obtain ⟨mc, yc, ic, jc, kc0, kc1⟩ := HXA.out.c.cellR hvc
          obtain ⟨nc, zc, uc, lc, sc0, sc1⟩ := HZA.out.c.cellR (show z.c.l[t]? = some vc by rw [EC.out]; exact hvc)
          have gc := G2.out
          rw [ic] at gc
          have ec := K2.out
          rw [uc] at ec
          have pc := cell_regrown ((hz.out.cell (p := ⟨b1, o1 + k * 4 + 2, none⟩) hb1o).trans gc)
          have qc := cell_regrown ((hz.out.cell (p := ⟨b2, o2 + k * 4 + 2, none⟩) hb2o).trans ec)
          have pc0 := cell_regrown ((hz.out.cell (p := ⟨mc, yc + t * 2, none⟩) jc).trans kc0)
          have pc1 := cell_regrown ((hz.out.cell (p := ⟨mc, yc + t * 2 + 1, none⟩) jc).trans kc1)
          have qc0 := cell_regrown ((hz.out.cell (p := ⟨nc, zc + t * 2, none⟩) lc).trans sc0)
          have qc1 := cell_regrown ((hz.out.cell (p := ⟨nc, zc + t * 2 + 1, none⟩) lc).trans sc1)
          clear hvc ic kc0 kc1 uc sc0 sc1 gc ec
          obtain ⟨vd, hvd⟩ : ∃ v, x.d.l[t]? = some v := ⟨x.d.l[t]'(by rw [LD.out]; exact htl), by simp⟩
          obtain ⟨md, yd, id, jd, kd0, kd1⟩ := HXA.out.d.cellR hvd
          obtain ⟨nd, zd, ud, ld, sd0, sd1⟩ := HZA.out.d.cellR (show z.d.l[t]? = some vd by rw [ED.out]; exact hvd)
          have gd := G3.out
          rw [id] at gd
          have ed := K3.out
          rw [ud] at ed
          have pd := cell_regrown ((hz.out.cell (p := ⟨b1, o1 + k * 4 + 3, none⟩) hb1o).trans gd)
          have qd := cell_regrown ((hz.out.cell (p := ⟨b2, o2 + k * 4 + 3, none⟩) hb2o).trans ed)
          have pd0 := cell_regrown ((hz.out.cell (p := ⟨md, yd + t * 2, none⟩) jd).trans kd0)
          have pd1 := cell_regrown ((hz.out.cell (p := ⟨md, yd + t * 2 + 1, none⟩) jd).trans kd1)
          have qd0 := cell_regrown ((hz.out.cell (p := ⟨nd, zd + t * 2, none⟩) ld).trans sd0)
          have qd1 := cell_regrown ((hz.out.cell (p := ⟨nd, zd + t * 2 + 1, none⟩) ld).trans sd1)
          clear hvd id kd0 kd1 ud sd0 sd1 gd ed
          go_wp2
          refine wp_region_quiet_below (by kernel_rfl) (by kernel_rfl) ?_
          repeat (first | go_big_quiet_step (fail) | quiet_step (fail))
          refine wpQuiet_nil ?_
          intro wq hwq
          have hbq : Below wr.heap.size wr wq := (by obtain ⟨q, rfl⟩ := hwq; exact below_regrown _ _ _)
          clear hwq pa qa pa0 pa1 qa0 qa1 pb qb pb0 pb1 qb0 qb1 pc qc pc0 pc1 qc0 qc1 pd qd pd0 pd1 qd0 qd1
          go_wp2
          go_roundw
          case rel => exact ⟨t + 1, by omega, by go_num, hz.out.trans (hbq.mono hz.out.size)⟩
          case measure => simp [intOf]; omega
        · obtain rfl : t = p.s.l.length := by omega
          go_wp2
          go_roundw
          case rel => exact ⟨k + 1, by omega, by go_num, HB.out.out.trans (hz.out.mono HB.out.out.size)⟩
          case measure => simp [intOf]; omega
    · obtain rfl : k = X := by omega
      go_wp2_with (go_at_call 19; refine (awake_any _).mono ?_; rintro e w9 ⟨rfl, hb9⟩)
      go_ret
      have hx := B8.out.trans (hb.out.mono B8.out.size)
      exact ⟨rfl, hx.trans (hb9.mono hx.size)⟩
theorem StockYears_walk (p : PlM) (yr : Nat) (w : World) (hp : p.Lay w w.heap.size) (hyr : yr ≤ 255) : Calls Try.prog 15 #[.agg p.cells.toArray, .int .u8 yr] w fun e w' => e = .returned (.bool true) ∧ Below w.heap.size w w' := by
  cases hr : readyB p with
  | false => exact Years_no p yr w hp hr
  | true => exact Years_yes p yr w hp hr hyr
end Go.Proofs.Ytldepdclojlefaa
