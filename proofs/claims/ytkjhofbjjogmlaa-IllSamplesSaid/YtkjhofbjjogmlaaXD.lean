/- The texts PD PE QA QB BN2 QC QD QE QF QG, joined. -/
import Derived.Test.YtkjhofbjjogmlaaXC
import Derived.Test.YtkjhofbjjogmlaaXA
/- without, known, Known. -/
namespace Go.Proofs.Ytkjhofbjjogmlaa
open Go.RowKit Go.Lib

abbrev enc8 (x : Int) : List Value := [Value.int .u8 x]
theorem info_u8 : (Try.prog.info? 5).map (fun i => (i.zero, i.size, i.bytes)) = some (some (.int .u8 0), 1, 1) := by kernel_rfl
/-- append of numbers to a row of one's own. -/
theorem wpList_app_u8 {ops : Array Oper} {rest : List Oper} {o : Oper} {a : Act} {w : World} {Q : Exit → Act → World → Prop} (hgd : o.guard = none) (s x : Operand) (ho : o.op = .call { callee := .builtin .append, args := #[s, x], argTypes := #[46, 46] })
    (base : Nat) (v : Value) (xs : List Int) (hs : a.eval s = v) (hown : w.ownsRow base 5 1 v xs.length (xs.flatMap enc8)) (A : Option Addr) (c : Nat) (ys : List Int) (hx : a.eval x = .slice A ys.length c) (hA : A = none → ys.length = 0 ∧ c = 0) (hy : Sl w w.heap.size 1 enc8 A ys) (hl : xs.length + ys.length ≤ 1000) (hb : base ≤ w.heap.size)
    (h : ∀ v' w', w'.ownsRow base 5 1 v' (xs ++ ys).length ((xs ++ ys).flatMap enc8) → Below base w w' → w.grownBy w' v.ownBlock → wpList Try.prog ops Q rest (a.put o.dst v') w') : wpList Try.prog ops Q (o :: rest) a w := by
  obtain ⟨i0, hi, hz0, hz1, hz2⟩ := info_parts info_u8
  have hln : (ys.flatMap enc8).length = ys.length * 1 := flat_len (enc := enc8) (fun _ => rfl) _
  have h1c : ∀ u ∈ ys.flatMap enc8, u.oneCell' = true := fun u hu => by
    obtain ⟨z, _, hz⟩ := List.mem_flatMap.1 hu
    simp [enc8] at hz; subst hz; rfl
  refine wpList_append_sl hgd s x 46 ho base 5 i0 _ 1 1 Try.underlying46 hi hz0 hz1 hz2 rfl (by decide) v xs.length _ hs hown A ys.length c (ys.flatMap enc8) hx hln hA (hy.news (enc := enc8) (fun _ => rfl)) h1c (by unfold maxLen; omega) (by omega) hb ?_
  intro v' w' hown' hg _
  refine h v' w' (by rw [List.length_append, List.flatMap_append]; exact hown') ((Below.refl base w).grown hg hb (fun k e => (hown.lt k e).1)) hg
def withoutD (ws : List (Int × Int)) (p : Nat) : List (Int × Int) := ws.set p (andD (winAt ws p) (31, 31))
theorem withoutD_length (ws : List (Int × Int)) (p : Nat) : (withoutD ws p).length = ws.length := by simp [withoutD]
set_option maxRecDepth 100000 in
set_option maxHeartbeats 4000000 in
theorem without_any (c : CoM) (p : Nat) (w : World) (hws : c.ws.length = 10) (hp : p < 10) :
    Calls Try.prog 79 #[.agg c.cells.toArray, .int .i64 p] w fun e w' => e = .returned (.agg (CoM.cells ⟨c.r, withoutD c.ws p⟩).toArray) ∧ Below w.heap.size w w' := by
  obtain ⟨r, ws⟩ := c
  dsimp only at hws ⊢
  have l0 : Lies ((w.alloc (.cells (CoM.cells ⟨r, ws⟩).toArray 84)).alloc (.cells zco.toArray 84)) w.heap.size 84 (CoM.cells ⟨r, ws⟩).toArray := (Lies.fresh _ _ _).alloc _
  have l1 : Lies ((w.alloc (.cells (CoM.cells ⟨r, ws⟩).toArray 84)).alloc (.cells zco.toArray 84)) (w.heap.size + 1) 84 zco.toArray := Lies.fresh' (by simp)
  have b0 : Below w.heap.size w ((w.alloc (.cells (CoM.cells ⟨r, ws⟩).toArray 84)).alloc (.cells zco.toArray 84)) := (by repeat (first | (with_reducible assumption) | (with_reducible exact Below.refl _ _) | (with_reducible refine Below.drew ?_) | (with_reducible refine below_drewN ?_ _) | ((with_reducible refine Below.setCell ?_ ?_ _); rotate_left; focus (first | (simp; done) | (simp; omega) | omega)) | ((with_reducible refine Below.alloc ?_ ?_ _); rotate_left; focus (first | (simp; done) | (simp; omega) | omega))))
  have hp0 : (0 : Int) ≤ (p : Int) := by omega
  have hp10 : (p : Int) < 10 := by omega
  have hy := win_at (ws := ws) (p := p) (by omega)
  have HY := Lib.hid hy
  have HPL := Lib.hid (show p < ws.length by omega)
  have hlen : (withoutD ws p).length = 10 := (withoutD_length _ _).trans hws
  have hsz : (Try.prog.info? 84).map (·.size) = some (CoM.cells ⟨r, withoutD ws p⟩).length := by rw [CoM.len _ hlen]; exact size_co
  have hsz2 : (Try.prog.info? 84).map (·.size) = some (CoM.cells ⟨r, withoutD ws p⟩).toArray.size := by simpa using hsz
  have hfit : 0 + (CoM.cells ⟨r, withoutD ws p⟩).length ≤ zco.length := by rw [CoM.len _ hlen]; decide
  have hwhole : (CoM.cells ⟨r, withoutD ws p⟩).length = zco.length := by rw [CoM.len _ hlen]; rfl
  have HSZ := Lib.hid hsz
  have HSZ2 := Lib.hid hsz2
  have HFIT := Lib.hid hfit
  have HONE := Lib.hid (co_one r (withoutD ws p))
  have HWH := Lib.hid hwhole
  have HLEN := Lib.hid hws
  have L0 := Lib.hid l0
  have L1 := Lib.hid l1
  have B0 := Lib.hid b0
  clear hsz hsz2 hfit hwhole hlen l0 l1 b0 hws hy
  go_enter Try.func79, Try.ntmps79
  go_upto_region 1 with (fail)
  change Code.wp _ _ _ _ ((w.alloc (.cells (CoM.cells ⟨r, ws⟩).toArray 84)).alloc (.cells zco.toArray 84))
  generalize (w.alloc (.cells (CoM.cells ⟨r, ws⟩).toArray 84)).alloc (.cells zco.toArray 84) = w1 at *
  have hr3 : ∀ W, (∃ cc : Cls (fun W => Below w1.heap.size w1 W), W = cc.val) → W.rangeAt w.heap.size (8 + p * 2) (encWin (winAt ws p)) := by
    rintro W ⟨cc, rfl⟩; exact Lies.range (cs := CoM.cells ⟨r, ws⟩) (L0.out.call cc.h) (cells_win r HY.out)
  have HR3 := Lib.hid hr3
  clear hr3
  haveI hne : Nonempty (Cls (fun W => Below w1.heap.size w1 W)) := ⟨⟨w1, Below.refl _ _⟩⟩
  refine wp_region_ways3 9 [0, 1, 2, 3, 4, 7] (.way 5 (.way 6 (.take 8 .fin) .fin) .fin) (fun W => ∃ cc : Cls (fun W => Below w1.heap.size w1 W), W = cc.val) (by kernel_rfl) (by kernel_rfl) (Cls.here (Below.refl _ _).drew) ?_
  simp only [List.filterMap_cons, List.filterMap_nil, List.take_succ_cons, List.take_zero, List.getElem?_toArray, List.getElem?_cons_zero, List.getElem?_cons_succ, List.drop_succ_cons, List.drop_zero]
  repeat (first
    | (refine wpQuiet_load_wholeG (o := ⟨some 9, _, _, _, _, _⟩) ?_ 81 (.tmp 8) ?_ w.heap.size (8 + p * 2) ?_ (encWin (winAt ws p)) _ HR3.out Try.underlying81 rfl size_win ?_; rfl; rfl; rfl; simp only [Act.put, List.setIfInBounds_toArray, List.set_cons_zero, List.set_cons_succ])
    | go_big_quiet_step (rfl) | quiet_step (rfl))
  refine wpQuiet_nil ?_
  clear HR3
  have D0 := Lib.hid (show Below w1.heap.size w1 w1.drew from (Below.refl _ _).drew)
  generalize w1.drew = d0 at *
  rw [wpWy_way]
  refine ⟨?_, by exact trivial⟩
  simp only [List.getElem?_toArray, List.getElem?_cons_succ, List.getElem?_cons_zero]
  go_wp2_with (go_at_call 97; refine (notAtAll_any _).mono ?_; rintro e d1 ⟨rfl, hb1⟩)
  have D1 := Lib.hid (D0.out.trans (hb1.mono D0.out.size))
  refine Ends.intro ⟨Cls.here D1.out, ?_⟩
  rw [wpWy_way]
  refine ⟨?_, by exact trivial⟩
  simp only [List.getElem?_toArray, List.getElem?_cons_succ, List.getElem?_cons_zero]
  go_wp2_with (go_at_call 93; refine (and_any (winAt ws p) (31, 31) _).mono ?_; rintro e d2 ⟨rfl, hb2⟩)
  have D2 := Lib.hid (D1.out.trans (hb2.mono D1.out.size))
  refine Ends.intro ⟨Cls.here D2.out, ?_⟩
  rw [wpWy_take]
  simp only [List.getElem?_toArray, List.getElem?_cons_succ, List.getElem?_cons_zero]
  first | go_big_quiet_step (rfl) | quiet_step (rfl)
  refine wpQuiet_nil ?_
  rw [wpWy_fin]
  have Z2 := Lib.hid (L0.out.call D2.out)
  have Z3 := Lib.hid (L1.out.call D2.out)
  have BB := Lib.hid (B0.out.trans (D2.out.mono B0.out.size))
  have hfit : 8 + p * 2 + (encWin (andD (winAt ws p) (31, 31))).length ≤ (CoM.cells ⟨r, ws⟩).length := by rw [CoM.len _ HLEN.out]; show 8 + p * 2 + 2 ≤ 28; omega
  refine wpList_store_cells (o := ⟨none, .store 81 (.tmp 13) _, _, _, _, _⟩) ?_ 81 (.tmp 13) (.tmp 11) ?_ w.heap.size (8 + p * 2) ?_ 84 (CoM.cells ⟨r, ws⟩) (encWin (andD (winAt ws p) (31, 31))) ?_ Z2.out hfit size_win (by simp [Value.oneCell']) ?_
  rfl; rfl; rfl; rfl
  intro w9 HS9 HO9
  refine wpList_nil ?_
  have hs9 := HS9.out
  rw [cells_set r ws p _ HPL.out] at hs9
  change Lies w9 w.heap.size 84 (CoM.cells ⟨r, withoutD ws p⟩).toArray at hs9
  have S9 := Lib.hid hs9
  clear hs9 hfit
  have Z9 := Lib.hid (HO9.out.lies Z3.out (by omega))
  have B9 := Lib.hid (HO9.out.below BB.out (Nat.le_refl _))
  go_wp2_with (first
    | (refine wpList_load_row (o := ⟨some 14, _, _, _, _, _⟩) ?_ 84 (.tmp 2) ?_ w.heap.size ?_ 84 (CoM.cells ⟨r, withoutD ws p⟩).toArray (0, 0) _ S9.out Try.underlying84 rfl HSZ2.out ?_; rfl; rfl; rfl)
    | (refine wpList_store_cells (o := ⟨none, .store 84 (.tmp 4) _, _, _, _, _⟩) ?_ 84 (.tmp 4) (.tmp 14) ?_ (w.heap.size + 1) 0 ?_ 84 zco (CoM.cells ⟨r, withoutD ws p⟩) ?_ Z9.out HFIT.out HSZ.out HONE.out ?_; rfl; rfl; rfl; rfl; intro w8 HS8 HO8))
  have hs8 := HS8.out
  rw [splice_whole HWH.out] at hs8
  exact bodyPost_ret (results_cell_row rfl _ _ (w.heap.size + 1) 84 (CoM.cells ⟨r, withoutD ws p⟩).toArray (0, 0) _ rfl hs8 Try.underlying84 rfl HSZ2.out) rfl ⟨rfl, HO8.out.below B9.out (by omega)⟩
/-- What is known of a plant. -/
def RwD.knownD (r : RwD) (ws : List (Int × Int)) (t : List Int) (p : Nat) : Int :=
  if t.getD p 0 = 31 then 2 else if r.possB (withoutD ws p) (r.earlyD (withoutD ws p)) then 3 else 1
set_option maxRecDepth 100000 in
set_option maxHeartbeats 4000000 in
theorem known_any (c : CoM) (t : List Int) (p : Nat) (w : World) (hws : c.ws.length = 10) (hr : c.r.At w w.heap.size) (hok : c.r.d.Ok) (ht : t.length = 10) (hp : p < 10) :
    Calls Try.prog 55 #[.agg c.cells.toArray, .agg (vals t), .int .i64 p] w fun e w' => e = .returned (.int .u8 (c.r.d.knownD c.ws t p)) ∧ Below w.heap.size w w' := by
  have hL0 : Lies ((w.alloc (.cells c.cells.toArray 84)).alloc (.cells (vals t) 86)) w.heap.size 84 c.cells.toArray := (Lies.fresh _ _ _).alloc _
  have hL1 : Lies ((w.alloc (.cells c.cells.toArray 84)).alloc (.cells (vals t) 86)) (w.heap.size + 1) 86 (vals t) := Lies.fresh' (by simp)
  have hB0 : Below w.heap.size w ((w.alloc (.cells c.cells.toArray 84)).alloc (.cells (vals t) 86)) := (by repeat (first | (with_reducible assumption) | (with_reducible exact Below.refl _ _) | (with_reducible refine Below.drew ?_) | (with_reducible refine below_drewN ?_ _) | ((with_reducible refine Below.setCell ?_ ?_ _); rotate_left; focus (first | (simp; done) | (simp; omega) | omega)) | ((with_reducible refine Below.alloc ?_ ?_ _); rotate_left; focus (first | (simp; done) | (simp; omega) | omega))))
  have hW := fun W => without_any c p W hws hp
  have hE := fun W (hb : Below w.heap.size w W) => earliestTruth_any ⟨c.r, withoutD c.ws p⟩ W ((withoutD_length _ _).trans hws) (hr.below hb hb.size) hok
  have hp0 : (0 : Int) ≤ (p : Int) := by omega
  have hp10 : (p : Int) < 10 := by omega
  have hv : t[p]? = some (t.getD p 0) := by simp [List.getD, show p < t.length by omega]
  have hsz : (Try.prog.info? 84).map (·.size) = some c.cells.toArray.size := by rw [List.size_toArray, c.len hws]; exact size_co
  have htw : TrW c.r.d.ws.length (c.r.d.earlyD (withoutD c.ws p)) := weeksE_ok _ _ (Nat.le_refl _)
  have hszt : (Try.prog.info? 86).map (·.size) = some (c.r.d.earlyD (withoutD c.ws p)).length := by rw [htw.len]; exact size_tr
  have hfit : 0 + (c.r.d.earlyD (withoutD c.ws p)).length ≤ (List.replicate 10 (0 : Int)).length := by rw [htw.len]; simp
  have hkd : c.r.d.knownD c.ws t p = if t.getD p 0 = 31 then 2 else if c.r.d.possB (withoutD c.ws p) (c.r.d.earlyD (withoutD c.ws p)) then 3 else 1 := rfl
  dsimp only at hE
  generalize c.r.d.possB (withoutD c.ws p) (c.r.d.earlyD (withoutD c.ws p)) = y at *
  generalize c.r.d.knownD c.ws t p = kd at *
  generalize c.r.d.earlyD (withoutD c.ws p) = tw at *
  have L0 := Lib.hid hL0
  have L1 := Lib.hid hL1
  have B0 := Lib.hid hB0
  have HW := Lib.hid hW
  have HE := Lib.hid hE
  have HV := Lib.hid hv
  have HSZ := Lib.hid hsz
  have HSZT := Lib.hid hszt
  have HFIT := Lib.hid hfit
  have HKD := Lib.hid hkd
  clear hL0 hL1 hB0 hW hE hv hsz hszt hfit hkd htw hws hr hok ht hp
  by_cases h31 : t.getD p 0 = 31
  · have h31' : (t.getD p 0 == 31) = true := by simpa using h31
    have HR := Lib.hid (show kd = 2 by rw [HKD.out, if_pos h31])
    clear h31
    go_enter Try.func55, Try.ntmps55
    go_upto_region 1 with (fail)
    change Code.wp _ _ _ _ ((w.alloc (.cells c.cells.toArray 84)).alloc (.cells (vals t) 86))
    generalize (w.alloc (.cells c.cells.toArray 84)).alloc (.cells (vals t) 86) = w1 at *
    have c1 : w1.cell? ⟨w.heap.size + 1, p, none⟩ = some (.int .i64 (t.getD p 0)) := by rw [L1.out.at_]; exact vals_at HV.out
    generalize t.getD p 0 = tk at *
    go_wp2
    go_ret
    exact ⟨by rw [HR.out]; rfl, B0.out⟩
  · have h31' : (t.getD p 0 == 31) = false := by simpa using h31
    have HR := Lib.hid (show kd = if y then 3 else 1 by rw [HKD.out, if_neg h31])
    clear h31
    cases y
    all_goals
      go_enter Try.func55, Try.ntmps55
      go_upto_region 1 with (fail)
      change Code.wp _ _ _ _ ((w.alloc (.cells c.cells.toArray 84)).alloc (.cells (vals t) 86))
      generalize (w.alloc (.cells c.cells.toArray 84)).alloc (.cells (vals t) 86) = w1 at *
      have c1 : w1.cell? ⟨w.heap.size + 1, p, none⟩ = some (.int .i64 (t.getD p 0)) := by rw [L1.out.at_]; exact vals_at HV.out
      generalize t.getD p 0 = tk at *
      go_wp2_with (first
        | (refine wpList_load_row (o := ⟨some 14, _, _, _, _, _⟩) ?_ 84 (.tmp 3) ?_ w.heap.size ?_ 84 c.cells.toArray (0, 0) _ L0.out Try.underlying84 rfl HSZ.out ?_; rfl; rfl; rfl)
        | (go_at_call 79; refine (HW.out _).mono ?_; rintro e w5 ⟨rfl, hb5⟩; have B5 := Lib.hid (B0.out.trans (hb5.mono B0.out.size)))
        | (go_at_call 72; refine (HE.out _ B5.out).mono ?_; rintro e w6 ⟨rfl, hb6⟩; have B6 := Lib.hid (B5.out.trans (hb6.mono B5.out.size)))
        | (refine wpList_store_ints (o := ⟨none, .store 86 (.tmp 7) _, _, _, _, _⟩) ?_ 86 (.tmp 7) (.tmp 18) ?_ w6.heap.size 0 ?_ 86 (List.replicate 10 0) tw ?_ (Lies.fresh w6 86 (vals (List.replicate 10 0))) HFIT.out HSZT.out ?_; rfl; rfl; rfl; rfl; intro w7 HS7 HO7))
      go_ret
      exact ⟨by rw [HR.out]; rfl, HO7.out.below (B6.out.alloc B6.out.size _) B6.out.size⟩
end Go.Proofs.Ytkjhofbjjogmlaa

/- Known. -/
namespace Go.Proofs.Ytkjhofbjjogmlaa
open Go.RowKit Go.Lib

def RwD.knowns (r : RwD) : List Int := (List.range r.dug.length).map (r.knownD r.wins r.earliest)
def RetE8 (l : List Int) (w : World) (e : Ending) (w' : World) : Prop := ∃ (A : Option Addr) (c : Nat), e = .returned (.tuple #[.slice A l.length c, .int .i64 0]) ∧ (A = none → l.length = 0 ∧ c = 0) ∧ Sl w' w'.heap.size 1 enc8 A l ∧ Below w.heap.size w w'
theorem lies_8 {V : World} {b : Nat} {x : Int} (h : Lies V b 5 #[.int .u8 x]) : Sl V V.heap.size 1 enc8 (some ⟨b, 0, none⟩) [x] := fun _ =>
  ⟨b, 0, rfl, h.in_, fun i y hy j u hu => by
    cases i with
    | zero =>
      simp at hy; subst hy
      cases j with
      | zero => simp [enc8] at hu; subst hu; exact h.at_ 0
      | succ j => simp [enc8] at hu
    | succ i => simp at hy⟩
set_option maxRecDepth 100000 in
set_option maxHeartbeats 4000000 in
theorem Known_no (r : RwM) (w : World) (hr : r.At w w.heap.size) (he : r.d.err ≠ 0) : Calls Try.prog 27 #[.agg r.cells.toArray] w (NoE r.d.err w) := by
  have l0 : Lies (w.alloc (.cells r.cells.toArray 34)) w.heap.size 34 r.cells.toArray := Lies.fresh _ _ _
  have b0 : Below w.heap.size w (w.alloc (.cells r.cells.toArray 34)) := (by repeat (first | (with_reducible assumption) | (with_reducible exact Below.refl _ _) | (with_reducible refine Below.drew ?_) | (with_reducible refine below_drewN ?_ _) | ((with_reducible refine Below.setCell ?_ ?_ _); rotate_left; focus (first | (simp; done) | (simp; omega) | omega)) | ((with_reducible refine Below.alloc ?_ ?_ _); rotate_left; focus (first | (simp; done) | (simp; omega) | omega))))
  have hQ := lookAt_no r _ (hr.below b0 b0.size) he
  generalize r.d.err = err at *
  have hfb : (err != 0) = true := by simpa using he
  have L0 := Lib.hid l0
  have B0 := Lib.hid b0
  have HQ := Lib.hid hQ
  clear l0 b0 hQ he hr
  go_enter Try.func27, Try.ntmps27
  go_upto_region 1 with (fail)
  change Code.wp _ _ _ _ (w.alloc (.cells r.cells.toArray 34))
  generalize w.alloc (.cells r.cells.toArray 34) = w0 at *
  go_wp2_with (first
    | (refine wpList_load_row (o := ⟨some 10, _, _, _, _, _⟩) ?_ 34 (.tmp 1) ?_ w.heap.size ?_ 34 r.cells.toArray (0, 0) _ L0.out Try.underlying34 rfl size_row ?_; rfl; rfl; rfl)
    | (go_at_call 47; refine HQ.out.mono ?_; rintro e w5 ⟨rfl, hb5⟩)
    | (refine wpList_store_cells (o := ⟨none, .store 84 (.tmp 4) _, _, _, _, _⟩) ?_ 84 (.tmp 4) (.tmp 12) ?_ w5.heap.size 0 ?_ 84 zco zco ?_ ((Lies.fresh w5 84 zco.toArray).alloc _) (by simp) size_zco zco_one ?_; rfl; rfl; rfl; rfl; intro w6 HS6 HO6)
    | (refine wpList_store_ints (o := ⟨none, .store 86 (.tmp 5) _, _, _, _, _⟩) ?_ 86 (.tmp 5) (.tmp 13) ?_ (w5.heap.size + 1) 0 ?_ 86 (List.replicate 10 0) (List.replicate 10 0) ?_ (HO6.out.lies (Lies.fresh' (by simp)) (by omega)) (by simp) size_ztr ?_; rfl; rfl; rfl; rfl; intro w7 HS7 HO7))
  go_ret2
  exact ⟨rfl, HO7.out.below (HO6.out.below (((B0.out.trans (hb5.mono B0.out.size)).alloc (B0.out.trans (hb5.mono B0.out.size)).size _).alloc (by have := (B0.out.trans (hb5.mono B0.out.size)).size; simp; omega) _) (B0.out.trans (hb5.mono B0.out.size)).size) (by have := (B0.out.trans (hb5.mono B0.out.size)).size; omega)⟩
set_option maxRecDepth 100000 in
set_option maxHeartbeats 8000000 in
theorem Known_yes (r : RwM) (w : World) (hr : r.At w w.heap.size) (he : r.d.err = 0) : Calls Try.prog 27 #[.agg r.cells.toArray] w (RetE8 r.d.knowns w) := by
  obtain ⟨hf, hc⟩ := err_zero he
  obtain ⟨hok, hn, hd, hlw, hln⟩ := fault_ok hf
  have l0 : Lies (w.alloc (.cells r.cells.toArray 34)) w.heap.size 34 r.cells.toArray := Lies.fresh _ _ _
  have b0 : Below w.heap.size w (w.alloc (.cells r.cells.toArray 34)) := (by repeat (first | (with_reducible assumption) | (with_reducible exact Below.refl _ _) | (with_reducible refine Below.drew ?_) | (with_reducible refine below_drewN ?_ _) | ((with_reducible refine Below.setCell ?_ ?_ _); rotate_left; focus (first | (simp; done) | (simp; omega) | omega)) | ((with_reducible refine Below.alloc ?_ ?_ _); rotate_left; focus (first | (simp; done) | (simp; omega) | omega))))
  have hQ := lookAt_yes r _ (hr.below b0 b0.size) hf hc
  have hlen : r.d.earliest.length = 10 := earliest_ok.len
  obtain ⟨N, hN⟩ : ∃ N, N = r.dug.l.length := ⟨_, rfl⟩
  have hnn : r.n = (N : Int) := by rw [hN]; exact hok.dug.symm
  have hN10 : N ≤ 10 := by have := hok.n1; have h2 : r.d.n = r.n := rfl; omega
  have hK := fun (p : Nat) W (hb : Below w.heap.size w W) (hp : p < N) => known_any r.co r.d.earliest p W r.d.wins_length (hr.below hb hb.size) hok hlen (by omega)
  change ∀ (p : Nat) W, Below w.heap.size w W → p < N → Calls Try.prog 55 #[.agg r.co.cells.toArray, .agg (vals r.d.earliest), .int .i64 p] W fun e w' => e = .returned (.int .u8 (r.d.knownD r.d.wins r.d.earliest p)) ∧ Below W.heap.size W w' at hK
  have hkn : r.d.knowns = (List.range N).map (r.d.knownD r.d.wins r.d.earliest) := by rw [hN]; rfl
  rw [hkn]
  clear hkn
  generalize r.d.knownD r.d.wins r.d.earliest = kd at *
  have hszc : (Try.prog.info? 84).map (·.size) = some r.co.cells.length := by rw [CoM.len _ r.d.wins_length]; exact size_co
  have hszcA : (Try.prog.info? 84).map (·.size) = some r.co.cells.toArray.size := by simpa using hszc
  have hszt : (Try.prog.info? 86).map (·.size) = some r.d.earliest.length := by rw [hlen]; exact size_tr
  have hwc : r.co.cells.length = zco.length := by rw [CoM.len _ r.d.wins_length]; rfl
  have hwt : r.d.earliest.length = (List.replicate 10 (0 : Int)).length := by rw [hlen]; rfl
  have L0 := Lib.hid l0
  have B0 := Lib.hid b0
  have HQ := Lib.hid hQ
  have HK := Lib.hid hK
  have HNN := Lib.hid hnn
  have HSC := Lib.hid hszc
  have HSCA := Lib.hid hszcA
  have HST := Lib.hid hszt
  have HWT := Lib.hid hwt
  have HWC := Lib.hid hwc
  have HFC := Lib.hid (show 0 + r.co.cells.length ≤ zco.length by rw [hwc]; simp)
  have HFT := Lib.hid (show 0 + r.d.earliest.length ≤ (List.replicate 10 (0 : Int)).length by rw [hwt]; simp)
  have HONE := Lib.hid (show ∀ v ∈ r.co.cells, v.oneCell' = true from co_one r r.d.wins)
  have hNz : (N : Int) ≤ 10 := by omega
  have hN0 : (0 : Int) ≤ (N : Int) := by omega
  clear l0 b0 hQ he hr hf hc hok hn hd hlw hln hlen hN hK hszc hszcA hszt hwc hwt hnn
  go_enter Try.func27, Try.ntmps27
  go_upto_region 1 with (fail)
  change Code.wp _ _ _ _ (w.alloc (.cells r.cells.toArray 34))
  generalize w.alloc (.cells r.cells.toArray 34) = w0 at *
  go_upto_region 2 with (first
    | (refine wpList_load_row (o := ⟨some 10, _, _, _, _, _⟩) ?_ 34 (.tmp 1) ?_ w.heap.size ?_ 34 r.cells.toArray (0, 0) _ L0.out Try.underlying34 rfl size_row ?_; rfl; rfl; rfl)
    | (go_at_call 47; refine HQ.out.mono ?_; rintro e w5 ⟨rfl, hb5⟩)
    | (refine wpList_store_cells (o := ⟨none, .store 84 (.tmp 4) _, _, _, _, _⟩) ?_ 84 (.tmp 4) (.tmp 12) ?_ w5.heap.size 0 ?_ 84 zco r.co.cells ?_ ((Lies.fresh w5 84 zco.toArray).alloc _) HFC.out HSC.out HONE.out ?_; rfl; rfl; rfl; rfl; intro w6 HS6 HO6)
    | (refine wpList_store_ints (o := ⟨none, .store 86 (.tmp 5) _, _, _, _, _⟩) ?_ 86 (.tmp 5) (.tmp 13) ?_ (w5.heap.size + 1) 0 ?_ 86 (List.replicate 10 0) r.d.earliest ?_ (HO6.out.lies (Lies.fresh' (by simp)) (by omega)) HFT.out HST.out ?_; rfl; rfl; rfl; rfl; intro w7 HS7 HO7; (try simp only [Act.put])))
  have hb7 : Below w.heap.size w w7 := HO7.out.below (HO6.out.below (((B0.out.trans (hb5.mono B0.out.size)).alloc (B0.out.trans (hb5.mono B0.out.size)).size _).alloc (by have := (B0.out.trans (hb5.mono B0.out.size)).size; simp; omega) _) (B0.out.trans (hb5.mono B0.out.size)).size) (by have := (B0.out.trans (hb5.mono B0.out.size)).size; omega)
  have hs7 := HS7.out
  rw [splice_all HWT.out] at hs7
  have hs6 := HS6.out
  rw [splice_whole HWC.out] at hs6
  have hgr : w.heap.size < w5.heap.size := Nat.lt_of_lt_of_le L0.out.in_ hb5.size
  have hr7 : Lies w7 w.heap.size 34 r.cells.toArray := HO7.out.lies (HO6.out.lies (((L0.out.call hb5).alloc _).alloc _) (by omega)) (by omega)
  have hc7 : w7.cell? ⟨w.heap.size, 0, none⟩ = some (.int .i64 N) := by rw [← HNN.out]; exact hr7.at_ 0
  have S7 := Lib.hid hs7
  have S6 := Lib.hid (HO7.out.lies hs6 (by omega))
  have B7 := Lib.hid hb7
  generalize w5.heap.size = g5 at *
  clear hs7 hs6 hb7 hr7 HS7 HO7 HS6 HO6 hb5 HQ L0 B0
  go_wp2
  clear hc7
  go_loopw [7, 8, 20] (fun s7 _ s20 wr => ∃ k : Nat, k ≤ N ∧ s20 = .int .i64 k ∧ Aside (Below w.heap.size w wr) ∧ Aside (Lies wr g5 84 r.co.cells.toArray) ∧ Aside (Lies wr (g5 + 1) 86 (vals r.d.earliest)) ∧ Aside (wr.ownsRow (g5 + 2) 5 1 s7 ((List.range k).map kd).length (((List.range k).map kd).flatMap enc8))) (fun _ _ i _ => N - (intOf i).toNat)
  case atStart => exact ⟨0, by omega, rfl, B7.out, S6.out, S7.out, (show World.ownsRow _ _ _ _ _ _ _ by simpa using World.ownsRow_nil _ _ _ _)⟩
  case round =>
    obtain ⟨k, hk, rfl, HB, HC, HT, HO⟩ := hrel
    have hza : g5 + 2 ≤ wr.heap.size := by have := HT.out.in_; omega
    by_cases hlt : k < N
    · have hltz : (k : Int) < (N : Int) := by omega
      have hk0 : (0 : Int) ≤ (k : Int) := by omega
      have HKK := Lib.hid (HK.out k wr HB.out hlt)
      have HTK := Lib.hid (show (List.range (k + 1)).map kd = (List.range k).map kd ++ [kd k] by rw [List.range_succ]; simp)
      have HLN := Lib.hid (show ((List.range k).map kd).length + 1 ≤ 1000 by simp; omega)
      generalize kd k = x at *
      generalize (List.range k).map kd = z at *
      clear S6 S7 B7
      go_wp2_with (first
        | (refine wpList_load_row (o := ⟨some 24, _, _, _, _, _⟩) ?_ 84 (.tmp 4) ?_ g5 ?_ 84 r.co.cells.toArray (0, 0) _ HC.out Try.underlying84 rfl HSCA.out ?_; rfl; rfl; rfl)
        | (refine wpList_load_ints (o := ⟨some 25, _, _, _, _, _⟩) ?_ 86 (.tmp 5) ?_ (g5 + 1) 0 ?_ 86 r.d.earliest r.d.earliest _ HT.out (fun j v h => by simpa using h) Try.underlying86 rfl HST.out ?_; rfl; rfl; rfl)
        | (go_at_call 55; refine HKK.out.mono ?_; rintro e w8 ⟨rfl, hb8⟩; have HBA := Lib.hid ((Below.refl w8.heap.size w8).alloc (Nat.le_refl _) (.cells #[.int .u8 x] 5)))
        | (refine wpList_app_u8 (o := ⟨some 29, _, _, _, _, _⟩) ?_ (.tmp 23) (.tmp 28) ?_ (g5 + 2) _ z ?_ (ownsRow_call (ownsRow_call HO.out hb8) HBA.out) (some ⟨w8.heap.size, 0, none⟩) 1 [x] ?_ (fun e => by cases e) (lies_8 (Lies.fresh w8 5 #[.int .u8 x])) HLN.out (by have := hb8.size; simp; omega) ?_; rfl; rfl; rfl; rfl; intro v4 w4 hown4 hb4 hg4))
      have hb9 : Below wr.heap.size wr (w8.alloc (.cells #[.int .u8 x] 5)) := hb8.trans (HBA.out.mono hb8.size)
      go_roundw
      case rel =>
        refine ⟨k + 1, by omega, by go_num, HB.out.trans ((hb9.mono HB.out.size).trans (hb4.mono (by have := HB.out.size; omega))), (HC.out.call hb9).below hb4 (by omega), (HT.out.call hb9).below hb4 (by omega), ?_⟩
        show World.ownsRow _ _ _ _ _ _ _
        rw [HTK.out]; exact hown4
      case measure => simp [intOf]; omega
    · obtain rfl : k = N := by omega
      clear S6 S7 B7
      generalize (List.range k).map kd = z at *
      obtain ⟨A, c, rfl, hA, hS⟩ := Sl.of_own (enc := enc8) (fun _ => rfl) HO.out rfl
      have HN := Lib.hid hA
      have HS := Lib.hid hS
      clear hA hS
      go_wp2
      go_ret2
      exact ⟨A, c, rfl, HN.out, HS.out, HB.out⟩
end Go.Proofs.Ytkjhofbjjogmlaa

/- tested. -/
namespace Go.Proofs.Ytkjhofbjjogmlaa
open Go.RowKit Go.Lib

def testN (W : Nat) (p : Int) : Nt := ⟨p, W, 1, false⟩
def RwD.testedD (r : RwD) (ws : List (Int × Int)) (ps : List Int) : List (Int × Int) := ps.foldl (fun ws p => noteD r.sh r.old ws (testN r.ws.length p)) ws
theorem testedD_length (r : RwD) : ∀ (ps : List Int) (ws : List (Int × Int)), (r.testedD ws ps).length = ws.length
  | [], _ => rfl
  | p :: ps, ws => by unfold RwD.testedD; rw [List.foldl_cons]; exact (testedD_length r ps _).trans (noteD_length _ _ _ _)
theorem testedD_take (r : RwD) (ws : List (Int × Int)) (ps : List Int) (k : Nat) (p : Int) (hp : ps[k]? = some p) : r.testedD ws (ps.take (k + 1)) = noteD r.sh r.old (r.testedD ws (ps.take k)) (testN r.ws.length p) := by
  unfold RwD.testedD; rw [List.take_add_one, hp]; simp
set_option maxRecDepth 100000 in
set_option maxHeartbeats 4000000 in
theorem tested_any (c : CoM) (A : Option Addr) (cap : Nat) (ps : List Int) (w : World) (hws : c.ws.length = 10) (hok : c.r.d.Ok) (hA : Sl w w.heap.size 1 encI A ps) (hl : ps.length ≤ 1000000) (hp : ∀ p, p ∈ ps → 0 ≤ p ∧ p < 10) :
    Calls Try.prog 89 #[.agg c.cells.toArray, .slice A ps.length cap] w fun e w' => e = .returned (.agg (CoM.cells ⟨c.r, c.r.d.testedD c.ws ps⟩).toArray) ∧ Below w.heap.size w w' := by
  obtain ⟨r, ws⟩ := c
  dsimp only at hws hok ⊢
  obtain ⟨W, hW⟩ : ∃ W, W = r.ws.l.length := ⟨_, rfl⟩
  have hW30 : W ≤ 30 := by rw [hW]; exact hok.nw
  have hsh := hok.sh
  have hold := hok.old
  have l0 : Lies ((w.alloc (.cells (CoM.cells ⟨r, ws⟩).toArray 84)).alloc (.cells zco.toArray 84)) w.heap.size 84 (CoM.cells ⟨r, ws⟩).toArray := (Lies.fresh _ _ _).alloc _
  have l1 : Lies ((w.alloc (.cells (CoM.cells ⟨r, ws⟩).toArray 84)).alloc (.cells zco.toArray 84)) (w.heap.size + 1) 84 zco.toArray := Lies.fresh' (by simp)
  have b0 : Below w.heap.size w ((w.alloc (.cells (CoM.cells ⟨r, ws⟩).toArray 84)).alloc (.cells zco.toArray 84)) := (by repeat (first | (with_reducible assumption) | (with_reducible exact Below.refl _ _) | (with_reducible refine Below.drew ?_) | (with_reducible refine below_drewN ?_ _) | ((with_reducible refine Below.setCell ?_ ?_ _); rotate_left; focus (first | (simp; done) | (simp; omega) | omega)) | ((with_reducible refine Below.alloc ?_ ?_ _); rotate_left; focus (first | (simp; done) | (simp; omega) | omega))))
  have hN := fun (wk : List (Int × Int)) (hk : wk.length = 10) (g : Nat) (x : Nt) (hx : x.Fit) V (hg : Sl V V.heap.size 4 encN (some ⟨g, 0, none⟩) [x]) => noted_any r wk (some ⟨g, 0, none⟩) 1 [x] V hk hg (by simp) (fun y hy => by simp at hy; subst hy; exact hx) hsh.1 (Int.le_trans hsh.2 (by decide)) hold.1 (Int.le_trans hold.2 (by decide))
  have hd : r.d.ws.length = W := hW.symm
  have L0 := Lib.hid l0
  have L1 := Lib.hid l1
  have B0 := Lib.hid b0
  have HA := Lib.hid hA
  have HP := Lib.hid hp
  have HN := Lib.hid hN
  have HWS := Lib.hid hws
  have HWW := Lib.hid hW
  have HD := Lib.hid hd
  clear l0 l1 b0 hA hp hN hws hok hW hd hsh hold
  go_enter Try.func89, Try.ntmps89
  go_upto_region 1 with (fail)
  change Code.wp _ _ _ _ ((w.alloc (.cells (CoM.cells ⟨r, ws⟩).toArray 84)).alloc (.cells zco.toArray 84))
  generalize (w.alloc (.cells (CoM.cells ⟨r, ws⟩).toArray 84)).alloc (.cells zco.toArray 84) = w0 at *
  go_wp2
  go_loopw [6, 9] (fun _ s9 wr => ∃ k : Nat, k ≤ ps.length ∧ s9 = .int .i64 k ∧ Aside (Below w.heap.size w wr) ∧ Aside (Lies wr w.heap.size 84 (CoM.cells ⟨r, r.d.testedD ws (ps.take k)⟩).toArray) ∧ Aside (Lies wr (w.heap.size + 1) 84 zco.toArray)) (fun _ i _ => ps.length - (intOf i).toNat)
  case atStart => exact ⟨0, by omega, rfl, B0.out, L0.out, L1.out⟩
  case round =>
    obtain ⟨k, hk, rfl, HB, HL, HZ⟩ := hrel
    have hlen : (r.d.testedD ws (ps.take k)).length = 10 := (testedD_length _ _ _).trans HWS.out
    by_cases hlt : k < ps.length
    · have hltz : (k : Int) < (ps.length : Int) := by omega
      have hk0 : (0 : Int) ≤ (k : Int) := by omega
      obtain ⟨x, hx⟩ : ∃ x, ps[k]? = some x := ⟨ps[k], by simp [hlt]⟩
      obtain ⟨b, off, rfl, hb, c0⟩ := HA.out.cell1 hx
      have l2 : wr.cell? ⟨b, off + k, none⟩ = some (.int .i64 x) := by rw [HB.out.cell (p := ⟨b, off + k, none⟩) hb]; exact c0
      have hxp := HP.out x (List.mem_of_getElem? hx)
      have htk := testedD_take r.d ws ps k x hx
      rw [HD.out] at htk
      have c1 : wr.cell? ⟨w.heap.size, 1, none⟩ = some (.slice r.ws.A W r.ws.c) := by rw [HWW.out]; exact HL.out.at_ 1
      have hfitx : (testN W x).Fit := ⟨hxp.1, hxp.2, .inr rfl, by show (0 : Int) ≤ (W : Int); omega, by show (W : Int) ≤ 1000; omega⟩
      generalize r.d.testedD ws (ps.take k) = wk at *
      have hnd : (noteD r.d.sh r.d.old wk (testN W x)).length = 10 := (noteD_length _ _ _ _).trans hlen
      have hsz : (Try.prog.info? 84).map (·.size) = some (CoM.cells ⟨r, wk⟩).toArray.size := by rw [List.size_toArray, CoM.len _ hlen]; exact size_co
      have hsz2 : (Try.prog.info? 84).map (·.size) = some (CoM.cells ⟨r, noteD r.d.sh r.d.old wk (testN W x)⟩).length := by rw [CoM.len _ hnd]; exact size_co
      have hfit : 0 + (CoM.cells ⟨r, noteD r.d.sh r.d.old wk (testN W x)⟩).length ≤ (CoM.cells ⟨r, wk⟩).length := by rw [CoM.len _ hnd, CoM.len _ hlen]; omega
      have hwh : (CoM.cells ⟨r, noteD r.d.sh r.d.old wk (testN W x)⟩).length = (CoM.cells ⟨r, wk⟩).length := by rw [CoM.len _ hnd, CoM.len _ hlen]
      have hNN : ∀ (g : Nat) V, Sl V V.heap.size 4 encN (some ⟨g, 0, none⟩) [testN W x] → Calls Try.prog 75 #[.agg (CoM.cells ⟨r, wk⟩).toArray, .slice (some ⟨g, 0, none⟩) 1 1] V fun e w' => e = .returned (.agg (CoM.cells ⟨r, noteD r.d.sh r.d.old wk (testN W x)⟩).toArray) ∧ Below V.heap.size V w' := fun g V h => HN.out wk hlen g (testN W x) hfitx V h
      have HNN := Lib.hid hNN
      have HSZ := Lib.hid hsz
      have HSZ2 := Lib.hid hsz2
      have HFIT := Lib.hid hfit
      have HWH := Lib.hid hwh
      have HTK := Lib.hid htk
      clear hx c0 hb htk hlen hnd hsz hsz2 hfit hwh hNN hfitx L0 L1 B0
      go_wp2_with (first
        | (refine wpList_load_row (o := ⟨some 13, _, _, _, _, _⟩) ?_ 84 (.tmp 2) ?_ w.heap.size ?_ 84 (CoM.cells ⟨r, wk⟩).toArray (0, 0) _ HL.out Try.underlying84 rfl HSZ.out ?_; rfl; rfl; rfl)
        | (go_at_call 75; refine (HNN.out wr.heap.size _ (Sl.lit1 wr 4 61 encN (testN W x))).mono ?_; rintro e w5 ⟨rfl, hb5⟩)
        | (refine wpList_store_cells (o := ⟨none, .store 84 (.tmp 2) _, _, _, _, _⟩) ?_ 84 (.tmp 2) (.tmp 21) ?_ w.heap.size 0 ?_ 84 (CoM.cells ⟨r, wk⟩) (CoM.cells ⟨r, noteD r.d.sh r.d.old wk (testN W x)⟩) ?_ ((HL.out.alloc _).call hb5) HFIT.out HSZ2.out (co_one _ _) ?_; rfl; rfl; rfl; rfl; intro w9 HS9 HO9))
      have hs9 := HS9.out
      rw [splice_whole HWH.out] at hs9
      have B5 : Below w.heap.size w w5 := (HB.out.alloc HB.out.size _).trans (hb5.mono (HB.out.alloc HB.out.size _).size)
      go_roundw
      case rel =>
        refine ⟨k + 1, by omega, by go_num, HO9.out.below B5 (Nat.le_refl _), ?_, HO9.out.lies ((HZ.out.alloc _).call hb5) (by omega)⟩
        show Lies _ _ _ _
        rw [HTK.out]; exact hs9
      case measure => simp [intOf]; omega
    · obtain rfl : k = ps.length := by omega
      rw [List.take_of_length_le (Nat.le_refl _)] at HL hlen
      have hsz : (Try.prog.info? 84).map (·.size) = some (CoM.cells ⟨r, r.d.testedD ws ps⟩).length := by rw [CoM.len _ hlen]; exact size_co
      have hsz2 : (Try.prog.info? 84).map (·.size) = some (CoM.cells ⟨r, r.d.testedD ws ps⟩).toArray.size := by simpa using hsz
      have hfit : 0 + (CoM.cells ⟨r, r.d.testedD ws ps⟩).length ≤ zco.length := by rw [CoM.len _ hlen]; decide
      have hwhole : (CoM.cells ⟨r, r.d.testedD ws ps⟩).length = zco.length := by rw [CoM.len _ hlen]; rfl
      have HSZ := Lib.hid hsz
      have HSZ2 := Lib.hid hsz2
      have HFIT := Lib.hid hfit
      have HONE := Lib.hid (co_one r (r.d.testedD ws ps))
      have HWH := Lib.hid hwhole
      clear hsz hsz2 hfit hwhole hlen L0 L1 B0
      go_wp2_with (first
        | (refine wpList_load_row (o := ⟨some 23, _, _, _, _, _⟩) ?_ 84 (.tmp 2) ?_ w.heap.size ?_ 84 (CoM.cells ⟨r, r.d.testedD ws ps⟩).toArray (0, 0) _ HL.out Try.underlying84 rfl HSZ2.out ?_; rfl; rfl; rfl)
        | (refine wpList_store_cells (o := ⟨none, .store 84 (.tmp 4) _, _, _, _, _⟩) ?_ 84 (.tmp 4) (.tmp 23) ?_ (w.heap.size + 1) 0 ?_ 84 zco (CoM.cells ⟨r, r.d.testedD ws ps⟩) ?_ HZ.out HFIT.out HSZ.out HONE.out ?_; rfl; rfl; rfl; rfl; intro w8 HS8 HO8))
      have hs8 := HS8.out
      rw [splice_whole HWH.out] at hs8
      exact bodyPost_ret (results_cell_row rfl _ _ (w.heap.size + 1) 84 (CoM.cells ⟨r, r.d.testedD ws ps⟩).toArray (0, 0) _ rfl hs8 Try.underlying84 rfl HSZ2.out) rfl ⟨rfl, HO8.out.below HB.out (by omega)⟩
end Go.Proofs.Ytkjhofbjjogmlaa

/- standsLast; those; what its iterator gives for standsLast. -/
namespace Go.Proofs.Ytkjhofbjjogmlaa
open Go.RowKit Go.Lib
attribute [local go_sem] Oper.semAt_some

set_option maxRecDepth 100000 in
theorem method_slC (n : Nat) (v0 v1 v2 v3 v4 v5 v6 v7 v8 v9 v10 v11 v12 v13 v14 v15 v16 v17 v18 v19 v20 v21 v22 v23 v24 v25 v26 v27 : Value) (w : World) :
    (method (n + 1) 84 (.agg #[v0, v1, v2, v3, v4, v5, v6, v7, v8, v9, v10, v11, v12, v13, v14, v15, v16, v17, v18, v19, v20, v21, v22, v23, v24, v25, v26, v27]) "bybloem/ill.standsLast").run Try.prog w = .ok (87, .agg #[v0, v1, v2, v3, v4, v5, v6, v7]) w := by kernel_rfl
theorem method_slL (n : Nat) (w : World) : ∀ (l : List Value), l.length = 28 → (method (n + 1) 84 (.agg l.toArray) "bybloem/ill.standsLast").run Try.prog w = .ok (87, .agg (l.take 8).toArray) w
  | [v0, v1, v2, v3, v4, v5, v6, v7, v8, v9, v10, v11, v12, v13, v14, v15, v16, v17, v18, v19, v20, v21, v22, v23, v24, v25, v26, v27], _ => method_slC n v0 v1 v2 v3 v4 v5 v6 v7 v8 v9 v10 v11 v12 v13 v14 v15 v16 v17 v18 v19 v20 v21 v22 v23 v24 v25 v26 v27 w
theorem method_sl (c : CoM) (h : c.ws.length = 10) (n : Nat) (hn : n ≠ 0) (w : World) : (method n 84 (.agg c.cells.toArray) "bybloem/ill.standsLast").run Try.prog w = .ok (87, .agg c.r.cells.toArray) w := by
  obtain ⟨m, rfl⟩ : ∃ m, n = m + 1 := ⟨n - 1, by omega⟩
  have := method_slL m w c.cells (c.len h)
  rw [this]
  have e : c.cells.take 8 = c.r.cells := by
    unfold CoM.cells
    rw [show 8 = c.r.cells.length from rfl, List.take_left]
  rw [e]
theorem enters_sl : ∀ args w, (callFunc 87 args).run Try.prog w = .ok (.enter 87 args) w := enters_of Try.func87 (by kernel_rfl) rfl
def RwD.lastB (r : RwD) (p : Nat) : Bool := stB (r.dg p) r.ws.length
theorem dug_at {r : RwM} {p : Nat} (h : p < r.dug.l.length) : r.dug.l[p]? = some (r.d.dg p) := by show r.dug.l[p]? = some (r.dug.l.getD p 0); simp [List.getD, h]
set_option maxHeartbeats 1000000 in
theorem standsLast_any (r : RwM) (p : Nat) (w : World) (hr : r.At w w.heap.size) (hp : p < r.dug.l.length) :
    Calls Try.prog 87 #[.agg r.cells.toArray, .int .i64 p] w fun e w' => e = .returned (.bool (r.d.lastB p)) ∧ Below w.heap.size w w' := by
  have l0 : Lies (w.alloc (.cells r.cells.toArray 34)) w.heap.size 34 r.cells.toArray := Lies.fresh _ _ _
  have b0 : Below w.heap.size w (w.alloc (.cells r.cells.toArray 34)) := (by repeat (first | (with_reducible assumption) | (with_reducible exact Below.refl _ _) | (with_reducible refine Below.drew ?_) | (with_reducible refine below_drewN ?_ _) | ((with_reducible refine Below.setCell ?_ ?_ _); rotate_left; focus (first | (simp; done) | (simp; omega) | omega)) | ((with_reducible refine Below.alloc ?_ ?_ _); rotate_left; focus (first | (simp; done) | (simp; omega) | omega))))
  have hlw := hr.lw
  have hS := stands_any r p (r.d.dg p) r.ws.l.length _ ((hr.below b0 b0.size).dug) (dug_at hp) hr.ld
  have hrr : r.d.lastB p = stB (r.d.dg p) r.ws.l.length := rfl
  rw [hrr]
  have L0 := Lib.hid l0
  have B0 := Lib.hid b0
  have HS := Lib.hid hS
  clear l0 b0 hS hr hrr
  go_enter Try.func87, Try.ntmps87
  go_upto_region 1 with (fail)
  change Code.wp _ _ _ _ (w.alloc (.cells r.cells.toArray 34))
  generalize w.alloc (.cells r.cells.toArray 34) = w0 at *
  have a1 : w0.cell? ⟨w.heap.size, 1, none⟩ = some (.slice r.ws.A r.ws.l.length r.ws.c) := L0.out.at_ 1
  go_wp2_with (first
    | (refine wpList_load_row (o := ⟨some 5, _, _, _, _, _⟩) ?_ 34 (.tmp 2) ?_ w.heap.size ?_ 34 r.cells.toArray (0, 0) _ L0.out Try.underlying34 rfl size_row ?_; rfl; rfl; rfl)
    | (go_at_call 91; refine HS.out.mono ?_; rintro e w5 ⟨rfl, hb5⟩))
  go_ret
  exact ⟨rfl, B0.out.trans (hb5.mono B0.out.size)⟩
def encQ' (q : Nat) : Array Value := #[.int .i64 q]
/-- The plants of which something holds. -/
def thoseD (h : Nat → Bool) (n : Nat) : List Nat := (List.range n).filter h
theorem thoseD_succ (h : Nat → Bool) (n : Nat) : thoseD h (n + 1) = thoseD h n ++ (if h n then [n] else []) := by
  unfold thoseD; rw [List.range_succ, List.filter_append]; simp only [List.filter_cons, List.filter_nil]
theorem thoseD_at (h : Nat → Bool) {m N : Nat} (hm : m < N) (hh : h m = true) : (thoseD h N)[(thoseD h m).length]? = some m := by
  obtain ⟨n, rfl⟩ : ∃ n, N = (m + 1) + n := ⟨N - (m + 1), by omega⟩
  have e : thoseD h (m + 1 + n) = thoseD h (m + 1) ++ (List.range' (m + 1) n).filter h := by
    unfold thoseD
    rw [List.range_eq_range', List.range_eq_range', ← List.filter_append]
    congr 1
    have := List.range'_append_1 (s := 0) (m := m + 1) (n := n)
    rw [Nat.zero_add] at this
    exact this.symm
  rw [e, thoseD_succ, if_pos hh, List.append_assoc, List.getElem?_append_right (Nat.le_refl _), Nat.sub_self]
  rfl
theorem those_any (c : CoM) (hv : Value) (w : World) (h1 : hv.oneCell' = true) (h2 : ∃ f a b, hv = .func f a b) :
    Calls Try.prog 83 #[.agg c.cells.toArray, hv] w fun e w' => e = .returned (.func (.func 99) #[] #[.pointer (some ⟨w.heap.size, 0, none⟩), .pointer (some ⟨w.heap.size + 1, 0, none⟩)]) ∧ (w.alloc (.cells c.cells.toArray 84)).alloc (.cells #[hv] 126) = w' := by
  obtain ⟨f, a, b, rfl⟩ := h2
  go_enter Try.func83, Try.ntmps83
  go_wp2
  go_ret
  exact ⟨rfl, rfl⟩
end Go.Proofs.Ytkjhofbjjogmlaa

/- A range over a function whose iterator makes nothing that turns: the law for the caller. -/
namespace Go.Proofs.Ytkjhofbjjogmlaa
open Go.RowKit Go.Lib

/-- The iterator gives just the elements of xs, in their order; it makes nothing of its own that turns. -/
def GivesN {α : Type} (n : Nat) (P : Program) (g : Nat) (lb : Array Value) (encs : Nat → α → Array Value) (xs : List α) (w : World) (Own : Nat → α → World → Prop) (St : World → Prop) : Prop :=
  ∀ (l : Nat) (J : Nat → World → Prop) (Jx : Nat → World → Prop) (W : World), Below w.heap.size w W → (∀ k A, J k A → St A) →
    (∀ k A A', J k A → Below A.heap.size A A' → J k A') →
    (∀ k x A, xs[k]? = some x → J k A → Own W.heap.size x A → YieldAt Fence.wide (n - 1) P l (encs W.heap.size x) A fun e A' =>
      (e = .returned (.bool true) ∧ J (k + 1) A' ∧ Own W.heap.size x A') ∨ (e = .returned (.bool false) ∧ Jx (k + 1) A')) →
    J 0 W →
    CallsIn Fence.wide n P g (#[.func (.yield l) #[] #[]] ++ lb) W fun e A => (∃ v, e = .returned v) ∧ (J xs.length A ∨ ∃ k, k ≤ xs.length ∧ Jx k A)
section
variable {P : Program}
theorem range_givesN {α : Type} {g : Operand} {ps : Array Tmp} {assign body : Code} {Q : Exit → Act → World → Prop} {a : Act} {w : World} (n : Nat) {gf : Nat} {lb : Array Value} (hg : a.eval g = .func (.func gf) #[] lb) (eg : ∀ args w, (callFunc gf args).run P w = .ok (.enter gf args) w)
    {encs : Nat → α → Array Value} {xs : List α} {w0 : World} {Own : Nat → α → World → Prop} {St : World → Prop} (hseq : GivesN (n - 1) P gf lb encs xs w0 Own St) (hb0 : Below w0.heap.size w0 w) (hps : ∀ b x, (encs b x).size = ps.size)
    (hO : ∀ b x A A', Own b x A → Recs w.heap.size A A' → Own b x A')
    (I : Nat → World → Prop) (Ix : Code → Nat → World → Prop) (hI : ∀ k A A', I k A → Recs w.heap.size A A' → I k A') (hIs : ∀ k A A', I k A → Below A.heap.size A A' → I k A') (hIx : ∀ c k A A', Ix c k A → Recs w.heap.size A A' → Ix c k A') (h0 : I 0 w) (hSt : ∀ k A, I k A → St A)
    (Ax : α → Act → World → Prop) (hAx : ∀ x a' A A', Ax x a' A → Recs w.heap.size A A' → Ax x a' A')
    (hassign : ∀ (l : Nat) (k : Nat) (x : α) (W : World) (K : Act → World → Prop), xs[k]? = some x → I k W → Own (w.heap.size + 2) x W → (∀ a' W', KeepsFrom w.heap.size W W' → I k W' → Own (w.heap.size + 2) x W' → Ax x a' W' → K a' W') →
      assign.wpIn (Fence.wide.inRound l) (n - 1 - 1) P (Exit.then K (fun _ _ _ => False)) { tmps := (ps.zip (encs (w.heap.size + 2) x)).foldl (fun t (p, v) => t.setIfInBounds p v) a.tmps, defers := [] } W)
    (hbody : ∀ (l : Nat) (k : Nat) (x : α) (a' : Act) (W : World), w.heap.size ≤ l → xs[k]? = some x → I k W → Own (w.heap.size + 2) x W → Ax x a' W → body.wpIn (Fence.wide.inRound l) (n - 1 - 1) P (bodyPostB w.heap.size I Ix (Own (w.heap.size + 2) x) (k + 1) W) a' W)
    (hdone : ∀ (D : Nat) (W : World), w.heap.size ≤ D → I xs.length W → W.heap[D]? = some (.deferred (some [])) → Q .normal { a with defers := { target := .collected D, args := #[] } :: a.defers } W)
    (hstop : ∀ (D : Nat) (c : Code) (k : Nat) (W : World), w.heap.size ≤ D → k ≤ xs.length → Ix c k W → W.heap[D]? = some (.deferred (some [])) → c.wpIn Fence.wide n P Q { a with defers := { target := .collected D, args := #[] } :: a.defers } W) :
    (Code.rangeFunc g ps assign body).wp P Q a w := by
  refine (wpIn_wide (n := n)).1 (wpIn_rangeFunc fun fn hfn => ?_)
  have hro : Fence.wide.round = none := rfl
  rw [hro]
  obtain ⟨rec, hrec⟩ : ∃ rec : LoopState → Option Code → Loop, rec = fun st pe => { state := st, pending := pe, fn, tmps := a.tmps, params := ps, assign, body, defers := w.heap.size } := ⟨_, rfl⟩
  obtain ⟨W1, hW1⟩ : ∃ W1, (w.alloc (.deferred (some []))).alloc (.loop (rec .ready none)) = W1 := ⟨_, rfl⟩
  have hs1 : W1.heap.size = w.heap.size + 2 := by rw [← hW1]; simp
  have hl1 : W1.heap[w.heap.size + 1]? = some (.loop (rec .ready none)) := by
    rw [← hW1]
    have := heap_alloc_new (w.alloc (.deferred (some []))) (.loop (rec .ready none))
    rwa [World.size_alloc] at this
  have hd1 : W1.heap[w.heap.size]? = some (.deferred (some [])) := by
    rw [← hW1, heap_alloc_old _ _ (by simp)]; exact heap_alloc_new _ _
  have hi1 : I 0 W1 := by rw [← hW1]; exact hI _ _ _ (hI _ _ _ h0 (Recs.alloc _ _ _)) (Recs.alloc _ _ _)
  have hb1 : Below w0.heap.size w0 W1 := by
    rw [← hW1]; exact (hb0.alloc hb0.size _).alloc (by simp; have := hb0.size; omega) _
  refine ⟨w.heap.size + 1, [{ target := .collected w.heap.size, args := #[] }], W1, { target := .fn (.func gf) lb, args := #[.func (.yield (w.heap.size + 1)) #[] #[]] }, W1, gf, #[.func (.yield (w.heap.size + 1)) #[] #[]] ++ lb, W1, ?_, ?_, fun _ _ => trivial, ?_, (fun h => by cases h), ?_⟩
  · rw [← hW1, hrec]; exact run_enterLoop_outer _ _ _ _ _
  · simp only [resolve, hg]; simp [go_sem]
  · simp [invoke, go_sem, eg]
  have hcall := hseq (w.heap.size + 1) (fun k A => I k A ∧ A.heap[w.heap.size + 1]? = some (.loop (rec .ready none)) ∧ A.heap[w.heap.size]? = some (.deferred (some [])))
    (fun k A => ∃ c, Ix c k A ∧ A.heap[w.heap.size + 1]? = some (.loop (rec .done (some c))) ∧ A.heap[w.heap.size]? = some (.deferred (some []))) W1 hb1 (fun k A hs => hSt k A hs.1)
  rw [hs1] at hcall
  refine (hcall (fun k A A' hs ht => ⟨hIs _ _ _ hs.1 ht, (ht.block _ (Array.getElem?_eq_some_iff.1 hs.2.1).1).trans hs.2.1, (ht.block _ (Array.getElem?_eq_some_iff.1 hs.2.2).1).trans hs.2.2⟩) ?_ ⟨hi1, hl1, hd1⟩).mono ?_
  · rintro k x A hx ⟨hi, hl, hd⟩ ho
    have hy := run_yield (P := P) (args := encs (w.heap.size + 2) x) hl (by rw [hrec]; exact hps _ x)
    rw [hrec] at hy
    refine ⟨fn, _, assign, body, hy, roundIn_of_wpIn hfn (hassign _ k x A _ hx hi ho ?_)⟩
    intro a' A' hkf hi' ho' hax
    have hl' := hkf.same _ _ (by omega) hl rfl
    have hd' := hkf.same _ _ (Nat.le_refl _) hd rfl
    have hbd := hbody (w.heap.size + 1) k x a' (A'.putObj (w.heap.size + 1) (.loop { rec .ready none with state := .busy })) (by omega) hx (hI _ _ _ hi' (Recs.put _ (by omega) hl' rfl)) (hO _ _ _ _ ho' (Recs.put _ (by omega) hl' rfl)) (hAx _ _ _ _ hax (Recs.put _ (by omega) hl' rfl))
    obtain ⟨W2, hbeg, hrun⟩ := round_givesB (l := w.heap.size + 1) rec hrec (by omega) hI hIx (hO _ _) hl' hd' hbd
    refine ⟨W2, hbeg, wpIn_mono hrun ?_⟩
    rintro e a3 W3 ⟨jump, W4, hj, hend, hd4, hm⟩
    cases e with
    | normal =>
      subst hj
      obtain ⟨⟨hi4, ho4⟩, hl4⟩ := hm
      exact ⟨_, _, hend, .inl ⟨rfl, ⟨hi4, hl4, hd4⟩, ho4⟩⟩
    | ret =>
      subst hj
      exact ⟨_, _, hend, .inr ⟨rfl, .ret, hm.1, hm.2, hd4⟩⟩
    | exit id =>
      subst hj
      exact ⟨_, _, hend, .inr ⟨rfl, .exit id, hm.1, hm.2, hd4⟩⟩
    | goto t =>
      subst hj
      exact ⟨_, _, hend, .inr ⟨rfl, .goto t, hm.1, hm.2, hd4⟩⟩
    | panic ch => exact hj.elim
    | outgrown => exact hj.elim
  · rintro e A ⟨⟨v, rfl⟩, (⟨hi, hl, hd⟩ | ⟨k, hk, c, hi, hl, hd⟩)⟩
    · refine ⟨none, _, by have := run_endLoop (P := P) hl (by rw [hrec]; simp); rw [hrec] at this; exact this, hdone _ _ (Nat.le_refl _) (hI _ _ _ hi (Recs.put _ (by omega) hl rfl)) ((World.putObj_heap_other (by omega)).trans hd)⟩
    · refine ⟨some c, _, by have := run_endLoop (P := P) hl (by rw [hrec]; simp); rw [hrec] at this; exact this, hstop _ c k _ (Nat.le_refl _) hk (hIx _ _ _ _ hi (Recs.put _ (by omega) hl rfl)) ((World.putObj_heap_other (by omega)).trans hd)⟩
end
theorem own_recs {w w' : World} {base D : Nat} {e : TypeId} {size : Nat} {v : Value} {n : Nat} {xs : List Value} (h : w.ownsRow base e size v n xs) (hr : Recs D w w') : w'.ownsRow base e size v n xs :=
  own_keep h fun k hv => by
    obtain ⟨_, _, cs, hl⟩ := own_at h hv
    have h1 : w.heap[k]? = some _ := hl
    have h2 : w'.heap[k]? = some _ := hr.lies hl
    rw [h1, h2]
end Go.Proofs.Ytkjhofbjjogmlaa

/- those's iterator for standsLast. -/
namespace Go.Proofs.Ytkjhofbjjogmlaa
open Go.RowKit Go.Lib
attribute [local go_sem] Oper.semAt_some

set_option maxRecDepth 100000 in
set_option maxHeartbeats 8000000 in
theorem those1_gives_sl (n : Nat) (hn : 1 ≤ n) (c : CoM) (gc gh N : Nat) (w : World) (hws : c.ws.length = 10) (hok : c.r.d.Ok) (hN : c.r.dug.l.length = N) (St : World → Prop) (hSt : ∀ W, St W → Lies W gc 84 c.cells.toArray ∧ Lies W gh 126 #[.func (.methodOf 84 "bybloem/ill.standsLast") #[] #[]] ∧ c.r.At W W.heap.size) :
    GivesN n Try.prog 99 #[.pointer (some ⟨gc, 0, none⟩), .pointer (some ⟨gh, 0, none⟩)] (fun _ => encQ) (thoseD (c.r.d.lastB) N) w (fun _ _ _ => True) St := by
  intro l' J Jx W hbW hJS hJ hY h0
  have hnn : c.r.n = (N : Int) := by rw [← hN]; exact hok.dug.symm
  have hN10 : N ≤ 10 := by have := hok.n1; have h2 : c.r.d.n = c.r.n := rfl; omega
  have HPT := Lib.hid (fun k A (h : J k A) => hSt A (hJS k A h))
  have HY := Lib.hid hY
  have HJ := Lib.hid hJ
  have H0 := Lib.hid h0
  have hsz : (Try.prog.info? 84).map (·.size) = some c.cells.toArray.size := by rw [List.size_toArray, c.len hws]; exact size_co
  have HSZ := Lib.hid hsz
  have HWS := Lib.hid hws
  have HOK := Lib.hid hok
  have c0 : W.cell? ⟨gc, 0, none⟩ = some (.int .i64 N) := by rw [← hnn, (HPT.out _ _ H0.out).1.at_]; exact co_n c
  have hNz : (N : Int) ≤ 10 := by omega
  have hN0 : (0 : Int) ≤ (N : Int) := by omega
  have HNN := Lib.hid hN
  clear hJS hY hJ h0 hSt hbW hok hnn hsz hws hN
  generalize hhd : c.r.d.lastB = hd at *
  have HHD := Lib.hid hhd
  clear hhd
  refine callsIn_of_wp Try.func99 rfl trivial ?_ rfl
  refine wpIn_wide.2 ?_
  simp only [Try.ntmps99, List.size_toArray, List.length_cons, List.length_nil, Nat.reduceAdd, Nat.reduceSub, Array.replicate_succ, Array.replicate_zero, List.push_toArray, List.append_toArray, List.nil_append, List.cons_append]
  go_wp2
  clear c0
  go_loopw [4, 8] (fun _ s8 wr => ∃ q : Nat, q ≤ N ∧ s8 = .int .i64 q ∧ Aside (J (thoseD hd q).length wr)) (fun _ i _ => N - (intOf i).toNat)
  case atStart => exact ⟨0, by omega, rfl, H0.out⟩
  case round =>
    obtain ⟨q, hq, rfl, NN⟩ := hrel
    obtain ⟨hsc, hsh, hra⟩ := HPT.out _ _ NN.out
    by_cases hlt : q < N
    · have hltz : (q : Int) < (N : Int) := by omega
      have hq0 : (0 : Int) ≤ (q : Int) := by omega
      have c2 : wr.cell? ⟨gh, 0, none⟩ = some (.func (.methodOf 84 "bybloem/ill.standsLast") #[] #[]) := hsh.at_ 0
      have hst := standsLast_any c.r q wr hra (by rw [HNN.out]; exact hlt)
      rw [HHD.out] at hst
      have hinv := method_sl c HWS.out
      have hent := enters_sl
      have HST := Lib.hid hst
      have HC := Lib.hid hsc
      have HSU := Lib.hid (thoseD_succ hd q)
      have HAT := Lib.hid (fun h => thoseD_at hd hlt h)
      clear hst hsc hsh hra
      cases hsb : hd q with
      | false =>
        rw [hsb] at HST HSU
        clear hsb
        go_wp2_with (refine wpList_load_row (o := ⟨some 12, _, _, _, _, _⟩) ?_ 84 (.tmp 1) ?_ gc ?_ 84 c.cells.toArray (0, 0) _ HC.out Try.underlying84 rfl HSZ.out ?_; rfl; rfl; rfl)
        refine HST.out.mono ?_
        rintro e w5 ⟨rfl, hb5⟩
        go_wp2
        go_roundw
        case rel =>
          refine ⟨q + 1, by omega, by go_num, ?_⟩
          show J _ _
          rw [HSU.out, if_neg (by simp), List.append_nil]
          exact HJ.out _ _ _ NN.out hb5
        case measure => simp [intOf]; omega
      | true =>
        rw [hsb] at HST HSU
        have HX := Lib.hid (HAT.out hsb)
        clear hsb
        have HYY := Lib.hid (fun A hA => HY.out _ q A HX.out hA trivial)
        have hn1 : 1 ≤ n := hn
        refine (wpIn_wide (n := n)).1 ?_
        gi_wp2_with (refine wpListIn_load_midG (op := ⟨some 12, _, _, _, _, _⟩) ?_ 84 (.tmp 1) ?_ gc 0 ?_ c.cells _ (Lies.range (cs := c.cells) HC.out (fun j v hj => by simpa using hj)) Try.underlying84 rfl (by have := HSZ.out; simpa using this) ?_; kernel_rfl; rfl; rfl)
        refine ⟨trivial, (callsIn_wide.2 HST.out).mono ?_⟩
        rintro e w5 ⟨rfl, hb5⟩
        obtain ⟨fn, tmps, assign, body, hy, hR⟩ := HYY.out w5 (HJ.out _ _ _ NN.out hb5)
        dsimp only [encQ] at hy
        clear hb5 c2 hinv hent
        gi_wp2_with (fail)
        refine hR.mono ?_
        clear hR hy
        rintro e W5 (⟨rfl, hJ5, -⟩ | ⟨rfl, hx5⟩)
        · gi_wp2_with (fail)
          go_wp2_with (fail)
          go_roundw
          case rel =>
            refine ⟨q + 1, by omega, by go_num, ?_⟩
            show J _ _
            rw [HSU.out, if_pos (by simp), List.length_append]; exact hJ5
          case measure => simp [intOf]; omega
        · gi_wp2_with (fail)
          go_wp2
          refine bodyPost_ret (results_none rfl _ _ _) rfl ?_
          refine ⟨⟨_, rfl⟩, .inr ⟨_, ?_, hx5⟩⟩
          have := (List.getElem?_eq_some_iff.1 HX.out).1
          omega
    · obtain rfl : q = N := by omega
      go_wp2
      go_end0
      exact ⟨⟨_, rfl⟩, .inl NN.out⟩
end Go.Proofs.Ytkjhofbjjogmlaa

/- cases. -/
namespace Go.Proofs.Ytkjhofbjjogmlaa
open Go.RowKit Go.Lib
attribute [local go_sem] Oper.semAt_some

/-- append of a number to a row of one's own, in a round. -/
theorem wpListIn_app_int {F : Fence} {n : Nat} {ops : Array Oper} {rest : List Oper} {o : Oper} {a : Act} (w : World) {Q : Exit → Act → World → Prop} (hgd : o.guard = none) (s x : Operand) (ho : o.op = .call { callee := .builtin .append, args := #[s, x], argTypes := #[23, 23] })
    (base : Nat) (v : Value) (xs : List Int) (hs : a.eval s = v) (hown : w.ownsRow base 3 1 v xs.length (xs.flatMap encI)) (g : Nat) (y : Int) (hx : a.eval x = .slice (some ⟨g, 0, none⟩) 1 1) (hy : Lies w g 3 #[.int .i64 y]) (hl : xs.length + 1 ≤ 1000) (hb : base ≤ w.heap.size)
    (h : ∀ v' w', w'.ownsRow base 3 1 v' (xs ++ [y]).length ((xs ++ [y]).flatMap encI) → Below base w w' → w.grownBy w' v.ownBlock → wpListIn F n Try.prog ops Q rest (a.put o.dst v') w') : wpListIn F n Try.prog ops Q (o :: rest) a w := by
  obtain ⟨i0, hi, hz0, hz1, hz2⟩ := info_parts info_int
  refine wpListIn_append_own w hgd s x 23 ho base 3 i0 _ 1 8 Try.underlying23 hi hz0 hz1 hz2 rfl (by decide) v xs.length _ hs hown ⟨g, 0, none⟩ 1 1 [.int .i64 y] hx rfl ?_ (by simp [Value.oneCell']) (by unfold maxLen; omega) (by omega) hb ?_
  · intro j u hu
    cases j with
    | zero => simp at hu; subst hu; rw [add_lit]; exact hy.at_ 0
    | succ j => simp at hu
  · intro v' w' hown' hg _
    refine h v' w' (by rw [List.length_append, List.flatMap_append]; exact hown') ((Below.refl base w).grown hg hb (fun k e => (hown.lt k e).1)) hg
theorem lies_app {V V' : World} {base size n g : Nat} {e t : TypeId} {v : Value} {xs : List Value} {cs : Array Value} (hl : Lies V g t cs) (ho : V.ownsRow base e size v n xs) (hg : V.grownBy V' v.ownBlock) (hb : g < base) : Lies V' g t cs :=
  hl.grown hg (fun e => by have := (own_at ho e.symm).1; omega)
theorem recs_cell {D : Nat} {V V' : World} (h : Recs D V V') {p : Addr} {u : Value} (hc : V.cell? p = some u) : V'.cell? p = V.cell? p := by
  obtain ⟨row, hg, hr⟩ := h
  rw [cell_kept hc hg (fun r e => (hr r e).2), hc]
theorem KeepsFrom.of_own {V V' : World} {D base size n : Nat} {e : TypeId} {v : Value} {xs : List Value} (ho : V.ownsRow base e size v n xs) (hg : V.grownBy V' v.ownBlock) : KeepsFrom D V V' :=
  ⟨hg.size, fun k o _ hk hoc => by
    rw [hg.block k (Array.getElem?_eq_some_iff.1 hk).1 (fun e => by
      obtain ⟨_, _, cs, hl⟩ := own_at ho e.symm
      rw [hl] at hk; cases hk; cases hoc)]
    exact hk⟩
def RwD.casesD (r : RwD) (t : List Int) (upTo : Int) (j : Nat) : List Int := (((thoseD r.lastB r.dug.length).take j).filter fun q => decide (t.getD q 0 ≤ upTo)).map fun q : Nat => (q : Int)
def RwD.allCases (r : RwD) (t : List Int) (upTo : Int) : List Int := ((thoseD r.lastB r.dug.length).filter fun q => decide (t.getD q 0 ≤ upTo)).map fun q : Nat => (q : Int)
theorem casesD_succ (r : RwD) (t : List Int) (upTo : Int) (j q : Nat) (h : (thoseD r.lastB r.dug.length)[j]? = some q) : r.casesD t upTo (j + 1) = r.casesD t upTo j ++ (if t.getD q 0 ≤ upTo then [(q : Int)] else []) := by
  unfold RwD.casesD
  rw [List.take_add_one, h, List.filter_append, List.map_append]
  congr 1
  by_cases hq : t.getD q 0 ≤ upTo
  · rw [if_pos hq]; show ([q].filter _).map _ = _; rw [List.filter_cons, if_pos (by simpa using hq)]; rfl
  · rw [if_neg hq]; show ([q].filter _).map _ = _; rw [List.filter_cons, if_neg (by simpa using hq)]; rfl
theorem casesD_len (r : RwD) (t : List Int) (upTo : Int) (j : Nat) : (r.casesD t upTo j).length ≤ r.dug.length := by
  unfold RwD.casesD
  rw [List.length_map]
  refine Nat.le_trans (List.length_filter_le _ _) ?_
  rw [List.length_take]
  refine Nat.le_trans (Nat.min_le_right _ _) ?_
  unfold thoseD
  exact Nat.le_trans (List.length_filter_le _ _) (by simp)
/-- cases between two plants. -/
structure CsI (c : CoM) (t : List Int) (upTo : Int) (w : World) (z : Nat) (j : Nat) (V : World) : Prop where
  lt : Lies V (w.heap.size + 1) 86 (vals t)
  lu : Lies V (w.heap.size + 1 + 1) 3 #[.int .i64 upTo]
  la : ∃ v, Lies V (w.heap.size + 1 + 1 + 1) 23 #[v] ∧ V.ownsRow (z + 2) 3 1 v (c.r.d.casesD t upTo j).length ((c.r.d.casesD t upTo j).flatMap encI)
  lc : Lies V z 84 c.cells.toArray
  lh : Lies V (z + 1) 126 #[.func (.methodOf 84 "bybloem/ill.standsLast") #[] #[]]
  lb : Below w.heap.size w V
theorem CsI.call {c : CoM} {t : List Int} {upTo : Int} {w : World} {z j : Nat} {V V' : World} (h : CsI c t upTo w z j V) (hb : Below V.heap.size V V') : CsI c t upTo w z j V' := by
  obtain ⟨v, h1, h2⟩ := h.la
  exact ⟨h.lt.call hb, h.lu.call hb, ⟨v, h1.call hb, ownsRow_call h2 hb⟩, h.lc.call hb, h.lh.call hb, h.lb.trans (hb.mono h.lb.size)⟩
theorem CsI.recs {c : CoM} {t : List Int} {upTo : Int} {w : World} {z j D : Nat} {V V' : World} (h : CsI c t upTo w z j V) (hr : Recs D V V') (hD : w.heap.size ≤ D) : CsI c t upTo w z j V' := by
  obtain ⟨v, h1, h2⟩ := h.la
  exact ⟨hr.lies h.lt, hr.lies h.lu, ⟨v, hr.lies h1, own_recs h2 hr⟩, hr.lies h.lc, hr.lies h.lh, hr.below h.lb hD h.lb.size⟩
/-- A list of the call's own. -/
def RetOwn (l : List Int) (w : World) (e : Ending) (w' : World) : Prop := ∃ (A : Option Addr) (c : Nat), e = .returned (.slice A l.length c) ∧ w'.ownsRow w.heap.size 3 1 (.slice A l.length c) l.length (l.flatMap encI) ∧ Below w.heap.size w w'
theorem RetOwn.is {l : List Int} {w w' : World} {e : Ending} (h : RetOwn l w e w') : RetIs l w e w' := by
  obtain ⟨A, c, rfl, ho, hb⟩ := h
  obtain ⟨A', c', e1, e2, e3⟩ := Sl.of_own (enc := encI) (l := l) (fun _ => rfl) ho rfl
  cases e1
  exact ⟨A, c, rfl, e2, e3, hb⟩
set_option maxRecDepth 100000 in
set_option maxHeartbeats 8000000 in
theorem cases_own (c : CoM) (t : List Int) (upTo : Int) (w : World) (hws : c.ws.length = 10) (hr : c.r.At w w.heap.size) (hok : c.r.d.Ok) (ht : t.length = 10) :
    Calls Try.prog 81 #[.agg c.cells.toArray, .agg (vals t), .int .i64 upTo] w (RetOwn (c.r.d.allCases t upTo) w) := by
  refine calls_of_wp_marks 5 Try.func81 rfl ?_
  simp only [Try.ntmps81, List.size_toArray, List.length_cons, List.length_nil, Nat.reduceAdd, Nat.reduceSub, Array.replicate_succ, Array.replicate_zero, List.push_toArray, List.append_toArray, List.nil_append, List.cons_append]
  have hsz : (Try.prog.info? 84).map (·.size) = some c.cells.toArray.size := by rw [List.size_toArray, c.len hws]; exact size_co
  have HSZ := Lib.hid hsz
  have l0 : Lies ((((w.alloc (.cells c.cells.toArray 84)).alloc (.cells (vals t) 86)).alloc (.cells #[.int .i64 upTo] 3)).alloc (.cells #[.slice none 0 0] 23)) w.heap.size 84 c.cells.toArray := (((Lies.fresh _ _ _).alloc _).alloc _).alloc _
  have l1 : Lies ((((w.alloc (.cells c.cells.toArray 84)).alloc (.cells (vals t) 86)).alloc (.cells #[.int .i64 upTo] 3)).alloc (.cells #[.slice none 0 0] 23)) (w.heap.size + 1) 86 (vals t) := ((Lies.fresh' (by simp)).alloc _).alloc _
  have l2 : Lies ((((w.alloc (.cells c.cells.toArray 84)).alloc (.cells (vals t) 86)).alloc (.cells #[.int .i64 upTo] 3)).alloc (.cells #[.slice none 0 0] 23)) (w.heap.size + 1 + 1) 3 #[.int .i64 upTo] := (Lies.fresh' (by simp)).alloc _
  have l3 : Lies ((((w.alloc (.cells c.cells.toArray 84)).alloc (.cells (vals t) 86)).alloc (.cells #[.int .i64 upTo] 3)).alloc (.cells #[.slice none 0 0] 23)) (w.heap.size + 1 + 1 + 1) 23 #[.slice none 0 0] := Lies.fresh' (by simp)
  have b0 : Below w.heap.size w ((((w.alloc (.cells c.cells.toArray 84)).alloc (.cells (vals t) 86)).alloc (.cells #[.int .i64 upTo] 3)).alloc (.cells #[.slice none 0 0] 23)) := (by repeat (first | (with_reducible assumption) | (with_reducible exact Below.refl _ _) | (with_reducible refine Below.drew ?_) | (with_reducible refine below_drewN ?_ _) | ((with_reducible refine Below.setCell ?_ ?_ _); rotate_left; focus (first | (simp; done) | (simp; omega) | omega)) | ((with_reducible refine Below.alloc ?_ ?_ _); rotate_left; focus (first | (simp; done) | (simp; omega) | omega))))
  have hz0 : ((((w.alloc (.cells c.cells.toArray 84)).alloc (.cells (vals t) 86)).alloc (.cells #[.int .i64 upTo] 3)).alloc (.cells #[.slice none 0 0] 23)).heap.size = w.heap.size + 4 := by simp
  have L0 := Lib.hid l0
  have L1 := Lib.hid l1
  have L2 := Lib.hid l2
  have L3 := Lib.hid l3
  have B0 := Lib.hid b0
  have HZ1 := Lib.hid hz0
  clear hsz l0 l1 l2 l3 b0 hz0
  go_upto_region 2 with (fail)
  change Code.wp _ _ _ _ ((((w.alloc (.cells c.cells.toArray 84)).alloc (.cells (vals t) 86)).alloc (.cells #[.int .i64 upTo] 3)).alloc (.cells #[.slice none 0 0] 23))
  generalize (((w.alloc (.cells c.cells.toArray 84)).alloc (.cells (vals t) 86)).alloc (.cells #[.int .i64 upTo] 3)).alloc (.cells #[.slice none 0 0] 23) = w1 at *
  go_wp2_with (first
    | (refine wpList_load_row (o := ⟨some 9, _, _, _, _, _⟩) ?_ 84 (.tmp 3) ?_ w.heap.size ?_ 84 c.cells.toArray (0, 0) _ L0.out Try.underlying84 rfl HSZ.out ?_; rfl; rfl; rfl)
    | (go_at_call 83; refine (those_any c _ _ rfl ⟨_, _, _, rfl⟩).mono ?_; rintro e w' ⟨rfl, rfl⟩))
  have hI : CsI c t upTo w w1.heap.size 0 ((w1.alloc (.cells c.cells.toArray 84)).alloc (.cells #[.func (.methodOf 84 "bybloem/ill.standsLast") #[] #[]] 126)) :=
    ⟨(L1.out.alloc _).alloc _, (L2.out.alloc _).alloc _, ⟨_, (L3.out.alloc _).alloc _, by simpa [RwD.casesD] using World.ownsRow_nil _ _ _ _⟩, (Lies.fresh _ _ _).alloc _, Lies.fresh' (by simp), (B0.out.alloc B0.out.size _).alloc (by have := B0.out.size; simp; omega) _⟩
  have hz2 : ((w1.alloc (.cells c.cells.toArray 84)).alloc (.cells #[.func (.methodOf 84 "bybloem/ill.standsLast") #[] #[]] 126)).heap.size = w1.heap.size + 2 := by simp
  have hz1 : w1.heap.size = w.heap.size + 4 := HZ1.out
  generalize (w1.alloc (.cells c.cells.toArray 84)).alloc (.cells #[.func (.methodOf 84 "bybloem/ill.standsLast") #[] #[]] 126) = w2 at *
  generalize w1.heap.size = z1 at *
  have hzl : w.heap.size + 4 ≤ z1 := by omega
  clear hz1
  have HI := Lib.hid hI
  have HZ2 := Lib.hid hz2
  have HRR := Lib.hid hr
  have hN10 : c.r.d.dug.length ≤ 10 := by have := hok.dug; have := hok.n1; omega
  have hgv := those1_gives_sl 4 (by omega) c z1 (z1 + 1) c.r.d.dug.length w2 hws hok rfl (fun V => Lies V z1 84 c.cells.toArray ∧ Lies V (z1 + 1) 126 #[.func (.methodOf 84 "bybloem/ill.standsLast") #[] #[]] ∧ c.r.At V V.heap.size) (fun V h => h)
  have HTL := Lib.hid ht
  have hlen : (thoseD c.r.d.lastB c.r.d.dug.length).length ≤ 10 := Nat.le_trans (by unfold thoseD; exact Nat.le_trans (List.length_filter_le _ _) (by simp)) hN10
  have HQ10 := Lib.hid (fun q (hq : q ∈ thoseD c.r.d.lastB c.r.d.dug.length) => show q < 10 by unfold thoseD at hq; have := List.mem_range.1 (List.mem_filter.1 hq).1; omega)
  clear hI hz2 hr hws hok ht L0 L1 L2 L3 B0
  refine range_givesN (n := 5) (gf := 99) rfl (enters_of Try.func99 (by kernel_rfl) rfl) hgv (Below.refl _ _) (fun _ _ => rfl) (fun _ _ _ _ h _ => h)
    (CsI c t upTo w z1) (fun _ _ _ => False) ?hI ?hIs ?hIx HI.out ?hSt
    (fun x a' V => a' = { tmps := #[.agg c.cells.toArray, .agg (vals t), .int .i64 upTo, .pointer (some ⟨w.heap.size, 0, none⟩), .pointer (some ⟨w.heap.size + 1, 0, none⟩), .pointer (some ⟨w.heap.size + 1 + 1, 0, none⟩), .slice none 0 0, .pointer (some ⟨w.heap.size + 1 + 1 + 1, 0, none⟩), .int .i64 (x : Int), .agg c.cells.toArray, .func (.methodOf 84 "bybloem/ill.standsLast") #[] #[], .func (.func 99) #[] #[.pointer (some ⟨z1, 0, none⟩), .pointer (some ⟨z1 + 1, 0, none⟩)], .int .i64 (x : Int), undef, undef, undef, undef, undef, undef, undef, undef, undef, undef], defers := [] }) ?hAx ?assign ?body ?done ?stop
  case hI =>
    intro j V V' h ht
    exact h.recs ht (by have := HZ2.out; omega)
  case hIs =>
    intro j V V' h ht
    exact h.call ht
  case hIx =>
    intro cd j V V' h ht
    exact h
  case hSt =>
    intro j V h
    exact ⟨h.lc, h.lh, HRR.out.below h.lb h.lb.size⟩
  case hAx =>
    rintro x a' V V' rfl ht
    rfl
  case stop =>
    intro D cd j V hD hk' hi hd
    exact hi.elim
  case assign =>
    intro l' j x V K hx hi _ hK
    have HIN := Lib.hid hi
    clear hgv hx hi
    simp only [encQ]
    gi_wp2_with (fail)
    exact hK _ _ (KeepsFrom.of_below (Below.refl _ _)) HIN.out trivial rfl
  case body =>
    rintro l' j x a' V hl' hx hi _ rfl
    have hx10 := HQ10.out x (List.mem_of_getElem? hx)
    have hxz : (x : Int) < 10 := by omega
    have hx0 : (0 : Int) ≤ (x : Int) := by omega
    have htx : t[x]? = some (t.getD x 0) := by have := HTL.out; simp [List.getD, show x < t.length by omega]
    have c4 : V.cell? ⟨w.heap.size + 1, x, none⟩ = some (.int .i64 (t.getD x 0)) := by rw [hi.lt.at_]; exact vals_at htx
    have c5 : V.cell? ⟨w.heap.size + 1 + 1, 0, none⟩ = some (.int .i64 upTo) := hi.lu.at_ 0
    have r4 := cell_regrown c4
    have r5 := cell_regrown c5
    have hsucc := casesD_succ c.r.d t upTo j x hx
    have hcl := casesD_len c.r.d t upTo j
    have HSU := Lib.hid hsucc
    have HIN := Lib.hid hi
    have HCL := Lib.hid hcl
    clear hi hx hgv c4 c5 htx hsucc hcl
    generalize t.getD x 0 = tx at *
    by_cases hle : tx ≤ upTo
    · have hle' : decide (tx ≤ upTo) = true := by simpa using hle
      have HS2 := Lib.hid (show c.r.d.casesD t upTo (j + 1) = c.r.d.casesD t upTo j ++ [(x : Int)] by rw [HSU.out, if_pos hle])
      clear hle
      gi_wp2_with (fail)
      refine wpIn_region_quietB (by kernel_rfl) (by kernel_rfl) (by kernel_rfl) (by kernel_rfl) ?_
      repeat (first | go_big_quiet_step (fail) | quiet_step (fail))
      refine wpQuiet_nil ?_
      intro wq hwq
      have hbq : Below V.heap.size V wq := (by obtain ⟨q, rfl⟩ := hwq; exact below_regrown _ _ _)
      clear hwq r4 r5
      have hIq := HIN.out.call hbq
      obtain ⟨v, ha1, ha2⟩ := hIq.la
      have c7 : wq.cell? ⟨w.heap.size + 1 + 1 + 1, 0, none⟩ = some v := ha1.at_ 0
      have HIQ := Lib.hid hIq
      have HA1 := Lib.hid ha1
      have HA2 := Lib.hid (ownsRow_call ha2 ((Below.refl wq.heap.size wq).alloc (Nat.le_refl _) (.cells #[.int .i64 (x : Int)] 3)))
      have hzq : z1 + 2 ≤ wq.heap.size := by have := hIq.lh.in_; omega
      clear hIq ha1 ha2
      have hcl3 : (c.r.d.casesD t upTo j).length + 1 ≤ 1000 := by have := HCL.out; omega
      gi_wp2_with (refine wpListIn_app_int (o := ⟨some 21, _, _, _, _, _⟩) _ ?_ (.tmp 18) (.tmp 20) ?_ (z1 + 2) v (c.r.d.casesD t upTo j) ?_ HA2.out wq.heap.size x ?_ (Lies.fresh' rfl) hcl3 (by simp; omega) ?_; rfl; rfl; rfl; rfl; intro v4 w4 hown4 hb4 hg4; obtain ⟨A4, cp4, hv4, -, -⟩ := Sl.of_own (enc := encI) (fun _ => rfl) hown4 rfl; subst hv4; have hb5 := (Below.refl wq.heap.size wq).alloc (Nat.le_refl _) (.cells #[.int .i64 (x : Int)] 3); have hL7 := lies_app (HA1.out.call hb5) HA2.out hg4 (by omega); have c8 : w4.cell? ⟨w.heap.size + 1 + 1 + 1, 0, none⟩ = some v := hL7.at_ 0; have f8 : w4.frozen? ⟨w.heap.size + 1 + 1 + 1, 0, none⟩ = false := hL7.free 0)
      have hIQ := HIQ.out.call hb5
      have hO : Only (w.heap.size + 1 + 1 + 1) w4 (w4.setCell ⟨w.heap.size + 1 + 1 + 1, 0, none⟩ (.slice A4 ((c.r.d.casesD t upTo j).length + 1) cp4)) := Only.set _ _ _ _
      have hlt : w.heap.size + 1 + 1 + 1 < z1 + 2 := by omega
      refine ⟨KeepsFrom.trans (KeepsFrom.of_below (hbq.trans (hb5.mono hbq.size))) (KeepsFrom.trans (KeepsFrom.of_own HA2.out hg4) (KeepsFrom.of_only hO hL7)), ?_, trivial⟩
      refine ⟨hO.lies (lies_app hIQ.lt HA2.out hg4 (by omega)) (by omega), hO.lies (lies_app hIQ.lu HA2.out hg4 (by omega)) (by omega), ⟨_, hL7.set 0 _, ?_⟩, hO.lies (lies_app hIQ.lc HA2.out hg4 (by omega)) (by omega), hO.lies (lies_app hIQ.lh HA2.out hg4 (by omega)) (by omega), (hIQ.lb.trans (hb4.mono (by omega))).setCell (by simp; omega) _⟩
      rw [HS2.out]
      have h5 := own_keep hown4 fun k hk => hO.block k (by have := (own_at hown4 hk).1; omega)
      simpa only [List.length_append, List.length_cons, List.length_nil] using h5
    · have hle' : decide (tx ≤ upTo) = false := by simpa using hle
      have HS2 := Lib.hid (show c.r.d.casesD t upTo (j + 1) = c.r.d.casesD t upTo j by rw [HSU.out, if_neg hle, List.append_nil])
      clear hle
      gi_wp2_with (fail)
      refine wpIn_region_quietB (by kernel_rfl) (by kernel_rfl) (by kernel_rfl) (by kernel_rfl) ?_
      repeat (first | go_big_quiet_step (fail) | quiet_step (fail))
      refine wpQuiet_nil ?_
      intro wq hwq
      have hbq : Below V.heap.size V wq := (by obtain ⟨q, rfl⟩ := hwq; exact below_regrown _ _ _)
      clear hwq r4 r5
      have hIq := HIN.out.call hbq
      have HIQ := Lib.hid hIq
      clear hIq
      gi_wp2_with (fail)
      refine ⟨KeepsFrom.of_below hbq, ?_, trivial⟩
      obtain ⟨v, ha1, ha2⟩ := HIQ.out.la
      exact ⟨HIQ.out.lt, HIQ.out.lu, ⟨v, ha1, by rw [HS2.out]; exact ha2⟩, HIQ.out.lc, HIQ.out.lh, HIQ.out.lb⟩
  case done =>
    intro D V hD hi hd
    have hall : c.r.d.casesD t upTo (thoseD c.r.d.lastB c.r.d.dug.length).length = c.r.d.allCases t upTo := by unfold RwD.casesD RwD.allCases; rw [List.take_of_length_le (Nat.le_refl _)]
    obtain ⟨v, ha1, ha2⟩ := hi.la
    rw [hall] at ha2
    obtain ⟨A, cap, rfl, hA, hS⟩ := Sl.of_own (enc := encI) (fun _ => rfl) ha2 rfl
    have c7 : V.cell? ⟨w.heap.size + 1 + 1 + 1, 0, none⟩ = some (.slice A (c.r.d.allCases t upTo).length cap) := ha1.at_ 0
    have HOW := Lib.hid ha2
    have HB := Lib.hid hi.lb
    have HDD := Lib.hid hd
    clear hi hgv hd hall ha1 ha2 hA hS
    go_wp2
    have hrec : Recs D V (V.putObj D (.deferred none)) := Recs.put _ (Nat.le_refl _) HDD.out rfl
    exact leave_mark HDD.out ⟨_, results_tmp rfl _ _ _, A, cap, rfl, ownsRow_base (own_recs HOW.out hrec) (by have := HZ2.out; omega), hrec.below HB.out (by have := HZ2.out; omega) HB.out.size⟩
theorem cases_any (c : CoM) (t : List Int) (upTo : Int) (w : World) (hws : c.ws.length = 10) (hr : c.r.At w w.heap.size) (hok : c.r.d.Ok) (ht : t.length = 10) :
    Calls Try.prog 81 #[.agg c.cells.toArray, .agg (vals t), .int .i64 upTo] w (RetIs (c.r.d.allCases t upTo) w) :=
  (cases_own c t upTo w hws hr hok ht).mono fun _ _ h => h.is
end Go.Proofs.Ytkjhofbjjogmlaa

/- oldCases, isEnough. -/
namespace Go.Proofs.Ytkjhofbjjogmlaa
open Go.RowKit Go.Lib

theorem co_at (c : CoM) : c.cells.toArray[1]? = some (.slice c.r.ws.A c.r.ws.l.length c.r.ws.c) ∧ c.cells.toArray[4]? = some (.int .i64 c.r.old) := by obtain ⟨r, ws⟩ := c; exact ⟨rfl, rfl⟩
theorem allCases_len (r : RwD) (t : List Int) (upTo : Int) : (r.allCases t upTo).length ≤ r.dug.length := by
  unfold RwD.allCases
  rw [List.length_map]
  refine Nat.le_trans (List.length_filter_le _ _) ?_
  unfold thoseD
  exact Nat.le_trans (List.length_filter_le _ _) (by simp)
set_option maxRecDepth 100000 in
set_option maxHeartbeats 4000000 in
theorem oldCases_any (c : CoM) (t : List Int) (w : World) (hws : c.ws.length = 10) (hr : c.r.At w w.heap.size) (hok : c.r.d.Ok) (ht : t.length = 10) :
    Calls Try.prog 90 #[.agg c.cells.toArray, .agg (vals t)] w (RetIs (c.r.d.allCases t ((c.r.ws.l.length : Int) - c.r.old)) w) := by
  have l0 : Lies ((w.alloc (.cells c.cells.toArray 84)).alloc (.cells (vals t) 86)) w.heap.size 84 c.cells.toArray := (Lies.fresh _ _ _).alloc _
  have l1 : Lies ((w.alloc (.cells c.cells.toArray 84)).alloc (.cells (vals t) 86)) (w.heap.size + 1) 86 (vals t) := Lies.fresh' (by simp)
  have b0 : Below w.heap.size w ((w.alloc (.cells c.cells.toArray 84)).alloc (.cells (vals t) 86)) := (by repeat (first | (with_reducible assumption) | (with_reducible exact Below.refl _ _) | (with_reducible refine Below.drew ?_) | (with_reducible refine below_drewN ?_ _) | ((with_reducible refine Below.setCell ?_ ?_ _); rotate_left; focus (first | (simp; done) | (simp; omega) | omega)) | ((with_reducible refine Below.alloc ?_ ?_ _); rotate_left; focus (first | (simp; done) | (simp; omega) | omega))))
  have hC := cases_any c t ((c.r.ws.l.length : Int) - c.r.old) _ hws (hr.below b0 b0.size) hok ht
  have hsz : (Try.prog.info? 84).map (·.size) = some c.cells.toArray.size := by rw [List.size_toArray, c.len hws]; exact size_co
  have hst : (Try.prog.info? 86).map (·.size) = some t.length := by rw [ht]; exact size_tr
  have ho : 0 ≤ c.r.old ∧ c.r.old ≤ 30 := hok.old
  have hw30 : (c.r.ws.l.length : Int) ≤ 30 := by have : c.r.ws.l.length ≤ 30 := hok.nw; omega
  obtain ⟨ho0, ho1⟩ := ho
  have L0 := Lib.hid l0
  have L1 := Lib.hid l1
  have B0 := Lib.hid b0
  have HC := Lib.hid hC
  have HSZ := Lib.hid hsz
  have HST := Lib.hid hst
  clear l0 l1 b0 hC hsz hst hws hr hok ht
  go_enter Try.func90, Try.ntmps90
  go_upto_region 1 with (fail)
  change Code.wp _ _ _ _ ((w.alloc (.cells c.cells.toArray 84)).alloc (.cells (vals t) 86))
  generalize (w.alloc (.cells c.cells.toArray 84)).alloc (.cells (vals t) 86) = w0 at *
  have a1 : w0.cell? ⟨w.heap.size, 1, none⟩ = some (.slice c.r.ws.A c.r.ws.l.length c.r.ws.c) := by rw [L0.out.at_]; exact (co_at c).1
  have a4 : w0.cell? ⟨w.heap.size, 4, none⟩ = some (.int .i64 c.r.old) := by rw [L0.out.at_]; exact (co_at c).2
  go_wp2_with (first
    | (refine wpList_load_row (o := ⟨some 5, _, _, _, _, _⟩) ?_ 84 (.tmp 2) ?_ w.heap.size ?_ 84 c.cells.toArray (0, 0) _ L0.out Try.underlying84 rfl HSZ.out ?_; rfl; rfl; rfl)
    | (refine wpList_load_ints (o := ⟨some 6, _, _, _, _, _⟩) ?_ 86 (.tmp 3) ?_ (w.heap.size + 1) 0 ?_ 86 t t _ L1.out (fun j v h => by simpa using h) Try.underlying86 rfl HST.out ?_; rfl; rfl; rfl)
    | (go_at_call 81; refine HC.out.mono ?_; rintro e w5 ⟨A, cap, rfl, hA, hS, hb5⟩))
  go_ret
  exact ⟨A, cap, rfl, hA, hS, B0.out.trans (hb5.mono B0.out.size)⟩
/-- Is a sample enough? -/
def RwD.enoughD (r : RwD) (ws : List (Int × Int)) (ps : List Int) (number : Int) : Bool :=
  !(r.possB (r.testedD ws ps) (r.earlyD (r.testedD ws ps))) || decide (((r.allCases (r.earlyD (r.testedD ws ps)) ((r.ws.length : Int) - r.old)).length : Int) ≤ number)
set_option maxRecDepth 100000 in
set_option maxHeartbeats 4000000 in
theorem isEnough_any (c : CoM) (A : Option Addr) (cap : Nat) (ps : List Int) (number : Int) (w : World) (hws : c.ws.length = 10) (hr : c.r.At w w.heap.size) (hok : c.r.d.Ok) (hA : Sl w w.heap.size 1 encI A ps) (hl : ps.length ≤ 1000000) (hp : ∀ p, p ∈ ps → 0 ≤ p ∧ p < 10) :
    Calls Try.prog 61 #[.agg c.cells.toArray, .slice A ps.length cap, .int .i64 number] w fun e w' => e = .returned (.bool (c.r.d.enoughD c.ws ps number)) ∧ Below w.heap.size w w' := by
  have l0 : Lies (w.alloc (.cells c.cells.toArray 84)) w.heap.size 84 c.cells.toArray := Lies.fresh _ _ _
  have b0 : Below w.heap.size w (w.alloc (.cells c.cells.toArray 84)) := (by repeat (first | (with_reducible assumption) | (with_reducible exact Below.refl _ _) | (with_reducible refine Below.drew ?_) | (with_reducible refine below_drewN ?_ _) | ((with_reducible refine Below.setCell ?_ ?_ _); rotate_left; focus (first | (simp; done) | (simp; omega) | omega)) | ((with_reducible refine Below.alloc ?_ ?_ _); rotate_left; focus (first | (simp; done) | (simp; omega) | omega))))
  have hT := tested_any c A cap ps _ hws hok ((hA.below b0).more b0.size) hl hp
  obtain ⟨wt, hwt⟩ : ∃ wt, wt = c.r.d.testedD c.ws ps := ⟨_, rfl⟩
  have hwtl : wt.length = 10 := by rw [hwt]; exact (testedD_length _ _ _).trans hws
  have hE := fun W (hb : Below w.heap.size w W) => earliestTruth_any ⟨c.r, wt⟩ W hwtl (hr.below hb hb.size) hok
  have htw : TrW c.r.d.ws.length (c.r.d.earlyD wt) := weeksE_ok _ _ (Nat.le_refl _)
  have hO := fun W (hb : Below w.heap.size w W) => oldCases_any ⟨c.r, wt⟩ (c.r.d.earlyD wt) W hwtl (hr.below hb hb.size) hok htw.len
  have hdef : c.r.d.enoughD c.ws ps number = (!(c.r.d.possB wt (c.r.d.earlyD wt)) || decide (((c.r.d.allCases (c.r.d.earlyD wt) ((c.r.ws.l.length : Int) - c.r.old)).length : Int) ≤ number)) := by rw [hwt]; rfl
  rw [← hwt] at hT
  have hcl := allCases_len c.r.d (c.r.d.earlyD wt) ((c.r.ws.l.length : Int) - c.r.old)
  dsimp only at hE hO
  have hsz : (Try.prog.info? 84).map (·.size) = some c.cells.toArray.size := by rw [List.size_toArray, c.len hws]; exact size_co
  have hszt : (Try.prog.info? 84).map (·.size) = some (CoM.cells ⟨c.r, wt⟩).length := by rw [CoM.len _ hwtl]; exact size_co
  have hszta : (Try.prog.info? 84).map (·.size) = some (CoM.cells ⟨c.r, wt⟩).toArray.size := by simpa using hszt
  have hst : (Try.prog.info? 86).map (·.size) = some (c.r.d.earlyD wt).length := by rw [htw.len]; exact size_tr
  have hsta : (Try.prog.info? 86).map (·.size) = some (vals (c.r.d.earlyD wt)).size := by rw [vals_size]; exact hst
  have hfc : 0 + (CoM.cells ⟨c.r, wt⟩).length ≤ c.cells.length := by rw [CoM.len _ hwtl, c.len hws]; omega
  have hwc : (CoM.cells ⟨c.r, wt⟩).length = c.cells.length := by rw [CoM.len _ hwtl, c.len hws]
  have hft : 0 + (c.r.d.earlyD wt).length ≤ (List.replicate 10 (0 : Int)).length := by rw [htw.len]; simp
  have hwt2 : (c.r.d.earlyD wt).length = (List.replicate 10 (0 : Int)).length := by rw [htw.len]; rfl
  have HONE := Lib.hid (co_one c.r wt)
  have hd10 : c.r.d.dug.length ≤ 10 := by have := hok.dug; have := hok.n1; omega
  generalize c.r.d.enoughD c.ws ps number = res at *
  generalize c.r.d.possB wt (c.r.d.earlyD wt) = y at *
  generalize c.r.d.allCases (c.r.d.earlyD wt) ((c.r.ws.l.length : Int) - c.r.old) = oc at *
  generalize c.r.d.earlyD wt = tw at *
  have hocz : (oc.length : Int) ≤ 10 := by omega
  have L0 := Lib.hid l0
  have B0 := Lib.hid b0
  have HT := Lib.hid hT
  have HE := Lib.hid hE
  have HO := Lib.hid hO
  have HD := Lib.hid hdef
  have HSZ := Lib.hid hsz
  have HSZT := Lib.hid hszt
  have HSZTA := Lib.hid hszta
  have HST := Lib.hid hst
  have HSTA := Lib.hid hsta
  have HFC := Lib.hid hfc
  have HWC := Lib.hid hwc
  have HFT := Lib.hid hft
  have HWT := Lib.hid hwt2
  clear l0 b0 hT hE hO hdef hsz hszt hszta hst hsta hfc hwc hft hwt2 hws hr hok hA hl hp hwt hwtl htw hcl hd10
  go_enter Try.func61, Try.ntmps61
  go_upto_region 1 with (fail)
  change Code.wp _ _ _ _ (w.alloc (.cells c.cells.toArray 84))
  generalize w.alloc (.cells c.cells.toArray 84) = w0 at *
  go_upto_region 2 with (first
    | (refine wpList_load_row (o := ⟨some 9, _, _, _, _, _⟩) ?_ 84 (.tmp 3) ?_ w.heap.size ?_ 84 c.cells.toArray (0, 0) _ L0.out Try.underlying84 rfl HSZ.out ?_; rfl; rfl; rfl)
    | (go_at_call 89; refine HT.out.mono ?_; rintro e w5 ⟨rfl, hb5⟩)
    | (refine wpList_store_cells (o := ⟨none, .store 84 (.tmp 3) _, _, _, _, _⟩) ?_ 84 (.tmp 3) (.tmp 11) ?_ w.heap.size 0 ?_ 84 c.cells (CoM.cells ⟨c.r, wt⟩) ?_ (L0.out.call hb5) HFC.out HSZT.out HONE.out ?_; rfl; rfl; rfl; rfl; intro w6 HS6 HO6; (try simp only [Act.put])))
  have hs6 := HS6.out
  rw [splice_whole HWC.out] at hs6
  have B6 := Lib.hid (HO6.out.below (B0.out.trans (hb5.mono B0.out.size)) (Nat.le_refl _))
  have C6 := Lib.hid hs6
  clear hs6 HS6 HO6 hb5 L0 HT
  go_upto_region 3 with (first
    | (refine wpList_load_row (o := ⟨some 13, _, _, _, _, _⟩) ?_ 84 (.tmp 3) ?_ w.heap.size ?_ 84 (CoM.cells ⟨c.r, wt⟩).toArray (0, 0) _ C6.out Try.underlying84 rfl HSZTA.out ?_; rfl; rfl; rfl)
    | (go_at_call 72; refine (HE.out _ B6.out).mono ?_; rintro e w7 ⟨rfl, hb7⟩)
    | (refine wpList_store_ints (o := ⟨none, .store 86 (.tmp 7) _, _, _, _, _⟩) ?_ 86 (.tmp 7) (.tmp 15) ?_ w7.heap.size 0 ?_ 86 (List.replicate 10 0) tw ?_ (Lies.fresh w7 86 (vals (List.replicate 10 0))) HFT.out HST.out ?_; rfl; rfl; rfl; rfl; intro w8 HS8 HO8; (try simp only [Act.put])))
  have hs8 := HS8.out
  rw [splice_all HWT.out] at hs8
  have hb8 : Below w7.heap.size w7 w8 := HO8.out.below ((Below.refl _ _).alloc (Nat.le_refl _) _) (Nat.le_refl _)
  have B8 := Lib.hid (B6.out.trans ((hb7.trans (hb8.mono hb7.size)).mono B6.out.size))
  have C8 := Lib.hid ((C6.out.call hb7).call hb8)
  have T8 := Lib.hid hs8
  generalize w7.heap.size = g7 at *
  clear hs8 HS8 HO8 hb7 hb8 C6 B6 HE
  cases y with
  | false =>
    go_wp2
    go_ret
    exact ⟨ret_bool (by rw [HD.out]; rfl), B8.out⟩
  | true =>
    go_wp2_with (first
      | (refine wpList_load_rowG (o := ⟨some 20, _, _, _, _, _⟩) ?_ 84 (.tmp 3) ?_ w.heap.size ?_ 84 (CoM.cells ⟨c.r, wt⟩).toArray (0, 0) _ C8.out Try.underlying84 rfl HSZTA.out ?_; kernel_rfl; rfl; rfl)
      | (refine wpList_load_rowG (o := ⟨some 21, _, _, _, _, _⟩) ?_ 86 (.tmp 7) ?_ g7 ?_ 86 (vals tw) (0, 0) _ T8.out Try.underlying86 rfl HSTA.out ?_; kernel_rfl; rfl; rfl)
      | (go_at_call 90; refine (HO.out _ B8.out).mono ?_; rintro e w9 ⟨A9, c9, rfl, hA9, hS9, hb9⟩))
    go_ret
    exact ⟨ret_bool (by rw [HD.out]; simp), B8.out.trans (hb9.mono B8.out.size)⟩
end Go.Proofs.Ytkjhofbjjogmlaa

/- isTelling. -/
namespace Go.Proofs.Ytkjhofbjjogmlaa
open Go.RowKit Go.Lib

theorem eqWin (x y : Int × Int) (w : World) : (binOp .neq 81 (.agg (encWin x).toArray) (.agg (encWin y).toArray)).run Try.prog w = .ok (.bool (!decide (x = y))) w := by
  have u3 := Try.underlying3
  have hS : Try.prog.underlying 81 = some (.struct (Try.prog.fieldsOf 81)) := by kernel_rfl
  have hp : Try.prog.stoodInHeld 81 = false := by kernel_rfl
  rw [run_neq_struct, show (10000 : Nat) = 9999 + 1 from rfl, run_equalIn_agg w 9999 _ _ _ hS hp]
  simp only [Program.fieldsOf, Try.underlying81]
  go_simp
  obtain ⟨a, b⟩ := x
  obtain ⟨a', b'⟩ := y
  by_cases h1 : a = a' <;> by_cases h2 : b = b' <;> simp [h1, h2]
set_option maxRecDepth 100000 in
theorem field_slC (v0 v1 v2 v3 v4 v5 v6 v7 v8 v9 v10 v11 v12 v13 v14 v15 v16 v17 v18 v19 v20 v21 v22 v23 v24 v25 v26 v27 : Value) (w : World) :
    (Instr.field 84 (.agg #[v0, v1, v2, v3, v4, v5, v6, v7, v8, v9, v10, v11, v12, v13, v14, v15, v16, v17, v18, v19, v20, v21, v22, v23, v24, v25, v26, v27]) 1).run Try.prog w = .ok (.agg #[v8, v9, v10, v11, v12, v13, v14, v15, v16, v17, v18, v19, v20, v21, v22, v23, v24, v25, v26, v27]) w := by kernel_rfl
theorem field_slL (w : World) : ∀ (l : List Value), l.length = 28 → (Instr.field 84 (.agg l.toArray) 1).run Try.prog w = .ok (.agg (l.drop 8).toArray) w
  | [v0, v1, v2, v3, v4, v5, v6, v7, v8, v9, v10, v11, v12, v13, v14, v15, v16, v17, v18, v19, v20, v21, v22, v23, v24, v25, v26, v27], _ => field_slC v0 v1 v2 v3 v4 v5 v6 v7 v8 v9 v10 v11 v12 v13 v14 v15 v16 v17 v18 v19 v20 v21 v22 v23 v24 v25 v26 v27 w
theorem field_win (c : CoM) (h : c.ws.length = 10) (w : World) : (Instr.field 84 (.agg c.cells.toArray) 1).run Try.prog w = .ok (.agg (c.ws.flatMap encWin).toArray) w := by
  rw [field_slL w c.cells (c.len h)]
  have e : c.cells.drop 8 = c.ws.flatMap encWin := by
    unfold CoM.cells
    rw [show 8 = c.r.cells.length from rfl, List.drop_left]
  rw [e]
theorem size_wins : (Try.prog.info? 82).map (·.size) = some 20 := by kernel_rfl
theorem index_win (ws : List (Int × Int)) (p : Nat) (x : Int × Int) (hl : ws.length = 10) (hx : ws[p]? = some x) (w : World) : (Instr.index 82 (.agg (ws.flatMap encWin).toArray) (.int .i64 p)).run Try.prog w = .ok (.agg (encWin x).toArray) w := by
  have hp : p < 10 := by have := (List.getElem?_eq_some_iff.1 hx).1; omega
  have hpz : (0 : Int) ≤ (p : Int) ∧ (p : Int) < ((10 : Nat) : Int) := by omega
  have hlen : (ws.flatMap encWin).length = 20 := by rw [flat_len (enc := encWin) (k := 2) (fun _ => rfl), hl]
  have h0 := flat_win_at hx
  have he : ((ws.flatMap encWin).toArray.extract (p * 2) (p * 2 + 2)) = (encWin x).toArray := by
    apply Array.ext_getElem?
    intro i
    rw [Array.getElem?_extract]
    by_cases hi : i < 2
    · rw [if_pos (by simp only [List.size_toArray, hlen]; omega)]
      rcases i with _ | _ | i
      · simpa using h0.1
      · simpa using h0.2
      · omega
    · rw [if_neg (by omega)]
      simp; omega
  unfold Instr.index
  simp only [asIntOf, Sem.run_bind, Sem.run_pure, Result.andThen_ok, run_underlying Try.underlying82, if_pos hpz, Int.toNat_natCast, run_sizeOf_k size_win, part, run_isAgg_row Try.underlying81 rfl, if_true, he]
def RwD.tellB (r : RwD) (ws : List (Int × Int)) (p : Nat) : Bool := r.lastB p && !decide (winAt (r.testedD ws [(p : Int)]) p = winAt ws p)
set_option maxRecDepth 100000 in
set_option maxHeartbeats 8000000 in
theorem isTelling_any (c : CoM) (p : Nat) (w : World) (hws : c.ws.length = 10) (hr : c.r.At w w.heap.size) (hok : c.r.d.Ok) (hp : p < c.r.dug.l.length) :
    Calls Try.prog 84 #[.agg c.cells.toArray, .int .i64 p] w fun e w' => e = .returned (.bool (c.r.d.tellB c.ws p)) ∧ Below w.heap.size w w' := by
  have l0 : Lies (w.alloc (.cells c.cells.toArray 84)) w.heap.size 84 c.cells.toArray := Lies.fresh _ _ _
  have b0 : Below w.heap.size w (w.alloc (.cells c.cells.toArray 84)) := (by repeat (first | (with_reducible assumption) | (with_reducible exact Below.refl _ _) | (with_reducible refine Below.drew ?_) | (with_reducible refine below_drewN ?_ _) | ((with_reducible refine Below.setCell ?_ ?_ _); rotate_left; focus (first | (simp; done) | (simp; omega) | omega)) | ((with_reducible refine Below.alloc ?_ ?_ _); rotate_left; focus (first | (simp; done) | (simp; omega) | omega))))
  have hd10 : c.r.d.dug.length ≤ 10 := by have := hok.dug; have := hok.n1; omega
  have hp10 : p < 10 := Nat.lt_of_lt_of_le hp hd10
  have hS := fun W (hb : Below w.heap.size w W) => standsLast_any c.r p W (hr.below hb hb.size) hp
  obtain ⟨wt, hwt⟩ : ∃ wt, wt = c.r.d.testedD c.ws [(p : Int)] := ⟨_, rfl⟩
  have hwtl : wt.length = 10 := by rw [hwt]; exact (testedD_length _ _ _).trans hws
  have hT := fun (g : Nat) W (hb : Below w.heap.size w W) (hg : Sl W W.heap.size 1 encI (some ⟨g, 0, none⟩) [(p : Int)]) => tested_any c (some ⟨g, 0, none⟩) 1 [(p : Int)] W hws hok hg (by simp) (fun q hq => by simp at hq; subst hq; omega)
  rw [← hwt] at hT
  have hres : c.r.d.tellB c.ws p = (c.r.d.lastB p && !decide (winAt wt p = winAt c.ws p)) := by rw [hwt]; rfl
  have hfw := field_win ⟨c.r, wt⟩ hwtl
  dsimp only at hfw
  have hiw := index_win wt p (winAt wt p) hwtl (win_at (by omega))
  have heq := eqWin (winAt wt p) (winAt c.ws p)
  have hy := win_at (ws := c.ws) (p := p) (by omega)
  have hsz : (Try.prog.info? 84).map (·.size) = some c.cells.length := by rw [c.len hws]; exact size_co
  have hp0 : (0 : Int) ≤ (p : Int) := by omega
  have hpz : (p : Int) < 10 := by omega
  generalize c.r.d.tellB c.ws p = res at *
  have L0 := Lib.hid l0
  have B0 := Lib.hid b0
  have HS := Lib.hid hS
  have HT := Lib.hid hT
  have HR := Lib.hid hres
  have HFW := Lib.hid hfw
  have HIW := Lib.hid hiw
  have HEQ := Lib.hid heq
  have HY := Lib.hid hy
  have HSZ := Lib.hid hsz
  clear l0 b0 hS hT hres hfw hiw heq hy hsz hws hr hok hp hwt hwtl hd10
  go_enter Try.func84, Try.ntmps84
  go_upto_region 1 with (fail)
  change Code.wp _ _ _ _ (w.alloc (.cells c.cells.toArray 84))
  generalize w.alloc (.cells c.cells.toArray 84) = w1 at *
  have hr1 : ∀ W, (∃ cc : Cls (fun W => Below w1.heap.size w1 W), W = cc.val) → W.rangeAt w.heap.size 0 c.r.cells := by
    rintro W ⟨cc, rfl⟩; exact Lies.range (cs := c.cells) (L0.out.call cc.h) (cells_row c.r c.ws)
  have hr2 : ∀ W, (∃ cc : Cls (fun W => Below w1.heap.size w1 W), W = cc.val) → W.rangeAt w.heap.size 0 c.cells := by
    rintro W ⟨cc, rfl⟩; exact Lies.range (cs := c.cells) (L0.out.call cc.h) (fun j v hj => by simpa using hj)
  have hr3 : ∀ W, (∃ cc : Cls (fun W => Below w1.heap.size w1 W), W = cc.val) → W.rangeAt w.heap.size (8 + p * 2) (encWin (winAt c.ws p)) := by
    rintro W ⟨cc, rfl⟩; exact Lies.range (cs := c.cells) (L0.out.call cc.h) (cells_win c.r HY.out)
  have HR1 := Lib.hid hr1
  have HR2 := Lib.hid hr2
  have HR3 := Lib.hid hr3
  clear hr1 hr2 hr3
  haveI hne : Nonempty (Cls (fun W => Below w1.heap.size w1 W)) := ⟨⟨w1, Below.refl _ _⟩⟩
  cases hlb : c.r.d.lastB p with
  | false =>
    rw [hlb] at HS HR
    clear hlb
    refine wp_region_wayw [0, 1, 2] (.way 3 (.take 4 (.take 5 (.take 6 (.take 10 (.take 12 (.take 13 (.take 14 (.take 15 (.way 7 (.way 8 (.take 9 (.take 11 (.take 16 (.take 17 (.take 18 .fin))))) .fin) .fin))))))))) .fin) (fun W => ∃ cc : Cls (fun W => Below w1.heap.size w1 W), W = cc.val) (by kernel_rfl) (by kernel_rfl) (Cls.here (Below.refl _ _).drew) ?_
    simp only [List.filterMap_cons, List.filterMap_nil, List.getElem?_toArray, List.getElem?_cons_zero, List.getElem?_cons_succ]
    repeat (first
      | (refine wpQuiet_load_wholeG (o := ⟨some 6, _, _, _, _, _⟩) ?_ 34 (.tmp 5) ?_ w.heap.size 0 ?_ c.r.cells _ HR1.out Try.underlying34 rfl size_row ?_; rfl; rfl; rfl; simp only [Act.put, List.setIfInBounds_toArray, List.set_cons_zero, List.set_cons_succ])
      | go_big_quiet_step (rfl) | quiet_step (rfl))
    refine wpQuiet_nil ?_
    have D0 := Lib.hid (show Below w1.heap.size w1 w1.drew from (Below.refl _ _).drew)
    generalize w1.drew = d0 at *
    rw [wpWy_way]
    refine ⟨?_, by exact trivial⟩
    simp only [List.getElem?_toArray, List.getElem?_cons_succ, List.getElem?_cons_zero]
    go_wp2_with (go_at_call 87; refine (HS.out _ (B0.out.trans (D0.out.mono B0.out.size))).mono ?_; rintro e d1 ⟨rfl, hb1⟩)
    have D1 := Lib.hid (D0.out.trans (hb1.mono D0.out.size))
    refine Ends.intro ⟨Cls.here D1.out, ?_⟩
    rw [wpWy_take]
    simp only [List.getElem?_toArray, List.getElem?_cons_succ, List.getElem?_cons_zero]
    first | go_big_quiet_step (rfl) | quiet_step (rfl)
    refine wpQuiet_nil ?_
    rw [wpWy_take]
    simp only [List.getElem?_toArray, List.getElem?_cons_succ, List.getElem?_cons_zero]
    first | go_big_quiet_step (rfl) | quiet_step (rfl)
    refine wpQuiet_nil ?_
    rw [wpWy_take]
    simp only [List.getElem?_toArray, List.getElem?_cons_succ, List.getElem?_cons_zero]
    first | go_big_quiet_step (rfl) | quiet_step (rfl)
    refine wpQuiet_nil ?_
    rw [wpWy_take]
    simp only [List.getElem?_toArray, List.getElem?_cons_succ, List.getElem?_cons_zero]
    first | go_big_quiet_step (rfl) | quiet_step (rfl)
    refine wpQuiet_nil ?_
    rw [wpWy_take]
    simp only [List.getElem?_toArray, List.getElem?_cons_succ, List.getElem?_cons_zero]
    first | go_big_quiet_step (rfl) | quiet_step (rfl)
    refine wpQuiet_nil ?_
    rw [wpWy_take]
    simp only [List.getElem?_toArray, List.getElem?_cons_succ, List.getElem?_cons_zero]
    first | go_big_quiet_step (rfl) | quiet_step (rfl)
    refine wpQuiet_nil ?_
    rw [wpWy_take]
    simp only [List.getElem?_toArray, List.getElem?_cons_succ, List.getElem?_cons_zero]
    first | go_big_quiet_step (rfl) | quiet_step (rfl)
    refine wpQuiet_nil ?_
    rw [wpWy_take]
    simp only [List.getElem?_toArray, List.getElem?_cons_succ, List.getElem?_cons_zero]
    first | go_big_quiet_step (rfl) | quiet_step (rfl)
    refine wpQuiet_nil ?_
    rw [wpWy_way]
    refine ⟨?_, by exact trivial⟩
    simp only [List.getElem?_toArray, List.getElem?_cons_succ, List.getElem?_cons_zero]
    go_wp2_with (fail)
    refine Ends.intro ⟨Cls.here D1.out, ?_⟩
    rw [wpWy_way]
    refine ⟨?_, by exact trivial⟩
    simp only [List.getElem?_toArray, List.getElem?_cons_succ, List.getElem?_cons_zero]
    go_wp2_with (fail)
    refine Ends.intro ⟨Cls.here D1.out, ?_⟩
    rw [wpWy_take]
    simp only [List.getElem?_toArray, List.getElem?_cons_succ, List.getElem?_cons_zero]
    first | go_big_quiet_step (rfl) | quiet_step (rfl)
    refine wpQuiet_nil ?_
    rw [wpWy_take]
    simp only [List.getElem?_toArray, List.getElem?_cons_succ, List.getElem?_cons_zero]
    first | go_big_quiet_step (rfl) | quiet_step (rfl)
    refine wpQuiet_nil ?_
    rw [wpWy_take]
    simp only [List.getElem?_toArray, List.getElem?_cons_succ, List.getElem?_cons_zero]
    first | go_big_quiet_step (rfl) | quiet_step (rfl)
    refine wpQuiet_nil ?_
    rw [wpWy_take]
    simp only [List.getElem?_toArray, List.getElem?_cons_succ, List.getElem?_cons_zero]
    first | go_big_quiet_step (rfl) | quiet_step (rfl)
    refine wpQuiet_nil ?_
    rw [wpWy_take]
    simp only [List.getElem?_toArray, List.getElem?_cons_succ, List.getElem?_cons_zero]
    first | go_big_quiet_step (rfl) | quiet_step (rfl)
    refine wpQuiet_nil ?_
    rw [wpWy_fin]
    go_wp2_with (fail)
    go_ret
    exact ⟨ret_bool (by rw [HR.out]; simp), B0.out.trans (D1.out.mono B0.out.size)⟩
  | true =>
    rw [hlb] at HS HR
    clear hlb
    refine wp_region_wayw [0, 1, 2] (.way 3 (.take 4 (.take 5 (.take 6 (.take 10 (.take 12 (.take 13 (.take 14 (.take 15 (.way 7 (.way 8 (.take 9 (.take 11 (.take 16 (.take 17 (.take 18 .fin))))) .fin) .fin))))))))) .fin) (fun W => ∃ cc : Cls (fun W => Below w1.heap.size w1 W), W = cc.val) (by kernel_rfl) (by kernel_rfl) (Cls.here (Below.refl _ _).drew) ?_
    simp only [List.filterMap_cons, List.filterMap_nil, List.getElem?_toArray, List.getElem?_cons_zero, List.getElem?_cons_succ]
    repeat (first
      | (refine wpQuiet_load_wholeG (o := ⟨some 6, _, _, _, _, _⟩) ?_ 34 (.tmp 5) ?_ w.heap.size 0 ?_ c.r.cells _ HR1.out Try.underlying34 rfl size_row ?_; rfl; rfl; rfl; simp only [Act.put, List.setIfInBounds_toArray, List.set_cons_zero, List.set_cons_succ])
      | go_big_quiet_step (rfl) | quiet_step (rfl))
    refine wpQuiet_nil ?_
    have D0 := Lib.hid (show Below w1.heap.size w1 w1.drew from (Below.refl _ _).drew)
    generalize w1.drew = d0 at *
    rw [wpWy_way]
    refine ⟨?_, by exact trivial⟩
    simp only [List.getElem?_toArray, List.getElem?_cons_succ, List.getElem?_cons_zero]
    go_wp2_with (go_at_call 87; refine (HS.out _ (B0.out.trans (D0.out.mono B0.out.size))).mono ?_; rintro e d1 ⟨rfl, hb1⟩)
    have D1 := Lib.hid (D0.out.trans (hb1.mono D0.out.size))
    refine Ends.intro ⟨Cls.here D1.out, ?_⟩
    rw [wpWy_take]
    simp only [List.getElem?_toArray, List.getElem?_cons_succ, List.getElem?_cons_zero]
    first | go_big_quiet_step (rfl) | quiet_step (rfl)
    refine wpQuiet_nil ?_
    rw [wpWy_take]
    simp only [List.getElem?_toArray, List.getElem?_cons_succ, List.getElem?_cons_zero]
    first | (refine wpQuiet_load_wholeG (o := ⟨some 10, _, _, _, _, _⟩) ?_ 84 (.tmp 2) ?_ w.heap.size 0 ?_ c.cells _ HR2.out Try.underlying84 rfl HSZ.out ?_; rfl; rfl; rfl; simp only [Act.put, List.setIfInBounds_toArray, List.set_cons_zero, List.set_cons_succ])
    refine wpQuiet_nil ?_
    rw [wpWy_take]
    simp only [List.getElem?_toArray, List.getElem?_cons_succ, List.getElem?_cons_zero]
    first | go_big_quiet_step (rfl) | quiet_step (rfl)
    refine wpQuiet_nil ?_
    rw [wpWy_take]
    simp only [List.getElem?_toArray, List.getElem?_cons_succ, List.getElem?_cons_zero]
    first | go_big_quiet_step (rfl) | quiet_step (rfl)
    refine wpQuiet_nil ?_
    rw [wpWy_take]
    simp only [List.getElem?_toArray, List.getElem?_cons_succ, List.getElem?_cons_zero]
    first | go_big_quiet_step (rfl) | quiet_step (rfl)
    refine wpQuiet_nil ?_
    rw [wpWy_take]
    simp only [List.getElem?_toArray, List.getElem?_cons_succ, List.getElem?_cons_zero]
    first | go_big_quiet_step (rfl) | quiet_step (rfl)
    refine wpQuiet_nil ?_
    rw [wpWy_take]
    simp only [List.getElem?_toArray, List.getElem?_cons_succ, List.getElem?_cons_zero]
    first | go_big_quiet_step (rfl) | quiet_step (rfl)
    refine wpQuiet_nil ?_
    rw [wpWy_take]
    simp only [List.getElem?_toArray, List.getElem?_cons_succ, List.getElem?_cons_zero]
    first | (refine wpQuiet_load_wholeG (o := ⟨some 20, _, _, _, _, _⟩) ?_ 81 (.tmp 19) ?_ w.heap.size (8 + p * 2) ?_ (encWin (winAt c.ws p)) _ HR3.out Try.underlying81 rfl size_win ?_; rfl; rfl; rfl; simp only [Act.put, List.setIfInBounds_toArray, List.set_cons_zero, List.set_cons_succ])
    refine wpQuiet_nil ?_
    rw [wpWy_way]
    refine ⟨?_, by exact trivial⟩
    simp only [List.getElem?_toArray, List.getElem?_cons_succ, List.getElem?_cons_zero]
    go_wp2_with (fail)
    have E7 := Lib.hid (show Lies (d1.alloc (.cells #[.int .i64 (p : Int)] 3)) d1.heap.size 3 #[.int .i64 (p : Int)] from Lies.fresh' rfl)
    have D2 := Lib.hid (D1.out.alloc D1.out.size (.cells #[.int .i64 (p : Int)] 3))
    generalize d1.alloc (.cells #[.int .i64 (p : Int)] 3) = d2 at *
    generalize hgg7 : d1.heap.size = g7 at *
    have G7 := Lib.hid hgg7
    clear hgg7
    have GE7 := Lib.hid (show w1.heap.size ≤ g7 by have := D1.out.size; have := G7.out; omega)
    refine Ends.intro ⟨Cls.here D2.out, ?_⟩
    rw [wpWy_way]
    refine ⟨?_, by exact trivial⟩
    simp only [List.getElem?_toArray, List.getElem?_cons_succ, List.getElem?_cons_zero]
    go_wp2_with (go_at_call 89; refine (HT.out g7 _ (B0.out.trans (D2.out.mono B0.out.size)) (lies_q (q := [(p : Int)]) E7.out)).mono ?_; rintro e d3 ⟨rfl, hb3⟩)
    have E7 := Lib.hid (E7.out.call hb3)
    have D3 := Lib.hid (D2.out.trans (hb3.mono D2.out.size))
    refine Ends.intro ⟨Cls.here D3.out, ?_⟩
    rw [wpWy_take]
    simp only [List.getElem?_toArray, List.getElem?_cons_succ, List.getElem?_cons_zero]
    have hfw := HFW.out
    first | go_big_quiet_step (rfl) | quiet_step (rfl)
    clear hfw
    refine wpQuiet_nil ?_
    rw [wpWy_take]
    simp only [List.getElem?_toArray, List.getElem?_cons_succ, List.getElem?_cons_zero]
    have hiw := HIW.out
    first | go_big_quiet_step (rfl) | quiet_step (rfl)
    clear hiw
    refine wpQuiet_nil ?_
    rw [wpWy_take]
    simp only [List.getElem?_toArray, List.getElem?_cons_succ, List.getElem?_cons_zero]
    have heq := HEQ.out
    first | go_big_quiet_step (rfl) | quiet_step (rfl)
    clear heq
    refine wpQuiet_nil ?_
    rw [wpWy_take]
    simp only [List.getElem?_toArray, List.getElem?_cons_succ, List.getElem?_cons_zero]
    first | go_big_quiet_step (rfl) | quiet_step (rfl)
    refine wpQuiet_nil ?_
    rw [wpWy_take]
    simp only [List.getElem?_toArray, List.getElem?_cons_succ, List.getElem?_cons_zero]
    first | go_big_quiet_step (rfl) | quiet_step (rfl)
    refine wpQuiet_nil ?_
    rw [wpWy_fin]
    go_wp2_with (fail)
    go_ret
    exact ⟨ret_bool (by rw [HR.out]; simp), B0.out.trans (D3.out.mono B0.out.size)⟩
end Go.Proofs.Ytkjhofbjjogmlaa

/- those's iterator for isTelling; Collect. -/
namespace Go.Proofs.Ytkjhofbjjogmlaa
open Go.RowKit Go.Lib
attribute [local go_sem] Oper.semAt_some

set_option maxRecDepth 100000 in
set_option maxHeartbeats 8000000 in
theorem those1_gives_tell (n : Nat) (hn : 1 ≤ n) (c : CoM) (gc gh N : Nat) (w : World) (hws : c.ws.length = 10) (hok : c.r.d.Ok) (hN : c.r.dug.l.length = N) (St : World → Prop) (hSt : ∀ W, St W → Lies W gc 84 c.cells.toArray ∧ Lies W gh 126 #[.func (.func 84) #[] #[]] ∧ c.r.At W W.heap.size) :
    GivesN n Try.prog 99 #[.pointer (some ⟨gc, 0, none⟩), .pointer (some ⟨gh, 0, none⟩)] (fun _ => encQ) (thoseD ((c.r.d.tellB c.ws)) N) w (fun _ _ _ => True) St := by
  intro l' J Jx W hbW hJS hJ hY h0
  have hnn : c.r.n = (N : Int) := by rw [← hN]; exact hok.dug.symm
  have hN10 : N ≤ 10 := by have := hok.n1; have h2 : c.r.d.n = c.r.n := rfl; omega
  have HPT := Lib.hid (fun k A (h : J k A) => hSt A (hJS k A h))
  have HY := Lib.hid hY
  have HJ := Lib.hid hJ
  have H0 := Lib.hid h0
  have hsz : (Try.prog.info? 84).map (·.size) = some c.cells.toArray.size := by rw [List.size_toArray, c.len hws]; exact size_co
  have HSZ := Lib.hid hsz
  have HWS := Lib.hid hws
  have HOK := Lib.hid hok
  have c0 : W.cell? ⟨gc, 0, none⟩ = some (.int .i64 N) := by rw [← hnn, (HPT.out _ _ H0.out).1.at_]; exact co_n c
  have hNz : (N : Int) ≤ 10 := by omega
  have hN0 : (0 : Int) ≤ (N : Int) := by omega
  have HNN := Lib.hid hN
  clear hJS hY hJ h0 hSt hbW hok hnn hsz hws hN
  generalize hhd : (c.r.d.tellB c.ws) = hd at *
  have HHD := Lib.hid hhd
  clear hhd
  refine callsIn_of_wp Try.func99 rfl trivial ?_ rfl
  refine wpIn_wide.2 ?_
  simp only [Try.ntmps99, List.size_toArray, List.length_cons, List.length_nil, Nat.reduceAdd, Nat.reduceSub, Array.replicate_succ, Array.replicate_zero, List.push_toArray, List.append_toArray, List.nil_append, List.cons_append]
  go_wp2
  clear c0
  go_loopw [4, 8] (fun _ s8 wr => ∃ q : Nat, q ≤ N ∧ s8 = .int .i64 q ∧ Aside (J (thoseD hd q).length wr)) (fun _ i _ => N - (intOf i).toNat)
  case atStart => exact ⟨0, by omega, rfl, H0.out⟩
  case round =>
    obtain ⟨q, hq, rfl, NN⟩ := hrel
    obtain ⟨hsc, hsh, hra⟩ := HPT.out _ _ NN.out
    by_cases hlt : q < N
    · have hltz : (q : Int) < (N : Int) := by omega
      have hq0 : (0 : Int) ≤ (q : Int) := by omega
      have c2 : wr.cell? ⟨gh, 0, none⟩ = some (.func (.func 84) #[] #[]) := hsh.at_ 0
      have hst := isTelling_any c q wr HWS.out hra HOK.out (by rw [HNN.out]; exact hlt)
      rw [HHD.out] at hst
      have HST := Lib.hid hst
      have HC := Lib.hid hsc
      have HSU := Lib.hid (thoseD_succ hd q)
      have HAT := Lib.hid (fun h => thoseD_at hd hlt h)
      clear hst hsc hsh hra
      cases hsb : hd q with
      | false =>
        rw [hsb] at HST HSU
        clear hsb
        go_wp2_with (first
          | (refine wpList_load_row (o := ⟨some 12, _, _, _, _, _⟩) ?_ 84 (.tmp 1) ?_ gc ?_ 84 c.cells.toArray (0, 0) _ HC.out Try.underlying84 rfl HSZ.out ?_; rfl; rfl; rfl)
          | (go_at_call 84; refine HST.out.mono ?_; rintro e w5 ⟨rfl, hb5⟩))
        go_roundw
        case rel =>
          refine ⟨q + 1, by omega, by go_num, ?_⟩
          show J _ _
          rw [HSU.out, if_neg (by simp), List.append_nil]
          exact HJ.out _ _ _ NN.out hb5
        case measure => simp [intOf]; omega
      | true =>
        rw [hsb] at HST HSU
        have HX := Lib.hid (HAT.out hsb)
        clear hsb
        have HYY := Lib.hid (fun A hA => HY.out _ q A HX.out hA trivial)
        have hn1 : 1 ≤ n := hn
        refine (wpIn_wide (n := n)).1 ?_
        gi_wp2_with (refine wpListIn_load_midG (op := ⟨some 12, _, _, _, _, _⟩) ?_ 84 (.tmp 1) ?_ gc 0 ?_ c.cells _ (Lies.range (cs := c.cells) HC.out (fun j v hj => by simpa using hj)) Try.underlying84 rfl (by have := HSZ.out; simpa using this) ?_; kernel_rfl; rfl; rfl)
        refine ⟨trivial, (callsIn_wide.2 HST.out).mono ?_⟩
        rintro e w5 ⟨rfl, hb5⟩
        obtain ⟨fn, tmps, assign, body, hy, hR⟩ := HYY.out w5 (HJ.out _ _ _ NN.out hb5)
        dsimp only [encQ] at hy
        clear hb5 c2
        gi_wp2_with (fail)
        refine hR.mono ?_
        clear hR hy
        rintro e W5 (⟨rfl, hJ5, -⟩ | ⟨rfl, hx5⟩)
        · gi_wp2_with (fail)
          go_wp2_with (fail)
          go_roundw
          case rel =>
            refine ⟨q + 1, by omega, by go_num, ?_⟩
            show J _ _
            rw [HSU.out, if_pos (by simp), List.length_append]; exact hJ5
          case measure => simp [intOf]; omega
        · gi_wp2_with (fail)
          go_wp2
          refine bodyPost_ret (results_none rfl _ _ _) rfl ?_
          refine ⟨⟨_, rfl⟩, .inr ⟨_, ?_, hx5⟩⟩
          have := (List.getElem?_eq_some_iff.1 HX.out).1
          omega
    · obtain rfl : q = N := by omega
      go_wp2
      go_end0
      exact ⟨⟨_, rfl⟩, .inl NN.out⟩
/-- Collect between two plants. -/
structure ClI (c : CoM) (gc gh : Nat) (l : List Nat) (w : World) (j : Nat) (V : World) : Prop where
  la : ∃ v, Lies V w.heap.size 23 #[v] ∧ V.ownsRow (w.heap.size + 1) 3 1 v ((l.take j).map fun q : Nat => (q : Int)).length (((l.take j).map fun q : Nat => (q : Int)).flatMap encI)
  lc : Lies V gc 84 c.cells.toArray
  lh : Lies V gh 126 #[.func (.func 84) #[] #[]]
  lb : Below w.heap.size w V
theorem ClI.call {c : CoM} {gc gh : Nat} {l : List Nat} {w : World} {j : Nat} {V V' : World} (h : ClI c gc gh l w j V) (hb : Below V.heap.size V V') : ClI c gc gh l w j V' := by
  obtain ⟨v, h1, h2⟩ := h.la
  exact ⟨⟨v, h1.call hb, ownsRow_call h2 hb⟩, h.lc.call hb, h.lh.call hb, h.lb.trans (hb.mono h.lb.size)⟩
theorem ClI.recs {c : CoM} {gc gh : Nat} {l : List Nat} {w : World} {j D : Nat} {V V' : World} (h : ClI c gc gh l w j V) (hr : Recs D V V') (hD : w.heap.size ≤ D) : ClI c gc gh l w j V' := by
  obtain ⟨v, h1, h2⟩ := h.la
  exact ⟨⟨v, hr.lies h1, own_recs h2 hr⟩, hr.lies h.lc, hr.lies h.lh, hr.below h.lb hD h.lb.size⟩
set_option maxRecDepth 100000 in
set_option maxHeartbeats 8000000 in
theorem AppendSeq_any (c : CoM) (gc gh : Nat) (w : World) (hws : c.ws.length = 10) (hr : c.r.At w w.heap.size) (hok : c.r.d.Ok) (hc : Lies w gc 84 c.cells.toArray) (hh : Lies w gh 126 #[.func (.func 84) #[] #[]]) :
    Calls Try.prog 98 #[.slice none 0 0, .func (.func 99) #[] #[.pointer (some ⟨gc, 0, none⟩), .pointer (some ⟨gh, 0, none⟩)]] w (RetIs ((thoseD (c.r.d.tellB c.ws) c.r.d.dug.length).map fun q : Nat => (q : Int)) w) := by
  refine calls_of_wp_marks 5 Try.func98 rfl ?_
  simp only [Try.ntmps98, List.size_toArray, List.length_cons, List.length_nil, Nat.reduceAdd, Nat.reduceSub, Array.replicate_succ, Array.replicate_zero, List.push_toArray, List.append_toArray, List.nil_append, List.cons_append]
  have hb0 := (Below.refl w.heap.size w).alloc (Nat.le_refl _) (.cells #[.slice none 0 0] 23)
  have hI : ClI c gc gh (thoseD (c.r.d.tellB c.ws) c.r.d.dug.length) w 0 (w.alloc (.cells #[.slice none 0 0] 23)) :=
    ⟨⟨_, Lies.fresh _ _ _, by simpa using World.ownsRow_nil _ _ _ _⟩, hc.alloc _, hh.alloc _, hb0⟩
  have hz2 : (w.alloc (.cells #[.slice none 0 0] 23)).heap.size = w.heap.size + 1 := by simp
  have hgc := hc.in_
  have hgh := hh.in_
  have hgv := those1_gives_tell 4 (by omega) c gc gh c.r.d.dug.length (w.alloc (.cells #[.slice none 0 0] 23)) hws hok rfl (fun V => Lies V gc 84 c.cells.toArray ∧ Lies V gh 126 #[.func (.func 84) #[] #[]] ∧ c.r.At V V.heap.size) (fun V h => h)
  have hN10 : c.r.d.dug.length ≤ 10 := by have := hok.dug; have := hok.n1; omega
  have hlen : (thoseD (c.r.d.tellB c.ws) c.r.d.dug.length).length ≤ 10 := Nat.le_trans (by unfold thoseD; exact Nat.le_trans (List.length_filter_le _ _) (by simp)) hN10
  generalize thoseD (c.r.d.tellB c.ws) c.r.d.dug.length = l at *
  go_wp2
  generalize w.alloc (.cells #[.slice none 0 0] 23) = w2 at *
  have HI := Lib.hid hI
  have HZ2 := Lib.hid hz2
  have HRR := Lib.hid hr
  clear hI hz2 hr hws hok hb0 hc hh
  refine range_givesN (n := 5) (gf := 99) rfl (enters_of Try.func99 (by kernel_rfl) rfl) hgv (Below.refl _ _) (fun _ _ => rfl) (fun _ _ _ _ h _ => h)
    (ClI c gc gh l w) (fun _ _ _ => False) ?hI ?hIs ?hIx HI.out ?hSt
    (fun x a' V => a' = { tmps := #[.slice none 0 0, .func (.func 99) #[] #[.pointer (some ⟨gc, 0, none⟩), .pointer (some ⟨gh, 0, none⟩)], .pointer (some ⟨w.heap.size, 0, none⟩), undef, .slice none 0 0, .int .i64 (x : Int), .func (.func 99) #[] #[.pointer (some ⟨gc, 0, none⟩), .pointer (some ⟨gh, 0, none⟩)], .int .i64 (x : Int), undef, undef, undef, undef, undef], defers := [] }) ?hAx ?assign ?body ?done ?stop
  case hI =>
    intro j V V' h ht
    exact h.recs ht (by have := HZ2.out; omega)
  case hIs =>
    intro j V V' h ht
    exact h.call ht
  case hIx =>
    intro cd j V V' h ht
    exact h
  case hSt =>
    intro j V h
    exact ⟨h.lc, h.lh, HRR.out.below h.lb h.lb.size⟩
  case hAx =>
    rintro x a' V V' rfl ht
    rfl
  case stop =>
    intro D cd j V hD hk' hi hd
    exact hi.elim
  case assign =>
    intro l' j x V K hx hi _ hK
    have HIN := Lib.hid hi
    clear hgv hx hi
    simp only [encQ]
    gi_wp2_with (fail)
    exact hK _ _ (KeepsFrom.of_below (Below.refl _ _)) HIN.out trivial rfl
  case body =>
    rintro l' j x a' V hl' hx hi _ rfl
    have HS2 := Lib.hid (show (l.take (j + 1)).map (fun q : Nat => (q : Int)) = (l.take j).map (fun q : Nat => (q : Int)) ++ [(x : Int)] by rw [List.take_add_one, hx, List.map_append]; rfl)
    have hcl3 : ((l.take j).map fun q : Nat => (q : Int)).length + 1 ≤ 1000 := by simp; omega
    have HIN := Lib.hid hi
    obtain ⟨v, ha1, ha2⟩ := hi.la
    have c7 : V.cell? ⟨w.heap.size, 0, none⟩ = some v := ha1.at_ 0
    have HA1 := Lib.hid ha1
    have HA2 := Lib.hid (ownsRow_call ha2 ((Below.refl V.heap.size V).alloc (Nat.le_refl _) (.cells #[.int .i64 (x : Int)] 3)))
    have hzq : w.heap.size + 1 ≤ V.heap.size := ha1.in_
    clear hi hx hgv ha1 ha2
    generalize hzz : (l.take j).map (fun q : Nat => (q : Int)) = z at *
    have HZZ := Lib.hid hzz
    clear hzz
    gi_wp2_with (refine wpListIn_app_int (o := ⟨some 11, _, _, _, _, _⟩) _ ?_ (.tmp 8) (.tmp 10) ?_ (w.heap.size + 1) v z ?_ HA2.out V.heap.size x ?_ (Lies.fresh' rfl) hcl3 (by simp; omega) ?_; rfl; rfl; rfl; rfl; intro v4 w4 hown4 hb4 hg4; obtain ⟨A4, cp4, hv4, -, -⟩ := Sl.of_own (enc := encI) (fun _ => rfl) hown4 rfl; subst hv4; have hb5 := (Below.refl V.heap.size V).alloc (Nat.le_refl _) (.cells #[.int .i64 (x : Int)] 3); have hL7 := lies_app (HA1.out.call hb5) HA2.out hg4 (by omega); have c8 : w4.cell? ⟨w.heap.size, 0, none⟩ = some v := hL7.at_ 0; have f8 : w4.frozen? ⟨w.heap.size, 0, none⟩ = false := hL7.free 0)
    have hIQ := HIN.out.call hb5
    have hO : Only w.heap.size w4 (w4.setCell ⟨w.heap.size, 0, none⟩ (.slice A4 (z.length + 1) cp4)) := Only.set _ _ _ _
    refine ⟨KeepsFrom.trans (KeepsFrom.of_below hb5) (KeepsFrom.trans (KeepsFrom.of_own HA2.out hg4) (KeepsFrom.of_only hO hL7)), ?_, trivial⟩
    refine ⟨⟨_, hL7.set 0 _, ?_⟩, hO.lies (lies_app hIQ.lc HA2.out hg4 (by omega)) (by omega), hO.lies (lies_app hIQ.lh HA2.out hg4 (by omega)) (by omega), (hIQ.lb.trans (hb4.mono (by omega))).setCell (by simp) _⟩
    rw [HS2.out]
    have h5 := own_keep hown4 fun k hk => hO.block k (by have := (own_at hown4 hk).1; omega)
    simpa only [List.length_append, List.length_cons, List.length_nil] using h5
  case done =>
    intro D V hD hi hd
    obtain ⟨v, ha1, ha2⟩ := hi.la
    rw [List.take_of_length_le (Nat.le_refl _)] at ha2
    obtain ⟨A, cap, rfl, hA, hS⟩ := Sl.of_own (enc := encI) (fun _ => rfl) ha2 rfl
    have c7 : V.cell? ⟨w.heap.size, 0, none⟩ = some (.slice A (l.map fun q : Nat => (q : Int)).length cap) := ha1.at_ 0
    have HAA := Lib.hid hA
    have HS := Lib.hid hS
    have HB := Lib.hid hi.lb
    have HDD := Lib.hid hd
    clear hi hgv hd ha1 ha2 hA hS
    generalize hzz : l.map (fun q : Nat => (q : Int)) = z at *
    have HZZ := Lib.hid hzz
    clear hzz
    go_wp2
    have hrec : Recs D V (V.putObj D (.deferred none)) := Recs.put _ (Nat.le_refl _) HDD.out rfl
    refine leave_mark HDD.out ⟨_, results_tmp rfl _ _ _, ?_⟩
    rw [HZZ.out]
    refine ⟨A, cap, rfl, HAA.out, ?_, hrec.below HB.out (by have := HZ2.out; omega) HB.out.size⟩
    intro hne
    obtain ⟨b, off, e, hb, hc⟩ := HS.out hne
    refine ⟨b, off, e, Nat.lt_of_lt_of_le hb hrec.size, fun i x hx jj u hu => ?_⟩
    rw [← hc i x hx jj u hu]
    exact recs_cell hrec (hc i x hx jj u hu)
theorem Collect_any (c : CoM) (gc gh : Nat) (w : World) (hws : c.ws.length = 10) (hr : c.r.At w w.heap.size) (hok : c.r.d.Ok) (hc : Lies w gc 84 c.cells.toArray) (hh : Lies w gh 126 #[.func (.func 84) #[] #[]]) :
    Calls Try.prog 82 #[.func (.func 99) #[] #[.pointer (some ⟨gc, 0, none⟩), .pointer (some ⟨gh, 0, none⟩)]] w (RetIs ((thoseD (c.r.d.tellB c.ws) c.r.d.dug.length).map fun q : Nat => (q : Int)) w) := by
  have HA := Lib.hid (AppendSeq_any c gc gh w hws hr hok hc hh)
  clear hws hr hok hc hh
  generalize (thoseD (c.r.d.tellB c.ws) c.r.d.dug.length).map (fun q : Nat => (q : Int)) = z at *
  go_enter Try.func82, Try.ntmps82
  go_wp2_with (go_at_call 98; refine HA.out.mono ?_; rintro e w5 ⟨A, cap, rfl, hA, hS, hb5⟩)
  go_ret
  exact ⟨A, cap, rfl, hA, hS, hb5⟩
end Go.Proofs.Ytkjhofbjjogmlaa
