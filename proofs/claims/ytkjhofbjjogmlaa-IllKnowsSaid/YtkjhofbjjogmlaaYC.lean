/- ill; the search for the least number of ill plants. -/
import Derived.Test.YtkjhofbjjogmlaaYB
import Derived.Test.YtkjhofbjjogmlaaYA
namespace Go.Proofs.Ytkjhofbjjogmlaa
open Go.RowKit Go.Lib

def RwD.illI (r : RwD) (t : List Int) : List Int := (r.illB t).map fun q : Nat => (q : Int)
theorem illI_len (r : RwD) (t : List Int) : (r.illI t).length = (r.illB t).length := by simp [RwD.illI]
theorem illB_len (r : RwD) (t : List Int) : (r.illB t).length ≤ r.dug.length := by
  unfold RwD.illB thoseD
  exact Nat.le_trans (List.length_filter_le _ _) (Nat.le_trans (List.length_filter_le _ _) (by simp))
set_option maxRecDepth 100000 in
set_option maxHeartbeats 4000000 in
theorem ill_any (c : CoM) (t : List Int) (w : World) (hws : c.ws.length = 10) (hr : c.r.At w w.heap.size) (hok : c.r.d.Ok) (ht : t.length = 10) :
    Calls Try.prog 57 #[.agg c.cells.toArray, .agg (vals t)] w (RetOwn (c.r.d.illI t) w) := by
  have l0 : Lies ((w.alloc (.cells c.cells.toArray 84)).alloc (.cells (vals t) 86)) w.heap.size 84 c.cells.toArray := (Lies.fresh _ _ _).alloc _
  have l1 : Lies ((w.alloc (.cells c.cells.toArray 84)).alloc (.cells (vals t) 86)) (w.heap.size + 1) 86 (vals t) := Lies.fresh' (by simp)
  have b0 : Below w.heap.size w ((w.alloc (.cells c.cells.toArray 84)).alloc (.cells (vals t) 86)) := (by repeat (first | (with_reducible assumption) | (with_reducible exact Below.refl _ _) | (with_reducible refine Below.drew ?_) | (with_reducible refine below_drewN ?_ _) | ((with_reducible refine Below.setCell ?_ ?_ _); rotate_left; focus (first | (simp; done) | (simp; omega) | omega)) | ((with_reducible refine Below.alloc ?_ ?_ _); rotate_left; focus (first | (simp; done) | (simp; omega) | omega))))
  have hC : Calls Try.prog 81 #[.agg c.cells.toArray, .agg (vals t), .int .i64 (c.r.ws.l.length : Int)] _ (RetOwn (c.r.d.illI t) _) := cases_own c t (c.r.ws.l.length : Int) _ hws (hr.below b0 b0.size) hok ht
  have hsz : (Try.prog.info? 84).map (·.size) = some c.cells.toArray.size := by rw [List.size_toArray, c.len hws]; exact size_co
  have hst : (Try.prog.info? 86).map (·.size) = some t.length := by rw [ht]; exact size_tr
  generalize c.r.d.illI t = il at *
  have L0 := Lib.hid l0
  have L1 := Lib.hid l1
  have B0 := Lib.hid b0
  have HC := Lib.hid hC
  have HSZ := Lib.hid hsz
  have HST := Lib.hid hst
  clear l0 l1 b0 hC hsz hst hws hr hok ht
  go_enter Try.func57, Try.ntmps57
  go_upto_region 1 with (fail)
  change Code.wp _ _ _ _ ((w.alloc (.cells c.cells.toArray 84)).alloc (.cells (vals t) 86))
  generalize (w.alloc (.cells c.cells.toArray 84)).alloc (.cells (vals t) 86) = w0 at *
  have a1 : w0.cell? ⟨w.heap.size, 1, none⟩ = some (.slice c.r.ws.A c.r.ws.l.length c.r.ws.c) := by rw [L0.out.at_]; exact (co_at c).1
  go_wp2_with (first
    | (refine wpList_load_row (o := ⟨some 5, _, _, _, _, _⟩) ?_ 84 (.tmp 2) ?_ w.heap.size ?_ 84 c.cells.toArray (0, 0) _ L0.out Try.underlying84 rfl HSZ.out ?_; rfl; rfl; rfl)
    | (refine wpList_load_ints (o := ⟨some 6, _, _, _, _, _⟩) ?_ 86 (.tmp 3) ?_ (w.heap.size + 1) 0 ?_ 86 t t _ L1.out (fun j v h => by simpa using h) Try.underlying86 rfl HST.out ?_; rfl; rfl; rfl)
    | (go_at_call 81; refine HC.out.mono ?_; rintro e w5 ⟨A, cap, rfl, hO, hb5⟩))
  go_ret
  exact ⟨A, cap, rfl, ownsRow_base hO B0.out.size, B0.out.trans (hb5.mono B0.out.size)⟩
abbrev fTry (gT gL gF : Nat) : Value := .func (.func 80) #[] #[.pointer (some ⟨gT, 0, none⟩), .pointer (some ⟨gL, 0, none⟩), .pointer (some ⟨gF, 0, none⟩)]
/-- The search's memory. -/
structure TyM (gT gL gF gm : Nat) (w0 : World) (T : List (List Bool)) (m : Nat) (W : World) : Prop where
  lT : Lies W gT 117 #[.map (some gm)]
  lL : Lies W gL 3 #[.int .i64 m]
  lF : Lies W gF 118 #[fTry gT gL gF]
  mp : SetM W gm T
  b : Below w0.heap.size w0 W
  tl : gT ≠ gL
  fl : gF ≠ gL
  z : w0.heap.size ≤ gL
  zm : w0.heap.size ≤ gm
section
variable {gT gL gF gm : Nat} {w0 W W' : World} {T T' : List (List Bool)} {m : Nat}
theorem TyM.call (h : TyM gT gL gF gm w0 T m W) (hb : Below W.heap.size W W') : TyM gT gL gF gm w0 T m W' :=
  ⟨h.lT.call hb, h.lL.call hb, h.lF.call hb, h.mp.call hb, h.b.trans (hb.mono h.b.size), h.tl, h.fl, h.z, h.zm⟩
theorem TyM.set (h : TyM gT gL gF gm w0 T m W) (m' : Nat) : TyM gT gL gF gm w0 T m' (W.setCell ⟨gL, 0, none⟩ (.int .i64 m')) :=
  have hO := Only.set gL 0 W (.int .i64 m')
  ⟨hO.lies h.lT h.tl, h.lL.set 0 _, hO.lies h.lF h.fl, h.mp.to_ (hO.block _ (h.mp.ne h.lL)), hO.below h.b h.z, h.tl, h.fl, h.z, h.zm⟩
theorem TyM.only (h : TyM gT gL gF gm w0 T m W) {g : Nat} {t : TypeId} {cs : Array Value} (hl : Lies W g t cs) (hO : Only g W W') (h1 : gT ≠ g) (h2 : gL ≠ g) (h3 : gF ≠ g) (h4 : w0.heap.size ≤ g) : TyM gT gL gF gm w0 T m W' :=
  ⟨hO.lies h.lT h1, hO.lies h.lL h2, hO.lies h.lF h3, h.mp.to_ (hO.block _ (h.mp.ne hl)), hO.below h.b h4, h.tl, h.fl, h.z, h.zm⟩
theorem TyM.put (h : TyM gT gL gF gm w0 T m W) (hm : SetM W' gm T') (hg : W.grownBy W' (some gm)) : TyM gT gL gF gm w0 T' m W' := by
  have hne : ∀ {g t cs}, Lies W g t cs → some g ≠ some gm := fun hl e => h.mp.ne hl (by simpa using e.symm)
  have hz : ∀ k, (some gm : Option Nat) = some k → w0.heap.size ≤ k := fun k e => by
    have e2 : gm = k := by simpa using e
    rw [← e2]; exact h.zm
  exact ⟨h.lT.grown hg (hne h.lT), h.lL.grown hg (hne h.lL), h.lF.grown hg (hne h.lF), hm, h.b.grown hg h.b.size hz, h.tl, h.fl, h.z, h.zm⟩
end
/-- What a call of the search does. -/
def TyR (c : CoM) (gT gL gF gm : Nat) (w0 : World) (T : List (List Bool)) (m : Nat) (S : List Bool) (W : World) (w' : World) : Prop :=
  ∃ T' m', Tried c.r.d c.ws T m S T' m' ∧ TyM gT gL gF gm w0 T' m' w' ∧ St2 gL gm W w'
def TyT (c : CoM) (gT gL gF gm : Nat) (w0 : World) (k : Nat) : Prop :=
  ∀ (S : List Bool) (T : List (List Bool)) (m : Nat) (W : World), falses S ≤ k → S.length = 10 → m ≤ 10 → TyM gT gL gF gm w0 T m W →
    Calls Try.prog 80 #[.agg (boolsL S).toArray, .agg (CoM.cells ⟨c.r, spareW c.ws S⟩).toArray, .pointer (some ⟨gT, 0, none⟩), .pointer (some ⟨gL, 0, none⟩), .pointer (some ⟨gF, 0, none⟩)] W
      fun e w' => e = .returned (.tuple #[]) ∧ TyR c gT gL gF gm w0 T m S W w'
theorem size_pl : (Try.prog.info? 120).map (·.size) = some 10 := by kernel_rfl
set_option maxRecDepth 100000 in
set_option maxHeartbeats 4000000 in
theorem try_hit (c : CoM) (gT gL gF gm : Nat) (w0 : World) (S : List Bool) (T : List (List Bool)) (m : Nat) (W : World) (hl : S.length = 10) (hM : TyM gT gL gF gm w0 T m W) (hS : S ∈ T) :
    Calls Try.prog 80 #[.agg (boolsL S).toArray, .agg (CoM.cells ⟨c.r, spareW c.ws S⟩).toArray, .pointer (some ⟨gT, 0, none⟩), .pointer (some ⟨gL, 0, none⟩), .pointer (some ⟨gF, 0, none⟩)] W
      fun e w' => e = .returned (.tuple #[]) ∧ TyR c gT gL gF gm w0 T m S W w' := by
  have b0 : Below W.heap.size W ((W.alloc (.cells (boolsL S).toArray 120)).alloc (.cells (CoM.cells ⟨c.r, spareW c.ws S⟩).toArray 84)) := ((Below.refl _ _).alloc (Nat.le_refl _) _).alloc (by simp) _
  have l0 : Lies ((W.alloc (.cells (boolsL S).toArray 120)).alloc (.cells (CoM.cells ⟨c.r, spareW c.ws S⟩).toArray 84)) W.heap.size 120 (boolsL S).toArray := (Lies.fresh _ _ _).alloc _
  have hM0 := hM.call b0
  have hsz : (Try.prog.info? 120).map (·.size) = some (boolsL S).toArray.size := by rw [List.size_toArray, boolsL_length, hl]; exact size_pl
  have L0 := Lib.hid l0
  have B0 := Lib.hid b0
  have M0 := Lib.hid hM0
  have HSZ := Lib.hid hsz
  have HL := Lib.hid hl
  have HS := Lib.hid hS
  have hd : decide (S ∈ T) = true := decide_eq_true hS
  clear l0 b0 hM0 hsz hl hM hS
  generalize (CoM.cells ⟨c.r, spareW c.ws S⟩).toArray = cc at *
  go_enter Try.func80, Try.ntmps80
  go_upto_region 1 with (fail)
  change Code.wp _ _ _ _ ((W.alloc (.cells (boolsL S).toArray 120)).alloc (.cells cc 84))
  generalize (W.alloc (.cells (boolsL S).toArray 120)).alloc (.cells cc 84) = w1 at *
  have a0 : w1.cell? ⟨gT, 0, none⟩ = some (.map (some gm)) := M0.out.lT.at_ 0
  go_wp2_with (first
    | (refine wpList_load_row (o := ⟨some 14, _, _, _, _, _⟩) ?_ 120 (.tmp 5) ?_ W.heap.size ?_ 120 (boolsL S).toArray (0, 0) _ L0.out Try.underlying120 rfl HSZ.out ?_; rfl; rfl; rfl)
    | (refine wpList_look_set (o := ⟨some 15, _, _, _, _, _⟩) ?_ (.tmp 13) (.tmp 14) ?_ gm T ?_ M0.out.mp S HL.out ?_ ?_; rfl; rfl; rfl; rfl))
  exact bodyPost_ret (results_none rfl _ _ _) rfl ⟨rfl, T, m, Tried.hit HS.out, M0.out, St2.of_below B0.out⟩
/-- What the rounds of the search keep. -/
structure TyL (c : CoM) (gT gL gF gm : Nat) (w0 : World) (S : List Bool) (ws : List (Int × Int)) (T : List (List Bool)) (m : Nat) (il : List Int) (B : Nat) (vI : Value) (j : Nat) (W wr : World) : Prop where
  t : ∃ T1 m1, TryL c.r.d c.ws T m S j T1 m1 ∧ TyM gT gL gF gm w0 T1 m1 wr
  p : Lies wr W.heap.size 120 (boolsL S).toArray
  c : Lies wr (W.heap.size + 1) 84 (CoM.cells ⟨c.r, ws⟩).toArray
  i : wr.ownsRow B 3 1 vI il.length (il.flatMap encI)
  s : St2 gL gm W wr
theorem TyL.call {c : CoM} {gT gL gF gm : Nat} {w0 : World} {S : List Bool} {ws : List (Int × Int)} {T : List (List Bool)} {m : Nat} {il : List Int} {B : Nat} {vI : Value} {j : Nat} {W wr wr' : World} (h : TyL c gT gL gF gm w0 S ws T m il B vI j W wr) (hb : Below wr.heap.size wr wr') : TyL c gT gL gF gm w0 S ws T m il B vI j W wr' := by
  obtain ⟨T1, m1, h1, h2⟩ := h.t
  exact ⟨⟨T1, m1, h1, h2.call hb⟩, h.p.call hb, h.c.call hb, ownsRow_call h.i hb, h.s.trans (St2.of_below hb)⟩
theorem boolsL_set (S : List Bool) (p : Nat) : (boolsL S).toArray.setIfInBounds p (.bool true) = (boolsL (S.set p true)).toArray := by simp [boolsL, List.map_set]
theorem boolsL_at {S : List Bool} {p : Nat} (h : p < S.length) : (boolsL S).toArray[p]? = some (.bool (S.getD p false)) := by
  simp [boolsL, List.getD, h]
set_option maxRecDepth 100000 in
set_option maxHeartbeats 8000000 in
theorem try_miss (c : CoM) (gT gL gF gm : Nat) (w0 : World) (hws : c.ws.length = 10) (hr : c.r.At w0 w0.heap.size) (hok : c.r.d.Ok) (k : Nat) (ih : ∀ j, j + 1 = k → TyT c gT gL gF gm w0 j)
    (S : List Bool) (T : List (List Bool)) (m : Nat) (W : World) (hf : falses S ≤ k) (hl : S.length = 10) (hm : m ≤ 10) (hM : TyM gT gL gF gm w0 T m W) (hS : S ∉ T) :
    Calls Try.prog 80 #[.agg (boolsL S).toArray, .agg (CoM.cells ⟨c.r, spareW c.ws S⟩).toArray, .pointer (some ⟨gT, 0, none⟩), .pointer (some ⟨gL, 0, none⟩), .pointer (some ⟨gF, 0, none⟩)] W
      fun e w' => e = .returned (.tuple #[]) ∧ TyR c gT gL gF gm w0 T m S W w' := by
  obtain ⟨ws, hgw⟩ : ∃ ws, ws = spareW c.ws S := ⟨_, rfl⟩
  rw [← hgw]
  have hws2 : ws.length = 10 := by rw [hgw, spareW_length]; exact hws
  have b0 : Below W.heap.size W ((W.alloc (.cells (boolsL S).toArray 120)).alloc (.cells (CoM.cells ⟨c.r, ws⟩).toArray 84)) := ((Below.refl _ _).alloc (Nat.le_refl _) _).alloc (by simp) _
  have l0 : Lies ((W.alloc (.cells (boolsL S).toArray 120)).alloc (.cells (CoM.cells ⟨c.r, ws⟩).toArray 84)) W.heap.size 120 (boolsL S).toArray := (Lies.fresh _ _ _).alloc _
  have l1 : Lies ((W.alloc (.cells (boolsL S).toArray 120)).alloc (.cells (CoM.cells ⟨c.r, ws⟩).toArray 84)) (W.heap.size + 1) 84 (CoM.cells ⟨c.r, ws⟩).toArray := Lies.fresh' (by simp)
  have hz0 : ((W.alloc (.cells (boolsL S).toArray 120)).alloc (.cells (CoM.cells ⟨c.r, ws⟩).toArray 84)).heap.size = W.heap.size + 2 := by simp
  have hM0 := hM.call b0
  have hgLW := hM.lL.in_
  have hgmW := hM.mp.in_
  have hsz : (Try.prog.info? 120).map (·.size) = some (boolsL S).toArray.size := by rw [List.size_toArray, boolsL_length, hl]; exact size_pl
  have hsl : (Try.prog.info? 120).map (·.size) = some (boolsL S).length := by rw [boolsL_length, hl]; exact size_pl
  have hfl : 0 + (boolsL S).length ≤ (boolsL (List.replicate 10 false)).length := by rw [boolsL_length, hl]; decide
  have hwl : (boolsL S).length = (boolsL (List.replicate 10 false)).length := by rw [boolsL_length, hl]; rfl
  have hsc : (Try.prog.info? 84).map (·.size) = some (CoM.cells ⟨c.r, ws⟩).toArray.size := by rw [List.size_toArray, CoM.len _ hws2]; exact size_co
  have hE := fun V (hb : Below w0.heap.size w0 V) => earliestTruth_any ⟨c.r, ws⟩ V hws2 (hr.below hb hb.size) hok
  have hI := fun V (hb : Below w0.heap.size w0 V) => ill_any ⟨c.r, ws⟩ (c.r.d.earlyD ws) V hws2 (hr.below hb hb.size) hok (early_ok c.r.d _).len
  have hWO := fun (p : Nat) V (hp : p < 10) => without_any ⟨c.r, ws⟩ p V hws2 hp
  have htl : (c.r.d.earlyD ws).length = 10 := (early_ok c.r.d _).len
  have hst : (Try.prog.info? 86).map (·.size) = some (c.r.d.earlyD ws).length := by rw [htl]; exact size_tr
  have hfit : 0 + (c.r.d.earlyD ws).length ≤ (List.replicate 10 (0 : Int)).length := by rw [htl]; simp
  have hwt : (c.r.d.earlyD ws).length = (List.replicate 10 (0 : Int)).length := by rw [htl]; rfl
  have hil : c.r.d.illI (c.r.d.earlyD ws) = (c.r.d.illS c.ws S).map fun q : Nat => (q : Int) := by rw [hgw]; rfl
  have hcs : c.r.d.possB ws (c.r.d.earlyD ws) = c.r.d.canS c.ws S := by rw [hgw]; rfl
  have hl10 : (c.r.d.illI (c.r.d.earlyD ws)).length ≤ 10 := by rw [illI_len]; have := illB_len c.r.d (c.r.d.earlyD ws); have := hok.dug; have := hok.n1; omega
  have hd : decide (S ∈ T) = false := decide_eq_false hS
  dsimp only at hE hI hWO
  rw [hcs] at hE
  have HIL := Lib.hid hil
  have HWS := Lib.hid hws
  have HSP := Lib.hid hgw
  generalize hge : c.r.d.earlyD ws = et at *
  generalize hgi : c.r.d.illI et = il at *
  have L0 := Lib.hid l0
  have L1 := Lib.hid l1
  have B0 := Lib.hid b0
  have M0 := Lib.hid hM0
  have HSZ := Lib.hid hsz
  have HSL := Lib.hid hsl
  have HFL := Lib.hid hfl
  have HWL := Lib.hid hwl
  have HSC := Lib.hid hsc
  have HST := Lib.hid hst
  have HFT := Lib.hid hfit
  have HWT := Lib.hid hwt
  have HL := Lib.hid hl
  have HS := Lib.hid hS
  have HE := Lib.hid hE
  have HI := Lib.hid hI
  have HWO := Lib.hid hWO
  have HZ := Lib.hid hz0
  have HF := Lib.hid hf
  have HIH := Lib.hid ih
  have HOK := Lib.hid hok
  have HRR := Lib.hid hr
  have hlz : (il.length : Int) ≤ 10 := by omega
  have hmz : (m : Int) ≤ 10 := by omega
  clear l0 l1 b0 hM0 hsz hsc hst hfit hwt hl hM hS hE hI hz0 hf ih hok hr hws hil hcs hge hgi htl hws2 hgw hsl hfl hwl hWO
  go_enter Try.func80, Try.ntmps80
  go_upto_region 1 with (fail)
  change Code.wp _ _ _ _ ((W.alloc (.cells (boolsL S).toArray 120)).alloc (.cells (CoM.cells ⟨c.r, ws⟩).toArray 84))
  generalize (W.alloc (.cells (boolsL S).toArray 120)).alloc (.cells (CoM.cells ⟨c.r, ws⟩).toArray 84) = w1 at *
  have a0 : w1.cell? ⟨gT, 0, none⟩ = some (.map (some gm)) := M0.out.lT.at_ 0
  go_upto_region 3 with (first
    | (refine wpList_load_row (o := ⟨some 14, _, _, _, _, _⟩) ?_ 120 (.tmp 5) ?_ W.heap.size ?_ 120 (boolsL S).toArray (0, 0) _ L0.out Try.underlying120 rfl HSZ.out ?_; rfl; rfl; rfl)
    | (refine wpList_load_row (o := ⟨some 17, _, _, _, _, _⟩) ?_ 120 (.tmp 5) ?_ W.heap.size ?_ 120 (boolsL S).toArray (0, 0) _ L0.out Try.underlying120 rfl HSZ.out ?_; rfl; rfl; rfl)
    | (refine wpList_look_set (o := ⟨some 15, _, _, _, _, _⟩) ?_ (.tmp 13) (.tmp 14) ?_ gm T ?_ M0.out.mp S HL.out ?_ ?_; rfl; rfl; rfl; rfl)
    | (at_mapUpdate; refine wpList_put_set rfl (.tmp 16) (.tmp 17) (.const (.bool true)) rfl gm T rfl M0.out.mp S HL.out HS.out rfl rfl ?_; intro w2 hM2 hg2))
  have hne1 := M0.out.mp.ne L0.out
  have hne2 := M0.out.mp.ne L1.out
  have L02 := Lib.hid (L0.out.grown hg2 (fun e => hne1 (by simpa using e.symm)))
  have L12 := Lib.hid (L1.out.grown hg2 (fun e => hne2 (by simpa using e.symm)))
  have M2 := Lib.hid (M0.out.put hM2 hg2)
  have S2 := Lib.hid ((St2.of_below B0.out).trans (St2.of_grown hg2) : St2 gL gm W w2)
  have hz2 : W.heap.size + 2 ≤ w2.heap.size := by have := HZ.out; have := hg2.size; omega
  clear a0 hM2 hg2 hne1 hne2 L0 L1 M0 B0 HZ
  go_upto_region 4 with (first
    | (refine wpList_load_row (o := ⟨some 19, _, _, _, _, _⟩) ?_ 84 (.tmp 6) ?_ (W.heap.size + 1) ?_ 84 (CoM.cells ⟨c.r, ws⟩).toArray (0, 0) _ L12.out Try.underlying84 rfl HSC.out ?_; rfl; rfl; rfl)
    | (go_at_call 72; refine (HE.out _ M2.out.b).mono ?_; rintro e w3 ⟨rfl, hb3⟩)
    | (refine wpList_store_ints (o := ⟨none, .store 86 (.tmp 7) _, _, _, _, _⟩) ?_ 86 (.tmp 7) (.tmp 21) ?_ w3.heap.size 0 ?_ 86 (List.replicate 10 0) et ?_ (Lies.fresh w3 86 (vals (List.replicate 10 0))) HFT.out HST.out ?_; rfl; rfl; rfl; rfl; intro w4 HS4 HO4; (try simp only [Act.put])))
  have hs4 := HS4.out
  rw [splice_all HWT.out] at hs4
  have hb4 : Below w3.heap.size w3 w4 := HO4.out.below ((Below.refl _ _).alloc (Nat.le_refl _) _) (Nat.le_refl _)
  have hb24 := hb3.trans (hb4.mono hb3.size)
  have L04 := Lib.hid (L02.out.call hb24)
  have L14 := Lib.hid (L12.out.call hb24)
  have M4 := Lib.hid (M2.out.call hb24)
  have S4 := Lib.hid (S2.out.trans (St2.of_below hb24))
  have T4 := Lib.hid hs4
  have hz4 : W.heap.size + 2 ≤ w4.heap.size := Nat.le_trans hz2 hb24.size
  clear hs4 hb4 hb24 hb3 HS4 HO4 L02 L12 M2 S2 hz2
  generalize w3.heap.size = gt at *
  cases hcs : c.r.d.canS c.ws S with
  | false =>
    go_wp2
    exact bodyPost_ret (results_none rfl _ _ _) rfl ⟨rfl, S :: T, m, Tried.sick hcs, M4.out, S4.out⟩
  | true =>
    have HCS := Lib.hid hcs
    clear hcs
    go_upto_region 6 with (first
      | (refine wpList_load_row (o := ⟨some 25, _, _, _, _, _⟩) ?_ 84 (.tmp 6) ?_ (W.heap.size + 1) ?_ 84 (CoM.cells ⟨c.r, ws⟩).toArray (0, 0) _ L14.out Try.underlying84 rfl HSC.out ?_; rfl; rfl; rfl)
      | (refine wpList_load_ints (o := ⟨some 26, _, _, _, _, _⟩) ?_ 86 (.tmp 7) ?_ gt 0 ?_ 86 et et _ T4.out (fun j v h => by simpa using h) Try.underlying86 rfl HST.out ?_; rfl; rfl; rfl)
      | (go_at_call 57; refine (HI.out _ M4.out.b).mono ?_; rintro e w5 ⟨A5, c5, rfl, ho5, hb5⟩))
    have M5 := Lib.hid (M4.out.call hb5)
    have a6 : w5.cell? ⟨gL, 0, none⟩ = some (.int .i64 m) := M5.out.lL.at_ 0
    have f6 : w5.frozen? ⟨gL, 0, none⟩ = false := M5.out.lL.free 0
    go_upto_region 7 with (fail)
    rw [show (min (m : Int) (il.length : Int)) = ((min m il.length : Nat) : Int) by omega]
    have hlen : (c.r.d.illS c.ws S).length = il.length := by rw [HIL.out, List.length_map]
    have hO6 := Only.set gL 0 w5 (.int .i64 ((min m il.length : Nat) : Int))
    have hY : TyL c gT gL gF gm w0 S ws T m il w4.heap.size (.slice A5 il.length c5) 0 W (w5.setCell ⟨gL, 0, none⟩ (.int .i64 ((min m il.length : Nat) : Int))) := by
      refine ⟨⟨S :: T, min m il.length, ?_, M5.out.set _⟩, hO6.lies (L04.out.call hb5) (by omega), hO6.lies (L14.out.call hb5) (by omega), own_keep ho5 fun j hj => hO6.block j (by have := (own_at ho5 hj).1; omega), (S4.out.trans (St2.of_below hb5)).trans (St2.of_only1 hO6)⟩
      have := TryL.start (T := T) (m := m) HCS.out
      rwa [hlen] at this
    have Y0 := Lib.hid hY
    have HLEN := Lib.hid hlen
    have hgB : W.heap.size ≤ w4.heap.size := by omega
    have hB5 := hb5.size
    have hW6 : w4.heap.size ≤ (w5.setCell ⟨gL, 0, none⟩ (.int .i64 ((min m il.length : Nat) : Int))).heap.size := by rw [hO6.size]; exact hB5
    clear hY hO6 hlen a6 f6 M5 ho5 hb5 T4 M4 S4 L04 L14 hB5 HE HI HS HST HFT HWT
    generalize w5.setCell ⟨gL, 0, none⟩ (.int .i64 ((min m il.length : Nat) : Int)) = w6 at *
    generalize w4.heap.size = B at *
    go_wp2
    go_loopw [34] (fun s34 wr => ∃ j : Nat, j ≤ il.length ∧ s34 = .int .i64 j ∧ B ≤ wr.heap.size ∧ Aside (TyL c gT gL gF gm w0 S ws T m il B (.slice A5 il.length c5) j W wr)) (fun i _ => il.length - (intOf i).toNat)
    case atStart => exact ⟨0, by omega, rfl, hW6, Y0.out⟩
    case round =>
      obtain ⟨j, hj, rfl, hBw, HY⟩ := hrel
      clear Y0 hW6
      by_cases hlt : j < il.length
      · have hltz : (j : Int) < (il.length : Int) := by omega
        have hj0 : (0 : Int) ≤ (j : Int) := by omega
        have hlen := HLEN.out
        obtain ⟨p, hp⟩ : ∃ p, (c.r.d.illS c.ws S)[j]? = some p := ⟨(c.r.d.illS c.ws S)[j]'(by omega), by simp⟩
        have hx : il[j]? = some (p : Int) := by rw [HIL.out, List.getElem?_map, hp]; rfl
        obtain ⟨hfree, hp10⟩ := ill_free HOK.out HWS.out HCS.out (List.mem_of_getElem? hp)
        have hpz : (p : Int) < 10 := by omega
        have hp0 : (0 : Int) ≤ (p : Int) := by omega
        obtain ⟨_, _, e1, _, hS1⟩ := Sl.of_own (enc := encI) (fun _ => rfl) HY.out.i rfl
        cases e1
        obtain ⟨tb, off, hAT, htb, c2⟩ := hS1.cell1 hx
        have HP := Lib.hid hp
        have HFR := Lib.hid hfree
        subst hAT
        have HYR := Lib.hid HY.out
        clear hp hx hfree hS1 hlen HY
        go_upto_region 11 with (first
          | (refine wpList_load_row (o := ⟨some 38, _, _, _, _, _⟩) ?_ 120 (.tmp 5) ?_ W.heap.size ?_ 120 (boolsL S).toArray (0, 0) _ HYR.out.p Try.underlying120 rfl HSZ.out ?_; rfl; rfl; rfl)
          | (refine wpList_store_cells (o := ⟨none, .store 120 (.tmp 12) _, _, _, _, _⟩) ?_ 120 (.tmp 12) (.tmp 38) ?_ wr.heap.size 0 ?_ 120 (boolsL (List.replicate 10 false)) (boolsL S) ?_ (Lies.fresh wr 120 (boolsL (List.replicate 10 false)).toArray) HFL.out HSL.out (boolsL_one S) ?_; rfl; rfl; rfl; rfl; intro w7 HS7 HO7; (try simp only [Act.put])))
        have hs7 := HS7.out
        rw [splice_whole HWL.out] at hs7
        have hb7 : Below wr.heap.size wr w7 := HO7.out.below ((Below.refl _ _).alloc (Nat.le_refl _) _) (Nat.le_refl _)
        have d11 : w7.cell? ⟨wr.heap.size, p, none⟩ = some (.bool false) := by rw [hs7.at_, boolsL_at (by rw [HL.out]; exact hp10), HFR.out]
        have f11 : w7.frozen? ⟨wr.heap.size, p, none⟩ = false := hs7.free p
        go_upto_region 12 with (fail)
        have hO8 := Only.set wr.heap.size p w7 (.bool true)
        have hb8 : Below wr.heap.size wr (w7.setCell ⟨wr.heap.size, p, none⟩ (.bool true)) := hO8.below hb7 (Nat.le_refl _)
        have Y8 := Lib.hid (HYR.out.call hb8)
        have hl8 := hs7.set p (.bool true)
        rw [boolsL_set] at hl8
        have P8 := Lib.hid hl8
        have hB8 : B ≤ (w7.setCell ⟨wr.heap.size, p, none⟩ (.bool true)).heap.size := Nat.le_trans hBw hb8.size
        have hgW : W.heap.size ≤ wr.heap.size := HYR.out.s.size
        clear hs7 hb7 d11 f11 hO8 hb8 hl8 HS7 HO7 HYR c2 hBw htb
        generalize wr.heap.size = gq at *
        generalize w7.setCell ⟨gq, p, none⟩ (.bool true) = w8 at *
        obtain ⟨T1, m1, ht1, hM1⟩ := Y8.out.t
        have h8gT := hM1.lT.in_
        have h8gF := hM1.lF.in_
        have h8F : gF ≠ gm := fun e => (hM1.mp.ne hM1.lF) e.symm
        have h8q : gq ≠ gm := fun e => (hM1.mp.ne P8.out) e.symm
        have h8q2 : gq ≠ gL := by omega
        have h8c : W.heap.size + 1 ≠ gm := by omega
        have h8c2 : W.heap.size + 1 ≠ gL := by omega
        have e41 : ∀ cc : Cls (fun V => St2 gL gm w8 V), cc.val.cell? ⟨gF, 0, none⟩ = some (fTry gT gL gF) := fun cc => cc.h.cell h8gF hM1.fl h8F (hM1.lF.at_ 0)
        have hr42 : ∀ V, (∃ cc : Cls (fun V => St2 gL gm w8 V), V = cc.val) → V.rangeAt gq 0 (boolsL (S.set p true)) := by
          rintro V ⟨cc, rfl⟩
          exact Lies.range (cs := boolsL (S.set p true)) (cc.h.lies P8.out h8q2 h8q) (fun j v hj => by simpa using hj)
        have hr43 : ∀ V, (∃ cc : Cls (fun V => St2 gL gm w8 V), V = cc.val) → V.rangeAt (W.heap.size + 1) 0 (CoM.cells ⟨c.r, ws⟩) := by
          rintro V ⟨cc, rfl⟩
          exact Lies.range (cs := CoM.cells ⟨c.r, ws⟩) (cc.h.lies Y8.out.c h8c2 h8c) (fun j v hj => by simpa using hj)
        have hsx : (Try.prog.info? 120).map (·.size) = some (boolsL (S.set p true)).length := by rw [boolsL_length, List.length_set, HL.out]; exact size_pl
        have hsy : (Try.prog.info? 84).map (·.size) = some (CoM.cells ⟨c.r, ws⟩).length := by have := HSC.out; rwa [List.size_toArray] at this
        have hnx : falses (S.set p true) + 1 = falses S := falses_set HFR.out (by rw [HL.out]; exact hp10)
        have hk1 : ∃ k1, k1 + 1 = k := ⟨k - 1, by have := HF.out; omega⟩
        obtain ⟨k1, hk1⟩ := hk1
        have hm1 : m1 ≤ 10 := Nat.le_trans ht1.le hm
        have hCA := fun V (hV : Below w8.heap.size w8 V) => HIH.out k1 hk1 (S.set p true) T1 m1 V (by have := HF.out; omega) (by rw [List.length_set]; exact HL.out) hm1 (hM1.call hV)
        have hwd : withoutD ws p = spareW c.ws (S.set p true) := by rw [HSP.out]; exact spareW_set c.ws S p (by rw [HWS.out]; exact hp10) (by rw [HL.out]; exact hp10) HFR.out
        rw [← hwd] at hCA
        have HCA := Lib.hid hCA
        have HR42 := Lib.hid hr42
        have HR43 := Lib.hid hr43
        have HSX := Lib.hid hsx
        have HSY := Lib.hid hsy
        have HT1 := Lib.hid ht1
        haveI hne : Nonempty (Cls (fun V => St2 gL gm w8 V)) := ⟨⟨w8, St2.refl _ _ _⟩⟩
        clear hr42 hr43 hsx hsy ht1 hCA hwd hnx hk1 hm1
        refine wp_region_wayw [0, 1, 2, 3] (.way 4 (.way 5 .fin .fin) .fin) (fun V => ∃ cc : Cls (fun V => St2 gL gm w8 V), V = cc.val) (by kernel_rfl) (by kernel_rfl) (Cls.here (St2.of_below (Below.refl _ _).drew)) ?_
        simp only [List.filterMap_cons, List.filterMap_nil, List.getElem?_toArray, List.getElem?_cons_zero, List.getElem?_cons_succ]
        repeat (first
          | (refine wpQuiet_load_wholeG (o := ⟨some 42, _, _, _, _, _⟩) ?_ 120 (.tmp 12) ?_ gq 0 ?_ (boolsL (S.set p true)) _ HR42.out Try.underlying120 rfl HSX.out ?_; rfl; rfl; rfl; simp only [Act.put, List.setIfInBounds_toArray, List.set_cons_zero, List.set_cons_succ])
          | (refine wpQuiet_load_wholeG (o := ⟨some 43, _, _, _, _, _⟩) ?_ 84 (.tmp 6) ?_ (W.heap.size + 1) 0 ?_ (CoM.cells ⟨c.r, ws⟩) _ HR43.out Try.underlying84 rfl HSY.out ?_; rfl; rfl; rfl; simp only [Act.put, List.setIfInBounds_toArray, List.set_cons_zero, List.set_cons_succ])
          | go_big_quiet_step (rfl) | quiet_step (rfl))
        refine wpQuiet_nil ?_
        clear e41
        have D0 := Lib.hid (show Below w8.heap.size w8 w8.drew from (Below.refl _ _).drew)
        generalize w8.drew = d0 at *
        rw [wpWy_way]
        refine ⟨?_, by exact trivial⟩
        simp only [List.getElem?_toArray, List.getElem?_cons_succ, List.getElem?_cons_zero]
        go_wp2_with (go_at_call 79; refine (HWO.out p _ hp10).mono ?_; rintro e d1 ⟨rfl, hb1⟩)
        have D1 := Lib.hid (D0.out.trans (hb1.mono D0.out.size))
        refine Ends.intro ⟨Cls.here (St2.of_below D1.out), ?_⟩
        rw [wpWy_way]
        refine ⟨?_, by exact trivial⟩
        simp only [List.getElem?_toArray, List.getElem?_cons_succ, List.getElem?_cons_zero]
        go_wp2_with (go_at_call 80; refine (HCA.out _ D1.out).mono ?_; rintro e d2 ⟨rfl, T2, m2, ht2, hM2, hs2⟩)
        have D2 := Lib.hid ((St2.of_below D1.out).trans hs2 : St2 gL gm w8 d2)
        refine Ends.intro ⟨Cls.here D2.out, ?_⟩
        rw [wpWy_fin]
        have HM2 := Lib.hid hM2
        have HT2 := Lib.hid ht2
        clear hb1 D0 D1 hs2 hM2 ht2 hM1 HCA HR42 HR43
        go_wp2
        go_roundw
        case rel =>
          refine ⟨j + 1, by omega, by go_num, Nat.le_trans hB8 D2.out.size, ?_⟩
          exact ⟨⟨T2, m2, HT1.out.next HP.out HT2.out, HM2.out⟩, D2.out.lies Y8.out.p (by omega) (by omega), D2.out.lies Y8.out.c (by omega) (by omega), own_keep Y8.out.i (fun i hi => D2.out.block i (own_at Y8.out.i hi).2.1 (by have := (own_at Y8.out.i hi).1; omega) (by have := (own_at Y8.out.i hi).1; omega)), Y8.out.s.trans D2.out⟩
        case measure => simp [intOf]; omega
      · obtain rfl : j = il.length := by omega
        obtain ⟨T1, m1, h1, h2⟩ := HY.out.t
        have H1 := Lib.hid h1
        have H2 := Lib.hid h2
        have H3 := Lib.hid HY.out.s
        clear h1 h2 HY
        go_wp2
        exact bodyPost_end (results_none rfl _ _ _) rfl ⟨rfl, T1, m1, TryL.done (by rw [HLEN.out]; exact H1.out), H2.out, H3.out⟩
theorem try_any (c : CoM) (gT gL gF gm : Nat) (w0 : World) (hws : c.ws.length = 10) (hr : c.r.At w0 w0.heap.size) (hok : c.r.d.Ok) : ∀ k, TyT c gT gL gF gm w0 k
  | 0 => fun S T m W hf hl hm hM => by
    by_cases hS : S ∈ T
    · exact try_hit c gT gL gF gm w0 S T m W hl hM hS
    · exact try_miss c gT gL gF gm w0 hws hr hok 0 (fun j hj => by omega) S T m W hf hl hm hM hS
  | k + 1 => fun S T m W hf hl hm hM => by
    by_cases hS : S ∈ T
    · exact try_hit c gT gL gF gm w0 S T m W hl hM hS
    · exact try_miss c gT gL gF gm w0 hws hr hok (k + 1) (fun j hj => by
        have : j = k := by omega
        subst this
        exact try_any c gT gL gF gm w0 hws hr hok j) S T m W hf hl hm hM hS
end Go.Proofs.Ytkjhofbjjogmlaa

namespace Go.Proofs.Ytkjhofbjjogmlaa
open Go.RowKit Go.Lib

theorem built_pl : Try.prog.built 120 [] = some (boolsL (List.replicate 10 false)).toArray := by kernel_rfl
theorem TyM.start {w w1 : World} (n : Nat) (hb : Below w.heap.size w w1) : TyM (w1.heap.size + 1 + 1) w1.heap.size (w1.heap.size + 1 + 1 + 1) (w1.heap.size + 1) w [] n
    ((((w1.alloc (.cells #[.int .i64 n] 3)).alloc (.map #[] 0)).alloc (.cells #[.map (some (w1.heap.size + 1))] 117)).alloc (.cells #[fTry (w1.heap.size + 1 + 1) w1.heap.size (w1.heap.size + 1 + 1 + 1)] 118)) := by
  have hm := setM_made (w1.alloc (.cells #[.int .i64 n] 3))
  have hz : (w1.alloc (.cells #[.int .i64 n] 3)).heap.size = w1.heap.size + 1 := by simp
  rw [hz] at hm
  have h0 := hb.size
  exact ⟨(Lies.fresh' (by simp)).alloc _, (((Lies.fresh _ _ _).alloc _).alloc _).alloc _, Lies.fresh' (by simp), (hm.call ((Below.refl _ _).alloc (Nat.le_refl _) _)).call ((Below.refl _ _).alloc (Nat.le_refl _) _),
    (((hb.alloc h0 _).alloc (by simp; omega) _).alloc (by simp; omega) _).alloc (by simp; omega) _, by omega, by omega, h0, by omega⟩
set_option maxRecDepth 100000 in
set_option maxHeartbeats 8000000 in
theorem leastIll_any (c : CoM) (w : World) (hws : c.ws.length = 10) (hr : c.r.At w w.heap.size) (hok : c.r.d.Ok) (hc : c.r.d.possB c.ws (c.r.d.earlyD c.ws) = true) :
    Calls Try.prog 56 #[.agg c.cells.toArray] w fun e w' => ∃ m : Nat, e = .returned (.int .i64 m) ∧ Least c.r.d c.ws m ∧ Below w.heap.size w w' := by
  have l0 : Lies (w.alloc (.cells c.cells.toArray 84)) w.heap.size 84 c.cells.toArray := Lies.fresh _ _ _
  have b0 : Below w.heap.size w (w.alloc (.cells c.cells.toArray 84)) := (by repeat (first | (with_reducible assumption) | (with_reducible exact Below.refl _ _) | (with_reducible refine Below.drew ?_) | (with_reducible refine below_drewN ?_ _) | ((with_reducible refine Below.setCell ?_ ?_ _); rotate_left; focus (first | (simp; done) | (simp; omega) | omega)) | ((with_reducible refine Below.alloc ?_ ?_ _); rotate_left; focus (first | (simp; done) | (simp; omega) | omega))))
  have hsz : (Try.prog.info? 84).map (·.size) = some c.cells.toArray.size := by rw [List.size_toArray, c.len hws]; exact size_co
  have hn10 : c.r.d.dug.length ≤ 10 := by have := hok.dug; have := hok.n1; omega
  obtain ⟨n, hn⟩ : ∃ n, n = c.r.d.dug.length := ⟨_, rfl⟩
  have hnn : c.r.n = (n : Int) := by rw [hn]; exact hok.dug.symm
  have hTA := fun gT gL gF gm T m W hM => try_any c gT gL gF gm w hws hr hok 10 (List.replicate 10 false) T m W (by decide) (by simp) hM
  rw [spareW_none] at hTA
  have hfin := fun T m h => tried_all (r := c.r.d) hok hws hc (T := T) (m := m) h
  rw [← hn] at hfin
  have L0 := Lib.hid l0
  have B0 := Lib.hid b0
  have HSZ := Lib.hid hsz
  have HTA := Lib.hid hTA
  have HFI := Lib.hid hfin
  have HNN := Lib.hid hnn
  have hnz : n ≤ 10 := by omega
  clear l0 b0 hsz hTA hfin hn hnn hn10 hok hws hr hc
  go_enter Try.func56, Try.ntmps56
  go_upto_region 1 with (fail)
  change Code.wp _ _ _ _ (w.alloc (.cells c.cells.toArray 84))
  generalize w.alloc (.cells c.cells.toArray 84) = w1 at *
  have a0 : w1.cell? ⟨w.heap.size, 0, none⟩ = some (.int .i64 n) := by rw [L0.out.at_, co_n, HNN.out]
  have hmm := @run_makeMap Try.prog
  go_upto_region 5 with (fail)
  have M0 := Lib.hid (TyM.start n B0.out)
  have hb4 : Below w1.heap.size w1 ((((w1.alloc (.cells #[.int .i64 n] 3)).alloc (.map #[] 0)).alloc (.cells #[.map (some (w1.heap.size + 1))] 117)).alloc (.cells #[fTry (w1.heap.size + 1 + 1) w1.heap.size (w1.heap.size + 1 + 1 + 1)] 118)) := (((((Below.refl _ _).alloc (Nat.le_refl _) _).alloc (by simp) _).alloc (by simp; omega) _).alloc (by simp; omega) _)
  have L4 := Lib.hid (L0.out.call hb4)
  change Code.wp _ _ _ _ ((((w1.alloc (.cells #[.int .i64 n] 3)).alloc (.map #[] 0)).alloc (.cells #[.map (some (w1.heap.size + 1))] 117)).alloc (.cells #[fTry (w1.heap.size + 1 + 1) w1.heap.size (w1.heap.size + 1 + 1 + 1)] 118))
  clear hb4 L0 B0 a0 hmm
  generalize ((((w1.alloc (.cells #[.int .i64 n] 3)).alloc (.map #[] 0)).alloc (.cells #[.map (some (w1.heap.size + 1))] 117)).alloc (.cells #[fTry (w1.heap.size + 1 + 1) w1.heap.size (w1.heap.size + 1 + 1 + 1)] 118)) = w4 at *
  generalize w1.heap.size = z at *
  have c4 : w4.cell? ⟨z + 1 + 1 + 1, 0, none⟩ = some (fTry (z + 1 + 1) z (z + 1 + 1 + 1)) := M0.out.lF.at_ 0
  have HC := Lib.hid (HTA.out _ _ _ _ [] n w4 hnz M0.out)
  clear HTA
  go_upto_region 6 with (first
    | (refine wpList_build (o := ⟨some 12, _, _, _, _, _⟩) ?_ 120 #[] ?_ #[] ?_ (boolsL (List.replicate 10 false)).toArray built_pl ?_; rfl; rfl; rfl)
    | (refine wpList_load_row (o := ⟨some 13, _, _, _, _, _⟩) ?_ 84 (.tmp 1) ?_ w.heap.size ?_ 84 c.cells.toArray (0, 0) _ L4.out Try.underlying84 rfl HSZ.out ?_; rfl; rfl; rfl)
    | (go_at_call 80; refine HC.out.mono ?_; rintro e w5 ⟨rfl, T, m, ht, hM, hs⟩))
  have c5 : w5.cell? ⟨z, 0, none⟩ = some (.int .i64 m) := hM.lL.at_ 0
  have HM := Lib.hid hM.b
  have HF2 := Lib.hid (HFI.out T m ht)
  clear hM hs ht c4 HC M0 L4 HFI
  go_wp2
  go_ret
  exact ⟨m, rfl, HF2.out, HM.out⟩
def NoC (err : Int) (w : World) (e : Ending) (w' : World) : Prop := e = .returned (.tuple #[.int .i64 0, .int .i64 0, .int .i64 err]) ∧ Below w.heap.size w w'
/-- What Count tells: the least number, and the earliest truth's. -/
def YesC (r : RwD) (w : World) (e : Ending) (w' : World) : Prop := ∃ m : Nat, e = .returned (.tuple #[.int .i64 m, .int .i64 (r.illB r.earliest).length, .int .i64 0]) ∧ Least r r.wins m ∧ Below w.heap.size w w'
set_option maxRecDepth 100000 in
set_option maxHeartbeats 4000000 in
theorem Count_no (r : RwM) (w : World) (hr : r.At w w.heap.size) (he : r.d.err ≠ 0) : Calls Try.prog 28 #[.agg r.cells.toArray] w (NoC r.d.err w) := by
  have l0 : Lies (w.alloc (.cells r.cells.toArray 34)) w.heap.size 34 r.cells.toArray := Lies.fresh _ _ _
  have b0 : Below w.heap.size w (w.alloc (.cells r.cells.toArray 34)) := (by repeat (first | (with_reducible assumption) | (with_reducible exact Below.refl _ _) | (with_reducible refine Below.drew ?_) | (with_reducible refine below_drewN ?_ _) | ((with_reducible refine Below.setCell ?_ ?_ _); rotate_left; focus (first | (simp; done) | (simp; omega) | omega)) | ((with_reducible refine Below.alloc ?_ ?_ _); rotate_left; focus (first | (simp; done) | (simp; omega) | omega))))
  have hQ := lookAt_no r _ (hr.below b0 b0.size) he
  generalize r.d.err = err at *
  have hfb : (err != 0) = true := by simpa using he
  have L0 := Lib.hid l0
  have B0 := Lib.hid b0
  have HQ := Lib.hid hQ
  clear l0 b0 hQ he hr
  go_enter Try.func28, Try.ntmps28
  go_upto_region 1 with (fail)
  change Code.wp _ _ _ _ (w.alloc (.cells r.cells.toArray 34))
  generalize w.alloc (.cells r.cells.toArray 34) = w0 at *
  go_wp2_with (first
    | (refine wpList_load_row (o := ⟨some 8, _, _, _, _, _⟩) ?_ 34 (.tmp 1) ?_ w.heap.size ?_ 34 r.cells.toArray (0, 0) _ L0.out Try.underlying34 rfl size_row ?_; rfl; rfl; rfl)
    | (go_at_call 47; refine HQ.out.mono ?_; rintro e w5 ⟨rfl, hb5⟩)
    | (refine wpList_store_cells (o := ⟨none, .store 84 (.tmp 5) _, _, _, _, _⟩) ?_ 84 (.tmp 5) (.tmp 10) ?_ w5.heap.size 0 ?_ 84 zco zco ?_ ((Lies.fresh w5 84 zco.toArray).alloc _) (by simp) size_zco zco_one ?_; rfl; rfl; rfl; rfl; intro w6 HS6 HO6)
    | (refine wpList_store_ints (o := ⟨none, .store 86 (.tmp 6) _, _, _, _, _⟩) ?_ 86 (.tmp 6) (.tmp 11) ?_ (w5.heap.size + 1) 0 ?_ 86 (List.replicate 10 0) (List.replicate 10 0) ?_ (HO6.out.lies (Lies.fresh' (by simp)) (by omega)) (by simp) size_ztr ?_; rfl; rfl; rfl; rfl; intro w7 HS7 HO7))
  exact bodyPost_ret (results_tmp3 rfl _ _ _) rfl ⟨rfl, HO7.out.below (HO6.out.below (((B0.out.trans (hb5.mono B0.out.size)).alloc (B0.out.trans (hb5.mono B0.out.size)).size _).alloc (by have := (B0.out.trans (hb5.mono B0.out.size)).size; simp; omega) _) (B0.out.trans (hb5.mono B0.out.size)).size) (by have := (B0.out.trans (hb5.mono B0.out.size)).size; omega)⟩
set_option maxRecDepth 100000 in
set_option maxHeartbeats 8000000 in
theorem Count_yes (r : RwM) (w : World) (hr : r.At w w.heap.size) (he : r.d.err = 0) : Calls Try.prog 28 #[.agg r.cells.toArray] w (YesC r.d w) := by
  obtain ⟨hf, hc⟩ := err_zero he
  obtain ⟨hok, hn, hd, hlw, hln⟩ := fault_ok hf
  have l0 : Lies (w.alloc (.cells r.cells.toArray 34)) w.heap.size 34 r.cells.toArray := Lies.fresh _ _ _
  have b0 : Below w.heap.size w (w.alloc (.cells r.cells.toArray 34)) := (by repeat (first | (with_reducible assumption) | (with_reducible exact Below.refl _ _) | (with_reducible refine Below.drew ?_) | (with_reducible refine below_drewN ?_ _) | ((with_reducible refine Below.setCell ?_ ?_ _); rotate_left; focus (first | (simp; done) | (simp; omega) | omega)) | ((with_reducible refine Below.alloc ?_ ?_ _); rotate_left; focus (first | (simp; done) | (simp; omega) | omega))))
  have hQ := lookAt_yes r _ (hr.below b0 b0.size) hf hc
  have hlen : r.d.earliest.length = 10 := earliest_ok.len
  have hL := fun W (hb : Below w.heap.size w W) => leastIll_any r.co W r.d.wins_length (hr.below hb hb.size) hok hc
  have hI := fun W (hb : Below w.heap.size w W) => ill_any r.co r.d.earliest W r.d.wins_length (hr.below hb hb.size) hok hlen
  change ∀ W, Below w.heap.size w W → Calls Try.prog 57 #[.agg r.co.cells.toArray, .agg (vals r.d.earliest)] W (RetOwn (r.d.illI r.d.earliest) W) at hI
  change ∀ W, Below w.heap.size w W → Calls Try.prog 56 #[.agg r.co.cells.toArray] W fun e w' => ∃ m : Nat, e = .returned (.int .i64 m) ∧ Least r.d r.d.wins m ∧ Below W.heap.size W w' at hL
  have hil : (r.d.illI r.d.earliest).length = (r.d.illB r.d.earliest).length := illI_len _ _
  have hilz : ((r.d.illI r.d.earliest).length : Int) ≤ 10 := by rw [illI_len]; have := illB_len r.d r.d.earliest; have := hok.dug; have := hok.n1; omega
  have hszc : (Try.prog.info? 84).map (·.size) = some r.co.cells.length := by rw [CoM.len _ r.d.wins_length]; exact size_co
  have hszcA : (Try.prog.info? 84).map (·.size) = some r.co.cells.toArray.size := by simpa using hszc
  have hszt : (Try.prog.info? 86).map (·.size) = some r.d.earliest.length := by rw [hlen]; exact size_tr
  have hwc : r.co.cells.length = zco.length := by rw [CoM.len _ r.d.wins_length]; rfl
  have hwt : r.d.earliest.length = (List.replicate 10 (0 : Int)).length := by rw [hlen]; rfl
  unfold YesC
  rw [← hil]
  generalize r.d.illI r.d.earliest = il at *
  have L0 := Lib.hid l0
  have B0 := Lib.hid b0
  have HQ := Lib.hid hQ
  have HL := Lib.hid hL
  have HI := Lib.hid hI
  have HSC := Lib.hid hszc
  have HSCA := Lib.hid hszcA
  have HST := Lib.hid hszt
  have HWT := Lib.hid hwt
  have HWC := Lib.hid hwc
  have HFC := Lib.hid (show 0 + r.co.cells.length ≤ zco.length by rw [hwc]; simp)
  have HFT := Lib.hid (show 0 + r.d.earliest.length ≤ (List.replicate 10 (0 : Int)).length by rw [hwt]; simp)
  have HONE := Lib.hid (show ∀ v ∈ r.co.cells, v.oneCell' = true from co_one r r.d.wins)
  clear l0 b0 hQ he hr hf hc hok hn hd hlw hln hlen hszc hszcA hszt hwc hwt hL hI hil
  go_enter Try.func28, Try.ntmps28
  go_upto_region 1 with (fail)
  change Code.wp _ _ _ _ (w.alloc (.cells r.cells.toArray 34))
  generalize w.alloc (.cells r.cells.toArray 34) = w0 at *
  go_upto_region 4 with (first
    | (refine wpList_load_row (o := ⟨some 8, _, _, _, _, _⟩) ?_ 34 (.tmp 1) ?_ w.heap.size ?_ 34 r.cells.toArray (0, 0) _ L0.out Try.underlying34 rfl size_row ?_; rfl; rfl; rfl)
    | (go_at_call 47; refine HQ.out.mono ?_; rintro e w5 ⟨rfl, hb5⟩)
    | (refine wpList_store_cells (o := ⟨none, .store 84 (.tmp 5) _, _, _, _, _⟩) ?_ 84 (.tmp 5) (.tmp 10) ?_ w5.heap.size 0 ?_ 84 zco r.co.cells ?_ ((Lies.fresh w5 84 zco.toArray).alloc _) HFC.out HSC.out HONE.out ?_; rfl; rfl; rfl; rfl; intro w6 HS6 HO6)
    | (refine wpList_store_ints (o := ⟨none, .store 86 (.tmp 6) _, _, _, _, _⟩) ?_ 86 (.tmp 6) (.tmp 11) ?_ (w5.heap.size + 1) 0 ?_ 86 (List.replicate 10 0) r.d.earliest ?_ (HO6.out.lies (Lies.fresh' (by simp)) (by omega)) HFT.out HST.out ?_; rfl; rfl; rfl; rfl; intro w7 HS7 HO7; (try simp only [Act.put])))
  have hb7 : Below w.heap.size w w7 := HO7.out.below (HO6.out.below (((B0.out.trans (hb5.mono B0.out.size)).alloc (B0.out.trans (hb5.mono B0.out.size)).size _).alloc (by have := (B0.out.trans (hb5.mono B0.out.size)).size; simp; omega) _) (B0.out.trans (hb5.mono B0.out.size)).size) (by have := (B0.out.trans (hb5.mono B0.out.size)).size; omega)
  have hs7 := HS7.out
  rw [splice_all HWT.out] at hs7
  have hs6 := HS6.out
  rw [splice_whole HWC.out] at hs6
  have T7 := Lib.hid hs7
  have C7 := Lib.hid (HO7.out.lies hs6 (by omega))
  have B7 := Lib.hid hb7
  generalize w5.heap.size = g5 at *
  clear hs7 hs6 hb7 HS7 HO7 HS6 HO6 hb5 HQ L0 B0
  have hr5 : ∀ V, (∃ cc : Cls (fun V => Below w7.heap.size w7 V), V = cc.val) → V.rangeAt g5 0 r.co.cells := by
    rintro V ⟨cc, rfl⟩
    exact Lies.range (cs := r.co.cells) (C7.out.call cc.h) (fun j v hj => by simpa using hj)
  have hr6 : ∀ V, (∃ cc : Cls (fun V => Below w7.heap.size w7 V), V = cc.val) → V.rangeAt (g5 + 1) 0 (r.d.earliest.map (Value.int .i64)) := by
    rintro V ⟨cc, rfl⟩
    exact Lies.range (cs := r.d.earliest.map (Value.int .i64)) (T7.out.call cc.h) (fun j v hj => by simpa using hj)
  have HR5 := Lib.hid hr5
  have HR6 := Lib.hid hr6
  have HSTM := Lib.hid (show (Try.prog.info? 86).map (·.size) = some (r.d.earliest.map (Value.int .i64)).length by rw [List.length_map]; exact HST.out)
  clear hr5 hr6
  haveI hne : Nonempty (Cls (fun V => Below w7.heap.size w7 V)) := ⟨⟨w7, Below.refl _ _⟩⟩
  refine wp_region_wayw [0, 2, 3] (.way 1 (.way 4 (.take 5 (.take 6 (.take 7 (.take 8 .fin)))) .fin) .fin) (fun V => ∃ cc : Cls (fun V => Below w7.heap.size w7 V), V = cc.val) (by kernel_rfl) (by kernel_rfl) (Cls.here (Below.refl _ _).drew) ?_
  simp only [List.filterMap_cons, List.filterMap_nil, List.getElem?_toArray, List.getElem?_cons_zero, List.getElem?_cons_succ]
  repeat (first
    | (refine wpQuiet_load_wholeG (o := ⟨some 16, _, _, _, _, _⟩) ?_ 84 (.tmp 5) ?_ g5 0 ?_ r.co.cells _ HR5.out Try.underlying84 rfl HSC.out ?_; rfl; rfl; rfl; simp only [Act.put, List.setIfInBounds_toArray, List.set_cons_zero, List.set_cons_succ])
    | (refine wpQuiet_load_wholeG (o := ⟨some 18, _, _, _, _, _⟩) ?_ 84 (.tmp 5) ?_ g5 0 ?_ r.co.cells _ HR5.out Try.underlying84 rfl HSC.out ?_; rfl; rfl; rfl; simp only [Act.put, List.setIfInBounds_toArray, List.set_cons_zero, List.set_cons_succ])
    | (refine wpQuiet_load_wholeG (o := ⟨some 19, _, _, _, _, _⟩) ?_ 86 (.tmp 6) ?_ (g5 + 1) 0 ?_ (r.d.earliest.map (Value.int .i64)) _ HR6.out Try.underlying86 rfl HSTM.out ?_; rfl; rfl; rfl; simp only [Act.put, List.setIfInBounds_toArray, List.set_cons_zero, List.set_cons_succ])
    | go_big_quiet_step (rfl) | quiet_step (rfl))
  refine wpQuiet_nil ?_
  have D0 := Lib.hid (show Below w7.heap.size w7 w7.drew from (Below.refl _ _).drew)
  generalize w7.drew = d0 at *
  rw [wpWy_way]
  refine ⟨?_, by exact trivial⟩
  simp only [List.getElem?_toArray, List.getElem?_cons_succ, List.getElem?_cons_zero]
  go_wp2_with (go_at_call 56; refine (HL.out _ (B7.out.trans (D0.out.mono B7.out.size))).mono ?_; rintro e d1 ⟨m, rfl, hm, hb1⟩)
  have D1 := Lib.hid (D0.out.trans (hb1.mono D0.out.size))
  refine Ends.intro ⟨Cls.here D1.out, ?_⟩
  rw [wpWy_way]
  refine ⟨?_, by exact trivial⟩
  simp only [List.getElem?_toArray, List.getElem?_cons_succ, List.getElem?_cons_zero]
  go_wp2_with (go_at_call 57; refine (HI.out _ (B7.out.trans (D1.out.mono B7.out.size))).mono ?_; rintro e d2 ⟨A, cap, rfl, ho, hb2⟩)
  have D2 := Lib.hid (D1.out.trans (hb2.mono D1.out.size))
  refine Ends.intro ⟨Cls.here D2.out, ?_⟩
  rw [wpWy_take]
  simp only [List.getElem?_toArray, List.getElem?_cons_succ, List.getElem?_cons_zero]
  first | go_big_quiet_step (rfl) | quiet_step (rfl)
  refine wpQuiet_nil ?_
  rw [wpWy_take]
  simp only [List.getElem?_toArray, List.getElem?_cons_succ, List.getElem?_cons_zero]
  first | go_big_quiet_step (rfl) | quiet_step (rfl)
  refine wpQuiet_nil ?_
  rw [wpWy_take]
  simp only [List.getElem?_toArray, List.getElem?_cons_succ, List.getElem?_cons_zero]
  first | go_big_quiet_step (rfl) | quiet_step (rfl)
  refine wpQuiet_nil ?_
  rw [wpWy_take]
  simp only [List.getElem?_toArray, List.getElem?_cons_succ, List.getElem?_cons_zero]
  first | go_big_quiet_step (rfl) | quiet_step (rfl)
  refine wpQuiet_nil ?_
  rw [wpWy_fin]
  go_wp2
  exact bodyPost_ret (results_tmp3 rfl _ _ _) rfl ⟨m, rfl, hm, B7.out.trans (D2.out.mono B7.out.size)⟩
end Go.Proofs.Ytkjhofbjjogmlaa

namespace Go.Proofs.Ytkjhofbjjogmlaa
open Go.RowKit Go.Lib

end Go.Proofs.Ytkjhofbjjogmlaa
