/- ProveSample. -/
import Derived.Test.YtkjhofbjjogmlaaYD
import Derived.BigQuiet
import Derived.Test.YtkjhofbjjogmlaaYA
import Derived.Test.YtkjhofbjjogmlaaYB
namespace Go.Proofs.Ytkjhofbjjogmlaa
open Go.RowKit Go.Lib

/-- Is a list a sample of the row that is enough for the number? -/
def RwD.proveS (r : RwD) (number : Int) (l : List Int) : Bool := decide (r.err = 0) && r.askD number && r.sampleB l && r.enoughD r.wins l number
set_option maxRecDepth 100000 in
set_option maxHeartbeats 4000000 in
theorem ProveSample_no (r : RwM) (number : Int) (A : Option Addr) (n c : Nat) (w : World) (hr : r.At w w.heap.size) (he : r.d.err ≠ 0) :
    Calls Try.prog 32 #[.agg r.cells.toArray, .int .i64 number, .slice A n c] w fun e w' => e = .returned (.bool false) ∧ Below w.heap.size w w' := by
  have l0 : Lies (w.alloc (.cells r.cells.toArray 34)) w.heap.size 34 r.cells.toArray := Lies.fresh _ _ _
  have b0 : Below w.heap.size w (w.alloc (.cells r.cells.toArray 34)) := (by repeat (first | (with_reducible assumption) | (with_reducible exact Below.refl _ _) | (with_reducible refine Below.drew ?_) | (with_reducible refine below_drewN ?_ _) | ((with_reducible refine Below.setCell ?_ ?_ _); rotate_left; focus (first | (simp; done) | (simp; omega) | omega)) | ((with_reducible refine Below.alloc ?_ ?_ _); rotate_left; focus (first | (simp; done) | (simp; omega) | omega))))
  have hQ := lookAt_no r _ (hr.below b0 b0.size) he
  generalize r.d.err = err at *
  have hfb : (err == 0) = false := by simpa using he
  have L0 := Lib.hid l0
  have B0 := Lib.hid b0
  have HQ := Lib.hid hQ
  clear l0 b0 hQ he hr
  go_enter Try.func32, Try.ntmps32
  go_upto_region 1 with (fail)
  change Code.wp _ _ _ _ (w.alloc (.cells r.cells.toArray 34))
  generalize w.alloc (.cells r.cells.toArray 34) = w0 at *
  go_wp2_with (first
    | (refine wpList_load_row (o := ⟨some 11, _, _, _, _, _⟩) ?_ 34 (.tmp 3) ?_ w.heap.size ?_ 34 r.cells.toArray (0, 0) _ L0.out Try.underlying34 rfl size_row ?_; rfl; rfl; rfl)
    | (go_at_call 47; refine HQ.out.mono ?_; rintro e w5 ⟨rfl, hb5⟩)
    | (refine wpList_store_cells (o := ⟨none, .store 84 (.tmp 7) _, _, _, _, _⟩) ?_ 84 (.tmp 7) (.tmp 13) ?_ w5.heap.size 0 ?_ 84 zco zco ?_ ((Lies.fresh w5 84 zco.toArray).alloc _) (by simp) size_zco zco_one ?_; rfl; rfl; rfl; rfl; intro w6 HS6 HO6)
    | (refine wpList_store_ints (o := ⟨none, .store 86 (.tmp 8) _, _, _, _, _⟩) ?_ 86 (.tmp 8) (.tmp 14) ?_ (w5.heap.size + 1) 0 ?_ 86 (List.replicate 10 0) (List.replicate 10 0) ?_ (HO6.out.lies (Lies.fresh' (by simp)) (by omega)) (by simp) size_ztr ?_; rfl; rfl; rfl; rfl; intro w7 HS7 HO7))
  go_ret
  exact ⟨rfl, HO7.out.below (HO6.out.below (((B0.out.trans (hb5.mono B0.out.size)).alloc (B0.out.trans (hb5.mono B0.out.size)).size _).alloc (by have := (B0.out.trans (hb5.mono B0.out.size)).size; simp; omega) _) (B0.out.trans (hb5.mono B0.out.size)).size) (by have := (B0.out.trans (hb5.mono B0.out.size)).size; omega)⟩
set_option maxRecDepth 100000 in
set_option maxHeartbeats 8000000 in
theorem ProveSample_yes (r : RwM) (number : Int) (A : Option Addr) (c : Nat) (l : List Int) (w : World) (hr : r.At w w.heap.size) (hA : Sl w w.heap.size 1 encI A l) (hl : l.length ≤ 1000000) (he : r.d.err = 0) :
    Calls Try.prog 32 #[.agg r.cells.toArray, .int .i64 number, .slice A l.length c] w fun e w' => e = .returned (.bool (r.d.askD number && r.d.sampleB l && r.d.enoughD r.d.wins l number)) ∧ Below w.heap.size w w' := by
  obtain ⟨hf, hc⟩ := err_zero he
  obtain ⟨hok, hn, hd, hlw, hln⟩ := fault_ok hf
  have l0 : Lies (w.alloc (.cells r.cells.toArray 34)) w.heap.size 34 r.cells.toArray := Lies.fresh _ _ _
  have b0 : Below w.heap.size w (w.alloc (.cells r.cells.toArray 34)) := (by repeat (first | (with_reducible assumption) | (with_reducible exact Below.refl _ _) | (with_reducible refine Below.drew ?_) | (with_reducible refine below_drewN ?_ _) | ((with_reducible refine Below.setCell ?_ ?_ _); rotate_left; focus (first | (simp; done) | (simp; omega) | omega)) | ((with_reducible refine Below.alloc ?_ ?_ _); rotate_left; focus (first | (simp; done) | (simp; omega) | omega))))
  have hQ := lookAt_yes r _ (hr.below b0 b0.size) hf hc
  have hlen : r.d.earliest.length = 10 := earliest_ok.len
  have hCS := fun W => canBeSampled_any r number W hlw
  have hIS := fun W (hb : Below w.heap.size w W) => isSample_any r A c l W (hr.below hb hb.size) hok ((hA.below hb).more hb.size) hl
  have hIE := fun (hs : r.d.sampleB l = true) W (hb : Below w.heap.size w W) => isEnough_any r.co A c l number W r.d.wins_length (hr.below hb hb.size) hok ((hA.below hb).more hb.size) hl (fun p hp => by have h1 := (sample_at hs).1 p hp; have := hok.n1; omega)
  change ∀ (hs : r.d.sampleB l = true) W, Below w.heap.size w W → Calls Try.prog 61 #[.agg r.co.cells.toArray, .slice A l.length c, .int .i64 number] W (fun e w' => e = .returned (.bool (r.d.enoughD r.d.wins l number)) ∧ Below W.heap.size W w') at hIE
  have hszc : (Try.prog.info? 84).map (·.size) = some r.co.cells.length := by rw [CoM.len _ r.d.wins_length]; exact size_co
  have hszcA : (Try.prog.info? 84).map (·.size) = some r.co.cells.toArray.size := by simpa using hszc
  have hszt : (Try.prog.info? 86).map (·.size) = some r.d.earliest.length := by rw [hlen]; exact size_tr
  have hwc : r.co.cells.length = zco.length := by rw [CoM.len _ r.d.wins_length]; rfl
  have hwt : r.d.earliest.length = (List.replicate 10 (0 : Int)).length := by rw [hlen]; rfl
  generalize r.d.askD number = ya at *
  generalize r.d.enoughD r.d.wins l number = yn at *
  generalize r.d.sampleB l = ys at *
  have L0 := Lib.hid l0
  have B0 := Lib.hid b0
  have HQ := Lib.hid hQ
  have HCS := Lib.hid hCS
  have HIS := Lib.hid hIS
  have HIE := Lib.hid hIE
  have HSC := Lib.hid hszc
  have HSCA := Lib.hid hszcA
  have HST := Lib.hid hszt
  have HWT := Lib.hid hwt
  have HWC := Lib.hid hwc
  have HFC := Lib.hid (show 0 + r.co.cells.length ≤ zco.length by rw [hwc]; simp)
  have HFT := Lib.hid (show 0 + r.d.earliest.length ≤ (List.replicate 10 (0 : Int)).length by rw [hwt]; simp)
  have HONE := Lib.hid (show ∀ v ∈ r.co.cells, v.oneCell' = true from co_one r r.d.wins)
  clear l0 b0 hQ he hr hf hc hok hn hd hlw hln hlen hszc hszcA hszt hwc hwt hCS hIS hIE hA hl
  go_enter Try.func32, Try.ntmps32
  go_upto_region 1 with (fail)
  change Code.wp _ _ _ _ (w.alloc (.cells r.cells.toArray 34))
  generalize w.alloc (.cells r.cells.toArray 34) = w0 at *
  go_upto_region 2 with (first
    | (refine wpList_load_row (o := ⟨some 11, _, _, _, _, _⟩) ?_ 34 (.tmp 3) ?_ w.heap.size ?_ 34 r.cells.toArray (0, 0) _ L0.out Try.underlying34 rfl size_row ?_; rfl; rfl; rfl)
    | (go_at_call 47; refine HQ.out.mono ?_; rintro e w5 ⟨rfl, hb5⟩)
    | (refine wpList_store_cells (o := ⟨none, .store 84 (.tmp 7) _, _, _, _, _⟩) ?_ 84 (.tmp 7) (.tmp 13) ?_ w5.heap.size 0 ?_ 84 zco r.co.cells ?_ ((Lies.fresh w5 84 zco.toArray).alloc _) HFC.out HSC.out HONE.out ?_; rfl; rfl; rfl; rfl; intro w6 HS6 HO6)
    | (refine wpList_store_ints (o := ⟨none, .store 86 (.tmp 8) _, _, _, _, _⟩) ?_ 86 (.tmp 8) (.tmp 14) ?_ (w5.heap.size + 1) 0 ?_ 86 (List.replicate 10 0) r.d.earliest ?_ (HO6.out.lies (Lies.fresh' (by simp)) (by omega)) HFT.out HST.out ?_; rfl; rfl; rfl; rfl; intro w7 HS7 HO7; (try simp only [Act.put])))
  have hb7 : Below w.heap.size w w7 := HO7.out.below (HO6.out.below (((B0.out.trans (hb5.mono B0.out.size)).alloc (B0.out.trans (hb5.mono B0.out.size)).size _).alloc (by have := (B0.out.trans (hb5.mono B0.out.size)).size; simp; omega) _) (B0.out.trans (hb5.mono B0.out.size)).size) (by have := (B0.out.trans (hb5.mono B0.out.size)).size; omega)
  have hs6 := HS6.out
  rw [splice_whole HWC.out] at hs6
  have hw5 : w.heap.size < w5.heap.size := Nat.lt_of_lt_of_le L0.out.in_ hb5.size
  have C7 := Lib.hid (HO7.out.lies hs6 (by omega))
  have R7 := Lib.hid (HO7.out.lies (HO6.out.lies (((L0.out.call hb5).alloc _).alloc _) (by omega)) (by omega))
  have B7 := Lib.hid hb7
  generalize w5.heap.size = g5 at *
  clear hs6 hb7 HS7 HO7 HS6 HO6 hb5 HQ L0 B0
  cases ya
  · go_wp2_with (first
      | (refine wpList_load_rowG (o := ⟨some 19, _, _, _, _, _⟩) ?_ 34 (.tmp 3) ?_ w.heap.size ?_ 34 r.cells.toArray (0, 0) _ R7.out Try.underlying34 rfl size_row ?_; kernel_rfl; rfl; rfl)
      | (go_at_call 58; refine (HCS.out _).mono ?_; rintro e w8 ⟨rfl, hb8⟩))
    go_ret
    exact ⟨rfl, B7.out.trans (hb8.mono B7.out.size)⟩
  · cases ys
    · go_wp2_with (first
        | ((fail_if_success (have hxx := B8)); refine wpList_load_rowG (o := ⟨some 19, _, _, _, _, _⟩) ?_ 34 (.tmp 3) ?_ w.heap.size ?_ 34 r.cells.toArray (0, 0) _ R7.out Try.underlying34 rfl size_row ?_; kernel_rfl; rfl; rfl)
        | (go_at_call 58; refine (HCS.out _).mono ?_; rintro e w8 ⟨rfl, hb8⟩; have B8 := Lib.hid (B7.out.trans (hb8.mono B7.out.size)); have R8 := Lib.hid (R7.out.call hb8))
        | (refine wpList_load_rowG (o := ⟨some 24, _, _, _, _, _⟩) ?_ 34 (.tmp 3) ?_ w.heap.size ?_ 34 r.cells.toArray (0, 0) _ R8.out Try.underlying34 rfl size_row ?_; kernel_rfl; rfl; rfl)
        | (go_at_call 60; refine (HIS.out _ B8.out).mono ?_; rintro e w9 ⟨rfl, hb9⟩))
      go_ret
      exact ⟨rfl, B8.out.trans (hb9.mono B8.out.size)⟩
    · go_wp2_with (first
        | ((fail_if_success (have hxx := B8)); refine wpList_load_rowG (o := ⟨some 19, _, _, _, _, _⟩) ?_ 34 (.tmp 3) ?_ w.heap.size ?_ 34 r.cells.toArray (0, 0) _ R7.out Try.underlying34 rfl size_row ?_; kernel_rfl; rfl; rfl)
        | (go_at_call 58; refine (HCS.out _).mono ?_; rintro e w8 ⟨rfl, hb8⟩; have B8 := Lib.hid (B7.out.trans (hb8.mono B7.out.size)); have R8 := Lib.hid (R7.out.call hb8); have C8 := Lib.hid (C7.out.call hb8))
        | ((fail_if_success (have hxx := B9)); refine wpList_load_rowG (o := ⟨some 24, _, _, _, _, _⟩) ?_ 34 (.tmp 3) ?_ w.heap.size ?_ 34 r.cells.toArray (0, 0) _ R8.out Try.underlying34 rfl size_row ?_; kernel_rfl; rfl; rfl)
        | (go_at_call 60; refine (HIS.out _ B8.out).mono ?_; rintro e w9 ⟨rfl, hb9⟩; have B9 := Lib.hid (B8.out.trans (hb9.mono B8.out.size)); have C9 := Lib.hid (C8.out.call hb9))
        | (refine wpList_load_rowG (o := ⟨some 29, _, _, _, _, _⟩) ?_ 84 (.tmp 7) ?_ g5 ?_ 84 r.co.cells.toArray (0, 0) _ C9.out Try.underlying84 rfl HSCA.out ?_; kernel_rfl; rfl; rfl)
        | (go_at_call 61; refine (HIE.out (by simp) _ B9.out).mono ?_; rintro e wa ⟨rfl, hba⟩))
      go_ret
      exact ⟨rfl, B9.out.trans (hba.mono B9.out.size)⟩
theorem ProveSample_any (r : RwM) (number : Int) (A : Option Addr) (c : Nat) (l : List Int) (w : World) (hr : r.At w w.heap.size) (hA : Sl w w.heap.size 1 encI A l) (hl : l.length ≤ 1000000) :
    Calls Try.prog 32 #[.agg r.cells.toArray, .int .i64 number, .slice A l.length c] w fun e w' => e = .returned (.bool (r.d.proveS number l)) ∧ Below w.heap.size w w' := by
  unfold RwD.proveS
  by_cases he : r.d.err = 0
  · have := ProveSample_yes r number A c l w hr hA hl he
    rw [decide_eq_true he, Bool.true_and]; exact this
  · have := ProveSample_no r number A l.length c w hr he
    rw [decide_eq_false he, Bool.false_and, Bool.false_and, Bool.false_and]; exact this
end Go.Proofs.Ytkjhofbjjogmlaa

namespace Go.Proofs.Ytkjhofbjjogmlaa
open Go.RowKit Go.Lib

/-- Up to which week a plant became ill, if the answer is yes; if it is no. -/
def RwD.yesW (r : RwD) (n : Nt) : Int := if n.k = 0 then n.w - r.sh else n.w
def RwD.noW (r : RwD) (n : Nt) : Int := if n.k = 0 then n.w - r.sh else if n.k = 1 then n.w - r.old else n.w
/-- Is what a note says so? -/
def RwD.saysB (r : RwD) (n : Nt) (o : Int) : Bool := if n.y then decide (0 ≤ o) && decide (o ≤ r.yesW n) else decide (o < 0) || decide (r.noW n < o)
set_option maxRecDepth 100000 in
set_option maxHeartbeats 4000000 in
theorem says_any (r : RwM) (n : Nt) (o : Int) (w : World) (hw : -1000 ≤ n.w ∧ n.w ≤ 1000) (hsh : 0 ≤ r.sh ∧ r.sh ≤ 1000) (hold : 0 ≤ r.old ∧ r.old ≤ 1000) :
    Calls Try.prog 63 #[.agg r.cells.toArray, .agg (encN n).toArray, .int .i64 o] w fun e w' => e = .returned (.bool (r.d.saysB n o)) ∧ Below w.heap.size w w' := by
  obtain ⟨p, wk, k, y⟩ := n
  have l0 : Lies ((w.alloc (.cells r.cells.toArray 26)).alloc (.cells (encN ⟨p, wk, k, y⟩).toArray 67)) w.heap.size 26 r.cells.toArray := (Lies.fresh _ _ _).alloc _
  have l1 : Lies ((w.alloc (.cells r.cells.toArray 26)).alloc (.cells (encN ⟨p, wk, k, y⟩).toArray 67)) (w.heap.size + 1) 67 (encN ⟨p, wk, k, y⟩).toArray := Lies.fresh' (by simp)
  have b0 : Below w.heap.size w ((w.alloc (.cells r.cells.toArray 26)).alloc (.cells (encN ⟨p, wk, k, y⟩).toArray 67)) := (by repeat (first | (with_reducible assumption) | (with_reducible exact Below.refl _ _) | (with_reducible refine Below.drew ?_) | (with_reducible refine below_drewN ?_ _) | ((with_reducible refine Below.setCell ?_ ?_ _); rotate_left; focus (first | (simp; done) | (simp; omega) | omega)) | ((with_reducible refine Below.alloc ?_ ?_ _); rotate_left; focus (first | (simp; done) | (simp; omega) | omega))))
  have hd : r.d.saysB ⟨p, wk, k, y⟩ o = if y then decide (0 ≤ o) && decide (o ≤ if k = 0 then wk - r.sh else wk) else decide (o < 0) || decide ((if k = 0 then wk - r.sh else if k = 1 then wk - r.old else wk) < o) := rfl
  obtain ⟨b, hb⟩ : ∃ b, b = r.d.saysB ⟨p, wk, k, y⟩ o := ⟨_, rfl⟩
  rw [← hb]
  rw [hd] at hb
  have HB := Lib.hid hb
  clear hb
  dsimp only at hw
  have hw1 : IntKind.i64.wrap (wk - r.sh) = wk - r.sh := IntWalk.i64_in _ (by omega)
  have hw2 : IntKind.i64.wrap (wk - r.old) = wk - r.old := IntWalk.i64_in _ (by omega)
  have L0 := Lib.hid l0
  have L1 := Lib.hid l1
  have B0 := Lib.hid b0
  clear l0 l1 b0 hd
  go_enter Try.func63, Try.ntmps63
  go_upto_region 1 with (fail)
  change Code.wp _ _ _ _ ((w.alloc (.cells r.cells.toArray 26)).alloc (.cells (encN ⟨p, wk, k, y⟩).toArray 67))
  generalize (w.alloc (.cells r.cells.toArray 26)).alloc (.cells (encN ⟨p, wk, k, y⟩).toArray 67) = w0 at *
  have a3 : w0.cell? ⟨w.heap.size, 3, none⟩ = some (.int .i64 r.sh) := L0.out.at_ 3
  have a4 : w0.cell? ⟨w.heap.size, 4, none⟩ = some (.int .i64 r.old) := L0.out.at_ 4
  have n1 : w0.cell? ⟨w.heap.size + 1, 1, none⟩ = some (.int .i64 wk) := L1.out.at_ 1
  have n2 : w0.cell? ⟨w.heap.size + 1, 2, none⟩ = some (.int .u8 k) := L1.out.at_ 2
  have n3 : w0.cell? ⟨w.heap.size + 1, 3, none⟩ = some (.bool y) := L1.out.at_ 3
  have hks : k = 0 ∨ k = 1 ∨ (((k : Int) == 0) = false ∧ ((k : Int) == 1) = false ∧ k ≠ 0 ∧ k ≠ 1) := by
    by_cases h : k = 0
    · exact .inl h
    · by_cases h1 : k = 1
      · exact .inr (.inl h1)
      · exact .inr (.inr ⟨by simpa using h, by simpa using h1, h, h1⟩)
  by_cases h0 : 0 ≤ o
  · have hn : ¬ o < 0 := by omega
    rcases hks with rfl | rfl | ⟨hk0, hk1, hk2, hk3⟩
    all_goals
      cases y
      all_goals
        go_wp2
        go_ret
        exact ⟨ret_bool (by have h := HB.out; rw [h]; simp_all <;> (intros; omega)), B0.out⟩
  · have hn : o < 0 := by omega
    rcases hks with rfl | rfl | ⟨hk0, hk1, hk2, hk3⟩
    all_goals
      cases y
      all_goals
        go_wp2
        go_ret
        exact ⟨ret_bool (by have h := HB.out; rw [h]; simp_all <;> (intros; omega)), B0.out⟩
end Go.Proofs.Ytkjhofbjjogmlaa

namespace Go.Proofs.Ytkjhofbjjogmlaa
open Go.RowKit Go.Lib

/-- Is what a note says so, if it is about the plant? -/
def RwD.notedAt (r : RwD) (p o : Int) (n : Nt) : Bool := !decide (n.p = p) || r.saysB n o
/-- Are all notes of a plant so, with an onset? -/
def RwD.notedB (r : RwD) (p o : Int) : Bool := r.ns.all (r.notedAt p o)
set_option maxRecDepth 100000 in
set_option maxHeartbeats 8000000 in
theorem refNoted_any (r : RwM) (p o : Int) (w : World) (hr : r.At w w.heap.size) (hf : r.d.fault = 0) :
    Calls Try.prog 53 #[.agg r.cells.toArray, .int .i64 p, .int .i64 o] w fun e w' => e = .returned (.bool (r.d.notedB p o)) ∧ Below w.heap.size w w' := by
  obtain ⟨hok, hns, -, hlw, hln⟩ := fault_ok hf
  have hM : r.ns.l.length ≤ 40 := hln
  have l0 : Lies (w.alloc (.cells r.cells.toArray 26)) w.heap.size 26 r.cells.toArray := Lies.fresh _ _ _
  have b0 : Below w.heap.size w (w.alloc (.cells r.cells.toArray 26)) := (by repeat (first | (with_reducible assumption) | (with_reducible exact Below.refl _ _) | (with_reducible refine Below.drew ?_) | (with_reducible refine below_drewN ?_ _) | ((with_reducible refine Below.setCell ?_ ?_ _); rotate_left; focus (first | (simp; done) | (simp; omega) | omega)) | ((with_reducible refine Below.alloc ?_ ?_ _); rotate_left; focus (first | (simp; done) | (simp; omega) | omega))))
  have hsh : 0 ≤ r.sh ∧ r.sh ≤ 1000 := by have h : 0 ≤ r.sh ∧ r.sh ≤ 30 := hok.sh; omega
  have hold : 0 ≤ r.old ∧ r.old ≤ 1000 := by have h : 0 ≤ r.old ∧ r.old ≤ 30 := hok.old; omega
  have hno : ∀ (k : Nat) (z : Nt), r.ns.l[k]? = some z → r.d.notedAt p o z = false → r.d.notedB p o = false := fun k z hz h => by
    unfold RwD.notedB
    rw [Bool.eq_false_iff]
    intro h2
    have := List.all_eq_true.1 h2 z (List.mem_of_getElem? hz)
    rw [h] at this; cases this
  have hyes : (∀ (k : Nat) (z : Nt), r.ns.l[k]? = some z → r.d.notedAt p o z = true) → r.d.notedB p o = true := fun h => by
    unfold RwD.notedB
    rw [List.all_eq_true]
    intro z hz
    obtain ⟨k, hk⟩ := List.getElem?_of_mem hz
    exact h k z hk
  have hsy : ∀ (k : Nat) (z : Nt), r.ns.l[k]? = some z → ∀ W, Calls Try.prog 63 #[.agg r.cells.toArray, .agg (encN z).toArray, .int .i64 o] W fun e w' => e = .returned (.bool (r.d.saysB z o)) ∧ Below W.heap.size W w' := fun k z hz W => by
    have h := (note_plant hok (hns z (List.mem_of_getElem? hz))).2
    have h2 : r.d.ws.length ≤ 30 := hlw
    exact says_any r z o W (by omega) hsh hold
  have L0 := Lib.hid l0
  have B0 := Lib.hid b0
  have HRN := Lib.hid hr.ns
  have HNO := Lib.hid hno
  have HYE := Lib.hid hyes
  have HSY := Lib.hid hsy
  clear l0 b0 hr hf hok hns hlw hln hsh hold hno hyes hsy
  go_enter Try.func53, Try.ntmps53
  go_upto_region 1 with (fail)
  change Code.wp _ _ _ _ (w.alloc (.cells r.cells.toArray 26))
  generalize w.alloc (.cells r.cells.toArray 26) = w0 at *
  go_wp2
  go_loopw [7] (fun s7 wr => ∃ k : Nat, k ≤ r.ns.l.length ∧ s7 = .int .i64 k ∧ Aside (Below w.heap.size w wr) ∧ Aside (Lies wr w.heap.size 26 r.cells.toArray) ∧ Aside (∀ (j : Nat) (z : Nt), j < k → r.ns.l[j]? = some z → r.d.notedAt p o z = true)) (fun i _ => r.ns.l.length - (intOf i).toNat)
  case atStart => exact ⟨0, by omega, rfl, B0.out, L0.out, fun j z h => absurd h (by omega)⟩
  case round =>
    obtain ⟨k, hk, rfl, HB, HL, HA⟩ := hrel
    clear L0 B0
    have c1 : wr.cell? ⟨w.heap.size, 7, none⟩ = some (.slice r.ns.A r.ns.l.length r.ns.c) := HL.out.at_ 7
    by_cases hlt : k < r.ns.l.length
    · have hltz : (k : Int) < (r.ns.l.length : Int) := by omega
      have hk0 : (0 : Int) ≤ (k : Int) := by omega
      obtain ⟨z, hz⟩ : ∃ z, r.ns.l[k]? = some z := ⟨r.ns.l[k], by simp [hlt]⟩
      obtain ⟨tb, off, hAT, htb, d0, d1, d2, d3⟩ := HRN.out.cellN hz
      rw [hAT] at c1
      have e0 := (HB.out.cell (p := ⟨tb, off + k * 4, none⟩) htb).trans d0
      have e1 := (HB.out.cell (p := ⟨tb, off + k * 4 + 1, none⟩) htb).trans d1
      have e2 := (HB.out.cell (p := ⟨tb, off + k * 4 + 2, none⟩) htb).trans d2
      have e3 := (HB.out.cell (p := ⟨tb, off + k * 4 + 3, none⟩) htb).trans d3
      have r0 := cell_regrown e0
      have r1 := cell_regrown c1
      have hr0 : ∀ V, (∃ p : Regrown, V = Go.Sort.grow (redrawn wr p.d) p.os) → V.rangeAt w.heap.size 0 r.cells := by
        rintro V ⟨p, rfl⟩
        exact Lies.range (cs := r.cells) (HL.out.call (below_regrown _ _ _)) (fun j v hj => by simpa using hj)
      have hr1 : ∀ V, (∃ p : Regrown, V = Go.Sort.grow (redrawn wr p.d) p.os) → V.rangeAt tb (off + k * 4) (encN z) := by
        rintro V ⟨p, rfl⟩
        intro j v hj
        rcases j with _ | _ | _ | _ | j
        · cases hj; exact cell_regrown e0 _ _
        · cases hj; exact cell_regrown e1 _ _
        · cases hj; exact cell_regrown e2 _ _
        · cases hj; exact cell_regrown e3 _ _
        · simp [encN] at hj
      have HSZ := Lib.hid (HSY.out k z hz)
      have HNZ := Lib.hid (HNO.out k z hz)
      have HZ := Lib.hid hz
      have HR0 := Lib.hid hr0
      have HR1 := Lib.hid hr1
      have HBB := Lib.hid HB.out
      have HLL := Lib.hid HL.out
      obtain ⟨y, hy⟩ : ∃ y, y = r.d.saysB z o := ⟨_, rfl⟩
      have HY := Lib.hid hy
      have hna : r.d.notedAt p o z = (!decide (z.p = p) || y) := by unfold RwD.notedAt; rw [hy]
      have HNA := Lib.hid hna
      clear hz hAT htb d0 d1 d2 d3 e0 e1 e2 e3 hr0 hr1 HB HL hy hna
      go_upto_region 4 with (fail)
      clear c1
      by_cases hp : z.p = p
      · have hpb : ((z.p : Int) == p) = true := by simpa using hp
        have hpd : decide (z.p = p) = true := decide_eq_true hp
        have hs := HSZ.out
        rw [← HY.out] at hs
        have HS := Lib.hid hs
        clear hs hp
        cases y with
        | false =>
          refine wp_region_quiet_below (by kernel_rfl) (by kernel_rfl) ?_
          repeat (first
            | go_big_quiet_skip
            | (refine wpQuiet_load_wholeG (o := ⟨some 24, _, _, _, _, _⟩) ?_ 26 (.tmp 3) ?_ w.heap.size 0 ?_ r.cells _ HR0.out Try.underlying26 rfl size_refrow ?_; kernel_rfl; rfl; rfl; simp only [Act.put, List.setIfInBounds_toArray, List.set_cons_zero, List.set_cons_succ])
            | (refine wpQuiet_load_wholeG (o := ⟨some 29, _, _, _, _, _⟩) ?_ 67 (.tmp 28) ?_ tb (off + k * 4) ?_ (encN z) _ HR1.out Try.underlying67 rfl size_rnote ?_; kernel_rfl; rfl; rfl; simp only [Act.put, List.setIfInBounds_toArray, List.set_cons_zero, List.set_cons_succ])
            | go_big_quiet_step ((go_at_call 63; exact Calls.regrown_of (HS.out _))) | quiet_step ((go_at_call 63; exact Calls.regrown_of (HS.out _))))
          refine wpQuiet_nil ?_
          intro wq hwq
          have hbq : Below _ _ wq := (by obtain ⟨p, rfl⟩ := hwq; exact below_regrown _ _ _)
          clear hwq r0 r1
          go_wp2
          go_ret
          exact ⟨ret_bool (HNZ.out (by rw [HNA.out, hpd]; rfl)).symm, HBB.out.trans (hbq.mono HBB.out.size)⟩
        | true =>
          refine wp_region_quiet_below (by kernel_rfl) (by kernel_rfl) ?_
          repeat (first
            | go_big_quiet_skip
            | (refine wpQuiet_load_wholeG (o := ⟨some 24, _, _, _, _, _⟩) ?_ 26 (.tmp 3) ?_ w.heap.size 0 ?_ r.cells _ HR0.out Try.underlying26 rfl size_refrow ?_; kernel_rfl; rfl; rfl; simp only [Act.put, List.setIfInBounds_toArray, List.set_cons_zero, List.set_cons_succ])
            | (refine wpQuiet_load_wholeG (o := ⟨some 29, _, _, _, _, _⟩) ?_ 67 (.tmp 28) ?_ tb (off + k * 4) ?_ (encN z) _ HR1.out Try.underlying67 rfl size_rnote ?_; kernel_rfl; rfl; rfl; simp only [Act.put, List.setIfInBounds_toArray, List.set_cons_zero, List.set_cons_succ])
            | go_big_quiet_step ((go_at_call 63; exact Calls.regrown_of (HS.out _))) | quiet_step ((go_at_call 63; exact Calls.regrown_of (HS.out _))))
          refine wpQuiet_nil ?_
          intro wq hwq
          have hbq : Below _ _ wq := (by obtain ⟨p, rfl⟩ := hwq; exact below_regrown _ _ _)
          clear hwq r0 r1
          go_wp2
          go_roundw
          case rel => exact ⟨k + 1, by omega, by go_num, HBB.out.trans (hbq.mono HBB.out.size), HLL.out.call hbq, fun j x hj hx => by
            by_cases e : j = k
            · subst e; rw [HZ.out] at hx; cases hx; rw [HNA.out]; simp
            · exact HA.out j x (by omega) hx⟩
          case measure => simp [intOf]; omega
      · have hpb : ((z.p : Int) == p) = false := by simpa using hp
        have HPD := Lib.hid (decide_eq_false hp)
        clear hp
        refine wp_region_quiet_below (by kernel_rfl) (by kernel_rfl) ?_; (repeat (first | go_big_quiet_step ((fail)) | quiet_step ((fail)))); refine wpQuiet_nil ?_; intro wq hwq; have hbq : Below _ _ wq := (by obtain ⟨p, rfl⟩ := hwq; exact below_regrown _ _ _); clear hwq
        clear r0 r1
        go_wp2
        go_roundw
        case rel => exact ⟨k + 1, by omega, by go_num, HBB.out.trans (hbq.mono HBB.out.size), HLL.out.call hbq, fun j x hj hx => by
          by_cases e : j = k
          · subst e; rw [HZ.out] at hx; cases hx; rw [HNA.out, HPD.out]; rfl
          · exact HA.out j x (by omega) hx⟩
        case measure => simp [intOf]; omega
    · obtain rfl : k = r.ns.l.length := by omega
      have HBB := Lib.hid HB.out
      have HAA := Lib.hid (HYE.out fun j z hz => HA.out j z (List.getElem?_eq_some_iff.1 hz).1 hz)
      clear HB HL
      go_wp2
      go_ret
      exact ⟨ret_bool HAA.out.symm, HBB.out⟩
end Go.Proofs.Ytkjhofbjjogmlaa

namespace Go.Proofs.Ytkjhofbjjogmlaa
open Go.RowKit Go.Lib

/-- The row and the list of a round. -/
structure EarX (r : RwM) (w : World) (gx k : Nat) (x : RwM) (t : List Int) (A : Option Addr) (c : Nat) (W : World) : Prop where
  o : Lies W gx 26 x.cells.toArray
  a : x.At W W.heap.size
  th : ThinM x
  f : x.d.fault = 0
  n : x.d.dug.length = r.d.dug.length
  il : ∀ u, x.d.illB u = r.d.illB u
  nw : x.d.ws.length = r.d.ws.length
  s : Sl W W.heap.size 1 encI A t
  sn : A = none → t.length = 0 ∧ c = 0
  tl : t.length ≤ 15
  one : k = 1 → x.d.proveD t = true
  r : Lies W w.heap.size 26 r.cells.toArray
  b : Below w.heap.size w W
end Go.Proofs.Ytkjhofbjjogmlaa

namespace Go.Proofs.Ytkjhofbjjogmlaa
open Go.RowKit Go.Lib

/-- What a note says is what its window allows. -/
theorem says_alw {r : RwD} (hok : r.Ok) {n : Nt} (hn : r.haveB n = true) (hk : 0 ≤ n.k) {o : Int} (h0 : -1 ≤ o ∧ o ≤ r.ws.length) : r.saysB n o = inB (in31 o) (alwD r.sh r.old n).1 (alwD r.sh r.old n).2 := by
  obtain ⟨-, hw1, hw2⟩ := note_plant hok hn
  have hsh := hok.sh
  have hold := hok.old
  have hnw := hok.nw
  have hk2 : n.k < 2 := by
    unfold RwD.haveB at hn
    simp only [Bool.and_eq_true, decide_eq_true_eq] at hn
    exact hn.2
  rw [Bool.eq_iff_iff, inB_iff]
  unfold RwD.saysB RwD.yesW RwD.noW alwD yesD noD in31
  by_cases hkz : n.k = 0
  · cases hy : n.y with
    | true =>
      simp only [hkz, if_true, Bool.and_eq_true, decide_eq_true_eq]
      split <;> omega
    | false =>
      simp only [hkz, if_true, Bool.false_eq_true, if_false, Bool.or_eq_true, decide_eq_true_eq]
      split <;> omega
  · have hk1 : n.k = 1 := by omega
    cases hy : n.y with
    | true =>
      simp only [hkz, if_true, if_false, Bool.and_eq_true, decide_eq_true_eq]
      split <;> omega
    | false =>
      simp only [hk1, if_true, Bool.false_eq_true, if_false, Bool.or_eq_true, decide_eq_true_eq, show ¬ ((1 : Int) = 0) by decide]
      split <;> omega
theorem noted_win {r : RwD} (hf : r.fault = 0) (hkn : ∀ n, n ∈ r.ns → 0 ≤ n.k) {p : Nat} (hp : p < r.dug.length) {o : Int} (h0 : -1 ≤ o ∧ o ≤ r.ws.length) : r.notedB p o = winD r.wins p (in31 o) := by
  obtain ⟨hok, hns, -, hlw, -⟩ := fault_ok hf
  have hd10 : r.dug.length ≤ 10 := by have := hok.dug; have := hok.n1; omega
  have hall : ∀ n, n ∈ r.ns → n.p.toNat < anyD.length := fun n hn => by
    have := (note_plant hok (hns n hn)).1
    show n.p.toNat < 10
    omega
  have hpos : ∀ n, n ∈ r.ns → 0 ≤ n.p := fun n hn => by
    have h := hns n hn
    unfold RwD.haveB at h
    simp only [Bool.and_eq_true, inB_iff] at h
    exact h.1.1.1.1
  rw [Bool.eq_iff_iff]
  unfold RwD.notedB
  rw [List.all_eq_true]
  constructor
  · intro h
    refine winD_all r.sh r.old p _ r.ns anyD hall ?_ fun n hn e => ?_
    · have hw : winAt anyD p = (0, 31) := by
        unfold winAt anyD
        rw [List.getD, List.getElem?_replicate, if_pos (by omega)]; rfl
      unfold winD
      rw [hw, inB_iff]
      unfold in31
      dsimp only
      split <;> omega
    · have h2 := h n hn
      have hnp := hpos n hn
      unfold RwD.notedAt at h2
      rw [decide_eq_true (show n.p = (p : Int) by omega), Bool.not_true, Bool.false_or, says_alw hok (hns n hn) (hkn n hn) h0] at h2
      exact h2
  · intro h n hn
    unfold RwD.notedAt
    by_cases e : n.p = (p : Int)
    · rw [decide_eq_true e, Bool.not_true, Bool.false_or, says_alw hok (hns n hn) (hkn n hn) h0]
      exact (winD_noted r.sh r.old p _ r.ns anyD hall h).2 n hn (by omega)
    · rw [decide_eq_false e]; rfl
/-- Is a plant's onset possible, as the reference asks? -/
def RwD.refAt (r : RwD) (l : List Int) (p : Nat) : Bool := r.notedB p (l.getD p 0) && (decide (l.getD p 0 < 0) || r.fallB (truthD l) p (l.getD p 0))
theorem ref_poss {r : RwD} (hf : r.fault = 0) (hkn : ∀ n, n ∈ r.ns → 0 ≤ n.k) {l : List Int} (hl : l.length = r.dug.length) (ho : ∀ o, o ∈ l → -1 ≤ o ∧ o ≤ r.ws.length) : (List.range r.dug.length).all (r.refAt l) = r.possB r.wins (truthD l) := by
  obtain ⟨hok, -, -, hlw, -⟩ := fault_ok hf
  unfold RwD.possB
  rw [Bool.eq_iff_iff, all_range, all_range]
  refine forall_congr' fun p => ?_
  constructor
  · intro h hp
    have h2 := h hp
    have hb := ho _ (getD_mem (t := l) (p := p) (by omega))
    unfold RwD.refAt at h2
    unfold RwD.possAt
    rw [noted_win hf hkn hp hb, Bool.and_eq_true, Bool.or_eq_true, decide_eq_true_eq] at h2
    rw [truthD_in (by omega), Bool.and_eq_true, Bool.or_eq_true, decide_eq_true_eq]
    refine ⟨h2.1, ?_⟩
    rcases h2.2 with h3 | h3
    · left; unfold in31; rw [if_pos (by omega)]
    · by_cases e : l.getD p 0 = -1
      · left; unfold in31; rw [if_pos e]
      · right; unfold in31; rw [if_neg e]; exact h3
  · intro h hp
    have h2 := h hp
    have hb := ho _ (getD_mem (t := l) (p := p) (by omega))
    unfold RwD.possAt at h2
    unfold RwD.refAt
    rw [truthD_in (by omega), Bool.and_eq_true, Bool.or_eq_true, decide_eq_true_eq] at h2
    rw [noted_win hf hkn hp hb, Bool.and_eq_true, Bool.or_eq_true, decide_eq_true_eq]
    refine ⟨h2.1, ?_⟩
    by_cases e : l.getD p 0 = -1
    · left; omega
    · have e2 : in31 (l.getD p 0) = l.getD p 0 := by unfold in31; rw [if_neg e]
      rw [e2] at h2
      rcases h2.2 with h3 | h3
      · omega
      · exact .inr h3
end Go.Proofs.Ytkjhofbjjogmlaa

namespace Go.Proofs.Ytkjhofbjjogmlaa
open Go.RowKit Go.Lib

def RwD.casF (r : RwD) (l : List Int) (p : Nat) : Bool := decide (0 ≤ l.getD p 0) && decide (l.getD p 0 + r.old ≤ r.ws.length) && r.lastB p
def RwD.casK (r : RwD) (l : List Int) (k : Nat) : Nat := ((List.range k).filter (r.casF l)).length
theorem casK_succ (r : RwD) (l : List Int) (k : Nat) : r.casK l (k + 1) = r.casK l k + (if r.casF l k then 1 else 0) := by
  unfold RwD.casK
  rw [List.range_succ, List.filter_append, List.length_append]
  congr 1
  rw [List.filter_cons]
  split <;> rfl
theorem casK_le (r : RwD) (l : List Int) (k : Nat) : r.casK l k ≤ k := by
  unfold RwD.casK
  exact Nat.le_trans (List.length_filter_le _ _) (by simp)
/-- The number of old cases of a list of onsets is that of its truth. -/
theorem casK_num {r : RwD} (hok : r.Ok) {l : List Int} (hl : l.length = r.dug.length) (ho : ∀ o, o ∈ l → -1 ≤ o ∧ o ≤ r.ws.length) : r.casK l r.dug.length = r.numC (truthD l) := by
  have h30 := hok.nw
  have hold := hok.old
  unfold RwD.casK RwD.numC RwD.allCases thoseD
  rw [List.length_map, List.filter_filter]
  congr 1
  refine List.filter_congr fun p hp => ?_
  have hp' := List.mem_range.1 hp
  have h := ho _ (getD_mem (t := l) (p := p) (by omega))
  unfold RwD.casF
  rw [truthD_in (by omega)]
  congr 1
  rw [← Bool.decide_and, decide_eq_decide]
  unfold in31
  split <;> omega
set_option maxRecDepth 100000 in
set_option maxHeartbeats 8000000 in
theorem refCases_any (r : RwM) (A : Option Addr) (c : Nat) (l : List Int) (w : World) (hr : r.At w w.heap.size) (hok : r.d.Ok) (hA : Sl w w.heap.size 1 encI A l) (hl : l.length = r.dug.l.length) (hob : ∀ o, o ∈ l → -1 ≤ o ∧ o ≤ 30) :
    Calls Try.prog 43 #[.agg r.cells.toArray, .slice A l.length c] w fun e w' => e = .returned (.int .i64 (r.d.casK l r.d.dug.length)) ∧ Below w.heap.size w w' := by
  obtain ⟨N, hN⟩ : ∃ N, N = r.dug.l.length := ⟨_, rfl⟩
  have hnn : r.n = (N : Int) := by rw [hN]; exact hok.dug.symm
  have hN10 : N ≤ 10 := by have := hok.n1; have h2 : r.d.n = r.n := rfl; omega
  have hYz : (r.ws.l.length : Int) ≤ 30 := by have h2 : r.ws.l.length ≤ 30 := hok.nw; omega
  have hold : 0 ≤ r.old ∧ r.old ≤ 30 := hok.old
  have hla : l.length = N := by omega
  have l0 : Lies (w.alloc (.cells r.cells.toArray 26)) w.heap.size 26 r.cells.toArray := Lies.fresh _ _ _
  have b0 : Below w.heap.size w (w.alloc (.cells r.cells.toArray 26)) := (by repeat (first | (with_reducible assumption) | (with_reducible exact Below.refl _ _) | (with_reducible refine Below.drew ?_) | (with_reducible refine below_drewN ?_ _) | ((with_reducible refine Below.setCell ?_ ?_ _); rotate_left; focus (first | (simp; done) | (simp; omega) | omega)) | ((with_reducible refine Below.alloc ?_ ?_ _); rotate_left; focus (first | (simp; done) | (simp; omega) | omega))))
  have hSQ := fun (q : Nat) (hq : q < N) W (hb : Below w.heap.size w W) => (refStands_any r q (r.d.dg (q : Nat)) (r.ws.l.length : Int) W ((hr.dug.below hb).more hb.size) (by show r.dug.l[q]? = some (r.dug.l.getD q 0); rw [hN] at hq; simp [List.getD, hq]) hr.ld : Calls Try.prog 42 #[.agg r.cells.toArray, .int .i64 q, .int .i64 r.ws.l.length] W fun e w' => e = .returned (.bool (r.d.lastB q)) ∧ Below W.heap.size W w')
  have hres : r.d.dug.length = N := hN.symm
  rw [hres]
  have L0 := Lib.hid l0
  have B0 := Lib.hid b0
  have HSQ := Lib.hid hSQ
  have HNE := Lib.hid hnn
  have HAA := Lib.hid hA
  have HLA := Lib.hid hla
  have HOB := Lib.hid hob
  have HOL := Lib.hid hold
  clear l0 b0 hSQ hnn hA hla hr hok hl hN hres hob hold
  go_enter Try.func43, Try.ntmps43
  go_upto_region 1 with (fail)
  change Code.wp _ _ _ _ (w.alloc (.cells r.cells.toArray 26))
  generalize w.alloc (.cells r.cells.toArray 26) = w0 at *
  go_wp2
  go_loopw [5, 6] (fun s5 s6 wr => ∃ k : Nat, k ≤ N ∧ s5 = .int .i64 (r.d.casK l k : Nat) ∧ s6 = .int .i64 k ∧ Aside (Below w.heap.size w wr) ∧ Aside (Lies wr w.heap.size 26 r.cells.toArray)) (fun _ i _ => N - (intOf i).toNat)
  case atStart => exact ⟨0, by omega, rfl, rfl, B0.out, L0.out⟩
  case round =>
    obtain ⟨k, hk, rfl, rfl, HB, HL⟩ := hrel
    clear L0 B0
    have cn : wr.cell? ⟨w.heap.size, 0, none⟩ = some (.int .i64 N) := by rw [← HNE.out]; exact HL.out.at_ 0
    by_cases hlt : k < N
    · have hltz : (k : Int) < (N : Int) := by omega
      have hk0 : (0 : Int) ≤ (k : Int) := by omega
      have hla := HLA.out
      have hll : (k : Int) < (l.length : Int) := by omega
      obtain ⟨o, ho⟩ : ∃ o, l[k]? = some o := ⟨l[k]'(by omega), by simp⟩
      have hog : l.getD k 0 = o := by rw [List.getD, ho]; rfl
      obtain ⟨lb, lo, hAe, hlb, c16'⟩ := HAA.out.cell1 ho
      have r1 := cell_regrown ((HB.out.cell (p := ⟨lb, lo + k, none⟩) hlb).trans c16')
      have r2 := cell_regrown (show wr.cell? ⟨w.heap.size, 4, none⟩ = some (.int .i64 r.old) from HL.out.at_ 4)
      have r3 := cell_regrown (show wr.cell? ⟨w.heap.size, 1, none⟩ = some (.slice r.ws.A r.ws.l.length r.ws.c) from HL.out.at_ 1)
      have hsucc := casK_succ r.d l k
      have hle := casK_le r.d l k
      have hfk : r.d.casF l k = (decide (0 ≤ o) && decide (o + r.old ≤ (r.ws.l.length : Int)) && stB (r.d.dg (k : Nat)) (r.ws.l.length : Int)) := by unfold RwD.casF; rw [hog]; rfl
      rw [hfk] at hsucc
      obtain ⟨ho0, ho1⟩ := HOB.out o (List.mem_of_getElem? ho)
      obtain ⟨hd0, hd1⟩ := HOL.out
      have hcz : (r.d.casK l k : Int) ≤ 10 := by omega
      have hcz0 : (0 : Int) ≤ (r.d.casK l k : Int) := by omega
      have hw1 : IntKind.i64.wrap (o + r.old) = o + r.old := IntWalk.i64_in _ (by omega)
      have hr0 : ∀ V, (∃ p : Regrown, V = Go.Sort.grow (redrawn wr p.d) p.os) → V.rangeAt w.heap.size 0 r.cells := by
        rintro V ⟨p, rfl⟩
        exact Lies.range (cs := r.cells) (HL.out.call (below_regrown _ _ _)) (fun j v hj => by simpa using hj)
      have hst := fun W (hb : Below wr.heap.size wr W) => HSQ.out k hlt W (HB.out.trans (hb.mono HB.out.size))
      obtain ⟨sb, hsb⟩ : ∃ sb, sb = stB (r.d.dg (k : Nat)) (r.ws.l.length : Int) := ⟨_, rfl⟩
      rw [← hsb] at hst hsucc
      have HR0 := Lib.hid hr0
      have HST := Lib.hid hst
      have HBB := Lib.hid HB.out
      have HLL := Lib.hid HL.out
      subst hAe
      clear ho hog hla c16' hfk HB HL hle hr0 hst hsb hlb
      go_upto_region 5 with (fail)
      clear cn
      by_cases h0 : 0 ≤ o
      · have d0 : decide (0 ≤ o) = true := decide_eq_true h0
        by_cases h1 : o + r.old ≤ (r.ws.l.length : Int)
        · have d1 : decide (o + r.old ≤ (r.ws.l.length : Int)) = true := decide_eq_true h1
          rw [d0, d1, Bool.true_and, Bool.true_and] at hsucc
          have HSU := Lib.hid hsucc
          clear hsucc h0 h1
          cases sb with
          | false =>
            refine wp_region_quiet_below (by kernel_rfl) (by kernel_rfl) ?_
            repeat (first
              | go_big_quiet_skip
              | (refine wpQuiet_load_wholeG (o := ⟨some 32, _, _, _, _, _⟩) ?_ 26 (.tmp 2) ?_ w.heap.size 0 ?_ r.cells _ HR0.out Try.underlying26 rfl size_refrow ?_; kernel_rfl; rfl; rfl; simp only [Act.put, List.setIfInBounds_toArray, List.set_cons_zero, List.set_cons_succ])
              | go_big_quiet_step ((go_at_call 42; exact Calls.regrown_of (HST.out _ (below_regrown _ _ _)))) | quiet_step ((go_at_call 42; exact Calls.regrown_of (HST.out _ (below_regrown _ _ _)))))
            refine wpQuiet_nil ?_
            intro wq hwq
            have hbq : Below _ _ wq := (by obtain ⟨p, rfl⟩ := hwq; exact below_regrown _ _ _)
            clear hwq r1 r2 r3
            go_wp2
            go_roundw
            case rel => exact ⟨k + 1, by omega, by rw [HSU.out]; rfl, by go_num, HBB.out.trans (hbq.mono HBB.out.size), HLL.out.call hbq⟩
            case measure => simp [intOf]; omega
          | true =>
            refine wp_region_quiet_below (by kernel_rfl) (by kernel_rfl) ?_
            repeat (first
              | go_big_quiet_skip
              | (refine wpQuiet_load_wholeG (o := ⟨some 32, _, _, _, _, _⟩) ?_ 26 (.tmp 2) ?_ w.heap.size 0 ?_ r.cells _ HR0.out Try.underlying26 rfl size_refrow ?_; kernel_rfl; rfl; rfl; simp only [Act.put, List.setIfInBounds_toArray, List.set_cons_zero, List.set_cons_succ])
              | go_big_quiet_step ((go_at_call 42; exact Calls.regrown_of (HST.out _ (below_regrown _ _ _)))) | quiet_step ((go_at_call 42; exact Calls.regrown_of (HST.out _ (below_regrown _ _ _)))))
            refine wpQuiet_nil ?_
            intro wq hwq
            have hbq : Below _ _ wq := (by obtain ⟨p, rfl⟩ := hwq; exact below_regrown _ _ _)
            clear hwq r1 r2 r3
            go_wp2
            go_roundw
            case rel => exact ⟨k + 1, by omega, by rw [HSU.out]; go_num, by go_num, HBB.out.trans (hbq.mono HBB.out.size), HLL.out.call hbq⟩
            case measure => simp [intOf]; omega
        · have d1 : decide (o + r.old ≤ (r.ws.l.length : Int)) = false := decide_eq_false h1
          rw [d1, Bool.and_false, Bool.false_and] at hsucc
          have HSU := Lib.hid hsucc
          clear hsucc h0 h1
          refine wp_region_quiet_below (by kernel_rfl) (by kernel_rfl) ?_; (repeat (first | go_big_quiet_step ((fail)) | quiet_step ((fail)))); refine wpQuiet_nil ?_; intro wq hwq; have hbq : Below _ _ wq := (by obtain ⟨p, rfl⟩ := hwq; exact below_regrown _ _ _); clear hwq
          clear r1 r2 r3
          go_wp2
          go_roundw
          case rel => exact ⟨k + 1, by omega, by rw [HSU.out]; rfl, by go_num, HBB.out.trans (hbq.mono HBB.out.size), HLL.out.call hbq⟩
          case measure => simp [intOf]; omega
      · have d0 : decide (0 ≤ o) = false := decide_eq_false h0
        rw [d0, Bool.false_and, Bool.false_and] at hsucc
        have HSU := Lib.hid hsucc
        clear hsucc h0
        refine wp_region_quiet_below (by kernel_rfl) (by kernel_rfl) ?_; (repeat (first | go_big_quiet_step ((fail)) | quiet_step ((fail)))); refine wpQuiet_nil ?_; intro wq hwq; have hbq : Below _ _ wq := (by obtain ⟨p, rfl⟩ := hwq; exact below_regrown _ _ _); clear hwq
        clear r1 r2 r3
        go_wp2
        go_roundw
        case rel => exact ⟨k + 1, by omega, by rw [HSU.out]; rfl, by go_num, HBB.out.trans (hbq.mono HBB.out.size), HLL.out.call hbq⟩
        case measure => simp [intOf]; omega
    · obtain rfl : k = N := by omega
      have HBB := Lib.hid HB.out
      clear HB HL
      go_wp2
      go_ret
      exact ⟨rfl, HBB.out⟩
end Go.Proofs.Ytkjhofbjjogmlaa

namespace Go.Proofs.Ytkjhofbjjogmlaa
open Go.RowKit Go.Lib

section
variable {x : RwD} {k : Nat}
end
/-- The samples' plants, seen or not. -/
def unsAt (W old : Int) (t l : List Int) (i : Nat) : Bool := decide (t.getD (l.getD i 0).toNat 0 < 0) || decide (W < t.getD (l.getD i 0).toNat 0 + old)
def unsK (W old : Int) (t l : List Int) (k : Nat) : Bool := (List.range k).all (unsAt W old t l)
theorem unsK_succ (W old : Int) (t l : List Int) (k : Nat) : unsK W old t l (k + 1) = (unsK W old t l k && unsAt W old t l k) := by
  unfold unsK; rw [List.range_succ, List.all_append]; simp
theorem unsK_all {W old : Int} {t l : List Int} (h : unsK W old t l l.length = true) (q : Nat) (hq : (q : Int) ∈ l) : t.getD q 0 < 0 ∨ W < t.getD q 0 + old := by
  obtain ⟨i, hi⟩ := List.getElem?_of_mem hq
  have := all_range.1 h i (List.getElem?_eq_some_iff.1 hi).1
  unfold unsAt at this
  rw [Bool.or_eq_true, decide_eq_true_eq, decide_eq_true_eq, show l.getD i 0 = (q : Int) by rw [List.getD, hi]; rfl, Int.toNat_natCast] at this
  exact this
end Go.Proofs.Ytkjhofbjjogmlaa

namespace Go.Proofs.Ytkjhofbjjogmlaa
open Go.RowKit Go.Lib

/-- The onsets that are tried. -/
def RwD.onsL (r : RwD) : List Int := (List.range (r.ws.length + 2)).map fun i : Nat => (i : Int) - 1
theorem mem_onsL {r : RwD} {o : Int} : o ∈ r.onsL ↔ -1 ≤ o ∧ o ≤ r.ws.length := by
  unfold RwD.onsL
  rw [List.mem_map]
  constructor
  · rintro ⟨i, hi, rfl⟩
    have := List.mem_range.1 hi
    omega
  · intro h
    exact ⟨(o + 1).toNat, List.mem_range.2 (by omega), by omega⟩
/-- All possible truths that begin so. -/
def RwD.truthsD (r : RwD) : Nat → List Int → List (List Int)
  | 0, pre => if r.possB r.wins (truthD pre) then [pre] else []
  | m + 1, pre => r.onsL.flatMap fun o => if r.notedB pre.length o then r.truthsD m (pre ++ [o]) else []
theorem mem_truths {r : RwD} (hf : r.fault = 0) (hkn : ∀ n, n ∈ r.ns → 0 ≤ n.k) {l : List Int} : ∀ (m : Nat) (pre : List Int), pre.length + m = r.dug.length →
    (l ∈ r.truthsD m pre ↔ ∃ suf, l = pre ++ suf ∧ suf.length = m ∧ (∀ o, o ∈ suf → -1 ≤ o ∧ o ≤ r.ws.length) ∧ r.possB r.wins (truthD l) = true)
  | 0, pre, hl => by
    rw [RwD.truthsD]
    constructor
    · intro h
      split at h
      · rename_i hp
        simp at h; subst h
        exact ⟨[], by simp, rfl, (fun o ho => by cases ho), hp⟩
      · cases h
    · rintro ⟨suf, e, h1, -, h3⟩
      have : suf = [] := List.eq_nil_of_length_eq_zero h1
      subst this
      rw [List.append_nil] at e
      subst e
      rw [if_pos h3]; simp
  | m + 1, pre, hl => by
    rw [RwD.truthsD, List.mem_flatMap]
    constructor
    · rintro ⟨o, ho, h⟩
      split at h
      · obtain ⟨suf, e, h1, h2, h3⟩ := (mem_truths hf hkn m (pre ++ [o]) (by simp; omega)).1 h
        refine ⟨o :: suf, by rw [e]; simp, by simp [h1], fun x hx => ?_, h3⟩
        rcases List.mem_cons.1 hx with rfl | hx
        · exact mem_onsL.1 ho
        · exact h2 x hx
      · cases h
    · rintro ⟨suf, e, h1, h2, h3⟩
      cases suf with
      | nil => simp at h1
      | cons o suf =>
        have ho := h2 o (by simp)
        refine ⟨o, mem_onsL.2 ho, ?_⟩
        have hn : r.notedB (pre.length : Nat) o = true := by
          rw [noted_win hf hkn (p := pre.length) (by omega) ho]
          have h4 := all_range.1 h3 pre.length (by omega)
          have e2 : l.getD pre.length 0 = o := by rw [e, List.getD, List.getElem?_append_right (Nat.le_refl _)]; simp
          unfold RwD.possAt at h4
          rw [truthD_in (by rw [e]; simp), e2, Bool.and_eq_true] at h4
          exact h4.1
        rw [if_pos hn]
        exact (mem_truths hf hkn m (pre ++ [o]) (by simp; omega)).2 ⟨suf, by rw [e]; simp, by simpa using h1, fun x hx => h2 x (by simp [hx]), h3⟩
def RwD.allD (r : RwD) : List (List Int) := r.truthsD r.dug.length []
section
variable {r : RwD} (hf : r.fault = 0) (hkn : ∀ n, n ∈ r.ns → 0 ≤ n.k)
include hf hkn
theorem mem_all {l : List Int} : l ∈ r.allD ↔ r.proveD l = true := by
  unfold RwD.allD
  rw [mem_truths hf hkn r.dug.length [] (by simp)]
  constructor
  · rintro ⟨suf, e, h1, h2, h3⟩
    rw [List.nil_append] at e
    subst e
    have hok := (fault_ok hf).1
    unfold RwD.proveD RwD.onsB
    rw [hf, h3]
    simp only [decide_true, Bool.true_and, Bool.and_true, Bool.and_eq_true, decide_eq_true_eq, List.all_eq_true, inB_iff]
    exact ⟨by rw [h1]; exact hok.dug, h2⟩
  · intro h
    obtain ⟨-, -, h1, h2, h3⟩ := prove_has h
    exact ⟨l, rfl, h1, h3, h2⟩
theorem all_nil : r.allD = [] ↔ r.can = false := by
  constructor
  · intro h
    cases hc : r.can with
    | false => rfl
    | true => have := (mem_all hf hkn).2 (first_prove hf hc); rw [h] at this; cases this
  · intro h
    rw [List.eq_nil_iff_forall_not_mem]
    intro l hl
    rw [prove_can ((mem_all hf hkn).1 hl)] at h
    cases h
end
/-- A truth's list of onsets. -/
def RwD.ofT (r : RwD) (t : List Int) : List Int := (t.take r.dug.length).map out31
theorem ofT_at {r : RwD} (h10 : r.dug.length ≤ 10) {t : List Int} (hT : TrW r.ws.length t) {p : Nat} (hp : p < r.dug.length) : (r.ofT t).getD p 0 = out31 (t.getD p 0) := by
  unfold RwD.ofT
  have hl := hT.len
  simp only [List.getD, List.getElem?_map, List.getElem?_take, if_pos hp]
  rw [List.getElem?_eq_getElem (by omega)]
  rfl
theorem ofT_length {r : RwD} (h10 : r.dug.length ≤ 10) {t : List Int} (hT : TrW r.ws.length t) : (r.ofT t).length = r.dug.length := by
  unfold RwD.ofT
  have hl := hT.len
  rw [List.length_map, List.length_take]; omega
theorem ofT_truth {r : RwD} (hok : r.Ok) {t : List Int} (hT : TrW r.ws.length t) (p : Nat) (hp : p < r.dug.length) : (truthD (r.ofT t)).getD p 0 = t.getD p 0 := by
  have h10 : r.dug.length ≤ 10 := by have := hok.dug; have := hok.n1; omega
  have hnw := hok.nw
  rw [truthD_in (by rw [ofT_length h10 hT]; exact hp), ofT_at h10 hT hp]
  have b := hT.b p
  unfold in31 out31
  split <;> split at * <;> omega
theorem ofT_prove {r : RwD} (hf : r.fault = 0) {t : List Int} (hT : TrW r.ws.length t) (ht : r.possB r.wins t = true) : r.proveD (r.ofT t) = true := by
  obtain ⟨hok, -, -, hlw, -⟩ := fault_ok hf
  have h10 : r.dug.length ≤ 10 := by have := hok.dug; have := hok.n1; omega
  unfold RwD.proveD RwD.onsB
  rw [hf, poss_congr hok (ofT_truth hok hT) ht]
  simp only [decide_true, Bool.true_and, Bool.and_true, Bool.and_eq_true, decide_eq_true_eq, List.all_eq_true, inB_iff]
  refine ⟨by rw [ofT_length h10 hT]; exact hok.dug, fun o ho => ?_⟩
  obtain ⟨p, hp⟩ := List.getElem?_of_mem ho
  have hpl : p < r.dug.length := by rw [← ofT_length h10 hT]; exact (List.getElem?_eq_some_iff.1 hp).1
  have e : (r.ofT t).getD p 0 = o := by rw [List.getD, hp]; rfl
  rw [ofT_at h10 hT hpl] at e
  have b := hT.b p
  unfold out31 at e
  split at e <;> omega
/-- The earlier of two onsets. -/
def minO (a b : Int) : Int := if 0 ≤ b ∧ (a < 0 ∨ b < a) then b else a
theorem fold_minO {f : Int} : ∀ (xs : List Int) (a : Int), (∀ x, x ∈ a :: xs → x = -1 ∨ (0 ≤ f ∧ f ≤ x)) → f ∈ a :: xs → xs.foldl minO a = f
  | [], a, _, hm => by simp at hm; exact hm.symm
  | b :: xs, a, h, hm => by
    rw [List.foldl_cons]
    have ha := h a (by simp)
    have hb := h b (by simp)
    refine fold_minO xs (minO a b) (fun x hx => ?_) ?_
    · rcases List.mem_cons.1 hx with rfl | hx
      · unfold minO; split <;> assumption
      · exact h x (by simp [hx])
    · rcases List.mem_cons.1 hm with e | hm
      · subst e
        unfold minO
        have : f ≠ -1 ∨ f = -1 := by omega
        by_cases hc : 0 ≤ b ∧ (f < 0 ∨ b < f)
        · rw [if_pos hc]
          have : b = f := by omega
          rw [this]; simp
        · rw [if_neg hc]; simp
      · rcases List.mem_cons.1 hm with e | hm
        · subst e
          unfold minO
          by_cases hc : 0 ≤ f ∧ (a < 0 ∨ f < a)
          · rw [if_pos hc]; simp
          · rw [if_neg hc]
            have : a = f := by omega
            rw [this]; simp
        · simp [hm]
section
variable {r : RwD} (hf : r.fault = 0) (hkn : ∀ n, n ∈ r.ns → 0 ≤ n.k)
include hf hkn
/-- The earliest of all truths is what First tells. -/
theorem all_first {p : Nat} (hp : p < r.dug.length) {a : List Int} {ls : List (List Int)} (h : r.allD = a :: ls) : (ls.map fun l => l.getD p 0).foldl minO (a.getD p 0) = r.firstD.getD p 0 := by
  have hc : r.can = true := by
    cases hc : r.can with
    | true => rfl
    | false => rw [(all_nil hf hkn).2 hc] at h; cases h
  obtain ⟨hok, -, -, hlw, -⟩ := fault_ok hf
  have h10 : r.dug.length ≤ 10 := by have := hok.dug; have := hok.n1; omega
  have hfl := firstD_length r h10
  have key : ∀ l, l ∈ a :: ls → l.getD p 0 = -1 ∨ (0 ≤ r.firstD.getD p 0 ∧ r.firstD.getD p 0 ≤ l.getD p 0) := fun l hl => by
    rw [← h] at hl
    have hpv := (mem_all hf hkn).1 hl
    obtain ⟨-, -, h1, -, h2⟩ := prove_has hpv
    have hb := h2 _ (getD_mem (t := l) (p := p) (by omega))
    by_cases h0 : 0 ≤ l.getD p 0
    · right
      refine prove_least hpv (p := p) ?_ ?_ h0
      · rw [List.getD, List.getElem?_eq_getElem (by omega)]; rfl
      · rw [List.getD, List.getElem?_eq_getElem (by omega)]; rfl
    · left; omega
  refine fold_minO _ _ (fun x hx => ?_) ?_
  · have hx2 : x ∈ (a :: ls).map fun l => l.getD p 0 := by simpa using hx
    obtain ⟨l, hl, rfl⟩ := List.mem_map.1 hx2
    exact key l hl
  · have hm : r.firstD ∈ a :: ls := by rw [← h]; exact (mem_all hf hkn).2 (first_prove hf hc)
    have : r.firstD.getD p 0 ∈ (a :: ls).map fun l => l.getD p 0 := List.mem_map.2 ⟨_, hm, rfl⟩
    simpa using this
/-- What is known of a plant, by all truths. -/
theorem all_known {p : Nat} (hp : p < r.dug.length) (hne : r.allD ≠ []) :
    r.knownD r.wins r.earliest p = if r.allD.any (fun l => decide (l.getD p 0 < 0)) = false then 1 else if r.allD.any (fun l => decide (0 ≤ l.getD p 0)) = false then 2 else 3 := by
  have hc : r.can = true := by
    cases hc : r.can with
    | true => rfl
    | false => exact absurd ((all_nil hf hkn).2 hc) hne
  obtain ⟨hok, -, -, hlw, -⟩ := fault_ok hf
  have h10 : r.dug.length ≤ 10 := by have := hok.dug; have := hok.n1; omega
  have hfm := (mem_all hf hkn).2 (first_prove hf hc)
  have hfa := firstD_at r p hp h10
  have b := (earliest_ok (r := r)).b p
  have hill : r.allD.any (fun l => decide (0 ≤ l.getD p 0)) = true ↔ r.earliest.getD p 0 ≠ 31 := by
    rw [List.any_eq_true]
    constructor
    · rintro ⟨l, hl, h0⟩
      rw [decide_eq_true_eq] at h0
      have hpv := (mem_all hf hkn).1 hl
      obtain ⟨-, -, h1, -, h2⟩ := prove_has hpv
      have := prove_least hpv (p := p) (o := l.getD p 0) (f := r.firstD.getD p 0) (by rw [List.getD, List.getElem?_eq_getElem (by omega)]; rfl) (by rw [List.getD, List.getElem?_eq_getElem (by rw [firstD_length r h10]; exact hp)]; rfl) h0
      rw [hfa] at this
      intro e
      rw [e] at this
      unfold out31 at this
      simp at this
    · intro h
      refine ⟨_, hfm, ?_⟩
      rw [decide_eq_true_eq, hfa]
      unfold out31
      rw [if_neg h]; omega
  have hnot : r.allD.any (fun l => decide (l.getD p 0 < 0)) = true ↔ r.possB (withoutD r.wins p) (r.earlyD (withoutD r.wins p)) = true := by
    rw [List.any_eq_true, spare_iff hok hp]
    constructor
    · rintro ⟨l, hl, h0⟩
      rw [decide_eq_true_eq] at h0
      obtain ⟨-, h2, h1, h3, h4⟩ := prove_has ((mem_all hf hkn).1 hl)
      refine ⟨truthD l, h2, h3, ?_⟩
      have := h4 _ (getD_mem (t := l) (p := p) (by omega))
      rw [truthD_in (by omega)]
      unfold in31
      rw [if_pos (by omega)]
    · rintro ⟨t, hT, ht, h31⟩
      refine ⟨r.ofT t, (mem_all hf hkn).2 (ofT_prove hf hT ht), ?_⟩
      rw [decide_eq_true_eq, ofT_at h10 hT hp, h31]
      decide
  unfold RwD.knownD
  by_cases h1 : r.earliest.getD p 0 = 31
  · rw [if_pos h1]
    have hi : r.allD.any (fun l => decide (0 ≤ l.getD p 0)) = false := by rw [← Bool.not_eq_true, hill]; simpa using h1
    have hn : r.allD.any (fun l => decide (l.getD p 0 < 0)) = true := by
      rw [List.any_eq_true]
      exact ⟨_, hfm, by rw [decide_eq_true_eq, hfa, h1]; decide⟩
    rw [hn, hi]; rfl
  · rw [if_neg h1]
    have hi : r.allD.any (fun l => decide (0 ≤ l.getD p 0)) = true := hill.2 h1
    rw [hi]
    cases h2 : r.possB (withoutD r.wins p) (r.earlyD (withoutD r.wins p)) with
    | true => rw [hnot.2 h2]; rfl
    | false =>
      have : r.allD.any (fun l => decide (l.getD p 0 < 0)) = false := by rw [← Bool.not_eq_true, hnot, h2]; simp
      rw [this]; rfl
/-- The numbers of ill plants, of all truths. -/
theorem all_least {m : Nat} (hm : Least r r.wins m) : (∀ l, l ∈ r.allD → m ≤ r.numK l r.dug.length ∧ r.numK l r.dug.length ≤ (r.illB r.earliest).length) ∧ (∃ l, l ∈ r.allD ∧ r.numK l r.dug.length = m) ∧ (r.can = true → ∃ l, l ∈ r.allD ∧ r.numK l r.dug.length = (r.illB r.earliest).length) := by
  obtain ⟨hok, -, -, hlw, -⟩ := fault_ok hf
  have h10 : r.dug.length ≤ 10 := by have := hok.dug; have := hok.n1; omega
  refine ⟨fun l hl => ?_, ?_, fun hc => ⟨r.firstD, (mem_all hf hkn).2 (first_prove hf hc), ?_⟩⟩
  · obtain ⟨-, h2, h1, h3, h4⟩ := prove_has ((mem_all hf hkn).1 hl)
    rw [numK_ill h1 hlw h4]
    exact ill_truth hf h2 h3 hm
  · obtain ⟨t, hT, ht, he⟩ := hm.at_
    have hpv := ofT_prove hf hT ht
    obtain ⟨-, h2, h1, h3, h4⟩ := prove_has hpv
    refine ⟨r.ofT t, (mem_all hf hkn).2 hpv, ?_⟩
    rw [numK_ill h1 hlw h4, ill_congr (ofT_truth hok hT)]
    exact he
  · rw [numK_ill (firstD_length r h10) hlw (first_mem hf), first_ill hf]
/-- A sample that is enough is so by all truths. -/
theorem all_enough {ps : List Int} {k : Int} (hp : ∀ p, p ∈ ps → 0 ≤ p ∧ p < r.dug.length) : r.enoughD r.wins ps k = true ↔ ∀ l, l ∈ r.allD → (∀ p, p ∈ ps → l.getD p.toNat 0 < 0 ∨ (r.ws.length : Int) < l.getD p.toNat 0 + r.old) → (r.casK l r.dug.length : Int) ≤ k := by
  obtain ⟨hok, -, -, hlw, -⟩ := fault_ok hf
  have h10 : r.dug.length ≤ 10 := by have := hok.dug; have := hok.n1; omega
  have hold := hok.old
  have hin : ∀ p, p ∈ ps → 0 ≤ p ∧ p < 10 := fun p h => by have := hp p h; omega
  rw [enough_iff hok]
  constructor
  · intro h l hl hun
    obtain ⟨-, h2, h1, h3, h4⟩ := prove_has ((mem_all hf hkn).1 hl)
    rw [casK_num hok h1 h4]
    refine h (truthD l) h2 ((poss_tested r.wins_length hin _).2 ⟨h3, fun q hq hm => ?_⟩)
    have h5 := hun q hm
    rw [Int.toNat_natCast] at h5
    have h6 := h4 _ (getD_mem (t := l) (p := q) (by omega))
    rw [truthD_in (by omega)]
    unfold RwD.lateB
    rw [inB_iff]
    unfold in31
    split <;> omega
  · intro h t hT ht
    obtain ⟨ha, hb⟩ := (poss_tested r.wins_length hin t).1 ht
    have hpv := ofT_prove hf hT ha
    obtain ⟨-, -, h1, -, h4⟩ := prove_has hpv
    have h5 := h (r.ofT t) ((mem_all hf hkn).2 hpv) fun p hpm => by
      obtain ⟨hp0, hp1⟩ := hp p hpm
      have h6 := hb p.toNat (by omega) (by rw [show ((p.toNat : Nat) : Int) = p by omega]; exact hpm)
      rw [ofT_at h10 hT (by omega)]
      unfold RwD.lateB at h6
      rw [inB_iff] at h6
      have bb := hT.b p.toNat
      unfold out31
      split <;> omega
    rw [casK_num hok h1 h4] at h5
    have e : r.numC t ≤ r.numC (truthD (r.ofT t)) := cases_le fun q hq => by rw [ofT_truth hok hT q hq]; exact Int.le_refl _
    omega
end
end Go.Proofs.Ytkjhofbjjogmlaa

namespace Go.Proofs.Ytkjhofbjjogmlaa
open Go.RowKit Go.Lib

set_option maxRecDepth 100000 in
set_option maxHeartbeats 1000000 in
theorem Comes_zero (r : RwM) (A : Option Addr) (n c : Nat) (p : Int) (w : World) : Calls Try.prog 54 #[.agg r.cells.toArray, .slice A n c, .int .i64 p, .int .i64 0] w fun e w' => e = .returned (.bool (!r.cl)) ∧ Below w.heap.size w w' := by
  have l0 : Lies (w.alloc (.cells r.cells.toArray 26)) w.heap.size 26 r.cells.toArray := Lies.fresh _ _ _
  have b0 : Below w.heap.size w (w.alloc (.cells r.cells.toArray 26)) := (by repeat (first | (with_reducible assumption) | (with_reducible exact Below.refl _ _) | (with_reducible refine Below.drew ?_) | (with_reducible refine below_drewN ?_ _) | ((with_reducible refine Below.setCell ?_ ?_ _); rotate_left; focus (first | (simp; done) | (simp; omega) | omega)) | ((with_reducible refine Below.alloc ?_ ?_ _); rotate_left; focus (first | (simp; done) | (simp; omega) | omega))))
  have L0 := Lib.hid l0
  have B0 := Lib.hid b0
  clear l0 b0
  go_enter Try.func54, Try.ntmps54
  go_upto_region 1 with (fail)
  change Code.wp _ _ _ _ (w.alloc (.cells r.cells.toArray 26))
  generalize w.alloc (.cells r.cells.toArray 26) = w0 at *
  have a5 : w0.cell? ⟨w.heap.size, 5, none⟩ = some (.bool r.cl) := L0.out.at_ 5
  go_wp2
  go_ret
  exact ⟨rfl, B0.out⟩
set_option maxRecDepth 100000 in
set_option maxHeartbeats 8000000 in
theorem refPossible_in (r : RwM) (A : Option Addr) (c : Nat) (l : List Int) (w : World) (hr : r.At w w.heap.size) (hf : r.d.fault = 0) (hA : Sl w w.heap.size 1 encI A l) (hl : l.length = r.dug.l.length) (ho : ∀ o, o ∈ l → -1 ≤ o ∧ o ≤ r.d.ws.length) :
    Calls Try.prog 23 #[.agg r.cells.toArray, .slice A l.length c] w fun e w' => e = .returned (.bool (r.d.possB r.d.wins (truthD l))) ∧ Below w.heap.size w w' := by
  obtain ⟨hok, hns, -, hlw, -⟩ := fault_ok hf
  obtain ⟨N, hN⟩ : ∃ N, N = r.dug.l.length := ⟨_, rfl⟩
  have hnn : r.n = (N : Int) := by rw [hN]; exact hok.dug.symm
  have hN1 : 1 ≤ N := by have := hok.n0; have h2 : r.d.n = r.n := rfl; omega
  have hN10 : N ≤ 10 := by have := hok.n1; have h2 : r.d.n = r.n := rfl; omega
  have hla : l.length = N := by omega
  have hYz : (r.ws.l.length : Int) ≤ 30 := by have h2 : r.ws.l.length ≤ 30 := hok.nw; omega
  have hlz : ((l.length : Int) != (N : Int)) = false := by rw [hla]; simp
  have hl10 : (l.length : Int) ≤ 10 := by omega
  have l0 : Lies (w.alloc (.cells r.cells.toArray 26)) w.heap.size 26 r.cells.toArray := Lies.fresh _ _ _
  have b0 : Below w.heap.size w (w.alloc (.cells r.cells.toArray 26)) := (by repeat (first | (with_reducible assumption) | (with_reducible exact Below.refl _ _) | (with_reducible refine Below.drew ?_) | (with_reducible refine below_drewN ?_ _) | ((with_reducible refine Below.setCell ?_ ?_ _); rotate_left; focus (first | (simp; done) | (simp; omega) | omega)) | ((with_reducible refine Below.alloc ?_ ?_ _); rotate_left; focus (first | (simp; done) | (simp; omega) | omega))))
  have hkn : ∀ n, n ∈ r.d.ns → 0 ≤ n.k := fun n hn => (hr.kn n hn).1
  have hdN : r.d.dug.length = N := hN.symm
  have hall := ref_poss hf hkn (l := l) (by show l.length = r.dug.l.length; exact hl) ho
  rw [hdN] at hall
  have hno : ∀ k, k < N → r.d.refAt l k = false → r.d.possB r.d.wins (truthD l) = false := fun k hk h => by rw [← hall]; exact all_range_no hk h
  have hyes : (∀ k, k < N → r.d.refAt l k = true) → r.d.possB r.d.wins (truthD l) = true := fun h => by rw [← hall]; exact all_range.2 h
  have hnt := fun (p o : Int) W (hb : Below w.heap.size w W) => refNoted_any r p o W (hr.below hb hb.size) hf
  have hco : ∀ (p k : Nat), p < N → k ≤ r.ws.l.length → ∀ W, Below w.heap.size w W → Calls Try.prog 54 #[.agg r.cells.toArray, .slice A l.length c, .int .i64 p, .int .i64 k] W fun e w' => e = .returned (.bool (r.d.fallB (truthD l) p k)) ∧ Below W.heap.size W w' := fun p k hp hk W hb => by
    by_cases h0 : k = 0
    · subst h0
      have h := Comes_zero r A l.length c p W
      have e : r.d.fallB (truthD l) p ((0 : Nat) : Int) = !r.cl := by unfold RwD.fallB; rw [if_pos (by simp)]; rfl
      rw [e]; exact h
    · exact Comes_any r A c l p k W (hr.below hb hb.size) hok ((hA.below hb).more hb.size) hl (fun o h => by have := ho o h; have h2 : r.d.ws.length ≤ 30 := hlw; omega) (by omega) hk (by omega)
  have L0 := Lib.hid l0
  have B0 := Lib.hid b0
  have HNE := Lib.hid hnn
  have HAA := Lib.hid hA
  have HLA := Lib.hid hla
  have HNO := Lib.hid hno
  have HYE := Lib.hid hyes
  have HNT := Lib.hid hnt
  have HCO := Lib.hid hco
  have HOB := Lib.hid (show ∀ o, o ∈ l → -1 ≤ o ∧ o ≤ (r.ws.l.length : Int) from ho)
  clear l0 b0 hnn hA hla hr hf hok hns hlw hN hno hyes hnt hco ho hall hkn hdN hl
  generalize r.d.possB r.d.wins (truthD l) = pb at *
  go_enter Try.func23, Try.ntmps23
  go_upto_region 1 with (fail)
  change Code.wp _ _ _ _ (w.alloc (.cells r.cells.toArray 26))
  generalize w.alloc (.cells r.cells.toArray 26) = w0 at *
  have a0 : w0.cell? ⟨w.heap.size, 0, none⟩ = some (.int .i64 N) := by rw [← HNE.out]; exact L0.out.at_ 0
  go_wp2
  clear a0
  go_loopw [5] (fun s5 wr => ∃ k : Nat, k ≤ N ∧ s5 = .int .i64 k ∧ Aside (Below w.heap.size w wr) ∧ Aside (Lies wr w.heap.size 26 r.cells.toArray) ∧ Aside (∀ j, j < k → r.d.refAt l j = true)) (fun i _ => N - (intOf i).toNat)
  case atStart => exact ⟨0, by omega, rfl, B0.out, L0.out, fun j h => absurd h (by omega)⟩
  case round =>
    obtain ⟨k, hk, rfl, HB, HL, HH⟩ := hrel
    clear L0 B0
    have cn : wr.cell? ⟨w.heap.size, 0, none⟩ = some (.int .i64 N) := by rw [← HNE.out]; exact HL.out.at_ 0
    by_cases hlt : k < N
    · have hltz : (k : Int) < (N : Int) := by omega
      have hk0 : (0 : Int) ≤ (k : Int) := by omega
      have hla := HLA.out
      have hll : (k : Int) < (l.length : Int) := by omega
      obtain ⟨x, hx⟩ : ∃ x, l[k]? = some x := ⟨l[k]'(by omega), by simp⟩
      obtain ⟨lb, lo, e6, hlb, c16'⟩ := HAA.out.cell1 hx
      have hxg : l.getD k 0 = x := by rw [List.getD, hx]; rfl
      obtain ⟨hx0, hx1⟩ := HOB.out x (List.mem_of_getElem? hx)
      have r1 := cell_regrown ((HB.out.cell (p := ⟨lb, lo + k, none⟩) hlb).trans c16')
      have r3 := cell_regrown (show wr.cell? ⟨w.heap.size, 1, none⟩ = some (.slice r.ws.A r.ws.l.length r.ws.c) from HL.out.at_ 1)
      have hq1 : ∀ W, Calls Try.prog 33 #[.int .i64 x, .int .i64 (-1), .int .i64 r.ws.l.length] W fun e w' => e = .returned (.bool true) ∧ Below W.heap.size W w' := fun W => by
        have h := refIn_below x (-1) r.ws.l.length W
        rwa [show inB x (-1) (r.ws.l.length : Int) = true from inB_iff.2 ⟨hx0, hx1⟩] at h
      have hr0 : ∀ V, (∃ p : Regrown, V = Go.Sort.grow (redrawn wr p.d) p.os) → V.rangeAt w.heap.size 0 r.cells := by
        rintro V ⟨p, rfl⟩
        exact Lies.range (cs := r.cells) (HL.out.call (below_regrown _ _ _)) (fun j v hj => by simpa using hj)
      have hn1 := fun W (hb : Below wr.heap.size wr W) => HNT.out (k : Int) x W (HB.out.trans (hb.mono HB.out.size))
      obtain ⟨y2, hy2⟩ : ∃ y, y = r.d.notedB (k : Int) x := ⟨_, rfl⟩
      rw [← hy2] at hn1
      have hra : r.d.refAt l k = (y2 && (decide (x < 0) || r.d.fallB (truthD l) k x)) := by unfold RwD.refAt; rw [hxg, hy2]
      have HRA := Lib.hid hra
      have HN1 := Lib.hid hn1
      have HR0 := Lib.hid hr0
      have Q1 := Lib.hid hq1
      have HBB := Lib.hid HB.out
      have HLL := Lib.hid HL.out
      have hcm := fun (q : Nat) (hq : x = (q : Int)) W (hb : Below wr.heap.size wr W) => HCO.out k q hlt (by omega) W (HB.out.trans (hb.mono HB.out.size))
      have HCM := Lib.hid hcm
      subst e6
      clear hx c16' hxg hq1 hr0 hn1 hy2 hra hcm hlb hla HB HL
      go_upto_region 6 with (fail)
      clear cn
      cases y2 with
      | false =>
        refine wp_region_quiet_below (by kernel_rfl) (by kernel_rfl) ?_
        repeat (first
          | go_big_quiet_skip
          | (refine wpQuiet_load_wholeG (o := ⟨some 27, _, _, _, _, _⟩) ?_ 26 (.tmp 2) ?_ w.heap.size 0 ?_ r.cells _ HR0.out Try.underlying26 rfl size_refrow ?_; kernel_rfl; rfl; rfl; simp only [Act.put, List.setIfInBounds_toArray, List.set_cons_zero, List.set_cons_succ])
          | (refine wpQuiet_load_wholeG (o := ⟨some 43, _, _, _, _, _⟩) ?_ 26 (.tmp 2) ?_ w.heap.size 0 ?_ r.cells _ HR0.out Try.underlying26 rfl size_refrow ?_; kernel_rfl; rfl; rfl; simp only [Act.put, List.setIfInBounds_toArray, List.set_cons_zero, List.set_cons_succ])
          | go_big_quiet_step ((first | (go_at_call 33; exact Calls.regrown_of (Q1.out _)) | (go_at_call 53; exact Calls.regrown_of (HN1.out _ (below_regrown _ _ _))) | (go_at_call 54; exact Calls.regrown_of (HC.out _ (below_regrown _ _ _))))) | quiet_step ((first | (go_at_call 33; exact Calls.regrown_of (Q1.out _)) | (go_at_call 53; exact Calls.regrown_of (HN1.out _ (below_regrown _ _ _))) | (go_at_call 54; exact Calls.regrown_of (HC.out _ (below_regrown _ _ _))))))
        refine wpQuiet_nil ?_
        intro wq hwq
        have hbq : Below _ _ wq := (by obtain ⟨p, rfl⟩ := hwq; exact below_regrown _ _ _)
        clear hwq r1 r3
        go_wp2
        go_ret
        exact ⟨ret_bool (HNO.out k hlt (by rw [HRA.out]; rfl)).symm, HBB.out.trans (hbq.mono HBB.out.size)⟩
      | true =>
        by_cases hneg : x < 0
        · have d0 : decide (0 ≤ x) = false := decide_eq_false (by omega)
          have HS := Lib.hid (show r.d.refAt l k = true by rw [HRA.out, decide_eq_true hneg]; rfl)
          clear hneg
          refine wp_region_quiet_below (by kernel_rfl) (by kernel_rfl) ?_
          repeat (first
            | go_big_quiet_skip
            | (refine wpQuiet_load_wholeG (o := ⟨some 27, _, _, _, _, _⟩) ?_ 26 (.tmp 2) ?_ w.heap.size 0 ?_ r.cells _ HR0.out Try.underlying26 rfl size_refrow ?_; kernel_rfl; rfl; rfl; simp only [Act.put, List.setIfInBounds_toArray, List.set_cons_zero, List.set_cons_succ])
            | (refine wpQuiet_load_wholeG (o := ⟨some 43, _, _, _, _, _⟩) ?_ 26 (.tmp 2) ?_ w.heap.size 0 ?_ r.cells _ HR0.out Try.underlying26 rfl size_refrow ?_; kernel_rfl; rfl; rfl; simp only [Act.put, List.setIfInBounds_toArray, List.set_cons_zero, List.set_cons_succ])
            | go_big_quiet_step ((first | (go_at_call 33; exact Calls.regrown_of (Q1.out _)) | (go_at_call 53; exact Calls.regrown_of (HN1.out _ (below_regrown _ _ _))) | (go_at_call 54; exact Calls.regrown_of (HC.out _ (below_regrown _ _ _))))) | quiet_step ((first | (go_at_call 33; exact Calls.regrown_of (Q1.out _)) | (go_at_call 53; exact Calls.regrown_of (HN1.out _ (below_regrown _ _ _))) | (go_at_call 54; exact Calls.regrown_of (HC.out _ (below_regrown _ _ _))))))
          refine wpQuiet_nil ?_
          intro wq hwq
          have hbq : Below _ _ wq := (by obtain ⟨p, rfl⟩ := hwq; exact below_regrown _ _ _)
          clear hwq r1 r3
          go_wp2
          go_roundw
          case rel => exact ⟨k + 1, by omega, by go_num, HBB.out.trans (hbq.mono HBB.out.size), HLL.out.call hbq, fun j hj => by
            by_cases e : j = k
            · rw [e]; exact HS.out
            · exact HH.out j (by omega)⟩
          case measure => simp [intOf]; omega
        · obtain ⟨q, hq⟩ : ∃ q : Nat, x = (q : Int) := ⟨x.toNat, by omega⟩
          have hc := HCM.out q hq
          have hrb : r.d.refAt l k = r.d.fallB (truthD l) k x := by rw [HRA.out, decide_eq_false hneg]; rfl
          subst hq
          obtain ⟨y3, hy3⟩ : ∃ y, y = r.d.fallB (truthD l) k (q : Int) := ⟨_, rfl⟩
          rw [← hy3] at hc hrb
          have HC := Lib.hid hc
          have HRB := Lib.hid hrb
          clear hc hrb hy3 hneg
          cases y3 with
          | false =>
            refine wp_region_quiet_below (by kernel_rfl) (by kernel_rfl) ?_
            repeat (first
              | go_big_quiet_skip
              | (refine wpQuiet_load_wholeG (o := ⟨some 27, _, _, _, _, _⟩) ?_ 26 (.tmp 2) ?_ w.heap.size 0 ?_ r.cells _ HR0.out Try.underlying26 rfl size_refrow ?_; kernel_rfl; rfl; rfl; simp only [Act.put, List.setIfInBounds_toArray, List.set_cons_zero, List.set_cons_succ])
              | (refine wpQuiet_load_wholeG (o := ⟨some 43, _, _, _, _, _⟩) ?_ 26 (.tmp 2) ?_ w.heap.size 0 ?_ r.cells _ HR0.out Try.underlying26 rfl size_refrow ?_; kernel_rfl; rfl; rfl; simp only [Act.put, List.setIfInBounds_toArray, List.set_cons_zero, List.set_cons_succ])
              | go_big_quiet_step ((first | (go_at_call 33; exact Calls.regrown_of (Q1.out _)) | (go_at_call 53; exact Calls.regrown_of (HN1.out _ (below_regrown _ _ _))) | (go_at_call 54; exact Calls.regrown_of (HC.out _ (below_regrown _ _ _))))) | quiet_step ((first | (go_at_call 33; exact Calls.regrown_of (Q1.out _)) | (go_at_call 53; exact Calls.regrown_of (HN1.out _ (below_regrown _ _ _))) | (go_at_call 54; exact Calls.regrown_of (HC.out _ (below_regrown _ _ _))))))
            refine wpQuiet_nil ?_
            intro wq hwq
            have hbq : Below _ _ wq := (by obtain ⟨p, rfl⟩ := hwq; exact below_regrown _ _ _)
            clear hwq r1 r3
            go_wp2
            go_ret
            exact ⟨ret_bool (HNO.out k hlt HRB.out).symm, HBB.out.trans (hbq.mono HBB.out.size)⟩
          | true =>
            refine wp_region_quiet_below (by kernel_rfl) (by kernel_rfl) ?_
            repeat (first
              | go_big_quiet_skip
              | (refine wpQuiet_load_wholeG (o := ⟨some 27, _, _, _, _, _⟩) ?_ 26 (.tmp 2) ?_ w.heap.size 0 ?_ r.cells _ HR0.out Try.underlying26 rfl size_refrow ?_; kernel_rfl; rfl; rfl; simp only [Act.put, List.setIfInBounds_toArray, List.set_cons_zero, List.set_cons_succ])
              | (refine wpQuiet_load_wholeG (o := ⟨some 43, _, _, _, _, _⟩) ?_ 26 (.tmp 2) ?_ w.heap.size 0 ?_ r.cells _ HR0.out Try.underlying26 rfl size_refrow ?_; kernel_rfl; rfl; rfl; simp only [Act.put, List.setIfInBounds_toArray, List.set_cons_zero, List.set_cons_succ])
              | go_big_quiet_step ((first | (go_at_call 33; exact Calls.regrown_of (Q1.out _)) | (go_at_call 53; exact Calls.regrown_of (HN1.out _ (below_regrown _ _ _))) | (go_at_call 54; exact Calls.regrown_of (HC.out _ (below_regrown _ _ _))))) | quiet_step ((first | (go_at_call 33; exact Calls.regrown_of (Q1.out _)) | (go_at_call 53; exact Calls.regrown_of (HN1.out _ (below_regrown _ _ _))) | (go_at_call 54; exact Calls.regrown_of (HC.out _ (below_regrown _ _ _))))))
            refine wpQuiet_nil ?_
            intro wq hwq
            have hbq : Below _ _ wq := (by obtain ⟨p, rfl⟩ := hwq; exact below_regrown _ _ _)
            clear hwq r1 r3
            go_wp2
            go_roundw
            case rel => exact ⟨k + 1, by omega, by go_num, HBB.out.trans (hbq.mono HBB.out.size), HLL.out.call hbq, fun j hj => by
              by_cases e : j = k
              · rw [e]; exact HRB.out
              · exact HH.out j (by omega)⟩
            case measure => simp [intOf]; omega
    · obtain rfl : k = N := by omega
      have HBB := Lib.hid HB.out
      have HS := Lib.hid (HYE.out HH.out)
      clear HB HL
      go_wp2
      go_ret
      exact ⟨ret_bool HS.out.symm, HBB.out⟩
end Go.Proofs.Ytkjhofbjjogmlaa
