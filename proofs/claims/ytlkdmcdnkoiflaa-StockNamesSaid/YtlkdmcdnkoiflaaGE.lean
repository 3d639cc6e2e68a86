/- The texts ZB ZC ZD ZE ZF ZG MA ZH ZI MB UB ZJ TT, joined. -/
import Derived.Test.YtlkdmcdnkoiflaaGD
import Derived.Test.YtlkdmcdnkoiflaaGC
import Derived.Deep.RegionLaw
import Derived.Maps.OwnIn
import Derived.OrdersHeld
/- The ends of ranges: low, high, lesserEnds, greaterEnds, taken. -/
namespace Go.Proofs.Ytlkdmcdnkoiflaa
open Go.RowKit Go.Lib

theorem infoInt : (Try.prog.info? 3).map (fun i => (i.zero, i.size, i.bytes)) = some (some (.int .i64 0), 1, 8) := by kernel_rfl
/-- A function value without captures that takes an end of a range. -/
structure Takes (P : Program) (g : Nat) (f : Int × Int → Int) : Prop where
  eg : ∀ args w, (callFunc g args).run P w = .ok (.enter g args) w
  call : ∀ (W : World) (a b : Int), Calls P g #[.agg #[.int .i64 a, .int .i64 b]] W fun e w' => e = .returned (.int .i64 (f (a, b))) ∧ Below W.heap.size W w'
theorem takes_low : Takes Try.prog 109 (·.1) := by
  refine ⟨enters_of Try.func109 (by kernel_rfl) rfl, fun w a b => ?_⟩
  go_enter Try.func109, Try.ntmps109
  go_wp2
  go_ret
  exact ⟨rfl, (by repeat (first | (with_reducible assumption) | (with_reducible exact Below.refl _ _) | (with_reducible refine Below.drew ?_) | (with_reducible refine below_drewN ?_ _) | ((with_reducible refine Below.setCell ?_ ?_ _); rotate_left; focus (first | (simp; done) | (simp; omega) | omega)) | ((with_reducible refine Below.alloc ?_ ?_ _); rotate_left; focus (first | (simp; done) | (simp; omega) | omega))))⟩
theorem takes_high : Takes Try.prog 108 (·.2) := by
  refine ⟨enters_of Try.func108 (by kernel_rfl) rfl, fun w a b => ?_⟩
  go_enter Try.func108, Try.ntmps108
  go_wp2
  go_ret
  exact ⟨rfl, (by repeat (first | (with_reducible assumption) | (with_reducible exact Below.refl _ _) | (with_reducible refine Below.drew ?_) | (with_reducible refine below_drewN ?_ _) | ((with_reducible refine Below.setCell ?_ ?_ _); rotate_left; focus (first | (simp; done) | (simp; omega) | omega)) | ((with_reducible refine Below.alloc ?_ ?_ _); rotate_left; focus (first | (simp; done) | (simp; omega) | omega))))⟩

set_option maxRecDepth 100000 in
set_option maxHeartbeats 1000000 in
theorem taken_any (g : Nat) (f : Int × Int → Int) (A : Option Addr) (c : Nat) (l : List (Int × Int)) (w : World) (hl : l.length ≤ 1000000) (h : Sl w w.heap.size 2 encR A l) (hg : Takes Try.prog g f) :
    Calls Try.prog 107 #[.func (.func g) #[] #[], .slice A l.length c] w fun e w' => ∃ v, e = .returned v ∧ w'.ownsRow w.heap.size 3 1 v l.length ((l.map f).flatMap encI) ∧ Below w.heap.size w w' := by
  obtain ⟨i0, hi, hp⟩ := Option.map_eq_some_iff.1 infoInt
  have hz0 : i0.zero = some (.int .i64 0) := congrArg (·.1) hp
  have hz1 : i0.size = 1 := congrArg (·.2.1) hp
  have hz2 : i0.bytes = 8 := congrArg (·.2.2) hp
  have eg := hg.eg
  have HG := Lib.hid hg
  have HL := Lib.hid h
  clear hg h hp
  go_enter Try.func107, Try.ntmps107
  go_wp2
  go_loopw [5, 7, 10] (fun v _ i wr => ∃ k : Nat, k ≤ l.length ∧ i = .int .i64 k ∧ wr.ownsRow w.heap.size 3 1 v k (((l.take k).map f).flatMap encI) ∧ Aside (Below w.heap.size w wr)) (fun _ _ i _ => l.length - (intOf i).toNat)
  case atStart => exact ⟨0, Nat.zero_le _, rfl, by simpa using World.ownsRow_nil _ _ _ _, Below.refl _ _⟩
  case round =>
    obtain ⟨k, hk, rfl, hown, hnx⟩ := hrel
    by_cases hlt : k < l.length
    · have hltz : (k : Int) < (l.length : Int) := by omega
      obtain ⟨x, hx⟩ : ∃ x, l[k]? = some x := ⟨l[k], by simp [hlt]⟩
      obtain ⟨b, off, rfl, hb, c0, c1⟩ := HL.out.cellR hx
      have l2 : wr.cell? ⟨b, off + k * 2, none⟩ = some (.int .i64 x.1) := by rw [hnx.out.cell (p := ⟨b, off + k * 2, none⟩) hb]; exact c0
      have l3 : wr.cell? ⟨b, off + k * 2 + 1, none⟩ = some (.int .i64 x.2) := by rw [hnx.out.cell (p := ⟨b, off + k * 2 + 1, none⟩) hb]; exact c1
      have hcall := HG.out.call (wr.alloc (.cells #[.int .i64 x.1, .int .i64 x.2] 39)) x.1 x.2
      have HX := Lib.hid hx
      clear c0 c1 hx
      go_wp2_with (first
        | (go_at_fn g; refine hcall.mono ?_; rintro e w1 ⟨rfl, hb1⟩)
        | (at_builtin; refine wpList_append_own _ rfl (.tmp 14) (.tmp 18) 23 rfl w.heap.size 3 i0 _ 1 8 Try.underlying23 hi hz0 hz1 hz2 rfl (by decide) _ _ _ rfl ((ownsRow_call (hown.alloc _) hb1).alloc _) ⟨w1.heap.size, 0, none⟩ 1 1 (encI (f (x.1, x.2))) rfl rfl (news_alloc w1 (encI (f (x.1, x.2))) _) (by intro u hu; simp at hu; subst hu; rfl) (by unfold maxLen; omega) (by omega) (by have := hnx.out.size; have := hb1.size; simp at this ⊢; omega) ?_; intro v4 w4 hown4 hg4 hnil4; clear hnil4))
      go_roundw
      case rel =>
        have hs1 := hnx.out.size
        have hs2 := hb1.size
        simp at hs2
        refine ⟨k + 1, by omega, by go_num, ?_, (((hnx.out.alloc hs1 _).trans (hb1.mono (by simp; omega))).alloc (by omega) _).grown hg4 (by simp; omega) (fun j hj => (hown.lt j hj).1)⟩
        rw [List.take_add_one, HX.out]
        simpa using hown4
      case measure => simp [intOf]; omega
    · obtain rfl : k = l.length := by omega
      rw [List.take_length] at hown
      go_wp2
      go_ret
      exact ⟨_, rfl, hown, hnx.out⟩
end Go.Proofs.Ytlkdmcdnkoiflaa

/- lesserEnds, greaterEnds. -/
namespace Go.Proofs.Ytlkdmcdnkoiflaa
open Go.RowKit Go.Lib

/-- What ends of ranges a course takes: the cells. -/
def endsC (a b c d : Nat) : List Value := [.func (.func a) #[] #[], .func (.func b) #[] #[], .func (.func c) #[] #[], .func (.func d) #[] #[]]
theorem size133 : (Try.prog.info? 133).map (·.size) = some 4 := by kernel_rfl
set_option maxRecDepth 100000 in
theorem lesserEnds_any (w : World) : Calls Try.prog 72 #[] w fun e w' => e = .returned (.agg (endsC 109 109 108 109).toArray) ∧ Below w.heap.size w w' := by
  go_enter Try.func72, Try.ntmps72
  go_wp2
  exact bodyPost_ret (results_cell_row rfl _ _ w.heap.size 133 (endsC 109 109 108 109).toArray (0, 0) _ rfl (Lies.fresh _ _ _) Try.underlying133 rfl size133) rfl ⟨rfl, (by repeat (first | (with_reducible assumption) | (with_reducible exact Below.refl _ _) | (with_reducible refine Below.drew ?_) | (with_reducible refine below_drewN ?_ _) | ((with_reducible refine Below.setCell ?_ ?_ _); rotate_left; focus (first | (simp; done) | (simp; omega) | omega)) | ((with_reducible refine Below.alloc ?_ ?_ _); rotate_left; focus (first | (simp; done) | (simp; omega) | omega))))⟩
set_option maxRecDepth 100000 in
theorem greaterEnds_any (w : World) : Calls Try.prog 71 #[] w fun e w' => e = .returned (.agg (endsC 108 108 109 108).toArray) ∧ Below w.heap.size w w' := by
  go_enter Try.func71, Try.ntmps71
  go_wp2
  exact bodyPost_ret (results_cell_row rfl _ _ w.heap.size 133 (endsC 108 108 109 108).toArray (0, 0) _ rfl (Lies.fresh _ _ _) Try.underlying133 rfl size133) rfl ⟨rfl, (by repeat (first | (with_reducible assumption) | (with_reducible exact Below.refl _ _) | (with_reducible refine Below.drew ?_) | (with_reducible refine below_drewN ?_ _) | ((with_reducible refine Below.setCell ?_ ?_ _); rotate_left; focus (first | (simp; done) | (simp; omega) | omega)) | ((with_reducible refine Below.alloc ?_ ?_ _); rotate_left; focus (first | (simp; done) | (simp; omega) | omega))))⟩
end Go.Proofs.Ytlkdmcdnkoiflaa

/- hasSize, checkAsked. -/
namespace Go.Proofs.Ytlkdmcdnkoiflaa
open Go.RowKit Go.Lib

theorem hasSize_any (p : PlM) (x : Int) (w : World) (hl : p.s.l.length ≤ 1000000) :
    Calls Try.prog 106 #[.agg p.cells.toArray, .int .i64 x] w fun e w' => e = .returned (.bool (inB x 0 ((p.s.l.length : Int) - 1))) ∧ Below w.heap.size w w' := by
  unfold PlM.cells
  go_enter Try.func106, Try.ntmps106
  go_wp2_with (go_at_call 94; refine (within_any _ _ _ _).mono ?_; rintro e w' ⟨rfl, rfl⟩)
  go_ret
  exact ⟨rfl, (by repeat (first | (with_reducible assumption) | (with_reducible exact Below.refl _ _) | (with_reducible refine Below.drew ?_) | (with_reducible refine below_drewN ?_ _) | ((with_reducible refine Below.setCell ?_ ?_ _); rotate_left; focus (first | (simp; done) | (simp; omega) | omega)) | ((with_reducible refine Below.alloc ?_ ?_ _); rotate_left; focus (first | (simp; done) | (simp; omega) | omega))))⟩
theorem ask_hasSize (p : PlM) (hl : p.s.l.length ≤ 1000000) (w : World) (D : Int → Prop) : Ask Try.prog (Value.int .i64) 106 #[.agg p.cells.toArray] #[] (fun x => inB x 0 ((p.s.l.length : Int) - 1)) D w :=
  ⟨enters_of Try.func106 (by kernel_rfl) rfl, fun W x _ _ => hasSize_any p x W hl⟩
theorem size41 : (Try.prog.info? 41).map (·.size) = some 8 := by kernel_rfl
/-- The error of what is asked of a plan. -/
def askedL (p : PlM) (number : Int) (sizes : List Int) : Int :=
  if p.fault ≠ 0 then p.fault else if sizes.all (fun x => inB x 0 ((p.s.l.length : Int) - 1)) && inB number 0 10000000 then 0 else 2
set_option maxRecDepth 100000 in
set_option maxHeartbeats 1000000 in
theorem checkAsked_any (p : PlM) (number : Int) (A : Option Addr) (c : Nat) (sizes : List Int) (w : World) (hp : p.At w w.heap.size) (hA : Sl w w.heap.size 1 (fun x => [Value.int .i64 x]) A sizes) (hl : sizes.length ≤ 1000000) :
    Calls Try.prog 69 #[.agg p.cells.toArray, .int .i64 number, .slice A sizes.length c] w fun e w' => e = .returned (.int .i64 (askedL p number sizes)) ∧ Below w.heap.size w w' := by
  have hb0 : Below w.heap.size w (w.alloc (.cells p.cells.toArray 41)) := (Below.refl _ _).alloc (Nat.le_refl _) _
  have V := CheckPlan_any p (w.alloc (.cells p.cells.toArray 41)) (hp.below hb0 hb0.size)
  have hls := hp.ls
  have E : ∀ W, Below w.heap.size w W → Calls Try.prog 105 #[.slice A sizes.length c, .func (.func 106) #[.agg p.cells.toArray] #[]] W fun e w' => e = .returned (.bool (sizes.all fun x => inB x 0 ((p.s.l.length : Int) - 1))) ∧ Below W.heap.size W w' := fun W hb =>
    everyInt_any _ _ _ _ A c sizes W ((hA.below hb).more hb.size) (ask_hasSize p hls W _) hl
  have l0 : Lies (w.alloc (.cells p.cells.toArray 41)) w.heap.size 41 p.cells.toArray := Lies.fresh _ _ _
  have hq : askedL p number sizes = if p.fault ≠ 0 then p.fault else if sizes.all (fun x => inB x 0 ((p.s.l.length : Int) - 1)) && inB number 0 10000000 then 0 else 2 := rfl
  have HQ := Lib.hid hq
  have HE := Lib.hid E
  have HV := Lib.hid V
  have HB := Lib.hid hb0
  have HL0 := Lib.hid l0
  clear hp hA hb0 V E hl l0 hq
  generalize sizes.all (fun x => inB x 0 ((p.s.l.length : Int) - 1)) = qa at *
  generalize askedL p number sizes = r at *
  generalize p.fault = ft at *
  unfold PlM.cells at HV HE ⊢
  go_enter Try.func69, Try.ntmps69
  cases qa
  all_goals
    go_wp2_with (first
      | (refine wpList_load_row (o := ⟨some 14, _, _, _, _, _⟩) ?_ 41 (.tmp 3) ?_ w.heap.size ?_ 41 p.cells.toArray (0, 0) _ c1 Try.underlying41 rfl size41 ?_; rfl; rfl; rfl)
      | (go_at_call 20; refine HV.out.mono ?_; rintro e w1 ⟨rfl, hb1⟩; have c1 := HL0.out.call hb1)
      | (go_at_call 105; refine (HE.out _ (HB.out.trans (hb1.mono HB.out.size))).mono ?_; rintro e w2 ⟨rfl, hb2⟩)
      | (go_at_call 94; refine (within_any _ _ _ _).mono ?_; rintro e w' ⟨rfl, rfl⟩))
  all_goals go_ret
  all_goals have hq := HQ.out
  all_goals clear HQ HE HV HL0
  · rename_i h
    exact ⟨ret_int (by rw [hq, if_pos (by simpa using h)]), HB.out.trans (hb1.mono HB.out.size)⟩
  · have h : (ft != 0) = false := by assumption
    exact ⟨ret_int (by rw [hq, if_neg (by simpa using h)]; rfl), HB.out.trans ((hb1.trans (hb2.mono hb1.size)).mono HB.out.size)⟩
  · rename_i h
    exact ⟨ret_int (by rw [hq, if_pos (by simpa using h)]), HB.out.trans (hb1.mono HB.out.size)⟩
  · have h : (ft != 0) = false := by assumption
    have h' : (!inB number 0 10000000) = true := by assumption
    exact ⟨ret_int (by rw [hq, if_neg (by simpa using h), if_neg (by simpa using h')]), HB.out.trans ((hb1.trans (hb2.mono hb1.size)).mono HB.out.size)⟩
  · have h : (ft != 0) = false := by assumption
    have h' : (!inB number 0 10000000) = false := by assumption
    exact ⟨ret_int (by rw [hq, if_neg (by simpa using h), if_pos (by simpa using h')]), HB.out.trans ((hb1.trans (hb2.mono hb1.size)).mono HB.out.size)⟩
end Go.Proofs.Ytlkdmcdnkoiflaa

/- Least$1: is so much planted enough? -/
namespace Go.Proofs.Ytlkdmcdnkoiflaa
open Go.RowKit Go.Lib

set_option maxRecDepth 100000 in
set_option maxHeartbeats 1000000 in
theorem least1_any (p : PlM) (t : TrM) (pl : List Int) (bulbs number : Int) (planted size gs gp gc gz gn : Nat) (w : World) (hp : p.At w gs) (ht : t.At w gs) (hpt : PT p t) (hlen : pl.length = 5) (hpl : Five2 p.s.l.length (pl.set planted bulbs)) (hpd : planted < 5) (hs : size < 5)
    (hst : Lies w gs 120 (vals pl)) (hpp : w.cell? ⟨gp, 0, none⟩ = some (.int .i64 planted)) (_hgp : gp ≠ gs) (hco : Lies w gc 117 (p.cells ++ t.cells).toArray) (hgc : gc ≠ gs) (hz : w.cell? ⟨gz, 0, none⟩ = some (.int .i64 size)) (hgz : gz ≠ gs) (hn : w.cell? ⟨gn, 0, none⟩ = some (.int .i64 number)) (hgn : gn ≠ gs) :
    Calls Try.prog 76 #[.int .i64 bulbs, .pointer (some ⟨gs, 0, none⟩), .pointer (some ⟨gp, 0, none⟩), .pointer (some ⟨gc, 0, none⟩), .pointer (some ⟨gz, 0, none⟩), .pointer (some ⟨gn, 0, none⟩)] w fun e w' =>
      e = .returned (.bool (decide (soldUp p t (pl.set planted bulbs) size t.g.l.length ≥ number))) ∧ Lies w' gs 120 (vals (pl.set planted bulbs)) ∧ w.grownBy w' (some gs) := by
  have l1 : Lies (w.setCell ⟨gs, planted, none⟩ (.int .i64 bulbs)) gs 120 (vals (pl.set planted bulbs)) := by have := hst.set planted (.int .i64 bulbs); rwa [vals_set] at this
  have hb1 : Below gs w (w.setCell ⟨gs, planted, none⟩ (.int .i64 bulbs)) := (Below.refl gs w).setCell (by simp) _
  have hO : Only gs w (w.setCell ⟨gs, planted, none⟩ (.int .i64 bulbs)) := Only.set _ _ _ _
  have hgs := hst.in_
  have hS : ∀ W, Below (w.setCell ⟨gs, planted, none⟩ (.int .i64 bulbs)).heap.size (w.setCell ⟨gs, planted, none⟩ (.int .i64 bulbs)) W → Calls Try.prog 77 #[.agg (p.cells ++ t.cells).toArray, .agg (vals (pl.set planted bulbs)), .int .i64 size] W fun e w' => e = .returned (.int .i64 (soldUp p t (pl.set planted bulbs) size t.g.l.length)) ∧ Below W.heap.size W w' := fun W hb => by
    have hsz := hb.size
    simp at hsz
    exact sells_any p t _ size W (hp.below (hb1.trans (hb.mono (by simp; omega))) (by omega)) (ht.below (hb1.trans (hb.mono (by simp; omega))) (by omega)) hpt hpl hs
  have hco1 := hO.lies hco hgc
  have z1 : (w.setCell ⟨gs, planted, none⟩ (.int .i64 bulbs)).cell? ⟨gz, 0, none⟩ = some (.int .i64 size) := by rw [World.cell?_setCell_other _ _ _ _ (fun e => hgz (congrArg Addr.block e).symm)]; exact hz
  have n1 : (w.setCell ⟨gs, planted, none⟩ (.int .i64 bulbs)).cell? ⟨gn, 0, none⟩ = some (.int .i64 number) := by rw [World.cell?_setCell_other _ _ _ _ (fun e => hgn (congrArg Addr.block e).symm)]; exact hn
  have hsp : (pl.set planted bulbs).length = 5 := by simpa using hlen
  have cp : w.cell? ⟨gs, planted, none⟩ = some (.int .i64 (pl.getD planted 0)) := by rw [hst.at_]; exact vals_at (getD_some (by omega))
  have fp := hst.free planted
  have HS := Lib.hid hS
  have L1 := Lib.hid l1
  have HO := Lib.hid hO
  have HC := Lib.hid hco1
  have HZ := Lib.hid z1
  have HN := Lib.hid n1
  have HSP := Lib.hid hsp
  have hpz : (planted : Int) < 5 := by omega
  clear hS l1 hO hco1 z1 n1 hsp hp ht hpt hpl hst hco hz hn hb1 hgc hgz hgn _hgp
  generalize hsu : soldUp p t (pl.set planted bulbs) size t.g.l.length = su at *
  generalize hpn : pl.set planted bulbs = pn at *
  go_enter Try.func76, Try.ntmps76
  go_wp2
  generalize w.setCell ⟨gs, planted, none⟩ (.int .i64 bulbs) = w1 at *
  have hrg : ∀ W, (∃ q : Regrown, W = Go.Sort.grow (redrawn w1 q.d) q.os) → W.rangeAt gc 0 (p.cells ++ t.cells) := by
    rintro W ⟨q, rfl⟩
    exact Lies.range (cs := p.cells ++ t.cells) (HC.out.call (below_regrown w1 q.d q.os)) (fun j v hj => by simpa using hj)
  have hri : ∀ W, (∃ q : Regrown, W = Go.Sort.grow (redrawn w1 q.d) q.os) → W.rangeAt gs 0 (pn.map (Value.int .i64)) := by
    rintro W ⟨q, rfl⟩
    exact Lies.range (cs := pn.map (Value.int .i64)) (L1.out.call (below_regrown w1 q.d q.os)) (fun j v hj => by simpa using hj)
  have r1 := cell_regrown HZ.out
  have r2 := cell_regrown HN.out
  have HRG := Lib.hid hrg
  have HRI := Lib.hid hri
  clear hrg hri hpp cp fp
  refine wp_region_tail 6 (by kernel_rfl) (by kernel_rfl) (by kernel_rfl) (by kernel_rfl) (by kernel_rfl) (by kernel_rfl) (by simp) ?_
  simp only [List.take_succ_cons, List.take_zero, List.drop_succ_cons, List.drop_zero]
  refine wpQuiet_load_whole (o := ⟨some 11, _, _, _, _, _⟩) ?_ 117 (.tmp 3) ?_ gc 0 ?_ (p.cells ++ t.cells) _ HRG.out Try.underlying117 rfl size117 ?_
  rfl; rfl; rfl
  simp only [Act.put, List.setIfInBounds_toArray, List.set_cons_zero, List.set_cons_succ]
  refine wpQuiet_load_ints (o := ⟨some 12, _, _, _, _, _⟩) ?_ 120 (.tmp 1) ?_ gs 0 ?_ pn _ HRI.out Try.underlying120 rfl (by rw [HSP.out]; exact size120) ?_
  rfl; rfl; rfl
  simp only [Act.put, List.setIfInBounds_toArray, List.set_cons_zero, List.set_cons_succ]
  repeat (first | go_big_quiet_step ((go_at_call 77; refine Calls.regrown_of (HS.out _ (below_regrown _ _ _)))) | quiet_step ((go_at_call 77; refine Calls.regrown_of (HS.out _ (below_regrown _ _ _)))))
  refine wpQuiet_nil ?_
  intro wq hwq
  have hbq : Below w1.heap.size w1 wq := (by obtain ⟨q, rfl⟩ := hwq; exact below_regrown _ _ _)
  clear hwq HRG HRI r1 r2
  go_wp2
  go_ret
  refine ⟨rfl, L1.out.call hbq, ?_⟩
  have hz := hbq.size
  have hz1 := HO.out.size
  exact ⟨hbq.os.trans HO.out.os, hbq.tape.trans HO.out.tape, hbq.output.trans HO.out.output, by omega, fun k hk hne => (hbq.block k (by omega)).trans (HO.out.block k (fun e => hne (by rw [e])))⟩
end Go.Proofs.Ytlkdmcdnkoiflaa

/- sort.Search, asked a question that may write. -/
namespace Go.Proofs.Ytlkdmcdnkoiflaa
open Go.RowKit Go.Lib

set_option maxRecDepth 100000 in
set_option maxHeartbeats 1000000 in
theorem search_any (n : Nat) (g : Nat) (lb : Array Value) (q : Nat → Bool) (J : World → Prop) (w : World) (hn : n ≤ 100000000) (hJ : J w) (eg : ∀ args w, (callFunc g args).run Try.prog w = .ok (.enter g args) w)
    (hc : ∀ (W : World) (h : Nat), J W → h < n → Calls Try.prog g (#[.int .i64 h] ++ lb) W fun e w' => e = .returned (.bool (q h)) ∧ J w') :
    Calls Try.prog 78 #[.int .i64 n, .func (.func g) #[] lb] w fun e w' => ∃ i : Nat, e = .returned (.int .i64 i) ∧ J w' ∧ i ≤ n ∧ (0 < i → q (i - 1) = false) ∧ (i < n → q i = true) := by
  have HC := Lib.hid hc
  have HJ := Lib.hid hJ
  clear hc hJ
  go_enter Try.func78, Try.ntmps78
  go_wp2
  go_loopw [5, 6, 7] (fun s5 s6 _ wr => ∃ i j : Nat, i ≤ j ∧ j ≤ n ∧ s5 = .int .i64 i ∧ s6 = .int .i64 j ∧ Aside (J wr) ∧ Aside (0 < i → q (i - 1) = false) ∧ Aside (j < n → q j = true)) (fun s5 s6 _ _ => ((intOf s6) - (intOf s5)).toNat)
  case atStart => exact ⟨0, n, by omega, by omega, rfl, rfl, HJ.out, fun h => absurd h (by omega), fun h => absurd h (by omega)⟩
  case round =>
    obtain ⟨i, j, hij, hjn, rfl, rfl, N, HA, HB⟩ := hrel
    by_cases hlt : i < j
    · have hltz : (i : Int) < (j : Int) := by omega
      obtain ⟨m, hm, hm1, hm2, hm3⟩ : ∃ m : Nat, ((i : Int) + (j : Int)) / 2 = (m : Int) ∧ i ≤ m ∧ m < j ∧ (m : Int) < 100000000 := ⟨(i + j) / 2, by omega, by omega, by omega, by omega⟩
      have hm0 : (0 : Int) ≤ (m : Int) := by omega
      have hcall := HC.out wr m N.out (by omega)
      have HM := Lib.hid hm
      clear hm
      cases hq : q m with
      | true =>
        rw [hq] at hcall
        have HQ := Lib.hid hq
        clear hq
        go_wp2
        rw [HM.out]
        refine hcall.mono ?_
        rintro e w' ⟨rfl, hJ'⟩
        go_wp2
        go_roundw
        case rel => exact ⟨i, m, by omega, by omega, rfl, rfl, hJ', HA.out, fun _ => HQ.out⟩
        case measure => simp [intOf]; omega
      | false =>
        rw [hq] at hcall
        have HQ := Lib.hid hq
        clear hq
        go_wp2
        rw [HM.out]
        refine hcall.mono ?_
        rintro e w' ⟨rfl, hJ'⟩
        go_wp2
        go_roundw
        case rel => exact ⟨m + 1, j, by omega, by omega, by go_num, rfl, hJ', fun _ => HQ.out, HB.out⟩
        case measure => simp [intOf]; omega
    · have hltz : ¬ (i : Int) < (j : Int) := by omega
      obtain rfl : i = j := by omega
      go_wp2
      go_ret
      exact ⟨i, rfl, N.out, hjn, HA.out, HB.out⟩
end Go.Proofs.Ytlkdmcdnkoiflaa

/- ranges. -/
namespace Go.Proofs.Ytlkdmcdnkoiflaa
open Go.RowKit Go.Lib

theorem infoRange : (Try.prog.info? 39).map (fun i => (i.zero, i.size, i.bytes)) = some (some (.agg #[.int .i64 0, .int .i64 0]), 2, 16) := by kernel_rfl
/-- The ranges of the first n sizes. -/
def rangesL (lo hi : List Int) (n : Nat) : List (Int × Int) := (List.range n).map fun i => (lo.getD i 0, hi.getD i 0)
theorem rangesL_succ (lo hi : List Int) (k : Nat) : rangesL lo hi (k + 1) = rangesL lo hi k ++ [(lo.getD k 0, hi.getD k 0)] := by simp [rangesL, List.range_succ]
set_option maxRecDepth 100000 in
set_option maxHeartbeats 1000000 in
theorem ranges_any (n : Nat) (lo hi : List Int) (w : World) (h1 : lo.length = 5) (h2 : hi.length = 5) (hn : n ≤ 5) :
    Calls Try.prog 104 #[.int .i64 n, .agg (vals lo), .agg (vals hi)] w fun e w' => ∃ v, e = .returned v ∧ w'.ownsRow w.heap.size 39 2 v n ((rangesL lo hi n).flatMap encR) ∧ Below w.heap.size w w' := by
  obtain ⟨i0, hi0, hp⟩ := Option.map_eq_some_iff.1 infoRange
  have hz0 : i0.zero = some (.agg #[.int .i64 0, .int .i64 0]) := congrArg (·.1) hp
  have hz1 : i0.size = 2 := congrArg (·.2.1) hp
  have hz2 : i0.bytes = 16 := congrArg (·.2.2) hp
  have l0 : Lies ((w.alloc (.cells (vals lo) 120)).alloc (.cells (vals hi) 120)) w.heap.size 120 (vals lo) := (Lies.fresh' rfl).alloc _
  have l1 : Lies ((w.alloc (.cells (vals lo) 120)).alloc (.cells (vals hi) 120)) (w.heap.size + 1) 120 (vals hi) := Lies.fresh' (by simp)
  have b0 : Below w.heap.size w ((w.alloc (.cells (vals lo) 120)).alloc (.cells (vals hi) 120)) := (by repeat (first | (with_reducible assumption) | (with_reducible exact Below.refl _ _) | (with_reducible refine Below.drew ?_) | (with_reducible refine below_drewN ?_ _) | ((with_reducible refine Below.setCell ?_ ?_ _); rotate_left; focus (first | (simp; done) | (simp; omega) | omega)) | ((with_reducible refine Below.alloc ?_ ?_ _); rotate_left; focus (first | (simp; done) | (simp; omega) | omega))))
  have L0 := Lib.hid l0
  have L1 := Lib.hid l1
  have B0 := Lib.hid b0
  clear l0 l1 b0 hp
  go_enter Try.func104, Try.ntmps104
  go_wp2
  go_loopw [7, 8, 10] (fun v _ i wr => ∃ k : Nat, k ≤ n ∧ i = .int .i64 k ∧ wr.ownsRow (w.heap.size + 2) 39 2 v k ((rangesL lo hi k).flatMap encR) ∧ Aside (Below w.heap.size w wr) ∧ Aside (w.heap.size + 2 ≤ wr.heap.size) ∧ Aside (Lies wr w.heap.size 120 (vals lo)) ∧ Aside (Lies wr (w.heap.size + 1) 120 (vals hi))) (fun _ _ i _ => n - (intOf i).toNat)
  case atStart => exact ⟨0, Nat.zero_le _, rfl, by simpa [rangesL] using World.ownsRow_nil _ _ _ _, B0.out, (show _ ≤ _ by simp), L0.out, L1.out⟩
  case round =>
    obtain ⟨k, hk, rfl, hown, hb, hz, M0, M1⟩ := hrel
    by_cases hlt : k < n
    · have hltz : (k : Int) < (n : Int) := by omega
      have hk0 : (0 : Int) ≤ (k : Int) := by omega
      have hk5 : (k : Int) < 5 := by omega
      have c1 : wr.cell? ⟨w.heap.size, k, none⟩ = some (.int .i64 (lo.getD k 0)) := by rw [M0.out.at_]; exact vals_at (getD_some (by omega))
      have c2 : wr.cell? ⟨w.heap.size + 1, k, none⟩ = some (.int .i64 (hi.getD k 0)) := by rw [M1.out.at_]; exact vals_at (getD_some (by omega))
      have HS := Lib.hid (rangesL_succ lo hi k)
      generalize lo.getD k 0 = x at *
      generalize hi.getD k 0 = y at *
      have HW : wr.drew.ownsRow (w.heap.size + 2) 39 2 _ k ((rangesL lo hi k).flatMap encR) := hown
      have H1 : ∀ u ∈ encR (x, y), u.oneCell' = true := by intro u hu; simp [encR] at hu; rcases hu with rfl | rfl <;> rfl
      have H2 : k + 1 ≤ maxLen := by unfold maxLen; omega
      have H3 : (k + 1) * 16 ≤ 140737488355328 := by omega
      have H4 : w.heap.size + 2 ≤ (wr.drew.alloc (.cells (encR (x, y)).toArray 39)).heap.size := by have := hz.out; show _ ≤ (wr.drew.alloc _).heap.size; simp; omega
      have H5 := news_alloc wr.drew (encR (x, y)) 39
      have KEEP : ∀ v, wr.ownsRow (w.heap.size + 2) 39 2 v k ((rangesL lo hi k).flatMap encR) → ∀ w', (wr.drew.alloc (.cells (encR (x, y)).toArray 39)).grownBy w' v.ownBlock → w'.cell? ⟨w.heap.size, k, none⟩ = some (.int .i64 x) ∧ w'.cell? ⟨w.heap.size + 1, k, none⟩ = some (.int .i64 y) := by
        intro v hv w' hg
        have hzz := hz.out
        have e1 : wr.drew.heap.size = wr.heap.size := rfl
        refine ⟨(hg.cell_far _ (by simp only [World.size_alloc, e1]; omega) (fun e => ?_)).trans ((World.cell?_alloc_lt wr.drew _ ⟨w.heap.size, k, none⟩ (by show _ < wr.heap.size; dsimp only; omega)).trans c1), (hg.cell_far _ (by simp only [World.size_alloc, e1]; omega) (fun e => ?_)).trans ((World.cell?_alloc_lt wr.drew _ ⟨w.heap.size + 1, k, none⟩ (by show _ < wr.heap.size; dsimp only; omega)).trans c2)⟩
        · have h6 := (hv.lt _ e.symm).1; dsimp only at h6; omega
        · have h6 := (hv.lt _ e.symm).1; dsimp only at h6; omega
      dsimp only [encR] at KEEP H4 H5
      go_wp2
      go_region_held3 (fun w' => w'.cell? ⟨w.heap.size, k, none⟩ = some (.int .i64 x) ∧ w'.cell? ⟨w.heap.size + 1, k, none⟩ = some (.int .i64 y)) (first | (refine KEEP _ hown _ ?_; assumption) | go_keep) (first | (refine step_append_lies _ rfl (.tmp 13) (.tmp 21) 37 rfl (w.heap.size + 2) 39 i0 _ 2 16 Try.underlying37 hi0 hz0 hz1 hz2 rfl Nat.two_pos _ k _ rfl (HW.alloc _) ⟨wr.heap.size, 0, none⟩ 1 1 (encR (x, y)) rfl rfl H5 H1 Nat.one_pos H2 H3 H4 _ rfl ?_; intro g cap w5 hown5 hgrow5 hat5 hlt5))
      have hg5 := hgrow5
      have hb5 : Below w.heap.size w (wr.alloc (.cells #[.int .i64 x, .int .i64 y] 39)).drew := have h := hb.out.alloc hb.out.size (.cells #[.int .i64 x, .int .i64 y] 39); ⟨h.os, h.tape, h.output, h.size, h.block⟩
      have hlt5' : ∀ j, some j = Value.ownBlock _ → w.heap.size + 2 ≤ j := fun j e => (hown.lt j e.symm).1
      have hz5 := hb5.size
      have hown6 : w5.ownsRow (w.heap.size + 2) 39 2 (.slice (some ⟨g, 0, none⟩) (k + 1) cap) (k + 1) ((rangesL lo hi (k + 1)).flatMap encR) := by
        rw [HS.out, List.flatMap_append]; simpa using hown5
      have hb6 : Below w.heap.size w w5 := hb5.grown hg5 hz5 (fun j e => by have := hlt5' j e.symm; omega)
      have hz6 : w.heap.size + 2 ≤ w5.heap.size := Nat.le_trans H4 hg5.size
      have m0 : Lies w5 w.heap.size 120 (vals lo) := Lies.grown (w := (wr.alloc (.cells #[.int .i64 x, .int .i64 y] 39)).drew) (M0.out.alloc _) hg5 (fun e => by have := hlt5' _ e; omega)
      have m1 : Lies w5 (w.heap.size + 1) 120 (vals hi) := Lies.grown (w := (wr.alloc (.cells #[.int .i64 x, .int .i64 y] 39)).drew) (M1.out.alloc _) hg5 (fun e => by have := hlt5' _ e; omega)
      clear KEEP hgrow5 hat5 hg5 hown5 H5 HW hlt5' hb5 hown
      go_wp2
      go_roundw
      case rel => exact ⟨k + 1, by omega, by go_num, hown6, hb6, hz6, m0, m1⟩
      case measure => simp [intOf]; omega
    · obtain rfl : k = n := by omega
      go_wp2
      go_ret
      exact ⟨_, rfl, ownsRow_base hown (by omega), hb.out⟩
end Go.Proofs.Ytlkdmcdnkoiflaa

/- A course as plain numbers; more planted, grown, or less lost: nothing less is lifted, sold, planted. -/
namespace Go.Proofs.Ytlkdmcdnkoiflaa
open Go.RowKit Go.Lib

/-- A plan as plain lists. -/
structure PD where
  s : List (Int × Int)
  r : List Int
  g : List (List (Int × Int))
  e : List Int
  k : List Int
  lo : Int
  hi : Int
  years : Int
def PlM.d (p : PlM) : PD := ⟨p.s.l, p.r.l, p.g.l.map (·.l), p.e.l, p.k.l, p.lo, p.hi, p.years⟩
def yearD (d : PD) (gr : List (List Int)) (loss : Int) (pl : List Int) : List Int :=
  let L := liftL d.s.length pl gr
  let S := upto5 (fun i => min (d.e.getD i 0) (max 0 (L.getD i 0 - d.k.getD i 0))) d.s.length
  let X := lossL (L ++ S ++ z5 ++ z5) loss
  L ++ S ++ X ++ upto5 (fun i => min (L.getD i 0 - S.getD i 0 - X.getD i 0) (d.r.getD i 0)) d.s.length
theorem yearL_d (p : PlM) (gr : List (List Int)) (loss : Int) (pl : List Int) : yearL p gr loss pl = yearD p.d gr loss pl := rfl
/-- What is planted in year k, and what happens in it. -/
def plD (d : PD) (gr : Nat → List (List Int)) (loss : Nat → Int) (pl : List Int) : Nat → List Int
  | 0 => pl
  | k + 1 => (yearD d (gr k) (loss k) (plD d gr loss pl k)).drop 15
def yrD (d : PD) (gr : Nat → List (List Int)) (loss : Nat → Int) (pl : List Int) (k : Nat) : List Int := yearD d (gr k) (loss k) (plD d gr loss pl k)
def grT (t : TrM) (k : Nat) : List (List Int) := (t.g.l.getD k ⟨none, [], 0⟩).l.map (·.l)
def loT (t : TrM) (k : Nat) : Int := t.l.l.getD k 0
theorem plK_d (p : PlM) (t : TrM) (pl : List Int) : ∀ k, plK p t pl k = plD p.d (grT t) (loT t) pl k
  | 0 => rfl
  | k + 1 => by
    show (yearL _ _ _ _).drop 15 = (yearD _ _ _ _).drop 15
    rw [yearL_d, plK_d p t pl k]; rfl
theorem yrK_d (p : PlM) (t : TrM) (pl : List Int) (k : Nat) : yrK p t pl k = yrD p.d (grT t) (loT t) pl k := by
  unfold yrK yrD
  rw [yearL_d, plK_d]; rfl
theorem plD_congr {d d' : PD} {gr gr' : Nat → List (List Int)} {loss loss' : Nat → Int} {pl : List Int} (h1 : d.s.length = d'.s.length) (h2 : d.r = d'.r) (h3 : d.e = d'.e) (h4 : d.k = d'.k) : ∀ k, (∀ j, j < k → gr j = gr' j ∧ loss j = loss' j) → plD d gr loss pl k = plD d' gr' loss' pl k
  | 0, _ => rfl
  | k + 1, h => by
    have ih := plD_congr (pl := pl) h1 h2 h3 h4 k (fun j hj => h j (by omega))
    have hk := h k (by omega)
    unfold plD yearD
    rw [ih, hk.1, hk.2, h1, h2, h3, h4]
theorem yrD_congr {d d' : PD} {gr gr' : Nat → List (List Int)} {loss loss' : Nat → Int} {pl : List Int} (h1 : d.s.length = d'.s.length) (h2 : d.r = d'.r) (h3 : d.e = d'.e) (h4 : d.k = d'.k) (k : Nat) (h : ∀ j, j ≤ k → gr j = gr' j ∧ loss j = loss' j) : yrD d gr loss pl k = yrD d' gr' loss' pl k := by
  have ih := plD_congr (pl := pl) h1 h2 h3 h4 k (fun j hj => h j (by omega))
  have hk := h k (by omega)
  unfold yrD yearD
  rw [ih, hk.1, hk.2, h1, h2, h3, h4]
theorem yearD_length (d : PD) (gr : List (List Int)) (loss : Int) (pl : List Int) : (yearD d gr loss pl).length = 20 := by
  unfold yearD lossL
  simp only [List.length_append, upto5_length, show (liftL d.s.length pl gr).length = 5 from part_length _ _ _ _ _]

/-! ### The numbers of a year, each by itself -/
def lifD (d : PD) (gr : List (List Int)) (pl : List Int) (i : Nat) : Int := liftAt pl gr i d.s.length
def solD (d : PD) (gr : List (List Int)) (pl : List Int) (i : Nat) : Int := min (d.e.getD i 0) (max 0 (lifD d gr pl i - d.k.getD i 0))
def losD (d : PD) (gr : List (List Int)) (loss : Int) (pl : List Int) (i : Nat) : Int := (lifD d gr pl i - solD d gr pl i) * loss / 1000
def plaD (d : PD) (gr : List (List Int)) (loss : Int) (pl : List Int) (i : Nat) : Int := min (lifD d gr pl i - solD d gr pl i - losD d gr loss pl i) (d.r.getD i 0)
theorem four_at {A B C D : List Int} (a : A.length = 5) (b : B.length = 5) (c : C.length = 5) (i : Nat) (hi : i < 5) :
    (A ++ B ++ C ++ D).getD i 0 = A.getD i 0 ∧ (A ++ B ++ C ++ D).getD (5 + i) 0 = B.getD i 0 ∧ (A ++ B ++ C ++ D).getD (10 + i) 0 = C.getD i 0 ∧ (A ++ B ++ C ++ D).getD (15 + i) 0 = D.getD i 0 := by
  simp only [List.getD, List.append_assoc]
  refine ⟨?_, ?_, ?_, ?_⟩
  · rw [List.getElem?_append_left (by omega)]
  · rw [List.getElem?_append_right (by omega), List.getElem?_append_left (by omega), a, show 5 + i - 5 = i by omega]
  · rw [List.getElem?_append_right (by omega), List.getElem?_append_right (by omega), List.getElem?_append_left (by omega), a, b, show 10 + i - 5 - 5 = i by omega]
  · rw [List.getElem?_append_right (by omega), List.getElem?_append_right (by omega), List.getElem?_append_right (by omega), a, b, c, show 15 + i - 5 - 5 - 5 = i by omega]
theorem liftL_at {n : Nat} (pl : List Int) (gr : List (List Int)) {i : Nat} (hi : i < n) (hn : n ≤ 5) : (liftL n pl gr).getD i 0 = liftAt pl gr i n := by
  have := part_at (f := n) (t := 0) pl gr hi hn
  rw [if_neg (by omega)] at this
  simp [liftL, List.getD, this]
theorem yearD_at (d : PD) (gr : List (List Int)) (loss : Int) (pl : List Int) {i : Nat} (hi : i < d.s.length) (hn : d.s.length ≤ 5) :
    (yearD d gr loss pl).getD i 0 = lifD d gr pl i ∧ (yearD d gr loss pl).getD (5 + i) 0 = solD d gr pl i ∧ (yearD d gr loss pl).getD (10 + i) 0 = losD d gr loss pl i ∧ (yearD d gr loss pl).getD (15 + i) 0 = plaD d gr loss pl i := by
  have h5 : i < 5 := by omega
  have eL := liftL_at pl gr hi hn
  have hL : (liftL d.s.length pl gr).length = 5 := part_length _ _ _ _ _
  unfold yearD
  simp only []
  generalize liftL d.s.length pl gr = L at *
  have hS : (upto5 (fun i => min (d.e.getD i 0) (max 0 (L.getD i 0 - d.k.getD i 0))) d.s.length).getD i 0 = solD d gr pl i := by
    rw [upto5_getD _ _ _ h5, if_pos hi]; unfold solD lifD; rw [eL]
  have lS : (upto5 (fun i => min (d.e.getD i 0) (max 0 (L.getD i 0 - d.k.getD i 0))) d.s.length).length = 5 := upto5_length _ _
  generalize upto5 (fun i => min (d.e.getD i 0) (max 0 (L.getD i 0 - d.k.getD i 0))) d.s.length = S at *
  have hX : (lossL (L ++ S ++ z5 ++ z5) loss).getD i 0 = losD d gr loss pl i := by
    have f4 := four_at (D := z5) hL lS (show z5.length = 5 from rfl) i h5
    unfold lossL
    rw [upto5_getD _ _ _ h5, if_pos h5]
    unfold lossAt
    rw [f4.1, f4.2.1, hS, eL]; rfl
  have lX : (lossL (L ++ S ++ z5 ++ z5) loss).length = 5 := upto5_length _ _
  generalize lossL (L ++ S ++ z5 ++ z5) loss = X at *
  obtain ⟨f1, f2, f3, f4⟩ := four_at (D := upto5 (fun i => min (L.getD i 0 - S.getD i 0 - X.getD i 0) (d.r.getD i 0)) d.s.length) hL lS lX i h5
  refine ⟨f1.trans eL, f2.trans hS, f3.trans hX, f4.trans ?_⟩
  rw [upto5_getD _ _ _ h5, if_pos hi, hS, hX, eL]; rfl
theorem plD_at (d : PD) (gr : Nat → List (List Int)) (loss : Nat → Int) (pl : List Int) (k : Nat) {i : Nat} (hi : i < d.s.length) (hn : d.s.length ≤ 5) : (plD d gr loss pl (k + 1)).getD i 0 = plaD d (gr k) (loss k) (plD d gr loss pl k) i := by
  rw [← (yearD_at d (gr k) (loss k) (plD d gr loss pl k) hi hn).2.2.2]
  show ((yearD _ _ _ _).drop 15).getD i 0 = _
  simp only [List.getD, List.getElem?_drop]

/-! ### More -/
theorem liftAt_mono {n : Nat} {pl pl' : List Int} {gr gr' : List (List Int)} {j : Nat} (hj : j < n) (hp : ∀ i, i < n → 0 ≤ pl.getD i 0 ∧ pl.getD i 0 ≤ pl'.getD i 0) (hg : ∀ i, i < n → 0 ≤ (gr.getD i []).getD j 0 ∧ (gr.getD i []).getD j 0 ≤ (gr'.getD i []).getD j 0) : ∀ f : Nat, f ≤ n → liftAt pl gr j f ≤ liftAt pl' gr' j f
  | 0, _ => by simp [liftAt]
  | f + 1, hf => by
    have ih := liftAt_mono hj hp hg f (by omega)
    have h1 := hp f (by omega)
    have h2 := hg f (by omega)
    have hm := Int.mul_le_mul h1.2 h2.2 h2.1 (by omega)
    simp only [liftAt]
    omega
theorem rest_mono {r r' l l' : Int} (hr : r ≤ r') (h0 : 0 ≤ r) (hl : l' ≤ l) (h1 : l ≤ 1000) : r - r * l / 1000 ≤ r' - r' * l' / 1000 := by
  have h2 : r' * l' ≤ r' * l := Int.mul_le_mul_of_nonneg_left hl (by omega)
  have h3 : r' * l = r * l + (r' - r) * l := by rw [← Int.add_mul]; congr 1; omega
  have h4 : (r' - r) * l ≤ (r' - r) * 1000 := Int.mul_le_mul_of_nonneg_left h1 (by omega)
  generalize (r' - r) * l = q at *
  generalize r' * l' = q1 at *
  generalize r' * l = q2 at *
  generalize r * l = q3 at *
  omega
/-- One year. -/
theorem year_mono {d : PD} {gr gr' : List (List Int)} {loss loss' : Int} {pl pl' : List Int} (hp : ∀ i, i < d.s.length → 0 ≤ pl.getD i 0 ∧ pl.getD i 0 ≤ pl'.getD i 0)
    (hg : ∀ i j, i < d.s.length → j < d.s.length → 0 ≤ (gr.getD i []).getD j 0 ∧ (gr.getD i []).getD j 0 ≤ (gr'.getD i []).getD j 0) (hl : loss' ≤ loss) (h1 : loss ≤ 1000) (he : ∀ i, i < d.s.length → 0 ≤ d.e.getD i 0 ∧ 0 ≤ d.k.getD i 0) {i : Nat} (hi : i < d.s.length) :
    lifD d gr pl i ≤ lifD d gr' pl' i ∧ solD d gr pl i ≤ solD d gr' pl' i ∧ plaD d gr loss pl i ≤ plaD d gr' loss' pl' i ∧ lifD d gr pl i - solD d gr pl i ≤ lifD d gr' pl' i - solD d gr' pl' i := by
  have a := liftAt_mono (gr := gr) (gr' := gr') hi hp (fun j hj => hg j i hj hi) d.s.length (Nat.le_refl _)
  have hz : ∀ f : Nat, f ≤ d.s.length → 0 ≤ liftAt pl gr i f := by
    intro f
    induction f with
    | zero => intro _; simp [liftAt]
    | succ f ih =>
      intro hf
      have h2 := ih (by omega)
      have hm := Int.mul_nonneg (hp f (by omega)).1 (hg f i (by omega) hi).1
      simp only [liftAt]
      omega
  have a0 := hz d.s.length (Nat.le_refl _)
  have hei := he i hi
  have e1 : lifD d gr pl i = liftAt pl gr i d.s.length := rfl
  have e2 : lifD d gr' pl' i = liftAt pl' gr' i d.s.length := rfl
  have hs : solD d gr pl i ≤ solD d gr' pl' i := by unfold solD; omega
  have hs0 : solD d gr pl i ≤ lifD d gr pl i := by unfold solD; omega
  have hr : lifD d gr pl i - solD d gr pl i ≤ lifD d gr' pl' i - solD d gr' pl' i := by unfold solD; omega
  refine ⟨by omega, hs, ?_, hr⟩
  have := rest_mono hr (by omega) hl h1
  unfold plaD losD
  omega
theorem plaD_nonneg {d : PD} {gr : List (List Int)} {loss : Int} {pl : List Int} (hp : ∀ i, i < d.s.length → 0 ≤ pl.getD i 0) (hg : ∀ i j, i < d.s.length → j < d.s.length → 0 ≤ (gr.getD i []).getD j 0) (_h0 : 0 ≤ loss) (h1 : loss ≤ 1000)
    (he : ∀ i, i < d.s.length → 0 ≤ d.e.getD i 0 ∧ 0 ≤ d.k.getD i 0 ∧ 0 ≤ d.r.getD i 0) {i : Nat} (hi : i < d.s.length) : 0 ≤ plaD d gr loss pl i := by
  have hz : ∀ f : Nat, f ≤ d.s.length → 0 ≤ liftAt pl gr i f := by
    intro f
    induction f with
    | zero => intro _; simp [liftAt]
    | succ f ih =>
      intro hf
      have h2 := ih (by omega)
      have hm := Int.mul_nonneg (hp f (by omega)) (hg f i (by omega) hi)
      simp only [liftAt]
      omega
  have a0 := hz d.s.length (Nat.le_refl _)
  have hei := he i hi
  have e1 : lifD d gr pl i = liftAt pl gr i d.s.length := rfl
  have hs0 : solD d gr pl i ≤ lifD d gr pl i := by unfold solD; omega
  have hq : (lifD d gr pl i - solD d gr pl i) * loss ≤ (lifD d gr pl i - solD d gr pl i) * 1000 := Int.mul_le_mul_of_nonneg_left h1 (by omega)
  unfold plaD losD
  generalize (lifD d gr pl i - solD d gr pl i) * loss = q at *
  omega
/-- All years. -/
theorem plD_mono {d : PD} {gr gr' : Nat → List (List Int)} {loss loss' : Nat → Int} {pl pl' : List Int} (hn : d.s.length ≤ 5) (hp : ∀ i, i < d.s.length → 0 ≤ pl.getD i 0 ∧ pl.getD i 0 ≤ pl'.getD i 0)
    (he : ∀ i, i < d.s.length → 0 ≤ d.e.getD i 0 ∧ 0 ≤ d.k.getD i 0 ∧ 0 ≤ d.r.getD i 0) : ∀ k,
    (∀ y, y < k → ∀ i j, i < d.s.length → j < d.s.length → 0 ≤ ((gr y).getD i []).getD j 0 ∧ ((gr y).getD i []).getD j 0 ≤ ((gr' y).getD i []).getD j 0) → (∀ y, y < k → 0 ≤ loss y ∧ loss' y ≤ loss y ∧ loss y ≤ 1000) →
    ∀ i, i < d.s.length → 0 ≤ (plD d gr loss pl k).getD i 0 ∧ (plD d gr loss pl k).getD i 0 ≤ (plD d gr' loss' pl' k).getD i 0
  | 0, _, _, i, hi => hp i hi
  | k + 1, hg, hl, i, hi => by
    have ih := plD_mono (gr := gr) (gr' := gr') (loss := loss) (loss' := loss') hn hp he k (fun y hy => hg y (by omega)) (fun y hy => hl y (by omega))
    have hlk := hl k (by omega)
    rw [plD_at _ _ _ _ _ hi hn, plD_at _ _ _ _ _ hi hn]
    exact ⟨plaD_nonneg (fun i hi => (ih i hi).1) (fun i j hi hj => (hg k (by omega) i j hi hj).1) hlk.1 hlk.2.2 he hi, (year_mono (loss := loss k) (loss' := loss' k) ih (hg k (by omega)) hlk.2.1 hlk.2.2 (fun i hi => ⟨(he i hi).1, (he i hi).2.1⟩) hi).2.2.1⟩
end Go.Proofs.Ytlkdmcdnkoiflaa

/- Words for follow: rows of different types lie apart; the store of an aggregate; what taken hands back. -/
namespace Go.Proofs.Ytlkdmcdnkoiflaa
open Go.RowKit Go.Lib

theorem infoInts : (Try.prog.info? 23).map (fun i => (i.zero, i.size, i.bytes)) = some (some (.slice none 0 0), 1, 24) := by kernel_rfl
theorem infoRows : (Try.prog.info? 100).map (fun i => (i.zero, i.size, i.bytes)) = some (some (.slice none 0 0), 1, 24) := by kernel_rfl
theorem size46 : (Try.prog.info? 46).map (·.size) = some 3 := by kernel_rfl
theorem built_truth (A : Option Addr) (n c : Nat) : Try.prog.built 46 [(0, .slice A n c)] = some #[.slice A n c, .slice none 0 0, .slice none 0 0] := by kernel_rfl
theorem built_course (A1 A2 A3 A4 A5 A6 A7 A8 : Option Addr) (n1 n2 n3 n4 n5 n6 n7 n8 c1 c2 c3 c4 c5 c6 c7 c8 : Nat) (a b c : Int) :
    Try.prog.built 117 [(0, .agg #[.slice A1 n1 c1, .slice A2 n2 c2, .slice A3 n3 c3, .slice A4 n4 c4, .slice A5 n5 c5, .int .i64 a, .int .i64 b, .int .i64 c]), (1, .agg #[.slice A6 n6 c6, .slice A7 n7 c7, .slice A8 n8 c8])] =
      some #[.slice A1 n1 c1, .slice A2 n2 c2, .slice A3 n3 c3, .slice A4 n4 c4, .slice A5 n5 c5, .int .i64 a, .int .i64 b, .int .i64 c, .slice A6 n6 c6, .slice A7 n7 c7, .slice A8 n8 c8] := by kernel_rfl
/-- The cells of an empty course. -/
abbrev zcourse : List Value := [.slice none 0 0, .slice none 0 0, .slice none 0 0, .slice none 0 0, .slice none 0 0, .int .i64 0, .int .i64 0, .int .i64 0, .slice none 0 0, .slice none 0 0, .slice none 0 0]

section
variable {w w' : World}
theorem own_at {base : Nat} {e : TypeId} {size : Nat} {v : Value} {n : Nat} {xs : List Value} {g : Nat} (h : w.ownsRow base e size v n xs) (hv : v.ownBlock = some g) : base ≤ g ∧ g < w.heap.size ∧ ∃ cs, Lies w g e cs := by
  rcases h.2 with ⟨rfl, _⟩ | ⟨g', cap, cur, rfl, hb, hg, _⟩
  · cases hv
  · cases hv
    exact ⟨hb, (Array.getElem?_eq_some_iff.1 hg).1, cur, hg⟩
theorem own_keep {base : Nat} {e : TypeId} {size : Nat} {v : Value} {n : Nat} {xs : List Value} (h : w.ownsRow base e size v n xs) (hk : ∀ g, v.ownBlock = some g → w'.heap[g]? = w.heap[g]?) : w'.ownsRow base e size v n xs := by
  refine ⟨h.1, ?_⟩
  rcases h.2 with hn | ⟨g, cap, cur, rfl, hb, hg, rest⟩
  · exact .inl hn
  · exact .inr ⟨g, cap, cur, rfl, hb, (hk g rfl).trans hg, rest⟩
theorem lies_ne {g k : Nat} {t e : TypeId} {cs cs' : Array Value} (h : Lies w g t cs) (h' : Lies w k e cs') (ht : t ≠ e) : g ≠ k := by
  rintro rfl
  unfold Lies at h h'
  rw [h] at h'
  cases h'
  exact ht rfl
/-- Rows of another type are as they were when a row grows. -/
theorem own_other {base base2 : Nat} {e e2 : TypeId} {size size2 : Nat} {v v2 : Value} {n n2 : Nat} {xs xs2 : List Value} (h : w.ownsRow base e size v n xs) (h2 : w.ownsRow base2 e2 size2 v2 n2 xs2) (he : e ≠ e2) (hg : w.grownBy w' v2.ownBlock) : w'.ownsRow base e size v n xs :=
  own_keep h fun g hv => by
    obtain ⟨_, hlt, cs, hl⟩ := own_at h hv
    refine hg.block g hlt (fun e' => ?_)
    obtain ⟨_, _, cs2, hl2⟩ := own_at h2 e'.symm
    exact lies_ne hl hl2 he rfl
theorem own_set {base g i : Nat} {e t : TypeId} {size : Nat} {v : Value} {n : Nat} {xs : List Value} {cs : Array Value} (h : w.ownsRow base e size v n xs) (hl : Lies w g t cs) (he : e ≠ t) (u : Value) : (w.setCell ⟨g, i, none⟩ u).ownsRow base e size v n xs :=
  own_keep h fun k hv => by
    obtain ⟨_, _, cs', hl'⟩ := own_at h hv
    exact heap_setCell_other _ _ _ _ (lies_ne hl' hl he)
theorem own_fit {base : Nat} {e : TypeId} {size : Nat} {v : Value} {n : Nat} {xs : List Value} (h : w.ownsRow base e size v n xs) {G : Nat} {t : TypeId} {cs : Array Value} (hl : Lies w G t cs) (he : e ≠ t) : ∀ g, v.ownBlock = some g → g ≠ G := fun g hv => by
  obtain ⟨_, _, cs', hl'⟩ := own_at h hv
  exact lies_ne hl' hl he
end

/-- The store of a whole aggregate into a block that lies. -/
theorem wpList_store_cells {P : Program} {w : World} {ops : Array Oper} {rest : List Oper} {o : Oper} {a : Act} {Q : Exit → Act → World → Prop} (hgd : o.guard = none) (ty : TypeId) (x y : Operand) (ho : o.op = .store ty x y) (g off : Nat) (hx : a.eval x = .pointer (some ⟨g, off, none⟩)) (t : TypeId) (l vs : List Value)
    (hy : a.eval y = .agg vs.toArray) (hl : Lies w g t l.toArray) (hf : off + vs.length ≤ l.length) (hi : (P.info? ty).map (·.size) = some vs.length) (h1 : ∀ v ∈ vs, v.oneCell' = true)
    (h : ∀ w', Hid (Lies w' g t (splice l off vs).toArray) → Hid (Only g w w') → wpList P ops Q rest (a.put o.dst undef) w') : wpList P ops Q (o :: rest) a w := by
  have hS := Lies.setCells vs off w l hl (by simpa using hf)
  refine wpList_store_mid hgd ty x y ho g off vs.toArray hx hy ?_ (by simpa using hi) (all_oneCell_toArray h1) (h _ ?_ ?_)
  · simpa using Lies.there (o := off) (n := vs.length) hl (by simpa using hf)
  · show Lies _ _ _ _
    simpa using hS.1
  · show Only _ _ _
    simpa using hS.2
theorem splice_whole {cur l : List Value} (h : l.length = cur.length) : splice cur 0 l = l := by unfold splice; simp [h]

theorem taken_ret (g : Nat) (f : Int × Int → Int) (A : Option Addr) (c : Nat) (l : List (Int × Int)) (w : World) (hl : l.length ≤ 1000000) (h : Sl w w.heap.size 2 encR A l) (hg : Takes Try.prog g f) :
    Calls Try.prog 107 #[.func (.func g) #[] #[], .slice A l.length c] w fun e w' => ∃ A' c', e = .returned (.slice A' l.length c') ∧ w'.ownsRow w.heap.size 3 1 (.slice A' l.length c') l.length ((l.map f).flatMap encI) ∧ (A' = none → l.length = 0 ∧ c' = 0) ∧ Below w.heap.size w w' :=
  (taken_any g f A c l w hl h hg).mono fun e w' ⟨v, he, ho, hb⟩ => by
    have ho' : w'.ownsRow w.heap.size 3 1 v (l.map f).length ((l.map f).flatMap encI) := by simpa using ho
    obtain ⟨A', c', e1, e2, _⟩ := Sl.of_own (enc := encI) (l := l.map f) (fun _ => rfl) ho' rfl
    rw [List.length_map] at e1 e2
    subst e1
    exact ⟨A', c', he, ho, e2, hb⟩

/-- The memory of follow in its first loop: k rows are taken. -/
structure FL1 (p : PlM) (fa fb : Int × Int → Int) (cE : List Value) (A1 : Option Addr) (c1 : Nat) (w : World) (G : Nat) (v : Value) (k : Nat) (wr : World) : Prop where
  pb : Lies wr w.heap.size 41 p.cells.toArray
  eb : Lies wr (w.heap.size + 1) 133 cE.toArray
  zb : Lies wr (w.heap.size + 1 + 1) 117 zcourse.toArray
  tb : Lies wr G 46 #[.slice A1 p.s.l.length c1, .slice none 0 0, .slice none 0 0]
  b : Below w.heap.size w wr
  g0 : w.heap.size + 2 < G
  g1 : G + 1 ≤ wr.heap.size
  so : wr.ownsRow (w.heap.size + 3) 3 1 (.slice A1 p.s.l.length c1) p.s.l.length ((p.s.l.map fa).flatMap encI)
  ro : ∃ rs : List (Sv Int), rs.map (·.l) = (p.g.l.take k).map (fun x => x.l.map fb) ∧ wr.ownsRow (G + 1) 23 1 v k (rs.flatMap encV) ∧ ∀ r, r ∈ rs → wr.ownsRow (G + 1) 3 1 r.val r.l.length (r.l.flatMap encI)
theorem FL1.next {p : PlM} {fa fb : Int × Int → Int} {cE : List Value} {A1 : Option Addr} {c1 : Nat} {w wr w3 w4 : World} {G k : Nat} {v v' : Value} {r : Sv Int} {x : Sv (Int × Int)} {rs : List (Sv Int)} (M : FL1 p fa fb cE A1 c1 w G v k wr)
    (hrs : rs.map (·.l) = (p.g.l.take k).map (fun x => x.l.map fb)) (hown : wr.ownsRow (G + 1) 23 1 v k (rs.flatMap encV)) (hro : ∀ r, r ∈ rs → wr.ownsRow (G + 1) 3 1 r.val r.l.length (r.l.flatMap encI))
    (hx : p.g.l[k]? = some x) (hb : Below wr.heap.size wr w3) (hr : r.l = x.l.map fb) (ho : w3.ownsRow wr.heap.size 3 1 r.val r.l.length (r.l.flatMap encI)) (o : Obj) (hg : (w3.alloc o).grownBy w4 v.ownBlock)
    (hown4 : w4.ownsRow (G + 1) 23 1 v' (k + 1) (rs.flatMap encV ++ [r.val])) : FL1 p fa fb cE A1 c1 w G v' (k + 1) w4 := by
  have hv := (ownsRow_call hown hb).alloc o
  have hne : ∀ j, j < G + 1 → some j ≠ v.ownBlock := fun j hj e => by have := (own_at hv e.symm).1; omega
  have h0 := M.g0
  have h1 := M.g1
  have hs3 := hb.size
  have hs4 := hg.size
  simp only [World.size_alloc] at hs4
  refine ⟨((M.pb.call hb).alloc o).grown hg (hne _ (by omega)), ((M.eb.call hb).alloc o).grown hg (hne _ (by omega)), ((M.zb.call hb).alloc o).grown hg (hne _ (by omega)), ((M.tb.call hb).alloc o).grown hg (hne _ (by omega)), ?_, h0, by omega, own_other ((ownsRow_call M.so hb).alloc o) hv (by decide) hg, rs ++ [r], ?_, by simpa using hown4, fun q hq => ?_⟩
  · have hm := M.b.size
    exact ((M.b.trans (hb.mono hm)).alloc (by omega) o).grown hg (by simp only [World.size_alloc]; omega) (fun j e => by have := (own_at hv e).1; omega)
  · rw [List.map_append, hrs, List.take_add_one, hx, List.map_append]; simp [hr]
  · rcases List.mem_append.1 hq with hq | hq
    · exact own_other ((ownsRow_call (hro q hq) hb).alloc o) hv (by decide) hg
    · obtain rfl : q = r := by simpa using hq
      exact own_other (ownsRow_base (ho.alloc o) h1) hv (by decide) hg

/-- The memory of follow in its second loop: kg, kl years are told. -/
structure FL2 (A1 : Option Addr) (n1 c1 : Nat) (Ar : Option Addr) (nr cr : Nat) (lc : Int) (w : World) (G B2 : Nat) (W2 : World) (vg vl : Value) (kg kl : Nat) (wr : World) : Prop where
  tb : Lies wr G 46 #[.slice A1 n1 c1, vg, vl]
  og : wr.ownsRow B2 100 1 vg kg (List.replicate kg (.slice Ar nr cr))
  ol : wr.ownsRow B2 3 1 vl kl (List.replicate kl (.int .i64 lc))
  b : Below w.heap.size w wr
  z : B2 ≤ wr.heap.size
  g0 : w.heap.size ≤ G
  g1 : G < B2
  old : ∀ j, j < B2 → j ≠ G → wr.heap[j]? = W2.heap[j]?
section
variable {A1 Ar : Option Addr} {n1 c1 nr cr G B2 kg kl : Nat} {lc : Int} {w W2 wr w3 w4 : World} {vg vl v4 : Value}
theorem FL2.grownG (M : FL2 A1 n1 c1 Ar nr cr lc w G B2 W2 vg vl kg kl wr) (o : Obj) (hg : (wr.alloc o).grownBy w4 vg.ownBlock) : Lies w4 G 46 #[.slice A1 n1 c1, vg, vl] :=
  (M.tb.alloc o).grown hg (fun e => by have := (own_at M.og e.symm).1; have := M.g1; omega)
theorem FL2.stepG (M : FL2 A1 n1 c1 Ar nr cr lc w G B2 W2 vg vl kg kl wr) (o : Obj) (hg : (wr.alloc o).grownBy w4 vg.ownBlock) (hown4 : w4.ownsRow B2 100 1 v4 (kg + 1) (List.replicate kg (.slice Ar nr cr) ++ [.slice Ar nr cr])) :
    FL2 A1 n1 c1 Ar nr cr lc w G B2 W2 v4 vl (kg + 1) kl (w4.setCell ⟨G, 1, none⟩ v4) := by
  have hv := M.og.alloc o
  have ht := M.grownG o hg
  have h0 := M.g0
  have h1 := M.g1
  have hz := M.z
  have hs := hg.size
  simp only [World.size_alloc] at hs
  have hne : ∀ j, j < B2 → some j ≠ vg.ownBlock := fun j hj e => by have := (own_at hv e.symm).1; omega
  refine ⟨ht.set 1 v4, own_set (by rw [← List.replicate_succ'] at hown4; exact hown4) ht (by decide) v4, own_set (own_other (M.ol.alloc o) hv (by decide) hg) ht (by decide) v4, ?_, by simp; omega, h0, h1, fun j hj hjG => ?_⟩
  · exact ((M.b.alloc M.b.size o).grown hg (by simp only [World.size_alloc]; have := M.b.size; omega) (fun j e => by have := (own_at hv e).1; omega)).setCell h0 _
  · rw [heap_setCell_other _ _ _ _ hjG, hg.block j (by simp only [World.size_alloc]; omega) (hne j hj), heap_alloc_old _ _ (by omega), M.old j hj hjG]
theorem FL2.grownL (M : FL2 A1 n1 c1 Ar nr cr lc w G B2 W2 vg vl kg kl wr) (hb : Below wr.heap.size wr w3) (o : Obj) (hg : (w3.alloc o).grownBy w4 vl.ownBlock) : Lies w4 G 46 #[.slice A1 n1 c1, vg, vl] :=
  ((M.tb.call hb).alloc o).grown hg (fun e => by have := (own_at M.ol e.symm).1; have := M.g1; omega)
theorem FL2.stepL (M : FL2 A1 n1 c1 Ar nr cr lc w G B2 W2 vg vl kg kl wr) (hb : Below wr.heap.size wr w3) (o : Obj) (hg : (w3.alloc o).grownBy w4 vl.ownBlock) (hown4 : w4.ownsRow B2 3 1 v4 (kl + 1) (List.replicate kl (.int .i64 lc) ++ [.int .i64 lc])) :
    FL2 A1 n1 c1 Ar nr cr lc w G B2 W2 vg v4 kg (kl + 1) (w4.setCell ⟨G, 2, none⟩ v4) := by
  have hv := (ownsRow_call M.ol hb).alloc o
  have ht := M.grownL hb o hg
  have h0 := M.g0
  have h1 := M.g1
  have hz := M.z
  have hs3 := hb.size
  have hs := hg.size
  simp only [World.size_alloc] at hs
  have hne : ∀ j, j < B2 → some j ≠ vl.ownBlock := fun j hj e => by have := (own_at hv e.symm).1; omega
  refine ⟨ht.set 2 v4, own_set (own_other ((ownsRow_call M.og hb).alloc o) hv (by decide) hg) ht (by decide) v4, own_set (by rw [← List.replicate_succ'] at hown4; exact hown4) ht (by decide) v4, ?_, by simp; omega, h0, h1, fun j hj hjG => ?_⟩
  · have hm := M.b.size
    exact (((M.b.trans (hb.mono hm)).alloc (by omega) o).grown hg (by simp only [World.size_alloc]; omega) (fun j e => by have := (own_at hv e).1; omega)).setCell h0 _
  · rw [heap_setCell_other _ _ _ _ hjG, hg.block j (by simp only [World.size_alloc]; omega) (hne j hj), heap_alloc_old _ _ (by omega), hb.block j (by omega), M.old j hj hjG]
end
theorem FL2.drew {A1 Ar : Option Addr} {n1 c1 nr cr G B2 kg kl : Nat} {lc : Int} {w W2 wr : World} {vg vl : Value} (M : FL2 A1 n1 c1 Ar nr cr lc w G B2 W2 vg vl kg kl wr) : FL2 A1 n1 c1 Ar nr cr lc w G B2 W2 vg vl kg kl wr.drew := ⟨M.tb, M.og, M.ol, M.b.drew, M.z, M.g0, M.g1, M.old⟩
theorem own_only {w w' : World} {base g : Nat} {e t : TypeId} {size : Nat} {v : Value} {n : Nat} {xs : List Value} {cs : Array Value} (h : w.ownsRow base e size v n xs) (hl : Lies w g t cs) (he : e ≠ t) (ho : Only g w w') : w'.ownsRow base e size v n xs :=
  own_keep h fun k hv => ho.block k (own_fit h hl he k hv)
end Go.Proofs.Ytlkdmcdnkoiflaa

/- Plan.follow. -/
namespace Go.Proofs.Ytlkdmcdnkoiflaa
open Go.RowKit Go.Lib

/-- The slice reads as xs, and lies in a block from lo to hi. -/
def SlW {α : Type} (w : World) (lo hi k : Nat) (T : TypeId) (enc : α → List Value) (A : Option Addr) (xs : List α) : Prop :=
  xs ≠ [] → ∃ b off, A = some ⟨b, off, none⟩ ∧ lo ≤ b ∧ b < hi ∧ (∃ cs, Lies w b T cs) ∧ ∀ i x, xs[i]? = some x → ∀ j u, (enc x)[j]? = some u → w.cell? ⟨b, off + i * k + j, none⟩ = some u
section
variable {α : Type} {w w' : World} {lo hi k : Nat} {T : TypeId} {enc : α → List Value} {A : Option Addr} {xs : List α}
theorem SlW.sl (h : SlW w lo hi k T enc A xs) : Sl w hi k enc A xs := fun hx => by
  obtain ⟨b, off, e, _, hb, _, hc⟩ := h hx
  exact ⟨b, off, e, hb, hc⟩
theorem SlW.only {G : Nat} {t : TypeId} {cs : Array Value} (h : SlW w lo hi k T enc A xs) (ho : Only G w w') (hG : Lies w G t cs) (hT : T ≠ t) : SlW w' lo hi k T enc A xs := fun hx => by
  obtain ⟨b, off, e, hl, hb, ⟨cs', hcs⟩, hc⟩ := h hx
  have hbg : b ≠ G := lies_ne hcs hG hT
  exact ⟨b, off, e, hl, hb, ⟨cs', ho.lies hcs hbg⟩, fun i x hi j u hu => (World.cell?_of_block (ho.block b hbg)).trans (hc i x hi j u hu)⟩
theorem SlW.mid (h : SlW w lo hi k T enc A xs) (hk : ∀ j, lo ≤ j → j < hi → w'.heap[j]? = w.heap[j]?) : SlW w' lo hi k T enc A xs := fun hx => by
  obtain ⟨b, off, e, hl, hb, ⟨cs, hcs⟩, hc⟩ := h hx
  exact ⟨b, off, e, hl, hb, ⟨cs, hcs.to_ (hk b hl hb)⟩, fun i x hi j u hu => (World.cell?_of_block (hk b hl hb)).trans (hc i x hi j u hu)⟩
end
/-- A truth whose slices lie in blocks from lo to hi. -/
structure TrM.Within (t : TrM) (w : World) (lo hi : Nat) : Prop where
  s : SlW w lo hi 1 3 encI t.s.A t.s.l
  g : SlW w lo hi 1 100 encV t.g.A t.g.l
  ys : ∀ y, y ∈ t.g.l → SlW w lo hi 1 23 encV y.A y.l
  rs : ∀ y, y ∈ t.g.l → ∀ r, r ∈ y.l → SlW w lo hi 1 3 encI r.A r.l
  l : SlW w lo hi 1 3 encI t.l.A t.l.l
theorem TrM.Within.mid {t : TrM} {w w' : World} {lo hi : Nat} (h : t.Within w lo hi) (hk : ∀ j, lo ≤ j → j < hi → w'.heap[j]? = w.heap[j]?) : t.Within w' lo hi :=
  ⟨h.s.mid hk, h.g.mid hk, fun y hy => (h.ys y hy).mid hk, fun y hy r hr => (h.rs y hy r hr).mid hk, h.l.mid hk⟩
theorem TrM.Within.only {t : TrM} {w w' : World} {lo hi G : Nat} {cs : Array Value} (h : t.Within w lo hi) (ho : Only G w w') (hG : Lies w G 117 cs) : t.Within w' lo hi :=
  ⟨h.s.only ho hG (by decide), h.g.only ho hG (by decide), fun y hy => (h.ys y hy).only ho hG (by decide), fun y hy r hr => (h.rs y hy r hr).only ho hG (by decide), h.l.only ho hG (by decide)⟩
theorem TrM.Within.at {t : TrM} {w : World} {lo hi B : Nat} (h : t.Within w lo hi) (hB : hi ≤ B) : t.At w B :=
  ⟨h.s.sl.more hB, h.g.sl.more hB, fun y hy => (h.ys y hy).sl.more hB, fun y hy r hr => (h.rs y hy r hr).sl.more hB, h.l.sl.more hB⟩
/-- What follow hands back: a course of the plan, in the truth of these ends. -/
def FollowR (p : PlM) (fa fb fc : Int × Int → Int) (Y : Nat) (w : World) (e : Ending) (w' : World) : Prop :=
  ∃ t : TrM, e = .returned (.agg (p.cells ++ t.cells).toArray) ∧ t.Within w' w.heap.size w'.heap.size ∧ t.s.l = p.s.l.map fa ∧ t.g.l.length = Y ∧ (∀ y, y ∈ t.g.l → y.l.map (·.l) = p.g.l.map fun x => x.l.map fb) ∧ t.l.l = List.replicate Y (fc (p.lo, p.hi)) ∧ Below w.heap.size w w'

theorem sl_of_own {α : Type} {w : World} {base k : Nat} {e : TypeId} {enc : α → List Value} {A : Option Addr} {c : Nat} {l : List α} (hk : ∀ x, (enc x).length = k) (h : w.ownsRow base e k (.slice A l.length c) l.length (l.flatMap enc)) : Sl w w.heap.size k enc A l := by
  obtain ⟨A', c', e, _, h⟩ := Sl.of_own hk h rfl
  cases e; exact h
theorem slW_of_own {α : Type} {w : World} {base k B0 : Nat} {e : TypeId} {enc : α → List Value} {A : Option Addr} {c : Nat} {l : List α} (hk : ∀ x, (enc x).length = k) (hB : B0 ≤ base) (h : w.ownsRow base e k (.slice A l.length c) l.length (l.flatMap enc)) : SlW w B0 w.heap.size k e enc A l := by
  intro hl
  obtain ⟨b, off, e1, hb, hc⟩ := sl_of_own hk h hl
  subst e1
  have := own_at h (g := b) rfl
  exact ⟨b, off, rfl, by omega, hb, this.2.2, hc⟩
theorem built_course' (p : PlM) (A6 A7 A8 : Option Addr) (n6 n7 n8 c6 c7 c8 : Nat) : Try.prog.built 117 [(0, .agg p.cells.toArray), (1, .agg #[.slice A6 n6 c6, .slice A7 n7 c7, .slice A8 n8 c8])] = some (p.cells ++ [Value.slice A6 n6 c6, Value.slice A7 n7 c7, Value.slice A8 n8 c8]).toArray :=
  built_course p.s.A p.r.A p.g.A p.e.A p.k.A A6 A7 A8 p.s.l.length p.r.l.length p.g.l.length p.e.l.length p.k.l.length n6 n7 n8 p.s.c p.r.c p.g.c p.e.c p.k.c c6 c7 c8 p.lo p.hi p.years
set_option maxRecDepth 100000 in
set_option maxHeartbeats 4000000 in
theorem follow_any (p : PlM) (a b c d : Nat) (fa fb fc : Int × Int → Int) (Y : Nat) (w : World) (hp : p.At w w.heap.size) (hY : p.years = (Y : Int)) (hY6 : Y ≤ 6) (ha : Takes Try.prog a fa) (hb : Takes Try.prog b fb) (hc : Takes Try.prog c fc) :
    Calls Try.prog 70 #[.agg p.cells.toArray, .agg (endsC a b c d).toArray] w (FollowR p fa fb fc Y w) := by
  obtain ⟨i0, hi0, hz00, hz01, hz02⟩ := info_parts infoInt
  obtain ⟨i1, hi1, hz10, hz11, hz12⟩ := info_parts infoInts
  obtain ⟨i2, hi2, hz20, hz21, hz22⟩ := info_parts infoRows
  have l0 : Lies (((w.alloc (.cells p.cells.toArray 41)).alloc (.cells (endsC a b c d).toArray 133)).alloc (.cells zcourse.toArray 117)) w.heap.size 41 p.cells.toArray := ((Lies.fresh' rfl).alloc _).alloc _
  have l1 : Lies (((w.alloc (.cells p.cells.toArray 41)).alloc (.cells (endsC a b c d).toArray 133)).alloc (.cells zcourse.toArray 117)) (w.heap.size + 1) 133 (endsC a b c d).toArray := (Lies.fresh' (by simp)).alloc _
  have l2 : Lies (((w.alloc (.cells p.cells.toArray 41)).alloc (.cells (endsC a b c d).toArray 133)).alloc (.cells zcourse.toArray 117)) (w.heap.size + 1 + 1) 117 zcourse.toArray := Lies.fresh' (by simp)
  have b0 : Below w.heap.size w (((w.alloc (.cells p.cells.toArray 41)).alloc (.cells (endsC a b c d).toArray 133)).alloc (.cells zcourse.toArray 117)) := (by repeat (first | (with_reducible assumption) | (with_reducible exact Below.refl _ _) | (with_reducible refine Below.drew ?_) | (with_reducible refine below_drewN ?_ _) | ((with_reducible refine Below.setCell ?_ ?_ _); rotate_left; focus (first | (simp; done) | (simp; omega) | omega)) | ((with_reducible refine Below.alloc ?_ ?_ _); rotate_left; focus (first | (simp; done) | (simp; omega) | omega))))
  have hC := taken_ret a fa p.s.A p.s.c p.s.l _ hp.ls ((hp.s.below b0).more b0.size) ha
  have HP := Lib.hid hp
  have L0 := Lib.hid l0
  have L1 := Lib.hid l1
  have L2 := Lib.hid l2
  have B0 := Lib.hid b0
  have HC := Lib.hid hC
  have HA := Lib.hid ha
  have HB := Lib.hid hb
  have HCC := Lib.hid hc
  have HYE := Lib.hid hY
  have HI0 := Lib.hid hi0
  have HI1 := Lib.hid hi1
  have HI2 := Lib.hid hi2
  have Hz00 := Lib.hid hz00
  have Hz01 := Lib.hid hz01
  have Hz02 := Lib.hid hz02
  have Hz10 := Lib.hid hz10
  have Hz11 := Lib.hid hz11
  have Hz12 := Lib.hid hz12
  have Hz20 := Lib.hid hz20
  have Hz21 := Lib.hid hz21
  have Hz22 := Lib.hid hz22
  have hlg := hp.lg
  clear hp l0 l1 l2 b0 hC ha hb hc hY hi0 hi1 hi2 hz00 hz01 hz02 hz10 hz11 hz12 hz20 hz21 hz22
  unfold PlM.cells endsC at HC ⊢
  go_enter Try.func70, Try.ntmps70
  go_upto_region 2 with (first
    | (go_at_call 107; refine HC.out.mono ?_; rintro e w1 ⟨A1, c1, rfl, ho1, hn1, hb1⟩)
    | (refine wpList_build (o := ⟨some 14, _, _, _, _, _⟩) ?_ 46 #[(0, .tmp 13)] ?_ #[(0, .slice A1 p.s.l.length c1)] ?_ #[.slice A1 p.s.l.length c1, .slice none 0 0, .slice none 0 0] ?_ ?_; rfl; rfl; (simp [Act.eval]); exact built_truth _ _ _))
  have hz1 := hb1.size
  simp only [World.size_alloc] at hz1
  have hF : FL1 p fa fb (endsC a b c d) A1 c1 w w1.heap.size (.slice none 0 0) 0 (w1.alloc (.cells #[.slice A1 p.s.l.length c1, .slice none 0 0, .slice none 0 0] 46)) := by
    refine ⟨(L0.out.call hb1).alloc _, (L1.out.call hb1).alloc _, (L2.out.call hb1).alloc _, Lies.fresh _ _ _, (B0.out.trans (hb1.mono B0.out.size)).alloc (by omega) _, by omega, by simp, ?_, [], by simp, by simpa using World.ownsRow_nil _ _ _ _, fun r hr => by cases hr⟩
    have := ho1.alloc (.cells #[.slice A1 p.s.l.length c1, .slice none 0 0, .slice none 0 0] 46)
    simpa using this
  have HF := Lib.hid hF
  clear hF hb1 ho1 HC L0 L1 L2 B0
  generalize w1.alloc (.cells #[.slice A1 p.s.l.length c1, .slice none 0 0, .slice none 0 0] 46) = w2 at HF ⊢
  generalize w1.heap.size = G at *
  have c2 : w2.cell? ⟨w.heap.size, 2, none⟩ = some (.slice p.g.A p.g.l.length p.g.c) := HF.out.pb.at_ 2
  go_wp2
  clear c2
  go_loopw [6, 8, 18] (fun v _ i wr => ∃ k : Nat, k ≤ p.g.l.length ∧ i = .int .i64 k ∧ Aside (FL1 p fa fb (endsC a b c d) A1 c1 w G v k wr)) (fun _ _ i _ => p.g.l.length - (intOf i).toNat)
  case atStart => exact ⟨0, Nat.zero_le _, rfl, HF.out⟩
  case round =>
    obtain ⟨k, hk, rfl, M⟩ := hrel
    by_cases hlt : k < p.g.l.length
    · have hltz : (k : Int) < (p.g.l.length : Int) := by omega
      have hk0 : (0 : Int) ≤ (k : Int) := by omega
      obtain ⟨x, hx⟩ : ∃ x, p.g.l[k]? = some x := ⟨p.g.l[k], by simp [hlt]⟩
      obtain ⟨bg, og, eg, hbg, cg⟩ := HP.out.g.cell1 hx
      have d1 : wr.cell? ⟨w.heap.size + 1, 1, none⟩ = some (.func (.func b) #[] #[]) := M.out.eb.at_ 1
      have d2 : wr.cell? ⟨bg, og + k, none⟩ = some (.slice x.A x.l.length x.c) := by rw [M.out.b.cell (p := ⟨bg, og + k, none⟩) hbg]; exact cg
      have hm := List.mem_of_getElem? hx
      have hT := taken_ret b fb x.A x.c x.l wr (HP.out.lrows x hm) (((HP.out.rows x hm).below M.out.b).more M.out.b.size) HB.out
      obtain ⟨rs, hrs, hown, hro⟩ := M.out.ro
      have HT := Lib.hid hT
      have HX := Lib.hid hx
      have HRS := Lib.hid hrs
      have HRO := Lib.hid hro
      have hg1 := M.out.g1
      clear hT hx hrs hro cg hm
      rw [eg]
      have HEG := Lib.hid eg
      clear eg
      go_wp2_with (first
        | (go_at_call 107; refine HT.out.mono ?_; rintro e w3 ⟨A2, c2, rfl, ho3, hn3, hb3⟩)
        | (at_builtin; refine wpList_append_own _ rfl (.tmp 22) (.tmp 27) 100 rfl (G + 1) 23 i1 _ 1 24 Try.underlying100 HI1.out Hz10.out Hz11.out Hz12.out rfl (by decide) _ _ _ rfl ((ownsRow_call hown hb3).alloc _) ⟨w3.heap.size, 0, none⟩ 1 1 [.slice A2 x.l.length c2] rfl rfl (news_alloc w3 [.slice A2 x.l.length c2] _) (by intro u hu; simp at hu; subst hu; rfl) (by unfold maxLen; omega) (by omega) (by have := hb3.size; simp at this ⊢; omega) ?_; intro v4 w4 hown4 hg4 hnil4; clear hnil4))
      have er : Sv.val (⟨A2, x.l.map fb, c2⟩ : Sv Int) = .slice A2 x.l.length c2 := by simp [Sv.val]
      have hN := M.out.next (r := ⟨A2, x.l.map fb, c2⟩) HRS.out hown HRO.out HX.out hb3 rfl (by rw [er]; simpa using ho3) _ hg4 (by rw [er]; exact hown4)
      clear hown4 hg4 ho3 hb3 hown
      go_roundw
      case rel => exact ⟨k + 1, by omega, by go_num, hN⟩
      case measure => simp [intOf]; omega
    · obtain rfl : k = p.g.l.length := by omega
      have c7 : wr.cell? ⟨w.heap.size, 7, none⟩ = some (.int .i64 p.years) := M.out.pb.at_ 7
      rw [HYE.out] at c7
      obtain ⟨rs, hrs, hown, hro⟩ := M.out.ro
      rw [List.take_length] at hrs
      have hrl : rs.length = p.g.l.length := by have := congrArg List.length hrs; simpa using this
      rw [← hrl] at hown
      obtain ⟨Ar, cr, er, hnr, _⟩ := Sl.of_own (enc := encV) (l := rs) (fun _ => rfl) hown rfl
      subst er
      have hF2 : FL2 A1 p.s.l.length c1 Ar rs.length cr (fc (p.lo, p.hi)) w G wr.heap.size wr (.slice none 0 0) (.slice none 0 0) 0 0 wr :=
        ⟨M.out.tb, by simpa using World.ownsRow_nil _ _ _ _, by simpa using World.ownsRow_nil _ _ _ _, M.out.b, Nat.le_refl _, by have := M.out.g0; omega, by have := M.out.g1; omega, fun _ _ _ => rfl⟩
      have HF2 := Lib.hid hF2
      have HRS := Lib.hid hrs
      have HRL := Lib.hid hrl
      have HRO := Lib.hid hro
      have HOW := Lib.hid hown
      have HNR := Lib.hid hnr
      clear hF2 hrs hrl hro hown hnr
      obtain ⟨wo, rfl⟩ : ∃ wo : World, wo = wr := ⟨_, rfl⟩
      go_wp2
      clear c7
      go_loopw [32] (fun i wr => ∃ (k : Nat) (vg vl : Value), k ≤ Y ∧ i = .int .i64 k ∧ Aside (FL2 A1 p.s.l.length c1 Ar rs.length cr (fc (p.lo, p.hi)) w G wo.heap.size wo vg vl k k wr)) (fun i _ => Y - (intOf i).toNat)
      case atStart => exact ⟨0, _, _, Nat.zero_le _, rfl, HF2.out⟩
      case round =>
        obtain ⟨k, vg, vl, hkY, rfl, N⟩ := hrel
        by_cases hlt : k < Y
        · have hltz : (k : Int) < (Y : Int) := by omega
          have hk0 : (0 : Int) ≤ (k : Int) := by omega
          have t1 : wr.cell? ⟨G, 1, none⟩ = some vg := N.out.tb.at_ 1
          have hz2 := N.out.z
          have hg0 := M.out.g0
          have hg1 := M.out.g1
          go_wp2_with (at_builtin; refine wpList_append_lies _ rfl (.tmp 35) (.tmp 37) 29 rfl wo.heap.size 100 i2 _ 1 24 Try.underlying29 HI2.out Hz20.out Hz21.out Hz22.out rfl (by decide) _ _ _ rfl (N.out.og.alloc _) ⟨wr.heap.size, 0, none⟩ 1 1 [.slice Ar rs.length cr] rfl rfl (news_alloc wr [.slice Ar rs.length cr] _) (by intro u hu; simp at hu; subst hu; rfl) Nat.one_pos (by unfold maxLen; omega) (by omega) (by simp; omega) _ rfl ?_; intro g4 cap4 w4 hown4 hg4 hat4 hlt4; clear hat4 hlt4; have tb4 := N.out.grownG _ hg4; have c4 : w4.cell? ⟨G, 1, none⟩ = some vg := tb4.at_ 1; have f4 := tb4.free 1)
          have hN5 := N.out.stepG _ hg4 hown4
          have p5 : Lies (w4.setCell ⟨G, 1, none⟩ (.slice (some ⟨g4, 0, none⟩) (k + 1) cap4)) w.heap.size 41 p.cells.toArray := M.out.pb.to_ (hN5.old w.heap.size (by omega) (by omega))
          have e5 : Lies (w4.setCell ⟨G, 1, none⟩ (.slice (some ⟨g4, 0, none⟩) (k + 1) cap4)) (w.heap.size + 1) 133 (endsC a b c d).toArray := M.out.eb.to_ (hN5.old (w.heap.size + 1) (by omega) (by omega))
          have N5 := Lib.hid hN5
          have P5 := Lib.hid p5
          have E5 := Lib.hid e5
          clear t1 c4 f4 tb4 hown4 hg4 hN5 p5 e5
          generalize w4.setCell ⟨G, 1, none⟩ (.slice (some ⟨g4, 0, none⟩) (k + 1) cap4) = w5 at N5 P5 E5 ⊢
          have s1 : w5.cell? ⟨w.heap.size + 1, 2, none⟩ = some (.func (.func c) #[] #[]) := E5.out.at_ 2
          have s2 : w5.cell? ⟨w.heap.size, 5, none⟩ = some (.int .i64 p.lo) := P5.out.at_ 5
          have s3 : w5.cell? ⟨w.heap.size, 6, none⟩ = some (.int .i64 p.hi) := P5.out.at_ 6
          have s4 : w5.cell? ⟨G, 2, none⟩ = some vl := N5.out.tb.at_ 2
          have hz5 := N5.out.z
          have HD := Lib.hid N5.out.drew
          have KEEP : ∀ w', Below w5.drew.heap.size w5.drew w' → w'.cell? ⟨w.heap.size + 1, 2, none⟩ = some (.func (.func c) #[] #[]) ∧ w'.cell? ⟨w.heap.size, 5, none⟩ = some (.int .i64 p.lo) ∧ w'.cell? ⟨w.heap.size, 6, none⟩ = some (.int .i64 p.hi) ∧ w'.cell? ⟨G, 2, none⟩ = some vl ∧ ∀ o, (w'.alloc o).cell? ⟨G, 2, none⟩ = some vl := by
            intro w' hb
            have h1 := E5.out.drew.call hb
            have h2 := P5.out.drew.call hb
            have h3 := N5.out.tb.drew.call hb
            exact ⟨h1.at_ 2, h2.at_ 5, h2.at_ 6, h3.at_ 2, fun o => (h3.alloc o).at_ 2⟩
          have KEEP2 : ∀ w' w'' o, Below w5.drew.heap.size w5.drew w' → (w'.alloc o).grownBy w'' vl.ownBlock → w''.cell? ⟨w.heap.size + 1, 2, none⟩ = some (.func (.func c) #[] #[]) ∧ w''.cell? ⟨w.heap.size, 5, none⟩ = some (.int .i64 p.lo) ∧ w''.cell? ⟨w.heap.size, 6, none⟩ = some (.int .i64 p.hi) ∧ w''.cell? ⟨G, 2, none⟩ = some vl ∧ w''.frozen? ⟨G, 2, none⟩ = false := by
            intro w' w'' o hb hg
            have hne : ∀ j, j < wo.heap.size → some j ≠ vl.ownBlock := fun j hj e => by have := (own_at N5.out.ol e.symm).1; omega
            have h1 := ((E5.out.drew.call hb).alloc o).grown hg (hne _ (by omega))
            have h2 := ((P5.out.drew.call hb).alloc o).grown hg (hne _ (by omega))
            have h3 := N5.out.drew.grownL hb o hg
            exact ⟨h1.at_ 2, h2.at_ 5, h2.at_ 6, h3.at_ 2, h3.free 2⟩
          have HK := Lib.hid KEEP
          have HK2 := Lib.hid KEEP2
          clear KEEP KEEP2
          have eg := HCC.out.eg
          go_region_law (first
            | (refine step_append_lies _ rfl (.tmp 41) (.tmp 47) 23 rfl wo.heap.size 3 i0 _ 1 8 Try.underlying23 HI0.out Hz00.out Hz01.out Hz02.out rfl (by decide) vl k _ rfl ((ownsRow_call HD.out.ol hb6).alloc _) ⟨w6.heap.size, 0, none⟩ 1 1 [.int .i64 (fc (p.lo, p.hi))] rfl rfl (news_alloc w6 [.int .i64 (fc (p.lo, p.hi))] _) (by intro u hu; simp at hu; subst hu; rfl) Nat.one_pos (by unfold maxLen; omega) (by omega) (by have := hb6.size; have := HD.out.z; simp; omega) _ rfl ?_; intro g7 cap7 w7 hown7 hgrow7 hat7 hlt7; obtain ⟨m1, m2, m3, m4, m5⟩ := HK2.out _ _ _ hb6 hgrow7)
            | (go_simp; go_at_fn c; refine (HCC.out.call _ p.lo p.hi).mono ?_; rintro e w6 ⟨rfl, hb6⟩; obtain ⟨k1, k2, k3, k4, k5⟩ := HK.out _ hb6))
          all_goals
            have hS := HD.out.stepL hb6 _ hgrow7 hown7
            clear hgrow7 hown7 hb6 HK HK2 k1 k2 k3 k4 k5 m1 m2 m3 m4 m5 s1 s2 s3 s4 HD
            go_wp2
            go_roundw
            case rel => exact ⟨k + 1, _, _, by omega, by go_num, hS⟩
            case measure => simp [intOf]; omega
        · obtain rfl : k = Y := by omega
          have hg0 := M.out.g0
          have hg1 := M.out.g1
          have hro : ∀ r, r ∈ rs → wr.ownsRow (G + 1) 3 1 r.val r.l.length (r.l.flatMap encI) := fun r hr => own_keep (HRO.out r hr) fun g hv => N.out.old g (own_at (HRO.out r hr) hv).2.1 (own_fit (HRO.out r hr) M.out.tb (by decide) g hv)
          have hso : wr.ownsRow (w.heap.size + 3) 3 1 (.slice A1 p.s.l.length c1) p.s.l.length ((p.s.l.map fa).flatMap encI) := own_keep M.out.so fun g hv => N.out.old g (own_at M.out.so hv).2.1 (own_fit M.out.so M.out.tb (by decide) g hv)
          have hrw : wr.ownsRow (G + 1) 23 1 (.slice Ar rs.length cr) rs.length (rs.flatMap encV) := own_keep HOW.out fun g hv => N.out.old g (own_at HOW.out hv).2.1 (own_fit HOW.out M.out.tb (by decide) g hv)
          have hog : wr.ownsRow wo.heap.size 100 1 vg (List.replicate k (⟨Ar, rs, cr⟩ : Sv (Sv Int))).length ((List.replicate k (⟨Ar, rs, cr⟩ : Sv (Sv Int))).flatMap encV) := by
            have := N.out.og
            rw [List.length_replicate]
            have e : (List.replicate k (⟨Ar, rs, cr⟩ : Sv (Sv Int))).flatMap encV = List.replicate k (.slice Ar rs.length cr) := by simp [List.flatMap_replicate, Sv.val]
            rw [e]; exact this
          have hol : wr.ownsRow wo.heap.size 3 1 vl (List.replicate k (fc (p.lo, p.hi))).length ((List.replicate k (fc (p.lo, p.hi))).flatMap encI) := by
            have := N.out.ol
            rw [List.length_replicate, flat_ints, List.map_replicate]; exact this
          obtain ⟨Ag, cg, eg, _, _⟩ := Sl.of_own (enc := encV) (l := List.replicate k (⟨Ar, rs, cr⟩ : Sv (Sv Int))) (fun _ => rfl) hog rfl
          obtain ⟨Al, cl, el, _, _⟩ := Sl.of_own (enc := encI) (l := List.replicate k (fc (p.lo, p.hi))) (fun _ => rfl) hol rfl
          subst eg el
          have PB := Lib.hid ((M.out.pb).to_ (N.out.old w.heap.size (by omega) (by omega)))
          have ZB := Lib.hid ((M.out.zb).to_ (N.out.old (w.heap.size + 1 + 1) (by omega) (by omega)))
          have TB := Lib.hid N.out.tb
          have HRO2 := Lib.hid hro
          have HSO := Lib.hid hso
          have HRW := Lib.hid hrw
          have HOG := Lib.hid hog
          have HOL := Lib.hid hol
          have HBB := Lib.hid N.out.b
          rw [List.length_replicate] at TB
          rw [List.length_replicate] at TB
          clear hro hso hrw hog hol
          go_upto_region 13 with (fail)
          apply wp_region_lit
          refine wpList_load_row (o := ⟨some 51, _, _, _, _, _⟩) ?_ 41 (.tmp 2) ?_ w.heap.size ?_ 41 p.cells.toArray (0, 0) _ PB.out Try.underlying41 rfl size41 ?_
          rfl; rfl; rfl
          refine wpList_load_row (o := ⟨some 52, _, _, _, _, _⟩) ?_ 46 (.tmp 5) ?_ G ?_ 46 #[.slice A1 p.s.l.length c1, .slice Ag k cg, .slice Al k cl] (0, 0) _ TB.out Try.underlying46 rfl size46 ?_
          rfl; rfl; rfl
          simp only [Act.put, List.setIfInBounds_toArray, List.set_cons_zero, List.set_cons_succ]
          refine wpList_build (o := ⟨some 53, _, _, _, _, _⟩) ?_ 117 #[(0, .tmp 51), (1, .tmp 52)] ?_ #[(0, .agg p.cells.toArray), (1, .agg #[.slice A1 p.s.l.length c1, .slice Ag k cg, .slice Al k cl])] ?_ (p.cells ++ [Value.slice A1 p.s.l.length c1, Value.slice Ag k cg, Value.slice Al k cl]).toArray ?_ ?_
          rfl; rfl; (simp only [List.map_toArray, List.map_cons, List.map_nil]; rfl)
          exact built_course' p _ _ _ _ _ _ _ _ _
          simp only [Act.put, List.setIfInBounds_toArray, List.set_cons_zero, List.set_cons_succ]
          refine wpList_store_cells (o := ⟨none, .store 117 (.tmp 4) _, _, _, _, _⟩) ?_ 117 (.tmp 4) (.tmp 53) ?_ (w.heap.size + 1 + 1) 0 ?_ 117 zcourse (p.cells ++ [Value.slice A1 p.s.l.length c1, Value.slice Ag k cg, Value.slice Al k cl]) ?_ ZB.out (by simp [PlM.cells]) size117 (by simp [PlM.cells, Value.oneCell']) ?_
          rfl; rfl; rfl; rfl
          intro w9 HS9 HO9
          have K9 : ∀ {base : Nat} {e : TypeId} {size : Nat} {v : Value} {n : Nat} {xs : List Value}, e ≠ 117 → wr.ownsRow base e size v n xs → w9.ownsRow base e size v n xs := fun he h => own_only h ZB.out he HO9.out
          have hBg : w.heap.size ≤ G + 1 := by omega
          have hBo : w.heap.size ≤ wo.heap.size := by omega
          have hs9 := HS9.out
          rw [splice_whole (by simp [PlM.cells])] at hs9
          have F9 : FollowR p fa fb fc k w (.returned (.agg (p.cells ++ [Value.slice A1 p.s.l.length c1, Value.slice Ag k cg, Value.slice Al k cl]).toArray)) w9 := by
            refine ⟨⟨⟨A1, p.s.l.map fa, c1⟩, ⟨Ag, List.replicate k ⟨Ar, rs, cr⟩, cg⟩, ⟨Al, List.replicate k (fc (p.lo, p.hi)), cl⟩⟩, by simp [TrM.cells], ⟨?_, ?_, ?_, ?_, ?_⟩, rfl, by simp, ?_, rfl, HO9.out.below HBB.out (by omega)⟩
            · exact slW_of_own (enc := encI) (fun _ => rfl) (by omega : w.heap.size ≤ w.heap.size + 3) (by simpa using K9 (by decide) HSO.out)
            · exact slW_of_own (enc := encV) (fun _ => rfl) hBo (K9 (by decide) HOG.out)
            · intro y hy
              obtain rfl := List.eq_of_mem_replicate hy
              exact slW_of_own (enc := encV) (fun _ => rfl) hBg (K9 (by decide) HRW.out)
            · intro y hy r hr
              obtain rfl := List.eq_of_mem_replicate hy
              exact slW_of_own (enc := encI) (fun _ => rfl) hBg (K9 (by decide) (HRO2.out r hr))
            · exact slW_of_own (enc := encI) (fun _ => rfl) hBo (K9 (by decide) HOL.out)
            · intro y hy
              obtain rfl := List.eq_of_mem_replicate hy
              exact HRS.out
          have F := Lib.hid F9
          have S9 := Lib.hid hs9
          clear F9 K9 hs9 HS9 HO9
          refine wpList_nil ?_
          go_wp2
          exact bodyPost_ret (results_cell_row rfl _ _ (w.heap.size + 1 + 1) 117 (p.cells ++ [Value.slice A1 p.s.l.length c1, Value.slice Ag k cg, Value.slice Al k cl]).toArray (0, 0) _ rfl S9.out Try.underlying117 rfl (by rw [List.size_toArray]; exact size117)) rfl F.out
end Go.Proofs.Ytlkdmcdnkoiflaa

/- A valid plan's numbers; the truth of ends fits; a year's twenty numbers are small; what seasons come to. -/
namespace Go.Proofs.Ytlkdmcdnkoiflaa
open Go.RowKit Go.Lib

theorem spanB_iff {r : Int × Int} {m : Int} : spanB r m = true ↔ 0 ≤ r.1 ∧ r.1 ≤ r.2 ∧ r.2 ≤ m := by simp [spanB, and_assoc]
/-- What is known of a valid plan. -/
structure PlM.Valid (p : PlM) : Prop where
  ok : p.Ok
  sb : ∀ r, r ∈ p.s.l → 0 ≤ r.1 ∧ r.1 ≤ r.2 ∧ r.2 ≤ 1000000
  pr : pairedB p.s.l p.r.l (fun r m => decide (r.2 ≤ m)) = true
  g : p.g.l.length = p.s.l.length
  gl : ∀ x, x ∈ p.g.l → x.l.length = p.s.l.length
  gb : ∀ x, x ∈ p.g.l → ∀ r, r ∈ x.l → 0 ≤ r.1 ∧ r.1 ≤ r.2 ∧ r.2 ≤ 5000
  l : 0 ≤ p.lo ∧ p.lo ≤ p.hi ∧ p.hi ≤ 1000
  y : 0 ≤ p.years ∧ p.years ≤ 6
theorem valid_of {p : PlM} (h : p.validB = true) (h5 : p.s.l.length ≤ 5) : p.Valid := by
  simp only [PlM.validB, PlM.b, Bool.and_eq_true, decide_eq_true_eq, List.all_eq_true] at h
  obtain ⟨⟨⟨⟨⟨⟨⟨⟨h0, h1⟩, h2⟩, h3⟩, h4⟩, h6⟩, h7⟩, h8⟩, h9⟩ := h
  refine ⟨⟨by omega, h5, by omega, by omega, by omega, fun x hx => inB_iff.1 (h2.2 x hx), fun x hx => inB_iff.1 (h6.2 x hx), fun x hx => inB_iff.1 (h7.2 x hx)⟩, fun r hr => spanB_iff.1 (h1.2 r hr), h3, by omega, fun x hx => ?_, fun x hx r hr => ?_, spanB_iff.1 h8, inB_iff.1 h9⟩
  · have := h4.2 x hx
    simp only [rowB, Bool.and_eq_true, decide_eq_true_eq] at this
    omega
  · have := h4.2 x hx
    simp only [rowB, Bool.and_eq_true, decide_eq_true_eq, List.all_eq_true] at this
    exact spanB_iff.1 (this.2 r hr)
/-- An end, or what lies between. -/
def Between (f : Int × Int → Int) : Prop := ∀ r : Int × Int, r.1 ≤ r.2 → r.1 ≤ f r ∧ f r ≤ r.2
theorem between_low : Between (·.1) := fun _r h => ⟨Int.le_refl _, h⟩
theorem between_high : Between (·.2) := fun _r h => ⟨h, Int.le_refl _⟩
theorem pad5_getD {l : List Int} (_h : l.length ≤ 5) (i : Nat) (hi : i < l.length) : (pad5 l).getD i 0 = l.getD i 0 := by
  simp only [List.getD, pad5_lt hi]
/-- The truth of ends fits. -/
theorem ends_fit {p : PlM} (hv : p.Valid) {t : TrM} {fa fb fc : Int × Int → Int} {Y : Nat} (ha : Between fa) (hb : Between fb) (hc : Between fc) (hY : p.years = (Y : Int))
    (e1 : t.s.l = p.s.l.map fa) (e2 : t.g.l.length = Y) (e3 : ∀ y, y ∈ t.g.l → y.l.map (·.l) = p.g.l.map fun x => x.l.map fb) (e4 : t.l.l = List.replicate Y (fc (p.lo, p.hi))) : PT p t := by
  have hl := hv.l
  have hcb := hc (p.lo, p.hi) hl.2.1
  have hlen : ∀ y, y ∈ t.g.l → y.l.length = p.s.l.length := fun y hy => by
    have := congrArg List.length (e3 y hy)
    simp only [List.length_map] at this
    rw [this, hv.g]
  have hrow : ∀ y, y ∈ t.g.l → ∀ r, r ∈ y.l → ∃ x, x ∈ p.g.l ∧ r.l = x.l.map fb := fun y hy r hr => by
    have : r.l ∈ y.l.map (·.l) := List.mem_map.2 ⟨r, hr, rfl⟩
    rw [e3 y hy] at this
    obtain ⟨x, hx, e⟩ := List.mem_map.1 this
    exact ⟨x, hx, e.symm⟩
  refine ⟨hv.ok, ⟨by rw [e1, List.length_map], fun x hx => ?_, rfl, hlen, fun y hy r hr => ?_, fun y hy r hr x hx => ?_, by rw [e4, e2]; simp, fun x hx => ?_⟩, by rw [hY, e2], by have := hv.y; omega⟩
  · rw [e1] at hx
    obtain ⟨r, hr, rfl⟩ := List.mem_map.1 hx
    have h1 := hv.sb r hr
    have h2 := ha r h1.2.1
    omega
  · obtain ⟨x, hx, e⟩ := hrow y hy r hr
    rw [e, List.length_map, hv.gl x hx]
  · obtain ⟨z, hz, e⟩ := hrow y hy r hr
    rw [e] at hx
    obtain ⟨q, hq, rfl⟩ := List.mem_map.1 hx
    have h1 := hv.gb z hz q hq
    have h2 := hb q h1.2.1
    omega
  · rw [e4] at hx
    have := List.eq_of_mem_replicate hx
    subst this
    simp only at hcb; omega
theorem start_five {p : PlM} {t : TrM} (h : PT p t) : Five2 p.s.l.length (pad5 t.s.l) := by
  have hn := h.ok.n
  have hs := h.fit.s
  refine ⟨pad5_length (by omega), fun i hi => ?_⟩
  rw [pad5_getD (by omega) i (by omega)]
  exact h.fit.sb _ (getD_mem (by omega))

theorem yearL_small {p : PlM} (h : p.Ok) {gr : List (List Int)} {loss : Int} {pl : List Int} (hL : Five (liftL p.s.l.length pl gr)) (h0 : 0 ≤ loss) (h1 : loss ≤ 1000) : Small (yearL p gr loss pl) := by
  have hP := plant_five h hL h0 h1
  unfold yearL
  simp only []
  generalize liftL p.s.l.length pl gr = L at *
  have hS : ∀ i, i < 5 → 0 ≤ (soldL p L).getD i 0 ∧ (soldL p L).getD i 0 ≤ L.getD i 0 := fun i hi => by
    unfold soldL
    rw [upto5_getD _ _ _ hi]
    by_cases hn : i < p.s.l.length
    · rw [if_pos hn]; exact sold_bd h hL hn
    · rw [if_neg hn]; have := hL.b i hi; omega
  have lS : (soldL p L).length = 5 := upto5_length _ _
  have hX : ∀ i, i < 5 → 0 ≤ (lossL (L ++ soldL p L ++ z5 ++ z5) loss).getD i 0 ∧ (lossL (L ++ soldL p L ++ z5 ++ z5) loss).getD i 0 ≤ 30000000 := fun i hi => by
    have f4 := four_at (D := z5) hL.len lS (show z5.length = 5 from rfl) i hi
    unfold lossL
    rw [upto5_getD _ _ _ hi, if_pos hi]
    unfold lossAt
    rw [f4.1, f4.2.1]
    have hb := hL.b i hi
    have hs := hS i hi
    have hm := mul_bd hb.1 (show L.getD i 0 ≤ 30000000 by omega) hs.1 hs.2 h0 h1
    omega
  have lX : (lossL (L ++ soldL p L ++ z5 ++ z5) loss).length = 5 := upto5_length _ _
  have hPl : ∀ i, i < 5 → 0 ≤ (plantL p L (soldL p L) (lossL (L ++ soldL p L ++ z5 ++ z5) loss)).getD i 0 ∧ (plantL p L (soldL p L) (lossL (L ++ soldL p L ++ z5 ++ z5) loss)).getD i 0 ≤ 30000000 := fun i hi => by
    by_cases hn : i < p.s.l.length
    · have := hP.b i hn; omega
    · unfold plantL; rw [upto5_getD _ _ _ hi, if_neg hn]; omega
  have lP := hP.len
  generalize plantL p L (soldL p L) (lossL (L ++ soldL p L ++ z5 ++ z5) loss) = PP at *
  generalize lossL (L ++ soldL p L ++ z5 ++ z5) loss = X at *
  generalize soldL p L = S at *
  have f := fun i hi => four_at (D := PP) hL.len lS lX i hi
  have all : ∀ i, i < 20 → 0 ≤ (L ++ S ++ X ++ PP).getD i 0 ∧ (L ++ S ++ X ++ PP).getD i 0 ≤ 30000000 := fun i hi => by
    by_cases a1 : i < 5
    · rw [(f i a1).1]; have := hL.b i a1; omega
    by_cases a2 : i < 10
    · have := (f (i - 5) (by omega)).2.1
      rw [show 5 + (i - 5) = i by omega] at this
      rw [this]; have := hS (i - 5) (by omega); have := hL.b (i - 5) (by omega); omega
    by_cases a3 : i < 15
    · have := (f (i - 10) (by omega)).2.2.1
      rw [show 10 + (i - 10) = i by omega] at this
      rw [this]; exact hX (i - 10) (by omega)
    · have := (f (i - 15) (by omega)).2.2.2
      rw [show 15 + (i - 15) = i by omega] at this
      rw [this]; exact hPl (i - 15) (by omega)
  refine ⟨by simp only [List.length_append, hL.len, lS, lX, lP], fun i hi => (all i hi).1, fun i hi => (all i hi).2, fun i hi => ?_⟩
  rw [(f i hi).1, (f i hi).2.1]
  exact (hS i hi).2
theorem yrK_small {p : PlM} {t : TrM} (h : PT p t) {pl : List Int} (hpl : Five2 p.s.l.length pl) {k : Nat} (hk : k < t.g.l.length) : Small (yrK p t pl k) := by
  obtain ⟨y, loss, _, _, e1, e2, h0, h1, _, _, hg⟩ := fit_row (p := p) h.fit hk
  have hfv := plK_five h.ok h.fit hpl k (by omega)
  unfold yrK
  rw [e1, e2]
  exact yearL_small h.ok (liftL_five h.ok.n ⟨hfv.b, hg⟩) h0 h1

/-- What seasons come to: a year with what is lost at the year's own end. -/
def lostAt (y : List Int) (loss : Int) : List Int := splice y 10 (lossL y loss)
theorem lostAt_length {y : List Int} (h : y.length = 20) (loss : Int) : (lostAt y loss).length = 20 := by
  unfold lostAt
  have hl : (lossL y loss).length = 5 := upto5_length _ _
  unfold splice
  simp only [List.length_append, List.length_take, List.length_drop, hl, h]
  decide
def growF (d : PD) (fb : Int × Int → Int) : List (List Int) := d.g.map fun x => x.map fb
def seaY (d : PD) (fa fb fc : Int × Int → Int) (k : Nat) : List Int := yrD d (fun _ => growF d fb) (fun _ => fc (d.lo, d.hi)) (pad5 (d.s.map fa)) k
def seaD (d : PD) (fa fb fc fd : Int × Int → Int) (k : Nat) : List Int := lostAt (seaY d fa fb fc k) (fd (d.lo, d.hi))
theorem seaY_length (d : PD) (fa fb fc : Int × Int → Int) (k : Nat) : (seaY d fa fb fc k).length = 20 := yearD_length _ _ _ _
theorem seaD_length (d : PD) (fa fb fc fd : Int × Int → Int) (k : Nat) : (seaD d fa fb fc fd k).length = 20 := lostAt_length (seaY_length _ _ _ _ _) _
theorem yrK_sea {p : PlM} {t : TrM} {fa fb fc : Int × Int → Int} {Y : Nat} (e1 : t.s.l = p.s.l.map fa) (e2 : t.g.l.length = Y) (e3 : ∀ y, y ∈ t.g.l → y.l.map (·.l) = p.g.l.map fun x => x.l.map fb) (e4 : t.l.l = List.replicate Y (fc (p.lo, p.hi))) {k : Nat} (hk : k < Y) :
    yrK p t (pad5 t.s.l) k = seaY p.d fa fb fc k := by
  rw [yrK_d, e1]
  unfold seaY
  refine yrD_congr rfl rfl rfl rfl k fun j hj => ⟨?_, ?_⟩
  · unfold grT growF PlM.d
    have hjl : j < t.g.l.length := by omega
    simp only [List.getD, List.getElem?_eq_getElem hjl, Option.getD_some, List.map_map]
    rw [e3 _ (List.getElem_mem hjl)]
    rfl
  · unfold loT PlM.d
    have hjY : j < Y := by omega
    rw [e4]
    simp [List.getD, hjY]
end Go.Proofs.Ytlkdmcdnkoiflaa

/- The law for a range over a function where the body writes a variable of the round's own. -/
namespace Go.Proofs.Ytlkdmcdnkoiflaa
open Go.RowKit Go.Lib

/-- How the body of a round may be left: what is kept is counted from the world Wy, in which the round began. -/
def bodyPostZ (B : Nat) (D : Nat) (I : Option Nat → Nat → World → Prop) (Ix : Code → Nat → World → Prop) (s : Option Nat) (k : Nat) (Wy W : World) : Exit → Act → World → Prop
  | .normal, _, W' => KeepsFrom D W W' ∧ ∃ s', Keeps B s s' Wy W' ∧ I s' k W'
  | .ret, _, W' => KeepsFrom D W W' ∧ Ix .ret k W'
  | .exit id, _, W' => KeepsFrom D W W' ∧ Ix (.exit id) k W'
  | .goto t, _, W' => KeepsFrom D W W' ∧ Ix (.goto t) k W'
  | .panic _, _, _ => False
  | .outgrown, _, _ => False
section
variable {P : Program}
/-- One round of loop number l, from the record 'ready' on: what the body leaves, the iterator meets. -/
theorem round_givesZ {B D l m : Nat} {fn : FuncId} {tmps : Array Value} {assign body : Code} {ps : Array Tmp} {I : Option Nat → Nat → World → Prop} {Ix : Code → Nat → World → Prop} {T : TypeId} {s : Option Nat} {k : Nat} {W Wy : World}
    (rec : LoopState → Option Code → Loop) (hrec : rec = fun st pe => { state := st, pending := pe, fn, tmps, params := ps, assign, body, defers := D }) (hDl : D < l) (hBD : B ≤ D)
    (hI : ∀ s k A A', I s k A → Turns T D A A' → I s k A') (hIx : ∀ c k A A', Ix c k A → Turns T D A A' → Ix c k A')
    (hl : W.heap[l]? = some (.loop (rec .ready none))) (hd : W.heap[D]? = some (.deferred (some []))) {a' : Act}
    (hbody : body.wpIn (Fence.wide.inRound l) m P (bodyPostZ B D I Ix s k Wy (W.putObj l (.loop { rec .ready none with state := .busy }))) a' (W.putObj l (.loop { rec .ready none with state := .busy }))) :
    ∃ W1, (Instr.beginRound l).run P W = .ok () W1 ∧ body.wpIn (Fence.wide.inRound l) m P (fun e _ W3 => ∃ (jump : Option Code) (W4 : World), (match e with | .normal => jump = none | .ret => jump = some .ret | .exit id => jump = some (.exit id) | .goto t => jump = some (.goto t) | _ => False) ∧
      (Instr.endRound l jump).run P W3 = .ok (.bool jump.isNone) W4 ∧ W4.heap[D]? = some (.deferred (some [])) ∧
      (match jump with
        | none => (∃ s', I s' k W4 ∧ Keeps B s s' Wy W4) ∧ W4.heap[l]? = some (.loop (rec .ready none))
        | some c => Ix c k W4 ∧ W4.heap[l]? = some (.loop (rec .done (some c))))) a' W1 := by
  have hlt := (Array.getElem?_eq_some_iff.1 hl).1
  refine ⟨_, run_beginRound hl (by rw [hrec]), wpIn_mono hbody ?_⟩
  have hl2 : (W.putObj l (.loop { rec .ready none with state := .busy })).heap[l]? = some (.loop { rec .ready none with state := .busy }) := World.putObj_heap_same hlt
  have hd2 : (W.putObj l (.loop { rec .ready none with state := .busy })).heap[D]? = some (.deferred (some [])) := (World.putObj_heap_other (by omega)).trans hd
  -- how the round's record is closed, whatever the jump
  have close : ∀ (jump : Option Code) (W3 : World), KeepsFrom D (W.putObj l (.loop { rec .ready none with state := .busy })) W3 →
      W3.heap[l]? = some (.loop { rec .ready none with state := .busy }) ∧ ∃ W4, W4 = W3.putObj l (.loop (rec (if jump.isNone then .ready else .done) jump)) ∧ (Instr.endRound l jump).run P W3 = .ok (.bool jump.isNone) W4 ∧ W4.heap[D]? = some (.deferred (some [])) ∧ W4.heap[l]? = some (.loop (rec (if jump.isNone then .ready else .done) jump)) := by
    intro jump W3 hk
    have h3 := hk.same _ _ (by omega) hl2 rfl
    refine ⟨h3, _, rfl, ?_, (World.putObj_heap_other (by omega)).trans (hk.same _ _ (Nat.le_refl _) hd2 rfl), World.putObj_heap_same (Array.getElem?_eq_some_iff.1 h3).1⟩
    have := run_endRound (P := P) jump h3
    rw [hrec] at this ⊢
    exact this
  intro e _ W3 hp
  match e, hp with
  | .normal, ⟨hk, s', hks, hi⟩ =>
    obtain ⟨h3, W4, rfl, hr, h4, h5⟩ := close none W3 hk
    exact ⟨none, _, rfl, hr, h4, ⟨s', hI _ _ _ _ hi (Turns.put _ (by omega) h3 rfl), hks.trans (Keeps.put _ (by omega) h3 rfl)⟩, h5⟩
  | .ret, ⟨hk, hi⟩ =>
    obtain ⟨h3, W4, rfl, hr, h4, h5⟩ := close (some .ret) W3 hk
    exact ⟨some .ret, _, rfl, hr, h4, hIx _ _ _ _ hi (Turns.put _ (by omega) h3 rfl), h5⟩
  | .exit id, ⟨hk, hi⟩ =>
    obtain ⟨h3, W4, rfl, hr, h4, h5⟩ := close (some (.exit id)) W3 hk
    exact ⟨some (.exit id), _, rfl, hr, h4, hIx _ _ _ _ hi (Turns.put _ (by omega) h3 rfl), h5⟩
  | .goto t, ⟨hk, hi⟩ =>
    obtain ⟨h3, W4, rfl, hr, h4, h5⟩ := close (some (.goto t)) W3 hk
    exact ⟨some (.goto t), _, rfl, hr, h4, hIx _ _ _ _ hi (Turns.put _ (by omega) h3 rfl), h5⟩
  | .panic _, hp => exact hp.elim
  | .outgrown, hp => exact hp.elim

theorem range_givesZ {α : Type} {g : Operand} {ps : Array Tmp} {assign body : Code} {Q : Exit → Act → World → Prop} {a : Act} {w : World} (n : Nat) {gf : Nat} {lb : Array Value} (hg : a.eval g = .func (.func gf) #[] lb) (eg : ∀ args w, (callFunc gf args).run P w = .ok (.enter gf args) w)
    {encs : α → Array Value} {xs : List α} {T : TypeId} {B : Nat} {w0 : World} {St : World → Prop} (hseq : Gives (n - 1) P gf lb encs xs T B w0 St) (hb0 : Below w0.heap.size w0 w) (hB : B ≤ w.heap.size) (hps : ∀ x, (encs x).size = ps.size)
    (I : Option Nat → Nat → World → Prop) (Ix : Code → Nat → World → Prop) (hI : ∀ s k A A', I s k A → Turns T w.heap.size A A' → I s k A') (hIx : ∀ c k A A', Ix c k A → Turns T w.heap.size A A' → Ix c k A') (hIlt : ∀ s k A b, I s k A → s = some b → b < A.heap.size) (h0 : I none 0 w) (hSt : ∀ s k A, I s k A → St A)
    (Ax : Nat → α → Act → World → Prop) (hAx : ∀ n x a' A A', Ax n x a' A → Turns T w.heap.size A A' → Ax n x a' A')
    (hassign : ∀ (l : Nat) (s : Option Nat) (k : Nat) (x : α) (W : World) (K : Act → World → Prop), xs[k]? = some x → I s k W → (∀ a' W', KeepsFrom w.heap.size W W' → Keeps B s s W W' → I s k W' → Ax W.heap.size x a' W' → K a' W') →
      assign.wpIn (Fence.wide.inRound l) (n - 1 - 1) P (Exit.then K (fun _ _ _ => False)) { tmps := (ps.zip (encs x)).foldl (fun t (p, v) => t.setIfInBounds p v) a.tmps, defers := [] } W)
    (hbody : ∀ (l : Nat) (s : Option Nat) (k : Nat) (x : α) (a' : Act) (Wy W : World), w.heap.size ≤ l → xs[k]? = some x → I s k Wy → Keeps B s s Wy W → I s k W → Ax Wy.heap.size x a' W → body.wpIn (Fence.wide.inRound l) (n - 1 - 1) P (bodyPostZ B w.heap.size I Ix s (k + 1) Wy W) a' W)
    (hdone : ∀ (D : Nat) (s : Option Nat) (W : World), w.heap.size ≤ D → I s xs.length W → W.heap[D]? = some (.deferred (some [])) → Q .normal { a with defers := { target := .collected D, args := #[] } :: a.defers } W)
    (hstop : ∀ (D : Nat) (c : Code) (k : Nat) (W : World), w.heap.size ≤ D → k ≤ xs.length → Ix c k W → W.heap[D]? = some (.deferred (some [])) → c.wpIn Fence.wide n P Q { a with defers := { target := .collected D, args := #[] } :: a.defers } W) :
    (Code.rangeFunc g ps assign body).wp P Q a w := by
  refine (wpIn_wide (n := n)).1 (wpIn_rangeFunc fun fn hfn => ?_)
  have hro : Fence.wide.round = none := rfl
  rw [hro]
  obtain ⟨rec, hrec⟩ : ∃ rec : LoopState → Option Code → Loop, rec = fun st pe => { state := st, pending := pe, fn, tmps := a.tmps, params := ps, assign, body, defers := w.heap.size } := ⟨_, rfl⟩
  obtain ⟨W1, hW1⟩ : ∃ W1, (w.alloc (.deferred (some []))).alloc (.loop (rec .ready none)) = W1 := ⟨_, rfl⟩
  have hs1 : W1.heap.size = w.heap.size + 2 := by rw [← hW1]; simp
  have hl1 : W1.heap[w.heap.size + 1]? = some (.loop (rec .ready none)) := by
    rw [← hW1]
    have := heap_alloc_new (w.alloc (.deferred (some []))) (.loop (rec .ready none))
    rwa [World.size_alloc] at this
  have hd1 : W1.heap[w.heap.size]? = some (.deferred (some [])) := by
    rw [← hW1, heap_alloc_old _ _ (by simp)]; exact heap_alloc_new _ _
  have hi1 : I none 0 W1 := by rw [← hW1]; exact hI _ _ _ _ (hI _ _ _ _ h0 (Turns.alloc _ _ _ _)) (Turns.alloc _ _ _ _)
  have hb1 : Below w0.heap.size w0 W1 := by
    rw [← hW1]; exact (hb0.alloc hb0.size _).alloc (by simp; have := hb0.size; omega) _
  refine ⟨w.heap.size + 1, [{ target := .collected w.heap.size, args := #[] }], W1, { target := .fn (.func gf) lb, args := #[.func (.yield (w.heap.size + 1)) #[] #[]] }, W1, gf, #[.func (.yield (w.heap.size + 1)) #[] #[]] ++ lb, W1, ?_, ?_, fun _ _ => trivial, ?_, (fun h => by cases h), ?_⟩
  · rw [← hW1, hrec]; exact run_enterLoop_outer _ _ _ _ _
  · simp only [resolve, hg]; simp [go_sem]
  · simp [invoke, go_sem, eg]
  refine (hseq (w.heap.size + 1) (fun s k A => I s k A ∧ A.heap[w.heap.size + 1]? = some (.loop (rec .ready none)) ∧ A.heap[w.heap.size]? = some (.deferred (some [])))
    (fun k A => ∃ c, Ix c k A ∧ A.heap[w.heap.size + 1]? = some (.loop (rec .done (some c))) ∧ A.heap[w.heap.size]? = some (.deferred (some []))) W1 hb1 (fun s k A hs => hSt s k A hs.1)
    (fun s k A A' hs ht => ⟨hI _ _ _ _ hs.1 (ht.turns.more (by omega)), ht.other hs.2.1 rfl, ht.other hs.2.2 rfl⟩) (fun s k A b hs hb => hIlt s k A b hs.1 hb) ?_ ⟨hi1, hl1, hd1⟩).mono ?_
  · rintro s k x A hx ⟨hi, hl, hd⟩
    have hy := run_yield (P := P) (args := encs x) hl (by rw [hrec]; exact hps x)
    rw [hrec] at hy
    refine ⟨fn, _, assign, body, hy, roundIn_of_wpIn hfn (hassign _ s k x A _ hx hi ?_)⟩
    intro a' A' hkf hks hi' hax
    have hl' := hkf.same _ _ (by omega) hl rfl
    have hd' := hkf.same _ _ (Nat.le_refl _) hd rfl
    have hbd := hbody (w.heap.size + 1) s k x a' A (A'.putObj (w.heap.size + 1) (.loop { rec .ready none with state := .busy })) (by omega) hx hi (hks.trans (Keeps.put _ (by omega) hl' rfl)) (hI _ _ _ _ hi' (Turns.put _ (by omega) hl' rfl)) (hAx _ _ _ _ _ hax (Turns.put _ (by omega) hl' rfl))
    obtain ⟨W2, hbeg, hrun⟩ := round_givesZ (T := T) (l := w.heap.size + 1) rec hrec (by omega) hB hI hIx hl' hd' hbd
    refine ⟨W2, hbeg, wpIn_mono hrun ?_⟩
    rintro e a3 W3 ⟨jump, W4, hj, hend, hd4, hm⟩
    cases e with
    | normal =>
      subst hj
      obtain ⟨⟨s', hi4, hk4⟩, hl4⟩ := hm
      exact ⟨_, _, hend, .inl ⟨rfl, s', ⟨hi4, hl4, hd4⟩, hk4⟩⟩
    | ret =>
      subst hj
      exact ⟨_, _, hend, .inr ⟨rfl, .ret, hm.1, hm.2, hd4⟩⟩
    | exit id =>
      subst hj
      exact ⟨_, _, hend, .inr ⟨rfl, .exit id, hm.1, hm.2, hd4⟩⟩
    | goto t =>
      subst hj
      exact ⟨_, _, hend, .inr ⟨rfl, .goto t, hm.1, hm.2, hd4⟩⟩
    | panic ch => exact hj.elim
    | outgrown => exact hj.elim
  · rintro e A ⟨⟨v, rfl⟩, (⟨s, hi, hl, hd⟩ | ⟨k, hk, c, hi, hl, hd⟩)⟩
    · refine ⟨none, _, by have := run_endLoop (P := P) hl (by rw [hrec]; simp); rw [hrec] at this; exact this, hdone _ s _ (Nat.le_refl _) (hI _ _ _ _ hi (Turns.put _ (by omega) hl rfl)) ((World.putObj_heap_other (by omega)).trans hd)⟩
    · refine ⟨some c, _, by have := run_endLoop (P := P) hl (by rw [hrec]; simp); rw [hrec] at this; exact this, hstop _ c k _ (Nat.le_refl _) hk (hIx _ _ _ _ hi (Turns.put _ (by omega) hl rfl)) ((World.putObj_heap_other (by omega)).trans hd)⟩
end
end Go.Proofs.Ytlkdmcdnkoiflaa

/- Plan.seasons. -/
namespace Go.Proofs.Ytlkdmcdnkoiflaa
open Go.RowKit Go.Lib
attribute [local go_sem] Oper.semAt_some

/-- Twenty cells of a year. -/
def encS (l : List Int) : List Value := (List.range 20).map fun i => .int .i64 (l.getD i 0)
theorem encS_length (l : List Int) : (encS l).length = 20 := by simp [encS]
theorem encS_vals {l : List Int} (h : l.length = 20) : encS l = l.map (Value.int .i64) := by
  apply List.ext_getElem?
  intro i
  by_cases hi : i < 20
  · have hl : i < l.length := by omega
    simp [encS, hi, hl, List.getD]
  · rw [List.getElem?_eq_none (by rw [encS_length]; omega), List.getElem?_eq_none (by simp; omega)]
theorem encS_one (l : List Int) : ∀ u ∈ encS l, u.oneCell' = true := by
  intro u hu
  obtain ⟨i, _, rfl⟩ := List.mem_map.1 hu
  rfl
theorem infoSeason : (Try.prog.info? 123).map (fun i => (i.zero, i.size, i.bytes)) = some (some (.agg (vals (z5 ++ z5 ++ z5 ++ z5))), 20, 160) := by kernel_rfl
theorem run_seasons20 (w : World) (a0 a1 a2 a3 a4 a5 a6 a7 a8 a9 b0 b1 b2 b3 b4 b5 b6 b7 b8 b9 : Value) (_h : ∀ v ∈ [a0, a1, a2, a3, a4, a5, a6, a7, a8, a9, b0, b1, b2, b3, b4, b5, b6, b7, b8, b9], v.oneCell' = true) :
    (Instr.buildSlice 168 1 #[(0, .agg #[a0, a1, a2, a3, a4, a5, a6, a7, a8, a9, b0, b1, b2, b3, b4, b5, b6, b7, b8, b9])]).run Try.prog w =
      .ok (.slice (some ⟨w.heap.size, 0, none⟩) 1 1) (w.alloc (.cells #[a0, a1, a2, a3, a4, a5, a6, a7, a8, a9, b0, b1, b2, b3, b4, b5, b6, b7, b8, b9] 123)) := by
  kernel_rfl
theorem run_season_slice (w : World) {l : List Int} (h : l.length = 20) : (Instr.buildSlice 168 1 #[(0, .agg (vals l))]).run Try.prog w = .ok (.slice (some ⟨w.heap.size, 0, none⟩) 1 1) (w.alloc (.cells (encS l).toArray 123)) := by
  rw [encS_vals h]
  match l, h with
  | [a0, a1, a2, a3, a4, a5, a6, a7, a8, a9, b0, b1, b2, b3, b4, b5, b6, b7, b8, b9], _ =>
    exact run_seasons20 w _ _ _ _ _ _ _ _ _ _ _ _ _ _ _ _ _ _ _ _ (by simp [Value.oneCell'])
section
variable {P : Program}
theorem wpListIn_buildSlice {F : Fence} {n : Nat} {w w1 : World} {ops : Array Oper} {rest : List Oper} {o : Oper} {a : Act} {Q : Exit → Act → World → Prop} (hgd : o.guard = none) (t : TypeId) (m : Nat) (parts : Array (Nat × Operand)) (ho : o.op = .buildSlice t m parts)
    (vs : Array (Nat × Value)) (hv : parts.map (fun p => (p.1, a.eval p.2)) = vs) (v : Value) (hr : (Instr.buildSlice t m vs).run P w = .ok v w1) (h : wpListIn F n P ops Q rest (a.put o.dst v) w1) : wpListIn F n P ops Q (o :: rest) a w := by
  refine wpListIn_plain hgd fun K hK => ?_
  subst hv
  unfold Oper.wpIn
  refine ⟨by simp [Oper.about, ho], ?_⟩
  rw [Oper.semAt_plain F _ _ (by rw [ho]; intro c hc; cases hc)]
  simp [execOp, ho, hr, Result.andThen]
  exact hK _ _ h
theorem wpList_buildSlice {w w1 : World} {ops : Array Oper} {rest : List Oper} {o : Oper} {a : Act} {Q : Exit → Act → World → Prop} (hgd : o.guard = none) (t : TypeId) (m : Nat) (parts : Array (Nat × Operand)) (ho : o.op = .buildSlice t m parts)
    (vs : Array (Nat × Value)) (hv : parts.map (fun p => (p.1, a.eval p.2)) = vs) (v : Value) (hr : (Instr.buildSlice t m vs).run P w = .ok v w1) (h : wpList P ops Q rest (a.put o.dst v) w1) : wpList P ops Q (o :: rest) a w := by
  refine wpList_plain hgd fun K hK => ?_
  subst hv
  unfold Oper.wp
  simp [execOp, ho, hr, Result.andThen]
  exact hK _ _ h
theorem own_turns {T : TypeId} {D : Nat} {A A' : World} {base : Nat} {e : TypeId} {size : Nat} {v : Value} {n : Nat} {xs : List Value} (h : A.ownsRow base e size v n xs) (ht : Turns T D A A') (he : e ≠ T) : A'.ownsRow base e size v n xs :=
  own_keep h fun g hv => by
    obtain ⟨row, hgr, hr⟩ := ht
    obtain ⟨_, hlt, cs, hl⟩ := own_at h hv
    refine hgr.block g hlt (fun e' => ?_)
    rcases (hr g e'.symm).2 with ⟨o, ho, hc⟩ | ⟨cs', hc⟩
    · rw [hl] at ho; cases ho; cases hc
    · rw [hl] at hc; cases hc; exact he rfl
theorem KeepsFrom.of_grown {D : Nat} {A A' : World} {row : Option Nat} (h : A.grownBy A' row) (hr : ∀ k, row = some k → ∃ t cs, Lies A k t cs) : KeepsFrom D A A' :=
  ⟨h.size, fun k o _ hk ho => by
    rw [h.block k (Array.getElem?_eq_some_iff.1 hk).1 (fun e => by
      obtain ⟨t, cs, hc⟩ := hr k e.symm
      rw [hc] at hk; cases hk; cases ho)]
    exact hk⟩
theorem Keeps.of_grown {B : Nat} {s s' : Option Nat} {A A' : World} (h : A.grownBy A' s) (hB : B ≤ A.heap.size) (hs : ∀ k, s = some k → B ≤ k) (hs' : ∀ g, s' = some g → s = some g ∨ A.heap.size ≤ g) : Keeps B s s' A A' :=
  ⟨(Below.refl B A).grown h hB hs, fun k _cs _t _ hk hne => h.block k (Array.getElem?_eq_some_iff.1 hk).1 (fun e => hne e.symm), hs'⟩
/-- A store into a block that is younger than the world from which is counted. -/
theorem Keeps.of_young {B g : Nat} {s : Option Nat} {A0 A A' : World} (hk : Keeps B s s A0 A) (h : Only g A A') (hg : A0.heap.size ≤ g) (hB : B ≤ g) : Keeps B s s A0 A' :=
  ⟨h.below hk.below hB, fun k cs t ht hc hne => (h.block k (fun e => by have := (Array.getElem?_eq_some_iff.1 hc).1; omega)).trans (hk.keep k cs t ht hc hne), hk.own⟩
end
/-- The memory of seasons between two rounds; v: the list so far. -/
structure EV (p : PlM) (cE : List Value) (f : Nat → List Int) (w w1 : World) (D : Nat) (v : Value) (k : Nat) (A : World) : Prop where
  pb : Lies A w.heap.size 41 p.cells.toArray
  eb : Lies A (w.heap.size + 1) 133 cE.toArray
  rb : Lies A (w.heap.size + 1 + 1) 168 #[v]
  own : A.ownsRow D 123 20 v k (((List.range k).map f).flatMap encS)
  b : Below w.heap.size w A
  mid : ∀ j, w.heap.size + 3 ≤ j → j < w1.heap.size → A.heap[j]? = w1.heap[j]?
  d : D ≤ A.heap.size
def EI (p : PlM) (cE : List Value) (f : Nat → List Int) (w w1 : World) (D : Nat) (s : Option Nat) (k : Nat) (A : World) : Prop := ∃ v, EV p cE f w w1 D v k A ∧ v.ownBlock = s
section
variable {p : PlM} {cE : List Value} {f : Nat → List Int} {w w1 : World} {D : Nat} {v : Value} {k : Nat} {A A' : World}
theorem EV.call (h : EV p cE f w w1 D v k A) (hb : Below A.heap.size A A') (h1 : w1.heap.size ≤ D) : EV p cE f w w1 D v k A' := by
  have hd := h.d
  exact ⟨h.pb.call hb, h.eb.call hb, h.rb.call hb, ownsRow_call h.own hb, h.b.trans (hb.mono h.b.size), fun j hj hj' => (hb.block j (by omega)).trans (h.mid j hj hj'), Nat.le_trans h.d hb.size⟩
theorem EV.turns {T : TypeId} {D0 : Nat} (h : EV p cE f w w1 D v k A) (ht : Turns T D0 A A') (hT : 123 ≠ T) (hD : w.heap.size + 3 ≤ D) (h1 : w1.heap.size ≤ D) (h0 : D ≤ D0) : EV p cE f w w1 D v k A' := by
  have hd := h.d
  refine ⟨ht.lies h.pb (by omega), ht.lies h.eb (by omega), ht.lies h.rb (by omega), own_turns h.own ht hT, ht.below h.b (by omega) h.b.size, fun j hj hj' => ?_, Nat.le_trans h.d ht.size⟩
  obtain ⟨row, hgr, hr⟩ := ht
  exact (hgr.block j (by omega) (fun e => by have := (hr j e.symm).1; omega)).trans (h.mid j hj hj')
theorem EV.only {g : Nat} (h : EV p cE f w w1 D v k A) (ho : Only g A A') (hg : D ≤ g) (hD : w.heap.size + 3 ≤ D) (h1 : w1.heap.size ≤ D) (hne : v.ownBlock ≠ some g) : EV p cE f w w1 D v k A' :=
  ⟨ho.lies h.pb (by omega), ho.lies h.eb (by omega), ho.lies h.rb (by omega), own_keep h.own fun j hj => ho.block j (fun e => hne (by rw [hj, e])), ho.below h.b (by omega), fun j hj hj' => (ho.block j (by omega)).trans (h.mid j hj hj'), by rw [ho.size]; exact h.d⟩
theorem EV.append {v' : Value} (h : EV p cE f w w1 D v k A) (hD : w.heap.size + 3 ≤ D) (h1 : w1.heap.size ≤ D) (hg : A.grownBy A' v.ownBlock) (hown : A'.ownsRow D 123 20 v' (k + 1) (((List.range (k + 1)).map f).flatMap encS)) :
    EV p cE f w w1 D v' (k + 1) (A'.setCell ⟨w.heap.size + 1 + 1, 0, none⟩ v') ∧ Lies A' (w.heap.size + 1 + 1) 168 #[v] := by
  have hne : ∀ j, j < D → some j ≠ v.ownBlock := fun j hj e => by have := (own_at h.own e.symm).1; omega
  have hr := h.rb.grown hg (hne _ (by omega))
  have hd := h.d
  refine ⟨⟨(h.pb.grown hg (hne _ (by omega))).other (show w.heap.size ≠ w.heap.size + 1 + 1 by omega) _, (h.eb.grown hg (hne _ (by omega))).other (show w.heap.size + 1 ≠ w.heap.size + 1 + 1 by omega) _, hr.set 0 v', own_set hown hr (by decide) v',
    (h.b.grown hg h.b.size (fun j e => by have := (own_at h.own e).1; omega)).setCell (by show w.heap.size ≤ w.heap.size + 1 + 1; omega) _, fun j hj hj' => ?_, ?_⟩, hr⟩
  · rw [heap_setCell_other _ _ _ _ (show j ≠ w.heap.size + 1 + 1 by omega), hg.block j (by omega) (hne j (by omega)), h.mid j hj hj']
  · have := hg.size
    simp only [World.size_setCell]
    omega
end

set_option maxRecDepth 100000 in
set_option maxHeartbeats 4000000 in
theorem seasons_any (p : PlM) (a b c d : Nat) (fa fb fc fd : Int × Int → Int) (Y : Nat) (w : World) (hp : p.At w w.heap.size) (hv : p.Valid) (hY : p.years = (Y : Int)) (ha : Takes Try.prog a fa) (hb : Takes Try.prog b fb) (hc : Takes Try.prog c fc) (hd : Takes Try.prog d fd)
    (ba : Between fa) (bb : Between fb) (bc : Between fc) (bd : Between fd) :
    Calls Try.prog 103 #[.agg p.cells.toArray, .agg (endsC a b c d).toArray] w fun e w' => ∃ v, e = .returned v ∧ w'.ownsRow w.heap.size 123 20 v Y (((List.range Y).map (seaD p.d fa fb fc fd)).flatMap encS) ∧ Below w.heap.size w w' := by
  have hY6 : Y ≤ 6 := by have := hv.y; omega
  have l0 : Lies (((w.alloc (.cells p.cells.toArray 41)).alloc (.cells (endsC a b c d).toArray 133)).alloc (.cells #[.slice none 0 0] 168)) w.heap.size 41 p.cells.toArray := ((Lies.fresh' rfl).alloc _).alloc _
  have l1 : Lies (((w.alloc (.cells p.cells.toArray 41)).alloc (.cells (endsC a b c d).toArray 133)).alloc (.cells #[.slice none 0 0] 168)) (w.heap.size + 1) 133 (endsC a b c d).toArray := (Lies.fresh' (by simp)).alloc _
  have l2 : Lies (((w.alloc (.cells p.cells.toArray 41)).alloc (.cells (endsC a b c d).toArray 133)).alloc (.cells #[.slice none 0 0] 168)) (w.heap.size + 1 + 1) 168 #[.slice none 0 0] := Lies.fresh' (by simp)
  have b0 : Below w.heap.size w (((w.alloc (.cells p.cells.toArray 41)).alloc (.cells (endsC a b c d).toArray 133)).alloc (.cells #[.slice none 0 0] 168)) := (by repeat (first | (with_reducible assumption) | (with_reducible exact Below.refl _ _) | (with_reducible refine Below.drew ?_) | (with_reducible refine below_drewN ?_ _) | ((with_reducible refine Below.setCell ?_ ?_ _); rotate_left; focus (first | (simp; done) | (simp; omega) | omega)) | ((with_reducible refine Below.alloc ?_ ?_ _); rotate_left; focus (first | (simp; done) | (simp; omega) | omega))))
  have hF := follow_any p a b c d fa fb fc Y _ (hp.below b0 b0.size) hY hY6 ha hb hc
  have hlo : 0 ≤ fd (p.lo, p.hi) ∧ fd (p.lo, p.hi) ≤ 1000 := by
    have h1 := hv.l
    have h2 := bd (p.lo, p.hi) h1.2.1
    simp only at h2
    omega
  have HP := Lib.hid hp
  have HV := Lib.hid hv
  have HYE := Lib.hid hY
  have L0 := Lib.hid l0
  have L1 := Lib.hid l1
  have L2 := Lib.hid l2
  have B0 := Lib.hid b0
  have HF := Lib.hid hF
  have HD := Lib.hid hd
  have HBA := Lib.hid ba
  have HBB := Lib.hid bb
  have HBC := Lib.hid bc
  have HLO := Lib.hid hlo
  clear hp hv hY l0 l1 l2 b0 hF ha hb hc hd ba bb bc bd hlo
  have HYR := Lib.hid (fun (t : TrM) (pl : List Int) (w : World) => years_any p t pl w)
  unfold PlM.cells endsC at HF ⊢
  refine calls_of_wp_marks 5 Try.func103 rfl ?_
  simp only [Try.ntmps103, List.size_toArray, List.length_cons, List.length_nil, Nat.reduceAdd, Nat.reduceSub, Array.replicate_succ, Array.replicate_zero, List.push_toArray, List.append_toArray, List.nil_append, List.cons_append]
  go_upto_region 3 with (first
    | (refine wpList_load_row (o := ⟨some 9, _, _, _, _, _⟩) ?_ 41 (.tmp 2) ?_ w.heap.size ?_ 41 p.cells.toArray (0, 0) _ L0.out Try.underlying41 rfl size41 ?_; rfl; rfl; rfl)
    | (refine wpList_load_row (o := ⟨some 10, _, _, _, _, _⟩) ?_ 133 (.tmp 3) ?_ (w.heap.size + 1) ?_ 133 (endsC a b c d).toArray (0, 0) _ L1.out Try.underlying133 rfl size133 ?_; rfl; rfl; rfl)
    | (go_at_call 70; refine HF.out.mono ?_; rintro e w1 ⟨t, rfl, ht1, e1, e2, e3, e4, hb1⟩)
    | (refine wpList_store_cells (o := ⟨none, .store 117 (.tmp 6) _, _, _, _, _⟩) ?_ 117 (.tmp 6) (.tmp 11) ?_ w1.heap.size 0 ?_ 117 zcourse (p.cells ++ t.cells) ?_ (Lies.fresh w1 117 zcourse.toArray) (by simp [PlM.cells, TrM.cells]) size117 (by simp [PlM.cells, TrM.cells, Value.oneCell']) ?_; rfl; rfl; rfl; rfl; intro w9 HS9 HO9; (try simp only [Act.put])))
  have hz1 := hb1.size
  simp only [World.size_alloc] at hz1
  have hs9 : Lies w9 w1.heap.size 117 (p.cells ++ t.cells).toArray := by have := HS9.out; rwa [splice_whole (by simp [PlM.cells, TrM.cells])] at this
  have hz9 : w9.heap.size = w1.heap.size + 1 := by rw [HO9.out.size]; simp
  have hb19 : Below w1.heap.size w1 w9 := HO9.out.below ((Below.refl _ _).alloc (Nat.le_refl _) _) (Nat.le_refl _)
  have hb9 : Below w.heap.size w w9 := (B0.out.trans (hb1.mono B0.out.size)).trans (hb19.mono (by omega))
  have hpt := ends_fit HV.out HBA.out HBB.out HBC.out HYE.out e1 e2 e3 e4
  have hpl := start_five hpt
  have hn5 : t.s.l.length ≤ 5 := by rw [hpt.fit.s]; exact hpt.ok.n
  have hW1 : t.Within w1 (w.heap.size + 3) w1.heap.size := by have := ht1; simp only [World.size_alloc] at this; exact this
  have hsk : ∀ k, k < Y → yrK p t (pad5 t.s.l) k = seaY p.d fa fb fc k := fun k hk => yrK_sea e1 e2 e3 e4 hk
  have p9 : Lies w9 w.heap.size 41 p.cells.toArray := (((L0.out.call hb1)).call hb19)
  have q9 : Lies w9 (w.heap.size + 1) 133 (endsC a b c d).toArray := (((L1.out.call hb1)).call hb19)
  have r9 : Lies w9 (w.heap.size + 1 + 1) 168 #[.slice none 0 0] := (((L2.out.call hb1)).call hb19)
  have hE : EI p (endsC a b c d) (fun k => lostAt (yrK p t (pad5 t.s.l) k) (fd (p.lo, p.hi))) w w1 w9.heap.size none 0 w9 :=
    ⟨_, ⟨p9, q9, r9, by simpa using World.ownsRow_nil _ _ _ _, hb9, fun j hj hj' => hb19.block j hj', Nat.le_refl _⟩, rfl⟩
  have HE := Lib.hid hE
  have HPT := Lib.hid hpt
  have HPL := Lib.hid hpl
  have HW1 := Lib.hid hW1
  have HSK := Lib.hid hsk
  have HYT := Lib.hid e2
  have hrg : ∀ W, (∃ q : Regrown, W = Go.Sort.grow (redrawn w9 q.d) q.os) → W.rangeAt w1.heap.size 0 (p.cells ++ t.cells) := by
    rintro W ⟨q, rfl⟩
    exact Lies.range (cs := p.cells ++ t.cells) (hs9.call (below_regrown w9 q.d q.os)) (fun j v hj => by simpa using hj)
  have HRG := Lib.hid hrg
  have hta : ∀ W, Below w9.heap.size w9 W → t.At W W.heap.size := fun W hb => (hW1.mid (fun j _ hj' => (hb.block j (by omega)).trans (hb19.block j hj'))).at (by have := hb.size; omega)
  have HTA := Lib.hid hta
  clear hs9 hb19 hb9 hpt hpl hW1 p9 q9 r9 hE hsk e1 e2 e3 e4 ht1 hb1 HS9 HO9 L0 L1 L2 B0 HF hrg hta HV HBA HBB HBC
  have hS := fun (W : World) (hb : Below w9.heap.size w9 W) => start_any p t W (HTA.out W hb) hn5
  have HS := Lib.hid hS
  clear hS
  generalize pad5 t.s.l = pl at *
  refine wp_region_tail 3 (by kernel_rfl) (by kernel_rfl) (by kernel_rfl) (by kernel_rfl) (by kernel_rfl) (by kernel_rfl) (by simp) ?_
  simp only [List.take_succ_cons, List.take_zero, List.drop_succ_cons, List.drop_zero]
  refine wpQuiet_load_whole (o := ⟨some 12, _, _, _, _, _⟩) ?_ 117 (.tmp 6) ?_ w1.heap.size 0 ?_ (p.cells ++ t.cells) _ HRG.out Try.underlying117 rfl size117 ?_
  rfl; rfl; rfl
  simp only [Act.put, List.setIfInBounds_toArray, List.set_cons_zero, List.set_cons_succ]
  refine wpQuiet_load_whole (o := ⟨some 13, _, _, _, _, _⟩) ?_ 117 (.tmp 6) ?_ w1.heap.size 0 ?_ (p.cells ++ t.cells) _ HRG.out Try.underlying117 rfl size117 ?_
  rfl; rfl; rfl
  simp only [Act.put, List.setIfInBounds_toArray, List.set_cons_zero, List.set_cons_succ]
  repeat (first | go_big_quiet_step ((go_at_call 75; refine Calls.regrown_of (HS.out _ (below_regrown w9 _ _)))) | quiet_step ((go_at_call 75; refine Calls.regrown_of (HS.out _ (below_regrown w9 _ _)))))
  refine wpQuiet_nil ?_
  intro wq hwq
  have hbq : Below w9.heap.size w9 wq := (by obtain ⟨q, rfl⟩ := hwq; exact below_regrown _ _ _)
  clear hwq HRG
  go_wp2_with (go_at_call 61; refine (HYR.out _ _ _).mono ?_; rintro e w' ⟨rfl, rfl⟩)
  have hzD : w1.heap.size ≤ w9.heap.size := by omega
  have HZ9 := Lib.hid hz9
  clear hz9
  have hW : ∃ W, (wq.alloc (.cells (p.cells ++ t.cells).toArray 117)).alloc (.cells (vals pl) 120) = W ∧ EI p (endsC a b c d) (fun k => lostAt (yrK p t pl k) (fd (p.lo, p.hi))) w w1 w9.heap.size none 0 W ∧ Lies W (wq.heap.size + 1) 120 (vals pl) ∧ Lies W wq.heap.size 117 (p.cells ++ t.cells).toArray :=
    ⟨_, rfl, (HE.out.elim fun v hv => ⟨v, (((hv.1.call hbq hzD).call ((Below.refl _ _).alloc (Nat.le_refl _) _) hzD).call ((Below.refl _ _).alloc (Nat.le_refl _) _) hzD), hv.2⟩), Lies.fresh' (by simp), (Lies.fresh' rfl).alloc _⟩
  obtain ⟨W, hWe, hI, hst, hco⟩ := hW
  rw [hWe]
  have hgv := years1_gives 4 (by omega) p t (wq.heap.size + 1) wq.heap.size w.heap.size pl W (fun A => p.At A A.heap.size ∧ t.At A A.heap.size) (fun A h => h) (hI.elim fun v hv => hv.1.b.size) HPT.out.ok HPT.out.fit HPT.out.years (by have := HPT.out.six; omega) HPL.out hst hco
  have hdW : w9.heap.size ≤ W.heap.size := hI.elim fun v hv => hv.1.d
  have hbW : w.heap.size ≤ W.heap.size := hI.elim fun v hv => hv.1.b.size
  have HI := Lib.hid hI
  clear hst hco hWe HYR HS HE hbq hI HTA
  generalize wq.heap.size = z0 at *
  refine range_givesZ (n := 5) (gf := 100) rfl (enters_of Try.func100 (by kernel_rfl) rfl) hgv (Below.refl _ _) hbW (fun _ => rfl)
    (EI p (endsC a b c d) (fun k => lostAt (yrK p t pl k) (fd (p.lo, p.hi))) w w1 w9.heap.size) (fun _ _ _ => False) ?hI (fun c k A A' h _ => h)
    (fun s k A b h e => by obtain ⟨v, h1, h3⟩ := h; rw [e] at h3; exact (own_at h1.own h3).2.1) HI.out (fun s k A h => h.elim fun v hv => ⟨HP.out.below hv.1.b hv.1.b.size, (HW1.out.mid hv.1.mid).at (by have := hv.1.d; omega)⟩)
    (fun n0 x a' A => ∃ gx, n0 ≤ gx ∧ Lies A gx 123 (vals x.2) ∧ a' = { tmps := #[.agg #[.slice p.s.A p.s.l.length p.s.c, .slice p.r.A p.r.l.length p.r.c, .slice p.g.A p.g.l.length p.g.c, .slice p.e.A p.e.l.length p.e.c, .slice p.k.A p.k.l.length p.k.c, .int .i64 p.lo, .int .i64 p.hi, .int .i64 p.years], .agg #[.func (.func a) #[] #[], .func (.func b) #[] #[], .func (.func c) #[] #[], .func (.func d) #[] #[]], .pointer (some ⟨w.heap.size, 0, none⟩), .pointer (some ⟨w.heap.size + 1, 0, none⟩), .slice none 0 0, .pointer (some ⟨w.heap.size + 1 + 1, 0, none⟩), .pointer (some ⟨w1.heap.size, 0, none⟩), undef, .pointer (some ⟨gx, 0, none⟩), .agg p.cells.toArray, .agg (endsC a b c d).toArray, .agg (p.cells ++ t.cells).toArray, .agg (p.cells ++ t.cells).toArray, .agg (p.cells ++ t.cells).toArray, .agg (vals pl), .func (.func 100) #[] #[.pointer (some ⟨z0 + 1, 0, none⟩), .pointer (some ⟨z0, 0, none⟩)], .int .i64 x.1, .agg (vals x.2), undef, undef, undef, undef, undef, undef, undef, undef, undef, undef, undef, undef, undef], defers := [] }) ?hAx ?assign ?body ?done ?stop
  case hI =>
    intro s k A A' h ht
    obtain ⟨v, h1, h3⟩ := h
    exact ⟨v, h1.turns ht (by decide) (by omega) hzD hdW, h3⟩
  case hAx =>
    rintro n0 x a' A A' ⟨gx, h1, h2, h3⟩ ht
    exact ⟨gx, h1, ht.lies' h2 (by decide), h3⟩
  case stop => intro D c k W2 _ _ h; exact h.elim
  case assign =>
    intro l s k x W2 K hx hi hK
    have hk : k < t.g.l.length := by
      have := (List.getElem?_eq_some_iff.1 hx).1
      rwa [yearsL_length] at this
    obtain rfl : (k, yrK p t pl k) = x := by rw [yearsL_at hk] at hx; exact Option.some.inj hx
    have h20 : (yrK p t pl k).length = 20 := yearL_length _ _ _ _
    have hfit : 0 + (yrK p t pl k).length ≤ (z5 ++ z5 ++ z5 ++ z5).length ∧ (Try.prog.info? 123).map (·.size) = some (yrK p t pl k).length := by rw [h20]; exact ⟨by decide, size123⟩
    have H20 := Lib.hid h20
    have HFIT := Lib.hid hfit
    have HIN := Lib.hid hi
    clear h20 hfit hgv
    simp only [encY]
    gi_wp2_with (refine wpListIn_store_ints (o := ⟨none, .store 123 (.tmp 8) _, _, _, _, _⟩) ?_ 123 (.tmp 8) (.tmp 17) ?_ W2.heap.size 0 ?_ 123 (z5 ++ z5 ++ z5 ++ z5) (yrK p t pl k) ?_ (Lies.fresh W2 123 (vals (z5 ++ z5 ++ z5 ++ z5))) HFIT.out.1 HFIT.out.2 ?_; rfl; rfl; rfl; rfl; intro w5 HS5 HO5; (try simp only [Act.put]))
    have hl5 : Lies w5 W2.heap.size 123 (vals (yrK p t pl k)) := by
      have := HS5.out
      rwa [splice_all (by rw [H20.out]; rfl)] at this
    have hb5 : Below W2.heap.size W2 w5 := HO5.out.below ((Below.refl _ _).alloc (Nat.le_refl _) _) (Nat.le_refl _)
    refine hK _ _ (KeepsFrom.of_below hb5) (Keeps.of_below hb5 (HIN.out.elim fun v hv => hv.1.b.size)) (HIN.out.elim fun v hv => ⟨v, hv.1.call hb5 hzD, hv.2⟩) ⟨W2.heap.size, Nat.le_refl _, hl5, ?_⟩
    rfl
  case body =>
    rintro l s k x a' Wy W2 hl hx hiy hks hi ⟨gx, hgx, hlx, rfl⟩
    have hk : k < t.g.l.length := by
      have := (List.getElem?_eq_some_iff.1 hx).1
      rwa [yearsL_length] at this
    obtain rfl : (k, yrK p t pl k) = x := by rw [yearsL_at hk] at hx; exact Option.some.inj hx
    have h20 : (yrK p t pl k).length = 20 := yearL_length _ _ _ _
    have hsm := yrK_small HPT.out HPL.out hk
    obtain ⟨v, hev, hvs⟩ := hi
    have hne : v.ownBlock ≠ some gx := fun e => by
      obtain ⟨v0, hev0, hvs0⟩ := hiy
      rw [hvs, ← hvs0] at e
      have := (own_at hev0.own e).2.1
      omega
    have hdy : w9.heap.size ≤ Wy.heap.size := hiy.elim fun v hv => hv.1.d
    have r3 := cell_regrown (show W2.cell? ⟨w.heap.size + 1, 3, none⟩ = some (.func (.func d) #[] #[]) from hev.eb.at_ 3)
    have r5 := cell_regrown (show W2.cell? ⟨w.heap.size, 5, none⟩ = some (.int .i64 p.lo) from hev.pb.at_ 5)
    have r6 := cell_regrown (show W2.cell? ⟨w.heap.size, 6, none⟩ = some (.int .i64 p.hi) from hev.pb.at_ 6)
    have hfk : ((List.range (k + 1)).map fun k => lostAt (yrK p t pl k) (fd (p.lo, p.hi))).flatMap encS = ((List.range k).map fun k => lostAt (yrK p t pl k) (fd (p.lo, p.hi))).flatMap encS ++ encS (lostAt (yrK p t pl k) (fd (p.lo, p.hi))) := by
      rw [List.range_succ, List.map_append, List.flatMap_append]; simp
    obtain ⟨yk, hyk⟩ : ∃ yk, yk = yrK p t pl k := ⟨_, rfl⟩
    rw [← hyk] at h20 hsm hlx hfk ⊢
    have hri : ∀ W, (∃ q : Regrown, W = Go.Sort.grow (redrawn W2 q.d) q.os) → W.rangeAt gx 0 (yk.map (Value.int .i64)) := by
      rintro W ⟨q, rfl⟩
      exact Lies.range (cs := yk.map (Value.int .i64)) (hlx.call (below_regrown W2 q.d q.os)) (fun j v hj => by simpa using hj)
    have eg := HD.out.eg
    have hf5 : 10 + (lossL yk (fd (p.lo, p.hi))).length ≤ yk.length ∧ (Try.prog.info? 120).map (·.size) = some (lossL yk (fd (p.lo, p.hi))).length := by
      rw [show (lossL yk (fd (p.lo, p.hi))).length = 5 from upto5_length _ _, h20]; exact ⟨by decide, size120⟩
    have hl20 := lostAt_length h20 (fd (p.lo, p.hi))
    have hs20 : (Try.prog.info? 123).map (·.size) = some yk.length ∧ (Try.prog.info? 123).map (·.size) = some (lostAt yk (fd (p.lo, p.hi))).length := by rw [hl20, h20]; exact ⟨size123, size123⟩
    obtain ⟨i0, hi0, hz00, hz01, hz02⟩ := info_parts infoSeason
    have h6k : (k : Int) < 6 := by have := HPT.out.six; omega
    have HRI := Lib.hid hri
    have HEV := Lib.hid hev
    have HVS := Lib.hid hvs
    have HNE := Lib.hid hne
    have HLX := Lib.hid hlx
    have HSM := Lib.hid hsm
    have HKS := Lib.hid hks
    have HF5 := Lib.hid hf5
    have HL20 := Lib.hid hl20
    have HS20 := Lib.hid hs20
    have HFK := Lib.hid hfk
    have HYK := Lib.hid hyk
    have HI0 := Lib.hid hi0
    have Hz00 := Lib.hid hz00
    have Hz01 := Lib.hid hz01
    have Hz02 := Lib.hid hz02
    clear hri hev hvs hne hlx hsm hks hf5 hl20 hs20 hfk h20 hx hiy hgv hyk hi0 hz00 hz01 hz02
    gi_wp2_with (fail)
    refine wpIn_region_tail 7 (by kernel_rfl) (by kernel_rfl) (by kernel_rfl) (by kernel_rfl) (by kernel_rfl) (by kernel_rfl) (by simp) ?_
    simp only [List.take_succ_cons, List.take_zero, List.drop_succ_cons, List.drop_zero]
    refine wpQuiet_load_ints (o := ⟨some 18, _, _, _, _, _⟩) ?_ 123 (.tmp 8) ?_ gx 0 ?_ yk _ HRI.out Try.underlying123 rfl HS20.out.1 ?_
    rfl; rfl; rfl
    simp only [Act.put, List.setIfInBounds_toArray, List.set_cons_zero, List.set_cons_succ]
    repeat (first | go_big_quiet_step ((first | (go_at_fn d; exact Calls.regrown_of (HD.out.call _ p.lo p.hi)) | (go_at_call 125; exact Calls.regrown_of (loses_any _ _ _ HSM.out HLO.out.1 HLO.out.2)))) | quiet_step ((first | (go_at_fn d; exact Calls.regrown_of (HD.out.call _ p.lo p.hi)) | (go_at_call 125; exact Calls.regrown_of (loses_any _ _ _ HSM.out HLO.out.1 HLO.out.2)))))
    refine wpQuiet_nil ?_
    intro wq hwq
    have hbq : Below W2.heap.size W2 wq := (by obtain ⟨q, rfl⟩ := hwq; exact below_regrown _ _ _)
    clear hwq r3 r5 r6 HRI
    have hx4 := HLX.out.call hbq
    have hev4 := HEV.out.call hbq hzD
    have HX4 := Lib.hid hx4
    have HEV4 := Lib.hid hev4
    have hD3 : w.heap.size + 3 ≤ w9.heap.size := by omega
    clear hx4 hev4
    gi_wp2_with (first
      | (refine wpListIn_store_ints (o := ⟨none, .store 120 (.tmp 25) _, _, _, _, _⟩) ?_ 120 (.tmp 25) (.tmp 24) ?_ gx 10 ?_ 123 yk (lossL yk (fd (p.lo, p.hi))) ?_ HX4.out HF5.out.1 HF5.out.2 ?_; rfl; rfl; rfl; rfl; intro w5 HS5 HO5; (try simp only [Act.put]); have hev5 := HEV4.out.only HO5.out (by omega) hD3 hzD HNE.out; have c5 : w5.cell? ⟨w.heap.size + 1 + 1, 0, none⟩ = some v := hev5.rb.at_ 0; have HEV5 := Lib.hid hev5; clear hev5; have hz5 := HEV5.out.d)
      | (refine wpListIn_load_ints (o := ⟨some 27, _, _, _, _, _⟩) ?_ 123 (.tmp 8) ?_ gx 0 ?_ 123 (lostAt yk (fd (p.lo, p.hi))) (lostAt yk (fd (p.lo, p.hi))) _ HS5.out (fun j v h => by simpa using h) Try.underlying123 rfl HS20.out.2 ?_; rfl; rfl; rfl)
      | (refine wpListIn_buildSlice (o := ⟨some 28, _, _, _, _, _⟩) ?_ 168 1 #[(0, .tmp 27)] ?_ #[(0, .agg (vals (lostAt yk (fd (p.lo, p.hi)))))] ?_ _ (run_season_slice _ HL20.out) ?_; rfl; rfl; (simp only [List.map_toArray, List.map_cons, List.map_nil]; rfl); have HN6 := Lib.hid (news_alloc w5 (encS (lostAt yk (fd (p.lo, p.hi)))) 123); have HOWN6 := Lib.hid (HEV5.out.own.alloc (.cells (encS (lostAt yk (fd (p.lo, p.hi)))).toArray 123)); have hz6 : w9.heap.size ≤ (w5.alloc (.cells (encS (lostAt yk (fd (p.lo, p.hi)))).toArray 123)).heap.size := (by rw [World.size_alloc]; omega); have hb6 : Below w5.heap.size w5 (w5.alloc (.cells (encS (lostAt yk (fd (p.lo, p.hi)))).toArray 123)) := (Below.refl _ _).alloc (Nat.le_refl _) _; have HB6 := Lib.hid hb6; clear hb6; generalize w5.alloc (.cells (encS (lostAt yk (fd (p.lo, p.hi)))).toArray 123) = w6 at HN6 HOWN6 hz6 HB6 ⊢)
      | (refine wpListIn_append_own_at (o := ⟨some 29, _, _, _, _, _⟩) w6 ?_ (.tmp 26) (.tmp 28) 168 ?_ w9.heap.size 123 i0 (.agg (vals (z5 ++ z5 ++ z5 ++ z5))) 20 160 Try.underlying168 HI0.out Hz00.out Hz01.out Hz02.out rfl (by decide) v k (((List.range k).map fun k => lostAt (yrK p t pl k) (fd (p.lo, p.hi))).flatMap encS) ?_ HOWN6.out ⟨w5.heap.size, 0, none⟩ 1 1 (encS (lostAt yk (fd (p.lo, p.hi)))) ?_ (encS_length _) HN6.out (encS_one _) (by unfold maxLen; omega) (by omega) hz6 ?_; rfl; rfl; rfl; rfl; intro v7 w7 hown7 hg7 hnil7 hat7; clear hnil7; rw [← HFK.out] at hown7; obtain ⟨g7, cap7, rfl, _, _⟩ := hown7.form (by omega); have e7 := (HEV5.out.call HB6.out hzD).append hD3 hzD hg7 hown7; have c7 : w7.cell? ⟨w.heap.size + 1 + 1, 0, none⟩ = some v := e7.2.at_ 0; have f7 := e7.2.free 0; have E7 := Lib.hid e7; have HG7 := Lib.hid hg7; have HAT7 := Lib.hid hat7; clear e7 hg7 hat7 hown7))
    have hoa := HEV5.out.call HB6.out hzD
    have hO8 : Only (w.heap.size + 1 + 1) w7 (w7.setCell ⟨w.heap.size + 1 + 1, 0, none⟩ (.slice (some ⟨g7, 0, none⟩) (k + 1) cap7)) := Only.set _ _ _ _
    have hbw := hoa.b.size
    have hg7' : w6.grownBy w7 s := by rw [← HVS.out]; exact HG7.out
    refine ⟨KeepsFrom.trans (KeepsFrom.trans (KeepsFrom.trans (KeepsFrom.trans (KeepsFrom.of_below hbq) (KeepsFrom.of_only HO5.out HX4.out)) (KeepsFrom.of_below HB6.out)) (KeepsFrom.of_grown HG7.out (fun j e => ⟨_, (own_at hoa.own e).2.2⟩))) (KeepsFrom.of_only hO8 E7.out.2),
      some g7, (((Keeps.of_young (HKS.out.trans (Keeps.of_below hbq (HEV.out.b.size))) HO5.out hgx (by omega)).trans (Keeps.of_below HB6.out (HEV5.out.b.size))).trans (Keeps.of_grown hg7' hbw (fun j e => ?_) (fun j e => ?_))).trans (Keeps.of_only hO8 E7.out.2 (by omega) (by decide)), ⟨_, E7.out.1, rfl⟩⟩
    · have := (own_at hoa.own (HVS.out.trans e)).1
      omega
    · rcases HAT7.out with h | h
      · left; rw [← e, ← HVS.out]; exact h.symm
      · right
        have h' := e.symm.trans h
        cases h'
        exact Nat.le_refl _
  case done =>
    intro D s W2 hD hi hd
    rw [yearsL_length, HYT.out] at hi
    obtain ⟨v, hev, hvs⟩ := hi
    have hmp : (List.range Y).map (fun k => lostAt (yrK p t pl k) (fd (p.lo, p.hi))) = (List.range Y).map (seaD p.d fa fb fc fd) := by
      refine List.map_congr_left fun k hk => ?_
      rw [HSK.out k (List.mem_range.1 hk)]; rfl
    have c7 : W2.cell? ⟨w.heap.size + 1 + 1, 0, none⟩ = some v := hev.rb.at_ 0
    have HEV := Lib.hid hev
    have HMP := Lib.hid hmp
    clear hev hmp hgv hvs
    go_wp2
    have hbd : Below w.heap.size w (W2.putObj D (.deferred none)) := HEV.out.b.trans ((Below.refl _ _).grown (grownBy_putObj' W2 D _) HEV.out.b.size (fun k e => by cases e; omega))
    refine leave_mark hd ⟨_, results_tmp rfl _ _ _, ⟨_, rfl, ?_, hbd⟩⟩
    rw [← HMP.out]
    refine ownsRow_base (own_keep HEV.out.own fun j hj => World.putObj_heap_other fun e => ?_) (by omega)
    obtain ⟨_, _, cs, hl⟩ := own_at HEV.out.own hj
    rw [e] at hl
    unfold Lies at hl
    rw [hd] at hl; cases hl
end Go.Proofs.Ytlkdmcdnkoiflaa

/- A law for a region that draws its order: some operations only read, and are taken first; the others come one behind the other; a tail waits for all. -/
namespace Go.Proofs.Ytlkdmcdnkoiflaa
open Go.RowKit Go.Lib

section
variable {P : Program} {ops : Array Oper} {md : Region.Mode} {S : World → Prop} {Q : Exit → Act → World → Prop} {T : Act → World → Prop}
/-- Only at a normal end. -/
def Ends (T : Act → World → Prop) : Exit → Act → World → Prop
  | .normal, a, w => T a w
  | _, _, _ => False
theorem Ends.intro {a : Act} {w : World} (h : T a w) : Ends T .normal a w := h
theorem Oper.wp_ends {o : Oper} {a : Act} {w : World} {K K' : Act → World → Prop} (h : ∀ a w, K a w → K' a w) (hh : o.wp P a w K (Ends T)) : o.wp P a w K' Q := by
  unfold Oper.wp at *
  generalize (execOp a.eval o).run P w = r at *
  cases r with
  | ok n w' =>
    cases n <;> simp only [Oper.upon] at hh ⊢ <;>
      first
        | exact h _ _ hh
        | (refine Calls.mono hh (fun e w'' he => ?_)
           cases e with
           | returned v => exact h _ _ he
           | panicked c => exact (show False from he).elim
           | outgrown => obtain ⟨a1, w1, h1⟩ := (show LetsOut (Ends T) from he); exact (show False from h1).elim)
        | exact Rows.mono hh (fun _ _ he => h _ _ he)
  | halt x w' =>
    cases x <;> simp only [Oper.upon] at hh ⊢
    exact (show False from hh).elim
theorem wpOp_trunc {n i : Nat} {K K' : Act → World → Prop} {a : Act} {w : World} (hi : i < n) (hh : headOk ops n = true) (hK : ∀ a w, K a w → K' a w) (h : wpOp P (ops.extract 0 n) (Ends T) i K a w) : wpOp P ops Q i K' a w := by
  have e : (ops.extract 0 n)[i]? = ops[i]? := ext0 _ hi
  unfold wpOp at *
  rw [e] at h
  cases ho : ops[i]? with
  | none => simp only [ho] at h ⊢; exact hK _ _ h
  | some o =>
    simp only [ho] at h ⊢
    have hg : Region.wanted o (yielded (ops.extract 0 n) a.tmps) = Region.wanted o (yielded ops a.tmps) := by
      unfold Region.wanted
      cases hq : o.guard with
      | none => rfl
      | some q =>
        obtain ⟨j, b⟩ := q
        have hj := (headOk_spec hh ho).2 hi j b hq
        simp only [yielded]
        rw [show (ops.extract 0 n)[j]? = ops[j]? from ext0 _ hj]
    rw [hg] at h
    split
    · rename_i hw
      rw [if_pos hw] at h
      rcases h with h | ⟨_, a1, w1, h1⟩
      · exact .inl (Oper.wp_ends hK h)
      · exact (show False from h1).elim
    · rename_i hw
      rw [if_neg hw] at h
      exact hK _ _ h
theorem wpAny_of_truncE {n m : Nat} (hs : Region.sinkB md ops n = true) (hc : Region.chainB md ops n = true) (hh : headOk ops n = true) (hn : n < ops.size)
    (hT : ∀ L a w, HeadInv md ops n L → unl n L = 0 → T a w → wpAny P md ops Q m L a w) :
    ∀ (f : Nat) (L : Array Bool) (a : Act) (w : World), HeadInv md ops n L → unl n L = f → wpAny P md (ops.extract 0 n) (Ends T) f (L.extract 0 n) a w → wpAny P md ops Q (f + m) L a w
  | 0, L, a, w, inv, hu, h => by rw [Nat.zero_add]; exact hT L a w inv hu h.2
  | f + 1, L, a, w, inv, hu, h => by
    rw [show f + 1 + m = (f + m) + 1 by omega]
    obtain ⟨k, hk, hku, hkl⟩ := unl_pos (n := n) (L := L) (by omega)
    refine ⟨fun h0 => ?_, fun i hi => ?_⟩
    · exfalso
      have hks : k < ops.size := by omega
      have hko : ops[k]? = some ops[k] := by simp [hks]
      have : k ∈ Region.ready md ops L := mem_ready.2 ⟨hku, _, hko, fun e he _ => by
        have h1 := (headOk_spec hh hko).1 e he
        have h2 := hkl _ h1
        have hsz : e.on < L.size := by rw [inv.size]; omega
        simp [hsz] at h2 ⊢
        exact h2⟩
      rw [h0] at this; cases this
    · have hin : i < n := by
        rcases Nat.lt_or_ge i n with h1 | h1
        · exact h1
        · exact absurd hi (tail_waits hs hc hn inv _ k rfl hk hku i h1)
      have ht : ∀ t, n ≤ t → L.getD t false = false := fun t ht => by
        rcases Nat.lt_or_ge t ops.size with h1 | h1
        · exact getD_both (inv.tail t ht h1)
        · have : L.size ≤ t := by rw [inv.size]; exact h1
          simp [Array.getElem?_eq_none this]
      refine wpOp_trunc hin hh (fun a' w' hK => ?_) (h.2 i (ready_trunc hin ht hi))
      have hiu := (mem_ready.1 hi).1
      have his : i < L.size := by rw [inv.size]; omega
      rw [set_ext0 hin his] at hK
      exact wpAny_of_truncE hs hc hh hn hT f _ a' w' (inv.set hi hin) (by have := unl_set hin his hiu; omega) hK

/-- Operations that yield a value and do no more. -/
def valueB : Op → Bool
  | .load .. | .fieldAddr .. | .move _ | .indexAddr .. | .binOp .. | .unOp .. | .convert .. | .extract .. | .pick .. | .field .. | .index .. => true
  | _ => false
theorem exec_value {o : Oper} (hv : valueB o.op = true) (ρ : Operand → Value) (w : World) : (∃ u w', (execOp ρ o).run P w = .ok (.value u) w') ∨ (∃ x w', (execOp ρ o).run P w = .halt x w') := by
  have key : ∀ s : Sem Value, (∃ u w', (do pure (.value (← s)) : Sem Next).run P w = .ok (.value u) w') ∨ (∃ x w', (do pure (.value (← s)) : Sem Next).run P w = .halt x w') := fun s => by
    rw [Sem.run_bind]
    cases h : s.run P w with
    | ok u w' => left; exact ⟨u, w', by simp [Result.andThen, Sem.run_pure]⟩
    | halt x w' => right; exact ⟨x, w', by simp [Result.andThen]⟩
  unfold execOp
  cases ho : o.op <;> simp only [ho, valueB, Bool.false_eq_true] at hv ⊢
  case move x => left; exact ⟨_, _, Sem.run_pure _ _ _⟩
  case pick c a b =>
    rw [Sem.run_bind]
    cases h : (asBool (ρ c)).run P w with
    | ok u w' => left; exact ⟨if u then ρ a else ρ b, w', by simp [Result.andThen, Sem.run_pure]⟩
    | halt x w' => right; exact ⟨x, w', by simp [Result.andThen]⟩
  all_goals exact key _
theorem yieldsIf_of_quiet {o : Oper} {a : Act} {v : Value} {C : World → Prop} (hv : valueB o.op = true) (hw : Region.wanted o (yielded ops a.tmps) = true) (h : ∀ w, C w → o.quietAt P a C w v) : YieldsIf P ops C o v a :=
  .inl ⟨hw, fun w hC => by
    have h1 := h w hC
    unfold Oper.quietAt at h1
    rcases exec_value (P := P) hv a.eval w with ⟨u, w', e⟩ | ⟨x, w', e⟩
    · rw [e] at h1 ⊢
      obtain ⟨rfl, rfl⟩ := h1
      rfl
    · rw [e] at h1; exact h1.elim⟩
/-- These may be taken, one behind the other. -/
def takesB (md : Region.Mode) (ops : Array Oper) : Array Bool → List Nat → Bool
  | _, [] => true
  | L, i :: rs => (Region.ready md ops L).contains i && Region.free md ops L i && (match ops[i]? with | some o => valueB o.op | none => false) && takesB md ops (L.setIfInBounds i true) rs
def takenB : Array Bool → List Nat → Array Bool
  | L, [] => L
  | L, i :: rs => takenB (L.setIfInBounds i true) rs
/-- These come one behind the other, and then none. -/
def forcedB (md : Region.Mode) (ops : Array Oper) : Array Bool → List Nat → Bool
  | L, [] => (Region.ready md ops L).isEmpty
  | L, i :: cs => decide (Region.ready md ops L = [i]) && forcedB md ops (L.setIfInBounds i true) cs
def wpForce (P : Program) (ops : Array Oper) (S : World → Prop) (T : Act → World → Prop) : List Oper → Act → World → Prop
  | [], a, w => T a w
  | o :: cs, a, w => wpList P ops (Ends fun a' w' => S w' ∧ wpForce P ops S T cs a' w') [o] a w
theorem wpAnyH_forced : ∀ (cs : List Nat) (L : Array Bool) (a : Act) (w : World), forcedB md ops L cs = true → wpForce P ops S T (cs.filterMap (ops[·]?)) a w → wpAnyH P md ops (Ends T) S cs.length L a w
  | [], L, a, w, hB, h => ⟨by simpa [forcedB] using hB, h⟩
  | i :: cs, L, a, w, hB, h => by
    simp only [forcedB, Bool.and_eq_true, decide_eq_true_eq] at hB
    obtain ⟨h1, h2⟩ := hB
    have hi : i ∈ Region.ready md ops L := by rw [h1]; simp
    obtain ⟨_, o, ho, _⟩ := mem_ready.1 hi
    rw [List.filterMap_cons, ho] at h
    refine ⟨fun h0 => by rw [h1] at h0; (exact absurd h0 (by simp)), fun j hj => ?_⟩
    rw [h1, List.mem_singleton] at hj
    subst hj
    simp only [wpForce, wpList] at h
    unfold wpOp
    simp only [ho]
    split
    · rename_i hw
      rw [if_pos hw] at h
      rcases h with h | ⟨_, a1, w1, h1⟩
      case inr => exact (show False from h1).elim
      refine .inl (Oper.wp_ends (fun a' w' h' => ?_) h)
      have h'' : S w' ∧ wpForce P ops S T (cs.filterMap (ops[·]?)) a' w' := h'
      exact ⟨h''.1, wpAnyH_forced cs _ a' w' h2 h''.2⟩
    · rename_i hw
      rw [if_neg hw] at h
      have h'' : S w ∧ wpForce P ops S T (cs.filterMap (ops[·]?)) (a.put o.dst undef) w := h
      exact ⟨h''.1, wpAnyH_forced cs _ _ _ h2 h''.2⟩
theorem wpAnyH_takes (hns : Region.noSelect ops = true) : ∀ (rs : List Nat) (L : Array Bool) (a : Act) (w : World) (f : Nat), S w → takesB md ops L rs = true →
    wpQuiet P ops S (fun a' => wpAnyH P md ops (Ends T) S f (takenB L rs) a' w) (rs.filterMap (ops[·]?)) a → wpAnyH P md ops (Ends T) S (f + rs.length) L a w
  | [], L, a, w, f, _, _, h => h
  | i :: rs, L, a, w, f, hS, hB, h => by
    simp only [takesB, Bool.and_eq_true] at hB
    obtain ⟨⟨⟨h1, h2⟩, h3⟩, h4⟩ := hB
    have hi : i ∈ Region.ready md ops L := by simpa using h1
    obtain ⟨_, o, ho, _⟩ := mem_ready.1 hi
    rw [List.filterMap_cons, ho] at h
    rw [ho] at h3
    simp only [wpQuiet] at h
    have hstep : ∃ v, YieldsIf P ops S o v a ∧ wpQuiet P ops S (fun a' => wpAnyH P md ops (Ends T) S f (takenB L (i :: rs)) a' w) (rs.filterMap (ops[·]?)) (a.put o.dst v) := by
      by_cases hw : Region.wanted o (yielded ops a.tmps) = true
      · rw [if_pos hw] at h
        obtain ⟨v, hv, hk⟩ := h
        exact ⟨v, yieldsIf_of_quiet h3 hw hv, hk⟩
      · rw [if_neg hw] at h
        exact ⟨undef, .inr ⟨by simpa using hw, rfl⟩, h⟩
    obtain ⟨v, hy, hk⟩ := hstep
    exact wpAnyH_take (i := i) ho hns h2 (by simpa using h1) (fun _ _ _ h => h) hy hS (wpAnyH_takes hns rs _ _ w f hS h4 hk)
theorem wpQuiet_mono {C : World → Prop} {Q Q' : Act → Prop} (h : ∀ a, Q a → Q' a) : ∀ (l : List Oper) (a : Act), wpQuiet P ops C Q l a → wpQuiet P ops C Q' l a
  | [], a, hh => h a hh
  | o :: l, a, hh => by
    simp only [wpQuiet] at hh ⊢
    split
    · rename_i hw; rw [if_pos hw] at hh; exact Oper.quiet_mono (wpQuiet_mono h l) hh
    · rename_i hw; rw [if_neg hw] at hh; exact wpQuiet_mono h l _ hh
theorem wpForce_mono {S S' : World → Prop} (h : ∀ w, S w → S' w) : ∀ (l : List Oper) (a : Act) (w : World), wpForce P ops S T l a w → wpForce P ops S' T l a w
  | [], a, w, hh => hh
  | o :: l, a, w, hh => by
    simp only [wpForce, wpList] at hh ⊢
    split
    · rename_i hw
      rw [if_pos hw] at hh
      rcases hh with hh | ⟨_, a1, w1, h1⟩
      case inr => exact (show False from h1).elim
      refine .inl (Oper.wp_ends (fun a' w' h' => ?_) hh)
      have h'' : S w' ∧ wpForce P ops S T l a' w' := h'
      exact (show S' w' ∧ wpForce P ops S' T l a' w' from ⟨h _ h''.1, wpForce_mono h l _ _ h''.2⟩)
    · rename_i hw
      rw [if_neg hw] at hh
      have h'' : S w ∧ wpForce P ops S T l (a.put o.dst undef) w := hh
      exact (show S' w ∧ wpForce P ops S' T l (a.put o.dst undef) w from ⟨h _ h''.1, wpForce_mono h l _ _ h''.2⟩)
def readsB (l : List Oper) (n : Nat) (rs cs : List Nat) : Bool :=
  Region.sinkB .any l.toArray n && Region.chainB .any l.toArray n && headOk l.toArray n && Region.seqB .any l.toArray (l.drop n).length n ((Array.replicate l.length false).mapIdx fun i _ => decide (i < n)) && decide (n < l.length) &&
    Region.noSelect (l.take n).toArray && takesB .any (l.take n).toArray (Array.replicate n false) rs && forcedB .any (l.take n).toArray (takenB (Array.replicate n false) rs) cs && decide (cs.length + rs.length = n)
/-- THE LAW. -/
theorem wp_region_reads {id : Nat} {l : List Oper} {a : Act} {w : World} (n : Nat) (rs cs : List Nat) (hm : P.follows .mixedOrders = true) (hB : readsB l n rs cs = true)
    (h : wpQuiet P (l.take n).toArray (fun w' => ∃ p : Regrown, w' = Go.Sort.grow (redrawn w p.d) p.os) (fun a' => ∀ w', Below w.heap.size w w' → w'.heap.size = w.heap.size → wpForce P (l.take n).toArray (fun w' => Below w.heap.size w w') (fun a w => wpList P l.toArray Q (l.drop n) a w) (cs.filterMap ((l.take n).toArray[·]?)) a' w') (rs.filterMap ((l.take n).toArray[·]?)) a) :
    (Code.region id l.toArray true).wp P Q a w := by
  simp only [readsB, Bool.and_eq_true, decide_eq_true_eq] at hB
  obtain ⟨⟨⟨⟨⟨⟨⟨⟨b1, b2⟩, b3⟩, b4⟩, b5⟩, b6⟩, b7⟩, b8⟩, b9⟩ := hB
  have hn : n < l.toArray.size := by simpa using b5
  have e : l.toArray.extract 0 n = (l.take n).toArray := by simp
  have hsz : (l.take n).toArray.size = n := by simp; omega
  refine wp_region_any hm ?_
  have inv : HeadInv .any l.toArray n (Array.replicate l.toArray.size false) := ⟨by simp, (fun j oj _ hl => by rw [getD_replicate_false] at hl; cases hl), fun t _ ht => by simp at ht; simp [ht]⟩
  have hu : unl n (Array.replicate l.toArray.size false) = n := by
    unfold unl
    rw [List.countP_eq_length.2 (fun i hi => by
      have h1 := List.mem_range.1 hi
      have h2 : i < l.length := by omega
      simp [h2]), List.length_range]
  have e1 : (Array.replicate l.toArray.size false).extract 0 n = Array.replicate n false := by
    apply Array.ext_getElem?
    intro j
    by_cases hj : j < n
    · rw [ext0 _ hj, Array.getElem?_replicate, Array.getElem?_replicate, if_pos hj, if_pos (by omega)]
    · rw [Array.getElem?_eq_none (by simp; omega), Array.getElem?_eq_none (by simp; omega)]
  have hbd : Below w.heap.size w { w with drawn := w.drawn + 1 } := (Below.refl w.heap.size w).drew
  have hlen : n + (l.drop n).length = l.toArray.size := by simp; omega
  suffices hg : wpAny P .any l.toArray Q (n + (l.drop n).length) (Array.replicate l.toArray.size false) a { w with drawn := w.drawn + 1 } by rw [hlen] at hg; exact hg
  refine wpAny_of_truncE (T := fun a w => wpList P l.toArray Q (l.drop n) a w) b1 b2 b3 hn (fun L a' w' inv' hu' hT => ?_) n _ a _ inv hu ?_
  · have eL : L = (Array.replicate l.length false).mapIdx fun i _ => decide (i < n) := by
      apply Array.ext (by simp [inv'.size])
      intro i h1 h2
      simp only [Array.getElem_mapIdx]
      by_cases hi : i < n
      · have := unl_zero hu' i hi; simp [h1] at this; simp [hi, this]
      · have := inv'.tail i (by omega) (by rw [← inv'.size]; exact h1); simp [h1] at this; simp [hi, this]
    subst eL
    exact wpAny_of_seq (l.drop n) n _ a' w' (fun j => by simp [List.getElem?_drop]) b4 hT
  · rw [e1, e]
    refine wpAny_of_held (S := fun w' => ∃ p : Regrown, w' = Go.Sort.grow (redrawn w p.d) p.os) _ _ _ _ ?_
    suffices hg : wpAnyH P .any (l.take n).toArray (Ends fun a w => wpList P l.toArray Q (l.drop n) a w) (fun w' => ∃ p : Regrown, w' = Go.Sort.grow (redrawn w p.d) p.os) (cs.length + rs.length) (Array.replicate n false) a { w with drawn := w.drawn + 1 } by rw [b9] at hg; exact hg
    refine wpAnyH_takes b6 rs _ a _ cs.length ⟨⟨w.drawn + 1, #[]⟩, by rw [Go.Sort.grow_empty]; rfl⟩ b7 ?_
    refine wpQuiet_mono (fun a' ha => ?_) _ _ h
    exact wpAnyH_forced cs _ a' _ b8 (wpForce_mono (fun w' hb => regrown_of_below hb) _ _ _ (ha _ hbd rfl))
end
end Go.Proofs.Ytlkdmcdnkoiflaa
