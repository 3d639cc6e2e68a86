/- word, Comes. -/
import Derived.Test.YtkjhofbjjogmlaaYA
import Derived.Test.YtkjhofbjjogmlaaXE
import Derived.WideKeyPair
import Derived.Maps.Own
namespace Go.Proofs.Ytkjhofbjjogmlaa
open Go.RowKit Go.Lib

def wordD (l : List Nat) (k : Nat) : Nat := l.getD (k % l.length) 0
/-- The memory of Comes. -/
structure CmM (r : RwM) (x : Wk) (gw : Nat) (A : Option Addr) (l : List Int) (w W : World) : Prop where
  r : Lies W w.heap.size 26 r.cells.toArray
  x : Lies W gw 76 (encW x).toArray
  l : Sl W W.heap.size 1 encI A l
  b : Below w.heap.size w W
theorem CmM.call {r : RwM} {x : Wk} {gw : Nat} {A : Option Addr} {l : List Int} {w W W' : World} (h : CmM r x gw A l w W) (hb : Below W.heap.size W W') : CmM r x gw A l w W' :=
  ⟨h.r.call hb, h.x.call hb, (h.l.below hb).more hb.size, h.b.trans (hb.mono h.b.size)⟩
/-- Is q a source that is ill for long enough? -/
def RwD.srcAt (r : RwD) (l : List Int) (p : Nat) (k : Int) (q : Nat) : Bool := decide (q ≠ p) && decide (max ((p : Int) - q) ((q : Int) - p) ≤ (r.wk k).f) && stB (r.dg q) k && decide (0 ≤ l.getD q 0) && decide (l.getD q 0 + r.lag ≤ k)
theorem srcAt_iff {r : RwD} (hok : r.Ok) {l : List Int} (hl : l.length = r.dug.length) (ho : ∀ o, o ∈ l → -1 ≤ o ∧ o ≤ 30) {p : Nat} (hp : p < r.dug.length) {k : Int} (hk : k ≤ 30) : r.srcAny (truthD l) p k = true ↔ ∃ q, q < r.dug.length ∧ r.srcAt l p k q = true := by
  have key : ∀ q, q < r.dug.length → (decide ((truthD l).getD q 0 + r.lag ≤ k) = true ↔ (0 ≤ l.getD q 0 ∧ l.getD q 0 + r.lag ≤ k)) := fun q hq => by
    have h := ho l[q] (List.getElem_mem (by omega))
    have hlg := hok.lag
    rw [decide_eq_true_eq, truthD_at, dif_pos (by omega), List.getD, List.getElem?_eq_getElem (by omega), Option.getD_some]
    unfold in31
    split <;> omega
  unfold RwD.srcAny RwD.srcAt
  rw [List.any_eq_true]
  constructor
  · rintro ⟨q, hq, hd⟩
    obtain ⟨h1, h2, h3, h4⟩ := (mem_src hok hp).1 hq
    obtain ⟨h5, h6⟩ := (key q h1).1 hd
    unfold RwD.srcOk at h2
    rw [Bool.and_eq_true, decide_eq_true_eq] at h2
    refine ⟨q, h1, ?_⟩
    simp only [Bool.and_eq_true, decide_eq_true_eq]
    exact ⟨⟨⟨⟨h2.1, by omega⟩, h2.2⟩, h5⟩, h6⟩
  · rintro ⟨q, h1, h2⟩
    simp only [Bool.and_eq_true, decide_eq_true_eq] at h2
    obtain ⟨⟨⟨⟨h3, h4⟩, h5⟩, h6⟩, h7⟩ := h2
    refine ⟨q, (mem_src hok hp).2 ⟨h1, ?_, by omega, by omega⟩, (key q h1).2 ⟨h6, h7⟩⟩
    unfold RwD.srcOk
    rw [Bool.and_eq_true, decide_eq_true_eq]
    exact ⟨h3, h5⟩
set_option maxRecDepth 100000 in
set_option maxHeartbeats 8000000 in
theorem Comes_weeks (r : RwM) (A : Option Addr) (c : Nat) (l : List Int) (p k : Nat) (w : World) (hr : r.At w w.heap.size) (hok : r.d.Ok) (hA : Sl w w.heap.size 1 encI A l) (hl : l.length = r.dug.l.length) (ho : ∀ o, o ∈ l → -1 ≤ o ∧ o ≤ 30) (hp : p < r.dug.l.length) (hk : k ≤ r.ws.l.length) (hk1 : 1 ≤ k) (hst : stB (r.d.dg (p : Nat)) (k : Nat) = true) :
    Calls Try.prog 54 #[.agg r.cells.toArray, .slice A l.length c, .int .i64 p, .int .i64 k] w fun e w' => e = .returned (.bool (r.d.fallB (truthD l) p k)) ∧ Below w.heap.size w w' := by
  obtain ⟨N, hN⟩ : ∃ N, N = r.dug.l.length := ⟨_, rfl⟩
  have hnn : r.n = (N : Int) := by rw [hN]; exact hok.dug.symm
  have hN10 : N ≤ 10 := by have := hok.n1; have h2 : r.d.n = r.n := rfl; omega
  have hY30 : r.ws.l.length ≤ 30 := hok.nw
  have l0 : Lies (w.alloc (.cells r.cells.toArray 26)) w.heap.size 26 r.cells.toArray := Lies.fresh _ _ _
  have b0 : Below w.heap.size w (w.alloc (.cells r.cells.toArray 26)) := (by repeat (first | (with_reducible assumption) | (with_reducible exact Below.refl _ _) | (with_reducible refine Below.drew ?_) | (with_reducible refine below_drewN ?_ _) | ((with_reducible refine Below.setCell ?_ ?_ _); rotate_left; focus (first | (simp; done) | (simp; omega) | omega)) | ((with_reducible refine Below.alloc ?_ ?_ _); rotate_left; focus (first | (simp; done) | (simp; omega) | omega))))
  obtain ⟨j, hj⟩ : ∃ j, k = j + 1 := ⟨k - 1, by omega⟩
  obtain ⟨x, hx⟩ : ∃ x, r.ws.l[j]? = some x := ⟨r.ws.l[j]'(by omega), by simp⟩
  have hwk : r.d.wk (k : Nat) = x := by
    unfold RwD.wk
    rw [show ((k : Int) - 1).toNat = j by omega, List.getD, show r.d.ws[j]? = some x from hx]; rfl
  have hx10 := hok.wk x (List.mem_of_getElem? hx)
  obtain ⟨tb, off, hWA, htb, e0, e1⟩ := hr.ws.cellW hx
  have hfall : r.d.fallB (truthD l) p k = (r.d.srcAny (truthD l) p k || r.d.reachB p k) := by
    unfold RwD.fallB
    rw [if_neg (by omega), hst]; rfl
  have hreach : r.d.reachB p k = (x.o && (decide ((p : Int) < x.f) || decide ((N : Int) - 1 - p < x.f))) := by
    unfold RwD.reachB
    rw [hwk, show r.d.n = (N : Int) from hnn]
    congr 1
    rw [Bool.eq_iff_iff, Bool.or_eq_true, decide_eq_true_eq, decide_eq_true_eq, decide_eq_true_eq]
    omega
  have hsrc : r.d.srcAny (truthD l) p k = true ↔ ∃ q, q < N ∧ r.d.srcAt l p k q = true := by
    rw [hN]; exact srcAt_iff hok (by show l.length = r.dug.l.length; exact hl) ho (by show p < r.dug.l.length; exact hp) (by omega)
  have hsat : ∀ q, r.d.srcAt l p k q = (decide (q ≠ p) && decide (max ((p : Int) - q) ((q : Int) - p) ≤ x.f) && stB (r.d.dg q) k && decide (0 ≤ l.getD q 0) && decide (l.getD q 0 + r.lag ≤ k)) := fun q => by
    unfold RwD.srcAt; rw [hwk]; rfl
  have hSP := fun W (hb : Below w.heap.size w W) => refStands_any r p (r.d.dg (p : Nat)) ((k : Nat) : Int) W ((hr.dug.below hb).more hb.size) (by show r.dug.l[p]? = some (r.dug.l.getD p 0); simp [List.getD, hp]) hr.ld
  rw [hst] at hSP
  have hSQ := fun (q : Nat) (hq : q < N) W (hb : Below w.heap.size w W) => refStands_any r q (r.d.dg (q : Nat)) ((k : Nat) : Int) W ((hr.dug.below hb).more hb.size) (by show r.dug.l[q]? = some (r.dug.l.getD q 0); rw [hN] at hq; simp [List.getD, hq]) hr.ld
  have hlg : 1 ≤ r.lag ∧ r.lag ≤ 30 := hok.lag
  obtain ⟨hlg0, hlg1⟩ := hlg
  rw [hfall]
  have hkz : (k : Int) ≤ 30 := by omega
  have hk0 : ((k : Int) == 0) = false := by simp; omega
  have hjz : (k : Int) - 1 = (j : Int) := by omega
  have hj0 : (0 : Int) ≤ (j : Int) := by omega
  have hjY : (j : Int) < (r.ws.l.length : Int) := by omega
  have hw1 : IntKind.i64.wrap (j : Int) = (j : Int) := IntWalk.i64_in _ (by omega)
  have hpz : (p : Int) < (N : Int) := by omega
  have hp0 : (0 : Int) ≤ (p : Int) := by omega
  have hNz : (N : Int) ≤ 10 := by omega
  have hw2 : IntKind.i64.wrap ((N : Int) - 1) = (N : Int) - 1 := IntWalk.i64_in _ (by omega)
  have hw3 : IntKind.i64.wrap ((N : Int) - 1 - (p : Int)) = (N : Int) - 1 - (p : Int) := IntWalk.i64_in _ (by omega)
  have hla : l.length = N := by omega
  have L0 := Lib.hid l0
  have B0 := Lib.hid b0
  have HSP := Lib.hid hSP
  have HSQ := Lib.hid hSQ
  have HSR := Lib.hid hsrc
  have HSA := Lib.hid hsat
  have HRE := Lib.hid hreach
  have HNE := Lib.hid hnn
  have HAA := Lib.hid hA
  have HOO := Lib.hid ho
  have HLA := Lib.hid hla
  have htb' : tb < (w.alloc (.cells r.cells.toArray 26)).heap.size := by simp; omega
  have e0' : (w.alloc (.cells r.cells.toArray 26)).cell? ⟨tb, off + j * 2, none⟩ = some (.int .i64 x.f) := (b0.cell (p := ⟨tb, off + j * 2, none⟩) htb).trans e0
  have e1' : (w.alloc (.cells r.cells.toArray 26)).cell? ⟨tb, off + j * 2 + 1, none⟩ = some (.bool x.o) := (b0.cell (p := ⟨tb, off + j * 2 + 1, none⟩) htb).trans e1
  have HWA := Lib.hid hWA
  have HX10 := Lib.hid hx10
  clear l0 b0 hSP hSQ hsrc hsat hreach hnn hA ho hla hr hok hl hfall hst hwk hx e0 e1 hN hWA hp hk hj hx10 hk1
  go_enter Try.func54, Try.ntmps54
  go_upto_region 1 with (fail)
  change Code.wp _ _ _ _ (w.alloc (.cells r.cells.toArray 26))
  generalize w.alloc (.cells r.cells.toArray 26) = w0 at *
  go_upto_region 5 with (first
    | (refine wpList_load_row (o := ⟨some 17, _, _, _, _, _⟩) ?_ 26 (.tmp 4) ?_ w.heap.size ?_ 26 r.cells.toArray (0, 0) _ L0.out Try.underlying26 rfl size_refrow ?_; rfl; rfl; rfl)
    | (go_at_call 42; refine (HSP.out _ B0.out).mono ?_; rintro e w1 ⟨rfl, hb1⟩))
  have L1 := Lib.hid (L0.out.call hb1)
  have B1 := Lib.hid (B0.out.trans (hb1.mono B0.out.size))
  have g0 : w1.cell? ⟨tb, off + j * 2, none⟩ = some (.int .i64 x.f) := (hb1.cell (p := ⟨tb, off + j * 2, none⟩) htb').trans e0'
  have g1 : w1.cell? ⟨tb, off + j * 2 + 1, none⟩ = some (.bool x.o) := (hb1.cell (p := ⟨tb, off + j * 2 + 1, none⟩) htb').trans e1'
  have a1 : w1.cell? ⟨w.heap.size, 1, none⟩ = some (.slice (some ⟨tb, off, none⟩) r.ws.l.length r.ws.c) := by rw [L1.out.at_, ← HWA.out]; rfl
  clear hb1 L0 B0 e0' e1' htb' HSP
  obtain ⟨xf, xo⟩ := x
  dsimp only at g0 g1
  go_upto_region 6 with (fail)
  have M2 : CmM r ⟨xf, xo⟩ w1.heap.size A l w (w1.alloc (.cells #[.int .i64 xf, .bool xo] 76)) :=
    ⟨L1.out.alloc _, Lies.fresh _ _ _, ((HAA.out.below B1.out).more B1.out.size).alloc (Nat.le_refl _) _ |>.more (by simp), B1.out.alloc B1.out.size _⟩
  have HM2 := Lib.hid M2
  have hgw : w.heap.size < w1.heap.size := L1.out.in_
  change Code.wp _ _ _ _ (w1.alloc (.cells #[.int .i64 xf, .bool xo] 76))
  clear g0 g1 a1 M2 L1 B1
  generalize w1.alloc (.cells #[.int .i64 xf, .bool xo] 76) = w2 at *
  generalize w1.heap.size = gw at *
  have c0 : w2.cell? ⟨gw, 0, none⟩ = some (.int .i64 xf) := HM2.out.x.at_ 0
  have c1 : w2.cell? ⟨gw, 1, none⟩ = some (.bool xo) := HM2.out.x.at_ 1
  have cn : w2.cell? ⟨w.heap.size, 0, none⟩ = some (.int .i64 N) := by rw [← HNE.out]; exact HM2.out.r.at_ 0
  go_cut [45] from 28 to 45 (fun s45 wx => s45 = .bool (r.d.reachB p k) ∧ CmM r ⟨xf, xo⟩ gw A l w wx)
  case first =>
    have HRX := Lib.hid (show r.d.reachB p k = (xo && (decide ((p : Int) < xf) || decide ((N : Int) - 1 - (p : Int) < xf))) from HRE.out)
    cases xo
    · go_wp2
      go_meet
      case rel => exact ⟨by rw [HRX.out]; rfl, HM2.out⟩
    · by_cases h1 : (p : Int) < xf
      · have d1 : decide ((p : Int) < xf) = true := decide_eq_true h1
        go_wp2
        go_meet
        case rel => exact ⟨by rw [HRX.out, d1]; rfl, HM2.out⟩
      · have d1 : decide ((p : Int) < xf) = false := decide_eq_false h1
        by_cases h2 : (N : Int) - 1 - (p : Int) < xf
        · have d2 : decide ((N : Int) - 1 - (p : Int) < xf) = true := decide_eq_true h2
          go_wp2
          go_meet
          case rel => exact ⟨by rw [HRX.out, d1, d2]; rfl, HM2.out⟩
        · have d2 : decide ((N : Int) - 1 - (p : Int) < xf) = false := decide_eq_false h2
          go_wp2
          go_meet
          case rel => exact ⟨by rw [HRX.out, d1, d2]; rfl, HM2.out⟩
  case rest =>
    obtain ⟨rfl, hM⟩ := hcut
    clear c0 c1 cn HM2 hw2 hw3
    obtain ⟨rb, hrb⟩ : ∃ rb, rb = r.d.reachB p k := ⟨_, rfl⟩
    rw [← hrb]
    have HRB := Lib.hid hrb
    have HM := Lib.hid hM
    clear hM HRE hrb
    cases rb with
    | true =>
      go_wp2
      go_ret
      exact ⟨ret_bool (by rw [← HRB.out]; simp), HM.out.b⟩
    | false =>
      have hno : (r.d.srcAny (truthD l) p k || r.d.reachB p k) = r.d.srcAny (truthD l) p k := by rw [← HRB.out]; simp
      have HNN := Lib.hid hno
      clear hno
      go_wp2
      go_loopw [10] (fun s10 wr => ∃ q : Nat, q ≤ N ∧ s10 = .int .i64 q ∧ Aside (CmM r ⟨xf, xo⟩ gw A l w wr) ∧ Aside (∀ j, j < q → r.d.srcAt l p k j = false)) (fun i _ => N - (intOf i).toNat)
      case atStart => exact ⟨0, by omega, rfl, HM.out, (show Aside _ from fun j hj => absurd hj (Nat.not_lt_zero _))⟩
      case round =>
        obtain ⟨q, hq, rfl, HB, HU⟩ := hrel
        clear HM
        have cn : wr.cell? ⟨w.heap.size, 0, none⟩ = some (.int .i64 N) := by rw [← HNE.out]; exact HB.out.r.at_ 0
        by_cases hlt : q < N
        · have hltz : (q : Int) < (N : Int) := by omega
          have hq0 : (0 : Int) ≤ (q : Int) := by omega
          have hwa : IntKind.i64.wrap ((p : Int) - (q : Int)) = (p : Int) - (q : Int) := IntWalk.i64_in _ (by omega)
          have hwb : IntKind.i64.wrap ((q : Int) - (p : Int)) = (q : Int) - (p : Int) := IntWalk.i64_in _ (by omega)
          have hla := HLA.out
          have hll : (q : Int) < (l.length : Int) := by omega
          obtain ⟨o, ho⟩ : ∃ o, l[q]? = some o := ⟨l[q]'(by omega), by simp⟩
          have hog : l.getD q 0 = o := by rw [List.getD, ho]; rfl
          obtain ⟨ho0, ho1⟩ := HOO.out o (List.mem_of_getElem? ho)
          have hsq := HSA.out q
          rw [hog] at hsq
          have HST := Lib.hid (HSQ.out q hlt)
          obtain ⟨lb, lo, hAe, hlb, c78⟩ := HB.out.l.cell1 ho
          subst hAe
          have hgl : gw < wr.heap.size := HB.out.x.in_
          have hwl : w.heap.size < wr.heap.size := HB.out.r.in_
          have c65 : wr.cell? ⟨gw, 0, none⟩ = some (.int .i64 xf) := HB.out.x.at_ 0
          have c87 : wr.cell? ⟨w.heap.size, 2, none⟩ = some (.int .i64 r.lag) := HB.out.r.at_ 2
          have r65 := cell_regrown c65
          have r78 := cell_regrown c78
          have r87 := cell_regrown c87
          have hrg : ∀ V, (∃ pp : Regrown, V = Go.Sort.grow (redrawn wr pp.d) pp.os) → V.rangeAt w.heap.size 0 r.cells := by
            rintro V ⟨pp, rfl⟩
            exact Lies.range (cs := r.cells) (HB.out.r.call (below_regrown wr _ _)) (fun j v hj => by simpa using hj)
          have HRG := Lib.hid hrg
          have HSAT := Lib.hid hsq
          have hyes := fun (h : r.d.srcAt l p k q = true) => (by rw [HNN.out, HSR.out]; exact ⟨q, hlt, h⟩ : (r.d.srcAny (truthD l) p k || r.d.reachB p k) = true)
          have HYE := Lib.hid hyes
          have HBR := Lib.hid (fun a b => HB.out.b.trans ((below_regrown wr a b).mono HB.out.b.size))
          clear hrg ho hog hla c65 c78 c87 hsq hyes
          go_upto_region 12 with (fail)
          clear cn hwa hwb
          have hws : IntKind.i64.wrap (o + r.lag) = o + r.lag := IntWalk.i64_in _ (by omega)
          by_cases e1 : q = p
          · have f1 : ((q : Int) != (p : Int)) = false := by simp [e1]
            have HNO := Lib.hid (show r.d.srcAt l p k q = false by rw [HSAT.out, e1]; simp)
            clear e1
            refine wp_region_quiet_below (by kernel_rfl) (by kernel_rfl) ?_
            repeat (first
              | go_big_quiet_step (fail) | quiet_step (fail))
            refine wpQuiet_nil ?_
            intro wq hwq
            have D1 := Lib.hid (show Below wr.heap.size wr wq by obtain ⟨pp, rfl⟩ := hwq; exact below_regrown _ _ _)
            clear hwq r65 r78 r87
            go_wp2
            go_roundw
            case rel =>
              refine ⟨q + 1, by omega, by go_num, HB.out.call D1.out, (show Aside _ from fun j hj => ?_)⟩
              by_cases e : j = q
              · subst e; exact HNO.out
              · exact HU.out j (by omega)
            case measure => simp [intOf]; omega
          have f1 : ((q : Int) != (p : Int)) = true := by simp; omega
          by_cases e2 : max ((p : Int) - (q : Int)) ((q : Int) - (p : Int)) ≤ xf
          case neg =>
            have f2 : decide (max ((p : Int) - (q : Int)) ((q : Int) - (p : Int)) ≤ xf) = false := decide_eq_false e2
            have HNO := Lib.hid (show r.d.srcAt l p k q = false by rw [HSAT.out, f2]; simp)
            clear e1 e2
            refine wp_region_quiet_below (by kernel_rfl) (by kernel_rfl) ?_
            repeat (first
              | go_big_quiet_step (fail) | quiet_step (fail))
            refine wpQuiet_nil ?_
            intro wq hwq
            have D1 := Lib.hid (show Below wr.heap.size wr wq by obtain ⟨pp, rfl⟩ := hwq; exact below_regrown _ _ _)
            clear hwq r65 r78 r87
            go_wp2
            go_roundw
            case rel =>
              refine ⟨q + 1, by omega, by go_num, HB.out.call D1.out, (show Aside _ from fun j hj => ?_)⟩
              by_cases e : j = q
              · subst e; exact HNO.out
              · exact HU.out j (by omega)
            case measure => simp [intOf]; omega
          have f2 : decide (max ((p : Int) - (q : Int)) ((q : Int) - (p : Int)) ≤ xf) = true := decide_eq_true e2
          have hst := HST.out
          have hsat := HSAT.out
          obtain ⟨sb, hsb⟩ : ∃ sb, sb = stB (r.d.dg (q : Nat)) (k : Nat) := ⟨_, rfl⟩
          rw [← hsb] at hst hsat
          clear HST HSAT hsb
          cases sb with
          | false =>
            have HST := Lib.hid hst
            have HNO := Lib.hid (show r.d.srcAt l p k q = false by rw [hsat]; simp)
            clear e1 e2 hst hsat
            refine wp_region_quiet_below (by kernel_rfl) (by kernel_rfl) ?_
            repeat (first
              | (have hxx := HRG; clear HRG; refine wpQuiet_load_wholeG (o := ⟨some 69, _, _, _, _, _⟩) ?_ 26 (.tmp 4) ?_ w.heap.size 0 ?_ r.cells _ hxx.out Try.underlying26 rfl size_refrow ?_; kernel_rfl; rfl; rfl; simp only [Act.put, List.setIfInBounds_toArray, List.set_cons_zero, List.set_cons_succ]; clear hxx)
              | go_big_quiet_step ((go_at_call 42; exact Calls.regrown_of (HST.out _ (HBR.out _ _)))) | quiet_step ((go_at_call 42; exact Calls.regrown_of (HST.out _ (HBR.out _ _)))))
            refine wpQuiet_nil ?_
            intro wq hwq
            have D1 := Lib.hid (show Below wr.heap.size wr wq by obtain ⟨pp, rfl⟩ := hwq; exact below_regrown _ _ _)
            clear hwq r65 r78 r87
            go_wp2
            go_roundw
            case rel =>
              refine ⟨q + 1, by omega, by go_num, HB.out.call D1.out, (show Aside _ from fun j hj => ?_)⟩
              by_cases e : j = q
              · subst e; exact HNO.out
              · exact HU.out j (by omega)
            case measure => simp [intOf]; omega
          | true =>
            have HST := Lib.hid hst
            by_cases e4 : 0 ≤ o
            case neg =>
              have f4 : decide (0 ≤ o) = false := decide_eq_false e4
              have HNO := Lib.hid (show r.d.srcAt l p k q = false by rw [hsat, f4]; simp)
              clear e1 e2 hst hsat e4
              refine wp_region_quiet_below (by kernel_rfl) (by kernel_rfl) ?_
              repeat (first
                | (have hxx := HRG; clear HRG; refine wpQuiet_load_wholeG (o := ⟨some 69, _, _, _, _, _⟩) ?_ 26 (.tmp 4) ?_ w.heap.size 0 ?_ r.cells _ hxx.out Try.underlying26 rfl size_refrow ?_; kernel_rfl; rfl; rfl; simp only [Act.put, List.setIfInBounds_toArray, List.set_cons_zero, List.set_cons_succ]; clear hxx)
                | go_big_quiet_step ((go_at_call 42; exact Calls.regrown_of (HST.out _ (HBR.out _ _)))) | quiet_step ((go_at_call 42; exact Calls.regrown_of (HST.out _ (HBR.out _ _)))))
              refine wpQuiet_nil ?_
              intro wq hwq
              have D1 := Lib.hid (show Below wr.heap.size wr wq by obtain ⟨pp, rfl⟩ := hwq; exact below_regrown _ _ _)
              clear hwq r65 r78 r87
              go_wp2
              go_roundw
              case rel =>
                refine ⟨q + 1, by omega, by go_num, HB.out.call D1.out, (show Aside _ from fun j hj => ?_)⟩
                by_cases e : j = q
                · subst e; exact HNO.out
                · exact HU.out j (by omega)
              case measure => simp [intOf]; omega
            have f4 : decide (0 ≤ o) = true := decide_eq_true e4
            by_cases e5 : o + r.lag ≤ (k : Int)
            case neg =>
              have f5 : decide (o + r.lag ≤ (k : Int)) = false := decide_eq_false e5
              have HNO := Lib.hid (show r.d.srcAt l p k q = false by rw [hsat, f5]; simp)
              clear e1 e2 hst hsat e4 e5
              refine wp_region_quiet_below (by kernel_rfl) (by kernel_rfl) ?_
              repeat (first
                | (have hxx := HRG; clear HRG; refine wpQuiet_load_wholeG (o := ⟨some 69, _, _, _, _, _⟩) ?_ 26 (.tmp 4) ?_ w.heap.size 0 ?_ r.cells _ hxx.out Try.underlying26 rfl size_refrow ?_; kernel_rfl; rfl; rfl; simp only [Act.put, List.setIfInBounds_toArray, List.set_cons_zero, List.set_cons_succ]; clear hxx)
                | go_big_quiet_step ((go_at_call 42; exact Calls.regrown_of (HST.out _ (HBR.out _ _)))) | quiet_step ((go_at_call 42; exact Calls.regrown_of (HST.out _ (HBR.out _ _)))))
              refine wpQuiet_nil ?_
              intro wq hwq
              have D1 := Lib.hid (show Below wr.heap.size wr wq by obtain ⟨pp, rfl⟩ := hwq; exact below_regrown _ _ _)
              clear hwq r65 r78 r87
              go_wp2
              go_roundw
              case rel =>
                refine ⟨q + 1, by omega, by go_num, HB.out.call D1.out, (show Aside _ from fun j hj => ?_)⟩
                by_cases e : j = q
                · subst e; exact HNO.out
                · exact HU.out j (by omega)
              case measure => simp [intOf]; omega
            have f5 : decide (o + r.lag ≤ (k : Int)) = true := decide_eq_true e5
            have HYES := Lib.hid (HYE.out (by rw [hsat, f2, f4, f5]; simp; omega))
            clear e1 e2 hst hsat e4 e5
            refine wp_region_quiet_below (by kernel_rfl) (by kernel_rfl) ?_
            repeat (first
              | (have hxx := HRG; clear HRG; refine wpQuiet_load_wholeG (o := ⟨some 69, _, _, _, _, _⟩) ?_ 26 (.tmp 4) ?_ w.heap.size 0 ?_ r.cells _ hxx.out Try.underlying26 rfl size_refrow ?_; kernel_rfl; rfl; rfl; simp only [Act.put, List.setIfInBounds_toArray, List.set_cons_zero, List.set_cons_succ]; clear hxx)
              | go_big_quiet_step ((go_at_call 42; exact Calls.regrown_of (HST.out _ (HBR.out _ _)))) | quiet_step ((go_at_call 42; exact Calls.regrown_of (HST.out _ (HBR.out _ _)))))
            refine wpQuiet_nil ?_
            intro wq hwq
            have D1 := Lib.hid (show Below wr.heap.size wr wq by obtain ⟨pp, rfl⟩ := hwq; exact below_regrown _ _ _)
            clear hwq r65 r78 r87
            go_wp2
            go_ret
            exact ⟨ret_bool HYES.out.symm, (HB.out.call D1.out).b⟩
        · obtain rfl : q = N := by omega
          have hsn : r.d.srcAny (truthD l) p k = false := by
            rw [Bool.eq_false_iff]
            intro h
            obtain ⟨j, hj, h2⟩ := HSR.out.1 h
            rw [HU.out j hj] at h2; cases h2
          have HSN := Lib.hid hsn
          have HB' := Lib.hid HB.out
          clear HB HU hsn
          go_wp2
          go_ret
          exact ⟨ret_bool (by rw [HNN.out, HSN.out]), HB'.out.b⟩
set_option maxRecDepth 100000 in
set_option maxHeartbeats 4000000 in
theorem Comes_no (r : RwM) (A : Option Addr) (c : Nat) (l : List Int) (p k : Nat) (w : World) (hr : r.At w w.heap.size) (hp : p < r.dug.l.length) (hk1 : 1 ≤ k) (hst : stB (r.d.dg (p : Nat)) (k : Nat) = false) :
    Calls Try.prog 54 #[.agg r.cells.toArray, .slice A l.length c, .int .i64 p, .int .i64 k] w fun e w' => e = .returned (.bool (r.d.fallB (truthD l) p k)) ∧ Below w.heap.size w w' := by
  have l0 : Lies (w.alloc (.cells r.cells.toArray 26)) w.heap.size 26 r.cells.toArray := Lies.fresh _ _ _
  have b0 : Below w.heap.size w (w.alloc (.cells r.cells.toArray 26)) := (by repeat (first | (with_reducible assumption) | (with_reducible exact Below.refl _ _) | (with_reducible refine Below.drew ?_) | (with_reducible refine below_drewN ?_ _) | ((with_reducible refine Below.setCell ?_ ?_ _); rotate_left; focus (first | (simp; done) | (simp; omega) | omega)) | ((with_reducible refine Below.alloc ?_ ?_ _); rotate_left; focus (first | (simp; done) | (simp; omega) | omega))))
  have hfall : r.d.fallB (truthD l) p k = false := by unfold RwD.fallB; rw [if_neg (by omega), hst]; rfl
  have hSP := fun W (hb : Below w.heap.size w W) => refStands_any r p (r.d.dg (p : Nat)) ((k : Nat) : Int) W ((hr.dug.below hb).more hb.size) (by show r.dug.l[p]? = some (r.dug.l.getD p 0); simp [List.getD, hp]) hr.ld
  rw [hst] at hSP
  rw [hfall]
  have hk0 : ((k : Int) == 0) = false := by simp; omega
  have L0 := Lib.hid l0
  have B0 := Lib.hid b0
  have HSP := Lib.hid hSP
  clear l0 b0 hSP hr hp hst hfall
  go_enter Try.func54, Try.ntmps54
  go_upto_region 1 with (fail)
  change Code.wp _ _ _ _ (w.alloc (.cells r.cells.toArray 26))
  generalize w.alloc (.cells r.cells.toArray 26) = w0 at *
  go_wp2_with (first
    | (refine wpList_load_row (o := ⟨some 17, _, _, _, _, _⟩) ?_ 26 (.tmp 4) ?_ w.heap.size ?_ 26 r.cells.toArray (0, 0) _ L0.out Try.underlying26 rfl size_refrow ?_; rfl; rfl; rfl)
    | (go_at_call 42; refine (HSP.out _ B0.out).mono ?_; rintro e w1 ⟨rfl, hb1⟩))
  go_ret
  exact ⟨rfl, B0.out.trans (hb1.mono B0.out.size)⟩
theorem Comes_any (r : RwM) (A : Option Addr) (c : Nat) (l : List Int) (p k : Nat) (w : World) (hr : r.At w w.heap.size) (hok : r.d.Ok) (hA : Sl w w.heap.size 1 encI A l) (hl : l.length = r.dug.l.length) (ho : ∀ o, o ∈ l → -1 ≤ o ∧ o ≤ 30) (hp : p < r.dug.l.length) (hk : k ≤ r.ws.l.length) (hk1 : 1 ≤ k) :
    Calls Try.prog 54 #[.agg r.cells.toArray, .slice A l.length c, .int .i64 p, .int .i64 k] w fun e w' => e = .returned (.bool (r.d.fallB (truthD l) p k)) ∧ Below w.heap.size w w' := by
  cases hst : stB (r.d.dg (p : Nat)) (k : Nat) with
  | false => exact Comes_no r A c l p k w hr hp hk1 hst
  | true => exact Comes_weeks r A c l p k w hr hok hA hl ho hp hk hk1 hst
end Go.Proofs.Ytkjhofbjjogmlaa

namespace Go.Proofs.Ytkjhofbjjogmlaa
open Go.RowKit Go.Lib

def RwD.numF (r : RwD) (l : List Int) (p : Nat) : Bool := decide (0 ≤ l.getD p 0) && r.lastB p
def RwD.numK (r : RwD) (l : List Int) (k : Nat) : Nat := ((List.range k).filter (r.numF l)).length
theorem numK_succ (r : RwD) (l : List Int) (k : Nat) : r.numK l (k + 1) = r.numK l k + (if r.numF l k then 1 else 0) := by
  unfold RwD.numK
  rw [List.range_succ, List.filter_append, List.length_append]
  congr 1
  rw [List.filter_cons]
  split <;> rfl
theorem numK_le (r : RwD) (l : List Int) (k : Nat) : r.numK l k ≤ k := by
  unfold RwD.numK
  exact Nat.le_trans (List.length_filter_le _ _) (by simp)
/-- The number of a list of onsets is that of its truth. -/
theorem numK_ill {r : RwD} {l : List Int} (hl : l.length = r.dug.length) (h30 : r.ws.length ≤ 30) (ho : ∀ o, o ∈ l → -1 ≤ o ∧ o ≤ r.ws.length) : r.numK l r.dug.length = (r.illB (truthD l)).length := by
  unfold RwD.numK RwD.illB thoseD
  rw [List.filter_filter]
  congr 1
  refine List.filter_congr fun p hp => ?_
  have hp' := List.mem_range.1 hp
  have h := ho l[p] (List.getElem_mem (by omega))
  unfold RwD.numF
  rw [truthD_at, dif_pos (by omega), List.getD, List.getElem?_eq_getElem (by omega), Option.getD_some]
  congr 1
  rw [decide_eq_decide]
  unfold in31
  split <;> omega
set_option maxRecDepth 100000 in
set_option maxHeartbeats 4000000 in
theorem Number_any (r : RwM) (A : Option Addr) (c : Nat) (l : List Int) (w : World) (hr : r.At w w.heap.size) (hok : r.d.Ok) (hA : Sl w w.heap.size 1 encI A l) (hl : l.length = r.dug.l.length) :
    Calls Try.prog 30 #[.agg r.cells.toArray, .slice A l.length c] w fun e w' => e = .returned (.int .i64 (r.d.numK l r.d.dug.length)) ∧ Below w.heap.size w w' := by
  obtain ⟨N, hN⟩ : ∃ N, N = r.dug.l.length := ⟨_, rfl⟩
  have hnn : r.n = (N : Int) := by rw [hN]; exact hok.dug.symm
  have hN10 : N ≤ 10 := by have := hok.n1; have h2 : r.d.n = r.n := rfl; omega
  have hY30 : r.ws.l.length ≤ 30 := hok.nw
  have hYz : (r.ws.l.length : Int) ≤ 30 := by omega
  have hla : l.length = N := by omega
  have l0 : Lies (w.alloc (.cells r.cells.toArray 26)) w.heap.size 26 r.cells.toArray := Lies.fresh _ _ _
  have b0 : Below w.heap.size w (w.alloc (.cells r.cells.toArray 26)) := (by repeat (first | (with_reducible assumption) | (with_reducible exact Below.refl _ _) | (with_reducible refine Below.drew ?_) | (with_reducible refine below_drewN ?_ _) | ((with_reducible refine Below.setCell ?_ ?_ _); rotate_left; focus (first | (simp; done) | (simp; omega) | omega)) | ((with_reducible refine Below.alloc ?_ ?_ _); rotate_left; focus (first | (simp; done) | (simp; omega) | omega))))
  have hSQ := fun (q : Nat) (hq : q < N) W (hb : Below w.heap.size w W) => (refStands_any r q (r.d.dg (q : Nat)) (r.ws.l.length : Int) W ((hr.dug.below hb).more hb.size) (by show r.dug.l[q]? = some (r.dug.l.getD q 0); rw [hN] at hq; simp [List.getD, hq]) hr.ld : Calls Try.prog 42 #[.agg r.cells.toArray, .int .i64 q, .int .i64 r.ws.l.length] W fun e w' => e = .returned (.bool (r.d.lastB q)) ∧ Below W.heap.size W w')
  have hres : r.d.dug.length = N := hN.symm
  rw [hres]
  have L0 := Lib.hid l0
  have B0 := Lib.hid b0
  have HSQ := Lib.hid hSQ
  have HNE := Lib.hid hnn
  have HAA := Lib.hid hA
  have HLA := Lib.hid hla
  clear l0 b0 hSQ hnn hA hla hr hok hl hN hres
  go_enter Try.func30, Try.ntmps30
  go_upto_region 1 with (fail)
  change Code.wp _ _ _ _ (w.alloc (.cells r.cells.toArray 26))
  generalize w.alloc (.cells r.cells.toArray 26) = w0 at *
  go_wp2
  go_loopw [5, 6] (fun s5 s6 wr => ∃ k : Nat, k ≤ N ∧ s5 = .int .i64 (r.d.numK l k : Nat) ∧ s6 = .int .i64 k ∧ Aside (Below w.heap.size w wr) ∧ Aside (Lies wr w.heap.size 26 r.cells.toArray)) (fun _ i _ => N - (intOf i).toNat)
  case atStart => exact ⟨0, by omega, rfl, rfl, B0.out, L0.out⟩
  case round =>
    obtain ⟨k, hk, rfl, rfl, HB, HL⟩ := hrel
    have cn : wr.cell? ⟨w.heap.size, 0, none⟩ = some (.int .i64 N) := by rw [← HNE.out]; exact HL.out.at_ 0
    by_cases hlt : k < N
    · have hltz : (k : Int) < (N : Int) := by omega
      have hk0 : (0 : Int) ≤ (k : Int) := by omega
      have hla := HLA.out
      have hll : (k : Int) < (l.length : Int) := by omega
      obtain ⟨o, ho⟩ : ∃ o, l[k]? = some o := ⟨l[k]'(by omega), by simp⟩
      have hog : l.getD k 0 = o := by rw [List.getD, ho]; rfl
      obtain ⟨lb, lo, hAe, hlb, c16'⟩ := HAA.out.cell1 ho
      have c16 : wr.cell? ⟨lb, lo + k, none⟩ = some (.int .i64 o) := (HB.out.cell (p := ⟨lb, lo + k, none⟩) hlb).trans c16'
      have hsucc := numK_succ r.d l k
      have hle := numK_le r.d l k
      have hfk : r.d.numF l k = (decide (0 ≤ o) && r.d.lastB k) := by unfold RwD.numF; rw [hog]
      rw [hfk] at hsucc
      have HST := Lib.hid (fun (_ : True) => HSQ.out k hlt)
      have hcz : (r.d.numK l k : Int) ≤ 10 := by omega
      have hcz0 : (0 : Int) ≤ (r.d.numK l k : Int) := by omega
      have a22 : wr.cell? ⟨w.heap.size, 1, none⟩ = some (.slice r.ws.A r.ws.l.length r.ws.c) := HL.out.at_ 1
      have HBB := Lib.hid HB.out
      have HLL := Lib.hid HL.out
      have HSU := Lib.hid hsucc
      subst hAe
      clear ho hog hla c16' hsucc hfk HB HL hle
      by_cases h0 : 0 ≤ o
      · have d0 : decide (0 ≤ o) = true := decide_eq_true h0
        have hst := HST.out trivial
        have hsu := HSU.out
        rw [d0, Bool.true_and] at hsu
        rw [show r.d.lastB k = stB (r.d.dg (k : Nat)) (r.ws.l.length : Int) from rfl] at hsu
        obtain ⟨sb, hsb⟩ : ∃ sb, sb = stB (r.d.dg (k : Nat)) (r.ws.l.length : Int) := ⟨_, rfl⟩
        rw [← hsb] at hst hsu
        have HSU := Lib.hid hsu
        have HST := Lib.hid hst
        clear hst hsu hsb h0
        cases sb with
        | false =>
          go_wp2_with (first
            | ((fail_if_success (have hxx := D1)); refine wpList_load_rowG (o := ⟨some 19, _, _, _, _, _⟩) ?_ 26 (.tmp 2) ?_ w.heap.size ?_ 26 r.cells.toArray (0, 0) _ HLL.out Try.underlying26 rfl size_refrow ?_; kernel_rfl; rfl; rfl)
            | ((fail_if_success (have hxx := D1)); go_at_call 42; refine (HST.out _ HBB.out).mono ?_; rintro e w1 ⟨rfl, hb1⟩; have D1 := Lib.hid hb1))
          go_roundw
          case rel => exact ⟨k + 1, by omega, by rw [HSU.out]; rfl, by go_num, HBB.out.trans (D1.out.mono HBB.out.size), HLL.out.call D1.out⟩
          case measure => simp [intOf]; omega
        | true =>
          go_wp2_with (first
            | ((fail_if_success (have hxx := D1)); refine wpList_load_rowG (o := ⟨some 19, _, _, _, _, _⟩) ?_ 26 (.tmp 2) ?_ w.heap.size ?_ 26 r.cells.toArray (0, 0) _ HLL.out Try.underlying26 rfl size_refrow ?_; kernel_rfl; rfl; rfl)
            | ((fail_if_success (have hxx := D1)); go_at_call 42; refine (HST.out _ HBB.out).mono ?_; rintro e w1 ⟨rfl, hb1⟩; have D1 := Lib.hid hb1))
          go_roundw
          case rel => exact ⟨k + 1, by omega, by rw [HSU.out]; go_num, by go_num, HBB.out.trans (D1.out.mono HBB.out.size), HLL.out.call D1.out⟩
          case measure => simp [intOf]; omega
      · have d0 : decide (0 ≤ o) = false := decide_eq_false h0
        have hsu := HSU.out
        rw [d0, Bool.false_and] at hsu
        have HSU := Lib.hid hsu
        clear hsu h0
        go_wp2
        go_roundw
        case rel => exact ⟨k + 1, by omega, by rw [HSU.out]; rfl, by go_num, HBB.out, HLL.out⟩
        case measure => simp [intOf]; omega
    · obtain rfl : k = N := by omega
      have HBB := Lib.hid HB.out
      clear HB HL
      go_wp2
      go_ret
      exact ⟨rfl, HBB.out⟩
end Go.Proofs.Ytkjhofbjjogmlaa

namespace Go.Proofs.Ytkjhofbjjogmlaa
open Go.RowKit Go.Lib

/-- x is r, where aphids have it no harder. -/
structure Easier (r x : RwD) : Prop where
  n : x.n = r.n
  dug : x.dug = r.dug
  sh : x.sh = r.sh
  old : x.old = r.old
  ns : x.ns = r.ns
  nw : x.ws.length = r.ws.length
  lag : 1 ≤ x.lag ∧ x.lag ≤ r.lag
  cl : r.cl = false → x.cl = false
  wk : ∀ week, (r.wk week).f ≤ (x.wk week).f ∧ ((r.wk week).o = true → (x.wk week).o = true)
  w10 : ∀ y, y ∈ x.ws → 0 ≤ y.f ∧ y.f ≤ 10
section
variable {r x : RwD}
theorem Easier.dg (h : Easier r x) (p : Int) : x.dg p = r.dg p := by unfold RwD.dg; rw [h.dug]
theorem Easier.wins (h : Easier r x) : x.wins = r.wins := by unfold RwD.wins; rw [h.sh, h.old, h.ns]
theorem Easier.fault (h : Easier r x) (hf : r.fault = 0) : x.fault = 0 := by
  have hf2 := hf
  obtain ⟨hok, hns, hdg, hlw, hln⟩ := fault_ok hf2
  refine fault_yes (by rw [h.nw]; exact hlw) (by rw [h.ns]; exact hln) ?_
  unfold RwD.validB
  simp only [Bool.and_eq_true, inB_iff, decide_eq_true_eq, List.all_eq_true]
  have hl := h.lag
  have hl2 := hok.lag
  refine ⟨⟨⟨⟨⟨⟨⟨⟨by rw [h.n]; exact hok.n0, by rw [h.n]; exact hok.n1⟩, fun y hy => h.w10 y hy⟩, by omega⟩, by rw [h.sh]; exact hok.sh⟩, by rw [h.old]; exact hok.old⟩, by rw [h.dug, h.n]; exact hok.dug⟩, fun m hm => ?_⟩, fun y hy => ?_⟩
  · rw [h.nw]; exact hdg m (by rw [← h.dug]; exact hm)
  · have := hns y (by rw [← h.ns]; exact hy)
    unfold RwD.haveB at *
    rw [h.n, h.nw, h.dg]; exact this
end
/-- Week i with more flight, or with aphids from elsewhere. -/
theorem wk_set (r : RwD) (i : Nat) (y : Wk) (hi : i < r.ws.length) (week : Int) : ({ r with ws := r.ws.set i y } : RwD).wk week = if (week - 1).toNat = i then y else r.wk week := by
  unfold RwD.wk
  simp only [List.getD, List.getElem?_set]
  by_cases e : i = (week - 1).toNat
  · subst e; rw [if_pos rfl, if_pos hi, if_pos rfl]; rfl
  · rw [if_neg e, if_neg (fun h => e h.symm)]
theorem Easier.refl {r : RwD} (hok : r.Ok) : Easier r r := ⟨rfl, rfl, rfl, rfl, rfl, rfl, ⟨hok.lag.1, Int.le_refl _⟩, id, fun _ => ⟨Int.le_refl _, id⟩, hok.wk⟩
theorem Easier.week {r : RwD} (hok : r.Ok) {i : Nat} {y z : Wk} (hi : r.ws[i]? = some z) (hf : z.f ≤ y.f ∧ y.f ≤ 10) (ho : z.o = true → y.o = true) : Easier r { r with ws := r.ws.set i y } := by
  have hl := (List.getElem?_eq_some_iff.1 hi).1
  have hz := hok.wk z (List.mem_of_getElem? hi)
  refine ⟨rfl, rfl, rfl, rfl, rfl, List.length_set, ⟨hok.lag.1, Int.le_refl _⟩, id, fun week => ?_, fun v hv => ?_⟩
  · rw [wk_set r i y hl]
    split
    · rename_i e
      have : r.wk week = z := by unfold RwD.wk; rw [e, List.getD, hi]; rfl
      rw [this]; exact ⟨hf.1, ho⟩
    · exact ⟨Int.le_refl _, id⟩
  · rcases List.mem_or_eq_of_mem_set hv with h | rfl
    · exact hok.wk v h
    · exact ⟨by omega, hf.2⟩
theorem Easier.lagged {r : RwD} (hok : r.Ok) (k : Int) (h : 1 ≤ k ∧ k ≤ r.lag) : Easier r { r with lag := k } :=
  ⟨rfl, rfl, rfl, rfl, rfl, rfl, h, id, fun _ => ⟨Int.le_refl _, id⟩, hok.wk⟩
theorem Easier.clean {r : RwD} (hok : r.Ok) : Easier r { r with cl := false } :=
  ⟨rfl, rfl, rfl, rfl, rfl, rfl, ⟨hok.lag.1, Int.le_refl _⟩, fun _ => rfl, fun _ => ⟨Int.le_refl _, id⟩, hok.wk⟩
end Go.Proofs.Ytkjhofbjjogmlaa

namespace Go.Proofs.Ytkjhofbjjogmlaa
open Go.RowKit Go.Lib

/-- What stands behind the switch: the row x, easier than r. -/
structure AphX (r x : RwM) (w : World) (gx : Nat) (W : World) : Prop where
  o : Lies W gx 26 x.cells.toArray
  a : x.At W W.heap.size
  t : ThinM x
  e : Easier r.d x.d
  r : Lies W w.heap.size 26 r.cells.toArray
  b : Below w.heap.size w W
theorem aph_mk {r x : RwM} {w W : World} {gx : Nat} (ho : Lies W gx 26 x.cells.toArray) (hws : Sl W W.heap.size 2 encW x.ws.A x.ws.l) (hl : x.ws.l.length = r.ws.l.length) (hd : x.dug = r.dug) (hn : x.ns = r.ns)
    (he : Easier r.d x.d) (hr : r.At w w.heap.size) (ht : ThinM r) (hL : Lies W w.heap.size 26 r.cells.toArray) (hB : Below w.heap.size w W) : AphX r x w gx W := by
  have ha := hr.below hB hB.size
  refine ⟨ho, ⟨hws, by rw [hd]; exact ha.dug, by rw [hn]; exact ha.ns, by rw [hl]; exact ha.lw, by rw [hd]; exact ha.ld, by rw [hn]; exact ha.ln, by rw [hn]; exact ha.kn⟩, ⟨by rw [hl]; exact ht.w, by rw [hn]; exact ht.n, by rw [hd]; exact ht.d, by rw [hd]; exact ht.nn⟩, he, hL, hB⟩
/-- The week that w points to, ahead of the switch. -/
structure Aph8 (r : RwM) (w : World) (gx gq oq : Nat) (f : Int) (o : Bool) (W : World) : Prop where
  cf : W.cell? ⟨gq, oq, none⟩ = some (.int .i64 f)
  co : W.cell? ⟨gq, oq + 1, none⟩ = some (.bool o)
  ff : W.frozen? ⟨gq, oq, none⟩ = false
  fo : W.frozen? ⟨gq, oq + 1, none⟩ = false
  f0 : 0 ≤ f ∧ f ≤ 10
  cl : W.cell? ⟨gx, 2, none⟩ = some (.int .i64 r.lag)
  cc : W.cell? ⟨gx, 5, none⟩ = some (.bool r.cl)
  fl : W.frozen? ⟨gx, 2, none⟩ = false
  fc : W.frozen? ⟨gx, 5, none⟩ = false
  e0 : ∀ v, f ≤ v → v ≤ 10 → ∃ x, AphX r x w gx (W.setCell ⟨gq, oq, none⟩ (.int .i64 v))
  e1 : ∃ x, AphX r x w gx (W.setCell ⟨gq, oq + 1, none⟩ (.bool true))
  e2 : ∀ k, 1 ≤ k → k ≤ r.lag → ∃ x, AphX r x w gx (W.setCell ⟨gx, 2, none⟩ (.int .i64 k))
  e3 : ∃ x, AphX r x w gx (W.setCell ⟨gx, 5, none⟩ (.bool false))
theorem setCell_ne (w : World) (g a b : Nat) (u : Value) (h : a ≠ b) : (w.setCell ⟨g, a, none⟩ u).cell? ⟨g, b, none⟩ = w.cell? ⟨g, b, none⟩ :=
  World.cell?_setCell_other w _ _ u (fun h' => h (congrArg Addr.off h'))
/-- A struct of k cells in a row of the call's own, one cell of it written. -/
theorem own_setK {α : Type} {enc : α → List Value} {k : Nat} (hk : ∀ x, (enc x).length = k) {w : World} {base : Nat} {e : TypeId} {A : Option Addr} {c p : Nat} {l : List α} {z : α} (h : w.ownsRow base e k (.slice A l.length c) l.length (l.flatMap enc)) (hp : l[p]? = some z) :
    ∃ g, A = some ⟨g, 0, none⟩ ∧ base ≤ g ∧ g < w.heap.size ∧ (∀ j u, (enc z)[j]? = some u → w.cell? ⟨g, p * k + j, none⟩ = some u) ∧ (∀ i, w.frozen? ⟨g, i, none⟩ = false) ∧
      (∀ q u y, (enc y)[q]? = some u → (∀ j, j ≠ q → (enc y)[j]? = (enc z)[j]?) → Sl (w.setCell ⟨g, p * k + q, none⟩ u) w.heap.size k enc A (l.set p y)) := by
  obtain ⟨A', c', e1, -, hS⟩ := Sl.of_own (enc := enc) hk h rfl
  cases e1
  have hlt := (List.getElem?_eq_some_iff.1 hp).1
  rcases h.2 with ⟨hv, h0⟩ | ⟨g, cap, cur, hv, hbg, hgg, hnc, hcm, hcs, htake⟩
  · omega
  · cases hv
    have hl : Lies w g e cur := hgg
    have hg := hl.in_
    have hcell : ∀ i x, l[i]? = some x → ∀ j u, (enc x)[j]? = some u → w.cell? ⟨g, i * k + j, none⟩ = some u := fun i x hx j u hu => by
      obtain ⟨b, off, e2, _, hc⟩ := hS.at_ hx
      cases e2
      simpa using hc j u hu
    refine ⟨g, rfl, hbg, hg, hcell p z hp, fun i => hl.free i, fun q u y hq hj hne => ⟨g, 0, rfl, hg, fun i y' hy j u' hu => ?_⟩⟩
    rw [Nat.zero_add]
    rw [List.getElem?_set] at hy
    have hqk : q < k := by have := (List.getElem?_eq_some_iff.1 hq).1; rwa [hk] at this
    have hjk : j < k := by have := (List.getElem?_eq_some_iff.1 hu).1; rwa [hk] at this
    by_cases e2 : p = i
    · subst e2
      rw [if_pos rfl, if_pos hlt] at hy
      cases hy
      by_cases e3 : j = q
      · subst e3
        rw [hq] at hu
        cases hu
        have hz : ∃ v, (enc z)[j]? = some v := ⟨(enc z)[j]'(by rw [hk]; exact hjk), by simp⟩
        obtain ⟨v, hv⟩ := hz
        exact World.cell?_setCell_same _ _ _ (hcell p z hp j v hv)
      · rw [setCell_ne _ _ _ _ _ (by omega)]
        exact hcell p z hp j u' (by rw [← hj j e3]; exact hu)
    · rw [if_neg e2] at hy
      rw [setCell_ne _ _ _ _ _ (fun h => e2 ?_)]
      · exact hcell i y' hy j u' hu
      · have h1 : (p * k + q) / k = (i * k + j) / k := by rw [h]
        rw [Nat.mul_comm p, Nat.mul_comm i, Nat.mul_add_div (by omega), Nat.mul_add_div (by omega), Nat.div_eq_of_lt hqk, Nat.div_eq_of_lt hjk] at h1
        omega
theorem own_setW {w : World} {base : Nat} {e : TypeId} {A : Option Addr} {c p : Nat} {l : List Wk} {z : Wk} (h : w.ownsRow base e 2 (.slice A l.length c) l.length (l.flatMap encW)) (hp : l[p]? = some z) :
    ∃ g, A = some ⟨g, 0, none⟩ ∧ base ≤ g ∧ g < w.heap.size ∧ w.cell? ⟨g, p * 2, none⟩ = some (.int .i64 z.f) ∧ w.cell? ⟨g, p * 2 + 1, none⟩ = some (.bool z.o) ∧ (∀ k, w.frozen? ⟨g, k, none⟩ = false) ∧
      (∀ v, Sl (w.setCell ⟨g, p * 2, none⟩ (.int .i64 v)) w.heap.size 2 encW A (l.set p ⟨v, z.o⟩)) ∧ (∀ v, Sl (w.setCell ⟨g, p * 2 + 1, none⟩ (.bool v)) w.heap.size 2 encW A (l.set p ⟨z.f, v⟩)) := by
  obtain ⟨g, h1, h2, h3, h4, h5, h6⟩ := own_setK (enc := encW) (fun _ => rfl) h hp
  refine ⟨g, h1, h2, h3, h4 0 _ rfl, h4 1 _ rfl, h5, fun v => h6 0 _ ⟨v, z.o⟩ rfl (fun j hj => ?_), fun v => h6 1 _ ⟨z.f, v⟩ rfl (fun j hj => ?_)⟩
  · match j, hj with
    | 1, _ => rfl
    | j + 2, _ => rfl
  · match j, hj with
    | 0, _ => rfl
    | j + 2, _ => rfl
/-- With no week, w points to one of its own. -/
theorem Aph8.none {r x0 : RwM} {w W : World} {gx gw : Nat} {A5 : Option Addr} {c5 B : Nat} (hx0 : x0 = { r with ws := ⟨A5, r.ws.l, c5⟩ }) (ho : Lies W gx 26 x0.cells.toArray) (hw : Lies W gw 76 #[.int .i64 0, .bool false]) (hws : W.ownsRow B 76 2 (.slice A5 r.ws.l.length c5) r.ws.l.length (r.ws.l.flatMap encW))
    (hr : r.At w w.heap.size) (ht : ThinM r) (hL : Lies W w.heap.size 26 r.cells.toArray) (hB : Below w.heap.size w W) (hf : r.d.fault = 0) (hg : w.heap.size < gx) (hg2 : gx < B) (hg3 : ∀ j, (Value.slice A5 r.ws.l.length c5).ownBlock = some j → j < gw) (hg4 : gx < gw) :
    Aph8 r w gx gw 0 0 false W := by
  obtain ⟨hok, -, -, -, -⟩ := fault_ok hf
  have hd0 : x0.d = r.d := by subst hx0; rfl
  have key : ∀ (g i : Nat) (u : Value) (x : RwM), Lies (W.setCell ⟨g, i, Option.none⟩ u) gx 26 x.cells.toArray → (g = gx ∨ g = gw) → x.ws = ⟨A5, r.ws.l, c5⟩ → x.dug = r.dug → x.ns = r.ns → Easier r.d x.d → AphX r x w gx (W.setCell ⟨g, i, Option.none⟩ u) := fun g i u x hl hgg h1 h2 h3 he => by
    have hO := Only.set g i W u
    have ho5 := own_keep hws fun j hj => hO.block j (by have := (own_at hws hj).1; have := hg3 j hj; omega)
    obtain ⟨_, _, e1, _, s1⟩ := Sl.of_own (enc := encW) (fun _ => rfl) ho5 rfl
    cases e1
    exact aph_mk hl (by rw [h1]; exact s1) (by rw [h1]) h2 h3 he hr ht (hO.lies hL (by omega)) (hO.below hB (by omega))
  have hlag := hok.lag
  refine ⟨hw.at_ 0, hw.at_ 1, hw.free 0, hw.free 1, by omega, ?_, ?_, ho.free 2, ho.free 5, fun v _ _ => ⟨x0, ?_⟩, ⟨x0, ?_⟩, fun k h1 h2 => ⟨{ x0 with lag := k }, ?_⟩, ⟨{ x0 with cl := false }, ?_⟩⟩
  · rw [ho.at_]; subst hx0; rfl
  · rw [ho.at_]; subst hx0; rfl
  · exact key gw 0 _ x0 (ho.other (by simp; omega) _) (.inr rfl) (by rw [hx0]) (by rw [hx0]) (by rw [hx0]) (by rw [hd0]; exact Easier.refl hok)
  · exact key gw 1 _ x0 (ho.other (by simp; omega) _) (.inr rfl) (by rw [hx0]) (by rw [hx0]) (by rw [hx0]) (by rw [hd0]; exact Easier.refl hok)
  · exact key gx 2 _ _ (by have h := ho.set 2 (.int .i64 k); unfold RwM.cells at *; simpa using h) (.inl rfl) (by rw [hx0]) (by rw [hx0]) (by rw [hx0]) (by subst hx0; exact Easier.lagged hok k ⟨h1, h2⟩)
  · exact key gx 5 _ _ (by have h := ho.set 5 (.bool false); unfold RwM.cells at *; simpa using h) (.inl rfl) (by rw [hx0]) (by rw [hx0]) (by rw [hx0]) (by subst hx0; exact Easier.clean hok)
/-- With weeks, it points to one of x's. -/
theorem Aph8.some {r x0 : RwM} {w W : World} {gx g5 p : Nat} {A5 : Option Addr} {c5 B : Nat} {z : Wk} (hx0 : x0 = { r with ws := ⟨A5, r.ws.l, c5⟩ }) (ho : Lies W gx 26 x0.cells.toArray) (hz : r.ws.l[p]? = Option.some z) (hA : A5 = Option.some ⟨g5, 0, Option.none⟩) (hws : W.ownsRow B 76 2 (.slice A5 r.ws.l.length c5) r.ws.l.length (r.ws.l.flatMap encW))
    (hr : r.At w w.heap.size) (ht : ThinM r) (hL : Lies W w.heap.size 26 r.cells.toArray) (hB : Below w.heap.size w W) (hf : r.d.fault = 0) (hg : w.heap.size < gx) (hg2 : gx < B) :
    Aph8 r w gx g5 (p * 2) z.f z.o W := by
  obtain ⟨hok, -, -, -, -⟩ := fault_ok hf
  obtain ⟨g, e1, hbg, hgh, cf, co, ff, sf, so⟩ := own_setW hws hz
  rw [hA] at e1
  cases e1
  have hz10 := hok.wk z (List.mem_of_getElem? hz)
  have hlag := hok.lag
  have key : ∀ (i : Nat) (u : Value) (y : Wk), Sl (W.setCell ⟨g5, i, Option.none⟩ u) W.heap.size 2 encW A5 (r.ws.l.set p y) → Easier r.d { r.d with ws := r.ws.l.set p y } → AphX r { r with ws := ⟨A5, r.ws.l.set p y, c5⟩ } w gx (W.setCell ⟨g5, i, Option.none⟩ u) := fun i u y hs he => by
    have hO := Only.set g5 i W u
    refine aph_mk ?_ (hs.more (by simp)) (by simp) rfl rfl he hr ht (hO.lies hL (by omega)) (hO.below hB (by omega))
    have h := hO.lies ho (by omega)
    subst hx0
    unfold RwM.cells at *
    simpa using h
  have key2 : ∀ (i : Nat) (u : Value) (x : RwM), Lies (W.setCell ⟨gx, i, Option.none⟩ u) gx 26 x.cells.toArray → x.ws = ⟨A5, r.ws.l, c5⟩ → x.dug = r.dug → x.ns = r.ns → Easier r.d x.d → AphX r x w gx (W.setCell ⟨gx, i, Option.none⟩ u) := fun i u x hl h1 h2 h3 he => by
    have hO := Only.set gx i W u
    have ho5 := own_keep hws fun j hj => hO.block j (by have := (own_at hws hj).1; omega)
    obtain ⟨_, _, e1, _, s1⟩ := Sl.of_own (enc := encW) (fun _ => rfl) ho5 rfl
    cases e1
    exact aph_mk hl (by rw [h1]; exact s1) (by rw [h1]) h2 h3 he hr ht (hO.lies hL (by omega)) (hO.below hB (by omega))
  refine ⟨cf, co, ff _, ff _, hz10, ?_, ?_, ho.free 2, ho.free 5, fun v h1 h2 => ⟨_, key _ _ ⟨v, z.o⟩ (sf v) (Easier.week hok (i := p) (z := z) hz ⟨h1, h2⟩ id)⟩, ⟨_, key _ _ ⟨z.f, true⟩ (so true) (Easier.week hok (i := p) (z := z) hz ⟨Int.le_refl _, hz10.2⟩ (fun _ => rfl))⟩, fun k h1 h2 => ⟨{ x0 with lag := k }, ?_⟩, ⟨{ x0 with cl := false }, ?_⟩⟩
  · rw [ho.at_]; subst hx0; rfl
  · rw [ho.at_]; subst hx0; rfl
  · exact key2 2 _ _ (by have h := ho.set 2 (.int .i64 k); unfold RwM.cells at *; simpa using h) (by rw [hx0]) (by rw [hx0]) (by rw [hx0]) (by subst hx0; exact Easier.lagged hok k ⟨h1, h2⟩)
  · exact key2 5 _ _ (by have h := ho.set 5 (.bool false); unfold RwM.cells at *; simpa using h) (by rw [hx0]) (by rw [hx0]) (by rw [hx0]) (by subst hx0; exact Easier.clean hok)
end Go.Proofs.Ytkjhofbjjogmlaa

namespace Go.Proofs.Ytkjhofbjjogmlaa
open Go.RowKit Go.Lib

theorem own_set_cell {w : World} {base k : Nat} {e : TypeId} {A : Option Addr} {n c g i : Nat} {xs : List Value} {u : Value} (h : w.ownsRow base e k (.slice A n c) n xs) (hA : A = some ⟨g, 0, none⟩) (_hi : i < xs.length) :
    (w.setCell ⟨g, i, none⟩ u).ownsRow base e k (.slice A n c) n (xs.set i u) := by
  subst hA
  refine ⟨by rw [List.length_set]; exact h.1, ?_⟩
  rcases h.2 with ⟨hv, h0⟩ | ⟨g', cap, cur, hv, hbg, hgg, hnc, hcm, hcs, htake⟩
  · cases hv
  · cases hv
    refine .inr ⟨g, c, cur.setIfInBounds i u, rfl, hbg, ?_, hnc, hcm, by simpa using hcs, ?_⟩
    · exact (show Lies w g e cur from hgg).set i u
    · rw [← htake, Array.toList_setIfInBounds, List.take_set]
theorem flat_set {α : Type} {enc : α → List Value} {k : Nat} (hk : ∀ x, (enc x).length = k) {q : Nat} {u : Value} {y z : α} (hq : q < k) (hy : enc y = (enc z).set q u) : ∀ (l : List α) (p : Nat), l[p]? = some z → (l.flatMap enc).set (p * k + q) u = (l.set p y).flatMap enc
  | [], p, h => by simp at h
  | x :: l, 0, h => by
    simp at h; subst h
    rw [List.flatMap_cons, List.set_cons_zero, List.flatMap_cons, List.set_append_left _ _ (by rw [hk]; omega), hy]
    simp
  | x :: l, p + 1, h => by
    rw [List.flatMap_cons, List.set_cons_succ, List.flatMap_cons, List.set_append_right _ _ (by rw [hk, Nat.add_mul]; omega), hk, ← flat_set hk hq hy l p (by simpa using h)]
    congr 2
    rw [Nat.add_mul]; omega
section
variable {w W : World} {g B2 : Nat} {q : RwM}
theorem own_addr {base k : Nat} {e : TypeId} {A : Option Addr} {n c : Nat} {xs : List Value} (h : W.ownsRow base e k (.slice A n c) n xs) (hn : 0 < n) : ∃ g5 cur, A = some ⟨g5, 0, none⟩ ∧ base ≤ g5 ∧ Lies W g5 e cur := by
  rcases h.2 with ⟨hv, h0⟩ | ⟨g', cap, cur, hv, hbg, hgg, _⟩
  · omega
  · cases hv; exact ⟨g', cur, rfl, hbg, hgg⟩
end
end Go.Proofs.Ytkjhofbjjogmlaa

namespace Go.Proofs.Ytkjhofbjjogmlaa
open Go.RowKit Go.Lib

theorem own_setI {W : World} {base : Nat} {A : Option Addr} {c p : Nat} {l : List Int} (h : W.ownsRow base 3 1 (.slice A l.length c) l.length (l.flatMap encI)) (hp : p < l.length) :
    ∃ g, A = some ⟨g, 0, none⟩ ∧ base ≤ g ∧ g < W.heap.size ∧ W.cell? ⟨g, p, none⟩ = some (.int .i64 (l.getD p 0)) ∧ W.frozen? ⟨g, p, none⟩ = false ∧ ∀ v, (W.setCell ⟨g, p, none⟩ (.int .i64 v)).ownsRow base 3 1 (.slice A l.length c) l.length ((l.set p v).flatMap encI) := by
  obtain ⟨g5, cur, hA, hb5, hl5⟩ := own_addr h (by omega)
  obtain ⟨z, hz⟩ : ∃ z, l[p]? = some z := ⟨l[p], by simp [hp]⟩
  obtain ⟨A', c', e1, -, hS⟩ := Sl.of_own (enc := encI) (fun _ => rfl) h rfl
  cases e1
  obtain ⟨b, off, e2, hbl, hc⟩ := hS.cell1 hz
  rw [hA] at e2
  cases e2
  refine ⟨g5, hA, hb5, hl5.in_, by rw [List.getD, hz]; simpa using hc, hl5.free p, fun v => ?_⟩
  have h1 := own_set_cell (u := .int .i64 v) h hA (i := p) (by rw [flat_len (enc := encI) (k := 1) (fun _ => rfl), Nat.mul_one]; exact hp)
  have h2 := flat_set (enc := encI) (k := 1) (fun _ => rfl) (q := 0) (u := .int .i64 v) (y := v) (z := z) (by omega) rfl l p hz
  rw [Nat.mul_one, Nat.add_zero] at h2
  rw [h2] at h1
  exact h1
/-- A list that is filled up to k. -/
def upTo (N k : Nat) (f g : Nat → Int) : List Int := (List.range N).map fun p => if p < k then f p else g p
theorem upTo_set (N k : Nat) (f g : Nat → Int) : (upTo N k f g).set k (f k) = upTo N (k + 1) f g := by
  refine List.ext_getElem? fun i => ?_
  unfold upTo
  rw [List.getElem?_set]
  by_cases hi : i < N
  · rw [List.getElem?_map, List.getElem?_map, List.getElem?_range hi]
    by_cases e : k = i
    · subst e; rw [if_pos rfl, if_pos (by simp; omega)]; simp
    · rw [if_neg e]
      simp only [Option.map_some, Option.some.injEq]
      by_cases h : i < k
      · rw [if_pos h, if_pos (by omega)]
      · rw [if_neg h, if_neg (by omega)]
  · rw [List.getElem?_eq_none (by simp; omega), List.getElem?_eq_none (by simp; omega)]
    split
    · rw [if_neg (by simp; omega)]
    · rfl
theorem upTo_skip (N k : Nat) (f g : Nat → Int) (h : f k = g k) : upTo N k f g = upTo N (k + 1) f g := by
  unfold upTo
  refine List.map_congr_left fun p _ => ?_
  by_cases e : p = k
  · subst e; rw [if_neg (by omega), if_pos (by omega), h]
  · by_cases h2 : p < k
    · rw [if_pos h2, if_pos (by omega)]
    · rw [if_neg h2, if_neg (by omega)]
theorem upTo_zero (N : Nat) (f g : Nat → Int) : upTo N 0 f g = (List.range N).map g := by unfold upTo; simp
theorem upTo_all (N : Nat) (f g : Nat → Int) : upTo N N f g = (List.range N).map f := by
  unfold upTo
  exact List.map_congr_left fun p hp => if_pos (List.mem_range.1 hp)
end Go.Proofs.Ytkjhofbjjogmlaa

namespace Go.Proofs.Ytkjhofbjjogmlaa
open Go.RowKit Go.Lib

/-- The list that is filled, in memory. -/
structure SpM (r : RwM) (w : World) (b0 N : Nat) (A : Option Addr) (c : Nat) (l : List Int) (W : World) : Prop where
  r : Lies W w.heap.size 26 r.cells.toArray
  b : Below w.heap.size w W
  o : W.ownsRow b0 3 1 (.slice A N c) N (l.flatMap encI)
  hl : l.length = N
  g : w.heap.size < b0
theorem SpM.call {r : RwM} {w W W' : World} {b0 N c : Nat} {A : Option Addr} {l : List Int} (h : SpM r w b0 N A c l W) (hb : Below W.heap.size W W') : SpM r w b0 N A c l W' :=
  ⟨h.r.call hb, h.b.trans (hb.mono h.b.size), ownsRow_call h.o hb, h.hl, h.g⟩
theorem own_lower {W : World} {b0 b1 N : Nat} {e : TypeId} {k : Nat} {v : Value} {xs : List Value} (h : W.ownsRow b0 e k v N xs) (hb : b1 ≤ b0) : W.ownsRow b1 e k v N xs := by
  refine ⟨h.1, ?_⟩
  rcases h.2 with h0 | ⟨g, cap, cur, e, hbg, rest⟩
  · exact .inl h0
  · exact .inr ⟨g, cap, cur, e, Nat.le_trans hb hbg, rest⟩
theorem SpM.sl {r : RwM} {w W : World} {b0 N c : Nat} {A : Option Addr} {l : List Int} (h : SpM r w b0 N A c l W) : Sl W W.heap.size 1 encI A l := by
  obtain ⟨-, -, ho, hl, -⟩ := h
  subst hl
  obtain ⟨A', c', e1, -, hS⟩ := Sl.of_own (enc := encI) (fun _ => rfl) ho rfl
  cases e1
  exact hS
theorem SpM.at_ {r : RwM} {w W : World} {b0 N c p : Nat} {A : Option Addr} {l : List Int} (h : SpM r w b0 N A c l W) (hp : p < N) :
    ∃ g, A = some ⟨g, 0, none⟩ ∧ b0 ≤ g ∧ g < W.heap.size ∧ W.cell? ⟨g, p, none⟩ = some (.int .i64 (l.getD p 0)) ∧ W.frozen? ⟨g, p, none⟩ = false ∧ ∀ v, SpM r w b0 N A c (l.set p v) (W.setCell ⟨g, p, none⟩ (.int .i64 v)) := by
  obtain ⟨hr, hb, ho, hl, hg⟩ := h
  subst hl
  obtain ⟨g, e, h1, h2, h3, h4, h5⟩ := own_setI ho hp
  refine ⟨g, e, h1, h2, h3, h4, fun v => ?_⟩
  have hO := Only.set g p W (.int .i64 v)
  exact ⟨hO.lies hr (by omega), hO.below hb (by omega), h5 v, by simp, hg⟩
theorem SpM.some {r : RwM} {w W : World} {b0 N c : Nat} {A : Option Addr} {l : List Int} (h : SpM r w b0 N A c l W) (hN : 0 < N) : ∃ g, A = some ⟨g, 0, none⟩ := by
  obtain ⟨g, e, -⟩ := h.at_ hN
  exact ⟨g, e⟩
end Go.Proofs.Ytkjhofbjjogmlaa

namespace Go.Proofs.Ytkjhofbjjogmlaa
open Go.RowKit Go.Lib
open Go.WideMaps (ArrKey KeyLaw)
open Go.ChangeMaps (setBlock heap_setBlock_same heap_setBlock_other)

def boolsL (S : List Bool) : List Value := S.map Value.bool
theorem boolsL_length (S : List Bool) : (boolsL S).length = S.length := by simp [boolsL]
theorem boolsL_one (S : List Bool) : ∀ v ∈ boolsL S, v.oneCell' = true := by
  intro v hv
  obtain ⟨x, _, rfl⟩ := List.mem_map.1 hv
  rfl
theorem arrB : ArrKey Try.prog 120 4 10 := ⟨Try.underlying120, by kernel_rfl, by kernel_rfl, by kernel_rfl⟩
theorem keyB_law : KeyLaw Try.prog 120 := arrB.law
theorem types_pos : ∃ m, Try.prog.types.size = m + 1 := ⟨Try.prog.types.size - 1, by kernel_rfl⟩
theorem keyOfB {S : List Bool} (h : S.length = 10) : ∃ kl, keyOf Try.prog 120 (.agg (boolsL S).toArray) = some kl := by
  obtain ⟨a, b, c, d, e, f, g, i, j, k, rfl⟩ : ∃ a b c d e f g i j k, S = [a, b, c, d, e, f, g, i, j, k] := by
    match S, h with
    | [a, b, c, d, e, f, g, i, j, k], _ => exact ⟨a, b, c, d, e, f, g, i, j, k, rfl⟩
  have hkt := arrB.keyType types_pos
  obtain ⟨m, hm⟩ := types_pos
  refine ⟨.string (keyBytes [.bool a, .bool b, .bool c, .bool d, .bool e, .bool f, .bool g, .bool i, .bool j, .bool k]), ?_⟩
  show keyOf _ _ (.agg #[.bool a, .bool b, .bool c, .bool d, .bool e, .bool f, .bool g, .bool i, .bool j, .bool k]) = _
  unfold keyOf
  simp only [arrB.hu]
  rw [if_pos (by simp [hkt, Value.formed, arrB.hu, arrB.size]), hm]
  unfold Program.keyLits
  simp only [arrB.hu, Value.cells]
  rw [if_pos (by rw [arrB.size]; rfl), show List.range 10 = [0, 1, 2, 3, 4, 5, 6, 7, 8, 9] from rfl]
  simp only [List.mapM_cons, List.mapM_nil]
  simp [arrB.one, Program.keyLits, Try.underlying4]
theorem bools_inj {a b : List Bool} (h : Value.agg (boolsL a).toArray = .agg (boolsL b).toArray) : a = b := by
  have h1 : (boolsL a).toArray = (boolsL b).toArray := by injection h
  have h2 : a.map Value.bool = b.map Value.bool := by
    have := congrArg Array.toList h1
    simpa [boolsL] using this
  exact (List.map_inj_right (fun x y e => by injection e)).1 h2
/-- Block b is a map of just the sets of T. -/
def SetM (w : World) (b : Nat) (T : List (List Bool)) : Prop :=
  ∃ es clock, w.heap[b]? = some (.map es clock) ∧ (∀ x, x ∈ es.toList → ∃ S, S ∈ T ∧ S.length = 10 ∧ x.key = .agg (boolsL S).toArray ∧ x.val = .bool true) ∧ ∀ S, S ∈ T → ∃ x, x ∈ es.toList ∧ x.key = .agg (boolsL S).toArray
theorem SetM.in_ {w : World} {b : Nat} {T : List (List Bool)} (h : SetM w b T) : b < w.heap.size := by
  obtain ⟨es, clock, hb, _⟩ := h
  exact (Array.getElem?_eq_some_iff.1 hb).1
theorem SetM.to_ {w w' : World} {b : Nat} {T : List (List Bool)} (h : SetM w b T) (e : w'.heap[b]? = w.heap[b]?) : SetM w' b T := by
  obtain ⟨es, clock, hm, r⟩ := h
  exact ⟨es, clock, e.trans hm, r⟩
theorem SetM.call {w w' : World} {b : Nat} {T : List (List Bool)} (h : SetM w b T) (hb : Below w.heap.size w w') : SetM w' b T := h.to_ (hb.block b h.in_)
theorem SetM.ne {w : World} {b g : Nat} {T : List (List Bool)} {t : TypeId} {cs : Array Value} (h : SetM w b T) (hl : Lies w g t cs) : b ≠ g := by
  rintro rfl
  obtain ⟨es, clock, hm, _⟩ := h
  unfold Lies at hl
  rw [hl] at hm; cases hm
theorem setM_made (w : World) : SetM (w.alloc (.map #[] 0)) w.heap.size [] := ⟨#[], 0, (MapKept.heap_alloc w _).1, by simp, by simp⟩
theorem setM_keys {es : Array MapEntry} {T : List (List Bool)} (h : ∀ x, x ∈ es.toList → ∃ S, S ∈ T ∧ S.length = 10 ∧ x.key = .agg (boolsL S).toArray ∧ x.val = .bool true) : ∀ x ∈ es.toList, ∃ l, keyOf Try.prog 120 x.key = some l := fun x hx => by
  obtain ⟨S, _, h5, e, _⟩ := h x hx
  rw [e]; exact keyOfB h5
theorem setM_look {w : World} {b : Nat} {T : List (List Bool)} (h : SetM w b T) {S : List Bool} (h5 : S.length = 10) :
    (Instr.lookup 117 (.map (some b)) (.agg (boolsL S).toArray) false).run Try.prog w = .ok (.bool (decide (S ∈ T))) w := by
  obtain ⟨es, clock, hb, hr, hT⟩ := h
  obtain ⟨kl, hk⟩ := keyOfB h5
  rcases keyB_law.find w hk es.toList (setM_keys hr) with ⟨h1, h2⟩ | ⟨j, e0, h1, h2, h3⟩
  · have hn : S ∉ T := fun hS => by
      obtain ⟨x, hx, hxk⟩ := hT S hS
      exact h2 x hx hxk
    rw [decide_eq_false hn]
    simp [Instr.lookup, run_underlying Try.underlying117, MapKept.run_getObj_map hb, keyB_law.check w _ hk, h1, Result.andThen]
  · obtain ⟨S', hS', _, e1, e2⟩ := hr e0 (List.mem_of_getElem? h2)
    obtain rfl := bools_inj (e1.symm.trans h3)
    rw [decide_eq_true hS']
    simp [Instr.lookup, run_underlying Try.underlying117, MapKept.run_getObj_map hb, keyB_law.check w _ hk, h1, e2, Result.andThen]
theorem setM_put {w : World} {b : Nat} {T : List (List Bool)} (h : SetM w b T) {S : List Bool} (h5 : S.length = 10) (hn : S ∉ T) :
    ∃ w', (Instr.mapUpdate 117 (.map (some b)) (.agg (boolsL S).toArray) (.bool true)).run Try.prog w = .ok () w' ∧ SetM w' b (S :: T) ∧ w.grownBy w' (some b) := by
  obtain ⟨es, clock, hb, hr, hT⟩ := h
  obtain ⟨kl, hk⟩ := keyOfB h5
  rcases keyB_law.find w hk es.toList (setM_keys hr) with ⟨h1, h2⟩ | ⟨j, e0, h1, h2, h3⟩
  · refine ⟨setBlock w b (.map (es.push ⟨.agg (boolsL S).toArray, .bool true, clock⟩) (clock + 1)), ?_, ⟨_, _, heap_setBlock_same hb _, fun x hx => ?_, fun S' hS' => ?_⟩, ⟨rfl, rfl, rfl, by simp [setBlock], fun i _ hi => heap_setBlock_other hb _ (fun e => hi (by rw [e]))⟩⟩
    · simp [Instr.mapUpdate, run_underlying Try.underlying117, MapKept.run_getObj_map hb, keyB_law.check w false hk, h1, MapKept.run_setObj_map _ hb, Result.andThen, setBlock]
    · simp only [Array.toList_push, List.mem_append, List.mem_singleton] at hx
      rcases hx with hx | rfl
      · obtain ⟨S', a1, a2, a3, a4⟩ := hr x hx
        exact ⟨S', List.mem_cons_of_mem _ a1, a2, a3, a4⟩
      · exact ⟨S, List.mem_cons_self, h5, rfl, rfl⟩
    · simp only [Array.toList_push, List.mem_append, List.mem_singleton]
      rcases List.mem_cons.1 hS' with rfl | hS'
      · exact ⟨_, .inr rfl, rfl⟩
      · obtain ⟨x, hx, hxk⟩ := hT S' hS'
        exact ⟨x, .inl hx, hxk⟩
  · exfalso
    obtain ⟨S', hS', _, e1, e2⟩ := hr e0 (List.mem_of_getElem? h2)
    exact hn (by rw [← bools_inj (e1.symm.trans h3)]; exact hS')
/-- Of w nothing but two blocks has turned; more may have been made. -/
structure St2 (b g : Nat) (w w' : World) : Prop where
  os : w'.os = w.os
  tape : w'.tape = w.tape
  output : w'.output = w.output
  size : w.heap.size ≤ w'.heap.size
  block : ∀ k, k < w.heap.size → k ≠ b → k ≠ g → w'.heap[k]? = w.heap[k]?
section
variable {b g : Nat} {w w' w'' : World}
theorem St2.refl (b g : Nat) (w : World) : St2 b g w w := ⟨rfl, rfl, rfl, Nat.le_refl _, fun _ _ _ _ => rfl⟩
theorem St2.trans (h : St2 b g w w') (h' : St2 b g w' w'') : St2 b g w w'' :=
  ⟨h'.os.trans h.os, h'.tape.trans h.tape, h'.output.trans h.output, Nat.le_trans h.size h'.size, fun k hk h1 h2 => (h'.block k (Nat.lt_of_lt_of_le hk h.size) h1 h2).trans (h.block k hk h1 h2)⟩
theorem St2.of_below (h : Below w.heap.size w w') : St2 b g w w' := ⟨h.os, h.tape, h.output, h.size, fun k hk _ _ => h.block k hk⟩
theorem St2.of_only1 (h : Only b w w') : St2 b g w w' := ⟨h.os, h.tape, h.output, by rw [h.size]; exact Nat.le_refl _, fun k _ h1 _ => h.block k h1⟩
theorem St2.of_grown (h : w.grownBy w' (some g)) : St2 b g w w' := ⟨h.os, h.tape, h.output, h.size, fun k hk _ h1 => h.block k hk (by simpa using h1)⟩
theorem St2.lies (h : St2 b g w w') {k : Nat} {t : TypeId} {cs : Array Value} (hl : Lies w k t cs) (h1 : k ≠ b) (h2 : k ≠ g) : Lies w' k t cs := hl.to_ (h.block k hl.in_ h1 h2)
theorem St2.below {B : Nat} {w0 : World} (h : St2 b g w w') (hb : Below B w0 w) (h1 : B ≤ b) (h2 : B ≤ g) (hB : B ≤ w.heap.size) : Below B w0 w' :=
  ⟨h.os.trans hb.os, h.tape.trans hb.tape, h.output.trans hb.output, Nat.le_trans hb.size h.size, fun k hk => (h.block k (by omega) (by omega) (by omega)).trans (hb.block k hk)⟩
theorem St2.cell {w w' : World} (h : St2 b g w w') {k i : Nat} {v : Value} (hk : k < w.heap.size) (h1 : k ≠ b) (h2 : k ≠ g) (hc : w.cell? ⟨k, i, none⟩ = some v) : w'.cell? ⟨k, i, none⟩ = some v := by
  have := h.block k hk h1 h2
  rw [← hc]
  simp only [World.cell?, this]
end
section
variable {w : World} {ops : Array Oper} {rest : List Oper} {o : Oper} {a : Act} {Q : Exit → Act → World → Prop}
theorem wpList_look_set (hg : o.guard = none) (m x : Operand) (hop : o.op = Op.lookup 117 m x false) (b : Nat) (T : List (List Bool)) (hm : a.eval m = .map (some b)) (h : SetM w b T) (S : List Bool) (h5 : S.length = 10) (hx : a.eval x = .agg (boolsL S).toArray)
    (hK : wpList Try.prog ops Q rest (a.put o.dst (.bool (decide (S ∈ T)))) w) : wpList Try.prog ops Q (o :: rest) a w := by
  refine wpList_plain hg fun K' hK' => ?_
  have hrun := setM_look h h5
  unfold Oper.wp
  simp [execOp, hop, hm, hx, hrun, Result.andThen]
  exact hK' _ _ (by simpa using hK)
theorem wpList_put_set (hg : o.guard = none) (m x v : Operand) (hop : o.op = Op.mapUpdate 117 m x v) (b : Nat) (T : List (List Bool)) (hm : a.eval m = .map (some b)) (h : SetM w b T) (S : List Bool) (h5 : S.length = 10) (hn : S ∉ T) (hx : a.eval x = .agg (boolsL S).toArray) (hv : a.eval v = .bool true)
    (hK : ∀ w', SetM w' b (S :: T) → w.grownBy w' (some b) → wpList Try.prog ops Q rest (a.put o.dst undef) w') : wpList Try.prog ops Q (o :: rest) a w := by
  refine wpList_plain hg fun K' hK' => ?_
  obtain ⟨w', hrun, r1, r2⟩ := setM_put h h5 hn
  unfold Oper.wp
  simp [execOp, hop, hm, hx, hv, hrun, Result.andThen]
  exact hK' _ _ (hK w' r1 r2)
end
end Go.Proofs.Ytkjhofbjjogmlaa
