/- The texts SL SM SN SO SP SQ, joined. -/
import Derived.Test.YtebkhgficochoaaXG
import Derived.Test.YtebkhgficochoaaXI
import Derived.Test.YtebkhgficochoaaXH
import Derived.StillTailTactics
/- word, Comes. -/
namespace Go.Proofs.Ytebkhgficochoaa
open Go.RowKit Go.Lib

abbrev enc16 (x : Nat) : List Value := [Value.int .u16 x]
theorem Sl.cell16 {w : World} {B : Nat} {A : Option Addr} {l : List Nat} (h : Sl w B 1 enc16 A l) {i : Nat} {x : Nat} (hx : l[i]? = some x) : ∃ b off, A = some ⟨b, off, none⟩ ∧ b < B ∧ w.cell? ⟨b, off + i, none⟩ = some (.int .u16 x) := by
  obtain ⟨b, off, e, hb, hc⟩ := h.at_ hx
  exact ⟨b, off, e, hb, by have := hc 0 _ rfl; simpa using this⟩
def wordD (l : List Nat) (k : Nat) : Nat := l.getD (k % l.length) 0
theorem wordD_le {l : List Nat} (h : ∀ x, x ∈ l → x < 65536) (k : Nat) : wordD l k < 65536 := by
  unfold wordD
  rw [List.getD]
  cases e : l[k % l.length]? with
  | none => decide
  | some x => exact h x (List.mem_of_getElem? e)
set_option maxRecDepth 100000 in
set_option maxHeartbeats 1000000 in
theorem word_any (A : Option Addr) (c : Nat) (l : List Nat) (k : Nat) (w : World) (hA : Sl w w.heap.size 1 enc16 A l) (hl : l.length ≤ maxLen) (hx : ∀ x, x ∈ l → x < 65536) (hk : k ≤ 1000) :
    Calls Try.prog 64 #[.slice A l.length c, .int .i64 k] w fun e w' => e = .returned (.int .i64 (wordD l k)) ∧ Below w.heap.size w w' := by
  by_cases h0 : l = []
  · subst h0
    have e : wordD [] k = 0 := rfl
    rw [e]
    clear hA hx
    go_enter Try.func64, Try.ntmps64
    go_wp2
    go_ret
    exact ⟨rfl, Below.refl _ _⟩
  · have hpos : 0 < l.length := List.length_pos_iff.2 h0
    have hn0 : ((l.length : Int) == 0) = false := by simp; exact h0
    have hni : (l.length : Int) ≠ 0 := by omega
    have hm : k % l.length < l.length := Nat.mod_lt _ hpos
    obtain ⟨x, hxx⟩ : ∃ x, l[k % l.length]? = some x := ⟨l[k % l.length], by simp⟩
    have hw : wordD l k = x := by unfold wordD; rw [List.getD, hxx]; rfl
    have hxb := hx x (List.mem_of_getElem? hxx)
    rw [hw]
    obtain ⟨b, off, hAe, hb, hc⟩ := hA.cell16 hxx
    have hkz : (k : Int) ≤ 1000 := by omega
    have hm0 : (0 : Int) ≤ (k : Int) % (l.length : Int) := Int.emod_nonneg _ hni
    have hm1 : (k : Int) % (l.length : Int) < (l.length : Int) := Int.emod_lt_of_pos _ (by omega)
    have hxz : (x : Int) < 65536 := by omega
    have hle : (l = []) = False := by simp [h0]
    subst hAe
    clear hA hx hxx hw hl hm
    go_enter Try.func64, Try.ntmps64
    go_wp2
    go_ret
    exact ⟨rfl, Below.refl _ _⟩
/-- The memory of Comes. -/
structure CmM (r : RwM) (x : Wk) (gw : Nat) (A : Option Addr) (l : List Int) (w W : World) : Prop where
  r : Lies W w.heap.size 26 r.cells.toArray
  x : Lies W gw 76 (encW x).toArray
  l : Sl W W.heap.size 1 encI A l
  b : Below w.heap.size w W
theorem CmM.call {r : RwM} {x : Wk} {gw : Nat} {A : Option Addr} {l : List Int} {w W W' : World} (h : CmM r x gw A l w W) (hb : Below W.heap.size W W') : CmM r x gw A l w W' :=
  ⟨h.r.call hb, h.x.call hb, (h.l.below hb).more hb.size, h.b.trans (hb.mono h.b.size)⟩
theorem size_rweek : (Try.prog.info? 76).map (·.size) = some 2 := by kernel_rfl
/-- Is q a source that is ill for long enough? -/
def RwD.srcAt (r : RwD) (l : List Int) (p : Nat) (k : Int) (q : Nat) : Bool := decide (q ≠ p) && decide (max ((p : Int) - q) ((q : Int) - p) ≤ (r.wk k).f) && stB (r.dg q) k && decide (0 ≤ l.getD q 0) && decide (l.getD q 0 + r.lag ≤ k)
theorem srcAt_iff {r : RwD} (hok : r.Ok) {l : List Int} (hl : l.length = r.dug.length) (ho : ∀ o, o ∈ l → -1 ≤ o ∧ o ≤ 30) {p : Nat} (hp : p < r.dug.length) {k : Int} (hk : k ≤ 30) : r.srcAny (truthD l) p k = true ↔ ∃ q, q < r.dug.length ∧ r.srcAt l p k q = true := by
  have key : ∀ q, q < r.dug.length → (decide ((truthD l).getD q 0 + r.lag ≤ k) = true ↔ (0 ≤ l.getD q 0 ∧ l.getD q 0 + r.lag ≤ k)) := fun q hq => by
    have h := ho l[q] (List.getElem_mem (by omega))
    have hlg := hok.lag
    rw [decide_eq_true_eq, truthD_at, dif_pos (by omega), List.getD, List.getElem?_eq_getElem (by omega), Option.getD_some]
    unfold in31
    split <;> omega
  unfold RwD.srcAny RwD.srcAt
  rw [List.any_eq_true]
  constructor
  · rintro ⟨q, hq, hd⟩
    obtain ⟨h1, h2, h3, h4⟩ := (mem_src hok hp).1 hq
    obtain ⟨h5, h6⟩ := (key q h1).1 hd
    unfold RwD.srcOk at h2
    rw [Bool.and_eq_true, decide_eq_true_eq] at h2
    refine ⟨q, h1, ?_⟩
    simp only [Bool.and_eq_true, decide_eq_true_eq]
    exact ⟨⟨⟨⟨h2.1, by omega⟩, h2.2⟩, h5⟩, h6⟩
  · rintro ⟨q, h1, h2⟩
    simp only [Bool.and_eq_true, decide_eq_true_eq] at h2
    obtain ⟨⟨⟨⟨h3, h4⟩, h5⟩, h6⟩, h7⟩ := h2
    refine ⟨q, (mem_src hok hp).2 ⟨h1, ?_, by omega, by omega⟩, (key q h1).2 ⟨h6, h7⟩⟩
    unfold RwD.srcOk
    rw [Bool.and_eq_true, decide_eq_true_eq]
    exact ⟨h3, h5⟩
set_option maxRecDepth 100000 in
set_option maxHeartbeats 8000000 in
theorem Comes_weeks (r : RwM) (A : Option Addr) (c : Nat) (l : List Int) (p k : Nat) (w : World) (hr : r.At w w.heap.size) (hok : r.d.Ok) (hA : Sl w w.heap.size 1 encI A l) (hl : l.length = r.dug.l.length) (ho : ∀ o, o ∈ l → -1 ≤ o ∧ o ≤ 30) (hp : p < r.dug.l.length) (hk : k ≤ r.ws.l.length) (hk1 : 1 ≤ k) (hst : stB (r.d.dg (p : Nat)) (k : Nat) = true) :
    Calls Try.prog 54 #[.agg r.cells.toArray, .slice A l.length c, .int .i64 p, .int .i64 k] w fun e w' => e = .returned (.bool (r.d.fallB (truthD l) p k)) ∧ Below w.heap.size w w' := by
  obtain ⟨N, hN⟩ : ∃ N, N = r.dug.l.length := ⟨_, rfl⟩
  have hnn : r.n = (N : Int) := by rw [hN]; exact hok.dug.symm
  have hN10 : N ≤ 10 := by have := hok.n1; have h2 : r.d.n = r.n := rfl; omega
  have hY30 : r.ws.l.length ≤ 30 := hok.nw
  have l0 : Lies (w.alloc (.cells r.cells.toArray 26)) w.heap.size 26 r.cells.toArray := Lies.fresh _ _ _
  have b0 : Below w.heap.size w (w.alloc (.cells r.cells.toArray 26)) := (by repeat (first | (with_reducible assumption) | (with_reducible exact Below.refl _ _) | (with_reducible refine Below.drew ?_) | (with_reducible refine below_drewN ?_ _) | ((with_reducible refine Below.setCell ?_ ?_ _); rotate_left; focus (first | (simp; done) | (simp; omega) | omega)) | ((with_reducible refine Below.alloc ?_ ?_ _); rotate_left; focus (first | (simp; done) | (simp; omega) | omega))))
  obtain ⟨j, hj⟩ : ∃ j, k = j + 1 := ⟨k - 1, by omega⟩
  obtain ⟨x, hx⟩ : ∃ x, r.ws.l[j]? = some x := ⟨r.ws.l[j]'(by omega), by simp⟩
  have hwk : r.d.wk (k : Nat) = x := by
    unfold RwD.wk
    rw [show ((k : Int) - 1).toNat = j by omega, List.getD, show r.d.ws[j]? = some x from hx]; rfl
  have hx10 := hok.wk x (List.mem_of_getElem? hx)
  obtain ⟨tb, off, hWA, htb, e0, e1⟩ := hr.ws.cellW hx
  have hfall : r.d.fallB (truthD l) p k = (r.d.srcAny (truthD l) p k || r.d.reachB p k) := by
    unfold RwD.fallB
    rw [if_neg (by omega), hst]; rfl
  have hreach : r.d.reachB p k = (x.o && (decide ((p : Int) < x.f) || decide ((N : Int) - 1 - p < x.f))) := by
    unfold RwD.reachB
    rw [hwk, show r.d.n = (N : Int) from hnn]
    congr 1
    rw [Bool.eq_iff_iff, Bool.or_eq_true, decide_eq_true_eq, decide_eq_true_eq, decide_eq_true_eq]
    omega
  have hsrc : r.d.srcAny (truthD l) p k = true ↔ ∃ q, q < N ∧ r.d.srcAt l p k q = true := by
    rw [hN]; exact srcAt_iff hok (by show l.length = r.dug.l.length; exact hl) ho (by show p < r.dug.l.length; exact hp) (by omega)
  have hsat : ∀ q, r.d.srcAt l p k q = (decide (q ≠ p) && decide (max ((p : Int) - q) ((q : Int) - p) ≤ x.f) && stB (r.d.dg q) k && decide (0 ≤ l.getD q 0) && decide (l.getD q 0 + r.lag ≤ k)) := fun q => by
    unfold RwD.srcAt; rw [hwk]; rfl
  have hSP := fun W (hb : Below w.heap.size w W) => refStands_any r p (r.d.dg (p : Nat)) ((k : Nat) : Int) W ((hr.dug.below hb).more hb.size) (by show r.dug.l[p]? = some (r.dug.l.getD p 0); simp [List.getD, hp]) hr.ld
  rw [hst] at hSP
  have hSQ := fun (q : Nat) (hq : q < N) W (hb : Below w.heap.size w W) => refStands_any r q (r.d.dg (q : Nat)) ((k : Nat) : Int) W ((hr.dug.below hb).more hb.size) (by show r.dug.l[q]? = some (r.dug.l.getD q 0); rw [hN] at hq; simp [List.getD, hq]) hr.ld
  have hlg : 1 ≤ r.lag ∧ r.lag ≤ 30 := hok.lag
  obtain ⟨hlg0, hlg1⟩ := hlg
  rw [hfall]
  have hkz : (k : Int) ≤ 30 := by omega
  have hk0 : ((k : Int) == 0) = false := by simp; omega
  have hjz : (k : Int) - 1 = (j : Int) := by omega
  have hj0 : (0 : Int) ≤ (j : Int) := by omega
  have hjY : (j : Int) < (r.ws.l.length : Int) := by omega
  have hw1 : IntKind.i64.wrap (j : Int) = (j : Int) := IntWalk.i64_in _ (by omega)
  have hpz : (p : Int) < (N : Int) := by omega
  have hp0 : (0 : Int) ≤ (p : Int) := by omega
  have hNz : (N : Int) ≤ 10 := by omega
  have hw2 : IntKind.i64.wrap ((N : Int) - 1) = (N : Int) - 1 := IntWalk.i64_in _ (by omega)
  have hw3 : IntKind.i64.wrap ((N : Int) - 1 - (p : Int)) = (N : Int) - 1 - (p : Int) := IntWalk.i64_in _ (by omega)
  have hla : l.length = N := by omega
  have L0 := Lib.hid l0
  have B0 := Lib.hid b0
  have HSP := Lib.hid hSP
  have HSQ := Lib.hid hSQ
  have HSR := Lib.hid hsrc
  have HSA := Lib.hid hsat
  have HRE := Lib.hid hreach
  have HNE := Lib.hid hnn
  have HAA := Lib.hid hA
  have HOO := Lib.hid ho
  have HLA := Lib.hid hla
  have htb' : tb < (w.alloc (.cells r.cells.toArray 26)).heap.size := by simp; omega
  have e0' : (w.alloc (.cells r.cells.toArray 26)).cell? ⟨tb, off + j * 2, none⟩ = some (.int .i64 x.f) := (b0.cell (p := ⟨tb, off + j * 2, none⟩) htb).trans e0
  have e1' : (w.alloc (.cells r.cells.toArray 26)).cell? ⟨tb, off + j * 2 + 1, none⟩ = some (.bool x.o) := (b0.cell (p := ⟨tb, off + j * 2 + 1, none⟩) htb).trans e1
  have HWA := Lib.hid hWA
  have HX10 := Lib.hid hx10
  clear l0 b0 hSP hSQ hsrc hsat hreach hnn hA ho hla hr hok hl hfall hst hwk hx e0 e1 hN hWA hp hk hj hx10 hk1
  go_enter Try.func54, Try.ntmps54
  go_upto_region 1 with (fail)
  change Code.wp _ _ _ _ (w.alloc (.cells r.cells.toArray 26))
  generalize w.alloc (.cells r.cells.toArray 26) = w0 at *
  go_upto_region 5 with (first
    | (refine wpList_load_row (o := ⟨some 17, _, _, _, _, _⟩) ?_ 26 (.tmp 4) ?_ w.heap.size ?_ 26 r.cells.toArray (0, 0) _ L0.out Try.underlying26 rfl size_refrow ?_; rfl; rfl; rfl)
    | (go_at_call 42; refine (HSP.out _ B0.out).mono ?_; rintro e w1 ⟨rfl, hb1⟩))
  have L1 := Lib.hid (L0.out.call hb1)
  have B1 := Lib.hid (B0.out.trans (hb1.mono B0.out.size))
  have g0 : w1.cell? ⟨tb, off + j * 2, none⟩ = some (.int .i64 x.f) := (hb1.cell (p := ⟨tb, off + j * 2, none⟩) htb').trans e0'
  have g1 : w1.cell? ⟨tb, off + j * 2 + 1, none⟩ = some (.bool x.o) := (hb1.cell (p := ⟨tb, off + j * 2 + 1, none⟩) htb').trans e1'
  have a1 : w1.cell? ⟨w.heap.size, 1, none⟩ = some (.slice (some ⟨tb, off, none⟩) r.ws.l.length r.ws.c) := by rw [L1.out.at_, ← HWA.out]; rfl
  clear hb1 L0 B0 e0' e1' htb' HSP
  obtain ⟨xf, xo⟩ := x
  dsimp only at g0 g1
  go_upto_region 6 with (fail)
  have M2 : CmM r ⟨xf, xo⟩ w1.heap.size A l w (w1.alloc (.cells #[.int .i64 xf, .bool xo] 76)) :=
    ⟨L1.out.alloc _, Lies.fresh _ _ _, ((HAA.out.below B1.out).more B1.out.size).alloc (Nat.le_refl _) _ |>.more (by simp), B1.out.alloc B1.out.size _⟩
  have HM2 := Lib.hid M2
  have hgw : w.heap.size < w1.heap.size := L1.out.in_
  change Code.wp _ _ _ _ (w1.alloc (.cells #[.int .i64 xf, .bool xo] 76))
  clear g0 g1 a1 M2 L1 B1
  generalize w1.alloc (.cells #[.int .i64 xf, .bool xo] 76) = w2 at *
  generalize w1.heap.size = gw at *
  have c0 : w2.cell? ⟨gw, 0, none⟩ = some (.int .i64 xf) := HM2.out.x.at_ 0
  have c1 : w2.cell? ⟨gw, 1, none⟩ = some (.bool xo) := HM2.out.x.at_ 1
  have cn : w2.cell? ⟨w.heap.size, 0, none⟩ = some (.int .i64 N) := by rw [← HNE.out]; exact HM2.out.r.at_ 0
  go_cut [45] from 28 to 45 (fun s45 wx => s45 = .bool (r.d.reachB p k) ∧ CmM r ⟨xf, xo⟩ gw A l w wx)
  case first =>
    have HRX := Lib.hid (show r.d.reachB p k = (xo && (decide ((p : Int) < xf) || decide ((N : Int) - 1 - (p : Int) < xf))) from HRE.out)
    cases xo
    · go_wp2
      go_meet
      case rel => exact ⟨by rw [HRX.out]; rfl, HM2.out⟩
    · by_cases h1 : (p : Int) < xf
      · have d1 : decide ((p : Int) < xf) = true := decide_eq_true h1
        go_wp2
        go_meet
        case rel => exact ⟨by rw [HRX.out, d1]; rfl, HM2.out⟩
      · have d1 : decide ((p : Int) < xf) = false := decide_eq_false h1
        by_cases h2 : (N : Int) - 1 - (p : Int) < xf
        · have d2 : decide ((N : Int) - 1 - (p : Int) < xf) = true := decide_eq_true h2
          go_wp2
          go_meet
          case rel => exact ⟨by rw [HRX.out, d1, d2]; rfl, HM2.out⟩
        · have d2 : decide ((N : Int) - 1 - (p : Int) < xf) = false := decide_eq_false h2
          go_wp2
          go_meet
          case rel => exact ⟨by rw [HRX.out, d1, d2]; rfl, HM2.out⟩
  case rest =>
    obtain ⟨rfl, hM⟩ := hcut
    clear c0 c1 cn HM2 hw2 hw3
    obtain ⟨rb, hrb⟩ : ∃ rb, rb = r.d.reachB p k := ⟨_, rfl⟩
    rw [← hrb]
    have HRB := Lib.hid hrb
    have HM := Lib.hid hM
    clear hM HRE hrb
    cases rb with
    | true =>
      go_wp2
      go_ret
      exact ⟨ret_bool (by rw [← HRB.out]; simp), HM.out.b⟩
    | false =>
      have hno : (r.d.srcAny (truthD l) p k || r.d.reachB p k) = r.d.srcAny (truthD l) p k := by rw [← HRB.out]; simp
      have HNN := Lib.hid hno
      clear hno
      go_wp2
      go_loopw [10] (fun s10 wr => ∃ q : Nat, q ≤ N ∧ s10 = .int .i64 q ∧ Aside (CmM r ⟨xf, xo⟩ gw A l w wr) ∧ Aside (∀ j, j < q → r.d.srcAt l p k j = false)) (fun i _ => N - (intOf i).toNat)
      case atStart => exact ⟨0, by omega, rfl, HM.out, (show Aside _ from fun j hj => absurd hj (Nat.not_lt_zero _))⟩
      case round =>
        obtain ⟨q, hq, rfl, HB, HU⟩ := hrel
        clear HM
        have cn : wr.cell? ⟨w.heap.size, 0, none⟩ = some (.int .i64 N) := by rw [← HNE.out]; exact HB.out.r.at_ 0
        by_cases hlt : q < N
        · have hltz : (q : Int) < (N : Int) := by omega
          have hq0 : (0 : Int) ≤ (q : Int) := by omega
          have hwa : IntKind.i64.wrap ((p : Int) - (q : Int)) = (p : Int) - (q : Int) := IntWalk.i64_in _ (by omega)
          have hwb : IntKind.i64.wrap ((q : Int) - (p : Int)) = (q : Int) - (p : Int) := IntWalk.i64_in _ (by omega)
          have hla := HLA.out
          have hll : (q : Int) < (l.length : Int) := by omega
          obtain ⟨o, ho⟩ : ∃ o, l[q]? = some o := ⟨l[q]'(by omega), by simp⟩
          have hog : l.getD q 0 = o := by rw [List.getD, ho]; rfl
          obtain ⟨ho0, ho1⟩ := HOO.out o (List.mem_of_getElem? ho)
          have hsq := HSA.out q
          rw [hog] at hsq
          have HST := Lib.hid (HSQ.out q hlt)
          obtain ⟨lb, lo, hAe, hlb, c78⟩ := HB.out.l.cell1 ho
          subst hAe
          have hgl : gw < wr.heap.size := HB.out.x.in_
          have hwl : w.heap.size < wr.heap.size := HB.out.r.in_
          have c65 : wr.cell? ⟨gw, 0, none⟩ = some (.int .i64 xf) := HB.out.x.at_ 0
          have c87 : wr.cell? ⟨w.heap.size, 2, none⟩ = some (.int .i64 r.lag) := HB.out.r.at_ 2
          have r65 := cell_regrown c65
          have r78 := cell_regrown c78
          have r87 := cell_regrown c87
          have hrg : ∀ V, (∃ pp : Regrown, V = Go.Sort.grow (redrawn wr pp.d) pp.os) → V.rangeAt w.heap.size 0 r.cells := by
            rintro V ⟨pp, rfl⟩
            exact Lies.range (cs := r.cells) (HB.out.r.call (below_regrown wr _ _)) (fun j v hj => by simpa using hj)
          have HRG := Lib.hid hrg
          have HSAT := Lib.hid hsq
          have hyes := fun (h : r.d.srcAt l p k q = true) => (by rw [HNN.out, HSR.out]; exact ⟨q, hlt, h⟩ : (r.d.srcAny (truthD l) p k || r.d.reachB p k) = true)
          have HYE := Lib.hid hyes
          have HBR := Lib.hid (fun a b => HB.out.b.trans ((below_regrown wr a b).mono HB.out.b.size))
          clear hrg ho hog hla c65 c78 c87 hsq hyes
          go_upto_region 12 with (fail)
          clear cn hwa hwb
          have hws : IntKind.i64.wrap (o + r.lag) = o + r.lag := IntWalk.i64_in _ (by omega)
          by_cases e1 : q = p
          · have f1 : ((q : Int) != (p : Int)) = false := by simp [e1]
            have HNO := Lib.hid (show r.d.srcAt l p k q = false by rw [HSAT.out, e1]; simp)
            clear e1
            refine wp_region_quiet_below (by kernel_rfl) (by kernel_rfl) ?_
            repeat (first
              | go_big_quiet_step (fail) | quiet_step (fail))
            refine wpQuiet_nil ?_
            intro wq hwq
            have D1 := Lib.hid (show Below wr.heap.size wr wq by obtain ⟨pp, rfl⟩ := hwq; exact below_regrown _ _ _)
            clear hwq r65 r78 r87
            go_wp2
            go_roundw
            case rel =>
              refine ⟨q + 1, by omega, by go_num, HB.out.call D1.out, (show Aside _ from fun j hj => ?_)⟩
              by_cases e : j = q
              · subst e; exact HNO.out
              · exact HU.out j (by omega)
            case measure => simp [intOf]; omega
          have f1 : ((q : Int) != (p : Int)) = true := by simp; omega
          by_cases e2 : max ((p : Int) - (q : Int)) ((q : Int) - (p : Int)) ≤ xf
          case neg =>
            have f2 : decide (max ((p : Int) - (q : Int)) ((q : Int) - (p : Int)) ≤ xf) = false := decide_eq_false e2
            have HNO := Lib.hid (show r.d.srcAt l p k q = false by rw [HSAT.out, f2]; simp)
            clear e1 e2
            refine wp_region_quiet_below (by kernel_rfl) (by kernel_rfl) ?_
            repeat (first
              | go_big_quiet_step (fail) | quiet_step (fail))
            refine wpQuiet_nil ?_
            intro wq hwq
            have D1 := Lib.hid (show Below wr.heap.size wr wq by obtain ⟨pp, rfl⟩ := hwq; exact below_regrown _ _ _)
            clear hwq r65 r78 r87
            go_wp2
            go_roundw
            case rel =>
              refine ⟨q + 1, by omega, by go_num, HB.out.call D1.out, (show Aside _ from fun j hj => ?_)⟩
              by_cases e : j = q
              · subst e; exact HNO.out
              · exact HU.out j (by omega)
            case measure => simp [intOf]; omega
          have f2 : decide (max ((p : Int) - (q : Int)) ((q : Int) - (p : Int)) ≤ xf) = true := decide_eq_true e2
          have hst := HST.out
          have hsat := HSAT.out
          obtain ⟨sb, hsb⟩ : ∃ sb, sb = stB (r.d.dg (q : Nat)) (k : Nat) := ⟨_, rfl⟩
          rw [← hsb] at hst hsat
          clear HST HSAT hsb
          cases sb with
          | false =>
            have HST := Lib.hid hst
            have HNO := Lib.hid (show r.d.srcAt l p k q = false by rw [hsat]; simp)
            clear e1 e2 hst hsat
            refine wp_region_quiet_below (by kernel_rfl) (by kernel_rfl) ?_
            repeat (first
              | (have hxx := HRG; clear HRG; refine wpQuiet_load_wholeG (o := ⟨some 69, _, _, _, _, _⟩) ?_ 26 (.tmp 4) ?_ w.heap.size 0 ?_ r.cells _ hxx.out Try.underlying26 rfl size_refrow ?_; kernel_rfl; rfl; rfl; simp only [Act.put, List.setIfInBounds_toArray, List.set_cons_zero, List.set_cons_succ]; clear hxx)
              | go_big_quiet_step ((go_at_call 42; exact Calls.regrown_of (HST.out _ (HBR.out _ _)))) | quiet_step ((go_at_call 42; exact Calls.regrown_of (HST.out _ (HBR.out _ _)))))
            refine wpQuiet_nil ?_
            intro wq hwq
            have D1 := Lib.hid (show Below wr.heap.size wr wq by obtain ⟨pp, rfl⟩ := hwq; exact below_regrown _ _ _)
            clear hwq r65 r78 r87
            go_wp2
            go_roundw
            case rel =>
              refine ⟨q + 1, by omega, by go_num, HB.out.call D1.out, (show Aside _ from fun j hj => ?_)⟩
              by_cases e : j = q
              · subst e; exact HNO.out
              · exact HU.out j (by omega)
            case measure => simp [intOf]; omega
          | true =>
            have HST := Lib.hid hst
            by_cases e4 : 0 ≤ o
            case neg =>
              have f4 : decide (0 ≤ o) = false := decide_eq_false e4
              have HNO := Lib.hid (show r.d.srcAt l p k q = false by rw [hsat, f4]; simp)
              clear e1 e2 hst hsat e4
              refine wp_region_quiet_below (by kernel_rfl) (by kernel_rfl) ?_
              repeat (first
                | (have hxx := HRG; clear HRG; refine wpQuiet_load_wholeG (o := ⟨some 69, _, _, _, _, _⟩) ?_ 26 (.tmp 4) ?_ w.heap.size 0 ?_ r.cells _ hxx.out Try.underlying26 rfl size_refrow ?_; kernel_rfl; rfl; rfl; simp only [Act.put, List.setIfInBounds_toArray, List.set_cons_zero, List.set_cons_succ]; clear hxx)
                | go_big_quiet_step ((go_at_call 42; exact Calls.regrown_of (HST.out _ (HBR.out _ _)))) | quiet_step ((go_at_call 42; exact Calls.regrown_of (HST.out _ (HBR.out _ _)))))
              refine wpQuiet_nil ?_
              intro wq hwq
              have D1 := Lib.hid (show Below wr.heap.size wr wq by obtain ⟨pp, rfl⟩ := hwq; exact below_regrown _ _ _)
              clear hwq r65 r78 r87
              go_wp2
              go_roundw
              case rel =>
                refine ⟨q + 1, by omega, by go_num, HB.out.call D1.out, (show Aside _ from fun j hj => ?_)⟩
                by_cases e : j = q
                · subst e; exact HNO.out
                · exact HU.out j (by omega)
              case measure => simp [intOf]; omega
            have f4 : decide (0 ≤ o) = true := decide_eq_true e4
            by_cases e5 : o + r.lag ≤ (k : Int)
            case neg =>
              have f5 : decide (o + r.lag ≤ (k : Int)) = false := decide_eq_false e5
              have HNO := Lib.hid (show r.d.srcAt l p k q = false by rw [hsat, f5]; simp)
              clear e1 e2 hst hsat e4 e5
              refine wp_region_quiet_below (by kernel_rfl) (by kernel_rfl) ?_
              repeat (first
                | (have hxx := HRG; clear HRG; refine wpQuiet_load_wholeG (o := ⟨some 69, _, _, _, _, _⟩) ?_ 26 (.tmp 4) ?_ w.heap.size 0 ?_ r.cells _ hxx.out Try.underlying26 rfl size_refrow ?_; kernel_rfl; rfl; rfl; simp only [Act.put, List.setIfInBounds_toArray, List.set_cons_zero, List.set_cons_succ]; clear hxx)
                | go_big_quiet_step ((go_at_call 42; exact Calls.regrown_of (HST.out _ (HBR.out _ _)))) | quiet_step ((go_at_call 42; exact Calls.regrown_of (HST.out _ (HBR.out _ _)))))
              refine wpQuiet_nil ?_
              intro wq hwq
              have D1 := Lib.hid (show Below wr.heap.size wr wq by obtain ⟨pp, rfl⟩ := hwq; exact below_regrown _ _ _)
              clear hwq r65 r78 r87
              go_wp2
              go_roundw
              case rel =>
                refine ⟨q + 1, by omega, by go_num, HB.out.call D1.out, (show Aside _ from fun j hj => ?_)⟩
                by_cases e : j = q
                · subst e; exact HNO.out
                · exact HU.out j (by omega)
              case measure => simp [intOf]; omega
            have f5 : decide (o + r.lag ≤ (k : Int)) = true := decide_eq_true e5
            have HYES := Lib.hid (HYE.out (by rw [hsat, f2, f4, f5]; simp; omega))
            clear e1 e2 hst hsat e4 e5
            refine wp_region_quiet_below (by kernel_rfl) (by kernel_rfl) ?_
            repeat (first
              | (have hxx := HRG; clear HRG; refine wpQuiet_load_wholeG (o := ⟨some 69, _, _, _, _, _⟩) ?_ 26 (.tmp 4) ?_ w.heap.size 0 ?_ r.cells _ hxx.out Try.underlying26 rfl size_refrow ?_; kernel_rfl; rfl; rfl; simp only [Act.put, List.setIfInBounds_toArray, List.set_cons_zero, List.set_cons_succ]; clear hxx)
              | go_big_quiet_step ((go_at_call 42; exact Calls.regrown_of (HST.out _ (HBR.out _ _)))) | quiet_step ((go_at_call 42; exact Calls.regrown_of (HST.out _ (HBR.out _ _)))))
            refine wpQuiet_nil ?_
            intro wq hwq
            have D1 := Lib.hid (show Below wr.heap.size wr wq by obtain ⟨pp, rfl⟩ := hwq; exact below_regrown _ _ _)
            clear hwq r65 r78 r87
            go_wp2
            go_ret
            exact ⟨ret_bool HYES.out.symm, (HB.out.call D1.out).b⟩
        · obtain rfl : q = N := by omega
          have hsn : r.d.srcAny (truthD l) p k = false := by
            rw [Bool.eq_false_iff]
            intro h
            obtain ⟨j, hj, h2⟩ := HSR.out.1 h
            rw [HU.out j hj] at h2; cases h2
          have HSN := Lib.hid hsn
          have HB' := Lib.hid HB.out
          clear HB HU hsn
          go_wp2
          go_ret
          exact ⟨ret_bool (by rw [HNN.out, HSN.out]), HB'.out.b⟩
set_option maxRecDepth 100000 in
set_option maxHeartbeats 4000000 in
theorem Comes_no (r : RwM) (A : Option Addr) (c : Nat) (l : List Int) (p k : Nat) (w : World) (hr : r.At w w.heap.size) (hp : p < r.dug.l.length) (hk1 : 1 ≤ k) (hst : stB (r.d.dg (p : Nat)) (k : Nat) = false) :
    Calls Try.prog 54 #[.agg r.cells.toArray, .slice A l.length c, .int .i64 p, .int .i64 k] w fun e w' => e = .returned (.bool (r.d.fallB (truthD l) p k)) ∧ Below w.heap.size w w' := by
  have l0 : Lies (w.alloc (.cells r.cells.toArray 26)) w.heap.size 26 r.cells.toArray := Lies.fresh _ _ _
  have b0 : Below w.heap.size w (w.alloc (.cells r.cells.toArray 26)) := (by repeat (first | (with_reducible assumption) | (with_reducible exact Below.refl _ _) | (with_reducible refine Below.drew ?_) | (with_reducible refine below_drewN ?_ _) | ((with_reducible refine Below.setCell ?_ ?_ _); rotate_left; focus (first | (simp; done) | (simp; omega) | omega)) | ((with_reducible refine Below.alloc ?_ ?_ _); rotate_left; focus (first | (simp; done) | (simp; omega) | omega))))
  have hfall : r.d.fallB (truthD l) p k = false := by unfold RwD.fallB; rw [if_neg (by omega), hst]; rfl
  have hSP := fun W (hb : Below w.heap.size w W) => refStands_any r p (r.d.dg (p : Nat)) ((k : Nat) : Int) W ((hr.dug.below hb).more hb.size) (by show r.dug.l[p]? = some (r.dug.l.getD p 0); simp [List.getD, hp]) hr.ld
  rw [hst] at hSP
  rw [hfall]
  have hk0 : ((k : Int) == 0) = false := by simp; omega
  have L0 := Lib.hid l0
  have B0 := Lib.hid b0
  have HSP := Lib.hid hSP
  clear l0 b0 hSP hr hp hst hfall
  go_enter Try.func54, Try.ntmps54
  go_upto_region 1 with (fail)
  change Code.wp _ _ _ _ (w.alloc (.cells r.cells.toArray 26))
  generalize w.alloc (.cells r.cells.toArray 26) = w0 at *
  go_wp2_with (first
    | (refine wpList_load_row (o := ⟨some 17, _, _, _, _, _⟩) ?_ 26 (.tmp 4) ?_ w.heap.size ?_ 26 r.cells.toArray (0, 0) _ L0.out Try.underlying26 rfl size_refrow ?_; rfl; rfl; rfl)
    | (go_at_call 42; refine (HSP.out _ B0.out).mono ?_; rintro e w1 ⟨rfl, hb1⟩))
  go_ret
  exact ⟨rfl, B0.out.trans (hb1.mono B0.out.size)⟩
theorem Comes_any (r : RwM) (A : Option Addr) (c : Nat) (l : List Int) (p k : Nat) (w : World) (hr : r.At w w.heap.size) (hok : r.d.Ok) (hA : Sl w w.heap.size 1 encI A l) (hl : l.length = r.dug.l.length) (ho : ∀ o, o ∈ l → -1 ≤ o ∧ o ≤ 30) (hp : p < r.dug.l.length) (hk : k ≤ r.ws.l.length) (hk1 : 1 ≤ k) :
    Calls Try.prog 54 #[.agg r.cells.toArray, .slice A l.length c, .int .i64 p, .int .i64 k] w fun e w' => e = .returned (.bool (r.d.fallB (truthD l) p k)) ∧ Below w.heap.size w w' := by
  cases hst : stB (r.d.dg (p : Nat)) (k : Nat) with
  | false => exact Comes_no r A c l p k w hr hp hk1 hst
  | true => exact Comes_weeks r A c l p k w hr hok hA hl ho hp hk hk1 hst
end Go.Proofs.Ytebkhgficochoaa

/- Number. -/
namespace Go.Proofs.Ytebkhgficochoaa
open Go.RowKit Go.Lib

def RwD.numF (r : RwD) (l : List Int) (p : Nat) : Bool := decide (0 ≤ l.getD p 0) && r.lastB p
def RwD.numK (r : RwD) (l : List Int) (k : Nat) : Nat := ((List.range k).filter (r.numF l)).length
theorem numK_succ (r : RwD) (l : List Int) (k : Nat) : r.numK l (k + 1) = r.numK l k + (if r.numF l k then 1 else 0) := by
  unfold RwD.numK
  rw [List.range_succ, List.filter_append, List.length_append]
  congr 1
  rw [List.filter_cons]
  split <;> rfl
theorem numK_le (r : RwD) (l : List Int) (k : Nat) : r.numK l k ≤ k := by
  unfold RwD.numK
  exact Nat.le_trans (List.length_filter_le _ _) (by simp)
/-- The number of a list of onsets is that of its truth. -/
theorem numK_ill {r : RwD} {l : List Int} (hl : l.length = r.dug.length) (h30 : r.ws.length ≤ 30) (ho : ∀ o, o ∈ l → -1 ≤ o ∧ o ≤ r.ws.length) : r.numK l r.dug.length = (r.illB (truthD l)).length := by
  unfold RwD.numK RwD.illB thoseD
  rw [List.filter_filter]
  congr 1
  refine List.filter_congr fun p hp => ?_
  have hp' := List.mem_range.1 hp
  have h := ho l[p] (List.getElem_mem (by omega))
  unfold RwD.numF
  rw [truthD_at, dif_pos (by omega), List.getD, List.getElem?_eq_getElem (by omega), Option.getD_some]
  congr 1
  rw [decide_eq_decide]
  unfold in31
  split <;> omega
set_option maxRecDepth 100000 in
set_option maxHeartbeats 4000000 in
theorem Number_any (r : RwM) (A : Option Addr) (c : Nat) (l : List Int) (w : World) (hr : r.At w w.heap.size) (hok : r.d.Ok) (hA : Sl w w.heap.size 1 encI A l) (hl : l.length = r.dug.l.length) :
    Calls Try.prog 30 #[.agg r.cells.toArray, .slice A l.length c] w fun e w' => e = .returned (.int .i64 (r.d.numK l r.d.dug.length)) ∧ Below w.heap.size w w' := by
  obtain ⟨N, hN⟩ : ∃ N, N = r.dug.l.length := ⟨_, rfl⟩
  have hnn : r.n = (N : Int) := by rw [hN]; exact hok.dug.symm
  have hN10 : N ≤ 10 := by have := hok.n1; have h2 : r.d.n = r.n := rfl; omega
  have hY30 : r.ws.l.length ≤ 30 := hok.nw
  have hYz : (r.ws.l.length : Int) ≤ 30 := by omega
  have hla : l.length = N := by omega
  have l0 : Lies (w.alloc (.cells r.cells.toArray 26)) w.heap.size 26 r.cells.toArray := Lies.fresh _ _ _
  have b0 : Below w.heap.size w (w.alloc (.cells r.cells.toArray 26)) := (by repeat (first | (with_reducible assumption) | (with_reducible exact Below.refl _ _) | (with_reducible refine Below.drew ?_) | (with_reducible refine below_drewN ?_ _) | ((with_reducible refine Below.setCell ?_ ?_ _); rotate_left; focus (first | (simp; done) | (simp; omega) | omega)) | ((with_reducible refine Below.alloc ?_ ?_ _); rotate_left; focus (first | (simp; done) | (simp; omega) | omega))))
  have hSQ := fun (q : Nat) (hq : q < N) W (hb : Below w.heap.size w W) => (refStands_any r q (r.d.dg (q : Nat)) (r.ws.l.length : Int) W ((hr.dug.below hb).more hb.size) (by show r.dug.l[q]? = some (r.dug.l.getD q 0); rw [hN] at hq; simp [List.getD, hq]) hr.ld : Calls Try.prog 42 #[.agg r.cells.toArray, .int .i64 q, .int .i64 r.ws.l.length] W fun e w' => e = .returned (.bool (r.d.lastB q)) ∧ Below W.heap.size W w')
  have hres : r.d.dug.length = N := hN.symm
  rw [hres]
  have L0 := Lib.hid l0
  have B0 := Lib.hid b0
  have HSQ := Lib.hid hSQ
  have HNE := Lib.hid hnn
  have HAA := Lib.hid hA
  have HLA := Lib.hid hla
  clear l0 b0 hSQ hnn hA hla hr hok hl hN hres
  go_enter Try.func30, Try.ntmps30
  go_upto_region 1 with (fail)
  change Code.wp _ _ _ _ (w.alloc (.cells r.cells.toArray 26))
  generalize w.alloc (.cells r.cells.toArray 26) = w0 at *
  go_wp2
  go_loopw [5, 6] (fun s5 s6 wr => ∃ k : Nat, k ≤ N ∧ s5 = .int .i64 (r.d.numK l k : Nat) ∧ s6 = .int .i64 k ∧ Aside (Below w.heap.size w wr) ∧ Aside (Lies wr w.heap.size 26 r.cells.toArray)) (fun _ i _ => N - (intOf i).toNat)
  case atStart => exact ⟨0, by omega, rfl, rfl, B0.out, L0.out⟩
  case round =>
    obtain ⟨k, hk, rfl, rfl, HB, HL⟩ := hrel
    have cn : wr.cell? ⟨w.heap.size, 0, none⟩ = some (.int .i64 N) := by rw [← HNE.out]; exact HL.out.at_ 0
    by_cases hlt : k < N
    · have hltz : (k : Int) < (N : Int) := by omega
      have hk0 : (0 : Int) ≤ (k : Int) := by omega
      have hla := HLA.out
      have hll : (k : Int) < (l.length : Int) := by omega
      obtain ⟨o, ho⟩ : ∃ o, l[k]? = some o := ⟨l[k]'(by omega), by simp⟩
      have hog : l.getD k 0 = o := by rw [List.getD, ho]; rfl
      obtain ⟨lb, lo, hAe, hlb, c16'⟩ := HAA.out.cell1 ho
      have c16 : wr.cell? ⟨lb, lo + k, none⟩ = some (.int .i64 o) := (HB.out.cell (p := ⟨lb, lo + k, none⟩) hlb).trans c16'
      have hsucc := numK_succ r.d l k
      have hle := numK_le r.d l k
      have hfk : r.d.numF l k = (decide (0 ≤ o) && r.d.lastB k) := by unfold RwD.numF; rw [hog]
      rw [hfk] at hsucc
      have HST := Lib.hid (fun (_ : True) => HSQ.out k hlt)
      have hcz : (r.d.numK l k : Int) ≤ 10 := by omega
      have hcz0 : (0 : Int) ≤ (r.d.numK l k : Int) := by omega
      have a22 : wr.cell? ⟨w.heap.size, 1, none⟩ = some (.slice r.ws.A r.ws.l.length r.ws.c) := HL.out.at_ 1
      have HBB := Lib.hid HB.out
      have HLL := Lib.hid HL.out
      have HSU := Lib.hid hsucc
      subst hAe
      clear ho hog hla c16' hsucc hfk HB HL hle
      by_cases h0 : 0 ≤ o
      · have d0 : decide (0 ≤ o) = true := decide_eq_true h0
        have hst := HST.out trivial
        have hsu := HSU.out
        rw [d0, Bool.true_and] at hsu
        rw [show r.d.lastB k = stB (r.d.dg (k : Nat)) (r.ws.l.length : Int) from rfl] at hsu
        obtain ⟨sb, hsb⟩ : ∃ sb, sb = stB (r.d.dg (k : Nat)) (r.ws.l.length : Int) := ⟨_, rfl⟩
        rw [← hsb] at hst hsu
        have HSU := Lib.hid hsu
        have HST := Lib.hid hst
        clear hst hsu hsb h0
        cases sb with
        | false =>
          go_wp2_with (first
            | ((fail_if_success (have hxx := D1)); refine wpList_load_rowG (o := ⟨some 19, _, _, _, _, _⟩) ?_ 26 (.tmp 2) ?_ w.heap.size ?_ 26 r.cells.toArray (0, 0) _ HLL.out Try.underlying26 rfl size_refrow ?_; kernel_rfl; rfl; rfl)
            | ((fail_if_success (have hxx := D1)); go_at_call 42; refine (HST.out _ HBB.out).mono ?_; rintro e w1 ⟨rfl, hb1⟩; have D1 := Lib.hid hb1))
          go_roundw
          case rel => exact ⟨k + 1, by omega, by rw [HSU.out]; rfl, by go_num, HBB.out.trans (D1.out.mono HBB.out.size), HLL.out.call D1.out⟩
          case measure => simp [intOf]; omega
        | true =>
          go_wp2_with (first
            | ((fail_if_success (have hxx := D1)); refine wpList_load_rowG (o := ⟨some 19, _, _, _, _, _⟩) ?_ 26 (.tmp 2) ?_ w.heap.size ?_ 26 r.cells.toArray (0, 0) _ HLL.out Try.underlying26 rfl size_refrow ?_; kernel_rfl; rfl; rfl)
            | ((fail_if_success (have hxx := D1)); go_at_call 42; refine (HST.out _ HBB.out).mono ?_; rintro e w1 ⟨rfl, hb1⟩; have D1 := Lib.hid hb1))
          go_roundw
          case rel => exact ⟨k + 1, by omega, by rw [HSU.out]; go_num, by go_num, HBB.out.trans (D1.out.mono HBB.out.size), HLL.out.call D1.out⟩
          case measure => simp [intOf]; omega
      · have d0 : decide (0 ≤ o) = false := decide_eq_false h0
        have hsu := HSU.out
        rw [d0, Bool.false_and] at hsu
        have HSU := Lib.hid hsu
        clear hsu h0
        go_wp2
        go_roundw
        case rel => exact ⟨k + 1, by omega, by rw [HSU.out]; rfl, by go_num, HBB.out, HLL.out⟩
        case measure => simp [intOf]; omega
    · obtain rfl : k = N := by omega
      have HBB := Lib.hid HB.out
      clear HB HL
      go_wp2
      go_ret
      exact ⟨rfl, HBB.out⟩
end Go.Proofs.Ytebkhgficochoaa

/- spread: what aphids did, by words. -/
namespace Go.Proofs.Ytebkhgficochoaa
open Go.RowKit Go.Lib

/-- After week 0. -/
def RwD.sp0 (r : RwD) (ws : List Nat) : List Int := (List.range r.dug.length).map fun p => if !r.cl && decide (wordD ws p % 3 = 0) then 0 else -1
def RwD.spStep (r : RwD) (ws : List Nat) (out : List Int) (k p : Nat) : Int := if decide (out.getD p 0 < 0) && r.fallB (truthD out) p k && decide (wordD ws (11 * k + p) % 2 = 0) then k else out.getD p 0
def RwD.spW (r : RwD) (ws : List Nat) : Nat → List Int
  | 0 => r.sp0 ws
  | k + 1 => (List.range r.dug.length).map (r.spStep ws (r.spW ws k) (k + 1))
def RwD.spreadD (r : RwD) (ws : List Nat) : List Int := r.spW ws r.ws.length
theorem spW_length (r : RwD) (ws : List Nat) : ∀ k, (r.spW ws k).length = r.dug.length
  | 0 => by unfold RwD.spW RwD.sp0; simp
  | k + 1 => by unfold RwD.spW; simp
theorem spW_succ_at (r : RwD) (ws : List Nat) (k p : Nat) (hp : p < r.dug.length) : (r.spW ws (k + 1)).getD p 0 = r.spStep ws (r.spW ws k) (k + 1) p := by
  rw [RwD.spW, List.getD, List.getElem?_map, List.getElem?_range hp]; rfl
theorem spW_zero_at (r : RwD) (ws : List Nat) (p : Nat) (hp : p < r.dug.length) : (r.spW ws 0).getD p 0 = if !r.cl && decide (wordD ws p % 3 = 0) then 0 else -1 := by
  rw [RwD.spW, RwD.sp0, List.getD, List.getElem?_map, List.getElem?_range hp]; rfl
theorem spW_b (r : RwD) (ws : List Nat) : ∀ k p, p < r.dug.length → -1 ≤ (r.spW ws k).getD p 0 ∧ (r.spW ws k).getD p 0 ≤ k
  | 0, p, hp => by rw [spW_zero_at r ws p hp]; split <;> omega
  | k + 1, p, hp => by
    have ih := spW_b r ws k p hp
    rw [spW_succ_at r ws k p hp]
    unfold RwD.spStep
    split <;> omega
theorem spW_mem (r : RwD) (ws : List Nat) (k : Nat) : ∀ o, o ∈ r.spW ws k → -1 ≤ o ∧ o ≤ k := fun o ho => by
  obtain ⟨i, hi, rfl⟩ := List.getElem_of_mem ho
  have h := spW_b r ws k i (by rw [← spW_length r ws k]; exact hi)
  rw [List.getD, List.getElem?_eq_getElem hi] at h
  exact h
/-- Who is ill stays so. -/
theorem spW_keep (r : RwD) (ws : List Nat) (k m p : Nat) (hp : p < r.dug.length) (h : 0 ≤ (r.spW ws k).getD p 0) : (r.spW ws (k + m)).getD p 0 = (r.spW ws k).getD p 0 := by
  induction m with
  | zero => rfl
  | succ m ih =>
    rw [show k + (m + 1) = k + m + 1 by omega, spW_succ_at r ws _ p hp]
    unfold RwD.spStep
    rw [ih, if_neg]
    rw [show decide ((r.spW ws k).getD p 0 < 0) = false from decide_eq_false (by omega)]; simp
/-- Who became ill in a week was not before, and could. -/
theorem spW_when (r : RwD) (ws : List Nat) : ∀ (m p : Nat), p < r.dug.length → ∀ o : Nat, (r.spW ws m).getD p 0 = o → (o = 0 ∧ r.cl = false) ∨ (∃ k, o = k + 1 ∧ k < m ∧ (r.spW ws k).getD p 0 < 0 ∧ r.fallB (truthD (r.spW ws k)) p (k + 1 : Nat) = true)
  | 0, p, hp, o, h => by
    rw [spW_zero_at r ws p hp] at h
    split at h
    · rename_i hc
      rw [Bool.and_eq_true] at hc
      exact .inl ⟨by omega, by simpa using hc.1⟩
    · omega
  | m + 1, p, hp, o, h => by
    rw [spW_succ_at r ws m p hp] at h
    unfold RwD.spStep at h
    split at h
    · rename_i hc
      simp only [Bool.and_eq_true, decide_eq_true_eq] at hc
      exact .inr ⟨m, by omega, by omega, hc.1.1, hc.1.2⟩
    · rcases spW_when r ws m p hp o h with h1 | ⟨k, h1, h2, h3, h4⟩
      · exact .inl h1
      · exact .inr ⟨k, h1, by omega, h3, h4⟩
/-- The list of the words is what may happen: each plant falls ill when it may. -/
theorem spread_falls {r : RwD} (hok : r.Ok) (ws : List Nat) {p : Nat} (hp : p < r.dug.length) : (truthD (r.spreadD ws)).getD p 0 = 31 ∨ r.fallB (truthD (r.spreadD ws)) p ((truthD (r.spreadD ws)).getD p 0) = true := by
  have hl := spW_length r ws r.ws.length
  have hd10 : r.dug.length ≤ 10 := by have := hok.dug; have := hok.n1; omega
  have hT : ∀ k q, q < r.dug.length → (truthD (r.spW ws k)).getD q 0 = in31 ((r.spW ws k).getD q 0) := fun k q hq => by
    have hk := spW_length r ws k
    rw [truthD_at, dif_pos (by omega), List.getD, List.getElem?_eq_getElem (by omega), Option.getD_some]
  have hb := spW_b r ws r.ws.length p hp
  unfold RwD.spreadD
  rw [hT _ p hp]
  by_cases h1 : (r.spW ws r.ws.length).getD p 0 = -1
  · left; unfold in31; rw [if_pos h1]
  · right
    obtain ⟨o, ho⟩ : ∃ o : Nat, (r.spW ws r.ws.length).getD p 0 = o := ⟨((r.spW ws r.ws.length).getD p 0).toNat, by omega⟩
    have e : in31 ((r.spW ws r.ws.length).getD p 0) = o := by unfold in31; rw [if_neg h1]; exact ho
    rw [e]
    rcases spW_when r ws _ p hp o ho with ⟨h2, h3⟩ | ⟨k, h2, h3, -, h5⟩
    · subst h2; unfold RwD.fallB; simp [h3]
    · subst h2
      refine fall_mono hok (fun q hq hlt => ?_) h5
      rw [hT _ q hq] at hlt ⊢
      rw [hT _ q hq]
      have hbq := spW_b r ws k q hq
      have hge : 0 ≤ (r.spW ws k).getD q 0 := by
        refine Classical.byContradiction fun hn => ?_
        have : (r.spW ws k).getD q 0 = -1 := by omega
        unfold in31 at hlt
        rw [if_pos this] at hlt
        have := hok.nw
        omega
      have := spW_keep r ws k (r.ws.length - k) q hq hge
      rw [show k + (r.ws.length - k) = r.ws.length by omega] at this
      rw [this]; exact Int.le_refl _
theorem made_zero (n : Nat) : madeCells #[.int .i64 0] n = vals (List.replicate n 0) := by
  apply Array.ext
  · simp [vals, size_madeCells]
  · intro i h1 h2
    simp [madeCells, vals, Nat.mod_one]
theorem make_ints (n : Nat) (hn : n ≤ 1000000) (w : World) : (Instr.makeSlice 23 (.int .i64 (n : Int)) (.int .i64 (n : Int))).run Try.prog w = .ok (.slice (some ⟨w.heap.size, 0, none⟩) n n) (w.alloc (.cells (vals (List.replicate n 0)) 3)) := by
  obtain ⟨j0, hj, yz0, yz1, yz2⟩ := info_parts info_int
  have := run_make_n (P := Try.prog) 23 3 j0 _ Try.underlying23 hj yz0 n (by rw [yz2]; omega) (by omega) w
  rw [yz1, Nat.mul_one] at this
  rw [this, ← made_zero]
  rfl
theorem own_of_lies {W : World} {g base : Nat} {l : List Int} (h : Lies W g 3 (vals l)) (hb : base ≤ g) (hm : l.length ≤ maxLen) : W.ownsRow base 3 1 (.slice (some ⟨g, 0, none⟩) l.length l.length) l.length (l.flatMap encI) := by
  have hf : ∀ l : List Int, l.flatMap encI = l.map (Value.int .i64) := fun l => by
    induction l with
    | nil => rfl
    | cons x l ih => rw [List.flatMap_cons, ih]; rfl
  have hf := hf l
  refine ⟨by rw [hf]; simp, .inr ⟨g, l.length, vals l, rfl, hb, h, Nat.le_refl _, hm, by simp [vals], ?_⟩⟩
  rw [hf, Nat.mul_one]
  unfold vals
  rw [List.toList_toArray, List.take_of_length_le (by simp)]
theorem own_setI {W : World} {base : Nat} {A : Option Addr} {c p : Nat} {l : List Int} (h : W.ownsRow base 3 1 (.slice A l.length c) l.length (l.flatMap encI)) (hp : p < l.length) :
    ∃ g, A = some ⟨g, 0, none⟩ ∧ base ≤ g ∧ g < W.heap.size ∧ W.cell? ⟨g, p, none⟩ = some (.int .i64 (l.getD p 0)) ∧ W.frozen? ⟨g, p, none⟩ = false ∧ ∀ v, (W.setCell ⟨g, p, none⟩ (.int .i64 v)).ownsRow base 3 1 (.slice A l.length c) l.length ((l.set p v).flatMap encI) := by
  obtain ⟨g5, cur, hA, hb5, hl5⟩ := own_addr h (by omega)
  obtain ⟨z, hz⟩ : ∃ z, l[p]? = some z := ⟨l[p], by simp [hp]⟩
  obtain ⟨A', c', e1, -, hS⟩ := Sl.of_own (enc := encI) (fun _ => rfl) h rfl
  cases e1
  obtain ⟨b, off, e2, hbl, hc⟩ := hS.cell1 hz
  rw [hA] at e2
  cases e2
  refine ⟨g5, hA, hb5, hl5.in_, by rw [List.getD, hz]; simpa using hc, hl5.free p, fun v => ?_⟩
  have h1 := own_set_cell (u := .int .i64 v) h hA (i := p) (by rw [flat_len (enc := encI) (k := 1) (fun _ => rfl), Nat.mul_one]; exact hp)
  have h2 := flat_set (enc := encI) (k := 1) (fun _ => rfl) (q := 0) (u := .int .i64 v) (y := v) (z := z) (by omega) rfl l p hz
  rw [Nat.mul_one, Nat.add_zero] at h2
  rw [h2] at h1
  exact h1
/-- A list that is filled up to k. -/
def upTo (N k : Nat) (f g : Nat → Int) : List Int := (List.range N).map fun p => if p < k then f p else g p
theorem upTo_length (N k : Nat) (f g : Nat → Int) : (upTo N k f g).length = N := by simp [upTo]
theorem upTo_set (N k : Nat) (f g : Nat → Int) : (upTo N k f g).set k (f k) = upTo N (k + 1) f g := by
  refine List.ext_getElem? fun i => ?_
  unfold upTo
  rw [List.getElem?_set]
  by_cases hi : i < N
  · rw [List.getElem?_map, List.getElem?_map, List.getElem?_range hi]
    by_cases e : k = i
    · subst e; rw [if_pos rfl, if_pos (by simp; omega)]; simp
    · rw [if_neg e]
      simp only [Option.map_some, Option.some.injEq]
      by_cases h : i < k
      · rw [if_pos h, if_pos (by omega)]
      · rw [if_neg h, if_neg (by omega)]
  · rw [List.getElem?_eq_none (by simp; omega), List.getElem?_eq_none (by simp; omega)]
    split
    · rw [if_neg (by simp; omega)]
    · rfl
theorem upTo_skip (N k : Nat) (f g : Nat → Int) (h : f k = g k) : upTo N k f g = upTo N (k + 1) f g := by
  unfold upTo
  refine List.map_congr_left fun p _ => ?_
  by_cases e : p = k
  · subst e; rw [if_neg (by omega), if_pos (by omega), h]
  · by_cases h2 : p < k
    · rw [if_pos h2, if_pos (by omega)]
    · rw [if_neg h2, if_neg (by omega)]
theorem upTo_zero (N : Nat) (f g : Nat → Int) : upTo N 0 f g = (List.range N).map g := by unfold upTo; simp
theorem upTo_all (N : Nat) (f g : Nat → Int) : upTo N N f g = (List.range N).map f := by
  unfold upTo
  exact List.map_congr_left fun p hp => if_pos (List.mem_range.1 hp)
theorem getD_range (l : List Int) : (List.range l.length).map (fun p => l.getD p 0) = l := by
  refine List.ext_getElem? fun i => ?_
  by_cases h : i < l.length
  · rw [List.getElem?_map, List.getElem?_range h, List.getElem?_eq_getElem h]; simp [List.getD, h]
  · rw [List.getElem?_eq_none (by simp; omega), List.getElem?_eq_none (by omega)]
end Go.Proofs.Ytebkhgficochoaa

/- spread: the walk. -/
namespace Go.Proofs.Ytebkhgficochoaa
open Go.RowKit Go.Lib

/-- The list that is filled, in memory. -/
structure SpM (r : RwM) (w : World) (b0 N : Nat) (A : Option Addr) (c : Nat) (l : List Int) (W : World) : Prop where
  r : Lies W w.heap.size 26 r.cells.toArray
  b : Below w.heap.size w W
  o : W.ownsRow b0 3 1 (.slice A N c) N (l.flatMap encI)
  hl : l.length = N
  g : w.heap.size < b0
theorem SpM.call {r : RwM} {w W W' : World} {b0 N c : Nat} {A : Option Addr} {l : List Int} (h : SpM r w b0 N A c l W) (hb : Below W.heap.size W W') : SpM r w b0 N A c l W' :=
  ⟨h.r.call hb, h.b.trans (hb.mono h.b.size), ownsRow_call h.o hb, h.hl, h.g⟩
theorem own_lower {W : World} {b0 b1 N : Nat} {e : TypeId} {k : Nat} {v : Value} {xs : List Value} (h : W.ownsRow b0 e k v N xs) (hb : b1 ≤ b0) : W.ownsRow b1 e k v N xs := by
  refine ⟨h.1, ?_⟩
  rcases h.2 with h0 | ⟨g, cap, cur, e, hbg, rest⟩
  · exact .inl h0
  · exact .inr ⟨g, cap, cur, e, Nat.le_trans hb hbg, rest⟩
theorem SpM.low {r : RwM} {w W : World} {b0 b1 N c : Nat} {A : Option Addr} {l : List Int} (h : SpM r w b0 N A c l W) (hb : b1 ≤ b0) (hg : w.heap.size < b1) : SpM r w b1 N A c l W :=
  ⟨h.r, h.b, own_lower h.o hb, h.hl, hg⟩
theorem SpM.sl {r : RwM} {w W : World} {b0 N c : Nat} {A : Option Addr} {l : List Int} (h : SpM r w b0 N A c l W) : Sl W W.heap.size 1 encI A l := by
  obtain ⟨-, -, ho, hl, -⟩ := h
  subst hl
  obtain ⟨A', c', e1, -, hS⟩ := Sl.of_own (enc := encI) (fun _ => rfl) ho rfl
  cases e1
  exact hS
theorem SpM.at_ {r : RwM} {w W : World} {b0 N c p : Nat} {A : Option Addr} {l : List Int} (h : SpM r w b0 N A c l W) (hp : p < N) :
    ∃ g, A = some ⟨g, 0, none⟩ ∧ b0 ≤ g ∧ g < W.heap.size ∧ W.cell? ⟨g, p, none⟩ = some (.int .i64 (l.getD p 0)) ∧ W.frozen? ⟨g, p, none⟩ = false ∧ ∀ v, SpM r w b0 N A c (l.set p v) (W.setCell ⟨g, p, none⟩ (.int .i64 v)) := by
  obtain ⟨hr, hb, ho, hl, hg⟩ := h
  subst hl
  obtain ⟨g, e, h1, h2, h3, h4, h5⟩ := own_setI ho hp
  refine ⟨g, e, h1, h2, h3, h4, fun v => ?_⟩
  have hO := Only.set g p W (.int .i64 v)
  exact ⟨hO.lies hr (by omega), hO.below hb (by omega), h5 v, by simp, hg⟩
theorem SpM.some {r : RwM} {w W : World} {b0 N c : Nat} {A : Option Addr} {l : List Int} (h : SpM r w b0 N A c l W) (hN : 0 < N) : ∃ g, A = some ⟨g, 0, none⟩ := by
  obtain ⟨g, e, -⟩ := h.at_ hN
  exact ⟨g, e⟩
def RwD.sp0f (r : RwD) (ws : List Nat) (p : Nat) : Int := if !r.cl && decide (wordD ws p % 3 = 0) then 0 else -1
set_option maxRecDepth 100000 in
set_option maxHeartbeats 8000000 in
theorem spread_any (r : RwM) (A : Option Addr) (c : Nat) (ws : List Nat) (w : World) (hr : r.At w w.heap.size) (hok : r.d.Ok) (hA : Sl w w.heap.size 1 enc16 A ws) (hl : ws.length ≤ maxLen) (hx : ∀ x, x ∈ ws → x < 65536) :
    Calls Try.prog 39 #[.agg r.cells.toArray, .slice A ws.length c] w fun e w' => ∃ A' c', e = .returned (.slice A' r.dug.l.length c') ∧ w'.ownsRow w.heap.size 3 1 (.slice A' r.dug.l.length c') r.dug.l.length ((r.d.spreadD ws).flatMap encI) ∧ Below w.heap.size w w' := by
  obtain ⟨N, hN⟩ : ∃ N, N = r.dug.l.length := ⟨_, rfl⟩
  obtain ⟨Y, hY⟩ : ∃ Y, Y = r.ws.l.length := ⟨_, rfl⟩
  have hnn : r.n = (N : Int) := by rw [hN]; exact hok.dug.symm
  have hN10 : N ≤ 10 := by have := hok.n1; have h2 : r.d.n = r.n := rfl; omega
  have hN1 : 1 ≤ N := by have := hok.n0; have h2 : r.d.n = r.n := rfl; omega
  have hY30 : Y ≤ 30 := by rw [hY]; exact hok.nw
  have hdl : r.d.dug.length = N := hN.symm
  have hres : r.d.spreadD ws = r.d.spW ws Y := by unfold RwD.spreadD; rw [hY]; rfl
  have hsl := spW_length r.d ws
  rw [hdl] at hsl
  have hz : r.d.spW ws 0 = upTo N N (r.d.sp0f ws) (fun _ => 0) := by rw [upTo_all]; unfold RwD.spW RwD.sp0 RwD.sp0f; rw [hdl]
  have hsu : ∀ k, r.d.spW ws (k + 1) = upTo N N (r.d.spStep ws (r.d.spW ws k) (k + 1)) (fun p => (r.d.spW ws k).getD p 0) := fun k => by rw [upTo_all, RwD.spW, hdl]
  have hs0 : ∀ k, r.d.spW ws k = upTo N 0 (r.d.spStep ws (r.d.spW ws k) (k + 1)) (fun p => (r.d.spW ws k).getD p 0) := fun k => by rw [upTo_zero]; have := getD_range (r.d.spW ws k); rw [hsl k] at this; exact this.symm
  have hmem : ∀ k, k ≤ Y → ∀ o, o ∈ r.d.spW ws k → -1 ≤ o ∧ o ≤ 30 := fun k hk o ho => by have := spW_mem r.d ws k o ho; omega
  have hW := fun (k : Nat) (hk : k ≤ 1000) W (hb : Below w.heap.size w W) => word_any A c ws k W ((hA.below hb).more hb.size) hl hx hk
  have hC := fun (k p : Nat) (hk : k + 1 ≤ Y) (hp : p < N) W (hb : Below w.heap.size w W) (A2 : Option Addr) (c2 : Nat) (hS : Sl W W.heap.size 1 encI A2 (r.d.spW ws k)) => (by
    have h := Comes_any r A2 c2 (r.d.spW ws k) p (k + 1) W (hr.below hb hb.size) hok hS (by rw [hsl k, hN]) (hmem k (by omega)) (by omega) (by omega) (by omega)
    rw [hsl k] at h
    exact h : Calls Try.prog 54 #[.agg r.cells.toArray, .slice A2 N c2, .int .i64 p, .int .i64 ((k + 1 : Nat) : Int)] W fun e w' => e = .returned (.bool (r.d.fallB (truthD (r.d.spW ws k)) p ((k + 1 : Nat) : Int))) ∧ Below W.heap.size W w')
  have hLi := fun (k : Nat) (W : World) (A2 : Option Addr) (c2 : Nat) (hS : Sl W W.heap.size 1 encI A2 (r.d.spW ws k)) (hn : ∃ a, A2 = some a) => (by
    have h := lawList_own A2 c2 (r.d.spW ws k) W hS (by rw [hsl k]; omega) (fun e => by obtain ⟨a, h⟩ := hn; rw [e] at h; cases h)
    rw [hsl k] at h
    exact h : Calls Try.prog 21 #[.slice A2 N c2] W fun e w' => ∃ A' c', e = .returned (.slice A' N c') ∧ w'.ownsRow W.heap.size 3 1 (.slice A' N c') N ((r.d.spW ws k).flatMap encI) ∧ Below W.heap.size W w')
  have hwb : ∀ k, wordD ws k < 65536 := wordD_le hx
  have l0 : Lies (w.alloc (.cells r.cells.toArray 26)) w.heap.size 26 r.cells.toArray := Lies.fresh _ _ _
  have b0 : Below w.heap.size w (w.alloc (.cells r.cells.toArray 26)) := (by repeat (first | (with_reducible assumption) | (with_reducible exact Below.refl _ _) | (with_reducible refine Below.drew ?_) | (with_reducible refine below_drewN ?_ _) | ((with_reducible refine Below.setCell ?_ ?_ _); rotate_left; focus (first | (simp; done) | (simp; omega) | omega)) | ((with_reducible refine Below.alloc ?_ ?_ _); rotate_left; focus (first | (simp; done) | (simp; omega) | omega))))
  have cn0 : (w.alloc (.cells r.cells.toArray 26)).cell? ⟨w.heap.size, 0, none⟩ = some (.int .i64 N) := by rw [← hnn]; exact l0.at_ 0
  rw [← hN, hres]
  have L0 := Lib.hid l0
  have B0 := Lib.hid b0
  have HW := Lib.hid hW
  have HC := Lib.hid hC
  have HLI := Lib.hid hLi
  have HNN := Lib.hid hnn
  have HZ := Lib.hid hz
  have HSU := Lib.hid hsu
  have HS0 := Lib.hid hs0
  have HSL := Lib.hid hsl
  have HWB := Lib.hid hwb
  have HY := Lib.hid hY
  have hmk := make_ints N (by omega)
  clear l0 b0 hW hC hLi hnn hz hsu hs0 hsl hmem hA hr hok hl hx hN hres hwb hdl hY
  go_enter Try.func39, Try.ntmps39
  go_upto_region 1 with (fail)
  change Code.wp _ _ _ _ (w.alloc (.cells r.cells.toArray 26))
  generalize w.alloc (.cells r.cells.toArray 26) = w0 at *
  go_upto_region 2 with (fail)
  have M1 : SpM r w w0.heap.size N (some ⟨w0.heap.size, 0, none⟩) N (List.replicate N 0) (w0.alloc (.cells (vals (List.replicate N 0)) 3)) :=
    ⟨L0.out.alloc _, B0.out.alloc B0.out.size _, by
      have := own_of_lies (l := List.replicate N 0) (Lies.fresh w0 3 (vals (List.replicate N 0))) (Nat.le_refl _) (by simp [maxLen]; omega)
      rwa [List.length_replicate] at this, by simp, L0.out.in_⟩
  have HM1 := Lib.hid M1
  clear M1 hmk cn0 L0 B0
  change Code.wp _ _ _ _ (w0.alloc (.cells (vals (List.replicate N 0)) 3))
  generalize w0.alloc (.cells (vals (List.replicate N 0)) 3) = w1 at *
  generalize w0.heap.size = g0 at *
  go_wp2
  go_loopw [6] (fun s6 wr => ∃ k : Nat, k ≤ N ∧ s6 = .int .i64 k ∧ Aside (SpM r w g0 N (some ⟨g0, 0, none⟩) N (upTo N k (r.d.sp0f ws) (fun _ => 0)) wr)) (fun i _ => N - (intOf i).toNat)
  case atStart => exact ⟨0, by omega, rfl, (show Aside _ from by rw [upTo_zero, List.map_const', List.length_range]; exact HM1.out)⟩
  case round =>
    obtain ⟨k, hk, rfl, HB⟩ := hrel
    clear HM1
    have cn : wr.cell? ⟨w.heap.size, 0, none⟩ = some (.int .i64 N) := by rw [← HNN.out]; exact HB.out.r.at_ 0
    by_cases hlt : k < N
    · have hltz : (k : Int) < (N : Int) := by omega
      have hk0 : (0 : Int) ≤ (k : Int) := by omega
      obtain ⟨g, e, hgb, hgs, hc, hf, hst⟩ := HB.out.at_ hlt
      cases e
      have HST := Lib.hid (hst (-1))
      clear hst
      go_upto_region 6 with (fail)
      with_reducible change Code.wp _ _ _ _ (wr.setCell ⟨g0, k, none⟩ (.int .i64 (-1)))
      clear hc hf cn HB
      generalize wr.setCell ⟨g0, k, none⟩ (.int .i64 (-1)) = w2 at *
      have c5 : w2.cell? ⟨w.heap.size, 5, none⟩ = some (.bool r.cl) := HST.out.r.at_ 5
      obtain ⟨cl, hcl⟩ : ∃ cl, r.cl = cl := ⟨_, rfl⟩
      have hf0 : r.d.sp0f ws k = if !cl && decide (wordD ws k % 3 = 0) then 0 else -1 := by rw [← hcl]; rfl
      rw [hcl] at c5
      obtain ⟨x, hx⟩ : ∃ x, x = wordD ws k := ⟨_, rfl⟩
      have hxb := HWB.out k
      have hWk := HW.out k (by omega)
      rw [← hx] at hf0 hxb hWk
      have HWK := Lib.hid hWk
      have hxz : (x : Int) < 65536 := by omega
      have hx0 : (0 : Int) ≤ (x : Int) := by omega
      have hend : ∀ W, SpM r w g0 N (some ⟨g0, 0, none⟩) N ((upTo N k (r.d.sp0f ws) (fun _ => 0)).set k (r.d.sp0f ws k)) W → SpM r w g0 N (some ⟨g0, 0, none⟩) N (upTo N (k + 1) (r.d.sp0f ws) (fun _ => 0)) W := fun W h => by rw [upTo_set] at h; exact h
      have HE := Lib.hid hend
      have HF0 := Lib.hid hf0
      clear hcl hx hxb hWk hf0 hend
      cases cl with
      | true =>
        go_wp2
        go_roundw
        case rel => exact ⟨k + 1, by omega, by go_num, HE.out _ (by rw [HF0.out]; exact HST.out)⟩
        case measure => simp [intOf]; omega
      | false =>
        by_cases h3 : x % 3 = 0
        · have d3 : (((x : Int) % 3) == 0) = true := by simp; omega
          have d4 : (x : Int) % 3 = 0 := by omega
          go_upto_region 7 with (go_at_call 64; refine (HWK.out _ HST.out.b).mono ?_; rintro e w3 ⟨rfl, hb3⟩; have M3 := Lib.hid (HST.out.call hb3))
          obtain ⟨g, e, hgb3, hgs3, hc3, hf3, hst3⟩ := M3.out.at_ hlt
          cases e
          have HST3 := Lib.hid (hst3 0)
          clear hst3 hb3
          go_wp2
          go_roundw
          case rel => exact ⟨k + 1, by omega, by go_num, HE.out _ (by rw [HF0.out]; have h := HST3.out; rw [List.set_set] at h; simpa [h3] using h)⟩
          case measure => simp [intOf]; omega
        · have d3 : (((x : Int) % 3) == 0) = false := by simp; omega
          have d4 : ((x : Int) % 3 = 0) = False := by simp; omega
          go_wp2_with (go_at_call 64; refine (HWK.out _ HST.out.b).mono ?_; rintro e w3 ⟨rfl, hb3⟩; have M3 := Lib.hid (HST.out.call hb3))
          go_roundw
          case rel => exact ⟨k + 1, by omega, by go_num, HE.out _ (by rw [HF0.out]; have h := M3.out; simpa [h3] using h)⟩
          case measure => simp [intOf]; omega
    · obtain rfl : k = N := by omega
      have M0 := Lib.hid (show SpM r w g0 k (some ⟨g0, 0, none⟩) k (r.d.spW ws 0) wr by rw [HZ.out]; exact HB.out)
      clear HB HZ
      go_wp2
      go_loopw [5, 7, 8, 9] (fun s5 s7 _ _ wq => ∃ (m : Nat) (A1 : Option Addr) (c1 : Nat), m ≤ Y ∧ s5 = .slice A1 k c1 ∧ s7 = .int .i64 ((m + 1 : Nat) : Int) ∧ Aside (SpM r w g0 k A1 c1 (r.d.spW ws m) wq)) (fun _ i _ _ _ => Y + 1 - (intOf i).toNat)
      case atStart => exact ⟨0, _, _, by omega, rfl, rfl, M0.out⟩
      case round =>
        obtain ⟨m, A1, c1, hm, rfl, rfl, HB⟩ := hrel
        clear M0
        have a1 : wr.cell? ⟨w.heap.size, 1, none⟩ = some (.slice r.ws.A Y r.ws.c) := by rw [HY.out]; exact HB.out.r.at_ 1
        by_cases hlt : m < Y
        · have hle : ((m + 1 : Nat) : Int) ≤ (Y : Int) := by omega
          have hYz : (Y : Int) ≤ 30 := by omega
          have hm1 : ((m + 1 : Nat) : Int) ≤ 30 := by omega
          have hm0 : (0 : Int) ≤ ((m + 1 : Nat) : Int) := by omega
          have hLi := HLI.out m wr A1 c1 HB.out.sl (by obtain ⟨g, e⟩ := HB.out.some (by omega); exact ⟨_, e⟩)
          have HL := Lib.hid hLi
          clear hLi
          go_upto_region 12 with (go_at_call 21; refine HL.out.mono ?_; rintro e w4 ⟨A2, c2, rfl, ho4, hb4⟩; have HO4 := Lib.hid ho4; clear ho4)
          have hgw : g0 < wr.heap.size := by
            obtain ⟨g, e, h1, h2, -⟩ := HB.out.at_ (p := 0) (by omega)
            omega
          have M4 := Lib.hid (show SpM r w wr.heap.size k A2 c2 (upTo k 0 (r.d.spStep ws (r.d.spW ws m) (m + 1)) (fun p => (r.d.spW ws m).getD p 0)) w4 from ⟨HB.out.r.call hb4, HB.out.b.trans (hb4.mono HB.out.b.size), by rw [← HS0.out]; exact HO4.out, by rw [upTo_length], HB.out.r.in_⟩)
          have S4 := Lib.hid ((HB.out.sl).below hb4)
          have B4 := Lib.hid (Below.refl wr.heap.size w4)
          have hgg : g0 ≤ wr.heap.size ∧ w.heap.size < g0 := ⟨by omega, HB.out.g⟩
          have HGG := Lib.hid hgg
          have hbw : wr.heap.size ≤ w4.heap.size := hb4.size
          have HBW := Lib.hid hbw
          clear HB HO4 hb4 hgg HL a1 hbw
          generalize wr.heap.size = B at *
          go_wp2
          go_loopw [9] (fun s9 wq => ∃ p : Nat, p ≤ k ∧ s9 = .int .i64 p ∧ Aside (SpM r w B k A2 c2 (upTo k p (r.d.spStep ws (r.d.spW ws m) (m + 1)) (fun p => (r.d.spW ws m).getD p 0)) wq) ∧ Aside (Below B w4 wq)) (fun i _ => k - (intOf i).toNat)
          case atStart => exact ⟨0, by omega, rfl, M4.out, B4.out⟩
          case round =>
            obtain ⟨p, hp, rfl, HB, HBB⟩ := hrel
            clear M4 B4
            have cn : wr.cell? ⟨w.heap.size, 0, none⟩ = some (.int .i64 k) := by rw [← HNN.out]; exact HB.out.r.at_ 0
            by_cases hlp : p < k
            · have hlpz : (p : Int) < (k : Int) := by omega
              have hp0 : (0 : Int) ≤ (p : Int) := by omega
              have hkz : (k : Int) ≤ 10 := by omega
              have hSw := S4.out.below HBB.out
              obtain ⟨o, ho⟩ : ∃ o, (r.d.spW ws m)[p]? = some o := ⟨(r.d.spW ws m)[p]'(by rw [HSL.out]; exact hlp), by simp⟩
              have hog : (r.d.spW ws m).getD p 0 = o := by rw [List.getD, ho]; rfl
              obtain ⟨ob, oo, hAe, hob, hoc⟩ := hSw.cell1 ho
              subst hAe
              have hBs : B ≤ wr.heap.size := Nat.le_trans HBW.out HBB.out.size
              have HBS := Lib.hid hBs
              have hCo := HC.out m p (by omega) hlp wr HB.out.b _ c1 (hSw.more hBs)
              have hWo := fun W hb => HW.out (11 * (m + 1) + p) (by omega) W hb
              rw [show ((11 * (m + 1) + p : Nat) : Int) = 11 * ((m + 1 : Nat) : Int) + (p : Int) by simp] at hWo
              have hst : r.d.spStep ws (r.d.spW ws m) (m + 1) p = if decide (o < 0) && r.d.fallB (truthD (r.d.spW ws m)) p ((m + 1 : Nat) : Int) && decide (wordD ws (11 * (m + 1) + p) % 2 = 0) then ((m + 1 : Nat) : Int) else o := by unfold RwD.spStep; rw [hog]
              have hxb := HWB.out (11 * (m + 1) + p)
              obtain ⟨cb, hcb⟩ : ∃ cb, cb = r.d.fallB (truthD (r.d.spW ws m)) p ((m + 1 : Nat) : Int) := ⟨_, rfl⟩
              obtain ⟨x, hx⟩ : ∃ x, x = wordD ws (11 * (m + 1) + p) := ⟨_, rfl⟩
              rw [← hcb] at hCo hst
              rw [← hx] at hWo hst hxb
              have hxz : (x : Int) < 65536 := by omega
              have hx0 : (0 : Int) ≤ (x : Int) := by omega
              have HCO := Lib.hid hCo
              have HWO := Lib.hid hWo
              have hskip : ∀ W, SpM r w B k A2 c2 (upTo k p (r.d.spStep ws (r.d.spW ws m) (m + 1)) (fun p => (r.d.spW ws m).getD p 0)) W → r.d.spStep ws (r.d.spW ws m) (m + 1) p = o → SpM r w B k A2 c2 (upTo k (p + 1) (r.d.spStep ws (r.d.spW ws m) (m + 1)) (fun p => (r.d.spW ws m).getD p 0)) W := fun W h e => by rw [upTo_skip _ _ _ _ (by rw [e]; exact hog.symm)] at h; exact h
              have hset : ∀ W, SpM r w B k A2 c2 ((upTo k p (r.d.spStep ws (r.d.spW ws m) (m + 1)) (fun p => (r.d.spW ws m).getD p 0)).set p (r.d.spStep ws (r.d.spW ws m) (m + 1) p)) W → SpM r w B k A2 c2 (upTo k (p + 1) (r.d.spStep ws (r.d.spW ws m) (m + 1)) (fun p => (r.d.spW ws m).getD p 0)) W := fun W h => by rw [upTo_set] at h; exact h
              have HSK := Lib.hid hskip
              have HSE := Lib.hid hset
              have HSTP := Lib.hid hst
              have hw1 : IntKind.i64.wrap (11 * ((m + 1 : Nat) : Int)) = 11 * ((m + 1 : Nat) : Int) := IntWalk.i64_in _ (by omega)
              have hw2 : IntKind.i64.wrap (11 * ((m + 1 : Nat) : Int) + (p : Int)) = 11 * ((m + 1 : Nat) : Int) + (p : Int) := IntWalk.i64_in _ (by omega)
              have LR := Lib.hid HB.out.r
              clear hSw ho hog hCo hWo hst hcb hx hxb hskip hset
              by_cases h0 : o < 0
              · have d0 : decide (o < 0) = true := decide_eq_true h0
                cases cb with
                | false =>
                  go_wp2_with (first
                    | ((fail_if_success (have hxx := D1)); refine wpList_load_rowG (o := ⟨Option.some 56, _, _, _, _, _⟩) ?_ 26 (.tmp 2) ?_ w.heap.size ?_ 26 r.cells.toArray (0, 0) _ LR.out Try.underlying26 rfl size_refrow ?_; kernel_rfl; rfl; rfl)
                    | ((fail_if_success (have hxx := D1)); go_at_call 54; refine HCO.out.mono ?_; rintro e w5 ⟨rfl, hb5⟩; have D1 := Lib.hid hb5))
                  go_roundw
                  case rel => exact ⟨p + 1, by omega, by go_num, HSK.out _ (HB.out.call D1.out) (by rw [HSTP.out]; simp), HBB.out.trans (D1.out.mono HBS.out)⟩
                  case measure => simp [intOf]; omega
                | true =>
                  by_cases h2 : x % 2 = 0
                  · have d3 : (((x : Int) % 2) == 0) = true := by simp; omega
                    have d4 : (x : Int) % 2 = 0 := by omega
                    go_upto_region 16 with (first
                      | ((fail_if_success (have hxx := D1)); refine wpList_load_rowG (o := ⟨Option.some 56, _, _, _, _, _⟩) ?_ 26 (.tmp 2) ?_ w.heap.size ?_ 26 r.cells.toArray (0, 0) _ LR.out Try.underlying26 rfl size_refrow ?_; kernel_rfl; rfl; rfl)
                      | ((fail_if_success (have hxx := D1)); go_at_call 54; refine HCO.out.mono ?_; rintro e w5 ⟨rfl, hb5⟩; have D1 := Lib.hid hb5)
                      | ((fail_if_success (have hxx := D2)); have hxx := D1; clear hxx; go_at_call 64; refine (HWO.out _ (HB.out.b.trans (D1.out.mono HB.out.b.size))).mono ?_; rintro e w6 ⟨rfl, hb6⟩; have D2 := Lib.hid (D1.out.trans (hb6.mono D1.out.size)); clear hb6))
                    have M6 := Lib.hid (HB.out.call D2.out)
                    obtain ⟨g, e, hgb6, hgs6, hc6, hf6, hst6⟩ := M6.out.at_ hlp
                    cases e
                    have HST6 := Lib.hid (hst6 ((m + 1 : Nat) : Int))
                    have B6 := Lib.hid ((Only.set g p w6 (.int .i64 ((m + 1 : Nat) : Int))).below (HBB.out.trans (D2.out.mono HBS.out)) hgb6)
                    clear hst6 hb5 D1 cn
                    go_wp2
                    go_roundw
                    case rel => exact ⟨p + 1, by omega, by go_num, HSE.out _ (by rw [HSTP.out]; have h := HST6.out; simpa [h0, h2] using h), B6.out⟩
                    case measure => simp [intOf]; omega
                  · have d3 : (((x : Int) % 2) == 0) = false := by simp; omega
                    have d4 : ((x : Int) % 2 = 0) = False := by simp; omega
                    go_wp2_with (first
                      | ((fail_if_success (have hxx := D1)); refine wpList_load_rowG (o := ⟨Option.some 56, _, _, _, _, _⟩) ?_ 26 (.tmp 2) ?_ w.heap.size ?_ 26 r.cells.toArray (0, 0) _ LR.out Try.underlying26 rfl size_refrow ?_; kernel_rfl; rfl; rfl)
                      | ((fail_if_success (have hxx := D1)); go_at_call 54; refine HCO.out.mono ?_; rintro e w5 ⟨rfl, hb5⟩; have D1 := Lib.hid hb5)
                      | ((fail_if_success (have hxx := D2)); have hxx := D1; clear hxx; go_at_call 64; refine (HWO.out _ (HB.out.b.trans (D1.out.mono HB.out.b.size))).mono ?_; rintro e w6 ⟨rfl, hb6⟩; have D2 := Lib.hid (D1.out.trans (hb6.mono D1.out.size)); clear hb6))
                    go_roundw
                    case rel => exact ⟨p + 1, by omega, by go_num, HSK.out _ (HB.out.call D2.out) (by rw [HSTP.out]; simp [h2]), HBB.out.trans (D2.out.mono HBS.out)⟩
                    case measure => simp [intOf]; omega
              · have d0 : decide (o < 0) = false := decide_eq_false h0
                go_wp2
                go_roundw
                case rel => exact ⟨p + 1, by omega, by go_num, HSK.out _ HB.out (by rw [HSTP.out, d0]; simp), HBB.out⟩
                case measure => simp [intOf]; omega
            · obtain rfl : p = k := by omega
              go_wp2
              go_roundw
              case rel => exact ⟨m + 1, A2, c2, by omega, rfl, by go_num, (show Aside _ from by have h := HB.out.low HGG.out.1 HGG.out.2; rw [← HSU.out] at h; exact h)⟩
              case measure => simp [intOf]; omega
        · obtain rfl : m = Y := by omega
          have BB := Lib.hid HB.out.b
          have OO := Lib.hid (HB.out.low (b1 := w.heap.size + 1) HB.out.g (by omega)).o
          have hle : ¬ ((m + 1 : Nat) : Int) ≤ (m : Int) := by omega
          clear HB
          go_wp2
          go_ret
          exact ⟨A1, c1, rfl, own_lower OO.out (by omega), BB.out⟩
end Go.Proofs.Ytebkhgficochoaa

/- noted: a row whose notes say what is so in a truth. -/
namespace Go.Proofs.Ytebkhgficochoaa
open Go.RowKit Go.Lib

/-- What note number i says. -/
def RwD.noteYes (r : RwD) (t : List Int) (ws : List Nat) (i : Nat) (n : Nt) : Bool :=
  if n.k = 0 then decide (0 ≤ t.getD n.p.toNat 0) && decide (t.getD n.p.toNat 0 ≤ n.w - r.sh)
  else decide (0 ≤ t.getD n.p.toNat 0) && decide (t.getD n.p.toNat 0 ≤ n.w) && (decide (t.getD n.p.toNat 0 ≤ n.w - r.old) || decide (wordD ws (i + 5) % 2 = 0))
def RwD.ndTo (r : RwD) (t : List Int) (ws : List Nat) (k : Nat) : List Nt := r.ns.mapIdx fun i n => if i < k then { n with y := r.noteYes t ws i n } else n
theorem ndTo_length (r : RwD) (t : List Int) (ws : List Nat) (k : Nat) : (r.ndTo t ws k).length = r.ns.length := by unfold RwD.ndTo; simp
theorem ndTo_zero (r : RwD) (t : List Int) (ws : List Nat) : r.ndTo t ws 0 = r.ns := by
  unfold RwD.ndTo
  refine List.ext_getElem? fun i => ?_
  rw [List.getElem?_mapIdx]
  cases r.ns[i]? <;> simp
theorem ndTo_at {r : RwD} {t : List Int} {ws : List Nat} {k : Nat} {z : Nt} (h : r.ns[k]? = some z) : (r.ndTo t ws k)[k]? = some z := by
  unfold RwD.ndTo
  rw [List.getElem?_mapIdx, h]; simp
theorem ndTo_set {r : RwD} {t : List Int} {ws : List Nat} {k : Nat} {z : Nt} (h : r.ns[k]? = some z) : (r.ndTo t ws k).set k { z with y := r.noteYes t ws k z } = r.ndTo t ws (k + 1) := by
  have hk := (List.getElem?_eq_some_iff.1 h).1
  unfold RwD.ndTo
  refine List.ext_getElem? fun i => ?_
  rw [List.getElem?_set, List.length_mapIdx, List.getElem?_mapIdx, List.getElem?_mapIdx]
  by_cases e : k = i
  · subst e
    rw [if_pos rfl, if_pos hk, h]; simp
  · rw [if_neg e]
    cases r.ns[i]? with
    | none => rfl
    | some n =>
      simp only [Option.map_some]
      congr 1
      by_cases h2 : i < k
      · rw [if_pos h2, if_pos (by omega)]
      · rw [if_neg h2, if_neg (by omega)]
theorem ndTo_mem {r : RwD} {t : List Int} {ws : List Nat} {k : Nat} {y : Nt} (h : y ∈ r.ndTo t ws k) : ∃ n, n ∈ r.ns ∧ y.p = n.p ∧ y.w = n.w ∧ y.k = n.k ∧ ∃ i, y = n ∨ y = { n with y := r.noteYes t ws i n } := by
  obtain ⟨i, hi⟩ := List.getElem?_of_mem h
  unfold RwD.ndTo at hi
  rw [List.getElem?_mapIdx] at hi
  cases e : r.ns[i]? with
  | none => rw [e] at hi; cases hi
  | some n =>
    rw [e] at hi
    simp only [Option.map_some, Option.some.injEq] at hi
    refine ⟨n, List.mem_of_getElem? e, ?_⟩
    split at hi <;> (subst hi; exact ⟨rfl, rfl, rfl, i, by simp⟩)
def RwD.notedBy (r : RwD) (t : List Int) (ws : List Nat) : RwD := { r with ns := r.ndTo t ws r.ns.length }
def RwM.nsAs (r : RwM) (A : Option Addr) (l : List Nt) (c : Nat) : RwM := { r with ns := ⟨A, l, c⟩ }
theorem cells_nsAs (r : RwM) (A : Option Addr) (l l' : List Nt) (c : Nat) (h : l.length = l'.length) : (r.nsAs A l c).cells = (r.nsAs A l' c).cells := by unfold RwM.nsAs RwM.cells; simp [h]
/-- The memory of noted. -/
structure NdM (r : RwM) (w : World) (gx BB M : Nat) (A : Option Addr) (c : Nat) (l : List Nt) (W : World) : Prop where
  o : Lies W gx 26 (r.nsAs A l c).cells.toArray
  z : Lies W (w.heap.size + 1) 26 zrow.toArray
  r : Lies W w.heap.size 26 r.cells.toArray
  b : Below w.heap.size w W
  n : W.ownsRow BB 67 4 (.slice A M c) M (l.flatMap encN)
  hl : l.length = M
  g1 : w.heap.size + 1 < gx
  g2 : gx < BB
theorem NdM.call {r : RwM} {w W W' : World} {gx BB M c : Nat} {A : Option Addr} {l : List Nt} (h : NdM r w gx BB M A c l W) (hb : Below W.heap.size W W') : NdM r w gx BB M A c l W' :=
  ⟨h.o.call hb, h.z.call hb, h.r.call hb, h.b.trans (hb.mono h.b.size), ownsRow_call h.n hb, h.hl, h.g1, h.g2⟩
theorem NdM.at_ {r : RwM} {w W : World} {gx BB M c k : Nat} {A : Option Addr} {l : List Nt} {z : Nt} (h : NdM r w gx BB M A c l W) (hz : l[k]? = some z) :
    ∃ g, A = some ⟨g, 0, none⟩ ∧ BB ≤ g ∧ g < W.heap.size ∧ W.cell? ⟨g, k * 4, none⟩ = some (.int .i64 z.p) ∧ W.cell? ⟨g, k * 4 + 1, none⟩ = some (.int .i64 z.w) ∧ W.cell? ⟨g, k * 4 + 2, none⟩ = some (.int .u8 z.k) ∧ W.cell? ⟨g, k * 4 + 3, none⟩ = some (.bool z.y) ∧ W.frozen? ⟨g, k * 4 + 3, none⟩ = false ∧
      ∀ v, NdM r w gx BB M A c (l.set k { z with y := v }) (W.setCell ⟨g, k * 4 + 3, none⟩ (.bool v)) := by
  obtain ⟨ho, hzr, hr, hb, hn, hl, g1, g2⟩ := h
  subst hl
  have hk := (List.getElem?_eq_some_iff.1 hz).1
  obtain ⟨g7, cur, hA, hb7, hl7⟩ := own_addr hn (by omega)
  obtain ⟨A', c', e1, -, hS⟩ := Sl.of_own (enc := encN) (fun _ => rfl) hn rfl
  cases e1
  obtain ⟨b, off, e2, hbl, c0, c1, c2, c3⟩ := hS.cellN hz
  rw [hA] at e2
  cases e2
  refine ⟨g7, hA, hb7, hbl, by simpa using c0, by simpa using c1, by simpa using c2, by simpa using c3, hl7.free _, fun v => ?_⟩
  have hO := Only.set g7 (k * 4 + 3) W (.bool v)
  have hln : (l.set k { z with y := v }).length = l.length := List.length_set
  refine ⟨by rw [cells_nsAs r A _ l c hln]; exact hO.lies ho (by omega), hO.lies hzr (by omega), hO.lies hr (by omega), hO.below hb (by omega), ?_, hln, g1, g2⟩
  have h1 := own_set_cell (u := .bool v) hn hA (i := k * 4 + 3) (by rw [flat_len (enc := encN) (k := 4) (fun _ => rfl)]; omega)
  have h2 := flat_set (enc := encN) (k := 4) (fun _ => rfl) (q := 3) (u := .bool v) (y := { z with y := v }) (z := z) (by omega) rfl l k hz
  rw [h2] at h1
  exact h1
/-- What noted hands back. -/
structure NotedR (r : RwM) (t : List Int) (ws : List Nat) (w : World) (x : RwM) (W : World) : Prop where
  d : x.d = r.d.notedBy t ws
  at_ : x.At W W.heap.size
  b : Below w.heap.size w W
  t : ThinM r → ThinM x
  nn : x.ns.A = none → x.ns.l.length = 0 ∧ x.ns.c = 0
  ew : x.ws = r.ws
  ed : x.dug = r.dug
  own : W.ownsRow w.heap.size 67 4 (.slice x.ns.A x.ns.l.length x.ns.c) x.ns.l.length (x.ns.l.flatMap encN)
theorem NdM.done {r : RwM} {t : List Int} {ws : List Nat} {w W W' : World} {gx BB c : Nat} {A : Option Addr} (h : NdM r w gx BB r.ns.l.length A c (r.d.ndTo t ws r.ns.l.length) W) (hr : r.At w w.heap.size) (hb : Below W.heap.size W W' ∨ (∃ g, Only g W W' ∧ w.heap.size ≤ g ∧ g < BB)) : NotedR r t ws w (r.nsAs A (r.d.ndTo t ws r.ns.l.length) c) W' := by
  have hl := ndTo_length r.d t ws r.ns.l.length
  have hB : Below w.heap.size w W' := by
    rcases hb with hb | ⟨g, ho, hg, _⟩
    · exact h.b.trans (hb.mono h.b.size)
    · exact ho.below h.b hg
  have hN : W'.ownsRow BB 67 4 (.slice A r.ns.l.length c) r.ns.l.length ((r.d.ndTo t ws r.ns.l.length).flatMap encN) := by
    rcases hb with hb | ⟨g, ho, hg, hg2⟩
    · exact ownsRow_call h.n hb
    · exact own_keep h.n fun j hj => ho.block j (by have := (own_at h.n hj).1; omega)
  obtain ⟨_, _, e1, hn0, s1⟩ := Sl.of_own (enc := encN) (k := 4) (l := r.d.ndTo t ws r.ns.l.length) (fun _ => rfl) (by rw [show (r.d.ndTo t ws r.ns.l.length).length = r.ns.l.length from hl]; exact hN) rfl
  rw [show (r.d.ndTo t ws r.ns.l.length).length = r.ns.l.length from hl] at e1
  cases e1
  have hN2 : W'.ownsRow BB 67 4 (.slice A (r.d.ndTo t ws r.ns.l.length).length c) (r.d.ndTo t ws r.ns.l.length).length ((r.d.ndTo t ws r.ns.l.length).flatMap encN) := by rw [show (r.d.ndTo t ws r.ns.l.length).length = r.ns.l.length from hl]; exact hN
  have ha := hr.below hB hB.size
  refine ⟨rfl, ⟨ha.ws, ha.dug, s1, ha.lw, ha.ld, by show (r.d.ndTo t ws r.ns.l.length).length ≤ _; rw [show (r.d.ndTo t ws r.ns.l.length).length = r.ns.l.length from hl]; exact ha.ln, fun y hy => ?_⟩, hB, fun ht => ⟨ht.w, by show (r.d.ndTo t ws r.ns.l.length).length ≤ _; rw [show (r.d.ndTo t ws r.ns.l.length).length = r.ns.l.length from hl]; exact ht.n, ht.d, ht.nn⟩, hn0, rfl, rfl, own_lower hN2 (by have := h.g1; have := h.g2; omega)⟩
  obtain ⟨n, hn, -, -, e, -⟩ := ndTo_mem hy
  rw [e]
  exact hr.kn n hn
end Go.Proofs.Ytebkhgficochoaa

/- noted: the walk. -/
namespace Go.Proofs.Ytebkhgficochoaa
open Go.RowKit Go.Lib

set_option maxRecDepth 100000 in
set_option maxHeartbeats 1000000 in
theorem word_same (A : Option Addr) (c : Nat) (l : List Nat) (k : Nat) (w : World) (hA : Sl w w.heap.size 1 enc16 A l) (hl : l.length ≤ maxLen) (hx : ∀ x, x ∈ l → x < 65536) (hk : k ≤ 1000) :
    Calls Try.prog 64 #[.slice A l.length c, .int .i64 k] w fun e w' => e = .returned (.int .i64 (wordD l k)) ∧ w' = w := by
  by_cases h0 : l = []
  · subst h0
    have e : wordD [] k = 0 := rfl
    rw [e]
    clear hA hx
    go_enter Try.func64, Try.ntmps64
    go_wp2
    go_ret
    exact ⟨rfl, rfl⟩
  · have hpos : 0 < l.length := List.length_pos_iff.2 h0
    have hn0 : ((l.length : Int) == 0) = false := by simp; exact h0
    have hni : (l.length : Int) ≠ 0 := by omega
    have hm : k % l.length < l.length := Nat.mod_lt _ hpos
    obtain ⟨x, hxx⟩ : ∃ x, l[k % l.length]? = some x := ⟨l[k % l.length], by simp⟩
    have hw : wordD l k = x := by unfold wordD; rw [List.getD, hxx]; rfl
    have hxb := hx x (List.mem_of_getElem? hxx)
    rw [hw]
    obtain ⟨b, off, hAe, hb, hc⟩ := hA.cell16 hxx
    have hkz : (k : Int) ≤ 1000 := by omega
    have hm0 : (0 : Int) ≤ (k : Int) % (l.length : Int) := Int.emod_nonneg _ hni
    have hm1 : (k : Int) % (l.length : Int) < (l.length : Int) := Int.emod_lt_of_pos _ (by omega)
    have hxz : (x : Int) < 65536 := by omega
    have hle : (l = []) = False := by simp [h0]
    subst hAe
    clear hA hx hxx hw hl hm
    go_enter Try.func64, Try.ntmps64
    go_wp2
    go_ret
    exact ⟨rfl, rfl⟩
set_option maxRecDepth 100000 in
set_option maxHeartbeats 16000000 in
theorem lawNoted_any (r : RwM) (A : Option Addr) (c : Nat) (t : List Int) (B : Option Addr) (cw : Nat) (ws : List Nat) (w : World) (hr : r.At w w.heap.size) (hf : r.d.fault = 0) (hnn : r.ns.A = none → r.ns.l.length = 0 ∧ r.ns.c = 0)
    (hT : Sl w w.heap.size 1 encI A t) (htl : t.length = r.dug.l.length) (ht : ∀ o, o ∈ t → -1 ≤ o ∧ o ≤ 30) (hA : Sl w w.heap.size 1 enc16 B ws) (hl : ws.length ≤ maxLen) (hx : ∀ x, x ∈ ws → x < 65536) :
    Calls Try.prog 40 #[.agg r.cells.toArray, .slice A t.length c, .slice B ws.length cw] w fun e w' => ∃ x : RwM, e = .returned (.agg x.cells.toArray) ∧ NotedR r t ws w x w' := by
  obtain ⟨M, hM⟩ : ∃ M, M = r.ns.l.length := ⟨_, rfl⟩
  obtain ⟨N, hN⟩ : ∃ N, N = r.dug.l.length := ⟨_, rfl⟩
  obtain ⟨hok, hns, -, -, hn40⟩ := fault_ok hf
  have hM40 : M ≤ 40 := by rw [hM]; exact hn40
  have hN10 : N ≤ 10 := by have := hok.n1; have h2 : r.d.n = r.n := rfl; have := hok.dug; have h3 : r.d.dug = r.dug.l := rfl; rw [h3] at this; omega
  have htN : t.length = N := by rw [htl, hN]
  have l0 : Lies ((w.alloc (.cells r.cells.toArray 26)).alloc (.cells zrow.toArray 26)) w.heap.size 26 r.cells.toArray := (Lies.fresh _ _ _).alloc _
  have l1 : Lies ((w.alloc (.cells r.cells.toArray 26)).alloc (.cells zrow.toArray 26)) (w.heap.size + 1) 26 zrow.toArray := Lies.fresh' (by simp)
  have b0 : Below w.heap.size w ((w.alloc (.cells r.cells.toArray 26)).alloc (.cells zrow.toArray 26)) := (by repeat (first | (with_reducible assumption) | (with_reducible exact Below.refl _ _) | (with_reducible refine Below.drew ?_) | (with_reducible refine below_drewN ?_ _) | ((with_reducible refine Below.setCell ?_ ?_ _); rotate_left; focus (first | (simp; done) | (simp; omega) | omega)) | ((with_reducible refine Below.alloc ?_ ?_ _); rotate_left; focus (first | (simp; done) | (simp; omega) | omega))))
  have hat : ∀ (k : Nat) (z : Nt), r.ns.l[k]? = some z → ∃ p : Nat, z.p = p ∧ p < N ∧ 1 ≤ z.w ∧ z.w ≤ 30 ∧ (z.k = 0 ∨ z.k = 1) := fun k z hz => by
    have h1 := hns z (List.mem_of_getElem? hz)
    have h2 := hr.kn z (List.mem_of_getElem? hz)
    unfold RwD.haveB inB at h1
    simp only [Bool.and_eq_true, decide_eq_true_eq] at h1
    obtain ⟨⟨⟨⟨h3, h4⟩, h5, h6⟩, -⟩, h7⟩ := h1
    have := hok.dug
    have hd : r.d.dug = r.dug.l := rfl
    rw [hd] at this
    have h30 := hok.nw
    exact ⟨z.p.toNat, by omega, by omega, h5, by omega, by omega⟩
  have hwb : ∀ k, wordD ws k < 65536 := wordD_le hx
  have hsh := hok.sh
  have hold := hok.old
  rw [htN]
  have L0 := Lib.hid l0
  have Z0 := Lib.hid l1
  have B0 := Lib.hid b0
  have HWA := Lib.hid hA
  have HWL := Lib.hid hl
  have HWX := Lib.hid hx
  have HWB := Lib.hid hwb
  have HAT := Lib.hid hat
  have HRR := Lib.hid hr
  have HNN := Lib.hid hnn
  have HT := Lib.hid hT
  have HTB := Lib.hid ht
  have HTN := Lib.hid htN
  have HM := Lib.hid hM
  have HSH := Lib.hid (show 0 ≤ r.sh ∧ r.sh ≤ 30 from hsh)
  have HOL := Lib.hid (show 0 ≤ r.old ∧ r.old ≤ 30 from hold)
  clear l0 l1 b0 hwb hat hr hnn hT ht htl htN hA hl hx hf hok hns hsh hold hN hn40 hM
  go_enter Try.func40, Try.ntmps40
  go_upto_region 1 with (fail)
  change Code.wp _ _ _ _ ((w.alloc (.cells r.cells.toArray 26)).alloc (.cells zrow.toArray 26))
  generalize (w.alloc (.cells r.cells.toArray 26)).alloc (.cells zrow.toArray 26) = w1 at *
  have Z3 := Lib.hid (show Lies (w1.alloc (.cells zrow.toArray 26)) w1.heap.size 26 zrow.toArray from Lies.fresh _ _ _)
  go_upto_region 2 with (first
    | (refine wpList_load_row (o := ⟨some 11, _, _, _, _, _⟩) ?_ 26 (.tmp 3) ?_ w.heap.size ?_ 26 r.cells.toArray (0, 0) _ L0.out Try.underlying26 rfl size_refrow ?_; rfl; rfl; rfl)
    | (refine wpList_store_cells (o := ⟨none, .store 26 (.tmp 7) _, _, _, _, _⟩) ?_ 26 (.tmp 7) (.tmp 11) ?_ w1.heap.size 0 ?_ 26 zrow r.cells ?_ Z3.out (by simp [zrow, RwM.cells]) size_refrow (part_one r _ _ _ rfl rfl rfl) ?_; rfl; rfl; rfl; rfl; intro w4 HS4 HO4; (try simp only [Act.put])))
  have hs4 := HS4.out
  rw [splice_whole (by rfl)] at hs4
  have hz3 := (Below.refl w1.heap.size w1).alloc (Nat.le_refl _) (.cells zrow.toArray 26)
  have hb4 : Below w1.heap.size w1 w4 := HO4.out.below hz3 (Nat.le_refl _)
  have L4 := Lib.hid (L0.out.call hb4)
  have Z4 := Lib.hid (Z0.out.call hb4)
  have B4 := Lib.hid (B0.out.trans (hb4.mono B0.out.size))
  have X4 := Lib.hid hs4
  have hgx : w.heap.size + 1 < w1.heap.size := Z0.out.in_
  have hgx4 : w1.heap.size < w4.heap.size := X4.out.in_
  clear hs4 hz3 hb4 HS4 HO4 Z3 L0 Z0 B0
  generalize w1.heap.size = gx at *
  have HD4 := Lib.hid ((HRR.out.ns.below B4.out).more B4.out.size)
  have a4 : (w4.alloc (.cells #[] 67)).cell? ⟨w.heap.size, 7, none⟩ = some (.slice r.ns.A r.ns.l.length r.ns.c) := (L4.out.alloc _).at_ 7
  have hln : r.ns.l.length ≤ 40 := by rw [← HM.out]; exact hM40
  go_upto_region 3 with (refine wpList_app_rnotes (o := ⟨some 15, _, _, _, _, _⟩) ?_ (.tmp 12) (.tmp 14) ?_ w4.heap.size (.slice (some ⟨w4.heap.size, 0, none⟩) 0 0) [] ?_ (by simpa using World.ownsRow_made w4 #[] 0 (Nat.le_refl _) (by decide) (by simp)) r.ns.A r.ns.c r.ns.l ?_ HNN.out (HD4.out.alloc (Nat.le_refl _) _ |>.more (by simp)) (by simp; omega) (by simp) ?_; rfl; rfl; rfl; rfl; intro v5 w5 hown5 hb5 hg5; rw [List.nil_append] at hown5; obtain ⟨A5, c5, hv5, hA5, -⟩ := Sl.of_own (enc := encN) (fun _ => rfl) hown5 rfl; subst hv5; have X5 := Lib.hid ((X4.out.alloc (.cells #[] 67)).below hb5 hgx4); have L5 := Lib.hid ((L4.out.alloc (.cells #[] 67)).below hb5 L4.out.in_); have Z5 := Lib.hid ((Z4.out.alloc (.cells #[] 67)).below hb5 Z4.out.in_); have B5 := Lib.hid ((B4.out.alloc B4.out.size (.cells #[] 67)).trans (hb5.mono B4.out.size)); have O5 := Lib.hid hown5; have c5' : w5.cell? ⟨gx, 7, none⟩ = some (.slice r.ns.A r.ns.l.length r.ns.c) := X5.out.at_ 7; have f5 : w5.frozen? ⟨gx, 7, none⟩ = false := X5.out.free 7; clear hown5 hb5 hg5)
  have hO6 := Only.set gx 7 w5 (.slice A5 r.ns.l.length c5)
  have M6 : NdM r w gx w4.heap.size M A5 c5 (r.d.ndTo t ws 0) (w5.setCell ⟨gx, 7, none⟩ (.slice A5 r.ns.l.length c5)) := by
    rw [ndTo_zero]
    refine ⟨?_, hO6.lies Z5.out (by omega), hO6.lies L5.out (by omega), hO6.below B5.out (by omega), ?_, HM.out.symm, hgx, hgx4⟩
    · have h := X5.out.set 7 (.slice A5 r.ns.l.length c5)
      unfold RwM.nsAs RwM.cells at *
      simp at h
      exact h
    · rw [HM.out]
      exact own_keep O5.out fun j hj => hO6.block j (by have := (own_at O5.out hj).1; omega)
  have HM6 := Lib.hid M6
  clear M6 hO6 c5' f5 X5 L5 Z5 B5 O5 X4 L4 Z4 B4 HD4 a4 hA5
  generalize w5.setCell ⟨gx, 7, none⟩ (.slice A5 r.ns.l.length c5) = w6 at *
  generalize w4.heap.size = BB at *
  go_wp2
  go_loopw [8, 9, 10] (fun s8 _ _ wr => ∃ k : Nat, k ≤ M ∧ s8 = .int .i64 k ∧ Aside (NdM r w gx BB M A5 c5 (r.d.ndTo t ws k) wr)) (fun i _ _ _ => M - (intOf i).toNat)
  case atStart => exact ⟨0, by omega, rfl, HM6.out⟩
  case round =>
    obtain ⟨k, hk, rfl, HB⟩ := hrel
    clear HM6
    have hlk : (r.d.ndTo t ws k).length = M := HB.out.hl
    have a7 : wr.cell? ⟨gx, 7, none⟩ = some (.slice A5 M c5) := by rw [HB.out.o.at_]; show some (Value.slice A5 (r.d.ndTo t ws k).length c5) = _; rw [hlk]
    clear hlk
    by_cases hlt : k < M
    · have hltz : (k : Int) < (M : Int) := by omega
      have hk0 : (0 : Int) ≤ (k : Int) := by omega
      obtain ⟨z, hz⟩ : ∃ z, r.ns.l[k]? = some z := ⟨r.ns.l[k]'(by rw [← HM.out]; exact hlt), by simp⟩
      obtain ⟨p, hzp, hpN, hzw1, hzw30, hzk⟩ := HAT.out k z hz
      obtain ⟨g, hA, hgb, hgs, e0, e1, e2, e3, f3, hst⟩ := HB.out.at_ (ndTo_at (r := r.d) (t := t) (ws := ws) hz)
      subst hA
      have hNT := HTN.out
      obtain ⟨o, ho⟩ : ∃ o, t[p]? = some o := ⟨t[p]'(by omega), by simp⟩
      obtain ⟨ho0, ho1⟩ := HTB.out o (List.mem_of_getElem? ho)
      have hog : t.getD z.p.toNat 0 = o := by rw [hzp, Int.toNat_natCast, List.getD, ho]; rfl
      obtain ⟨tb, off, hAe, htb, hcT⟩ := HT.out.cell1 ho
      subst hAe
      have cT : wr.cell? ⟨tb, off + p, none⟩ = some (.int .i64 o) := (HB.out.b.cell (p := ⟨tb, off + p, none⟩) htb).trans hcT
      have hpz : (p : Int) < (N : Int) := by omega
      have hp0 : (0 : Int) ≤ (p : Int) := by omega
      have hyes : r.d.noteYes t ws k z = if z.k = 0 then decide (0 ≤ o) && decide (o ≤ z.w - r.sh) else decide (0 ≤ o) && decide (o ≤ z.w) && (decide (o ≤ z.w - r.old) || decide (wordD ws (k + 5) % 2 = 0)) := by unfold RwD.noteYes; rw [hog]; rfl
      have hnext : ∀ v W, NdM r w gx BB M (some ⟨g, 0, none⟩) c5 ((r.d.ndTo t ws k).set k { z with y := v }) W → r.d.noteYes t ws k z = v → NdM r w gx BB M (some ⟨g, 0, none⟩) c5 (r.d.ndTo t ws (k + 1)) W := fun v W h e => by rw [← e, ndTo_set (r := r.d) hz] at h; exact h
      have hat := fun (W : World) (h : NdM r w gx BB M (some ⟨g, 0, none⟩) c5 (r.d.ndTo t ws k) W) => h.at_ (ndTo_at (r := r.d) (t := t) (ws := ws) hz)
      have HAT2 := Lib.hid hat
      have HYS := Lib.hid hyes
      have HNX := Lib.hid hnext
      have hB3 : wr.cell? ⟨w.heap.size, 3, none⟩ = some (.int .i64 r.sh) := HB.out.r.at_ 3
      have hB4 : wr.cell? ⟨w.heap.size, 4, none⟩ = some (.int .i64 r.old) := HB.out.r.at_ 4
      obtain ⟨hs0, hs1⟩ := HSH.out
      obtain ⟨hd0, hd1⟩ := HOL.out
      have hxb := HWB.out (k + 5)
      have hwl : w.heap.size < wr.heap.size := HB.out.r.in_
      rw [hzp] at e0
      obtain ⟨zp, zw, zk, zy⟩ := z
      dsimp only at e0 e1 e2 e3 hzw1 hzw30 hzk HYS HNX HAT2 hzp
      clear hz hzp hNT ho hog hcT hyes hnext hat hst
      rcases hzk with rfl | rfl
      · have hyes := HYS.out
        rw [if_pos rfl] at hyes
        have HY := Lib.hid hyes
        have hw1 : IntKind.i64.wrap (zw - r.sh) = zw - r.sh := IntWalk.i64_in _ (by omega)
        clear hyes HYS hB4
        go_upto_region 9 with (fail)
        have t1 : wr.drew.cell? ⟨g, k * 4 + 1, none⟩ = some (.int .i64 zw) := e1
        have t3 : wr.drew.cell? ⟨w.heap.size, 3, none⟩ = some (.int .i64 r.sh) := hB3
        clear e0 e1 e2 e3 f3 cT a7 hB3
        by_cases h0 : 0 ≤ o
        · have q0 : decide (0 ≤ o) = true := decide_eq_true h0
          by_cases h1 : o ≤ zw - r.sh
          · have q1 : decide (o ≤ zw - r.sh) = true := decide_eq_true h1
            refine wp_region_still_tail 14 (by kernel_rfl) (by kernel_rfl) ?_
            simp only [List.take_succ_cons, List.take_zero, List.drop_succ_cons, List.drop_zero]
            repeat (with_reducible (refine wpStill_step (fun K hK => ?_)); go_simp; (first | with_reducible (refine hK _ ?_) | (simp only [undef, reduceCtorEq, if_false]; with_reducible (refine hK _ ?_))); clear hK K)
            try (with_reducible (refine wpStill_nil ?_))
            try simp only [show (Value.tuple #[] : Value) = undef from rfl]
            change wpList _ _ _ _ _ wr.drew
            have M0 := Lib.hid (HB.out.call (Below.refl wr.heap.size wr).drew)
            clear t1 t3 hw1
            generalize wr.drew = wd at *
            obtain ⟨g', eA, -, -, -, -, -, c3', f3', hst⟩ := HAT2.out wd M0.out
            cases eA
            have HST := Lib.hid (hst true)
            clear hst
            go_wp2
            go_roundw
            case rel => exact ⟨k + 1, by omega, by go_num, HNX.out true _ HST.out (by rw [HY.out, q0, q1]; rfl)⟩
            case measure => simp [intOf]; omega
          · have q1 : decide (o ≤ zw - r.sh) = false := decide_eq_false h1
            clear h1
            refine wp_region_still_tail 14 (by kernel_rfl) (by kernel_rfl) ?_
            simp only [List.take_succ_cons, List.take_zero, List.drop_succ_cons, List.drop_zero]
            repeat (with_reducible (refine wpStill_step (fun K hK => ?_)); go_simp; (first | with_reducible (refine hK _ ?_) | (simp only [undef, reduceCtorEq, if_false]; with_reducible (refine hK _ ?_))); clear hK K)
            try (with_reducible (refine wpStill_nil ?_))
            try simp only [show (Value.tuple #[] : Value) = undef from rfl]
            change wpList _ _ _ _ _ wr.drew
            have M0 := Lib.hid (HB.out.call (Below.refl wr.heap.size wr).drew)
            clear t1 t3 hw1
            generalize wr.drew = wd at *
            obtain ⟨g', eA, -, -, -, -, -, c3', f3', hst⟩ := HAT2.out wd M0.out
            cases eA
            have HST := Lib.hid (hst false)
            clear hst
            go_wp2
            go_roundw
            case rel => exact ⟨k + 1, by omega, by go_num, HNX.out false _ HST.out (by rw [HY.out, q0, q1]; rfl)⟩
            case measure => simp [intOf]; omega
        · have HQ0 := Lib.hid (show decide (0 ≤ o) = false from decide_eq_false h0)
          clear h0 ho0 ho1
          refine wp_region_still_tail 14 (by kernel_rfl) (by kernel_rfl) ?_
          simp only [List.take_succ_cons, List.take_zero, List.drop_succ_cons, List.drop_zero]
          iterate 3 still_step
          rw [HQ0.out]
          repeat (with_reducible (refine wpStill_step (fun K hK => ?_)); go_simp; (first | with_reducible (refine hK _ ?_) | (simp only [undef, reduceCtorEq, if_false]; with_reducible (refine hK _ ?_))); clear hK K)
          try (with_reducible (refine wpStill_nil ?_))
          try simp only [show (Value.tuple #[] : Value) = undef from rfl]
          change wpList _ _ _ _ _ wr.drew
          have M0 := Lib.hid (HB.out.call (Below.refl wr.heap.size wr).drew)
          clear t1 t3 hw1
          generalize wr.drew = wd at *
          obtain ⟨g', eA, -, -, -, -, -, c3', f3', hst⟩ := HAT2.out wd M0.out
          cases eA
          have HST := Lib.hid (hst false)
          clear hst
          go_wp2
          go_roundw
          case rel => exact ⟨k + 1, by omega, by go_num, HNX.out false _ HST.out (by rw [HY.out, HQ0.out]; rfl)⟩
          case measure => simp [intOf]; omega
      · have hyes := HYS.out
        rw [if_neg (by decide)] at hyes
        obtain ⟨x, hx⟩ : ∃ x, x = wordD ws (k + 5) := ⟨_, rfl⟩
        rw [← hx] at hyes hxb
        have HY := Lib.hid hyes
        have hWS := word_same B cw ws (k + 5) wr.drew ((HWA.out.below (HB.out.b.trans ((Below.refl wr.heap.size wr).drew.mono HB.out.b.size))).more (show w.heap.size ≤ wr.drew.heap.size from HB.out.b.size)) HWL.out HWX.out (by omega)
        rw [← hx, show ((k + 5 : Nat) : Int) = (k : Int) + 5 by simp] at hWS
        have HWS := Lib.hid hWS
        have hxz : (x : Int) < 65536 := by omega
        have hx0 : (0 : Int) ≤ (x : Int) := by omega
        have hw1 : IntKind.i64.wrap (zw - r.old) = zw - r.old := IntWalk.i64_in _ (by omega)
        have hw2 : IntKind.i64.wrap ((k : Int) + 5) = (k : Int) + 5 := IntWalk.i64_in _ (by omega)
        clear hyes HYS hB3 hx hWS
        go_upto_region 10 with (fail)
        have t1 : wr.drew.cell? ⟨g, k * 4 + 1, none⟩ = some (.int .i64 zw) := e1
        have t3 : wr.drew.cell? ⟨w.heap.size, 4, none⟩ = some (.int .i64 r.old) := hB4
        clear e0 e1 e2 e3 f3 cT a7 hB4
        by_cases h0 : 0 ≤ o
        · have q0 : decide (0 ≤ o) = true := decide_eq_true h0
          by_cases h1 : o ≤ zw
          · have q1 : decide (o ≤ zw) = true := decide_eq_true h1
            by_cases h2 : o ≤ zw - r.old
            · have q2 : decide (o ≤ zw - r.old) = true := decide_eq_true h2
              refine wp_region_still_tail 30 (by kernel_rfl) (by kernel_rfl) ?_
              simp only [List.take_succ_cons, List.take_zero, List.drop_succ_cons, List.drop_zero]
              repeat (with_reducible (refine wpStill_step (fun K hK => ?_)); go_simp; (first | with_reducible (refine hK _ ?_) | (simp only [undef, reduceCtorEq, if_false]; with_reducible (refine hK _ ?_))); clear hK K)
              try (with_reducible (refine wpStill_nil ?_))
              try simp only [show (Value.tuple #[] : Value) = undef from rfl]
              change wpList _ _ _ _ _ wr.drew
              have M0 := Lib.hid (HB.out.call (Below.refl wr.heap.size wr).drew)
              clear t1 t3 hw1
              generalize wr.drew = wd at *
              obtain ⟨g', eA, -, -, -, -, -, c3', f3', hst⟩ := HAT2.out wd M0.out
              cases eA
              have HST := Lib.hid (hst true)
              clear hst
              go_wp2
              go_roundw
              case rel => exact ⟨k + 1, by omega, by go_num, HNX.out true _ HST.out (by rw [HY.out, q0, q1, q2]; rfl)⟩
              case measure => simp [intOf]; omega
            · have q2 : decide (o ≤ zw - r.old) = false := decide_eq_false h2
              by_cases h3 : x % 2 = 0
              · have q3 : ((x : Int) % 2 == 0) = true := by simp; omega
                have q4 : decide (x % 2 = 0) = true := decide_eq_true h3
                refine wp_region_still_tail 30 (by kernel_rfl) (by kernel_rfl) ?_
                simp only [List.take_succ_cons, List.take_zero, List.drop_succ_cons, List.drop_zero]
                repeat (with_reducible (refine wpStill_step (fun K hK => ?_)); go_simp; (first | with_reducible (refine hK _ ?_) | (simp only [undef]; with_reducible (refine hK _ ?_))); clear hK K)
                try (with_reducible (refine wpStill_nil ?_))
                still_call (HWS.out)
                repeat (with_reducible (refine wpStill_step (fun K hK => ?_)); go_simp; (first | with_reducible (refine hK _ ?_) | (simp only [undef, reduceCtorEq, if_false]; with_reducible (refine hK _ ?_))); clear hK K)
                with_reducible (refine wpStill_nil ?_)
                try simp only [show (Value.tuple #[] : Value) = undef from rfl]
                change wpList _ _ _ _ _ wr.drew
                have M0 := Lib.hid (HB.out.call (Below.refl wr.heap.size wr).drew)
                clear t1 t3 hw1
                generalize wr.drew = wd at *
                obtain ⟨g', eA, -, -, -, -, -, c3', f3', hst⟩ := HAT2.out wd M0.out
                cases eA
                have HST := Lib.hid (hst true)
                clear hst
                go_wp2
                go_roundw
                case rel => exact ⟨k + 1, by omega, by go_num, HNX.out true _ HST.out (by rw [HY.out, q0, q1, q2, q4]; rfl)⟩
                case measure => simp [intOf]; omega
              · have q3 : ((x : Int) % 2 == 0) = false := by simp; omega
                have q4 : decide (x % 2 = 0) = false := decide_eq_false h3
                refine wp_region_still_tail 30 (by kernel_rfl) (by kernel_rfl) ?_
                simp only [List.take_succ_cons, List.take_zero, List.drop_succ_cons, List.drop_zero]
                repeat (with_reducible (refine wpStill_step (fun K hK => ?_)); go_simp; (first | with_reducible (refine hK _ ?_) | (simp only [undef]; with_reducible (refine hK _ ?_))); clear hK K)
                try (with_reducible (refine wpStill_nil ?_))
                still_call (HWS.out)
                repeat (with_reducible (refine wpStill_step (fun K hK => ?_)); go_simp; (first | with_reducible (refine hK _ ?_) | (simp only [undef, reduceCtorEq, if_false]; with_reducible (refine hK _ ?_))); clear hK K)
                with_reducible (refine wpStill_nil ?_)
                try simp only [show (Value.tuple #[] : Value) = undef from rfl]
                change wpList _ _ _ _ _ wr.drew
                have M0 := Lib.hid (HB.out.call (Below.refl wr.heap.size wr).drew)
                clear t1 t3 hw1
                generalize wr.drew = wd at *
                obtain ⟨g', eA, -, -, -, -, -, c3', f3', hst⟩ := HAT2.out wd M0.out
                cases eA
                have HST := Lib.hid (hst false)
                clear hst
                go_wp2
                go_roundw
                case rel => exact ⟨k + 1, by omega, by go_num, HNX.out false _ HST.out (by rw [HY.out, q0, q1, q2, q4]; rfl)⟩
                case measure => simp [intOf]; omega
          · have q1 : decide (o ≤ zw) = false := decide_eq_false h1
            clear h1
            refine wp_region_still_tail 30 (by kernel_rfl) (by kernel_rfl) ?_
            simp only [List.take_succ_cons, List.take_zero, List.drop_succ_cons, List.drop_zero]
            repeat (with_reducible (refine wpStill_step (fun K hK => ?_)); go_simp; (first | with_reducible (refine hK _ ?_) | (simp only [undef, reduceCtorEq, if_false]; with_reducible (refine hK _ ?_))); clear hK K)
            try (with_reducible (refine wpStill_nil ?_))
            try simp only [show (Value.tuple #[] : Value) = undef from rfl]
            change wpList _ _ _ _ _ wr.drew
            have M0 := Lib.hid (HB.out.call (Below.refl wr.heap.size wr).drew)
            clear t1 t3 hw1
            generalize wr.drew = wd at *
            obtain ⟨g', eA, -, -, -, -, -, c3', f3', hst⟩ := HAT2.out wd M0.out
            cases eA
            have HST := Lib.hid (hst false)
            clear hst
            go_wp2
            go_roundw
            case rel => exact ⟨k + 1, by omega, by go_num, HNX.out false _ HST.out (by rw [HY.out, q0, q1]; rfl)⟩
            case measure => simp [intOf]; omega
        · have HQ0 := Lib.hid (show decide (0 ≤ o) = false from decide_eq_false h0)
          clear h0 ho0 ho1
          refine wp_region_still_tail 30 (by kernel_rfl) (by kernel_rfl) ?_
          simp only [List.take_succ_cons, List.take_zero, List.drop_succ_cons, List.drop_zero]
          iterate 3 still_step
          rw [HQ0.out]
          repeat (with_reducible (refine wpStill_step (fun K hK => ?_)); go_simp; (first | with_reducible (refine hK _ ?_) | (simp only [undef, reduceCtorEq, if_false]; with_reducible (refine hK _ ?_))); clear hK K)
          try (with_reducible (refine wpStill_nil ?_))
          try simp only [show (Value.tuple #[] : Value) = undef from rfl]
          change wpList _ _ _ _ _ wr.drew
          have M0 := Lib.hid (HB.out.call (Below.refl wr.heap.size wr).drew)
          clear t1 t3 hw1
          generalize wr.drew = wd at *
          obtain ⟨g', eA, -, -, -, -, -, c3', f3', hst⟩ := HAT2.out wd M0.out
          cases eA
          have HST := Lib.hid (hst false)
          clear hst
          go_wp2
          go_roundw
          case rel => exact ⟨k + 1, by omega, by go_num, HNX.out false _ HST.out (by rw [HY.out, HQ0.out]; rfl)⟩
          case measure => simp [intOf]; omega
    · obtain rfl : k = M := by omega
      obtain ⟨q, hq⟩ : ∃ q, q = r.nsAs A5 (r.d.ndTo t ws k) c5 := ⟨_, rfl⟩
      have hqo := HB.out.o
      rw [← hq] at hqo
      have QO := Lib.hid hqo
      have QZ := Lib.hid HB.out.z
      have hgg : w.heap.size + 1 < gx ∧ gx < BB := ⟨HB.out.g1, HB.out.g2⟩
      have HGG := Lib.hid hgg
      have hfin : ∀ W, Only (w.heap.size + 1) wr W → NotedR r t ws w q W := fun W hO => by
        have hmm := HM.out
        rw [hq]
        subst hmm
        exact NdM.done HB.out HRR.out (.inr ⟨_, hO, by omega, by omega⟩)
      have HFIN := Lib.hid hfin
      clear hqo hgg hfin hq HB
      go_wp2_with (first
        | (refine wpList_load_row (o := ⟨some 88, _, _, _, _, _⟩) ?_ 26 (.tmp 7) ?_ gx ?_ 26 q.cells.toArray (0, 0) _ QO.out Try.underlying26 rfl size_refrow ?_; rfl; rfl; rfl)
        | (refine wpList_store_cells (o := ⟨none, .store 26 (.tmp 6) _, _, _, _, _⟩) ?_ 26 (.tmp 6) (.tmp 88) ?_ (w.heap.size + 1) 0 ?_ 26 zrow q.cells ?_ QZ.out (by simp [zrow, RwM.cells]) size_refrow (part_one q _ _ _ rfl rfl rfl) ?_; rfl; rfl; rfl; rfl; intro w9 HS9 HO9; (try simp only [Act.put])))
      have hs9 := HS9.out
      rw [splice_whole (by rfl)] at hs9
      exact bodyPost_ret (results_cell_row rfl _ _ (w.heap.size + 1) 26 q.cells.toArray (0, 0) _ rfl hs9 Try.underlying26 rfl size_refrow) rfl ⟨q, rfl, HFIN.out _ HO9.out⟩
end Go.Proofs.Ytebkhgficochoaa
