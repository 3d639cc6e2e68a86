/- The texts KA KB KC KD KE LA LB LC LD, joined. -/
import Derived.Test.YteognijlgalahaaPT
import Derived.Test.YteognijlgalahaaPU
import Derived.Test.YteognijlgalahaaGB
import Derived.Test.YteognijlgalahaaGA
import Derived.Test.YteognijlgalahaaOPW
/- Tables that are handed in: hasList, every, hasTable. -/
namespace Go.Proofs.Yteognijlgalahaa
open Go.RowKit Go.Lib
attribute [local go_sem] Oper.semAt_some

/-- A table as it lies. -/
structure TabM (A : Option Addr) (ts : List (Sv Int)) (V : World) (B : Nat) : Prop where
  o : Sl V B 1 encV A ts
  i : ∀ s, s ∈ ts → Sl V B 1 encI s.A s.l
  n : ts.length ≤ 1000000
  m : ∀ s, s ∈ ts → s.l.length ≤ 1000000
theorem TabM.below {A : Option Addr} {ts : List (Sv Int)} {V V' : World} {B B' : Nat} (h : TabM A ts V B) (hb : Below B V V') (hB : B ≤ B') : TabM A ts V' B' :=
  ⟨(h.o.below hb).more hB, fun s hs => ((h.i s hs).below hb).more hB, h.n, h.m⟩
theorem TabM.cell {A : Option Addr} {ts : List (Sv Int)} {V : World} {B i : Nat} {s : Sv Int} (h : TabM A ts V B) (hs : ts[i]? = some s) : ∃ b off, A = some ⟨b, off, none⟩ ∧ b < B ∧ V.cell? ⟨b, off + i, none⟩ = some (.slice s.A s.l.length s.c) := by
  obtain ⟨b, off, e, hb, hc⟩ := h.o.at_ hs
  have h0 := hc 0 _ rfl
  rw [Nat.mul_one, Nat.add_zero] at h0
  exact ⟨b, off, e, hb, by simpa [Sv.val] using h0⟩
def PoD.rowB (p : PoD) (l : List Int) : Bool := decide ((l.length : Int) = p.high - p.low + 1) && l.all fun x => inB x (-1) 100000
def PoD.tabB (p : PoD) (T : List (List Int)) : Bool := decide (T.length = p.ds.length + 1) && T.all p.rowB && (T.getD p.ds.length []).all fun x => inB x 0 0
set_option maxRecDepth 100000 in
set_option maxHeartbeats 4000000 in
theorem hasList_any (p : PoM) (s : Sv Int) (w : World) (hs : Sl w w.heap.size 1 encI s.A s.l) (hl : s.l.length ≤ 1000000) (h0 : 0 ≤ p.low) (h1 : p.high ≤ 60) (h2 : p.low ≤ p.high) :
    Calls Try.prog 89 #[.agg p.cells.toArray, .slice s.A s.l.length s.c] w fun e w' => e = .returned (.bool (p.d.rowB s.l)) ∧ Below w.heap.size w w' := by
  have l0 : Lies (w.alloc (.cells p.cells.toArray 34)) w.heap.size 34 p.cells.toArray := Lies.fresh _ _ _
  have b0 : Below w.heap.size w (w.alloc (.cells p.cells.toArray 34)) := (by repeat (first | (with_reducible assumption) | (with_reducible exact Below.refl _ _) | (with_reducible refine Below.drew ?_) | (with_reducible refine below_drewN ?_ _) | ((with_reducible refine Below.setCell ?_ ?_ _); rotate_left; focus (first | (simp; done) | (simp; omega) | omega)) | ((with_reducible refine Below.alloc ?_ ?_ _); rotate_left; focus (first | (simp; done) | (simp; omega) | omega))))
  have hr : p.d.rowB s.l = (decide ((s.l.length : Int) = p.high - p.low + 1) && s.l.all fun x => inB x (-1) 100000) := rfl
  have HE := Lib.hid (fun W (hb : Below w.heap.size w W) => everyInt_any 67 #[.agg #[.int .i64 (-1), .int .i64 100000]] #[] (fun n => inB n (-1) 100000) s.A s.c s.l W ((hs.below hb).more hb.size) (ask_has (-1) 100000 W _) hl)
  have c8 : (w.alloc (.cells p.cells.toArray 34)).cell? ⟨w.heap.size, 1, none⟩ = some (.int .i64 p.high) := l0.at_ 1
  have c10 : (w.alloc (.cells p.cells.toArray 34)).cell? ⟨w.heap.size, 0, none⟩ = some (.int .i64 p.low) := l0.at_ 0
  have hw1 : IntKind.i64.wrap (p.high - p.low) = p.high - p.low := IntWalk.i64_in _ (by omega)
  have hw2 : IntKind.i64.wrap (p.high - p.low + 1) = p.high - p.low + 1 := IntWalk.i64_in _ (by omega)
  have HR := Lib.hid hr
  have B0 := Lib.hid b0
  obtain ⟨n, hn⟩ : ∃ n, n = s.l.length := ⟨_, rfl⟩
  have HN := Lib.hid hn
  rw [← hn] at HR HE ⊢
  generalize (s.l.all fun x => inB x (-1) 100000) = y at *
  generalize p.d.rowB s.l = r at *
  clear hs l0 b0 hr hn
  by_cases he : (n : Int) = p.high - p.low + 1
  · have hee : ((n : Int) == p.high - p.low + 1) = true := by simpa using he
    rw [decide_eq_true he, Bool.true_and] at HR
    clear he
    go_enter Try.func89, Try.ntmps89
    go_upto_region 1 with (fail)
    change Code.wp _ _ _ _ (w.alloc (.cells p.cells.toArray 34))
    generalize w.alloc (.cells p.cells.toArray 34) = w1 at *
    go_wp2_with (go_at_call 65; refine (HE.out _ B0.out).mono ?_; rintro e w2 ⟨rfl, hb2⟩)
    go_ret
    exact ⟨ret_bool HR.out.symm, B0.out.trans (hb2.mono B0.out.size)⟩
  · have hee : ((n : Int) == p.high - p.low + 1) = false := by simpa using he
    rw [decide_eq_false he, Bool.false_and] at HR
    clear he
    go_enter Try.func89, Try.ntmps89
    go_upto_region 1 with (fail)
    change Code.wp _ _ _ _ (w.alloc (.cells p.cells.toArray 34))
    generalize w.alloc (.cells p.cells.toArray 34) = w1 at *
    go_wp2
    go_ret
    exact ⟨ret_bool HR.out.symm, B0.out⟩
theorem everyLL_any (g : Nat) (ft lb : Array Value) (p : Sv Int → Bool) (A : Option Addr) (c : Nat) (zs : List (Sv Int)) (w : World) (hA : TabM A zs w w.heap.size)
    (hp : Ask Try.prog Sv.val g ft lb p (· ∈ zs) w) :
    Calls Try.prog 88 #[.slice A zs.length c, .func (.func g) ft lb] w fun e w' => e = .returned (.bool (zs.all p)) ∧ Below w.heap.size w w' := by
  have eg := hp.eg
  have hl : zs.length ≤ 1000000 := hA.n
  have HP := Lib.hid hp
  have HA := Lib.hid hA
  clear hp hA
  go_enter Try.func88, Try.ntmps88
  go_wp2
  go_loopg [6, 9] zs.length (fun gg _ s9 wr => ∃ kk : Nat, kk ≤ zs.length ∧ zs.length - kk ≤ gg ∧ s9 = .int .i64 kk ∧ Aside (Below w.heap.size w wr) ∧ Aside (∀ j x, j < kk → zs[j]? = some x → p x = true))
  case atStart => exact ⟨0, Nat.zero_le _, by omega, rfl, Below.refl _ w, fun j x hj => absurd hj (Nat.not_lt_zero _)⟩
  case round =>
    obtain ⟨kk, hkk, hg, rfl, BW, HH⟩ := hrel
    by_cases hlt : kk < zs.length
    · have hltz : (kk : Int) < (zs.length : Int) := by omega
      obtain ⟨x, hx⟩ : ∃ x, zs[kk]? = some x := ⟨zs[kk], by simp [hlt]⟩
      obtain ⟨b, off, rfl, hb, hc⟩ := HA.out.cell hx
      have l2 : wr.cell? ⟨b, off + kk, none⟩ = some (.slice x.A x.l.length x.c) := by rw [BW.out.cell (p := ⟨b, off + kk, none⟩) hb]; exact hc
      have hcall := HP.out.call wr x (List.mem_of_getElem? hx) BW.out
      have hcall' : Calls Try.prog g (ft ++ #[.slice x.A x.l.length x.c] ++ lb) wr fun e w' => e = .returned (.bool (p x)) ∧ Below wr.heap.size wr w' := hcall
      clear hc hcall
      have HX := Lib.hid hx
      clear hx
      cases hq : p x with
      | false =>
        rw [hq] at hcall'
        have HQ := Lib.hid hq
        clear hq
        go_wp2_with (go_at_fn g; refine hcall'.mono ?_; rintro e w' ⟨rfl, hb'⟩)
        go_ret
        exact ⟨ret_bool (all_hit HX.out HQ.out).symm, BW.out.trans (hb'.mono BW.out.size)⟩
      | true =>
        rw [hq] at hcall'
        have HQ := Lib.hid hq
        clear hq
        go_wp2_with (go_at_fn g; refine hcall'.mono ?_; rintro e w' ⟨rfl, hb'⟩)
        go_roundg (zs.length - (kk + 1))
        case measure => omega
        case rel =>
          refine ⟨kk + 1, by omega, by omega, by go_num, BW.out.trans (hb'.mono BW.out.size), (show Aside _ from fun j y hj hy => ?_)⟩
          by_cases e : j = kk
          · subst e
            rw [HX.out] at hy; cases hy; exact HQ.out
          · exact HH.out j y (by omega) hy
    · have hltz : ¬ (kk : Int) < (zs.length : Int) := by omega
      have he : kk = zs.length := by omega
      have HE := Lib.hid he
      clear he
      go_wp2
      go_ret
      exact ⟨ret_bool (all_miss (by rw [← HE.out]; exact HH.out)).symm, BW.out⟩
theorem ask_list (p : PoM) (zs : List (Sv Int)) (A : Option Addr) (w : World) (hA : TabM A zs w w.heap.size) (h0 : 0 ≤ p.low) (h1 : p.high ≤ 60) (h2 : p.low ≤ p.high) : Ask Try.prog Sv.val 89 #[.agg p.cells.toArray] #[] (fun s : Sv Int => p.d.rowB s.l) (· ∈ zs) w :=
  ⟨enters_of Try.func89 (by kernel_rfl) rfl, fun W s hs hb => hasList_any p s W (((hA.i s hs).below hb).more hb.size) (hA.m s hs) h0 h1 h2⟩
set_option maxRecDepth 100000 in
set_option maxHeartbeats 8000000 in
theorem hasTable_any (p : PoM) (A : Option Addr) (c : Nat) (ts : List (Sv Int)) (w : World) (hp : p.At w w.heap.size) (hA : TabM A ts w w.heap.size) (hok : p.d.Ok) :
    Calls Try.prog 84 #[.agg p.cells.toArray, .slice A ts.length c] w fun e w' => e = .returned (.bool (p.d.tabB (ts.map Sv.l))) ∧ Below w.heap.size w w' := by
  have l0 : Lies (w.alloc (.cells p.cells.toArray 34)) w.heap.size 34 p.cells.toArray := Lies.fresh _ _ _
  have b0 : Below w.heap.size w (w.alloc (.cells p.cells.toArray 34)) := (by repeat (first | (with_reducible assumption) | (with_reducible exact Below.refl _ _) | (with_reducible refine Below.drew ?_) | (with_reducible refine below_drewN ?_ _) | ((with_reducible refine Below.setCell ?_ ?_ _); rotate_left; focus (first | (simp; done) | (simp; omega) | omega)) | ((with_reducible refine Below.alloc ?_ ?_ _); rotate_left; focus (first | (simp; done) | (simp; omega) | omega))))
  have hl0 : 0 ≤ p.low := hok.l0
  have hl1 : p.low ≤ p.high := hok.l1
  have hl2 : p.high ≤ 60 := hok.l2
  have hn12 : p.ds.l.length ≤ 12 := hok.n2
  obtain ⟨N, hN⟩ : ∃ N, N = p.ds.l.length := ⟨_, rfl⟩
  have hNz : (N : Int) ≤ 12 := by omega
  have hr : p.d.tabB (ts.map Sv.l) = (decide ((ts.map Sv.l).length = p.ds.l.length + 1) && (ts.map Sv.l).all p.d.rowB && ((ts.map Sv.l).getD p.ds.l.length []).all fun x => inB x 0 0) := rfl
  rw [List.length_map, List.all_map, ← hN] at hr
  have HE := Lib.hid (fun W (hb : Below w.heap.size w W) => everyLL_any 89 #[.agg p.cells.toArray] #[] (fun s => p.d.rowB s.l) A c ts W (hA.below hb hb.size) (ask_list p ts A W (hA.below hb hb.size) hl0 hl2 hl1))
  have hcomp : (p.d.rowB ∘ Sv.l) = fun s : Sv Int => p.d.rowB s.l := rfl
  rw [hcomp] at hr
  have c8 : (w.alloc (.cells p.cells.toArray 34)).cell? ⟨w.heap.size, 6, none⟩ = some (.slice p.ds.A N p.ds.c) := by rw [hN]; exact l0.at_ 6
  have hw1 : IntKind.i64.wrap ((N : Int) + 1) = (N : Int) + 1 := IntWalk.i64_in _ (by omega)
  have HR := Lib.hid hr
  have L0 := Lib.hid l0
  have B0 := Lib.hid b0
  have HT := Lib.hid hA
  have HN := Lib.hid hN
  have K14 := Lib.hid True.intro
  have htn : (ts.length : Int) ≤ 1000000 := by have := hA.n; omega
  generalize p.d.tabB (ts.map Sv.l) = r at *
  obtain ⟨ya, hya⟩ : ∃ y, y = ts.all fun s => p.d.rowB s.l := ⟨_, rfl⟩
  rw [← hya] at HR HE
  clear l0 b0 hr hA hN hcomp hya hn12
  by_cases he : ts.length = N + 1
  · have hee : ((ts.length : Int) == (N : Int) + 1) = true := by simp; omega
    rw [decide_eq_true he, Bool.true_and] at HR
    cases ya with
    | true =>
      rw [Bool.true_and] at HR
      obtain ⟨s, hs⟩ : ∃ s, ts[N]? = some s := ⟨ts[N]'(by omega), by simp⟩
      have hgs : (ts.map Sv.l).getD N [] = s.l := by rw [List.getD, List.getElem?_map, hs]; rfl
      rw [hgs] at HR
      obtain ⟨b, off, hAe, hb, hc⟩ := HT.out.cell hs
      have hmem := List.mem_of_getElem? hs
      have HE2 := Lib.hid (fun W (hb : Below w.heap.size w W) => everyInt_any 67 #[.agg #[.int .i64 0, .int .i64 0]] #[] (fun n => inB n 0 0) s.A s.c s.l W (((HT.out.i s hmem).below hb).more hb.size) (ask_has 0 0 W _) (HT.out.m s hmem))
      have HC := Lib.hid (fun V (h : Below w.heap.size w V) => (show V.cell? ⟨b, off + N, none⟩ = some (.slice s.A s.l.length s.c) from (h.cell (p := ⟨b, off + N, none⟩) hb).trans hc))
      have hNt : (N : Int) < (ts.length : Int) := by omega
      generalize (s.l.all fun x => inB x 0 0) = y at *
      subst hAe
      clear hgs hs hb hc hmem he
      go_enter Try.func84, Try.ntmps84
      go_upto_region 1 with (fail)
      change Code.wp _ _ _ _ (w.alloc (.cells p.cells.toArray 34))
      generalize w.alloc (.cells p.cells.toArray 34) = w1 at *
      go_wp2_with (first
        | (have h := K14; clear h; refine wpList_load_rowG (o := ⟨some 14, _, _, _, _, _⟩) ?_ 34 (.tmp 2) ?_ w.heap.size ?_ 34 p.cells.toArray (0, 0) _ L0.out Try.underlying34 rfl size_po ?_; rfl; rfl; rfl; clear K14)
        | (go_at_call 88; refine (HE.out _ B0.out).mono ?_; rintro e w2 ⟨rfl, hb2⟩; have B2 := Lib.hid (B0.out.trans (hb2.mono B0.out.size)); have c21 : w2.cell? ⟨w.heap.size, 6, none⟩ = some (.slice p.ds.A N p.ds.c) := (by rw [HN.out]; exact (L0.out.call hb2).at_ 6); have c24 := HC.out w2 B2.out; clear hb2)
        | (go_at_call 65; refine (HE2.out _ B2.out).mono ?_; rintro e w3 ⟨rfl, hb3⟩))
      go_ret
      exact ⟨ret_bool HR.out.symm, B2.out.trans (hb3.mono B2.out.size)⟩
    | false =>
      rw [Bool.false_and] at HR
      clear he
      go_enter Try.func84, Try.ntmps84
      go_upto_region 1 with (fail)
      change Code.wp _ _ _ _ (w.alloc (.cells p.cells.toArray 34))
      generalize w.alloc (.cells p.cells.toArray 34) = w1 at *
      go_wp2_with (first
        | (have h := K14; clear h; refine wpList_load_rowG (o := ⟨some 14, _, _, _, _, _⟩) ?_ 34 (.tmp 2) ?_ w.heap.size ?_ 34 p.cells.toArray (0, 0) _ L0.out Try.underlying34 rfl size_po ?_; rfl; rfl; rfl; clear K14)
        | (go_at_call 88; refine (HE.out _ B0.out).mono ?_; rintro e w2 ⟨rfl, hb2⟩))
      go_ret
      exact ⟨ret_bool HR.out.symm, B0.out.trans (hb2.mono B0.out.size)⟩
  · have hee : ((ts.length : Int) == (N : Int) + 1) = false := by simp; omega
    rw [decide_eq_false he, Bool.false_and, Bool.false_and] at HR
    clear he
    go_enter Try.func84, Try.ntmps84
    go_upto_region 1 with (fail)
    change Code.wp _ _ _ _ (w.alloc (.cells p.cells.toArray 34))
    generalize w.alloc (.cells p.cells.toArray 34) = w1 at *
    go_wp2
    go_ret
    exact ⟨ret_bool HR.out.symm, B0.out⟩
end Go.Proofs.Yteognijlgalahaa

/- costsOf; keeps and needs of a number. -/
namespace Go.Proofs.Yteognijlgalahaa
open Go.RowKit Go.Lib
attribute [local go_sem] Oper.semAt_some

/-- What a table says of a level on a day. -/
def PoD.tN (p : PoD) (T : List (List Int)) (day : Nat) : Int → Int := p.look (T.getD day [])
theorem PoD.tabB_iff {p : PoD} {T : List (List Int)} : p.tabB T = true ↔ T.length = p.ds.length + 1 ∧ (∀ l, l ∈ T → (l.length : Int) = p.high - p.low + 1 ∧ ∀ x, x ∈ l → -1 ≤ x ∧ x ≤ 100000) ∧ ∀ x, x ∈ T.getD p.ds.length [] → x = 0 := by
  unfold PoD.tabB
  rw [Bool.and_eq_true, Bool.and_eq_true, decide_eq_true_eq, List.all_eq_true, List.all_eq_true]
  constructor
  · rintro ⟨⟨h1, h2⟩, h3⟩
    refine ⟨h1, fun l hl => ?_, fun x hx => ?_⟩
    · have := h2 l hl
      unfold PoD.rowB at this
      rw [Bool.and_eq_true, decide_eq_true_eq, List.all_eq_true] at this
      exact ⟨this.1, fun x hx => inB_iff.1 (this.2 x hx)⟩
    · have := inB_iff.1 (h3 x hx); omega
  · rintro ⟨h1, h2, h3⟩
    refine ⟨⟨h1, fun l hl => ?_⟩, fun x hx => inB_iff.2 (by have := h3 x hx; omega)⟩
    unfold PoD.rowB
    rw [Bool.and_eq_true, decide_eq_true_eq, List.all_eq_true]
    exact ⟨(h2 l hl).1, fun x hx => inB_iff.2 ((h2 l hl).2 x hx)⟩
theorem PoD.tN_tok {p : PoD} {T : List (List Int)} (h : p.tabB T = true) : Tok (p.tN T) := fun day lv => by
  obtain ⟨-, h2, -⟩ := PoD.tabB_iff.1 h
  unfold PoD.tN PoD.look
  rw [List.getD]
  cases hx : (T.getD day [])[(lv - p.low).toNat]? with
  | none => exact ⟨by show (-1 : Int) ≤ 0; omega, by show (0 : Int) ≤ _; omega⟩
  | some x =>
    have hm := List.mem_of_getElem? hx
    rw [List.getD] at hm
    cases hl : T[day]? with
    | none => rw [hl] at hm; simp at hm
    | some l =>
      rw [hl] at hm
      have := (h2 l (List.mem_of_getElem? hl)).2 x hm
      exact ⟨this.1, by show x ≤ _; omega⟩
theorem PoD.tN_at {p : PoD} {T : List (List Int)} {day m : Nat} {l : List Int} {x : Int} (hl : T[day]? = some l) (hx : l[m]? = some x) : p.tN T day (p.low + (m : Int)) = x := by
  have e : T.getD day [] = l := by rw [List.getD, hl]; rfl
  unfold PoD.tN PoD.look
  rw [e, show (p.low + (m : Int) - p.low).toNat = m by omega, List.getD, hx]; rfl
/-- The costs that a table tells, as far as they are written down. -/
structure CtM (p : PoM) (T : Nat → Int → Int) (k m D : Nat) (V : World) : Prop where
  l : ∃ cs, Lies V D 116 cs ∧ cs.size = 61 * (p.ds.l.length + 1) ∧ (∀ i, i < cs.size → ∃ x, cs[i]? = some (.int .i64 x)) ∧ (∀ day lv : Nat, day < k → p.low ≤ lv → (lv : Int) ≤ p.high → cs[day * 61 + lv]? = some (.int .i64 (T day lv))) ∧
    ∀ lv : Nat, p.low ≤ lv → (lv : Int) < p.low + (m : Int) → (lv : Int) ≤ p.high → cs[k * 61 + lv]? = some (.int .i64 (T k lv))
section
variable {p : PoM} {T : Nat → Int → Int} {k m D : Nat} {V V' : World}
theorem CtM.in_ (h : CtM p T k m D V) : D < V.heap.size := by obtain ⟨cs, h1, _⟩ := h.l; exact h1.in_
theorem CtM.to_ (h : CtM p T k m D V) (e : V'.heap[D]? = V.heap[D]?) : CtM p T k m D V' := by
  obtain ⟨cs, h1, h2⟩ := h.l
  exact ⟨cs, h1.to_ e, h2⟩
theorem CtM.some_ (h : CtM p T k m D V) (i : Nat) (hi : i < 61 * (p.ds.l.length + 1)) : ∃ x, V.cell? ⟨D, i, none⟩ = some (.int .i64 x) := by
  obtain ⟨cs, h1, h2, h3, -⟩ := h.l
  obtain ⟨x, hx⟩ := h3 i (by omega)
  exact ⟨x, by rw [h1.at_]; exact hx⟩
theorem CtM.free (h : CtM p T k m D V) (i : Nat) : V.frozen? ⟨D, i, none⟩ = false := by obtain ⟨cs, h1, _⟩ := h.l; exact h1.free i
theorem CtM.set (h : CtM p T k m D V) {lv : Nat} (hlv : (lv : Int) = p.low + (m : Int)) (h60 : lv < 61) (hk : k ≤ p.ds.l.length) (hh : p.high ≤ 60) : CtM p T k (m + 1) D (V.setCell ⟨D, k * 61 + lv, none⟩ (.int .i64 (T k lv))) := by
  obtain ⟨cs, h1, h2, h3, h4, h5⟩ := h.l
  refine ⟨cs.setIfInBounds (k * 61 + lv) (.int .i64 (T k lv)), h1.set _ _, by rw [Array.size_setIfInBounds]; exact h2, fun i hi => ?_, fun day lv' hd h6 h7 => ?_, fun lv' h6 h7 h8 => ?_⟩
  · rw [Array.size_setIfInBounds] at hi
    by_cases e : k * 61 + lv = i
    · subst e
      exact ⟨T k lv, by rw [Array.getElem?_setIfInBounds_self_of_lt hi]⟩
    · rw [Array.getElem?_setIfInBounds_ne e]
      exact h3 i hi
  · rw [Array.getElem?_setIfInBounds_ne ?_]
    · exact h4 day lv' hd h6 h7
    · intro e
      have h9 : lv' < 61 := by omega
      omega
  · by_cases e : lv' = lv
    · subst e
      rw [Array.getElem?_setIfInBounds_self_of_lt (by omega)]
    · rw [Array.getElem?_setIfInBounds_ne (by omega)]
      exact h5 lv' h6 (by omega) h8
theorem CtM.day (h : CtM p T k m D V) (hm : (m : Int) = p.high - p.low + 1) (hz : ∀ lv : Nat, ¬ ((lv : Int) < p.low)  → True) : CtM p T (k + 1) 0 D V := by
  obtain ⟨cs, h1, h2, h3, h4, h5⟩ := h.l
  refine ⟨cs, h1, h2, h3, fun day lv hd h6 h7 => ?_, fun lv h6 h7 h8 => by omega⟩
  by_cases e : day = k
  · subst e; exact h5 lv h6 (by omega) h7
  · exact h4 day lv (by omega) h6 h7
end
theorem made_ct {p : PoM} {T : Nat → Int → Int} {D : Nat} {V : World} (h : Lies V D 116 (madeCells (Array.replicate 61 (.int .i64 0)) ((p.ds.l.length + 1) * 61))) : CtM p T 0 0 D V := by
  refine ⟨_, h, by rw [size_madeCells]; omega, fun i hi => ⟨0, ?_⟩, fun day lv hd => by omega, fun lv h1 h2 => by omega⟩
  rw [size_madeCells] at hi
  exact made_costs _ _ hi
/-- While costsOf works. -/
structure CoF (p : PoM) (T : Nat → Int → Int) (A : Option Addr) (ts : List (Sv Int)) (w : World) (k m : Nat) (V : World) : Prop where
  b : Lies V w.heap.size 34 p.cells.toArray
  c : CtM p T k m (w.heap.size + 1) V
  t : TabM A ts V w.heap.size
  w : Below w.heap.size w V
theorem CoF.call {p : PoM} {T : Nat → Int → Int} {A : Option Addr} {ts : List (Sv Int)} {w : World} {k m : Nat} {V V' : World} (h : CoF p T A ts w k m V) (hb : Below V.heap.size V V') : CoF p T A ts w k m V' :=
  ⟨h.b.call hb, h.c.to_ (hb.block _ h.c.in_), h.t.below (hb.mono (by have := h.w.size; omega)) (Nat.le_refl _), h.w.trans (hb.mono (by have := h.w.size; omega))⟩
theorem CoF.set {p : PoM} {T : Nat → Int → Int} {A : Option Addr} {ts : List (Sv Int)} {w : World} {k m : Nat} {V : World} (h : CoF p T A ts w k m V) {lv : Nat} (hlv : (lv : Int) = p.low + (m : Int)) (h60 : lv < 61) (hk : k ≤ p.ds.l.length) (hh : p.high ≤ 60) : CoF p T A ts w k (m + 1) (V.setCell ⟨w.heap.size + 1, k * 61 + lv, none⟩ (.int .i64 (T k lv))) := by
  have ho := Only.set (w.heap.size + 1) (k * 61 + lv) V (.int .i64 (T k lv))
  exact ⟨ho.lies h.b (by omega), h.c.set hlv h60 hk hh, h.t.below (ho.below (Below.refl _ _) (by omega)) (Nat.le_refl _), ho.below h.w (by omega)⟩
set_option maxRecDepth 100000 in
set_option maxHeartbeats 8000000 in
theorem costsOf_any (p : PoM) (A : Option Addr) (c : Nat) (ts : List (Sv Int)) (w : World) (hA : TabM A ts w w.heap.size) (hok : p.d.Ok) (htab : p.d.tabB (ts.map Sv.l) = true) :
    Calls Try.prog 85 #[.agg p.cells.toArray, .slice A ts.length c] w fun e w' => e = .returned (.slice (some ⟨w.heap.size + 1, 0, none⟩) (p.ds.l.length + 1) (p.ds.l.length + 1)) ∧ CoM p (p.d.tN (ts.map Sv.l)) 0 (w.heap.size + 1) w' ∧ Below w.heap.size w w' := by
  have hl0 : 0 ≤ p.low := hok.l0
  have hl1 : p.low ≤ p.high := hok.l1
  have hl2 : p.high ≤ 60 := hok.l2
  have hn12 : p.ds.l.length ≤ 12 := hok.n2
  obtain ⟨t1, t2, -⟩ := PoD.tabB_iff.1 htab
  rw [List.length_map] at t1
  obtain ⟨n1, hn1⟩ : ∃ n1, n1 = ts.length := ⟨_, rfl⟩
  have hnl : n1 = p.ds.l.length + 1 := by rw [hn1]; exact t1
  have hnz : (n1 : Int) ≤ 13 := by omega
  have hmk := make_costs n1 (by omega)
  obtain ⟨T, hT⟩ : ∃ T, T = p.d.tN (ts.map Sv.l) := ⟨_, rfl⟩
  have hrow : ∀ k s, ts[k]? = some s → (s.l.length : Int) = p.high - p.low + 1 ∧ ∀ (m : Nat) (x : Int), s.l[m]? = some x → T k (p.low + (m : Int)) = x := fun k s hs => by
    have hl : (ts.map Sv.l)[k]? = some s.l := by rw [List.getElem?_map, hs]; rfl
    exact ⟨(t2 _ (List.mem_of_getElem? hl)).1, fun m x hx => by rw [hT]; exact PoD.tN_at (p := p.d) hl hx⟩
  have l0 : Lies (w.alloc (.cells p.cells.toArray 34)) w.heap.size 34 p.cells.toArray := Lies.fresh _ _ _
  have b0 : Below w.heap.size w (w.alloc (.cells p.cells.toArray 34)) := (by repeat (first | (with_reducible assumption) | (with_reducible exact Below.refl _ _) | (with_reducible refine Below.drew ?_) | (with_reducible refine below_drewN ?_ _) | ((with_reducible refine Below.setCell ?_ ?_ _); rotate_left; focus (first | (simp; done) | (simp; omega) | omega)) | ((with_reducible refine Below.alloc ?_ ?_ _); rotate_left; focus (first | (simp; done) | (simp; omega) | omega))))
  have HZ := Lib.hid (show (w.alloc (.cells p.cells.toArray 34)).heap.size = w.heap.size + 1 by simp)
  have HROW := Lib.hid hrow
  have HNL := Lib.hid hnl
  have HN := Lib.hid hn1
  have L0 := Lib.hid l0
  have B0 := Lib.hid b0
  have HT := Lib.hid (hA.below b0 (Nat.le_refl _))
  rw [← hT, ← hnl, ← hn1]
  clear hrow hnl hn1 hT hA hok htab t1 t2 l0 b0 hn12
  go_enter Try.func85, Try.ntmps85
  go_upto_region 1 with (fail)
  change Code.wp _ _ _ _ (w.alloc (.cells p.cells.toArray 34))
  generalize w.alloc (.cells p.cells.toArray 34) = w1 at *
  go_upto_region 2 with (fail)
  have hb2 : Below w1.heap.size w1 (w1.alloc (.cells (madeCells (Array.replicate 61 (.int .i64 0)) (n1 * 61)) 116)) := (Below.refl _ _).alloc (Nat.le_refl _) _
  have M2 := Lib.hid (show CoF p T A ts w 0 0 (w1.alloc (.cells (madeCells (Array.replicate 61 (.int .i64 0)) (n1 * 61)) 116)) from
    ⟨L0.out.call hb2, made_ct (by have := Lies.fresh' (t := 116) (cs := madeCells (Array.replicate 61 (.int .i64 0)) (n1 * 61)) HZ.out; rw [HNL.out] at this ⊢; exact this), HT.out.below (hb2.mono B0.out.size) (Nat.le_refl _), B0.out.trans (hb2.mono B0.out.size)⟩)
  rw [HZ.out]
  clear hb2 hmk L0 B0 HT HZ
  generalize w1.alloc (.cells (madeCells (Array.replicate 61 (.int .i64 0)) (n1 * 61)) 116) = w2 at *
  go_wp2
  go_loopw [6, 7, 8, 9, 15] (fun _ _ _ _ s15 wr => ∃ k : Nat, k ≤ n1 ∧ s15 = .int .i64 k ∧ Aside (CoF p T A ts w k 0 wr)) (fun _ _ _ _ i _ => n1 - (intOf i).toNat)
  case atStart => exact ⟨0, by omega, rfl, M2.out⟩
  case round =>
    obtain ⟨k, hk, rfl, HH⟩ := hrel
    have HM := Lib.hid HH.out
    clear HH
    have hk0 : (0 : Int) ≤ (k : Int) := by omega
    by_cases hlt : k < n1
    · have hltz : (k : Int) < (n1 : Int) := by omega
      obtain ⟨s, hs⟩ : ∃ s, ts[k]? = some s := ⟨ts[k]'(by rw [← HN.out]; exact hlt), by simp⟩
      obtain ⟨hsl, hsx⟩ := HROW.out k s hs
      obtain ⟨b, off, hAe, hb, hc⟩ := HM.out.t.cell hs
      have HSI := Lib.hid (HM.out.t.i s (List.mem_of_getElem? hs))
      have HSX := Lib.hid hsx
      obtain ⟨M, hM⟩ : ∃ M, M = s.l.length := ⟨_, rfl⟩
      rw [← hM] at hsl hc
      have HMM := Lib.hid hM
      subst hAe
      clear hs hsx hM hb
      go_wp2
      clear hc
      go_loopw [8, 9, 22] (fun _ _ s22 wq => ∃ m : Nat, m ≤ M ∧ s22 = .int .i64 m ∧ Aside (CoF p T (some ⟨b, off, none⟩) ts w k m wq ∧ Sl wq w.heap.size 1 encI s.A s.l)) (fun _ _ i _ => M - (intOf i).toNat)
      case atStart => exact ⟨0, by omega, rfl, HM.out, HSI.out⟩
      case round =>
        obtain ⟨m, hm, rfl, HH⟩ := hrel
        have HC := Lib.hid HH.out.1
        have HS := Lib.hid HH.out.2
        clear HH
        have hm0 : (0 : Int) ≤ (m : Int) := by omega
        by_cases hmt : m < M
        · have hmz : (m : Int) < (M : Int) := by omega
          obtain ⟨x, hx⟩ : ∃ x, s.l[m]? = some x := ⟨s.l[m]'(by rw [← HMM.out]; exact hmt), by simp⟩
          have hTx := HSX.out m x hx
          obtain ⟨ba, oa, hA2, hba, hca⟩ := HS.out.cell1 hx
          obtain ⟨lv, hlv⟩ : ∃ lv : Nat, (lv : Int) = p.low + (m : Int) := ⟨(p.low + (m : Int)).toNat, by omega⟩
          have hlv60 : lv < 61 := by omega
          have hlz : (lv : Int) < 61 := by omega
          have hlz0 : (0 : Int) ≤ (lv : Int) := by omega
          have hwl : IntKind.i64.wrap (p.low + (m : Int)) = (lv : Int) := by rw [IntWalk.i64_in _ (by omega), hlv]
          rw [← hlv] at hTx
          rw [hA2]
          have c26 : wr.cell? ⟨ba, oa + m, none⟩ = some (.int .i64 x) := hca
          have HLV := Lib.hid hlv
          have HTX := Lib.hid hTx
          have HX2 := Lib.hid hA2
          clear hx hTx hba hca hlv hA2
          go_upto_region 8 with (fail)
          clear c26
          have r30 := cell_regrown (show wr.cell? ⟨w.heap.size, 0, none⟩ = some (.int .i64 p.low) from HC.out.b.at_ 0)
          refine wp_region_tail 9 (by kernel_rfl) (by kernel_rfl) (by kernel_rfl) (by kernel_rfl) (by kernel_rfl) (by kernel_rfl) (by simp) ?_
          simp only [List.take_succ_cons, List.take_zero, List.drop_succ_cons, List.drop_zero]
          repeat (first | go_big_quiet_step (fail) | quiet_step (fail))
          refine wpQuiet_nil ?_
          intro wq hwq
          have hbq : Below wr.heap.size wr wq := (by obtain ⟨q, rfl⟩ := hwq; exact below_regrown _ _ _)
          have MQ := Lib.hid (HC.out.call hbq)
          have HSQ := Lib.hid (HS.out.below (hbq.mono HC.out.w.size))
          have hkn : k ≤ p.ds.l.length := by have := HNL.out; omega
          have f35 := MQ.out.c.free (k * 61 + lv)
          obtain ⟨x0, c35⟩ := MQ.out.c.some_ (k * 61 + lv) (by omega)
          have hset := MQ.out.set HLV.out hlv60 hkn hl2
          rw [HTX.out] at hset
          have M5 := Lib.hid hset
          have hs5 : Sl (wq.setCell ⟨w.heap.size + 1, k * 61 + lv, none⟩ (.int .i64 x)) w.heap.size 1 encI s.A s.l := HSQ.out.below ((Only.set (w.heap.size + 1) (k * 61 + lv) wq (.int .i64 x)).below (Below.refl _ _) (by omega))
          have S5 := Lib.hid hs5
          clear hwq r30 hbq hset hs5 MQ HSQ
          go_wp2
          go_roundw
          case rel => exact ⟨m + 1, by omega, by go_num, M5.out, by rw [← HX2.out]; exact S5.out⟩
          case measure => simp [intOf]; omega
        · obtain rfl : m = M := by omega
          have M6 := Lib.hid (HC.out.c.day hsl (fun _ _ => trivial))
          have M7 := Lib.hid (show CoF p T (some ⟨b, off, none⟩) ts w (k + 1) 0 wr from ⟨HC.out.b, M6.out, HC.out.t, HC.out.w⟩)
          go_wp2
          go_roundw
          case rel => exact ⟨k + 1, by omega, by go_num, M7.out⟩
          case measure => simp [intOf]; omega
    · obtain rfl : k = n1 := by omega
      go_wp2
      go_ret
      obtain ⟨cs, h1, h2, h3, h4, -⟩ := HM.out.c.l
      exact ⟨rfl, ⟨cs, h1, h2, h3, fun day _ hd lv h6 h7 => h4 day lv (by have := HNL.out; omega) h6 h7⟩, HM.out.w⟩
def PoD.keepsX (p : PoD) (T : Nat → Int → Int) (day : Nat) (d : Dy) (lv : Int) : Bool := decide (T day lv = -1 ∨ ((p.bestD (T (day + 1)) d lv).2 ≠ -1 ∧ (p.bestD (T (day + 1)) d lv).2 ≤ T day lv))
def PoD.needsX (p : PoD) (T : Nat → Int → Int) (day : Nat) (d : Dy) (lv : Int) : Bool := decide ((p.bestD (T (day + 1)) d lv).2 = -1 ∨ (T day lv ≠ -1 ∧ T day lv ≤ (p.bestD (T (day + 1)) d lv).2))
end Go.Proofs.Yteognijlgalahaa

/- keeps and needs. -/
namespace Go.Proofs.Yteognijlgalahaa
open Go.RowKit Go.Lib
attribute [local go_sem] Oper.semAt_some

set_option maxRecDepth 100000 in
set_option maxHeartbeats 8000000 in
theorem keeps_any (p : PoM) (T : Nat → Int → Int) (D mb day lv : Nat) (d : Dy) (w : World) (hk : KeM p T 0 D mb w) (hok : p.d.Ok) (hd : p.ds.l[day]? = some d) (hT : Tok T) (h0 : p.low ≤ (lv : Int)) (h1 : (lv : Int) ≤ p.high) :
    Calls Try.prog 59 #[.agg (keC p D mb).toArray, .int .i64 day, .int .i64 lv] w fun e w' => e = .returned (.bool (p.d.keepsX T day d lv)) ∧ KeM p T 0 D mb w' ∧ StepB mb w w' := by
  have hl2 : p.high ≤ 60 := hok.l2
  have hln : p.ds.l.length ≤ 12 := hok.n2
  have hdl : day < p.ds.l.length := (List.getElem?_eq_some_iff.1 hd).1
  have hdz : (day : Int) < (p.ds.l.length : Int) + 1 := by omega
  have hd0 : (0 : Int) ≤ (day : Int) := by omega
  have hlz : (lv : Int) < 61 := by omega
  have hl0 : (0 : Int) ≤ (lv : Int) := by omega
  have hnz : (p.ds.l.length : Int) ≤ 12 := by omega
  have b0 : Below w.heap.size w (w.alloc (.cells (keC p D mb).toArray 89)) := (by repeat (first | (with_reducible assumption) | (with_reducible exact Below.refl _ _) | (with_reducible refine Below.drew ?_) | (with_reducible refine below_drewN ?_ _) | ((with_reducible refine Below.setCell ?_ ?_ _); rotate_left; focus (first | (simp; done) | (simp; omega) | omega)) | ((with_reducible refine Below.alloc ?_ ?_ _); rotate_left; focus (first | (simp; done) | (simp; omega) | omega))))
  have hK := hk.call b0
  have l0 : Lies (w.alloc (.cells (keC p D mb).toArray 89)) w.heap.size 89 (keC p D mb).toArray := Lies.fresh _ _ _
  have c11 : (w.alloc (.cells (keC p D mb).toArray 89)).cell? ⟨w.heap.size, 7, none⟩ = some (.slice (some ⟨D, 0, none⟩) (p.ds.l.length + 1) (p.ds.l.length + 1)) := l0.at_ 7
  have c16 : (w.alloc (.cells (keC p D mb).toArray 89)).cell? ⟨D, day * 61 + lv, none⟩ = some (.int .i64 (T day lv)) := hK.c.at_ (Nat.zero_le _) (by omega) h0 h1
  have hbe := fun W (hw : KeM p T 0 D mb W) => best_any p T 0 D mb day d lv W hw hok hd (by omega) hT (by omega) (by omega)
  have hx : p.d.keepsX T day d lv = decide (T day lv = -1 ∨ ((p.d.bestD (T (day + 1)) d lv).2 ≠ -1 ∧ (p.d.bestD (T (day + 1)) d lv).2 ≤ T day lv)) := rfl
  obtain ⟨a, ha⟩ : ∃ a, a = T day lv := ⟨_, rfl⟩
  obtain ⟨⟨am, b⟩, hb⟩ : ∃ r, r = p.d.bestD (T (day + 1)) d lv := ⟨_, rfl⟩
  rw [← ha, ← hb] at hx
  rw [← ha] at c16
  rw [← hb] at hbe
  dsimp only at hx hbe
  have HX := Lib.hid hx
  have HK := Lib.hid hK
  have HBE := Lib.hid hbe
  have L0 := Lib.hid l0
  have S0 := Lib.hid (StepB.of_below (b := mb) b0)
  have K18 := Lib.hid True.intro
  generalize p.d.keepsX T day d lv = r at *
  clear hx hK hbe l0 b0 hk hok hd hT ha hb hdl hln
  by_cases h1 : a = -1
  · have e1 : ((a : Int) == -1) = true := by simp [h1]
    rw [decide_eq_true (.inl h1)] at HX
    subst h1
    go_enter Try.func59, Try.ntmps59
    go_upto_region 1 with (fail)
    change Code.wp _ _ _ _ (w.alloc (.cells (keC p D mb).toArray 89))
    generalize w.alloc (.cells (keC p D mb).toArray 89) = w1 at *
    go_wp2_with (first
      | (have h := K18; clear h; refine wpList_load_row (o := ⟨some 18, _, _, _, _, _⟩) ?_ 89 (.tmp 3) ?_ w.heap.size ?_ 89 (keC p D mb).toArray (0, 0) _ L0.out Try.underlying89 rfl size_ke ?_; rfl; rfl; rfl; clear K18)
      | (go_at_call 52; refine (HBE.out _ HK.out).mono ?_; rintro e w2 ⟨rfl, hk2, hg2⟩; have K2 := Lib.hid hk2; have S2 := Lib.hid (S0.out.trans hg2); clear hk2 hg2))
    go_ret
    exact ⟨ret_bool HX.out.symm, K2.out, S2.out⟩
  · have e1 : ((a : Int) == -1) = false := by simpa using h1
    by_cases h2 : b = -1
    · have e2 : ((b : Int) == -1) = true := by simp [h2]
      have e3 : ((b : Int) != -1) = false := by simp [h2]
      rw [decide_eq_false (by rintro (h | ⟨h, -⟩); exact h1 h; exact h h2)] at HX
      subst h2
      clear h1
      go_enter Try.func59, Try.ntmps59
      go_upto_region 1 with (fail)
      change Code.wp _ _ _ _ (w.alloc (.cells (keC p D mb).toArray 89))
      generalize w.alloc (.cells (keC p D mb).toArray 89) = w1 at *
      go_wp2_with (first
        | (have h := K18; clear h; refine wpList_load_row (o := ⟨some 18, _, _, _, _, _⟩) ?_ 89 (.tmp 3) ?_ w.heap.size ?_ 89 (keC p D mb).toArray (0, 0) _ L0.out Try.underlying89 rfl size_ke ?_; rfl; rfl; rfl; clear K18)
        | (go_at_call 52; refine (HBE.out _ HK.out).mono ?_; rintro e w2 ⟨rfl, hk2, hg2⟩; have K2 := Lib.hid hk2; have S2 := Lib.hid (S0.out.trans hg2); clear hk2 hg2))
      go_ret
      exact ⟨ret_bool HX.out.symm, K2.out, S2.out⟩
    · have e2 : ((b : Int) == -1) = false := by simpa using h2
      have e3 : ((b : Int) != -1) = true := by simpa using h2
      have hq : decide (a = -1 ∨ (b ≠ -1 ∧ b ≤ a)) = decide (b ≤ a) := by rw [Bool.eq_iff_iff]; simp [h1, h2]
      rw [hq] at HX
      clear hq h1 h2
      go_enter Try.func59, Try.ntmps59
      go_upto_region 1 with (fail)
      change Code.wp _ _ _ _ (w.alloc (.cells (keC p D mb).toArray 89))
      generalize w.alloc (.cells (keC p D mb).toArray 89) = w1 at *
      go_wp2_with (first
        | (have h := K18; clear h; refine wpList_load_row (o := ⟨some 18, _, _, _, _, _⟩) ?_ 89 (.tmp 3) ?_ w.heap.size ?_ 89 (keC p D mb).toArray (0, 0) _ L0.out Try.underlying89 rfl size_ke ?_; rfl; rfl; rfl; clear K18)
        | (go_at_call 52; refine (HBE.out _ HK.out).mono ?_; rintro e w2 ⟨rfl, hk2, hg2⟩; have K2 := Lib.hid hk2; have S2 := Lib.hid (S0.out.trans hg2); clear hk2 hg2))
      go_ret
      exact ⟨ret_bool HX.out.symm, K2.out, S2.out⟩
set_option maxRecDepth 100000 in
set_option maxHeartbeats 8000000 in
theorem needs_any (p : PoM) (T : Nat → Int → Int) (D mb day lv : Nat) (d : Dy) (w : World) (hk : KeM p T 0 D mb w) (hok : p.d.Ok) (hd : p.ds.l[day]? = some d) (hT : Tok T) (h0 : p.low ≤ (lv : Int)) (h1 : (lv : Int) ≤ p.high) :
    Calls Try.prog 61 #[.agg (keC p D mb).toArray, .int .i64 day, .int .i64 lv] w fun e w' => e = .returned (.bool (p.d.needsX T day d lv)) ∧ KeM p T 0 D mb w' ∧ StepB mb w w' := by
  have hl2 : p.high ≤ 60 := hok.l2
  have hln : p.ds.l.length ≤ 12 := hok.n2
  have hdl : day < p.ds.l.length := (List.getElem?_eq_some_iff.1 hd).1
  have hdz : (day : Int) < (p.ds.l.length : Int) + 1 := by omega
  have hd0 : (0 : Int) ≤ (day : Int) := by omega
  have hlz : (lv : Int) < 61 := by omega
  have hl0 : (0 : Int) ≤ (lv : Int) := by omega
  have hnz : (p.ds.l.length : Int) ≤ 12 := by omega
  have b0 : Below w.heap.size w (w.alloc (.cells (keC p D mb).toArray 89)) := (by repeat (first | (with_reducible assumption) | (with_reducible exact Below.refl _ _) | (with_reducible refine Below.drew ?_) | (with_reducible refine below_drewN ?_ _) | ((with_reducible refine Below.setCell ?_ ?_ _); rotate_left; focus (first | (simp; done) | (simp; omega) | omega)) | ((with_reducible refine Below.alloc ?_ ?_ _); rotate_left; focus (first | (simp; done) | (simp; omega) | omega))))
  have hK := hk.call b0
  have l0 : Lies (w.alloc (.cells (keC p D mb).toArray 89)) w.heap.size 89 (keC p D mb).toArray := Lies.fresh _ _ _
  have c11 : (w.alloc (.cells (keC p D mb).toArray 89)).cell? ⟨w.heap.size, 7, none⟩ = some (.slice (some ⟨D, 0, none⟩) (p.ds.l.length + 1) (p.ds.l.length + 1)) := l0.at_ 7
  have c16 : (w.alloc (.cells (keC p D mb).toArray 89)).cell? ⟨D, day * 61 + lv, none⟩ = some (.int .i64 (T day lv)) := hK.c.at_ (Nat.zero_le _) (by omega) h0 h1
  have hbe := fun W (hw : KeM p T 0 D mb W) => best_any p T 0 D mb day d lv W hw hok hd (by omega) hT (by omega) (by omega)
  have hx : p.d.needsX T day d lv = decide ((p.d.bestD (T (day + 1)) d lv).2 = -1 ∨ (T day lv ≠ -1 ∧ T day lv ≤ (p.d.bestD (T (day + 1)) d lv).2)) := rfl
  obtain ⟨a, ha⟩ : ∃ a, a = T day lv := ⟨_, rfl⟩
  obtain ⟨⟨am, b⟩, hb⟩ : ∃ r, r = p.d.bestD (T (day + 1)) d lv := ⟨_, rfl⟩
  rw [← ha, ← hb] at hx
  rw [← ha] at c16
  rw [← hb] at hbe
  dsimp only at hx hbe
  have HX := Lib.hid hx
  have HK := Lib.hid hK
  have HBE := Lib.hid hbe
  have L0 := Lib.hid l0
  have S0 := Lib.hid (StepB.of_below (b := mb) b0)
  have K18 := Lib.hid True.intro
  generalize p.d.needsX T day d lv = r at *
  clear hx hK hbe l0 b0 hk hok hd hT ha hb hdl hln
  by_cases h1 : b = -1
  · have e1 : ((b : Int) == -1) = true := by simp [h1]
    rw [decide_eq_true (.inl h1)] at HX
    subst h1
    go_enter Try.func61, Try.ntmps61
    go_upto_region 1 with (fail)
    change Code.wp _ _ _ _ (w.alloc (.cells (keC p D mb).toArray 89))
    generalize w.alloc (.cells (keC p D mb).toArray 89) = w1 at *
    go_wp2_with (first
      | (have h := K18; clear h; refine wpList_load_row (o := ⟨some 18, _, _, _, _, _⟩) ?_ 89 (.tmp 3) ?_ w.heap.size ?_ 89 (keC p D mb).toArray (0, 0) _ L0.out Try.underlying89 rfl size_ke ?_; rfl; rfl; rfl; clear K18)
      | (go_at_call 52; refine (HBE.out _ HK.out).mono ?_; rintro e w2 ⟨rfl, hk2, hg2⟩; have K2 := Lib.hid hk2; have S2 := Lib.hid (S0.out.trans hg2); clear hk2 hg2))
    go_ret
    exact ⟨ret_bool HX.out.symm, K2.out, S2.out⟩
  · have e1 : ((b : Int) == -1) = false := by simpa using h1
    by_cases h2 : a = -1
    · have e2 : ((a : Int) == -1) = true := by simp [h2]
      have e3 : ((a : Int) != -1) = false := by simp [h2]
      rw [decide_eq_false (by rintro (h | ⟨h, -⟩); exact h1 h; exact h h2)] at HX
      subst h2
      clear h1
      go_enter Try.func61, Try.ntmps61
      go_upto_region 1 with (fail)
      change Code.wp _ _ _ _ (w.alloc (.cells (keC p D mb).toArray 89))
      generalize w.alloc (.cells (keC p D mb).toArray 89) = w1 at *
      go_wp2_with (first
        | (have h := K18; clear h; refine wpList_load_row (o := ⟨some 18, _, _, _, _, _⟩) ?_ 89 (.tmp 3) ?_ w.heap.size ?_ 89 (keC p D mb).toArray (0, 0) _ L0.out Try.underlying89 rfl size_ke ?_; rfl; rfl; rfl; clear K18)
        | (go_at_call 52; refine (HBE.out _ HK.out).mono ?_; rintro e w2 ⟨rfl, hk2, hg2⟩; have K2 := Lib.hid hk2; have S2 := Lib.hid (S0.out.trans hg2); clear hk2 hg2))
      go_ret
      exact ⟨ret_bool HX.out.symm, K2.out, S2.out⟩
    · have e2 : ((a : Int) == -1) = false := by simpa using h2
      have e3 : ((a : Int) != -1) = true := by simpa using h2
      have hq : decide (b = -1 ∨ (a ≠ -1 ∧ a ≤ b)) = decide (a ≤ b) := by rw [Bool.eq_iff_iff]; simp [h1, h2]
      rw [hq] at HX
      clear hq h1 h2
      go_enter Try.func61, Try.ntmps61
      go_upto_region 1 with (fail)
      change Code.wp _ _ _ _ (w.alloc (.cells (keC p D mb).toArray 89))
      generalize w.alloc (.cells (keC p D mb).toArray 89) = w1 at *
      go_wp2_with (first
        | (have h := K18; clear h; refine wpList_load_row (o := ⟨some 18, _, _, _, _, _⟩) ?_ 89 (.tmp 3) ?_ w.heap.size ?_ 89 (keC p D mb).toArray (0, 0) _ L0.out Try.underlying89 rfl size_ke ?_; rfl; rfl; rfl; clear K18)
        | (go_at_call 52; refine (HBE.out _ HK.out).mono ?_; rintro e w2 ⟨rfl, hk2, hg2⟩; have K2 := Lib.hid hk2; have S2 := Lib.hid (S0.out.trans hg2); clear hk2 hg2))
      go_ret
      exact ⟨ret_bool HX.out.symm, K2.out, S2.out⟩
end Go.Proofs.Yteognijlgalahaa

/- isOf: whether something holds for all numbers of what is a table. -/
namespace Go.Proofs.Yteognijlgalahaa
open Go.RowKit Go.Lib
attribute [local go_sem] Oper.semAt_some

/-- What has to hold on a day. -/
def PoD.dayB (p : PoD) (F : (Nat → Int → Int) → Nat → Dy → Int → Bool) (T : List (List Int)) (day : Nat) : Bool := (List.range p.levels).all fun (i : Nat) => F (p.tN T) day (p.ds.getD day ⟨0, 0, 0, 0, 0⟩) (p.low + (i : Int))
def PoD.isOfB (p : PoD) (F : (Nat → Int → Int) → Nat → Dy → Int → Bool) (T : List (List Int)) : Bool := decide (p.fault = 0) && p.tabB T && (List.range p.ds.length).all (p.dayB F T)
/-- A function that tells what holds of a number. -/
def HoldsF (g : Nat) (p : PoM) (F : (Nat → Int → Int) → Nat → Dy → Int → Bool) : Prop := ∀ (T : Nat → Int → Int) (D mb day lv : Nat) (d : Dy) (W : World), KeM p T 0 D mb W → p.d.Ok → p.ds.l[day]? = some d → Tok T → p.low ≤ (lv : Int) → (lv : Int) ≤ p.high →
  Calls Try.prog g #[.agg (keC p D mb).toArray, .int .i64 day, .int .i64 lv] W fun e w' => e = .returned (.bool (F T day d (lv : Int))) ∧ KeM p T 0 D mb w' ∧ StepB mb W w'
theorem size_pf : (Try.prog.info? 103).map (·.size) = some 1 := by kernel_rfl
/-- The variables of isOf. -/
structure IsM (p : PoM) (T : Nat → Int → Int) (g g7 D mb : Nat) (w : World) (Ds : List Nat) (V : World) : Prop where
  f : Lies V w.heap.size 103 #[.func (.func g) #[] #[]]
  b : Lies V (w.heap.size + 1) 34 p.cells.toArray
  r : Lies V (w.heap.size + 2) 4 #[.bool false]
  k : Lies V g7 89 (keC p D mb).toArray
  e : KeM p T 0 D mb V
  bw : Below w.heap.size w V
  n : Ds.Nodup
  d : ∀ x, x ∈ Ds → w.heap.size + 3 ≤ x ∧ V.heap[x]? = some (.deferred (some []))
section
variable {p : PoM} {T : Nat → Int → Int} {g g7 D mb : Nat} {w : World} {Ds : List Nat} {V V' : World}
theorem IsM.size (h : IsM p T g g7 D mb w Ds V) : w.heap.size + 3 ≤ V.heap.size := h.r.in_
theorem IsM.call (h : IsM p T g g7 D mb w Ds V) (hb : Below V.heap.size V V') : IsM p T g g7 D mb w Ds V' :=
  ⟨h.f.call hb, h.b.call hb, h.r.call hb, h.k.call hb, h.e.call hb, h.bw.trans (hb.mono (by have := h.size; omega)), h.n, fun x hx => ⟨(h.d x hx).1, (hb.block x (Array.getElem?_eq_some_iff.1 (h.d x hx).2).1).trans (h.d x hx).2⟩⟩
theorem IsM.recs {B : Nat} (h : IsM p T g g7 D mb w Ds V) (hr : Recs B V V') (hm : mb < B) (hB : w.heap.size ≤ B) (hlt : ∀ x, x ∈ Ds → x < B) : IsM p T g g7 D mb w Ds V' :=
  ⟨hr.lies h.f, hr.lies h.b, hr.lies h.r, hr.lies h.k, h.e.recs hr hm, hr.below h.bw hB h.bw.size, h.n, fun x hx => ⟨(h.d x hx).1, hr.old (hlt x hx) (h.d x hx).2⟩⟩
theorem IsM.step (h : IsM p T g g7 D mb w Ds V) (he : KeM p T 0 D mb V') (hg : StepB mb V V') (hm : w.heap.size + 3 ≤ mb) : IsM p T g g7 D mb w Ds V' := by
  have hg' : V.grownBy V' (some mb) := hg
  refine ⟨h.f.grown hg' (by simp; omega), h.b.grown hg' (by simp; omega), h.r.grown hg' (by simp; omega), h.k.grown hg' (fun e => h.e.noM h.k (by cases e; rfl)), he, h.bw.grown hg' h.bw.size (fun k e => by cases e; omega), h.n, fun x hx => ⟨(h.d x hx).1, (hg'.block x (Array.getElem?_eq_some_iff.1 (h.d x hx).2).1 fun e => ?_).trans (h.d x hx).2⟩⟩
  have h1 := (h.d x hx).2
  obtain ⟨es, clock, h2, -⟩ := h.e.m
  cases e
  rw [h2] at h1
  cases h1
theorem IsM.mark (h : IsM p T g g7 D mb w Ds V) {D1 : Nat} (hd : V.heap[D1]? = some (.deferred (some []))) (h1 : w.heap.size + 3 ≤ D1) (hn : ∀ x, x ∈ Ds → x ≠ D1) : IsM p T g g7 D mb w (D1 :: Ds) V :=
  ⟨h.f, h.b, h.r, h.k, h.e, h.bw, List.nodup_cons.2 ⟨fun hx => hn _ hx rfl, h.n⟩, fun x hx => by
    rcases List.mem_cons.1 hx with rfl | hx
    · exact ⟨h1, hd⟩
    · exact h.d x hx⟩
theorem IsM.only (h : IsM p T g g7 D mb w Ds V) (ho : Only (w.heap.size + 2) V V') (hl : Lies V' (w.heap.size + 2) 4 #[.bool false]) (hg : w.heap.size + 3 ≤ g7) (hD : w.heap.size + 3 ≤ D) (hA : ∀ a, p.ds.A = some a → p.ds.l ≠ [] → a.block < w.heap.size) : IsM p T g g7 D mb w Ds V' :=
  ⟨ho.lies h.f (by omega), ho.lies h.b (by omega), hl, ho.lies h.k (by omega), h.e.only ho (by omega) h.r (fun a e hne => by have := hA a e hne; omega), ho.below h.bw (by omega), h.n, fun x hx => ⟨(h.d x hx).1, (ho.block x (by have := (h.d x hx).1; omega)).trans (h.d x hx).2⟩⟩
end
/-- In a round. -/
structure IiM (p : PoM) (T : Nat → Int → Int) (g g7 D mb : Nat) (w : World) (Ds : List Nat) (gd gb day : Nat) (V : World) : Prop where
  h : IsM p T g g7 D mb w Ds V
  d : Lies V gd 3 #[.int .i64 day]
  b : Lies V gb 31 #[.int .i64 p.low, .int .i64 p.high]
section
variable {p : PoM} {T : Nat → Int → Int} {g g7 D mb : Nat} {w : World} {Ds : List Nat} {gd gb day : Nat} {V V' : World}
theorem IiM.recs {B : Nat} (h : IiM p T g g7 D mb w Ds gd gb day V) (hr : Recs B V V') (hm : mb < B) (hB : w.heap.size ≤ B) (hlt : ∀ x, x ∈ Ds → x < B) : IiM p T g g7 D mb w Ds gd gb day V' := ⟨h.h.recs hr hm hB hlt, hr.lies h.d, hr.lies h.b⟩
theorem IiM.step (h : IiM p T g g7 D mb w Ds gd gb day V) (he : KeM p T 0 D mb V') (hg : StepB mb V V') (hm : w.heap.size + 3 ≤ mb) : IiM p T g g7 D mb w Ds gd gb day V' :=
  ⟨h.h.step he hg hm, h.d.grown (show V.grownBy V' (some mb) from hg) (fun e => h.h.e.noM h.d (by cases e; rfl)), h.b.grown (show V.grownBy V' (some mb) from hg) (fun e => h.h.e.noM h.b (by cases e; rfl))⟩
end
/-- Between the rounds of isOf. -/
def IsR (p : PoM) (F : (Nat → Int → Int) → Nat → Dy → Int → Bool) (Ts : List (List Int)) (g g7 D mb : Nat) (w : World) (A : Option Addr) (c tl N n : Nat) (a : Act) (V : World) : Prop := ∃ (k : Nat) (Ds : List Nat) (u8 u9 u28 u29 u30 u31 u32 u33 u34 u35 u36 u37 u38 u39 u40 u41 : Value), n + k = N ∧ (∀ i, i < k → p.d.dayB F Ts i = true) ∧ IsM p (p.d.tN Ts) g g7 D mb w Ds V ∧ a = { tmps := #[.agg #[.func (.func g) #[] #[]], .agg p.cells.toArray, .slice A tl c, .pointer (some ⟨w.heap.size, 0, none⟩), .pointer (some ⟨w.heap.size + 1, 0, none⟩), undef, .pointer (some ⟨w.heap.size + 2, 0, none⟩), .pointer (some ⟨g7, 0, none⟩), u8, u9, .agg p.cells.toArray, .int .i64 0, .bool false, .bool false, .agg p.cells.toArray, .slice A tl c, .bool true, .bool false, .bool false, .agg p.cells.toArray, .agg p.cells.toArray, .slice A tl c, .slice (some ⟨D, 0, none⟩) (p.ds.l.length + 1) (p.ds.l.length + 1), .agg (keC p D mb).toArray, .pointer (some ⟨w.heap.size + 1, 6, none⟩), .slice p.ds.A p.ds.l.length p.ds.c, .int .i64 p.ds.l.length, .int .i64 k, u28, u29, u30, u31, u32, u33, u34, u35, u36, u37, u38, u39, u40, u41], defers := Ds.map markOf }
set_option maxRecDepth 100000 in
set_option maxHeartbeats 16000000 in
theorem isOf_any (p : PoM) (A : Option Addr) (c : Nat) (ts : List (Sv Int)) (g : Nat) (F : (Nat → Int → Int) → Nat → Dy → Int → Bool) (w : World) (hp : p.At w w.heap.size) (hA : TabM A ts w w.heap.size) (eg : ∀ args w, (callFunc g args).run Try.prog w = .ok (.enter g args) w) (hF : HoldsF g p F) :
    Calls Try.prog 60 #[.agg #[.func (.func g) #[] #[]], .agg p.cells.toArray, .slice A ts.length c] w fun e w' => e = .returned (.bool (p.d.isOfB F (ts.map Sv.l))) ∧ Below w.heap.size w w' := by
  obtain ⟨rr, hrr⟩ : ∃ rr, rr = p.d.isOfB F (ts.map Sv.l) := ⟨_, rfl⟩
  have hiv : rr = (decide (p.d.fault = 0) && p.d.tabB (ts.map Sv.l) && (List.range p.d.ds.length).all (p.d.dayB F (ts.map Sv.l))) := hrr
  have w3 : Below w.heap.size w (((w.alloc (.cells #[.func (.func g) #[] #[]] 103)).alloc (.cells p.cells.toArray 34)).alloc (.cells #[.bool false] 4)) := (by repeat (first | (with_reducible assumption) | (with_reducible exact Below.refl _ _) | (with_reducible refine Below.drew ?_) | (with_reducible refine below_drewN ?_ _) | ((with_reducible refine Below.setCell ?_ ?_ _); rotate_left; focus (first | (simp; done) | (simp; omega) | omega)) | ((with_reducible refine Below.alloc ?_ ?_ _); rotate_left; focus (first | (simp; done) | (simp; omega) | omega))))
  have lf : Lies (((w.alloc (.cells #[.func (.func g) #[] #[]] 103)).alloc (.cells p.cells.toArray 34)).alloc (.cells #[.bool false] 4)) w.heap.size 103 #[.func (.func g) #[] #[]] := ((Lies.fresh _ _ _).alloc _).alloc _
  have lb : Lies (((w.alloc (.cells #[.func (.func g) #[] #[]] 103)).alloc (.cells p.cells.toArray 34)).alloc (.cells #[.bool false] 4)) (w.heap.size + 1) 34 p.cells.toArray := (Lies.fresh' (by simp)).alloc _
  have lr : Lies (((w.alloc (.cells #[.func (.func g) #[] #[]] 103)).alloc (.cells p.cells.toArray 34)).alloc (.cells #[.bool false] 4)) (w.heap.size + 2) 4 #[.bool false] := Lies.fresh' (by simp)
  have hz3 : (((w.alloc (.cells #[.func (.func g) #[] #[]] 103)).alloc (.cells p.cells.toArray 34)).alloc (.cells #[.bool false] 4)).heap.size = w.heap.size + 3 := by simp
  have HP := Lib.hid hp
  have HT := Lib.hid hA
  have HF := Lib.hid hF
  have HIV := Lib.hid hiv
  have LF := Lib.hid lf
  have LB := Lib.hid lb
  have LR := Lib.hid lr
  have B0 := Lib.hid w3
  have HZ3 := Lib.hid hz3
  have HCH := Lib.hid (fun W (hb : Below w.heap.size w W) => CheckPolder_any p W (hp.below hb hb.size))
  have HHT := Lib.hid (fun (hok : p.d.Ok) W (hb : Below w.heap.size w W) => hasTable_any p A c ts W (hp.below hb hb.size) (hA.below hb hb.size) hok)
  rw [← hrr]
  obtain ⟨tl, htl⟩ : ∃ tl, tl = ts.length := ⟨_, rfl⟩
  have HTL := Lib.hid htl
  rw [← htl] at HHT ⊢
  clear hp hA hF hiv lf lb lr w3 hz3 hrr htl
  have K10 := Lib.hid True.intro
  refine calls_of_wp_marks 6 Try.func60 rfl ?_
  simp only [Try.ntmps60, List.size_toArray, List.length_cons, List.length_nil, Nat.reduceAdd, Nat.reduceSub, Array.replicate_succ, Array.replicate_zero, List.push_toArray, List.append_toArray, List.nil_append, List.cons_append]
  go_upto_region 1 with (fail)
  rw [show w.heap.size + 1 + 1 = w.heap.size + 2 from rfl]
  change Code.wp _ _ _ _ (((w.alloc (.cells #[.func (.func g) #[] #[]] 103)).alloc (.cells p.cells.toArray 34)).alloc (.cells #[.bool false] 4))
  generalize ((w.alloc (.cells #[.func (.func g) #[] #[]] 103)).alloc (.cells p.cells.toArray 34)).alloc (.cells #[.bool false] 4) = w1 at *
  by_cases hf0 : p.d.fault = 0
  · have HOK := Lib.hid (PoD.fault_iff.1 hf0)
    rw [hf0] at HCH
    rw [decide_eq_true hf0, Bool.true_and] at HIV
    have HH2 := Lib.hid (HHT.out HOK.out)
    clear hf0 HHT
    obtain ⟨tb, htb⟩ : ∃ tb, tb = p.d.tabB (ts.map Sv.l) := ⟨_, rfl⟩
    rw [← htb] at HIV HH2
    cases tb with
    | false =>
      rw [Bool.false_and] at HIV
      clear htb
      go_wp2_with (first
        | (have h := K10; clear h; refine wpList_load_row (o := ⟨some 10, _, _, _, _, _⟩) ?_ 34 (.tmp 4) ?_ (w.heap.size + 1) ?_ 34 p.cells.toArray (0, 0) _ LB.out Try.underlying34 rfl size_po ?_; rfl; rfl; rfl; clear K10)
        | (go_at_call 17; refine (HCH.out _ B0.out).mono ?_; rintro e w2 ⟨rfl, hb2⟩; have B2 := Lib.hid (B0.out.trans (hb2.mono B0.out.size)); have L2 := Lib.hid (LB.out.call hb2); have R2 := Lib.hid (LR.out.call hb2); clear hb2; have K14 := Lib.hid True.intro)
        | (have h := K14; clear h; refine wpList_load_rowG (o := ⟨some 14, _, _, _, _, _⟩) ?_ 34 (.tmp 4) ?_ (w.heap.size + 1) ?_ 34 p.cells.toArray (0, 0) _ L2.out Try.underlying34 rfl size_po ?_; rfl; rfl; rfl; clear K14)
        | (go_at_call 84; refine (HH2.out _ B2.out).mono ?_; rintro e w3 ⟨rfl, hb3⟩; have B3 := Lib.hid (B2.out.trans (hb3.mono B2.out.size)); have R3 := Lib.hid (R2.out.call hb3); have c6 : w3.cell? ⟨w.heap.size + 2, 0, none⟩ = some (.bool false) := R3.out.at_ 0; have f6 : w3.frozen? ⟨w.heap.size + 2, 0, none⟩ = false := R3.out.free 0; clear hb3))
      refine ⟨_, results_cell_one (v := .bool false) (a := ⟨w.heap.size + 2, 0, none⟩) rfl _ _ _ rfl ((R3.out.set 0 _).at_ 0) Try.underlying4 rfl, ?_, B3.out.setCell (by simp) _⟩
      exact ret_bool HIV.out.symm
    | true =>
      rw [Bool.true_and] at HIV
      have HTB := Lib.hid htb.symm
      clear htb
      go_upto_region 3 with (first
        | (have h := K10; clear h; refine wpList_load_row (o := ⟨some 10, _, _, _, _, _⟩) ?_ 34 (.tmp 4) ?_ (w.heap.size + 1) ?_ 34 p.cells.toArray (0, 0) _ LB.out Try.underlying34 rfl size_po ?_; rfl; rfl; rfl; clear K10)
        | (go_at_call 17; refine (HCH.out _ B0.out).mono ?_; rintro e w2 ⟨rfl, hb2⟩; have B2 := Lib.hid (B0.out.trans (hb2.mono B0.out.size)); have L2 := Lib.hid (LB.out.call hb2); have R2 := Lib.hid (LR.out.call hb2); have F2 := Lib.hid (LF.out.call hb2); have Z2 := Lib.hid (show w.heap.size + 3 ≤ w2.heap.size by have := HZ3.out; have := hb2.size; omega); clear hb2; have K14 := Lib.hid True.intro)
        | (have h := K14; clear h; refine wpList_load_rowG (o := ⟨some 14, _, _, _, _, _⟩) ?_ 34 (.tmp 4) ?_ (w.heap.size + 1) ?_ 34 p.cells.toArray (0, 0) _ L2.out Try.underlying34 rfl size_po ?_; rfl; rfl; rfl; clear K14)
        | (go_at_call 84; refine (HH2.out _ B2.out).mono ?_; rintro e w3 ⟨rfl, hb3⟩; have B3 := Lib.hid (B2.out.trans (hb3.mono B2.out.size)); have L3 := Lib.hid (L2.out.call hb3); have R3 := Lib.hid (R2.out.call hb3); have F3 := Lib.hid (F2.out.call hb3); have Z3 := Lib.hid (Nat.le_trans Z2.out hb3.size); clear hb3))
      rename_i K0 hK0
      clear LF LB LR B0 HCH HH2 B2 L2 R2 F2 Z2 HZ3
      obtain ⟨T, hT⟩ : ∃ T, T = p.d.tN (ts.map Sv.l) := ⟨_, rfl⟩
      have HTT := Lib.hid hT
      have HTOK := Lib.hid (show Tok T by rw [hT]; exact PoD.tN_tok HTB.out)
      have hAw : ∀ a, p.ds.A = some a → p.ds.l ≠ [] → a.block < w.heap.size := fun a e hne => by
        obtain ⟨b, off, e2, hb, -⟩ := HP.out.s hne
        rw [e] at e2; cases e2; exact hb
      have HAW := Lib.hid hAw
      have hl0 : 0 ≤ p.low := HOK.out.l0
      have hl1 : p.low ≤ p.high := HOK.out.l1
      have hl2 : p.high ≤ 60 := HOK.out.l2
      have hn12 : p.ds.l.length ≤ 12 := HOK.out.n2
      clear hAw hT
      have REST : ∀ (g7 D mb : Nat) (V : World), w3.heap.size ≤ D → w3.heap.size ≤ mb → w3.heap.size ≤ g7 → Lies V g7 89 (keC p D mb).toArray → KeM p T 0 D mb V → Below w3.heap.size w3 V →
          K0 { tmps := #[.agg #[.func (.func g) #[] #[]], .agg p.cells.toArray, .slice A tl c, .pointer (some ⟨w.heap.size, 0, none⟩), .pointer (some ⟨w.heap.size + 1, 0, none⟩), undef, .pointer (some ⟨w.heap.size + 2, 0, none⟩), .pointer (some ⟨g7, 0, none⟩), undef, undef, .agg p.cells.toArray, .int .i64 0, .bool false, .bool false, .agg p.cells.toArray, .slice A tl c, .bool true, .bool false, .bool false, .agg p.cells.toArray, .agg p.cells.toArray, .slice A tl c, .slice (some ⟨D, 0, none⟩) (p.ds.l.length + 1) (p.ds.l.length + 1), .agg (keC p D mb).toArray, undef, undef, undef, undef, undef, undef, undef, undef, undef, undef, undef, undef, undef, undef, undef, undef, undef, undef], defers := [] } V := by
        intro g7 D mb V hD hm hg hk he hb
        have hzz := Z3.out
        have hD3 : w.heap.size + 3 ≤ D := by omega
        have hm3 : w.heap.size + 3 ≤ mb := by omega
        have hg3 : w.heap.size + 3 ≤ g7 := by omega
        have HI := Lib.hid (show IsM p T g g7 D mb w [] V from ⟨F3.out.call hb, L3.out.call hb, R3.out.call hb, hk, he, B3.out.trans (hb.mono B3.out.size), List.nodup_nil, fun x hx => by simp at hx⟩)
        refine hK0 _ _ ?_
        clear hK0 hk he hb hD hm hg hzz Z3 B3 L3 R3 F3
        have c25 : V.cell? ⟨w.heap.size + 1, 6, none⟩ = some (.slice p.ds.A p.ds.l.length p.ds.c) := HI.out.b.at_ 6
        go_wp2
        clear c25
        refine wp_loop_ghost (IsR p F (ts.map Sv.l) g g7 D mb w A c tl p.ds.l.length) (N := p.ds.l.length) ⟨0, [], undef, undef, undef, undef, undef, undef, undef, undef, undef, undef, undef, undef, undef, undef, undef, undef, rfl, fun i hi => by omega, by rw [← HTT.out]; exact HI.out, rfl⟩ ?_
        clear HI
        rintro n a V ⟨k, Ds, u8, u9, u28, u29, u30, u31, u32, u33, u34, u35, u36, u37, u38, u39, u40, u41, hnk, hall, hm, rfl⟩
        rw [← HTT.out] at hm
        have HALL := Lib.hid hall
        have HM := Lib.hid hm
        have hk0 : (0 : Int) ≤ (k : Int) := by omega
        clear hall hm
        by_cases hlt : k < p.ds.l.length
        · have hltz : (k : Int) < (p.ds.l.length : Int) := by omega
          obtain ⟨d, hd⟩ : ∃ d, p.ds.l[k]? = some d := ⟨p.ds.l[k]'hlt, by simp⟩
          have HD := Lib.hid hd
          have hgd : p.d.ds.getD k ⟨0, 0, 0, 0, 0⟩ = d := by show p.ds.l.getD k _ = d; rw [List.getD, hd]; rfl
          have HDAY := Lib.hid (show p.d.dayB F (ts.map Sv.l) k = (List.range p.d.levels).all fun (i : Nat) => F T k d (p.low + (i : Int)) by unfold PoD.dayB; rw [hgd, ← HTT.out]; rfl)
          clear hd hgd
          have hb1 : Below V.heap.size V (V.alloc (.cells #[.int .i64 k] 3)) := (Below.refl _ _).alloc (Nat.le_refl _) _
          go_upto_region 7 with (fail)
          change Code.wp _ _ _ _ (V.alloc (.cells #[.int .i64 k] 3))
          have M1 := Lib.hid (HM.out.call hb1)
          have D1 := Lib.hid (Lies.fresh V 3 #[.int .i64 k])
          have HZV := Lib.hid HM.out.size
          have HDV := Lib.hid (show ∀ x, x ∈ Ds → x < V.heap.size from fun x hx => (Array.getElem?_eq_some_iff.1 (HM.out.d x hx).2).1)
          have HZ1 := Lib.hid (show (V.alloc (.cells #[.int .i64 k] 3)).heap.size = V.heap.size + 1 by simp)
          have HMBV := Lib.hid HM.out.e.size
          clear hb1 HM
          generalize V.alloc (.cells #[.int .i64 k] 3) = v1 at *
          generalize V.heap.size = gd at *
          have K30 := Lib.hid True.intro
          go_wp2_with (first
            | (have h := K30; clear h; refine wpList_load_row (o := ⟨some 30, _, _, _, _, _⟩) ?_ 34 (.tmp 4) ?_ (w.heap.size + 1) ?_ 34 p.cells.toArray (0, 0) _ M1.out.b Try.underlying34 rfl size_po ?_; rfl; rfl; rfl; clear K30)
            | (go_at_call 63; refine (levels_any p _).mono ?_; rintro e w4 ⟨rfl, hb3⟩)
            | (go_at_call 72; refine (all_any p.low p.high _).mono ?_; rintro e w' ⟨rfl, rfl⟩))
          have hb4 : Below v1.heap.size v1 (w4.alloc (.cells #[.int .i64 p.low, .int .i64 p.high] 31)) := hb3.alloc hb3.size _
          have hW : IiM p T g g7 D mb w Ds gd w4.heap.size k (w4.alloc (.cells #[.int .i64 p.low, .int .i64 p.high] 31)) :=
            ⟨M1.out.call hb4, D1.out.call hb4, Lies.fresh _ _ _⟩
          have hgb : gd < w4.heap.size := by have := HZ1.out; have := hb3.size; omega
          have hz5 : w4.heap.size < (w4.alloc (.cells #[.int .i64 p.low, .int .i64 p.high] 31)).heap.size := by simp
          clear M1 D1 hb3 hb4 HZ1
          generalize w4.heap.size = gb at *
          generalize w4.alloc (.cells #[.int .i64 p.low, .int .i64 p.high] 31) = w5 at *
          have HW := Lib.hid hW
          clear hW
          have hmbD : mb < w5.heap.size := by have := HMBV.out; omega
          have hgdz : w.heap.size + 3 ≤ gd := HZV.out
          refine range_givesK (n := 6) (gf := 86) rfl enters_all1 (all1_gives 5 (by omega) gb p.low p.high w5 (by omega) (by omega) (fun V => Lies V gb 31 #[.int .i64 p.low, .int .i64 p.high]) (fun V h => h)) (Below.refl _ _) (fun _ => rfl)
            (fun i V => IiM p T g g7 D mb w Ds gd gb k V ∧ ∀ j, j < i → F T k d (p.low + (j : Int)) = true)
            (fun cd i V => cd = .ret ∧ IsM p T g g7 D mb w Ds V ∧ p.d.dayB F (ts.map Sv.l) k = false) ?hI ?hIx ⟨HW.out, fun j hj => by omega⟩ ?hSt
            (fun x a' _ => a' = { tmps := #[.agg #[.func (.func g) #[] #[]], .agg p.cells.toArray, .slice A tl c, .pointer (some ⟨w.heap.size, 0, none⟩), .pointer (some ⟨w.heap.size + 1, 0, none⟩), undef, .pointer (some ⟨w.heap.size + 2, 0, none⟩), .pointer (some ⟨g7, 0, none⟩), .pointer (some ⟨gd, 0, none⟩), .int .i64 x, .agg p.cells.toArray, .int .i64 0, .bool false, .bool false, .agg p.cells.toArray, .slice A tl c, .bool true, .bool false, .bool false, .agg p.cells.toArray, .agg p.cells.toArray, .slice A tl c, .slice (some ⟨D, 0, none⟩) (p.ds.l.length + 1) (p.ds.l.length + 1), .agg (keC p D mb).toArray, .pointer (some ⟨w.heap.size + 1, 6, none⟩), .slice p.ds.A p.ds.l.length p.ds.c, .int .i64 p.ds.l.length, .int .i64 k, .bool true, .int .i64 k, .agg p.cells.toArray, .agg #[.int .i64 p.low, .int .i64 p.high], .func (.func 86) #[] #[.pointer (some ⟨gb, 0, none⟩)], .int .i64 x, u34, u35, u36, u37, u38, u39, u40, u41], defers := [] }) ?hAx ?assign ?body ?done ?stop
          case hI =>
            rintro i V V' ⟨h, h2⟩ ht
            exact ⟨h.recs ht (by omega) (by omega) (fun x hx => by have := HDV.out x hx; omega), h2⟩
          case hIx =>
            rintro cd i V V' ⟨h0, h, h2⟩ ht
            exact ⟨h0, h.recs ht (by omega) (by omega) (fun x hx => by have := HDV.out x hx; omega), h2⟩
          case hSt =>
            rintro i V ⟨h, -⟩
            exact h.b
          case hAx =>
            rintro x a' V V' rfl ht
            rfl
          case stop =>
            rintro D1 cd i V hD1 hk' ⟨rfl, hi, hno⟩ hd
            refine wpIn_ret ?_
            have hi2 := hi.mark hd (by omega) (fun x hx e => by have := HDV.out x hx; omega)
            have HNO := Lib.hid (show rr = false by
              rw [HIV.out]
              exact all_hit (zs := List.range p.d.ds.length) (p := p.d.dayB F (ts.map Sv.l)) (k := k) (x := k) (by rw [List.getElem?_range]; exact hlt) hno)
            refine leave_marks (B := w.heap.size + 3) (fun A => Lies A (w.heap.size + 2) 4 #[.bool false] ∧ Below w.heap.size w A) (fun A A' h hr => ⟨hr.lies h.1, hr.below h.2 (by omega) h.2.size⟩) (fun A h => ⟨_, results_cell_one (v := .bool false) (a := ⟨w.heap.size + 2, 0, none⟩) rfl _ _ _ rfl (h.1.at_ 0) Try.underlying4 rfl, ?_, h.2⟩) (D1 :: Ds) V ⟨hi2.r, hi2.bw⟩ hi2.n hi2.d
            exact ret_bool HNO.out.symm
          case assign =>
            intro l2 i x V K hx hi hK
            have HIN := Lib.hid hi
            clear hx hi
            simp only [encY]
            gi_wp2_with (fail)
            exact hK _ _ (Keep.refl _ _) HIN.out rfl
          case body =>
            rintro l2 i x a' V hl2 hx ⟨hi, hall⟩ rfl
            obtain ⟨hin, rfl⟩ := rngL_some hx
            obtain ⟨m, hm⟩ : ∃ m : Nat, p.low + (i : Int) = (m : Int) := ⟨(p.low + (i : Int)).toNat, by omega⟩
            have hFF := HF.out T D mb k m d V hi.h.e HOK.out HD.out HTOK.out (by omega) (by omega)
            obtain ⟨y, hy⟩ : ∃ y, y = F T k d (m : Int) := ⟨_, rfl⟩
            rw [← hy] at hFF
            have hyy : y = F T k d (p.low + (i : Int)) := by rw [hy, hm]
            have HFC := Lib.hid hFF
            have HALI := Lib.hid hall
            have HYY := Lib.hid hyy
            have c35 : V.cell? ⟨w.heap.size, 0, none⟩ = some (.func (.func g) #[] #[]) := hi.h.f.at_ 0
            have q0 : V.cell? ⟨g7, 0, none⟩ = some (.int .i64 p.low) := hi.h.k.at_ 0
            have q1 : V.cell? ⟨g7, 1, none⟩ = some (.int .i64 p.high) := hi.h.k.at_ 1
            have q2 : V.cell? ⟨g7, 2, none⟩ = some (.int .i64 p.slo) := hi.h.k.at_ 2
            have q3 : V.cell? ⟨g7, 3, none⟩ = some (.int .i64 p.shi) := hi.h.k.at_ 3
            have q4 : V.cell? ⟨g7, 4, none⟩ = some (.int .i64 p.pump) := hi.h.k.at_ 4
            have q5 : V.cell? ⟨g7, 5, none⟩ = some (.int .i64 p.inl) := hi.h.k.at_ 5
            have q6 : V.cell? ⟨g7, 6, none⟩ = some (.slice p.ds.A p.ds.l.length p.ds.c) := hi.h.k.at_ 6
            have q7 : V.cell? ⟨g7, 7, none⟩ = some (.slice (some ⟨D, 0, none⟩) (p.ds.l.length + 1) (p.ds.l.length + 1)) := hi.h.k.at_ 7
            have q8 : V.cell? ⟨g7, 8, none⟩ = some (.map (some mb)) := hi.h.k.at_ 8
            have c37 : V.cell? ⟨gd, 0, none⟩ = some (.int .i64 k) := hi.d.at_ 0
            have HIN := Lib.hid hi
            clear hx hi hall hFF hy hyy
            gi_wp2_with (fail)
            refine ⟨?_, (callsIn_wide.2 HFC.out).mono ?_⟩
            · trivial
            rintro e u5 ⟨rfl, he5, hs5⟩
            have M5 := Lib.hid (HIN.out.step he5 hs5 (by omega))
            have K5 := Lib.hid (Keep.of_grown (B := w5.heap.size) (show V.grownBy u5 (some mb) from hs5) (fun r e => by cases e; omega))
            clear he5 hs5 HIN c35 c37 q0 q1 q2 q3 q4 q5 q6 q7 q8
            cases y with
            | true =>
              gi_wp2_with (fail)
              exact ⟨K5.out, M5.out, fun j hj => by
                by_cases e : j = i
                · subst e; exact HYY.out.symm
                · exact HALI.out j (by omega)⟩
            | false =>
              have c6 : u5.cell? ⟨w.heap.size + 2, 0, none⟩ = some (.bool false) := M5.out.h.r.at_ 0
              have f6 : u5.frozen? ⟨w.heap.size + 2, 0, none⟩ = false := M5.out.h.r.free 0
              gi_wp2_with (fail)
              have ho := Only.set (w.heap.size + 2) 0 u5 (.bool false)
              refine ⟨K5.out.trans (Keep.of_only ho (by omega)), rfl, M5.out.h.only ho (M5.out.h.r.set 0 _) (by omega) (by omega) HAW.out, ?_⟩
              rw [HDAY.out]
              exact all_hit (zs := List.range p.d.levels) (p := fun (i : Nat) => F T k d (p.low + (i : Int))) (k := i) (x := i) (by rw [List.getElem?_range]; exact hin) HYY.out.symm
          case done =>
            rintro D1 V hD1 ⟨hi, hall⟩ hd
            rw [rngL_length] at hall
            have hday : p.d.dayB F (ts.map Sv.l) k = true := by
              rw [HDAY.out, List.all_eq_true]
              intro j hj
              exact hall j (List.mem_range.1 hj)
            have M9 := Lib.hid (hi.h.mark hd (by omega) (fun x hx e => by have := HDV.out x hx; omega))
            have HDY := Lib.hid hday
            clear hi hall hd hday
            go_wp2
            rw [show (k : Int) + 1 = ((k + 1 : Nat) : Int) by omega]
            have hall2 : ∀ j, j < k + 1 → p.d.dayB F (ts.map Sv.l) j = true := fun j hj => by
              by_cases e : j = k
              · subst e; exact HDY.out
              · exact HALL.out j (by omega)
            exact ⟨n - 1, by omega, k + 1, D1 :: Ds, _, _, _, _, _, _, _, _, _, _, _, _, _, _, _, _, by omega, hall2, by rw [← HTT.out]; exact M9.out, rfl⟩
        · obtain rfl : k = p.ds.l.length := by omega
          have HYES := Lib.hid (show rr = true by
            rw [HIV.out, List.all_eq_true]
            intro i hi
            exact HALL.out i (List.mem_range.1 hi))
          have c6 : V.cell? ⟨w.heap.size + 2, 0, none⟩ = some (.bool false) := HM.out.r.at_ 0
          have f6 : V.frozen? ⟨w.heap.size + 2, 0, none⟩ = false := HM.out.r.free 0
          go_wp2
          have ho := Only.set (w.heap.size + 2) 0 V (.bool true)
          refine leave_marks (B := w.heap.size + 3) (fun A => Lies A (w.heap.size + 2) 4 #[.bool true] ∧ Below w.heap.size w A) (fun A A' h hr => ⟨hr.lies h.1, hr.below h.2 (by omega) h.2.size⟩) (fun A h => ⟨_, results_cell_one (v := .bool true) (a := ⟨w.heap.size + 2, 0, none⟩) rfl _ _ _ rfl (h.1.at_ 0) Try.underlying4 rfl, ?_, h.2⟩) Ds _ ⟨HM.out.r.set 0 _, ho.below HM.out.bw (by omega)⟩ HM.out.n (fun x hx => ⟨(HM.out.d x hx).1, (ho.block x (by have := (HM.out.d x hx).1; omega)).trans (HM.out.d x hx).2⟩)
          exact ret_bool HYES.out.symm
      clear hK0
      have RST := Lib.hid REST
      clear REST
      haveI hne : Nonempty (Cls (fun W => Below w3.heap.size w3 W)) := ⟨⟨w3, Below.refl _ _⟩⟩
      have r19 : ∀ W, (∃ cc : Cls (fun W => Below w3.heap.size w3 W), W = cc.val) → W.rangeAt (w.heap.size + 1) 0 p.cells := by
        rintro W ⟨cc, rfl⟩; exact Lies.range (cs := p.cells) (L3.out.call cc.h) (fun j v hj => by simpa using hj)
      have R19 := Lib.hid r19
      clear r19
      refine wp_region_wayw [0, 1, 2] (.way 3 (.way 4 (.way 5 (.way 6 .fin .fin) .fin) (.way 5 (.way 4 (.way 6 .fin .fin) .fin) .fin)) (.way 5 (.way 3 (.way 4 (.way 6 .fin .fin) .fin) .fin) .fin)) (fun W => ∃ cc : Cls (fun W => Below w3.heap.size w3 W), W = cc.val) (by kernel_rfl) (by kernel_rfl) (Cls.here (Below.refl _ _).drew) ?_
      simp only [List.filterMap_cons, List.filterMap_nil, List.getElem?_toArray, List.getElem?_cons_zero, List.getElem?_cons_succ]
      repeat (first
        | (refine wpQuiet_load_whole (o := ⟨some 19, _, _, _, _, _⟩) ?_ 34 (.tmp 4) ?_ (w.heap.size + 1) 0 ?_ p.cells _ R19.out Try.underlying34 rfl size_po ?_; rfl; rfl; rfl; simp only [Act.put, List.setIfInBounds_toArray, List.set_cons_zero, List.set_cons_succ])
        | (refine wpQuiet_load_whole (o := ⟨some 20, _, _, _, _, _⟩) ?_ 34 (.tmp 4) ?_ (w.heap.size + 1) 0 ?_ p.cells _ R19.out Try.underlying34 rfl size_po ?_; rfl; rfl; rfl; simp only [Act.put, List.setIfInBounds_toArray, List.set_cons_zero, List.set_cons_succ])
        | go_big_quiet_step (fail) | quiet_step (fail))
      refine wpQuiet_nil ?_
      clear R19
      have B0x := Lib.hid (show Below w3.heap.size w3 w3.drew from (Below.refl _ _).drew)
      generalize w3.drew = v0 at *
      rw [wpWy_way]
      refine ⟨?_, ?_⟩
      · simp only [List.getElem?_toArray, List.getElem?_cons_zero, List.getElem?_cons_succ]
        go_wp2_with (go_at_call 85; rw [HTL.out]; refine (costsOf_any p A c ts _ (HT.out.below (B3.out.trans (B0x.out.mono B3.out.size)) (B3.out.trans (B0x.out.mono B3.out.size)).size) HOK.out HTB.out).mono ?_; rintro e v1 ⟨rfl, hcm, hb⟩)
        rw [← HTL.out]
        have B1x := Lib.hid (B0x.out.trans (hb.mono B0x.out.size))
        have C1x := Lib.hid hcm
        have hDz : w3.heap.size ≤ v0.heap.size + 1 := by have := B0x.out.size; omega
        clear hb hcm B0x
        refine Ends.intro ⟨Cls.here B1x.out, ?_⟩
        generalize v0.heap.size + 1 = D at *
        rw [wpWy_way]
        refine ⟨?_, ?_⟩
        · simp only [List.getElem?_toArray, List.getElem?_cons_zero, List.getElem?_cons_succ]
          go_wp2_with (go_at_call 70; refine (with_any p (some ⟨D, 0, none⟩) (p.ds.l.length + 1) (p.ds.l.length + 1) _).mono ?_; rintro e v2 ⟨mb, hmb, rfl, hm2, hb⟩)
          have B2x := Lib.hid (B1x.out.trans (hb.mono B1x.out.size))
          have C2x := Lib.hid (C1x.out.to_ (hb.block _ C1x.out.in_))
          have MM2 := Lib.hid hm2
          have hmz : w3.heap.size ≤ mb := Nat.le_trans B1x.out.size hmb
          rw [show keV p (.slice (some ⟨D, 0, none⟩) (p.ds.l.length + 1) (p.ds.l.length + 1)) mb = keC p D mb from rfl]
          clear hb hm2 hmb B1x C1x
          refine Ends.intro ⟨Cls.here B2x.out, ?_⟩
          rw [wpWy_way]
          refine ⟨?_, by exact trivial⟩
          simp only [List.getElem?_toArray, List.getElem?_cons_zero, List.getElem?_cons_succ]
          have hz3 : w3.heap.size ≤ v2.heap.size := B2x.out.size
          have B3x := Lib.hid (B2x.out.alloc B2x.out.size (.cells zke.toArray 89))
          have G3x := Lib.hid (Lies.fresh v2 89 zke.toArray)
          have C3x := Lib.hid (C2x.out.to_ (W' := v2.alloc (.cells zke.toArray 89)) (heap_alloc_old _ _ C2x.out.in_))
          have MM3 := Lib.hid (fun R => (MM2.out R).call ((Below.refl v2.heap.size v2).alloc (Nat.le_refl _) (.cells zke.toArray 89)))
          go_wp2
          refine Ends.intro ⟨Cls.here B3x.out, ?_⟩
          change wpWy _ _ _ _ _ _ _ (v2.alloc (.cells zke.toArray 89))
          generalize v2.alloc (.cells zke.toArray 89) = v3 at *
          generalize v2.heap.size = g3 at *
          clear B2x
          rw [wpWy_way]
          refine ⟨?_, by exact trivial⟩
          simp only [List.getElem?_toArray, List.getElem?_cons_zero, List.getElem?_cons_succ]
          refine wpList_store_cells (o := ⟨none, .store 89 (.tmp 7) _, _, _, _, _⟩) ?_ 89 (.tmp 7) (.tmp 23) ?_ g3 0 ?_ 89 zke (keC p D mb) ?_ G3x.out (by simp [zke, keC, PoM.cells]) size_ke (keV_one p _ _ _ mb) ?_
          rfl; rfl; rfl; rfl
          intro v4 HS HO
          refine wpList_nil ?_
          have hs := HS.out
          rw [splice_whole (by simp [zke, keC, PoM.cells])] at hs
          have hg3 : w3.heap.size ≤ g3 := by assumption
          have hDz' : w3.heap.size ≤ D := by assumption
          obtain ⟨cs, hcs1, hcs2⟩ := C3x.out.l
          have hld := HO.out.lies hcs1 (lies_ne hcs1 G3x.out (by decide))
          have hmm : ∀ R, MemoM v4 mb R := fun R => (MM3.out R).to_ (HO.out.block _ ((MM3.out R).ne G3x.out))
          have hb := HO.out.below B3x.out hg3
          refine ⟨Cls.here hb, ?_⟩
          rw [wpWy_fin]
          exact RST.out g3 D mb v4 hDz' hmz hg3 hs ⟨HP.out.below (B3.out.trans (hb.mono B3.out.size)) (B3.out.trans (hb.mono B3.out.size)).size, ⟨cs, hld, by rw [HTT.out]; exact hcs2⟩, hmm _⟩ hb
        · rw [wpWy_way]
          refine ⟨?_, by exact trivial⟩
          simp only [List.getElem?_toArray, List.getElem?_cons_zero, List.getElem?_cons_succ]
          have hz2 : w3.heap.size ≤ v1.heap.size := B1x.out.size
          have B2x := Lib.hid (B1x.out.alloc B1x.out.size (.cells zke.toArray 89))
          have G2x := Lib.hid (Lies.fresh v1 89 zke.toArray)
          have C2x := Lib.hid (C1x.out.to_ (W' := v1.alloc (.cells zke.toArray 89)) (heap_alloc_old _ _ C1x.out.in_))
          go_wp2
          refine Ends.intro ⟨Cls.here B2x.out, ?_⟩
          change wpWy _ _ _ _ _ _ _ (v1.alloc (.cells zke.toArray 89))
          generalize v1.alloc (.cells zke.toArray 89) = v2 at *
          generalize v1.heap.size = g3 at *
          clear B1x
          rw [wpWy_way]
          refine ⟨?_, by exact trivial⟩
          simp only [List.getElem?_toArray, List.getElem?_cons_zero, List.getElem?_cons_succ]
          go_wp2_with (go_at_call 70; refine (with_any p (some ⟨D, 0, none⟩) (p.ds.l.length + 1) (p.ds.l.length + 1) _).mono ?_; rintro e v3 ⟨mb, hmb, rfl, hm3, hb⟩)
          have B3x := Lib.hid (B2x.out.trans (hb.mono B2x.out.size))
          have C3x := Lib.hid (C2x.out.to_ (hb.block _ C2x.out.in_))
          have MM3 := Lib.hid hm3
          have hmz : w3.heap.size ≤ mb := Nat.le_trans B2x.out.size hmb
          have G3x := Lib.hid (G2x.out.call hb)
          rw [show keV p (.slice (some ⟨D, 0, none⟩) (p.ds.l.length + 1) (p.ds.l.length + 1)) mb = keC p D mb from rfl]
          clear hb hm3 hmb B2x C2x
          refine Ends.intro ⟨Cls.here B3x.out, ?_⟩
          rw [wpWy_way]
          refine ⟨?_, by exact trivial⟩
          simp only [List.getElem?_toArray, List.getElem?_cons_zero, List.getElem?_cons_succ]
          refine wpList_store_cells (o := ⟨none, .store 89 (.tmp 7) _, _, _, _, _⟩) ?_ 89 (.tmp 7) (.tmp 23) ?_ g3 0 ?_ 89 zke (keC p D mb) ?_ G3x.out (by simp [zke, keC, PoM.cells]) size_ke (keV_one p _ _ _ mb) ?_
          rfl; rfl; rfl; rfl
          intro v4 HS HO
          refine wpList_nil ?_
          have hs := HS.out
          rw [splice_whole (by simp [zke, keC, PoM.cells])] at hs
          have hg3 : w3.heap.size ≤ g3 := by assumption
          have hDz' : w3.heap.size ≤ D := by assumption
          obtain ⟨cs, hcs1, hcs2⟩ := C3x.out.l
          have hld := HO.out.lies hcs1 (lies_ne hcs1 G3x.out (by decide))
          have hmm : ∀ R, MemoM v4 mb R := fun R => (MM3.out R).to_ (HO.out.block _ ((MM3.out R).ne G3x.out))
          have hb := HO.out.below B3x.out hg3
          refine ⟨Cls.here hb, ?_⟩
          rw [wpWy_fin]
          exact RST.out g3 D mb v4 hDz' hmz hg3 hs ⟨HP.out.below (B3.out.trans (hb.mono B3.out.size)) (B3.out.trans (hb.mono B3.out.size)).size, ⟨cs, hld, by rw [HTT.out]; exact hcs2⟩, hmm _⟩ hb
      · rw [wpWy_way]
        refine ⟨?_, by exact trivial⟩
        simp only [List.getElem?_toArray, List.getElem?_cons_zero, List.getElem?_cons_succ]
        have hz1 : w3.heap.size ≤ v0.heap.size := B0x.out.size
        have B1x := Lib.hid (B0x.out.alloc B0x.out.size (.cells zke.toArray 89))
        have G1x := Lib.hid (Lies.fresh v0 89 zke.toArray)
        go_wp2
        refine Ends.intro ⟨Cls.here B1x.out, ?_⟩
        change wpWy _ _ _ _ _ _ _ (v0.alloc (.cells zke.toArray 89))
        generalize v0.alloc (.cells zke.toArray 89) = v1 at *
        generalize v0.heap.size = g3 at *
        clear B0x
        rw [wpWy_way]
        refine ⟨?_, by exact trivial⟩
        simp only [List.getElem?_toArray, List.getElem?_cons_zero, List.getElem?_cons_succ]
        go_wp2_with (go_at_call 85; rw [HTL.out]; refine (costsOf_any p A c ts _ (HT.out.below (B3.out.trans (B1x.out.mono B3.out.size)) (B3.out.trans (B1x.out.mono B3.out.size)).size) HOK.out HTB.out).mono ?_; rintro e v2 ⟨rfl, hcm, hb⟩)
        rw [← HTL.out]
        have B2x := Lib.hid (B1x.out.trans (hb.mono B1x.out.size))
        have C2x := Lib.hid hcm
        have hDz : w3.heap.size ≤ v1.heap.size + 1 := by have := B1x.out.size; omega
        have G2x := Lib.hid (G1x.out.call hb)
        clear hb hcm B1x
        refine Ends.intro ⟨Cls.here B2x.out, ?_⟩
        generalize v1.heap.size + 1 = D at *
        rw [wpWy_way]
        refine ⟨?_, by exact trivial⟩
        simp only [List.getElem?_toArray, List.getElem?_cons_zero, List.getElem?_cons_succ]
        go_wp2_with (go_at_call 70; refine (with_any p (some ⟨D, 0, none⟩) (p.ds.l.length + 1) (p.ds.l.length + 1) _).mono ?_; rintro e v3 ⟨mb, hmb, rfl, hm3, hb⟩)
        have B3x := Lib.hid (B2x.out.trans (hb.mono B2x.out.size))
        have C3x := Lib.hid (C2x.out.to_ (hb.block _ C2x.out.in_))
        have MM3 := Lib.hid hm3
        have hmz : w3.heap.size ≤ mb := Nat.le_trans B2x.out.size hmb
        have G3x := Lib.hid (G2x.out.call hb)
        rw [show keV p (.slice (some ⟨D, 0, none⟩) (p.ds.l.length + 1) (p.ds.l.length + 1)) mb = keC p D mb from rfl]
        clear hb hm3 hmb B2x C2x
        refine Ends.intro ⟨Cls.here B3x.out, ?_⟩
        rw [wpWy_way]
        refine ⟨?_, by exact trivial⟩
        simp only [List.getElem?_toArray, List.getElem?_cons_zero, List.getElem?_cons_succ]
        refine wpList_store_cells (o := ⟨none, .store 89 (.tmp 7) _, _, _, _, _⟩) ?_ 89 (.tmp 7) (.tmp 23) ?_ g3 0 ?_ 89 zke (keC p D mb) ?_ G3x.out (by simp [zke, keC, PoM.cells]) size_ke (keV_one p _ _ _ mb) ?_
        rfl; rfl; rfl; rfl
        intro v4 HS HO
        refine wpList_nil ?_
        have hs := HS.out
        rw [splice_whole (by simp [zke, keC, PoM.cells])] at hs
        have hg3 : w3.heap.size ≤ g3 := by assumption
        have hDz' : w3.heap.size ≤ D := by assumption
        obtain ⟨cs, hcs1, hcs2⟩ := C3x.out.l
        have hld := HO.out.lies hcs1 (lies_ne hcs1 G3x.out (by decide))
        have hmm : ∀ R, MemoM v4 mb R := fun R => (MM3.out R).to_ (HO.out.block _ ((MM3.out R).ne G3x.out))
        have hb := HO.out.below B3x.out hg3
        refine ⟨Cls.here hb, ?_⟩
        rw [wpWy_fin]
        exact RST.out g3 D mb v4 hDz' hmz hg3 hs ⟨HP.out.below (B3.out.trans (hb.mono B3.out.size)) (B3.out.trans (hb.mono B3.out.size)).size, ⟨cs, hld, by rw [HTT.out]; exact hcs2⟩, hmm _⟩ hb
  · have hne : ((p.d.fault : Int) == 0) = false := by simpa using hf0
    have hne2 : ((p.d.fault : Int) != 0) = true := by simpa using hf0
    rw [decide_eq_false hf0, Bool.false_and, Bool.false_and] at HIV
    generalize p.d.fault = ff at *
    clear hf0 HHT
    go_wp2_with (first
      | (have h := K10; clear h; refine wpList_load_row (o := ⟨some 10, _, _, _, _, _⟩) ?_ 34 (.tmp 4) ?_ (w.heap.size + 1) ?_ 34 p.cells.toArray (0, 0) _ LB.out Try.underlying34 rfl size_po ?_; rfl; rfl; rfl; clear K10)
      | (go_at_call 17; refine (HCH.out _ B0.out).mono ?_; rintro e w2 ⟨rfl, hb2⟩; have B2 := Lib.hid (B0.out.trans (hb2.mono B0.out.size)); have R2 := Lib.hid (LR.out.call hb2); have c6 : w2.cell? ⟨w.heap.size + 2, 0, none⟩ = some (.bool false) := R2.out.at_ 0; have f6 : w2.frozen? ⟨w.heap.size + 2, 0, none⟩ = false := R2.out.free 0; clear hb2))
    refine ⟨_, results_cell_one (v := .bool false) (a := ⟨w.heap.size + 2, 0, none⟩) rfl _ _ _ rfl ((R2.out.set 0 _).at_ 0) Try.underlying4 rfl, ?_, B2.out.setCell (by simp) _⟩
    exact ret_bool HIV.out.symm
end Go.Proofs.Yteognijlgalahaa

/- ProveKeeps, ProveNeeds. -/
namespace Go.Proofs.Yteognijlgalahaa
open Go.RowKit Go.Lib
attribute [local go_sem] Oper.semAt_some

/-- What ProveKeeps tells of a table. -/
def PoD.keepsR (p : PoD) (T : List (List Int)) : Bool := p.isOfB p.keepsX T
theorem keeps_holds (p : PoM) : HoldsF 59 p p.d.keepsX := fun T D mb day lv d W hk hok hd hT h0 h1 => keeps_any p T D mb day lv d W hk hok hd hT h0 h1
theorem enters_keeps : ∀ args w, (callFunc 59 args).run Try.prog w = .ok (.enter 59 args) w := enters_of Try.func59 (by kernel_rfl) rfl
set_option maxRecDepth 100000 in
set_option maxHeartbeats 4000000 in
theorem ProveKeeps_any (p : PoM) (A : Option Addr) (c : Nat) (ts : List (Sv Int)) (w : World) (hp : p.At w w.heap.size) (hA : TabM A ts w w.heap.size) :
    Calls Try.prog 35 #[.agg p.cells.toArray, .slice A ts.length c] w fun e w' => e = .returned (.bool (p.d.keepsR (ts.map Sv.l))) ∧ Below w.heap.size w w' := by
  have l0 : Lies (w.alloc (.cells p.cells.toArray 34)) w.heap.size 34 p.cells.toArray := Lies.fresh _ _ _
  have b0 : Below w.heap.size w (w.alloc (.cells p.cells.toArray 34)) := (by repeat (first | (with_reducible assumption) | (with_reducible exact Below.refl _ _) | (with_reducible refine Below.drew ?_) | (with_reducible refine below_drewN ?_ _) | ((with_reducible refine Below.setCell ?_ ?_ _); rotate_left; focus (first | (simp; done) | (simp; omega) | omega)) | ((with_reducible refine Below.alloc ?_ ?_ _); rotate_left; focus (first | (simp; done) | (simp; omega) | omega))))
  have HI := Lib.hid (fun W (hb : Below w.heap.size w W) => isOf_any p A c ts 59 p.d.keepsX W (hp.below hb hb.size) (hA.below hb hb.size) enters_keeps (keeps_holds p))
  have L0 := Lib.hid l0
  have B0 := Lib.hid b0
  have K6 := Lib.hid True.intro
  obtain ⟨rr, hrr⟩ : ∃ rr, rr = p.d.keepsR (ts.map Sv.l) := ⟨_, rfl⟩
  have hrr2 : p.d.isOfB p.d.keepsX (ts.map Sv.l) = rr := hrr.symm
  rw [hrr2] at HI
  rw [← hrr]
  generalize ts.length = tl at *
  clear l0 b0 hp hA hrr hrr2
  go_enter Try.func35, Try.ntmps35
  go_upto_region 1 with (fail)
  change Code.wp _ _ _ _ (w.alloc (.cells p.cells.toArray 34))
  generalize w.alloc (.cells p.cells.toArray 34) = w1 at *
  go_wp2_with (first
    | (have h := K6; clear h; refine wpList_load_row (o := ⟨some 6, _, _, _, _, _⟩) ?_ 34 (.tmp 2) ?_ w.heap.size ?_ 34 p.cells.toArray (0, 0) _ L0.out Try.underlying34 rfl size_po ?_; rfl; rfl; rfl; clear K6)
    | (go_at_call 60; refine (HI.out _ B0.out).mono ?_; rintro e w2 ⟨rfl, hb2⟩))
  go_ret
  exact ⟨rfl, B0.out.trans (hb2.mono B0.out.size)⟩
/-- What ProveNeeds tells of a table. -/
def PoD.needsR (p : PoD) (T : List (List Int)) : Bool := p.isOfB p.needsX T
theorem needs_holds (p : PoM) : HoldsF 61 p p.d.needsX := fun T D mb day lv d W hk hok hd hT h0 h1 => needs_any p T D mb day lv d W hk hok hd hT h0 h1
theorem enters_needs : ∀ args w, (callFunc 61 args).run Try.prog w = .ok (.enter 61 args) w := enters_of Try.func61 (by kernel_rfl) rfl
set_option maxRecDepth 100000 in
set_option maxHeartbeats 4000000 in
theorem ProveNeeds_any (p : PoM) (A : Option Addr) (c : Nat) (ts : List (Sv Int)) (w : World) (hp : p.At w w.heap.size) (hA : TabM A ts w w.heap.size) :
    Calls Try.prog 37 #[.agg p.cells.toArray, .slice A ts.length c] w fun e w' => e = .returned (.bool (p.d.needsR (ts.map Sv.l))) ∧ Below w.heap.size w w' := by
  have l0 : Lies (w.alloc (.cells p.cells.toArray 34)) w.heap.size 34 p.cells.toArray := Lies.fresh _ _ _
  have b0 : Below w.heap.size w (w.alloc (.cells p.cells.toArray 34)) := (by repeat (first | (with_reducible assumption) | (with_reducible exact Below.refl _ _) | (with_reducible refine Below.drew ?_) | (with_reducible refine below_drewN ?_ _) | ((with_reducible refine Below.setCell ?_ ?_ _); rotate_left; focus (first | (simp; done) | (simp; omega) | omega)) | ((with_reducible refine Below.alloc ?_ ?_ _); rotate_left; focus (first | (simp; done) | (simp; omega) | omega))))
  have HI := Lib.hid (fun W (hb : Below w.heap.size w W) => isOf_any p A c ts 61 p.d.needsX W (hp.below hb hb.size) (hA.below hb hb.size) enters_needs (needs_holds p))
  have L0 := Lib.hid l0
  have B0 := Lib.hid b0
  have K6 := Lib.hid True.intro
  obtain ⟨rr, hrr⟩ : ∃ rr, rr = p.d.needsR (ts.map Sv.l) := ⟨_, rfl⟩
  have hrr2 : p.d.isOfB p.d.needsX (ts.map Sv.l) = rr := hrr.symm
  rw [hrr2] at HI
  rw [← hrr]
  generalize ts.length = tl at *
  clear l0 b0 hp hA hrr hrr2
  go_enter Try.func37, Try.ntmps37
  go_upto_region 1 with (fail)
  change Code.wp _ _ _ _ (w.alloc (.cells p.cells.toArray 34))
  generalize w.alloc (.cells p.cells.toArray 34) = w1 at *
  go_wp2_with (first
    | (have h := K6; clear h; refine wpList_load_row (o := ⟨some 6, _, _, _, _, _⟩) ?_ 34 (.tmp 2) ?_ w.heap.size ?_ 34 p.cells.toArray (0, 0) _ L0.out Try.underlying34 rfl size_po ?_; rfl; rfl; rfl; clear K6)
    | (go_at_call 60; refine (HI.out _ B0.out).mono ?_; rintro e w2 ⟨rfl, hb2⟩))
  go_ret
  exact ⟨rfl, B0.out.trans (hb2.mono B0.out.size)⟩
/-- What is proved of a table: in the words of the document. -/
theorem PoD.isOfB_iff {p : PoD} {F : (Nat → Int → Int) → Nat → Dy → Int → Bool} {T : List (List Int)} : p.isOfB F T = true ↔ p.Ok ∧ p.tabB T = true ∧ ∀ (day : Nat) (d : Dy) (lv : Int), p.ds[day]? = some d → p.kept lv → F (p.tN T) day d lv = true := by
  unfold PoD.isOfB
  rw [Bool.and_eq_true, Bool.and_eq_true, decide_eq_true_eq, PoD.fault_iff, List.all_eq_true]
  constructor
  · rintro ⟨⟨h1, h2⟩, h3⟩
    refine ⟨h1, h2, fun day d lv hd hk => ?_⟩
    have h4 := h3 day (List.mem_range.2 (List.getElem?_eq_some_iff.1 hd).1)
    unfold PoD.dayB at h4
    rw [List.all_eq_true] at h4
    obtain ⟨k1, k2⟩ := hk
    have h5 := h4 (lv - p.low).toNat (List.mem_range.2 (by unfold PoD.levels; omega))
    rw [show p.low + (((lv - p.low).toNat : Nat) : Int) = lv by omega] at h5
    have e : p.ds.getD day ⟨0, 0, 0, 0, 0⟩ = d := by rw [List.getD, hd]; rfl
    rw [e] at h5
    exact h5
  · rintro ⟨h1, h2, h3⟩
    refine ⟨⟨h1, h2⟩, fun day hday => ?_⟩
    have hl := List.mem_range.1 hday
    unfold PoD.dayB
    rw [List.all_eq_true]
    intro i hi
    have hi' := List.mem_range.1 hi
    unfold PoD.levels at hi'
    have hh := h1.l1
    refine h3 day _ _ ?_ ⟨by omega, by omega⟩
    rw [List.getD, List.getElem?_eq_getElem hl]; rfl
end Go.Proofs.Yteognijlgalahaa

/- The reference's IsTable. -/
namespace Go.Proofs.Yteognijlgalahaa
open Go.RowKit Go.Lib
attribute [local go_sem] Oper.semAt_some

def PoD.eltR (p : PoD) (j : Nat) (x : Int) : Bool := inB x (-1) 100000 && (decide (j ≠ p.ds.length) || decide (x = 0))
def PoD.rowR (p : PoD) (j : Nat) (l : List Int) : Bool := decide ((l.length : Int) = p.high - p.low + 1) && l.all (p.eltR j)
theorem PoD.tabB_rows (p : PoD) (T : List (List Int)) : p.tabB T = (decide (T.length = p.ds.length + 1) && (List.range T.length).all fun j => p.rowR j (T.getD j [])) := by
  rw [Bool.eq_iff_iff, PoD.tabB_iff, Bool.and_eq_true, decide_eq_true_eq, List.all_eq_true]
  constructor
  · rintro ⟨h1, h2, h3⟩
    refine ⟨h1, fun j hj => ?_⟩
    have hjl := List.mem_range.1 hj
    have hm : T.getD j [] ∈ T := by rw [List.getD, List.getElem?_eq_getElem hjl]; exact List.getElem_mem hjl
    unfold PoD.rowR
    rw [Bool.and_eq_true, decide_eq_true_eq, List.all_eq_true]
    refine ⟨(h2 _ hm).1, fun x hx => ?_⟩
    unfold PoD.eltR
    rw [Bool.and_eq_true, Bool.or_eq_true, decide_eq_true_eq, decide_eq_true_eq]
    refine ⟨inB_iff.2 ((h2 _ hm).2 x hx), ?_⟩
    by_cases e : j = p.ds.length
    · exact .inr (h3 x (by rw [← e]; exact hx))
    · exact .inl e
  · rintro ⟨h1, h2⟩
    have h4 : ∀ j, j < T.length → ((T.getD j []).length : Int) = p.high - p.low + 1 ∧ ∀ x, x ∈ T.getD j [] → (-1 ≤ x ∧ x ≤ 100000) ∧ (j = p.ds.length → x = 0) := fun j hj => by
      have := h2 j (List.mem_range.2 hj)
      unfold PoD.rowR at this
      rw [Bool.and_eq_true, decide_eq_true_eq, List.all_eq_true] at this
      refine ⟨this.1, fun x hx => ?_⟩
      have h5 := this.2 x hx
      unfold PoD.eltR at h5
      rw [Bool.and_eq_true, Bool.or_eq_true, decide_eq_true_eq, decide_eq_true_eq] at h5
      exact ⟨inB_iff.1 h5.1, fun e => h5.2.resolve_left fun h => h e⟩
    refine ⟨h1, fun l hl => ?_, fun x hx => ?_⟩
    · obtain ⟨j, hj, rfl⟩ := List.getElem_of_mem hl
      have h5 := h4 j hj
      rw [List.getD, List.getElem?_eq_getElem hj] at h5
      exact ⟨h5.1, fun x hx => (h5.2 x hx).1⟩
    · exact ((h4 p.ds.length (by omega)).2 x hx).2 rfl
set_option maxRecDepth 100000 in
set_option maxHeartbeats 8000000 in
theorem IsTable_any (q : PoM) (A : Option Addr) (c : Nat) (ts : List (Sv Int)) (w : World) (hA : TabM A ts w w.heap.size) (hok : q.d.Ok) :
    Calls Try.prog 38 #[.agg q.cells.toArray, .slice A ts.length c] w fun e w' => e = .returned (.bool (q.d.tabB (ts.map Sv.l))) ∧ Below w.heap.size w w' := by
  have l0 : Lies (w.alloc (.cells q.cells.toArray 26)) w.heap.size 26 q.cells.toArray := Lies.fresh _ _ _
  have b0 : Below w.heap.size w (w.alloc (.cells q.cells.toArray 26)) := (by repeat (first | (with_reducible assumption) | (with_reducible exact Below.refl _ _) | (with_reducible refine Below.drew ?_) | (with_reducible refine below_drewN ?_ _) | ((with_reducible refine Below.setCell ?_ ?_ _); rotate_left; focus (first | (simp; done) | (simp; omega) | omega)) | ((with_reducible refine Below.alloc ?_ ?_ _); rotate_left; focus (first | (simp; done) | (simp; omega) | omega))))
  have hl0 : 0 ≤ q.low := hok.l0
  have hl1 : q.low ≤ q.high := hok.l1
  have hl2 : q.high ≤ 60 := hok.l2
  have hn12 : q.ds.l.length ≤ 12 := hok.n2
  obtain ⟨N, hN⟩ : ∃ N, N = q.ds.l.length := ⟨_, rfl⟩
  have hNz : (N : Int) ≤ 12 := by omega
  have hw1 : IntKind.i64.wrap ((N : Int) + 1) = (N : Int) + 1 := IntWalk.i64_in _ (by omega)
  have hw2 : IntKind.i64.wrap (q.high - q.low) = q.high - q.low := IntWalk.i64_in _ (by omega)
  have hw3 : IntKind.i64.wrap (q.high - q.low + 1) = q.high - q.low + 1 := IntWalk.i64_in _ (by omega)
  have hr := PoD.tabB_rows q.d (ts.map Sv.l)
  have hdn : q.d.ds.length = N := by rw [hN]; rfl
  rw [hdn, List.length_map] at hr
  obtain ⟨rr, hrr⟩ : ∃ rr, rr = q.d.tabB (ts.map Sv.l) := ⟨_, rfl⟩
  rw [← hrr] at hr ⊢
  obtain ⟨tl, htl⟩ : ∃ tl, tl = ts.length := ⟨_, rfl⟩
  have htz : (tl : Int) ≤ 1000000 := by have := hA.n; omega
  have c9 : (w.alloc (.cells q.cells.toArray 26)).cell? ⟨w.heap.size, 6, none⟩ = some (.slice q.ds.A N q.ds.c) := by rw [hN]; exact l0.at_ 6
  have HTL := Lib.hid htl
  have HN := Lib.hid hN
  have HDN := Lib.hid hdn
  have HR := Lib.hid hr
  have L0 := Lib.hid l0
  have B0 := Lib.hid b0
  have HT := Lib.hid (hA.below b0 (Nat.le_refl _))
  rw [← htl] at HR ⊢
  clear hr hrr hA hok l0 b0 htl hN hn12 hdn
  by_cases hlen : tl = N + 1
  · have hee : ((tl : Int) == (N : Int) + 1) = true := by simp; omega
    have hee2 : ((tl : Int) != (N : Int) + 1) = false := by simp; omega
    rw [decide_eq_true hlen, Bool.true_and] at HR
    clear hlen
    go_enter Try.func38, Try.ntmps38
    go_upto_region 1 with (fail)
    change Code.wp _ _ _ _ (w.alloc (.cells q.cells.toArray 26))
    generalize w.alloc (.cells q.cells.toArray 26) = w1 at *
    go_wp2
    clear c9
    go_loopw [4, 5, 6] (fun _ s5 _ wr => ∃ k : Nat, k ≤ tl ∧ s5 = .int .i64 k ∧ Aside (Below w1.heap.size w1 wr ∧ ∀ j, j < k → q.d.rowR j ((ts.map Sv.l).getD j []) = true)) (fun _ i _ _ => tl - (intOf i).toNat)
    case atStart => exact ⟨0, by omega, rfl, Below.refl _ _, fun j hj => by omega⟩
    case round =>
      obtain ⟨k, hk, rfl, HH⟩ := hrel
      have WW := Lib.hid HH.out.1
      have HAL := Lib.hid HH.out.2
      have BW := Lib.hid (B0.out.trans (WW.out.mono B0.out.size))
      clear HH
      have hk0 : (0 : Int) ≤ (k : Int) := by omega
      by_cases hlt : k < tl
      · have hltz : (k : Int) < (tl : Int) := by omega
        obtain ⟨s, hs⟩ : ∃ s, ts[k]? = some s := ⟨ts[k]'(by rw [← HTL.out]; exact hlt), by simp⟩
        have hg : (ts.map Sv.l).getD k [] = s.l := by rw [List.getD, List.getElem?_map, hs]; rfl
        have hrw : q.d.rowR k s.l = (decide ((s.l.length : Int) = q.high - q.low + 1) && s.l.all (q.d.eltR k)) := rfl
        obtain ⟨b, off, hAe, hb, hc⟩ := HT.out.cell hs
        have hmem := List.mem_of_getElem? hs
        have HSI := Lib.hid (HT.out.i s hmem)
        have hsm := HT.out.m s hmem
        have HTW := Lib.hid (show Below w.heap.size w1 wr from WW.out.mono B0.out.size)
        have FC := Lib.hid (fun V (h : Below w.heap.size w1 V) => (show V.cell? ⟨b, off + k, none⟩ = some (.slice s.A s.l.length s.c) from (h.cell (p := ⟨b, off + k, none⟩) hb).trans hc))
        have HG := Lib.hid hg
        obtain ⟨M, hM⟩ : ∃ M, M = s.l.length := ⟨_, rfl⟩
        have hMz : (M : Int) ≤ 1000000 := by omega
        rw [← hM] at FC hrw
        have HRW := Lib.hid hrw
        have HM := Lib.hid hM
        subst hAe
        clear hs hg hrw hb hc hmem hsm hM
        have r23 := cell_regrown (FC.out _ HTW.out)
        have r26 := cell_regrown (show wr.cell? ⟨w.heap.size, 1, none⟩ = some (.int .i64 q.high) from (L0.out.call WW.out).at_ 1)
        have r28 := cell_regrown (show wr.cell? ⟨w.heap.size, 0, none⟩ = some (.int .i64 q.low) from (L0.out.call WW.out).at_ 0)
        by_cases hml : (M : Int) = q.high - q.low + 1
        · have hm1 : ((M : Int) == q.high - q.low + 1) = true := by simpa using hml
          have hm2 : ((M : Int) != q.high - q.low + 1) = false := by simpa using hml
          rw [decide_eq_true hml, Bool.true_and] at HRW
          clear hml
          go_upto_region 6 with (fail)
          refine wp_region_quiet_below (by kernel_rfl) (by kernel_rfl) ?_; (repeat (first | go_big_quiet_step ((fail)) | quiet_step ((fail)))); refine wpQuiet_nil ?_; intro wq hwq; have hbq : Below _ _ wq := (by obtain ⟨p, rfl⟩ := hwq; exact below_regrown _ _ _); clear hwq
          clear r23 r26 r28
          have WQ := Lib.hid (WW.out.trans (hbq.mono WW.out.size))
          clear hbq
          go_wp2
          go_loopw [4, 6] (fun _ s6 wv => ∃ m : Nat, m ≤ M ∧ s6 = .int .i64 m ∧ Aside (Below w1.heap.size w1 wv ∧ ∀ j x, j < m → s.l[j]? = some x → q.d.eltR k x = true)) (fun _ i _ => M - (intOf i).toNat)
          case atStart => exact ⟨0, by omega, rfl, WQ.out, fun j x hj => by omega⟩
          case round =>
            obtain ⟨m, hm, rfl, HH⟩ := hrel
            have WV := Lib.hid HH.out.1
            have HEL := Lib.hid HH.out.2
            have BV := Lib.hid (B0.out.trans (WV.out.mono B0.out.size))
            have HTV := Lib.hid (show Below w.heap.size w1 wr from WV.out.mono B0.out.size)
            clear HH
            have hm0 : (0 : Int) ≤ (m : Int) := by omega
            have c36 := FC.out _ HTV.out
            by_cases hmt : m < M
            · have hmz : (m : Int) < (M : Int) := by omega
              obtain ⟨x, hx⟩ : ∃ x, s.l[m]? = some x := ⟨s.l[m]'(by rw [← HM.out]; exact hmt), by simp⟩
              obtain ⟨ba, oa, hA2, hba, hca⟩ := HSI.out.cell1 hx
              rw [hA2] at c36
              have c47 : wr.cell? ⟨ba, oa + m, none⟩ = some (.int .i64 x) := (HTV.out.cell (p := ⟨ba, oa + m, none⟩) hba).trans hca
              have c53 : wr.cell? ⟨w.heap.size, 6, none⟩ = some (.slice q.ds.A N q.ds.c) := by rw [HN.out]; exact (L0.out.call WV.out).at_ 6
              have hel : q.d.eltR k x = (inB x (-1) 100000 && (decide (k ≠ N) || decide (x = 0))) := by unfold PoD.eltR; rw [HDN.out]
              have HX := Lib.hid hx
              obtain ⟨y, hy⟩ : ∃ y, y = inB x (-1) 100000 := ⟨_, rfl⟩
              have HI := Lib.hid (fun W => (show Calls Try.prog 25 #[.int .i64 x, .int .i64 (-1), .int .i64 100000] W fun e w' => e = .returned (.bool y) ∧ W = w' by rw [hy]; exact In_any x (-1) 100000 W))
              rw [← hy] at hel
              clear hx hy hba hca hA2
              cases y with
              | false =>
                rw [Bool.false_and] at hel
                have HE := Lib.hid hel
                clear hel
                go_wp2_with (go_at_call 25; refine (HI.out _).mono ?_; rintro e w' ⟨rfl, rfl⟩)
                go_ret
                exact ⟨ret_bool (show rr = false by rw [HR.out]; exact all_hit (zs := List.range tl) (p := fun j => q.d.rowR j ((ts.map Sv.l).getD j [])) (k := k) (x := k) (by rw [List.getElem?_range]; exact hlt) (by rw [HG.out, HRW.out]; exact all_hit HX.out HE.out)).symm, BV.out⟩
              | true =>
                rw [Bool.true_and] at hel
                by_cases hkN : k = N
                · subst hkN
                  have hk1 : ((k : Int) == (k : Int)) = true := by simp
                  by_cases hx0 : x = 0
                  · have hx1 : ((x : Int) == 0) = true := by simp [hx0]
                    have hx2 : ((x : Int) != 0) = false := by simp [hx0]
                    rw [decide_eq_true hx0, Bool.or_true] at hel
                    have HE := Lib.hid hel
                    clear hel
                    subst hx0
                    go_wp2_with (go_at_call 25; refine (HI.out _).mono ?_; rintro e w' ⟨rfl, rfl⟩)
                    go_roundw
                    case rel => exact ⟨m + 1, by omega, by go_num, WV.out, fun j z hj hz => by
                      by_cases e : j = m
                      · subst e; rw [HX.out] at hz; cases hz; exact HE.out
                      · exact HEL.out j z (by omega) hz⟩
                    case measure => simp [intOf]; omega
                  · have hx1 : ((x : Int) == 0) = false := by simpa using hx0
                    have hx2 : ((x : Int) != 0) = true := by simpa using hx0
                    rw [decide_eq_false hx0, decide_eq_false (by simp), Bool.or_false] at hel
                    have HE := Lib.hid hel
                    clear hel hx0
                    go_wp2_with (go_at_call 25; refine (HI.out _).mono ?_; rintro e w' ⟨rfl, rfl⟩)
                    go_ret
                    exact ⟨ret_bool (show rr = false by rw [HR.out]; exact all_hit (zs := List.range tl) (p := fun j => q.d.rowR j ((ts.map Sv.l).getD j [])) (k := k) (x := k) (by rw [List.getElem?_range]; exact hlt) (by rw [HG.out, HRW.out]; exact all_hit HX.out HE.out)).symm, BV.out⟩
                · have hk1 : ((k : Int) == (N : Int)) = false := by simp; omega
                  rw [decide_eq_true hkN, Bool.true_or] at hel
                  have HE := Lib.hid hel
                  clear hel
                  go_wp2_with (go_at_call 25; refine (HI.out _).mono ?_; rintro e w' ⟨rfl, rfl⟩)
                  go_roundw
                  case rel => exact ⟨m + 1, by omega, by go_num, WV.out, fun j z hj hz => by
                    by_cases e : j = m
                    · subst e; rw [HX.out] at hz; cases hz; exact HE.out
                    · exact HEL.out j z (by omega) hz⟩
                  case measure => simp [intOf]; omega
            · obtain rfl : m = M := by omega
              have hrow : q.d.rowR k s.l = true := by
                rw [HRW.out]
                exact all_miss (fun j x hj hx => HEL.out j x (by rw [HM.out]; exact hj) hx)
              have HROW := Lib.hid hrow
              clear hrow
              go_wp2
              go_roundw
              case rel => exact ⟨k + 1, by omega, by go_num, WV.out, fun j hj => by
                by_cases e : j = k
                · subst e; rw [HG.out]; exact HROW.out
                · exact HAL.out j (by omega)⟩
              case measure => simp [intOf]; omega
        · have hm1 : ((M : Int) == q.high - q.low + 1) = false := by simpa using hml
          have hm2 : ((M : Int) != q.high - q.low + 1) = true := by simpa using hml
          rw [decide_eq_false hml, Bool.false_and] at HRW
          clear hml
          go_upto_region 6 with (fail)
          refine wp_region_quiet_below (by kernel_rfl) (by kernel_rfl) ?_; (repeat (first | go_big_quiet_step ((fail)) | quiet_step ((fail)))); refine wpQuiet_nil ?_; intro wq hwq; have hbq : Below _ _ wq := (by obtain ⟨p, rfl⟩ := hwq; exact below_regrown _ _ _); clear hwq
          clear r23 r26 r28
          have BQ := Lib.hid (BW.out.trans (hbq.mono BW.out.size))
          clear hbq
          go_wp2
          go_ret
          exact ⟨ret_bool (by rw [HR.out]; exact (all_hit (zs := List.range tl) (p := fun j => q.d.rowR j ((ts.map Sv.l).getD j [])) (k := k) (x := k) (by rw [List.getElem?_range]; exact hlt) (by rw [HG.out]; exact HRW.out)).symm), BQ.out⟩
      · obtain rfl : k = tl := by omega
        go_wp2
        go_ret
        exact ⟨ret_bool (by rw [HR.out]; exact (List.all_eq_true.2 (fun j hj => HAL.out j (List.mem_range.1 hj))).symm), BW.out⟩
  · have hee : ((tl : Int) == (N : Int) + 1) = false := by simp; omega
    have hee2 : ((tl : Int) != (N : Int) + 1) = true := by simp; omega
    rw [decide_eq_false hlen, Bool.false_and] at HR
    go_enter Try.func38, Try.ntmps38
    go_upto_region 1 with (fail)
    change Code.wp _ _ _ _ (w.alloc (.cells q.cells.toArray 26))
    generalize w.alloc (.cells q.cells.toArray 26) = w1 at *
    go_wp2
    go_ret
    exact ⟨ret_bool HR.out.symm, B0.out⟩
end Go.Proofs.Yteognijlgalahaa

/- The reference's Keeps and Needs. -/
namespace Go.Proofs.Yteognijlgalahaa
open Go.RowKit Go.Lib
attribute [local go_sem] Oper.semAt_some

def PoD.someA (p : PoD) (nx : Int → Int) (d : Dy) (lv y : Int) (i : Nat) : Bool := decide (p.wor nx d (lv - (-p.inl + (i : Int))) ≠ -1) && decide (p.wor nx d (lv - (-p.inl + (i : Int))) + d.price (-p.inl + (i : Int)) ≤ y)
def PoD.noneA (p : PoD) (nx : Int → Int) (d : Dy) (lv y : Int) (i : Nat) : Bool := decide (p.wor nx d (lv - (-p.inl + (i : Int))) = -1) || (decide (y ≠ -1) && decide (y ≤ p.wor nx d (lv - (-p.inl + (i : Int))) + d.price (-p.inl + (i : Int))))
theorem any_snoc {f : Nat → Bool} (k : Nat) : (List.range (k + 1)).any f = ((List.range k).any f || f k) := by rw [List.range_succ, List.any_append]; simp
section
variable {p : PoD} (hok : p.Ok) {nx : Int → Int} (h : Cst nx) {d : Dy} (hd : d.Ok) {lv y : Int}
include hok h hd
theorem some_best : ((List.range p.amts).any (p.someA nx d lv y)) = decide ((p.bestD nx d lv).2 ≠ -1 ∧ (p.bestD nx d lv).2 ≤ y) := by
  rw [Bool.eq_iff_iff, List.any_eq_true, decide_eq_true_eq]
  constructor
  · rintro ⟨i, hi, hs⟩
    have hil := List.mem_range.1 hi
    unfold PoD.someA at hs
    rw [Bool.and_eq_true, decide_eq_true_eq, decide_eq_true_eq] at hs
    unfold PoD.amts at hil
    have hc : p.can1 nx d lv (-p.inl + (i : Int)) := hs.1
    have hle := PoD.best_le hok.p0 hok.i0 h hd (lv := lv) (a := -p.inl + (i : Int)) (by omega) (by omega) hc
    refine ⟨(PoD.best_can hok.p0 hok.i0 h hd).2 ⟨_, by omega, by omega, hc⟩, Int.le_trans hle ?_⟩
    exact hs.2
  · rintro ⟨h1, h2⟩
    obtain ⟨b1, b2, b3, b4, -⟩ := PoD.best_at hok.p0 hok.i0 h hd h1
    refine ⟨((p.bestD nx d lv).1 + p.inl).toNat, List.mem_range.2 (by unfold PoD.amts; omega), ?_⟩
    unfold PoD.someA
    rw [show -p.inl + (((((p.bestD nx d lv).1 + p.inl).toNat : Nat)) : Int) = (p.bestD nx d lv).1 by omega, Bool.and_eq_true, decide_eq_true_eq, decide_eq_true_eq]
    refine ⟨b3, ?_⟩
    have : (p.bestD nx d lv).2 = p.wor nx d (lv - (p.bestD nx d lv).1) + d.price (p.bestD nx d lv).1 := b4
    omega
theorem none_best : ((List.range p.amts).all (p.noneA nx d lv y)) = decide ((p.bestD nx d lv).2 = -1 ∨ (y ≠ -1 ∧ y ≤ (p.bestD nx d lv).2)) := by
  rw [Bool.eq_iff_iff, List.all_eq_true, decide_eq_true_eq]
  constructor
  · intro hs
    by_cases h1 : (p.bestD nx d lv).2 = -1
    · exact .inl h1
    · right
      obtain ⟨b1, b2, b3, b4, -⟩ := PoD.best_at hok.p0 hok.i0 h hd h1
      have h2 := hs ((p.bestD nx d lv).1 + p.inl).toNat (List.mem_range.2 (by unfold PoD.amts; omega))
      unfold PoD.noneA at h2
      rw [show -p.inl + (((((p.bestD nx d lv).1 + p.inl).toNat : Nat)) : Int) = (p.bestD nx d lv).1 by omega, Bool.or_eq_true, Bool.and_eq_true, decide_eq_true_eq, decide_eq_true_eq, decide_eq_true_eq] at h2
      rcases h2 with h2 | ⟨h2, h3⟩
      · exact absurd h2 b3
      · refine ⟨h2, ?_⟩
        have : (p.bestD nx d lv).2 = p.wor nx d (lv - (p.bestD nx d lv).1) + d.price (p.bestD nx d lv).1 := b4
        omega
  · intro hs i hi
    have hil := List.mem_range.1 hi
    unfold PoD.amts at hil
    unfold PoD.noneA
    rw [Bool.or_eq_true, Bool.and_eq_true, decide_eq_true_eq, decide_eq_true_eq, decide_eq_true_eq]
    by_cases hc : p.wor nx d (lv - (-p.inl + (i : Int))) = -1
    · exact .inl hc
    · right
      have hcan : p.can1 nx d lv (-p.inl + (i : Int)) := hc
      have hle := PoD.best_le hok.p0 hok.i0 h hd (lv := lv) (a := -p.inl + (i : Int)) (by omega) (by omega) hcan
      have hno := (PoD.best_can hok.p0 hok.i0 h hd).2 ⟨-p.inl + (i : Int), by omega, by omega, hcan⟩
      rcases hs with h1 | ⟨h1, h2⟩
      · exact absurd h1 hno
      · exact ⟨h1, Int.le_trans h2 hle⟩
end
set_option maxRecDepth 100000 in
set_option maxHeartbeats 16000000 in
theorem refKeeps_any (q : PoM) (A : Option Addr) (c : Nat) (ts : List (Sv Int)) (w : World) (hq : q.At w w.heap.size) (hA : TabM A ts w w.heap.size) (hok : q.d.Ok) (htab : q.d.tabB (ts.map Sv.l) = true) :
    Calls Try.prog 39 #[.agg q.cells.toArray, .slice A ts.length c] w fun e w' => e = .returned (.bool ((List.range q.d.ds.length).all (q.d.dayB q.d.keepsX (ts.map Sv.l)))) ∧ Below w.heap.size w w' := by
  have l0 : Lies (w.alloc (.cells q.cells.toArray 26)) w.heap.size 26 q.cells.toArray := Lies.fresh _ _ _
  have b0 : Below w.heap.size w (w.alloc (.cells q.cells.toArray 26)) := (by repeat (first | (with_reducible assumption) | (with_reducible exact Below.refl _ _) | (with_reducible refine Below.drew ?_) | (with_reducible refine below_drewN ?_ _) | ((with_reducible refine Below.setCell ?_ ?_ _); rotate_left; focus (first | (simp; done) | (simp; omega) | omega)) | ((with_reducible refine Below.alloc ?_ ?_ _); rotate_left; focus (first | (simp; done) | (simp; omega) | omega))))
  have hl0 : 0 ≤ q.low := hok.l0
  have hl1 : q.low ≤ q.high := hok.l1
  have hl2 : q.high ≤ 60 := hok.l2
  have hp0 : 0 ≤ q.pump := hok.p0
  have hp1 : q.pump ≤ 20 := hok.p1
  have hi0 : 0 ≤ q.inl := hok.i0
  have hi1 : q.inl ≤ 20 := hok.i1
  have hn12 : q.ds.l.length ≤ 12 := hok.n2
  obtain ⟨t1, t2, -⟩ := PoD.tabB_iff.1 htab
  rw [List.length_map] at t1
  obtain ⟨N, hN⟩ : ∃ N, N = q.ds.l.length := ⟨_, rfl⟩
  have hNz : (N : Int) ≤ 12 := by omega
  obtain ⟨tl, htl⟩ : ∃ tl, tl = ts.length := ⟨_, rfl⟩
  have htn : tl = N + 1 := by rw [htl, hN]; exact t1
  have htz : (tl : Int) = (N : Int) + 1 := by omega
  obtain ⟨M, hM⟩ : ∃ M, M = q.d.levels := ⟨_, rfl⟩
  have hMz : (M : Int) = q.high - q.low + 1 := by
    rw [hM]
    show (((q.high + 1 - q.low).toNat : Nat) : Int) = _
    omega
  obtain ⟨K, hK⟩ : ∃ K, K = q.d.amts := ⟨_, rfl⟩
  have hKz : (K : Int) = q.pump + 1 + q.inl := by
    rw [hK]
    show (((q.pump + 1 + q.inl).toNat : Nat) : Int) = _
    omega
  obtain ⟨Ts, hTs⟩ : ∃ Ts, Ts = ts.map Sv.l := ⟨_, rfl⟩
  have htok : Tok (q.d.tN Ts) := by rw [hTs]; exact PoD.tN_tok htab
  -- the rows of the table
  have hrow : ∀ k s, ts[k]? = some s → s.l.length = M ∧ q.d.look s.l = q.d.tN Ts k ∧ ∀ (m : Nat) (x : Int), s.l[m]? = some x → x = q.d.tN Ts k (q.low + (m : Int)) := fun k s hs => by
    have hl : Ts[k]? = some s.l := by rw [hTs, List.getElem?_map, hs]; rfl
    have hlen := (t2 s.l (by rw [← hTs]; exact List.mem_of_getElem? hl)).1
    have hlen' : (s.l.length : Int) = q.high - q.low + 1 := hlen
    refine ⟨by omega, ?_, fun m x hx => (PoD.tN_at (p := q.d) hl hx).symm⟩
    unfold PoD.tN
    rw [List.getD, hl]; rfl
  have hdayf : ∀ k d, q.ds.l[k]? = some d → q.d.dayB q.d.keepsX Ts k = (List.range M).all fun (i : Nat) => q.d.keepsX (q.d.tN Ts) k d (q.low + (i : Int)) := fun k d hd => by
    unfold PoD.dayB
    have e : q.d.ds.getD k ⟨0, 0, 0, 0, 0⟩ = d := by show q.ds.l.getD k _ = d; rw [List.getD, hd]; rfl
    rw [e, hM]; rfl
  have hxf : ∀ k d lv y, q.ds.l[k]? = some d → y = q.d.tN Ts k lv → q.d.keepsX (q.d.tN Ts) k d lv = if y = -1 then true else (List.range K).any (q.d.someA (q.d.tN Ts (k + 1)) d lv y) := fun k d lv y hd hy => by
    have hdk := hok.d d (List.mem_of_getElem? hd)
    rw [hy, hK]
    rw [some_best hok (fun z => (htok (k + 1) z).1) hdk]
    unfold PoD.keepsX
    by_cases e : q.d.tN Ts k lv = -1
    · rw [if_pos e, decide_eq_true (.inl e)]
    · rw [if_neg e, Bool.eq_iff_iff, decide_eq_true_eq, decide_eq_true_eq]
      exact ⟨fun h => h.resolve_left e, fun h => .inr h⟩
  obtain ⟨rr, hrr⟩ : ∃ rr, rr = (List.range q.d.ds.length).all (q.d.dayB q.d.keepsX Ts) := ⟨_, rfl⟩
  have hdn : q.d.ds.length = N := by rw [hN]; rfl
  have haf : ∀ k s d lv (a : Int) W, ts[k + 1]? = some s → q.ds.l[k]? = some d → Below w.heap.size w W → 0 ≤ lv → lv ≤ 60 → -20 ≤ a → a ≤ 20 → Calls Try.prog 53 #[.agg q.cells.toArray, .slice s.A M s.c, .int .i64 (k : Nat), .int .i64 lv, .int .i64 a] W fun e w' => e = .returned (.int .i64 (q.d.wor (q.d.tN Ts (k + 1)) d (lv - a))) ∧ Below W.heap.size W w' := fun k s d lv a W hs hd hb hv0 hv1 ha0 ha1 => by
    obtain ⟨r1, r2, -⟩ := hrow (k + 1) s hs
    have := After_any q s.A s.c s.l k d lv a W (hq.below hb hb.size) hd (hok.d d (List.mem_of_getElem? hd)) (((hA.i s (List.mem_of_getElem? hs)).below hb).more hb.size) (by rw [r1, hMz]) hl0 hl2 (by rw [r2]; exact fun z => (htok (k + 1) z).1) (by omega) (by omega) (by omega) (by omega)
    rw [r1, r2] at this
    exact this
  have HAF := Lib.hid haf
  have HXF := Lib.hid hxf
  have HDF := Lib.hid hdayf
  have HROW := Lib.hid hrow
  have HTOK := Lib.hid htok
  have HOK := Lib.hid hok
  have HRR := Lib.hid (show rr = (List.range N).all (q.d.dayB q.d.keepsX Ts) by rw [hrr, hdn])
  have HN := Lib.hid hN
  have HTN := Lib.hid htn
  have HTL := Lib.hid htl
  have HA := Lib.hid hA
  have HQ := Lib.hid hq
  have L0 := Lib.hid l0
  have B0 := Lib.hid b0
  rw [← hTs, ← hrr]
  obtain ⟨b, off, hAe⟩ : ∃ b off, A = some ⟨b, off, none⟩ := by
    obtain ⟨s, hs⟩ : ∃ s, ts[0]? = some s := ⟨ts[0]'(by omega), by simp⟩
    obtain ⟨b, off, e, -⟩ := hA.cell hs
    exact ⟨b, off, e⟩
  subst hAe
  have FC := Lib.hid (show ∀ k s, ts[k]? = some s → ∀ V, Below w.heap.size w V → V.cell? ⟨b, off + k, none⟩ = some (.slice s.A M s.c) from fun k s hs V hV => by
    obtain ⟨b', off', e, hb', hc⟩ := hA.cell hs
    cases e
    rw [← (hrow k s hs).1]
    exact (hV.cell (p := ⟨b, off + k, none⟩) hb').trans hc)
  rw [← htl]
  have HMZ := Lib.hid hMz
  have HTZ := Lib.hid htz
  have HKZ := Lib.hid hKz
  clear haf hxf hdayf hrow htok hok hrr hdn hN htn htl hA hq l0 b0 t1 t2 hTs htab hM hK hn12 hMz htz hKz
  go_enter Try.func39, Try.ntmps39
  go_upto_region 1 with (fail)
  change Code.wp _ _ _ _ (w.alloc (.cells q.cells.toArray 26))
  generalize w.alloc (.cells q.cells.toArray 26) = w1 at *
  go_wp2
  go_loopw [4, 5, 6, 7, 8, 9] (fun _ s5 _ _ _ _ wr => ∃ k : Nat, k ≤ N ∧ s5 = .int .i64 k ∧ Aside (Below w1.heap.size w1 wr ∧ ∀ j, j < k → q.d.dayB q.d.keepsX Ts j = true)) (fun _ i _ _ _ _ _ => N - (intOf i).toNat)
  case atStart => exact ⟨0, by omega, rfl, Below.refl _ _, fun j hj => by omega⟩
  case round =>
    obtain ⟨k, hk, rfl, HH⟩ := hrel
    have WW := Lib.hid HH.out.1
    have HAL := Lib.hid HH.out.2
    have BW := Lib.hid (B0.out.trans (WW.out.mono B0.out.size))
    clear HH
    have hk0 : (0 : Int) ≤ (k : Int) := by omega
    have c12 : wr.cell? ⟨w.heap.size, 6, none⟩ = some (.slice q.ds.A N q.ds.c) := by rw [HN.out]; exact (L0.out.call WW.out).at_ 6
    by_cases hlt : k < N
    · have hltz : (k : Int) < (N : Int) := by omega
      have hkt : (k : Int) < (tl : Int) := by have := HTZ.out; omega
      have hkt1 : (k : Int) + 1 < (tl : Int) := by have := HTZ.out; omega
      have hk1 : (0 : Int) ≤ (k : Int) + 1 := by omega
      have hwk : IntKind.i64.wrap ((k : Int) + 1) = (k : Int) + 1 := IntWalk.i64_in _ (by omega)
      have hdl : k < q.ds.l.length := by have := HN.out; omega
      obtain ⟨d, hd⟩ : ∃ d, q.ds.l[k]? = some d := ⟨q.ds.l[k]'hdl, by simp⟩
      obtain ⟨s, hs⟩ : ∃ s, ts[k]? = some s := ⟨ts[k]'(by have := HTN.out; have := HTL.out; omega), by simp⟩
      obtain ⟨s2, hs2⟩ : ∃ s, ts[k + 1]? = some s := ⟨ts[k + 1]'(by have := HTN.out; have := HTL.out; omega), by simp⟩
      obtain ⟨bd, od, hDA, hbd, hrg⟩ := HQ.out.s.cellD hd
      have FD := Lib.hid (fun V (h : Below w.heap.size w V) => (show V.rangeAt bd (od + k * 5) (encD d) from fun i v hv => (h.cell (p := ⟨bd, od + k * 5 + i, none⟩) hbd).trans (hrg i v hv)))
      have FS := Lib.hid (fun V (h : Below w1.heap.size w1 V) => (show V.cell? ⟨w.heap.size, 6, none⟩ = some (.slice (some ⟨bd, od, none⟩) N q.ds.c) by rw [← hDA, HN.out]; exact (L0.out.call h).at_ 6))
      have hdk := HOK.out.d d (List.mem_of_getElem? hd)
      have HDK := Lib.hid hdk
      have HAF2 := Lib.hid (fun lv a W => HAF.out k s2 d lv a W hs2 hd)
      have HXF2 := Lib.hid (fun lv y hy => HXF.out k d lv y hd hy)
      have HDF2 := Lib.hid (HDF.out k d hd)
      have F1 := Lib.hid (FC.out k s hs)
      have F2 := Lib.hid (FC.out (k + 1) s2 hs2)
      have HSL := Lib.hid (HA.out.i s (List.mem_of_getElem? hs))
      have HS := Lib.hid (HROW.out k s hs)
      have HNX := Lib.hid (show Cst (q.d.tN Ts (k + 1)) from fun z => (HTOK.out (k + 1) z).1)
      have HNL := Lib.hid (show ∀ z, q.d.tN Ts (k + 1) z ≤ 1000000 from fun z => (HTOK.out (k + 1) z).2)
      have HYG := Lib.hid (show ∀ z, -1 ≤ q.d.tN Ts k z ∧ q.d.tN Ts k z ≤ 1000000 from fun z => HTOK.out k z)
      obtain ⟨nx, hnx⟩ : ∃ nx, nx = q.d.tN Ts (k + 1) := ⟨_, rfl⟩
      rw [← hnx] at HAF2 HXF2 HNX HNL
      clear hd hs hs2 hDA hbd hrg hdk hnx
      go_wp2
      clear c12
      go_loopw [4, 6, 7, 8, 9] (fun _ s6 _ _ _ wq => ∃ i : Nat, i ≤ M ∧ s6 = .int .i64 i ∧ Aside (Below w1.heap.size w1 wq ∧ ∀ (j : Nat), j < i → q.d.keepsX (q.d.tN Ts) k d (q.low + (j : Int)) = true)) (fun _ i _ _ _ _ => M - (intOf i).toNat)
      case atStart => exact ⟨0, by omega, rfl, WW.out, fun j hj => by omega⟩
      case round =>
        obtain ⟨i, hi, rfl, HH⟩ := hrel
        have hMle : (M : Int) ≤ 61 := by have := HMZ.out; omega
        have WV := Lib.hid HH.out.1
        have HEL := Lib.hid HH.out.2
        have BV := Lib.hid (B0.out.trans (WV.out.mono B0.out.size))
        clear HH
        have hi0' : (0 : Int) ≤ (i : Int) := by omega
        have cT := F1.out _ BV.out
        by_cases him : i < M
        · have himz : (i : Int) < (M : Int) := by omega
          have hile : q.low + (i : Int) ≤ q.high := by have := HMZ.out; omega
          obtain ⟨y, hx⟩ : ∃ x, s.l[i]? = some x := ⟨s.l[i]'(by rw [HS.out.1]; exact him), by simp⟩
          have hy := HS.out.2.2 i y hx
          obtain ⟨ba, oa, hA2, hba, hca⟩ := HSL.out.cell1 hx
          have FY := Lib.hid (fun V (h : Below w.heap.size w V) => (show V.cell? ⟨ba, oa + i, none⟩ = some (.int .i64 y) from (h.cell (p := ⟨ba, oa + i, none⟩) hba).trans hca))
          have FT := Lib.hid (fun V (h : Below w.heap.size w V) => (show V.cell? ⟨b, off + k, none⟩ = some (.slice (some ⟨ba, oa, none⟩) M s.c) by rw [← hA2]; exact F1.out V h))
          have hyb := HYG.out (q.low + (i : Int))
          rw [← hy] at hyb
          obtain ⟨hy0, hy1⟩ := hyb
          have HXF3 := Lib.hid (HXF2.out (q.low + (i : Int)) y hy)
          rw [hA2] at cT
          have hwlv : IntKind.i64.wrap (q.low + (i : Int)) = q.low + (i : Int) := IntWalk.i64_in _ (by omega)
          have hwin : IntKind.i64.wrap (-q.inl) = -q.inl := IntWalk.i64_in _ (by omega)
          clear hx hy hba hca hA2
          by_cases hyn : y = -1
          · have hyl : y < 0 := by omega
            have hkx : q.d.keepsX (q.d.tN Ts) k d (q.low + (i : Int)) = true := by rw [HXF3.out, hyn]; rfl
            have HKX := Lib.hid hkx
            have cY := FY.out _ BV.out
            clear hkx
            go_wp2
            go_roundw
            case rel => exact ⟨i + 1, by omega, by go_num, WV.out, fun j hj => by
              by_cases e : j = i
              · subst e; exact HKX.out
              · exact HEL.out j (by omega)⟩
            case measure => simp [intOf]; omega
          · have hyl : ¬ y < 0 := by omega
            have hkx : q.d.keepsX (q.d.tN Ts) k d (q.low + (i : Int)) = (List.range K).any (q.d.someA nx d (q.low + (i : Int)) y) := by rw [HXF3.out, if_neg hyn]
            have HKX := Lib.hid hkx
            clear hkx hyn
            have c35 : wr.cell? ⟨w.heap.size, 5, none⟩ = some (.int .i64 q.inl) := (L0.out.call WV.out).at_ 5
            have cY := FY.out _ BV.out
            go_wp2
            clear c35 cT cY
            go_loopw [7, 8, 9] (fun s7 s8 _ wu => ∃ m : Nat, m ≤ K ∧ s7 = .bool ((List.range m).any (q.d.someA nx d (q.low + (i : Int)) y)) ∧ s8 = .int .i64 (-q.inl + (m : Int)) ∧ Aside (Below w1.heap.size w1 wu)) (fun _ j _ _ => (q.pump + 1 - intOf j).toNat)
            case atStart => exact ⟨0, by omega, rfl, by simp, WV.out⟩
            case round =>
              obtain ⟨m, hm, rfl, rfl, HH⟩ := hrel
              have WU := Lib.hid HH.out
              have BU := Lib.hid (B0.out.trans (WU.out.mono B0.out.size))
              clear HH
              have c39 : wr.cell? ⟨w.heap.size, 4, none⟩ = some (.int .i64 q.pump) := (L0.out.call WU.out).at_ 4
              obtain ⟨sm, hsm⟩ : ∃ sm, sm = (List.range m).any (q.d.someA nx d (q.low + (i : Int)) y) := ⟨_, rfl⟩
              rw [← hsm]
              have HSM := Lib.hid hsm
              clear hsm
              by_cases hmk : m < K
              · have hst := any_snoc (f := q.d.someA nx d (q.low + (i : Int)) y) m
                rw [← HSM.out] at hst
                have HST := Lib.hid hst
                clear hst
                have hle : -q.inl + (m : Int) ≤ q.pump := by have := HKZ.out; omega
                have ha20 : -20 ≤ -q.inl + (m : Int) := by omega
                obtain ⟨n, hn⟩ : ∃ n, n = q.d.wor nx d (q.low + (i : Int) - (-q.inl + (m : Int))) := ⟨_, rfl⟩
                have hng : -1 ≤ n := by rw [hn]; exact PoD.wor_ge HNX.out _
                have hnl : n ≤ 1000000 := by rw [hn]; exact worTo_le HNX.out HNL.out _ _ _
                have HAFC := Lib.hid (fun W (hb : Below wr.heap.size wr W) => (show Calls Try.prog 53 #[.agg q.cells.toArray, .slice s2.A M s2.c, .int .i64 k, .int .i64 (q.low + (i : Int)), .int .i64 (-q.inl + (m : Int))] W fun e w' => e = .returned (.int .i64 n) ∧ Below W.heap.size W w' by
                  rw [hn]
                  exact HAF2.out (q.low + (i : Int)) (-q.inl + (m : Int)) W (BU.out.trans (hb.mono BU.out.size)) (by omega) (by omega) (by omega) (by omega)))
                have r48 := cell_regrown (F2.out _ BU.out)
                have r51 := cell_regrown (show wr.cell? ⟨w.heap.size, 0, none⟩ = some (.int .i64 q.low) from (L0.out.call WU.out).at_ 0)
                have HRQ := Lib.hid (fun W (h : ∃ p : Regrown, W = Go.Sort.grow (redrawn wr p.d) p.os) => (show W.rangeAt w.heap.size 0 q.cells by
                  obtain ⟨p, rfl⟩ := h
                  exact Lies.range (cs := q.cells) ((L0.out.call WU.out).call (below_regrown _ _ _)) (fun j v hj => by simpa using hj)))
                have HNN := Lib.hid hn
                clear hn
                go_upto_region 12 with (fail)
                refine wp_region_quiet_below (by kernel_rfl) (by kernel_rfl) ?_
                repeat (first
                  | (refine wpQuiet_load_wholeG (o := ⟨some 43, _, _, _, _, _⟩) ?_ 26 (.tmp 2) ?_ w.heap.size 0 ?_ q.cells _ HRQ.out Try.underlying26 rfl size_rp ?_; rfl; rfl; rfl; simp only [Act.put, List.setIfInBounds_toArray, List.set_cons_zero, List.set_cons_succ])
                  | go_big_quiet_step (first | (go_at_call 53; exact Calls.regrown_of (HAFC.out _ (below_regrown _ _ _)))) | quiet_step (first | (go_at_call 53; exact Calls.regrown_of (HAFC.out _ (below_regrown _ _ _)))))
                refine wpQuiet_nil ?_
                intro wz hwz
                have hbz : Below _ _ wz := (by obtain ⟨p, rfl⟩ := hwz; exact below_regrown _ _ _)
                clear hwz r48 r51 HRQ
                have WZ := Lib.hid (WU.out.trans (hbz.mono WU.out.size))
                have BZ := Lib.hid (BU.out.trans (hbz.mono BU.out.size))
                clear hbz HAFC
                clear c39
                have hf : q.d.someA nx d (q.low + (i : Int)) y m = (decide (n ≠ -1) && decide (n + d.price (-q.inl + (m : Int)) ≤ y)) := by rw [HNN.out]; rfl
                cases sm with
                | true =>
                  have HE := Lib.hid (show (List.range (m + 1)).any (q.d.someA nx d (q.low + (i : Int)) y) = true by rw [HST.out, Bool.true_or])
                  have HPR := Lib.hid (fun W => refPrice_any d (-q.inl + (m : Int)) W HDK.out (by omega) (by omega))
                  clear hf
                  have rT := cell_regrown (FT.out _ BZ.out)
                  have rY := cell_regrown (FY.out _ BZ.out)
                  have rD := cell_regrown (FS.out _ WZ.out)
                  have HRD := Lib.hid (fun W (h : ∃ p : Regrown, W = Go.Sort.grow (redrawn wz p.d) p.os) => (show W.rangeAt bd (od + k * 5) (encD d) by
                    obtain ⟨p, rfl⟩ := h
                    exact FD.out _ (BZ.out.trans ((below_regrown _ _ _).mono BZ.out.size))))
                  go_upto_region 13 with (fail)
                  refine wp_region_quiet_below (by kernel_rfl) (by kernel_rfl) ?_
                  repeat (first
                    | go_big_quiet_skip
                    | (refine wpQuiet_load_wholeG (o := ⟨some 66, _, _, _, _, _⟩) ?_ 76 (.tmp 65) ?_ bd (od + k * 5) ?_ (encD d) _ HRD.out Try.underlying76 rfl size_rd ?_; kernel_rfl; rfl; rfl; simp only [Act.put, List.setIfInBounds_toArray, List.set_cons_zero, List.set_cons_succ])
                    | go_big_quiet_step (first | (go_at_call 44; exact Calls.regrown_of (HPR.out _))) | quiet_step (first | (go_at_call 44; exact Calls.regrown_of (HPR.out _))))
                  refine wpQuiet_nil ?_
                  intro wy hwy
                  have hby : Below _ _ wy := (by obtain ⟨p, rfl⟩ := hwy; exact below_regrown _ _ _)
                  clear hwy rT rY rD HRD
                  have WY := Lib.hid (WZ.out.trans (hby.mono WZ.out.size))
                  have BY := Lib.hid (BZ.out.trans (hby.mono BZ.out.size))
                  clear hby
                  go_wp2
                  go_roundw
                  case rel => exact ⟨m + 1, by omega, by rw [HE.out], by go_num, WY.out⟩
                  case measure => simp [intOf]; omega
                | false =>
                  by_cases hnn : n = -1
                  · have HE := Lib.hid (show (List.range (m + 1)).any (q.d.someA nx d (q.low + (i : Int)) y) = false by rw [HST.out, Bool.false_or, hf, decide_eq_false (by simpa using hnn)]; rfl)
                    have HPR := Lib.hid (fun W => refPrice_any d (-q.inl + (m : Int)) W HDK.out (by omega) (by omega))
                    have hn0 : ¬ 0 ≤ n := by omega
                    clear hf hnn
                    have rT := cell_regrown (FT.out _ BZ.out)
                    have rY := cell_regrown (FY.out _ BZ.out)
                    have rD := cell_regrown (FS.out _ WZ.out)
                    have HRD := Lib.hid (fun W (h : ∃ p : Regrown, W = Go.Sort.grow (redrawn wz p.d) p.os) => (show W.rangeAt bd (od + k * 5) (encD d) by
                      obtain ⟨p, rfl⟩ := h
                      exact FD.out _ (BZ.out.trans ((below_regrown _ _ _).mono BZ.out.size))))
                    go_upto_region 13 with (fail)
                    refine wp_region_quiet_below (by kernel_rfl) (by kernel_rfl) ?_
                    repeat (first
                      | go_big_quiet_skip
                      | (refine wpQuiet_load_wholeG (o := ⟨some 66, _, _, _, _, _⟩) ?_ 76 (.tmp 65) ?_ bd (od + k * 5) ?_ (encD d) _ HRD.out Try.underlying76 rfl size_rd ?_; kernel_rfl; rfl; rfl; simp only [Act.put, List.setIfInBounds_toArray, List.set_cons_zero, List.set_cons_succ])
                      | go_big_quiet_step (first | (go_at_call 44; exact Calls.regrown_of (HPR.out _))) | quiet_step (first | (go_at_call 44; exact Calls.regrown_of (HPR.out _))))
                    refine wpQuiet_nil ?_
                    intro wy hwy
                    have hby : Below _ _ wy := (by obtain ⟨p, rfl⟩ := hwy; exact below_regrown _ _ _)
                    clear hwy rT rY rD HRD
                    have WY := Lib.hid (WZ.out.trans (hby.mono WZ.out.size))
                    have BY := Lib.hid (BZ.out.trans (hby.mono BZ.out.size))
                    clear hby
                    go_wp2
                    go_roundw
                    case rel => exact ⟨m + 1, by omega, by rw [HE.out], by go_num, WY.out⟩
                    case measure => simp [intOf]; omega
                  · have hn0 : 0 ≤ n := by omega
                    have hpr0 := d.price_nonneg HDK.out (-q.inl + (m : Int))
                    have hpr1 := Dy.price_le HDK.out (a := -q.inl + (m : Int)) (by omega) (by omega)
                    have HPR := Lib.hid (fun W => refPrice_any d (-q.inl + (m : Int)) W HDK.out (by omega) (by omega))
                    obtain ⟨pr, hpr⟩ : ∃ pr, pr = d.price (-q.inl + (m : Int)) := ⟨_, rfl⟩
                    rw [← hpr] at hpr0 hpr1 HPR
                    have HPP := Lib.hid hpr
                    have hwc : IntKind.i64.wrap (n + pr) = n + pr := IntWalk.i64_in _ (by omega)
                    clear hpr
                    rw [← HPP.out, decide_eq_true hnn, Bool.true_and] at hf
                    by_cases hcc : n + pr ≤ y
                    · have HE := Lib.hid (show (List.range (m + 1)).any (q.d.someA nx d (q.low + (i : Int)) y) = true by rw [HST.out, Bool.false_or, hf, decide_eq_true hcc])
                      clear hf hnn
                      have rT := cell_regrown (FT.out _ BZ.out)
                      have rY := cell_regrown (FY.out _ BZ.out)
                      have rD := cell_regrown (FS.out _ WZ.out)
                      have HRD := Lib.hid (fun W (h : ∃ p : Regrown, W = Go.Sort.grow (redrawn wz p.d) p.os) => (show W.rangeAt bd (od + k * 5) (encD d) by
                        obtain ⟨p, rfl⟩ := h
                        exact FD.out _ (BZ.out.trans ((below_regrown _ _ _).mono BZ.out.size))))
                      go_upto_region 13 with (fail)
                      refine wp_region_quiet_below (by kernel_rfl) (by kernel_rfl) ?_
                      repeat (first
                        | go_big_quiet_skip
                        | (refine wpQuiet_load_wholeG (o := ⟨some 66, _, _, _, _, _⟩) ?_ 76 (.tmp 65) ?_ bd (od + k * 5) ?_ (encD d) _ HRD.out Try.underlying76 rfl size_rd ?_; kernel_rfl; rfl; rfl; simp only [Act.put, List.setIfInBounds_toArray, List.set_cons_zero, List.set_cons_succ])
                        | go_big_quiet_step (first | (go_at_call 44; exact Calls.regrown_of (HPR.out _))) | quiet_step (first | (go_at_call 44; exact Calls.regrown_of (HPR.out _))))
                      refine wpQuiet_nil ?_
                      intro wy hwy
                      have hby : Below _ _ wy := (by obtain ⟨p, rfl⟩ := hwy; exact below_regrown _ _ _)
                      clear hwy rT rY rD HRD
                      have WY := Lib.hid (WZ.out.trans (hby.mono WZ.out.size))
                      have BY := Lib.hid (BZ.out.trans (hby.mono BZ.out.size))
                      clear hby
                      go_wp2
                      go_roundw
                      case rel => exact ⟨m + 1, by omega, by rw [HE.out], by go_num, WY.out⟩
                      case measure => simp [intOf]; omega
                    · have HE := Lib.hid (show (List.range (m + 1)).any (q.d.someA nx d (q.low + (i : Int)) y) = false by rw [HST.out, Bool.false_or, hf, decide_eq_false hcc])
                      clear hf hnn
                      have rT := cell_regrown (FT.out _ BZ.out)
                      have rY := cell_regrown (FY.out _ BZ.out)
                      have rD := cell_regrown (FS.out _ WZ.out)
                      have HRD := Lib.hid (fun W (h : ∃ p : Regrown, W = Go.Sort.grow (redrawn wz p.d) p.os) => (show W.rangeAt bd (od + k * 5) (encD d) by
                        obtain ⟨p, rfl⟩ := h
                        exact FD.out _ (BZ.out.trans ((below_regrown _ _ _).mono BZ.out.size))))
                      go_upto_region 13 with (fail)
                      refine wp_region_quiet_below (by kernel_rfl) (by kernel_rfl) ?_
                      repeat (first
                        | go_big_quiet_skip
                        | (refine wpQuiet_load_wholeG (o := ⟨some 66, _, _, _, _, _⟩) ?_ 76 (.tmp 65) ?_ bd (od + k * 5) ?_ (encD d) _ HRD.out Try.underlying76 rfl size_rd ?_; kernel_rfl; rfl; rfl; simp only [Act.put, List.setIfInBounds_toArray, List.set_cons_zero, List.set_cons_succ])
                        | go_big_quiet_step (first | (go_at_call 44; exact Calls.regrown_of (HPR.out _))) | quiet_step (first | (go_at_call 44; exact Calls.regrown_of (HPR.out _))))
                      refine wpQuiet_nil ?_
                      intro wy hwy
                      have hby : Below _ _ wy := (by obtain ⟨p, rfl⟩ := hwy; exact below_regrown _ _ _)
                      clear hwy rT rY rD HRD
                      have WY := Lib.hid (WZ.out.trans (hby.mono WZ.out.size))
                      have BY := Lib.hid (BZ.out.trans (hby.mono BZ.out.size))
                      clear hby
                      go_wp2
                      go_roundw
                      case rel => exact ⟨m + 1, by omega, by rw [HE.out], by go_num, WY.out⟩
                      case measure => simp [intOf]; omega
              · have hgt : ¬ -q.inl + (m : Int) ≤ q.pump := by have := HKZ.out; omega
                obtain rfl : m = K := by omega
                have hkx : q.d.keepsX (q.d.tN Ts) k d (q.low + (i : Int)) = sm := by rw [HKX.out, HSM.out]
                cases sm with
                | true =>
                  have HKY := Lib.hid hkx
                  clear hkx
                  go_wp2
                  go_roundw
                  case rel => exact ⟨i + 1, by omega, by go_num, WU.out, fun j hj => by
                    by_cases e : j = i
                    · subst e; exact HKY.out
                    · exact HEL.out j (by omega)⟩
                  case measure => simp [intOf]; omega
                | false =>
                  have HFALSE := Lib.hid hkx
                  clear hkx
                  go_wp2
                  go_ret
                  exact ⟨ret_bool (show rr = false by rw [HRR.out]; exact all_hit (zs := List.range N) (p := q.d.dayB q.d.keepsX Ts) (k := k) (x := k) (by rw [List.getElem?_range]; exact hlt) (by rw [HDF2.out]; exact all_hit (zs := List.range M) (p := fun (i : Nat) => q.d.keepsX (q.d.tN Ts) k d (q.low + (i : Int))) (k := i) (x := i) (by rw [List.getElem?_range]; exact him) HFALSE.out)).symm, BU.out⟩
        · obtain rfl : i = M := by omega
          have hday : q.d.dayB q.d.keepsX Ts k = true := by
            rw [HDF2.out, List.all_eq_true]
            intro j hj
            exact HEL.out j (List.mem_range.1 hj)
          have HDAY := Lib.hid hday
          clear hday
          go_wp2
          go_roundw
          case rel => exact ⟨k + 1, by omega, by go_num, WV.out, fun j hj => by
            by_cases e : j = k
            · subst e; exact HDAY.out
            · exact HAL.out j (by omega)⟩
          case measure => simp [intOf]; omega
    · obtain rfl : k = N := by omega
      go_wp2
      go_ret
      exact ⟨ret_bool (show rr = true by rw [HRR.out, List.all_eq_true]; exact fun j hj => HAL.out j (List.mem_range.1 hj)).symm, BW.out⟩
set_option maxRecDepth 100000 in
set_option maxHeartbeats 16000000 in
theorem refNeeds_any (q : PoM) (A : Option Addr) (c : Nat) (ts : List (Sv Int)) (w : World) (hq : q.At w w.heap.size) (hA : TabM A ts w w.heap.size) (hok : q.d.Ok) (htab : q.d.tabB (ts.map Sv.l) = true) :
    Calls Try.prog 40 #[.agg q.cells.toArray, .slice A ts.length c] w fun e w' => e = .returned (.bool ((List.range q.d.ds.length).all (q.d.dayB q.d.needsX (ts.map Sv.l)))) ∧ Below w.heap.size w w' := by
  have l0 : Lies (w.alloc (.cells q.cells.toArray 26)) w.heap.size 26 q.cells.toArray := Lies.fresh _ _ _
  have b0 : Below w.heap.size w (w.alloc (.cells q.cells.toArray 26)) := (by repeat (first | (with_reducible assumption) | (with_reducible exact Below.refl _ _) | (with_reducible refine Below.drew ?_) | (with_reducible refine below_drewN ?_ _) | ((with_reducible refine Below.setCell ?_ ?_ _); rotate_left; focus (first | (simp; done) | (simp; omega) | omega)) | ((with_reducible refine Below.alloc ?_ ?_ _); rotate_left; focus (first | (simp; done) | (simp; omega) | omega))))
  have hl0 : 0 ≤ q.low := hok.l0
  have hl1 : q.low ≤ q.high := hok.l1
  have hl2 : q.high ≤ 60 := hok.l2
  have hp0 : 0 ≤ q.pump := hok.p0
  have hp1 : q.pump ≤ 20 := hok.p1
  have hi0 : 0 ≤ q.inl := hok.i0
  have hi1 : q.inl ≤ 20 := hok.i1
  have hn12 : q.ds.l.length ≤ 12 := hok.n2
  obtain ⟨t1, t2, -⟩ := PoD.tabB_iff.1 htab
  rw [List.length_map] at t1
  obtain ⟨N, hN⟩ : ∃ N, N = q.ds.l.length := ⟨_, rfl⟩
  have hNz : (N : Int) ≤ 12 := by omega
  obtain ⟨tl, htl⟩ : ∃ tl, tl = ts.length := ⟨_, rfl⟩
  have htn : tl = N + 1 := by rw [htl, hN]; exact t1
  have htz : (tl : Int) = (N : Int) + 1 := by omega
  obtain ⟨M, hM⟩ : ∃ M, M = q.d.levels := ⟨_, rfl⟩
  have hMz : (M : Int) = q.high - q.low + 1 := by
    rw [hM]
    show (((q.high + 1 - q.low).toNat : Nat) : Int) = _
    omega
  obtain ⟨K, hK⟩ : ∃ K, K = q.d.amts := ⟨_, rfl⟩
  have hKz : (K : Int) = q.pump + 1 + q.inl := by
    rw [hK]
    show (((q.pump + 1 + q.inl).toNat : Nat) : Int) = _
    omega
  obtain ⟨Ts, hTs⟩ : ∃ Ts, Ts = ts.map Sv.l := ⟨_, rfl⟩
  have htok : Tok (q.d.tN Ts) := by rw [hTs]; exact PoD.tN_tok htab
  -- the rows of the table
  have hrow : ∀ k s, ts[k]? = some s → s.l.length = M ∧ q.d.look s.l = q.d.tN Ts k ∧ ∀ (m : Nat) (x : Int), s.l[m]? = some x → x = q.d.tN Ts k (q.low + (m : Int)) := fun k s hs => by
    have hl : Ts[k]? = some s.l := by rw [hTs, List.getElem?_map, hs]; rfl
    have hlen := (t2 s.l (by rw [← hTs]; exact List.mem_of_getElem? hl)).1
    have hlen' : (s.l.length : Int) = q.high - q.low + 1 := hlen
    refine ⟨by omega, ?_, fun m x hx => (PoD.tN_at (p := q.d) hl hx).symm⟩
    unfold PoD.tN
    rw [List.getD, hl]; rfl
  have hdayf : ∀ k d, q.ds.l[k]? = some d → q.d.dayB q.d.needsX Ts k = (List.range M).all fun (i : Nat) => q.d.needsX (q.d.tN Ts) k d (q.low + (i : Int)) := fun k d hd => by
    unfold PoD.dayB
    have e : q.d.ds.getD k ⟨0, 0, 0, 0, 0⟩ = d := by show q.ds.l.getD k _ = d; rw [List.getD, hd]; rfl
    rw [e, hM]; rfl
  have hxf : ∀ k d lv y, q.ds.l[k]? = some d → y = q.d.tN Ts k lv → q.d.needsX (q.d.tN Ts) k d lv = (List.range K).all (q.d.noneA (q.d.tN Ts (k + 1)) d lv y) := fun k d lv y hd hy => by
    have hdk := hok.d d (List.mem_of_getElem? hd)
    rw [hy, hK]
    rw [none_best hok (fun z => (htok (k + 1) z).1) hdk]; rfl
  obtain ⟨rr, hrr⟩ : ∃ rr, rr = (List.range q.d.ds.length).all (q.d.dayB q.d.needsX Ts) := ⟨_, rfl⟩
  have hdn : q.d.ds.length = N := by rw [hN]; rfl
  have haf : ∀ k s d lv (a : Int) W, ts[k + 1]? = some s → q.ds.l[k]? = some d → Below w.heap.size w W → 0 ≤ lv → lv ≤ 60 → -20 ≤ a → a ≤ 20 → Calls Try.prog 53 #[.agg q.cells.toArray, .slice s.A M s.c, .int .i64 (k : Nat), .int .i64 lv, .int .i64 a] W fun e w' => e = .returned (.int .i64 (q.d.wor (q.d.tN Ts (k + 1)) d (lv - a))) ∧ Below W.heap.size W w' := fun k s d lv a W hs hd hb hv0 hv1 ha0 ha1 => by
    obtain ⟨r1, r2, -⟩ := hrow (k + 1) s hs
    have := After_any q s.A s.c s.l k d lv a W (hq.below hb hb.size) hd (hok.d d (List.mem_of_getElem? hd)) (((hA.i s (List.mem_of_getElem? hs)).below hb).more hb.size) (by rw [r1, hMz]) hl0 hl2 (by rw [r2]; exact fun z => (htok (k + 1) z).1) (by omega) (by omega) (by omega) (by omega)
    rw [r1, r2] at this
    exact this
  have HAF := Lib.hid haf
  have HXF := Lib.hid hxf
  have HDF := Lib.hid hdayf
  have HROW := Lib.hid hrow
  have HTOK := Lib.hid htok
  have HOK := Lib.hid hok
  have HRR := Lib.hid (show rr = (List.range N).all (q.d.dayB q.d.needsX Ts) by rw [hrr, hdn])
  have HN := Lib.hid hN
  have HTN := Lib.hid htn
  have HTL := Lib.hid htl
  have HA := Lib.hid hA
  have HQ := Lib.hid hq
  have L0 := Lib.hid l0
  have B0 := Lib.hid b0
  rw [← hTs, ← hrr]
  obtain ⟨b, off, hAe⟩ : ∃ b off, A = some ⟨b, off, none⟩ := by
    obtain ⟨s, hs⟩ : ∃ s, ts[0]? = some s := ⟨ts[0]'(by omega), by simp⟩
    obtain ⟨b, off, e, -⟩ := hA.cell hs
    exact ⟨b, off, e⟩
  subst hAe
  have FC := Lib.hid (show ∀ k s, ts[k]? = some s → ∀ V, Below w.heap.size w V → V.cell? ⟨b, off + k, none⟩ = some (.slice s.A M s.c) from fun k s hs V hV => by
    obtain ⟨b', off', e, hb', hc⟩ := hA.cell hs
    cases e
    rw [← (hrow k s hs).1]
    exact (hV.cell (p := ⟨b, off + k, none⟩) hb').trans hc)
  rw [← htl]
  have HMZ := Lib.hid hMz
  have HTZ := Lib.hid htz
  have HKZ := Lib.hid hKz
  clear haf hxf hdayf hrow htok hok hrr hdn hN htn htl hA hq l0 b0 t1 t2 hTs htab hM hK hn12 hMz htz hKz
  go_enter Try.func40, Try.ntmps40
  go_upto_region 1 with (fail)
  change Code.wp _ _ _ _ (w.alloc (.cells q.cells.toArray 26))
  generalize w.alloc (.cells q.cells.toArray 26) = w1 at *
  go_wp2
  go_loopw [4, 5, 6, 7, 8] (fun _ s5 _ _ _ wr => ∃ k : Nat, k ≤ N ∧ s5 = .int .i64 k ∧ Aside (Below w1.heap.size w1 wr ∧ ∀ j, j < k → q.d.dayB q.d.needsX Ts j = true)) (fun _ i _ _ _ _ => N - (intOf i).toNat)
  case atStart => exact ⟨0, by omega, rfl, Below.refl _ _, fun j hj => by omega⟩
  case round =>
    obtain ⟨k, hk, rfl, HH⟩ := hrel
    have WW := Lib.hid HH.out.1
    have HAL := Lib.hid HH.out.2
    have BW := Lib.hid (B0.out.trans (WW.out.mono B0.out.size))
    clear HH
    have hk0 : (0 : Int) ≤ (k : Int) := by omega
    have c12 : wr.cell? ⟨w.heap.size, 6, none⟩ = some (.slice q.ds.A N q.ds.c) := by rw [HN.out]; exact (L0.out.call WW.out).at_ 6
    by_cases hlt : k < N
    · have hltz : (k : Int) < (N : Int) := by omega
      have hkt : (k : Int) < (tl : Int) := by have := HTZ.out; omega
      have hkt1 : (k : Int) + 1 < (tl : Int) := by have := HTZ.out; omega
      have hk1 : (0 : Int) ≤ (k : Int) + 1 := by omega
      have hwk : IntKind.i64.wrap ((k : Int) + 1) = (k : Int) + 1 := IntWalk.i64_in _ (by omega)
      have hdl : k < q.ds.l.length := by have := HN.out; omega
      obtain ⟨d, hd⟩ : ∃ d, q.ds.l[k]? = some d := ⟨q.ds.l[k]'hdl, by simp⟩
      obtain ⟨s, hs⟩ : ∃ s, ts[k]? = some s := ⟨ts[k]'(by have := HTN.out; have := HTL.out; omega), by simp⟩
      obtain ⟨s2, hs2⟩ : ∃ s, ts[k + 1]? = some s := ⟨ts[k + 1]'(by have := HTN.out; have := HTL.out; omega), by simp⟩
      obtain ⟨bd, od, hDA, hbd, hrg⟩ := HQ.out.s.cellD hd
      have FD := Lib.hid (fun V (h : Below w.heap.size w V) => (show V.rangeAt bd (od + k * 5) (encD d) from fun i v hv => (h.cell (p := ⟨bd, od + k * 5 + i, none⟩) hbd).trans (hrg i v hv)))
      have FS := Lib.hid (fun V (h : Below w1.heap.size w1 V) => (show V.cell? ⟨w.heap.size, 6, none⟩ = some (.slice (some ⟨bd, od, none⟩) N q.ds.c) by rw [← hDA, HN.out]; exact (L0.out.call h).at_ 6))
      have hdk := HOK.out.d d (List.mem_of_getElem? hd)
      have HDK := Lib.hid hdk
      have HAF2 := Lib.hid (fun lv a W => HAF.out k s2 d lv a W hs2 hd)
      have HXF2 := Lib.hid (fun lv y hy => HXF.out k d lv y hd hy)
      have HDF2 := Lib.hid (HDF.out k d hd)
      have F1 := Lib.hid (FC.out k s hs)
      have F2 := Lib.hid (FC.out (k + 1) s2 hs2)
      have HSL := Lib.hid (HA.out.i s (List.mem_of_getElem? hs))
      have HS := Lib.hid (HROW.out k s hs)
      have HNX := Lib.hid (show Cst (q.d.tN Ts (k + 1)) from fun z => (HTOK.out (k + 1) z).1)
      have HNL := Lib.hid (show ∀ z, q.d.tN Ts (k + 1) z ≤ 1000000 from fun z => (HTOK.out (k + 1) z).2)
      have HYG := Lib.hid (show ∀ z, -1 ≤ q.d.tN Ts k z ∧ q.d.tN Ts k z ≤ 1000000 from fun z => HTOK.out k z)
      obtain ⟨nx, hnx⟩ : ∃ nx, nx = q.d.tN Ts (k + 1) := ⟨_, rfl⟩
      rw [← hnx] at HAF2 HXF2 HNX HNL
      clear hd hs hs2 hDA hbd hrg hdk hnx
      go_wp2
      clear c12
      go_loopw [4, 6, 7, 8] (fun _ s6 _ _ wq => ∃ i : Nat, i ≤ M ∧ s6 = .int .i64 i ∧ Aside (Below w1.heap.size w1 wq ∧ ∀ (j : Nat), j < i → q.d.needsX (q.d.tN Ts) k d (q.low + (j : Int)) = true)) (fun _ i _ _ _ => M - (intOf i).toNat)
      case atStart => exact ⟨0, by omega, rfl, WW.out, fun j hj => by omega⟩
      case round =>
        obtain ⟨i, hi, rfl, HH⟩ := hrel
        have hMle : (M : Int) ≤ 61 := by have := HMZ.out; omega
        have WV := Lib.hid HH.out.1
        have HEL := Lib.hid HH.out.2
        have BV := Lib.hid (B0.out.trans (WV.out.mono B0.out.size))
        clear HH
        have hi0' : (0 : Int) ≤ (i : Int) := by omega
        have cT := F1.out _ BV.out
        by_cases him : i < M
        · have himz : (i : Int) < (M : Int) := by omega
          have hile : q.low + (i : Int) ≤ q.high := by have := HMZ.out; omega
          obtain ⟨y, hx⟩ : ∃ x, s.l[i]? = some x := ⟨s.l[i]'(by rw [HS.out.1]; exact him), by simp⟩
          have hy := HS.out.2.2 i y hx
          obtain ⟨ba, oa, hA2, hba, hca⟩ := HSL.out.cell1 hx
          have FY := Lib.hid (fun V (h : Below w.heap.size w V) => (show V.cell? ⟨ba, oa + i, none⟩ = some (.int .i64 y) from (h.cell (p := ⟨ba, oa + i, none⟩) hba).trans hca))
          have FT := Lib.hid (fun V (h : Below w.heap.size w V) => (show V.cell? ⟨b, off + k, none⟩ = some (.slice (some ⟨ba, oa, none⟩) M s.c) by rw [← hA2]; exact F1.out V h))
          have hyb := HYG.out (q.low + (i : Int))
          rw [← hy] at hyb
          obtain ⟨hy0, hy1⟩ := hyb
          have HXF3 := Lib.hid (HXF2.out (q.low + (i : Int)) y hy)
          rw [hA2] at cT
          have hwlv : IntKind.i64.wrap (q.low + (i : Int)) = q.low + (i : Int) := IntWalk.i64_in _ (by omega)
          have hwin : IntKind.i64.wrap (-q.inl) = -q.inl := IntWalk.i64_in _ (by omega)
          clear hx hy hba hca hA2
          have hkx : q.d.needsX (q.d.tN Ts) k d (q.low + (i : Int)) = (List.range K).all (q.d.noneA nx d (q.low + (i : Int)) y) := HXF3.out
          have HKX := Lib.hid hkx
          clear hkx
          have c26 : wr.cell? ⟨w.heap.size, 5, none⟩ = some (.int .i64 q.inl) := (L0.out.call WV.out).at_ 5
          go_wp2
          clear c26 cT
          go_loopw [4, 7, 8] (fun _ s7 _ wu => ∃ m : Nat, m ≤ K ∧ s7 = .int .i64 (-q.inl + (m : Int)) ∧ Aside (Below w1.heap.size w1 wu ∧ ∀ j, j < m → q.d.noneA nx d (q.low + (i : Int)) y j = true)) (fun _ j _ _ => (q.pump + 1 - intOf j).toNat)
          case atStart => exact ⟨0, by omega, by simp, WV.out, fun j hj => by omega⟩
          case round =>
            obtain ⟨m, hm, rfl, HH⟩ := hrel
            have WU := Lib.hid HH.out.1
            have HAN := Lib.hid HH.out.2
            have BU := Lib.hid (B0.out.trans (WU.out.mono B0.out.size))
            clear HH
            have c30 : wr.cell? ⟨w.heap.size, 4, none⟩ = some (.int .i64 q.pump) := (L0.out.call WU.out).at_ 4
            by_cases hmk : m < K
            · have hmkz := hmk
              have hle : -q.inl + (m : Int) ≤ q.pump := by have := HKZ.out; omega
              have ha20 : -20 ≤ -q.inl + (m : Int) := by omega
              obtain ⟨n, hn⟩ : ∃ n, n = q.d.wor nx d (q.low + (i : Int) - (-q.inl + (m : Int))) := ⟨_, rfl⟩
              have hng : -1 ≤ n := by rw [hn]; exact PoD.wor_ge HNX.out _
              have hnl : n ≤ 1000000 := by rw [hn]; exact worTo_le HNX.out HNL.out _ _ _
              have HAFC := Lib.hid (fun W (hb : Below wr.heap.size wr W) => (show Calls Try.prog 53 #[.agg q.cells.toArray, .slice s2.A M s2.c, .int .i64 k, .int .i64 (q.low + (i : Int)), .int .i64 (-q.inl + (m : Int))] W fun e w' => e = .returned (.int .i64 n) ∧ Below W.heap.size W w' by
                rw [hn]
                exact HAF2.out (q.low + (i : Int)) (-q.inl + (m : Int)) W (BU.out.trans (hb.mono BU.out.size)) (by omega) (by omega) (by omega) (by omega)))
              have r48 := cell_regrown (F2.out _ BU.out)
              have r51 := cell_regrown (show wr.cell? ⟨w.heap.size, 0, none⟩ = some (.int .i64 q.low) from (L0.out.call WU.out).at_ 0)
              have HRQ := Lib.hid (fun W (h : ∃ p : Regrown, W = Go.Sort.grow (redrawn wr p.d) p.os) => (show W.rangeAt w.heap.size 0 q.cells by
                obtain ⟨p, rfl⟩ := h
                exact Lies.range (cs := q.cells) ((L0.out.call WU.out).call (below_regrown _ _ _)) (fun j v hj => by simpa using hj)))
              have HNN := Lib.hid hn
              clear hn
              go_upto_region 10 with (fail)
              refine wp_region_quiet_below (by kernel_rfl) (by kernel_rfl) ?_
              repeat (first
                | (refine wpQuiet_load_wholeG (o := ⟨some 34, _, _, _, _, _⟩) ?_ 26 (.tmp 2) ?_ w.heap.size 0 ?_ q.cells _ HRQ.out Try.underlying26 rfl size_rp ?_; rfl; rfl; rfl; simp only [Act.put, List.setIfInBounds_toArray, List.set_cons_zero, List.set_cons_succ])
                | go_big_quiet_step (first | (go_at_call 53; exact Calls.regrown_of (HAFC.out _ (below_regrown _ _ _)))) | quiet_step (first | (go_at_call 53; exact Calls.regrown_of (HAFC.out _ (below_regrown _ _ _)))))
              refine wpQuiet_nil ?_
              intro wz hwz
              have hbz : Below _ _ wz := (by obtain ⟨p, rfl⟩ := hwz; exact below_regrown _ _ _)
              clear hwz r48 r51 HRQ
              have WZ := Lib.hid (WU.out.trans (hbz.mono WU.out.size))
              have BZ := Lib.hid (BU.out.trans (hbz.mono BU.out.size))
              clear hbz HAFC
              clear c30
              have hf : q.d.noneA nx d (q.low + (i : Int)) y m = (decide (n = -1) || (decide (y ≠ -1) && decide (y ≤ n + d.price (-q.inl + (m : Int))))) := by rw [HNN.out]; rfl
              by_cases hnn : n = -1
              · have HE := Lib.hid (show q.d.noneA nx d (q.low + (i : Int)) y m = true by rw [hf, decide_eq_true hnn, Bool.true_or])
                have HPR := Lib.hid (fun W => refPrice_any d (-q.inl + (m : Int)) W HDK.out (by omega) (by omega))
                have hn0 : ¬ 0 ≤ n := by omega
                clear hf hnn
                have rT := cell_regrown (FT.out _ BZ.out)
                have rY := cell_regrown (FY.out _ BZ.out)
                have rD := cell_regrown (FS.out _ WZ.out)
                have HRD := Lib.hid (fun W (h : ∃ p : Regrown, W = Go.Sort.grow (redrawn wz p.d) p.os) => (show W.rangeAt bd (od + k * 5) (encD d) by
                  obtain ⟨p, rfl⟩ := h
                  exact FD.out _ (BZ.out.trans ((below_regrown _ _ _).mono BZ.out.size))))
                go_upto_region 11 with (fail)
                refine wp_region_quiet_below (by kernel_rfl) (by kernel_rfl) ?_
                repeat (first
                  | go_big_quiet_skip
                  | (refine wpQuiet_load_wholeG (o := ⟨some 64, _, _, _, _, _⟩) ?_ 76 (.tmp 63) ?_ bd (od + k * 5) ?_ (encD d) _ HRD.out Try.underlying76 rfl size_rd ?_; kernel_rfl; rfl; rfl; simp only [Act.put, List.setIfInBounds_toArray, List.set_cons_zero, List.set_cons_succ])
                  | go_big_quiet_step (first | (go_at_call 44; exact Calls.regrown_of (HPR.out _))) | quiet_step (first | (go_at_call 44; exact Calls.regrown_of (HPR.out _))))
                refine wpQuiet_nil ?_
                intro wy hwy
                have hby : Below _ _ wy := (by obtain ⟨p, rfl⟩ := hwy; exact below_regrown _ _ _)
                clear hwy rT rY rD HRD
                have WY := Lib.hid (WZ.out.trans (hby.mono WZ.out.size))
                have BY := Lib.hid (BZ.out.trans (hby.mono BZ.out.size))
                clear hby
                go_wp2
                go_roundw
                case rel => exact ⟨m + 1, by omega, by go_num, WY.out, fun j hj => by by_cases e : j = m; (subst e; exact HE.out); exact HAN.out j (by omega)⟩
                case measure => simp [intOf]; omega
              · have hn0 : 0 ≤ n := by omega
                have hpr0 := d.price_nonneg HDK.out (-q.inl + (m : Int))
                have hpr1 := Dy.price_le HDK.out (a := -q.inl + (m : Int)) (by omega) (by omega)
                have HPR := Lib.hid (fun W => refPrice_any d (-q.inl + (m : Int)) W HDK.out (by omega) (by omega))
                obtain ⟨pr, hpr⟩ : ∃ pr, pr = d.price (-q.inl + (m : Int)) := ⟨_, rfl⟩
                rw [← hpr] at hpr0 hpr1 HPR
                have HPP := Lib.hid hpr
                have hwc : IntKind.i64.wrap (n + pr) = n + pr := IntWalk.i64_in _ (by omega)
                clear hpr
                rw [← HPP.out, decide_eq_false hnn, Bool.false_or] at hf
                by_cases hyn : y = -1
                · have hyl : y < 0 := by omega
                  have HE := Lib.hid (show q.d.noneA nx d (q.low + (i : Int)) y m = false by rw [hf, decide_eq_false (by simpa using hyn)]; rfl)
                  have HFALSE := Lib.hid (show q.d.needsX (q.d.tN Ts) k d (q.low + (i : Int)) = false by rw [HKX.out]; exact all_hit (zs := List.range K) (p := q.d.noneA nx d (q.low + (i : Int)) y) (k := m) (x := m) (by rw [List.getElem?_range]; exact hmkz) HE.out)
                  clear hf hnn hyn
                  have rT := cell_regrown (FT.out _ BZ.out)
                  have rY := cell_regrown (FY.out _ BZ.out)
                  have rD := cell_regrown (FS.out _ WZ.out)
                  have HRD := Lib.hid (fun W (h : ∃ p : Regrown, W = Go.Sort.grow (redrawn wz p.d) p.os) => (show W.rangeAt bd (od + k * 5) (encD d) by
                    obtain ⟨p, rfl⟩ := h
                    exact FD.out _ (BZ.out.trans ((below_regrown _ _ _).mono BZ.out.size))))
                  go_upto_region 11 with (fail)
                  refine wp_region_quiet_below (by kernel_rfl) (by kernel_rfl) ?_
                  repeat (first
                    | go_big_quiet_skip
                    | (refine wpQuiet_load_wholeG (o := ⟨some 64, _, _, _, _, _⟩) ?_ 76 (.tmp 63) ?_ bd (od + k * 5) ?_ (encD d) _ HRD.out Try.underlying76 rfl size_rd ?_; kernel_rfl; rfl; rfl; simp only [Act.put, List.setIfInBounds_toArray, List.set_cons_zero, List.set_cons_succ])
                    | go_big_quiet_step (first | (go_at_call 44; exact Calls.regrown_of (HPR.out _))) | quiet_step (first | (go_at_call 44; exact Calls.regrown_of (HPR.out _))))
                  refine wpQuiet_nil ?_
                  intro wy hwy
                  have hby : Below _ _ wy := (by obtain ⟨p, rfl⟩ := hwy; exact below_regrown _ _ _)
                  clear hwy rT rY rD HRD
                  have WY := Lib.hid (WZ.out.trans (hby.mono WZ.out.size))
                  have BY := Lib.hid (BZ.out.trans (hby.mono BZ.out.size))
                  clear hby
                  go_wp2
                  go_ret
                  exact ⟨ret_bool (show rr = false by rw [HRR.out]; exact all_hit (zs := List.range N) (p := q.d.dayB q.d.needsX Ts) (k := k) (x := k) (by rw [List.getElem?_range]; exact hlt) (by rw [HDF2.out]; exact all_hit (zs := List.range M) (p := fun (i : Nat) => q.d.needsX (q.d.tN Ts) k d (q.low + (i : Int))) (k := i) (x := i) (by rw [List.getElem?_range]; exact him) HFALSE.out)).symm, BY.out⟩
                · have hyl : ¬ y < 0 := by omega
                  rw [decide_eq_true (show y ≠ -1 from hyn), Bool.true_and] at hf
                  by_cases hcc : n + pr < y
                  · have HE := Lib.hid (show q.d.noneA nx d (q.low + (i : Int)) y m = false by rw [hf, decide_eq_false (by omega)])
                    have HFALSE := Lib.hid (show q.d.needsX (q.d.tN Ts) k d (q.low + (i : Int)) = false by rw [HKX.out]; exact all_hit (zs := List.range K) (p := q.d.noneA nx d (q.low + (i : Int)) y) (k := m) (x := m) (by rw [List.getElem?_range]; exact hmkz) HE.out)
                    clear hf hnn hyn
                    have rT := cell_regrown (FT.out _ BZ.out)
                    have rY := cell_regrown (FY.out _ BZ.out)
                    have rD := cell_regrown (FS.out _ WZ.out)
                    have HRD := Lib.hid (fun W (h : ∃ p : Regrown, W = Go.Sort.grow (redrawn wz p.d) p.os) => (show W.rangeAt bd (od + k * 5) (encD d) by
                      obtain ⟨p, rfl⟩ := h
                      exact FD.out _ (BZ.out.trans ((below_regrown _ _ _).mono BZ.out.size))))
                    go_upto_region 11 with (fail)
                    refine wp_region_quiet_below (by kernel_rfl) (by kernel_rfl) ?_
                    repeat (first
                      | go_big_quiet_skip
                      | (refine wpQuiet_load_wholeG (o := ⟨some 64, _, _, _, _, _⟩) ?_ 76 (.tmp 63) ?_ bd (od + k * 5) ?_ (encD d) _ HRD.out Try.underlying76 rfl size_rd ?_; kernel_rfl; rfl; rfl; simp only [Act.put, List.setIfInBounds_toArray, List.set_cons_zero, List.set_cons_succ])
                      | go_big_quiet_step (first | (go_at_call 44; exact Calls.regrown_of (HPR.out _))) | quiet_step (first | (go_at_call 44; exact Calls.regrown_of (HPR.out _))))
                    refine wpQuiet_nil ?_
                    intro wy hwy
                    have hby : Below _ _ wy := (by obtain ⟨p, rfl⟩ := hwy; exact below_regrown _ _ _)
                    clear hwy rT rY rD HRD
                    have WY := Lib.hid (WZ.out.trans (hby.mono WZ.out.size))
                    have BY := Lib.hid (BZ.out.trans (hby.mono BZ.out.size))
                    clear hby
                    go_wp2
                    go_ret
                    exact ⟨ret_bool (show rr = false by rw [HRR.out]; exact all_hit (zs := List.range N) (p := q.d.dayB q.d.needsX Ts) (k := k) (x := k) (by rw [List.getElem?_range]; exact hlt) (by rw [HDF2.out]; exact all_hit (zs := List.range M) (p := fun (i : Nat) => q.d.needsX (q.d.tN Ts) k d (q.low + (i : Int))) (k := i) (x := i) (by rw [List.getElem?_range]; exact him) HFALSE.out)).symm, BY.out⟩
                  · have HE := Lib.hid (show q.d.noneA nx d (q.low + (i : Int)) y m = true by rw [hf, decide_eq_true (by omega)])
                    clear hf hnn hyn
                    have rT := cell_regrown (FT.out _ BZ.out)
                    have rY := cell_regrown (FY.out _ BZ.out)
                    have rD := cell_regrown (FS.out _ WZ.out)
                    have HRD := Lib.hid (fun W (h : ∃ p : Regrown, W = Go.Sort.grow (redrawn wz p.d) p.os) => (show W.rangeAt bd (od + k * 5) (encD d) by
                      obtain ⟨p, rfl⟩ := h
                      exact FD.out _ (BZ.out.trans ((below_regrown _ _ _).mono BZ.out.size))))
                    go_upto_region 11 with (fail)
                    refine wp_region_quiet_below (by kernel_rfl) (by kernel_rfl) ?_
                    repeat (first
                      | go_big_quiet_skip
                      | (refine wpQuiet_load_wholeG (o := ⟨some 64, _, _, _, _, _⟩) ?_ 76 (.tmp 63) ?_ bd (od + k * 5) ?_ (encD d) _ HRD.out Try.underlying76 rfl size_rd ?_; kernel_rfl; rfl; rfl; simp only [Act.put, List.setIfInBounds_toArray, List.set_cons_zero, List.set_cons_succ])
                      | go_big_quiet_step (first | (go_at_call 44; exact Calls.regrown_of (HPR.out _))) | quiet_step (first | (go_at_call 44; exact Calls.regrown_of (HPR.out _))))
                    refine wpQuiet_nil ?_
                    intro wy hwy
                    have hby : Below _ _ wy := (by obtain ⟨p, rfl⟩ := hwy; exact below_regrown _ _ _)
                    clear hwy rT rY rD HRD
                    have WY := Lib.hid (WZ.out.trans (hby.mono WZ.out.size))
                    have BY := Lib.hid (BZ.out.trans (hby.mono BZ.out.size))
                    clear hby
                    go_wp2
                    go_roundw
                    case rel => exact ⟨m + 1, by omega, by go_num, WY.out, fun j hj => by by_cases e : j = m; (subst e; exact HE.out); exact HAN.out j (by omega)⟩
                    case measure => simp [intOf]; omega
            · have hgt : ¬ -q.inl + (m : Int) ≤ q.pump := by have := HKZ.out; omega
              obtain rfl : m = K := by omega
              have HKY := Lib.hid (show q.d.needsX (q.d.tN Ts) k d (q.low + (i : Int)) = true by rw [HKX.out, List.all_eq_true]; exact fun j hj => HAN.out j (List.mem_range.1 hj))
              go_wp2
              go_roundw
              case rel => exact ⟨i + 1, by omega, by go_num, WU.out, fun j hj => by
                by_cases e : j = i
                · subst e; exact HKY.out
                · exact HEL.out j (by omega)⟩
              case measure => simp [intOf]; omega
        · obtain rfl : i = M := by omega
          have hday : q.d.dayB q.d.needsX Ts k = true := by
            rw [HDF2.out, List.all_eq_true]
            intro j hj
            exact HEL.out j (List.mem_range.1 hj)
          have HDAY := Lib.hid hday
          clear hday
          go_wp2
          go_roundw
          case rel => exact ⟨k + 1, by omega, by go_num, WV.out, fun j hj => by
            by_cases e : j = k
            · subst e; exact HDAY.out
            · exact HAL.out j (by omega)⟩
          case measure => simp [intOf]; omega
    · obtain rfl : k = N := by omega
      go_wp2
      go_ret
      exact ⟨ret_bool (show rr = true by rw [HRR.out, List.all_eq_true]; exact fun j hj => HAL.out j (List.mem_range.1 hj)).symm, BW.out⟩
end Go.Proofs.Yteognijlgalahaa

/- The law's rows and tabular. -/
namespace Go.Proofs.Yteognijlgalahaa
open Go.RowKit Go.Lib
attribute [local go_sem] Oper.semAt_some

def tabularB (ts : List (Sv Int)) : Bool := decide (ts.length ≤ 20) && ts.all fun s => decide (s.l.length ≤ 70)
set_option maxRecDepth 100000 in
set_option maxHeartbeats 4000000 in
theorem tabular_any (A : Option Addr) (c : Nat) (ts : List (Sv Int)) (w : World) (ho : Sl w w.heap.size 1 encV A ts) (hn : ts.length ≤ maxLen) (hm : ∀ s, s ∈ ts → s.l.length ≤ maxLen) :
    Calls Try.prog 34 #[.slice A ts.length c] w fun e w' => e = .returned (.bool (tabularB ts)) ∧ Below w.heap.size w w' := by
  obtain ⟨tl, htl⟩ : ∃ tl, tl = ts.length := ⟨_, rfl⟩
  have hq : tabularB ts = (decide (tl ≤ 20) && ts.all fun s => decide (s.l.length ≤ 70)) := by rw [htl]; rfl
  have htz : (tl : Int) ≤ 9223372036854775807 := by unfold maxLen at hn; omega
  have HQ := Lib.hid hq
  have HO := Lib.hid ho
  have HM := Lib.hid hm
  have HTL := Lib.hid htl
  rw [← htl]
  generalize tabularB ts = r at *
  clear hq ho hm htl hn
  go_enter Try.func34, Try.ntmps34
  go_wp2
  go_loopw [2, 3] (fun _ s3 wr => ∃ k : Nat, k ≤ tl ∧ s3 = .int .i64 k ∧ Aside (Below w.heap.size w wr ∧ k ≤ 21 ∧ ∀ j s, j < k → ts[j]? = some s → s.l.length ≤ 70)) (fun _ i _ => tl - (intOf i).toNat)
  case atStart => exact ⟨0, by omega, rfl, Below.refl _ _, by omega, fun j s hj => by omega⟩
  case round =>
    obtain ⟨k, hk, rfl, HH⟩ := hrel
    have HB := Lib.hid HH.out.1
    have HAL := Lib.hid HH.out.2.2
    have hk21 : (k : Int) ≤ 21 := by have := HH.out.2.1; omega
    clear HH
    have hk0 : (0 : Int) ≤ (k : Int) := by omega
    by_cases hlt : k < tl
    · have hltz : (k : Int) < (tl : Int) := by omega
      by_cases h20 : k = 21
      · have hgt : (20 : Int) < (k : Int) := by omega
        have HNO := Lib.hid (show r = false by rw [HQ.out, decide_eq_false (by omega)]; rfl)
        go_wp2
        go_ret
        exact ⟨ret_bool HNO.out.symm, HB.out⟩
      · have hgt : ¬ (20 : Int) < (k : Int) := by omega
        obtain ⟨s, hs⟩ : ∃ s, ts[k]? = some s := ⟨ts[k]'(by rw [← HTL.out]; exact hlt), by simp⟩
        obtain ⟨b, off, hAe, hb, hc⟩ := HO.out.at_ hs
        have h0 := hc 0 _ rfl
        rw [Nat.mul_one, Nat.add_zero] at h0
        have cc : wr.cell? ⟨b, off + k, none⟩ = some (.slice s.A s.l.length s.c) := by
          have := (HB.out.cell (p := ⟨b, off + k, none⟩) hb).trans h0
          simpa [Sv.val] using this
        have HS := Lib.hid hs
        have hsm := HM.out s (List.mem_of_getElem? hs)
        have hsz : (s.l.length : Int) ≤ 9223372036854775807 := by unfold maxLen at hsm; omega
        subst hAe
        clear hs hb hc h0 hsm
        by_cases h70 : s.l.length ≤ 70
        · have hg7 : ¬ (70 : Int) < (s.l.length : Int) := by omega
          go_wp2
          go_roundw
          case rel => exact ⟨k + 1, by omega, by go_num, HB.out, by omega, fun j z hj hz => by
            by_cases e : j = k
            · subst e; rw [HS.out] at hz; cases hz; exact h70
            · exact HAL.out j z (by omega) hz⟩
          case measure => simp [intOf]; omega
        · have hg7 : (70 : Int) < (s.l.length : Int) := by omega
          have HNO := Lib.hid (show r = false by rw [HQ.out, all_hit HS.out (p := fun s => decide (s.l.length ≤ 70)) (decide_eq_false h70), Bool.and_false])
          go_wp2
          go_ret
          exact ⟨ret_bool HNO.out.symm, HB.out⟩
    · obtain rfl : k = tl := by omega
      have hall : (ts.all fun s => decide (s.l.length ≤ 70)) = true := all_miss (fun j s hj hs => decide_eq_true (HAL.out j s (by rw [HTL.out]; exact hj) hs))
      have HY := Lib.hid (show r = decide ((k : Int) ≤ 20) by rw [HQ.out, hall, Bool.and_true, Bool.eq_iff_iff, decide_eq_true_eq, decide_eq_true_eq]; omega)
      clear hall
      go_wp2
      go_ret
      exact ⟨ret_bool HY.out.symm, HB.out⟩
/-- Each row's block lies behind those before. -/
def SepL (ts : List (Sv Int)) : Prop := ∀ (i j : Nat) (s t : Sv Int), ts[i]? = some s → ts[j]? = some t → i < j → ∀ b b', s.val.ownBlock = some b → t.val.ownBlock = some b' → b < b'
theorem SepL.nil : SepL [] := fun i j s t h => by simp at h
theorem SepL.snoc {B c : Nat} {out : List (Sv Int)} {A : Option Addr} {W W' : World} {s : Sv Int} {xs : List Value} {n : Nat} (h : SepL out) (hm : OutM B out A c W) (ho : W'.ownsRow W.heap.size 3 1 s.val n xs) : SepL (out ++ [s]) := fun i j x y hx hy hij b b' hb hb' => by
  rw [List.getElem?_append] at hx hy
  split at hx
  · split at hy
    · exact h i j x y hx hy hij b b' hb hb'
    · have h1 := (own_at (hm.i x (List.mem_of_getElem? hx)) hb).2.1
      rename_i hi hj
      have hyl := (List.getElem?_eq_some_iff.1 hy).1
      simp at hyl
      have hj0 : j - out.length = 0 := by omega
      rw [hj0] at hy
      simp at hy
      subst hy
      have h2 := (own_at ho hb').1
      omega
  · rename_i hi
    have hyl : j < (out ++ [s]).length := by
      split at hy
      · simp; omega
      · have := (List.getElem?_eq_some_iff.1 hy).1
        simp at this ⊢; omega
    simp at hyl
    omega
/-- What rows hands back: the same numbers, in its own memory. -/
def RowsE (T : List (List Int)) (w : World) (e : Ending) (w' : World) : Prop := ∃ (out : List (Sv Int)) (A : Option Addr) (c : Nat), e = .returned (.slice A out.length c) ∧ out.map Sv.l = T ∧ OutM w.heap.size out A c w' ∧ Below w.heap.size w w' ∧ SepL out
theorem OutM.tab {B c : Nat} {out : List (Sv Int)} {A : Option Addr} {W : World} (h : OutM B out A c W) (hn : out.length ≤ 1000000) (hm : ∀ s, s ∈ out → s.l.length ≤ 1000000) : TabM A out W W.heap.size := by
  obtain ⟨A', c', e', _, hso⟩ := Sl.of_own (enc := encV) (l := out) (fun _ => rfl) h.o rfl
  cases e'
  refine ⟨hso, fun s hs => ?_, hn, hm⟩
  obtain ⟨_, _, e2, _, hsi⟩ := Sl.of_own (enc := encI) (l := s.l) (fun _ => rfl) (h.i s hs) rfl
  cases e2
  exact hsi
theorem OutM.nil_row {B c : Nat} {out : List (Sv Int)} {A : Option Addr} {W : World} (h : OutM B out A c W) : ∀ s, s ∈ out → s.A = none → s.l.length = 0 ∧ s.c = 0 := fun s hs => by
  obtain ⟨_, _, e2, hn, _⟩ := Sl.of_own (enc := encI) (l := s.l) (fun _ => rfl) (h.i s hs) rfl
  cases e2
  exact hn
set_option maxRecDepth 100000 in
set_option maxHeartbeats 8000000 in
theorem rows_any (A : Option Addr) (c : Nat) (ts : List (Sv Int)) (w : World) (hA : TabM A ts w w.heap.size) (hnn : ∀ s, s ∈ ts → s.A = none → s.l.length = 0 ∧ s.c = 0) (hl : ts.length ≤ 100) (hm : ∀ s, s ∈ ts → s.l.length ≤ 1000) :
    Calls Try.prog 36 #[.slice A ts.length c] w (RowsE (ts.map Sv.l) w) := by
  obtain ⟨tl, htl⟩ : ∃ tl, tl = ts.length := ⟨_, rfl⟩
  have htz : (tl : Int) ≤ 100 := by omega
  have HT := Lib.hid hA
  have HNN := Lib.hid hnn
  have HM := Lib.hid hm
  have HTL := Lib.hid htl
  rw [← htl]
  clear hA hnn hm htl hl
  go_enter Try.func36, Try.ntmps36
  go_wp2
  go_loopw [3, 4] (fun s3 s4 wr => ∃ (k : Nat) (out : List (Sv Int)) (A2 : Option Addr) (c2 : Nat), k ≤ tl ∧ out.length = k ∧ s3 = .slice A2 out.length c2 ∧ s4 = .int .i64 k ∧ Aside (out.map Sv.l = (ts.map Sv.l).take k ∧ OutM w.heap.size out A2 c2 wr ∧ Below w.heap.size w wr ∧ SepL out)) (fun _ i _ => tl - (intOf i).toNat)
  case atStart => exact ⟨0, [], none, 0, by omega, rfl, rfl, rfl, rfl, OutM.nil _ _, Below.refl _ _, SepL.nil⟩
  case round =>
    obtain ⟨k, out, A2, c2, hk, hol, rfl, rfl, HH⟩ := hrel
    have HO := Lib.hid HH.out.1
    have HM2 := Lib.hid HH.out.2.1
    have HB := Lib.hid HH.out.2.2.1
    have HSP := Lib.hid HH.out.2.2.2
    have HOL := Lib.hid hol
    clear HH hol
    have hk0 : (0 : Int) ≤ (k : Int) := by omega
    by_cases hlt : k < tl
    · have hltz : (k : Int) < (tl : Int) := by omega
      obtain ⟨s, hs⟩ : ∃ s, ts[k]? = some s := ⟨ts[k]'(by rw [← HTL.out]; exact hlt), by simp⟩
      obtain ⟨b, off, hAe, hb, hc⟩ := HT.out.cell hs
      have hmem := List.mem_of_getElem? hs
      have c15 : wr.cell? ⟨b, off + k, none⟩ = some (.slice s.A s.l.length s.c) := (HB.out.cell (p := ⟨b, off + k, none⟩) hb).trans hc
      have HLI := Lib.hid (lawList_own s.A s.c s.l wr (((HT.out.i s hmem).below HB.out).more HB.out.size) (HM.out s hmem) (HNN.out s hmem))
      have HSL := Lib.hid (HM.out s hmem)
      have HS := Lib.hid hs
      have hsz := HB.out.size
      have HSZ := Lib.hid hsz
      subst hAe
      clear hs hb hc hmem hsz
      have K16 := Lib.hid True.intro
      go_wp2_with (first
        | (have h := K16; clear h; go_at_call 28; refine HLI.out.mono ?_; rintro e w2 ⟨A5, c5, rfl, ho5, hb5⟩; have O5 := Lib.hid ho5; have H5 := Lib.hid (HM2.out.call hb5); have B5 := Lib.hid (HB.out.trans (hb5.mono HSZ.out)); have F5 := Lib.hid (Lies.fresh w2 42 #[(⟨A5, s.l, c5⟩ : Sv Int).val]); have bf5 := Lib.hid ((Below.refl w2.heap.size w2).alloc (Nat.le_refl _) (.cells #[(⟨A5, s.l, c5⟩ : Sv Int).val] 42)); clear ho5 hb5; have K18 := Lib.hid True.intro; clear K16)
        | (have h := K18; clear h; refine wpList_app_outs (o := ⟨some 18, _, _, _, _, _⟩) ?_ (.tmp 11) (.tmp 17) ?_ w.heap.size A2 c2 out ?_ (H5.out.call bf5.out) (some ⟨w2.heap.size, 0, none⟩) 1 [⟨A5, s.l, c5⟩] ?_ (out_one F5.out B5.out.size (own_lower (ownsRow_call O5.out bf5.out) HSZ.out)) (by have := HOL.out; simp; omega) (Nat.le_trans B5.out.size bf5.out.size) ?_; rfl; rfl; rfl; rfl; intro A6 c6 w6 hm6 hb6 hg6; clear hg6; have M6 := Lib.hid hm6; have B6 := Lib.hid ((B5.out.trans (bf5.out.mono B5.out.size)).trans hb6); clear hm6 hb6; clear K18))
      go_roundw
      case rel =>
        refine ⟨k + 1, out ++ [(⟨A5, s.l, c5⟩ : Sv Int)], A6, c6, by omega, by simp [HOL.out], by simp, by go_num, ?_, M6.out, B6.out, HSP.out.snoc HM2.out O5.out⟩
        rw [List.map_append, HO.out, List.take_add_one, List.getElem?_map, HS.out]; rfl
      case measure => simp [intOf]; omega
    · obtain rfl : k = tl := by omega
      have HF := Lib.hid (show out.map Sv.l = ts.map Sv.l by rw [HO.out, List.take_of_length_le (by rw [List.length_map, ← HTL.out]; exact Nat.le_refl _)])
      go_wp2
      go_ret
      exact ⟨out, A2, c2, rfl, HF.out, HM2.out, HB.out, HSP.out⟩
end Go.Proofs.Yteognijlgalahaa

/- A table's rows, one of which is changed in place; tables that came in. -/
namespace Go.Proofs.Yteognijlgalahaa
open Go.RowKit Go.Lib

theorem own_set_cell {w : World} {base k : Nat} {e : TypeId} {A : Option Addr} {n c g i : Nat} {xs : List Value} {u : Value} (h : w.ownsRow base e k (.slice A n c) n xs) (hA : A = some ⟨g, 0, none⟩) (_hi : i < xs.length) :
    (w.setCell ⟨g, i, none⟩ u).ownsRow base e k (.slice A n c) n (xs.set i u) := by
  subst hA
  refine ⟨by rw [List.length_set]; exact h.1, ?_⟩
  rcases h.2 with ⟨hv, h0⟩ | ⟨g', cap, cur, hv, hbg, hgg, hnc, hcm, hcs, htake⟩
  · cases hv
  · cases hv
    refine .inr ⟨g, c, cur.setIfInBounds i u, rfl, hbg, ?_, hnc, hcm, by simpa using hcs, ?_⟩
    · exact (show Lies w g e cur from hgg).set i u
    · rw [← htake, Array.toList_setIfInBounds, List.take_set]
theorem flat_set {α : Type} {enc : α → List Value} {k : Nat} (hk : ∀ x, (enc x).length = k) {q : Nat} {u : Value} {y z : α} (hq : q < k) (hy : enc y = (enc z).set q u) : ∀ (l : List α) (p : Nat), l[p]? = some z → (l.flatMap enc).set (p * k + q) u = (l.set p y).flatMap enc
  | [], p, h => by simp at h
  | x :: l, 0, h => by
    simp at h; subst h
    rw [List.flatMap_cons, List.set_cons_zero, List.flatMap_cons, List.set_append_left _ _ (by rw [hk]; omega), hy]
    simp
  | x :: l, p + 1, h => by
    rw [List.flatMap_cons, List.set_cons_succ, List.flatMap_cons, List.set_append_right _ _ (by rw [hk, Nat.add_mul]; omega), hk, ← flat_set hk hq hy l p (by simpa using h)]
    congr 2
    rw [Nat.add_mul]; omega
theorem own_addr {W : World} {base k : Nat} {e : TypeId} {A : Option Addr} {n c : Nat} {xs : List Value} (h : W.ownsRow base e k (.slice A n c) n xs) (hn : 0 < n) : ∃ g5 cur, A = some ⟨g5, 0, none⟩ ∧ base ≤ g5 ∧ Lies W g5 e cur := by
  rcases h.2 with ⟨hv, h0⟩ | ⟨g', cap, cur, hv, hbg, hgg, _⟩
  · omega
  · cases hv; exact ⟨g', cur, rfl, hbg, hgg⟩
/-- A table in own memory, the rows of which lie apart. -/
structure SepM (B : Nat) (A : Option Addr) (ts : List (Sv Int)) (V : World) : Prop where
  t : TabM A ts V V.heap.size
  o : ∀ s, s ∈ ts → V.ownsRow B 3 1 s.val s.l.length (s.l.flatMap encI)
  a : ∀ b off, A = some ⟨b, off, none⟩ → ts ≠ [] → ∃ cs, Lies V b 42 cs
  s : ∀ (i j : Nat) (s t : Sv Int), ts[i]? = some s → ts[j]? = some t → i ≠ j → ∀ b b', s.val.ownBlock = some b → t.val.ownBlock = some b' → b ≠ b'
theorem OutM.sep {B c : Nat} {out : List (Sv Int)} {A : Option Addr} {W : World} (h : OutM B out A c W) (hn : out.length ≤ 1000000) (hm : ∀ s, s ∈ out → s.l.length ≤ 1000000) (hs : SepL out) : SepM B A out W := by
  refine ⟨h.tab hn hm, h.i, fun b off e hne => ?_, fun i j s t h1 h2 hij b b' hb hb' => ?_⟩
  · subst e
    obtain ⟨g5, cur, e, _, hl⟩ := own_addr h.o (List.length_pos_iff.2 hne)
    cases e
    exact ⟨cur, hl⟩
  · rcases Nat.lt_or_gt_of_ne hij with hlt | hlt
    · exact Nat.ne_of_lt (hs i j s t h1 h2 hlt b b' hb hb')
    · exact (Nat.ne_of_lt (hs j i t s h2 h1 hlt b' b hb' hb)).symm
theorem VlM.sep {p : PoD} {g B : Nat} {row : Nat → Sv Int} {V : World} (h : VlM p g row V) (hB : B ≤ g) (hn : p.ds.length ≤ 12) (hl : p.levels ≤ 1000) : SepM B (some ⟨g, 0, none⟩) ((List.range (p.ds.length + 1)).map row) V := by
  have hat : ∀ {i : Nat} {s : Sv Int}, ((List.range (p.ds.length + 1)).map row)[i]? = some s → i ≤ p.ds.length ∧ row i = s := fun {i s} hi => by
    have hlt := (List.getElem?_eq_some_iff.1 hi).1
    simp at hlt
    rw [List.getElem?_map, List.getElem?_range (by omega)] at hi
    exact ⟨by omega, Option.some.inj hi⟩
  have hmem : ∀ {s : Sv Int}, s ∈ (List.range (p.ds.length + 1)).map row → ∃ i, i ≤ p.ds.length ∧ row i = s := fun {s} hs => by
    obtain ⟨i, hi, e⟩ := List.mem_map.1 hs
    exact ⟨i, by have := List.mem_range.1 hi; omega, e⟩
  obtain ⟨cs, h1, h2⟩ := h.c
  refine ⟨⟨fun _ => ⟨g, 0, rfl, h1.in_, fun i x hx j u hu => ?_⟩, fun s hs => ?_, by simp; omega, fun s hs => ?_⟩, fun s hs => ?_, fun b off e _ => ?_, fun i j s t hs ht hij b b' hb hb' => ?_⟩
  · obtain ⟨hi, rfl⟩ := hat hx
    have := h.cell hi
    match j, hu with
    | 0, hu =>
      obtain rfl : (row i).val = u := Option.some.inj hu
      rw [Nat.zero_add, Nat.mul_one, Nat.add_zero]
      exact this
    | j + 1, hu => cases hu
  · obtain ⟨i, hi, rfl⟩ := hmem hs
    exact h.sl hi
  · obtain ⟨i, hi, rfl⟩ := hmem hs
    rw [h.len hi]; omega
  · obtain ⟨i, hi, rfl⟩ := hmem hs
    exact own_lower (h.r i hi).2 (by omega)
  · cases e; exact ⟨_, h1⟩
  · obtain ⟨hi, rfl⟩ := hat hs
    obtain ⟨hj, rfl⟩ := hat ht
    rcases Nat.lt_or_gt_of_ne hij with hlt | hlt
    · have := h.s i j hlt hj b b' hb hb'; omega
    · have := h.s j i hlt hi b' b hb' hb; omega
theorem int_ne_list : (3 : TypeId) ≠ 42 := by decide
/-- One number of a table changed. -/
def setT (ts : List (Sv Int)) (i m : Nat) (s : Sv Int) (v : Int) : List (Sv Int) := ts.set i ⟨s.A, s.l.set m v, s.c⟩
theorem setT_length {ts : List (Sv Int)} {i m : Nat} {s : Sv Int} {v : Int} : (setT ts i m s v).length = ts.length := by simp [setT]
theorem setT_rows {ts : List (Sv Int)} {i m M : Nat} {s : Sv Int} {v : Int} (h : ∀ z, z ∈ ts → z.l.length = M) (hs : s.l.length = M) : ∀ z, z ∈ setT ts i m s v → z.l.length = M := fun z hz => by
  rcases List.mem_or_eq_of_mem_set hz with h1 | rfl
  · exact h z h1
  · show (s.l.set m v).length = M
    rw [List.length_set]; exact hs
theorem SepM.set {B i m : Nat} {A : Option Addr} {ts : List (Sv Int)} {V : World} {s : Sv Int} (h : SepM B A ts V) (hs : ts[i]? = some s) (hm : m < s.l.length) :
    ∃ g, s.A = some ⟨g, 0, none⟩ ∧ B ≤ g ∧ (∃ x, s.l[m]? = some x ∧ V.cell? ⟨g, m, none⟩ = some (.int .i64 x)) ∧ V.frozen? ⟨g, m, none⟩ = false ∧ ∀ v, TabM A (setT ts i m s v) (V.setCell ⟨g, m, none⟩ (.int .i64 v)) V.heap.size ∧ ∀ z, z ∈ setT ts i m s v → z.A = none → z.l.length = 0 ∧ z.c = 0 := by
  have hmem := List.mem_of_getElem? hs
  obtain ⟨g, cur, hA, hbg, hl⟩ := own_addr (h.o s hmem) (by omega)
  obtain ⟨x, hx⟩ : ∃ x, s.l[m]? = some x := ⟨s.l[m], by simp [hm]⟩
  obtain ⟨A', c', e1, -, hS⟩ := Sl.of_own (enc := encI) (fun _ => rfl) (h.o s hmem) rfl
  cases e1
  obtain ⟨b, off, e2, hbl, hc⟩ := hS.cell1 hx
  rw [hA] at e2
  cases e2
  have hown : s.val.ownBlock = some g := by unfold Sv.val; rw [hA]; rfl
  have hnil : ∀ z, z ∈ ts → z.A = none → z.l.length = 0 ∧ z.c = 0 := fun z hz => by
    obtain ⟨_, _, e3, hn, _⟩ := Sl.of_own (enc := encI) (fun _ => rfl) (h.o z hz) rfl
    cases e3
    exact hn
  refine ⟨g, hA, hbg, ⟨x, hx, by simpa using hc⟩, hl.free m, fun v => ⟨⟨?_, fun z hz => ?_, by rw [setT_length]; exact h.t.n, fun z hz => ?_⟩, fun z hz hz0 => ?_⟩⟩
  · intro hne
    have hne' : ts ≠ [] := fun e => by subst e; simp at hs
    obtain ⟨b, off, e, hb, hcc⟩ := h.t.o hne'
    obtain ⟨cs, hcs⟩ := h.a b off e hne'
    have hgb : g ≠ b := lies_ne hl hcs int_ne_list
    refine ⟨b, off, e, hb, fun k z hz j u hu => ?_⟩
    rw [World.cell?_setCell_other _ _ _ _ (fun e => hgb (congrArg Addr.block e))]
    unfold setT at hz
    rw [List.getElem?_set] at hz
    split at hz
    · rename_i hik
      subst hik
      split at hz
      · cases hz
        refine hcc i s hs j u ?_
        rw [← hu]
        simp [encV, Sv.val]
      · cases hz
    · exact hcc k z hz j u hu
  · obtain ⟨k, hk⟩ := List.mem_iff_getElem?.1 hz
    unfold setT at hk
    rw [List.getElem?_set] at hk
    split at hk
    · rename_i hik
      subst hik
      split at hk
      · cases hk
        have h1 := own_set_cell (u := .int .i64 v) (h.o s hmem) hA (i := m) (by rw [flat_len (enc := encI) (k := 1) (fun _ => rfl), Nat.mul_one]; exact hm)
        have h2 := flat_set (enc := encI) (k := 1) (fun _ => rfl) (q := 0) (u := .int .i64 v) (y := v) (z := x) (by omega) rfl s.l m hx
        rw [Nat.mul_one, Nat.add_zero] at h2
        rw [h2] at h1
        obtain ⟨A', c', e1, -, hS'⟩ := Sl.of_own (enc := encI) (l := s.l.set m v) (fun _ => rfl) (by rw [List.length_set]; exact h1) rfl
        rw [List.length_set] at e1
        cases e1
        have hz2 : (V.setCell ⟨g, m, none⟩ (.int .i64 v)).heap.size = V.heap.size := by simp
        rw [hz2] at hS'
        exact hS'
      · cases hk
    · rename_i hik
      intro hne
      have hzm := List.mem_of_getElem? hk
      obtain ⟨g2, cur2, hA2, _, _⟩ := own_addr (h.o z hzm) (List.length_pos_iff.2 hne)
      have hown2 : z.val.ownBlock = some g2 := by unfold Sv.val; rw [hA2]; rfl
      have hg2 := h.s i k s z hs hk hik g g2 hown hown2
      obtain ⟨b, off, e, hb, hcc⟩ := h.t.i z hzm hne
      refine ⟨b, off, e, hb, fun i2 x2 hx2 j u hu => ?_⟩
      rw [hA2] at e
      cases e
      rw [World.cell?_setCell_other _ _ _ _ (fun e => hg2 (congrArg Addr.block e))]
      exact hcc i2 x2 hx2 j u hu
  · obtain ⟨k, hk⟩ := List.mem_iff_getElem?.1 hz
    unfold setT at hk
    rw [List.getElem?_set] at hk
    split at hk
    · split at hk
      · cases hk
        show (s.l.set m v).length ≤ _
        rw [List.length_set]; exact h.t.m s hmem
      · cases hk
    · exact h.t.m z (List.mem_of_getElem? hk)
  · obtain ⟨k, hk⟩ := List.mem_iff_getElem?.1 hz
    unfold setT at hk
    rw [List.getElem?_set] at hk
    split at hk
    · split at hk
      · cases hk
        exact absurd hz0 (by rw [hA]; simp)
      · cases hk
    · exact hnil z (List.mem_of_getElem? hk) hz0
/-- A table that came in. -/
structure OpenT (t : Sv (Sv Int)) (w : World) : Prop where
  o : Sl w w.heap.size 1 encV t.A t.l
  i : ∀ s, s ∈ t.l → (s.A = none → s.l.length = 0 ∧ s.c = 0) ∧ Sl w w.heap.size 1 encI s.A s.l ∧ s.l.length ≤ maxLen
  n : t.l.length ≤ maxLen
section
variable {H : Type} {enc : TypeId × Value → H} {w : World} {fuel : Nat} {cs : List Value} {x : DataW H × List MemPlace}
theorem cWL : Try.prog.cellsOf 42 = 1 := by kernel_rfl
theorem cWI : Try.prog.cellsOf 3 = 1 := by kernel_rfl
theorem open_elt (h : DataW.trod enc Try.prog w 0 (fun _ => true) true fuel 3 cs = some x) : ∃ y : Int, cs = encI y ∧ True := by
  obtain ⟨n, e, hw⟩ := open_num Try.underlying3 h
  exact ⟨n, e, trivial⟩
theorem open_lst (h : DataW.trod enc Try.prog w 0 (fun _ => true) true fuel 42 cs = some x) : ∃ s : Sv Int, cs = encV s ∧ ((s.A = none → s.l.length = 0 ∧ s.c = 0) ∧ Sl w w.heap.size 1 encI s.A s.l ∧ s.l.length ≤ maxLen) := by
  obtain ⟨A, l, c, e, hn, hs, _, hm⟩ := open_sl (en := encI) (Q := fun _ => True) (by decide) Try.underlying42 cWI (fun _ _ _ h => open_elt h) h
  exact ⟨⟨A, l, c⟩, e, hn, hs, hm⟩
theorem open_tables (h : DataW.trod enc Try.prog w 0 (fun _ => true) true fuel 40 cs = some x) : ∃ t : Sv (Sv Int), cs = encV t ∧ OpenT t w := by
  obtain ⟨A, l, c, e, _, hs, hq, hm⟩ := open_sl (en := encV) (Q := fun s : Sv Int => (s.A = none → s.l.length = 0 ∧ s.c = 0) ∧ Sl w w.heap.size 1 encI s.A s.l ∧ s.l.length ≤ maxLen) (by decide) Try.underlying40 cWL (fun _ _ _ h => open_lst h) h
  exact ⟨⟨A, l, c⟩, e, hs, hq, hm⟩
end
end Go.Proofs.Yteognijlgalahaa
