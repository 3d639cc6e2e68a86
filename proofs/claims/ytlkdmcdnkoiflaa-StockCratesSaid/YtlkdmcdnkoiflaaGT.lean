/- The texts BF BG BH BI BJ BM, joined. -/
import Derived.Test.YtlkdmcdnkoiflaaGS
import Derived.Test.YtlkdmcdnkoiflaaGD
import Derived.Test.YtlkdmcdnkoiflaaGH
import Derived.Test.YtlkdmcdnkoiflaaGL
import Derived.Test.YtlkdmcdnkoiflaaGF
/- sure. -/
namespace Go.Proofs.Ytlkdmcdnkoiflaa
open Go.RowKit Go.Lib

theorem wpList_look_run {P : Program} {w : World} {ops : Array Oper} {rest : List Oper} {o : Oper} {a : Act} {Q : Exit → Act → World → Prop} (hg : o.guard = none) (m x : Operand) (t : TypeId) (hop : o.op = Op.lookup t m x true) (mv xv v : Value) (hm : a.eval m = mv) (hx : a.eval x = xv)
    (hrun : (Instr.lookup t mv xv true).run P w = .ok v w) (hK : wpList P ops Q rest (a.put o.dst v) w) : wpList P ops Q (o :: rest) a w := by
  refine wpList_plain hg fun K' hK' => ?_
  unfold Oper.wp
  simp [execOp, hop, hm, hx, hrun, Result.andThen]
  exact hK' _ _ hK
theorem offC_range {p : PlM} {t : TrM} {A : Option Addr} {n c : Nat} {size : Int} {mb g : Nat} {w : World} (h : Lies w g 147 (offC p t A n c size mb).toArray) : w.rangeAt g 0 (p.cells ++ t.cells) :=
  Lies.range (cs := offC p t A n c size mb) h fun j v hj => by
    have hl : j < (p.cells ++ t.cells).length := (List.getElem?_eq_some_iff.1 hj).1
    unfold offC
    rw [Nat.zero_add, List.getElem?_append_left hl]
    exact hj
set_option maxRecDepth 100000 in
set_option maxHeartbeats 2000000 in
theorem sure_any (p : PlM) (t : TrM) (A : Option Addr) (n c size : Nat) (mb N : Nat) (f : List Int → Int) (pl : List Int) (w : World) (hp : p.At w w.heap.size) (ht : t.At w w.heap.size) (hpt : PT p t) (hpl : Five2 p.s.l.length pl) (h5 : Key5 pl) (hs : size < 5) (hM : Memo w mb N f) (hf : f pl = soldUp p t pl size t.g.l.length) :
    Calls Try.prog 113 #[.agg (offC p t A n c (size : Int) mb).toArray, .agg (vals pl)] w fun e w' => e = .returned (.int .i64 (f pl)) ∧ Memo w' mb (N + 1) f ∧ KC w w' ∧ StepB mb w w' := by
  have l1 : Lies ((w.alloc (.cells (offC p t A n c (size : Int) mb).toArray 147)).alloc (.cells (vals pl) 120)) (w.heap.size + 1) 120 (vals pl) := Lies.fresh' (by simp)
  have l0 : Lies ((w.alloc (.cells (offC p t A n c (size : Int) mb).toArray 147)).alloc (.cells (vals pl) 120)) w.heap.size 147 (offC p t A n c (size : Int) mb).toArray := (Lies.fresh _ _ _).alloc _
  have b0 : Below w.heap.size w ((w.alloc (.cells (offC p t A n c (size : Int) mb).toArray 147)).alloc (.cells (vals pl) 120)) := (by repeat (first | (with_reducible assumption) | (with_reducible exact Below.refl _ _) | (with_reducible refine Below.drew ?_) | (with_reducible refine below_drewN ?_ _) | ((with_reducible refine Below.setCell ?_ ?_ _); rotate_left; focus (first | (simp; done) | (simp; omega) | omega)) | ((with_reducible refine Below.alloc ?_ ?_ _); rotate_left; focus (first | (simp; done) | (simp; omega) | omega))))
  have qs := sells_any p t pl size _ (hp.below b0 b0.size) (ht.below b0 b0.size) hpt hpl hs
  rw [← hf] at qs
  have hM1 := hM.call b0
  have HMI := hM.in_
  obtain ⟨bb, hrun⟩ := memo_look hM1 h5
  have hfit : (Try.prog.info? 120).map (·.size) = some pl.length := by rw [h5.1]; exact size120
  have d13 := l0.at_ 13
  have d12 := l0.at_ 12
  have hr0 := offC_range l0
  have L0 := Lib.hid l0
  have L1 := Lib.hid l1
  have B0 := Lib.hid b0
  have QS := Lib.hid qs
  have M1 := Lib.hid hM1
  have H5 := Lib.hid h5
  have HF := Lib.hid hfit
  have HR0 := Lib.hid hr0
  clear l0 l1 b0 qs hM1 hM h5 hfit hf hp ht hpt hpl hr0
  unfold offC PlM.cells TrM.cells at d13 d12
  cases bb with
  | true =>
    have HRUN := Lib.hid hrun
    clear hrun
    unfold offC PlM.cells TrM.cells at HRUN L0 L1 B0 M1 HR0 ⊢
    go_enter Try.func113, Try.ntmps113
    go_wp2_with (first
      | (refine wpList_load_ints (o := ⟨some 10, _, _, _, _, _⟩) ?_ 120 (.tmp 3) ?_ (w.heap.size + 1) 0 ?_ 120 pl pl _ L1.out (fun j v h => by simpa using h) Try.underlying120 rfl HF.out ?_; rfl; rfl; rfl)
      | (refine wpList_look_run (o := ⟨some 11, _, _, _, _, _⟩) ?_ (.tmp 9) (.tmp 10) 145 ?_ _ _ _ ?_ ?_ HRUN.out ?_; rfl; rfl; rfl; rfl))
    go_ret
    exact ⟨rfl, M1.out.mono (by omega), KC.of_below B0.out, .of_below B0.out⟩
  | false =>
    have HRUN := Lib.hid hrun
    clear hrun
    unfold offC PlM.cells TrM.cells at HRUN L0 L1 B0 M1 QS HR0 ⊢
    go_enter Try.func113, Try.ntmps113
    go_wp2_with (first
      | (refine wpList_load_ints (o := ⟨some 10, _, _, _, _, _⟩) ?_ 120 (.tmp 3) ?_ (w.heap.size + 1) 0 ?_ 120 pl pl _ L1.out (fun j v h => by simpa using h) Try.underlying120 rfl HF.out ?_; rfl; rfl; rfl)
      | (refine wpList_look_run (o := ⟨some 11, _, _, _, _, _⟩) ?_ (.tmp 9) (.tmp 10) 145 ?_ _ _ _ ?_ ?_ HRUN.out ?_; rfl; rfl; rfl; rfl)
      | (refine wpList_load_mid (o := ⟨some 17, _, _, _, _, _⟩) ?_ 117 (.tmp 16) ?_ w.heap.size 0 ?_ _ _ HR0.out Try.underlying117 rfl size117 ?_; rfl; rfl; rfl)
      | (refine wpList_load_ints (o := ⟨some 18, _, _, _, _, _⟩) ?_ 120 (.tmp 3) ?_ (w.heap.size + 1) 0 ?_ 120 pl pl _ L1.out (fun j v h => by simpa using h) Try.underlying120 rfl HF.out ?_; rfl; rfl; rfl)
      | (go_at_call 77; refine QS.out.mono ?_; rintro e w2 ⟨rfl, hb2⟩; have M2 := Lib.hid (M1.out.call hb2); have L2 := Lib.hid (L1.out.call hb2); have e13 := (L0.out.call hb2).at_ 13)
      | (refine wpList_load_ints (o := ⟨some 24, _, _, _, _, _⟩) ?_ 120 (.tmp 3) ?_ (w.heap.size + 1) 0 ?_ 120 pl pl _ L2.out (fun j v h => by simpa using h) Try.underlying120 rfl HF.out ?_; rfl; rfl; rfl)
      | (at_mapUpdate; refine wpList_put_memo rfl (.tmp 23) (.tmp 24) (.tmp 25) rfl mb N f rfl M2.out pl H5.out rfl rfl ?_; intro w3 hM3 hk3 hk4))
    go_ret
    exact ⟨rfl, hM3, ((KC.of_below B0.out).call hb2).trans hk3, (StepB.of_below (B0.out.trans (hb2.mono B0.out.size))).trans hk4⟩
end Go.Proofs.Ytlkdmcdnkoiflaa

/- gives. -/
namespace Go.Proofs.Ytlkdmcdnkoiflaa
open Go.RowKit Go.Lib

theorem purF_of {n : Nat} {l : List Cr} {q : List Int} (ho : offB n l = 0) (hq : pairedB l q (fun c m => inB m 0 c.most) = true) : PurF l q := by
  obtain ⟨h4, hc⟩ := offB_zero ho
  obtain ⟨hl, hx⟩ := pairedB_iff.1 hq
  refine ⟨hl.symm, h4, fun k c x hk hkx => ?_⟩
  have h1 := Cr.ok_iff.1 (hc c (List.mem_of_getElem? hk))
  have h2 := inB_iff.1 (hx k c x hk hkx)
  exact ⟨h1.2.2.1, h1.2.1, by omega⟩
/-- What is planted at first with the first k kinds of a purchase. -/
def buyD (s0 : List Int) (l : List Cr) (q : List Int) : Nat → List Int
  | 0 => s0
  | k + 1 => (buyD s0 l q k).set (l.getD k default).size.toNat ((buyD s0 l q k).getD (l.getD k default).size.toNat 0 + (l.getD k default).bulbs * q.getD k 0)
theorem buy_length (s0 : List Int) (l : List Cr) (q : List Int) : ∀ k, (buyD s0 l q k).length = s0.length
  | 0 => rfl
  | k + 1 => by rw [buyD, List.length_set, buy_length s0 l q k]
theorem getD_set {l : List Int} {i j : Nat} {x : Int} (hj : j < l.length) : (l.set i x).getD j 0 = if i = j then x else l.getD j 0 := by
  simp only [List.getD, List.getElem?_set]
  by_cases h : i = j
  · subst h; simp [hj]
  · simp [h]
theorem buy_bd {s0 : List Int} {l : List Cr} {q : List Int} (h : PurF l q) (hs : ∀ i, i < s0.length → 0 ≤ s0.getD i 0 ∧ s0.getD i 0 ≤ 1000000) : ∀ k : Nat, k ≤ l.length → ∀ i, i < s0.length → 0 ≤ (buyD s0 l q k).getD i 0 ∧ (buyD s0 l q k).getD i 0 ≤ 1000000 + 9000000 * (k : Int)
  | 0, _, i, hi => by have := hs i hi; simpa [buyD] using this
  | k + 1, hk, i, hi => by
    have ih := buy_bd h hs k (by omega)
    obtain ⟨c, hc⟩ : ∃ c, l[k]? = some c := ⟨l[k], by simp⟩
    obtain ⟨x, hx⟩ : ∃ x, q[k]? = some x := ⟨q[k]'(by rw [h.len]; omega), by simp⟩
    have hb := h.b k c x hc hx
    have hm := prod_bd (a := c.bulbs) (m := 1000000) ⟨by omega, hb.2.1.2⟩ hb.2.2
    have ihi := ih i hi
    rw [buyD, at_getD hc, at_getD hx, getD_set (by rw [buy_length]; exact hi)]
    push_cast
    by_cases e : c.size.toNat = i
    · rw [if_pos e, e]; omega
    · rw [if_neg e]; omega
theorem buy_step {s0 : List Int} {l : List Cr} {q : List Int} {k : Nat} {c : Cr} {x : Int} (hc : l[k]? = some c) (hx : q[k]? = some x) : buyD s0 l q (k + 1) = (buyD s0 l q k).set c.size.toNat ((buyD s0 l q k).getD c.size.toNat 0 + c.bulbs * x) := by
  rw [buyD, at_getD hc, at_getD hx]
theorem key5_of {l : List Int} (h5 : l.length = 5) (hb : ∀ i, i < 5 → 0 ≤ l.getD i 0 ∧ l.getD i 0 ≤ 100000000) : Key5 l := by
  refine ⟨h5, fun x hx => ?_⟩
  obtain ⟨i, hi⟩ := List.getElem?_of_mem hx
  have hl : i < 5 := by rw [← h5]; exact (List.getElem?_eq_some_iff.1 hi).1
  have := hb i hl
  rw [at_getD hi] at this
  have h1 : IntKind.i64.min = -9223372036854775808 := by decide
  have h2 : IntKind.i64.max = 9223372036854775807 := by decide
  simp only [Lit.wf, Bool.and_eq_true, decide_eq_true_eq, h1, h2]
  omega
theorem five_of_room {p : PlM} (hv : p.Valid) {l : List Int} (h5 : l.length = 5) (hb : ∀ i, i < p.s.l.length → 0 ≤ l.getD i 0) (hr : roomB p l = true) : Five2 p.s.l.length l := by
  refine ⟨h5, fun i hi => ⟨hb i hi, ?_⟩⟩
  have h := List.all_eq_true.1 hr i (List.mem_range.2 hi)
  obtain ⟨q, hq⟩ : ∃ q, p.s.l[i]? = some q := ⟨p.s.l[i], by simp [hi]⟩
  obtain ⟨m, hm⟩ : ∃ m, p.r.l[i]? = some m := ⟨p.r.l[i]'(by have := hv.ok.r; omega), by simp⟩
  have h1 := hv.sb q (List.mem_of_getElem? hq)
  have h2 := hv.ok.rb m (List.mem_of_getElem? hm)
  unfold roomAt at h
  rw [decide_eq_true_eq, at_getD hq, at_getD hm] at h
  omega
theorem KC.set {w w1 : World} {G : Nat} (h : KC w w1) (hG : w.heap.size ≤ G) (i : Nat) (u : Value) : KC w (w1.setCell ⟨G, i, none⟩ u) :=
  ⟨by rw [(Only.set G i w1 u).size]; exact h.size, fun g cs T f hg => ((Only.set G i w1 u).block g (by have := (Array.getElem?_eq_some_iff.1 hg).1; omega)).trans (h.blk g cs T f hg)⟩
theorem KC.only {w w1 w2 : World} {G : Nat} (h : KC w w1) (hG : w.heap.size ≤ G) (ho : Only G w1 w2) : KC w w2 :=
  ⟨by rw [ho.size]; exact h.size, fun g cs T f hg => (ho.block g (by have := (Array.getElem?_eq_some_iff.1 hg).1; omega)).trans (h.blk g cs T f hg)⟩
theorem Memo.only {w w' : World} {b n G : Nat} {f : List Int → Int} {T : TypeId} {cs : Array Value} (h : Memo w b n f) (hl : Lies w G T cs) (ho : Only G w w') : Memo w' b n f := by
  obtain ⟨es, clock, hm, r⟩ := h
  refine ⟨es, clock, (ho.block b ?_).trans hm, r⟩
  rintro rfl
  unfold Lies at hl
  rw [hm] at hl; cases hl
/-- The memory of gives between two rounds. -/
structure GvM (p : PlM) (t : TrM) (A : Option Addr) (n c : Nat) (size : Int) (mb N : Nat) (f : List Int → Int) (pl : List Int) (w : World) (G : Nat) (wr : World) : Prop where
  l0 : Lies wr w.heap.size 147 (offC p t A n c size mb).toArray
  lG : Lies wr G 120 (vals pl)
  hG : w.heap.size < G
  kc : KC w wr
  mm : Memo wr mb N f
  sb : StepB mb w wr
  mlt : mb < w.heap.size
section
variable {p : PlM} {t : TrM} {A : Option Addr} {n c : Nat} {size : Int} {mb N : Nat} {f : List Int → Int} {pl : List Int} {w wr : World} {G : Nat}
theorem GvM.below (M : GvM p t A n c size mb N f pl w G wr) {wq : World} (hb : Below wr.heap.size wr wq) : GvM p t A n c size mb N f pl w G wq := ⟨M.l0.call hb, M.lG.call hb, M.hG, M.kc.call hb, M.mm.call hb, M.sb.below' hb, M.mlt⟩
theorem GvM.set (M : GvM p t A n c size mb N f pl w G wr) (i : Nat) (x : Int) : GvM p t A n c size mb N f (pl.set i x) w G (wr.setCell ⟨G, i, none⟩ (.int .i64 x)) :=
  ⟨M.l0.other (by have := M.hG; simp; omega) _, by have := M.lG.set i (.int .i64 x); rwa [vals_set] at this, M.hG, M.kc.set (by have := M.hG; omega) _ _, M.mm.only M.lG (Only.set _ _ _ _), M.sb.only_new (Only.set _ _ _ _) (by have := M.hG; omega), M.mlt⟩
end
theorem size147 : (Try.prog.info? 147).map (·.size) = some 14 := by kernel_rfl
theorem pad5_rest {l : List Int} {i : Nat} (h : l.length ≤ i) : (pad5 l).getD i 0 = 0 := by
  have key : ∀ j : Nat, ([0, 0, 0, 0, 0] : List Int)[j]?.getD 0 = 0 := fun j => by
    match j with
    | 0 | 1 | 2 | 3 | 4 => rfl
    | j + 5 => simp
  unfold pad5 splice
  rw [List.getD, List.take_zero, List.nil_append, List.getElem?_append_right h, List.getElem?_drop]
  exact key _
theorem gv_start {p : PlM} {t : TrM} {A : Option Addr} {n c : Nat} {size : Int} {mb N : Nat} {f : List Int → Int} {pl : List Int} {w w0 w1 w2 : World} (hl : Lies w0 w.heap.size 147 (offC p t A n c size mb).toArray) (hkc : KC w w0) (hm : Memo w0 mb N f) (hmw : mb < w.heap.size) (hbw : Below w.heap.size w w0) (hb1 : Below w0.heap.size w0 w1)
    (h2 : Lies w2 w1.heap.size 120 (vals pl)) (ho : Only w1.heap.size (w1.alloc (.cells (vals z5) 120)) w2) : GvM p t A n c size mb N f pl w w1.heap.size w2 := by
  have h1 := hl.in_
  have h3 := hb1.size
  have hb2 := (Below.refl w1.heap.size w1).alloc (Nat.le_refl _) (.cells (vals z5) 120)
  exact ⟨((hl.call hb1).alloc _).to_ (ho.block _ (by omega)), h2, by omega, ((hkc.call hb1).alloc _).only (by omega) ho, ((hm.call hb1).call hb2).only (Lies.fresh _ _ _) ho, ((StepB.of_below (hbw.trans (hb1.mono hbw.size))).below' hb2).only_new ho (by omega), hmw⟩
/-- What gives hands back. -/
def giveV (p : PlM) (t : TrM) (size : Nat) (pl : List Int) : Value := .tuple #[.int .i64 (if roomB p pl then soldUp p t pl size t.g.l.length else 0), .bool (roomB p pl)]
theorem giveV_no {p : PlM} {t : TrM} {size : Nat} {pl : List Int} (h : false = roomB p pl) : giveV p t size pl = .tuple #[.int .i64 0, .bool false] := by unfold giveV; rw [← h]; rfl
theorem giveV_yes {p : PlM} {t : TrM} {size : Nat} {pl : List Int} (h : true = roomB p pl) : giveV p t size pl = .tuple #[.int .i64 (soldUp p t pl size t.g.l.length), .bool true] := by unfold giveV; rw [← h]; rfl
set_option maxRecDepth 100000 in
set_option maxHeartbeats 4000000 in
theorem gives_any (p : PlM) (t : TrM) (A A' : Option Addr) (c c' size : Nat) (mb N : Nat) (l : List Cr) (q : List Int) (w : World) (hp : p.At w w.heap.size) (ht : t.At w w.heap.size) (hv : p.Valid) (hpt : PT p t) (hts : t.s.l = p.s.l.map (·.1)) (hs : size < 5) (ho : offB p.s.l.length l = 0)
    (hA : Sl w w.heap.size 4 encCr A l) (hA' : Sl w w.heap.size 1 encI A' q) (hq : pairedB l q (fun c m => inB m 0 c.most) = true) (hM : Memo w mb N fun pl => soldUp p t pl size t.g.l.length) :
    Calls Try.prog 83 #[.agg (offC p t A l.length c (size : Int) mb).toArray, .slice A' q.length c'] w fun e w' =>
      e = .returned (giveV p t size (buyD (pad5 t.s.l) l q l.length)) ∧ Memo w' mb (N + 1) (fun pl => soldUp p t pl size t.g.l.length) ∧ KC w w' ∧ StepB mb w w' := by
  have hf := purF_of ho hq
  have hcs := (offB_zero ho).2
  have hn5 := hv.ok.n
  have hsl : t.s.l.length = p.s.l.length := by rw [hts]; simp
  have h5 : (pad5 t.s.l).length = 5 := pad5_length (by omega)
  have hs0 : ∀ i, i < (pad5 t.s.l).length → 0 ≤ (pad5 t.s.l).getD i 0 ∧ (pad5 t.s.l).getD i 0 ≤ 1000000 := fun i hi => by
    by_cases h : i < t.s.l.length
    · rw [pad5_getD (by omega) i h, hts]
      obtain ⟨r, hr⟩ : ∃ r, p.s.l[i]? = some r := ⟨p.s.l[i]'(by omega), by simp⟩
      have := hv.sb r (List.mem_of_getElem? hr)
      rw [at_getD (x := r.1) (by rw [List.getElem?_map, hr]; rfl)]
      omega
    · have : (pad5 t.s.l).getD i 0 = 0 := pad5_rest (by omega)
      rw [this]; omega
  have hbd := buy_bd hf hs0
  have hl4 : (l.length : Int) ≤ 4 := by have := hf.four; omega
  have hql : (q.length : Int) = (l.length : Int) := by have := hf.len; omega
  have l0 : Lies (w.alloc (.cells (offC p t A l.length c (size : Int) mb).toArray 147)) w.heap.size 147 (offC p t A l.length c (size : Int) mb).toArray := Lies.fresh _ _ _
  have b0 : Below w.heap.size w (w.alloc (.cells (offC p t A l.length c (size : Int) mb).toArray 147)) := (Below.refl _ _).alloc (Nat.le_refl _) _
  have qs := start_any p t _ (ht.below b0 b0.size) (by omega)
  have hfit : 0 + (pad5 t.s.l).length ≤ z5.length ∧ (Try.prog.info? 120).map (·.size) = some (pad5 t.s.l).length := by rw [h5]; exact ⟨by decide, size120⟩
  have hr0 := offC_range l0
  have hsp : splice z5 0 (pad5 t.s.l) = pad5 t.s.l := splice_all (by rw [h5]; rfl)
  have HP := Lib.hid hp
  have HT := Lib.hid ht
  have HV := Lib.hid hv
  have HPT := Lib.hid hpt
  have HA := Lib.hid hA
  have HA' := Lib.hid hA'
  have HF := Lib.hid hf
  have HCS := Lib.hid hcs
  have HBD := Lib.hid hbd
  have H5 := Lib.hid h5
  have HQL := Lib.hid hql
  have L0 := Lib.hid l0
  have B0 := Lib.hid b0
  have QS := Lib.hid qs
  have HFIT := Lib.hid hfit
  have HR0 := Lib.hid hr0
  have HSP := Lib.hid hsp
  have MM := Lib.hid (hM.call b0)
  have HMI := Lib.hid hM.in_
  have hn5z : (p.s.l.length : Int) ≤ 5 := by omega
  clear hp ht hv hpt hts ho hA hA' hq hM hf hcs hbd h5 hs0 hql l0 b0 qs hfit hr0 hsp hsl hn5
  generalize pad5 t.s.l = s0 at *
  have KB := Lib.hid (KC.of_below B0.out)
  have hgs := fun (w1 w2 : World) (hb1 : Below (w.alloc (.cells (offC p t A l.length c (size : Int) mb).toArray 147)).heap.size (w.alloc (.cells (offC p t A l.length c (size : Int) mb).toArray 147)) w1) (h2 : Lies w2 w1.heap.size 120 (vals s0)) (ho : Only w1.heap.size (w1.alloc (.cells (vals z5) 120)) w2) => gv_start L0.out KB.out MM.out HMI.out B0.out hb1 h2 ho
  have HGS := Lib.hid hgs
  clear hgs MM KB
  unfold offC PlM.cells TrM.cells at L0 QS HR0 B0 HGS ⊢
  go_enter Try.func83, Try.ntmps83
  go_wp2_with (first
    | (refine wpList_load_mid (o := ⟨some 10, _, _, _, _, _⟩) ?_ 117 (.tmp 9) ?_ w.heap.size 0 ?_ _ _ HR0.out Try.underlying117 rfl size117 ?_; rfl; rfl; rfl)
    | (go_at_call 75; refine QS.out.mono ?_; rintro e w1 ⟨rfl, hb1⟩)
    | (refine wpList_store_ints (o := ⟨none, .store 120 (.tmp 6) _, _, _, _, _⟩) ?_ 120 (.tmp 6) (.tmp 11) ?_ w1.heap.size 0 ?_ 120 z5 s0 ?_ (Lies.fresh w1 120 (vals z5)) HFIT.out.1 HFIT.out.2 ?_; rfl; rfl; rfl; rfl; intro w2 HS2 HO2; have M0 := Lib.hid (HGS.out w1 w2 hb1 (by have := HS2.out; rwa [HSP.out] at this) HO2.out); have e11 : w2.cell? ⟨w.heap.size, 11, none⟩ = some (.slice A l.length c) := M0.out.l0.at_ 11))
  clear HS2 HO2 e11 HGS L0 B0 QS HR0 hb1 HSP HFIT
  generalize w1.heap.size = G at *
  clear w1
  go_loopw [7, 8, 15] (fun _ _ i wr => ∃ k : Nat, k ≤ l.length ∧ i = .int .i64 k ∧ Aside (GvM p t A l.length c (size : Int) mb N (fun pl => soldUp p t pl size t.g.l.length) (buyD s0 l q k) w G wr)) (fun _ _ i _ => l.length - (intOf i).toNat)
  case atStart => exact ⟨0, by omega, rfl, M0.out⟩
  case round =>
    obtain ⟨k, hk, rfl, M⟩ := hrel
    have M := Lib.hid M.out
    clear M0
    by_cases hlt : k < l.length
    · have hltz : (k : Int) < (l.length : Int) := by omega
      have hk0 : (0 : Int) ≤ (k : Int) := by omega
      have hkq : (k : Int) < (q.length : Int) := by have := HQL.out; omega
      obtain ⟨x, hx⟩ : ∃ x, l[k]? = some x := ⟨l[k], by simp [hlt]⟩
      obtain ⟨y, hy⟩ : ∃ y, q[k]? = some y := ⟨q[k]'(by omega), by simp⟩
      have hok := Cr.ok_iff.1 (HCS.out x (List.mem_of_getElem? hx))
      have hfb := HF.out.b k x y hx hy
      have hbs := buy_step (s0 := s0) hx hy
      obtain ⟨sz, bu, pr, mo⟩ := x
      obtain ⟨sn, rfl⟩ : ∃ sn : Nat, sz = (sn : Int) := ⟨sz.toNat, by have := hok.1.1; simp only at this; omega⟩
      simp only [Int.toNat_natCast] at hbs hok hfb
      have hsn : sn < 5 := by have := hok.1.2; omega
      have hsnz : (sn : Int) < 5 := by omega
      have hsn0 : (0 : Int) ≤ (sn : Int) := by omega
      obtain ⟨b, off, rfl, hb1, c0, c1, c2, c3⟩ := HA.out.cellCr hx
      obtain ⟨b', off', rfl, hb2, d0⟩ := HA'.out.cell1 hy
      have l2 : wr.cell? ⟨b, off + k * 4, none⟩ = some (.int .i64 (sn : Int)) := M.out.kc.cell c0
      have l3 : wr.cell? ⟨b, off + k * 4 + 1, none⟩ = some (.int .i64 bu) := M.out.kc.cell c1
      have l4 : wr.cell? ⟨b, off + k * 4 + 2, none⟩ = some (.int .i64 pr) := M.out.kc.cell c2
      have l5 : wr.cell? ⟨b, off + k * 4 + 3, none⟩ = some (.int .i64 mo) := M.out.kc.cell c3
      have m2 := M.out.kc.cell d0
      have hm := prod_bd (a := bu) (m := 1000000) ⟨by have := hfb.2.1.1; omega, hfb.2.1.2⟩ hfb.2.2
      have hm0 := hm.1
      have hm1 : bu * y ≤ 9000000 := by have := hm.2; omega
      have hl5 : (buyD s0 l q k).length = 5 := by rw [buy_length]; exact H5.out
      obtain ⟨v, hvv⟩ : ∃ v, (buyD s0 l q k)[sn]? = some v := ⟨(buyD s0 l q k)[sn]'(by omega), by simp⟩
      have hvb := HBD.out k (by omega) sn (by rw [H5.out]; exact hsn)
      rw [at_getD hvv] at hvb hbs
      have hv0 := hvb.1
      have hv1 : v ≤ 100000000 := by have := hvb.2; omega
      have HBS := Lib.hid hbs
      have HVV := Lib.hid hvv
      have hWb := (Below.refl wr.heap.size wr).alloc (Nat.le_refl _) (.cells #[.int .i64 (sn : Int), .int .i64 bu, .int .i64 pr, .int .i64 mo] 93)
      have hGc : wr.cell? ⟨G, sn, none⟩ = some (.int .i64 v) := by rw [M.out.lG.at_]; simp [vals, hvv]
      have M1 := Lib.hid (M.out.below hWb)
      generalize hmd : bu * y = m at *
      have hmw : IntKind.i64.wrap (bu * y) = m := by rw [hmd]; exact IntWalk.i64_in (by omega) (by omega)
      have r0 : ∀ cc : Cls (fun W => Below (wr.alloc (.cells #[.int .i64 (sn : Int), .int .i64 bu, .int .i64 pr, .int .i64 mo] 93)).heap.size (wr.alloc (.cells #[.int .i64 (sn : Int), .int .i64 bu, .int .i64 pr, .int .i64 mo] 93)) W), cc.val.cell? ⟨wr.heap.size, 0, none⟩ = some (.int .i64 (sn : Int)) := fun cc => (KC.of_below cc.h).cell (by simp [World.cell?_alloc_new])
      have r1 : ∀ cc : Cls (fun W => Below (wr.alloc (.cells #[.int .i64 (sn : Int), .int .i64 bu, .int .i64 pr, .int .i64 mo] 93)).heap.size (wr.alloc (.cells #[.int .i64 (sn : Int), .int .i64 bu, .int .i64 pr, .int .i64 mo] 93)) W), cc.val.cell? ⟨wr.heap.size, 1, none⟩ = some (.int .i64 bu) := fun cc => (KC.of_below cc.h).cell (by simp [World.cell?_alloc_new])
      have r2 : ∀ cc : Cls (fun W => Below (wr.alloc (.cells #[.int .i64 (sn : Int), .int .i64 bu, .int .i64 pr, .int .i64 mo] 93)).heap.size (wr.alloc (.cells #[.int .i64 (sn : Int), .int .i64 bu, .int .i64 pr, .int .i64 mo] 93)) W), cc.val.cell? ⟨G, sn, none⟩ = some (.int .i64 v) := fun cc => (KC.of_below cc.h).cell ((KC.of_below hWb).cell hGc)
      have r3 : ∀ cc : Cls (fun W => Below (wr.alloc (.cells #[.int .i64 (sn : Int), .int .i64 bu, .int .i64 pr, .int .i64 mo] 93)).heap.size (wr.alloc (.cells #[.int .i64 (sn : Int), .int .i64 bu, .int .i64 pr, .int .i64 mo] 93)) W), cc.val.cell? ⟨b', off' + k, none⟩ = some (.int .i64 y) := fun cc => (KC.of_below cc.h).cell ((KC.of_below hWb).cell m2)
      haveI hne : Nonempty (Cls (fun W => Below (wr.alloc (.cells #[.int .i64 (sn : Int), .int .i64 bu, .int .i64 pr, .int .i64 mo] 93)).heap.size (wr.alloc (.cells #[.int .i64 (sn : Int), .int .i64 bu, .int .i64 pr, .int .i64 mo] 93)) W)) := ⟨⟨_, Below.refl _ _⟩⟩
      clear c0 c1 c2 c3 d0 hx hy hok hfb hbs hm hvb hvv hWb hGc M hl5 hb1 hb2 m2
      go_upto_region 5 with (fail)
      generalize wr.alloc (.cells #[.int .i64 (sn : Int), .int .i64 bu, .int .i64 pr, .int .i64 mo] 93) = w5 at *
      refine wp_region_ways3 13 [0, 1, 2, 3, 4, 5, 6, 7, 8, 9, 10, 11, 12] .fin (fun W => ∃ cc : Cls (fun W => Below w5.heap.size w5 W), W = cc.val) (by kernel_rfl) (by kernel_rfl) (Cls.here (Below.refl _ _).drew) ?_
      simp only [List.filterMap_cons, List.filterMap_nil, List.take_succ_cons, List.take_zero, List.getElem?_toArray, List.getElem?_cons_zero, List.getElem?_cons_succ, List.drop_succ_cons, List.drop_zero]
      repeat (first | go_big_quiet_step (fail) | quiet_step (fail))
      refine wpQuiet_nil ?_
      rw [wpWy_fin]
      clear r0 r1 r2 r3 hne
      have MD := Lib.hid (M1.out.below (Below.refl _ _).drew)
      have c9 : w5.drew.cell? ⟨G, sn, none⟩ = some (.int .i64 v) := by rw [MD.out.lG.at_]; simp [vals, HVV.out]
      have f9 : w5.drew.frozen? ⟨G, sn, none⟩ = false := MD.out.lG.free _
      clear M1
      generalize w5.drew = wd at *
      go_wp2_with (fail)
      go_roundw
      case rel => exact ⟨k + 1, by omega, by go_num, by rw [HBS.out]; exact MD.out.set sn _⟩
      case measure => simp [intOf]; omega
    · obtain rfl : k = l.length := by omega
      obtain ⟨pl, hpl⟩ : ∃ pl, pl = buyD s0 l q l.length := ⟨_, rfl⟩
      have hl5 : pl.length = 5 := by rw [hpl, buy_length]; exact H5.out
      have hb8 : ∀ i, i < 5 → 0 ≤ pl.getD i 0 ∧ pl.getD i 0 ≤ 100000000 := fun i hi => by
        have := HBD.out l.length (by omega) i (by rw [H5.out]; exact hi)
        rw [← hpl] at this
        omega
      have hk5 := key5_of hl5 hb8
      have hMl := M.out
      rw [← hpl] at hMl
      have hpw : ∀ W, KC w W → p.At W W.heap.size := fun W hW => HP.out.kc hW hW.size
      have qh := hasRoom_any p t A l.length c (size : Int) mb pl wr (hpw wr hMl.kc) HV.out hl5 (fun i hi => hb8 i (by have := HV.out.ok.n; omega))
      have qsu : roomB p pl = true → ∀ W, Below wr.heap.size wr W → Calls Try.prog 113 #[.agg (offC p t A l.length c (size : Int) mb).toArray, .agg (vals pl)] W fun e w' => e = .returned (.int .i64 (soldUp p t pl size t.g.l.length)) ∧ Memo w' mb (N + 1) (fun pl => soldUp p t pl size t.g.l.length) ∧ KC W w' ∧ StepB mb W w' := fun hr W hb =>
        sure_any p t A l.length c size mb N (fun pl => soldUp p t pl size t.g.l.length) pl W (hpw W (hMl.kc.call hb)) (HT.out.kc (hMl.kc.call hb) (hMl.kc.call hb).size) HPT.out (five_of_room HV.out hl5 (fun i hi => (hb8 i (by have := HV.out.ok.n; omega)).1) hr) hk5 hs (hMl.mm.call hb) rfl
      have hfi : (Try.prog.info? 120).map (·.size) = some pl.length := by rw [hl5]; exact size120
      obtain ⟨rb, hrb⟩ : ∃ rb, rb = roomB p pl := ⟨_, rfl⟩
      rw [← hrb] at qh qsu
      have HRB := Lib.hid hrb
      have HPL := Lib.hid hpl
      have QH := Lib.hid qh
      have QSU := Lib.hid qsu
      have HFI := Lib.hid hfi
      have MM := Lib.hid hMl
      clear hl5 hb8 hk5 hMl hpw qh qsu hfi hrb hpl M
      cases rb with
      | false =>
        go_wp2_with (first
          | (refine wpList_load_row (o := ⟨some 34, _, _, _, _, _⟩) ?_ 147 (.tmp 2) ?_ w.heap.size ?_ 147 (offC p t A l.length c (size : Int) mb).toArray (0, 0) _ MM.out.l0 Try.underlying147 rfl size147 ?_; rfl; rfl; rfl)
          | (refine wpList_load_ints (o := ⟨some 35, _, _, _, _, _⟩) ?_ 120 (.tmp 6) ?_ G 0 ?_ 120 pl pl _ MM.out.lG (fun j v h => by simpa using h) Try.underlying120 rfl HFI.out ?_; rfl; rfl; rfl)
          | (go_at_call 112; refine QH.out.mono ?_; rintro e w7 ⟨rfl, hb7⟩))
        go_ret2
        exact ⟨by rw [← HPL.out, giveV_no HRB.out]; rfl, (MM.out.mm.call hb7).mono (by omega), MM.out.kc.call hb7, (MM.out.below hb7).sb⟩
      | true =>
        have QS2 := Lib.hid (QSU.out rfl)
        clear QSU
        go_wp2_with (first
          | (refine wpList_load_row (o := ⟨some 34, _, _, _, _, _⟩) ?_ 147 (.tmp 2) ?_ w.heap.size ?_ 147 (offC p t A l.length c (size : Int) mb).toArray (0, 0) _ MM.out.l0 Try.underlying147 rfl size147 ?_; rfl; rfl; rfl)
          | (refine wpList_load_ints (o := ⟨some 35, _, _, _, _, _⟩) ?_ 120 (.tmp 6) ?_ G 0 ?_ 120 pl pl _ MM.out.lG (fun j v h => by simpa using h) Try.underlying120 rfl HFI.out ?_; rfl; rfl; rfl)
          | (go_at_call 112; refine QH.out.mono ?_; rintro e w7 ⟨rfl, hb7⟩; have M7 := Lib.hid (MM.out.below hb7))
          | (refine wpList_load_row (o := ⟨some 38, _, _, _, _, _⟩) ?_ 147 (.tmp 2) ?_ w.heap.size ?_ 147 (offC p t A l.length c (size : Int) mb).toArray (0, 0) _ M7.out.l0 Try.underlying147 rfl size147 ?_; rfl; rfl; rfl)
          | (refine wpList_load_ints (o := ⟨some 39, _, _, _, _, _⟩) ?_ 120 (.tmp 6) ?_ G 0 ?_ 120 pl pl _ M7.out.lG (fun j v h => by simpa using h) Try.underlying120 rfl HFI.out ?_; rfl; rfl; rfl)
          | (go_at_call 113; refine (QS2.out _ hb7).mono ?_; rintro e w8 ⟨rfl, hM8, hk8, hk9⟩))
        go_ret2
        exact ⟨by rw [← HPL.out, giveV_yes HRB.out]; rfl, hM8, M7.out.kc.trans hk8, M7.out.sb.trans hk9⟩
end Go.Proofs.Ytlkdmcdnkoiflaa

/- newOffer. -/
namespace Go.Proofs.Ytlkdmcdnkoiflaa
open Go.RowKit Go.Lib

def zoffer : List Value := zcourse ++ [.slice none 0 0, .int .i64 0, .map none]
/-- What newOffer hands back: a course of the plan in the truth that sells least, the crates, the size, and a map of nothing. -/
def RetOf (p : PlM) (A : Option Addr) (n c : Nat) (size : Int) (Y : Nat) (w : World) (e : Ending) (w' : World) : Prop :=
  ∃ (t : TrM) (mb : Nat), e = .returned (.agg (offC p t A n c size mb).toArray) ∧ t.At w' w'.heap.size ∧ PT p t ∧ t.s.l = p.s.l.map (·.1) ∧ t.g.l.length = Y ∧ (∀ pl (z : Nat), soldUp p t pl z Y = sellsD p.d (·.1) (·.2) pl z Y) ∧ (∀ f, Memo w' mb 0 f) ∧ w.heap.size ≤ mb ∧ Below w.heap.size w w'
theorem built_offer (A1 A2 A3 A4 A5 A6 A7 A8 A9 : Option Addr) (n1 n2 n3 n4 n5 n6 n7 n8 n9 c1 c2 c3 c4 c5 c6 c7 c8 c9 : Nat) (a b c size : Int) (mb : Nat) :
    Try.prog.built 147 [(0, .agg #[.slice A1 n1 c1, .slice A2 n2 c2, .slice A3 n3 c3, .slice A4 n4 c4, .slice A5 n5 c5, .int .i64 a, .int .i64 b, .int .i64 c, .slice A6 n6 c6, .slice A7 n7 c7, .slice A8 n8 c8]), (1, .slice A9 n9 c9), (2, .int .i64 size), (3, .map (some mb))] =
      some #[.slice A1 n1 c1, .slice A2 n2 c2, .slice A3 n3 c3, .slice A4 n4 c4, .slice A5 n5 c5, .int .i64 a, .int .i64 b, .int .i64 c, .slice A6 n6 c6, .slice A7 n7 c7, .slice A8 n8 c8, .slice A9 n9 c9, .int .i64 size, .map (some mb)] := by kernel_rfl
theorem built_offer' (p : PlM) (t : TrM) (A : Option Addr) (n c : Nat) (size : Int) (mb : Nat) : Try.prog.built 147 [(0, .agg (p.cells ++ t.cells).toArray), (1, .slice A n c), (2, .int .i64 size), (3, .map (some mb))] = some (offC p t A n c size mb).toArray :=
  built_offer p.s.A p.r.A p.g.A p.e.A p.k.A t.s.A t.g.A t.l.A A p.s.l.length p.r.l.length p.g.l.length p.e.l.length p.k.l.length t.s.l.length t.g.l.length t.l.l.length n p.s.c p.r.c p.g.c p.e.c p.k.c t.s.c t.g.c t.l.c c p.lo p.hi p.years size mb
/-- A truth that lies behind block b. -/
def TAt (t : TrM) (w : World) (b : Nat) : Prop := ∃ lo hi, b ≤ lo ∧ hi ≤ w.heap.size ∧ t.Within w lo hi
theorem TAt.call {t : TrM} {w w' : World} {b : Nat} (h : TAt t w b) (hb : Below w.heap.size w w') : TAt t w' b := by
  obtain ⟨lo, hi, h1, h2, h3⟩ := h
  exact ⟨lo, hi, h1, Nat.le_trans h2 hb.size, h3.mid fun j _ hj => hb.block j (by omega)⟩
theorem TAt.only {t : TrM} {w w' : World} {b G : Nat} (h : TAt t w b) (ho : Only G w w') (hG : G < b) : t.At w' w'.heap.size := by
  obtain ⟨lo, hi, h1, h2, h3⟩ := h
  exact (h3.mid fun j hj _ => ho.block j (by omega)).at (by rw [ho.size]; exact h2)
set_option maxRecDepth 100000 in
set_option maxHeartbeats 4000000 in
theorem newOffer_any (p : PlM) (A : Option Addr) (n c : Nat) (size : Int) (Y : Nat) (w : World) (hp : p.At w w.heap.size) (hv : p.Valid) (hY : p.years = (Y : Int)) :
    Calls Try.prog 82 #[.agg p.cells.toArray, .slice A n c, .int .i64 size] w (RetOf p A n c size Y w) := by
  have hY6 : Y ≤ 6 := by have := hv.y; omega
  have l0 : Lies ((w.alloc (.cells p.cells.toArray 41)).alloc (.cells zoffer.toArray 147)) w.heap.size 41 p.cells.toArray := (Lies.fresh _ _ _).alloc _
  have l1 : Lies ((w.alloc (.cells p.cells.toArray 41)).alloc (.cells zoffer.toArray 147)) (w.heap.size + 1) 147 zoffer.toArray := Lies.fresh' (by simp)
  have b0 : Below w.heap.size w ((w.alloc (.cells p.cells.toArray 41)).alloc (.cells zoffer.toArray 147)) := (by repeat (first | (with_reducible assumption) | (with_reducible exact Below.refl _ _) | (with_reducible refine Below.drew ?_) | (with_reducible refine below_drewN ?_ _) | ((with_reducible refine Below.setCell ?_ ?_ _); rotate_left; focus (first | (simp; done) | (simp; omega) | omega)) | ((with_reducible refine Below.alloc ?_ ?_ _); rotate_left; focus (first | (simp; done) | (simp; omega) | omega))))
  have hF : ∀ W, Below w.heap.size w W → Calls Try.prog 70 #[.agg p.cells.toArray, .agg (endsC 109 109 108 109).toArray] W (FollowR p (·.1) (·.1) (·.2) Y W) := fun W hb => follow_any p _ _ _ _ _ _ _ Y W (hp.below hb hb.size) hY hY6 takes_low takes_low takes_high
  have hEnd : ∀ (t : TrM), t.s.l = p.s.l.map (·.1) → t.g.l.length = Y → (∀ y, y ∈ t.g.l → y.l.map (·.l) = p.g.l.map fun x => x.l.map (·.1)) → t.l.l = List.replicate Y ((p.lo, p.hi) : Int × Int).2 → PT p t ∧ ∀ pl (z : Nat), soldUp p t pl z Y = sellsD p.d (·.1) (·.2) pl z Y := fun t e1 e2 e3 e4 =>
    ⟨ends_fit hv between_low between_low between_high hY e1 e2 e3 e4, fun pl z => soldUp_ends (fb := (·.1)) (fc := (·.2)) e2 e3 e4 pl z⟩
  have HF := Lib.hid hF
  have HEND := Lib.hid hEnd
  have L0 := Lib.hid l0
  have L1 := Lib.hid l1
  have B0 := Lib.hid b0
  clear hF hEnd l0 l1 b0 hv hY hp
  unfold PlM.cells
  go_enter Try.func82, Try.ntmps82
  go_upto_region 1 with (fail)
  change Code.wp _ _ _ _ ((w.alloc (.cells p.cells.toArray 41)).alloc (.cells zoffer.toArray 147))
  have hsz1 : ((w.alloc (.cells p.cells.toArray 41)).alloc (.cells zoffer.toArray 147)).heap.size = w.heap.size + 2 := by simp
  generalize (w.alloc (.cells p.cells.toArray 41)).alloc (.cells zoffer.toArray 147) = w1 at *
  have hrg : ∀ W, (∃ cc : Cls (fun W => Below w1.heap.size w1 W), W = cc.val) → W.rangeAt w.heap.size 0 p.cells := by
    rintro W ⟨cc, rfl⟩
    exact Lies.range (cs := p.cells) (L0.out.call cc.h) (fun j v hj => by simpa using hj)
  have HRG := Lib.hid hrg
  clear hrg L0
  haveI hne : Nonempty (Cls (fun W => Below w1.heap.size w1 W)) := ⟨⟨w1, Below.refl _ _⟩⟩
  refine wp_region_ways3 6 [0, 3, 4] (.way 1 (.way 2 (.way 5 .fin .fin) (.way 5 (.way 2 .fin .fin) .fin)) (.way 5 (.way 1 (.way 2 .fin .fin) .fin) .fin)) (fun W => ∃ cc : Cls (fun W => Below w1.heap.size w1 W), W = cc.val) (by kernel_rfl) (by kernel_rfl) (Cls.here (Below.refl _ _).drew) ?_
  simp only [List.filterMap_cons, List.filterMap_nil, List.take_succ_cons, List.take_zero, List.getElem?_toArray, List.getElem?_cons_zero, List.getElem?_cons_succ, List.drop_succ_cons, List.drop_zero]
  repeat (first
    | (refine wpQuiet_load_whole (o := ⟨some 7, _, _, _, _, _⟩) ?_ 41 (.tmp 3) ?_ w.heap.size 0 ?_ p.cells _ HRG.out Try.underlying41 rfl size41 ?_; rfl; rfl; rfl; simp only [Act.put, List.setIfInBounds_toArray, List.set_cons_zero, List.set_cons_succ])
    | go_big_quiet_step (rfl) | quiet_step (rfl))
  refine wpQuiet_nil ?_
  clear HRG
  have D0 := Lib.hid (show Below w1.heap.size w1 w1.drew from (Below.refl _ _).drew)
  generalize w1.drew = d0 at *
  have hmm := @run_makeMap Try.prog
  rw [wpWy_way]
  refine ⟨?_, ?_⟩
  · simp only [List.getElem?_toArray, List.getElem?_cons_succ, List.getElem?_cons_zero]
    go_wp2_with (go_at_call 72; refine (lesserEnds_any _).mono ?_; rintro e d1 ⟨rfl, hb1⟩)
    have D1 := Lib.hid (D0.out.trans (hb1.mono D0.out.size))
    refine Ends.intro ⟨Cls.here D1.out, ?_⟩
    rw [wpWy_way]
    refine ⟨?_, ?_⟩
    · simp only [List.getElem?_toArray, List.getElem?_cons_succ, List.getElem?_cons_zero]
      go_wp2_with (go_at_call 70; refine (HF.out _ (B0.out.trans (D1.out.mono B0.out.size))).mono ?_; rintro e d2 ⟨t, rfl, ht, e1, e2, e3, e4, hb2⟩)
      have D2 := Lib.hid (D1.out.trans (hb2.mono D1.out.size))
      have T2 := Lib.hid (show TAt t d2 (w.heap.size + 2) from ⟨_, _, by have := D1.out.size; omega, Nat.le_refl _, ht⟩)
      obtain ⟨hpt, hso⟩ := HEND.out t e1 e2 e3 e4
      refine Ends.intro ⟨Cls.here D2.out, ?_⟩
      rw [wpWy_way]
      refine ⟨?_, by exact trivial⟩
      simp only [List.getElem?_toArray, List.getElem?_cons_succ, List.getElem?_cons_zero]
      go_wp2_with (fail)
      have hb3 := (Below.refl d2.heap.size d2).alloc (Nat.le_refl _) (.map #[] 0)
      have D3 := Lib.hid (D2.out.trans (hb3.mono D2.out.size))
      have HM3 := Lib.hid (memo_made d2)
      obtain ⟨mb, hmb⟩ : ∃ mb, mb = d2.heap.size := ⟨_, rfl⟩
      rw [← hmb] at HM3 ⊢
      have HLE := Lib.hid (show w.heap.size ≤ mb by have := D2.out.size; omega)
      clear hmb
      generalize d2.alloc (.map #[] 0) = d3 at *
      refine Ends.intro ⟨Cls.here D3.out, ?_⟩
      have T3 := Lib.hid (T2.out.call hb3)
      rw [wpWy_fin]
      have Z5 := Lib.hid (L1.out.call D3.out)
      have BB := Lib.hid (B0.out.trans (D3.out.mono B0.out.size))
      refine wpList_build (o := ⟨some 13, _, _, _, _, _⟩) ?_ 147 #[(0, .tmp 9), (1, .tmp 10), (2, .tmp 11), (3, .tmp 12)] ?_ #[(0, .agg (p.cells ++ t.cells).toArray), (1, .slice A n c), (2, .int .i64 size), (3, .map (some mb))] ?_ (offC p t A n c size mb).toArray ?_ ?_
      rfl; rfl; (simp only [List.map_toArray, List.map_cons, List.map_nil]; rfl)
      exact built_offer' p t A n c size mb
      simp only [Act.put, List.setIfInBounds_toArray, List.set_cons_zero, List.set_cons_succ]
      refine wpList_store_cells (o := ⟨none, .store 147 (.tmp 6) _, _, _, _, _⟩) ?_ 147 (.tmp 6) (.tmp 13) ?_ (w.heap.size + 1) 0 ?_ 147 zoffer (offC p t A n c size mb) ?_ Z5.out (by simp [offC, PlM.cells, TrM.cells, zoffer]) size147 (by simp [offC, PlM.cells, TrM.cells, Value.oneCell']) ?_
      rfl; rfl; rfl; rfl
      intro w9 HS9 HO9
      refine wpList_nil ?_
      have hs9 := HS9.out
      rw [splice_whole (by simp [offC, PlM.cells, TrM.cells, zoffer])] at hs9
      have ht9 : t.At w9 w9.heap.size := T3.out.only HO9.out (by omega)
      go_wp2_with (fail)
      exact bodyPost_ret (results_cell_row rfl _ _ (w.heap.size + 1) 147 (offC p t A n c size mb).toArray (0, 0) _ rfl hs9 Try.underlying147 rfl size147) rfl ⟨t, mb, rfl, ht9, hpt, e1, e2, hso, fun f => (HM3.out f).only Z5.out HO9.out, HLE.out, HO9.out.below BB.out (by omega)⟩
    · rw [wpWy_way]
      refine ⟨?_, by exact trivial⟩
      simp only [List.getElem?_toArray, List.getElem?_cons_succ, List.getElem?_cons_zero]
      go_wp2_with (fail)
      have hb2 := (Below.refl d1.heap.size d1).alloc (Nat.le_refl _) (.map #[] 0)
      have D2 := Lib.hid (D1.out.trans (hb2.mono D1.out.size))
      have HM2 := Lib.hid (memo_made d1)
      obtain ⟨mb, hmb⟩ : ∃ mb, mb = d1.heap.size := ⟨_, rfl⟩
      rw [← hmb] at HM2 ⊢
      have HLE := Lib.hid (show w.heap.size ≤ mb by have := D1.out.size; omega)
      clear hmb
      generalize d1.alloc (.map #[] 0) = d2 at *
      refine Ends.intro ⟨Cls.here D2.out, ?_⟩
      rw [wpWy_way]
      refine ⟨?_, by exact trivial⟩
      simp only [List.getElem?_toArray, List.getElem?_cons_succ, List.getElem?_cons_zero]
      go_wp2_with (go_at_call 70; refine (HF.out _ (B0.out.trans (D2.out.mono B0.out.size))).mono ?_; rintro e d3 ⟨t, rfl, ht, e1, e2, e3, e4, hb3⟩)
      have D3 := Lib.hid (D2.out.trans (hb3.mono D2.out.size))
      have T3 := Lib.hid (show TAt t d3 (w.heap.size + 2) from ⟨_, _, by have := D2.out.size; omega, Nat.le_refl _, ht⟩)
      obtain ⟨hpt, hso⟩ := HEND.out t e1 e2 e3 e4
      refine Ends.intro ⟨Cls.here D3.out, ?_⟩
      have HM3 := Lib.hid (fun f => (HM2.out f).call hb3)
      rw [wpWy_fin]
      have Z5 := Lib.hid (L1.out.call D3.out)
      have BB := Lib.hid (B0.out.trans (D3.out.mono B0.out.size))
      refine wpList_build (o := ⟨some 13, _, _, _, _, _⟩) ?_ 147 #[(0, .tmp 9), (1, .tmp 10), (2, .tmp 11), (3, .tmp 12)] ?_ #[(0, .agg (p.cells ++ t.cells).toArray), (1, .slice A n c), (2, .int .i64 size), (3, .map (some mb))] ?_ (offC p t A n c size mb).toArray ?_ ?_
      rfl; rfl; (simp only [List.map_toArray, List.map_cons, List.map_nil]; rfl)
      exact built_offer' p t A n c size mb
      simp only [Act.put, List.setIfInBounds_toArray, List.set_cons_zero, List.set_cons_succ]
      refine wpList_store_cells (o := ⟨none, .store 147 (.tmp 6) _, _, _, _, _⟩) ?_ 147 (.tmp 6) (.tmp 13) ?_ (w.heap.size + 1) 0 ?_ 147 zoffer (offC p t A n c size mb) ?_ Z5.out (by simp [offC, PlM.cells, TrM.cells, zoffer]) size147 (by simp [offC, PlM.cells, TrM.cells, Value.oneCell']) ?_
      rfl; rfl; rfl; rfl
      intro w9 HS9 HO9
      refine wpList_nil ?_
      have hs9 := HS9.out
      rw [splice_whole (by simp [offC, PlM.cells, TrM.cells, zoffer])] at hs9
      have ht9 : t.At w9 w9.heap.size := T3.out.only HO9.out (by omega)
      go_wp2_with (fail)
      exact bodyPost_ret (results_cell_row rfl _ _ (w.heap.size + 1) 147 (offC p t A n c size mb).toArray (0, 0) _ rfl hs9 Try.underlying147 rfl size147) rfl ⟨t, mb, rfl, ht9, hpt, e1, e2, hso, fun f => (HM3.out f).only Z5.out HO9.out, HLE.out, HO9.out.below BB.out (by omega)⟩
  · rw [wpWy_way]
    refine ⟨?_, by exact trivial⟩
    simp only [List.getElem?_toArray, List.getElem?_cons_succ, List.getElem?_cons_zero]
    go_wp2_with (fail)
    have hb1 := (Below.refl d0.heap.size d0).alloc (Nat.le_refl _) (.map #[] 0)
    have D1 := Lib.hid (D0.out.trans (hb1.mono D0.out.size))
    have HM1 := Lib.hid (memo_made d0)
    obtain ⟨mb, hmb⟩ : ∃ mb, mb = d0.heap.size := ⟨_, rfl⟩
    rw [← hmb] at HM1 ⊢
    have HLE := Lib.hid (show w.heap.size ≤ mb by have := D0.out.size; omega)
    clear hmb
    generalize d0.alloc (.map #[] 0) = d1 at *
    refine Ends.intro ⟨Cls.here D1.out, ?_⟩
    rw [wpWy_way]
    refine ⟨?_, by exact trivial⟩
    simp only [List.getElem?_toArray, List.getElem?_cons_succ, List.getElem?_cons_zero]
    go_wp2_with (go_at_call 72; refine (lesserEnds_any _).mono ?_; rintro e d2 ⟨rfl, hb2⟩)
    have D2 := Lib.hid (D1.out.trans (hb2.mono D1.out.size))
    refine Ends.intro ⟨Cls.here D2.out, ?_⟩
    have HM2 := Lib.hid (fun f => (HM1.out f).call hb2)
    rw [wpWy_way]
    refine ⟨?_, by exact trivial⟩
    simp only [List.getElem?_toArray, List.getElem?_cons_succ, List.getElem?_cons_zero]
    go_wp2_with (go_at_call 70; refine (HF.out _ (B0.out.trans (D2.out.mono B0.out.size))).mono ?_; rintro e d3 ⟨t, rfl, ht, e1, e2, e3, e4, hb3⟩)
    have D3 := Lib.hid (D2.out.trans (hb3.mono D2.out.size))
    have T3 := Lib.hid (show TAt t d3 (w.heap.size + 2) from ⟨_, _, by have := D2.out.size; omega, Nat.le_refl _, ht⟩)
    obtain ⟨hpt, hso⟩ := HEND.out t e1 e2 e3 e4
    refine Ends.intro ⟨Cls.here D3.out, ?_⟩
    have HM3 := Lib.hid (fun f => (HM2.out f).call hb3)
    rw [wpWy_fin]
    have Z5 := Lib.hid (L1.out.call D3.out)
    have BB := Lib.hid (B0.out.trans (D3.out.mono B0.out.size))
    refine wpList_build (o := ⟨some 13, _, _, _, _, _⟩) ?_ 147 #[(0, .tmp 9), (1, .tmp 10), (2, .tmp 11), (3, .tmp 12)] ?_ #[(0, .agg (p.cells ++ t.cells).toArray), (1, .slice A n c), (2, .int .i64 size), (3, .map (some mb))] ?_ (offC p t A n c size mb).toArray ?_ ?_
    rfl; rfl; (simp only [List.map_toArray, List.map_cons, List.map_nil]; rfl)
    exact built_offer' p t A n c size mb
    simp only [Act.put, List.setIfInBounds_toArray, List.set_cons_zero, List.set_cons_succ]
    refine wpList_store_cells (o := ⟨none, .store 147 (.tmp 6) _, _, _, _, _⟩) ?_ 147 (.tmp 6) (.tmp 13) ?_ (w.heap.size + 1) 0 ?_ 147 zoffer (offC p t A n c size mb) ?_ Z5.out (by simp [offC, PlM.cells, TrM.cells, zoffer]) size147 (by simp [offC, PlM.cells, TrM.cells, Value.oneCell']) ?_
    rfl; rfl; rfl; rfl
    intro w9 HS9 HO9
    refine wpList_nil ?_
    have hs9 := HS9.out
    rw [splice_whole (by simp [offC, PlM.cells, TrM.cells, zoffer])] at hs9
    have ht9 : t.At w9 w9.heap.size := T3.out.only HO9.out (by omega)
    go_wp2_with (fail)
    exact bodyPost_ret (results_cell_row rfl _ _ (w.heap.size + 1) 147 (offC p t A n c size mb).toArray (0, 0) _ rfl hs9 Try.underlying147 rfl size147) rfl ⟨t, mb, rfl, ht9, hpt, e1, e2, hso, fun f => (HM3.out f).only Z5.out HO9.out, HLE.out, HO9.out.below BB.out (by omega)⟩
end Go.Proofs.Ytlkdmcdnkoiflaa

/- Enough. -/
namespace Go.Proofs.Ytlkdmcdnkoiflaa
open Go.RowKit Go.Lib

/-- What is planted at least with a purchase; whether it can be, and is enough. -/
def buyP (p : PlM) (l : List Cr) (q : List Int) : List Int := buyD (pad5 (p.s.l.map (·.1))) l q l.length
def giveP (p : PlM) (S Y : Nat) (l : List Cr) (q : List Int) : Int := sellsD p.d (·.1) (·.2) (buyP p l q) S Y
def enoughP (p : PlM) (S Y : Nat) (number : Int) (l : List Cr) (q : List Int) : Bool := roomB p (buyP p l q) && decide (number ≤ giveP p S Y l q)
/-- The memory that gives needs: an offer. -/
structure OffM (p : PlM) (t : TrM) (A A' : Option Addr) (l : List Cr) (q : List Int) (S Y mb N : Nat) (w : World) : Prop where
  hp : p.At w w.heap.size
  ht : t.At w w.heap.size
  hpt : PT p t
  hts : t.s.l = p.s.l.map (·.1)
  hty : t.g.l.length = Y
  hso : ∀ pl (z : Nat), soldUp p t pl z Y = sellsD p.d (·.1) (·.2) pl z Y
  hmm : Memo w mb N fun pl => soldUp p t pl S t.g.l.length
  hl : Sl w w.heap.size 4 encCr A l
  hq : Sl w w.heap.size 1 encI A' q
theorem gives_off {p : PlM} {t : TrM} {A A' : Option Addr} {l : List Cr} {q : List Int} {S Y mb N : Nat} {w : World} (c c' : Nat) (M : OffM p t A A' l q S Y mb N w) (hv : p.Valid) (hs : S < 5) (ho : offB p.s.l.length l = 0) (hq : pairedB l q (fun c m => inB m 0 c.most) = true) :
    Calls Try.prog 83 #[.agg (offC p t A l.length c (S : Int) mb).toArray, .slice A' q.length c'] w fun e w' =>
      e = .returned (.tuple #[.int .i64 (if roomB p (buyP p l q) then giveP p S Y l q else 0), .bool (roomB p (buyP p l q))]) ∧ Memo w' mb (N + 1) (fun pl => soldUp p t pl S t.g.l.length) ∧ KC w w' ∧ StepB mb w w' :=
  (gives_any p t A A' c c' S mb N l q w M.hp M.ht hv M.hpt M.hts hs ho M.hl M.hq hq M.hmm).mono fun e w' ⟨he, h⟩ => ⟨by
    rw [he]
    unfold giveV giveP buyP
    rw [M.hts, M.hty, M.hso], h⟩
set_option maxRecDepth 100000 in
set_option maxHeartbeats 2000000 in
theorem Enough_no (p : PlM) (A A' : Option Addr) (c c' : Nat) (l : List Cr) (q : List Int) (size number : Int) (w : World) (hp : p.At w w.heap.size) (hA : Sl w w.heap.size 4 encCr A l) (hl : l.length ≤ 1000000) (hno : offL p l size number ≠ 0) :
    Calls Try.prog 38 #[.agg p.cells.toArray, .slice A l.length c, .slice A' q.length c', .int .i64 size, .int .i64 number] w fun e w' => e = .returned (.tuple #[.bool false, .int .i64 (offL p l size number)]) ∧ Below w.heap.size w w' := by
  have l0 : Lies (w.alloc (.cells p.cells.toArray 41)) w.heap.size 41 p.cells.toArray := Lies.fresh _ _ _
  have b0 : Below w.heap.size w (w.alloc (.cells p.cells.toArray 41)) := (Below.refl _ _).alloc (Nat.le_refl _) _
  have hC := checkOffer_any p A c l size number _ (hp.below b0 b0.size) ((hA.below b0).more b0.size) hl
  generalize offL p l size number = ft at *
  have hA1 : (ft != 0) = true := by simpa using hno
  have L0 := Lib.hid l0
  have B0 := Lib.hid b0
  have HC := Lib.hid hC
  clear l0 b0 hC hno hp hA hl
  unfold PlM.cells at HC ⊢
  go_enter Try.func38, Try.ntmps38
  go_wp2_with (first
    | (refine wpList_load_row (o := ⟨some 15, _, _, _, _, _⟩) ?_ 41 (.tmp 5) ?_ w.heap.size ?_ 41 p.cells.toArray (0, 0) _ L0.out Try.underlying41 rfl size41 ?_; rfl; rfl; rfl)
    | (go_at_call 79; refine HC.out.mono ?_; rintro e w1 ⟨rfl, hb1⟩))
  go_ret2
  exact ⟨rfl, B0.out.trans (hb1.mono B0.out.size)⟩
set_option maxRecDepth 100000 in
set_option maxHeartbeats 2000000 in
theorem Enough_not (p : PlM) (A A' : Option Addr) (c c' : Nat) (l : List Cr) (q : List Int) (size number : Int) (w : World) (hp : p.At w w.heap.size) (hA : Sl w w.heap.size 4 encCr A l) (hA' : Sl w w.heap.size 1 encI A' q) (hno : offL p l size number = 0) (hq : pairedB l q (fun c m => inB m 0 c.most) = false) :
    Calls Try.prog 38 #[.agg p.cells.toArray, .slice A l.length c, .slice A' q.length c', .int .i64 size, .int .i64 number] w fun e w' => e = .returned (.tuple #[.bool false, .int .i64 2]) ∧ Below w.heap.size w w' := by
  have hl4 := (offB_zero (offL_zero hno).2.1).1
  have l0 : Lies (w.alloc (.cells p.cells.toArray 41)) w.heap.size 41 p.cells.toArray := Lies.fresh _ _ _
  have b0 : Below w.heap.size w (w.alloc (.cells p.cells.toArray 41)) := (Below.refl _ _).alloc (Nat.le_refl _) _
  have hC := checkOffer_any p A c l size number _ (hp.below b0 b0.size) ((hA.below b0).more b0.size) (by omega)
  have hP : ∀ W, Below w.heap.size w W → Calls Try.prog 80 #[.slice A l.length c, .slice A' q.length c', .func (.func 81) #[] #[]] W fun e w' => e = .returned (.bool false) ∧ Below W.heap.size W w' := fun W hb => by
    have := pairedCrate_any 81 #[] #[] (fun c m => inB m 0 c.most) A A' c c' l q W ((hA.below hb).more hb.size) ((hA'.below hb).more hb.size) (ask_canBe W _) (by omega)
    rwa [hq] at this
  rw [hno] at hC
  have L0 := Lib.hid l0
  have B0 := Lib.hid b0
  have HC := Lib.hid hC
  have HPP := Lib.hid hP
  clear l0 b0 hC hP hno hp hA hA' hq
  unfold PlM.cells at HC ⊢
  go_enter Try.func38, Try.ntmps38
  go_wp2_with (first
    | (refine wpList_load_row (o := ⟨some 15, _, _, _, _, _⟩) ?_ 41 (.tmp 5) ?_ w.heap.size ?_ 41 p.cells.toArray (0, 0) _ L0.out Try.underlying41 rfl size41 ?_; rfl; rfl; rfl)
    | (go_at_call 79; refine HC.out.mono ?_; rintro e w1 ⟨rfl, hb1⟩; have B1 := Lib.hid (B0.out.trans (hb1.mono B0.out.size)))
    | (go_at_call 80; refine (HPP.out _ B1.out).mono ?_; rintro e w2 ⟨rfl, hb2⟩))
  go_ret2
  exact ⟨rfl, B1.out.trans (hb2.mono B1.out.size)⟩
end Go.Proofs.Ytlkdmcdnkoiflaa

/- Enough, of what can be asked. -/
namespace Go.Proofs.Ytlkdmcdnkoiflaa
open Go.RowKit Go.Lib

set_option maxRecDepth 100000 in
set_option maxHeartbeats 2000000 in
theorem Enough_ok (p : PlM) (A A' : Option Addr) (c c' S Y : Nat) (l : List Cr) (q : List Int) (number : Int) (w : World) (hp : p.At w w.heap.size) (hA : Sl w w.heap.size 4 encCr A l) (hA' : Sl w w.heap.size 1 encI A' q) (hno : offL p l (S : Int) number = 0) (hq : pairedB l q (fun c m => inB m 0 c.most) = true) (hY : p.years = (Y : Int)) :
    Calls Try.prog 38 #[.agg p.cells.toArray, .slice A l.length c, .slice A' q.length c', .int .i64 (S : Int), .int .i64 number] w fun e w' => e = .returned (.tuple #[.bool (enoughP p S Y number l q), .int .i64 0]) ∧ Below w.heap.size w w' := by
  obtain ⟨hf, hob, hask⟩ := offL_zero hno
  have hl4 := (offB_zero hob).1
  have hv := fault_zero hf
  have hS : S < 5 := by
    have h1 := ((asked_zero hask).2.1 (S : Int) (by simp)).2
    have := hv.ok.n
    omega
  have l0 : Lies (w.alloc (.cells p.cells.toArray 41)) w.heap.size 41 p.cells.toArray := Lies.fresh _ _ _
  have b0 : Below w.heap.size w (w.alloc (.cells p.cells.toArray 41)) := (Below.refl _ _).alloc (Nat.le_refl _) _
  have hC := checkOffer_any p A c l (S : Int) number _ (hp.below b0 b0.size) ((hA.below b0).more b0.size) (by omega)
  have hP : ∀ W, Below w.heap.size w W → Calls Try.prog 80 #[.slice A l.length c, .slice A' q.length c', .func (.func 81) #[] #[]] W fun e w' => e = .returned (.bool true) ∧ Below W.heap.size W w' := fun W hb => by
    have := pairedCrate_any 81 #[] #[] (fun c m => inB m 0 c.most) A A' c c' l q W ((hA.below hb).more hb.size) ((hA'.below hb).more hb.size) (ask_canBe W _) (by omega)
    rwa [hq] at this
  have hN : ∀ W, Below w.heap.size w W → Calls Try.prog 82 #[.agg p.cells.toArray, .slice A l.length c, .int .i64 (S : Int)] W (RetOf p A l.length c (S : Int) Y W) := fun W hb => newOffer_any p A l.length c (S : Int) Y W (hp.below hb hb.size) hv hY
  obtain ⟨rb, hrb⟩ : ∃ rb, rb = roomB p (buyP p l q) := ⟨_, rfl⟩
  have hG : ∀ (t : TrM) (mb : Nat) (W : World), Below w.heap.size w W → t.At W W.heap.size → PT p t → t.s.l = p.s.l.map (·.1) → t.g.l.length = Y → (∀ pl (z : Nat), soldUp p t pl z Y = sellsD p.d (·.1) (·.2) pl z Y) → (∀ f, Memo W mb 0 f) →
      Calls Try.prog 83 #[.agg (offC p t A l.length c (S : Int) mb).toArray, .slice A' q.length c'] W fun e w' => e = .returned (.tuple #[.int .i64 (if rb then giveP p S Y l q else 0), .bool rb]) ∧ KC W w' ∧ Below mb W w' := fun t mb W hb h1 h2 h3 h4 h5 h6 => by
    have := gives_off c c' (N := 0) ⟨hp.below hb hb.size, h1, h2, h3, h4, h5, h6 _, (hA.below hb).more hb.size, (hA'.below hb).more hb.size⟩ hv hS hob hq
    rw [← hrb] at this
    exact this.mono fun e w' h => ⟨h.1, h.2.2.1, h.2.2.2.below (Below.refl _ _) (Nat.le_refl _) (Nat.le_of_lt (h6 (fun _ => 0)).in_)⟩
  have hE : enoughP p S Y number l q = (rb && decide (number ≤ giveP p S Y l q)) := by unfold enoughP; rw [hrb]
  rw [hno] at hC
  have L0 := Lib.hid l0
  have B0 := Lib.hid b0
  have HC := Lib.hid hC
  have HPP := Lib.hid hP
  have HN := Lib.hid hN
  have HG := Lib.hid hG
  have HE := Lib.hid hE
  clear l0 b0 hC hP hno hp hA hA' hq hN hG hE hrb hv hf hob hask hY
  generalize enoughP p S Y number l q = ev at *
  generalize giveP p S Y l q = gv at *
  obtain ⟨cc, hcc⟩ : ∃ cc, cc = decide (number ≤ gv) := ⟨_, rfl⟩
  have hdd : decide (number ≤ gv) = cc := hcc.symm
  rw [hdd] at HE
  clear hcc
  unfold PlM.cells at HC HN ⊢
  go_enter Try.func38, Try.ntmps38
  cases rb
  all_goals
    go_wp2_with (first
      | (refine wpList_load_row (o := ⟨some 15, _, _, _, _, _⟩) ?_ 41 (.tmp 5) ?_ w.heap.size ?_ 41 p.cells.toArray (0, 0) _ L0.out Try.underlying41 rfl size41 ?_; rfl; rfl; rfl)
      | (go_at_call 79; refine HC.out.mono ?_; rintro e w1 ⟨rfl, hb1⟩; have L1 := Lib.hid (L0.out.call hb1); have B1 := Lib.hid (B0.out.trans (hb1.mono B0.out.size)))
      | (go_at_call 80; refine (HPP.out _ B1.out).mono ?_; rintro e w2 ⟨rfl, hb2⟩; have L2 := Lib.hid (L1.out.call hb2); have B2 := Lib.hid (B1.out.trans (hb2.mono B1.out.size)))
      | (refine wpList_load_row (o := ⟨some 28, _, _, _, _, _⟩) ?_ 41 (.tmp 5) ?_ w.heap.size ?_ 41 p.cells.toArray (0, 0) _ L2.out Try.underlying41 rfl size41 ?_; rfl; rfl; rfl)
      | (go_at_call 82; refine (HN.out _ B2.out).mono ?_; rintro e w3 ⟨t, mb, rfl, hh⟩; have HH := Lib.hid hh; clear hh; have B3 := Lib.hid (B2.out.trans (HH.out.2.2.2.2.2.2.2.mono B2.out.size)))
      | (go_at_call 83; refine (HG.out t mb w3 B3.out HH.out.1 HH.out.2.1 HH.out.2.2.1 HH.out.2.2.2.1 HH.out.2.2.2.2.1 HH.out.2.2.2.2.2.1).mono ?_; rintro e w4 ⟨rfl, hk4, hb4⟩))
    go_ret2
    refine ⟨?_, B3.out.trans (hb4.mono (Nat.le_trans B2.out.size HH.out.2.2.2.2.2.2.1))⟩
    rw [HE.out]
    simp []
end Go.Proofs.Ytlkdmcdnkoiflaa

/- Cheapest of what cannot be asked. -/
namespace Go.Proofs.Ytlkdmcdnkoiflaa
open Go.RowKit Go.Lib

set_option maxRecDepth 100000 in
set_option maxHeartbeats 2000000 in
theorem Cheapest_no (p : PlM) (A : Option Addr) (c : Nat) (l : List Cr) (size number : Int) (w : World) (hp : p.At w w.heap.size) (hA : Sl w w.heap.size 4 encCr A l) (hl : l.length ≤ 1000000) (hno : offL p l size number ≠ 0) :
    Calls Try.prog 41 #[.agg p.cells.toArray, .slice A l.length c, .int .i64 size, .int .i64 number] w fun e w' => e = .returned (.tuple #[.slice none 0 0, .int .i64 0, .int .i64 (offL p l size number)]) ∧ Below w.heap.size w w' := by
  have l0 : Lies (w.alloc (.cells p.cells.toArray 41)) w.heap.size 41 p.cells.toArray := Lies.fresh _ _ _
  have b0 : Below w.heap.size w (w.alloc (.cells p.cells.toArray 41)) := (Below.refl _ _).alloc (Nat.le_refl _) _
  have hC := checkOffer_any p A c l size number _ (hp.below b0 b0.size) ((hA.below b0).more b0.size) hl
  generalize offL p l size number = ft at *
  have hA1 : (ft != 0) = true := by simpa using hno
  have L0 := Lib.hid l0
  have B0 := Lib.hid b0
  have HC := Lib.hid hC
  clear l0 b0 hC hno hp hA hl
  unfold PlM.cells at HC ⊢
  go_enter Try.func41, Try.ntmps41
  go_wp2_with (first
    | (refine wpList_load_row (o := ⟨some 13, _, _, _, _, _⟩) ?_ 41 (.tmp 4) ?_ w.heap.size ?_ 41 p.cells.toArray (0, 0) _ L0.out Try.underlying41 rfl size41 ?_; rfl; rfl; rfl)
    | (go_at_call 79; refine HC.out.mono ?_; rintro e w1 ⟨rfl, hb1⟩))
  go_ret3
  exact ⟨rfl, B0.out.trans (hb1.mono B0.out.size)⟩
end Go.Proofs.Ytlkdmcdnkoiflaa
