/- sure. -/
import Derived.Test.YtlkdmcdnkoiflaaGS
import Derived.Test.YtlkdmcdnkoiflaaGD
import Derived.Test.YtlkdmcdnkoiflaaGH
import Derived.Test.YtlkdmcdnkoiflaaYC
import Derived.Test.YtlkdmcdnkoiflaaGF
import Derived.Test.YtlkdmcdnkoiflaaYA
namespace Go.Proofs.Ytlkdmcdnkoiflaa
open Go.RowKit Go.Lib

theorem wpList_look_run {P : Program} {w : World} {ops : Array Oper} {rest : List Oper} {o : Oper} {a : Act} {Q : Exit → Act → World → Prop} (hg : o.guard = none) (m x : Operand) (t : TypeId) (hop : o.op = Op.lookup t m x true) (mv xv v : Value) (hm : a.eval m = mv) (hx : a.eval x = xv)
    (hrun : (Instr.lookup t mv xv true).run P w = .ok v w) (hK : wpList P ops Q rest (a.put o.dst v) w) : wpList P ops Q (o :: rest) a w := by
  refine wpList_plain hg fun K' hK' => ?_
  unfold Oper.wp
  simp [execOp, hop, hm, hx, hrun, Result.andThen]
  exact hK' _ _ hK
theorem offC_range {p : PlM} {t : TrM} {A : Option Addr} {n c : Nat} {size : Int} {mb g : Nat} {w : World} (h : Lies w g 147 (offC p t A n c size mb).toArray) : w.rangeAt g 0 (p.cells ++ t.cells) :=
  Lies.range (cs := offC p t A n c size mb) h fun j v hj => by
    have hl : j < (p.cells ++ t.cells).length := (List.getElem?_eq_some_iff.1 hj).1
    unfold offC
    rw [Nat.zero_add, List.getElem?_append_left hl]
    exact hj
set_option maxRecDepth 100000 in
set_option maxHeartbeats 2000000 in
theorem sure_any (p : PlM) (t : TrM) (A : Option Addr) (n c size : Nat) (mb N : Nat) (f : List Int → Int) (pl : List Int) (w : World) (hp : p.At w w.heap.size) (ht : t.At w w.heap.size) (hpt : PT p t) (hpl : Five2 p.s.l.length pl) (h5 : Key5 pl) (hs : size < 5) (hM : Memo w mb N f) (hf : f pl = soldUp p t pl size t.g.l.length) :
    Calls Try.prog 113 #[.agg (offC p t A n c (size : Int) mb).toArray, .agg (vals pl)] w fun e w' => e = .returned (.int .i64 (f pl)) ∧ Memo w' mb (N + 1) f ∧ KC w w' ∧ StepB mb w w' := by
  have l1 : Lies ((w.alloc (.cells (offC p t A n c (size : Int) mb).toArray 147)).alloc (.cells (vals pl) 120)) (w.heap.size + 1) 120 (vals pl) := Lies.fresh' (by simp)
  have l0 : Lies ((w.alloc (.cells (offC p t A n c (size : Int) mb).toArray 147)).alloc (.cells (vals pl) 120)) w.heap.size 147 (offC p t A n c (size : Int) mb).toArray := (Lies.fresh _ _ _).alloc _
  have b0 : Below w.heap.size w ((w.alloc (.cells (offC p t A n c (size : Int) mb).toArray 147)).alloc (.cells (vals pl) 120)) := (by repeat (first | (with_reducible assumption) | (with_reducible exact Below.refl _ _) | (with_reducible refine Below.drew ?_) | (with_reducible refine below_drewN ?_ _) | ((with_reducible refine Below.setCell ?_ ?_ _); rotate_left; focus (first | (simp; done) | (simp; omega) | omega)) | ((with_reducible refine Below.alloc ?_ ?_ _); rotate_left; focus (first | (simp; done) | (simp; omega) | omega))))
  have qs := sells_any p t pl size _ (hp.below b0 b0.size) (ht.below b0 b0.size) hpt hpl hs
  rw [← hf] at qs
  have hM1 := hM.call b0
  have HMI := hM.in_
  obtain ⟨bb, hrun⟩ := memo_look hM1 h5
  have hfit : (Try.prog.info? 120).map (·.size) = some pl.length := by rw [h5.1]; exact size120
  have d13 := l0.at_ 13
  have d12 := l0.at_ 12
  have hr0 := offC_range l0
  have L0 := Lib.hid l0
  have L1 := Lib.hid l1
  have B0 := Lib.hid b0
  have QS := Lib.hid qs
  have M1 := Lib.hid hM1
  have H5 := Lib.hid h5
  have HF := Lib.hid hfit
  have HR0 := Lib.hid hr0
  clear l0 l1 b0 qs hM1 hM h5 hfit hf hp ht hpt hpl hr0
  unfold offC PlM.cells TrM.cells at d13 d12
  cases bb with
  | true =>
    have HRUN := Lib.hid hrun
    clear hrun
    unfold offC PlM.cells TrM.cells at HRUN L0 L1 B0 M1 HR0 ⊢
    go_enter Try.func113, Try.ntmps113
    go_wp2_with (first
      | (refine wpList_load_ints (o := ⟨some 10, _, _, _, _, _⟩) ?_ 120 (.tmp 3) ?_ (w.heap.size + 1) 0 ?_ 120 pl pl _ L1.out (fun j v h => by simpa using h) Try.underlying120 rfl HF.out ?_; rfl; rfl; rfl)
      | (refine wpList_look_run (o := ⟨some 11, _, _, _, _, _⟩) ?_ (.tmp 9) (.tmp 10) 145 ?_ _ _ _ ?_ ?_ HRUN.out ?_; rfl; rfl; rfl; rfl))
    go_ret
    exact ⟨rfl, M1.out.mono (by omega), KC.of_below B0.out, .of_below B0.out⟩
  | false =>
    have HRUN := Lib.hid hrun
    clear hrun
    unfold offC PlM.cells TrM.cells at HRUN L0 L1 B0 M1 QS HR0 ⊢
    go_enter Try.func113, Try.ntmps113
    go_wp2_with (first
      | (refine wpList_load_ints (o := ⟨some 10, _, _, _, _, _⟩) ?_ 120 (.tmp 3) ?_ (w.heap.size + 1) 0 ?_ 120 pl pl _ L1.out (fun j v h => by simpa using h) Try.underlying120 rfl HF.out ?_; rfl; rfl; rfl)
      | (refine wpList_look_run (o := ⟨some 11, _, _, _, _, _⟩) ?_ (.tmp 9) (.tmp 10) 145 ?_ _ _ _ ?_ ?_ HRUN.out ?_; rfl; rfl; rfl; rfl)
      | (refine wpList_load_mid (o := ⟨some 17, _, _, _, _, _⟩) ?_ 117 (.tmp 16) ?_ w.heap.size 0 ?_ _ _ HR0.out Try.underlying117 rfl size117 ?_; rfl; rfl; rfl)
      | (refine wpList_load_ints (o := ⟨some 18, _, _, _, _, _⟩) ?_ 120 (.tmp 3) ?_ (w.heap.size + 1) 0 ?_ 120 pl pl _ L1.out (fun j v h => by simpa using h) Try.underlying120 rfl HF.out ?_; rfl; rfl; rfl)
      | (go_at_call 77; refine QS.out.mono ?_; rintro e w2 ⟨rfl, hb2⟩; have M2 := Lib.hid (M1.out.call hb2); have L2 := Lib.hid (L1.out.call hb2); have e13 := (L0.out.call hb2).at_ 13)
      | (refine wpList_load_ints (o := ⟨some 24, _, _, _, _, _⟩) ?_ 120 (.tmp 3) ?_ (w.heap.size + 1) 0 ?_ 120 pl pl _ L2.out (fun j v h => by simpa using h) Try.underlying120 rfl HF.out ?_; rfl; rfl; rfl)
      | (at_mapUpdate; refine wpList_put_memo rfl (.tmp 23) (.tmp 24) (.tmp 25) rfl mb N f rfl M2.out pl H5.out rfl rfl ?_; intro w3 hM3 hk3 hk4))
    go_ret
    exact ⟨rfl, hM3, ((KC.of_below B0.out).call hb2).trans hk3, (StepB.of_below (B0.out.trans (hb2.mono B0.out.size))).trans hk4⟩
end Go.Proofs.Ytlkdmcdnkoiflaa

namespace Go.Proofs.Ytlkdmcdnkoiflaa
open Go.RowKit Go.Lib

theorem purF_of {n : Nat} {l : List Cr} {q : List Int} (ho : offB n l = 0) (hq : pairedB l q (fun c m => inB m 0 c.most) = true) : PurF l q := by
  obtain ⟨h4, hc⟩ := offB_zero ho
  obtain ⟨hl, hx⟩ := pairedB_iff.1 hq
  refine ⟨hl.symm, h4, fun k c x hk hkx => ?_⟩
  have h1 := Cr.ok_iff.1 (hc c (List.mem_of_getElem? hk))
  have h2 := inB_iff.1 (hx k c x hk hkx)
  exact ⟨h1.2.2.1, h1.2.1, by omega⟩
/-- What is planted at first with the first k kinds of a purchase. -/
def buyD (s0 : List Int) (l : List Cr) (q : List Int) : Nat → List Int
  | 0 => s0
  | k + 1 => (buyD s0 l q k).set (l.getD k default).size.toNat ((buyD s0 l q k).getD (l.getD k default).size.toNat 0 + (l.getD k default).bulbs * q.getD k 0)
theorem buy_length (s0 : List Int) (l : List Cr) (q : List Int) : ∀ k, (buyD s0 l q k).length = s0.length
  | 0 => rfl
  | k + 1 => by rw [buyD, List.length_set, buy_length s0 l q k]
theorem getD_set {l : List Int} {i j : Nat} {x : Int} (hj : j < l.length) : (l.set i x).getD j 0 = if i = j then x else l.getD j 0 := by
  simp only [List.getD, List.getElem?_set]
  by_cases h : i = j
  · subst h; simp [hj]
  · simp [h]
theorem buy_bd {s0 : List Int} {l : List Cr} {q : List Int} (h : PurF l q) (hs : ∀ i, i < s0.length → 0 ≤ s0.getD i 0 ∧ s0.getD i 0 ≤ 1000000) : ∀ k : Nat, k ≤ l.length → ∀ i, i < s0.length → 0 ≤ (buyD s0 l q k).getD i 0 ∧ (buyD s0 l q k).getD i 0 ≤ 1000000 + 9000000 * (k : Int)
  | 0, _, i, hi => by have := hs i hi; simpa [buyD] using this
  | k + 1, hk, i, hi => by
    have ih := buy_bd h hs k (by omega)
    obtain ⟨c, hc⟩ : ∃ c, l[k]? = some c := ⟨l[k], by simp⟩
    obtain ⟨x, hx⟩ : ∃ x, q[k]? = some x := ⟨q[k]'(by rw [h.len]; omega), by simp⟩
    have hb := h.b k c x hc hx
    have hm := prod_bd (a := c.bulbs) (m := 1000000) ⟨by omega, hb.2.1.2⟩ hb.2.2
    have ihi := ih i hi
    rw [buyD, at_getD hc, at_getD hx, getD_set (by rw [buy_length]; exact hi)]
    push_cast
    by_cases e : c.size.toNat = i
    · rw [if_pos e, e]; omega
    · rw [if_neg e]; omega
theorem buy_step {s0 : List Int} {l : List Cr} {q : List Int} {k : Nat} {c : Cr} {x : Int} (hc : l[k]? = some c) (hx : q[k]? = some x) : buyD s0 l q (k + 1) = (buyD s0 l q k).set c.size.toNat ((buyD s0 l q k).getD c.size.toNat 0 + c.bulbs * x) := by
  rw [buyD, at_getD hc, at_getD hx]
theorem key5_of {l : List Int} (h5 : l.length = 5) (hb : ∀ i, i < 5 → 0 ≤ l.getD i 0 ∧ l.getD i 0 ≤ 100000000) : Key5 l := by
  refine ⟨h5, fun x hx => ?_⟩
  obtain ⟨i, hi⟩ := List.getElem?_of_mem hx
  have hl : i < 5 := by rw [← h5]; exact (List.getElem?_eq_some_iff.1 hi).1
  have := hb i hl
  rw [at_getD hi] at this
  have h1 : IntKind.i64.min = -9223372036854775808 := by decide
  have h2 : IntKind.i64.max = 9223372036854775807 := by decide
  simp only [Lit.wf, Bool.and_eq_true, decide_eq_true_eq, h1, h2]
  omega
theorem five_of_room {p : PlM} (hv : p.Valid) {l : List Int} (h5 : l.length = 5) (hb : ∀ i, i < p.s.l.length → 0 ≤ l.getD i 0) (hr : roomB p l = true) : Five2 p.s.l.length l := by
  refine ⟨h5, fun i hi => ⟨hb i hi, ?_⟩⟩
  have h := List.all_eq_true.1 hr i (List.mem_range.2 hi)
  obtain ⟨q, hq⟩ : ∃ q, p.s.l[i]? = some q := ⟨p.s.l[i], by simp [hi]⟩
  obtain ⟨m, hm⟩ : ∃ m, p.r.l[i]? = some m := ⟨p.r.l[i]'(by have := hv.ok.r; omega), by simp⟩
  have h1 := hv.sb q (List.mem_of_getElem? hq)
  have h2 := hv.ok.rb m (List.mem_of_getElem? hm)
  unfold roomAt at h
  rw [decide_eq_true_eq, at_getD hq, at_getD hm] at h
  omega
theorem KC.set {w w1 : World} {G : Nat} (h : KC w w1) (hG : w.heap.size ≤ G) (i : Nat) (u : Value) : KC w (w1.setCell ⟨G, i, none⟩ u) :=
  ⟨by rw [(Only.set G i w1 u).size]; exact h.size, fun g cs T f hg => ((Only.set G i w1 u).block g (by have := (Array.getElem?_eq_some_iff.1 hg).1; omega)).trans (h.blk g cs T f hg)⟩
theorem KC.only {w w1 w2 : World} {G : Nat} (h : KC w w1) (hG : w.heap.size ≤ G) (ho : Only G w1 w2) : KC w w2 :=
  ⟨by rw [ho.size]; exact h.size, fun g cs T f hg => (ho.block g (by have := (Array.getElem?_eq_some_iff.1 hg).1; omega)).trans (h.blk g cs T f hg)⟩
theorem Memo.only {w w' : World} {b n G : Nat} {f : List Int → Int} {T : TypeId} {cs : Array Value} (h : Memo w b n f) (hl : Lies w G T cs) (ho : Only G w w') : Memo w' b n f := by
  obtain ⟨es, clock, hm, r⟩ := h
  refine ⟨es, clock, (ho.block b ?_).trans hm, r⟩
  rintro rfl
  unfold Lies at hl
  rw [hm] at hl; cases hl
/-- The memory of gives between two rounds. -/
structure GvM (p : PlM) (t : TrM) (A : Option Addr) (n c : Nat) (size : Int) (mb N : Nat) (f : List Int → Int) (pl : List Int) (w : World) (G : Nat) (wr : World) : Prop where
  l0 : Lies wr w.heap.size 147 (offC p t A n c size mb).toArray
  lG : Lies wr G 120 (vals pl)
  hG : w.heap.size < G
  kc : KC w wr
  mm : Memo wr mb N f
  sb : StepB mb w wr
  mlt : mb < w.heap.size
section
variable {p : PlM} {t : TrM} {A : Option Addr} {n c : Nat} {size : Int} {mb N : Nat} {f : List Int → Int} {pl : List Int} {w wr : World} {G : Nat}
theorem GvM.below (M : GvM p t A n c size mb N f pl w G wr) {wq : World} (hb : Below wr.heap.size wr wq) : GvM p t A n c size mb N f pl w G wq := ⟨M.l0.call hb, M.lG.call hb, M.hG, M.kc.call hb, M.mm.call hb, M.sb.below' hb, M.mlt⟩
theorem GvM.set (M : GvM p t A n c size mb N f pl w G wr) (i : Nat) (x : Int) : GvM p t A n c size mb N f (pl.set i x) w G (wr.setCell ⟨G, i, none⟩ (.int .i64 x)) :=
  ⟨M.l0.other (by have := M.hG; simp; omega) _, by have := M.lG.set i (.int .i64 x); rwa [vals_set] at this, M.hG, M.kc.set (by have := M.hG; omega) _ _, M.mm.only M.lG (Only.set _ _ _ _), M.sb.only_new (Only.set _ _ _ _) (by have := M.hG; omega), M.mlt⟩
end
theorem size147 : (Try.prog.info? 147).map (·.size) = some 14 := by kernel_rfl
theorem pad5_rest {l : List Int} {i : Nat} (h : l.length ≤ i) : (pad5 l).getD i 0 = 0 := by
  have key : ∀ j : Nat, ([0, 0, 0, 0, 0] : List Int)[j]?.getD 0 = 0 := fun j => by
    match j with
    | 0 | 1 | 2 | 3 | 4 => rfl
    | j + 5 => simp
  unfold pad5 splice
  rw [List.getD, List.take_zero, List.nil_append, List.getElem?_append_right h, List.getElem?_drop]
  exact key _
theorem gv_start {p : PlM} {t : TrM} {A : Option Addr} {n c : Nat} {size : Int} {mb N : Nat} {f : List Int → Int} {pl : List Int} {w w0 w1 w2 : World} (hl : Lies w0 w.heap.size 147 (offC p t A n c size mb).toArray) (hkc : KC w w0) (hm : Memo w0 mb N f) (hmw : mb < w.heap.size) (hbw : Below w.heap.size w w0) (hb1 : Below w0.heap.size w0 w1)
    (h2 : Lies w2 w1.heap.size 120 (vals pl)) (ho : Only w1.heap.size (w1.alloc (.cells (vals z5) 120)) w2) : GvM p t A n c size mb N f pl w w1.heap.size w2 := by
  have h1 := hl.in_
  have h3 := hb1.size
  have hb2 := (Below.refl w1.heap.size w1).alloc (Nat.le_refl _) (.cells (vals z5) 120)
  exact ⟨((hl.call hb1).alloc _).to_ (ho.block _ (by omega)), h2, by omega, ((hkc.call hb1).alloc _).only (by omega) ho, ((hm.call hb1).call hb2).only (Lies.fresh _ _ _) ho, ((StepB.of_below (hbw.trans (hb1.mono hbw.size))).below' hb2).only_new ho (by omega), hmw⟩
/-- What gives hands back. -/
def giveV (p : PlM) (t : TrM) (size : Nat) (pl : List Int) : Value := .tuple #[.int .i64 (if roomB p pl then soldUp p t pl size t.g.l.length else 0), .bool (roomB p pl)]
theorem giveV_no {p : PlM} {t : TrM} {size : Nat} {pl : List Int} (h : false = roomB p pl) : giveV p t size pl = .tuple #[.int .i64 0, .bool false] := by unfold giveV; rw [← h]; rfl
theorem giveV_yes {p : PlM} {t : TrM} {size : Nat} {pl : List Int} (h : true = roomB p pl) : giveV p t size pl = .tuple #[.int .i64 (soldUp p t pl size t.g.l.length), .bool true] := by unfold giveV; rw [← h]; rfl
set_option maxRecDepth 100000 in
set_option maxHeartbeats 4000000 in
theorem gives_any (p : PlM) (t : TrM) (A A' : Option Addr) (c c' size : Nat) (mb N : Nat) (l : List Cr) (q : List Int) (w : World) (hp : p.At w w.heap.size) (ht : t.At w w.heap.size) (hv : p.Valid) (hpt : PT p t) (hts : t.s.l = p.s.l.map (·.1)) (hs : size < 5) (ho : offB p.s.l.length l = 0)
    (hA : Sl w w.heap.size 4 encCr A l) (hA' : Sl w w.heap.size 1 encI A' q) (hq : pairedB l q (fun c m => inB m 0 c.most) = true) (hM : Memo w mb N fun pl => soldUp p t pl size t.g.l.length) :
    Calls Try.prog 83 #[.agg (offC p t A l.length c (size : Int) mb).toArray, .slice A' q.length c'] w fun e w' =>
      e = .returned (giveV p t size (buyD (pad5 t.s.l) l q l.length)) ∧ Memo w' mb (N + 1) (fun pl => soldUp p t pl size t.g.l.length) ∧ KC w w' ∧ StepB mb w w' := by
  have hf := purF_of ho hq
  have hcs := (offB_zero ho).2
  have hn5 := hv.ok.n
  have hsl : t.s.l.length = p.s.l.length := by rw [hts]; simp
  have h5 : (pad5 t.s.l).length = 5 := pad5_length (by omega)
  have hs0 : ∀ i, i < (pad5 t.s.l).length → 0 ≤ (pad5 t.s.l).getD i 0 ∧ (pad5 t.s.l).getD i 0 ≤ 1000000 := fun i hi => by
    by_cases h : i < t.s.l.length
    · rw [pad5_getD (by omega) i h, hts]
      obtain ⟨r, hr⟩ : ∃ r, p.s.l[i]? = some r := ⟨p.s.l[i]'(by omega), by simp⟩
      have := hv.sb r (List.mem_of_getElem? hr)
      rw [at_getD (x := r.1) (by rw [List.getElem?_map, hr]; rfl)]
      omega
    · have : (pad5 t.s.l).getD i 0 = 0 := pad5_rest (by omega)
      rw [this]; omega
  have hbd := buy_bd hf hs0
  have hl4 : (l.length : Int) ≤ 4 := by have := hf.four; omega
  have hql : (q.length : Int) = (l.length : Int) := by have := hf.len; omega
  have l0 : Lies (w.alloc (.cells (offC p t A l.length c (size : Int) mb).toArray 147)) w.heap.size 147 (offC p t A l.length c (size : Int) mb).toArray := Lies.fresh _ _ _
  have b0 : Below w.heap.size w (w.alloc (.cells (offC p t A l.length c (size : Int) mb).toArray 147)) := (Below.refl _ _).alloc (Nat.le_refl _) _
  have qs := start_any p t _ (ht.below b0 b0.size) (by omega)
  have hfit : 0 + (pad5 t.s.l).length ≤ z5.length ∧ (Try.prog.info? 120).map (·.size) = some (pad5 t.s.l).length := by rw [h5]; exact ⟨by decide, size120⟩
  have hr0 := offC_range l0
  have hsp : splice z5 0 (pad5 t.s.l) = pad5 t.s.l := splice_all (by rw [h5]; rfl)
  have HP := Lib.hid hp
  have HT := Lib.hid ht
  have HV := Lib.hid hv
  have HPT := Lib.hid hpt
  have HA := Lib.hid hA
  have HA' := Lib.hid hA'
  have HF := Lib.hid hf
  have HCS := Lib.hid hcs
  have HBD := Lib.hid hbd
  have H5 := Lib.hid h5
  have HQL := Lib.hid hql
  have L0 := Lib.hid l0
  have B0 := Lib.hid b0
  have QS := Lib.hid qs
  have HFIT := Lib.hid hfit
  have HR0 := Lib.hid hr0
  have HSP := Lib.hid hsp
  have MM := Lib.hid (hM.call b0)
  have HMI := Lib.hid hM.in_
  have hn5z : (p.s.l.length : Int) ≤ 5 := by omega
  clear hp ht hv hpt hts ho hA hA' hq hM hf hcs hbd h5 hs0 hql l0 b0 qs hfit hr0 hsp hsl hn5
  generalize pad5 t.s.l = s0 at *
  have KB := Lib.hid (KC.of_below B0.out)
  have hgs := fun (w1 w2 : World) (hb1 : Below (w.alloc (.cells (offC p t A l.length c (size : Int) mb).toArray 147)).heap.size (w.alloc (.cells (offC p t A l.length c (size : Int) mb).toArray 147)) w1) (h2 : Lies w2 w1.heap.size 120 (vals s0)) (ho : Only w1.heap.size (w1.alloc (.cells (vals z5) 120)) w2) => gv_start L0.out KB.out MM.out HMI.out B0.out hb1 h2 ho
  have HGS := Lib.hid hgs
  clear hgs MM KB
  unfold offC PlM.cells TrM.cells at L0 QS HR0 B0 HGS ⊢
  go_enter Try.func83, Try.ntmps83
  go_wp2_with (first
    | (refine wpList_load_mid (o := ⟨some 10, _, _, _, _, _⟩) ?_ 117 (.tmp 9) ?_ w.heap.size 0 ?_ _ _ HR0.out Try.underlying117 rfl size117 ?_; rfl; rfl; rfl)
    | (go_at_call 75; refine QS.out.mono ?_; rintro e w1 ⟨rfl, hb1⟩)
    | (refine wpList_store_ints (o := ⟨none, .store 120 (.tmp 6) _, _, _, _, _⟩) ?_ 120 (.tmp 6) (.tmp 11) ?_ w1.heap.size 0 ?_ 120 z5 s0 ?_ (Lies.fresh w1 120 (vals z5)) HFIT.out.1 HFIT.out.2 ?_; rfl; rfl; rfl; rfl; intro w2 HS2 HO2; have M0 := Lib.hid (HGS.out w1 w2 hb1 (by have := HS2.out; rwa [HSP.out] at this) HO2.out); have e11 : w2.cell? ⟨w.heap.size, 11, none⟩ = some (.slice A l.length c) := M0.out.l0.at_ 11))
  clear HS2 HO2 e11 HGS L0 B0 QS HR0 hb1 HSP HFIT
  generalize w1.heap.size = G at *
  clear w1
  go_loopw [7, 8, 15] (fun _ _ i wr => ∃ k : Nat, k ≤ l.length ∧ i = .int .i64 k ∧ Aside (GvM p t A l.length c (size : Int) mb N (fun pl => soldUp p t pl size t.g.l.length) (buyD s0 l q k) w G wr)) (fun _ _ i _ => l.length - (intOf i).toNat)
  case atStart => exact ⟨0, by omega, rfl, M0.out⟩
  case round =>
    obtain ⟨k, hk, rfl, M⟩ := hrel
    have M := Lib.hid M.out
    clear M0
    by_cases hlt : k < l.length
    · have hltz : (k : Int) < (l.length : Int) := by omega
      have hk0 : (0 : Int) ≤ (k : Int) := by omega
      have hkq : (k : Int) < (q.length : Int) := by have := HQL.out; omega
      obtain ⟨x, hx⟩ : ∃ x, l[k]? = some x := ⟨l[k], by simp [hlt]⟩
      obtain ⟨y, hy⟩ : ∃ y, q[k]? = some y := ⟨q[k]'(by omega), by simp⟩
      have hok := Cr.ok_iff.1 (HCS.out x (List.mem_of_getElem? hx))
      have hfb := HF.out.b k x y hx hy
      have hbs := buy_step (s0 := s0) hx hy
      obtain ⟨sz, bu, pr, mo⟩ := x
      obtain ⟨sn, rfl⟩ : ∃ sn : Nat, sz = (sn : Int) := ⟨sz.toNat, by have := hok.1.1; simp only at this; omega⟩
      simp only [Int.toNat_natCast] at hbs hok hfb
      have hsn : sn < 5 := by have := hok.1.2; omega
      have hsnz : (sn : Int) < 5 := by omega
      have hsn0 : (0 : Int) ≤ (sn : Int) := by omega
      obtain ⟨b, off, rfl, hb1, c0, c1, c2, c3⟩ := HA.out.cellCr hx
      obtain ⟨b', off', rfl, hb2, d0⟩ := HA'.out.cell1 hy
      have l2 : wr.cell? ⟨b, off + k * 4, none⟩ = some (.int .i64 (sn : Int)) := M.out.kc.cell c0
      have l3 : wr.cell? ⟨b, off + k * 4 + 1, none⟩ = some (.int .i64 bu) := M.out.kc.cell c1
      have l4 : wr.cell? ⟨b, off + k * 4 + 2, none⟩ = some (.int .i64 pr) := M.out.kc.cell c2
      have l5 : wr.cell? ⟨b, off + k * 4 + 3, none⟩ = some (.int .i64 mo) := M.out.kc.cell c3
      have m2 := M.out.kc.cell d0
      have hm := prod_bd (a := bu) (m := 1000000) ⟨by have := hfb.2.1.1; omega, hfb.2.1.2⟩ hfb.2.2
      have hm0 := hm.1
      have hm1 : bu * y ≤ 9000000 := by have := hm.2; omega
      have hl5 : (buyD s0 l q k).length = 5 := by rw [buy_length]; exact H5.out
      obtain ⟨v, hvv⟩ : ∃ v, (buyD s0 l q k)[sn]? = some v := ⟨(buyD s0 l q k)[sn]'(by omega), by simp⟩
      have hvb := HBD.out k (by omega) sn (by rw [H5.out]; exact hsn)
      rw [at_getD hvv] at hvb hbs
      have hv0 := hvb.1
      have hv1 : v ≤ 100000000 := by have := hvb.2; omega
      have HBS := Lib.hid hbs
      have HVV := Lib.hid hvv
      have hWb := (Below.refl wr.heap.size wr).alloc (Nat.le_refl _) (.cells #[.int .i64 (sn : Int), .int .i64 bu, .int .i64 pr, .int .i64 mo] 93)
      have hGc : wr.cell? ⟨G, sn, none⟩ = some (.int .i64 v) := by rw [M.out.lG.at_]; simp [vals, hvv]
      have M1 := Lib.hid (M.out.below hWb)
      generalize hmd : bu * y = m at *
      have hmw : IntKind.i64.wrap (bu * y) = m := by rw [hmd]; exact IntWalk.i64_in (by omega) (by omega)
      have r0 : ∀ cc : Cls (fun W => Below (wr.alloc (.cells #[.int .i64 (sn : Int), .int .i64 bu, .int .i64 pr, .int .i64 mo] 93)).heap.size (wr.alloc (.cells #[.int .i64 (sn : Int), .int .i64 bu, .int .i64 pr, .int .i64 mo] 93)) W), cc.val.cell? ⟨wr.heap.size, 0, none⟩ = some (.int .i64 (sn : Int)) := fun cc => (KC.of_below cc.h).cell (by simp [World.cell?_alloc_new])
      have r1 : ∀ cc : Cls (fun W => Below (wr.alloc (.cells #[.int .i64 (sn : Int), .int .i64 bu, .int .i64 pr, .int .i64 mo] 93)).heap.size (wr.alloc (.cells #[.int .i64 (sn : Int), .int .i64 bu, .int .i64 pr, .int .i64 mo] 93)) W), cc.val.cell? ⟨wr.heap.size, 1, none⟩ = some (.int .i64 bu) := fun cc => (KC.of_below cc.h).cell (by simp [World.cell?_alloc_new])
      have r2 : ∀ cc : Cls (fun W => Below (wr.alloc (.cells #[.int .i64 (sn : Int), .int .i64 bu, .int .i64 pr, .int .i64 mo] 93)).heap.size (wr.alloc (.cells #[.int .i64 (sn : Int), .int .i64 bu, .int .i64 pr, .int .i64 mo] 93)) W), cc.val.cell? ⟨G, sn, none⟩ = some (.int .i64 v) := fun cc => (KC.of_below cc.h).cell ((KC.of_below hWb).cell hGc)
      have r3 : ∀ cc : Cls (fun W => Below (wr.alloc (.cells #[.int .i64 (sn : Int), .int .i64 bu, .int .i64 pr, .int .i64 mo] 93)).heap.size (wr.alloc (.cells #[.int .i64 (sn : Int), .int .i64 bu, .int .i64 pr, .int .i64 mo] 93)) W), cc.val.cell? ⟨b', off' + k, none⟩ = some (.int .i64 y) := fun cc => (KC.of_below cc.h).cell ((KC.of_below hWb).cell m2)
      haveI hne : Nonempty (Cls (fun W => Below (wr.alloc (.cells #[.int .i64 (sn : Int), .int .i64 bu, .int .i64 pr, .int .i64 mo] 93)).heap.size (wr.alloc (.cells #[.int .i64 (sn : Int), .int .i64 bu, .int .i64 pr, .int .i64 mo] 93)) W)) := ⟨⟨_, Below.refl _ _⟩⟩
      clear c0 c1 c2 c3 d0 hx hy hok hfb hbs hm hvb hvv hWb hGc M hl5 hb1 hb2 m2
      go_upto_region 5 with (fail)
      generalize wr.alloc (.cells #[.int .i64 (sn : Int), .int .i64 bu, .int .i64 pr, .int .i64 mo] 93) = w5 at *
      refine wp_region_ways3 13 [0, 1, 2, 3, 4, 5, 6, 7, 8, 9, 10, 11, 12] .fin (fun W => ∃ cc : Cls (fun W => Below w5.heap.size w5 W), W = cc.val) (by kernel_rfl) (by kernel_rfl) (Cls.here (Below.refl _ _).drew) ?_
      simp only [List.filterMap_cons, List.filterMap_nil, List.take_succ_cons, List.take_zero, List.getElem?_toArray, List.getElem?_cons_zero, List.getElem?_cons_succ, List.drop_succ_cons, List.drop_zero]
      repeat (first | go_big_quiet_step (fail) | quiet_step (fail))
      refine wpQuiet_nil ?_
      rw [wpWy_fin]
      clear r0 r1 r2 r3 hne
      have MD := Lib.hid (M1.out.below (Below.refl _ _).drew)
      have c9 : w5.drew.cell? ⟨G, sn, none⟩ = some (.int .i64 v) := by rw [MD.out.lG.at_]; simp [vals, HVV.out]
      have f9 : w5.drew.frozen? ⟨G, sn, none⟩ = false := MD.out.lG.free _
      clear M1
      generalize w5.drew = wd at *
      go_wp2_with (fail)
      go_roundw
      case rel => exact ⟨k + 1, by omega, by go_num, by rw [HBS.out]; exact MD.out.set sn _⟩
      case measure => simp [intOf]; omega
    · obtain rfl : k = l.length := by omega
      obtain ⟨pl, hpl⟩ : ∃ pl, pl = buyD s0 l q l.length := ⟨_, rfl⟩
      have hl5 : pl.length = 5 := by rw [hpl, buy_length]; exact H5.out
      have hb8 : ∀ i, i < 5 → 0 ≤ pl.getD i 0 ∧ pl.getD i 0 ≤ 100000000 := fun i hi => by
        have := HBD.out l.length (by omega) i (by rw [H5.out]; exact hi)
        rw [← hpl] at this
        omega
      have hk5 := key5_of hl5 hb8
      have hMl := M.out
      rw [← hpl] at hMl
      have hpw : ∀ W, KC w W → p.At W W.heap.size := fun W hW => HP.out.kc hW hW.size
      have qh := hasRoom_any p t A l.length c (size : Int) mb pl wr (hpw wr hMl.kc) HV.out hl5 (fun i hi => hb8 i (by have := HV.out.ok.n; omega))
      have qsu : roomB p pl = true → ∀ W, Below wr.heap.size wr W → Calls Try.prog 113 #[.agg (offC p t A l.length c (size : Int) mb).toArray, .agg (vals pl)] W fun e w' => e = .returned (.int .i64 (soldUp p t pl size t.g.l.length)) ∧ Memo w' mb (N + 1) (fun pl => soldUp p t pl size t.g.l.length) ∧ KC W w' ∧ StepB mb W w' := fun hr W hb =>
        sure_any p t A l.length c size mb N (fun pl => soldUp p t pl size t.g.l.length) pl W (hpw W (hMl.kc.call hb)) (HT.out.kc (hMl.kc.call hb) (hMl.kc.call hb).size) HPT.out (five_of_room HV.out hl5 (fun i hi => (hb8 i (by have := HV.out.ok.n; omega)).1) hr) hk5 hs (hMl.mm.call hb) rfl
      have hfi : (Try.prog.info? 120).map (·.size) = some pl.length := by rw [hl5]; exact size120
      obtain ⟨rb, hrb⟩ : ∃ rb, rb = roomB p pl := ⟨_, rfl⟩
      rw [← hrb] at qh qsu
      have HRB := Lib.hid hrb
      have HPL := Lib.hid hpl
      have QH := Lib.hid qh
      have QSU := Lib.hid qsu
      have HFI := Lib.hid hfi
      have MM := Lib.hid hMl
      clear hl5 hb8 hk5 hMl hpw qh qsu hfi hrb hpl M
      cases rb with
      | false =>
        go_wp2_with (first
          | (refine wpList_load_row (o := ⟨some 34, _, _, _, _, _⟩) ?_ 147 (.tmp 2) ?_ w.heap.size ?_ 147 (offC p t A l.length c (size : Int) mb).toArray (0, 0) _ MM.out.l0 Try.underlying147 rfl size147 ?_; rfl; rfl; rfl)
          | (refine wpList_load_ints (o := ⟨some 35, _, _, _, _, _⟩) ?_ 120 (.tmp 6) ?_ G 0 ?_ 120 pl pl _ MM.out.lG (fun j v h => by simpa using h) Try.underlying120 rfl HFI.out ?_; rfl; rfl; rfl)
          | (go_at_call 112; refine QH.out.mono ?_; rintro e w7 ⟨rfl, hb7⟩))
        go_ret2
        exact ⟨by rw [← HPL.out, giveV_no HRB.out]; rfl, (MM.out.mm.call hb7).mono (by omega), MM.out.kc.call hb7, (MM.out.below hb7).sb⟩
      | true =>
        have QS2 := Lib.hid (QSU.out rfl)
        clear QSU
        go_wp2_with (first
          | (refine wpList_load_row (o := ⟨some 34, _, _, _, _, _⟩) ?_ 147 (.tmp 2) ?_ w.heap.size ?_ 147 (offC p t A l.length c (size : Int) mb).toArray (0, 0) _ MM.out.l0 Try.underlying147 rfl size147 ?_; rfl; rfl; rfl)
          | (refine wpList_load_ints (o := ⟨some 35, _, _, _, _, _⟩) ?_ 120 (.tmp 6) ?_ G 0 ?_ 120 pl pl _ MM.out.lG (fun j v h => by simpa using h) Try.underlying120 rfl HFI.out ?_; rfl; rfl; rfl)
          | (go_at_call 112; refine QH.out.mono ?_; rintro e w7 ⟨rfl, hb7⟩; have M7 := Lib.hid (MM.out.below hb7))
          | (refine wpList_load_row (o := ⟨some 38, _, _, _, _, _⟩) ?_ 147 (.tmp 2) ?_ w.heap.size ?_ 147 (offC p t A l.length c (size : Int) mb).toArray (0, 0) _ M7.out.l0 Try.underlying147 rfl size147 ?_; rfl; rfl; rfl)
          | (refine wpList_load_ints (o := ⟨some 39, _, _, _, _, _⟩) ?_ 120 (.tmp 6) ?_ G 0 ?_ 120 pl pl _ M7.out.lG (fun j v h => by simpa using h) Try.underlying120 rfl HFI.out ?_; rfl; rfl; rfl)
          | (go_at_call 113; refine (QS2.out _ hb7).mono ?_; rintro e w8 ⟨rfl, hM8, hk8, hk9⟩))
        go_ret2
        exact ⟨by rw [← HPL.out, giveV_yes HRB.out]; rfl, hM8, M7.out.kc.trans hk8, M7.out.sb.trans hk9⟩
end Go.Proofs.Ytlkdmcdnkoiflaa

namespace Go.Proofs.Ytlkdmcdnkoiflaa
open Go.RowKit Go.Lib

def zoffer : List Value := zcourse ++ [.slice none 0 0, .int .i64 0, .map none]
/-- What newOffer hands back: a course of the plan in the truth that sells least, the crates, the size, and a map of nothing. -/
def RetOf (p : PlM) (A : Option Addr) (n c : Nat) (size : Int) (Y : Nat) (w : World) (e : Ending) (w' : World) : Prop :=
  ∃ (t : TrM) (mb : Nat), e = .returned (.agg (offC p t A n c size mb).toArray) ∧ t.At w' w'.heap.size ∧ PT p t ∧ t.s.l = p.s.l.map (·.1) ∧ t.g.l.length = Y ∧ (∀ pl (z : Nat), soldUp p t pl z Y = sellsD p.d (·.1) (·.2) pl z Y) ∧ (∀ f, Memo w' mb 0 f) ∧ w.heap.size ≤ mb ∧ Below w.heap.size w w'
theorem built_offer (A1 A2 A3 A4 A5 A6 A7 A8 A9 : Option Addr) (n1 n2 n3 n4 n5 n6 n7 n8 n9 c1 c2 c3 c4 c5 c6 c7 c8 c9 : Nat) (a b c size : Int) (mb : Nat) :
    Try.prog.built 147 [(0, .agg #[.slice A1 n1 c1, .slice A2 n2 c2, .slice A3 n3 c3, .slice A4 n4 c4, .slice A5 n5 c5, .int .i64 a, .int .i64 b, .int .i64 c, .slice A6 n6 c6, .slice A7 n7 c7, .slice A8 n8 c8]), (1, .slice A9 n9 c9), (2, .int .i64 size), (3, .map (some mb))] =
      some #[.slice A1 n1 c1, .slice A2 n2 c2, .slice A3 n3 c3, .slice A4 n4 c4, .slice A5 n5 c5, .int .i64 a, .int .i64 b, .int .i64 c, .slice A6 n6 c6, .slice A7 n7 c7, .slice A8 n8 c8, .slice A9 n9 c9, .int .i64 size, .map (some mb)] := by kernel_rfl
theorem built_offer' (p : PlM) (t : TrM) (A : Option Addr) (n c : Nat) (size : Int) (mb : Nat) : Try.prog.built 147 [(0, .agg (p.cells ++ t.cells).toArray), (1, .slice A n c), (2, .int .i64 size), (3, .map (some mb))] = some (offC p t A n c size mb).toArray :=
  built_offer p.s.A p.r.A p.g.A p.e.A p.k.A t.s.A t.g.A t.l.A A p.s.l.length p.r.l.length p.g.l.length p.e.l.length p.k.l.length t.s.l.length t.g.l.length t.l.l.length n p.s.c p.r.c p.g.c p.e.c p.k.c t.s.c t.g.c t.l.c c p.lo p.hi p.years size mb
/-- A truth that lies behind block b. -/
def TAt (t : TrM) (w : World) (b : Nat) : Prop := ∃ lo hi, b ≤ lo ∧ hi ≤ w.heap.size ∧ t.Within w lo hi
theorem TAt.call {t : TrM} {w w' : World} {b : Nat} (h : TAt t w b) (hb : Below w.heap.size w w') : TAt t w' b := by
  obtain ⟨lo, hi, h1, h2, h3⟩ := h
  exact ⟨lo, hi, h1, Nat.le_trans h2 hb.size, h3.mid fun j _ hj => hb.block j (by omega)⟩
theorem TAt.only {t : TrM} {w w' : World} {b G : Nat} (h : TAt t w b) (ho : Only G w w') (hG : G < b) : t.At w' w'.heap.size := by
  obtain ⟨lo, hi, h1, h2, h3⟩ := h
  exact (h3.mid fun j hj _ => ho.block j (by omega)).at (by rw [ho.size]; exact h2)
set_option maxRecDepth 100000 in
set_option maxHeartbeats 4000000 in
theorem newOffer_any (p : PlM) (A : Option Addr) (n c : Nat) (size : Int) (Y : Nat) (w : World) (hp : p.At w w.heap.size) (hv : p.Valid) (hY : p.years = (Y : Int)) :
    Calls Try.prog 82 #[.agg p.cells.toArray, .slice A n c, .int .i64 size] w (RetOf p A n c size Y w) := by
  have hY6 : Y ≤ 6 := by have := hv.y; omega
  have l0 : Lies ((w.alloc (.cells p.cells.toArray 41)).alloc (.cells zoffer.toArray 147)) w.heap.size 41 p.cells.toArray := (Lies.fresh _ _ _).alloc _
  have l1 : Lies ((w.alloc (.cells p.cells.toArray 41)).alloc (.cells zoffer.toArray 147)) (w.heap.size + 1) 147 zoffer.toArray := Lies.fresh' (by simp)
  have b0 : Below w.heap.size w ((w.alloc (.cells p.cells.toArray 41)).alloc (.cells zoffer.toArray 147)) := (by repeat (first | (with_reducible assumption) | (with_reducible exact Below.refl _ _) | (with_reducible refine Below.drew ?_) | (with_reducible refine below_drewN ?_ _) | ((with_reducible refine Below.setCell ?_ ?_ _); rotate_left; focus (first | (simp; done) | (simp; omega) | omega)) | ((with_reducible refine Below.alloc ?_ ?_ _); rotate_left; focus (first | (simp; done) | (simp; omega) | omega))))
  have hF : ∀ W, Below w.heap.size w W → Calls Try.prog 70 #[.agg p.cells.toArray, .agg (endsC 109 109 108 109).toArray] W (FollowR p (·.1) (·.1) (·.2) Y W) := fun W hb => follow_any p _ _ _ _ _ _ _ Y W (hp.below hb hb.size) hY hY6 takes_low takes_low takes_high
  have hEnd : ∀ (t : TrM), t.s.l = p.s.l.map (·.1) → t.g.l.length = Y → (∀ y, y ∈ t.g.l → y.l.map (·.l) = p.g.l.map fun x => x.l.map (·.1)) → t.l.l = List.replicate Y ((p.lo, p.hi) : Int × Int).2 → PT p t ∧ ∀ pl (z : Nat), soldUp p t pl z Y = sellsD p.d (·.1) (·.2) pl z Y := fun t e1 e2 e3 e4 =>
    ⟨ends_fit hv between_low between_low between_high hY e1 e2 e3 e4, fun pl z => soldUp_ends (fb := (·.1)) (fc := (·.2)) e2 e3 e4 pl z⟩
  have HF := Lib.hid hF
  have HEND := Lib.hid hEnd
  have L0 := Lib.hid l0
  have L1 := Lib.hid l1
  have B0 := Lib.hid b0
  clear hF hEnd l0 l1 b0 hv hY hp
  unfold PlM.cells
  go_enter Try.func82, Try.ntmps82
  go_upto_region 1 with (fail)
  change Code.wp _ _ _ _ ((w.alloc (.cells p.cells.toArray 41)).alloc (.cells zoffer.toArray 147))
  have hsz1 : ((w.alloc (.cells p.cells.toArray 41)).alloc (.cells zoffer.toArray 147)).heap.size = w.heap.size + 2 := by simp
  generalize (w.alloc (.cells p.cells.toArray 41)).alloc (.cells zoffer.toArray 147) = w1 at *
  have hrg : ∀ W, (∃ cc : Cls (fun W => Below w1.heap.size w1 W), W = cc.val) → W.rangeAt w.heap.size 0 p.cells := by
    rintro W ⟨cc, rfl⟩
    exact Lies.range (cs := p.cells) (L0.out.call cc.h) (fun j v hj => by simpa using hj)
  have HRG := Lib.hid hrg
  clear hrg L0
  haveI hne : Nonempty (Cls (fun W => Below w1.heap.size w1 W)) := ⟨⟨w1, Below.refl _ _⟩⟩
  refine wp_region_ways3 6 [0, 3, 4] (.way 1 (.way 2 (.way 5 .fin .fin) (.way 5 (.way 2 .fin .fin) .fin)) (.way 5 (.way 1 (.way 2 .fin .fin) .fin) .fin)) (fun W => ∃ cc : Cls (fun W => Below w1.heap.size w1 W), W = cc.val) (by kernel_rfl) (by kernel_rfl) (Cls.here (Below.refl _ _).drew) ?_
  simp only [List.filterMap_cons, List.filterMap_nil, List.take_succ_cons, List.take_zero, List.getElem?_toArray, List.getElem?_cons_zero, List.getElem?_cons_succ, List.drop_succ_cons, List.drop_zero]
  repeat (first
    | (refine wpQuiet_load_whole (o := ⟨some 7, _, _, _, _, _⟩) ?_ 41 (.tmp 3) ?_ w.heap.size 0 ?_ p.cells _ HRG.out Try.underlying41 rfl size41 ?_; rfl; rfl; rfl; simp only [Act.put, List.setIfInBounds_toArray, List.set_cons_zero, List.set_cons_succ])
    | go_big_quiet_step (rfl) | quiet_step (rfl))
  refine wpQuiet_nil ?_
  clear HRG
  have D0 := Lib.hid (show Below w1.heap.size w1 w1.drew from (Below.refl _ _).drew)
  generalize w1.drew = d0 at *
  have hmm := @run_makeMap Try.prog
  rw [wpWy_way]
  refine ⟨?_, ?_⟩
  · simp only [List.getElem?_toArray, List.getElem?_cons_succ, List.getElem?_cons_zero]
    go_wp2_with (go_at_call 72; refine (lesserEnds_any _).mono ?_; rintro e d1 ⟨rfl, hb1⟩)
    have D1 := Lib.hid (D0.out.trans (hb1.mono D0.out.size))
    refine Ends.intro ⟨Cls.here D1.out, ?_⟩
    rw [wpWy_way]
    refine ⟨?_, ?_⟩
    · simp only [List.getElem?_toArray, List.getElem?_cons_succ, List.getElem?_cons_zero]
      go_wp2_with (go_at_call 70; refine (HF.out _ (B0.out.trans (D1.out.mono B0.out.size))).mono ?_; rintro e d2 ⟨t, rfl, ht, e1, e2, e3, e4, hb2⟩)
      have D2 := Lib.hid (D1.out.trans (hb2.mono D1.out.size))
      have T2 := Lib.hid (show TAt t d2 (w.heap.size + 2) from ⟨_, _, by have := D1.out.size; omega, Nat.le_refl _, ht⟩)
      obtain ⟨hpt, hso⟩ := HEND.out t e1 e2 e3 e4
      refine Ends.intro ⟨Cls.here D2.out, ?_⟩
      rw [wpWy_way]
      refine ⟨?_, by exact trivial⟩
      simp only [List.getElem?_toArray, List.getElem?_cons_succ, List.getElem?_cons_zero]
      go_wp2_with (fail)
      have hb3 := (Below.refl d2.heap.size d2).alloc (Nat.le_refl _) (.map #[] 0)
      have D3 := Lib.hid (D2.out.trans (hb3.mono D2.out.size))
      have HM3 := Lib.hid (memo_made d2)
      obtain ⟨mb, hmb⟩ : ∃ mb, mb = d2.heap.size := ⟨_, rfl⟩
      rw [← hmb] at HM3 ⊢
      have HLE := Lib.hid (show w.heap.size ≤ mb by have := D2.out.size; omega)
      clear hmb
      generalize d2.alloc (.map #[] 0) = d3 at *
      refine Ends.intro ⟨Cls.here D3.out, ?_⟩
      have T3 := Lib.hid (T2.out.call hb3)
      rw [wpWy_fin]
      have Z5 := Lib.hid (L1.out.call D3.out)
      have BB := Lib.hid (B0.out.trans (D3.out.mono B0.out.size))
      refine wpList_build (o := ⟨some 13, _, _, _, _, _⟩) ?_ 147 #[(0, .tmp 9), (1, .tmp 10), (2, .tmp 11), (3, .tmp 12)] ?_ #[(0, .agg (p.cells ++ t.cells).toArray), (1, .slice A n c), (2, .int .i64 size), (3, .map (some mb))] ?_ (offC p t A n c size mb).toArray ?_ ?_
      rfl; rfl; (simp only [List.map_toArray, List.map_cons, List.map_nil]; rfl)
      exact built_offer' p t A n c size mb
      simp only [Act.put, List.setIfInBounds_toArray, List.set_cons_zero, List.set_cons_succ]
      refine wpList_store_cells (o := ⟨none, .store 147 (.tmp 6) _, _, _, _, _⟩) ?_ 147 (.tmp 6) (.tmp 13) ?_ (w.heap.size + 1) 0 ?_ 147 zoffer (offC p t A n c size mb) ?_ Z5.out (by simp [offC, PlM.cells, TrM.cells, zoffer]) size147 (by simp [offC, PlM.cells, TrM.cells, Value.oneCell']) ?_
      rfl; rfl; rfl; rfl
      intro w9 HS9 HO9
      refine wpList_nil ?_
      have hs9 := HS9.out
      rw [splice_whole (by simp [offC, PlM.cells, TrM.cells, zoffer])] at hs9
      have ht9 : t.At w9 w9.heap.size := T3.out.only HO9.out (by omega)
      go_wp2_with (fail)
      exact bodyPost_ret (results_cell_row rfl _ _ (w.heap.size + 1) 147 (offC p t A n c size mb).toArray (0, 0) _ rfl hs9 Try.underlying147 rfl size147) rfl ⟨t, mb, rfl, ht9, hpt, e1, e2, hso, fun f => (HM3.out f).only Z5.out HO9.out, HLE.out, HO9.out.below BB.out (by omega)⟩
    · rw [wpWy_way]
      refine ⟨?_, by exact trivial⟩
      simp only [List.getElem?_toArray, List.getElem?_cons_succ, List.getElem?_cons_zero]
      go_wp2_with (fail)
      have hb2 := (Below.refl d1.heap.size d1).alloc (Nat.le_refl _) (.map #[] 0)
      have D2 := Lib.hid (D1.out.trans (hb2.mono D1.out.size))
      have HM2 := Lib.hid (memo_made d1)
      obtain ⟨mb, hmb⟩ : ∃ mb, mb = d1.heap.size := ⟨_, rfl⟩
      rw [← hmb] at HM2 ⊢
      have HLE := Lib.hid (show w.heap.size ≤ mb by have := D1.out.size; omega)
      clear hmb
      generalize d1.alloc (.map #[] 0) = d2 at *
      refine Ends.intro ⟨Cls.here D2.out, ?_⟩
      rw [wpWy_way]
      refine ⟨?_, by exact trivial⟩
      simp only [List.getElem?_toArray, List.getElem?_cons_succ, List.getElem?_cons_zero]
      go_wp2_with (go_at_call 70; refine (HF.out _ (B0.out.trans (D2.out.mono B0.out.size))).mono ?_; rintro e d3 ⟨t, rfl, ht, e1, e2, e3, e4, hb3⟩)
      have D3 := Lib.hid (D2.out.trans (hb3.mono D2.out.size))
      have T3 := Lib.hid (show TAt t d3 (w.heap.size + 2) from ⟨_, _, by have := D2.out.size; omega, Nat.le_refl _, ht⟩)
      obtain ⟨hpt, hso⟩ := HEND.out t e1 e2 e3 e4
      refine Ends.intro ⟨Cls.here D3.out, ?_⟩
      have HM3 := Lib.hid (fun f => (HM2.out f).call hb3)
      rw [wpWy_fin]
      have Z5 := Lib.hid (L1.out.call D3.out)
      have BB := Lib.hid (B0.out.trans (D3.out.mono B0.out.size))
      refine wpList_build (o := ⟨some 13, _, _, _, _, _⟩) ?_ 147 #[(0, .tmp 9), (1, .tmp 10), (2, .tmp 11), (3, .tmp 12)] ?_ #[(0, .agg (p.cells ++ t.cells).toArray), (1, .slice A n c), (2, .int .i64 size), (3, .map (some mb))] ?_ (offC p t A n c size mb).toArray ?_ ?_
      rfl; rfl; (simp only [List.map_toArray, List.map_cons, List.map_nil]; rfl)
      exact built_offer' p t A n c size mb
      simp only [Act.put, List.setIfInBounds_toArray, List.set_cons_zero, List.set_cons_succ]
      refine wpList_store_cells (o := ⟨none, .store 147 (.tmp 6) _, _, _, _, _⟩) ?_ 147 (.tmp 6) (.tmp 13) ?_ (w.heap.size + 1) 0 ?_ 147 zoffer (offC p t A n c size mb) ?_ Z5.out (by simp [offC, PlM.cells, TrM.cells, zoffer]) size147 (by simp [offC, PlM.cells, TrM.cells, Value.oneCell']) ?_
      rfl; rfl; rfl; rfl
      intro w9 HS9 HO9
      refine wpList_nil ?_
      have hs9 := HS9.out
      rw [splice_whole (by simp [offC, PlM.cells, TrM.cells, zoffer])] at hs9
      have ht9 : t.At w9 w9.heap.size := T3.out.only HO9.out (by omega)
      go_wp2_with (fail)
      exact bodyPost_ret (results_cell_row rfl _ _ (w.heap.size + 1) 147 (offC p t A n c size mb).toArray (0, 0) _ rfl hs9 Try.underlying147 rfl size147) rfl ⟨t, mb, rfl, ht9, hpt, e1, e2, hso, fun f => (HM3.out f).only Z5.out HO9.out, HLE.out, HO9.out.below BB.out (by omega)⟩
  · rw [wpWy_way]
    refine ⟨?_, by exact trivial⟩
    simp only [List.getElem?_toArray, List.getElem?_cons_succ, List.getElem?_cons_zero]
    go_wp2_with (fail)
    have hb1 := (Below.refl d0.heap.size d0).alloc (Nat.le_refl _) (.map #[] 0)
    have D1 := Lib.hid (D0.out.trans (hb1.mono D0.out.size))
    have HM1 := Lib.hid (memo_made d0)
    obtain ⟨mb, hmb⟩ : ∃ mb, mb = d0.heap.size := ⟨_, rfl⟩
    rw [← hmb] at HM1 ⊢
    have HLE := Lib.hid (show w.heap.size ≤ mb by have := D0.out.size; omega)
    clear hmb
    generalize d0.alloc (.map #[] 0) = d1 at *
    refine Ends.intro ⟨Cls.here D1.out, ?_⟩
    rw [wpWy_way]
    refine ⟨?_, by exact trivial⟩
    simp only [List.getElem?_toArray, List.getElem?_cons_succ, List.getElem?_cons_zero]
    go_wp2_with (go_at_call 72; refine (lesserEnds_any _).mono ?_; rintro e d2 ⟨rfl, hb2⟩)
    have D2 := Lib.hid (D1.out.trans (hb2.mono D1.out.size))
    refine Ends.intro ⟨Cls.here D2.out, ?_⟩
    have HM2 := Lib.hid (fun f => (HM1.out f).call hb2)
    rw [wpWy_way]
    refine ⟨?_, by exact trivial⟩
    simp only [List.getElem?_toArray, List.getElem?_cons_succ, List.getElem?_cons_zero]
    go_wp2_with (go_at_call 70; refine (HF.out _ (B0.out.trans (D2.out.mono B0.out.size))).mono ?_; rintro e d3 ⟨t, rfl, ht, e1, e2, e3, e4, hb3⟩)
    have D3 := Lib.hid (D2.out.trans (hb3.mono D2.out.size))
    have T3 := Lib.hid (show TAt t d3 (w.heap.size + 2) from ⟨_, _, by have := D2.out.size; omega, Nat.le_refl _, ht⟩)
    obtain ⟨hpt, hso⟩ := HEND.out t e1 e2 e3 e4
    refine Ends.intro ⟨Cls.here D3.out, ?_⟩
    have HM3 := Lib.hid (fun f => (HM2.out f).call hb3)
    rw [wpWy_fin]
    have Z5 := Lib.hid (L1.out.call D3.out)
    have BB := Lib.hid (B0.out.trans (D3.out.mono B0.out.size))
    refine wpList_build (o := ⟨some 13, _, _, _, _, _⟩) ?_ 147 #[(0, .tmp 9), (1, .tmp 10), (2, .tmp 11), (3, .tmp 12)] ?_ #[(0, .agg (p.cells ++ t.cells).toArray), (1, .slice A n c), (2, .int .i64 size), (3, .map (some mb))] ?_ (offC p t A n c size mb).toArray ?_ ?_
    rfl; rfl; (simp only [List.map_toArray, List.map_cons, List.map_nil]; rfl)
    exact built_offer' p t A n c size mb
    simp only [Act.put, List.setIfInBounds_toArray, List.set_cons_zero, List.set_cons_succ]
    refine wpList_store_cells (o := ⟨none, .store 147 (.tmp 6) _, _, _, _, _⟩) ?_ 147 (.tmp 6) (.tmp 13) ?_ (w.heap.size + 1) 0 ?_ 147 zoffer (offC p t A n c size mb) ?_ Z5.out (by simp [offC, PlM.cells, TrM.cells, zoffer]) size147 (by simp [offC, PlM.cells, TrM.cells, Value.oneCell']) ?_
    rfl; rfl; rfl; rfl
    intro w9 HS9 HO9
    refine wpList_nil ?_
    have hs9 := HS9.out
    rw [splice_whole (by simp [offC, PlM.cells, TrM.cells, zoffer])] at hs9
    have ht9 : t.At w9 w9.heap.size := T3.out.only HO9.out (by omega)
    go_wp2_with (fail)
    exact bodyPost_ret (results_cell_row rfl _ _ (w.heap.size + 1) 147 (offC p t A n c size mb).toArray (0, 0) _ rfl hs9 Try.underlying147 rfl size147) rfl ⟨t, mb, rfl, ht9, hpt, e1, e2, hso, fun f => (HM3.out f).only Z5.out HO9.out, HLE.out, HO9.out.below BB.out (by omega)⟩
end Go.Proofs.Ytlkdmcdnkoiflaa

namespace Go.Proofs.Ytlkdmcdnkoiflaa
open Go.RowKit Go.Lib

/-- What is planted at least with a purchase; whether it can be, and is enough. -/
def buyP (p : PlM) (l : List Cr) (q : List Int) : List Int := buyD (pad5 (p.s.l.map (·.1))) l q l.length
def giveP (p : PlM) (S Y : Nat) (l : List Cr) (q : List Int) : Int := sellsD p.d (·.1) (·.2) (buyP p l q) S Y
def enoughP (p : PlM) (S Y : Nat) (number : Int) (l : List Cr) (q : List Int) : Bool := roomB p (buyP p l q) && decide (number ≤ giveP p S Y l q)
/-- The memory that gives needs: an offer. -/
structure OffM (p : PlM) (t : TrM) (A A' : Option Addr) (l : List Cr) (q : List Int) (S Y mb N : Nat) (w : World) : Prop where
  hp : p.At w w.heap.size
  ht : t.At w w.heap.size
  hpt : PT p t
  hts : t.s.l = p.s.l.map (·.1)
  hty : t.g.l.length = Y
  hso : ∀ pl (z : Nat), soldUp p t pl z Y = sellsD p.d (·.1) (·.2) pl z Y
  hmm : Memo w mb N fun pl => soldUp p t pl S t.g.l.length
  hl : Sl w w.heap.size 4 encCr A l
  hq : Sl w w.heap.size 1 encI A' q
theorem gives_off {p : PlM} {t : TrM} {A A' : Option Addr} {l : List Cr} {q : List Int} {S Y mb N : Nat} {w : World} (c c' : Nat) (M : OffM p t A A' l q S Y mb N w) (hv : p.Valid) (hs : S < 5) (ho : offB p.s.l.length l = 0) (hq : pairedB l q (fun c m => inB m 0 c.most) = true) :
    Calls Try.prog 83 #[.agg (offC p t A l.length c (S : Int) mb).toArray, .slice A' q.length c'] w fun e w' =>
      e = .returned (.tuple #[.int .i64 (if roomB p (buyP p l q) then giveP p S Y l q else 0), .bool (roomB p (buyP p l q))]) ∧ Memo w' mb (N + 1) (fun pl => soldUp p t pl S t.g.l.length) ∧ KC w w' ∧ StepB mb w w' :=
  (gives_any p t A A' c c' S mb N l q w M.hp M.ht hv M.hpt M.hts hs ho M.hl M.hq hq M.hmm).mono fun e w' ⟨he, h⟩ => ⟨by
    rw [he]
    unfold giveV giveP buyP
    rw [M.hts, M.hty, M.hso], h⟩
set_option maxRecDepth 100000 in
set_option maxHeartbeats 2000000 in
theorem Enough_not (p : PlM) (A A' : Option Addr) (c c' : Nat) (l : List Cr) (q : List Int) (size number : Int) (w : World) (hp : p.At w w.heap.size) (hA : Sl w w.heap.size 4 encCr A l) (hA' : Sl w w.heap.size 1 encI A' q) (hno : offL p l size number = 0) (hq : pairedB l q (fun c m => inB m 0 c.most) = false) :
    Calls Try.prog 38 #[.agg p.cells.toArray, .slice A l.length c, .slice A' q.length c', .int .i64 size, .int .i64 number] w fun e w' => e = .returned (.tuple #[.bool false, .int .i64 2]) ∧ Below w.heap.size w w' := by
  have hl4 := (offB_zero (offL_zero hno).2.1).1
  have l0 : Lies (w.alloc (.cells p.cells.toArray 41)) w.heap.size 41 p.cells.toArray := Lies.fresh _ _ _
  have b0 : Below w.heap.size w (w.alloc (.cells p.cells.toArray 41)) := (Below.refl _ _).alloc (Nat.le_refl _) _
  have hC := checkOffer_any p A c l size number _ (hp.below b0 b0.size) ((hA.below b0).more b0.size) (by omega)
  have hP : ∀ W, Below w.heap.size w W → Calls Try.prog 80 #[.slice A l.length c, .slice A' q.length c', .func (.func 81) #[] #[]] W fun e w' => e = .returned (.bool false) ∧ Below W.heap.size W w' := fun W hb => by
    have := pairedCrate_any 81 #[] #[] (fun c m => inB m 0 c.most) A A' c c' l q W ((hA.below hb).more hb.size) ((hA'.below hb).more hb.size) (ask_canBe W _) (by omega)
    rwa [hq] at this
  rw [hno] at hC
  have L0 := Lib.hid l0
  have B0 := Lib.hid b0
  have HC := Lib.hid hC
  have HPP := Lib.hid hP
  clear l0 b0 hC hP hno hp hA hA' hq
  unfold PlM.cells at HC ⊢
  go_enter Try.func38, Try.ntmps38
  go_wp2_with (first
    | (refine wpList_load_row (o := ⟨some 15, _, _, _, _, _⟩) ?_ 41 (.tmp 5) ?_ w.heap.size ?_ 41 p.cells.toArray (0, 0) _ L0.out Try.underlying41 rfl size41 ?_; rfl; rfl; rfl)
    | (go_at_call 79; refine HC.out.mono ?_; rintro e w1 ⟨rfl, hb1⟩; have B1 := Lib.hid (B0.out.trans (hb1.mono B0.out.size)))
    | (go_at_call 80; refine (HPP.out _ B1.out).mono ?_; rintro e w2 ⟨rfl, hb2⟩))
  go_ret2
  exact ⟨rfl, B1.out.trans (hb2.mono B1.out.size)⟩
end Go.Proofs.Ytlkdmcdnkoiflaa

namespace Go.Proofs.Ytlkdmcdnkoiflaa
open Go.RowKit Go.Lib

set_option maxRecDepth 100000 in
set_option maxHeartbeats 2000000 in
theorem Enough_ok (p : PlM) (A A' : Option Addr) (c c' S Y : Nat) (l : List Cr) (q : List Int) (number : Int) (w : World) (hp : p.At w w.heap.size) (hA : Sl w w.heap.size 4 encCr A l) (hA' : Sl w w.heap.size 1 encI A' q) (hno : offL p l (S : Int) number = 0) (hq : pairedB l q (fun c m => inB m 0 c.most) = true) (hY : p.years = (Y : Int)) :
    Calls Try.prog 38 #[.agg p.cells.toArray, .slice A l.length c, .slice A' q.length c', .int .i64 (S : Int), .int .i64 number] w fun e w' => e = .returned (.tuple #[.bool (enoughP p S Y number l q), .int .i64 0]) ∧ Below w.heap.size w w' := by
  obtain ⟨hf, hob, hask⟩ := offL_zero hno
  have hl4 := (offB_zero hob).1
  have hv := fault_zero hf
  have hS : S < 5 := by
    have h1 := ((asked_zero hask).2.1 (S : Int) (by simp)).2
    have := hv.ok.n
    omega
  have l0 : Lies (w.alloc (.cells p.cells.toArray 41)) w.heap.size 41 p.cells.toArray := Lies.fresh _ _ _
  have b0 : Below w.heap.size w (w.alloc (.cells p.cells.toArray 41)) := (Below.refl _ _).alloc (Nat.le_refl _) _
  have hC := checkOffer_any p A c l (S : Int) number _ (hp.below b0 b0.size) ((hA.below b0).more b0.size) (by omega)
  have hP : ∀ W, Below w.heap.size w W → Calls Try.prog 80 #[.slice A l.length c, .slice A' q.length c', .func (.func 81) #[] #[]] W fun e w' => e = .returned (.bool true) ∧ Below W.heap.size W w' := fun W hb => by
    have := pairedCrate_any 81 #[] #[] (fun c m => inB m 0 c.most) A A' c c' l q W ((hA.below hb).more hb.size) ((hA'.below hb).more hb.size) (ask_canBe W _) (by omega)
    rwa [hq] at this
  have hN : ∀ W, Below w.heap.size w W → Calls Try.prog 82 #[.agg p.cells.toArray, .slice A l.length c, .int .i64 (S : Int)] W (RetOf p A l.length c (S : Int) Y W) := fun W hb => newOffer_any p A l.length c (S : Int) Y W (hp.below hb hb.size) hv hY
  obtain ⟨rb, hrb⟩ : ∃ rb, rb = roomB p (buyP p l q) := ⟨_, rfl⟩
  have hG : ∀ (t : TrM) (mb : Nat) (W : World), Below w.heap.size w W → t.At W W.heap.size → PT p t → t.s.l = p.s.l.map (·.1) → t.g.l.length = Y → (∀ pl (z : Nat), soldUp p t pl z Y = sellsD p.d (·.1) (·.2) pl z Y) → (∀ f, Memo W mb 0 f) →
      Calls Try.prog 83 #[.agg (offC p t A l.length c (S : Int) mb).toArray, .slice A' q.length c'] W fun e w' => e = .returned (.tuple #[.int .i64 (if rb then giveP p S Y l q else 0), .bool rb]) ∧ KC W w' ∧ Below mb W w' := fun t mb W hb h1 h2 h3 h4 h5 h6 => by
    have := gives_off c c' (N := 0) ⟨hp.below hb hb.size, h1, h2, h3, h4, h5, h6 _, (hA.below hb).more hb.size, (hA'.below hb).more hb.size⟩ hv hS hob hq
    rw [← hrb] at this
    exact this.mono fun e w' h => ⟨h.1, h.2.2.1, h.2.2.2.below (Below.refl _ _) (Nat.le_refl _) (Nat.le_of_lt (h6 (fun _ => 0)).in_)⟩
  have hE : enoughP p S Y number l q = (rb && decide (number ≤ giveP p S Y l q)) := by unfold enoughP; rw [hrb]
  rw [hno] at hC
  have L0 := Lib.hid l0
  have B0 := Lib.hid b0
  have HC := Lib.hid hC
  have HPP := Lib.hid hP
  have HN := Lib.hid hN
  have HG := Lib.hid hG
  have HE := Lib.hid hE
  clear l0 b0 hC hP hno hp hA hA' hq hN hG hE hrb hv hf hob hask hY
  generalize enoughP p S Y number l q = ev at *
  generalize giveP p S Y l q = gv at *
  obtain ⟨cc, hcc⟩ : ∃ cc, cc = decide (number ≤ gv) := ⟨_, rfl⟩
  have hdd : decide (number ≤ gv) = cc := hcc.symm
  rw [hdd] at HE
  clear hcc
  unfold PlM.cells at HC HN ⊢
  go_enter Try.func38, Try.ntmps38
  cases rb
  all_goals
    go_wp2_with (first
      | (refine wpList_load_row (o := ⟨some 15, _, _, _, _, _⟩) ?_ 41 (.tmp 5) ?_ w.heap.size ?_ 41 p.cells.toArray (0, 0) _ L0.out Try.underlying41 rfl size41 ?_; rfl; rfl; rfl)
      | (go_at_call 79; refine HC.out.mono ?_; rintro e w1 ⟨rfl, hb1⟩; have L1 := Lib.hid (L0.out.call hb1); have B1 := Lib.hid (B0.out.trans (hb1.mono B0.out.size)))
      | (go_at_call 80; refine (HPP.out _ B1.out).mono ?_; rintro e w2 ⟨rfl, hb2⟩; have L2 := Lib.hid (L1.out.call hb2); have B2 := Lib.hid (B1.out.trans (hb2.mono B1.out.size)))
      | (refine wpList_load_row (o := ⟨some 28, _, _, _, _, _⟩) ?_ 41 (.tmp 5) ?_ w.heap.size ?_ 41 p.cells.toArray (0, 0) _ L2.out Try.underlying41 rfl size41 ?_; rfl; rfl; rfl)
      | (go_at_call 82; refine (HN.out _ B2.out).mono ?_; rintro e w3 ⟨t, mb, rfl, hh⟩; have HH := Lib.hid hh; clear hh; have B3 := Lib.hid (B2.out.trans (HH.out.2.2.2.2.2.2.2.mono B2.out.size)))
      | (go_at_call 83; refine (HG.out t mb w3 B3.out HH.out.1 HH.out.2.1 HH.out.2.2.1 HH.out.2.2.2.1 HH.out.2.2.2.2.1 HH.out.2.2.2.2.2.1).mono ?_; rintro e w4 ⟨rfl, hk4, hb4⟩))
    go_ret2
    refine ⟨?_, B3.out.trans (hb4.mono (Nat.le_trans B2.out.size HH.out.2.2.2.2.2.2.1))⟩
    rw [HE.out]
    simp []
end Go.Proofs.Ytlkdmcdnkoiflaa

namespace Go.Proofs.Ytlkdmcdnkoiflaa
open Go.RowKit Go.Lib

set_option maxRecDepth 100000 in
set_option maxHeartbeats 2000000 in
theorem Cheapest_no (p : PlM) (A : Option Addr) (c : Nat) (l : List Cr) (size number : Int) (w : World) (hp : p.At w w.heap.size) (hA : Sl w w.heap.size 4 encCr A l) (hl : l.length ≤ 1000000) (hno : offL p l size number ≠ 0) :
    Calls Try.prog 41 #[.agg p.cells.toArray, .slice A l.length c, .int .i64 size, .int .i64 number] w fun e w' => e = .returned (.tuple #[.slice none 0 0, .int .i64 0, .int .i64 (offL p l size number)]) ∧ Below w.heap.size w w' := by
  have l0 : Lies (w.alloc (.cells p.cells.toArray 41)) w.heap.size 41 p.cells.toArray := Lies.fresh _ _ _
  have b0 : Below w.heap.size w (w.alloc (.cells p.cells.toArray 41)) := (Below.refl _ _).alloc (Nat.le_refl _) _
  have hC := checkOffer_any p A c l size number _ (hp.below b0 b0.size) ((hA.below b0).more b0.size) hl
  generalize offL p l size number = ft at *
  have hA1 : (ft != 0) = true := by simpa using hno
  have L0 := Lib.hid l0
  have B0 := Lib.hid b0
  have HC := Lib.hid hC
  clear l0 b0 hC hno hp hA hl
  unfold PlM.cells at HC ⊢
  go_enter Try.func41, Try.ntmps41
  go_wp2_with (first
    | (refine wpList_load_row (o := ⟨some 13, _, _, _, _, _⟩) ?_ 41 (.tmp 4) ?_ w.heap.size ?_ 41 p.cells.toArray (0, 0) _ L0.out Try.underlying41 rfl size41 ?_; rfl; rfl; rfl)
    | (go_at_call 79; refine HC.out.mono ?_; rintro e w1 ⟨rfl, hb1⟩))
  go_ret3
  exact ⟨rfl, B0.out.trans (hb1.mono B0.out.size)⟩
end Go.Proofs.Ytlkdmcdnkoiflaa

namespace Go.Proofs.Ytlkdmcdnkoiflaa
open Go.RowKit Go.Lib
attribute [local go_sem] Oper.semAt_some

theorem Backward_any (A : Option Addr) (n c : Nat) (w : World) :
    Calls Try.prog 128 #[.slice A n c] w fun e w' => e = .returned (.func (.func 129) #[] #[.pointer (some ⟨w.heap.size, 0, none⟩)]) ∧ w.alloc (.cells #[.slice A n c] 76) = w' := by
  go_enter Try.func128, Try.ntmps128
  go_wp2
  go_ret
  exact ⟨rfl, rfl⟩
theorem purchases_any (A : Option Addr) (n c : Nat) (w : World) :
    Calls Try.prog 114 #[.slice A n c] w fun e w' => e = .returned (.func (.func 126) #[] #[.pointer (some ⟨w.heap.size, 0, none⟩)]) ∧ w.alloc (.cells #[.slice A n c] 76) = w' := by
  go_enter Try.func114, Try.ntmps114
  go_wp2
  go_ret
  exact ⟨rfl, rfl⟩
def encBk (x : Nat × Cr) : Array Value := #[.int .i64 x.1, .agg (encCr x.2).toArray]
set_option maxRecDepth 100000 in
set_option maxHeartbeats 4000000 in
theorem Backward1_gives (n : Nat) (hn : 1 ≤ n) (A : Option Addr) (c gb : Nat) (l : List Cr) (w : World) (hl : l.length ≤ 1000000) (St : World → Prop) (hSt : ∀ W, St W → Lies W gb 76 #[.slice A l.length c] ∧ Sl W W.heap.size 4 encCr A l) :
    GivesB n Try.prog 129 #[.pointer (some ⟨gb, 0, none⟩)] (fun _ => encBk) (backL l) w (fun _ _ _ => True) St := by
  intro l' J Jx W hbW hJS hJ hY h0
  have HPT := Lib.hid (fun k A (h : J k A) => hSt A (hJS k A h))
  have HY := Lib.hid hY
  have HJ := Lib.hid hJ
  have H0 := Lib.hid h0
  have c0 : W.cell? ⟨gb, 0, none⟩ = some (.slice A l.length c) := (HPT.out _ _ H0.out).1.at_ 0
  have hlz : (l.length : Int) ≤ 1000000 := by omega
  clear hJS hY hJ h0 hSt hbW
  refine callsIn_of_wp Try.func129 rfl trivial ?_ rfl
  refine wpIn_wide.2 ?_
  simp only [Try.ntmps129, List.size_toArray, List.length_cons, List.length_nil, Nat.reduceAdd, Nat.reduceSub, Array.replicate_succ, Array.replicate_zero, List.push_toArray, List.append_toArray, List.nil_append, List.cons_append]
  go_wp2
  clear c0
  go_loopw [3] (fun s3 wr => ∃ (k j : Nat), k + j = l.length ∧ s3 = .int .i64 ((j : Int) - 1) ∧ Aside (J k wr)) (fun i _ => (intOf i + 1).toNat)
  case atStart => exact ⟨0, l.length, by omega, rfl, H0.out⟩
  case round =>
    obtain ⟨k, j, hkj, rfl, N⟩ := hrel
    have c0 : wr.cell? ⟨gb, 0, none⟩ = some (.slice A l.length c) := (HPT.out _ _ N.out).1.at_ 0
    cases j with
    | zero =>
      simp only [Int.natCast_zero, Int.zero_sub]
      go_wp2
      go_end0
      exact ⟨⟨_, rfl⟩, .inl (by rw [backL_length, ← hkj]; exact N.out)⟩
    | succ j =>
      have e : ((j + 1 : Nat) : Int) - 1 = (j : Int) := by omega
      rw [e]
      have hltz : (j : Int) < (l.length : Int) := by omega
      have hj0 : (0 : Int) ≤ (j : Int) := by omega
      obtain ⟨x, hx⟩ : ∃ x, l[j]? = some x := ⟨l[j]'(by omega), by simp⟩
      obtain ⟨b, off, rfl, hb, c0', c1, c2, c3⟩ := (HPT.out _ _ N.out).2.cellCr hx
      have hat : (backL l)[k]? = some (j, x) := by
        have e1 : l.length - 1 - k = j := by omega
        have := backL_at (l := l) (k := k) (by omega) (x := x) (by rw [e1]; exact hx)
        rwa [e1] at this
      have HE := Lib.hid hat
      have HX := Lib.hid hx
      have HKJ := Lib.hid hkj
      clear hat hx e hkj hb
      obtain ⟨fn, tmps, assign, body, hy, hR⟩ := HY.out k (j, x) wr HE.out N.out trivial
      dsimp only [encBk, encCr] at hy
      have hn1 : 1 ≤ n := hn
      refine (wpIn_wide (n := n)).1 ?_
      gi_wp2_with (fail)
      refine hR.mono ?_
      clear hR hy
      rintro e W5 (⟨rfl, hJ5, -⟩ | ⟨rfl, hx5⟩)
      · gi_wp2_with (fail)
        go_wp2_with (fail)
        go_roundw
        case rel => exact ⟨k + 1, j, by have := HKJ.out; omega, by go_num, hJ5⟩
        case measure => simp [intOf]
      · gi_wp2_with (fail)
        go_wp2
        refine bodyPost_ret (results_none rfl _ _ _) rfl ?_
        exact ⟨⟨_, rfl⟩, .inr ⟨k + 1, by rw [backL_length]; have := HKJ.out; omega, hx5⟩⟩
end Go.Proofs.Ytlkdmcdnkoiflaa

namespace Go.Proofs.Ytlkdmcdnkoiflaa
open Go.RowKit Go.Lib
attribute [local go_sem] Oper.semAt_some

theorem run_loadVar_one {P : Program} (w : World) (ty : TypeId) (a : Addr) (v : Value) (d : TypeDesc) (hc : w.cell? a = some v) (hu : P.underlying ty = some d) (hd : d.isRow = false) : (loadVar ty a).run P w = .ok v w := by
  have hagg : (isAgg ty).run P w = .ok false w := by
    unfold isAgg
    rw [Sem.run_bind, run_underlying hu w]
    cases d <;> simp_all
  simp [loadVar, Sem.run_bind, hagg, hc]
theorem results_cell_one {P : Program} {fn : Func} {p : Tmp} {ty : TypeId} (h : fn.results = #[.cell p ty]) (tmps : Array Value) (w : World) (a : Addr) (v : Value) (d : TypeDesc)
    (hp : tmps.getD p undef = .pointer (some a)) (hc : w.cell? a = some v) (hu : P.underlying ty = some d) (hd : d.isRow = false) :
    (results fn tmps).run P w = .ok v w := by
  have hp' : tmps[p]?.getD undef = .pointer (some a) := by simpa using hp
  simp [results, h, hp', asAddr, run_loadVar_one w ty a v d hc hu hd]
theorem StepB.new {b b' : Nat} {w A A' : World} (h : StepB b w A) (h' : StepB b' A A') (hb : w.heap.size ≤ b') : StepB b w A' :=
  ⟨h'.os.trans h.os, h'.tape.trans h.tape, h'.output.trans h.output, Nat.le_trans h.size h'.size, fun k hk hkb => (h'.block k (Nat.lt_of_lt_of_le hk h.size) (fun e => by cases e; omega)).trans (h.block k hk hkb)⟩
theorem StepB.recs {b D : Nat} {w A A' : World} (h : StepB b w A) (h' : Recs D A A') (hb : w.heap.size ≤ D) : StepB b w A' := by
  obtain ⟨row, hg, hr⟩ := h'
  exact ⟨hg.os.trans h.os, hg.tape.trans h.tape, hg.output.trans h.output, Nat.le_trans h.size hg.size, fun k hk hkb => (hg.block k (Nat.lt_of_lt_of_le hk h.size) (fun e => by have := (hr k e.symm).1; omega)).trans (h.block k hk hkb)⟩
theorem StepB.refl (b : Nat) (w : World) : StepB b w w := .of_below (Below.refl _ _)
/-- goOn between two rounds: k kinds from behind are at their most. -/
structure GoM (A : Option Addr) (c pb : Nat) (l : List Cr) (ms : List Nat) (q : List Int) (w : World) (k : Nat) (W : World) : Prop where
  p : Lies W pb 3 (vals (zeroB q (q.length - k)))
  s : Lies W w.heap.size 23 #[.slice (some ⟨pb, 0, none⟩) q.length q.length]
  r : Lies W (w.heap.size + 1) 4 #[.bool false]
  g : Lies W (w.heap.size + 1 + 1) 76 #[.slice A l.length c]
  st : StepB pb w W
  sz : w.heap.size + 3 ≤ W.heap.size
  no : nextD (ms.drop (q.length - k)) (q.drop (q.length - k)) = none
/-- goOn left early. -/
structure GoX (pb : Nat) (ms : List Nat) (q : List Int) (w : World) (c : Code) (W : World) : Prop where
  c : c = .ret
  p : Lies W pb 3 (vals (goQ ms q))
  r : Lies W (w.heap.size + 1) 4 #[.bool true]
  st : StepB pb w W
  yes : (nextD ms q).isSome = true
/-- What goOn hands back. -/
def GoR (pb : Nat) (ms : List Nat) (q : List Int) (w : World) (e : Ending) (w' : World) : Prop := e = .returned (.bool (nextD ms q).isSome) ∧ Lies w' pb 3 (vals (goQ ms q)) ∧ StepB pb w w'
theorem mosts_at {l : List Cr} {j : Nat} {x : Cr} (hx : l[j]? = some x) : (l.map fun c : Cr => c.most.toNat)[j]? = some x.most.toNat := by rw [List.getElem?_map, hx]; rfl
theorem GoM.call {A : Option Addr} {c pb : Nat} {l : List Cr} {ms : List Nat} {q : List Int} {w : World} {k : Nat} {V V' : World} (h : GoM A c pb l ms q w k V) (hb : Below V.heap.size V V') : GoM A c pb l ms q w k V' :=
  ⟨h.p.call hb, h.s.call hb, h.r.call hb, h.g.call hb, h.st.below' hb, Nat.le_trans h.sz hb.size, h.no⟩
theorem sizeCr : (Try.prog.info? 93).map (·.size) = some 4 := by kernel_rfl
theorem wrap_small {x : Int} (h : 0 ≤ x) (h' : x ≤ 1000000000) : IntKind.i64.wrap x = x := by
  refine IntWalk.i64_in ?_ ?_ <;> omega
set_option maxRecDepth 100000 in
set_option maxHeartbeats 4000000 in
theorem goOn_any (A : Option Addr) (c pb : Nat) (l : List Cr) (q : List Int) (w : World) (hA : Sl w pb 4 encCr A l) (hP : Lies w pb 3 (vals q)) (hq : q.length = l.length) (hl : l.length ≤ 4)
    (hb : ∀ (i : Nat) (x : Cr) (m : Int), l[i]? = some x → q[i]? = some m → 0 ≤ x.most ∧ 0 ≤ m ∧ m ≤ 9) :
    Calls Try.prog 127 #[.slice (some ⟨pb, 0, none⟩) q.length q.length, .slice A l.length c] w (GoR pb (l.map fun c : Cr => c.most.toNat) q w) := by
  obtain ⟨ms, hms⟩ : ∃ ms, ms = l.map fun c : Cr => c.most.toNat := ⟨_, rfl⟩
  rw [← hms]
  have hml : ms.length = q.length := by rw [hms, List.length_map, hq]
  have hmm : ∀ (j : Nat) (x : Cr), l[j]? = some x → ms[j]? = some x.most.toNat := fun j x hx => by rw [hms]; exact mosts_at hx
  have hpw : pb < w.heap.size := hP.in_
  have HA := Lib.hid hA
  have HP := Lib.hid hP
  have HB := Lib.hid hb
  have HQ := Lib.hid hq
  have HML := Lib.hid hml
  have HMM := Lib.hid hmm
  have hlz : (l.length : Int) ≤ 4 := by omega
  have hqz : (q.length : Int) ≤ 4 := by omega
  clear hms hA hP hb hq hml hmm
  refine calls_of_wp_marks 5 Try.func127 rfl ?_
  simp only [Try.ntmps127, List.size_toArray, List.length_cons, List.length_nil, Nat.reduceAdd, Nat.reduceSub, Array.replicate_succ, Array.replicate_zero, List.push_toArray, List.append_toArray, List.nil_append, List.cons_append]
  go_wp2_with (go_at_call 128; refine (Backward_any _ _ _ _).mono ?_; rintro e w' ⟨rfl, rfl⟩)
  have hW : ∃ W, ((w.alloc (.cells #[.slice (some ⟨pb, 0, none⟩) q.length q.length] 23)).alloc (.cells #[.bool false] 4)).alloc (.cells #[.slice A l.length c] 76) = W ∧ GoM A c pb l ms q w 0 W ∧ W.heap.size = w.heap.size + 3 := by
    have hbw : Below w.heap.size w (((w.alloc (.cells #[.slice (some ⟨pb, 0, none⟩) q.length q.length] 23)).alloc (.cells #[.bool false] 4)).alloc (.cells #[.slice A l.length c] 76)) := (by repeat (first | (with_reducible assumption) | (with_reducible exact Below.refl _ _) | (with_reducible refine Below.drew ?_) | (with_reducible refine below_drewN ?_ _) | ((with_reducible refine Below.setCell ?_ ?_ _); rotate_left; focus (first | (simp; done) | (simp; omega) | omega)) | ((with_reducible refine Below.alloc ?_ ?_ _); rotate_left; focus (first | (simp; done) | (simp; omega) | omega))))
    refine ⟨_, rfl, ⟨?_, ((Lies.fresh _ _ _).alloc _).alloc _, (Lies.fresh' (by simp)).alloc _, Lies.fresh' (by simp), .of_below hbw, by simp, ?_⟩, by simp⟩
    · rw [Nat.sub_zero, zeroB_full]; exact HP.out.call hbw
    · rw [Nat.sub_zero, ← HML.out, List.drop_length]; simp [nextD]
  obtain ⟨W, hWe, hI, hz⟩ := hW
  rw [hWe]
  have hgv := Backward1_gives 4 (by omega) A c (w.heap.size + 1 + 1) l W (by omega) (fun V => Lies V (w.heap.size + 1 + 1) 76 #[.slice A l.length c] ∧ Sl V V.heap.size 4 encCr A l) (fun V h => h)
  have HI := Lib.hid hI
  clear hWe hI
  refine range_givesB (n := 5) (gf := 129) rfl (enters_of Try.func129 (by kernel_rfl) rfl) hgv (Below.refl _ _) (fun _ _ => rfl) (fun _ _ _ _ h _ => h)
    (GoM A c pb l ms q w) (fun c _ V => GoX pb ms q w c V) ?hI ?hIs ?hIx HI.out ?hSt
    (fun x a' V => ∃ gx, w.heap.size + 3 ≤ gx ∧ Lies V gx 93 (encCr x.2).toArray ∧ a' = { tmps := #[.slice (some ⟨pb, 0, none⟩) q.length q.length, .slice A l.length c, .pointer (some ⟨w.heap.size, 0, none⟩), undef, .pointer (some ⟨w.heap.size + 1, 0, none⟩), .int .i64 x.1, .pointer (some ⟨gx, 0, none⟩), .slice A l.length c, .func (.func 129) #[] #[.pointer (some ⟨w.heap.size + 1 + 1, 0, none⟩)], .int .i64 x.1, .agg (encCr x.2).toArray, undef, undef, undef, undef, undef, undef, undef, undef, undef, undef, undef, undef, undef, undef, undef, undef], defers := [] }) ?hAx ?assign ?body ?done ?stop
  case hI =>
    intro k V V' h ht
    exact ⟨ht.lies h.p, ht.lies h.s, ht.lies h.r, ht.lies h.g, h.st.recs ht (by omega), Nat.le_trans h.sz ht.size, h.no⟩
  case hIs =>
    intro k V V' h ht
    exact ⟨ht.lies h.p (by omega), ht.lies h.s (by omega), ht.lies h.r (by omega), ht.lies h.g (by omega), h.st.new ht (by omega), Nat.le_trans h.sz ht.size, h.no⟩
  case hIx =>
    intro c k V V' h ht
    exact ⟨h.c, ht.lies h.p, ht.lies h.r, h.st.recs ht (by omega), h.yes⟩
  case hSt =>
    intro k V h
    exact ⟨h.g, (HA.out.below (h.st.below (Below.refl _ _) (Nat.le_refl _) (by omega))).more (by have := h.sz; omega)⟩
  case hAx =>
    rintro x a' V V' ⟨gx, h1, h2, h3⟩ ht
    exact ⟨gx, h1, ht.lies h2, h3⟩
  case stop =>
    intro D c k V hD hk hi hd
    obtain rfl := hi.c
    refine wpIn_ret ?_
    have hlt := (Array.getElem?_eq_some_iff.1 hd).1
    have hO : ∀ g t cs, Lies V g t cs → Lies (V.putObj D (.deferred none)) g t cs := fun g t cs h => Recs.lies (Recs.put (D := D) _ (Nat.le_refl _) hd rfl) h
    refine leave_mark hd ⟨_, results_cell_one (v := .bool true) (a := ⟨w.heap.size + 1, 0, none⟩) rfl _ _ _ rfl ((hO _ _ _ hi.r).at_ 0) Try.underlying4 rfl, ?_, hO _ _ _ hi.p, hi.st.recs (Recs.put _ (Nat.le_refl D) hd rfl) (by omega)⟩
    rw [hi.yes]
  case assign =>
    intro l' k x V K hx hi _ hK
    have HIN := Lib.hid hi
    have hfit : 0 + [x.2.size, x.2.bulbs, x.2.price, x.2.most].length ≤ ([0, 0, 0, 0] : List Int).length ∧ (Try.prog.info? 93).map (·.size) = some [x.2.size, x.2.bulbs, x.2.price, x.2.most].length := ⟨by simp, sizeCr⟩
    have HFIT := Lib.hid hfit
    clear hgv hfit hx hi
    simp only [encBk, encCr]
    gi_wp2_with (refine wpListIn_store_ints (o := ⟨none, .store 93 (.tmp 6) _, _, _, _, _⟩) ?_ 93 (.tmp 6) (.tmp 10) ?_ V.heap.size 0 ?_ 93 [0, 0, 0, 0] [x.2.size, x.2.bulbs, x.2.price, x.2.most] ?_ (Lies.fresh V 93 (vals [0, 0, 0, 0])) HFIT.out.1 HFIT.out.2 ?_; rfl; rfl; rfl; rfl; intro w5 HS5 HO5; (try simp only [Act.put]))
    have hl5 : Lies w5 V.heap.size 93 (encCr x.2).toArray := by
      have := HS5.out
      rw [splice_all (by rfl)] at this
      exact this
    have hb5 : Below V.heap.size V w5 := HO5.out.below ((Below.refl _ _).alloc (Nat.le_refl _) _) (Nat.le_refl _)
    exact hK _ _ (KeepsFrom.of_below hb5) (HIN.out.call hb5) trivial ⟨V.heap.size, HIN.out.sz, hl5, rfl⟩
  case body =>
    rintro l' k x a' V hl' hx hi _ ⟨gx, hgx, hlx, rfl⟩
    have hkl : k < l.length := by
      have := (List.getElem?_eq_some_iff.1 hx).1
      rwa [backL_length] at this
    obtain ⟨j, hj⟩ : ∃ j, j + k + 1 = l.length := ⟨l.length - 1 - k, by omega⟩
    obtain ⟨y, hy⟩ : ∃ y, l[j]? = some y := ⟨l[j]'(by omega), by simp⟩
    obtain ⟨m, hm⟩ : ∃ m, q[j]? = some m := ⟨q[j]'(by rw [HQ.out]; omega), by simp⟩
    obtain rfl : (j, y) = x := by
      have e1 : l.length - 1 - k = j := by omega
      have := backL_at hkl (x := y) (by rw [e1]; exact hy)
      rw [e1, hx] at this
      exact (Option.some.inj this).symm
    have ek : q.length - k = j + 1 := by rw [HQ.out]; omega
    have ek' : q.length - (k + 1) = j := by rw [HQ.out]; omega
    have hbd := HB.out j y m hy hm
    have hp := hi.p
    rw [ek] at hp
    have hno := hi.no
    rw [ek] at hno
    have hms := HMM.out j y hy
    have hjz : (j : Int) < (q.length : Int) := by rw [HQ.out]; omega
    have hj0 : (0 : Int) ≤ (j : Int) := by omega
    have hw1 : IntKind.i64.wrap (m + 1) = m + 1 := wrap_small (by omega) (by omega)
    have cj : V.cell? ⟨pb, j, none⟩ = some (.int .i64 m) := by
      rw [hp.at_]
      simp [vals, zeroB_at hm]
    have c2 : V.cell? ⟨w.heap.size, 0, none⟩ = some (.slice (some ⟨pb, 0, none⟩) q.length q.length) := hi.s.at_ 0
    have c6 : V.cell? ⟨gx, 3, none⟩ = some (.int .i64 y.most) := hlx.at_ 3
    have rj := cell_regrown cj
    have r2 := cell_regrown c2
    have r6 := cell_regrown c6
    have HIN := Lib.hid hi
    have HNO := Lib.hid hno
    have HMS := Lib.hid hms
    have HPP := Lib.hid hp
    have HM := Lib.hid hm
    have HEK := Lib.hid ek'
    clear hi hlx hx hgv hno hms hp hm hy ek ek' cj c2 c6
    simp only [encCr]
    gi_wp2_with (fail)
    refine wpIn_region_tail 6 (by kernel_rfl) (by kernel_rfl) (by kernel_rfl) (by kernel_rfl) (by kernel_rfl) (by kernel_rfl) (by simp) ?_
    simp only [List.take_succ_cons, List.take_zero, List.drop_succ_cons, List.drop_zero]
    repeat (first | go_big_quiet_step (fail) | quiet_step (fail))
    refine wpQuiet_nil ?_
    intro wq hwq
    have hbq : Below V.heap.size V wq := (by obtain ⟨q, rfl⟩ := hwq; exact below_regrown _ _ _)
    clear hwq rj r2 r6
    have hIq := HIN.out.call hbq
    have hPq := HPP.out.call hbq
    have cj : wq.cell? ⟨pb, j, none⟩ = some (.int .i64 m) := by
      rw [hPq.at_]
      simp [vals, zeroB_at HM.out]
    have fj : wq.frozen? ⟨pb, j, none⟩ = false := hPq.free _
    have c2 : wq.cell? ⟨w.heap.size, 0, none⟩ = some (.slice (some ⟨pb, 0, none⟩) q.length q.length) := hIq.s.at_ 0
    have c4 : ∀ u, (wq.setCell ⟨pb, j, none⟩ u).cell? ⟨w.heap.size + 1, 0, none⟩ = some (.bool false) := fun u => (hIq.r.other (p := ⟨pb, j, none⟩) (by simp; omega) u).at_ 0
    have f4 : ∀ u, (wq.setCell ⟨pb, j, none⟩ u).frozen? ⟨w.heap.size + 1, 0, none⟩ = false := fun u => (hIq.r.other (p := ⟨pb, j, none⟩) (by simp; omega) u).free 0
    have HIQ := Lib.hid hIq
    have HPQ := Lib.hid hPq
    have HBQ := Lib.hid hbq
    clear hIq hPq hbq HIN HPP
    have hmo : ((y.most.toNat : Nat) : Int) = y.most := by omega
    by_cases hlt : m < y.most
    · gi_wp2
      have hO := Only.set pb j wq (.int .i64 (m + 1))
      have hO2 := Only.set (w.heap.size + 1) 0 (wq.setCell ⟨pb, j, none⟩ (.int .i64 (m + 1))) (.bool true)
      have hr1 : Lies (wq.setCell ⟨pb, j, none⟩ (.int .i64 (m + 1))) (w.heap.size + 1) 4 #[.bool false] := HIQ.out.r.other (by simp; omega) _
      have hp1 : Lies (wq.setCell ⟨pb, j, none⟩ (.int .i64 (m + 1))) pb 3 (vals ((zeroB q (j + 1)).set j (m + 1))) := by
        have := HPQ.out.set j (.int .i64 (m + 1))
        rwa [vals_set] at this
      have hnx := next_some HML.out HMS.out HM.out HNO.out (by rw [hmo]; exact hlt)
      refine ⟨(KeepsFrom.of_below HBQ.out).trans ((KeepsFrom.of_only hO HPQ.out).trans (KeepsFrom.of_only hO2 hr1)), rfl, ?_, hr1.set 0 _, (HIQ.out.st.trans (.of_only hO)).only_new hO2 (by omega), ?_⟩
      · have e : goQ ms q = (zeroB q (j + 1)).set j (m + 1) := by
          rw [zeroB_set HM.out]; unfold goQ; rw [hnx]
        rw [e]
        exact hO2.lies hp1 (by omega)
      · rw [hnx]; rfl
    · gi_wp2
      have hO := Only.set pb j wq (.int .i64 0)
      have hp1 : Lies (wq.setCell ⟨pb, j, none⟩ (.int .i64 0)) pb 3 (vals (zeroB q j)) := by
        have := HPQ.out.set j (.int .i64 0)
        rwa [vals_set, zeroB_zero HM.out] at this
      have hnx := next_none HMS.out HM.out HNO.out (by rw [hmo]; omega)
      refine ⟨(KeepsFrom.of_below HBQ.out).trans (KeepsFrom.of_only hO HPQ.out), ⟨?_, hO.lies HIQ.out.s (by omega), hO.lies HIQ.out.r (by omega), hO.lies HIQ.out.g (by omega), HIQ.out.st.trans (.of_only hO), by rw [hO.size]; exact HIQ.out.sz, ?_⟩, trivial⟩
      · rw [HEK.out]; exact hp1
      · rw [HEK.out]; exact hnx
  case done =>
    intro D V hD hi hd
    have c4 : V.cell? ⟨w.heap.size + 1, 0, none⟩ = some (.bool false) := hi.r.at_ 0
    have f4 : V.frozen? ⟨w.heap.size + 1, 0, none⟩ = false := hi.r.free 0
    go_wp2
    have hO := Only.set (w.heap.size + 1) 0 V (.bool false)
    have hd' : (V.setCell ⟨w.heap.size + 1, 0, none⟩ (.bool false)).heap[D]? = some (.deferred (some [])) := (hO.block D (by omega)).trans hd
    have hR := Recs.put (D := D) (.deferred none) (Nat.le_refl _) hd' rfl
    have hno := hi.no
    have hp := hi.p
    have e0 : q.length - (backL l).length = 0 := by rw [backL_length, HQ.out]; omega
    rw [e0] at hno hp
    rw [List.drop_zero, List.drop_zero] at hno
    have eg : goQ ms q = zeroB q 0 := by unfold goQ; rw [hno]
    refine leave_mark hd' ⟨_, results_cell_one (v := .bool false) (a := ⟨w.heap.size + 1, 0, none⟩) rfl _ _ _ rfl ((hR.lies (hi.r.set 0 _)).at_ 0) Try.underlying4 rfl, ?_, ?_, (hi.st.only_new hO (by omega)).recs hR (by omega)⟩
    · rw [hno]; rfl
    · rw [eg]; exact hR.lies (hO.lies hp (by omega))
end Go.Proofs.Ytlkdmcdnkoiflaa

namespace Go.Proofs.Ytlkdmcdnkoiflaa
open Go.RowKit Go.Lib
attribute [local go_sem] Oper.semAt_some

/-- A loop whose rounds are counted by a number that no variable holds. -/
theorem wp_loop_ghost {P : Program} {Q : Exit → Act → World → Prop} {a : Act} {w : World} {c : Code} (R : Nat → Act → World → Prop) {N : Nat} (h0 : R N a w)
    (hr : ∀ N a w, R N a w → c.wp P (Exit.then (fun a' w' => ∃ M, M < N ∧ R M a' w') Q) a w) : (Code.loop c).wp P Q a w := by
  refine wp_loop_rounds (N + 1) ?_
  have key : ∀ n N, N < n → ∀ a w, R N a w → Code.rounds P c Q n a w := by
    intro n
    induction n with
    | zero => intro N h; omega
    | succ n ih =>
      intro N hN a w h
      rw [rounds_succ]
      refine wp_mono (hr N a w h) ?_
      intro e a' w' he
      cases e with
      | normal =>
        obtain ⟨M, hM, h'⟩ := he
        exact ih M (by omega) a' w' h'
      | exit id => exact he
      | goto l => exact he
      | ret => exact he
      | panic ch => exact he
      | outgrown => exact he
  exact key _ N (by omega) a w h0
theorem made_zero (n : Nat) : madeCells #[.int .i64 0] n = vals (List.replicate n 0) := by
  apply Array.ext
  · simp [vals, size_madeCells]
  · intro i h1 h2
    simp [madeCells, vals, Nat.mod_one]
theorem make_ints (n : Nat) (hn : n ≤ 1000000) (w : World) : (Instr.makeSlice 23 (.int .i64 (n : Int)) (.int .i64 (n : Int))).run Try.prog w = .ok (.slice (some ⟨w.heap.size, 0, none⟩) n n) (w.alloc (.cells (vals (List.replicate n 0)) 3)) := by
  obtain ⟨j0, hj, yz0, yz1, yz2⟩ := info_parts info_int
  have := run_make_n (P := Try.prog) 23 3 j0 _ Try.underlying23 hj yz0 n (by rw [yz2]; omega) (by omega) w
  rw [yz1, Nat.mul_one] at this
  rw [this, ← made_zero]
  rfl
def mosts (l : List Cr) : List Nat := l.map fun c : Cr => c.most.toNat
theorem mosts_zero (l : List Cr) : ((mosts l).map fun _ => (0 : Int)) = List.replicate l.length 0 := by
  unfold mosts
  rw [List.map_map]
  show l.map (fun _ => (0 : Int)) = _
  simp [List.map_const']
theorem allQ_len : ∀ (ms : List Nat) (q : List Int), q ∈ allQ ms → q.length = ms.length
  | [], q, h => by simp [allQ] at h; simp [h]
  | m :: ms, q, h => by
    simp only [allQ, List.mem_flatMap, List.mem_map] at h
    obtain ⟨x, _, y, hy, rfl⟩ := h
    simp [allQ_len ms y hy]
theorem allQ_bd {l : List Cr} (hm : ∀ c, c ∈ l → 0 ≤ c.most ∧ c.most ≤ 9) {q : List Int} (hq : q ∈ allQ (mosts l)) : ∀ (i : Nat) (x : Cr) (m : Int), l[i]? = some x → q[i]? = some m → 0 ≤ x.most ∧ 0 ≤ m ∧ m ≤ 9 := by
  intro i x m hx hi
  have h1 := (pairedB_iff.1 ((mem_allQ _ _).1 hq)).2 i x.most.toNat m (mosts_at hx) hi
  have h2 := inB_iff.1 h1
  have h3 := hm x (List.mem_of_getElem? hx)
  omega
def encQ (b : Nat) (q : List Int) : Array Value := #[.slice (some ⟨b, 0, none⟩) q.length q.length]
set_option maxRecDepth 100000 in
set_option maxHeartbeats 4000000 in
theorem purchases1_gives (n : Nat) (hn : 1 ≤ n) (A : Option Addr) (c gb : Nat) (l : List Cr) (w : World) (hl : l.length ≤ 4) (hm : ∀ c, c ∈ l → 0 ≤ c.most ∧ c.most ≤ 9) (St : World → Prop) (hSt : ∀ W, St W → Lies W gb 76 #[.slice A l.length c] ∧ Sl W w.heap.size 4 encCr A l) :
    GivesB n Try.prog 126 #[.pointer (some ⟨gb, 0, none⟩)] encQ (allQ (mosts l)) w (fun b q V => Lies V b 3 (vals q)) St := by
  intro l' J Jx W hbW hJS hJ hY h0
  have HPT := Lib.hid (fun k V (h : J k V) => hSt V (hJS k V h))
  have HY := Lib.hid hY
  have HJ := Lib.hid hJ
  have H0 := Lib.hid h0
  have HBW := Lib.hid hbW.size
  have c0 : W.cell? ⟨gb, 0, none⟩ = some (.slice A l.length c) := (HPT.out _ _ H0.out).1.at_ 0
  have hlz : (l.length : Int) ≤ 4 := by omega
  have hmk := make_ints l.length (by omega) W
  have HM := Lib.hid hm
  clear hJS hY hJ h0 hSt hbW hm
  refine callsIn_of_wp Try.func126 rfl trivial ?_ rfl
  refine wpIn_wide.2 ?_
  simp only [Try.ntmps126, List.size_toArray, List.length_cons, List.length_nil, Nat.reduceAdd, Nat.reduceSub, Array.replicate_succ, Array.replicate_zero, List.push_toArray, List.append_toArray, List.nil_append, List.cons_append]
  go_wp2
  clear c0 hmk
  have hst : ∃ W1, W.alloc (.cells (vals (List.replicate l.length 0)) 3) = W1 ∧ J 0 W1 ∧ Lies W1 W.heap.size 3 (vals (List.replicate l.length 0)) :=
    ⟨_, rfl, HJ.out _ _ _ H0.out (.of_below ((Below.refl _ _).alloc (Nat.le_refl _) _)), Lies.fresh _ _ _⟩
  obtain ⟨W1, hW1, hJ1, hL1⟩ := hst
  rw [hW1]
  refine wp_loop_ghost (fun N a V => ∃ (k : Nat) (q : List Int) (u7 u8 u9 u10 u11 u12 u13 u14 : Value), N + k = (allQ (mosts l)).length ∧ (allQ (mosts l))[k]? = some q ∧ J k V ∧ Lies V W.heap.size 3 (vals q) ∧ a = { tmps := #[.func (.yield l') #[] #[], .pointer (some ⟨gb, 0, none⟩), undef, .slice (some ⟨W.heap.size, 0, none⟩) l.length l.length, .slice A l.length c, .int .i64 l.length, .slice (some ⟨W.heap.size, 0, none⟩) l.length l.length, u7, u8, u9, u10, u11, u12, u13, u14], defers := [] })
    (N := (allQ (mosts l)).length) ⟨0, _, undef, undef, undef, undef, undef, undef, undef, undef, by omega, allQ_zero _, hJ1, by rw [mosts_zero]; exact hL1, rfl⟩ ?_
  clear hJ1 hL1 hW1 H0
  rintro N a V ⟨k, q, u7, u8, u9, u10, u11, u12, u13, u14, hN, hq, hJk, hLk, rfl⟩
  have hmem := List.mem_of_getElem? hq
  have hql : q.length = l.length := by rw [allQ_len _ _ hmem]; simp [mosts]
  obtain ⟨fn, tmps, assign, body, hy, hR⟩ := HY.out k q V hq hJk hLk
  dsimp only [encQ] at hy
  rw [hql] at hy
  have hklt := (List.getElem?_eq_some_iff.1 hq).1
  have hnx := allQ_next _ _ _ hq
  have HQ := Lib.hid hq
  have HMEM := Lib.hid hmem
  have HQL := Lib.hid hql
  have HN := Lib.hid hN
  have HK := Lib.hid hklt
  have HNX := Lib.hid hnx
  clear hq hmem hql hN hJk hLk hklt hnx
  have hn1 : 1 ≤ n := hn
  refine (wpIn_wide (n := n)).1 ?_
  gi_wp2_with (fail)
  refine hR.mono ?_
  clear hR hy
  rintro e W5 (⟨rfl, hJ5, hL5⟩ | ⟨rfl, hx5⟩)
  · have hS5 := HPT.out _ _ hJ5
    have hG := goOn_any A c W.heap.size l q W5 (hS5.2.more HBW.out) hL5 HQL.out (by omega) (allQ_bd HM.out HMEM.out)
    rw [HQL.out] at hG
    have c5 : W5.cell? ⟨gb, 0, none⟩ = some (.slice A l.length c) := hS5.1.at_ 0
    have HJ5 := Lib.hid hJ5
    clear hS5 hL5 hJ5
    cases hnq : nextD (mosts l) q with
    | none =>
      have hG' : Calls Try.prog 127 #[.slice (some ⟨W.heap.size, 0, none⟩) l.length l.length, .slice A l.length c] W5 fun e w' => e = .returned (.bool false) ∧ StepB W.heap.size W5 w' := hG.mono fun e w' h => ⟨by rw [h.1]; show Ending.returned (.bool (nextD (mosts l) q).isSome) = _; rw [hnq]; rfl, h.2.2⟩
      have hend : k + 1 = (allQ (mosts l)).length := by
        have h1 := HNX.out
        rw [hnq] at h1
        have := List.getElem?_eq_none_iff.1 h1.symm
        have := HK.out
        omega
      have HG := Lib.hid hG'
      have HE := Lib.hid hend
      clear hG hG' hend hnq
      gi_wp2_with (fail)
      refine ⟨trivial, (callsIn_wide.2 HG.out).mono ?_⟩
      rintro e w6 ⟨rfl, hs6⟩
      gi_wp2_with (fail)
      go_wp2
      go_end0
      exact ⟨⟨_, rfl⟩, .inl (by rw [← HE.out]; exact HJ.out _ _ _ HJ5.out hs6)⟩
    | some y =>
      have hG' : Calls Try.prog 127 #[.slice (some ⟨W.heap.size, 0, none⟩) l.length l.length, .slice A l.length c] W5 fun e w' => e = .returned (.bool true) ∧ Lies w' W.heap.size 3 (vals y) ∧ StepB W.heap.size W5 w' := hG.mono fun e w' h => ⟨by rw [h.1]; show Ending.returned (.bool (nextD (mosts l) q).isSome) = _; rw [hnq]; rfl, by have := h.2.1; unfold goQ at this; rw [show nextD (l.map fun c : Cr => c.most.toNat) q = some y from hnq] at this; exact this, h.2.2⟩
      have hy1 : (allQ (mosts l))[k + 1]? = some y := by rw [← HNX.out, hnq]
      have HG := Lib.hid hG'
      have HY1 := Lib.hid hy1
      clear hG hG' hy1 hnq
      gi_wp2_with (fail)
      refine ⟨trivial, (callsIn_wide.2 HG.out).mono ?_⟩
      rintro e w6 ⟨rfl, hl6, hs6⟩
      gi_wp2_with (fail)
      go_wp2
      exact ⟨N - 1, by have := HN.out; have := HK.out; omega, k + 1, y, _, _, _, _, _, _, _, _, by have := HN.out; have := HK.out; omega, HY1.out, HJ.out _ _ _ HJ5.out hs6, hl6, rfl⟩
  · gi_wp2_with (fail)
    refine ⟨trivial, ?_⟩
    gi_wp2_with (fail)
    go_wp2
    go_end0
    exact ⟨⟨_, rfl⟩, .inr ⟨k + 1, by have := HK.out; omega, hx5⟩⟩
end Go.Proofs.Ytlkdmcdnkoiflaa

namespace Go.Proofs.Ytlkdmcdnkoiflaa
open Go.RowKit Go.Lib
attribute [local go_sem] Oper.semAt_some

theorem results_cell3 {P : Program} {fn : Func} {p1 p2 p3 : Tmp} {t1 t2 t3 : TypeId} (h : fn.results = #[.cell p1 t1, .cell p2 t2, .cell p3 t3]) (tmps : Array Value) (w : World) (a1 a2 a3 : Addr) (v1 v2 v3 : Value) (d1 d2 d3 : TypeDesc)
    (hp1 : tmps.getD p1 undef = .pointer (some a1)) (hp2 : tmps.getD p2 undef = .pointer (some a2)) (hp3 : tmps.getD p3 undef = .pointer (some a3)) (hc1 : w.cell? a1 = some v1) (hc2 : w.cell? a2 = some v2) (hc3 : w.cell? a3 = some v3)
    (hu1 : P.underlying t1 = some d1) (hd1 : d1.isRow = false) (hu2 : P.underlying t2 = some d2) (hd2 : d2.isRow = false) (hu3 : P.underlying t3 = some d3) (hd3 : d3.isRow = false) :
    (results fn tmps).run P w = .ok (.tuple #[v1, v2, v3]) w := by
  have hp1' : tmps[p1]?.getD undef = .pointer (some a1) := by simpa using hp1
  have hp2' : tmps[p2]?.getD undef = .pointer (some a2) := by simpa using hp2
  have hp3' : tmps[p3]?.getD undef = .pointer (some a3) := by simpa using hp3
  simp [results, h, hp1', hp2', hp3', asAddr, run_loadVar_one w t1 a1 v1 d1 hc1 hu1 hd1, run_loadVar_one w t2 a2 v2 d2 hc2 hu2 hd2, run_loadVar_one w t3 a3 v3 d3 hc3 hu3 hd3]
theorem SlW.keepL {α : Type} {w w' : World} {lo hi k : Nat} {T : TypeId} {enc : α → List Value} {A : Option Addr} {xs : List α} (h : SlW w lo hi k T enc A xs) (hk : ∀ b cs, lo ≤ b → Lies w b T cs → Lies w' b T cs) : SlW w' lo hi k T enc A xs := fun hx => by
  obtain ⟨b, off, e, hl, hb, ⟨cs, hcs⟩, hc⟩ := h hx
  have h' := hk b cs hl hcs
  have he : w'.heap[b]? = w.heap[b]? := by unfold Lies at h' hcs; rw [h', hcs]
  exact ⟨b, off, e, hl, hb, ⟨cs, h'⟩, fun i x hi j u hu => (World.cell?_of_block (a := ⟨b, off + i * k + j, none⟩) he).trans (hc i x hi j u hu)⟩
theorem SlW.up {α : Type} {w : World} {lo hi hi' k : Nat} {T : TypeId} {enc : α → List Value} {A : Option Addr} {xs : List α} (h : SlW w lo hi k T enc A xs) (hh : hi ≤ hi') : SlW w lo hi' k T enc A xs := fun hx => by
  obtain ⟨b, off, e, hl, hb, hc⟩ := h hx
  exact ⟨b, off, e, hl, by omega, hc⟩
theorem KC.of_step {w w' : World} {b N : Nat} {f : List Int → Int} (h : StepB b w w') (hm : Memo w b N f) : KC w w' := by
  obtain ⟨es, clock, hb, _⟩ := hm
  exact KC.of_grown h hb
theorem own_nil {w : World} {base k : Nat} {e : TypeId} {A : Option Addr} {n c : Nat} {xs : List Value} (h : w.ownsRow base e k (.slice A n c) n xs) : A = none → n = 0 ∧ c = 0 := by
  rintro rfl
  obtain ⟨_, h1⟩ := h
  rcases h1 with ⟨e1, h0⟩ | ⟨g, cap, cur, e1, _⟩
  · injection e1 with _ _ e3
    exact ⟨h0, e3⟩
  · injection e1 with e2; cases e2
/-- The best of the first k purchases; its price. -/
def bzK (p : PlM) (l : List Cr) (S Y : Nat) (number : Int) (k : Nat) : Option (List Int) := bestD (fun q => costP l q l.length) (enoughP p S Y number l) ((allQ (mosts l)).take k)
def prZ (l : List Cr) : Option (List Int) → Int
  | none => 0
  | some z => costP l z l.length
/-- The slice of the best one. -/
def SlZ (V : World) (lo : Nat) (z : Option (List Int)) (v : Value) : Prop :=
  match z with
  | none => v = .slice none 0 0
  | some z => ∃ A c, v = .slice A z.length c ∧ (A = none → z.length = 0 ∧ c = 0) ∧ SlW V lo V.heap.size 1 3 encI A z
theorem SlZ.keep {V V' : World} {lo : Nat} {z : Option (List Int)} {v : Value} (h : SlZ V lo z v) (hs : V.heap.size ≤ V'.heap.size) (hk : ∀ b cs, lo ≤ b → Lies V b 3 cs → Lies V' b 3 cs) : SlZ V' lo z v := by
  cases z with
  | none => exact h
  | some z =>
    obtain ⟨A, c, e, hn, h⟩ := h
    exact ⟨A, c, e, hn, (h.keepL hk).up hs⟩
theorem SlZ.low {V : World} {lo lo' : Nat} {z : Option (List Int)} {v : Value} (h : SlZ V lo z v) (hl : lo' ≤ lo) : SlZ V lo' z v := by
  cases z with
  | none => exact h
  | some z =>
    obtain ⟨A, c, e, hn, h⟩ := h
    refine ⟨A, c, e, hn, fun hx => ?_⟩
    obtain ⟨b, off, e, h1, h2⟩ := h hx
    exact ⟨b, off, e, by omega, h2⟩
theorem SlZ.slice {V : World} {lo : Nat} {z : Option (List Int)} {v : Value} (h : SlZ V lo z v) : ∃ a n k, v = .slice a n k := by
  cases z with
  | none => exact ⟨_, _, _, h⟩
  | some z =>
    obtain ⟨A, c, e, _, _⟩ := h
    exact ⟨_, _, _, e⟩
/-- best between two rounds. -/
structure BsM (p : PlM) (A : Option Addr) (c : Nat) (l : List Cr) (S Y mb : Nat) (number : Int) (gv : Value) (w : World) (k : Nat) (V : World) : Prop where
  c0 : Lies V w.heap.size 76 #[.slice A l.length c]
  c1 : Lies V (w.heap.size + 1) 3 #[.int .i64 number]
  c2 : Lies V (w.heap.size + 1 + 1) 149 #[gv]
  c3 : ∃ v, Lies V (w.heap.size + 1 + 1 + 1) 23 #[v] ∧ SlZ V (w.heap.size + 10) (bzK p l S Y number k) v
  c4 : Lies V (w.heap.size + 1 + 1 + 1 + 1) 3 #[.int .i64 (prZ l (bzK p l S Y number k))]
  c5 : Lies V (w.heap.size + 1 + 1 + 1 + 1 + 1) 4 #[.bool (bzK p l S Y number k).isSome]
  c6 : Lies V (w.heap.size + 1 + 1 + 1 + 1 + 1 + 1) 76 #[.slice A l.length c]
  sb : StepB mb w V
  sz : w.heap.size + 7 ≤ V.heap.size
section
variable {p : PlM} {A : Option Addr} {c : Nat} {l : List Cr} {S Y mb : Nat} {number : Int} {f : List Int → Int} {gv : Value} {w V V' : World} {k : Nat}
theorem BsM.keep (h : BsM p A c l S Y mb number gv w k V) (hs : V.heap.size ≤ V'.heap.size) (hk : ∀ b t cs, b ≠ w.heap.size + 9 → Lies V b t cs → Lies V' b t cs) (hst : StepB mb w V') : BsM p A c l S Y mb number gv w k V' := by
  obtain ⟨v, h3, hz⟩ := h.c3
  exact ⟨hk _ _ _ (by omega) h.c0, hk _ _ _ (by omega) h.c1, hk _ _ _ (by omega) h.c2, ⟨v, hk _ _ _ (by omega) h3, hz.keep hs fun b cs hb hl => hk _ _ _ (by omega) hl⟩, hk _ _ _ (by omega) h.c4, hk _ _ _ (by omega) h.c5, hk _ _ _ (by omega) h.c6, hst, Nat.le_trans h.sz hs⟩
theorem BsM.call (h : BsM p A c l S Y mb number gv w k V) (hb : Below V.heap.size V V') : BsM p A c l S Y mb number gv w k V' :=
  h.keep hb.size (fun _ _ _ _ hl => hl.call hb) (h.sb.below' hb)
theorem Memo.of_recs {D b n : Nat} (h : Memo V b n f) (hr : Recs D V V') (hb : b < D) : Memo V' b n f := by
  obtain ⟨es, clock, hm, r⟩ := h
  obtain ⟨row, hg, hrow⟩ := hr
  exact ⟨es, clock, (hg.block b (Array.getElem?_eq_some_iff.1 hm).1 (fun e => by have := (hrow b e.symm).1; omega)).trans hm, r⟩
theorem Memo.of_step {b' b n : Nat} (h : Memo V b n f) (hr : StepB b' V V') (hb : b ≠ b') : Memo V' b n f := by
  obtain ⟨es, clock, hm, r⟩ := h
  exact ⟨es, clock, (hr.block b (Array.getElem?_eq_some_iff.1 hm).1 (fun e => by cases e; exact hb rfl)).trans hm, r⟩
theorem BsM.recs {D : Nat} (h : BsM p A c l S Y mb number gv w k V) (hr : Recs D V V') (hD : w.heap.size ≤ D) : BsM p A c l S Y mb number gv w k V' :=
  h.keep hr.size (fun _ _ _ _ hl => hr.lies hl) (h.sb.recs hr hD)
theorem BsM.step (h : BsM p A c l S Y mb number gv w k V) (hr : StepB (w.heap.size + 9) V V') : BsM p A c l S Y mb number gv w k V' :=
  h.keep hr.size (fun _ _ _ hb hl => hr.lies hl hb) (h.sb.new hr (by omega))
/-- Behind gives. -/
theorem BsM.gives (h : BsM p A c l S Y mb number gv w k V) (hr : StepB mb V V') (hkc : KC V V') : BsM p A c l S Y mb number gv w k V' :=
  h.keep hr.size (fun _ _ _ _ hl => hkc.lies hl) (h.sb.trans hr)
/-- A purchase that is no better. -/
theorem BsM.skip (h : BsM p A c l S Y mb number gv w k V) (e : bzK p l S Y number (k + 1) = bzK p l S Y number k) : BsM p A c l S Y mb number gv w (k + 1) V := by
  obtain ⟨h0, h1, h2, h3, h4, h5, h6, h7, h8⟩ := h
  rw [← e] at h3 h4 h5
  exact ⟨h0, h1, h2, h3, h4, h5, h6, h7, h8⟩
/-- A purchase that is better. -/
theorem BsM.take {V3 : World} {A' : Option Addr} {c' : Nat} {q : List Int} (h : BsM p A c l S Y mb number gv w k V) (hb : Below V.heap.size V V3) (hs : SlW V3 (w.heap.size + 10) V3.heap.size 1 3 encI A' q) (hn : A' = none → q.length = 0 ∧ c' = 0) (e : bzK p l S Y number (k + 1) = some q) :
    BsM p A c l S Y mb number gv w (k + 1) (((V3.setCell ⟨w.heap.size + 1 + 1 + 1, 0, none⟩ (.slice A' q.length c')).setCell ⟨w.heap.size + 1 + 1 + 1 + 1, 0, none⟩ (.int .i64 (costP l q l.length))).setCell ⟨w.heap.size + 1 + 1 + 1 + 1 + 1, 0, none⟩ (.bool true)) := by
  have h3 := h.call hb
  have o1 := Only.set (w.heap.size + 1 + 1 + 1) 0 V3 (.slice A' q.length c')
  have o2 := Only.set (w.heap.size + 1 + 1 + 1 + 1) 0 (V3.setCell ⟨w.heap.size + 1 + 1 + 1, 0, none⟩ (.slice A' q.length c')) (.int .i64 (costP l q l.length))
  have o3 := Only.set (w.heap.size + 1 + 1 + 1 + 1 + 1) 0 ((V3.setCell ⟨w.heap.size + 1 + 1 + 1, 0, none⟩ (.slice A' q.length c')).setCell ⟨w.heap.size + 1 + 1 + 1 + 1, 0, none⟩ (.int .i64 (costP l q l.length))) (.bool true)
  have hk : ∀ b t cs, b < w.heap.size + 3 ∨ w.heap.size + 5 < b → Lies V3 b t cs → Lies (((V3.setCell ⟨w.heap.size + 1 + 1 + 1, 0, none⟩ (.slice A' q.length c')).setCell ⟨w.heap.size + 1 + 1 + 1 + 1, 0, none⟩ (.int .i64 (costP l q l.length))).setCell ⟨w.heap.size + 1 + 1 + 1 + 1 + 1, 0, none⟩ (.bool true)) b t cs := fun b t cs hb hl =>
    o3.lies (o2.lies (o1.lies hl (by omega)) (by omega)) (by omega)
  obtain ⟨v, hv, _⟩ := h3.c3
  refine ⟨hk _ _ _ (by omega) h3.c0, hk _ _ _ (by omega) h3.c1, hk _ _ _ (by omega) h3.c2, ⟨.slice A' q.length c', o3.lies (o2.lies (hv.set 0 _) (by omega)) (by omega), ?_⟩, ?_, ?_, hk _ _ _ (by omega) h3.c6, ((h3.sb.only_new o1 (by omega)).only_new o2 (by omega)).only_new o3 (by omega), by rw [o3.size, o2.size, o1.size]; exact h3.sz⟩
  · rw [e]
    exact ⟨A', c', rfl, hn, (hs.keepL fun b cs hb hl => hk _ _ _ (by omega) hl).up (by rw [o3.size, o2.size, o1.size]; exact Nat.le_refl _)⟩
  · rw [e]
    exact o3.lies ((o1.lies h3.c4 (by omega)).set 0 _) (by omega)
  · rw [e]
    exact (o2.lies (o1.lies h3.c5 (by omega)) (by omega)).set 0 _
end
theorem bzK_step {p : PlM} {l : List Cr} {S Y : Nat} {number : Int} {k : Nat} {q : List Int} (hq : (allQ (mosts l))[k]? = some q) : bzK p l S Y number (k + 1) = pickB (fun q => costP l q l.length) (bzK p l S Y number k) (if enoughP p S Y number l q then some q else none) := best_take _ _ hq
def RetBs (p : PlM) (l : List Cr) (S Y : Nat) (number : Int) (mb : Nat) (w : World) (e : Ending) (w' : World) : Prop :=
  ∃ v, e = .returned (.tuple #[v, .int .i64 (prZ l (bzK p l S Y number (allQ (mosts l)).length)), .bool (bzK p l S Y number (allQ (mosts l)).length).isSome]) ∧ SlZ w' w.heap.size (bzK p l S Y number (allQ (mosts l)).length) v ∧ StepB mb w w'
theorem lies_q {V : World} {b : Nat} {q : List Int} (h : Lies V b 3 (vals q)) : Sl V V.heap.size 1 encI (some ⟨b, 0, none⟩) q := fun _ =>
  ⟨b, 0, rfl, h.in_, fun i x hx j u hu => by
    obtain rfl : j = 0 := by
      have := (List.getElem?_eq_some_iff.1 hu).1
      simp [encI] at this; exact this
    have hu' : u = .int .i64 x := by simpa [encI] using hu.symm
    subst hu'
    rw [Nat.zero_add, Nat.mul_one, Nat.add_zero, h.at_]
    simp [vals, hx]⟩
theorem mosts_pair {l : List Cr} (hm : ∀ c, c ∈ l → 0 ≤ c.most ∧ c.most ≤ 9) {q : List Int} (hq : q ∈ allQ (mosts l)) : pairedB l q (fun c m => inB m 0 c.most) = true := by
  have h := pairedB_iff.1 ((mem_allQ _ _).1 hq)
  refine pairedB_iff.2 ⟨by have := h.1; simpa [mosts] using this, fun i c m hc hm' => ?_⟩
  have h1 := inB_iff.1 (h.2 i c.most.toNat m (mosts_at hc) hm')
  have h2 := hm c (List.mem_of_getElem? hc)
  exact inB_iff.2 (by omega)

set_option maxRecDepth 100000 in
set_option maxHeartbeats 800000 in
theorem best_any (p : PlM) (t : TrM) (A : Option Addr) (c S Y mb : Nat) (l : List Cr) (number : Int) (w : World) (hp : p.At w w.heap.size) (ht : t.At w w.heap.size) (hv : p.Valid) (hpt : PT p t) (hts : t.s.l = p.s.l.map (·.1)) (hty : t.g.l.length = Y)
    (hso : ∀ pl (z : Nat), soldUp p t pl z Y = sellsD p.d (·.1) (·.2) pl z Y) (hmm : Memo w mb 0 fun pl => soldUp p t pl S t.g.l.length) (hA : Sl w w.heap.size 4 encCr A l) (hS : S < 5) (ho : offB p.s.l.length l = 0) :
    Calls Try.prog 84 #[.slice A l.length c, .int .i64 number, .func (.func 83) #[.agg (offC p t A l.length c (S : Int) mb).toArray] #[]] w (RetBs p l S Y number mb w) := by
  have hl4 := (offB_zero ho).1
  have hms : ∀ c, c ∈ l → 0 ≤ c.most ∧ c.most ≤ 9 := fun c hc => (Cr.ok_iff.1 ((offB_zero ho).2 c hc)).2.2.2
  have hmw : mb < w.heap.size := hmm.in_
  -- costOf and gives, in a world of a round
  have hco : ∀ (q : List Int) (b : Nat) (V : World), q ∈ allQ (mosts l) → KC w V → Lies V b 3 (vals q) → Calls Try.prog 115 #[.slice A l.length c, .slice (some ⟨b, 0, none⟩) q.length q.length] V fun e w' => e = .returned (.int .i64 (costP l q l.length)) ∧ Below V.heap.size V w' := fun q b V hq hk hb =>
    costOf_any A _ c _ l q V (hA.kc hk hk.size) (lies_q hb) (purF_of ho (mosts_pair hms hq))
  have hgi : ∀ (q : List Int) (b k : Nat) (V : World), q ∈ allQ (mosts l) → KC w V → Memo V mb k (fun pl => soldUp p t pl S t.g.l.length) → Lies V b 3 (vals q) → Calls Try.prog 83 #[.agg (offC p t A l.length c (S : Int) mb).toArray, .slice (some ⟨b, 0, none⟩) q.length q.length] V fun e w' =>
      e = .returned (.tuple #[.int .i64 (if roomB p (buyP p l q) then giveP p S Y l q else 0), .bool (roomB p (buyP p l q))]) ∧ Memo w' mb (k + 1) (fun pl => soldUp p t pl S t.g.l.length) ∧ KC V w' ∧ StepB mb V w' := fun q b k V hq hk hm hb =>
    gives_off c q.length ⟨hp.kc hk hk.size, ht.kc hk hk.size, hpt, hts, hty, hso, hm, hA.kc hk hk.size, lies_q hb⟩ hv hS ho (mosts_pair hms hq)
  have HCO := Lib.hid hco
  have HGI := Lib.hid hgi
  have HMM := Lib.hid hmm
  have HA := Lib.hid hA
  have HMS := Lib.hid hms
  have HL4 := Lib.hid hl4
  clear hco hgi hmm hA hms hp ht hv hpt hts hty hso ho hl4
  generalize hf : (fun pl => soldUp p t pl S t.g.l.length) = f at *
  generalize hof : (offC p t A l.length c (S : Int) mb).toArray = off at *
  clear hf hof
  obtain ⟨gv, hgv⟩ : ∃ gv, gv = Value.func (.func 83) #[.agg off] #[] := ⟨_, rfl⟩
  refine calls_of_wp_marks 5 Try.func84 rfl ?_
  simp only [Try.ntmps84, List.size_toArray, List.length_cons, List.length_nil, Nat.reduceAdd, Nat.reduceSub, Array.replicate_succ, Array.replicate_zero, List.push_toArray, List.append_toArray, List.nil_append, List.cons_append]
  go_wp2_with (go_at_call 114; refine (purchases_any _ _ _ _).mono ?_; rintro e w' ⟨rfl, rfl⟩)
  have hW : ∃ W, ((((((w.alloc (.cells #[.slice A l.length c] 76)).alloc (.cells #[.int .i64 number] 3)).alloc (.cells #[gv] 149)).alloc (.cells #[.slice none 0 0] 23)).alloc (.cells #[.int .i64 0] 3)).alloc (.cells #[.bool false] 4)).alloc (.cells #[.slice A l.length c] 76) = W ∧ BsM p A c l S Y mb number gv w 0 W ∧ Memo W mb 0 f ∧ W.heap.size = w.heap.size + 7 := by
    have hbw : Below w.heap.size w (((((((w.alloc (.cells #[.slice A l.length c] 76)).alloc (.cells #[.int .i64 number] 3)).alloc (.cells #[gv] 149)).alloc (.cells #[.slice none 0 0] 23)).alloc (.cells #[.int .i64 0] 3)).alloc (.cells #[.bool false] 4)).alloc (.cells #[.slice A l.length c] 76)) := (by repeat (first | (with_reducible assumption) | (with_reducible exact Below.refl _ _) | (with_reducible refine Below.drew ?_) | (with_reducible refine below_drewN ?_ _) | ((with_reducible refine Below.setCell ?_ ?_ _); rotate_left; focus (first | (simp; done) | (simp; omega) | omega)) | ((with_reducible refine Below.alloc ?_ ?_ _); rotate_left; focus (first | (simp; done) | (simp; omega) | omega))))
    exact ⟨_, rfl, ⟨((((((Lies.fresh _ _ _).alloc _).alloc _).alloc _).alloc _).alloc _).alloc _, (((((Lies.fresh' (by simp)).alloc _).alloc _).alloc _).alloc _).alloc _, ((((Lies.fresh' (by simp)).alloc _).alloc _).alloc _).alloc _, ⟨_, (((Lies.fresh' (by simp)).alloc _).alloc _).alloc _, rfl⟩, ((Lies.fresh' (by simp)).alloc _).alloc _, (Lies.fresh' (by simp)).alloc _, Lies.fresh' (by simp), .of_below hbw, by simp⟩, HMM.out.call hbw, by simp⟩
  obtain ⟨W, hWe, hI, hM0, hz⟩ := hW
  rw [hgv] at hWe
  rw [hWe]
  have hpg := purchases1_gives 4 (by omega) A c (w.heap.size + 1 + 1 + 1 + 1 + 1 + 1) l W HL4.out HMS.out (fun V => Lies V (w.heap.size + 1 + 1 + 1 + 1 + 1 + 1) 76 #[.slice A l.length c] ∧ Sl V W.heap.size 4 encCr A l) (fun V h => h)
  have HI := Lib.hid (And.intro hI hM0)
  have HG := Lib.hid hgv
  have HZ := Lib.hid hz
  have HMW := Lib.hid hmw
  clear hWe hI hM0 hz hmw hgv
  refine range_givesB (n := 5) (gf := 126) rfl (enters_of Try.func126 (by kernel_rfl) rfl) hpg (Below.refl _ _) (fun _ _ => rfl) (fun b q V V' h hr => hr.lies h)
    (fun k V => BsM p A c l S Y mb number gv w k V ∧ Memo V mb k f) (fun _ _ _ => False) ?hI ?hIs (fun _ _ _ _ h _ => h) HI.out ?hSt
    (fun q a' V => a' = { tmps := #[.slice A l.length c, .int .i64 number, .func (.func 83) #[.agg off] #[], .pointer (some ⟨w.heap.size, 0, none⟩), .pointer (some ⟨w.heap.size + 1, 0, none⟩), .pointer (some ⟨w.heap.size + 1 + 1, 0, none⟩), .pointer (some ⟨w.heap.size + 1 + 1 + 1, 0, none⟩), .pointer (some ⟨w.heap.size + 1 + 1 + 1 + 1, 0, none⟩), .pointer (some ⟨w.heap.size + 1 + 1 + 1 + 1 + 1, 0, none⟩), .slice (some ⟨W.heap.size + 2, 0, none⟩) q.length q.length, undef, undef, undef, .slice A l.length c, .func (.func 126) #[] #[.pointer (some ⟨w.heap.size + 1 + 1 + 1 + 1 + 1 + 1, 0, none⟩)], .slice (some ⟨W.heap.size + 2, 0, none⟩) q.length q.length, undef, undef, undef, undef, undef, undef, undef, undef, undef, undef, undef, undef, undef, undef, undef, undef, undef, undef, undef, undef, undef, undef, undef, undef, undef, undef, undef], defers := [] }) (fun _ _ _ _ h _ => h) ?assign ?body ?done (fun _ _ _ _ _ _ h _ => h.elim)
  case hI => exact fun k V V' h hr => ⟨h.1.recs hr (by have := HZ.out; omega), h.2.of_recs hr (by have := HZ.out; have := HMW.out; omega)⟩
  case hIs =>
    intro k V V' h hr
    rw [show W.heap.size + 2 = w.heap.size + 9 by have := HZ.out; omega] at hr
    exact ⟨h.1.step hr, h.2.of_step hr (by have := HMW.out; omega)⟩
  case hSt =>
    intro k V h
    exact ⟨h.1.c6, HA.out.kc (KC.of_step h.1.sb HMM.out) (by have := HZ.out; omega)⟩
  case assign =>
    intro l' k q V K hq hi ho hK
    clear hpg
    simp only [encQ]
    gi_wp2_with (fail)
    exact hK _ _ (KeepsFrom.refl _ _) hi ho rfl
  case body =>
    rintro l' k q a' V hl' hq ⟨hi, hm⟩ hown rfl
    have hmem := List.mem_of_getElem? hq
    have hst := bzK_step (p := p) (S := S) (Y := Y) (number := number) hq
    have hkc := KC.of_step hi.sb HMM.out
    have hC := HCO.out q _ V hmem hkc hown
    have hg9 : W.heap.size + 2 = w.heap.size + 9 := by have := HZ.out; omega
    have HG9 := Lib.hid hg9
    clear hg9
    generalize W.heap.size + 2 = G at *
    have HMEM := Lib.hid hmem
    have HST := Lib.hid hst
    have HIN := Lib.hid hi
    have HM := Lib.hid hm
    have HOWN := Lib.hid hown
    have HKC := Lib.hid hkc
    have c0 : V.cell? ⟨w.heap.size, 0, none⟩ = some (.slice A l.length c) := hi.c0.at_ 0
    clear hpg hq hmem hst hi hm hown hkc
    gi_wp2_with (fail)
    refine ⟨trivial, (CallsIn.inRound l' (callsIn_wide.2 hC)).mono ?_⟩
    clear hC c0
    rintro e V1 ⟨rfl, hb1⟩
    have hi1 := HIN.out.call hb1
    have hgi := HGI.out q G k V1 HMEM.out (HKC.out.call hb1) (HM.out.call hb1) (HOWN.out.call hb1)
    have hen : enoughP p S Y number l q = (roomB p (buyP p l q) && decide (number ≤ giveP p S Y l q)) := rfl
    have hst := HST.out
    rw [hen] at hst
    have hql : q.length = l.length := by rw [allQ_len _ _ HMEM.out]; simp [mosts]
    generalize roomB p (buyP p l q) = rb at *
    generalize giveP p S Y l q = sv at *
    obtain ⟨cq, hcq⟩ : ∃ cq, costP l q l.length = cq := ⟨_, rfl⟩
    rw [hcq]
    obtain ⟨z, hz⟩ : ∃ z, z = bzK p l S Y number k := ⟨_, rfl⟩
    have d7 : V1.cell? ⟨w.heap.size + 1 + 1 + 1 + 1, 0, none⟩ = some (.int .i64 (prZ l z)) := by rw [hz]; exact hi1.c4.at_ 0
    have d8 : V1.cell? ⟨w.heap.size + 1 + 1 + 1 + 1 + 1, 0, none⟩ = some (.bool z.isSome) := by rw [hz]; exact hi1.c5.at_ 0
    have d5 : V1.cell? ⟨w.heap.size + 1 + 1, 0, none⟩ = some (.func (.func 83) #[.agg off] #[]) := by rw [← HG.out]; exact hi1.c2.at_ 0
    rw [← hz] at hst
    have HST1 := Lib.hid hst
    have HZZ := Lib.hid hz
    have HI1 := Lib.hid hi1
    have HGV := Lib.hid hgi
    have HB1 := Lib.hid hb1
    have HCQ := Lib.hid hcq.symm
    have HQL := Lib.hid hql
    clear hst hz hi1 hgi hb1 hen HST HIN HKC hql
    cases z with
    | none =>
      simp only [Option.isSome_none, prZ] at d7 d8
      clear hcq
      gi_wp2_with (fail)
      refine ⟨trivial, (CallsIn.inRound l' (callsIn_wide.2 HGV.out)).mono ?_⟩
      rintro e V2 ⟨rfl, hm2, hk2, hs2⟩
      have hi2 := HI1.out.gives hs2 hk2
      have hown2 : Lies V2 G 3 (vals q) := hk2.lies (HOWN.out.call HB1.out)
      have hkf : KeepsFrom W.heap.size V V2 := (KeepsFrom.of_below HB1.out).trans (KeepsFrom.of_grownBy hs2 (fun j e => by cases e; have := HMW.out; have := HZ.out; omega))
      have d4 : V2.cell? ⟨w.heap.size + 1, 0, none⟩ = some (.int .i64 number) := hi2.c1.at_ 0
      have HI2 := Lib.hid hi2
      have HM2 := Lib.hid hm2
      have HO2 := Lib.hid hown2
      have HKF := Lib.hid hkf
      clear hi2 hm2 hk2 hs2 hown2 hkf d7 d8 d5
      cases rb with
      | false =>
        simp only [Bool.false_eq_true, if_false]
        have hst := HST1.out
        simp only [Bool.false_and, Bool.false_eq_true, if_false, pickB] at hst
        have HST2 := Lib.hid hst
        clear hst
        gi_wp2
        exact ⟨HKF.out, ⟨HI2.out.skip (by rw [HST2.out, ← HZZ.out]), HM2.out⟩, HO2.out⟩
      | true =>
        simp only [if_true]
        have hst := HST1.out
        simp only [Bool.true_and, pickB] at hst
        by_cases hsv : number ≤ sv
        · simp only [hsv, decide_true, if_true] at hst
          have hcl := clone_own G 0 q.length q.length q V2 (lies_q HO2.out) rfl (by have := HQL.out; have := HL4.out; omega)
          have HCL := Lib.hid hcl
          have HST2 := Lib.hid hst
          clear hst hcl
          gi_wp2_with (fail)
          refine ⟨trivial, (CallsIn.inRound l' (callsIn_wide.2 HCL.out)).mono ?_⟩
          rintro e V3 ⟨A', c', rfl, ho3, hb3⟩
          have hlo : w.heap.size + 10 ≤ V2.heap.size := by have := HO2.out.in_; have := HG9.out; omega
          have hw3 : SlW V3 (w.heap.size + 10) V3.heap.size 1 3 encI A' q := slW_of_own (fun _ => rfl) hlo ho3
          have hi4 := HI2.out.take (c' := c') hb3 hw3 (own_nil ho3) HST2.out
          have h33 := HI2.out.call hb3
          obtain ⟨v3, hv3, hz3⟩ := h33.c3
          have o1 := Only.set (w.heap.size + 1 + 1 + 1) 0 V3 (.slice A' q.length c')
          have o2 := Only.set (w.heap.size + 1 + 1 + 1 + 1) 0 (V3.setCell ⟨w.heap.size + 1 + 1 + 1, 0, none⟩ (.slice A' q.length c')) (.int .i64 cq)
          have o3 := Only.set (w.heap.size + 1 + 1 + 1 + 1 + 1) 0 ((V3.setCell ⟨w.heap.size + 1 + 1 + 1, 0, none⟩ (.slice A' q.length c')).setCell ⟨w.heap.size + 1 + 1 + 1 + 1, 0, none⟩ (.int .i64 cq)) (.bool true)
          have l4 := o1.lies h33.c4 (by omega)
          have l5 := o2.lies (o1.lies h33.c5 (by omega)) (by omega)
          have f3 : V3.frozen? ⟨w.heap.size + 1 + 1 + 1, 0, none⟩ = false := hv3.free 0
          have g3 := hv3.at_ 0
          have f4 : (V3.setCell ⟨w.heap.size + 1 + 1 + 1, 0, none⟩ (.slice A' q.length c')).frozen? ⟨w.heap.size + 1 + 1 + 1 + 1, 0, none⟩ = false := l4.free 0
          have g4 := l4.at_ 0
          have f5 : ((V3.setCell ⟨w.heap.size + 1 + 1 + 1, 0, none⟩ (.slice A' q.length c')).setCell ⟨w.heap.size + 1 + 1 + 1 + 1, 0, none⟩ (.int .i64 cq)).frozen? ⟨w.heap.size + 1 + 1 + 1 + 1 + 1, 0, none⟩ = false := l5.free 0
          have g5 := l5.at_ 0
          have HKF4 := Lib.hid (HKF.out.trans ((KeepsFrom.of_below hb3).trans ((KeepsFrom.of_only (D := W.heap.size) o1 hv3).trans ((KeepsFrom.of_only o2 l4).trans (KeepsFrom.of_only o3 l5)))))
          have HI4 := Lib.hid hi4
          have HM4 := Lib.hid ((((HM2.out.call hb3).only hv3 o1).only l4 o2).only l5 o3)
          have HO4 := Lib.hid (o3.lies (o2.lies (o1.lies (HO2.out.call hb3) (by have := HG9.out; omega)) (by have := HG9.out; omega)) (by have := HG9.out; omega))
          clear hi4 h33 hv3 hz3 o1 o2 o3 l4 l5 ho3 hb3 hw3 hlo
          gi_wp2_with (fail)
          rw [← HCQ.out] at HI4
          exact ⟨HKF4.out, ⟨HI4.out, HM4.out⟩, HO4.out⟩
        · simp only [hsv, decide_false, Bool.false_eq_true, if_false] at hst
          have HST2 := Lib.hid hst
          clear hst
          gi_wp2
          exact ⟨HKF.out, ⟨HI2.out.skip (by rw [HST2.out, ← HZZ.out]), HM2.out⟩, HO2.out⟩
    | some z0 =>
      simp only [Option.isSome_some, prZ] at d7 d8
      by_cases hc : costP l z0 l.length ≤ cq
      · have hst := HST1.out
        have e : bzK p l S Y number (k + 1) = bzK p l S Y number k := by
          rw [hst, ← HZZ.out]
          cases hb : (rb && decide (number ≤ sv)) with
          | true => rw [if_pos rfl]; show (if costP l q l.length < costP l z0 l.length then some q else some z0) = some z0; exact if_neg (by rw [hcq]; omega)
          | false => rw [if_neg (by simp)]; rfl
        have HE := Lib.hid e
        clear hst e hcq
        generalize costP l z0 l.length = c0 at *
        gi_wp2
        exact ⟨KeepsFrom.of_below HB1.out, ⟨HI1.out.skip HE.out, (HM.out.call HB1.out).mono (by omega)⟩, HOWN.out.call HB1.out⟩
      · have hnc : costP l q l.length < costP l z0 l.length := by rw [hcq]; omega
        have HNC := Lib.hid hnc
        clear hnc hcq
        gi_wp2_with (fail)
        refine ⟨trivial, (CallsIn.inRound l' (callsIn_wide.2 HGV.out)).mono ?_⟩
        rintro e V2 ⟨rfl, hm2, hk2, hs2⟩
        have hi2 := HI1.out.gives hs2 hk2
        have hown2 : Lies V2 G 3 (vals q) := hk2.lies (HOWN.out.call HB1.out)
        have hkf : KeepsFrom W.heap.size V V2 := (KeepsFrom.of_below HB1.out).trans (KeepsFrom.of_grownBy hs2 (fun j e => by cases e; have := HMW.out; have := HZ.out; omega))
        have d4 : V2.cell? ⟨w.heap.size + 1, 0, none⟩ = some (.int .i64 number) := hi2.c1.at_ 0
        have HI2 := Lib.hid hi2
        have HM2 := Lib.hid hm2
        have HO2 := Lib.hid hown2
        have HKF := Lib.hid hkf
        clear hi2 hm2 hk2 hs2 hown2 hkf d7 d8 d5
        cases rb with
        | false =>
          simp only [Bool.false_eq_true, if_false]
          have hst := HST1.out
          simp only [Bool.false_and, Bool.false_eq_true, if_false, pickB] at hst
          have HST2 := Lib.hid hst
          clear hst
          gi_wp2
          exact ⟨HKF.out, ⟨HI2.out.skip (by rw [HST2.out, ← HZZ.out]), HM2.out⟩, HO2.out⟩
        | true =>
          simp only [if_true]
          have hst := HST1.out
          simp only [Bool.true_and, pickB] at hst
          by_cases hsv : number ≤ sv
          · simp only [hsv, decide_true, if_true, HNC.out] at hst
            have hcl := clone_own G 0 q.length q.length q V2 (lies_q HO2.out) rfl (by have := HQL.out; have := HL4.out; omega)
            have HCL := Lib.hid hcl
            have HST2 := Lib.hid hst
            clear hst hcl
            gi_wp2_with (fail)
            refine ⟨trivial, (CallsIn.inRound l' (callsIn_wide.2 HCL.out)).mono ?_⟩
            rintro e V3 ⟨A', c', rfl, ho3, hb3⟩
            have hlo : w.heap.size + 10 ≤ V2.heap.size := by have := HO2.out.in_; have := HG9.out; omega
            have hw3 : SlW V3 (w.heap.size + 10) V3.heap.size 1 3 encI A' q := slW_of_own (fun _ => rfl) hlo ho3
            have hi4 := HI2.out.take (c' := c') hb3 hw3 (own_nil ho3) HST2.out
            have h33 := HI2.out.call hb3
            obtain ⟨v3, hv3, hz3⟩ := h33.c3
            have o1 := Only.set (w.heap.size + 1 + 1 + 1) 0 V3 (.slice A' q.length c')
            have o2 := Only.set (w.heap.size + 1 + 1 + 1 + 1) 0 (V3.setCell ⟨w.heap.size + 1 + 1 + 1, 0, none⟩ (.slice A' q.length c')) (.int .i64 cq)
            have o3 := Only.set (w.heap.size + 1 + 1 + 1 + 1 + 1) 0 ((V3.setCell ⟨w.heap.size + 1 + 1 + 1, 0, none⟩ (.slice A' q.length c')).setCell ⟨w.heap.size + 1 + 1 + 1 + 1, 0, none⟩ (.int .i64 cq)) (.bool true)
            have l4 := o1.lies h33.c4 (by omega)
            have l5 := o2.lies (o1.lies h33.c5 (by omega)) (by omega)
            have f3 : V3.frozen? ⟨w.heap.size + 1 + 1 + 1, 0, none⟩ = false := hv3.free 0
            have g3 := hv3.at_ 0
            have f4 : (V3.setCell ⟨w.heap.size + 1 + 1 + 1, 0, none⟩ (.slice A' q.length c')).frozen? ⟨w.heap.size + 1 + 1 + 1 + 1, 0, none⟩ = false := l4.free 0
            have g4 := l4.at_ 0
            have f5 : ((V3.setCell ⟨w.heap.size + 1 + 1 + 1, 0, none⟩ (.slice A' q.length c')).setCell ⟨w.heap.size + 1 + 1 + 1 + 1, 0, none⟩ (.int .i64 cq)).frozen? ⟨w.heap.size + 1 + 1 + 1 + 1 + 1, 0, none⟩ = false := l5.free 0
            have g5 := l5.at_ 0
            have HKF4 := Lib.hid (HKF.out.trans ((KeepsFrom.of_below hb3).trans ((KeepsFrom.of_only (D := W.heap.size) o1 hv3).trans ((KeepsFrom.of_only o2 l4).trans (KeepsFrom.of_only o3 l5)))))
            have HI4 := Lib.hid hi4
            have HM4 := Lib.hid ((((HM2.out.call hb3).only hv3 o1).only l4 o2).only l5 o3)
            have HO4 := Lib.hid (o3.lies (o2.lies (o1.lies (HO2.out.call hb3) (by have := HG9.out; omega)) (by have := HG9.out; omega)) (by have := HG9.out; omega))
            clear hi4 h33 hv3 hz3 o1 o2 o3 l4 l5 ho3 hb3 hw3 hlo
            gi_wp2_with (fail)
            rw [← HCQ.out] at HI4
            exact ⟨HKF4.out, ⟨HI4.out, HM4.out⟩, HO4.out⟩
          · simp only [hsv, decide_false, Bool.false_eq_true, if_false] at hst
            have HST2 := Lib.hid hst
            clear hst
            gi_wp2
            exact ⟨HKF.out, ⟨HI2.out.skip (by rw [HST2.out, ← HZZ.out]), HM2.out⟩, HO2.out⟩
  case done =>
    intro D V hD hi hd
    obtain ⟨v, h3, hzz⟩ := hi.1.c3
    obtain ⟨a1, n1, k1, rfl⟩ := hzz.slice
    have c3 : V.cell? ⟨w.heap.size + 1 + 1 + 1, 0, none⟩ = some (.slice a1 n1 k1) := h3.at_ 0
    have c4 := hi.1.c4.at_ 0
    have c5 := hi.1.c5.at_ 0
    have f3 : V.frozen? ⟨w.heap.size + 1 + 1 + 1, 0, none⟩ = false := h3.free 0
    have f4 : V.frozen? ⟨w.heap.size + 1 + 1 + 1 + 1, 0, none⟩ = false := hi.1.c4.free 0
    have f5 : V.frozen? ⟨w.heap.size + 1 + 1 + 1 + 1 + 1, 0, none⟩ = false := hi.1.c5.free 0
    have HII := Lib.hid hi
    have H3 := Lib.hid h3
    have HZ3 := Lib.hid hzz
    have HDD := Lib.hid hd
    clear hi h3 hzz hd hpg
    obtain ⟨pz, hpz⟩ : ∃ pz, pz = prZ l (bzK p l S Y number (allQ (mosts l)).length) := ⟨_, rfl⟩
    obtain ⟨bz, hbz⟩ : ∃ bz, bz = (bzK p l S Y number (allQ (mosts l)).length).isSome := ⟨_, rfl⟩
    rw [← hpz] at c4
    rw [← hbz] at c5
    have HPZ := Lib.hid hpz
    have HBZ := Lib.hid hbz
    clear hpz hbz
    go_wp2
    go_region
    go_wp2
    have o1 := Only.set (w.heap.size + 1 + 1 + 1) 0 V (.slice a1 n1 k1)
    have o2 := Only.set (w.heap.size + 1 + 1 + 1 + 1) 0 (V.setCell ⟨w.heap.size + 1 + 1 + 1, 0, none⟩ (.slice a1 n1 k1)) (.int .i64 pz)
    have o3 := Only.set (w.heap.size + 1 + 1 + 1 + 1 + 1) 0 ((V.setCell ⟨w.heap.size + 1 + 1 + 1, 0, none⟩ (.slice a1 n1 k1)).setCell ⟨w.heap.size + 1 + 1 + 1 + 1, 0, none⟩ (.int .i64 pz)) (.bool bz)
    have hsb := ((HII.out.1.sb.only_new o1 (by omega)).only_new o2 (by omega)).only_new o3 (by omega)
    have l3 := o3.lies (o2.lies (H3.out.set 0 (.slice a1 n1 k1)) (by omega)) (by omega)
    have l4 := o3.lies ((o1.lies HII.out.1.c4 (by omega)).set 0 (.int .i64 pz)) (by omega)
    have l5 := (o2.lies (o1.lies HII.out.1.c5 (by omega)) (by omega)).set 0 (.bool bz)
    have hdd := (o3.block D (by have := HZ.out; omega)).trans ((o2.block D (by have := HZ.out; omega)).trans ((o1.block D (by have := HZ.out; omega)).trans HDD.out))
    have hz6 := HZ3.out.keep (V' := ((V.setCell ⟨w.heap.size + 1 + 1 + 1, 0, none⟩ (.slice a1 n1 k1)).setCell ⟨w.heap.size + 1 + 1 + 1 + 1, 0, none⟩ (.int .i64 pz)).setCell ⟨w.heap.size + 1 + 1 + 1 + 1 + 1, 0, none⟩ (.bool bz)) (by rw [o3.size, o2.size, o1.size]; exact Nat.le_refl _) (fun b cs hb hl => o3.lies (o2.lies (o1.lies hl (by omega)) (by omega)) (by omega))
    generalize ((V.setCell ⟨w.heap.size + 1 + 1 + 1, 0, none⟩ (.slice a1 n1 k1)).setCell ⟨w.heap.size + 1 + 1 + 1 + 1, 0, none⟩ (.int .i64 pz)).setCell ⟨w.heap.size + 1 + 1 + 1 + 1 + 1, 0, none⟩ (.bool bz) = V6 at *
    have hbd : Below V6.heap.size V6 V6.drew := (Below.refl _ _).drew
    have hR : Recs D V6.drew (V6.drew.putObj D (.deferred none)) := Recs.put _ (Nat.le_refl _) (show V6.drew.heap[D]? = _ from hdd) rfl
    refine leave_mark (show V6.drew.heap[D]? = _ from hdd) ⟨_, results_cell3 rfl _ _ _ _ _ _ _ _ _ _ _ rfl rfl rfl ((hR.lies (l3.call hbd)).at_ 0) ((hR.lies (l4.call hbd)).at_ 0) ((hR.lies (l5.call hbd)).at_ 0) Try.underlying23 rfl Try.underlying3 rfl Try.underlying4 rfl, .slice a1 n1 k1, ?_, ?_, ?_⟩
    · rw [← HPZ.out, ← HBZ.out]; rfl
    · exact (hz6.low (by omega)).keep (Nat.le_trans hbd.size hR.size) (fun b cs _ hl => hR.lies (hl.call hbd))
    · exact (hsb.below' hbd).recs hR (by have := HZ.out; omega)
end Go.Proofs.Ytlkdmcdnkoiflaa

namespace Go.Proofs.Ytlkdmcdnkoiflaa
open Go.RowKit Go.Lib

/-- The best purchase. -/
def bestP (p : PlM) (l : List Cr) (S Y : Nat) (number : Int) : Option (List Int) := bestD (fun q => costP l q l.length) (enoughP p S Y number l) (allQ (mosts l))
theorem bzK_all (p : PlM) (l : List Cr) (S Y : Nat) (number : Int) : bzK p l S Y number (allQ (mosts l)).length = bestP p l S Y number := by
  unfold bzK bestP; rw [List.take_length]
def errZ (z : Option (List Int)) : Int := if z.isSome then 0 else 9
theorem errZ_none : errZ none = 9 := rfl
theorem prZ_none (l : List Cr) : prZ l none = 0 := rfl
/-- What Cheapest hands back. -/
def RetCh (l : List Cr) (z : Option (List Int)) (w : World) (e : Ending) (w' : World) : Prop :=
  ∃ v, e = .returned (.tuple #[v, .int .i64 (prZ l z), .int .i64 (errZ z)]) ∧ SlZ w' w.heap.size z v ∧ Below w.heap.size w w'
theorem SlZ.call {V V' : World} {lo : Nat} {z : Option (List Int)} {v : Value} (h : SlZ V lo z v) (hb : Below V.heap.size V V') : SlZ V' lo z v := h.keep hb.size fun _ _ _ hl => hl.call hb
set_option maxRecDepth 100000 in
set_option maxHeartbeats 2000000 in
theorem Cheapest_ok (p : PlM) (A : Option Addr) (c S Y : Nat) (l : List Cr) (number : Int) (w : World) (hp : p.At w w.heap.size) (hA : Sl w w.heap.size 4 encCr A l) (hno : offL p l (S : Int) number = 0) (hY : p.years = (Y : Int)) :
    Calls Try.prog 41 #[.agg p.cells.toArray, .slice A l.length c, .int .i64 (S : Int), .int .i64 number] w (RetCh l (bestP p l S Y number) w) := by
  obtain ⟨hf, hob, hask⟩ := offL_zero hno
  have hl4 := (offB_zero hob).1
  have hv := fault_zero hf
  have hS : S < 5 := by
    have h1 := ((asked_zero hask).2.1 (S : Int) (by simp)).2
    have := hv.ok.n
    omega
  have l0 : Lies (w.alloc (.cells p.cells.toArray 41)) w.heap.size 41 p.cells.toArray := Lies.fresh _ _ _
  have b0 : Below w.heap.size w (w.alloc (.cells p.cells.toArray 41)) := (Below.refl _ _).alloc (Nat.le_refl _) _
  have hC := checkOffer_any p A c l (S : Int) number _ (hp.below b0 b0.size) ((hA.below b0).more b0.size) (by omega)
  have hN : ∀ W, Below w.heap.size w W → Calls Try.prog 82 #[.agg p.cells.toArray, .slice A l.length c, .int .i64 (S : Int)] W (RetOf p A l.length c (S : Int) Y W) := fun W hb => newOffer_any p A l.length c (S : Int) Y W (hp.below hb hb.size) hv hY
  have hG : ∀ (t : TrM) (mb : Nat) (W : World), Below w.heap.size w W → t.At W W.heap.size → PT p t → t.s.l = p.s.l.map (·.1) → t.g.l.length = Y → (∀ pl (z : Nat), soldUp p t pl z Y = sellsD p.d (·.1) (·.2) pl z Y) → (∀ f, Memo W mb 0 f) →
      Calls Try.prog 84 #[.slice A l.length c, .int .i64 number, .func (.func 83) #[.agg (offC p t A l.length c (S : Int) mb).toArray] #[]] W (RetBs p l S Y number mb W) := fun t mb W hb h1 h2 h3 h4 h5 h6 =>
    best_any p t A c S Y mb l number W (hp.below hb hb.size) h1 hv h2 h3 h4 h5 (h6 _) ((hA.below hb).more hb.size) hS hob
  have hbz := bzK_all p l S Y number
  generalize bestP p l S Y number = z at *
  rw [hno] at hC
  have L0 := Lib.hid l0
  have B0 := Lib.hid b0
  have HC := Lib.hid hC
  have HN := Lib.hid hN
  have HG := Lib.hid hG
  have HBZ := Lib.hid hbz
  clear l0 b0 hC hno hp hA hN hG hv hf hob hask hY hbz
  unfold PlM.cells at HC HN ⊢
  go_enter Try.func41, Try.ntmps41
  cases z
  all_goals
    go_wp2_with (first
      | (refine wpList_load_row (o := ⟨some 13, _, _, _, _, _⟩) ?_ 41 (.tmp 4) ?_ w.heap.size ?_ 41 p.cells.toArray (0, 0) _ L0.out Try.underlying41 rfl size41 ?_; rfl; rfl; rfl)
      | (go_at_call 79; refine HC.out.mono ?_; rintro e w1 ⟨rfl, hb1⟩; have L1 := Lib.hid (L0.out.call hb1); have B1 := Lib.hid (B0.out.trans (hb1.mono B0.out.size)))
      | (refine wpList_load_row (o := ⟨some 24, _, _, _, _, _⟩) ?_ 41 (.tmp 4) ?_ w.heap.size ?_ 41 p.cells.toArray (0, 0) _ L1.out Try.underlying41 rfl size41 ?_; rfl; rfl; rfl)
      | (go_at_call 82; refine (HN.out _ B1.out).mono ?_; rintro e w3 ⟨t, mb, rfl, hh⟩; have HH := Lib.hid hh; clear hh; have B3 := Lib.hid (B1.out.trans (HH.out.2.2.2.2.2.2.2.mono B1.out.size)))
      | (go_at_call 84; refine (HG.out t mb w3 B3.out HH.out.1 HH.out.2.1 HH.out.2.2.1 HH.out.2.2.2.1 HH.out.2.2.2.2.1 HH.out.2.2.2.2.2.1).mono ?_; rintro e w4 ⟨v, he, hz4, hs4⟩; rw [HBZ.out] at he hz4; subst he; have HZ4 := Lib.hid hz4; have HS4 := Lib.hid hs4; clear hz4 hs4))
    have hb4 : Below w.heap.size w w4 := HS4.out.below B3.out (Nat.le_trans B1.out.size HH.out.2.2.2.2.2.2.1) B3.out.size
    go_ret3
  · exact ⟨_, rfl, rfl, hb4⟩
  · exact ⟨_, rfl, HZ4.out.low B3.out.size, hb4⟩
end Go.Proofs.Ytlkdmcdnkoiflaa

namespace Go.Proofs.Ytlkdmcdnkoiflaa
open Go.RowKit Go.Lib

theorem enough_congr {p q : PlM} (h : q.d = p.d) (S Y : Nat) (number : Int) (l : List Cr) (x : List Int) : enoughP q S Y number l x = enoughP p S Y number l x := by
  have hs : q.s.l = p.s.l := congrArg PD.s h
  have hr : q.r.l = p.r.l := congrArg PD.r h
  have ha : roomAt q = roomAt p := by funext a b; unfold roomAt; rw [hs, hr]
  unfold enoughP giveP buyP roomB
  rw [h, hs, ha]
theorem bestP_congr {p q : PlM} (h : q.d = p.d) (l : List Cr) (S Y : Nat) (number : Int) : bestP q l S Y number = bestP p l S Y number := by
  unfold bestP
  rw [show enoughP q S Y number l = enoughP p S Y number l from funext fun x => enough_congr h S Y number l x]
theorem offL_congr {p q : PlM} (h : q.d = p.d) (l : List Cr) (s n : Int) : offL q l s n = offL p l s n := by
  have hs : q.s.l = p.s.l := congrArg PD.s h
  unfold offL askedL
  rw [fault_congr h, hs]
theorem offL_good {p : PlM} {l : List Cr} {S : Nat} {n : Int} (hf : p.fault = 0) (ho : offB p.s.l.length l = 0) (hs : S < p.s.l.length) (h0 : 0 ≤ n) (h1 : n ≤ 10000000) : offL p l (S : Int) n = 0 := by
  have h2 : inB (S : Int) 0 ((p.s.l.length : Int) - 1) = true := inB_iff.2 (by omega)
  have h3 : inB n 0 10000000 = true := inB_iff.2 ⟨h0, h1⟩
  unfold offL askedL
  rw [if_neg (by simpa using hf), if_neg (by simpa using ho), if_neg (by simpa using hf)]
  simp [h2, h3]
/-- The same crates, but dearer or fewer. -/
structure Worse (l x : List Cr) : Prop where
  len : x.length = l.length
  at_ : ∀ (i : Nat) (c d : Cr), l[i]? = some c → x[i]? = some d → d.size = c.size ∧ d.bulbs = c.bulbs ∧ c.price ≤ d.price ∧ d.most ≤ c.most
theorem Worse.refl (l : List Cr) : Worse l l := ⟨rfl, fun i c d h h' => by rw [h] at h'; cases h'; exact ⟨rfl, rfl, Int.le_refl _, Int.le_refl _⟩⟩
theorem Worse.set {l : List Cr} {i : Nat} {c d : Cr} (hc : l[i]? = some c) (h : d.size = c.size ∧ d.bulbs = c.bulbs ∧ c.price ≤ d.price ∧ d.most ≤ c.most) : Worse l (l.set i d) := by
  refine ⟨by simp, fun j a b ha hb => ?_⟩
  rw [List.getElem?_set] at hb
  by_cases e : i = j
  · subst e
    rw [hc] at ha
    cases ha
    have hi := (List.getElem?_eq_some_iff.1 hc).1
    rw [if_pos rfl, if_pos hi] at hb
    cases hb
    exact h
  · rw [if_neg e, ha] at hb
    cases hb
    exact ⟨rfl, rfl, Int.le_refl _, Int.le_refl _⟩
theorem Worse.pick {l x : List Cr} (h : Worse l x) {k : Nat} (hk : k < l.length) : ∃ c d, l[k]? = some c ∧ x[k]? = some d ∧ d.size = c.size ∧ d.bulbs = c.bulbs ∧ c.price ≤ d.price ∧ d.most ≤ c.most := by
  have h1 : l[k]? = some l[k] := by simp [hk]
  have h2 : x[k]? = some (x[k]'(by rw [h.len]; exact hk)) := by simp
  exact ⟨_, _, h1, h2, h.at_ k _ _ h1 h2⟩
end Go.Proofs.Ytlkdmcdnkoiflaa

namespace Go.Proofs.Ytlkdmcdnkoiflaa
open Go.RowKit Go.Lib

theorem wpList_load_rowC {P : Program} {ops : Array Oper} {rest : List Oper} {o : Oper} {a : Act} {w : World} {Q : Exit → Act → World → Prop} (hw : Region.wanted o (yielded ops a.tmps) = true) (ty : TypeId) (x : Operand) (ho : o.op = .load ty x)
    (g : Nat) (hx : a.eval x = .pointer (some ⟨g, 0, none⟩)) (t : TypeId) (cs : Array Value) (fr : Nat × Nat) (d : TypeDesc) (hg : w.heap[g]? = some (.cells cs t fr))
    (hu : P.underlying ty = some d) (hd : (match d with | .struct _ | .array _ _ => true | _ => false) = true) (hi : (P.info? ty).map (·.size) = some cs.size)
    (h : wpList P ops Q rest (a.put o.dst (.agg cs)) w) : wpList P ops Q (o :: rest) a w :=
  wpList_step fun K hK => by
    rw [if_pos hw]
    exact wp_load_row ty x ho g hx t cs fr d hg hu hd hi (hK _ _ h)
/-- What Enough hands back, of what can be asked. -/
def enV (p : PlM) (l : List Cr) (S Y : Nat) (number : Int) (y : List Int) : Value :=
  .tuple #[.bool (pairedB l y (fun c m => inB m 0 c.most) && enoughP p S Y number l y), .int .i64 (if pairedB l y (fun c m => inB m 0 c.most) then 0 else 2)]
theorem Enough_all (q p : PlM) (hd : q.d = p.d) (A A' : Option Addr) (c c' S Y : Nat) (l : List Cr) (y : List Int) (number : Int) (w : World) (hp : q.At w w.heap.size) (hA : Sl w w.heap.size 4 encCr A l) (hA' : Sl w w.heap.size 1 encI A' y) (hno : offL p l (S : Int) number = 0) (hY : p.years = (Y : Int)) :
    Calls Try.prog 38 #[.agg q.cells.toArray, .slice A l.length c, .slice A' y.length c', .int .i64 (S : Int), .int .i64 number] w fun e w' => e = .returned (enV p l S Y number y) ∧ Below w.heap.size w w' := by
  have hno' : offL q l (S : Int) number = 0 := by rw [offL_congr hd]; exact hno
  unfold enV
  cases hb : pairedB l y (fun c m => inB m 0 c.most) with
  | true =>
    have h := Enough_ok q A A' c c' S Y l y number w hp hA hA' hno' hb (by rw [← hY]; show q.d.years = _; rw [hd]; rfl)
    rw [enough_congr hd] at h
    exact h.mono fun e w' h => ⟨by rw [h.1]; rfl, h.2⟩
  | false => exact (Enough_not q A A' c c' l y (S : Int) number w hp hA hA' hno' hb).mono fun e w' h => ⟨by rw [h.1]; rfl, h.2⟩
theorem Cheapest_all (q p : PlM) (hd : q.d = p.d) (A : Option Addr) (c S Y : Nat) (l : List Cr) (number : Int) (w : World) (hp : q.At w w.heap.size) (hA : Sl w w.heap.size 4 encCr A l) (hno : offL p l (S : Int) number = 0) (hY : p.years = (Y : Int)) :
    Calls Try.prog 41 #[.agg q.cells.toArray, .slice A l.length c, .int .i64 (S : Int), .int .i64 number] w (RetCh l (bestP p l S Y number) w) := by
  have hno' : offL q l (S : Int) number = 0 := by rw [offL_congr hd]; exact hno
  have h := Cheapest_ok q A c S Y l number w hp hA hno' (by rw [← hY]; show q.d.years = _; rw [hd]; rfl)
  rwa [bestP_congr hd] at h
end Go.Proofs.Ytlkdmcdnkoiflaa
