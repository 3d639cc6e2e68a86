/- best. -/
import Derived.Test.YteognijlgalahaaPD
namespace Go.Proofs.Yteognijlgalahaa
open Go.RowKit Go.Lib
attribute [local go_sem] Oper.semAt_some

/-- The variables of best. -/
structure BeM (p : PoM) (T : Nat → Int → Int) (j D mb : Nat) (day lv : Int) (w : World) (gr : Nat) (a c : Int) (V : World) : Prop where
  k : Lies V w.heap.size 89 (keC p D mb).toArray
  d : Lies V (w.heap.size + 1) 3 #[.int .i64 day]
  l : Lies V (w.heap.size + 2) 3 #[.int .i64 lv]
  a : Lies V (w.heap.size + 3) 3 #[.int .i64 a]
  c : Lies V (w.heap.size + 4) 3 #[.int .i64 c]
  r : Lies V gr 31 #[.int .i64 (-p.inl), .int .i64 p.pump]
  e : KeM p T j D mb V
  w : StepB mb w V
section
variable {p : PoM} {T : Nat → Int → Int} {j D mb : Nat} {day lv : Int} {w : World} {gr : Nat} {a c : Int} {V V' : World} {B : Nat}
theorem StepB.recs {b : Nat} {w V V' : World} (h : StepB b w V) (hr : Recs B V V') (hB : w.heap.size ≤ B) : StepB b w V' := by
  obtain ⟨row, hg, hrow⟩ := hr
  exact ⟨hg.os.trans h.os, hg.tape.trans h.tape, hg.output.trans h.output, Nat.le_trans h.size hg.size, fun k hk hne => (hg.block k (Nat.lt_of_lt_of_le hk h.size) fun e => by have := (hrow k e.symm).1; omega).trans (h.block k hk hne)⟩
theorem BeM.recs (h : BeM p T j D mb day lv w gr a c V) (hr : Recs B V V') (hm : mb < B) (hB : w.heap.size ≤ B) : BeM p T j D mb day lv w gr a c V' :=
  ⟨hr.lies h.k, hr.lies h.d, hr.lies h.l, hr.lies h.a, hr.lies h.c, hr.lies h.r, h.e.recs hr hm, h.w.recs hr hB⟩
theorem BeM.call (h : BeM p T j D mb day lv w gr a c V) (hb : Below V.heap.size V V') : BeM p T j D mb day lv w gr a c V' :=
  ⟨h.k.call hb, h.d.call hb, h.l.call hb, h.a.call hb, h.c.call hb, h.r.call hb, h.e.call hb, h.w.trans (.of_below hb)⟩
theorem BeM.step (h : BeM p T j D mb day lv w gr a c V) (he : KeM p T j D mb V') (hg : V.grownBy V' (some mb)) (hm : mb < w.heap.size) (hr : w.heap.size ≤ gr) : BeM p T j D mb day lv w gr a c V' :=
  ⟨h.k.grown hg (by simp; omega), h.d.grown hg (by simp; omega), h.l.grown hg (by simp; omega), h.a.grown hg (by simp; omega), h.c.grown hg (by simp; omega), h.r.grown hg (by simp; omega), he, h.w.trans hg⟩
theorem StepB.only {b g : Nat} {w V V' : World} (h : StepB b w V) (ho : Only g V V') (hg : w.heap.size ≤ g) : StepB b w V' :=
  ⟨ho.os.trans h.os, ho.tape.trans h.tape, ho.output.trans h.output, by rw [ho.size]; exact h.size, fun k hk hne => (ho.block k (by omega)).trans (h.block k hk hne)⟩
theorem BeM.setA (h : BeM p T j D mb day lv w gr a c V) (a' : Int) (hD : D < w.heap.size) (hA : ∀ x, p.ds.A = some x → p.ds.l ≠ [] → x.block < w.heap.size) (hr : w.heap.size + 4 < gr) : BeM p T j D mb day lv w gr a' c (V.setCell ⟨w.heap.size + 3, 0, none⟩ (.int .i64 a')) := by
  have ho := Only.set (w.heap.size + 3) 0 V (.int .i64 a')
  exact ⟨ho.lies h.k (by omega), ho.lies h.d (by omega), ho.lies h.l (by omega), h.a.set 0 _, ho.lies h.c (by omega), ho.lies h.r (by omega), h.e.only ho (by omega) h.a (fun x e hne => by have := hA x e hne; omega), h.w.only ho (by omega)⟩
theorem BeM.setC (h : BeM p T j D mb day lv w gr a c V) (c' : Int) (hD : D < w.heap.size) (hA : ∀ x, p.ds.A = some x → p.ds.l ≠ [] → x.block < w.heap.size) (hr : w.heap.size + 4 < gr) : BeM p T j D mb day lv w gr a c' (V.setCell ⟨w.heap.size + 4, 0, none⟩ (.int .i64 c')) := by
  have ho := Only.set (w.heap.size + 4) 0 V (.int .i64 c')
  exact ⟨ho.lies h.k (by omega), ho.lies h.d (by omega), ho.lies h.l (by omega), ho.lies h.a (by omega), h.c.set 0 _, ho.lies h.r (by omega), h.e.only ho (by omega) h.c (fun x e hne => by have := hA x e hne; omega), h.w.only ho (by omega)⟩
end
theorem worTo_le {p : PoD} {nx : Int → Int} (h : Cst nx) (hb : ∀ lv, nx lv ≤ 1000000) (d : Dy) (left : Int) (k : Nat) : p.worTo nx d left k ≤ 1000000 := by
  by_cases h1 : p.worTo nx d left k = -1
  · rw [h1]; omega
  · rcases ((PoD.worTo_spec (p := p) h d left k).2 h1).2 with h2 | ⟨i, _, e⟩
    · rw [h2]; omega
    · rw [← e]
      unfold PoD.atD
      split
      · exact hb _
      · omega
theorem results_cell_two {P : Program} {fn : Func} {p q : Tmp} {ty : TypeId} (h : fn.results = #[.cell p ty, .cell q ty]) (tmps : Array Value) (w : World) (a b : Addr) (u v : Value) (d : TypeDesc)
    (hp : tmps.getD p undef = .pointer (some a)) (hq : tmps.getD q undef = .pointer (some b)) (ha : w.cell? a = some u) (hb : w.cell? b = some v) (hu : P.underlying ty = some d) (hd : d.isRow = false) : (results fn tmps).run P w = .ok (.tuple #[u, v]) w := by
  have hp' : tmps[p]?.getD undef = .pointer (some a) := by simpa using hp
  have hq' : tmps[q]?.getD undef = .pointer (some b) := by simpa using hq
  simp [results, h, hp', hq', asAddr, run_loadVar_one w ty a u d ha hu hd, run_loadVar_one w ty b v d hb hu hd, Result.andThen]
/-- What the costs are like. -/
def Tok (T : Nat → Int → Int) : Prop := ∀ day lv, -1 ≤ T day lv ∧ T day lv ≤ 1000000
theorem bestTo_le {p : PoD} {nx : Int → Int} (h : Cst nx) (hb : ∀ lv, nx lv ≤ 1000000) {d : Dy} (hd : d.Ok) (hp : p.pump ≤ 20) (hi : p.inl ≤ 20) (hp0 : 0 ≤ p.pump) (hi0 : 0 ≤ p.inl) (lv : Int) (k : Nat) (hk : k ≤ p.amts) : -1 ≤ (p.bestTo nx d lv k).2 ∧ (p.bestTo nx d lv k).2 ≤ 1002000 := by
  rcases PoD.bestTo_spec (p := p) h hd lv k with ⟨h1, -⟩ | ⟨i, hi1, h1, h2, h3, h4, -⟩
  · rw [h1]; exact ⟨by show (-1 : Int) ≤ -1; omega, by show (-1 : Int) ≤ _; omega⟩
  · refine ⟨by omega, ?_⟩
    rw [h3]
    unfold PoD.cost1
    unfold PoD.amts at hk
    have := Dy.price_le hd (a := -p.inl + i) (by omega) (by omega)
    have := worTo_le (p := p) h hb d (lv - (-p.inl + i)) d.rains
    unfold PoD.wor
    omega
set_option maxRecDepth 100000 in
set_option maxHeartbeats 8000000 in
theorem best_any (p : PoM) (T : Nat → Int → Int) (j D mb day : Nat) (d : Dy) (lv : Int) (w : World) (hk : KeM p T j D mb w) (hok : p.d.Ok) (hd : p.ds.l[day]? = some d) (hj : j ≤ day + 1) (hT : Tok T) (h0 : -500 ≤ lv) (h1 : lv ≤ 500) :
    Calls Try.prog 52 #[.agg (keC p D mb).toArray, .int .i64 day, .int .i64 lv] w fun e w' => e = .returned (.tuple #[.int .i64 (p.d.bestD (T (day + 1)) d lv).1, .int .i64 (p.d.bestD (T (day + 1)) d lv).2]) ∧ KeM p T j D mb w' ∧ w.grownBy w' (some mb) := by
  have hdl : day < p.ds.l.length := (List.getElem?_eq_some_iff.1 hd).1
  have hln : p.ds.l.length ≤ 12 := hok.n2
  have hp0 : 0 ≤ p.pump := hok.p0
  have hp1 : p.pump ≤ 20 := hok.p1
  have hi0 : 0 ≤ p.inl := hok.i0
  have hi1 : p.inl ≤ 20 := hok.i1
  refine calls_of_wp_marks 6 Try.func52 rfl ?_
  simp only [Try.ntmps52, List.size_toArray, List.length_cons, List.length_nil, Nat.reduceAdd, Nat.reduceSub, Array.replicate_succ, Array.replicate_zero, List.push_toArray, List.append_toArray, List.nil_append, List.cons_append]
  have hDw : D < w.heap.size := hk.c.in_
  have hmb : mb < w.heap.size := hk.size
  have hAw : ∀ a, p.ds.A = some a → p.ds.l ≠ [] → a.block < w.heap.size := fun a e hne => by
    obtain ⟨b, off, e2, hb, -⟩ := hk.q.s hne
    rw [e] at e2; cases e2; exact hb
  have HAW := Lib.hid hAw
  have HK := Lib.hid hk
  have HT := Lib.hid hT
  have HOK := Lib.hid hok
  have HD := Lib.hid hd
  clear hAw hk hT hok hd
  go_upto_region 1 with (fail)
  rw [show w.heap.size + 1 + 1 + 1 + 1 = w.heap.size + 4 from rfl, show w.heap.size + 1 + 1 + 1 = w.heap.size + 3 from rfl, show w.heap.size + 1 + 1 = w.heap.size + 2 from rfl]
  have l0 : Lies (((((w.alloc (.cells (keC p D mb).toArray 89)).alloc (.cells #[.int .i64 day] 3)).alloc (.cells #[.int .i64 lv] 3)).alloc (.cells #[.int .i64 0] 3)).alloc (.cells #[.int .i64 0] 3)) w.heap.size 89 (keC p D mb).toArray := ((((Lies.fresh _ _ _).alloc _).alloc _).alloc _).alloc _
  have l1 : Lies (((((w.alloc (.cells (keC p D mb).toArray 89)).alloc (.cells #[.int .i64 day] 3)).alloc (.cells #[.int .i64 lv] 3)).alloc (.cells #[.int .i64 0] 3)).alloc (.cells #[.int .i64 0] 3)) (w.heap.size + 1) 3 #[.int .i64 day] := (((Lies.fresh' (by simp)).alloc _).alloc _).alloc _
  have l2 : Lies (((((w.alloc (.cells (keC p D mb).toArray 89)).alloc (.cells #[.int .i64 day] 3)).alloc (.cells #[.int .i64 lv] 3)).alloc (.cells #[.int .i64 0] 3)).alloc (.cells #[.int .i64 0] 3)) (w.heap.size + 2) 3 #[.int .i64 lv] := ((Lies.fresh' (by simp)).alloc _).alloc _
  have l3 : Lies (((((w.alloc (.cells (keC p D mb).toArray 89)).alloc (.cells #[.int .i64 day] 3)).alloc (.cells #[.int .i64 lv] 3)).alloc (.cells #[.int .i64 0] 3)).alloc (.cells #[.int .i64 0] 3)) (w.heap.size + 3) 3 #[.int .i64 0] := (Lies.fresh' (by simp)).alloc _
  have l4 : Lies (((((w.alloc (.cells (keC p D mb).toArray 89)).alloc (.cells #[.int .i64 day] 3)).alloc (.cells #[.int .i64 lv] 3)).alloc (.cells #[.int .i64 0] 3)).alloc (.cells #[.int .i64 0] 3)) (w.heap.size + 4) 3 #[.int .i64 0] := Lies.fresh' (by simp)
  have b0 : Below w.heap.size w (((((w.alloc (.cells (keC p D mb).toArray 89)).alloc (.cells #[.int .i64 day] 3)).alloc (.cells #[.int .i64 lv] 3)).alloc (.cells #[.int .i64 0] 3)).alloc (.cells #[.int .i64 0] 3)) := (by repeat (first | (with_reducible assumption) | (with_reducible exact Below.refl _ _) | (with_reducible refine Below.drew ?_) | (with_reducible refine below_drewN ?_ _) | ((with_reducible refine Below.setCell ?_ ?_ _); rotate_left; focus (first | (simp; done) | (simp; omega) | omega)) | ((with_reducible refine Below.alloc ?_ ?_ _); rotate_left; focus (first | (simp; done) | (simp; omega) | omega))))
  have hz0 : (((((w.alloc (.cells (keC p D mb).toArray 89)).alloc (.cells #[.int .i64 day] 3)).alloc (.cells #[.int .i64 lv] 3)).alloc (.cells #[.int .i64 0] 3)).alloc (.cells #[.int .i64 0] 3)).heap.size = w.heap.size + 5 := by simp
  have k0 : KeM p T j D mb (((((w.alloc (.cells (keC p D mb).toArray 89)).alloc (.cells #[.int .i64 day] 3)).alloc (.cells #[.int .i64 lv] 3)).alloc (.cells #[.int .i64 0] 3)).alloc (.cells #[.int .i64 0] 3)) := HK.out.call b0
  change Code.wp _ _ _ _ (((((w.alloc (.cells (keC p D mb).toArray 89)).alloc (.cells #[.int .i64 day] 3)).alloc (.cells #[.int .i64 lv] 3)).alloc (.cells #[.int .i64 0] 3)).alloc (.cells #[.int .i64 0] 3))
  generalize (((((w.alloc (.cells (keC p D mb).toArray 89)).alloc (.cells #[.int .i64 day] 3)).alloc (.cells #[.int .i64 lv] 3)).alloc (.cells #[.int .i64 0] 3)).alloc (.cells #[.int .i64 0] 3)) = w0 at *
  have c4 : w0.cell? ⟨w.heap.size + 4, 0, none⟩ = some (.int .i64 0) := l4.at_ 0
  have f4 : w0.frozen? ⟨w.heap.size + 4, 0, none⟩ = false := l4.free 0
  have L0 := Lib.hid l0
  have L1 := Lib.hid l1
  have L2 := Lib.hid l2
  have L3 := Lib.hid l3
  have L4 := Lib.hid l4
  have B0 := Lib.hid b0
  have K0 := Lib.hid k0
  have HZ0 := Lib.hid hz0
  clear l0 l1 l2 l3 l4 b0 k0 hz0 HK
  go_upto_region 2 with (fail)
  have ho := Only.set (w.heap.size + 4) 0 w0 (.int .i64 (-1))
  have M0 := Lib.hid (ho.lies L0.out (by omega))
  have M1 := Lib.hid (ho.lies L1.out (by omega))
  have M2 := Lib.hid (ho.lies L2.out (by omega))
  have M3 := Lib.hid (ho.lies L3.out (by omega))
  have M4 := Lib.hid (L4.out.set 0 (.int .i64 (-1)))
  have N0 := Lib.hid (ho.below B0.out (by omega))
  have P0 := Lib.hid (K0.out.only ho (by omega) L4.out (fun a e hne => by have := HAW.out a e hne; omega))
  have HZ1 := Lib.hid (ho.size.trans HZ0.out)
  clear L0 L1 L2 L3 L4 B0 K0 HZ0 ho c4 f4
  change Code.wp _ _ _ _ (w0.setCell ⟨w.heap.size + 4, 0, none⟩ (.int .i64 (-1)))
  generalize w0.setCell ⟨w.heap.size + 4, 0, none⟩ (.int .i64 (-1)) = w1 at *
  have hrp : w1.rangeAt w.heap.size 0 p.cells := Lies.range (cs := keC p D mb) M0.out (fun i v hv => by
    rw [Nat.zero_add]
    unfold keC
    rw [List.getElem?_append_left (List.getElem?_eq_some_iff.1 hv).1]; exact hv)
  have HRP := Lib.hid hrp
  clear hrp
  go_wp2_with (first
    | (refine wpList_load_mid (op := ⟨some 12, _, _, _, _, _⟩) ?_ 34 (.tmp 11) ?_ w.heap.size 0 ?_ p.cells _ HRP.out Try.underlying34 rfl size_po ?_; rfl; rfl; rfl)
    | (go_at_call 76; refine (amounts_any p _ (by omega) (by omega)).mono ?_; rintro e w2 ⟨rfl, hb2⟩)
    | (go_at_call 72; refine (all_any (-p.inl) p.pump _).mono ?_; rintro e w' ⟨rfl, rfl⟩))
  have hW : BeM p T j D mb day lv w w2.heap.size 0 (-1) (w2.alloc (.cells #[.int .i64 (-p.inl), .int .i64 p.pump] 31)) :=
    ⟨(M0.out.call hb2).alloc _, (M1.out.call hb2).alloc _, (M2.out.call hb2).alloc _, (M3.out.call hb2).alloc _, (M4.out.call hb2).alloc _, Lies.fresh _ _ _, (P0.out.call hb2).call ((Below.refl _ _).alloc (Nat.le_refl _) _), StepB.of_below ((N0.out.trans (hb2.mono N0.out.size)).alloc (by have := N0.out.size; have := hb2.size; omega) _)⟩
  have hgr : w.heap.size + 4 < w2.heap.size := by have := HZ1.out; have := hb2.size; omega
  have hz5 : w2.heap.size < (w2.alloc (.cells #[.int .i64 (-p.inl), .int .i64 p.pump] 31)).heap.size := by simp
  clear M0 M1 M2 M3 M4 N0 P0 HZ1 HRP hb2
  generalize w2.heap.size = gr at *
  generalize w2.alloc (.cells #[.int .i64 (-p.inl), .int .i64 p.pump] 31) = w5 at *
  have HW := Lib.hid hW
  clear hW
  have hdk := HOK.out.d d (List.mem_of_getElem? HD.out)
  have HDK := Lib.hid hdk
  clear hdk
  refine range_givesK (n := 6) (gf := 86) rfl enters_all1 (all1_gives 5 (by omega) gr (-p.inl) p.pump w5 (by omega) (by omega) (fun V => Lies V gr 31 #[.int .i64 (-p.inl), .int .i64 p.pump]) (fun V h => h)) (Below.refl _ _) (fun _ => rfl)
    (fun k V => BeM p T j D mb day lv w gr (p.d.bestTo (T (day + 1)) d lv k).1 (p.d.bestTo (T (day + 1)) d lv k).2 V)
    (fun _ _ _ => False) ?hI ?hIx HW.out ?hSt
    (fun x a' _ => a' = { tmps := #[.agg (keC p D mb).toArray, .int .i64 day, .int .i64 lv, .pointer (some ⟨w.heap.size, 0, none⟩), .pointer (some ⟨w.heap.size + 1, 0, none⟩), .pointer (some ⟨w.heap.size + 2, 0, none⟩), .pointer (some ⟨w.heap.size + 3, 0, none⟩), .pointer (some ⟨w.heap.size + 4, 0, none⟩), .int .i64 x, undef, undef, .pointer (some ⟨w.heap.size, 0, none⟩), .agg p.cells.toArray, .agg #[.int .i64 (-p.inl), .int .i64 p.pump], .func (.func 86) #[] #[.pointer (some ⟨gr, 0, none⟩)], .int .i64 x, undef, undef, undef, undef, undef, undef, undef, undef, undef, undef, undef, undef, undef, undef, undef, undef, undef, undef, undef, undef, undef, undef, undef, undef, undef, undef, undef, undef, undef, undef], defers := [] }) ?hAx ?assign ?body ?done ?stop
  case hI =>
    intro k V V' h ht
    exact h.recs ht (by omega) (by omega)
  case hIx =>
    intro c k V V' h ht
    exact h
  case hSt =>
    intro k V h
    exact h.r
  case hAx =>
    rintro x a' V V' rfl ht
    rfl
  case stop =>
    intro D1 c k V hD1 hk' hi hd
    exact hi.elim
  case assign =>
    intro l2 k x V K hx hi hK
    have HIN := Lib.hid hi
    clear hx hi
    simp only [encY]
    gi_wp2_with (fail)
    exact hK _ _ (Keep.refl _ _) HIN.out rfl
  case body =>
    rintro l2 k x a' V hl2 hx hi rfl
    obtain ⟨hkn, rfl⟩ := rngL_some hx
    have hkz : (k : Int) ≤ 41 := by omega
    have hnz0 : -20 ≤ -p.inl + (k : Int) := by omega
    have hnz1 : -p.inl + (k : Int) ≤ 20 := by omega
    have hcst : Cst (T (day + 1)) := fun l => (HT.out (day + 1) l).1
    have hub : ∀ l, T (day + 1) l ≤ 1000000 := fun l => (HT.out (day + 1) l).2
    obtain ⟨hb0, hb1⟩ := bestTo_le (p := p.d) hcst hub HDK.out hp1 hi1 hp0 hi0 lv k (by show k ≤ (p.pump + 1 + p.inl).toNat; omega)
    have hst : p.d.bestTo (T (day + 1)) d lv (k + 1) = (if p.d.wor (T (day + 1)) d (lv - (-p.inl + k)) = -1 then p.d.bestTo (T (day + 1)) d lv k else if (p.d.bestTo (T (day + 1)) d lv k).2 = -1 ∨ p.d.wor (T (day + 1)) d (lv - (-p.inl + k)) + d.price (-p.inl + k) < (p.d.bestTo (T (day + 1)) d lv k).2 then (-p.inl + k, p.d.wor (T (day + 1)) d (lv - (-p.inl + k)) + d.price (-p.inl + k)) else p.d.bestTo (T (day + 1)) d lv k) := rfl
    have hw0 := PoD.wor_ge (p := p.d) hcst (d := d) (lv - (-p.inl + k))
    have hw1 : p.d.wor (T (day + 1)) d (lv - (-p.inl + k)) ≤ 1000000 := worTo_le hcst hub d _ _
    have hwo := worst_any p T j D mb day d (lv - (-p.inl + k)) V hi.e HOK.out HD.out hj HT.out (by omega) (by omega)
    obtain ⟨wo, hwoe⟩ : ∃ wo, wo = p.d.wor (T (day + 1)) d (lv - (-p.inl + k)) := ⟨_, rfl⟩
    obtain ⟨⟨a, c⟩, hac⟩ : ∃ b, b = p.d.bestTo (T (day + 1)) d lv k := ⟨_, rfl⟩
    rw [← hwoe] at hst hw0 hw1 hwo
    rw [← hac] at hst hb0 hb1 hi
    dsimp only at hst hb0 hb1 hi
    have hpr0 := d.price_nonneg HDK.out (-p.inl + k)
    have hpr1 := Dy.price_le HDK.out hnz0 hnz1
    have HPR := Lib.hid (fun W => price_any d (-p.inl + (k : Int)) W HDK.out (by omega) (by omega))
    obtain ⟨pr, hpr⟩ : ∃ pr, pr = d.price (-p.inl + k) := ⟨_, rfl⟩
    rw [← hpr] at hst hpr0 hpr1 HPR
    have hwr1 : IntKind.i64.wrap (lv - (-p.inl + (k : Int))) = lv - (-p.inl + (k : Int)) := IntWalk.i64_in _ (by omega)
    have hwr2 : IntKind.i64.wrap (wo + pr) = wo + pr := IntWalk.i64_in _ (by omega)
    have HIN := Lib.hid hi
    have HST := Lib.hid hst
    have HWO := Lib.hid hwo
    have c17 : V.cell? ⟨w.heap.size + 1, 0, none⟩ = some (.int .i64 day) := hi.d.at_ 0
    have c18 : V.cell? ⟨w.heap.size + 2, 0, none⟩ = some (.int .i64 lv) := hi.l.at_ 0
    have q0 : V.cell? ⟨w.heap.size, 0, none⟩ = some (.int .i64 p.low) := hi.k.at_ 0
    have q1 : V.cell? ⟨w.heap.size, 1, none⟩ = some (.int .i64 p.high) := hi.k.at_ 1
    have q2 : V.cell? ⟨w.heap.size, 2, none⟩ = some (.int .i64 p.slo) := hi.k.at_ 2
    have q3 : V.cell? ⟨w.heap.size, 3, none⟩ = some (.int .i64 p.shi) := hi.k.at_ 3
    have q4 : V.cell? ⟨w.heap.size, 4, none⟩ = some (.int .i64 p.pump) := hi.k.at_ 4
    have q5 : V.cell? ⟨w.heap.size, 5, none⟩ = some (.int .i64 p.inl) := hi.k.at_ 5
    have q6 : V.cell? ⟨w.heap.size, 6, none⟩ = some (.slice p.ds.A p.ds.l.length p.ds.c) := hi.k.at_ 6
    have q7 : V.cell? ⟨w.heap.size, 7, none⟩ = some (.slice (some ⟨D, 0, none⟩) (p.ds.l.length + 1) (p.ds.l.length + 1)) := hi.k.at_ 7
    have q8 : V.cell? ⟨w.heap.size, 8, none⟩ = some (.map (some mb)) := hi.k.at_ 8
    clear hx hi hst hwo hac hwoe hpr hcst hub
    gi_wp2_with (fail)
    refine ⟨trivial, (callsIn_wide.2 HWO.out).mono ?_⟩
    rintro e u5 ⟨rfl, hke, hg5⟩
    have M5 := Lib.hid (HIN.out.step hke hg5 hmb (by omega))
    have K5 := Lib.hid (Keep.of_grown (B := w5.heap.size) hg5 (fun r e => by cases e; omega))
    clear hke hg5 HIN c17 c18 q0 q1 q2 q3 q4 q5 q6 q7 q8
    by_cases hno : wo = -1
    · have hne : ((wo : Int) == -1) = true := by simp [hno]
      have HS2 := Lib.hid (show p.d.bestTo (T (day + 1)) d lv (k + 1) = (a, c) by rw [HST.out, if_pos hno])
      gi_wp2_with (fail)
      refine ⟨K5.out, ?_⟩
      show BeM p T j D mb day lv w gr (p.d.bestTo (T (day + 1)) d lv (k + 1)).1 (p.d.bestTo (T (day + 1)) d lv (k + 1)).2 _
      rw [HS2.out]
      exact M5.out
    · have hne : ((wo : Int) == -1) = false := by simpa using hno
      obtain ⟨b, off, hA, hb, hrg⟩ := M5.out.e.q.s.cellD HD.out
      have hdz : (day : Int) < (p.ds.l.length : Int) := by omega
      have hd0 : (0 : Int) ≤ (day : Int) := by omega
      have hlnz : (p.ds.l.length : Int) ≤ 12 := by omega
      have c28 : u5.cell? ⟨w.heap.size, 6, none⟩ = some (.slice (some ⟨b, off, none⟩) p.ds.l.length p.ds.c) := by rw [← hA]; exact M5.out.k.at_ 6
      have c29 : u5.cell? ⟨w.heap.size + 1, 0, none⟩ = some (.int .i64 day) := M5.out.d.at_ 0
      have q0 : u5.cell? ⟨b, off + day * 5, none⟩ = some (.int .i64 d.lo) := hrg 0 _ rfl
      have q1 : u5.cell? ⟨b, off + day * 5 + 1, none⟩ = some (.int .i64 d.hi) := hrg 1 _ rfl
      have q2 : u5.cell? ⟨b, off + day * 5 + 2, none⟩ = some (.int .i64 d.sp) := hrg 2 _ rfl
      have q3 : u5.cell? ⟨b, off + day * 5 + 3, none⟩ = some (.int .i64 d.ou) := hrg 3 _ rfl
      have q4 : u5.cell? ⟨b, off + day * 5 + 4, none⟩ = some (.int .i64 d.inn) := hrg 4 _ rfl
      clear hrg hA hb
      gi_wp2_with (fail)
      refine ⟨trivial, (callsIn_wide.2 (HPR.out u5)).mono ?_⟩
      rintro e u6 ⟨rfl, hb6⟩
      have M6 := Lib.hid (M5.out.call hb6)
      have K6 := Lib.hid (K5.out.trans (Keep.of_below hb6))
      have c35 : u6.cell? ⟨w.heap.size + 4, 0, none⟩ = some (.int .i64 c) := M6.out.c.at_ 0
      clear q0 q1 q2 q3 q4 c28 c29 hb6 M5 K5
      have take : c = -1 ∨ wo + pr < c → ∀ A : Act, bodyPostK w5.heap.size (fun k V => BeM p T j D mb day lv w gr (p.d.bestTo (T (day + 1)) d lv k).1 (p.d.bestTo (T (day + 1)) d lv k).2 V) (fun _ _ _ => False) (k + 1) V .normal A ((u6.setCell ⟨w.heap.size + 3, 0, none⟩ (.int .i64 (-p.inl + k))).setCell ⟨w.heap.size + 4, 0, none⟩ (.int .i64 (wo + pr))) := fun h _ => by
        refine ⟨K6.out.trans ((Keep.of_only (Only.set _ _ _ _) (by omega)).trans (Keep.of_only (Only.set _ _ _ _) (by omega))), ?_⟩
        show BeM p T j D mb day lv w gr (p.d.bestTo (T (day + 1)) d lv (k + 1)).1 (p.d.bestTo (T (day + 1)) d lv (k + 1)).2 _
        rw [HST.out, if_neg hno, if_pos h]
        exact (M6.out.setA _ hDw HAW.out (by omega)).setC _ hDw HAW.out (by omega)
      have TK := Lib.hid take
      clear take
      have f3 : u6.frozen? ⟨w.heap.size + 3, 0, none⟩ = false := M6.out.a.free 0
      have c3 : u6.cell? ⟨w.heap.size + 3, 0, none⟩ = some (.int .i64 a) := M6.out.a.at_ 0
      have f4 : u6.frozen? ⟨w.heap.size + 4, 0, none⟩ = false := M6.out.c.free 0
      by_cases hc1 : c = -1
      · have hce : ((c : Int) == -1) = true := by simp [hc1]
        gi_wp2_with (fail)
        exact TK.out (.inl hc1) _
      · have hce : ((c : Int) == -1) = false := by simpa using hc1
        by_cases hlt : wo + pr < c
        · gi_wp2_with (fail)
          exact TK.out (.inr hlt) _
        · gi_wp2_with (fail)
          refine ⟨K6.out, ?_⟩
          show BeM p T j D mb day lv w gr (p.d.bestTo (T (day + 1)) d lv (k + 1)).1 (p.d.bestTo (T (day + 1)) d lv (k + 1)).2 _
          rw [HST.out, if_neg hno, if_neg (by omega)]
          exact M6.out
  case done =>
    intro D1 V hD1 hi hd
    have hbn : p.d.bestTo (T (day + 1)) d lv (rngL (-p.inl) p.pump).length = p.d.bestD (T (day + 1)) d lv := by
      unfold PoD.bestD PoD.amts
      rw [rngL_length]
      congr 1
      show (p.pump + 1 - -p.inl).toNat = (p.pump + 1 + p.inl).toNat
      congr 1; omega
    rw [hbn] at hi
    obtain ⟨⟨a, c⟩, hac⟩ : ∃ b, b = p.d.bestD (T (day + 1)) d lv := ⟨_, rfl⟩
    rw [← hac] at hi
    dsimp only at hi
    have HAC := Lib.hid hac
    have HIN := Lib.hid hi
    have HDD := Lib.hid hd
    have HD1 := Lib.hid hD1
    have r44 : ∀ cc : Cls (fun W => BeM p T j D mb day lv w gr a c W ∧ W.heap[D1]? = some (.deferred (some []))), cc.val.cell? ⟨w.heap.size + 3, 0, none⟩ = some (.int .i64 a) := fun cc => cc.h.1.a.at_ 0
    have r45 : ∀ cc : Cls (fun W => BeM p T j D mb day lv w gr a c W ∧ W.heap[D1]? = some (.deferred (some []))), cc.val.cell? ⟨w.heap.size + 4, 0, none⟩ = some (.int .i64 c) := fun cc => cc.h.1.c.at_ 0
    have hput : ∀ (W : World) (x : Nat) (v : Value), x ≠ D1 → W.heap[D1]? = some (.deferred (some [])) → (W.setCell ⟨x, 0, none⟩ v).heap[D1]? = some (.deferred (some [])) := fun W x v h1 h2 => (heap_setCell_other _ _ _ _ (fun e => h1 e.symm)).trans h2
    have hdrew : BeM p T j D mb day lv w gr a c V.drew ∧ V.drew.heap[D1]? = some (.deferred (some [])) := ⟨HIN.out.call (Below.refl _ _).drew, HDD.out⟩
    haveI hne : Nonempty (Cls (fun W => BeM p T j D mb day lv w gr a c W ∧ W.heap[D1]? = some (.deferred (some [])))) := ⟨⟨V.drew, hdrew⟩⟩
    have HDR := Lib.hid hdrew
    have HPUT := Lib.hid hput
    clear hi hd hbn hac HIN HDD hdrew hput
    go_upto_region 9 with (fail)
    refine wp_region_whole [([0, 1], [2, 3])] (fun W => ∃ cc : Cls (fun W => BeM p T j D mb day lv w gr a c W ∧ W.heap[D1]? = some (.deferred (some []))), W = cc.val) (Cls.here HDR.out) (by kernel_rfl) (by kernel_rfl) ?_
    simp only [wpPhases, List.filterMap_cons, List.filterMap_nil, List.getElem?_toArray, List.getElem?_cons_zero, List.getElem?_cons_succ]
    repeat (first | go_big_quiet_step (fail) | quiet_step (fail))
    refine wpQuiet_nil ?_
    simp only [wpForce]
    clear r44 r45 hne
    generalize V.drew = V0 at *
    have c3 : V0.cell? ⟨w.heap.size + 3, 0, none⟩ = some (.int .i64 a) := HDR.out.1.a.at_ 0
    have f3 : V0.frozen? ⟨w.heap.size + 3, 0, none⟩ = false := HDR.out.1.a.free 0
    have M7 := Lib.hid (show BeM p T j D mb day lv w gr a c (V0.setCell ⟨w.heap.size + 3, 0, none⟩ (.int .i64 a)) ∧ (V0.setCell ⟨w.heap.size + 3, 0, none⟩ (.int .i64 a)).heap[D1]? = some (.deferred (some [])) from ⟨HDR.out.1.setA a hDw HAW.out (by omega), HPUT.out _ _ _ (by have := HD1.out; omega) HDR.out.2⟩)
    go_wp2
    refine Ends.intro ⟨Cls.here M7.out, ?_⟩
    clear c3 f3 HDR
    generalize V0.setCell ⟨w.heap.size + 3, 0, none⟩ (.int .i64 a) = V7 at *
    have c4 : V7.cell? ⟨w.heap.size + 4, 0, none⟩ = some (.int .i64 c) := M7.out.1.c.at_ 0
    have f4 : V7.frozen? ⟨w.heap.size + 4, 0, none⟩ = false := M7.out.1.c.free 0
    have M8 := Lib.hid (show BeM p T j D mb day lv w gr a c (V7.setCell ⟨w.heap.size + 4, 0, none⟩ (.int .i64 c)) ∧ (V7.setCell ⟨w.heap.size + 4, 0, none⟩ (.int .i64 c)).heap[D1]? = some (.deferred (some [])) from ⟨M7.out.1.setC c hDw HAW.out (by omega), HPUT.out _ _ _ (by have := HD1.out; omega) M7.out.2⟩)
    go_wp2
    refine Ends.intro ⟨Cls.here M8.out, ?_⟩
    clear c4 f4 M7
    generalize V7.setCell ⟨w.heap.size + 4, 0, none⟩ (.int .i64 c) = V8 at *
    have hrec : Recs w5.heap.size V8 (V8.putObj D1 (.deferred none)) := Recs.put _ HD1.out M8.out.2 rfl
    have M9 := M8.out.1.recs hrec (by omega) (by omega)
    have e3 := M9.a.at_ 0
    have e4 := M9.c.at_ 0
    go_wp2
    refine leave_mark M8.out.2 ⟨.tuple #[.int .i64 a, .int .i64 c], ?_, by rw [← HAC.out], M9.e, M9.w⟩
    exact results_cell_two (p := 6) (q := 7) (ty := 3) rfl _ _ ⟨w.heap.size + 3, 0, none⟩ ⟨w.heap.size + 4, 0, none⟩ _ _ _ rfl rfl e3 e4 Try.underlying3 rfl
end Go.Proofs.Yteognijlgalahaa
