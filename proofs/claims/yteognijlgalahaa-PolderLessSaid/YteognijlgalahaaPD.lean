/- A kept polder in memory; worst. -/
import Derived.Test.YteognijlgalahaaPC
namespace Go.Proofs.Yteognijlgalahaa
open Go.RowKit Go.Lib
attribute [local go_sem] Oper.semAt_some

/-- The kept polder's cells. -/
def keC (p : PoM) (D mb : Nat) : List Value := p.cells ++ [.slice (some ⟨D, 0, none⟩) (p.ds.l.length + 1) (p.ds.l.length + 1), .map (some mb)]
theorem keC_eq (p : PoM) (D mb : Nat) : keC p D mb = [.int .i64 p.low, .int .i64 p.high, .int .i64 p.slo, .int .i64 p.shi, .int .i64 p.pump, .int .i64 p.inl, .slice p.ds.A p.ds.l.length p.ds.c, .slice (some ⟨D, 0, none⟩) (p.ds.l.length + 1) (p.ds.l.length + 1), .map (some mb)] := rfl
theorem size_ke : (Try.prog.info? 89).map (·.size) = some 9 := by kernel_rfl
theorem size_mv : (Try.prog.info? 122).map (·.size) = some 2 := by kernel_rfl
/-- What the map tells: the worst of a day and what is left. -/
def PoM.Rgt (p : PoM) (T : Nat → Int → Int) (d l v : Int) : Prop := ∃ day : Nat, d = day ∧ ∃ dy, p.ds.l[day]? = some dy ∧ v = p.d.wor (T (day + 1)) dy l
/-- The costs from a day on, as they lie. -/
structure CoM (p : PoM) (T : Nat → Int → Int) (j D : Nat) (W : World) : Prop where
  l : ∃ cs, Lies W D 116 cs ∧ cs.size = 61 * (p.ds.l.length + 1) ∧ (∀ i, i < cs.size → ∃ x, cs[i]? = some (.int .i64 x)) ∧ ∀ day : Nat, j ≤ day → day ≤ p.ds.l.length → ∀ lv : Nat, p.low ≤ lv → (lv : Int) ≤ p.high → cs[day * 61 + lv]? = some (.int .i64 (T day lv))
structure KeM (p : PoM) (T : Nat → Int → Int) (j D mb : Nat) (W : World) : Prop where
  q : p.At W W.heap.size
  c : CoM p T j D W
  m : MemoM W mb (p.Rgt T)
section
variable {p : PoM} {T : Nat → Int → Int} {j D mb : Nat} {W W' : World}
theorem CoM.to_ (h : CoM p T j D W) (e : W'.heap[D]? = W.heap[D]?) : CoM p T j D W' := by
  obtain ⟨cs, h1, h2⟩ := h.l
  exact ⟨cs, h1.to_ e, h2⟩
theorem CoM.in_ (h : CoM p T j D W) : D < W.heap.size := by obtain ⟨cs, h1, _⟩ := h.l; exact h1.in_
theorem CoM.at_ (h : CoM p T j D W) {day lv : Nat} (h1 : j ≤ day) (h2 : day ≤ p.ds.l.length) (h3 : p.low ≤ lv) (h4 : (lv : Int) ≤ p.high) : W.cell? ⟨D, day * 61 + lv, none⟩ = some (.int .i64 (T day lv)) := by
  obtain ⟨cs, h5, -, -, h6⟩ := h.l
  rw [h5.at_]; exact h6 day h1 h2 lv h3 h4
theorem KeM.call (h : KeM p T j D mb W) (hb : Below W.heap.size W W') : KeM p T j D mb W' := ⟨h.q.below hb hb.size, h.c.to_ (hb.block _ h.c.in_), h.m.call hb⟩
theorem KeM.ne (h : KeM p T j D mb W) : mb ≠ D := by
  obtain ⟨cs, h1, _⟩ := h.c.l
  exact h.m.ne h1
theorem KeM.size (h : KeM p T j D mb W) : mb < W.heap.size := h.m.in_
/-- Where some block of cells has turned that is not the polder's. -/
theorem KeM.only {g : Nat} {t : TypeId} {cs : Array Value} (h : KeM p T j D mb W) (ho : Only g W W') (hg : D ≠ g) (hl : Lies W g t cs) (hs : ∀ a, p.ds.A = some a → p.ds.l ≠ [] → a.block ≠ g) : KeM p T j D mb W' :=
  ⟨⟨fun hne => by
      obtain ⟨b, off, e, hb, hc⟩ := h.q.s hne
      have hbg : b ≠ g := hs _ e hne
      refine ⟨b, off, e, by rw [ho.size]; exact hb, fun i x hx k u hu => ?_⟩
      have := hc i x hx k u hu
      simp only [World.cell?, ho.block b hbg] at this ⊢
      exact this, h.q.l⟩, h.c.to_ (ho.block _ hg), h.m.to_ (ho.block _ (h.m.ne hl))⟩
/-- Where the map alone has turned, rightly. -/
theorem KeM.memo (h : KeM p T j D mb W) (hm : MemoM W' mb (p.Rgt T)) (hg : W.grownBy W' (some mb)) : KeM p T j D mb W' :=
  ⟨⟨fun hne => by
      obtain ⟨b, off, e, hb, hc⟩ := h.q.s hne
      refine ⟨b, off, e, Nat.lt_of_lt_of_le hb hg.size, fun i x hx k u hu => ?_⟩
      have h1 := hc i x hx k u hu
      have hbm : b ≠ mb := by
        rintro rfl
        obtain ⟨es, clock, he, _⟩ := h.m
        simp only [World.cell?, he] at h1
        cases h1
      simp only [World.cell?, hg.block b hb (fun e => hbm (by cases e; rfl))] at h1 ⊢
      exact h1, h.q.l⟩, h.c.to_ (hg.block _ h.c.in_ fun e => h.ne (by cases e; rfl)), hm⟩
theorem KeM.recs {B : Nat} (h : KeM p T j D mb W) (hr : Recs B W W') (hm : mb < B) : KeM p T j D mb W' := by
  obtain ⟨row, hg, hrow⟩ := hr
  refine ⟨⟨fun hne => ?_, h.q.l⟩, ?_, ?_⟩
  · obtain ⟨b, off, e, hb, hc⟩ := h.q.s hne
    refine ⟨b, off, e, Nat.lt_of_lt_of_le hb hg.size, fun i x hx k u hu => ?_⟩
    have h1 := hc i x hx k u hu
    have hbr : some b ≠ row := fun e => by
      obtain ⟨-, o, ho, hoc⟩ := hrow b e.symm
      simp only [World.cell?, ho] at h1
      cases o <;> simp_all [Obj.isCells]
    simp only [World.cell?, hg.block b hb hbr] at h1 ⊢
    exact h1
  · obtain ⟨cs, h1, h2⟩ := h.c.l
    exact ⟨cs, Recs.lies ⟨row, hg, hrow⟩ h1, h2⟩
  · exact h.m.to_ (hg.block _ h.m.in_ fun e => by have := (hrow _ e.symm).1; omega)
end
theorem leave_plain {P : Program} {F : Fence} {n : Nat} {fn : Func} {tmps : Array Value} {R : Ending → World → Prop} {w : World} (h : ∃ v, (results fn tmps).run P w = .ok v w ∧ R (.returned v) w) : LeavesInM F n P fn tmps R [] .returning w := h
/-- The variables of worst. -/
structure WoM (p : PoM) (T : Nat → Int → Int) (j D mb : Nat) (day left : Int) (w : World) (gv gf g1 g2 : Nat) (v : Int) (V : World) : Prop where
  k : Lies V w.heap.size 89 (keC p D mb).toArray
  m : Lies V (w.heap.size + 1) 122 (encM day left).toArray
  v : Lies V gv 3 #[.int .i64 v]
  f : Lies V gf 106 #[.func (.func 66) #[.agg p.cells.toArray] #[]]
  a : Lies V g1 34 p.cells.toArray
  b : Lies V g2 122 (encM day left).toArray
  e : KeM p T j D mb V
  w : Below w.heap.size w V
theorem WoM.recs {p : PoM} {T : Nat → Int → Int} {j D mb : Nat} {day left : Int} {w : World} {gv gf g1 g2 : Nat} {v : Int} {V V' : World} {B : Nat} (h : WoM p T j D mb day left w gv gf g1 g2 v V) (hr : Recs B V V') (hm : mb < B) (hB : w.heap.size ≤ B) : WoM p T j D mb day left w gv gf g1 g2 v V' :=
  ⟨hr.lies h.k, hr.lies h.m, hr.lies h.v, hr.lies h.f, hr.lies h.a, hr.lies h.b, h.e.recs hr hm, hr.below h.w hB h.w.size⟩
theorem WoM.call {p : PoM} {T : Nat → Int → Int} {j D mb : Nat} {day left : Int} {w : World} {gv gf g1 g2 : Nat} {v : Int} {V V' : World} (h : WoM p T j D mb day left w gv gf g1 g2 v V) (hb : Below V.heap.size V V') : WoM p T j D mb day left w gv gf g1 g2 v V' :=
  ⟨h.k.call hb, h.m.call hb, h.v.call hb, h.f.call hb, h.a.call hb, h.b.call hb, h.e.call hb, h.w.trans (hb.mono h.w.size)⟩
/-- The variable of worst is set. -/
theorem WoM.set {p : PoM} {T : Nat → Int → Int} {j D mb : Nat} {day left : Int} {w : World} {v : Int} {V : World} (h : WoM p T j D mb day left w (w.heap.size + 2) (w.heap.size + 3) (w.heap.size + 4) (w.heap.size + 4 + 1) v V) (v' : Int) (hD : D < w.heap.size) (hA : ∀ a, p.ds.A = some a → p.ds.l ≠ [] → a.block < w.heap.size) :
    WoM p T j D mb day left w (w.heap.size + 2) (w.heap.size + 3) (w.heap.size + 4) (w.heap.size + 4 + 1) v' (V.setCell ⟨w.heap.size + 2, 0, none⟩ (.int .i64 v')) := by
  have ho := Only.set (w.heap.size + 2) 0 V (.int .i64 v')
  exact ⟨ho.lies h.k (by omega), ho.lies h.m (by omega), h.v.set 0 _, ho.lies h.f (by omega), ho.lies h.a (by omega), ho.lies h.b (by omega), h.e.only ho (by omega) h.v (fun a e hne => by have := hA a e hne; omega), ho.below h.w (by omega)⟩
theorem enters_isKept : ∀ args w, (callFunc 66 args).run Try.prog w = .ok (.enter 66 args) w := enters_of Try.func66 (by kernel_rfl) rfl
set_option maxRecDepth 100000 in
set_option maxHeartbeats 8000000 in
theorem worst_any (p : PoM) (T : Nat → Int → Int) (j D mb day : Nat) (d : Dy) (left : Int) (w : World) (hk : KeM p T j D mb w) (hok : p.d.Ok) (hd : p.ds.l[day]? = some d) (hj : j ≤ day + 1) (hT : ∀ day lv, -1 ≤ T day lv ∧ T day lv ≤ 1000000) (h0 : -1000 ≤ left) (h1 : left ≤ 1000) :
    Calls Try.prog 77 #[.agg (keC p D mb).toArray, .agg (encM day left).toArray] w fun e w' => e = .returned (.int .i64 (p.d.wor (T (day + 1)) d left)) ∧ KeM p T j D mb w' ∧ w.grownBy w' (some mb) := by
  have hdl : day < p.ds.l.length := (List.getElem?_eq_some_iff.1 hd).1
  have hln : p.ds.l.length ≤ 12 := hok.n2
  have hR : ∀ v, p.Rgt T day left v → v = p.d.wor (T (day + 1)) d left := fun v ⟨day', e1, dy, e2, e3⟩ => by
    have : day = day' := by omega
    subst this
    rw [hd] at e2
    cases e2
    exact e3
  have hRy : p.Rgt T day left (p.d.wor (T (day + 1)) d left) := ⟨day, rfl, d, hd, rfl⟩
  have hsml : Sml day left := ⟨by omega, by omega⟩
  refine calls_of_wp_marks 6 Try.func77 rfl ?_
  simp only [Try.ntmps77, List.size_toArray, List.length_cons, List.length_nil, Nat.reduceAdd, Nat.reduceSub, Array.replicate_succ, Array.replicate_zero, List.push_toArray, List.append_toArray, List.nil_append, List.cons_append]
  have l0 : Lies ((w.alloc (.cells (keC p D mb).toArray 89)).alloc (.cells (encM day left).toArray 122)) w.heap.size 89 (keC p D mb).toArray := (Lies.fresh _ _ _).alloc _
  have l1 : Lies ((w.alloc (.cells (keC p D mb).toArray 89)).alloc (.cells (encM day left).toArray 122)) (w.heap.size + 1) 122 (encM day left).toArray := Lies.fresh' (by simp)
  have b0 : Below w.heap.size w ((w.alloc (.cells (keC p D mb).toArray 89)).alloc (.cells (encM day left).toArray 122)) := (by repeat (first | (with_reducible assumption) | (with_reducible exact Below.refl _ _) | (with_reducible refine Below.drew ?_) | (with_reducible refine below_drewN ?_ _) | ((with_reducible refine Below.setCell ?_ ?_ _); rotate_left; focus (first | (simp; done) | (simp; omega) | omega)) | ((with_reducible refine Below.alloc ?_ ?_ _); rotate_left; focus (first | (simp; done) | (simp; omega) | omega))))
  have hz0 : ((w.alloc (.cells (keC p D mb).toArray 89)).alloc (.cells (encM day left).toArray 122)).heap.size = w.heap.size + 2 := by simp
  have hmb := hk.size
  have hDw : D < w.heap.size := hk.c.in_
  have hAw : ∀ a, p.ds.A = some a → p.ds.l ≠ [] → a.block < w.heap.size := fun a e hne => by
    obtain ⟨b, off, e2, hb, -⟩ := hk.q.s hne
    rw [e] at e2; cases e2; exact hb
  have HAW := Lib.hid hAw
  clear hAw
  have k0 : KeM p T j D mb ((w.alloc (.cells (keC p D mb).toArray 89)).alloc (.cells (encM day left).toArray 122)) := hk.call b0
  have L0 := Lib.hid l0
  have L1 := Lib.hid l1
  have B0 := Lib.hid b0
  have K0 := Lib.hid k0
  have HR := Lib.hid hR
  have HRY := Lib.hid hRy
  have HT := Lib.hid hT
  have HOK := Lib.hid hok
  have HD := Lib.hid hd
  have HZ0 := Lib.hid hz0
  clear l0 l1 b0 k0 hk hR hRy hT hok hd hz0
  go_upto_region 1 with (fail)
  change Code.wp _ _ _ _ ((w.alloc (.cells (keC p D mb).toArray 89)).alloc (.cells (encM day left).toArray 122))
  generalize (w.alloc (.cells (keC p D mb).toArray 89)).alloc (.cells (encM day left).toArray 122) = w0 at *
  have c8 : w0.cell? ⟨w.heap.size, 8, none⟩ = some (.map (some mb)) := L0.out.at_ 8
  refine wp_scope_straight ?_
  go_upto_region 2 with (first
    | (refine wpList_load_row (o := ⟨some 14, _, _, _, _, _⟩) ?_ 122 (.tmp 3) ?_ (w.heap.size + 1) ?_ 122 (encM day left).toArray (0, 0) _ L1.out Try.underlying122 rfl size_mv ?_; rfl; rfl; rfl)
    | (refine wpList_look_memo (o := ⟨some 15, _, _, _, _, _⟩) ?_ (.tmp 13) (.tmp 14) ?_ mb (p.Rgt T) ?_ K0.out.m day left hsml ?_ ?_; rfl; rfl; rfl; rfl; intro v ok HVO))
  clear c8
  cases ok with
  | true =>
    have hv := HR.out v (HVO.out rfl)
    have HV := Lib.hid hv
    clear hv
    go_wp2
    refine leave_plain ⟨_, results_tmp rfl _ _ _, ?_⟩
    exact ⟨ret_int HV.out, K0.out, B0.out.os, B0.out.tape, B0.out.output, B0.out.size, fun k hk _ => B0.out.block k hk⟩
  | false =>
    clear HVO HR
    go_upto_region 5 with (fail)
    have l2 := L0.out.alloc (.cells #[.int .i64 0] 3)
    have l3 := L1.out.alloc (.cells #[.int .i64 0] 3)
    have lv : Lies (w0.alloc (.cells #[.int .i64 0] 3)) (w.heap.size + 2) 3 #[.int .i64 0] := Lies.fresh' HZ0.out
    have b1 : Below w.heap.size w (w0.alloc (.cells #[.int .i64 0] 3)) := B0.out.alloc B0.out.size _
    have k1 : KeM p T j D mb (w0.alloc (.cells #[.int .i64 0] 3)) := K0.out.call ((Below.refl _ _).alloc (Nat.le_refl _) _)
    have hz1 : (w0.alloc (.cells #[.int .i64 0] 3)).heap.size = w.heap.size + 3 := by have := HZ0.out; simp; omega
    rw [HZ0.out]
    clear L0 L1 B0 K0 HZ0
    change Code.wp _ _ _ _ (w0.alloc (.cells #[.int .i64 0] 3))
    generalize w0.alloc (.cells #[.int .i64 0] 3) = w1 at *
    have hrp : w1.rangeAt w.heap.size 0 p.cells := Lies.range (cs := keC p D mb) l2 (fun i v hv => by
      rw [Nat.zero_add]
      unfold keC
      rw [List.getElem?_append_left (List.getElem?_eq_some_iff.1 hv).1]; exact hv)
    have HRP := Lib.hid hrp
    have HZ1 := Lib.hid hz1
    have L2 := Lib.hid l2
    have L3 := Lib.hid l3
    have LV := Lib.hid lv
    have B1 := Lib.hid b1
    have K1 := Lib.hid k1
    clear hrp hz1 l2 l3 lv b1 k1
    go_wp2_with (refine wpList_load_mid (op := ⟨some 21, _, _, _, _, _⟩) ?_ 34 (.tmp 20) ?_ w.heap.size 0 ?_ p.cells _ HRP.out Try.underlying34 rfl size_po ?_; rfl; rfl; rfl)
    have l2 := L2.out.alloc (.cells #[.func (.func 66) #[.agg p.cells.toArray] #[]] 106)
    have l3 := L3.out.alloc (.cells #[.func (.func 66) #[.agg p.cells.toArray] #[]] 106)
    have lv := LV.out.alloc (.cells #[.func (.func 66) #[.agg p.cells.toArray] #[]] 106)
    have lf : Lies (w1.alloc (.cells #[.func (.func 66) #[.agg p.cells.toArray] #[]] 106)) (w.heap.size + 3) 106 #[.func (.func 66) #[.agg p.cells.toArray] #[]] := Lies.fresh' HZ1.out
    have b2 : Below w.heap.size w (w1.alloc (.cells #[.func (.func 66) #[.agg p.cells.toArray] #[]] 106)) := B1.out.alloc B1.out.size _
    have k2 : KeM p T j D mb (w1.alloc (.cells #[.func (.func 66) #[.agg p.cells.toArray] #[]] 106)) := K1.out.call ((Below.refl _ _).alloc (Nat.le_refl _) _)
    have hz2 : (w1.alloc (.cells #[.func (.func 66) #[.agg p.cells.toArray] #[]] 106)).heap.size = w.heap.size + 4 := by have := HZ1.out; simp; omega
    rw [HZ1.out]
    clear L2 L3 LV B1 K1 HZ1 HRP
    generalize w1.alloc (.cells #[.func (.func 66) #[.agg p.cells.toArray] #[]] 106) = w2 at *
    have hrp : w2.rangeAt w.heap.size 0 p.cells := Lies.range (cs := keC p D mb) l2 (fun i v hv => by
      rw [Nat.zero_add]
      unfold keC
      rw [List.getElem?_append_left (List.getElem?_eq_some_iff.1 hv).1]; exact hv)
    have HRP := Lib.hid hrp
    have HZ2 := Lib.hid hz2
    have L2 := Lib.hid l2
    have L3 := Lib.hid l3
    have LV := Lib.hid lv
    have LF := Lib.hid lf
    have B2 := Lib.hid b2
    have K2 := Lib.hid k2
    clear hrp hz2 l2 l3 lv lf b2 k2
    refine wp_label ?_
    go_wp2_with (first
      | (refine wpList_load_mid (op := ⟨some 24, _, _, _, _, _⟩) ?_ 34 (.tmp 23) ?_ w.heap.size 0 ?_ p.cells _ HRP.out Try.underlying34 rfl size_po ?_; rfl; rfl; rfl)
      | (refine wpList_load_row (o := ⟨some 25, _, _, _, _, _⟩) ?_ 122 (.tmp 3) ?_ (w.heap.size + 1) ?_ 122 (encM day left).toArray (0, 0) _ L3.out Try.underlying122 rfl size_mv ?_; rfl; rfl; rfl)
      | (go_at_call 82; refine (after_any p day left _).mono ?_; rintro e w' ⟨rfl, rfl⟩))
    have hW : WoM p T j D mb day left w (w.heap.size + 2) (w.heap.size + 3) w2.heap.size (w2.heap.size + 1) 0 ((w2.alloc (.cells p.cells.toArray 34)).alloc (.cells (encM day left).toArray 122)) :=
      ⟨(L2.out.alloc _).alloc _, (L3.out.alloc _).alloc _, (LV.out.alloc _).alloc _, (LF.out.alloc _).alloc _, (Lies.fresh _ _ _).alloc _, Lies.fresh' (by simp), K2.out.call (((Below.refl _ _).alloc (Nat.le_refl _) _).alloc (by simp) _), (B2.out.alloc B2.out.size _).alloc (by have := B2.out.size; simp; omega) _⟩
    have hz5 : ((w2.alloc (.cells p.cells.toArray 34)).alloc (.cells (encM day left).toArray 122)).heap.size = w.heap.size + 6 := by have := HZ2.out; simp; omega
    rw [HZ2.out] at hW ⊢
    clear L2 L3 LV LF B2 K2 HRP HZ2
    generalize (w2.alloc (.cells p.cells.toArray 34)).alloc (.cells (encM day left).toArray 122) = w5 at *
    have HZ5 := Lib.hid hz5
    have HW := Lib.hid hW
    clear hz5 hW
    have hdk := HOK.out.d d (List.mem_of_getElem? HD.out)
    have HDK := Lib.hid hdk
    clear hdk
    refine range_givesK (n := 6) (gf := 87) rfl enters_after1 (after1_gives 5 (by omega) p day d left (w.heap.size + 4) (w.heap.size + 4 + 1) w5 HD.out HDK.out h0 h1 (fun V => Lies V (w.heap.size + 4) 34 p.cells.toArray ∧ Lies V (w.heap.size + 4 + 1) 122 (encM day left).toArray ∧ p.At V V.heap.size) (fun V h => h)) (Below.refl _ _) (fun _ => rfl)
      (fun k V => WoM p T j D mb day left w (w.heap.size + 2) (w.heap.size + 3) (w.heap.size + 4) (w.heap.size + 4 + 1) (p.d.worTo (T (day + 1)) d left k) V)
      (fun c _ V => c = .exit 0 ∧ p.d.wor (T (day + 1)) d left = -1 ∧ WoM p T j D mb day left w (w.heap.size + 2) (w.heap.size + 3) (w.heap.size + 4) (w.heap.size + 4 + 1) (-1) V) ?hI ?hIx HW.out ?hSt
      (fun x a' _ => a' = { tmps := #[.agg (keC p D mb).toArray, .agg (encM day left).toArray, .pointer (some ⟨w.heap.size, 0, none⟩), .pointer (some ⟨w.heap.size + 1, 0, none⟩), .int .i64 0, .int .i64 v, .bool false, .pointer (some ⟨w.heap.size + 2, 0, none⟩), .pointer (some ⟨w.heap.size + 3, 0, none⟩), undef, .int .i64 (left + x - d.sp), .tuple #[.int .i64 v, .bool false], .pointer (some ⟨w.heap.size, 8, none⟩), .map (some mb), .agg (encM day left).toArray, .tuple #[.int .i64 v, .bool false], .int .i64 v, .bool false, .bool false, undef, .pointer (some ⟨w.heap.size, 0, none⟩), .agg p.cells.toArray, .func (.func 66) #[.agg p.cells.toArray] #[], .pointer (some ⟨w.heap.size, 0, none⟩), .agg p.cells.toArray, .agg (encM day left).toArray, .func (.func 87) #[] #[.pointer (some ⟨w.heap.size + 4, 0, none⟩), .pointer (some ⟨w.heap.size + 4 + 1, 0, none⟩)], .int .i64 x, .int .i64 (left + x - d.sp), undef, undef, undef, undef, undef, undef, undef, undef, undef, undef, undef, undef, undef, undef, undef, undef, undef, undef, undef, undef, undef, undef], defers := [] }) ?hAx ?assign ?body ?done ?stop
    case hI =>
      intro k V V' h ht
      exact h.recs ht (by have := HZ5.out; omega) (by have := HZ5.out; omega)
    case hIx =>
      rintro c k V V' ⟨h1, h2, h3⟩ ht
      exact ⟨h1, h2, h3.recs ht (by have := HZ5.out; omega) (by have := HZ5.out; omega)⟩
    case hSt =>
      intro k V h
      exact ⟨h.a, h.b, h.e.q⟩
    case hAx =>
      rintro x a' V V' rfl ht
      rfl
    case assign =>
      intro l2 k x V K hx hi hK
      have HIN := Lib.hid hi
      clear hx hi
      simp only [encR]
      gi_wp2_with (fail)
      exact hK _ _ (Keep.refl _ _) HIN.out rfl
    case body =>
      rintro l2 k x a' V hl2 hx hi rfl
      obtain ⟨hkn, rfl⟩ := rngL_some hx
      have hdk := HDK.out
      obtain ⟨r0, r1, r2, s0, s1, -, -, -, -⟩ := hdk
      have hst : p.d.worTo (T (day + 1)) d left (k + 1) = gre (p.d.worTo (T (day + 1)) d left k) (p.d.atD (T (day + 1)) (left + (d.lo + k) - d.sp)) := rfl
      have c42 : V.cell? ⟨w.heap.size + 3, 0, none⟩ = some (.func (.func 66) #[.agg p.cells.toArray] #[]) := hi.f.at_ 0
      have hent := enters_isKept
      have HIS := Lib.hid (isKept_any p (left + (d.lo + k) - d.sp) V)
      have HIN := Lib.hid hi
      have HST := Lib.hid hst
      clear hx hi hst
      have hworge := PoD.worTo_ge (p := p.d) (nx := T (day + 1)) (fun lv => (HT.out (day + 1) lv).1) d left k
      cases hkb : inB (left + (d.lo + (k : Int)) - d.sp) p.low p.high with
      | false =>
        rw [hkb] at HIS
        have hat : p.d.atD (T (day + 1)) (left + (d.lo + (k : Int)) - d.sp) = -1 := by
          unfold PoD.atD
          rw [if_neg (by show ¬ inB _ p.low p.high = true; rw [hkb]; simp)]
        have hno : p.d.wor (T (day + 1)) d left = -1 := (PoD.wor_iff (fun lv => (HT.out (day + 1) lv).1) left).2 ⟨d.lo + k, by omega, by omega, hat⟩
        have HNO := Lib.hid hno
        clear hat hno hkb
        gi_wp2_with (fail)
        refine ⟨trivial, (callsIn_wide.2 HIS.out).mono ?_⟩
        rintro e u5 ⟨rfl, hb5⟩
        have M5 := Lib.hid (HIN.out.call hb5)
        have c7 : u5.cell? ⟨w.heap.size + 2, 0, none⟩ = some (.int .i64 (p.d.worTo (T (day + 1)) d left k)) := M5.out.v.at_ 0
        have f7 : u5.frozen? ⟨w.heap.size + 2, 0, none⟩ = false := M5.out.v.free 0
        gi_wp2_with (fail)
        refine ⟨(Keep.of_below hb5).trans (Keep.of_only (Only.set _ _ _ _) (by have := HZ5.out; omega)), rfl, HNO.out, M5.out.set (-1) hDw HAW.out⟩
      | true =>
        rw [hkb] at HIS
        rw [inB_iff] at hkb
        have hl0 : 0 ≤ p.low := HOK.out.l0
        have hl2 : p.high ≤ 60 := HOK.out.l2
        obtain ⟨lv, hlv⟩ : ∃ lv : Nat, left + (d.lo + (k : Int)) - d.sp = (lv : Int) := ⟨(left + (d.lo + (k : Int)) - d.sp).toNat, by omega⟩
        rw [hlv] at HIS HST hkb ⊢
        have hat : p.d.atD (T (day + 1)) (lv : Int) = T (day + 1) lv := PoD.atD_eq hkb
        rw [hat] at HST
        have hcl := HIN.out.e.c.at_ (day := day + 1) (lv := lv) hj (by omega) hkb.1 hkb.2
        have HCL := Lib.hid hcl
        obtain ⟨ht0, ht1⟩ := HT.out (day + 1) lv
        obtain ⟨a, ha⟩ : ∃ a, a = p.d.worTo (T (day + 1)) d left k := ⟨_, rfl⟩
        obtain ⟨b, hb⟩ : ∃ b, b = T (day + 1) (lv : Int) := ⟨_, rfl⟩
        rw [← hb] at hcl HST HCL
        rw [← ha] at HST hworge
        have hgr : greL [a, b] 2 = gre a b := by
          have h1 : greL [a, b] 2 = gre (gre 0 a) b := rfl
          rw [h1]
          congr 1
          unfold gre
          rw [if_neg (by omega)]
          split <;> omega
        have hmx : a ≤ 1000000 := by
          rw [ha]
          by_cases h1 : p.d.worTo (T (day + 1)) d left k = -1
          · rw [h1]; omega
          · rcases ((PoD.worTo_spec (p := p.d) (nx := T (day + 1)) (fun lv => (HT.out (day + 1) lv).1) d left k).2 h1).2 with h2 | ⟨i, _, e⟩
            · rw [h2]; omega
            · rw [← e]
              unfold PoD.atD
              split
              · exact (HT.out _ _).2
              · omega
        obtain ⟨day1, hday1⟩ : ∃ n : Nat, n = day + 1 := ⟨_, rfl⟩
        have hdz1 : (day : Int) + 1 = (day1 : Int) := by omega
        have hdw1 : IntKind.i64.wrap (day1 : Int) = (day1 : Int) := IntWalk.i64_in _ (by omega)
        have hd10 : (0 : Int) ≤ (day1 : Int) := by omega
        have hdl1 : (day1 : Int) < ((p.ds.l.length : Int) + 1) := by omega
        have hlv0 : (0 : Int) ≤ (lv : Int) := by omega
        have hlv1 : (lv : Int) < 61 := by omega
        have hlnz : (p.ds.l.length : Int) ≤ 12 := by omega
        have HGR := Lib.hid hgr
        have HB01 := Lib.hid (show (-1 ≤ a ∧ a ≤ 1000000) ∧ (-1 ≤ b ∧ b ≤ 1000000) from ⟨⟨hworge, hmx⟩, by rw [hb]; exact ⟨ht0, ht1⟩⟩)
        have HDA := Lib.hid ha
        have HDY := Lib.hid hday1
        clear hcl hat hgr hmx hb ht0 ht1 hworge hlv hkb ha hday1
        gi_wp2_with (fail)
        refine ⟨trivial, (callsIn_wide.2 HIS.out).mono ?_⟩
        rintro e u5 ⟨rfl, hb5⟩
        have M5 := Lib.hid (HIN.out.call hb5)
        have KE5 := Lib.hid (Keep.of_below (B := w5.heap.size) hb5)
        have r29 := cell_regrown (show u5.cell? ⟨w.heap.size + 2, 0, none⟩ = some (.int .i64 a) by rw [M5.out.v.at_, HDA.out]; rfl)
        have c31 : u5.cell? ⟨w.heap.size, 7, none⟩ = some (.slice (some ⟨D, 0, none⟩) (p.ds.l.length + 1) (p.ds.l.length + 1)) := M5.out.k.at_ 7
        have r31 := cell_regrown c31
        have r33 := cell_regrown (show u5.cell? ⟨w.heap.size + 1, 0, none⟩ = some (.int .i64 day) from M5.out.m.at_ 0)
        have r38 := cell_regrown (show u5.cell? ⟨D, day1 * 61 + lv, none⟩ = some (.int .i64 b) by
          have h := hb5.cell (p := ⟨D, day1 * 61 + lv, none⟩) (HIN.out.e.c.in_)
          rw [h, HDY.out]; exact HCL.out)
        clear c31 hb5
        gi_wp2_with (fail)
        refine wpIn_region_tail 10 (by kernel_rfl) (by kernel_rfl) (by kernel_rfl) (by kernel_rfl) (by kernel_rfl) (by kernel_rfl) (by simp) ?_
        simp only [List.take_succ_cons, List.take_zero, List.drop_succ_cons, List.drop_zero]
        repeat (first | go_big_quiet_step (fail) | quiet_step (fail))
        refine wpQuiet_nil ?_
        intro wq hwq
        have hbq : Below u5.heap.size u5 wq := (by obtain ⟨q, rfl⟩ := hwq; exact below_regrown _ _ _)
        clear hwq r29 r31 r33 r38
        have MQ := Lib.hid (M5.out.call hbq)
        have KQ := Lib.hid (KE5.out.trans (Keep.of_below hbq))
        clear M5 hbq KE5
        gi_wp2_with (fail)
        have hsl : Sl (wq.alloc (.cells #[.int .i64 a, .int .i64 b] 3)) (wq.alloc (.cells #[.int .i64 a, .int .i64 b] 3)).heap.size 1 encI (some ⟨wq.heap.size, 0, none⟩) [a, b] := lies_q (q := [a, b]) (Lies.fresh _ _ _)
        have hgt := greatest_any (some ⟨wq.heap.size, 0, none⟩) 2 [a, b] _ hsl (by simp) (fun x hx => by
          have h := HB01.out
          simp only [List.mem_cons, List.not_mem_nil, or_false] at hx
          rcases hx with rfl | rfl
          · exact h.1
          · exact h.2)
        rw [show [a, b].length = 2 from rfl, HGR.out] at hgt
        refine ⟨trivial, (callsIn_wide.2 hgt).mono ?_⟩
        rintro e u6 ⟨rfl, hb6⟩
        have hbq6 : Below wq.heap.size wq u6 := ((Below.refl wq.heap.size wq).alloc (Nat.le_refl _) (.cells #[.int .i64 a, .int .i64 b] 3)).trans (hb6.mono (by simp))
        have M6 := Lib.hid (MQ.out.call hbq6)
        have K6 := Lib.hid (KQ.out.trans (Keep.of_below hbq6))
        have c7 : u6.cell? ⟨w.heap.size + 2, 0, none⟩ = some (.int .i64 (p.d.worTo (T (day + 1)) d left k)) := M6.out.v.at_ 0
        have f7 : u6.frozen? ⟨w.heap.size + 2, 0, none⟩ = false := M6.out.v.free 0
        clear hb6 hbq6 hsl hgt MQ KQ
        gi_wp2_with (fail)
        refine ⟨K6.out.trans (Keep.of_only (Only.set _ _ _ _) (by have := HZ5.out; omega)), ?_⟩
        show WoM p T j D mb day left w _ _ _ _ (p.d.worTo (T (day + 1)) d left (k + 1)) _
        rw [HST.out]
        exact M6.out.set (gre a b) hDw HAW.out
    case done =>
      intro D1 V hD1 hi hd
      have hwn : p.d.worTo (T (day + 1)) d left (rngL d.lo d.hi).length = p.d.wor (T (day + 1)) d left := by unfold PoD.wor Dy.rains; rw [rngL_length]
      rw [hwn] at hi
      obtain ⟨z, hz⟩ : ∃ z, z = p.d.wor (T (day + 1)) d left := ⟨_, rfl⟩
      have hry := HRY.out
      rw [← hz] at hi hry
      have HRZ := Lib.hid hry
      have HZZ := Lib.hid hz
      have HIN := Lib.hid hi
      have HDD := Lib.hid hd
      have HD1 := Lib.hid hD1
      clear hi hd hwn hry hz
      have c46 : V.cell? ⟨w.heap.size, 8, none⟩ = some (.map (some mb)) := HIN.out.k.at_ 8
      have c49 : V.cell? ⟨w.heap.size + 2, 0, none⟩ = some (.int .i64 z) := HIN.out.v.at_ 0
      go_upto_region 12 with (first
        | (refine wpList_load_row (o := ⟨some 48, _, _, _, _, _⟩) ?_ 122 (.tmp 3) ?_ (w.heap.size + 1) ?_ 122 (encM day left).toArray (0, 0) _ HIN.out.m Try.underlying122 rfl size_mv ?_; rfl; rfl; rfl)
        | (refine wpList_put_memo (o := ⟨none, .mapUpdate 87 (.tmp 47) _ _, _, _, _, _⟩) ?_ (.tmp 47) (.tmp 48) (.tmp 49) ?_ mb (p.Rgt T) ?_ HIN.out.e.m day left z hsml HRZ.out ?_ ?_ ?_; rfl; rfl; rfl; rfl; rfl; intro w7 hm7 hg7 hz7))
      (try simp only [Act.put])
      have c50 : w7.cell? ⟨w.heap.size + 2, 0, none⟩ = some (.int .i64 z) := (HIN.out.v.grown hg7 (by intro e; cases e; omega)).at_ 0
      have HM7 := Lib.hid hm7
      have HG7 := Lib.hid hg7
      clear c46 c49 hm7 hg7 hz7
      go_wp2
      have hlt : mb < w5.heap.size := by have := HZ5.out; omega
      have hd7 : w7.heap[D1]? = some (.deferred (some [])) := (HG7.out.block D1 (Array.getElem?_eq_some_iff.1 HDD.out).1 (by intro e; cases e; have := HD1.out; omega)).trans HDD.out
      have hk7 := HIN.out.e.memo HM7.out HG7.out
      have hrec : Recs w5.heap.size w7 (w7.putObj D1 (.deferred none)) := Recs.put _ HD1.out hd7 rfl
      have hgw : w.grownBy w7 (some mb) := StepB.trans (StepB.of_below HIN.out.w) HG7.out
      refine leave_mark hd7 ⟨_, results_tmp (t := 4) rfl _ _ _, ret_int HZZ.out, hk7.recs hrec hlt, ⟨hgw.os, hgw.tape, hgw.output, Nat.le_trans hgw.size (by simp), fun k hk hne => (World.putObj_heap_other (by have := HD1.out; have := HZ5.out; omega)).trans (hgw.block k hk hne)⟩⟩
    case stop =>
      rintro D1 c k V hD1 hk' ⟨rfl, hno, hi⟩ hd
      refine wpIn_exit ?_
      have HIN := Lib.hid hi
      have HDD := Lib.hid hd
      have HD1 := Lib.hid hD1
      clear hi hd
      obtain ⟨z, hz⟩ : ∃ z, z = p.d.wor (T (day + 1)) d left := ⟨_, rfl⟩
      have hry := HRY.out
      rw [← hz] at hno hry
      have HRZ := Lib.hid hry
      have HZZ := Lib.hid hz
      clear hry hz
      rw [← hno] at HIN
      have c46 : V.cell? ⟨w.heap.size, 8, none⟩ = some (.map (some mb)) := HIN.out.k.at_ 8
      have c49 : V.cell? ⟨w.heap.size + 2, 0, none⟩ = some (.int .i64 z) := HIN.out.v.at_ 0
      clear hno
      go_upto_region 12 with (first
        | (refine wpList_load_row (o := ⟨some 48, _, _, _, _, _⟩) ?_ 122 (.tmp 3) ?_ (w.heap.size + 1) ?_ 122 (encM day left).toArray (0, 0) _ HIN.out.m Try.underlying122 rfl size_mv ?_; rfl; rfl; rfl)
        | (refine wpList_put_memo (o := ⟨none, .mapUpdate 87 (.tmp 47) _ _, _, _, _, _⟩) ?_ (.tmp 47) (.tmp 48) (.tmp 49) ?_ mb (p.Rgt T) ?_ HIN.out.e.m day left z hsml HRZ.out ?_ ?_ ?_; rfl; rfl; rfl; rfl; rfl; intro w7 hm7 hg7 hz7))
      (try simp only [Act.put])
      have c50 : w7.cell? ⟨w.heap.size + 2, 0, none⟩ = some (.int .i64 z) := (HIN.out.v.grown hg7 (by intro e; cases e; omega)).at_ 0
      have HM7 := Lib.hid hm7
      have HG7 := Lib.hid hg7
      clear c46 c49 hm7 hg7 hz7
      go_wp2
      have hlt : mb < w5.heap.size := by have := HZ5.out; omega
      have hd7 : w7.heap[D1]? = some (.deferred (some [])) := (HG7.out.block D1 (Array.getElem?_eq_some_iff.1 HDD.out).1 (by intro e; cases e; have := HD1.out; omega)).trans HDD.out
      have hk7 := HIN.out.e.memo HM7.out HG7.out
      have hrec : Recs w5.heap.size w7 (w7.putObj D1 (.deferred none)) := Recs.put _ HD1.out hd7 rfl
      have hgw : w.grownBy w7 (some mb) := StepB.trans (StepB.of_below HIN.out.w) HG7.out
      refine leave_mark hd7 ⟨_, results_tmp (t := 4) rfl _ _ _, ret_int HZZ.out, hk7.recs hrec hlt, ⟨hgw.os, hgw.tape, hgw.output, Nat.le_trans hgw.size (by simp), fun k hk hne => (World.putObj_heap_other (by have := HD1.out; have := HZ5.out; omega)).trans (hgw.block k hk hne)⟩⟩
end Go.Proofs.Yteognijlgalahaa
