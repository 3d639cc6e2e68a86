/- keep: the costs of all levels, the last days first. -/
import Derived.Test.YteognijlgalahaaPF
namespace Go.Proofs.Yteognijlgalahaa
open Go.RowKit Go.Lib
attribute [local go_sem] Oper.semAt_some

/-- Nothing but the costs and the memo has turned. -/
structure StepC (D mb : Nat) (w w' : World) : Prop where
  os : w'.os = w.os
  tape : w'.tape = w.tape
  output : w'.output = w.output
  size : w.heap.size ≤ w'.heap.size
  block : ∀ k, k < w.heap.size → k ≠ D → k ≠ mb → w'.heap[k]? = w.heap[k]?
section
variable {D mb g : Nat} {w w' w2 : World} {t : TypeId} {cs : Array Value}
theorem StepC.refl (D mb : Nat) (w : World) : StepC D mb w w := ⟨rfl, rfl, rfl, Nat.le_refl _, fun _ _ _ _ => rfl⟩
theorem StepC.trans (h : StepC D mb w w') (h' : StepC D mb w' w2) : StepC D mb w w2 := ⟨h'.os.trans h.os, h'.tape.trans h.tape, h'.output.trans h.output, Nat.le_trans h.size h'.size, fun k hk h1 h2 => (h'.block k (Nat.lt_of_lt_of_le hk h.size) h1 h2).trans (h.block k hk h1 h2)⟩
theorem StepC.of_grown (h : w.grownBy w' (some mb)) : StepC D mb w w' := ⟨h.os, h.tape, h.output, h.size, fun k hk _ h2 => h.block k hk fun e => h2 (by cases e; rfl)⟩
theorem StepC.of_only (h : Only D w w') : StepC D mb w w' := ⟨h.os, h.tape, h.output, by rw [h.size]; exact Nat.le_refl _, fun k _ h1 _ => h.block k h1⟩
theorem StepC.of_below (h : Below w.heap.size w w') : StepC D mb w w' := ⟨h.os, h.tape, h.output, h.size, fun k hk _ _ => h.block k hk⟩
theorem StepC.recs {B : Nat} (h : StepC D mb w w') (hr : Recs B w' w2) (hB : w.heap.size ≤ B) : StepC D mb w w2 := by
  obtain ⟨row, hg, hrow⟩ := hr
  exact ⟨hg.os.trans h.os, hg.tape.trans h.tape, hg.output.trans h.output, Nat.le_trans h.size hg.size, fun k hk h1 h2 => (hg.block k (Nat.lt_of_lt_of_le hk h.size) fun e => by have := (hrow k e.symm).1; omega).trans (h.block k hk h1 h2)⟩
theorem StepC.lies (h : StepC D mb w w') (hl : Lies w g t cs) (h1 : g ≠ D) (h2 : g ≠ mb) : Lies w' g t cs := hl.to_ (h.block g hl.in_ h1 h2)
end
section
variable {p : PoM} {T : Nat → Int → Int} {j D mb : Nat} {W W' : World}
theorem KeM.noD {g : Nat} {t : TypeId} {cs : Array Value} (h : KeM p T j D mb W) (hl : Lies W g t cs) (ht : t ≠ 116) : g ≠ D := by
  obtain ⟨cs', h1, -⟩ := h.c.l
  exact lies_ne hl h1 ht
theorem KeM.noM {g : Nat} {t : TypeId} {cs : Array Value} (h : KeM p T j D mb W) (hl : Lies W g t cs) : g ≠ mb := fun e => h.m.ne hl e.symm
theorem KeM.freeD (h : KeM p T j D mb W) (i : Nat) : W.frozen? ⟨D, i, none⟩ = false := by
  obtain ⟨cs', h1, -⟩ := h.c.l
  exact h1.free i
theorem KeM.someD (h : KeM p T j D mb W) (i : Nat) (hi : i < 61 * (p.ds.l.length + 1)) : ∃ x, W.cell? ⟨D, i, none⟩ = some (.int .i64 x) := by
  obtain ⟨cs', h1, h2, h3, -⟩ := h.c.l
  obtain ⟨x, hx⟩ := h3 i (by omega)
  exact ⟨x, by rw [h1.at_]; exact hx⟩
theorem KeM.setD (h : KeM p T j D mb W) (hAD : ∀ a, p.ds.A = some a → p.ds.l ≠ [] → a.block ≠ D) (i : Nat) (x : Int) (hi : i < j * 61) : KeM p T j D mb (W.setCell ⟨D, i, none⟩ (.int .i64 x)) := by
  have ho := Only.set D i W (.int .i64 x)
  refine ⟨⟨fun hne => ?_, h.q.l⟩, ?_, h.m.to_ (ho.block _ h.ne)⟩
  · obtain ⟨b, off, e, hb, hc⟩ := h.q.s hne
    have hbg : b ≠ D := hAD _ e hne
    refine ⟨b, off, e, by rw [ho.size]; exact hb, fun i x hx k u hu => ?_⟩
    have := hc i x hx k u hu
    simp only [World.cell?, ho.block b hbg] at this ⊢
    exact this
  · obtain ⟨cs, h1, h2, h3, h4⟩ := h.c.l
    refine ⟨_, h1.set i _, by simpa using h2, fun i' hi' => ?_, fun day' hj' hn lv h5 h6 => ?_⟩
    · rw [Array.size_setIfInBounds] at hi'
      by_cases e : i = i'
      · subst e
        exact ⟨x, by simp [hi']⟩
      · obtain ⟨y, hy⟩ := h3 i' hi'
        exact ⟨y, by rw [Array.getElem?_setIfInBounds_ne e]; exact hy⟩
    · have : i ≠ day' * 61 + lv := by omega
      rw [Array.getElem?_setIfInBounds_ne this]
      exact h4 day' hj' hn lv h5 h6
/-- One day more is right. -/
theorem KeM.less (h : KeM p T (j + 1) D mb W) (hx : ∀ lv : Nat, p.low ≤ lv → (lv : Int) ≤ p.high → W.cell? ⟨D, j * 61 + lv, none⟩ = some (.int .i64 (T j lv))) : KeM p T j D mb W := by
  refine ⟨h.q, ?_, h.m⟩
  obtain ⟨cs, h1, h2, h3, h4⟩ := h.c.l
  refine ⟨cs, h1, h2, h3, fun day hj hn lv h5 h6 => ?_⟩
  by_cases e : day = j
  · subst e
    have := hx lv h5 h6
    rw [h1.at_] at this; exact this
  · exact h4 day (by omega) hn lv h5 h6
end
/-- find, as a value. -/
abbrev fFind (gp gf gk : Nat) : Value := .func (.func 71) #[] #[.pointer (some ⟨gp, 0, none⟩), .pointer (some ⟨gf, 0, none⟩), .pointer (some ⟨gk, 0, none⟩)]
/-- What find captures. -/
structure CaM (p : PoM) (D mb gp gf gk : Nat) (V : World) : Prop where
  P : Lies V gp 34 p.cells.toArray
  F : Lies V gf 111 #[fFind gp gf gk]
  K : Lies V gk 89 (keC p D mb).toArray
/-- The variables of find. -/
structure FiM (p : PoM) (T : Nat → Int → Int) (D mb gp gf gk day : Nat) (w : World) (gr k : Nat) (V : World) : Prop where
  c : CaM p D mb gp gf gk V
  d : Lies V w.heap.size 3 #[.int .i64 day]
  r : Lies V gr 31 #[.int .i64 p.low, .int .i64 p.high]
  e : KeM p T (day + 1) D mb V
  x : ∀ lv : Nat, p.low ≤ lv → (lv : Int) < p.low + k → V.cell? ⟨D, day * 61 + lv, none⟩ = some (.int .i64 (T day lv))
  w : StepC D mb w V
section
variable {p : PoM} {T : Nat → Int → Int} {D mb gp gf gk day gr k j B : Nat} {w V V' : World}
theorem CaM.recs (h : CaM p D mb gp gf gk V) (hr : Recs B V V') : CaM p D mb gp gf gk V' := ⟨hr.lies h.P, hr.lies h.F, hr.lies h.K⟩
theorem CaM.step (h : CaM p D mb gp gf gk V) (he : KeM p T j D mb V) (hs : StepC D mb V V') : CaM p D mb gp gf gk V' := ⟨hs.lies h.P (he.noD h.P (by decide)) (he.noM h.P), hs.lies h.F (he.noD h.F (by decide)) (he.noM h.F), hs.lies h.K (he.noD h.K (by decide)) (he.noM h.K)⟩
theorem CaM.call (h : CaM p D mb gp gf gk V) (hb : Below V.heap.size V V') : CaM p D mb gp gf gk V' := h.recs (B := 0) (Recs.of_below hb)
theorem FiM.recs (h : FiM p T D mb gp gf gk day w gr k V) (hr : Recs B V V') (hm : mb < B) (hB : w.heap.size ≤ B) : FiM p T D mb gp gf gk day w gr k V' :=
  ⟨h.c.recs hr, hr.lies h.d, hr.lies h.r, h.e.recs hr hm, fun lv h1 h2 => by
    have := h.x lv h1 h2
    obtain ⟨cs, h3, -⟩ := h.e.c.l
    rw [h3.at_] at this
    rw [(hr.lies h3).at_]; exact this, h.w.recs hr hB⟩
theorem FiM.step (h : FiM p T D mb gp gf gk day w gr k V) (he : KeM p T (day + 1) D mb V') (hg : V.grownBy V' (some mb)) : FiM p T D mb gp gf gk day w gr k V' :=
  ⟨h.c.step h.e (.of_grown hg), (StepC.of_grown (D := D) hg).lies h.d (h.e.noD h.d (by decide)) (h.e.noM h.d), (StepC.of_grown (D := D) hg).lies h.r (h.e.noD h.r (by decide)) (h.e.noM h.r), he, fun lv h1 h2 => by
    have := h.x lv h1 h2
    obtain ⟨cs, h3, -⟩ := h.e.c.l
    rw [h3.at_] at this
    rw [(h3.grown hg (by intro e; exact h.e.ne (by cases e; rfl))).at_]; exact this, h.w.trans (.of_grown hg)⟩
theorem FiM.set (h : FiM p T D mb gp gf gk day w gr k V) (hAD : ∀ a, p.ds.A = some a → p.ds.l ≠ [] → a.block ≠ D) {lv : Nat} (hl : (lv : Int) = p.low + k) (h60 : lv < 61) (hd : day < p.ds.l.length) : FiM p T D mb gp gf gk day w gr (k + 1) (V.setCell ⟨D, day * 61 + lv, none⟩ (.int .i64 (T day lv))) := by
  have ho := Only.set D (day * 61 + lv) V (.int .i64 (T day lv))
  have hs : StepC D mb V (V.setCell ⟨D, day * 61 + lv, none⟩ (.int .i64 (T day lv))) := .of_only ho
  refine ⟨h.c.step h.e hs, hs.lies h.d (h.e.noD h.d (by decide)) (h.e.noM h.d), hs.lies h.r (h.e.noD h.r (by decide)) (h.e.noM h.r), h.e.setD hAD _ _ (by omega), fun lv' h1 h2 => ?_, h.w.trans hs⟩
  obtain ⟨cs, h3, h4, -⟩ := h.e.c.l
  rw [(h3.set _ _).at_]
  by_cases e : lv' = lv
  · subst e
    have : day * 61 + lv' < cs.size := by omega
    simp [this]
  · rw [Array.getElem?_setIfInBounds_ne (by omega), ← h3.at_]
    exact h.x lv' h1 (by omega)
end
def FindOk (p : PoM) (T : Nat → Int → Int) (D mb gp gf gk day : Nat) : Prop := ∀ w, CaM p D mb gp gf gk w → KeM p T p.ds.l.length D mb w → Calls Try.prog 71 #[.int .i64 day, .pointer (some ⟨gp, 0, none⟩), .pointer (some ⟨gf, 0, none⟩), .pointer (some ⟨gk, 0, none⟩)] w fun e w' => (∃ v, e = .returned v) ∧ KeM p T day D mb w' ∧ StepC D mb w w'
theorem enters_find : ∀ args w, (callFunc 71 args).run Try.prog w = .ok (.enter 71 args) w := enters_of Try.func71 (by kernel_rfl) rfl
set_option maxRecDepth 100000 in
set_option maxHeartbeats 8000000 in
theorem find_step (p : PoM) (T : Nat → Int → Int) (D mb gp gf gk day : Nat) (hok : p.d.Ok) (hT : Tok T) (hstep : ∀ day d, p.ds.l[day]? = some d → ∀ lv, T day lv = (p.d.bestD (T (day + 1)) d lv).2)
    (hAD : ∀ a, p.ds.A = some a → p.ds.l ≠ [] → a.block ≠ D) (hday : day ≤ p.ds.l.length) (ih : day < p.ds.l.length → FindOk p T D mb gp gf gk (day + 1)) : FindOk p T D mb gp gf gk day := by
  intro w hc hk
  have hln : p.ds.l.length ≤ 12 := hok.n2
  have hl0 : 0 ≤ p.low := hok.l0
  have hl2 : p.high ≤ 60 := hok.l2
  have hmb : mb < w.heap.size := hk.size
  refine calls_of_wp_marks 6 Try.func71 rfl ?_
  simp only [Try.ntmps71, List.size_toArray, List.length_cons, List.length_nil, Nat.reduceAdd, Nat.reduceSub, Array.replicate_succ, Array.replicate_zero, List.push_toArray, List.append_toArray, List.nil_append, List.cons_append]
  have b0 : Below w.heap.size w (w.alloc (.cells #[.int .i64 day] 3)) := (by repeat (first | (with_reducible assumption) | (with_reducible exact Below.refl _ _) | (with_reducible refine Below.drew ?_) | (with_reducible refine below_drewN ?_ _) | ((with_reducible refine Below.setCell ?_ ?_ _); rotate_left; focus (first | (simp; done) | (simp; omega) | omega)) | ((with_reducible refine Below.alloc ?_ ?_ _); rotate_left; focus (first | (simp; done) | (simp; omega) | omega))))
  have l0 : Lies (w.alloc (.cells #[.int .i64 day] 3)) w.heap.size 3 #[.int .i64 day] := Lies.fresh _ _ _
  have hz0 : (w.alloc (.cells #[.int .i64 day] 3)).heap.size = w.heap.size + 1 := by simp
  have HC := Lib.hid (hc.call b0)
  have HK := Lib.hid (hk.call b0)
  have L0 := Lib.hid l0
  have B0 := Lib.hid b0
  have HZ0 := Lib.hid hz0
  have IH := Lib.hid ih
  have HT := Lib.hid hT
  have HOK := Lib.hid hok
  have HST := Lib.hid hstep
  have HAD := Lib.hid hAD
  clear hc hk l0 b0 hz0 ih hT hok hstep hAD
  go_upto_region 1 with (fail)
  change Code.wp _ _ _ _ (w.alloc (.cells #[.int .i64 day] 3))
  generalize w.alloc (.cells #[.int .i64 day] 3) = w0 at *
  have c6 : w0.cell? ⟨w.heap.size, 0, none⟩ = some (.int .i64 day) := L0.out.at_ 0
  have c8 : w0.cell? ⟨gp, 6, none⟩ = some (.slice p.ds.A p.ds.l.length p.ds.c) := HC.out.P.at_ 6
  by_cases he : day = p.ds.l.length
  · have heb : ((day : Int) == (p.ds.l.length : Int)) = true := by simp [he]
    go_wp2
    refine leave_plain ⟨_, results_none rfl _ _ _, ⟨_, rfl⟩, ?_, .of_below B0.out⟩
    rw [he]; exact HK.out
  · have heb : ((day : Int) == (p.ds.l.length : Int)) = false := by simp; omega
    have hlt : day < p.ds.l.length := by omega
    have c11 : w0.cell? ⟨gf, 0, none⟩ = some (fFind gp gf gk) := HC.out.F.at_ 0
    have hw1 : IntKind.i64.wrap ((day : Int) + 1) = ((day + 1 : Nat) : Int) := by rw [IntWalk.i64_in _ (by omega)]; omega
    have hent := enters_find
    have HIH := Lib.hid (IH.out hlt w0 HC.out HK.out)
    clear IH he
    go_upto_region 3 with (fail)
    refine HIH.out.mono ?_
    rintro e w1 ⟨⟨v1, rfl⟩, hk1, hs1⟩
    have C1 := Lib.hid (HC.out.step HK.out hs1)
    have K1 := Lib.hid hk1
    have L1 := Lib.hid (hs1.lies L0.out (HK.out.noD L0.out (by decide)) (HK.out.noM L0.out))
    have S1 := Lib.hid ((StepC.of_below (D := D) (mb := mb) B0.out).trans hs1)
    have HZ1 := Lib.hid (show w.heap.size + 1 ≤ w1.heap.size by have := hs1.size; have := HZ0.out; omega)
    clear HC HK L0 B0 HZ0 HIH c6 c8 c11 hw1 hent hk1 hs1 heb
    go_wp2_with (first
      | (refine wpList_load_row (o := ⟨some 15, _, _, _, _, _⟩) ?_ 34 (.tmp 1) ?_ gp ?_ 34 p.cells.toArray (0, 0) _ C1.out.P Try.underlying34 rfl size_po ?_; rfl; rfl; rfl)
      | (go_at_call 63; refine (levels_any p _).mono ?_; rintro e w2 ⟨rfl, hb2⟩)
      | (go_at_call 72; refine (all_any p.low p.high _).mono ?_; rintro e w' ⟨rfl, rfl⟩))
    have hb5 : Below w1.heap.size w1 (w2.alloc (.cells #[.int .i64 p.low, .int .i64 p.high] 31)) := hb2.alloc hb2.size _
    have hW : FiM p T D mb gp gf gk day w w2.heap.size 0 (w2.alloc (.cells #[.int .i64 p.low, .int .i64 p.high] 31)) :=
      ⟨C1.out.call hb5, L1.out.call hb5, Lies.fresh _ _ _, K1.out.call hb5, fun lv h1 h2 => by omega, S1.out.trans (.of_below hb5)⟩
    have hz5 : w2.heap.size < (w2.alloc (.cells #[.int .i64 p.low, .int .i64 p.high] 31)).heap.size := by simp
    have hgr : w.heap.size < w2.heap.size := by have := HZ1.out; have := hb2.size; omega
    clear hb2 hb5 C1 K1 L1 S1 HZ1
    generalize w2.heap.size = gr at *
    generalize w2.alloc (.cells #[.int .i64 p.low, .int .i64 p.high] 31) = w5 at *
    have HW := Lib.hid hW
    clear hW
    have hDw : D < w5.heap.size := HW.out.e.c.in_
    obtain ⟨d, hd⟩ : ∃ d, p.ds.l[day]? = some d := ⟨p.ds.l[day]'hlt, by simp⟩
    have HD := Lib.hid hd
    clear hd
    refine range_givesK (n := 6) (gf := 86) rfl enters_all1 (all1_gives 5 (by omega) gr p.low p.high w5 (by omega) (by omega) (fun V => Lies V gr 31 #[.int .i64 p.low, .int .i64 p.high]) (fun V h => h)) (Below.refl _ _) (fun _ => rfl)
      (fun k V => FiM p T D mb gp gf gk day w gr k V)
      (fun _ _ _ => False) ?hI ?hIx HW.out ?hSt
      (fun x a' _ => a' = { tmps := #[.int .i64 day, .pointer (some ⟨gp, 0, none⟩), .pointer (some ⟨gf, 0, none⟩), .pointer (some ⟨gk, 0, none⟩), .pointer (some ⟨w.heap.size, 0, none⟩), .int .i64 x, .int .i64 day, .pointer (some ⟨gp, 6, none⟩), .slice p.ds.A p.ds.l.length p.ds.c, .int .i64 p.ds.l.length, .bool false, fFind gp gf gk, .int .i64 day, .int .i64 ((day : Int) + 1), v1, .agg p.cells.toArray, .agg #[.int .i64 p.low, .int .i64 p.high], .func (.func 86) #[] #[.pointer (some ⟨gr, 0, none⟩)], .int .i64 x, undef, undef, undef, undef, undef, undef, undef, undef, undef, undef, undef, undef, undef], defers := [] }) ?hAx ?assign ?body ?done ?stop
    case hI =>
      intro k V V' h ht
      exact h.recs ht (by omega) (by omega)
    case hIx =>
      intro c k V V' h ht
      exact h
    case hSt =>
      intro k V h
      exact h.r
    case hAx =>
      rintro x a' V V' rfl ht
      rfl
    case stop =>
      intro D1 c k V hD1 hk' hi hd
      exact hi.elim
    case assign =>
      intro l2 k x V K hx hi hK
      have HIN := Lib.hid hi
      clear hx hi
      simp only [encY]
      gi_wp2_with (fail)
      exact hK _ _ (Keep.refl _ _) HIN.out rfl
    case body =>
      rintro l2 k x a' V hl2 hx hi rfl
      obtain ⟨hkn, rfl⟩ := rngL_some hx
      obtain ⟨lv, hlv⟩ : ∃ lv : Nat, p.low + (k : Int) = (lv : Int) := ⟨(p.low + (k : Int)).toNat, by omega⟩
      rw [hlv]
      have hlv0 : (0 : Int) ≤ (lv : Int) := by omega
      have hlv1 : (lv : Int) < 61 := by omega
      have hd0 : (0 : Int) ≤ (day : Int) := by omega
      have hd1 : (day : Int) < ((p.ds.l.length : Int) + 1) := by omega
      have hlnz : (p.ds.l.length : Int) ≤ 12 := by omega
      have hbe := fun W (h : FiM p T D mb gp gf gk day w gr k W) => best_any p T (day + 1) D mb day d lv W h.e HOK.out HD.out (by omega) HT.out (by omega) (by omega)
      have HBE := Lib.hid hbe
      have hrk : ∀ W, (∃ cc : Cls (fun W => FiM p T D mb gp gf gk day w gr k W), W = cc.val) → W.rangeAt gk 0 (keC p D mb) := by
        rintro W ⟨cc, rfl⟩; exact Lies.range (cs := keC p D mb) cc.h.c.K (fun j v hj => by simpa using hj)
      have HRK := Lib.hid hrk
      have r21 : ∀ cc : Cls (fun W => FiM p T D mb gp gf gk day w gr k W), cc.val.cell? ⟨gk, 7, none⟩ = some (.slice (some ⟨D, 0, none⟩) (p.ds.l.length + 1) (p.ds.l.length + 1)) := fun cc => cc.h.c.K.at_ 7
      have r22 : ∀ cc : Cls (fun W => FiM p T D mb gp gf gk day w gr k W), cc.val.cell? ⟨w.heap.size, 0, none⟩ = some (.int .i64 day) := fun cc => cc.h.d.at_ 0
      haveI hne : Nonempty (Cls (fun W => FiM p T D mb gp gf gk day w gr k W)) := ⟨⟨V, hi⟩⟩
      have hdr : FiM p T D mb gp gf gk day w gr k V.drew := hi.recs (B := w5.heap.size) (Recs.of_below (Below.refl _ _).drew) (by omega) (by omega)
      have HDR := Lib.hid hdr
      have KDR := Lib.hid (Keep.of_below (B := w5.heap.size) (Below.refl V.heap.size V).drew)
      have HLV := Lib.hid hlv
      clear hx hi hbe hrk hdr hkn hlv
      gi_wp2_with (fail)
      refine wpIn_region_phases 12 [([0, 1, 2, 3, 4, 5, 6, 11], [7]), ([8, 9, 10], [])] (fun W => ∃ cc : Cls (fun W => FiM p T D mb gp gf gk day w gr k W), W = cc.val) (Cls.here HDR.out) (by kernel_rfl) (by kernel_rfl) (by kernel_rfl) ?_
      simp only [wpPhases, List.take_succ_cons, List.take_zero, List.drop_succ_cons, List.drop_zero, List.filterMap_cons, List.filterMap_nil, List.getElem?_toArray, List.getElem?_cons_zero, List.getElem?_cons_succ]
      repeat (first
        | (refine wpQuiet_load_whole (o := ⟨some 24, _, _, _, _, _⟩) ?_ 89 (.tmp 3) ?_ gk 0 ?_ (keC p D mb) _ HRK.out Try.underlying89 rfl size_ke ?_; rfl; rfl; rfl; simp only [Act.put, List.setIfInBounds_toArray, List.set_cons_zero, List.set_cons_succ])
        | go_big_quiet_step (fail) | quiet_step (fail))
      refine wpQuiet_nil ?_
      simp only [wpForce]
      clear r21 r22 hne HRK
      generalize V.drew = v0 at *
      go_wp2_with (go_at_call 52; refine (HBE.out v0 HDR.out).mono ?_; rintro e v2 ⟨rfl, hk2, hg2⟩)
      have M2 := Lib.hid (HDR.out.step hk2 hg2)
      have K2 := Lib.hid (KDR.out.trans (Keep.of_grown (B := w5.heap.size) hg2 (fun r e => by cases e; omega)))
      clear hk2 hg2 HDR KDR HBE
      refine Ends.intro ⟨Cls.here M2.out, ?_⟩
      have he2 : (p.d.bestD (T (day + 1)) d lv).2 = T day lv := (HST.out day d HD.out lv).symm
      rw [he2]
      obtain ⟨ol, hol⟩ := M2.out.e.someD (day * 61 + lv) (by omega)
      have fD : v2.frozen? ⟨D, day * 61 + lv, none⟩ = false := M2.out.e.freeD _
      clear he2
      haveI hne2 : Nonempty (Cls (fun W => FiM p T D mb gp gf gk day w gr k W)) := ⟨⟨v2, M2.out⟩⟩
      change wpQuiet _ _ _ _ (_ :: _ :: _ :: []) _
      repeat (first | go_big_quiet_step (fail) | quiet_step (fail))
      refine wpQuiet_nil ?_
      go_wp2
      refine ⟨K2.out.trans (Keep.of_only (Only.set _ _ _ _) (by omega)), ?_⟩
      show FiM p T D mb gp gf gk day w gr (k + 1) _
      exact M2.out.set HAD.out HLV.out.symm (by omega) hlt
    case done =>
      intro D1 V hD1 hi hd
      rw [rngL_length] at hi
      have HIN := Lib.hid hi
      have HDD := Lib.hid hd
      have HD1 := Lib.hid hD1
      clear hi hd
      go_wp2
      have hrec : Recs w5.heap.size V (V.putObj D1 (.deferred none)) := Recs.put _ HD1.out HDD.out rfl
      have M9 := HIN.out.recs hrec (by omega) (by omega)
      refine leave_mark HDD.out ⟨_, results_none rfl _ _ _, ⟨_, rfl⟩, M9.e.less (fun lv h1 h2 => M9.x lv h1 (by omega)), M9.w⟩
/-- What the costs of a polder's days are. -/
def PoM.T (p : PoM) (day : Nat) (lv : Int) : Int := p.d.vals (p.ds.l.drop day) lv
theorem PoM.tok (p : PoM) (hok : p.d.Ok) : Tok p.T := fun day lv => by
  have h1 := hok.cstDrop day lv
  have h2 := PoD.vals_le hok.p0 hok.i0 hok.p1 hok.i1 (ds := p.ds.l.drop day) (fun d hd => hok.d d (List.mem_of_mem_drop hd)) lv
  have h3 : p.ds.l.length ≤ 12 := hok.n2
  have h4 : (p.ds.l.drop day).length ≤ 12 := by rw [List.length_drop]; omega
  exact ⟨h1, by show p.d.vals _ lv ≤ _; omega⟩
theorem PoM.T_step (p : PoM) (day : Nat) (d : Dy) (h : p.ds.l[day]? = some d) (lv : Int) : p.T day lv = (p.d.bestD (p.T (day + 1)) d lv).2 := by
  have hlt := (List.getElem?_eq_some_iff.1 h).1
  have e : p.ds.l.drop day = d :: p.ds.l.drop (day + 1) := by
    rw [List.drop_eq_getElem_cons hlt, (List.getElem?_eq_some_iff.1 h).2]
  show p.d.vals (p.ds.l.drop day) lv = _
  rw [e]; rfl
theorem find_any (p : PoM) (D mb gp gf gk : Nat) (hok : p.d.Ok) (hAD : ∀ a, p.ds.A = some a → p.ds.l ≠ [] → a.block ≠ D) : ∀ (m day : Nat), day + m = p.ds.l.length → FindOk p p.T D mb gp gf gk day
  | 0, day, h => find_step p p.T D mb gp gf gk day hok (p.tok hok) p.T_step hAD (by omega) (fun h' => by omega)
  | m + 1, day, h => find_step p p.T D mb gp gf gk day hok (p.tok hok) p.T_step hAD (by omega) (fun _ => find_any p D mb gp gf gk hok hAD m (day + 1) (by omega))
end Go.Proofs.Yteognijlgalahaa
