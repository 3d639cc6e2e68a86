/- The texts SA SB SBA SC, joined. -/
import Derived.Test.YtebkhgficochoaaXC
import Derived.Test.YtebkhgficochoaaXE
import Derived.Test.YtebkhgficochoaaXF
/- hasOnsets, ProveTruth. -/
namespace Go.Proofs.Ytebkhgficochoaa
open Go.RowKit Go.Lib

theorem isOnset_any (r : RwM) (g : Nat) (o : Int) (w : World) (h : Lies w g 34 r.cells.toArray) (_hl : r.ws.l.length ≤ 1000000) :
    Calls Try.prog 73 #[.int .i64 o, .pointer (some ⟨g, 0, none⟩)] w fun e w' => e = .returned (.bool (inB o (-1) r.ws.l.length)) ∧ Below w.heap.size w w' := by
  have a1 : w.cell? ⟨g, 1, none⟩ = some (.slice r.ws.A r.ws.l.length r.ws.c) := h.at_ 1
  clear h
  go_enter Try.func73, Try.ntmps73
  go_wp2_with (go_at_call 65; refine (within_any _ _ _ _).mono ?_; rintro e w' ⟨rfl, rfl⟩)
  all_goals (go_ret; exact ⟨rfl, (by repeat (first | (with_reducible assumption) | (with_reducible exact Below.refl _ _) | (with_reducible refine Below.drew ?_) | (with_reducible refine below_drewN ?_ _) | ((with_reducible refine Below.setCell ?_ ?_ _); rotate_left; focus (first | (simp; done) | (simp; omega) | omega)) | ((with_reducible refine Below.alloc ?_ ?_ _); rotate_left; focus (first | (simp; done) | (simp; omega) | omega))))⟩)
theorem ask_onset (r : RwM) (g : Nat) (w : World) (h : Lies w g 34 r.cells.toArray) (hl : r.ws.l.length ≤ 1000000) (D : Int → Prop) :
    Ask Try.prog (Value.int .i64) 73 #[] #[.pointer (some ⟨g, 0, none⟩)] (fun o => inB o (-1) r.ws.l.length) D w :=
  ⟨enters_of Try.func73 (by kernel_rfl) rfl, fun W x _ hb => isOnset_any r g x W (h.call hb) hl⟩
/-- Has the list an onset for each plant? -/
def RwD.onsB (r : RwD) (l : List Int) : Bool := decide ((l.length : Int) = r.n) && l.all fun o => inB o (-1) r.ws.length
set_option maxRecDepth 100000 in
set_option maxHeartbeats 4000000 in
theorem hasOnsets_any (r : RwM) (A : Option Addr) (c : Nat) (l : List Int) (w : World) (hA : Sl w w.heap.size 1 encI A l) (hl : l.length ≤ 1000000) (hlw : r.ws.l.length ≤ 1000000) :
    Calls Try.prog 49 #[.agg r.cells.toArray, .slice A l.length c] w fun e w' => e = .returned (.bool (r.d.onsB l)) ∧ Below w.heap.size w w' := by
  have l0 : Lies (w.alloc (.cells r.cells.toArray 34)) w.heap.size 34 r.cells.toArray := Lies.fresh _ _ _
  have b0 : Below w.heap.size w (w.alloc (.cells r.cells.toArray 34)) := (by repeat (first | (with_reducible assumption) | (with_reducible exact Below.refl _ _) | (with_reducible refine Below.drew ?_) | (with_reducible refine below_drewN ?_ _) | ((with_reducible refine Below.setCell ?_ ?_ _); rotate_left; focus (first | (simp; done) | (simp; omega) | omega)) | ((with_reducible refine Below.alloc ?_ ?_ _); rotate_left; focus (first | (simp; done) | (simp; omega) | omega))))
  have hq : r.d.onsB l = (((l.length : Int) == r.n) && l.all fun o => inB o (-1) r.ws.l.length) := by
    have e : ((l.length : Int) == r.n) = decide ((l.length : Int) = r.n) := by by_cases h : (l.length : Int) = r.n <;> simp [h]
    rw [e]; rfl
  rw [hq]
  have hE := fun W (hb : Below w.heap.size w W) (h : Lies W w.heap.size 34 r.cells.toArray) => everyInt_any 73 #[] #[.pointer (some ⟨w.heap.size, 0, none⟩)] _ A c l W ((hA.below hb).more hb.size) (ask_onset r w.heap.size W h hlw (· ∈ l)) hl
  generalize (l.all fun o => inB o (-1) r.ws.l.length) = y at *
  generalize hyn : ((l.length : Int) == r.n) = yn at *
  have L0 := Lib.hid l0
  have B0 := Lib.hid b0
  have HE := Lib.hid hE
  clear l0 b0 hE hA hq
  cases yn
  all_goals
    go_enter Try.func49, Try.ntmps49
    go_upto_region 1 with (fail)
    change Code.wp _ _ _ _ (w.alloc (.cells r.cells.toArray 34))
    generalize w.alloc (.cells r.cells.toArray 34) = w0 at *
    have a0 : w0.cell? ⟨w.heap.size, 0, none⟩ = some (.int .i64 r.n) := L0.out.at_ 0
    go_wp2_with (go_at_call 68; refine (HE.out _ B0.out L0.out).mono ?_; rintro e w1 ⟨rfl, hb1⟩)
    go_ret
  · exact ⟨rfl, B0.out⟩
  · exact ⟨rfl, B0.out.trans (hb1.mono B0.out.size)⟩
/-- Is the list a possible truth of the row? -/
def RwD.proveD (r : RwD) (l : List Int) : Bool := decide (r.fault = 0) && r.onsB l && r.possB r.wins (truthD l)
theorem onsB_at {r : RwD} {l : List Int} (h : r.onsB l = true) : (l.length : Int) = r.n ∧ ∀ o, o ∈ l → -1 ≤ o ∧ o ≤ r.ws.length := by
  unfold RwD.onsB at h
  rw [Bool.and_eq_true, decide_eq_true_eq, List.all_eq_true] at h
  exact ⟨h.1, fun o ho => inB_iff.1 (h.2 o ho)⟩
theorem truthD_at {l : List Int} (p : Nat) : (truthD l).getD p 0 = if h : p < l.length then in31 l[p] else if p < l.length + (10 - l.length) then 31 else 0 := by
  unfold truthD
  rw [List.getD]
  by_cases h : p < l.length
  · rw [List.getElem?_append_left (by simpa using h), List.getElem?_map, dif_pos h]; simp [h]
  · rw [List.getElem?_append_right (by simpa using h), dif_neg h, List.getElem?_replicate]
    simp only [List.length_map]
    by_cases h2 : p < l.length + (10 - l.length)
    · rw [if_pos h2, if_pos (by omega)]; rfl
    · rw [if_neg h2, if_neg (by omega)]; rfl
theorem truth_trw {r : RwD} {l : List Int} (hl : l.length ≤ 10) (h : ∀ o, o ∈ l → -1 ≤ o ∧ o ≤ r.ws.length) : TrW r.ws.length (truthD l) := by
  refine ⟨truthD_length hl, fun i => ?_⟩
  rw [truthD_at]
  split
  · rename_i hi
    have := h l[i] (List.getElem_mem hi)
    unfold in31
    split <;> omega
  · split <;> omega
set_option maxRecDepth 100000 in
set_option maxHeartbeats 4000000 in
theorem ProveTruth_any (r : RwM) (A : Option Addr) (c : Nat) (l : List Int) (w : World) (hr : r.At w w.heap.size) (hA : Sl w w.heap.size 1 encI A l) (hl : l.length ≤ 1000000) :
    Calls Try.prog 20 #[.agg r.cells.toArray, .slice A l.length c] w fun e w' => e = .returned (.bool (r.d.proveD l)) ∧ Below w.heap.size w w' := by
  have l0 : Lies (w.alloc (.cells r.cells.toArray 34)) w.heap.size 34 r.cells.toArray := Lies.fresh _ _ _
  have b0 : Below w.heap.size w (w.alloc (.cells r.cells.toArray 34)) := (by repeat (first | (with_reducible assumption) | (with_reducible exact Below.refl _ _) | (with_reducible refine Below.drew ?_) | (with_reducible refine below_drewN ?_ _) | ((with_reducible refine Below.setCell ?_ ?_ _); rotate_left; focus (first | (simp; done) | (simp; omega) | omega)) | ((with_reducible refine Below.alloc ?_ ?_ _); rotate_left; focus (first | (simp; done) | (simp; omega) | omega))))
  have hC := CheckRow_any r _ (hr.below b0 b0.size)
  have hO := fun W (hb : Below w.heap.size w W) => hasOnsets_any r A c l W ((hA.below hb).more hb.size) hl hr.lw
  have hT := fun W (hb : Below w.heap.size w W) (h10 : l.length ≤ 10) => truthOf_any A c l W ((hA.below hb).more hb.size) h10
  by_cases hf : r.d.fault = 0
  · cases hyo : r.d.onsB l with
    | false =>
      have hp : r.d.proveD l = false := by unfold RwD.proveD; rw [hyo]; simp
      rw [hp]
      rw [hf] at hC
      rw [hyo] at hO
      have HC := Lib.hid hC
      have HO := Lib.hid hO
      have L0 := Lib.hid l0
      have B0 := Lib.hid b0
      clear hC hO hT l0 b0 hr hA hf hyo hp
      go_enter Try.func20, Try.ntmps20
      go_upto_region 1 with (fail)
      change Code.wp _ _ _ _ (w.alloc (.cells r.cells.toArray 34))
      generalize w.alloc (.cells r.cells.toArray 34) = w0 at *
      go_wp2_with (first
        | (refine wpList_load_row (o := ⟨some 5, _, _, _, _, _⟩) ?_ 34 (.tmp 2) ?_ w.heap.size ?_ 34 r.cells.toArray (0, 0) _ L0.out Try.underlying34 rfl size_row ?_; rfl; rfl; rfl)
        | (go_at_call 17; refine HC.out.mono ?_; rintro e w1 ⟨rfl, hb1⟩; have L1 := Lib.hid (L0.out.call hb1); have B1 := Lib.hid (B0.out.trans (hb1.mono B0.out.size)))
        | (refine wpList_load_rowG (o := ⟨some 9, _, _, _, _, _⟩) ?_ 34 (.tmp 2) ?_ w.heap.size ?_ 34 r.cells.toArray (0, 0) _ L1.out Try.underlying34 rfl size_row ?_; kernel_rfl; rfl; rfl)
        | (go_at_call 49; refine (HO.out _ B1.out).mono ?_; rintro e w2 ⟨rfl, hb2⟩))
      go_ret
      exact ⟨rfl, B1.out.trans (hb2.mono B1.out.size)⟩
    | true =>
      obtain ⟨hok, hn, hd, hlw, hln⟩ := fault_ok hf
      have hfit : ∀ x, x ∈ r.ns.l → x.Fit := fun x hx => fit_of hok (hr.kn x hx).1 (hn x hx)
      have hsh := hok.sh
      have hold := hok.old
      obtain ⟨hln2, hon⟩ := onsB_at hyo
      have h10 : l.length ≤ 10 := by have := hok.n1; omega
      have htw := truth_trw h10 hon
      have hp : r.d.proveD l = r.d.possB r.d.wins (truthD l) := by unfold RwD.proveD; rw [hyo, hf]; simp
      rw [hp]
      have hQ := fun W (hb : Below w.heap.size w W) => follow_any r W (hr.below hb hb.size) hfit hsh.1 (by have := hsh.2; have h2 : r.d.sh = r.sh := rfl; omega) hold.1 (by have := hold.2; have h2 : r.d.old = r.old := rfl; omega)
      have hP := fun W (hb : Below w.heap.size w W) => isPossible_any ⟨r, r.d.wins⟩ (truthD l) W r.d.wins_length (hr.below hb hb.size) hok (htw.ok hlw) (fun p _ => by have := htw.b p; have h2 : r.d.ws.length = r.ws.l.length := rfl; show (truthD l).getD p 0 = 31 ∨ (truthD l).getD p 0 ≤ (r.ws.l.length : Int); omega)
      rw [hf] at hC
      rw [hyo] at hO
      have HC := Lib.hid hC
      have HO := Lib.hid hO
      have HT := Lib.hid (fun W hb => hT W hb h10)
      have HQ := Lib.hid hQ
      have HP := Lib.hid hP
      have L0 := Lib.hid l0
      have B0 := Lib.hid b0
      clear hC hO hT hQ hP l0 b0 hr hA hf hyo hp htw hok hn hd hlw hln hfit hsh hold hln2 hon h10
      go_enter Try.func20, Try.ntmps20
      go_upto_region 1 with (fail)
      change Code.wp _ _ _ _ (w.alloc (.cells r.cells.toArray 34))
      generalize w.alloc (.cells r.cells.toArray 34) = w0 at *
      go_wp2_with (first
        | (refine wpList_load_row (o := ⟨some 5, _, _, _, _, _⟩) ?_ 34 (.tmp 2) ?_ w.heap.size ?_ 34 r.cells.toArray (0, 0) _ L0.out Try.underlying34 rfl size_row ?_; rfl; rfl; rfl)
        | (go_at_call 17; refine HC.out.mono ?_; rintro e w1 ⟨rfl, hb1⟩; have L1 := Lib.hid (L0.out.call hb1); have B1 := Lib.hid (B0.out.trans (hb1.mono B0.out.size)))
        | (refine wpList_load_rowG (o := ⟨some 9, _, _, _, _, _⟩) ?_ 34 (.tmp 2) ?_ w.heap.size ?_ 34 r.cells.toArray (0, 0) _ L1.out Try.underlying34 rfl size_row ?_; kernel_rfl; rfl; rfl)
        | (go_at_call 49; refine (HO.out _ B1.out).mono ?_; rintro e w2 ⟨rfl, hb2⟩; have L2 := Lib.hid (L1.out.call hb2); have B2 := Lib.hid (B1.out.trans (hb2.mono B1.out.size)))
        | (refine wpList_load_rowG (o := ⟨some 14, _, _, _, _, _⟩) ?_ 34 (.tmp 2) ?_ w.heap.size ?_ 34 r.cells.toArray (0, 0) _ L2.out Try.underlying34 rfl size_row ?_; kernel_rfl; rfl; rfl)
        | (go_at_call 50; refine (HQ.out _ B2.out).mono ?_; rintro e w3 ⟨rfl, hb3⟩; have B3 := Lib.hid (B2.out.trans (hb3.mono B2.out.size)))
        | (go_at_call 52; refine (HT.out _ B3.out).mono ?_; rintro e w4 ⟨rfl, hb4⟩; have B4 := Lib.hid (B3.out.trans (hb4.mono B3.out.size)))
        | (go_at_call 51; refine (HP.out _ B4.out).mono ?_; rintro e w5 ⟨rfl, hb5⟩))
      go_ret
      exact ⟨rfl, B4.out.trans (hb5.mono B4.out.size)⟩
  · have hp : r.d.proveD l = false := by unfold RwD.proveD; simp [hf]
    rw [hp]
    have hf0 : (r.d.fault == 0) = false := by simpa using hf
    generalize r.d.fault = ft at *
    have HC := Lib.hid hC
    have L0 := Lib.hid l0
    have B0 := Lib.hid b0
    clear hC hO hT l0 b0 hr hA hf hp
    go_enter Try.func20, Try.ntmps20
    go_upto_region 1 with (fail)
    change Code.wp _ _ _ _ (w.alloc (.cells r.cells.toArray 34))
    generalize w.alloc (.cells r.cells.toArray 34) = w0 at *
    go_wp2_with (first
      | (refine wpList_load_row (o := ⟨some 5, _, _, _, _, _⟩) ?_ 34 (.tmp 2) ?_ w.heap.size ?_ 34 r.cells.toArray (0, 0) _ L0.out Try.underlying34 rfl size_row ?_; rfl; rfl; rfl)
      | (go_at_call 17; refine HC.out.mono ?_; rintro e w1 ⟨rfl, hb1⟩))
    go_ret
    exact ⟨rfl, B0.out.trans (hb1.mono B0.out.size)⟩
end Go.Proofs.Ytebkhgficochoaa

/- Easier: with more flight, or a lesser lag, or a stock that was not clean, what was possible stays so. -/
namespace Go.Proofs.Ytebkhgficochoaa
open Go.RowKit Go.Lib

/-- x is r, where aphids have it no harder. -/
structure Easier (r x : RwD) : Prop where
  n : x.n = r.n
  dug : x.dug = r.dug
  sh : x.sh = r.sh
  old : x.old = r.old
  ns : x.ns = r.ns
  nw : x.ws.length = r.ws.length
  lag : 1 ≤ x.lag ∧ x.lag ≤ r.lag
  cl : r.cl = false → x.cl = false
  wk : ∀ week, (r.wk week).f ≤ (x.wk week).f ∧ ((r.wk week).o = true → (x.wk week).o = true)
  w10 : ∀ y, y ∈ x.ws → 0 ≤ y.f ∧ y.f ≤ 10
section
variable {r x : RwD}
theorem Easier.dg (h : Easier r x) (p : Int) : x.dg p = r.dg p := by unfold RwD.dg; rw [h.dug]
theorem Easier.wins (h : Easier r x) : x.wins = r.wins := by unfold RwD.wins; rw [h.sh, h.old, h.ns]
theorem Easier.src (h : Easier r x) {p : Nat} {week : Int} {q : Nat} (hq : q ∈ r.srcD p week) : q ∈ x.srcD p week := by
  unfold RwD.srcD RwD.srcFrom at *
  obtain ⟨h1, h2⟩ := List.mem_filter.1 hq
  refine List.mem_filter.2 ⟨?_, ?_⟩
  · have h3 := List.mem_range'_1.1 h1
    refine List.mem_range'_1.2 ?_
    have hw := (h.wk week).1
    have hn := h.n
    unfold RwD.nearD RwD.farD at *
    omega
  · unfold RwD.srcOk at *
    rw [h.dg]; exact h2
theorem Easier.fall (h : Easier r x) {t : List Int} {p : Nat} {k : Int} (hf : r.fallB t p k = true) : x.fallB t p k = true := by
  unfold RwD.fallB at *
  split
  · rename_i h0
    rw [if_pos h0] at hf
    have := h.cl (by simpa using hf)
    simp [this]
  · rename_i h0
    rw [if_neg h0] at hf
    rw [h.dg]
    split
    · rename_i h1; rw [if_pos h1] at hf; exact hf
    · rename_i h1
      rw [if_neg h1] at hf
      rw [Bool.or_eq_true] at *
      refine hf.imp (fun hs => ?_) (fun hs => ?_)
      · unfold RwD.srcAny at *
        rw [List.any_eq_true] at *
        obtain ⟨q, hq, hd⟩ := hs
        refine ⟨q, h.src hq, ?_⟩
        rw [decide_eq_true_eq] at *
        have := h.lag
        omega
      · unfold RwD.reachB at *
        rw [Bool.and_eq_true, decide_eq_true_eq] at *
        have hw := h.wk k
        have hn := h.n
        exact ⟨hw.2 hs.1, by omega⟩
theorem Easier.poss (h : Easier r x) {ws : List (Int × Int)} {t : List Int} (hp : r.possB ws t = true) : x.possB ws t = true := by
  refine all_range.2 fun q hq => ?_
  have hp2 := all_range.1 hp q (by rw [← h.dug]; exact hq)
  unfold RwD.possAt at *
  rw [Bool.and_eq_true, Bool.or_eq_true] at *
  exact ⟨hp2.1, hp2.2.imp id h.fall⟩
theorem Easier.fault (h : Easier r x) (hf : r.fault = 0) : x.fault = 0 := by
  have hf2 := hf
  obtain ⟨hok, hns, hdg, hlw, hln⟩ := fault_ok hf2
  refine fault_yes (by rw [h.nw]; exact hlw) (by rw [h.ns]; exact hln) ?_
  unfold RwD.validB
  simp only [Bool.and_eq_true, inB_iff, decide_eq_true_eq, List.all_eq_true]
  have hl := h.lag
  have hl2 := hok.lag
  refine ⟨⟨⟨⟨⟨⟨⟨⟨by rw [h.n]; exact hok.n0, by rw [h.n]; exact hok.n1⟩, fun y hy => h.w10 y hy⟩, by omega⟩, by rw [h.sh]; exact hok.sh⟩, by rw [h.old]; exact hok.old⟩, by rw [h.dug, h.n]; exact hok.dug⟩, fun m hm => ?_⟩, fun y hy => ?_⟩
  · rw [h.nw]; exact hdg m (by rw [← h.dug]; exact hm)
  · have := hns y (by rw [← h.ns]; exact hy)
    unfold RwD.haveB at *
    rw [h.n, h.nw, h.dg]; exact this
theorem Easier.prove (h : Easier r x) {l : List Int} (hp : r.proveD l = true) : x.proveD l = true := by
  unfold RwD.proveD at *
  rw [Bool.and_eq_true, Bool.and_eq_true, decide_eq_true_eq] at *
  refine ⟨⟨h.fault hp.1.1, ?_⟩, by rw [h.wins]; exact h.poss hp.2⟩
  have := hp.1.2
  unfold RwD.onsB at *
  rw [h.n, h.nw]; exact this
theorem Easier.less (h : Easier r x) (hf : r.fault = 0) (hc : r.can = true) : x.can = true ∧ ∀ q, q < r.dug.length → x.earliest.getD q 0 ≤ r.earliest.getD q 0 := by
  have := less_of (fault_ok (h.fault hf)).1 (fault_ok hf).1 h.nw.symm (by rw [h.dug]) (ws := x.wins) (wx := r.wins) (fun t _ ht => by rw [h.wins]; exact h.poss ht) hc
  rw [h.dug] at this
  exact this
end
theorem less_easier (r x : RwM) (w : World) (hx : x.At w w.heap.size) (hr : r.At w w.heap.size) (htx : ThinM x) (ht : ThinM r) (hf : r.d.fault = 0) (h : Easier r.d x.d) :
    Calls Try.prog 41 #[.agg x.cells.toArray, .agg r.cells.toArray] w fun e w' => e = .returned (.bool true) ∧ Below w.heap.size w w' := by
  have hfx := h.fault hf
  obtain ⟨hok, -, -, hlw, -⟩ := fault_ok hf
  obtain ⟨hokx, -, -, hlwx, -⟩ := fault_ok hfx
  have h10 : r.d.dug.length ≤ 10 := by have := hok.dug; have := hok.n1; omega
  have h10x : x.d.dug.length ≤ 10 := by have := hokx.dug; have := hokx.n1; omega
  cases hcr : r.d.can with
  | false =>
    cases hcx : x.d.can with
    | true => exact less_sick_yes x r w hx hr htx ht (err_ok hfx hcx) (err_sick hf hcr)
    | false => exact less_sick_no x r w hx hr htx ht (err_sick hfx hcx) (err_sick hf hcr)
  | true =>
    obtain ⟨hcx, hle⟩ := h.less hf hcr
    refine less_both x r w hx hr htx ht (err_ok hfx hcx) (err_ok hf hcr) ?_ ?_ hokx.n1 fun k a b ha hb => ?_
    · rw [firstD_length _ h10x]; exact hokx.dug
    · rw [firstD_length _ h10]; exact (show (r.d.dug.length : Int) = x.d.n by rw [h.n]; exact hok.dug)
    · obtain ⟨hk, rfl⟩ := first_at h10x ha
      obtain ⟨hk2, rfl⟩ := first_at h10 hb
      have b1 := (earliest_ok (r := x.d)).b k
      have b2 := (earliest_ok (r := r.d)).b k
      exact out31_le (by omega) (by omega) (hle k hk2)
/-- Week i with more flight, or with aphids from elsewhere. -/
theorem wk_set (r : RwD) (i : Nat) (y : Wk) (hi : i < r.ws.length) (week : Int) : ({ r with ws := r.ws.set i y } : RwD).wk week = if (week - 1).toNat = i then y else r.wk week := by
  unfold RwD.wk
  simp only [List.getD, List.getElem?_set]
  by_cases e : i = (week - 1).toNat
  · subst e; rw [if_pos rfl, if_pos hi, if_pos rfl]; rfl
  · rw [if_neg e, if_neg (fun h => e h.symm)]
theorem Easier.refl {r : RwD} (hok : r.Ok) : Easier r r := ⟨rfl, rfl, rfl, rfl, rfl, rfl, ⟨hok.lag.1, Int.le_refl _⟩, id, fun _ => ⟨Int.le_refl _, id⟩, hok.wk⟩
theorem Easier.week {r : RwD} (hok : r.Ok) {i : Nat} {y z : Wk} (hi : r.ws[i]? = some z) (hf : z.f ≤ y.f ∧ y.f ≤ 10) (ho : z.o = true → y.o = true) : Easier r { r with ws := r.ws.set i y } := by
  have hl := (List.getElem?_eq_some_iff.1 hi).1
  have hz := hok.wk z (List.mem_of_getElem? hi)
  refine ⟨rfl, rfl, rfl, rfl, rfl, List.length_set, ⟨hok.lag.1, Int.le_refl _⟩, id, fun week => ?_, fun v hv => ?_⟩
  · rw [wk_set r i y hl]
    split
    · rename_i e
      have : r.wk week = z := by unfold RwD.wk; rw [e, List.getD, hi]; rfl
      rw [this]; exact ⟨hf.1, ho⟩
    · exact ⟨Int.le_refl _, id⟩
  · rcases List.mem_or_eq_of_mem_set hv with h | rfl
    · exact hok.wk v h
    · exact ⟨by omega, hf.2⟩
theorem Easier.lagged {r : RwD} (hok : r.Ok) (k : Int) (h : 1 ≤ k ∧ k ≤ r.lag) : Easier r { r with lag := k } :=
  ⟨rfl, rfl, rfl, rfl, rfl, rfl, h, id, fun _ => ⟨Int.le_refl _, id⟩, hok.wk⟩
theorem Easier.clean {r : RwD} (hok : r.Ok) : Easier r { r with cl := false } :=
  ⟨rfl, rfl, rfl, rfl, rfl, rfl, ⟨hok.lag.1, Int.le_refl _⟩, fun _ => rfl, fun _ => ⟨Int.le_refl _, id⟩, hok.wk⟩
end Go.Proofs.Ytebkhgficochoaa

/- IllAphids: what the switch changes. -/
namespace Go.Proofs.Ytebkhgficochoaa
open Go.RowKit Go.Lib

/-- What stands behind the switch: the row x, easier than r. -/
structure AphX (r x : RwM) (w : World) (gx : Nat) (W : World) : Prop where
  o : Lies W gx 26 x.cells.toArray
  a : x.At W W.heap.size
  t : ThinM x
  e : Easier r.d x.d
  r : Lies W w.heap.size 26 r.cells.toArray
  b : Below w.heap.size w W
theorem aph_mk {r x : RwM} {w W : World} {gx : Nat} (ho : Lies W gx 26 x.cells.toArray) (hws : Sl W W.heap.size 2 encW x.ws.A x.ws.l) (hl : x.ws.l.length = r.ws.l.length) (hd : x.dug = r.dug) (hn : x.ns = r.ns)
    (he : Easier r.d x.d) (hr : r.At w w.heap.size) (ht : ThinM r) (hL : Lies W w.heap.size 26 r.cells.toArray) (hB : Below w.heap.size w W) : AphX r x w gx W := by
  have ha := hr.below hB hB.size
  refine ⟨ho, ⟨hws, by rw [hd]; exact ha.dug, by rw [hn]; exact ha.ns, by rw [hl]; exact ha.lw, by rw [hd]; exact ha.ld, by rw [hn]; exact ha.ln, by rw [hn]; exact ha.kn⟩, ⟨by rw [hl]; exact ht.w, by rw [hn]; exact ht.n, by rw [hd]; exact ht.d, by rw [hd]; exact ht.nn⟩, he, hL, hB⟩
/-- The week that w points to, ahead of the switch. -/
structure Aph8 (r : RwM) (w : World) (gx gq oq : Nat) (f : Int) (o : Bool) (W : World) : Prop where
  cf : W.cell? ⟨gq, oq, none⟩ = some (.int .i64 f)
  co : W.cell? ⟨gq, oq + 1, none⟩ = some (.bool o)
  ff : W.frozen? ⟨gq, oq, none⟩ = false
  fo : W.frozen? ⟨gq, oq + 1, none⟩ = false
  f0 : 0 ≤ f ∧ f ≤ 10
  cl : W.cell? ⟨gx, 2, none⟩ = some (.int .i64 r.lag)
  cc : W.cell? ⟨gx, 5, none⟩ = some (.bool r.cl)
  fl : W.frozen? ⟨gx, 2, none⟩ = false
  fc : W.frozen? ⟨gx, 5, none⟩ = false
  e0 : ∀ v, f ≤ v → v ≤ 10 → ∃ x, AphX r x w gx (W.setCell ⟨gq, oq, none⟩ (.int .i64 v))
  e1 : ∃ x, AphX r x w gx (W.setCell ⟨gq, oq + 1, none⟩ (.bool true))
  e2 : ∀ k, 1 ≤ k → k ≤ r.lag → ∃ x, AphX r x w gx (W.setCell ⟨gx, 2, none⟩ (.int .i64 k))
  e3 : ∃ x, AphX r x w gx (W.setCell ⟨gx, 5, none⟩ (.bool false))
theorem setCell_ne (w : World) (g a b : Nat) (u : Value) (h : a ≠ b) : (w.setCell ⟨g, a, none⟩ u).cell? ⟨g, b, none⟩ = w.cell? ⟨g, b, none⟩ :=
  World.cell?_setCell_other w _ _ u (fun h' => h (congrArg Addr.off h'))
/-- A struct of k cells in a row of the call's own, one cell of it written. -/
theorem own_setK {α : Type} {enc : α → List Value} {k : Nat} (hk : ∀ x, (enc x).length = k) {w : World} {base : Nat} {e : TypeId} {A : Option Addr} {c p : Nat} {l : List α} {z : α} (h : w.ownsRow base e k (.slice A l.length c) l.length (l.flatMap enc)) (hp : l[p]? = some z) :
    ∃ g, A = some ⟨g, 0, none⟩ ∧ base ≤ g ∧ g < w.heap.size ∧ (∀ j u, (enc z)[j]? = some u → w.cell? ⟨g, p * k + j, none⟩ = some u) ∧ (∀ i, w.frozen? ⟨g, i, none⟩ = false) ∧
      (∀ q u y, (enc y)[q]? = some u → (∀ j, j ≠ q → (enc y)[j]? = (enc z)[j]?) → Sl (w.setCell ⟨g, p * k + q, none⟩ u) w.heap.size k enc A (l.set p y)) := by
  obtain ⟨A', c', e1, -, hS⟩ := Sl.of_own (enc := enc) hk h rfl
  cases e1
  have hlt := (List.getElem?_eq_some_iff.1 hp).1
  rcases h.2 with ⟨hv, h0⟩ | ⟨g, cap, cur, hv, hbg, hgg, hnc, hcm, hcs, htake⟩
  · omega
  · cases hv
    have hl : Lies w g e cur := hgg
    have hg := hl.in_
    have hcell : ∀ i x, l[i]? = some x → ∀ j u, (enc x)[j]? = some u → w.cell? ⟨g, i * k + j, none⟩ = some u := fun i x hx j u hu => by
      obtain ⟨b, off, e2, _, hc⟩ := hS.at_ hx
      cases e2
      simpa using hc j u hu
    refine ⟨g, rfl, hbg, hg, hcell p z hp, fun i => hl.free i, fun q u y hq hj hne => ⟨g, 0, rfl, hg, fun i y' hy j u' hu => ?_⟩⟩
    rw [Nat.zero_add]
    rw [List.getElem?_set] at hy
    have hqk : q < k := by have := (List.getElem?_eq_some_iff.1 hq).1; rwa [hk] at this
    have hjk : j < k := by have := (List.getElem?_eq_some_iff.1 hu).1; rwa [hk] at this
    by_cases e2 : p = i
    · subst e2
      rw [if_pos rfl, if_pos hlt] at hy
      cases hy
      by_cases e3 : j = q
      · subst e3
        rw [hq] at hu
        cases hu
        have hz : ∃ v, (enc z)[j]? = some v := ⟨(enc z)[j]'(by rw [hk]; exact hjk), by simp⟩
        obtain ⟨v, hv⟩ := hz
        exact World.cell?_setCell_same _ _ _ (hcell p z hp j v hv)
      · rw [setCell_ne _ _ _ _ _ (by omega)]
        exact hcell p z hp j u' (by rw [← hj j e3]; exact hu)
    · rw [if_neg e2] at hy
      rw [setCell_ne _ _ _ _ _ (fun h => e2 ?_)]
      · exact hcell i y' hy j u' hu
      · have h1 : (p * k + q) / k = (i * k + j) / k := by rw [h]
        rw [Nat.mul_comm p, Nat.mul_comm i, Nat.mul_add_div (by omega), Nat.mul_add_div (by omega), Nat.div_eq_of_lt hqk, Nat.div_eq_of_lt hjk] at h1
        omega
theorem own_setW {w : World} {base : Nat} {e : TypeId} {A : Option Addr} {c p : Nat} {l : List Wk} {z : Wk} (h : w.ownsRow base e 2 (.slice A l.length c) l.length (l.flatMap encW)) (hp : l[p]? = some z) :
    ∃ g, A = some ⟨g, 0, none⟩ ∧ base ≤ g ∧ g < w.heap.size ∧ w.cell? ⟨g, p * 2, none⟩ = some (.int .i64 z.f) ∧ w.cell? ⟨g, p * 2 + 1, none⟩ = some (.bool z.o) ∧ (∀ k, w.frozen? ⟨g, k, none⟩ = false) ∧
      (∀ v, Sl (w.setCell ⟨g, p * 2, none⟩ (.int .i64 v)) w.heap.size 2 encW A (l.set p ⟨v, z.o⟩)) ∧ (∀ v, Sl (w.setCell ⟨g, p * 2 + 1, none⟩ (.bool v)) w.heap.size 2 encW A (l.set p ⟨z.f, v⟩)) := by
  obtain ⟨g, h1, h2, h3, h4, h5, h6⟩ := own_setK (enc := encW) (fun _ => rfl) h hp
  refine ⟨g, h1, h2, h3, h4 0 _ rfl, h4 1 _ rfl, h5, fun v => h6 0 _ ⟨v, z.o⟩ rfl (fun j hj => ?_), fun v => h6 1 _ ⟨z.f, v⟩ rfl (fun j hj => ?_)⟩
  · match j, hj with
    | 1, _ => rfl
    | j + 2, _ => rfl
  · match j, hj with
    | 0, _ => rfl
    | j + 2, _ => rfl
/-- With no week, w points to one of its own. -/
theorem Aph8.none {r x0 : RwM} {w W : World} {gx gw : Nat} {A5 : Option Addr} {c5 B : Nat} (hx0 : x0 = { r with ws := ⟨A5, r.ws.l, c5⟩ }) (ho : Lies W gx 26 x0.cells.toArray) (hw : Lies W gw 76 #[.int .i64 0, .bool false]) (hws : W.ownsRow B 76 2 (.slice A5 r.ws.l.length c5) r.ws.l.length (r.ws.l.flatMap encW))
    (hr : r.At w w.heap.size) (ht : ThinM r) (hL : Lies W w.heap.size 26 r.cells.toArray) (hB : Below w.heap.size w W) (hf : r.d.fault = 0) (hg : w.heap.size < gx) (hg2 : gx < B) (hg3 : ∀ j, (Value.slice A5 r.ws.l.length c5).ownBlock = some j → j < gw) (hg4 : gx < gw) :
    Aph8 r w gx gw 0 0 false W := by
  obtain ⟨hok, -, -, -, -⟩ := fault_ok hf
  have hd0 : x0.d = r.d := by subst hx0; rfl
  have key : ∀ (g i : Nat) (u : Value) (x : RwM), Lies (W.setCell ⟨g, i, Option.none⟩ u) gx 26 x.cells.toArray → (g = gx ∨ g = gw) → x.ws = ⟨A5, r.ws.l, c5⟩ → x.dug = r.dug → x.ns = r.ns → Easier r.d x.d → AphX r x w gx (W.setCell ⟨g, i, Option.none⟩ u) := fun g i u x hl hgg h1 h2 h3 he => by
    have hO := Only.set g i W u
    have ho5 := own_keep hws fun j hj => hO.block j (by have := (own_at hws hj).1; have := hg3 j hj; omega)
    obtain ⟨_, _, e1, _, s1⟩ := Sl.of_own (enc := encW) (fun _ => rfl) ho5 rfl
    cases e1
    exact aph_mk hl (by rw [h1]; exact s1) (by rw [h1]) h2 h3 he hr ht (hO.lies hL (by omega)) (hO.below hB (by omega))
  have hlag := hok.lag
  refine ⟨hw.at_ 0, hw.at_ 1, hw.free 0, hw.free 1, by omega, ?_, ?_, ho.free 2, ho.free 5, fun v _ _ => ⟨x0, ?_⟩, ⟨x0, ?_⟩, fun k h1 h2 => ⟨{ x0 with lag := k }, ?_⟩, ⟨{ x0 with cl := false }, ?_⟩⟩
  · rw [ho.at_]; subst hx0; rfl
  · rw [ho.at_]; subst hx0; rfl
  · exact key gw 0 _ x0 (ho.other (by simp; omega) _) (.inr rfl) (by rw [hx0]) (by rw [hx0]) (by rw [hx0]) (by rw [hd0]; exact Easier.refl hok)
  · exact key gw 1 _ x0 (ho.other (by simp; omega) _) (.inr rfl) (by rw [hx0]) (by rw [hx0]) (by rw [hx0]) (by rw [hd0]; exact Easier.refl hok)
  · exact key gx 2 _ _ (by have h := ho.set 2 (.int .i64 k); unfold RwM.cells at *; simpa using h) (.inl rfl) (by rw [hx0]) (by rw [hx0]) (by rw [hx0]) (by subst hx0; exact Easier.lagged hok k ⟨h1, h2⟩)
  · exact key gx 5 _ _ (by have h := ho.set 5 (.bool false); unfold RwM.cells at *; simpa using h) (.inl rfl) (by rw [hx0]) (by rw [hx0]) (by rw [hx0]) (by subst hx0; exact Easier.clean hok)
/-- With weeks, it points to one of x's. -/
theorem Aph8.some {r x0 : RwM} {w W : World} {gx g5 p : Nat} {A5 : Option Addr} {c5 B : Nat} {z : Wk} (hx0 : x0 = { r with ws := ⟨A5, r.ws.l, c5⟩ }) (ho : Lies W gx 26 x0.cells.toArray) (hz : r.ws.l[p]? = Option.some z) (hA : A5 = Option.some ⟨g5, 0, Option.none⟩) (hws : W.ownsRow B 76 2 (.slice A5 r.ws.l.length c5) r.ws.l.length (r.ws.l.flatMap encW))
    (hr : r.At w w.heap.size) (ht : ThinM r) (hL : Lies W w.heap.size 26 r.cells.toArray) (hB : Below w.heap.size w W) (hf : r.d.fault = 0) (hg : w.heap.size < gx) (hg2 : gx < B) :
    Aph8 r w gx g5 (p * 2) z.f z.o W := by
  obtain ⟨hok, -, -, -, -⟩ := fault_ok hf
  obtain ⟨g, e1, hbg, hgh, cf, co, ff, sf, so⟩ := own_setW hws hz
  rw [hA] at e1
  cases e1
  have hz10 := hok.wk z (List.mem_of_getElem? hz)
  have hlag := hok.lag
  have key : ∀ (i : Nat) (u : Value) (y : Wk), Sl (W.setCell ⟨g5, i, Option.none⟩ u) W.heap.size 2 encW A5 (r.ws.l.set p y) → Easier r.d { r.d with ws := r.ws.l.set p y } → AphX r { r with ws := ⟨A5, r.ws.l.set p y, c5⟩ } w gx (W.setCell ⟨g5, i, Option.none⟩ u) := fun i u y hs he => by
    have hO := Only.set g5 i W u
    refine aph_mk ?_ (hs.more (by simp)) (by simp) rfl rfl he hr ht (hO.lies hL (by omega)) (hO.below hB (by omega))
    have h := hO.lies ho (by omega)
    subst hx0
    unfold RwM.cells at *
    simpa using h
  have key2 : ∀ (i : Nat) (u : Value) (x : RwM), Lies (W.setCell ⟨gx, i, Option.none⟩ u) gx 26 x.cells.toArray → x.ws = ⟨A5, r.ws.l, c5⟩ → x.dug = r.dug → x.ns = r.ns → Easier r.d x.d → AphX r x w gx (W.setCell ⟨gx, i, Option.none⟩ u) := fun i u x hl h1 h2 h3 he => by
    have hO := Only.set gx i W u
    have ho5 := own_keep hws fun j hj => hO.block j (by have := (own_at hws hj).1; omega)
    obtain ⟨_, _, e1, _, s1⟩ := Sl.of_own (enc := encW) (fun _ => rfl) ho5 rfl
    cases e1
    exact aph_mk hl (by rw [h1]; exact s1) (by rw [h1]) h2 h3 he hr ht (hO.lies hL (by omega)) (hO.below hB (by omega))
  refine ⟨cf, co, ff _, ff _, hz10, ?_, ?_, ho.free 2, ho.free 5, fun v h1 h2 => ⟨_, key _ _ ⟨v, z.o⟩ (sf v) (Easier.week hok (i := p) (z := z) hz ⟨h1, h2⟩ id)⟩, ⟨_, key _ _ ⟨z.f, true⟩ (so true) (Easier.week hok (i := p) (z := z) hz ⟨Int.le_refl _, hz10.2⟩ (fun _ => rfl))⟩, fun k h1 h2 => ⟨{ x0 with lag := k }, ?_⟩, ⟨{ x0 with cl := false }, ?_⟩⟩
  · rw [ho.at_]; subst hx0; rfl
  · rw [ho.at_]; subst hx0; rfl
  · exact key2 2 _ _ (by have h := ho.set 2 (.int .i64 k); unfold RwM.cells at *; simpa using h) (by rw [hx0]) (by rw [hx0]) (by rw [hx0]) (by subst hx0; exact Easier.lagged hok k ⟨h1, h2⟩)
  · exact key2 5 _ _ (by have h := ho.set 5 (.bool false); unfold RwM.cells at *; simpa using h) (by rw [hx0]) (by rw [hx0]) (by rw [hx0]) (by subst hx0; exact Easier.clean hok)
end Go.Proofs.Ytebkhgficochoaa

/- IllAphids: the walk. -/
namespace Go.Proofs.Ytebkhgficochoaa
open Go.RowKit Go.Lib

theorem info_rweek : (Try.prog.info? 76).map (fun i => (i.zero, i.size, i.bytes)) = some (some (.agg #[.int .i64 0, .bool false]), 2, 16) := by kernel_rfl
theorem wpList_app_rweeks {ops : Array Oper} {rest : List Oper} {o : Oper} {a : Act} {w : World} {Q : Exit → Act → World → Prop} (hgd : o.guard = none) (s x : Operand) (ho : o.op = .call { callee := .builtin .append, args := #[s, x], argTypes := #[22, 22] })
    (base : Nat) (v : Value) (xs : List Wk) (hs : a.eval s = v) (hown : w.ownsRow base 76 2 v xs.length (xs.flatMap encW)) (A : Option Addr) (c : Nat) (ys : List Wk) (hx : a.eval x = .slice A ys.length c) (hA : A = none → ys.length = 0 ∧ c = 0) (hy : Sl w w.heap.size 2 encW A ys) (hl : xs.length + ys.length ≤ 1000) (hb : base ≤ w.heap.size)
    (h : ∀ v' w', w'.ownsRow base 76 2 v' (xs ++ ys).length ((xs ++ ys).flatMap encW) → Below base w w' → w.grownBy w' v.ownBlock → wpList Try.prog ops Q rest (a.put o.dst v') w') : wpList Try.prog ops Q (o :: rest) a w := by
  obtain ⟨i0, hi, hp⟩ := Option.map_eq_some_iff.1 info_rweek
  have hz0 := congrArg (·.1) hp
  have hz1 := congrArg (·.2.1) hp
  have hz2 := congrArg (·.2.2) hp
  dsimp only at hz0 hz1 hz2
  have hln : (ys.flatMap encW).length = ys.length * 2 := flat_len (enc := encW) (fun _ => rfl) _
  have h1c : ∀ u ∈ ys.flatMap encW, u.oneCell' = true := fun u hu => by
    obtain ⟨z, _, hz⟩ := List.mem_flatMap.1 hu
    exact encW_one z u hz
  refine wpList_append_sl hgd s x 22 ho base 76 i0 _ 2 16 Try.underlying22 hi hz0 hz1 hz2 rfl (by decide) v xs.length _ hs hown A ys.length c (ys.flatMap encW) hx hln hA (hy.news (enc := encW) (fun _ => rfl)) h1c (by unfold maxLen; omega) (by omega) hb ?_
  intro v' w' hown' hg _
  refine h v' w' (by rw [List.length_append, List.flatMap_append]; exact hown') ((Below.refl base w).grown hg hb (fun k e => (hown.lt k e).1)) hg
set_option maxRecDepth 100000 in
set_option maxHeartbeats 8000000 in
theorem IllAphids_unready (r : RwM) (s : Sv Int) (wh wk b : Nat) (w : World) (h : OpenRow r w) (hy : (r.d.thin && decide (r.d.fault = 0)) = false) : Calls Try.prog 13 #[.agg r.cells.toArray, s.val, .int .u8 wh, .int .u8 wk, .int .u8 b] w fun e w' => e = .returned (.bool true) ∧ Below w.heap.size w w' := by
  unfold Sv.val
  have l0 : Lies (w.alloc (.cells r.cells.toArray 26)) w.heap.size 26 r.cells.toArray := Lies.fresh _ _ _
  have b0 : Below w.heap.size w (w.alloc (.cells r.cells.toArray 26)) := (by repeat (first | (with_reducible assumption) | (with_reducible exact Below.refl _ _) | (with_reducible refine Below.drew ?_) | (with_reducible refine below_drewN ?_ _) | ((with_reducible refine Below.setCell ?_ ?_ _); rotate_left; focus (first | (simp; done) | (simp; omega) | omega)) | ((with_reducible refine Below.alloc ?_ ?_ _); rotate_left; focus (first | (simp; done) | (simp; omega) | omega))))
  have hR := fun W hb => ready_no h hy (W := W) hb
  have HR := Lib.hid hR
  have L0 := Lib.hid l0
  have B0 := Lib.hid b0
  clear hR l0 b0 hy h
  go_enter Try.func13, Try.ntmps13
  go_upto_region 1 with (fail)
  change Code.wp _ _ _ _ (w.alloc (.cells r.cells.toArray 26))
  generalize w.alloc (.cells r.cells.toArray 26) = w0 at *
  go_wp2_with (first
    | (refine wpList_load_row (o := ⟨some 13, _, _, _, _, _⟩) ?_ 26 (.tmp 5) ?_ w.heap.size ?_ 26 r.cells.toArray (0, 0) _ L0.out Try.underlying26 rfl size_refrow ?_; rfl; rfl; rfl)
    | (go_at_call 38; refine (HR.out _ B0.out).mono ?_; rintro e w1 ⟨rfl, hb1⟩)
    | (go_at_call 16; refine (awake_any _).mono ?_; rintro e w2 ⟨rfl, hb2⟩))
  go_ret
  exact ⟨rfl, B0.out.trans ((hb1.trans (hb2.mono hb1.size)).mono B0.out.size)⟩
set_option maxRecDepth 100000 in
set_option maxHeartbeats 8000000 in
theorem IllAphids_long (r : RwM) (s : Sv Int) (wh wk b : Nat) (w : World) (hr : r.At w w.heap.size) (hy : (r.d.thin && decide (r.d.fault = 0)) = true) (hl : 15 < s.l.length) : Calls Try.prog 13 #[.agg r.cells.toArray, s.val, .int .u8 wh, .int .u8 wk, .int .u8 b] w fun e w' => e = .returned (.bool true) ∧ Below w.heap.size w w' := by
  unfold Sv.val
  have l0 : Lies (w.alloc (.cells r.cells.toArray 26)) w.heap.size 26 r.cells.toArray := Lies.fresh _ _ _
  have b0 : Below w.heap.size w (w.alloc (.cells r.cells.toArray 26)) := (by repeat (first | (with_reducible assumption) | (with_reducible exact Below.refl _ _) | (with_reducible refine Below.drew ?_) | (with_reducible refine below_drewN ?_ _) | ((with_reducible refine Below.setCell ?_ ?_ _); rotate_left; focus (first | (simp; done) | (simp; omega) | omega)) | ((with_reducible refine Below.alloc ?_ ?_ _); rotate_left; focus (first | (simp; done) | (simp; omega) | omega))))
  have hR := fun W (hb : Below w.heap.size w W) => ready_any r W (hr.below hb hb.size)
  rw [hy] at hR
  have hlz : decide ((15 : Int) < (s.l.length : Int)) = true := by simp; omega
  have HR := Lib.hid hR
  have L0 := Lib.hid l0
  have B0 := Lib.hid b0
  clear hR l0 b0 hy hr hl
  go_enter Try.func13, Try.ntmps13
  go_upto_region 1 with (fail)
  change Code.wp _ _ _ _ (w.alloc (.cells r.cells.toArray 26))
  generalize w.alloc (.cells r.cells.toArray 26) = w0 at *
  go_wp2_with (first
    | (refine wpList_load_row (o := ⟨some 13, _, _, _, _, _⟩) ?_ 26 (.tmp 5) ?_ w.heap.size ?_ 26 r.cells.toArray (0, 0) _ L0.out Try.underlying26 rfl size_refrow ?_; rfl; rfl; rfl)
    | (go_at_call 38; refine (HR.out _ B0.out).mono ?_; rintro e w1 ⟨rfl, hb1⟩)
    | (go_at_call 16; refine (awake_any _).mono ?_; rintro e w2 ⟨rfl, hb2⟩))
  go_ret
  exact ⟨rfl, B0.out.trans ((hb1.trans (hb2.mono hb1.size)).mono B0.out.size)⟩
set_option maxRecDepth 100000 in
set_option maxHeartbeats 8000000 in
theorem IllAphids_main (r : RwM) (s : Sv Int) (wh wk b : Nat) (w : World) (hwh : wh ≤ 255) (hwk : wk ≤ 255) (hbb : b ≤ 255) (hr : r.At w w.heap.size) (ht : ThinM r) (hwn : r.ws.A = none → r.ws.l.length = 0 ∧ r.ws.c = 0) (hy : (r.d.thin && decide (r.d.fault = 0)) = true) (hf : r.d.fault = 0)
    (hs : Sl w w.heap.size 1 encI s.A s.l) (hsn : s.A = none → s.l.length = 0 ∧ s.c = 0) (hl : s.l.length ≤ 15) :
    Calls Try.prog 13 #[.agg r.cells.toArray, s.val, .int .u8 wh, .int .u8 wk, .int .u8 b] w fun e w' => e = .returned (.bool true) ∧ Below w.heap.size w w' := by
  unfold Sv.val
  have l0 : Lies (w.alloc (.cells r.cells.toArray 26)) w.heap.size 26 r.cells.toArray := Lies.fresh _ _ _
  have b0 : Below w.heap.size w (w.alloc (.cells r.cells.toArray 26)) := (by repeat (first | (with_reducible assumption) | (with_reducible exact Below.refl _ _) | (with_reducible refine Below.drew ?_) | (with_reducible refine below_drewN ?_ _) | ((with_reducible refine Below.setCell ?_ ?_ _); rotate_left; focus (first | (simp; done) | (simp; omega) | omega)) | ((with_reducible refine Below.alloc ?_ ?_ _); rotate_left; focus (first | (simp; done) | (simp; omega) | omega))))
  have hR := fun W (hb : Below w.heap.size w W) => ready_any r W (hr.below hb hb.size)
  rw [hy] at hR
  have hlz : decide ((15 : Int) < (s.l.length : Int)) = false := by simp; omega
  obtain ⟨n, hn⟩ : ∃ n, n = r.ws.l.length := ⟨_, rfl⟩
  have hn30 : n ≤ 30 := by have := (fault_ok hf).2.2.2.1; have h2 : r.d.ws.length = r.ws.l.length := rfl; omega
  have HR := Lib.hid hR
  have L0 := Lib.hid l0
  have B0 := Lib.hid b0
  have HRR := Lib.hid hr
  have HT := Lib.hid ht
  have HF := Lib.hid hf
  have HWN := Lib.hid hwn
  have HS := Lib.hid hs
  have HSN := Lib.hid hsn
  have HL := Lib.hid hl
  have HN := Lib.hid hn
  clear hR l0 b0 hy hr hl ht hwn hf hs hsn hn
  go_enter Try.func13, Try.ntmps13
  go_upto_region 1 with (fail)
  change Code.wp _ _ _ _ (w.alloc (.cells r.cells.toArray 26))
  generalize w.alloc (.cells r.cells.toArray 26) = w0 at *
  go_upto_region 3 with (first
    | (refine wpList_load_row (o := ⟨some 13, _, _, _, _, _⟩) ?_ 26 (.tmp 5) ?_ w.heap.size ?_ 26 r.cells.toArray (0, 0) _ L0.out Try.underlying26 rfl size_refrow ?_; rfl; rfl; rfl)
    | (go_at_call 38; refine (HR.out _ B0.out).mono ?_; rintro e w1 ⟨rfl, hb1⟩))
  have L1 := Lib.hid (L0.out.call hb1)
  have B1 := Lib.hid (B0.out.trans (hb1.mono B0.out.size))
  clear hb1 L0 B0 HR hlz
  have Z3 := Lib.hid (show Lies (w1.alloc (.cells zrow.toArray 26)) w1.heap.size 26 zrow.toArray from Lies.fresh _ _ _)
  go_upto_region 4 with (first
    | (refine wpList_load_row (o := ⟨some 22, _, _, _, _, _⟩) ?_ 26 (.tmp 5) ?_ w.heap.size ?_ 26 r.cells.toArray (0, 0) _ L1.out Try.underlying26 rfl size_refrow ?_; rfl; rfl; rfl)
    | (refine wpList_store_cells (o := ⟨none, .store 26 (.tmp 11) _, _, _, _, _⟩) ?_ 26 (.tmp 11) (.tmp 22) ?_ w1.heap.size 0 ?_ 26 zrow r.cells ?_ Z3.out (by simp [zrow, RwM.cells]) size_refrow (part_one r _ _ _ rfl rfl rfl) ?_; rfl; rfl; rfl; rfl; intro w4 HS4 HO4; (try simp only [Act.put])))
  have hs4 := HS4.out
  rw [splice_whole (by rfl)] at hs4
  have hz3 := (Below.refl w1.heap.size w1).alloc (Nat.le_refl _) (.cells zrow.toArray 26)
  have hb4 : Below w1.heap.size w1 w4 := HO4.out.below hz3 (Nat.le_refl _)
  have L4 := Lib.hid (L1.out.call hb4)
  have B4 := Lib.hid (B1.out.trans (hb4.mono B1.out.size))
  have X4 := Lib.hid hs4
  have hgx : w.heap.size < w1.heap.size := L1.out.in_
  have hgx4 : w1.heap.size < w4.heap.size := X4.out.in_
  clear hs4 hz3 hb4 HS4 HO4 Z3 L1 B1
  generalize w1.heap.size = gx at *
  have HD4 := Lib.hid ((HRR.out.ws.below B4.out).more B4.out.size)
  have a4 : (w4.alloc (.cells #[] 76)).cell? ⟨w.heap.size, 1, none⟩ = some (.slice r.ws.A r.ws.l.length r.ws.c) := (L4.out.alloc _).at_ 1
  have hln : r.ws.l.length ≤ 30 := by rw [← HN.out]; exact hn30
  go_upto_region 5 with (refine wpList_app_rweeks (o := ⟨some 26, _, _, _, _, _⟩) ?_ (.tmp 23) (.tmp 25) ?_ w4.heap.size (.slice (some ⟨w4.heap.size, 0, none⟩) 0 0) [] ?_ (by simpa using World.ownsRow_made w4 #[] 0 (Nat.le_refl _) (by decide) (by simp)) r.ws.A r.ws.c r.ws.l ?_ HWN.out (HD4.out.alloc (Nat.le_refl _) _ |>.more (by simp)) (by simp; omega) (by simp) ?_; rfl; rfl; rfl; rfl; intro v5 w5 hown5 hb5 hg5; rw [List.nil_append] at hown5; obtain ⟨A5, c5, hv5, hA5, -⟩ := Sl.of_own (enc := encW) (fun _ => rfl) hown5 rfl; subst hv5; have X5 := Lib.hid ((X4.out.alloc (.cells #[] 76)).below hb5 hgx4); have L5 := Lib.hid ((L4.out.alloc (.cells #[] 76)).below hb5 L4.out.in_); have B5 := Lib.hid ((B4.out.alloc B4.out.size (.cells #[] 76)).trans (hb5.mono B4.out.size)); have O5 := Lib.hid hown5; have c5' : w5.cell? ⟨gx, 1, none⟩ = some (.slice r.ws.A r.ws.l.length r.ws.c) := X5.out.at_ 1; have f5 : w5.frozen? ⟨gx, 1, none⟩ = false := X5.out.free 1; clear hown5 hb5 hg5)
  obtain ⟨x0, hx0⟩ : ∃ x0 : RwM, x0 = { r with ws := ⟨A5, r.ws.l, c5⟩ } := ⟨_, rfl⟩
  have hO6 := Only.set gx 1 w5 (.slice A5 r.ws.l.length c5)
  have X6 := Lib.hid (show Lies (w5.setCell ⟨gx, 1, none⟩ (.slice A5 r.ws.l.length c5)) gx 26 x0.cells.toArray by have h := X5.out.set 1 (.slice A5 r.ws.l.length c5); rw [hx0]; unfold RwM.cells at *; simpa using h)
  have L6 := Lib.hid (hO6.lies L5.out (by omega))
  have B6 := Lib.hid (hO6.below B5.out (by omega))
  have O6 := Lib.hid (own_keep O5.out fun j hj => hO6.block j (by have := (own_at O5.out hj).1; omega))
  have HX0 := Lib.hid hx0
  clear hO6 c5' f5 X5 L5 B5 O5 X4 L4 B4 HD4 a4 hA5 hx0
  generalize w5.setCell ⟨gx, 1, none⟩ (.slice A5 r.ws.l.length c5) = w6 at *
  generalize w4.heap.size = B at *
  go_upto_region 6 with (fail)
  have X7 := Lib.hid (X6.out.alloc (.cells #[.int .i64 0, .bool false] 76))
  have L7 := Lib.hid (L6.out.alloc (.cells #[.int .i64 0, .bool false] 76))
  have B7 := Lib.hid (B6.out.alloc B6.out.size (.cells #[.int .i64 0, .bool false] 76))
  have O7 := Lib.hid (ownsRow_call O6.out ((Below.refl w6.heap.size w6).alloc (Nat.le_refl _) (.cells #[.int .i64 0, .bool false] 76)))
  have W7 := Lib.hid (show Lies (w6.alloc (.cells #[.int .i64 0, .bool false] 76)) w6.heap.size 76 #[.int .i64 0, .bool false] from Lies.fresh _ _ _)
  have J7 := Lib.hid (fun j (hj : (Value.slice A5 r.ws.l.length c5).ownBlock = some j) => (own_at O6.out hj).2.1)
  have hgw : gx < w6.heap.size := X6.out.in_
  clear X6 L6 B6 O6
  change Code.wp _ _ _ _ (w6.alloc (.cells #[.int .i64 0, .bool false] 76))
  generalize w6.alloc (.cells #[.int .i64 0, .bool false] 76) = w7 at *
  generalize w6.heap.size = gw at *
  have a7 : w7.cell? ⟨gx, 1, none⟩ = some (.slice A5 n c5) := by rw [X7.out.at_, HX0.out, HN.out]; rfl
  go_upto_if 33 with (fail)
  go_cut [12] from 34 to 42 (fun s12 wx => ∃ (gq oq : Nat) (f : Int) (o : Bool), s12 = .pointer (some ⟨gq, oq, none⟩) ∧ Aph8 r w gx gq oq f o wx)
  case first =>
    by_cases hn0 : 0 < n
    · have hni : (n : Int) ≠ 0 := by omega
      have hnz : (n : Int) ≤ 30 := by omega
      have hwz : (wk : Int) ≤ 255 := by omega
      have hm0 : (0 : Int) ≤ (wk : Int) % (n : Int) := Int.emod_nonneg _ (by omega)
      have hm1 : (wk : Int) % (n : Int) < (n : Int) := Int.emod_lt_of_pos (wk : Int) (show (0 : Int) < n by omega)
      have hm2 : (wk : Int) % (n : Int) ≤ 255 := by omega
      have hnl := HN.out
      obtain ⟨z, hz⟩ : ∃ z, r.ws.l[wk % n]? = some z := ⟨r.ws.l[wk % n]'(by rw [← hnl]; exact Nat.mod_lt _ hn0), by simp⟩
      obtain ⟨g5, hA5, -⟩ := own_setW O7.out hz
      have HZ := Lib.hid hz
      have HA5 := Lib.hid hA5
      rw [hA5] at a7
      have r0 := cell_regrown a7
      clear hz hA5 hnl a7
      go_upto_region 7 with (fail)
      refine wp_region_quiet_below (by kernel_rfl) (by kernel_rfl) ?_; (repeat (first | go_big_quiet_step ((fail)) | quiet_step ((fail)))); refine wpQuiet_nil ?_; intro wq hwq; have hbq : Below _ _ wq := (by obtain ⟨p, rfl⟩ := hwq; exact below_regrown _ _ _); clear hwq
      go_wp2
      go_meet
      case rel => exact ⟨g5, wk % n * 2, z.f, z.o, rfl, Aph8.some HX0.out (X7.out.call hbq) HZ.out HA5.out (ownsRow_call O7.out hbq) HRR.out HT.out (L7.out.call hbq) (B7.out.trans (hbq.mono B7.out.size)) HF.out hgx hgx4⟩
    · have hnl := HN.out
      go_wp2
      go_meet
      case rel => exact ⟨gw, 0, 0, false, rfl, Aph8.none HX0.out X7.out W7.out O7.out HRR.out HT.out L7.out B7.out HF.out hgx hgx4 J7.out hgw⟩
  case rest =>
    obtain ⟨gq, oq, f, o, rfl, hM⟩ := hcut
    obtain ⟨d0, d1, d2, d3, ⟨d4, d5⟩, d6, d7, d8, d9, e0, e1, e2, e3⟩ := hM
    have E0 := Lib.hid e0
    have E1 := Lib.hid e1
    have E2 := Lib.hid e2
    have E3 := Lib.hid e3
    obtain ⟨hlg0, hlg1⟩ : 1 ≤ r.lag ∧ r.lag ≤ 30 := (fault_ok HF.out).1.lag
    have hwz : (wh : Int) ≤ 255 := by omega
    have hbz : (b : Int) ≤ 255 := by omega
    have hcase : ((wh : Int) % 4 = 0) ∨ ((wh : Int) % 4 = 1) ∨ ((wh : Int) % 4 = 2) ∨ ((wh : Int) % 4 = 3) := by omega
    have HCA := Lib.hid hcase
    have hb50 : (0 : Int) ≤ (b : Int) % 5 := by omega
    have hb51 : (b : Int) % 5 ≤ 4 := by omega
    have hb40 : (0 : Int) ≤ (b : Int) % 4 := by omega
    have hb41 : (b : Int) % 4 ≤ 3 := by omega
    clear e0 e1 e2 e3 hcase X7 L7 B7 O7 W7 J7 HX0 a7
    go_upto_region 10 with (fail)
    rcases HCA.out with h4 | h4 | h4 | h4
    all_goals rw [h4]; clear h4
    all_goals
      go_upto_region 16 with (fail)
      first
      | (with_reducible change Code.wp _ _ _ _ (wc.setCell ⟨gq, oq, none⟩ (.int .i64 (min 10 (f + (b : Int) % 5)))); obtain ⟨x, hX⟩ := E0.out (min 10 (f + (b : Int) % 5)) (by omega) (by omega); have HX := Lib.hid hX; clear hX d0 d1 d2 d3 d6 d7 d8 d9 E0 E1 E2 E3; generalize wc.setCell ⟨gq, oq, none⟩ (.int .i64 (min 10 (f + (b : Int) % 5))) = wz at *)
      | (with_reducible change Code.wp _ _ _ _ (wc.setCell ⟨gq, oq + 1, none⟩ (.bool true)); obtain ⟨x, hX⟩ := E1.out; have HX := Lib.hid hX; clear hX d0 d1 d2 d3 d6 d7 d8 d9 E0 E1 E2 E3; generalize wc.setCell ⟨gq, oq + 1, none⟩ (.bool true) = wz at *)
      | (with_reducible change Code.wp _ _ _ _ (wc.setCell ⟨gx, 2, none⟩ (.int .i64 (max 1 (r.lag - (b : Int) % 4)))); obtain ⟨x, hX⟩ := E2.out (max 1 (r.lag - (b : Int) % 4)) (by omega) (by omega); have HX := Lib.hid hX; clear hX d0 d1 d2 d3 d6 d7 d8 d9 E0 E1 E2 E3; generalize wc.setCell ⟨gx, 2, none⟩ (.int .i64 (max 1 (r.lag - (b : Int) % 4))) = wz at *)
      | (with_reducible change Code.wp _ _ _ _ (wc.setCell ⟨gx, 5, none⟩ (.bool false)); obtain ⟨x, hX⟩ := E3.out; have HX := Lib.hid hX; clear hX d0 d1 d2 d3 d6 d7 d8 d9 E0 E1 E2 E3; generalize wc.setCell ⟨gx, 5, none⟩ (.bool false) = wz at *)
      have RW := Lib.hid (fun W (hb : Below wz.heap.size wz W) => lawRow_thin r W ((HRR.out.below HX.out.b HX.out.b.size).below hb hb.size) HT.out)
      have RX := Lib.hid (fun W (hb : Below wz.heap.size wz W) => lawRow_thin x W (HX.out.a.below hb hb.size) HX.out.t)
      have RL := Lib.hid (fun W (hb : Below wz.heap.size wz W) => lawList_any s.A s.c s.l W (((HS.out.below HX.out.b).below (hb.mono HX.out.b.size)).more (Nat.le_trans HX.out.b.size hb.size)) (by have := HL.out; omega) HSN.out)
      have PR := Lib.hid (fun (q : RwM) (w0 V W : World) (A : Option Addr) (c : Nat) (h : LawR r w0 q V) (hb : Below V.heap.size V W) (hA : Sl W W.heap.size 1 encI A s.l) => (by have h2 := ProveTruth_any q A c s.l W (h.at_.below hb hb.size) hA (by have := HL.out; omega); rw [h.d] at h2; exact h2 : Calls Try.prog 20 #[.agg q.cells.toArray, .slice A s.l.length c] W fun e w' => e = .returned (.bool (r.d.proveD s.l)) ∧ Below W.heap.size W w'))
      have PX := Lib.hid (fun (q : RwM) (w0 V W : World) (A : Option Addr) (c : Nat) (h : LawR x w0 q V) (hb : Below V.heap.size V W) (hA : Sl W W.heap.size 1 encI A s.l) => (by have h2 := ProveTruth_any q A c s.l W (h.at_.below hb hb.size) hA (by have := HL.out; omega); rw [h.d] at h2; exact h2 : Calls Try.prog 20 #[.agg q.cells.toArray, .slice A s.l.length c] W fun e w' => e = .returned (.bool (x.d.proveD s.l)) ∧ Below W.heap.size W w'))
      have hpx := fun h => HX.out.e.prove (l := s.l) h
      have LE := Lib.hid (fun W (hb : Below wz.heap.size wz W) => less_easier r x W (HX.out.a.below hb hb.size) ((HRR.out.below HX.out.b HX.out.b.size).below hb hb.size) HX.out.t HT.out HF.out HX.out.e)
      generalize r.d.proveD s.l = pr at *
      generalize x.d.proveD s.l = px at *
      have LR := Lib.hid HX.out.r
      have LX := Lib.hid HX.out.o
      have BZ := Lib.hid HX.out.b
      clear HX HCA HS HSN HL HN HF HT HRR HWN
    all_goals
      have DZ := Lib.hid (Below.refl wz.heap.size wz)
      cases pr with
      | false =>
        clear hpx
        go_upto_region 18 with (first
          | ((fail_if_success (have hxx := D1)); refine wpList_load_row (o := ⟨some 75, _, _, _, _, _⟩) ?_ 26 (.tmp 5) ?_ w.heap.size ?_ 26 r.cells.toArray (0, 0) _ LR.out Try.underlying26 rfl size_refrow ?_; rfl; rfl; rfl)
          | ((fail_if_success (have hxx := D1)); go_at_call_of 18 (Value.agg r.cells.toArray); refine (RW.out _ DZ.out).mono ?_; rintro e w1 ⟨q, rfl, hq⟩; have D1 := Lib.hid hq.b)
          | ((fail_if_success (have hxx := D2)); go_at_call_of 21 (Value.slice s.A s.l.length s.c); refine (RL.out _ D1.out).mono ?_; rintro e w2 ⟨Al, cl, rfl, hAl, hSl, hbl⟩; have D2 := Lib.hid (D1.out.trans (hbl.mono D1.out.size)))
          | ((fail_if_success (have hxx := D3)); go_at_call_of 20 (Value.agg q.cells.toArray); refine (PR.out q _ _ _ Al cl hq hbl hSl).mono ?_; rintro e w3 ⟨rfl, hb3⟩; have D3 := Lib.hid (D2.out.trans (hb3.mono D2.out.size)); have LR3 := Lib.hid (LR.out.call D3.out); have LX3 := Lib.hid (LX.out.call D3.out)))
        clear hbl hSl hAl hq hb3 D1 D2 PR RW RX RL PX
        go_wp2_with (first
          | (have hxx := LX3; clear hxx; refine wpList_load_row (o := ⟨some 88, _, _, _, _, _⟩) ?_ 26 (.tmp 11) ?_ gx ?_ 26 x.cells.toArray (0, 0) _ LX3.out Try.underlying26 rfl size_refrow ?_; rfl; rfl; rfl)
          | (have hxx := LR3; clear hxx; refine wpList_load_row (o := ⟨some 89, _, _, _, _, _⟩) ?_ 26 (.tmp 5) ?_ w.heap.size ?_ 26 r.cells.toArray (0, 0) _ LR3.out Try.underlying26 rfl size_refrow ?_; rfl; rfl; rfl)
          | (go_at_call_of 41 (Value.agg x.cells.toArray); refine (LE.out _ D3.out).mono ?_; rintro e w4 ⟨rfl, hb4⟩)
          | (go_at_call 16; refine (awake_any _).mono ?_; rintro e w5 ⟨rfl, hb5⟩))
        go_ret
        exact ⟨rfl, BZ.out.trans ((D3.out.trans ((hb4.trans (hb5.mono hb4.size)).mono D3.out.size)).mono BZ.out.size)⟩
      | true =>
        obtain rfl := hpx rfl
        clear hpx
        go_upto_region 18 with (first
          | ((fail_if_success (have hxx := D1)); refine wpList_load_row (o := ⟨some 75, _, _, _, _, _⟩) ?_ 26 (.tmp 5) ?_ w.heap.size ?_ 26 r.cells.toArray (0, 0) _ LR.out Try.underlying26 rfl size_refrow ?_; rfl; rfl; rfl)
          | ((fail_if_success (have hxx := D1)); go_at_call_of 18 (Value.agg r.cells.toArray); refine (RW.out _ DZ.out).mono ?_; rintro e w1 ⟨q, rfl, hq⟩; have D1 := Lib.hid hq.b)
          | ((first | (have hxx := D4; clear hxx) | (fail_if_success (have hxx := D2))); go_at_call_of 21 (Value.slice s.A s.l.length s.c); refine (RL.out _ (by first | exact D4.out | exact D1.out)).mono ?_; rintro e w2 ⟨Al, cl, rfl, hAl, hSl, hbl⟩; have D2 := Lib.hid ((by first | exact D4.out.trans (hbl.mono D4.out.size) | exact D1.out.trans (hbl.mono D1.out.size) : Below wz.heap.size wz w2)))
          | ((fail_if_success (have hxx := D3)); go_at_call_of 20 (Value.agg q.cells.toArray); refine (PR.out q _ _ _ Al cl hq hbl hSl).mono ?_; rintro e w3 ⟨rfl, hb3⟩; have D3 := Lib.hid (D2.out.trans (hb3.mono D2.out.size)); have LX3 := Lib.hid (LX.out.call D3.out))
          | (have hxx := LX3; clear hxx; (fail_if_success (have hxx := D4)); refine wpList_load_rowG (o := ⟨some 81, _, _, _, _, _⟩) ?_ 26 (.tmp 11) ?_ gx ?_ 26 x.cells.toArray (0, 0) _ LX3.out Try.underlying26 rfl size_refrow ?_; kernel_rfl; rfl; rfl)
          | (have hxx := D3; clear hxx; (fail_if_success (have hxx := D4)); go_at_call_of 18 (Value.agg x.cells.toArray); refine (RX.out _ D3.out).mono ?_; rintro e w4 ⟨q4, rfl, hq4⟩; have D4 := Lib.hid (D3.out.trans (hq4.b.mono D3.out.size)))
          | (have hxx := hq4; clear hxx; go_at_call_of 20 (Value.agg q4.cells.toArray); refine (PX.out q4 _ _ _ Al cl hq4 hbl hSl).mono ?_; rintro e w6 ⟨rfl, hb6⟩; have D6 := Lib.hid (D2.out.trans (hb6.mono D2.out.size)); have LR6 := Lib.hid (LR.out.call D6.out); have LX6 := Lib.hid (LX.out.call D6.out)))
        clear D1 D2 D3 D4 hq hq4 hb3 hb6 hbl hSl hAl LX3 RW RX RL PR PX
        go_wp2_with (first
          | (refine wpList_load_row (o := ⟨some 88, _, _, _, _, _⟩) ?_ 26 (.tmp 11) ?_ gx ?_ 26 x.cells.toArray (0, 0) _ LX6.out Try.underlying26 rfl size_refrow ?_; rfl; rfl; rfl)
          | (refine wpList_load_row (o := ⟨some 89, _, _, _, _, _⟩) ?_ 26 (.tmp 5) ?_ w.heap.size ?_ 26 r.cells.toArray (0, 0) _ LR6.out Try.underlying26 rfl size_refrow ?_; rfl; rfl; rfl)
          | (go_at_call_of 41 (Value.agg x.cells.toArray); refine (LE.out _ D6.out).mono ?_; rintro e w7 ⟨rfl, hb7⟩)
          | (go_at_call 16; refine (awake_any _).mono ?_; rintro e w8 ⟨rfl, hb8⟩))
        go_ret
        exact ⟨rfl, BZ.out.trans ((D6.out.trans ((hb7.trans (hb8.mono hb7.size)).mono D6.out.size)).mono BZ.out.size)⟩
theorem IllAphids_walk (r : RwM) (s : Sv Int) (wh wk b : Nat) (w : World) (h : OpenRow r w) (hsn : (s.A = none → s.l.length = 0 ∧ s.c = 0) ∧ s.l.length ≤ maxLen) (hs : Sl w w.heap.size 1 encI s.A s.l) (hwh : wh ≤ 255) (hwk : wk ≤ 255) (hbb : b ≤ 255) :
    Calls Try.prog 13 #[.agg r.cells.toArray, s.val, .int .u8 wh, .int .u8 wk, .int .u8 b] w fun e w' => e = .returned (.bool true) ∧ Below w.heap.size w w' := by
  cases hy : r.d.thin && decide (r.d.fault = 0) with
  | false => exact IllAphids_unready r s wh wk b w h hy
  | true =>
    have hy2 := hy
    rw [Bool.and_eq_true, decide_eq_true_eq] at hy2
    obtain ⟨hr, ht⟩ := h.thin hy2.1
    by_cases hl : 15 < s.l.length
    · exact IllAphids_long r s wh wk b w hr hy hl
    · exact IllAphids_main r s wh wk b w hwh hwk hbb hr ht h.wn hy hy2.2 hs hsn.1 (by omega)
end Go.Proofs.Ytebkhgficochoaa
