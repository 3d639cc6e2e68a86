/- The texts RQ RS RT RU, joined. -/
import Derived.Test.YtopiidfhjfbmfaaGI
import Derived.Laws.OwnMore
/- The reference's With: a plan with another start of a size. -/
namespace Go.Proofs.Ytopiidfhjfbmfaa
open Go.RowKit Go.Lib

/-- The plan with another start of a size, at A. -/
def PlM.withS (p : PlM) (A : Option Addr) (c size : Nat) (r : Int × Int) : PlM := { p with s := ⟨A, p.s.l.set size r, c⟩ }
def RetW (p : PlM) (size : Nat) (r : Int × Int) (w : World) (e : Ending) (w' : World) : Prop :=
  ∃ (A : Option Addr) (c : Nat), e = .returned (.agg (p.withS A c size r).cells.toArray) ∧ SlT w' w'.heap.size 2 26 encR A (p.s.l.set size r) ∧ Below w.heap.size w w'
theorem withS_at {p : PlM} {w W : World} {A : Option Addr} {c size : Nat} {r : Int × Int} (hp : p.At w w.heap.size) (hb : Below w.heap.size w W) (hs : SlT W W.heap.size 2 26 encR A (p.s.l.set size r)) : (p.withS A c size r).At W W.heap.size := by
  have h := hp.below hb hb.size
  exact ⟨hs.sl, h.r, h.g, h.rows, h.e, h.k, by show (p.s.l.set size r).length ≤ _; rw [List.length_set]; exact hp.ls, h.lr, h.lg, h.lrows, h.le, h.lk⟩
theorem flatMap_set2 : ∀ (l : List (Int × Int)) (i : Nat) (r : Int × Int), i < l.length → ((l.flatMap encR).set (i * 2) (.int .i64 r.1)).set (i * 2 + 1) (.int .i64 r.2) = (l.set i r).flatMap encR
  | [], _, _, h => by simp at h
  | x :: l, 0, r, _ => by simp [encR]
  | x :: l, i + 1, r, h => by
    have := flatMap_set2 l i r (by simpa using h)
    simp only [List.flatMap_cons, List.set_cons_succ, encR, List.cons_append, List.nil_append, show (i + 1) * 2 = i * 2 + 1 + 1 by omega]
    rw [← this]
/-- The store of two cells into a row of one's own. -/
theorem wpList_store_own2 {P : Program} {w : World} {ops : Array Oper} {rest : List Oper} {o : Oper} {a : Act} {Q : Exit → Act → World → Prop} (hgd : o.guard = none) (ty : TypeId) (x y : Operand) (ho : o.op = .store ty x y) (g off : Nat) (hx : a.eval x = .pointer (some ⟨g, off, none⟩)) (u v : Value)
    (hy : a.eval y = .agg #[u, v]) {base n cap size : Nat} {e : TypeId} {xs : List Value} (hl : w.ownsRow base e size (.slice (some ⟨g, 0, none⟩) n cap) n xs) (hf : off + 2 ≤ n * size) (hi : (P.info? ty).map (·.size) = some 2) (h1 : u.oneCell' = true) (h2 : v.oneCell' = true)
    (h : ∀ w', Hid (w'.ownsRow base e size (.slice (some ⟨g, 0, none⟩) n cap) n ((xs.set off u).set (off + 1) v)) → Hid (w.grownBy w' (some g)) → wpList P ops Q rest (a.put o.dst undef) w') : wpList P ops Q (o :: rest) a w := by
  obtain ⟨cs, hc, hz⟩ : ∃ cs : Array Value, Lies w g e cs ∧ off + 2 ≤ cs.size := by
    rcases hl.2 with ⟨h', _⟩ | ⟨g', cap', cur, h', _, hg, hnc, _, hcs, _⟩
    · simp at h'
    · simp only [Value.slice.injEq, Option.some.injEq, Addr.mk.injEq, and_true, true_and] at h'
      obtain ⟨rfl, rfl⟩ := h'
      refine ⟨cur, hg, ?_⟩
      rw [hcs]
      exact Nat.le_trans hf (Nat.mul_le_mul_right size hnc)
  have hS := hl.stored off u
  have hS2 := hS.1.stored (off + 1) v
  refine wpList_store_mid hgd ty x y ho g off #[u, v] hx hy ?_ (by simpa using hi) (all_oneCell_toArray (cs := [u, v]) (by simp [h1, h2])) (h _ ?_ ?_)
  · have := Lies.there (o := off) (n := 2) (cs := cs.toList) (by simpa using hc) (by simpa using hz)
    simpa using this
  · exact hS2.1
  · exact grown_trans hS.2 hS2.2
theorem sizeR26 : (Try.prog.info? 26).map (·.size) = some 2 := by kernel_rfl
theorem infoRef : (Try.prog.info? 26).map (fun i => (i.zero, i.size, i.bytes)) = some (some (.agg #[.int .i64 0, .int .i64 0]), 2, 16) := by kernel_rfl
set_option maxRecDepth 100000 in
set_option maxHeartbeats 1000000 in
theorem With_any (p : PlM) (size : Nat) (r : Int × Int) (w : World) (hp : p.At w w.heap.size) (hs : size < p.s.l.length) (hn : p.s.l.length ≤ 5) :
    Calls Try.prog 36 #[.agg p.cells.toArray, .int .i64 size, .agg #[.int .i64 r.1, .int .i64 r.2]] w (RetW p size r w) := by
  obtain ⟨i0, hi, hz0, hz1, hz2⟩ := info_parts infoRef
  have l0 : Lies (((w.alloc (.cells p.cells.toArray 28)).alloc (.cells #[.int .i64 r.1, .int .i64 r.2] 26)).alloc (.cells zplan.toArray 28)) w.heap.size 28 p.cells.toArray := ((Lies.fresh _ _ _).alloc _).alloc _
  have l1 : Lies (((w.alloc (.cells p.cells.toArray 28)).alloc (.cells #[.int .i64 r.1, .int .i64 r.2] 26)).alloc (.cells zplan.toArray 28)) (w.heap.size + 1) 26 #[.int .i64 r.1, .int .i64 r.2] := (Lies.fresh' (by simp)).alloc _
  have l2 : Lies (((w.alloc (.cells p.cells.toArray 28)).alloc (.cells #[.int .i64 r.1, .int .i64 r.2] 26)).alloc (.cells zplan.toArray 28)) (w.heap.size + 1 + 1) 28 zplan.toArray := Lies.fresh' (by simp)
  have b0 : Below w.heap.size w (((w.alloc (.cells p.cells.toArray 28)).alloc (.cells #[.int .i64 r.1, .int .i64 r.2] 26)).alloc (.cells zplan.toArray 28)) := (by repeat (first | (with_reducible assumption) | (with_reducible exact Below.refl _ _) | (with_reducible refine Below.drew ?_) | (with_reducible refine below_drewN ?_ _) | ((with_reducible refine Below.setCell ?_ ?_ _); rotate_left; focus (first | (simp; done) | (simp; omega) | omega)) | ((with_reducible refine Below.alloc ?_ ?_ _); rotate_left; focus (first | (simp; done) | (simp; omega) | omega))))
  have L0 := Lib.hid l0
  have L1 := Lib.hid l1
  have L2 := Lib.hid l2
  have B0 := Lib.hid b0
  have HI := Lib.hid hi
  have Hz0 := Lib.hid hz0
  have Hz1 := Lib.hid hz1
  have Hz2 := Lib.hid hz2
  have HP := Lib.hid hp
  clear l0 l1 l2 b0 hi hz0 hz1 hz2 hp
  unfold PlM.cells
  go_enter Try.func36, Try.ntmps36
  go_upto_region 2 with (first
    | (refine wpList_load_row (o := ⟨some 8, _, _, _, _, _⟩) ?_ 28 (.tmp 3) ?_ w.heap.size ?_ 28 p.cells.toArray (0, 0) _ (L0.out.alloc _) Try.underlying28 rfl size28 ?_; rfl; rfl; rfl)
    | (refine wpList_store_cells (o := ⟨none, .store 28 (.tmp 7) _, _, _, _, _⟩) ?_ 28 (.tmp 7) (.tmp 8) ?_ (w.heap.size + 1 + 1 + 1) 0 ?_ 28 zplan p.cells ?_ (Lies.fresh' (by simp)) (Nat.le_refl 8) size28 (by simp [PlM.cells, Value.oneCell']) ?_; rfl; rfl; rfl; rfl; intro w3 HS3 HO3; (try simp only [Act.put])))
  have x3 : Lies w3 (w.heap.size + 1 + 1 + 1) 28 p.cells.toArray := by have := HS3.out; rwa [splice_whole (by simp [PlM.cells])] at this
  have p3 : Lies w3 w.heap.size 28 p.cells.toArray := HO3.out.lies (L0.out.alloc _) (by omega)
  have r3 : Lies w3 (w.heap.size + 1) 26 #[.int .i64 r.1, .int .i64 r.2] := HO3.out.lies (L1.out.alloc _) (by omega)
  have z3 : Lies w3 (w.heap.size + 1 + 1) 28 zplan.toArray := HO3.out.lies (L2.out.alloc _) (by omega)
  have b3 : Below w.heap.size w w3 := HO3.out.below (B0.out.alloc B0.out.size _) (by omega)
  have s3 : w.heap.size + 4 ≤ w3.heap.size := by rw [HO3.out.size]; simp
  have hown : (w3.alloc (.cells #[] 26)).ownsRow w3.heap.size 26 2 (.slice (some ⟨w3.heap.size, 0, none⟩) 0 0) 0 [] := World.ownsRow_made w3 #[] 0 (Nat.le_refl _) (by unfold maxLen; omega) rfl
  have bb : Below w.heap.size w (w3.alloc (.cells #[] 26)) := b3.alloc b3.size _
  obtain ⟨b, off, eA, hb, hcells⟩ := HP.out.s (by rintro h; rw [h] at hs; simp at hs)
  have hnews := (HP.out.s.below bb).news (enc := encR) (fun _ => rfl) _ eA
  have c0 : (w3.alloc (.cells #[] 26)).cell? ⟨w.heap.size, 0, none⟩ = some (.slice (some ⟨b, off, none⟩) p.s.l.length p.s.c) := by rw [← eA]; exact (p3.alloc _).at_ 0
  have X3 := Lib.hid x3
  have P3 := Lib.hid p3
  have R3 := Lib.hid r3
  have Z3 := Lib.hid z3
  have B3 := Lib.hid b3
  have HOW := Lib.hid hown
  have HN := Lib.hid hnews
  have n0 : 0 < p.s.l.length := by omega
  have hln : (p.s.l.flatMap encR).length = p.s.l.length * 2 := flat_len (enc := encR) (fun _ => rfl) _
  have HLN := Lib.hid hln
  have h1c : ∀ u ∈ p.s.l.flatMap encR, u.oneCell' = true := fun u hu => by
    obtain ⟨x, _, hx⟩ := List.mem_flatMap.1 hu
    simp only [encR, List.mem_cons, List.not_mem_nil, or_false] at hx
    rcases hx with rfl | rfl <;> rfl
  have H1C := Lib.hid h1c
  clear x3 p3 r3 z3 b3 hown bb hnews hcells HS3 HO3 hln h1c
  go_upto_region 3 with (at_builtin; go_loud (refine wpList_append_lies _ rfl (.tmp 9) (.tmp 11) 22 rfl w3.heap.size 26 i0 _ 2 16 Try.underlying22 HI.out Hz0.out Hz1.out Hz2.out rfl (by decide) (.slice (some ⟨w3.heap.size, 0, none⟩) 0 0) 0 [] rfl HOW.out ⟨b, off, none⟩ p.s.l.length p.s.c (p.s.l.flatMap encR) rfl HLN.out HN.out H1C.out n0 (by unfold maxLen; omega) (by omega) (by simp) _ rfl ?_); intro g7 cap7 w7 hown7 hg7 hat7 hlt7; clear hat7 hlt7; have x7 := (X3.out.alloc (.cells #[] 26)).grown hg7 (by intro e; have e' : w.heap.size + 1 + 1 + 1 = w3.heap.size := (by simpa [Value.ownBlock] using e); omega); have f7 : w7.cell? ⟨w.heap.size + 1 + 1 + 1, 0, none⟩ = some (.slice p.s.A p.s.l.length p.s.c) := x7.at_ 0; have z7 := x7.free 0; have X7 := Lib.hid x7; clear x7)
  have hne7 : ∀ j, j < w3.heap.size → some j ≠ (Value.slice (some ⟨w3.heap.size, 0, none⟩) 0 0).ownBlock := fun j hj e => by
    have e' : j = w3.heap.size := by simpa [Value.ownBlock] using e
    omega
  have x8 := X7.out.set 0 (.slice (some ⟨g7, 0, none⟩) p.s.l.length cap7)
  have r8 := ((R3.out.alloc (.cells #[] 26)).grown hg7 (hne7 _ (by omega))).other (p := ⟨w.heap.size + 1 + 1 + 1, 0, none⟩) (show w.heap.size + 1 ≠ w.heap.size + 1 + 1 + 1 by omega) (.slice (some ⟨g7, 0, none⟩) p.s.l.length cap7)
  have z8 := ((Z3.out.alloc (.cells #[] 26)).grown hg7 (hne7 _ (by omega))).other (p := ⟨w.heap.size + 1 + 1 + 1, 0, none⟩) (show w.heap.size + 1 + 1 ≠ w.heap.size + 1 + 1 + 1 by omega) (.slice (some ⟨g7, 0, none⟩) p.s.l.length cap7)
  have own8 := own_set hown7 X7.out (by decide) (i := 0) (.slice (some ⟨g7, 0, none⟩) p.s.l.length cap7)
  have bg7 : ∀ j, (Value.slice (some ⟨w3.heap.size, 0, none⟩) 0 0).ownBlock = some j → w.heap.size ≤ j := fun j e => by
    have e' : w3.heap.size = j := by simpa [Value.ownBlock] using e
    omega
  have b8 : Below w.heap.size w (w7.setCell ⟨w.heap.size + 1 + 1 + 1, 0, none⟩ (.slice (some ⟨g7, 0, none⟩) p.s.l.length cap7)) := ((B3.out.alloc B3.out.size _).grown hg7 (by have := B3.out.size; simp; omega) bg7).setCell (by show w.heap.size ≤ w.heap.size + 1 + 1 + 1; omega) _
  have hgb : w3.heap.size ≤ g7 ∧ g7 < w7.heap.size := by have h := own_at hown7 (g := g7) rfl; exact ⟨h.1, h.2.1⟩
  have c8 : (w7.setCell ⟨w.heap.size + 1 + 1 + 1, 0, none⟩ (.slice (some ⟨g7, 0, none⟩) p.s.l.length cap7)).cell? ⟨w.heap.size + 1 + 1 + 1, 0, none⟩ = some (.slice (some ⟨g7, 0, none⟩) p.s.l.length cap7) := x8.at_ 0
  have hsz : (size : Int) < (p.s.l.length : Int) := by omega
  have hs0 : (0 : Int) ≤ (size : Int) := by omega
  have X8 := Lib.hid x8
  have R8 := Lib.hid r8
  have Z8 := Lib.hid z8
  have O8 := Lib.hid own8
  have B8 := Lib.hid b8
  have S8 : (w7.setCell ⟨w.heap.size + 1 + 1 + 1, 0, none⟩ (.slice (some ⟨g7, 0, none⟩) p.s.l.length cap7)).heap.size = w7.heap.size := by simp only [World.size_setCell]
  clear x8 r8 z8 own8 b8 hown7 hg7 hne7 bg7 f7 z7 c0
  generalize (w7.setCell ⟨w.heap.size + 1 + 1 + 1, 0, none⟩ (.slice (some ⟨g7, 0, none⟩) p.s.l.length cap7)) = w8 at *
  go_upto_region 4 with (first
    | (refine wpList_load_row (o := ⟨some 17, _, _, _, _, _⟩) ?_ 26 (.tmp 5) ?_ (w.heap.size + 1) ?_ 26 #[.int .i64 r.1, .int .i64 r.2] (0, 0) _ R8.out Try.underlying26 rfl sizeR26 ?_; rfl; rfl; rfl)
    | (refine wpList_store_own2 (o := ⟨none, .store 26 (.tmp 18) _, _, _, _, _⟩) ?_ 26 (.tmp 18) (.tmp 17) ?_ g7 (size * 2) ?_ (.int .i64 r.1) (.int .i64 r.2) ?_ O8.out (by omega) sizeR26 rfl rfl ?_; rfl; rfl; rfl; rfl; intro w9 HO9 HG9; (try simp only [Act.put])))
  have q9 : ∀ k t cs, k < w3.heap.size → Lies w8 k t cs → Lies w9 k t cs := fun k t cs hk h => grown_lies HG9.out h (by omega)
  have x9 := q9 _ _ _ (by omega) X8.out
  have z9 := q9 _ _ _ (by omega) Z8.out
  have b9 : Below w.heap.size w w9 := B8.out.grown HG9.out B8.out.size (fun j e => by cases e; omega)
  have xw : Lies w9 (w.heap.size + 1 + 1 + 1) 28 (p.withS (some ⟨g7, 0, none⟩) cap7 size r).cells.toArray := by simpa [PlM.cells, PlM.withS] using x9
  have XW := Lib.hid xw
  have Z9 := Lib.hid z9
  have B9 := Lib.hid b9
  clear x9 z9 b9 q9 xw
  go_upto_region 4 with (fail)
  apply wp_region_lit
  refine wpList_load_row (o := ⟨some 19, _, _, _, _, _⟩) ?_ 28 (.tmp 7) ?_ (w.heap.size + 1 + 1 + 1) ?_ 28 (p.withS (some ⟨g7, 0, none⟩) cap7 size r).cells.toArray (0, 0) _ XW.out Try.underlying28 rfl size28 ?_
  rfl; rfl; rfl
  refine wpList_store_cells (o := ⟨none, .store 28 (.tmp 6) _, _, _, _, _⟩) ?_ 28 (.tmp 6) (.tmp 19) ?_ (w.heap.size + 1 + 1) 0 ?_ 28 zplan (p.withS (some ⟨g7, 0, none⟩) cap7 size r).cells ?_ Z9.out (Nat.le_refl 8) size28 (by simp [PlM.cells, Value.oneCell']) ?_
  rfl; rfl; rfl; rfl
  intro w10 HS10 HO10
  refine wpList_nil ?_
  have hs10 : Lies w10 (w.heap.size + 1 + 1) 28 (p.withS (some ⟨g7, 0, none⟩) cap7 size r).cells.toArray := by have := HS10.out; rwa [splice_whole (by simp [PlM.cells])] at this
  have b10 : Below w.heap.size w w10 := HO10.out.below B9.out (by omega)
  have o9 := own_only HO9.out Z9.out (by decide) HO10.out
  have hres : RetW p size r w (.returned (.agg (p.withS (some ⟨g7, 0, none⟩) cap7 size r).cells.toArray)) w10 := by
    have o10 : w10.ownsRow w3.heap.size 26 2 (.slice (some ⟨g7, 0, none⟩) (p.s.l.set size r).length cap7) (p.s.l.set size r).length ((p.s.l.set size r).flatMap encR) := by
      rw [← flatMap_set2 _ _ _ hs]
      simpa using o9
    exact ⟨_, _, rfl, SlT.of_own (enc := encR) (fun _ => rfl) o10, b10⟩
  have HRES := Lib.hid hres
  have HS := Lib.hid hs10
  clear hres hs10 HS10 HO10 o9 b10
  go_wp2
  exact bodyPost_ret (results_cell_row rfl _ _ (w.heap.size + 1 + 1) 28 (p.withS (some ⟨g7, 0, none⟩) cap7 size r).cells.toArray (0, 0) _ rfl HS.out Try.underlying28 rfl size28) rfl HRES.out
end Go.Proofs.Ytopiidfhjfbmfaa

/- A plan with another start: it is valid; what is sold at its low ends; the first year, once more. -/
namespace Go.Proofs.Ytopiidfhjfbmfaa
open Go.RowKit Go.Lib

def PD.withS (d : PD) (size : Nat) (r : Int × Int) : PD := { d with s := d.s.set size r }
theorem withS_d (p : PlM) (A : Option Addr) (c size : Nat) (r : Int × Int) : (p.withS A c size r).d = p.d.withS size r := rfl
theorem withS_fault {p : PlM} (hf : p.fault = 0) {size : Nat} (hs : size < p.s.l.length) {h : Int} (h0 : 0 ≤ h) (h1 : h ≤ p.r.l.getD size 0) (A : Option Addr) (c : Nat) : (p.withS A c size (h, h)).fault = 0 := by
  have hv := fault_zero hf
  have hn5 := hv.ok.n
  have hB : p.validB = true := by
    unfold PlM.fault at hf
    rw [if_neg (by omega)] at hf
    cases e : p.validB with
    | true => rfl
    | false => rw [e] at hf; cases hf
  have hr := hv.ok.rb _ (getD_mem (l := p.r.l) (i := size) (by rw [hv.ok.r]; exact hs))
  unfold PlM.fault
  have hl : (p.withS A c size (h, h)).s.l.length = p.s.l.length := List.length_set ..
  rw [if_neg (by omega), if_pos]
  simp only [PlM.validB, PlM.b, Bool.and_eq_true, decide_eq_true_eq, List.all_eq_true] at hB ⊢
  obtain ⟨⟨⟨⟨⟨⟨⟨⟨b0, b1⟩, b2⟩, b3⟩, b4⟩, b5⟩, b6⟩, b7⟩, b8⟩ := hB
  rw [hl]
  refine ⟨⟨⟨⟨⟨⟨⟨⟨b0, trivial, fun x hx => ?_⟩, b2⟩, ?_⟩, b4⟩, b5⟩, b6⟩, b7⟩, b8⟩
  · rcases List.mem_or_eq_of_mem_set (show x ∈ p.s.l.set size (h, h) from hx) with hx | rfl
    · exact b1.2 x hx
    · exact spanB_iff.2 ⟨h0, Int.le_refl _, by show h ≤ 1000000; omega⟩
  · have h3 := pairedB_iff.1 b3
    refine pairedB_iff.2 ⟨by rw [hl]; exact h3.1, fun i x y hx hy => ?_⟩
    have hx' : (p.s.l.set size (h, h))[i]? = some x := hx
    have hy' : p.r.l[i]? = some y := hy
    by_cases e : size = i
    · subst e
      rw [List.getElem?_set_self hs] at hx'
      obtain rfl := Option.some.inj hx'
      have : p.r.l.getD size 0 = y := by simp [List.getD, hy']
      exact decide_eq_true (by show h ≤ y; omega)
    · rw [List.getElem?_set_ne e] at hx'
      exact h3.2 i x y hx' hy'
theorem pad5_set {l : List Int} (_h5 : l.length ≤ 5) {q : Nat} (hq : q < l.length) (h : Int) : pad5 (l.set q h) = (pad5 l).set q h := by
  unfold pad5 splice
  simp only [List.take_zero, List.nil_append, Nat.zero_add, List.length_set]
  rw [List.set_append_left _ _ hq]
theorem enough_soldE {d : PD} (hn : d.s.length ≤ 5) {q : Nat} (hq : q < d.s.length) (h : Int) (S Y : Nat) (N : Int) : enoughD d Y q S N h = decide (N ≤ soldE (d.withS q (h, h)) false S Y) := by
  unfold enoughD sellsD soldE
  have e : pad5 ((d.withS q (h, h)).s.map (·.1)) = (pad5 (d.s.map (·.1))).set q h := by
    show pad5 ((d.s.set q (h, h)).map (·.1)) = _
    rw [List.map_set, pad5_set (by simpa using hn) (by simpa using hq)]
  have e2 : soldUpD d (fun _ => growF d (·.1)) (fun _ => d.hi) ((pad5 (d.s.map (·.1))).set q h) S Y = soldUpD (d.withS q (h, h)) (fun _ => growF (d.withS q (h, h)) (·.1)) (fun _ => (d.withS q (h, h)).hi) ((pad5 (d.s.map (·.1))).set q h) S Y :=
    soldUpD_congr (d := d) (d' := d.withS q (h, h)) (by show d.s.length = (d.s.set q (h, h)).length; rw [List.length_set]) rfl rfl rfl Y fun j _ => ⟨rfl, rfl⟩
  simp only [e]
  rw [← e2]
theorem endF_between (b : Bool) : Between (endF b) := fun r h => by cases b <;> simp [endF, h]
theorem ends_fits {p : PlM} (hv : p.Valid) {Y : Nat} (hY : p.years = (Y : Int)) (hg : Bool) (year : Int) : fitD p.d (endsD p.d Y hg year) = true := by
  refine fit_mkT hv hY (fun s hs => inB_iff.2 (endF_between hg _ ?_)) (fun y s k _ hs hk => inB_iff.2 (endF_between hg _ ?_)) (fun y _ => inB_iff.2 (endF_between _ (p.lo, p.hi) hv.l.2.1))
  · obtain ⟨r, hr⟩ : ∃ r, p.s.l[s]? = some r := ⟨p.s.l[s], by simp [hs]⟩
    have h := hv.sb r (List.mem_of_getElem? hr)
    have e : p.d.s.getD s (0, 0) = r := by show p.s.l.getD s (0, 0) = r; simp [List.getD, hr]
    rw [e]; exact h.2.1
  · obtain ⟨x, hx⟩ : ∃ x, p.g.l[s]? = some x := ⟨p.g.l[s]'(by rw [hv.g]; exact hs), by simp⟩
    have hxm := List.mem_of_getElem? hx
    obtain ⟨r, hr⟩ : ∃ r, x.l[k]? = some r := ⟨x.l[k]'(by rw [hv.gl x hxm]; exact hk), by simp⟩
    have h := hv.gb x hxm r (List.mem_of_getElem? hr)
    have e : (p.d.g.getD s []).getD k (0, 0) = r := by show ((p.g.l.map (·.l)).getD s []).getD k (0, 0) = r; simp [List.getD, hx, hr]
    rw [e]; exact h.2.1
/-- What is sold in the truth of the low ends. -/
theorem soldT_ends {p : PlM} (hv : p.Valid) {Y : Nat} (S : Nat) {k : Nat} (hk : k ≤ Y) : soldT p.d (endsD p.d Y false (Y : Int)) S k = soldE p.d false S k := by
  have e1 : (endsD p.d Y false (Y : Int)).s = p.d.s.map (·.1) := by
    show (List.range p.d.s.length).map (fun s => endF false (p.d.s.getD s (0, 0))) = _
    have h := congrArg (List.map (·.1)) (range_getD p.d.s (0, 0))
    rw [List.map_map] at h
    exact h
  unfold soldT soldE
  rw [e1]
  refine soldUpD_congr rfl rfl rfl rfl k fun j hj => ⟨?_, ?_⟩
  · have hjY : j < Y := by omega
    have hgl : p.d.g.length = p.d.s.length := by show (p.g.l.map (·.l)).length = p.s.l.length; rw [List.length_map]; exact hv.g
    have hrow : ∀ x, x ∈ p.d.g → x.length = p.d.s.length := fun x hx => by
      obtain ⟨z, hz, rfl⟩ := List.mem_map.1 (show x ∈ p.g.l.map (·.l) from hx)
      exact hv.gl z hz
    show ((List.range Y).map fun y => (List.range p.d.s.length).map fun s => (List.range p.d.s.length).map fun k => endF false ((p.d.g.getD s []).getD k (0, 0))).getD j [] = growF p.d (·.1)
    simp only [List.getD, List.getElem?_map, List.getElem?_range hjY, Option.map_some, Option.getD_some]
    unfold growF
    have h : (List.range p.d.s.length).map (fun i => p.d.g.getD i []) = p.d.g := by rw [← hgl]; exact range_getD _ _
    refine Eq.trans ?_ (congrArg (List.map fun x => x.map (·.1)) h)
    rw [List.map_map]
    refine List.map_congr_left fun s hs => ?_
    have hsl : s < p.d.g.length := by rw [hgl]; exact List.mem_range.1 hs
    have hx := hrow (p.d.g.getD s []) (by simp only [List.getD, List.getElem?_eq_getElem hsl, Option.getD_some]; exact List.getElem_mem hsl)
    have h2 : (List.range p.d.s.length).map (fun i => (p.d.g.getD s []).getD i (0, 0)) = p.d.g.getD s [] := by rw [← hx]; exact range_getD _ _
    refine Eq.trans ?_ (congrArg (List.map (·.1)) h2)
    rw [List.map_map]
    rfl
  · have hjY : j < Y := by omega
    show ((List.range Y).map fun y : Nat => endF (false != decide ((y : Int) < (Y : Int))) (p.d.lo, p.d.hi)).getD j 0 = p.d.hi
    simp [List.getD, hjY, endF]
/-- Nothing is sold back. -/
theorem soldT_up {p : PlM} {T : TD} (hv : p.Valid) {Y : Nat} (hY : p.years = (Y : Int)) (hf : fitD p.d T = true) {S : Nat} (hS : S < p.s.l.length) : ∀ k, k ≤ Y → 0 ≤ soldT p.d T S k ∧ ∀ j, j ≤ k → soldT p.d T S j ≤ soldT p.d T S k
  | 0, _ => ⟨by unfold soldT; exact Int.le_refl _, fun j hj => Nat.le_zero.1 hj ▸ Int.le_refl _⟩
  | k + 1, hk => by
    have ih := soldT_up hv hY hf hS k (by omega)
    obtain ⟨b, h1, h2⟩ := soldT_step (d := p.d) (t := T) (size := S) (k := k) hS hv.ok.n
    obtain ⟨a', b', c', d', h3, h4, _, _, K⟩ := law_kept hv hY hf (k := k) (i := S) (by omega) hS
    obtain rfl : b = b' := by rw [h1] at h4; exact Option.some.inj h4
    have hb := K.b0
    refine ⟨by omega, fun j hj => ?_⟩
    by_cases e : j = k + 1
    · rw [e]; exact Int.le_refl _
    · have := ih.2 j (by omega)
      omega
theorem first_ex (f : Nat → Int) (n : Int) : ∀ Y, ∃ r, FirstP f Y n r
  | 0 => ⟨0, Nat.le_refl _, fun j hj => by omega, fun h => by omega⟩
  | Y + 1 => by
    obtain ⟨r, h1, h2, h3⟩ := first_ex f n Y
    by_cases h : r < Y
    · exact ⟨r, by omega, h2, fun _ => h3 h⟩
    · obtain rfl : r = Y := by omega
      by_cases h4 : n ≤ f (r + 1)
      · exact ⟨r, by omega, h2, fun _ => h4⟩
      · refine ⟨r + 1, Nat.le_refl _, fun j hj => ?_, fun h => by omega⟩
        by_cases e : j = r
        · subst e; omega
        · exact h2 j (by omega)
theorem FirstP.uniq {f : Nat → Int} {Y : Nat} {n : Int} {r s : Nat} (h1 : FirstP f Y n r) (h2 : FirstP f Y n s) : r = s := by
  have a := h1.le h2 (Int.le_refl _) fun _ _ => Int.le_refl _
  have b := h2.le h1 (Int.le_refl _) fun _ _ => Int.le_refl _
  omega
/-- The law's first of what Run tells. -/
theorem first_told {p : PlM} {T : TD} (hv : p.Valid) {Y S : Nat} {N : Int} (hY : p.years = (Y : Int)) (hf : fitD p.d T = true) (hS : S < p.s.l.length) {A : Option Addr} {c : Nat} {ys : List Y4} {w : World}
    (hs : Sl w w.heap.size 4 encY4 A ys) (hm : ys.map Y4.lists = (List.range Y).map fun k => toldL p.d.s.length (yrT p.d T k)) (hi : ∀ y, y ∈ ys → y.In w w.heap.size) {r : Nat} (hr : FirstP (soldT p.d T S) Y N r) :
    Calls Try.prog 56 #[.slice A Y c, .int .i64 S, .int .i64 N] w fun e w' => e = .returned (.int .i64 r) ∧ Below w.heap.size w w' := by
  have hn5 := hv.ok.n
  refine (first_any A c ys Y (soldT p.d T S) S N w hs hi (by have h := congrArg List.length hm; simpa using h) (by have := hv.y; omega) (by omega) rfl fun k y hy => ?_).mono fun e w' ⟨r', he, hr', hb⟩ => ⟨by rw [he, hr'.uniq hr], hb⟩
  have hk : k < Y := by have h := congrArg List.length hm; simp only [List.length_map, List.length_range] at h; have := (List.getElem?_eq_some_iff.1 hy).1; omega
  have ey : y.lists = toldL p.d.s.length (yrT p.d T k) := by
    have h := congrArg (·[k]?) hm
    simp only [List.getElem?_map, hy, Option.map_some, List.getElem?_range hk] at h
    exact Option.some.inj h
  have eb : y.b.l = (toldL p.d.s.length (yrT p.d T k)).2.1 := by rw [← ey]; rfl
  obtain ⟨b, h1, h2⟩ := soldT_step (d := p.d) (t := T) (size := S) (k := k) hS hn5
  obtain ⟨a', b', c', d', h3, h4, _, _, K⟩ := law_kept hv hY hf (k := k) (i := S) hk hS
  obtain rfl : b = b' := by rw [h1] at h4; exact Option.some.inj h4
  exact ⟨b, by rw [eb]; exact h1, h2, K.b0, by have := K.b1; have := K.a1; omega⟩
end Go.Proofs.Ytopiidfhjfbmfaa

/- StockPlanted. -/
namespace Go.Proofs.Ytopiidfhjfbmfaa
open Go.RowKit Go.Lib
attribute [local go_sem] Oper.semAt_some

/-- What Least hands back, told by cases. -/
def RetL2 (d : PD) (Y planted size : Nat) (number R : Int) (w : World) (e : Ending) (w' : World) : Prop :=
  ∃ v ec : Int, e = .returned (.tuple #[.int .i64 v, .int .i64 ec]) ∧ ((ec = 0 ∧ ∃ i : Nat, v = i ∧ (i : Int) ≤ R ∧ (0 < i → enoughD d Y planted size number ((i - 1 : Nat) : Int) = false) ∧ enoughD d Y planted size number (i : Int) = true) ∨ (ec = 9 ∧ v = 0 ∧ enoughD d Y planted size number R = false)) ∧ Below w.heap.size w w'
theorem Least_law (q : PlM) (d : PD) (Y pl size : Nat) (number R : Int) (W : World) (hd : q.d = d) (hq : q.At W W.heap.size) (hf : q.fault = 0) (hY : q.years = (Y : Int)) (hpl : pl < d.s.length) (hs : size < d.s.length) (h0 : 0 ≤ number) (h1 : number ≤ 10000000) (hR : d.r.getD pl 0 = R) (hR0 : 0 ≤ R) :
    Calls Try.prog 34 #[.agg q.cells.toArray, .int .i64 pl, .int .i64 size, .int .i64 number] W (RetL2 d Y pl size number R W) := by
  subst hd hR
  have hl : q.d.s.length = q.s.l.length := rfl
  refine (Least_ok q Y pl size number W hq hY ?_).mono fun e w' ⟨i, k1, k2, k3, he, hb⟩ => ?_
  · unfold askedL
    rw [if_neg (by simpa using hf), if_pos]
    simp only [List.all_cons, List.all_nil, Bool.and_true, Bool.and_eq_true, inB_iff]
    omega
  · by_cases hle : (i : Int) ≤ q.d.r.getD pl 0
    · rw [if_pos hle, if_pos hle] at he
      exact ⟨_, _, he, .inl ⟨rfl, i, rfl, hle, k2, k3 hle⟩, hb⟩
    · rw [if_neg hle, if_neg hle] at he
      refine ⟨_, _, he, .inr ⟨rfl, rfl, ?_⟩, hb⟩
      have h := k2 (by omega)
      rwa [show ((i - 1 : Nat) : Int) = q.d.r.getD pl 0 by omega] at h
theorem ends_sizes (d : PD) (Y : Nat) (hg : Bool) (year : Int) : (endsD d Y hg year).s.length = d.s.length ∧ (endsD d Y hg year).g.length = Y ∧ (∀ y, y ∈ (endsD d Y hg year).g → y.length = d.s.length) ∧ (∀ y, y ∈ (endsD d Y hg year).g → ∀ r, r ∈ y → r.length = d.s.length) ∧ (endsD d Y hg year).l.length = Y := by
  unfold endsD mkT
  refine ⟨by simp, by simp, fun y hy => ?_, fun y hy r hr => ?_, by simp⟩
  · obtain ⟨i, _, rfl⟩ := List.mem_map.1 hy
    simp
  · obtain ⟨i, _, rfl⟩ := List.mem_map.1 hy
    obtain ⟨j, _, rfl⟩ := List.mem_map.1 hr
    simp
/-- What the calls answer for the plan x, which has so much planted of a size. -/
structure XC (p : PlM) (Y Q S : Nat) (N : Int) (ws : Sv Nat) (w : World) (h : Int) : Prop where
  plan : ∀ A c W, (p.withS A c Q (h, h)).At W W.heap.size → Calls Try.prog 21 #[.agg (p.withS A c Q (h, h)).cells.toArray] W (RetP (p.withS A c Q (h, h)) W)
  ends : ∀ A c W, (p.withS A c Q (h, h)).At W W.heap.size → Calls Try.prog 29 #[.agg (p.withS A c Q (h, h)).cells.toArray, .bool false, .int .i64 Y] W (RetT (endsD (p.d.withS Q (h, h)) Y false (Y : Int)) W)
  pick : ∀ A c W, (p.withS A c Q (h, h)).At W W.heap.size → Below w.heap.size w W → Calls Try.prog 52 #[.agg (p.withS A c Q (h, h)).cells.toArray, .slice ws.A ws.l.length ws.c] W (RetT (pickD (p.d.withS Q (h, h)) Y ws.l) W)
  truth : ∀ (T : TD) (u : TrM) (W : World), (T = endsD (p.d.withS Q (h, h)) Y false (Y : Int) ∨ T = pickD (p.d.withS Q (h, h)) Y ws.l) → u.d = T → u.At W W.heap.size → u.Nil → Calls Try.prog 23 #[.agg u.cells.toArray] W (RetT T W)
  run : ∀ (T : TD) (q : PlM) (u : TrM) (W : World), (T = endsD (p.d.withS Q (h, h)) Y false (Y : Int) ∨ T = pickD (p.d.withS Q (h, h)) Y ws.l) → q.d = p.d.withS Q (h, h) → u.d = T → q.At W W.heap.size → u.At W W.heap.size →
    Calls Try.prog 22 #[.agg q.cells.toArray, .agg u.cells.toArray] W (RetR (fun k => toldL p.s.l.length (yrT (p.d.withS Q (h, h)) T k)) Y W)
  first : ∀ (T : TD) (A : Option Addr) (c : Nat) (ys : List Y4) (r : Nat) (W : World), (T = endsD (p.d.withS Q (h, h)) Y false (Y : Int) ∨ T = pickD (p.d.withS Q (h, h)) Y ws.l) → Sl W W.heap.size 4 encY4 A ys → ys.map Y4.lists = ((List.range Y).map fun k => toldL p.s.l.length (yrT (p.d.withS Q (h, h)) T k)) → (∀ y, y ∈ ys → y.In W W.heap.size) →
    FirstP (soldT (p.d.withS Q (h, h)) T S) Y N r → Calls Try.prog 56 #[.slice A Y c, .int .i64 S, .int .i64 N] W fun e w' => e = .returned (.int .i64 r) ∧ Below W.heap.size W w'
  low : ∀ k, k ≤ Y → soldT (p.d.withS Q (h, h)) (endsD (p.d.withS Q (h, h)) Y false (Y : Int)) S k = soldE (p.d.withS Q (h, h)) false S k
  up : ∀ T, (T = endsD (p.d.withS Q (h, h)) Y false (Y : Int) ∨ T = pickD (p.d.withS Q (h, h)) Y ws.l) → ∀ k, k ≤ Y → 0 ≤ soldT (p.d.withS Q (h, h)) T S k ∧ soldE (p.d.withS Q (h, h)) false S k ≤ soldT (p.d.withS Q (h, h)) T S k ∧ ∀ j, j ≤ k → soldT (p.d.withS Q (h, h)) T S j ≤ soldT (p.d.withS Q (h, h)) T S k
  en : enoughD p.d Y Q S N h = decide (N ≤ soldE (p.d.withS Q (h, h)) false S Y)
theorem xc_of {p : PlM} {Y Q S : Nat} {N : Int} {ws : Sv Nat} {w : World} {h : Int} (hp : p.Lay w w.heap.size) (hf : p.fault = 0) (hY : p.years = (Y : Int)) (hQ : Q < p.s.l.length) (hS : S < p.s.l.length)
    (hA : Sl w w.heap.size 1 encW ws.A ws.l) (hw : ∀ x, x ∈ ws.l → x < 65536) (hl : ws.l.length ≤ 9223372036854775807) (h0 : 0 ≤ h) (h1 : h ≤ p.r.l.getD Q 0) : XC p Y Q S N ws w h := by
  have hv := fault_zero hf
  have hn5 := hv.ok.n
  have hY6 : Y ≤ 6 := by have := hv.y; omega
  have hxf := withS_fault hf hQ h0 h1
  have hxv : ∀ A c, (p.withS A c Q (h, h)).Valid := fun A c => fault_zero (hxf A c)
  have hxl : (p.d.withS Q (h, h)).s.length = p.s.l.length := by show (p.d.s.set Q (h, h)).length = _; rw [List.length_set]; rfl
  have hfit : ∀ T, (T = endsD (p.d.withS Q (h, h)) Y false (Y : Int) ∨ T = pickD (p.d.withS Q (h, h)) Y ws.l) → fitD (p.d.withS Q (h, h)) T = true := fun T hT => by
    rcases hT with rfl | rfl
    · exact ends_fits (hxv none 0) hY false _
    · exact pick_fits (hxv none 0) hY ws.l
  have hS' : S < (p.withS none 0 Q (h, h)).s.l.length := by show S < (p.s.l.set Q (h, h)).length; rw [List.length_set]; exact hS
  refine ⟨fun A c W hx => Plan_any _ W hx hp.nr hp.ne hp.nk, fun A c W hx => Ends_any _ Y false _ W hx (hxv A c) hY, fun A c W hx hb => Picked_any _ Y ws.A ws.c ws.l W hx (hxv A c) hY ((hA.below hb).more hb.size) hw hl, fun T u W hT h1 h2 h3 => ?_, fun T q u W hT h1 h2 h3 h4 => ?_, fun T A c ys r W hT h1 h2 h3 h4 => ?_, fun k hk => soldT_ends (hxv none 0) S hk, fun T hT k hk => ?_, enough_soldE hn5 hQ h S Y N⟩
  · refine Truth_law u T p.s.l.length Y W h1 h2 h3 ?_ hn5 hY6
    rcases hT with rfl | rfl
    · rw [← hxl]; exact ends_sizes _ _ _ _
    · rw [← hxl]; exact pick_sizes _ _ _
  · rw [← hxl]
    exact Run_law q u _ T Y W h1 h2 h3 h4 (by rw [fault_congr (p := p.withS none 0 Q (h, h)) h1]; exact hxf _ _) (hfit T hT) (by rw [← hY]; show q.d.years = _; rw [h1]; rfl)
  · exact first_told (p := p.withS none 0 Q (h, h)) (T := T) (hxv none 0) hY (hfit T hT) hS' h1 (by rw [h2, ← hxl]; rfl) h3 h4
  · have a := soldT_up (hxv none 0) hY (hfit T hT) hS' k hk
    have b := soldT_between (hxv none 0) hY (hfit T hT) hS' hk
    exact ⟨a.1, b.1, a.2⟩
end Go.Proofs.Ytopiidfhjfbmfaa

/- StockPlanted, walked. -/
namespace Go.Proofs.Ytopiidfhjfbmfaa
open Go.RowKit Go.Lib
attribute [local go_sem] Oper.semAt_some

set_option maxRecDepth 100000 in
set_option maxHeartbeats 1000000 in
theorem Planted_no (p : PlM) (ws : Sv Nat) (pl sz nm : Nat) (w : World) (hp : p.Lay w w.heap.size) (hr : readyB p = false) : Calls Try.prog 13 #[.agg p.cells.toArray, .slice ws.A ws.l.length ws.c, .int .u8 pl, .int .u8 sz, .int .u32 nm] w fun e w' => e = .returned (.bool true) ∧ Below w.heap.size w w' := by
  have l0 : Lies (w.alloc (.cells p.cells.toArray 28)) w.heap.size 28 p.cells.toArray := Lies.fresh _ _ _
  have b0 : Below w.heap.size w (w.alloc (.cells p.cells.toArray 28)) := (Below.refl _ _).alloc (Nat.le_refl _) _
  have hR := ready_any p _ (hp.below b0 b0.size)
  rw [hr] at hR
  have L0 := Lib.hid l0
  have B0 := Lib.hid b0
  have HR := Lib.hid hR
  clear l0 b0 hR hp hr
  unfold PlM.cells at HR ⊢
  go_enter Try.func13, Try.ntmps13
  go_wp2_with (first
    | (refine wpList_load_row (o := ⟨some 22, _, _, _, _, _⟩) ?_ 28 (.tmp 5) ?_ w.heap.size ?_ 28 p.cells.toArray (0, 0) _ L0.out Try.underlying28 rfl size28 ?_; rfl; rfl; rfl)
    | (go_at_call 51; refine HR.out.mono ?_; rintro e w1 ⟨rfl, hb1⟩)
    | (go_at_call 19; refine (awake_any _).mono ?_; rintro e w2 ⟨rfl, hb2⟩))
  go_ret
  have hx := B0.out.trans (hb1.mono B0.out.size)
  exact ⟨rfl, hx.trans (hb2.mono hx.size)⟩
set_option maxRecDepth 100000 in
set_option maxHeartbeats 4000000 in
theorem Planted_yes (p : PlM) (ws : Sv Nat) (pl sz nm : Nat) (w : World) (hp : p.Lay w w.heap.size) (hr : readyB p = true) (hA : Sl w w.heap.size 1 encW ws.A ws.l) (hw : ∀ x, x ∈ ws.l → x < 65536) (hl : ws.l.length ≤ 9223372036854775807) (hplb : pl ≤ 255) (hsz : sz ≤ 255) (hnm : nm ≤ 4294967295) :
    Calls Try.prog 13 #[.agg p.cells.toArray, .slice ws.A ws.l.length ws.c, .int .u8 pl, .int .u8 sz, .int .u32 nm] w fun e w' => e = .returned (.bool true) ∧ Below w.heap.size w w' := by
  obtain ⟨ht, hf⟩ := ready_iff.1 hr
  have hat := hp.at ht
  have hv := fault_zero hf
  obtain ⟨Y, hY⟩ : ∃ Y : Nat, p.years = (Y : Int) := ⟨p.years.toNat, years_nat hv⟩
  have hY6 : Y ≤ 6 := by have := hv.y; omega
  have hn5 := hv.ok.n
  have hn1 := hv.ok.one
  obtain ⟨Q, hQ, hQl⟩ : ∃ Q : Nat, (pl : Int) % (p.s.l.length : Int) = (Q : Int) ∧ Q < p.s.l.length := ⟨pl % p.s.l.length, by rw [Int.natCast_emod], Nat.mod_lt _ (by omega)⟩
  obtain ⟨S, hS, hSl⟩ : ∃ S : Nat, (sz : Int) % (p.s.l.length : Int) = (S : Int) ∧ S < p.s.l.length := ⟨sz % p.s.l.length, by rw [Int.natCast_emod], Nat.mod_lt _ (by omega)⟩
  obtain ⟨N, hN, hNl⟩ : ∃ N : Nat, (nm : Int) % 10000001 = (N : Int) ∧ N ≤ 10000000 := ⟨nm % 10000001, by omega, by omega⟩
  have l0 : Lies (w.alloc (.cells p.cells.toArray 28)) w.heap.size 28 p.cells.toArray := Lies.fresh _ _ _
  have b0 : Below w.heap.size w (w.alloc (.cells p.cells.toArray 28)) := (Below.refl _ _).alloc (Nat.le_refl _) _
  have hR := ready_any p _ (hp.below b0 b0.size)
  rw [hr] at hR
  have hP : ∀ W, Below w.heap.size w W → Calls Try.prog 21 #[.agg p.cells.toArray] W (RetP p W) := fun W hb => Plan_any p W (hat.below hb hb.size) hp.nr hp.ne hp.nk
  have hrb := hv.ok.rb _ (getD_mem (l := p.r.l) (i := Q) (by rw [hv.ok.r]; exact hQl))
  have hLe : ∀ (q : PlM) (W : World), q.d = p.d → q.At W W.heap.size → Calls Try.prog 34 #[.agg q.cells.toArray, .int .i64 Q, .int .i64 S, .int .i64 N] W (RetL2 p.d Y Q S N (p.r.l.getD Q 0) W) := fun q W h1 h2 =>
    Least_law q p.d Y Q S N _ W h1 h2 (by rw [fault_congr h1]; exact hf) (by rw [← hY]; show q.d.years = _; rw [h1]; rfl) hQl hSl (by omega) (by omega) rfl hrb.1
  have hWi : ∀ (h : Int) (W : World), Below w.heap.size w W → Calls Try.prog 36 #[.agg p.cells.toArray, .int .i64 Q, .agg #[.int .i64 h, .int .i64 h]] W (RetW p Q (h, h) W) := fun h W hb => With_any p Q (h, h) W (hat.below hb hb.size) hQl hn5
  have hX : ∀ h : Int, 0 ≤ h → h ≤ p.r.l.getD Q 0 → XC p Y Q S N ws w h := fun h h0 h1 => xc_of hp hf hY hQl hSl hA hw hl h0 h1
  obtain ⟨br, orr, er, hbr, cr⟩ := hat.r.cell1 (getD_some (l := p.r.l) (i := Q) (by rw [hv.ok.r]; exact hQl))
  have hrl := hv.ok.r
  have L0 := Lib.hid l0
  have B0 := Lib.hid b0
  have HR := Lib.hid hR
  have HPL := Lib.hid hP
  have HLE := Lib.hid hLe
  have HWI := Lib.hid hWi
  have HXC := Lib.hid hX
  have HAT := Lib.hid hat
  have HY := Lib.hid hY
  have HQ := Lib.hid hQ
  have HS := Lib.hid hS
  have HN := Lib.hid hN
  have HER := Lib.hid er
  have HCR := Lib.hid cr
  have HRL := Lib.hid hrl
  clear l0 b0 hR hp hr hat hv hf hY ht hP hLe hWi hX hA hw hl hS hN hQ er cr hrl
  unfold PlM.cells at HR ⊢
  go_enter Try.func13, Try.ntmps13
  have hn0 : (0 : Int) < (p.s.l.length : Int) := by omega
  go_upto_region 3 with (first
    | (refine wpList_load_row (o := ⟨some 22, _, _, _, _, _⟩) ?_ 28 (.tmp 5) ?_ w.heap.size ?_ 28 p.cells.toArray (0, 0) _ L0.out Try.underlying28 rfl size28 ?_; rfl; rfl; rfl)
    | (go_at_call 51; refine HR.out.mono ?_; rintro e w1 ⟨rfl, hb1⟩; have L1 := Lib.hid (L0.out.call hb1); have B1 := Lib.hid (B0.out.trans (hb1.mono B0.out.size))))
  have r0 := cell_regrown (show w1.cell? ⟨w.heap.size, 0, none⟩ = some (.slice p.s.A p.s.l.length p.s.c) from L1.out.at_ 0)
  clear hb1 L0 B0 HR
  refine wp_region_quiet_below (by kernel_rfl) (by kernel_rfl) ?_; (repeat (first | go_big_quiet_step ((fail)) | quiet_step ((fail)))); refine wpQuiet_nil ?_; intro wq hwq; have hbq : Below _ _ wq := (by obtain ⟨p, rfl⟩ := hwq; exact below_regrown _ _ _); clear hwq
  clear r0
  have L2 := Lib.hid (L1.out.call hbq)
  have B2 := Lib.hid (B1.out.trans (hbq.mono B1.out.size))
  clear hbq L1 B1
  simp only [HQ.out, HS.out, HN.out]
  go_upto_region 5 with (first
    | (refine wpList_load_row (o := ⟨some 42, _, _, _, _, _⟩) ?_ 28 (.tmp 5) ?_ w.heap.size ?_ 28 p.cells.toArray (0, 0) _ L2.out Try.underlying28 rfl size28 ?_; rfl; rfl; rfl)
    | (go_at_call 21; refine (HPL.out _ B2.out).mono ?_; rintro e w2 ⟨q, rfl, hqd, hqa, hb2⟩)
    | (go_at_call 34; refine (HLE.out q _ hqd hqa).mono ?_; rintro e w3 ⟨v, ec, rfl, hcase, hb3⟩))
  have hd3 := hb2.trans (hb3.mono hb2.size)
  have L3 := Lib.hid (L2.out.call hd3)
  have B3 := Lib.hid (B2.out.trans (hd3.mono B2.out.size))
  clear hd3 hb2 hb3 hqd hqa L2 B2 HLE HQ HS HN
  generalize p.r.l.getD Q 0 = R at *
  have e1 : w3.cell? ⟨w.heap.size, 1, none⟩ = some (.slice (some ⟨br, orr, none⟩) p.r.l.length p.r.c) := by rw [← HER.out]; exact L3.out.at_ 1
  have e2 : w3.cell? ⟨br, orr + Q, none⟩ = some (.int .i64 R) := (B3.out.cell (p := ⟨br, orr + Q, none⟩) hbr).trans HCR.out
  have hQr : (Q : Int) < (p.r.l.length : Int) := by have := HRL.out; omega
  have hQ0 : (0 : Int) ≤ (Q : Int) := by omega
  have E1 := Lib.hid e1
  have E2 := Lib.hid e2
  clear HER HCR HRL e1 e2
  rcases hcase with ⟨rfl, i, rfl, hiR, hi0, hi1⟩ | ⟨rfl, rfl, hen⟩
  · have HX := Lib.hid (HXC.out i (by omega) hiR)
    have hge : (N : Int) ≤ soldE (p.d.withS Q ((i : Int), (i : Int))) false S Y := by
      have h := HX.out.en
      rw [hi1] at h
      exact of_decide_eq_true h.symm
    have HI0 := Lib.hid hi0
    have hi0z : (0 : Int) ≤ (i : Int) := by omega
    clear hi1 hi0
    have e1 := E1.out
    have e2 := E2.out
    go_upto_region 11 with (fail)
    clear e1 e2 E1 E2
    go_upto_region 12 with (first
      | (refine wpList_load_row (o := ⟨some 110, _, _, _, _, _⟩) ?_ 28 (.tmp 5) ?_ w.heap.size ?_ 28 p.cells.toArray (0, 0) _ L3.out Try.underlying28 rfl size28 ?_; rfl; rfl; rfl)
      | (go_at_call 36; refine (HWI.out (i : Int) _ B3.out).mono ?_; rintro e w4 ⟨xA, xc, rfl, hxs, hb4⟩)
      | (refine wpList_store_cells (o := ⟨none, .store 28 (.tmp 19) _, _, _, _, _⟩) ?_ 28 (.tmp 19) (.tmp 115) ?_ w4.heap.size 0 ?_ 28 zplan (p.withS xA xc Q ((i : Int), (i : Int))).cells ?_ (Lies.fresh w4 28 zplan.toArray) (Nat.le_refl 8) size28 (by simp [PlM.cells, Value.oneCell']) ?_; rfl; rfl; rfl; rfl; intro w5 HS5 HO5; (try simp only [Act.put])))
    have la := Lies.fresh w4 28 zplan.toArray
    have hz4 : (w4.alloc (.cells zplan.toArray 28)).heap.size = w4.heap.size + 1 := by simp
    have gw : w.heap.size < w4.heap.size := by have := hb4.size; have := L3.out.in_; omega
    have hs5 : w5.heap.size = w4.heap.size + 1 := by rw [HO5.out.size]; exact hz4
    have B4 := B3.out.trans (hb4.mono B3.out.size)
    have x5 : Lies w5 w4.heap.size 28 (p.withS xA xc Q ((i : Int), (i : Int))).cells.toArray := by have := HS5.out; rwa [splice_whole (by simp [PlM.cells])] at this
    have L5 := Lib.hid (HO5.out.lies ((L3.out.call hb4).alloc _) (by omega))
    have b5 := HO5.out.below (B4.alloc B4.size _) (by omega)
    have xs5 := (((hxs.call ((Below.refl _ _).alloc (Nat.le_refl _) (.cells zplan.toArray 28))).only HO5.out la (by decide)).more (show _ ≤ w5.heap.size by rw [HO5.out.size]; exact Nat.le_refl _))
    have xa5 := withS_at HAT.out (c := xc) b5 xs5
    have B5 := Lib.hid b5
    have X5 := Lib.hid x5
    have XA5 := Lib.hid xa5
    clear x5 b5 xs5 xa5 B4 la hz4 HS5 HO5 hb4 hxs L3 B3
    generalize w4.heap.size = g at *
    have hrg : ∀ W, (∃ c : Cls (fun W => Below w5.heap.size w5 W), W = c.val) → W.rangeAt g 0 (p.withS xA xc Q ((i : Int), (i : Int))).cells := by
      rintro W ⟨c, rfl⟩
      exact Lies.range (cs := (p.withS xA xc Q ((i : Int), (i : Int))).cells) (X5.out.call c.h) (fun j v hj => by simpa using hj)
    have HRG := Lib.hid hrg
    haveI hne : Nonempty (Cls (fun W => Below w5.heap.size w5 W)) := ⟨⟨w5, Below.refl _ _⟩⟩
    clear hrg
    refine wp_region_whole [([0, 2, 3], [1, 4, 5, 6]), ([7, 8, 9, 10, 11], [])] (fun W => ∃ c : Cls (fun W => Below w5.heap.size w5 W), W = c.val) (Cls.here (Below.refl _ _).drew) (by kernel_rfl) (by kernel_rfl) ?_
    simp only [wpPhases, List.filterMap_cons, List.filterMap_nil, List.getElem?_toArray, List.getElem?_cons_zero, List.getElem?_cons_succ]
    refine wpQuiet_load_whole (o := ⟨some 117, _, _, _, _, _⟩) ?_ 28 (.tmp 19) ?_ g 0 ?_ (p.withS xA xc Q ((i : Int), (i : Int))).cells _ HRG.out Try.underlying28 rfl size28 ?_
    rfl; rfl; rfl
    simp only [Act.put, List.setIfInBounds_toArray, List.set_cons_zero, List.set_cons_succ]
    refine wpQuiet_load_whole (o := ⟨some 119, _, _, _, _, _⟩) ?_ 28 (.tmp 19) ?_ g 0 ?_ (p.withS xA xc Q ((i : Int), (i : Int))).cells _ HRG.out Try.underlying28 rfl size28 ?_
    rfl; rfl; rfl
    simp only [Act.put, List.setIfInBounds_toArray, List.set_cons_zero, List.set_cons_succ]
    change wpQuiet _ _ _ _ (_ :: []) _
    repeat (first | go_big_quiet_step (fail) | quiet_step (fail))
    refine wpQuiet_nil ?_
    simp only [wpForce]
    have hd1 : Below w5.heap.size w5 w5.drew := (Below.refl _ _).drew
    generalize w5.drew = v1 at *
    go_wp2_with (go_at_call 21; refine (HX.out.plan xA xc _ (XA5.out.below hd1 hd1.size)).mono ?_; rintro e v2 ⟨qr, rfl, hqd, hqa, hb2⟩)
    have hd2 := hd1.trans (hb2.mono hd1.size)
    refine Ends.intro ⟨Cls.here hd2, ?_⟩
    go_wp2_with (go_at_call 52; refine (HX.out.pick xA xc _ (XA5.out.below hd2 hd2.size) (B5.out.trans (hd2.mono B5.out.size))).mono ?_; rintro e v3 ⟨u, rfl, hud, hua, hun, hb3⟩)
    have hd3 := hd2.trans (hb3.mono hd2.size)
    refine Ends.intro ⟨Cls.here hd3, ?_⟩
    go_wp2_with (go_at_call 23; refine (HX.out.truth _ u _ (.inr rfl) hud hua hun).mono ?_; rintro e v4 ⟨x, rfl, hxd, hxa, hxn, hb4⟩)
    have hd4 := hd3.trans (hb4.mono hd3.size)
    refine Ends.intro ⟨Cls.here hd4, ?_⟩
    have hqa4 : qr.At v4 v4.heap.size := (hqa.below hb3 hb3.size).below hb4 hb4.size
    go_wp2_with (go_at_call 22; refine (HX.out.run _ qr x _ (.inr rfl) hqd hxd hqa4 hxa).mono ?_; rintro e v5 ⟨A1, c1, ys, rfl, hys, hym, hya, hb5⟩)
    have hd5 := hd4.trans (hb5.mono hd4.size)
    refine Ends.intro ⟨Cls.here hd5, ?_⟩
    have hup := HX.out.up _ (.inr rfl) Y (Nat.le_refl _)
    obtain ⟨r, hr⟩ := first_ex (soldT (p.d.withS Q ((i : Int), (i : Int))) (pickD (p.d.withS Q ((i : Int), (i : Int))) Y ws.l) S) N Y
    have hrY : 0 < (N : Int) → r < Y := fun hN => by
      by_cases e : r < Y
      · exact e
      · obtain rfl : r = Y := by have := hr.1; omega
        by_cases e0 : r = 0
        · subst e0
          have h0 : soldT (p.d.withS Q ((i : Int), (i : Int))) (pickD (p.d.withS Q ((i : Int), (i : Int))) 0 ws.l) S 0 = 0 := rfl
          have := hup.2.1
          omega
        · have := hr.2.1 (r - 1) (by omega)
          rw [show r - 1 + 1 = r by omega] at this
          have := hup.2.1
          omega
    have hF : ∀ W, Below v5.heap.size v5 W → Calls Try.prog 56 #[.slice A1 Y c1, .int .i64 S, .int .i64 N] W fun e w' => e = .returned (.int .i64 r) ∧ Below W.heap.size W w' := fun W hb => HX.out.first _ A1 c1 ys r W (.inr rfl) ((hys.call hb).sl) hym (fun y hy => (hya y hy).call hb) hr
    have HFF := Lib.hid hF
    have B6 := Lib.hid (B5.out.trans (hd5.mono B5.out.size))
    have L6 := Lib.hid (L5.out.call hd5)
    have X6 := Lib.hid (X5.out.call hd5)
    have hz6 := hd5.size
    clear hF hup hr hys hym hya hqa hqd hua hud hun hxa hxd hxn hqa4 hb2 hb3 hb4 hb5 hd1 hd2 hd3 hd4 hd5 B5 L5 X5 XA5 HRG HX hge
    change wpQuiet _ _ _ _ (_ :: _ :: _ :: _ :: _ :: []) _
    repeat (first | go_big_quiet_step (rfl) | quiet_step (rfl))
    refine wpQuiet_nil ?_
    go_upto_region 13 with (fail)
    have r7 := cell_regrown (show v5.cell? ⟨w.heap.size, 7, none⟩ = some (.int .i64 (Y : Int)) by rw [← HY.out]; exact L6.out.at_ 7)
    by_cases hN0 : (0 : Int) < (N : Int)
    · have g1 : decide ((0 : Int) < (N : Int)) = true := decide_eq_true hN0
      have g3 : decide (0 < N) = true := decide_eq_true (by omega)
      have hrl := hrY hN0
      have g2 : ((r : Int) == (Y : Int)) = false := by simp; omega
      refine wp_region_quiet_below (by kernel_rfl) (by kernel_rfl) ?_; (repeat (first | go_big_quiet_step ((first | rfl | (go_at_call 56; refine Calls.regrown_of (HFF.out _ (below_regrown v5 _ _))))) | quiet_step ((first | rfl | (go_at_call 56; refine Calls.regrown_of (HFF.out _ (below_regrown v5 _ _))))))); refine wpQuiet_nil ?_; intro wq hwq; have hbq : Below _ _ wq := (by obtain ⟨p, rfl⟩ := hwq; exact below_regrown _ _ _); clear hwq
      clear r7
      have L7 := Lib.hid (L6.out.call hbq)
      have B7 := Lib.hid (B6.out.trans (hbq.mono B6.out.size))
      have X7 := Lib.hid (X6.out.call hbq)
      clear hbq HFF L6 B6 X6 hz6
      by_cases hi0 : i = 0
      · subst hi0
        go_wp2_with (go_at_call 19; refine (awake_any _).mono ?_; rintro e w10 ⟨rfl, hb10⟩)
        go_ret
        exact ⟨rfl, B7.out.trans (hb10.mono B7.out.size)⟩
      · have hine : ((i : Int) == 0) = false := by simp; omega
        have HZ := Lib.hid (HXC.out ((i : Int) - 1) (by omega) (by omega))
        have hlt : soldE (p.d.withS Q ((i : Int) - 1, (i : Int) - 1)) false S Y < (N : Int) := by
          have h := HZ.out.en
          have h2 := HI0.out (by omega)
          rw [show ((i - 1 : Nat) : Int) = (i : Int) - 1 by omega] at h2
          rw [h2] at h
          have := of_decide_eq_false h.symm
          omega
        have hi64 : (i : Int) ≤ 1000000 := by omega
        clear HXC HI0
        go_upto_region 18 with (first
          | (refine wpList_load_row (o := ⟨some 151, _, _, _, _, _⟩) ?_ 28 (.tmp 5) ?_ w.heap.size ?_ 28 p.cells.toArray (0, 0) _ L7.out Try.underlying28 rfl size28 ?_; rfl; rfl; rfl)
          | (go_at_call 36; refine (HWI.out ((i : Int) - 1) _ B7.out).mono ?_; rintro e w8 ⟨yA, yc, rfl, hzs, hb8⟩)
          | (refine wpList_store_cells (o := ⟨none, .store 28 (.tmp 19) _, _, _, _, _⟩) ?_ 28 (.tmp 19) (.tmp 158) ?_ g 0 ?_ 28 (p.withS xA xc Q ((i : Int), (i : Int))).cells (p.withS yA yc Q ((i : Int) - 1, (i : Int) - 1)).cells ?_ (X7.out.call hb8) (Nat.le_refl 8) size28 (by simp [PlM.cells, Value.oneCell']) ?_; rfl; rfl; rfl; rfl; intro w9 HS9 HO9; (try simp only [Act.put])))
        have la := X7.out.call hb8
        have B8 := B7.out.trans (hb8.mono B7.out.size)
        have x9 : Lies w9 g 28 (p.withS yA yc Q ((i : Int) - 1, (i : Int) - 1)).cells.toArray := by have := HS9.out; rwa [splice_whole (by simp [PlM.cells])] at this
        have b9 := HO9.out.below B8 (by omega)
        have xs9 := (hzs.only HO9.out la (by decide)).more (show _ ≤ w9.heap.size by rw [HO9.out.size]; exact Nat.le_refl _)
        have xa9 := withS_at HAT.out (c := yc) b9 xs9
        have B9 := Lib.hid b9
        have X9 := Lib.hid x9
        have XA9 := Lib.hid xa9
        clear x9 b9 xs9 xa9 B8 la HS9 HO9 hb8 hzs L7 B7 X7 HWI
        have hrg : ∀ W, (∃ c : Cls (fun W => Below w9.heap.size w9 W), W = c.val) → W.rangeAt g 0 (p.withS yA yc Q ((i : Int) - 1, (i : Int) - 1)).cells := by
          rintro W ⟨c, rfl⟩
          exact Lies.range (cs := (p.withS yA yc Q ((i : Int) - 1, (i : Int) - 1)).cells) (X9.out.call c.h) (fun j v hj => by simpa using hj)
        have r7 : ∀ c : Cls (fun W => Below w9.heap.size w9 W), c.val.cell? ⟨g, 7, none⟩ = some (.int .i64 (Y : Int)) := fun c => by rw [← HY.out]; exact (X9.out.call c.h).at_ 7
        have HRG := Lib.hid hrg
        haveI hne9 : Nonempty (Cls (fun W => Below w9.heap.size w9 W)) := ⟨⟨w9, Below.refl _ _⟩⟩
        clear hrg
        refine wp_region_whole [([0, 2, 3, 4], [1, 5, 6, 7]), ([8, 9, 10, 11, 12], [])] (fun W => ∃ c : Cls (fun W => Below w9.heap.size w9 W), W = c.val) (Cls.here (Below.refl _ _).drew) (by kernel_rfl) (by kernel_rfl) ?_
        simp only [wpPhases, List.filterMap_cons, List.filterMap_nil, List.getElem?_toArray, List.getElem?_cons_zero, List.getElem?_cons_succ]
        refine wpQuiet_load_whole (o := ⟨some 160, _, _, _, _, _⟩) ?_ 28 (.tmp 19) ?_ g 0 ?_ (p.withS yA yc Q ((i : Int) - 1, (i : Int) - 1)).cells _ HRG.out Try.underlying28 rfl size28 ?_
        rfl; rfl; rfl
        simp only [Act.put, List.setIfInBounds_toArray, List.set_cons_zero, List.set_cons_succ]
        refine wpQuiet_load_whole (o := ⟨some 162, _, _, _, _, _⟩) ?_ 28 (.tmp 19) ?_ g 0 ?_ (p.withS yA yc Q ((i : Int) - 1, (i : Int) - 1)).cells _ HRG.out Try.underlying28 rfl size28 ?_
        rfl; rfl; rfl
        simp only [Act.put, List.setIfInBounds_toArray, List.set_cons_zero, List.set_cons_succ]
        change wpQuiet _ _ _ _ (_ :: _ :: []) _
        repeat (first | go_big_quiet_step (rfl) | quiet_step (rfl))
        refine wpQuiet_nil ?_
        simp only [wpForce]
        have hd1 : Below w9.heap.size w9 w9.drew := (Below.refl _ _).drew
        generalize w9.drew = y1 at *
        go_wp2_with (go_at_call 21; refine (HZ.out.plan yA yc _ (XA9.out.below hd1 hd1.size)).mono ?_; rintro e y2 ⟨qy, rfl, hqd, hqa, hb2⟩)
        have hd2 := hd1.trans (hb2.mono hd1.size)
        refine Ends.intro ⟨Cls.here hd2, ?_⟩
        go_wp2_with (go_at_call 29; refine (HZ.out.ends yA yc _ (XA9.out.below hd2 hd2.size)).mono ?_; rintro e y3 ⟨uy, rfl, hud, hua, hun, hb3⟩)
        have hd3 := hd2.trans (hb3.mono hd2.size)
        refine Ends.intro ⟨Cls.here hd3, ?_⟩
        go_wp2_with (go_at_call 23; refine (HZ.out.truth _ uy _ (.inl rfl) hud hua hun).mono ?_; rintro e y4 ⟨xy, rfl, hxd, hxa, hxn, hb4⟩)
        have hd4 := hd3.trans (hb4.mono hd3.size)
        refine Ends.intro ⟨Cls.here hd4, ?_⟩
        have hqa4 : qy.At y4 y4.heap.size := (hqa.below hb3 hb3.size).below hb4 hb4.size
        go_wp2_with (go_at_call 22; refine (HZ.out.run _ qy xy _ (.inl rfl) hqd hxd hqa4 hxa).mono ?_; rintro e y5 ⟨A2, c2, zs, rfl, hys, hym, hya, hb5⟩)
        have hd5 := hd4.trans (hb5.mono hd4.size)
        refine Ends.intro ⟨Cls.here hd5, ?_⟩
        have hup := HZ.out.up _ (.inl rfl) Y (Nat.le_refl _)
        have hlow := HZ.out.low Y (Nat.le_refl _)
        have hfp : FirstP (soldT (p.d.withS Q ((i : Int) - 1, (i : Int) - 1)) (endsD (p.d.withS Q ((i : Int) - 1, (i : Int) - 1)) Y false (Y : Int)) S) Y N Y := ⟨Nat.le_refl _, fun j hj => by have := hup.2.2 (j + 1) (by omega); omega, fun h => by omega⟩
        have hF := HZ.out.first _ A2 c2 zs Y y5 (.inl rfl) hys.sl hym hya hfp
        have HFF := Lib.hid hF
        have B10 := Lib.hid (B9.out.trans (hd5.mono B9.out.size))
        clear hF hfp hup hlow hys hym hya hqa hqd hua hud hun hxa hxd hxn hqa4 hb2 hb3 hb4 hb5 hd1 hd2 hd3 hd4 hd5 B9 X9 XA9 HRG r7 HZ
        change wpQuiet _ _ _ _ (_ :: _ :: _ :: _ :: _ :: []) _
        repeat (first | go_big_quiet_step (rfl) | quiet_step (rfl))
        refine wpQuiet_nil ?_
        go_wp2_with (first
          | (go_at_call 56; refine HFF.out.mono ?_; rintro e w11 ⟨rfl, hb11⟩)
          | (go_at_call 19; refine (awake_any _).mono ?_; rintro e w12 ⟨rfl, hb12⟩))
        go_ret
        have hx11 := B10.out.trans (hb11.mono B10.out.size)
        exact ⟨rfl, hx11.trans (hb12.mono hx11.size)⟩
    · have g1 : decide ((0 : Int) < (N : Int)) = false := decide_eq_false hN0
      have g3 : decide (0 < N) = false := decide_eq_false (by omega)
      refine wp_region_quiet_below (by kernel_rfl) (by kernel_rfl) ?_; (repeat (first | go_big_quiet_step ((rfl)) | quiet_step ((rfl)))); refine wpQuiet_nil ?_; intro wq hwq; have hbq : Below _ _ wq := (by obtain ⟨p, rfl⟩ := hwq; exact below_regrown _ _ _); clear hwq
      clear r7
      have L7 := Lib.hid (L6.out.call hbq)
      have B7 := Lib.hid (B6.out.trans (hbq.mono B6.out.size))
      have X7 := Lib.hid (X6.out.call hbq)
      clear hbq HFF L6 B6 X6 hz6
      by_cases hi0 : i = 0
      · subst hi0
        go_wp2_with (go_at_call 19; refine (awake_any _).mono ?_; rintro e w10 ⟨rfl, hb10⟩)
        go_ret
        exact ⟨rfl, B7.out.trans (hb10.mono B7.out.size)⟩
      · have hine : ((i : Int) == 0) = false := by simp; omega
        have HZ := Lib.hid (HXC.out ((i : Int) - 1) (by omega) (by omega))
        have hlt : soldE (p.d.withS Q ((i : Int) - 1, (i : Int) - 1)) false S Y < (N : Int) := by
          have h := HZ.out.en
          have h2 := HI0.out (by omega)
          rw [show ((i - 1 : Nat) : Int) = (i : Int) - 1 by omega] at h2
          rw [h2] at h
          have := of_decide_eq_false h.symm
          omega
        have hi64 : (i : Int) ≤ 1000000 := by omega
        clear HXC HI0
        go_upto_region 18 with (first
          | (refine wpList_load_row (o := ⟨some 151, _, _, _, _, _⟩) ?_ 28 (.tmp 5) ?_ w.heap.size ?_ 28 p.cells.toArray (0, 0) _ L7.out Try.underlying28 rfl size28 ?_; rfl; rfl; rfl)
          | (go_at_call 36; refine (HWI.out ((i : Int) - 1) _ B7.out).mono ?_; rintro e w8 ⟨yA, yc, rfl, hzs, hb8⟩)
          | (refine wpList_store_cells (o := ⟨none, .store 28 (.tmp 19) _, _, _, _, _⟩) ?_ 28 (.tmp 19) (.tmp 158) ?_ g 0 ?_ 28 (p.withS xA xc Q ((i : Int), (i : Int))).cells (p.withS yA yc Q ((i : Int) - 1, (i : Int) - 1)).cells ?_ (X7.out.call hb8) (Nat.le_refl 8) size28 (by simp [PlM.cells, Value.oneCell']) ?_; rfl; rfl; rfl; rfl; intro w9 HS9 HO9; (try simp only [Act.put])))
        have la := X7.out.call hb8
        have B8 := B7.out.trans (hb8.mono B7.out.size)
        have x9 : Lies w9 g 28 (p.withS yA yc Q ((i : Int) - 1, (i : Int) - 1)).cells.toArray := by have := HS9.out; rwa [splice_whole (by simp [PlM.cells])] at this
        have b9 := HO9.out.below B8 (by omega)
        have xs9 := (hzs.only HO9.out la (by decide)).more (show _ ≤ w9.heap.size by rw [HO9.out.size]; exact Nat.le_refl _)
        have xa9 := withS_at HAT.out (c := yc) b9 xs9
        have B9 := Lib.hid b9
        have X9 := Lib.hid x9
        have XA9 := Lib.hid xa9
        clear x9 b9 xs9 xa9 B8 la HS9 HO9 hb8 hzs L7 B7 X7 HWI
        have hrg : ∀ W, (∃ c : Cls (fun W => Below w9.heap.size w9 W), W = c.val) → W.rangeAt g 0 (p.withS yA yc Q ((i : Int) - 1, (i : Int) - 1)).cells := by
          rintro W ⟨c, rfl⟩
          exact Lies.range (cs := (p.withS yA yc Q ((i : Int) - 1, (i : Int) - 1)).cells) (X9.out.call c.h) (fun j v hj => by simpa using hj)
        have r7 : ∀ c : Cls (fun W => Below w9.heap.size w9 W), c.val.cell? ⟨g, 7, none⟩ = some (.int .i64 (Y : Int)) := fun c => by rw [← HY.out]; exact (X9.out.call c.h).at_ 7
        have HRG := Lib.hid hrg
        haveI hne9 : Nonempty (Cls (fun W => Below w9.heap.size w9 W)) := ⟨⟨w9, Below.refl _ _⟩⟩
        clear hrg
        refine wp_region_whole [([0, 2, 3, 4], [1, 5, 6, 7]), ([8, 9, 10, 11, 12], [])] (fun W => ∃ c : Cls (fun W => Below w9.heap.size w9 W), W = c.val) (Cls.here (Below.refl _ _).drew) (by kernel_rfl) (by kernel_rfl) ?_
        simp only [wpPhases, List.filterMap_cons, List.filterMap_nil, List.getElem?_toArray, List.getElem?_cons_zero, List.getElem?_cons_succ]
        refine wpQuiet_load_whole (o := ⟨some 160, _, _, _, _, _⟩) ?_ 28 (.tmp 19) ?_ g 0 ?_ (p.withS yA yc Q ((i : Int) - 1, (i : Int) - 1)).cells _ HRG.out Try.underlying28 rfl size28 ?_
        rfl; rfl; rfl
        simp only [Act.put, List.setIfInBounds_toArray, List.set_cons_zero, List.set_cons_succ]
        refine wpQuiet_load_whole (o := ⟨some 162, _, _, _, _, _⟩) ?_ 28 (.tmp 19) ?_ g 0 ?_ (p.withS yA yc Q ((i : Int) - 1, (i : Int) - 1)).cells _ HRG.out Try.underlying28 rfl size28 ?_
        rfl; rfl; rfl
        simp only [Act.put, List.setIfInBounds_toArray, List.set_cons_zero, List.set_cons_succ]
        change wpQuiet _ _ _ _ (_ :: _ :: []) _
        repeat (first | go_big_quiet_step (rfl) | quiet_step (rfl))
        refine wpQuiet_nil ?_
        simp only [wpForce]
        have hd1 : Below w9.heap.size w9 w9.drew := (Below.refl _ _).drew
        generalize w9.drew = y1 at *
        go_wp2_with (go_at_call 21; refine (HZ.out.plan yA yc _ (XA9.out.below hd1 hd1.size)).mono ?_; rintro e y2 ⟨qy, rfl, hqd, hqa, hb2⟩)
        have hd2 := hd1.trans (hb2.mono hd1.size)
        refine Ends.intro ⟨Cls.here hd2, ?_⟩
        go_wp2_with (go_at_call 29; refine (HZ.out.ends yA yc _ (XA9.out.below hd2 hd2.size)).mono ?_; rintro e y3 ⟨uy, rfl, hud, hua, hun, hb3⟩)
        have hd3 := hd2.trans (hb3.mono hd2.size)
        refine Ends.intro ⟨Cls.here hd3, ?_⟩
        go_wp2_with (go_at_call 23; refine (HZ.out.truth _ uy _ (.inl rfl) hud hua hun).mono ?_; rintro e y4 ⟨xy, rfl, hxd, hxa, hxn, hb4⟩)
        have hd4 := hd3.trans (hb4.mono hd3.size)
        refine Ends.intro ⟨Cls.here hd4, ?_⟩
        have hqa4 : qy.At y4 y4.heap.size := (hqa.below hb3 hb3.size).below hb4 hb4.size
        go_wp2_with (go_at_call 22; refine (HZ.out.run _ qy xy _ (.inl rfl) hqd hxd hqa4 hxa).mono ?_; rintro e y5 ⟨A2, c2, zs, rfl, hys, hym, hya, hb5⟩)
        have hd5 := hd4.trans (hb5.mono hd4.size)
        refine Ends.intro ⟨Cls.here hd5, ?_⟩
        have hup := HZ.out.up _ (.inl rfl) Y (Nat.le_refl _)
        have hlow := HZ.out.low Y (Nat.le_refl _)
        have hfp : FirstP (soldT (p.d.withS Q ((i : Int) - 1, (i : Int) - 1)) (endsD (p.d.withS Q ((i : Int) - 1, (i : Int) - 1)) Y false (Y : Int)) S) Y N Y := ⟨Nat.le_refl _, fun j hj => by have := hup.2.2 (j + 1) (by omega); omega, fun h => by omega⟩
        have hF := HZ.out.first _ A2 c2 zs Y y5 (.inl rfl) hys.sl hym hya hfp
        have HFF := Lib.hid hF
        have B10 := Lib.hid (B9.out.trans (hd5.mono B9.out.size))
        clear hF hfp hup hlow hys hym hya hqa hqd hua hud hun hxa hxd hxn hqa4 hb2 hb3 hb4 hb5 hd1 hd2 hd3 hd4 hd5 B9 X9 XA9 HRG r7 HZ
        change wpQuiet _ _ _ _ (_ :: _ :: _ :: _ :: _ :: []) _
        repeat (first | go_big_quiet_step (rfl) | quiet_step (rfl))
        refine wpQuiet_nil ?_
        go_wp2_with (first
          | (go_at_call 56; refine HFF.out.mono ?_; rintro e w11 ⟨rfl, hb11⟩)
          | (go_at_call 19; refine (awake_any _).mono ?_; rintro e w12 ⟨rfl, hb12⟩))
        go_ret
        have hx11 := B10.out.trans (hb11.mono B10.out.size)
        exact ⟨rfl, hx11.trans (hb12.mono hx11.size)⟩
  · have HX := Lib.hid (HXC.out R hrb.1 (Int.le_refl _))
    have hlt : soldE (p.d.withS Q (R, R)) false S Y < (N : Int) := by
      have h := HX.out.en
      rw [hen] at h
      have := of_decide_eq_false h.symm
      omega
    clear HXC hen
    go_upto_region 6 with (fail)
    have hrg : ∀ W, (∃ q : Regrown, W = Go.Sort.grow (redrawn w3 q.d) q.os) → W.rangeAt w.heap.size 0 p.cells := by
      rintro W ⟨q, rfl⟩
      exact Lies.range (cs := p.cells) (L3.out.call (below_regrown _ q.d q.os)) (fun j v hj => by simpa using hj)
    have HRG := Lib.hid hrg
    have r1 := cell_regrown E1.out
    have r2 := cell_regrown E2.out
    clear hrg
    refine wp_region_many 15 [0, 1, 2, 3, 4, 5, 6, 7, 8, 9, 10, 11] [12, 13] [⟨14, 16, 28, zplan.toArray⟩] (by kernel_rfl) (by kernel_rfl) (fun fl h => ?_) (fun fl fl' h h' => ?_) ?_
    · simp only [List.mem_cons, List.not_mem_nil, or_false] at h
      subst h
      exact fun w => by kernel_rfl
    · simp only [List.mem_cons, List.not_mem_nil, or_false] at h h'
      subst h h'
      simp
    simp only [List.filterMap_cons, List.filterMap_nil, List.take_succ_cons, List.take_zero, List.getElem?_toArray, List.getElem?_cons_zero, List.getElem?_cons_succ, List.drop_succ_cons, List.drop_zero, List.map_cons, List.map_nil]
    refine wpQuiet_load_whole (o := ⟨some 52, _, _, _, _, _⟩) ?_ 28 (.tmp 5) ?_ w.heap.size 0 ?_ p.cells _ HRG.out Try.underlying28 rfl size28 ?_
    rfl; rfl; rfl
    simp only [Act.put, List.setIfInBounds_toArray, List.set_cons_zero, List.set_cons_succ]
    change wpQuiet _ _ _ _ (_ :: _ :: _ :: _ :: _ :: _ :: _ :: _ :: _ :: _ :: _ :: []) _
    repeat (first | go_big_quiet_step (fail) | quiet_step (fail))
    refine wpQuiet_nil ?_
    refine ⟨by simp, ?_⟩
    clear r1 r2
    intro vf0 w4 hx4
    simp only [putF, List.foldl_cons, List.foldl_nil, Act.put, List.setIfInBounds_toArray, List.set_cons_zero, List.set_cons_succ]
    simp only [wpFloats]
    go_wp2
    refine Ends.intro ⟨Below.refl _ _, ?_⟩
    intro vf5 w5 hx5
    simp only [putF, List.foldl_cons, List.foldl_nil, Act.put, List.setIfInBounds_toArray, List.set_cons_zero, List.set_cons_succ]
    have hc5 := hx4.trans (hx5.mono hx4.size)
    go_wp2_with (go_at_call 36; refine (HWI.out R _ (B3.out.trans (hc5.mono B3.out.size))).mono ?_; rintro e u6 ⟨xA, xc, rfl, hxs, hb6⟩)
    refine Ends.intro ⟨hb6, ?_⟩
    intro vf6 w6 hx6
    simp only [List.setIfInBounds_toArray, List.set_cons_zero, List.set_cons_succ]
    intro G w7 hx7 hG hGG
    simp only [List.map_cons, List.map_nil, putF, List.foldl_cons, List.foldl_nil, Act.put, List.setIfInBounds_toArray, List.set_cons_zero, List.set_cons_succ]
    have h67 := hx6.trans (hx7.mono hx6.size)
    have h57 := hb6.trans (h67.mono hb6.size)
    have hc7 := hc5.trans (h57.mono hc5.size)
    obtain ⟨ga, la⟩ := hG ⟨14, 16, 28, zplan.toArray⟩ (by simp)
    simp only at ga la
    clear hG hGG
    generalize G 16 = g at *
    have L7 := L3.out.call hc7
    have B7 := B3.out.trans (hc7.mono B3.out.size)
    have xs7 := hxs.call h67
    refine wpList_store_cells (o := ⟨none, .store 28 (.tmp 16) _, _, _, _, _⟩) ?_ 28 (.tmp 16) (.tmp 65) ?_ g 0 ?_ 28 zplan (p.withS xA xc Q (R, R)).cells ?_ la (Nat.le_refl 8) size28 (by simp [PlM.cells, Value.oneCell']) ?_
    rfl; rfl; rfl; rfl
    intro w8 HS8 HO8
    refine wpList_nil ?_
    have x8 : Lies w8 g 28 (p.withS xA xc Q (R, R)).cells.toArray := by have := HS8.out; rwa [splice_whole (by simp [PlM.cells])] at this
    have gw : w.heap.size < g := by have := B3.out.size; have := L3.out.in_; omega
    have L8 := Lib.hid (HO8.out.lies L7 (by omega))
    have b8 := HO8.out.below B7 (by omega)
    have xs8 := (xs7.only HO8.out la (by decide)).more (show _ ≤ w8.heap.size by rw [HO8.out.size]; exact Nat.le_refl _)
    have xa8 := withS_at HAT.out (c := xc) b8 xs8
    have B8 := Lib.hid b8
    have X8 := Lib.hid x8
    have XA8 := Lib.hid xa8
    clear x8 b8 xs8 xa8 xs7 L7 B7 la HS8 HO8 hc7 hc5 h57 h67 hx4 hx5 hx6 hx7 hb6 hxs HRG L3 B3 E1 E2 HWI
    go_upto_region 7 with (fail)
    have hrg : ∀ W, (∃ c : Cls (fun W => Below w8.heap.size w8 W), W = c.val) → W.rangeAt g 0 (p.withS xA xc Q (R, R)).cells := by
      rintro W ⟨c, rfl⟩
      exact Lies.range (cs := (p.withS xA xc Q (R, R)).cells) (X8.out.call c.h) (fun j v hj => by simpa using hj)
    have r7 : ∀ c : Cls (fun W => Below w8.heap.size w8 W), c.val.cell? ⟨g, 7, none⟩ = some (.int .i64 (Y : Int)) := fun c => by rw [← HY.out]; exact (X8.out.call c.h).at_ 7
    have HRG := Lib.hid hrg
    haveI hne : Nonempty (Cls (fun W => Below w8.heap.size w8 W)) := ⟨⟨w8, Below.refl _ _⟩⟩
    clear hrg
    refine wp_region_whole [([0, 2, 3, 4], [1, 5, 6, 7]), ([8, 9, 10, 11, 12], [])] (fun W => ∃ c : Cls (fun W => Below w8.heap.size w8 W), W = c.val) (Cls.here (Below.refl _ _).drew) (by kernel_rfl) (by kernel_rfl) ?_
    simp only [wpPhases, List.filterMap_cons, List.filterMap_nil, List.getElem?_toArray, List.getElem?_cons_zero, List.getElem?_cons_succ]
    refine wpQuiet_load_whole (o := ⟨some 67, _, _, _, _, _⟩) ?_ 28 (.tmp 16) ?_ g 0 ?_ (p.withS xA xc Q (R, R)).cells _ HRG.out Try.underlying28 rfl size28 ?_
    rfl; rfl; rfl
    simp only [Act.put, List.setIfInBounds_toArray, List.set_cons_zero, List.set_cons_succ]
    refine wpQuiet_load_whole (o := ⟨some 69, _, _, _, _, _⟩) ?_ 28 (.tmp 16) ?_ g 0 ?_ (p.withS xA xc Q (R, R)).cells _ HRG.out Try.underlying28 rfl size28 ?_
    rfl; rfl; rfl
    simp only [Act.put, List.setIfInBounds_toArray, List.set_cons_zero, List.set_cons_succ]
    change wpQuiet _ _ _ _ (_ :: _ :: []) _
    repeat (first | go_big_quiet_step (fail) | quiet_step (fail))
    refine wpQuiet_nil ?_
    simp only [wpForce]
    have hd1 : Below w8.heap.size w8 w8.drew := (Below.refl _ _).drew
    generalize w8.drew = v1 at *
    go_wp2_with (go_at_call 21; refine (HX.out.plan xA xc _ (XA8.out.below hd1 hd1.size)).mono ?_; rintro e v2 ⟨qr, rfl, hqd, hqa, hb2⟩)
    have hd2 := hd1.trans (hb2.mono hd1.size)
    refine Ends.intro ⟨Cls.here hd2, ?_⟩
    go_wp2_with (go_at_call 29; refine (HX.out.ends xA xc _ (XA8.out.below hd2 hd2.size)).mono ?_; rintro e v3 ⟨u, rfl, hud, hua, hun, hb3⟩)
    have hd3 := hd2.trans (hb3.mono hd2.size)
    refine Ends.intro ⟨Cls.here hd3, ?_⟩
    go_wp2_with (go_at_call 23; refine (HX.out.truth _ u _ (.inl rfl) hud hua hun).mono ?_; rintro e v4 ⟨x, rfl, hxd, hxa, hxn, hb4⟩)
    have hd4 := hd3.trans (hb4.mono hd3.size)
    refine Ends.intro ⟨Cls.here hd4, ?_⟩
    have hqa4 : qr.At v4 v4.heap.size := (hqa.below hb3 hb3.size).below hb4 hb4.size
    go_wp2_with (go_at_call 22; refine (HX.out.run _ qr x _ (.inl rfl) hqd hxd hqa4 hxa).mono ?_; rintro e v5 ⟨A1, c1, ys, rfl, hys, hym, hya, hb5⟩)
    have hd5 := hd4.trans (hb5.mono hd4.size)
    refine Ends.intro ⟨Cls.here hd5, ?_⟩
    have hup := HX.out.up _ (.inl rfl) Y (Nat.le_refl _)
    have hlow := HX.out.low Y (Nat.le_refl _)
    have hN0 : (0 : Int) < (N : Int) := by have := hup.1; omega
    have hfp : FirstP (soldT (p.d.withS Q (R, R)) (endsD (p.d.withS Q (R, R)) Y false (Y : Int)) S) Y N Y := ⟨Nat.le_refl _, fun j hj => by have := hup.2.2 (j + 1) (by omega); omega, fun h => by omega⟩
    have hF := HX.out.first _ A1 c1 ys Y v5 (.inl rfl) hys.sl hym hya hfp
    have HFF := Lib.hid hF
    have B9 := Lib.hid (B8.out.trans (hd5.mono B8.out.size))
    clear hF hfp hup hlow hys hym hya hqa hqd hua hud hun hxa hxd hxn hqa4 hb2 hb3 hb4 hb5 hd1 hd2 hd3 hd4 hd5 B8 X8 XA8 HRG r7 HX
    change wpQuiet _ _ _ _ (_ :: _ :: _ :: _ :: _ :: []) _
    repeat (first | go_big_quiet_step (fail) | quiet_step (fail))
    refine wpQuiet_nil ?_
    go_wp2_with (first
      | (go_at_call 56; refine HFF.out.mono ?_; rintro e w9 ⟨rfl, hb9⟩)
      | (go_at_call 19; refine (awake_any _).mono ?_; rintro e w10 ⟨rfl, hb10⟩))
    go_ret
    have hx9 := B9.out.trans (hb9.mono B9.out.size)
    exact ⟨rfl, hx9.trans (hb10.mono hx9.size)⟩
theorem StockPlanted_walk (p : PlM) (ws : Sv Nat) (pl sz nm : Nat) (w : World) (hp : p.Lay w w.heap.size) (hm : (∀ x, x ∈ ws.l → x < 65536) ∧ ws.l.length ≤ 9223372036854775807) (hA : Sl w w.heap.size 1 encW ws.A ws.l) (hpl : pl ≤ 255) (hsz : sz ≤ 255) (hnm : nm ≤ 4294967295) :
    Calls Try.prog 13 #[.agg p.cells.toArray, .slice ws.A ws.l.length ws.c, .int .u8 pl, .int .u8 sz, .int .u32 nm] w fun e w' => e = .returned (.bool true) ∧ Below w.heap.size w w' := by
  cases hr : readyB p with
  | false => exact Planted_no p ws pl sz nm w hp hr
  | true => exact Planted_yes p ws pl sz nm w hp hr hA hm.1 hm.2 hpl hsz hnm
end Go.Proofs.Ytopiidfhjfbmfaa
