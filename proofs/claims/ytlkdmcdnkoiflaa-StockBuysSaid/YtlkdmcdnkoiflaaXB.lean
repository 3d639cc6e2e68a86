/- The reference's With: a plan with another start of a size. -/
import Derived.Test.YtlkdmcdnkoiflaaXA
import Derived.Laws.OwnMore
namespace Go.Proofs.Ytlkdmcdnkoiflaa
open Go.RowKit Go.Lib

/-- The plan with another start of a size, at A. -/
def PlM.withS (p : PlM) (A : Option Addr) (c size : Nat) (r : Int × Int) : PlM := { p with s := ⟨A, p.s.l.set size r, c⟩ }
def RetW (p : PlM) (size : Nat) (r : Int × Int) (w : World) (e : Ending) (w' : World) : Prop :=
  ∃ (A : Option Addr) (c : Nat), e = .returned (.agg (p.withS A c size r).cells.toArray) ∧ SlT w' w'.heap.size 2 26 encR A (p.s.l.set size r) ∧ Below w.heap.size w w'
theorem flatMap_set2 : ∀ (l : List (Int × Int)) (i : Nat) (r : Int × Int), i < l.length → ((l.flatMap encR).set (i * 2) (.int .i64 r.1)).set (i * 2 + 1) (.int .i64 r.2) = (l.set i r).flatMap encR
  | [], _, _, h => by simp at h
  | x :: l, 0, r, _ => by simp [encR]
  | x :: l, i + 1, r, h => by
    have := flatMap_set2 l i r (by simpa using h)
    simp only [List.flatMap_cons, List.set_cons_succ, encR, List.cons_append, List.nil_append, show (i + 1) * 2 = i * 2 + 1 + 1 by omega]
    rw [← this]
/-- The store of two cells into a row of one's own. -/
theorem wpList_store_own2 {P : Program} {w : World} {ops : Array Oper} {rest : List Oper} {o : Oper} {a : Act} {Q : Exit → Act → World → Prop} (hgd : o.guard = none) (ty : TypeId) (x y : Operand) (ho : o.op = .store ty x y) (g off : Nat) (hx : a.eval x = .pointer (some ⟨g, off, none⟩)) (u v : Value)
    (hy : a.eval y = .agg #[u, v]) {base n cap size : Nat} {e : TypeId} {xs : List Value} (hl : w.ownsRow base e size (.slice (some ⟨g, 0, none⟩) n cap) n xs) (hf : off + 2 ≤ n * size) (hi : (P.info? ty).map (·.size) = some 2) (h1 : u.oneCell' = true) (h2 : v.oneCell' = true)
    (h : ∀ w', Hid (w'.ownsRow base e size (.slice (some ⟨g, 0, none⟩) n cap) n ((xs.set off u).set (off + 1) v)) → Hid (w.grownBy w' (some g)) → wpList P ops Q rest (a.put o.dst undef) w') : wpList P ops Q (o :: rest) a w := by
  obtain ⟨cs, hc, hz⟩ : ∃ cs : Array Value, Lies w g e cs ∧ off + 2 ≤ cs.size := by
    rcases hl.2 with ⟨h', _⟩ | ⟨g', cap', cur, h', _, hg, hnc, _, hcs, _⟩
    · simp at h'
    · simp only [Value.slice.injEq, Option.some.injEq, Addr.mk.injEq, and_true, true_and] at h'
      obtain ⟨rfl, rfl⟩ := h'
      refine ⟨cur, hg, ?_⟩
      rw [hcs]
      exact Nat.le_trans hf (Nat.mul_le_mul_right size hnc)
  have hS := hl.stored off u
  have hS2 := hS.1.stored (off + 1) v
  refine wpList_store_mid hgd ty x y ho g off #[u, v] hx hy ?_ (by simpa using hi) (all_oneCell_toArray (cs := [u, v]) (by simp [h1, h2])) (h _ ?_ ?_)
  · have := Lies.there (o := off) (n := 2) (cs := cs.toList) (by simpa using hc) (by simpa using hz)
    simpa using this
  · exact hS2.1
  · exact grown_trans hS.2 hS2.2
theorem sizeR26 : (Try.prog.info? 26).map (·.size) = some 2 := by kernel_rfl
theorem infoRef : (Try.prog.info? 26).map (fun i => (i.zero, i.size, i.bytes)) = some (some (.agg #[.int .i64 0, .int .i64 0]), 2, 16) := by kernel_rfl
set_option maxRecDepth 100000 in
set_option maxHeartbeats 1000000 in
theorem With_any (p : PlM) (size : Nat) (r : Int × Int) (w : World) (hp : p.At w w.heap.size) (hs : size < p.s.l.length) (hn : p.s.l.length ≤ 5) :
    Calls Try.prog 36 #[.agg p.cells.toArray, .int .i64 size, .agg #[.int .i64 r.1, .int .i64 r.2]] w (RetW p size r w) := by
  obtain ⟨i0, hi, hz0, hz1, hz2⟩ := info_parts infoRef
  have l0 : Lies (((w.alloc (.cells p.cells.toArray 28)).alloc (.cells #[.int .i64 r.1, .int .i64 r.2] 26)).alloc (.cells zplan.toArray 28)) w.heap.size 28 p.cells.toArray := ((Lies.fresh _ _ _).alloc _).alloc _
  have l1 : Lies (((w.alloc (.cells p.cells.toArray 28)).alloc (.cells #[.int .i64 r.1, .int .i64 r.2] 26)).alloc (.cells zplan.toArray 28)) (w.heap.size + 1) 26 #[.int .i64 r.1, .int .i64 r.2] := (Lies.fresh' (by simp)).alloc _
  have l2 : Lies (((w.alloc (.cells p.cells.toArray 28)).alloc (.cells #[.int .i64 r.1, .int .i64 r.2] 26)).alloc (.cells zplan.toArray 28)) (w.heap.size + 1 + 1) 28 zplan.toArray := Lies.fresh' (by simp)
  have b0 : Below w.heap.size w (((w.alloc (.cells p.cells.toArray 28)).alloc (.cells #[.int .i64 r.1, .int .i64 r.2] 26)).alloc (.cells zplan.toArray 28)) := (by repeat (first | (with_reducible assumption) | (with_reducible exact Below.refl _ _) | (with_reducible refine Below.drew ?_) | (with_reducible refine below_drewN ?_ _) | ((with_reducible refine Below.setCell ?_ ?_ _); rotate_left; focus (first | (simp; done) | (simp; omega) | omega)) | ((with_reducible refine Below.alloc ?_ ?_ _); rotate_left; focus (first | (simp; done) | (simp; omega) | omega))))
  have L0 := Lib.hid l0
  have L1 := Lib.hid l1
  have L2 := Lib.hid l2
  have B0 := Lib.hid b0
  have HI := Lib.hid hi
  have Hz0 := Lib.hid hz0
  have Hz1 := Lib.hid hz1
  have Hz2 := Lib.hid hz2
  have HP := Lib.hid hp
  clear l0 l1 l2 b0 hi hz0 hz1 hz2 hp
  unfold PlM.cells
  go_enter Try.func36, Try.ntmps36
  go_upto_region 2 with (first
    | (refine wpList_load_row (o := ⟨some 8, _, _, _, _, _⟩) ?_ 28 (.tmp 3) ?_ w.heap.size ?_ 28 p.cells.toArray (0, 0) _ (L0.out.alloc _) Try.underlying28 rfl size28 ?_; rfl; rfl; rfl)
    | (refine wpList_store_cells (o := ⟨none, .store 28 (.tmp 7) _, _, _, _, _⟩) ?_ 28 (.tmp 7) (.tmp 8) ?_ (w.heap.size + 1 + 1 + 1) 0 ?_ 28 zplan p.cells ?_ (Lies.fresh' (by simp)) (Nat.le_refl 8) size28 (by simp [PlM.cells, Value.oneCell']) ?_; rfl; rfl; rfl; rfl; intro w3 HS3 HO3; (try simp only [Act.put])))
  have x3 : Lies w3 (w.heap.size + 1 + 1 + 1) 28 p.cells.toArray := by have := HS3.out; rwa [splice_whole (by simp [PlM.cells])] at this
  have p3 : Lies w3 w.heap.size 28 p.cells.toArray := HO3.out.lies (L0.out.alloc _) (by omega)
  have r3 : Lies w3 (w.heap.size + 1) 26 #[.int .i64 r.1, .int .i64 r.2] := HO3.out.lies (L1.out.alloc _) (by omega)
  have z3 : Lies w3 (w.heap.size + 1 + 1) 28 zplan.toArray := HO3.out.lies (L2.out.alloc _) (by omega)
  have b3 : Below w.heap.size w w3 := HO3.out.below (B0.out.alloc B0.out.size _) (by omega)
  have s3 : w.heap.size + 4 ≤ w3.heap.size := by rw [HO3.out.size]; simp
  have hown : (w3.alloc (.cells #[] 26)).ownsRow w3.heap.size 26 2 (.slice (some ⟨w3.heap.size, 0, none⟩) 0 0) 0 [] := World.ownsRow_made w3 #[] 0 (Nat.le_refl _) (by unfold maxLen; omega) rfl
  have bb : Below w.heap.size w (w3.alloc (.cells #[] 26)) := b3.alloc b3.size _
  obtain ⟨b, off, eA, hb, hcells⟩ := HP.out.s (by rintro h; rw [h] at hs; simp at hs)
  have hnews := (HP.out.s.below bb).news (enc := encR) (fun _ => rfl) _ eA
  have c0 : (w3.alloc (.cells #[] 26)).cell? ⟨w.heap.size, 0, none⟩ = some (.slice (some ⟨b, off, none⟩) p.s.l.length p.s.c) := by rw [← eA]; exact (p3.alloc _).at_ 0
  have X3 := Lib.hid x3
  have P3 := Lib.hid p3
  have R3 := Lib.hid r3
  have Z3 := Lib.hid z3
  have B3 := Lib.hid b3
  have HOW := Lib.hid hown
  have HN := Lib.hid hnews
  have n0 : 0 < p.s.l.length := by omega
  have hln : (p.s.l.flatMap encR).length = p.s.l.length * 2 := flat_len (enc := encR) (fun _ => rfl) _
  have HLN := Lib.hid hln
  have h1c : ∀ u ∈ p.s.l.flatMap encR, u.oneCell' = true := fun u hu => by
    obtain ⟨x, _, hx⟩ := List.mem_flatMap.1 hu
    simp only [encR, List.mem_cons, List.not_mem_nil, or_false] at hx
    rcases hx with rfl | rfl <;> rfl
  have H1C := Lib.hid h1c
  clear x3 p3 r3 z3 b3 hown bb hnews hcells HS3 HO3 hln h1c
  go_upto_region 3 with (at_builtin; go_loud (refine wpList_append_lies _ rfl (.tmp 9) (.tmp 11) 22 rfl w3.heap.size 26 i0 _ 2 16 Try.underlying22 HI.out Hz0.out Hz1.out Hz2.out rfl (by decide) (.slice (some ⟨w3.heap.size, 0, none⟩) 0 0) 0 [] rfl HOW.out ⟨b, off, none⟩ p.s.l.length p.s.c (p.s.l.flatMap encR) rfl HLN.out HN.out H1C.out n0 (by unfold maxLen; omega) (by omega) (by simp) _ rfl ?_); intro g7 cap7 w7 hown7 hg7 hat7 hlt7; clear hat7 hlt7; have x7 := (X3.out.alloc (.cells #[] 26)).grown hg7 (by intro e; have e' : w.heap.size + 1 + 1 + 1 = w3.heap.size := (by simpa [Value.ownBlock] using e); omega); have f7 : w7.cell? ⟨w.heap.size + 1 + 1 + 1, 0, none⟩ = some (.slice p.s.A p.s.l.length p.s.c) := x7.at_ 0; have z7 := x7.free 0; have X7 := Lib.hid x7; clear x7)
  have hne7 : ∀ j, j < w3.heap.size → some j ≠ (Value.slice (some ⟨w3.heap.size, 0, none⟩) 0 0).ownBlock := fun j hj e => by
    have e' : j = w3.heap.size := by simpa [Value.ownBlock] using e
    omega
  have x8 := X7.out.set 0 (.slice (some ⟨g7, 0, none⟩) p.s.l.length cap7)
  have r8 := ((R3.out.alloc (.cells #[] 26)).grown hg7 (hne7 _ (by omega))).other (p := ⟨w.heap.size + 1 + 1 + 1, 0, none⟩) (show w.heap.size + 1 ≠ w.heap.size + 1 + 1 + 1 by omega) (.slice (some ⟨g7, 0, none⟩) p.s.l.length cap7)
  have z8 := ((Z3.out.alloc (.cells #[] 26)).grown hg7 (hne7 _ (by omega))).other (p := ⟨w.heap.size + 1 + 1 + 1, 0, none⟩) (show w.heap.size + 1 + 1 ≠ w.heap.size + 1 + 1 + 1 by omega) (.slice (some ⟨g7, 0, none⟩) p.s.l.length cap7)
  have own8 := own_set hown7 X7.out (by decide) (i := 0) (.slice (some ⟨g7, 0, none⟩) p.s.l.length cap7)
  have bg7 : ∀ j, (Value.slice (some ⟨w3.heap.size, 0, none⟩) 0 0).ownBlock = some j → w.heap.size ≤ j := fun j e => by
    have e' : w3.heap.size = j := by simpa [Value.ownBlock] using e
    omega
  have b8 : Below w.heap.size w (w7.setCell ⟨w.heap.size + 1 + 1 + 1, 0, none⟩ (.slice (some ⟨g7, 0, none⟩) p.s.l.length cap7)) := ((B3.out.alloc B3.out.size _).grown hg7 (by have := B3.out.size; simp; omega) bg7).setCell (by show w.heap.size ≤ w.heap.size + 1 + 1 + 1; omega) _
  have hgb : w3.heap.size ≤ g7 ∧ g7 < w7.heap.size := by have h := own_at hown7 (g := g7) rfl; exact ⟨h.1, h.2.1⟩
  have c8 : (w7.setCell ⟨w.heap.size + 1 + 1 + 1, 0, none⟩ (.slice (some ⟨g7, 0, none⟩) p.s.l.length cap7)).cell? ⟨w.heap.size + 1 + 1 + 1, 0, none⟩ = some (.slice (some ⟨g7, 0, none⟩) p.s.l.length cap7) := x8.at_ 0
  have hsz : (size : Int) < (p.s.l.length : Int) := by omega
  have hs0 : (0 : Int) ≤ (size : Int) := by omega
  have X8 := Lib.hid x8
  have R8 := Lib.hid r8
  have Z8 := Lib.hid z8
  have O8 := Lib.hid own8
  have B8 := Lib.hid b8
  have S8 : (w7.setCell ⟨w.heap.size + 1 + 1 + 1, 0, none⟩ (.slice (some ⟨g7, 0, none⟩) p.s.l.length cap7)).heap.size = w7.heap.size := by simp only [World.size_setCell]
  clear x8 r8 z8 own8 b8 hown7 hg7 hne7 bg7 f7 z7 c0
  generalize (w7.setCell ⟨w.heap.size + 1 + 1 + 1, 0, none⟩ (.slice (some ⟨g7, 0, none⟩) p.s.l.length cap7)) = w8 at *
  go_upto_region 4 with (first
    | (refine wpList_load_row (o := ⟨some 17, _, _, _, _, _⟩) ?_ 26 (.tmp 5) ?_ (w.heap.size + 1) ?_ 26 #[.int .i64 r.1, .int .i64 r.2] (0, 0) _ R8.out Try.underlying26 rfl sizeR26 ?_; rfl; rfl; rfl)
    | (refine wpList_store_own2 (o := ⟨none, .store 26 (.tmp 18) _, _, _, _, _⟩) ?_ 26 (.tmp 18) (.tmp 17) ?_ g7 (size * 2) ?_ (.int .i64 r.1) (.int .i64 r.2) ?_ O8.out (by omega) sizeR26 rfl rfl ?_; rfl; rfl; rfl; rfl; intro w9 HO9 HG9; (try simp only [Act.put])))
  have q9 : ∀ k t cs, k < w3.heap.size → Lies w8 k t cs → Lies w9 k t cs := fun k t cs hk h => grown_lies HG9.out h (by omega)
  have x9 := q9 _ _ _ (by omega) X8.out
  have z9 := q9 _ _ _ (by omega) Z8.out
  have b9 : Below w.heap.size w w9 := B8.out.grown HG9.out B8.out.size (fun j e => by cases e; omega)
  have xw : Lies w9 (w.heap.size + 1 + 1 + 1) 28 (p.withS (some ⟨g7, 0, none⟩) cap7 size r).cells.toArray := by simpa [PlM.cells, PlM.withS] using x9
  have XW := Lib.hid xw
  have Z9 := Lib.hid z9
  have B9 := Lib.hid b9
  clear x9 z9 b9 q9 xw
  go_upto_region 4 with (fail)
  apply wp_region_lit
  refine wpList_load_row (o := ⟨some 19, _, _, _, _, _⟩) ?_ 28 (.tmp 7) ?_ (w.heap.size + 1 + 1 + 1) ?_ 28 (p.withS (some ⟨g7, 0, none⟩) cap7 size r).cells.toArray (0, 0) _ XW.out Try.underlying28 rfl size28 ?_
  rfl; rfl; rfl
  refine wpList_store_cells (o := ⟨none, .store 28 (.tmp 6) _, _, _, _, _⟩) ?_ 28 (.tmp 6) (.tmp 19) ?_ (w.heap.size + 1 + 1) 0 ?_ 28 zplan (p.withS (some ⟨g7, 0, none⟩) cap7 size r).cells ?_ Z9.out (Nat.le_refl 8) size28 (by simp [PlM.cells, Value.oneCell']) ?_
  rfl; rfl; rfl; rfl
  intro w10 HS10 HO10
  refine wpList_nil ?_
  have hs10 : Lies w10 (w.heap.size + 1 + 1) 28 (p.withS (some ⟨g7, 0, none⟩) cap7 size r).cells.toArray := by have := HS10.out; rwa [splice_whole (by simp [PlM.cells])] at this
  have b10 : Below w.heap.size w w10 := HO10.out.below B9.out (by omega)
  have o9 := own_only HO9.out Z9.out (by decide) HO10.out
  have hres : RetW p size r w (.returned (.agg (p.withS (some ⟨g7, 0, none⟩) cap7 size r).cells.toArray)) w10 := by
    have o10 : w10.ownsRow w3.heap.size 26 2 (.slice (some ⟨g7, 0, none⟩) (p.s.l.set size r).length cap7) (p.s.l.set size r).length ((p.s.l.set size r).flatMap encR) := by
      rw [← flatMap_set2 _ _ _ hs]
      simpa using o9
    exact ⟨_, _, rfl, SlT.of_own (enc := encR) (fun _ => rfl) o10, b10⟩
  have HRES := Lib.hid hres
  have HS := Lib.hid hs10
  clear hres hs10 HS10 HO10 o9 b10
  go_wp2
  exact bodyPost_ret (results_cell_row rfl _ _ (w.heap.size + 1 + 1) 28 (p.withS (some ⟨g7, 0, none⟩) cap7 size r).cells.toArray (0, 0) _ rfl HS.out Try.underlying28 rfl size28) rfl HRES.out
end Go.Proofs.Ytlkdmcdnkoiflaa

namespace Go.Proofs.Ytlkdmcdnkoiflaa
open Go.RowKit Go.Lib

def PD.withS (d : PD) (size : Nat) (r : Int × Int) : PD := { d with s := d.s.set size r }
theorem endF_between (b : Bool) : Between (endF b) := fun r h => by cases b <;> simp [endF, h]
theorem ends_fits {p : PlM} (hv : p.Valid) {Y : Nat} (hY : p.years = (Y : Int)) (hg : Bool) (year : Int) : fitD p.d (endsD p.d Y hg year) = true := by
  refine fit_mkT hv hY (fun s hs => inB_iff.2 (endF_between hg _ ?_)) (fun y s k _ hs hk => inB_iff.2 (endF_between hg _ ?_)) (fun y _ => inB_iff.2 (endF_between _ (p.lo, p.hi) hv.l.2.1))
  · obtain ⟨r, hr⟩ : ∃ r, p.s.l[s]? = some r := ⟨p.s.l[s], by simp [hs]⟩
    have h := hv.sb r (List.mem_of_getElem? hr)
    have e : p.d.s.getD s (0, 0) = r := by show p.s.l.getD s (0, 0) = r; simp [List.getD, hr]
    rw [e]; exact h.2.1
  · obtain ⟨x, hx⟩ : ∃ x, p.g.l[s]? = some x := ⟨p.g.l[s]'(by rw [hv.g]; exact hs), by simp⟩
    have hxm := List.mem_of_getElem? hx
    obtain ⟨r, hr⟩ : ∃ r, x.l[k]? = some r := ⟨x.l[k]'(by rw [hv.gl x hxm]; exact hk), by simp⟩
    have h := hv.gb x hxm r (List.mem_of_getElem? hr)
    have e : (p.d.g.getD s []).getD k (0, 0) = r := by show ((p.g.l.map (·.l)).getD s []).getD k (0, 0) = r; simp [List.getD, hx, hr]
    rw [e]; exact h.2.1
/-- What is sold in the truth of the low ends. -/
theorem soldT_ends {p : PlM} (hv : p.Valid) {Y : Nat} (S : Nat) {k : Nat} (hk : k ≤ Y) : soldT p.d (endsD p.d Y false (Y : Int)) S k = soldE p.d false S k := by
  have e1 : (endsD p.d Y false (Y : Int)).s = p.d.s.map (·.1) := by
    show (List.range p.d.s.length).map (fun s => endF false (p.d.s.getD s (0, 0))) = _
    have h := congrArg (List.map (·.1)) (range_getD p.d.s (0, 0))
    rw [List.map_map] at h
    exact h
  unfold soldT soldE
  rw [e1]
  refine soldUpD_congr rfl rfl rfl rfl k fun j hj => ⟨?_, ?_⟩
  · have hjY : j < Y := by omega
    have hgl : p.d.g.length = p.d.s.length := by show (p.g.l.map (·.l)).length = p.s.l.length; rw [List.length_map]; exact hv.g
    have hrow : ∀ x, x ∈ p.d.g → x.length = p.d.s.length := fun x hx => by
      obtain ⟨z, hz, rfl⟩ := List.mem_map.1 (show x ∈ p.g.l.map (·.l) from hx)
      exact hv.gl z hz
    show ((List.range Y).map fun y => (List.range p.d.s.length).map fun s => (List.range p.d.s.length).map fun k => endF false ((p.d.g.getD s []).getD k (0, 0))).getD j [] = growF p.d (·.1)
    simp only [List.getD, List.getElem?_map, List.getElem?_range hjY, Option.map_some, Option.getD_some]
    unfold growF
    have h : (List.range p.d.s.length).map (fun i => p.d.g.getD i []) = p.d.g := by rw [← hgl]; exact range_getD _ _
    refine Eq.trans ?_ (congrArg (List.map fun x => x.map (·.1)) h)
    rw [List.map_map]
    refine List.map_congr_left fun s hs => ?_
    have hsl : s < p.d.g.length := by rw [hgl]; exact List.mem_range.1 hs
    have hx := hrow (p.d.g.getD s []) (by simp only [List.getD, List.getElem?_eq_getElem hsl, Option.getD_some]; exact List.getElem_mem hsl)
    have h2 : (List.range p.d.s.length).map (fun i => (p.d.g.getD s []).getD i (0, 0)) = p.d.g.getD s [] := by rw [← hx]; exact range_getD _ _
    refine Eq.trans ?_ (congrArg (List.map (·.1)) h2)
    rw [List.map_map]
    rfl
  · have hjY : j < Y := by omega
    show ((List.range Y).map fun y : Nat => endF (false != decide ((y : Int) < (Y : Int))) (p.d.lo, p.d.hi)).getD j 0 = p.d.hi
    simp [List.getD, hjY, endF]
end Go.Proofs.Ytlkdmcdnkoiflaa

namespace Go.Proofs.Ytlkdmcdnkoiflaa
open Go.RowKit Go.Lib
attribute [local go_sem] Oper.semAt_some

/-- What the calls answer for the plan x, which has so much planted of a size. -/
structure XC (p : PlM) (Y Q S : Nat) (N : Int) (ws : Sv Nat) (w : World) (h : Int) : Prop where
  plan : ∀ A c W, (p.withS A c Q (h, h)).At W W.heap.size → Calls Try.prog 21 #[.agg (p.withS A c Q (h, h)).cells.toArray] W (RetP (p.withS A c Q (h, h)) W)
  ends : ∀ A c W, (p.withS A c Q (h, h)).At W W.heap.size → Calls Try.prog 29 #[.agg (p.withS A c Q (h, h)).cells.toArray, .bool false, .int .i64 Y] W (RetT (endsD (p.d.withS Q (h, h)) Y false (Y : Int)) W)
  pick : ∀ A c W, (p.withS A c Q (h, h)).At W W.heap.size → Below w.heap.size w W → Calls Try.prog 52 #[.agg (p.withS A c Q (h, h)).cells.toArray, .slice ws.A ws.l.length ws.c] W (RetT (pickD (p.d.withS Q (h, h)) Y ws.l) W)
  truth : ∀ (T : TD) (u : TrM) (W : World), (T = endsD (p.d.withS Q (h, h)) Y false (Y : Int) ∨ T = pickD (p.d.withS Q (h, h)) Y ws.l) → u.d = T → u.At W W.heap.size → u.Nil → Calls Try.prog 23 #[.agg u.cells.toArray] W (RetT T W)
  run : ∀ (T : TD) (q : PlM) (u : TrM) (W : World), (T = endsD (p.d.withS Q (h, h)) Y false (Y : Int) ∨ T = pickD (p.d.withS Q (h, h)) Y ws.l) → q.d = p.d.withS Q (h, h) → u.d = T → q.At W W.heap.size → u.At W W.heap.size →
    Calls Try.prog 22 #[.agg q.cells.toArray, .agg u.cells.toArray] W (RetR (fun k => toldL p.s.l.length (yrT (p.d.withS Q (h, h)) T k)) Y W)
  first : ∀ (T : TD) (A : Option Addr) (c : Nat) (ys : List Y4) (r : Nat) (W : World), (T = endsD (p.d.withS Q (h, h)) Y false (Y : Int) ∨ T = pickD (p.d.withS Q (h, h)) Y ws.l) → Sl W W.heap.size 4 encY4 A ys → ys.map Y4.lists = ((List.range Y).map fun k => toldL p.s.l.length (yrT (p.d.withS Q (h, h)) T k)) → (∀ y, y ∈ ys → y.In W W.heap.size) →
    FirstP (soldT (p.d.withS Q (h, h)) T S) Y N r → Calls Try.prog 56 #[.slice A Y c, .int .i64 S, .int .i64 N] W fun e w' => e = .returned (.int .i64 r) ∧ Below W.heap.size W w'
  low : ∀ k, k ≤ Y → soldT (p.d.withS Q (h, h)) (endsD (p.d.withS Q (h, h)) Y false (Y : Int)) S k = soldE (p.d.withS Q (h, h)) false S k
  up : ∀ T, (T = endsD (p.d.withS Q (h, h)) Y false (Y : Int) ∨ T = pickD (p.d.withS Q (h, h)) Y ws.l) → ∀ k, k ≤ Y → 0 ≤ soldT (p.d.withS Q (h, h)) T S k ∧ soldE (p.d.withS Q (h, h)) false S k ≤ soldT (p.d.withS Q (h, h)) T S k ∧ ∀ j, j ≤ k → soldT (p.d.withS Q (h, h)) T S j ≤ soldT (p.d.withS Q (h, h)) T S k
  en : enoughD p.d Y Q S N h = decide (N ≤ soldE (p.d.withS Q (h, h)) false S Y)
end Go.Proofs.Ytlkdmcdnkoiflaa

namespace Go.Proofs.Ytlkdmcdnkoiflaa
open Go.RowKit Go.Lib
attribute [local go_sem] Oper.semAt_some

end Go.Proofs.Ytlkdmcdnkoiflaa

namespace Go.Proofs.Ytlkdmcdnkoiflaa
open Go.RowKit Go.Lib

/-- The parts of a truth at the ends. -/
theorem ends_parts {p : PlM} (hv : p.Valid) (Y : Nat) (hg : Bool) (year : Int) : (endsD p.d Y hg year).s = p.d.s.map (endF hg) ∧
    ∀ j, j < Y → (endsD p.d Y hg year).g.getD j [] = growF p.d (endF hg) ∧ (endsD p.d Y hg year).l.getD j 0 = endF (hg != decide ((j : Int) < year)) (p.d.lo, p.d.hi) := by
  refine ⟨?_, fun j hjY => ⟨?_, ?_⟩⟩
  · show (List.range p.d.s.length).map (fun s => endF hg (p.d.s.getD s (0, 0))) = _
    have h := congrArg (List.map (endF hg)) (range_getD p.d.s (0, 0))
    rw [List.map_map] at h
    exact h
  · have hgl : p.d.g.length = p.d.s.length := by show (p.g.l.map (·.l)).length = p.s.l.length; rw [List.length_map]; exact hv.g
    have hrow : ∀ x, x ∈ p.d.g → x.length = p.d.s.length := fun x hx => by
      obtain ⟨z, hz, rfl⟩ := List.mem_map.1 (show x ∈ p.g.l.map (·.l) from hx)
      exact hv.gl z hz
    show ((List.range Y).map fun y => (List.range p.d.s.length).map fun s => (List.range p.d.s.length).map fun k => endF hg ((p.d.g.getD s []).getD k (0, 0))).getD j [] = growF p.d (endF hg)
    simp only [List.getD, List.getElem?_map, List.getElem?_range hjY, Option.map_some, Option.getD_some]
    unfold growF
    have h : (List.range p.d.s.length).map (fun i => p.d.g.getD i []) = p.d.g := by rw [← hgl]; exact range_getD _ _
    refine Eq.trans ?_ (congrArg (List.map fun x => x.map (endF hg)) h)
    rw [List.map_map]
    refine List.map_congr_left fun s hs => ?_
    have hsl : s < p.d.g.length := by rw [hgl]; exact List.mem_range.1 hs
    have hx := hrow (p.d.g.getD s []) (by simp only [List.getD, List.getElem?_eq_getElem hsl, Option.getD_some]; exact List.getElem_mem hsl)
    have h2 : (List.range p.d.s.length).map (fun i => (p.d.g.getD s []).getD i (0, 0)) = p.d.g.getD s [] := by rw [← hx]; exact range_getD _ _
    refine Eq.trans ?_ (congrArg (List.map (endF hg)) h2)
    rw [List.map_map]
    rfl
  · show ((List.range Y).map fun y : Nat => endF (hg != decide ((y : Int) < year)) (p.d.lo, p.d.hi)).getD j 0 = _
    simp [List.getD, hjY]
end Go.Proofs.Ytlkdmcdnkoiflaa
