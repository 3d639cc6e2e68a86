/- The texts ZK ZL MC TF LC LD MD ZM ME LE MF LF LG LH MY OPN OPP, joined. -/
import Derived.Test.YtlkdmcdnkoiflaaGE
import Derived.Test.YtlkdmcdnkoiflaaGD
import Derived.Test.YtlkdmcdnkoiflaaGA
import Derived.ProofKit
import Derived.OpenShut
import Derived.Deep.Slices
import Derived.Carry
/- Plan.bounds, Count. -/
namespace Go.Proofs.Ytlkdmcdnkoiflaa
open Go.RowKit Go.Lib

/-- The bounds of a year as they lie. -/
structure BdM where
  a : Sv (Int × Int)
  b : Sv (Int × Int)
  c : Sv (Int × Int)
  d : Sv (Int × Int)
def encB (x : BdM) : List Value := [x.a.val, x.b.val, x.c.val, x.d.val]
structure BdM.At (x : BdM) (w : World) (B : Nat) : Prop where
  a : Sl w B 2 encR x.a.A x.a.l
  b : Sl w B 2 encR x.b.A x.b.l
  c : Sl w B 2 encR x.c.A x.c.l
  d : Sl w B 2 encR x.d.A x.d.l
theorem BdM.At.below {x : BdM} {w w' : World} {B B' : Nat} (h : x.At w B) (hb : Below B w w') (hB : B ≤ B') : x.At w' B' := ⟨(h.a.below hb).more hB, (h.b.below hb).more hB, (h.c.below hb).more hB, (h.d.below hb).more hB⟩
def BdM.lists (x : BdM) : List (Int × Int) × List (Int × Int) × List (Int × Int) × List (Int × Int) := (x.a.l, x.b.l, x.c.l, x.d.l)
def sub5 (off : Nat) (l : List Int) : List Int := (l.drop off).take 5
theorem sub5_length {off : Nat} {l : List Int} (h : off + 5 ≤ l.length) : (sub5 off l).length = 5 := by unfold sub5; rw [List.length_take, List.length_drop]; omega
theorem sub5_getD {off : Nat} {l : List Int} {i : Nat} (hi : i < 5) : (sub5 off l).getD i 0 = l.getD (off + i) 0 := by
  unfold sub5; simp only [List.getD, List.getElem?_take, if_pos hi, List.getElem?_drop]
theorem sub5_at {off j : Nat} {l : List Int} {v : Int} (h : (sub5 off l)[j]? = some v) : l[off + j]? = some v := by
  unfold sub5 at h
  rw [List.getElem?_take] at h
  split at h
  · rw [List.getElem?_drop] at h; exact h
  · cases h
theorem sub5_cell {off j : Nat} {l : List Int} {v : Value} (h : ((sub5 off l).map (Value.int .i64))[j]? = some v) : (l.map (Value.int .i64))[off + j]? = some v := by
  rw [List.getElem?_map, Option.map_eq_some_iff] at h ⊢
  obtain ⟨x, hx, e⟩ := h
  exact ⟨x, sub5_at hx, e⟩
/-- What reads as a whole in a block of integers, part by part. -/
theorem parts5 {w : World} {g : Nat} {x : List Int} (h20 : x.length = 20) (hl : Lies w g 123 (vals x)) (off : Nat) (ho : off + 5 ≤ 20) :
    (∀ W, (∃ q : Regrown, W = Go.Sort.grow (redrawn w q.d) q.os) → W.rangeAt g off ((sub5 off x).map (Value.int .i64))) ∧ (Try.prog.info? 120).map (·.size) = some (sub5 off x).length := by
  rw [sub5_length (by rw [h20]; exact ho)]
  refine ⟨?_, size120⟩
  rintro W ⟨q, rfl⟩
  exact Lies.range (cs := x.map (Value.int .i64)) (hl.call (below_regrown w q.d q.os)) (fun j v hj => sub5_cell hj)
/-- The bounds of a year: of what is the least, and the greatest. -/
def bndL (n : Nat) (lo hi : List Int) : List (Int × Int) × List (Int × Int) × List (Int × Int) × List (Int × Int) :=
  (rangesL (sub5 0 lo) (sub5 0 hi) n, rangesL (sub5 5 lo) (sub5 5 hi) n, rangesL (sub5 10 lo) (sub5 10 hi) n, rangesL (sub5 15 lo) (sub5 15 hi) n)
def lowD (d : PD) (k : Nat) : List Int := seaD d (·.1) (·.1) (·.2) (·.1) k
def highD (d : PD) (k : Nat) : List Int := seaD d (·.2) (·.2) (·.1) (·.2) k
def bndD (d : PD) (k : Nat) : List (Int × Int) × List (Int × Int) × List (Int × Int) × List (Int × Int) := bndL d.s.length (lowD d k) (highD d k)

/-- What bounds hands back. -/
def RetB (d : PD) (Y : Nat) (w : World) (e : Ending) (w' : World) : Prop :=
  ∃ (A : Option Addr) (c : Nat) (bs : List BdM), e = .returned (.slice A Y c) ∧ Sl w' w'.heap.size 4 encB A bs ∧ bs.map BdM.lists = (List.range Y).map (bndD d) ∧ (∀ x, x ∈ bs → x.At w' w'.heap.size) ∧ Below w.heap.size w w'
theorem seasons_ret (p : PlM) (a b c d : Nat) (fa fb fc fd : Int × Int → Int) (Y : Nat) (w : World) (hp : p.At w w.heap.size) (hv : p.Valid) (hY : p.years = (Y : Int)) (ha : Takes Try.prog a fa) (hb : Takes Try.prog b fb) (hc : Takes Try.prog c fc) (hd : Takes Try.prog d fd)
    (ba : Between fa) (bb : Between fb) (bc : Between fc) (bd : Between fd) :
    Calls Try.prog 103 #[.agg p.cells.toArray, .agg #[.func (.func a) #[] #[], .func (.func b) #[] #[], .func (.func c) #[] #[], .func (.func d) #[] #[]]] w fun e w' => ∃ A c, e = .returned (.slice A Y c) ∧ Sl w' w'.heap.size 20 encS A ((List.range Y).map (seaD p.d fa fb fc fd)) ∧ Below w.heap.size w w' :=
  (seasons_any p a b c d fa fb fc fd Y w hp hv hY ha hb hc hd ba bb bc bd).mono fun e w' ⟨v, he, ho, hb⟩ => by
    obtain ⟨A, c, e1, _, e3⟩ := Sl.of_own (enc := encS) (l := (List.range Y).map (seaD p.d fa fb fc fd)) encS_length (by simpa using ho) rfl
    simp only [List.length_map, List.length_range] at e1
    subst e1
    exact ⟨A, c, he, e3, hb⟩
theorem ranges_ret (n : Nat) (lo hi : List Int) (w : World) (h1 : lo.length = 5) (h2 : hi.length = 5) (hn : n ≤ 5) :
    Calls Try.prog 104 #[.int .i64 n, .agg (vals lo), .agg (vals hi)] w fun e w' => ∃ A c, e = .returned (.slice A n c) ∧ Sl w' w'.heap.size 2 encR A (rangesL lo hi n) ∧ Below w.heap.size w w' :=
  (ranges_any n lo hi w h1 h2 hn).mono fun e w' ⟨v, he, ho, hb⟩ => by
    have hl : (rangesL lo hi n).length = n := by simp [rangesL]
    obtain ⟨A, c, e1, _, e3⟩ := Sl.of_own (enc := encR) (l := rangesL lo hi n) (fun _ => rfl) (by rw [hl]; exact ho) rfl
    rw [hl] at e1
    subst e1
    exact ⟨A, c, he, e3, hb⟩

theorem infoBounds : (Try.prog.info? 62).map (fun i => (i.zero, i.size, i.bytes)) = some (some (.agg #[.slice none 0 0, .slice none 0 0, .slice none 0 0, .slice none 0 0]), 4, 96) := by kernel_rfl
theorem ranges_own (n : Nat) (lo hi : List Int) (w : World) (h1 : lo.length = 5) (h2 : hi.length = 5) (hn : n ≤ 5) :
    Calls Try.prog 104 #[.int .i64 n, .agg (vals lo), .agg (vals hi)] w fun e w' => ∃ x : Sv (Int × Int), e = .returned (.slice x.A n x.c) ∧ x.l = rangesL lo hi n ∧ w'.ownsRow w.heap.size 39 2 x.val x.l.length (x.l.flatMap encR) ∧ Below w.heap.size w w' :=
  (ranges_any n lo hi w h1 h2 hn).mono fun e w' ⟨v, he, ho, hb⟩ => by
    have hl : (rangesL lo hi n).length = n := by simp [rangesL]
    obtain ⟨A, c, e1, _, e3⟩ := Sl.of_own (enc := encR) (l := rangesL lo hi n) (fun _ => rfl) (by rw [hl]; exact ho) rfl
    rw [hl] at e1
    subst e1
    exact ⟨⟨A, rangesL lo hi n, c⟩, he, rfl, by simpa [Sv.val, hl] using ho, hb⟩
structure BdM.Own (x : BdM) (w : World) (B : Nat) : Prop where
  a : w.ownsRow B 39 2 x.a.val x.a.l.length (x.a.l.flatMap encR)
  b : w.ownsRow B 39 2 x.b.val x.b.l.length (x.b.l.flatMap encR)
  c : w.ownsRow B 39 2 x.c.val x.c.l.length (x.c.l.flatMap encR)
  d : w.ownsRow B 39 2 x.d.val x.d.l.length (x.d.l.flatMap encR)
theorem BdM.Own.call {x : BdM} {w w' : World} {B : Nat} (h : x.Own w B) (hb : Below w.heap.size w w') : x.Own w' B := ⟨ownsRow_call h.a hb, ownsRow_call h.b hb, ownsRow_call h.c hb, ownsRow_call h.d hb⟩
theorem BdM.Own.other {x : BdM} {w w' : World} {B base2 size2 n2 : Nat} {e2 : TypeId} {v2 : Value} {xs2 : List Value} (h : x.Own w B) (h2 : w.ownsRow base2 e2 size2 v2 n2 xs2) (he : 39 ≠ e2) (hg : w.grownBy w' v2.ownBlock) : x.Own w' B :=
  ⟨own_other h.a h2 he hg, own_other h.b h2 he hg, own_other h.c h2 he hg, own_other h.d h2 he hg⟩
theorem sl_of_own' {x : Sv (Int × Int)} {w : World} {B : Nat} (h : w.ownsRow B 39 2 x.val x.l.length (x.l.flatMap encR)) : Sl w w.heap.size 2 encR x.A x.l := sl_of_own (enc := encR) (fun _ => rfl) h
theorem BdM.Own.at {x : BdM} {w : World} {B : Nat} (h : x.Own w B) : x.At w w.heap.size := ⟨sl_of_own' h.a, sl_of_own' h.b, sl_of_own' h.c, sl_of_own' h.d⟩
/-- The memory of bounds between two rounds. -/
structure BL (d : PD) (Y : Nat) (w w4 : World) (A1 A2 : Option Addr) (v : Value) (k : Nat) (wr : World) : Prop where
  q1 : Sl wr w4.heap.size 20 encS A1 ((List.range Y).map (lowD d))
  q2 : Sl wr w4.heap.size 20 encS A2 ((List.range Y).map (highD d))
  own : ∃ bs : List BdM, wr.ownsRow w4.heap.size 62 4 v k (bs.flatMap encB) ∧ bs.map BdM.lists = (List.range k).map (bndD d) ∧ ∀ x, x ∈ bs → x.Own wr w4.heap.size
  b : Below w.heap.size w wr
  b4 : Below w4.heap.size w4 wr
theorem range_mono {w w' : World} {b o B : Nat} {vs : List Value} {ob : Obj} (h : w.rangeAt b o vs) (ho : Only w.heap.size (w.alloc ob) w') (hb : b < B) (hB : B ≤ w.heap.size) : w'.rangeAt b o vs := fun j v hj => by
  have h1 := h j v hj
  have hbk : w'.heap[b]? = w.heap[b]? := (ho.block b (by omega)).trans (heap_alloc_old _ _ (by omega))
  exact (World.cell?_of_block (a := ⟨b, o + j, none⟩) hbk).trans h1
theorem encB_length (x : BdM) : (encB x).length = 4 := rfl
set_option maxRecDepth 100000 in
set_option maxHeartbeats 1000000 in
theorem bounds_any (p : PlM) (Y : Nat) (w : World) (hp : p.At w w.heap.size) (hv : p.Valid) (hY : p.years = (Y : Int)) :
    Calls Try.prog 67 #[.agg p.cells.toArray] w (RetB p.d Y w) := by
  have l0 : Lies (w.alloc (.cells p.cells.toArray 41)) w.heap.size 41 p.cells.toArray := Lies.fresh _ _ _
  have b0 : Below w.heap.size w (w.alloc (.cells p.cells.toArray 41)) := (Below.refl _ _).alloc (Nat.le_refl _) _
  have hY6 : Y ≤ 6 := by have := hv.y; omega
  have hn5 : p.s.l.length ≤ 5 := hv.ok.n
  have hSL : ∀ W, Below w.heap.size w W → Calls Try.prog 103 #[.agg p.cells.toArray, .agg (endsC 109 109 108 109).toArray] W fun e w' => ∃ A c, e = .returned (.slice A Y c) ∧ Sl w' w'.heap.size 20 encS A ((List.range Y).map (lowD p.d)) ∧ Below W.heap.size W w' :=
    fun W hb => seasons_ret p _ _ _ _ _ _ _ _ Y W (hp.below hb hb.size) hv hY takes_low takes_low takes_high takes_low between_low between_low between_high between_low
  have hSG : ∀ W, Below w.heap.size w W → Calls Try.prog 103 #[.agg p.cells.toArray, .agg (endsC 108 108 109 108).toArray] W fun e w' => ∃ A c, e = .returned (.slice A Y c) ∧ Sl w' w'.heap.size 20 encS A ((List.range Y).map (highD p.d)) ∧ Below W.heap.size W w' :=
    fun W hb => seasons_ret p _ _ _ _ _ _ _ _ Y W (hp.below hb hb.size) hv hY takes_high takes_high takes_low takes_high between_high between_high between_low between_high
  have hrg : ∀ W, (∃ q : Regrown, W = Go.Sort.grow (redrawn (w.alloc (.cells p.cells.toArray 41)) q.d) q.os) → W.rangeAt w.heap.size 0 p.cells := by
    rintro W ⟨q, rfl⟩
    exact Lies.range (cs := p.cells) (l0.call (below_regrown _ q.d q.os)) (fun j v hj => by simpa using hj)
  have HRG := Lib.hid hrg
  have B0 := Lib.hid b0
  have L0 := Lib.hid l0
  have HSL := Lib.hid hSL
  have HSG := Lib.hid hSG
  clear l0 b0 hSL hSG hrg hp hY
  unfold PlM.cells
  go_enter Try.func67, Try.ntmps67
  go_wp2
  refine wp_region_reads 6 [0, 3] [1, 2, 4, 5] (by kernel_rfl) (by kernel_rfl) ?_
  simp only [List.filterMap_cons, List.filterMap_nil, List.take_succ_cons, List.take_zero, List.getElem?_toArray, List.getElem?_cons_zero, List.getElem?_cons_succ, List.drop_succ_cons, List.drop_zero]
  refine wpQuiet_load_whole (o := ⟨some 13, _, _, _, _, _⟩) ?_ 41 (.tmp 1) ?_ w.heap.size 0 ?_ p.cells _ HRG.out Try.underlying41 rfl size41 ?_
  rfl; rfl; rfl
  simp only [Act.put, List.setIfInBounds_toArray, List.set_cons_zero, List.set_cons_succ]
  refine wpQuiet_load_whole (o := ⟨some 16, _, _, _, _, _⟩) ?_ 41 (.tmp 1) ?_ w.heap.size 0 ?_ p.cells _ HRG.out Try.underlying41 rfl size41 ?_
  rfl; rfl; rfl
  simp only [Act.put, List.setIfInBounds_toArray, List.set_cons_zero, List.set_cons_succ]
  refine wpQuiet_nil ?_
  intro w0 hb0 hz0
  simp only [wpForce]
  go_wp2_with (go_at_call 72; refine (lesserEnds_any _).mono ?_; rintro e w1 ⟨rfl, hb1⟩)
  have hb1' := hb0.trans (hb1.mono hb0.size)
  refine Ends.intro ⟨hb1', ?_⟩
  go_wp2_with (go_at_call 103; refine (HSL.out _ (B0.out.trans (hb1'.mono B0.out.size))).mono ?_; rintro e w2 ⟨A1, c1, rfl, hs1, hb2⟩)
  have hb2' := hb1'.trans (hb2.mono hb1'.size)
  refine Ends.intro ⟨hb2', ?_⟩
  go_wp2_with (go_at_call 71; refine (greaterEnds_any _).mono ?_; rintro e w3 ⟨rfl, hb3⟩)
  have hb3' := hb2'.trans (hb3.mono hb2'.size)
  refine Ends.intro ⟨hb3', ?_⟩
  go_wp2_with (go_at_call 103; refine (HSG.out _ (B0.out.trans (hb3'.mono B0.out.size))).mono ?_; rintro e w4 ⟨A2, c2, rfl, hs2, hb4⟩)
  have hb4' := hb3'.trans (hb4.mono hb3'.size)
  refine Ends.intro ⟨hb4', ?_⟩
  have hq1 : Sl w4 w4.heap.size 20 encS A1 ((List.range Y).map (lowD p.d)) := ((hs1.below (hb3.trans (hb4.mono hb3.size)))).more (Nat.le_trans hb3.size hb4.size)
  have B4 := Lib.hid (B0.out.trans (hb4'.mono B0.out.size))
  have HQ1 := Lib.hid hq1
  have HQ2 := Lib.hid hs2
  have hN := p.s.l.length
  have L4 := Lib.hid (L0.out.call hb4')
  clear hb1 hb1' hb2 hb2' hb3 hb3' hb4 hb4' hs1 hs2 hb0 hz0 hq1 B0 L0 HSL HSG HRG
  go_wp2
  have hBL : BL p.d Y w w4 A1 A2 (.slice none 0 0) 0 w4 := ⟨HQ1.out, HQ2.out, ⟨[], by simpa using World.ownsRow_nil _ _ _ _, rfl, fun x hx => by cases hx⟩, B4.out, Below.refl _ _⟩
  have HBL := Lib.hid hBL
  have hw4 := B4.out.size
  clear hBL HQ1 HQ2 B4 L4
  go_loopw [3, 7, 8, 9, 21] (fun v _ _ _ i wr => ∃ k : Nat, k ≤ Y ∧ i = .int .i64 k ∧ Aside (BL p.d Y w w4 A1 A2 v k wr)) (fun _ _ _ _ i _ => Y - (intOf i).toNat)
  case atStart => exact ⟨0, Nat.zero_le _, rfl, HBL.out⟩
  case round =>
    obtain ⟨k, hk, rfl, M⟩ := hrel
    by_cases hlt : k < Y
    · have hltz : (k : Int) < (Y : Int) := by omega
      have hk0 : (0 : Int) ≤ (k : Int) := by omega
      have hx1 : ((List.range Y).map (lowD p.d))[k]? = some (lowD p.d k) := by simp [hlt]
      have hx2 : ((List.range Y).map (highD p.d))[k]? = some (highD p.d k) := by simp [hlt]
      obtain ⟨b1, o1, rfl, hbb1, c1⟩ := M.out.q1.at_ hx1
      obtain ⟨b2, o2, rfl, hbb2, c2⟩ := M.out.q2.at_ hx2
      have e1 := seaD_length p.d (·.1) (·.1) (·.2) (·.1) k
      have e2 := seaD_length p.d (·.2) (·.2) (·.1) (·.2) k
      have hbnd : bndD p.d k = bndL p.s.l.length (lowD p.d k) (highD p.d k) := rfl
      change (lowD p.d k).length = 20 at e1
      change (highD p.d k).length = 20 at e2
      generalize lowD p.d k = xl at *
      generalize highD p.d k = xh at *
      have r1 : wr.rangeAt b1 (o1 + k * 20) (xl.map (Value.int .i64)) := fun j v hj => by rw [encS_vals e1] at c1; exact c1 j v hj
      have r2 : wr.rangeAt b2 (o2 + k * 20) (xh.map (Value.int .i64)) := fun j v hj => by rw [encS_vals e2] at c2; exact c2 j v hj
      have hs1 : (Try.prog.info? 123).map (·.size) = some (xl.map (Value.int .i64)).length ∧ (Try.prog.info? 123).map (·.size) = some xl.length ∧ 0 + xl.length ≤ (z5 ++ z5 ++ z5 ++ z5).length := by rw [List.length_map, e1]; exact ⟨size123, size123, by decide⟩
      have hs2 : (Try.prog.info? 123).map (·.size) = some (xh.map (Value.int .i64)).length ∧ (Try.prog.info? 123).map (·.size) = some xh.length ∧ 0 + xh.length ≤ (z5 ++ z5 ++ z5 ++ z5).length := by rw [List.length_map, e2]; exact ⟨size123, size123, by decide⟩
      have hsz4 := M.out.b4.size
      have R1 := Lib.hid r1
      have R2 := Lib.hid r2
      have HS1 := Lib.hid hs1
      have HS2 := Lib.hid hs2
      have E1 := Lib.hid e1
      have E2 := Lib.hid e2
      have HBND := Lib.hid hbnd
      clear hx1 hx2 c1 c2 e1 e2 r1 r2 hs1 hs2 hbnd
      go_upto_region 8 with (first
        | (refine wpList_load_mid (op := ⟨some 25, _, _, _, _, _⟩) ?_ 123 (.tmp 24) ?_ b1 (o1 + k * 20) ?_ (xl.map (Value.int .i64)) _ R1.out Try.underlying123 rfl HS1.out.1 ?_; rfl; rfl; rfl)
        | (refine wpList_store_ints (o := ⟨none, .store 123 (.tmp 8) _, _, _, _, _⟩) ?_ 123 (.tmp 8) (.tmp 25) ?_ wr.heap.size 0 ?_ 123 (z5 ++ z5 ++ z5 ++ z5) xl ?_ (Lies.fresh wr 123 (vals (z5 ++ z5 ++ z5 ++ z5))) HS1.out.2.2 HS1.out.2.1 ?_; rfl; rfl; rfl; rfl; intro w5 HS5 HO5; (try simp only [Act.put]); have R2' := Lib.hid (range_mono R2.out HO5.out hbb2 hsz4))
        | (refine wpList_load_mid (op := ⟨some 29, _, _, _, _, _⟩) ?_ 123 (.tmp 28) ?_ b2 (o2 + k * 20) ?_ (xh.map (Value.int .i64)) _ R2'.out Try.underlying123 rfl HS2.out.1 ?_; rfl; rfl; rfl)
        | (refine wpList_store_ints (o := ⟨none, .store 123 (.tmp 9) _, _, _, _, _⟩) ?_ 123 (.tmp 9) (.tmp 29) ?_ w5.heap.size 0 ?_ 123 (z5 ++ z5 ++ z5 ++ z5) xh ?_ (Lies.fresh w5 123 (vals (z5 ++ z5 ++ z5 ++ z5))) HS2.out.2.2 HS2.out.2.1 ?_; rfl; rfl; rfl; rfl; intro w6 HS6 HO6; (try simp only [Act.put])))
      have hl5 : Lies w5 wr.heap.size 123 (vals xl) := by have := HS5.out; rwa [splice_all (by rw [E1.out]; rfl)] at this
      have hl6 : Lies w6 w5.heap.size 123 (vals xh) := by have := HS6.out; rwa [splice_all (by rw [E2.out]; rfl)] at this
      have hz5 : w5.heap.size = wr.heap.size + 1 := by rw [HO5.out.size]; simp
      have hz6 : w6.heap.size = w5.heap.size + 1 := by rw [HO6.out.size]; simp
      have hb5 : Below wr.heap.size wr w5 := HO5.out.below ((Below.refl _ _).alloc (Nat.le_refl _) _) (Nat.le_refl _)
      have hb6 : Below w5.heap.size w5 w6 := HO6.out.below ((Below.refl _ _).alloc (Nat.le_refl _) _) (Nat.le_refl _)
      have hb56 : Below wr.heap.size wr w6 := hb5.trans (hb6.mono (by omega))
      have hl56 : Lies w6 wr.heap.size 123 (vals xl) := hl5.call hb6
      have HRg8 := Lib.hid (fun off ho => parts5 E1.out hl56 off ho)
      have HRg9 := Lib.hid (fun off ho => parts5 E2.out hl6 off ho)
      have HM := Lib.hid M.out
      have HB56 := Lib.hid hb56
      have HZ5 := Lib.hid hz5
      have HZ6 := Lib.hid hz6
      clear hl5 hl6 hl56 hz5 hz6 hb5 hb6 hb56 HS5 HS6 HO5 HO6 R1 R2 R2' M HS1 HS2
      refine wp_region_reads 27 [0, 1, 2, 3, 4, 5, 7, 8, 9, 10, 11, 13, 14, 15, 16, 17, 19, 20, 21, 22, 23] [6, 12, 18, 24, 25, 26] (by kernel_rfl) (by kernel_rfl) ?_
      simp only [List.filterMap_cons, List.filterMap_nil, List.take_succ_cons, List.take_zero, List.getElem?_toArray, List.getElem?_cons_zero, List.getElem?_cons_succ, List.drop_succ_cons, List.drop_zero]
      repeat (first | (refine wpQuiet_load_ints (o := ⟨some 33, _, _, _, _, _⟩) ?_ 120 (.tmp 32) ?_ wr.heap.size 0 ?_ (sub5 0 xl) _ (HRg8.out 0 (by omega)).1 Try.underlying120 rfl (HRg8.out 0 (by omega)).2 ?_; rfl; rfl; rfl; simp only [Act.put, List.setIfInBounds_toArray, List.set_cons_zero, List.set_cons_succ]) | (refine wpQuiet_load_ints (o := ⟨some 35, _, _, _, _, _⟩) ?_ 120 (.tmp 34) ?_ w5.heap.size 0 ?_ (sub5 0 xh) _ (HRg9.out 0 (by omega)).1 Try.underlying120 rfl (HRg9.out 0 (by omega)).2 ?_; rfl; rfl; rfl; simp only [Act.put, List.setIfInBounds_toArray, List.set_cons_zero, List.set_cons_succ]) | (refine wpQuiet_load_ints (o := ⟨some 39, _, _, _, _, _⟩) ?_ 120 (.tmp 38) ?_ wr.heap.size 5 ?_ (sub5 5 xl) _ (HRg8.out 5 (by omega)).1 Try.underlying120 rfl (HRg8.out 5 (by omega)).2 ?_; rfl; rfl; rfl; simp only [Act.put, List.setIfInBounds_toArray, List.set_cons_zero, List.set_cons_succ]) | (refine wpQuiet_load_ints (o := ⟨some 41, _, _, _, _, _⟩) ?_ 120 (.tmp 40) ?_ w5.heap.size 5 ?_ (sub5 5 xh) _ (HRg9.out 5 (by omega)).1 Try.underlying120 rfl (HRg9.out 5 (by omega)).2 ?_; rfl; rfl; rfl; simp only [Act.put, List.setIfInBounds_toArray, List.set_cons_zero, List.set_cons_succ]) | (refine wpQuiet_load_ints (o := ⟨some 45, _, _, _, _, _⟩) ?_ 120 (.tmp 44) ?_ wr.heap.size 10 ?_ (sub5 10 xl) _ (HRg8.out 10 (by omega)).1 Try.underlying120 rfl (HRg8.out 10 (by omega)).2 ?_; rfl; rfl; rfl; simp only [Act.put, List.setIfInBounds_toArray, List.set_cons_zero, List.set_cons_succ]) | (refine wpQuiet_load_ints (o := ⟨some 47, _, _, _, _, _⟩) ?_ 120 (.tmp 46) ?_ w5.heap.size 10 ?_ (sub5 10 xh) _ (HRg9.out 10 (by omega)).1 Try.underlying120 rfl (HRg9.out 10 (by omega)).2 ?_; rfl; rfl; rfl; simp only [Act.put, List.setIfInBounds_toArray, List.set_cons_zero, List.set_cons_succ]) | (refine wpQuiet_load_ints (o := ⟨some 51, _, _, _, _, _⟩) ?_ 120 (.tmp 50) ?_ wr.heap.size 15 ?_ (sub5 15 xl) _ (HRg8.out 15 (by omega)).1 Try.underlying120 rfl (HRg8.out 15 (by omega)).2 ?_; rfl; rfl; rfl; simp only [Act.put, List.setIfInBounds_toArray, List.set_cons_zero, List.set_cons_succ]) | (refine wpQuiet_load_ints (o := ⟨some 53, _, _, _, _, _⟩) ?_ 120 (.tmp 52) ?_ w5.heap.size 15 ?_ (sub5 15 xh) _ (HRg9.out 15 (by omega)).1 Try.underlying120 rfl (HRg9.out 15 (by omega)).2 ?_; rfl; rfl; rfl; simp only [Act.put, List.setIfInBounds_toArray, List.set_cons_zero, List.set_cons_succ]) | go_big_quiet_step (fail) | quiet_step (fail))
      refine wpQuiet_nil ?_
      intro w0 hb0 hz0
      simp only [wpForce]
      have HZ0 := Lib.hid hz0
      have hcw0 := hb0
      clear hz0
      go_wp2_with (go_at_call 104; refine (ranges_own _ _ _ _ (sub5_length (by rw [E1.out]; decide)) (sub5_length (by rw [E2.out]; decide)) hn5).mono ?_; rintro e w7 ⟨x0, rfl, hx0, ho0, hbw7⟩)
      have hcw7 := hcw0.trans (hbw7.mono hcw0.size)
      have HX0 := Lib.hid hx0
      have HO0 := Lib.hid ho0
      clear hx0 ho0
      refine Ends.intro ⟨hcw7, ?_⟩
      go_wp2_with (go_at_call 104; refine (ranges_own _ _ _ _ (sub5_length (by rw [E1.out]; decide)) (sub5_length (by rw [E2.out]; decide)) hn5).mono ?_; rintro e w8 ⟨x1, rfl, hx1, ho1, hbw8⟩)
      have hcw8 := hcw7.trans (hbw8.mono hcw7.size)
      have HX1 := Lib.hid hx1
      have HO1 := Lib.hid ho1
      clear hx1 ho1
      refine Ends.intro ⟨hcw8, ?_⟩
      go_wp2_with (go_at_call 104; refine (ranges_own _ _ _ _ (sub5_length (by rw [E1.out]; decide)) (sub5_length (by rw [E2.out]; decide)) hn5).mono ?_; rintro e w9 ⟨x2, rfl, hx2, ho2, hbw9⟩)
      have hcw9 := hcw8.trans (hbw9.mono hcw8.size)
      have HX2 := Lib.hid hx2
      have HO2 := Lib.hid ho2
      clear hx2 ho2
      refine Ends.intro ⟨hcw9, ?_⟩
      go_wp2_with (go_at_call 104; refine (ranges_own _ _ _ _ (sub5_length (by rw [E1.out]; decide)) (sub5_length (by rw [E2.out]; decide)) hn5).mono ?_; rintro e w10 ⟨x3, rfl, hx3, ho3, hbw10⟩)
      have hcw10 := hcw9.trans (hbw10.mono hcw9.size)
      have HX3 := Lib.hid hx3
      have HO3 := Lib.hid ho3
      clear hx3 ho3
      refine Ends.intro ⟨hcw10, ?_⟩
      go_wp2
      refine Ends.intro ⟨hcw10, ?_⟩
      go_wp2
      refine Ends.intro ⟨hcw10.alloc hcw10.size _, ?_⟩
      have hm4 := HM.out.b4.size
      have hzz : w4.heap.size ≤ w0.heap.size := by have := HZ0.out; have := HZ6.out; have := HZ5.out; omega
      have g7 := hbw7.size
      have g8 := hbw8.size
      have g9 := hbw9.size
      have g10 := hbw10.size
      have hMb : Below wr.heap.size wr w10 := HB56.out.trans (hcw10.mono HB56.out.size)
      obtain ⟨bs, hown, hbs, hbo⟩ := HM.out.own
      have hown10 := ownsRow_call hown hMb
      obtain ⟨i0, hi0, hz00, hz01, hz02⟩ := info_parts infoBounds
      have HBS := Lib.hid hbs
      have HBO := Lib.hid hbo
      have HOWN := Lib.hid hown10
      have HI0 := Lib.hid hi0
      have Hz00 := Lib.hid hz00
      have Hz01 := Lib.hid hz01
      have Hz02 := Lib.hid hz02
      have hbase : w4.heap.size ≤ w10.heap.size := by omega
      clear hown hbs hbo hown10 hi0 hz00 hz01 hz02
      go_wp2_with (at_builtin; go_must (refine wpList_append_own _ rfl (.tmp 30) (.tmp 56) 56 rfl w4.heap.size 62 i0 _ 4 96 Try.underlying56 HI0.out Hz00.out Hz01.out Hz02.out rfl (by decide) _ k _ rfl (HOWN.out.alloc _) ⟨w10.heap.size, 0, none⟩ 1 1 [.slice x0.A p.s.l.length x0.c, .slice x1.A p.s.l.length x1.c, .slice x2.A p.s.l.length x2.c, .slice x3.A p.s.l.length x3.c] rfl rfl (news_alloc w10 [.slice x0.A p.s.l.length x0.c, .slice x1.A p.s.l.length x1.c, .slice x2.A p.s.l.length x2.c, .slice x3.A p.s.l.length x3.c] _) (by intro u hu; simp at hu; rcases hu with rfl | rfl | rfl | rfl <;> rfl) (by unfold maxLen; omega) (by omega) (by rw [World.size_alloc]; omega) ?_); intro v12 w12 hown12 hg12 hnil12; clear hnil12)
      have hB12 : Below w4.heap.size wr w12 := ((hMb.mono hm4).alloc hbase _).grown hg12 (by rw [World.size_alloc]; omega) (fun j e => (own_at HOWN.out e).1)
      have hxo : (⟨x0, x1, x2, x3⟩ : BdM).Own w10 w4.heap.size := ⟨ownsRow_base (ownsRow_call (ownsRow_call (ownsRow_call HO0.out hbw8) hbw9) hbw10) (by omega), ownsRow_base (ownsRow_call (ownsRow_call HO1.out hbw9) hbw10) (by omega), ownsRow_base (ownsRow_call HO2.out hbw10) (by omega), ownsRow_base HO3.out (by omega)⟩
      have hln : ∀ lo hi, (rangesL lo hi p.s.l.length).length = p.s.l.length := fun lo hi => by simp [rangesL]
      have hxe : encB ⟨x0, x1, x2, x3⟩ = [.slice x0.A p.s.l.length x0.c, .slice x1.A p.s.l.length x1.c, .slice x2.A p.s.l.length x2.c, .slice x3.A p.s.l.length x3.c] := by
        simp [encB, Sv.val, HX0.out, HX1.out, HX2.out, HX3.out, hln]
      have hxl : (⟨x0, x1, x2, x3⟩ : BdM).lists = bndD p.d k := by
        rw [HBND.out]; unfold BdM.lists bndL; simp only [HX0.out, HX1.out, HX2.out, HX3.out]
      refine ⟨⟨k + 1, by omega, by go_num, HM.out.q1.below hB12, HM.out.q2.below hB12, ⟨bs ++ [⟨x0, x1, x2, x3⟩], ?_, ?_, ?_⟩, HM.out.b.trans (hB12.mono hw4), HM.out.b4.trans hB12⟩, by simp [intOf]; omega⟩
      · rw [List.flatMap_append]
        simpa [hxe] using hown12
      · rw [List.map_append, HBS.out, List.range_succ, List.map_append]
        simp [hxl]
      · intro x hx
        rcases List.mem_append.1 hx with hx | hx
        · exact (BdM.Own.mk (ownsRow_call (HBO.out x hx).a hMb) (ownsRow_call (HBO.out x hx).b hMb) (ownsRow_call (HBO.out x hx).c hMb) (ownsRow_call (HBO.out x hx).d hMb) |> fun h => BdM.Own.other (BdM.Own.mk (h.a.alloc _) (h.b.alloc _) (h.c.alloc _) (h.d.alloc _)) (HOWN.out.alloc _) (by decide) hg12)
        · obtain rfl : x = ⟨x0, x1, x2, x3⟩ := by simpa using hx
          exact BdM.Own.other (BdM.Own.mk (hxo.a.alloc _) (hxo.b.alloc _) (hxo.c.alloc _) (hxo.d.alloc _)) (HOWN.out.alloc _) (by decide) hg12
    · obtain rfl : k = Y := by omega
      obtain ⟨bs, hown, hbs, hbo⟩ := M.out.own
      have hlb : bs.length = k := by have := congrArg List.length hbs; simpa [List.length_map] using this
      obtain ⟨A', c', e1, _, e3⟩ := Sl.of_own (enc := encB) (l := bs) encB_length (by rw [hlb]; exact hown) rfl
      rw [hlb] at e1
      subst e1
      have HF := Lib.hid (show RetB p.d k w (.returned (.slice A' k c')) wr from ⟨A', c', bs, rfl, e3, hbs, fun x hx => (hbo x hx).at, M.out.b⟩)
      clear hown hbs hbo e3 hlb M
      go_wp2
      go_ret
      exact HF.out
end Go.Proofs.Ytlkdmcdnkoiflaa

/- Count. -/
namespace Go.Proofs.Ytlkdmcdnkoiflaa
open Go.RowKit Go.Lib

theorem fault_zero {p : PlM} (h : p.fault = 0) : p.Valid := by
  unfold PlM.fault at h
  split at h
  · cases h
  · rename_i h5
    cases hv : p.validB with
    | true => exact valid_of hv (by omega)
    | false => rw [hv] at h; cases h
theorem years_nat {p : PlM} (h : p.Valid) : p.years = ((p.years.toNat : Nat) : Int) := by have := h.y; omega
/-- What Count hands back of a valid plan. -/
def RetC (d : PD) (Y : Nat) (w : World) (e : Ending) (w' : World) : Prop :=
  ∃ (A : Option Addr) (c : Nat) (bs : List BdM), e = .returned (.tuple #[.slice A Y c, .int .i64 0]) ∧ Sl w' w'.heap.size 4 encB A bs ∧ bs.map BdM.lists = (List.range Y).map (bndD d) ∧ (∀ x, x ∈ bs → x.At w' w'.heap.size) ∧ Below w.heap.size w w'
set_option maxHeartbeats 1000000 in
set_option maxRecDepth 100000 in
theorem Count_ok (p : PlM) (Y : Nat) (w : World) (hp : p.At w w.heap.size) (hf : p.fault = 0) (hY : p.years = (Y : Int)) : Calls Try.prog 28 #[.agg p.cells.toArray] w (RetC p.d Y w) := by
  have hv := fault_zero hf
  have l0 : Lies (w.alloc (.cells p.cells.toArray 41)) w.heap.size 41 p.cells.toArray := Lies.fresh _ _ _
  have b0 : Below w.heap.size w (w.alloc (.cells p.cells.toArray 41)) := (Below.refl _ _).alloc (Nat.le_refl _) _
  have hC := CheckPlan_any p _ (hp.below b0 b0.size)
  rw [hf] at hC
  have hB : ∀ W, Below w.heap.size w W → Calls Try.prog 67 #[.agg p.cells.toArray] W (RetB p.d Y W) := fun W hb => bounds_any p Y W (hp.below hb hb.size) hv hY
  have L0 := Lib.hid l0
  have B0 := Lib.hid b0
  have HC := Lib.hid hC
  have HB := Lib.hid hB
  clear l0 b0 hC hB hv hf hY hp
  unfold PlM.cells at HC ⊢
  go_enter Try.func28, Try.ntmps28
  go_wp2_with (first
    | (refine wpList_load_row (o := ⟨some 5, _, _, _, _, _⟩) ?_ 41 (.tmp 1) ?_ w.heap.size ?_ 41 p.cells.toArray (0, 0) _ L0.out Try.underlying41 rfl size41 ?_; rfl; rfl; rfl)
    | (go_at_call 20; refine HC.out.mono ?_; rintro e w1 ⟨rfl, hb1⟩)
    | (refine wpList_load_row (o := ⟨some 10, _, _, _, _, _⟩) ?_ 41 (.tmp 1) ?_ w.heap.size ?_ 41 p.cells.toArray (0, 0) _ (L0.out.call hb1) Try.underlying41 rfl size41 ?_; rfl; rfl; rfl)
    | (go_at_call 67; refine (HB.out _ (B0.out.trans (hb1.mono B0.out.size))).mono ?_; rintro e w2 ⟨A, c, bs, rfl, h1, h2, h3, hb2⟩))
  go_ret2
  have hbb := B0.out.trans (hb1.mono B0.out.size)
  exact ⟨A, c, bs, rfl, h1, h2, h3, hbb.trans (hb2.mono hbb.size)⟩
set_option maxHeartbeats 1000000 in
set_option maxRecDepth 100000 in
theorem Count_no (p : PlM) (w : World) (hp : p.At w w.heap.size) (hf : p.fault ≠ 0) : Calls Try.prog 28 #[.agg p.cells.toArray] w fun e w' => e = .returned (.tuple #[.slice none 0 0, .int .i64 p.fault]) ∧ Below w.heap.size w w' := by
  have l0 : Lies (w.alloc (.cells p.cells.toArray 41)) w.heap.size 41 p.cells.toArray := Lies.fresh _ _ _
  have b0 : Below w.heap.size w (w.alloc (.cells p.cells.toArray 41)) := (Below.refl _ _).alloc (Nat.le_refl _) _
  have hC := CheckPlan_any p _ (hp.below b0 b0.size)
  generalize p.fault = ft at *
  have L0 := Lib.hid l0
  have B0 := Lib.hid b0
  have HC := Lib.hid hC
  have hne : (ft != 0) = true := by simpa using hf
  clear l0 b0 hC hf hp
  unfold PlM.cells at HC ⊢
  go_enter Try.func28, Try.ntmps28
  go_wp2_with (first
    | (refine wpList_load_row (o := ⟨some 5, _, _, _, _, _⟩) ?_ 41 (.tmp 1) ?_ w.heap.size ?_ 41 p.cells.toArray (0, 0) _ L0.out Try.underlying41 rfl size41 ?_; rfl; rfl; rfl)
    | (go_at_call 20; refine HC.out.mono ?_; rintro e w1 ⟨rfl, hb1⟩))
  go_ret2
  exact ⟨rfl, B0.out.trans (hb1.mono B0.out.size)⟩
end Go.Proofs.Ytlkdmcdnkoiflaa

/- A plan's error, by its plain lists. -/
namespace Go.Proofs.Ytlkdmcdnkoiflaa
open Go.RowKit Go.Lib

theorem sl_of_lies {α : Type} {w : World} {g k : Nat} {t : TypeId} {enc : α → List Value} {l : List α} (hk : ∀ x, (enc x).length = k) (h : Lies w g t (l.flatMap enc).toArray) : Sl w w.heap.size k enc (some ⟨g, 0, none⟩) l := fun _ =>
  ⟨g, 0, rfl, h.in_, fun i x hx j u hu => by
    have hj : j < k := by rw [← hk x]; exact (List.getElem?_eq_some_iff.1 hu).1
    rw [h.at_]
    rw [Nat.zero_add, List.getElem?_toArray, flat_at hk hx hj]
    exact hu⟩
def rowD (n : Nat) (l : List (Int × Int)) : Bool := decide ((l.length : Int) = n) && l.all fun r => spanB r 5000
def validD (d : PD) : Bool :=
  decide (1 ≤ (d.s.length : Int)) && (decide ((d.s.length : Int) = d.s.length) && d.s.all fun r => spanB r 1000000) && (decide ((d.r.length : Int) = d.s.length) && d.r.all fun n => inB n 0 1000000) && pairedB d.s d.r (fun r m => decide (r.2 ≤ m)) &&
    (decide ((d.g.length : Int) = d.s.length) && d.g.all (rowD d.s.length)) && (decide ((d.e.length : Int) = d.s.length) && d.e.all fun n => inB n 0 1000000) && (decide ((d.k.length : Int) = d.s.length) && d.k.all fun n => inB n 0 1000000) && spanB (d.lo, d.hi) 1000 && inB d.years 0 6
def faultD (d : PD) : Int := if 5 < d.s.length then 3 else if validD d then 0 else 1
theorem fault_d (p : PlM) : p.fault = faultD p.d := by
  have e : p.validB = validD p.d := by
    unfold PlM.validB validD PlM.b PlM.d
    simp only [List.length_map, List.all_map]
    rfl
  unfold PlM.fault faultD
  rw [e]; rfl
theorem fault_congr {p q : PlM} (h : q.d = p.d) : q.fault = p.fault := by rw [fault_d, fault_d, h]
end Go.Proofs.Ytlkdmcdnkoiflaa

/- The law of TT where one operation makes a variable at whatever moment. -/
namespace Go.Proofs.Ytlkdmcdnkoiflaa
open Go.RowKit Go.Lib

section
variable {P : Program} {ops : Array Oper} {md : Region.Mode} {S : World → Prop} {Q : Exit → Act → World → Prop} {T : Act → World → Prop}
theorem Oper.wp_put {o : Oper} {a : Act} {w : World} {K : Act → World → Prop} (hh : o.wp P a w K (Ends T)) : o.wp P a w (fun a' w' => K a' w' ∧ ∃ v, a'.tmps = (a.put o.dst v).tmps) (Ends T) := by
  unfold Oper.wp at *
  generalize (execOp a.eval o).run P w = r at *
  cases r with
  | ok n w' =>
    cases n <;> simp only [Oper.upon] at hh ⊢
    case value v => exact ⟨hh, v, rfl⟩
    case skip => exact ⟨hh, _, rfl⟩
    case defer d => exact ⟨hh, undef, by cases o.dst <;> rfl⟩
    case enter f args =>
      refine Calls.mono hh (fun e w'' he => ?_)
      cases e with
      | returned v => exact ⟨he, v, rfl⟩
      | panicked c => exact he
      | outgrown => exact he
    case row row args => exact Rows.mono hh (fun v _ he => ⟨he, v, rfl⟩)
  | halt x w' =>
    cases x <;> simp only [Oper.upon] at hh ⊢
    exact hh
theorem put_self {a : Act} {f : Nat} : a.put (some f) (a.tmps.getD f undef) = a := by
  obtain ⟨t, d⟩ := a
  simp only [Act.put]
  congr 1
  apply Array.ext_getElem?
  intro i
  rw [Array.getElem?_setIfInBounds]
  by_cases h : f = i
  · subst h
    by_cases hs : f < t.size
    · simp [hs]
    · simp [hs]
  · rw [if_neg h]
/-- A chain of operations, between any two of which slot f may turn, and memory may grow. -/
def wpFloat (P : Program) (ops : Array Oper) (f : Nat) (T : Act → World → Prop) : List Oper → Act → World → Prop
  | [], a, w => T a w
  | o :: cs, a, w => wpList P ops (Ends fun a' w' => Below w.heap.size w w' ∧ ∀ vf w'', Below w'.heap.size w' w'' → wpFloat P ops f T cs (a'.put (some f) vf) w'') [o] a w
/-- What is asked at the end: the variable lies in block G. -/
def AtG (f : Nat) (t : TypeId) (z : Array Value) (B : Nat) (T : Act → World → Prop) (a : Act) (w : World) : Prop :=
  ∀ G w'', Below w.heap.size w w'' → B ≤ G → Lies w'' G t z → T (a.put (some f) (.pointer (some ⟨G, 0, none⟩))) w''
def forcedFB (md : Region.Mode) (ops : Array Oper) (fi : Nat) : Array Bool → List Nat → Bool
  | L, [] => decide (Region.ready md ops L = [fi]) && forcedB md ops (L.setIfInBounds fi true) []
  | L, i :: cs => (Region.ready md ops L).all (fun j => j == i || j == fi) && (Region.ready md ops L).contains i && (Region.ready md ops L).contains fi && forcedFB md ops fi (L.setIfInBounds i true) cs && forcedB md ops (L.setIfInBounds fi true) (i :: cs)
theorem wpList_one {o : Oper} {a : Act} {w : World} {K : Act → World → Prop} (h : wpList P ops (Ends K) [o] a w) : if Region.wanted o (yielded ops a.tmps) then o.wp P a w K (Ends K) else K (a.put o.dst undef) w := by
  simp only [wpList] at h
  split
  · rename_i hw
    rw [if_pos hw] at h
    rcases h with h | ⟨_, a1, w1, h1⟩
    case inr => exact (show False from h1).elim
    exact Oper.wp_ends (fun a' w' h' => h') h
  · rename_i hw
    rw [if_neg hw] at h
    exact h
/-- The variable is made: the rest of the chain. -/
theorem wpAnyH_done {f : Nat} {t : TypeId} {z : Array Value} {B G : Nat} (hS : ∀ w w', S w → Below w.heap.size w w' → S w') (hB : B ≤ G) : ∀ (cs : List Nat) (L : Array Bool) (a : Act) (w : World), forcedB md ops L cs = true → S w → (∀ i o, i ∈ cs → ops[i]? = some o → o.dst ≠ some f) →
    Lies w G t z → a.tmps.getD f undef = .pointer (some ⟨G, 0, none⟩) → f < a.tmps.size → wpFloat P ops f (AtG f t z B T) (cs.filterMap (ops[·]?)) a w → wpAnyH P md ops (Ends T) S cs.length L a w
  | [], L, a, w, hb, _, _, hl, hf, _, h => ⟨by simpa [forcedB] using hb, by
      have h1 := h G w (Below.refl _ _) hB hl
      rw [← hf, put_self] at h1
      exact h1⟩
  | i :: cs, L, a, w, hb, hs, hd, hl, hf, hfs, h => by
    simp only [forcedB, Bool.and_eq_true, decide_eq_true_eq] at hb
    obtain ⟨h1, h2⟩ := hb
    have hi : i ∈ Region.ready md ops L := by rw [h1]; simp
    obtain ⟨_, o, ho, _⟩ := mem_ready.1 hi
    rw [List.filterMap_cons, ho] at h
    have hdo := hd i o (by simp) ho
    refine ⟨fun h0 => by rw [h1] at h0; (exact absurd h0 (by simp)), fun j hj => ?_⟩
    rw [h1, List.mem_singleton] at hj
    subst hj
    have h3 := wpList_one (show wpList P ops (Ends fun a' w' => Below w.heap.size w w' ∧ ∀ vf w'', Below w'.heap.size w' w'' → wpFloat P ops f (AtG f t z B T) (cs.filterMap (ops[·]?)) (a'.put (some f) vf) w'') [o] a w from h)
    have step : ∀ (a' : Act) (w' : World) (v : Value), a'.tmps = (a.put o.dst v).tmps → (Below w.heap.size w w' ∧ ∀ vf w'', Below w'.heap.size w' w'' → wpFloat P ops f (AtG f t z B T) (cs.filterMap (ops[·]?)) (a'.put (some f) vf) w'') → S w' ∧ wpAnyH P md ops (Ends T) S cs.length (L.setIfInBounds j true) a' w' := by
      intro a' w' v he ⟨hbw, hk⟩
      have hg : a'.tmps.getD f undef = .pointer (some ⟨G, 0, none⟩) := by
        rw [he, ← hf]
        cases hd2 : o.dst with
        | none => rfl
        | some d =>
          have : d ≠ f := fun e => hdo (by rw [hd2, e])
          simp [Act.put, this]
      have hsz : f < a'.tmps.size := by
        rw [he]
        cases o.dst <;> simpa [Act.put] using hfs
      have h4 := hk (a'.tmps.getD f undef) w' (Below.refl _ _)
      rw [put_self] at h4
      exact ⟨hS _ _ hs hbw, wpAnyH_done hS hB cs _ a' w' h2 (hS _ _ hs hbw) (fun i o hi ho => hd i o (List.mem_cons_of_mem _ hi) ho) (hl.call hbw) hg hsz h4⟩
    unfold wpOp
    simp only [ho]
    split
    · rename_i hw
      rw [if_pos hw] at h3
      exact .inl (Oper.wp_ends (fun a' w' h' => step a' w' _ h'.2.choose_spec h'.1) (Oper.wp_put h3))
    · rename_i hw
      rw [if_neg hw] at h3
      exact step _ _ undef rfl h3
/-- The variable is not yet made. -/
theorem wpAnyH_float {f fi : Nat} {t : TypeId} {z : Array Value} {B : Nat} {og : Oper} (hS : ∀ w w', S w → Below w.heap.size w w' → S w') (hSB : ∀ w, S w → B ≤ w.heap.size) (hof : ops[fi]? = some og) (hod : og.dst = some f) (hgu : og.guard = none) (hoo : og.op = .alloc t)
    (hal : ∀ w, (Instr.alloc t true (.tuple #[])).run P w = .ok (.pointer (some ⟨w.heap.size, 0, none⟩)) (w.alloc (.cells z t))) : ∀ (cs : List Nat) (L : Array Bool) (a : Act) (w : World), forcedFB md ops fi L cs = true → S w → (∀ i o, i ∈ cs → ops[i]? = some o → o.dst ≠ some f) → f < a.tmps.size →
    (∀ vf w'', Below w.heap.size w w'' → wpFloat P ops f (AtG f t z B T) (cs.filterMap (ops[·]?)) (a.put (some f) vf) w'') → wpAnyH P md ops (Ends T) S (cs.length + 1) L a w := by
  have alloc : ∀ (cs : List Nat) (L : Array Bool) (a : Act) (w : World), forcedB md ops (L.setIfInBounds fi true) cs = true → S w → (∀ i o, i ∈ cs → ops[i]? = some o → o.dst ≠ some f) → f < a.tmps.size → (∀ vf w'', Below w.heap.size w w'' → wpFloat P ops f (AtG f t z B T) (cs.filterMap (ops[·]?)) (a.put (some f) vf) w'') →
      wpOp P ops (Ends T) fi (fun a' w' => S w' ∧ wpAnyH P md ops (Ends T) S cs.length (L.setIfInBounds fi true) a' w') a w := by
    intro cs L a w hb hs hd hfs h
    have hbw : Below w.heap.size w (w.alloc (.cells z t)) := (Below.refl _ _).alloc (Nat.le_refl _) _
    unfold wpOp
    simp only [hof]
    rw [if_pos (by simp [Region.wanted, hgu])]
    refine .inl ?_
    unfold Oper.wp execOp
    simp only [hoo, Sem.run_bind, hal w, Result.andThen, Sem.run_pure, Oper.upon, hod]
    refine ⟨hS _ _ hs hbw, wpAnyH_done hS (hSB w hs) cs _ _ _ hb (hS _ _ hs hbw) hd (Lies.fresh w t z) ?_ (by simpa [Act.put] using hfs) (h _ _ hbw)⟩
    simp [Act.put, hfs]
  intro cs
  induction cs with
  | nil =>
    intro L a w hb hs hd hfs h
    simp only [forcedFB, Bool.and_eq_true, decide_eq_true_eq] at hb
    refine ⟨fun h0 => by rw [hb.1] at h0; (exact absurd h0 (by simp)), fun j hj => ?_⟩
    rw [hb.1, List.mem_singleton] at hj
    rw [hj]
    exact alloc [] L a w hb.2 hs (fun i o hi => by cases hi) hfs h
  | cons i cs ih =>
    intro L a w hb hs hd hfs h
    simp only [forcedFB, Bool.and_eq_true] at hb
    obtain ⟨⟨⟨⟨h1, h2⟩, h3⟩, h4⟩, h5⟩ := hb
    have hi : i ∈ Region.ready md ops L := by simpa using h2
    obtain ⟨_, o, ho, _⟩ := mem_ready.1 hi
    have hdo := hd i o (by simp) ho
    refine ⟨fun h0 => (by rw [h0] at hi; cases hi), fun j hj => ?_⟩
    have hj2 := List.all_eq_true.1 h1 j hj
    simp only [Bool.or_eq_true, beq_iff_eq] at hj2
    by_cases hji : j = i
    · subst hji
      have h' := h (a.tmps.getD f undef) w (Below.refl _ _)
      rw [put_self, List.filterMap_cons, ho] at h'
      have h3 := wpList_one (show wpList P ops (Ends fun a' w' => Below w.heap.size w w' ∧ ∀ vf w'', Below w'.heap.size w' w'' → wpFloat P ops f (AtG f t z B T) (cs.filterMap (ops[·]?)) (a'.put (some f) vf) w'') [o] a w from h')
      have step : ∀ (a' : Act) (w' : World) (v : Value), a'.tmps = (a.put o.dst v).tmps → (Below w.heap.size w w' ∧ ∀ vf w'', Below w'.heap.size w' w'' → wpFloat P ops f (AtG f t z B T) (cs.filterMap (ops[·]?)) (a'.put (some f) vf) w'') → S w' ∧ wpAnyH P md ops (Ends T) S (cs.length + 1) (L.setIfInBounds j true) a' w' := by
        intro a' w' v he ⟨hbw, hk⟩
        have hsz : f < a'.tmps.size := by
          rw [he]
          cases o.dst <;> simpa [Act.put] using hfs
        exact ⟨hS _ _ hs hbw, ih _ a' w' h4 (hS _ _ hs hbw) (fun i o hi ho => hd i o (List.mem_cons_of_mem _ hi) ho) hsz hk⟩
      unfold wpOp
      simp only [ho]
      split
      · rename_i hw
        rw [if_pos hw] at h3
        exact .inl (Oper.wp_ends (fun a' w' h' => step a' w' _ h'.2.choose_spec h'.1) (Oper.wp_put h3))
      · rename_i hw
        rw [if_neg hw] at h3
        exact step _ _ undef rfl h3
    · have hjf : j = fi := by rcases hj2 with e | e; exact absurd e hji; exact e
      rw [hjf]
      exact alloc (i :: cs) L a w h5 hs hd hfs h
def floatB (l : List Oper) (n : Nat) (rs cs : List Nat) (fi f : Nat) (t : TypeId) : Bool :=
  Region.sinkB .any l.toArray n && Region.chainB .any l.toArray n && headOk l.toArray n && Region.seqB .any l.toArray (l.drop n).length n ((Array.replicate l.length false).mapIdx fun i _ => decide (i < n)) && decide (n < l.length) &&
    Region.noSelect (l.take n).toArray && takesB .any (l.take n).toArray (Array.replicate n false) rs && forcedFB .any (l.take n).toArray fi (takenB (Array.replicate n false) rs) cs && decide (cs.length + 1 + rs.length = n) &&
    cs.all (fun i => match (l.take n)[i]? with | some o => o.dst != some f | none => true) && (match (l.take n)[fi]? with | some o => decide (o.dst = some f) && o.guard.isNone && (match o.op with | .alloc t' => t' == t | _ => false) | none => false)
/-- THE LAW. -/
theorem wp_region_float {id : Nat} {l : List Oper} {a : Act} {w : World} (n : Nat) (rs cs : List Nat) (fi f : Nat) (t : TypeId) (z : Array Value) (hm : P.follows .mixedOrders = true) (hB : floatB l n rs cs fi f t = true) (_hfs : f < a.tmps.size)
    (hal : ∀ w, (Instr.alloc t true (.tuple #[])).run P w = .ok (.pointer (some ⟨w.heap.size, 0, none⟩)) (w.alloc (.cells z t)))
    (h : wpQuiet P (l.take n).toArray (fun w' => ∃ p : Regrown, w' = Go.Sort.grow (redrawn w p.d) p.os) (fun a' => f < a'.tmps.size ∧ ∀ vf w', Below w.heap.size w w' → wpFloat P (l.take n).toArray f (AtG f t z w.heap.size fun a w => wpList P l.toArray Q (l.drop n) a w) (cs.filterMap ((l.take n).toArray[·]?)) (a'.put (some f) vf) w') (rs.filterMap ((l.take n).toArray[·]?)) a) :
    (Code.region id l.toArray true).wp P Q a w := by
  simp only [floatB, Bool.and_eq_true, decide_eq_true_eq] at hB
  obtain ⟨⟨⟨⟨⟨⟨⟨⟨⟨⟨b1, b2⟩, b3⟩, b4⟩, b5⟩, b6⟩, b7⟩, b8⟩, b9⟩, b10⟩, b11⟩ := hB
  have hn : n < l.toArray.size := by simpa using b5
  have e : l.toArray.extract 0 n = (l.take n).toArray := by simp
  have hsz : (l.take n).toArray.size = n := by simp; omega
  refine wp_region_any hm ?_
  have inv : HeadInv .any l.toArray n (Array.replicate l.toArray.size false) := ⟨by simp, (fun j oj _ hl => by rw [getD_replicate_false] at hl; cases hl), fun t _ ht => by simp at ht; simp [ht]⟩
  have hu : unl n (Array.replicate l.toArray.size false) = n := by
    unfold unl
    rw [List.countP_eq_length.2 (fun i hi => by
      have h1 := List.mem_range.1 hi
      have h2 : i < l.length := by omega
      simp [h2]), List.length_range]
  have e1 : (Array.replicate l.toArray.size false).extract 0 n = Array.replicate n false := by
    apply Array.ext_getElem?
    intro j
    by_cases hj : j < n
    · rw [ext0 _ hj, Array.getElem?_replicate, Array.getElem?_replicate, if_pos hj, if_pos (by omega)]
    · rw [Array.getElem?_eq_none (by simp; omega), Array.getElem?_eq_none (by simp; omega)]
  have hbd : Below w.heap.size w { w with drawn := w.drawn + 1 } := (Below.refl w.heap.size w).drew
  have hlen : n + (l.drop n).length = l.toArray.size := by simp; omega
  suffices hg : wpAny P .any l.toArray Q (n + (l.drop n).length) (Array.replicate l.toArray.size false) a { w with drawn := w.drawn + 1 } by rw [hlen] at hg; exact hg
  refine wpAny_of_truncE (T := fun a w => wpList P l.toArray Q (l.drop n) a w) b1 b2 b3 hn (fun L a' w' inv' hu' hT => ?_) n _ a _ inv hu ?_
  · have eL : L = (Array.replicate l.length false).mapIdx fun i _ => decide (i < n) := by
      apply Array.ext (by simp [inv'.size])
      intro i h1 h2
      simp only [Array.getElem_mapIdx]
      by_cases hi : i < n
      · have := unl_zero hu' i hi; simp [h1] at this; simp [hi, this]
      · have := inv'.tail i (by omega) (by rw [← inv'.size]; exact h1); simp [h1] at this; simp [hi, this]
    subst eL
    exact wpAny_of_seq (l.drop n) n _ a' w' (fun j => by simp [List.getElem?_drop]) b4 hT
  · rw [e1, e]
    refine wpAny_of_held (S := fun w' => ∃ p : Regrown, w' = Go.Sort.grow (redrawn w p.d) p.os) _ _ _ _ ?_
    suffices hg : wpAnyH P .any (l.take n).toArray (Ends fun a w => wpList P l.toArray Q (l.drop n) a w) (fun w' => ∃ p : Regrown, w' = Go.Sort.grow (redrawn w p.d) p.os) (cs.length + 1 + rs.length) (Array.replicate n false) a { w with drawn := w.drawn + 1 } by rw [b9] at hg; exact hg
    refine wpAnyH_takes b6 rs _ a _ (cs.length + 1) ⟨⟨w.drawn + 1, #[]⟩, by rw [Go.Sort.grow_empty]; rfl⟩ b7 ?_
    refine wpQuiet_mono (fun a' ha => ?_) _ _ h
    cases ho : (l.take n)[fi]? with
    | none => rw [ho] at b11; cases b11
    | some og =>
      rw [ho] at b11
      simp only [Bool.and_eq_true, decide_eq_true_eq] at b11
      have hgu : og.guard = none := by simpa using b11.1.2
      have hoo : og.op = .alloc t := by
        have h3 := b11.2
        split at h3
        · rename_i t' hq; rw [hq]; congr 1; simpa using h3
        · cases h3
      refine wpAnyH_float (f := f) (B := w.heap.size) (z := z) (t := t) (og := og) (fun w1 w2 h1 h2 => ?_) (fun w1 h1 => ?_) (by simpa using ho) b11.1.1 hgu hoo hal cs _ a' _ b8 ⟨⟨w.drawn + 1, #[]⟩, by rw [Go.Sort.grow_empty]; rfl⟩ (fun i o hi ho2 => ?_) ha.1 (fun vf w'' hb => ha.2 vf w'' (hbd.trans (hb.mono (Nat.le_refl _))))
      · obtain ⟨p, rfl⟩ := h1
        have hb1 := below_regrown w p.d p.os
        exact regrown_of_below (hb1.trans (h2.mono hb1.size))
      · obtain ⟨p, rfl⟩ := h1
        exact (below_regrown w p.d p.os).size
      · have := List.all_eq_true.1 b10 i hi
        rw [show (l.take n)[i]? = some o by simpa using ho2] at this
        simpa using this
end
end Go.Proofs.Ytlkdmcdnkoiflaa

/- Plan: a plan for the program. -/
namespace Go.Proofs.Ytlkdmcdnkoiflaa
open Go.RowKit Go.Lib

theorem infoRanges : (Try.prog.info? 37).map (fun i => (i.zero, i.size, i.bytes)) = some (some (.slice none 0 0), 1, 24) := by kernel_rfl
/-- The cells of an empty plan. -/
abbrev zplan : List Value := [.slice none 0 0, .slice none 0 0, .slice none 0 0, .slice none 0 0, .slice none 0 0, .int .i64 0, .int .i64 0, .int .i64 0]
theorem built_plan (A1 A2 A4 A5 : Option Addr) (n1 n2 n4 n5 c1 c2 c4 c5 : Nat) (a b c : Int) : Try.prog.built 41 [(0, .slice A1 n1 c1), (1, .slice A2 n2 c2), (3, .slice A4 n4 c4), (4, .slice A5 n5 c5), (5, .agg #[.int .i64 a, .int .i64 b]), (6, .int .i64 c)] =
    some #[.slice A1 n1 c1, .slice A2 n2 c2, .slice none 0 0, .slice A4 n4 c4, .slice A5 n5 c5, .int .i64 a, .int .i64 b, .int .i64 c] := by kernel_rfl
/-- What Plan hands back. -/
def RetP (p : PlM) (w : World) (e : Ending) (w' : World) : Prop := ∃ q : PlM, e = .returned (.agg q.cells.toArray) ∧ q.d = p.d ∧ q.At w' w'.heap.size ∧ Below w.heap.size w w'
/-- The memory of Plan between two rounds. -/
structure PL1 (p : PlM) (w : World) (G : Nat) (a b d e : Value) (W2 : World) (v : Value) (k : Nat) (wr : World) : Prop where
  pb : Lies wr w.heap.size 28 p.cells.toArray
  zb : Lies wr (w.heap.size + 1) 41 zplan.toArray
  tb : Lies wr G 41 #[a, b, v, d, e, .int .i64 p.lo, .int .i64 p.hi, .int .i64 p.years]
  b : Below w.heap.size w wr
  z : W2.heap.size ≤ wr.heap.size
  g0 : w.heap.size + 1 < G
  g1 : G < W2.heap.size
  old : ∀ j, j < W2.heap.size → j ≠ G → wr.heap[j]? = W2.heap[j]?
  ro : ∃ rs : List (Sv (Int × Int)), rs.map (·.l) = (p.g.l.take k).map (·.l) ∧ wr.ownsRow W2.heap.size 37 1 v k (rs.flatMap encV) ∧ ∀ r, r ∈ rs → wr.ownsRow W2.heap.size 39 2 r.val r.l.length (r.l.flatMap encR)

def W2z (a b : World) : Prop := a.heap.size ≤ b.heap.size
theorem PL1.next {p : PlM} {w w9 w10 wr W2 : World} {G k B9 : Nat} {a b d e v v' : Value} {r x : Sv (Int × Int)} {rs : List (Sv (Int × Int))} (M : PL1 p w G a b d e W2 v k wr)
    (hrs : rs.map (·.l) = (p.g.l.take k).map (·.l)) (hown : wr.ownsRow W2.heap.size 37 1 v k (rs.flatMap encV)) (hro : ∀ r, r ∈ rs → wr.ownsRow W2.heap.size 39 2 r.val r.l.length (r.l.flatMap encR))
    (hx : p.g.l[k]? = some x) (hb : Below wr.heap.size wr w9) (hr : r.l = x.l) (ho : w9.ownsRow B9 39 2 r.val r.l.length (r.l.flatMap encR)) (hB9 : W2.heap.size ≤ B9) (o : Obj) (hg : (w9.alloc o).grownBy w10 v.ownBlock)
    (hown10 : w10.ownsRow W2.heap.size 37 1 v' (k + 1) (rs.flatMap encV ++ [r.val])) :
    PL1 p w G a b d e W2 v' (k + 1) (w10.setCell ⟨G, 2, none⟩ v') ∧ Lies w10 G 41 #[a, b, v, d, e, .int .i64 p.lo, .int .i64 p.hi, .int .i64 p.years] := by
  have hv := (ownsRow_call hown hb).alloc o
  have hne : ∀ j, j < W2.heap.size → some j ≠ v.ownBlock := fun j hj e => by have := (own_at hv e.symm).1; omega
  have g0 := M.g0
  have g1 := M.g1
  have z := M.z
  have s9 := hb.size
  have s10 := hg.size
  simp only [World.size_alloc] at s10
  have ht := ((M.tb.call hb).alloc o).grown hg (hne _ g1)
  refine ⟨⟨(((M.pb.call hb).alloc o).grown hg (hne _ (by omega))).other (show w.heap.size ≠ G by omega) _, (((M.zb.call hb).alloc o).grown hg (hne _ (by omega))).other (show w.heap.size + 1 ≠ G by omega) _, ht.set 2 v', ?_, by simp only [World.size_setCell]; omega, g0, g1, fun j hj hjG => ?_, rs ++ [r], ?_, own_set (by simpa using hown10) ht (by decide) v', fun q hq => ?_⟩, ht⟩
  · have hm := M.b.size
    exact (((M.b.trans (hb.mono hm)).alloc (by omega) o).grown hg (by simp only [World.size_alloc]; omega) (fun j e => by have := (own_at hv e).1; omega)).setCell (show w.heap.size ≤ G by omega) _
  · rw [heap_setCell_other _ _ _ _ hjG, hg.block j (by simp only [World.size_alloc]; omega) (hne j hj), heap_alloc_old _ _ (by omega), hb.block j (by omega), M.old j hj hjG]
  · rw [List.map_append, hrs, List.take_add_one, hx, List.map_append]; simp [hr]
  · rcases List.mem_append.1 hq with hq | hq
    · exact own_set (own_other ((ownsRow_call (hro q hq) hb).alloc o) hv (by decide) hg) ht (by decide) v'
    · obtain rfl : q = r := by simpa using hq
      exact own_set (own_other (ownsRow_base (ho.alloc o) hB9) hv (by decide) hg) ht (by decide) v'
theorem alloc_plan (w : World) : (Instr.alloc 41 true (.tuple #[])).run Try.prog w = .ok (.pointer (some ⟨w.heap.size, 0, none⟩)) (w.alloc (.cells zplan.toArray 41)) := by kernel_rfl
set_option maxRecDepth 100000 in
set_option maxHeartbeats 1000000 in
theorem Plan_any (p : PlM) (w : World) (hp : p.At w w.heap.size) (nr : p.r.A = none → p.r.l.length = 0 ∧ p.r.c = 0) (ne : p.e.A = none → p.e.l.length = 0 ∧ p.e.c = 0) (nk : p.k.A = none → p.k.l.length = 0 ∧ p.k.c = 0) :
    Calls Try.prog 21 #[.agg p.cells.toArray] w (RetP p w) := by
  have l0 : Lies ((w.alloc (.cells p.cells.toArray 28)).alloc (.cells zplan.toArray 41)) w.heap.size 28 p.cells.toArray := (Lies.fresh _ _ _).alloc _
  have l1 : Lies ((w.alloc (.cells p.cells.toArray 28)).alloc (.cells zplan.toArray 41)) (w.heap.size + 1) 41 zplan.toArray := Lies.fresh' (by simp)
  have b0 : Below w.heap.size w ((w.alloc (.cells p.cells.toArray 28)).alloc (.cells zplan.toArray 41)) := (by repeat (first | (with_reducible assumption) | (with_reducible exact Below.refl _ _) | (with_reducible refine Below.drew ?_) | (with_reducible refine below_drewN ?_ _) | ((with_reducible refine Below.setCell ?_ ?_ _); rotate_left; focus (first | (simp; done) | (simp; omega) | omega)) | ((with_reducible refine Below.alloc ?_ ?_ _); rotate_left; focus (first | (simp; done) | (simp; omega) | omega))))
  have hS : ∀ W, Below w.heap.size w W → Calls Try.prog 58 #[.slice p.s.A p.s.l.length p.s.c] W fun e w' => ∃ A' c', e = .returned (.slice A' p.s.l.length c') ∧ w'.ownsRow W.heap.size 39 2 (.slice A' p.s.l.length c') p.s.l.length (p.s.l.flatMap encR) ∧ Below W.heap.size W w' := fun W hb => spans_own _ _ _ W ((hp.s.below hb).more hb.size) hp.ls
  have hR : ∀ W, Below w.heap.size w W → Calls Try.prog 40 #[.slice p.r.A p.r.l.length p.r.c] W fun e w' => ∃ A' c', e = .returned (.slice A' p.r.l.length c') ∧ w'.ownsRow W.heap.size 3 1 (.slice A' p.r.l.length c') p.r.l.length (p.r.l.flatMap encI) ∧ Below W.heap.size W w' := fun W hb => lawList_own _ _ _ W ((hp.r.below hb).more hb.size) hp.lr nr
  have hE : ∀ W, Below w.heap.size w W → Calls Try.prog 40 #[.slice p.e.A p.e.l.length p.e.c] W fun e w' => ∃ A' c', e = .returned (.slice A' p.e.l.length c') ∧ w'.ownsRow W.heap.size 3 1 (.slice A' p.e.l.length c') p.e.l.length (p.e.l.flatMap encI) ∧ Below W.heap.size W w' := fun W hb => lawList_own _ _ _ W ((hp.e.below hb).more hb.size) hp.le ne
  have hK : ∀ W, Below w.heap.size w W → Calls Try.prog 40 #[.slice p.k.A p.k.l.length p.k.c] W fun e w' => ∃ A' c', e = .returned (.slice A' p.k.l.length c') ∧ w'.ownsRow W.heap.size 3 1 (.slice A' p.k.l.length c') p.k.l.length (p.k.l.flatMap encI) ∧ Below W.heap.size W w' := fun W hb => lawList_own _ _ _ W ((hp.k.below hb).more hb.size) hp.lk nk
  have r0 := cell_regrown (show _ = some (.slice p.s.A p.s.l.length p.s.c) from l0.at_ 0)
  have r1 := cell_regrown (show _ = some (.slice p.r.A p.r.l.length p.r.c) from l0.at_ 1)
  have r3 := cell_regrown (show _ = some (.slice p.e.A p.e.l.length p.e.c) from l0.at_ 3)
  have r4 := cell_regrown (show _ = some (.slice p.k.A p.k.l.length p.k.c) from l0.at_ 4)
  have r5 := cell_regrown (show _ = some (.int .i64 p.lo) from l0.at_ 5)
  have r6 := cell_regrown (show _ = some (.int .i64 p.hi) from l0.at_ 6)
  have r7 := cell_regrown (show _ = some (.int .i64 p.years) from l0.at_ 7)
  have B0 := Lib.hid b0
  have L0 := Lib.hid l0
  have L1 := Lib.hid l1
  have HS := Lib.hid hS
  have HR := Lib.hid hR
  have HE := Lib.hid hE
  have HK := Lib.hid hK
  have HP := Lib.hid hp
  clear l0 l1 b0 hS hR hE hK hp nr ne nk
  unfold PlM.cells at r0 r1 r3 r4 r5 r6 r7 ⊢
  go_enter Try.func21, Try.ntmps21
  go_wp2
  refine wp_region_float 19 [0, 1, 3, 4, 6, 7, 9, 10, 12, 13, 15, 16] [2, 5, 8, 11, 14, 17] 18 3 41 zplan.toArray (by kernel_rfl) (by kernel_rfl) (by simp) alloc_plan ?_
  simp only [List.filterMap_cons, List.filterMap_nil, List.take_succ_cons, List.take_zero, List.getElem?_toArray, List.getElem?_cons_zero, List.getElem?_cons_succ, List.drop_succ_cons, List.drop_zero]
  repeat (first | go_big_quiet_step (fail) | quiet_step (fail))
  refine wpQuiet_nil ?_
  refine ⟨by simp, ?_⟩
  intro vf0 w0 hx0
  simp only [Act.put, List.setIfInBounds_toArray, List.set_cons_zero, List.set_cons_succ]
  have hd0 := hx0
  clear r0 r1 r3 r4 r5 r6 r7
  simp only [wpFloat]
  go_wp2_with (go_at_call 58; refine (HS.out _ (B0.out.trans (hd0.mono B0.out.size))).mono ?_; rintro e u1 ⟨A1, c1, rfl, o1, hb1⟩)
  refine Ends.intro ⟨hb1, ?_⟩
  intro vf1 w1 hx1
  simp only [Act.put, List.setIfInBounds_toArray, List.set_cons_zero, List.set_cons_succ]
  have hd1 := hd0.trans ((hb1.trans (hx1.mono hb1.size)).mono hd0.size)
  have HO1 := Lib.hid (ownsRow_call o1 hx1)
  clear o1
  go_wp2_with (go_at_call 40; refine (HR.out _ (B0.out.trans (hd1.mono B0.out.size))).mono ?_; rintro e u2 ⟨A2, c2, rfl, o2, hb2⟩)
  refine Ends.intro ⟨hb2, ?_⟩
  intro vf2 w2 hx2
  simp only [List.setIfInBounds_toArray, List.set_cons_zero, List.set_cons_succ]
  have hd2 := hd1.trans ((hb2.trans (hx2.mono hb2.size)).mono hd1.size)
  have HO2 := Lib.hid (ownsRow_call o2 hx2)
  clear o2
  go_wp2_with (go_at_call 40; refine (HE.out _ (B0.out.trans (hd2.mono B0.out.size))).mono ?_; rintro e u3 ⟨A3, c3, rfl, o3, hb3⟩)
  refine Ends.intro ⟨hb3, ?_⟩
  intro vf3 w3 hx3
  simp only [List.setIfInBounds_toArray, List.set_cons_zero, List.set_cons_succ]
  have hd3 := hd2.trans ((hb3.trans (hx3.mono hb3.size)).mono hd2.size)
  have HO3 := Lib.hid (ownsRow_call o3 hx3)
  clear o3
  go_wp2_with (go_at_call 40; refine (HK.out _ (B0.out.trans (hd3.mono B0.out.size))).mono ?_; rintro e u4 ⟨A4, c4, rfl, o4, hb4⟩)
  refine Ends.intro ⟨hb4, ?_⟩
  intro vf4 w4 hx4
  simp only [List.setIfInBounds_toArray, List.set_cons_zero, List.set_cons_succ]
  have hd4 := hd3.trans ((hb4.trans (hx4.mono hb4.size)).mono hd3.size)
  have HO4 := Lib.hid (ownsRow_call o4 hx4)
  clear o4
  go_wp2_with (go_at_call 59; refine (to_any _ _ _).mono ?_; rintro e u5 ⟨rfl, hb5⟩)
  refine Ends.intro ⟨hb5, ?_⟩
  intro vf5 w5 hx5
  simp only [List.setIfInBounds_toArray, List.set_cons_zero, List.set_cons_succ]
  have hd5 := hd4.trans ((hb5.trans (hx5.mono hb5.size)).mono hd4.size)
  refine wpList_build (o := ⟨some 22, _, _, _, _, _⟩) ?_ 41 #[(0, .tmp 7), (1, .tmp 10), (3, .tmp 13), (4, .tmp 16), (5, .tmp 19), (6, .tmp 21)] ?_ #[(0, .slice A1 p.s.l.length c1), (1, .slice A2 p.r.l.length c2), (3, .slice A3 p.e.l.length c3), (4, .slice A4 p.k.l.length c4), (5, .agg #[.int .i64 p.lo, .int .i64 p.hi]), (6, .int .i64 p.years)] ?_ _ (built_plan _ _ _ _ _ _ _ _ _ _ _ _ _ _ _) ?_
  rfl; rfl; (simp only [List.map_toArray, List.map_cons, List.map_nil]; rfl)
  refine wpList_nil ?_
  refine Ends.intro ⟨Below.refl _ _, ?_⟩
  intro vf6 w6 hx6
  simp only [Act.put, List.setIfInBounds_toArray, List.set_cons_zero, List.set_cons_succ]
  intro G w7 hx7 hG hlG
  simp only [Act.put, List.setIfInBounds_toArray, List.set_cons_zero, List.set_cons_succ]
  have hd7 := hd5.trans ((hx6.trans (hx7.mono hx6.size)).mono hd5.size)
  have h12 := hb2.trans (hx2.mono hb2.size)
  have h13 := hb3.trans (hx3.mono hb3.size)
  have h14 := hb4.trans (hx4.mono hb4.size)
  have h15 := hb5.trans (hx5.mono hb5.size)
  have h67 := hx6.trans (hx7.mono hx6.size)
  have q1 := ownsRow_call (ownsRow_call (ownsRow_call (ownsRow_call (ownsRow_call HO1.out h12) h13) h14) h15) h67
  have q2 := ownsRow_call (ownsRow_call (ownsRow_call (ownsRow_call HO2.out h13) h14) h15) h67
  have q3 := ownsRow_call (ownsRow_call (ownsRow_call HO3.out h14) h15) h67
  have q4 := ownsRow_call (ownsRow_call HO4.out h15) h67
  have p7 := L0.out.call hd7
  have z7 := L1.out.call hd7
  have b7 := B0.out.trans (hd7.mono B0.out.size)
  have gg0 : w.heap.size + 1 < G := by simp only [World.size_alloc] at hG; omega
  have g71 : w.heap.size ≤ w0.heap.size := (B0.out.trans (hd0.mono B0.out.size)).size
  have g72 : w.heap.size ≤ w1.heap.size := (B0.out.trans (hd1.mono B0.out.size)).size
  have g73 : w.heap.size ≤ w2.heap.size := (B0.out.trans (hd2.mono B0.out.size)).size
  have g74 : w.heap.size ≤ w3.heap.size := (B0.out.trans (hd3.mono B0.out.size)).size
  have Q1 := Lib.hid (ownsRow_base q1 g71)
  have Q2 := Lib.hid (ownsRow_base q2 g72)
  have Q3 := Lib.hid (ownsRow_base q3 g73)
  have Q4 := Lib.hid (ownsRow_base q4 g74)
  have P7 := Lib.hid p7
  have Z7 := Lib.hid z7
  have B7 := Lib.hid b7
  have LG := Lib.hid hlG
  clear q1 q2 q3 q4 p7 z7 b7 hlG hd0 hd1 hd2 hd3 hd4 hd5 hd7 hx0 hx1 hx2 hx3 hx4 hx5 hx6 hx7 hb1 hb2 hb3 hb4 hb5 h12 h13 h14 h15 h67 HO1 HO2 HO3 HO4 L0 L1 B0 HS HR HE HK hG g71 g72 g73 g74
  refine wpList_store_cells (o := ⟨none, .store 41 (.tmp 3) _, _, _, _, _⟩) ?_ 41 (.tmp 3) (.tmp 22) ?_ G 0 ?_ 41 zplan [.slice A1 p.s.l.length c1, .slice A2 p.r.l.length c2, .slice none 0 0, .slice A3 p.e.l.length c3, .slice A4 p.k.l.length c4, .int .i64 p.lo, .int .i64 p.hi, .int .i64 p.years] ?_ LG.out (Nat.le_refl 8) size41 (by simp [Value.oneCell']) ?_
  rfl; rfl; rfl; rfl
  intro w8 HS8 HO8
  refine wpList_nil ?_
  have hs8 : Lies w8 G 41 #[.slice A1 p.s.l.length c1, .slice A2 p.r.l.length c2, .slice none 0 0, .slice A3 p.e.l.length c3, .slice A4 p.k.l.length c4, .int .i64 p.lo, .int .i64 p.hi, .int .i64 p.years] := HS8.out
  have zne : w.heap.size + 1 ≠ G := by omega
  have hG8 : G < w8.heap.size := hs8.in_
  have hF : PL1 p w G (.slice A1 p.s.l.length c1) (.slice A2 p.r.l.length c2) (.slice A3 p.e.l.length c3) (.slice A4 p.k.l.length c4) w8 (.slice none 0 0) 0 w8 :=
    ⟨HO8.out.lies P7.out (by omega), HO8.out.lies Z7.out zne, hs8, HO8.out.below B7.out (by omega), Nat.le_refl _, gg0, hG8, fun _ _ _ => rfl, ⟨[], by simp, by simpa using World.ownsRow_nil _ _ _ _, fun r hr => by cases hr⟩⟩
  have HF := Lib.hid hF
  have U1 := Lib.hid (own_only Q1.out LG.out (by decide) HO8.out)
  have U2 := Lib.hid (own_only Q2.out LG.out (by decide) HO8.out)
  have U3 := Lib.hid (own_only Q3.out LG.out (by decide) HO8.out)
  have U4 := Lib.hid (own_only Q4.out LG.out (by decide) HO8.out)
  obtain ⟨i0, hi0, hz00, hz01, hz02⟩ := info_parts infoRanges
  have HI0 := Lib.hid hi0
  have Hz00 := Lib.hid hz00
  have Hz01 := Lib.hid hz01
  have Hz02 := Lib.hid hz02
  clear hF hs8 HS8 HO8 Q1 Q2 Q3 Q4 P7 Z7 B7 LG hi0 hz00 hz01 hz02
  go_wp2
  go_loopw [4] (fun i wr => ∃ (k : Nat) (v : Value), k ≤ p.g.l.length ∧ i = .int .i64 k ∧ Aside (PL1 p w G (.slice A1 p.s.l.length c1) (.slice A2 p.r.l.length c2) (.slice A3 p.e.l.length c3) (.slice A4 p.k.l.length c4) w8 v k wr)) (fun i _ => p.g.l.length - (intOf i).toNat)
  case atStart => exact ⟨0, _, Nat.zero_le _, rfl, HF.out⟩
  case round =>
    obtain ⟨k, v, hk, rfl, M⟩ := hrel
    have d2 : wr.cell? ⟨w.heap.size, 2, none⟩ = some (.slice p.g.A p.g.l.length p.g.c) := M.out.pb.at_ 2
    by_cases hlt : k < p.g.l.length
    · have hltz : (k : Int) < (p.g.l.length : Int) := by omega
      have hk0 : (0 : Int) ≤ (k : Int) := by omega
      obtain ⟨x, hx⟩ : ∃ x, p.g.l[k]? = some x := ⟨p.g.l[k], by simp [hlt]⟩
      obtain ⟨bg, og, eg, hbg, cg⟩ := HP.out.g.cell1 hx
      rw [eg] at d2
      have d3 : wr.cell? ⟨bg, og + k, none⟩ = some (.slice x.A x.l.length x.c) := by rw [M.out.b.cell (p := ⟨bg, og + k, none⟩) hbg]; exact cg
      have hm := List.mem_of_getElem? hx
      have hS : ∀ W, Below wr.heap.size wr W → Calls Try.prog 58 #[.slice x.A x.l.length x.c] W fun e w' => ∃ A' c', e = .returned (.slice A' x.l.length c') ∧ w'.ownsRow W.heap.size 39 2 (.slice A' x.l.length c') x.l.length (x.l.flatMap encR) ∧ Below W.heap.size W w' :=
        fun W hb => spans_own _ _ _ W (((HP.out.rows x hm).below (M.out.b.trans (hb.mono M.out.b.size))).more (M.out.b.trans (hb.mono M.out.b.size)).size) (HP.out.lrows x hm)
      have d4 : wr.cell? ⟨G, 2, none⟩ = some v := M.out.tb.at_ 2
      have r2 := cell_regrown d2
      have r3 := cell_regrown d3
      have r4 := cell_regrown d4
      have HS := Lib.hid hS
      have HX := Lib.hid hx
      have HEG := Lib.hid eg
      clear hS hx cg hm
      go_wp2
      refine wp_region_reads 9 [0, 1, 2, 3, 4, 5, 6] [7, 8] (by kernel_rfl) (by kernel_rfl) ?_
      simp only [List.filterMap_cons, List.filterMap_nil, List.take_succ_cons, List.take_zero, List.getElem?_toArray, List.getElem?_cons_zero, List.getElem?_cons_succ, List.drop_succ_cons, List.drop_zero]
      repeat (first | go_big_quiet_step (fail) | quiet_step (fail))
      refine wpQuiet_nil ?_
      intro w0 hb0 hz0
      have HZ0 := Lib.hid hz0
      clear hz0 r2 r3 r4 d2 d3 d4 eg
      simp only [wpForce]
      go_wp2_with (go_at_call 58; refine (HS.out _ hb0).mono ?_; rintro e w9 ⟨A9, c9, rfl, o9, hb9⟩)
      have hb09 := hb0.trans (hb9.mono hb0.size)
      refine Ends.intro ⟨hb09, ?_⟩
      go_wp2
      refine Ends.intro ⟨hb09.alloc hb09.size _, ?_⟩
      obtain ⟨rs, hrs, hown, hro⟩ := M.out.ro
      have hzz : W2z w8 wr := M.out.z
      have HRS := Lib.hid hrs
      have HOW := Lib.hid (ownsRow_call hown hb09)
      have HOW0 := Lib.hid hown
      have HRO := Lib.hid hro
      have hkb : k ≤ 1000000 := by have := HP.out.lg; omega
      have hbase : w8.heap.size ≤ (w9.alloc (.cells #[.slice A9 x.l.length c9] 37)).heap.size := by rw [World.size_alloc]; have := hb09.size; unfold W2z at hzz; omega
      have HN9 := Lib.hid (news_alloc w9 [.slice A9 x.l.length c9] 37)
      clear hown hrs hro
      go_wp2_with (at_builtin; refine wpList_append_lies _ rfl (.tmp 31) (.tmp 38) 38 rfl w8.heap.size 37 i0 _ 1 24 Try.underlying38 HI0.out Hz00.out Hz01.out Hz02.out rfl (by decide) _ k _ rfl (HOW.out.alloc _) ⟨w9.heap.size, 0, none⟩ 1 1 [.slice A9 x.l.length c9] rfl rfl HN9.out (by intro u hu; simp at hu; subst hu; rfl) Nat.one_pos (by unfold maxLen; omega) (by omega) hbase _ rfl ?_; intro g10 cap10 w10 hown10 hg10 hat10 hlt10; clear hat10 hlt10; have hN := M.out.next (r := ⟨A9, x.l, c9⟩) (x := x) HRS.out HOW0.out HRO.out HX.out hb09 rfl (by simpa [Sv.val] using o9) (Nat.le_trans hzz hb0.size) _ hg10 (by simpa [Sv.val] using hown10); have c10 : w10.cell? ⟨G, 2, none⟩ = some v := hN.2.at_ 2; have f10 := hN.2.free 2; have HN := Lib.hid hN; clear hN hown10 hg10)
      exact ⟨⟨⟨k + 1, by omega, by omega, _, HN.out.1⟩, HEG.out.symm⟩, by simp [intOf]; omega⟩
    · obtain rfl : k = p.g.l.length := by omega
      obtain ⟨rs, hrs, hown, hro⟩ := M.out.ro
      rw [List.take_length] at hrs
      have hrl : rs.length = p.g.l.length := by have := congrArg List.length hrs; simpa using this
      rw [← hrl] at hown
      obtain ⟨Ar, cr, er, _, _⟩ := Sl.of_own (enc := encV) (l := rs) (fun _ => rfl) hown rfl
      subst er
      have keep : ∀ {base : Nat} {e : TypeId} {size : Nat} {v : Value} {n : Nat} {xs : List Value}, e ≠ 41 → w8.ownsRow base e size v n xs → (∀ g, v.ownBlock = some g → g ≠ G) → wr.ownsRow base e size v n xs := fun he h hgG =>
        own_keep h fun g hv => M.out.old g (own_at h hv).2.1 (hgG g hv)
      have tG : ∃ cs, Lies w8 G 41 cs := ⟨_, HF.out.tb⟩
      obtain ⟨csG, hcsG⟩ := tG
      have v1 := keep (by decide) U1.out (own_fit U1.out hcsG (by decide))
      have v2 := keep (by decide) U2.out (own_fit U2.out hcsG (by decide))
      have v3 := keep (by decide) U3.out (own_fit U3.out hcsG (by decide))
      have v4 := keep (by decide) U4.out (own_fit U4.out hcsG (by decide))
      have q0 : (⟨⟨A1, p.s.l, c1⟩, ⟨A2, p.r.l, c2⟩, ⟨Ar, rs, cr⟩, ⟨A3, p.e.l, c3⟩, ⟨A4, p.k.l, c4⟩, p.lo, p.hi, p.years⟩ : PlM).cells = [.slice A1 p.s.l.length c1, .slice A2 p.r.l.length c2, .slice Ar rs.length cr, .slice A3 p.e.l.length c3, .slice A4 p.k.l.length c4, .int .i64 p.lo, .int .i64 p.hi, .int .i64 p.years] := rfl
      have V1 := Lib.hid v1
      have V2 := Lib.hid v2
      have V3 := Lib.hid v3
      have V4 := Lib.hid v4
      have HOW := Lib.hid hown
      have HRS := Lib.hid hrs
      have HRO := Lib.hid hro
      have TB := Lib.hid M.out.tb
      have ZB := Lib.hid M.out.zb
      have HB := Lib.hid M.out.b
      have hg0 := M.out.g0
      clear v1 v2 v3 v4 hown hrs hro keep hcsG HF U1 U2 U3 U4 q0 M
      go_upto_region 6 with (fail)
      apply wp_region_lit
      refine wpList_load_row (o := ⟨some 41, _, _, _, _, _⟩) ?_ 41 (.tmp 3) ?_ G ?_ 41 #[.slice A1 p.s.l.length c1, .slice A2 p.r.l.length c2, .slice Ar rs.length cr, .slice A3 p.e.l.length c3, .slice A4 p.k.l.length c4, .int .i64 p.lo, .int .i64 p.hi, .int .i64 p.years] (0, 0) _ TB.out Try.underlying41 rfl size41 ?_
      rfl; rfl; rfl
      refine wpList_store_cells (o := ⟨none, .store 41 (.tmp 2) _, _, _, _, _⟩) ?_ 41 (.tmp 2) (.tmp 41) ?_ (w.heap.size + 1) 0 ?_ 41 zplan [.slice A1 p.s.l.length c1, .slice A2 p.r.l.length c2, .slice Ar rs.length cr, .slice A3 p.e.l.length c3, .slice A4 p.k.l.length c4, .int .i64 p.lo, .int .i64 p.hi, .int .i64 p.years] ?_ ZB.out (Nat.le_refl 8) size41 (by simp [Value.oneCell']) ?_
      rfl; rfl; rfl; rfl
      intro w9 HS9 HO9
      refine wpList_nil ?_
      have hs9 : Lies w9 (w.heap.size + 1) 41 #[.slice A1 p.s.l.length c1, .slice A2 p.r.l.length c2, .slice Ar rs.length cr, .slice A3 p.e.l.length c3, .slice A4 p.k.l.length c4, .int .i64 p.lo, .int .i64 p.hi, .int .i64 p.years] := HS9.out
      have hres : RetP p w (.returned (.agg #[.slice A1 p.s.l.length c1, .slice A2 p.r.l.length c2, .slice Ar rs.length cr, .slice A3 p.e.l.length c3, .slice A4 p.k.l.length c4, .int .i64 p.lo, .int .i64 p.hi, .int .i64 p.years])) w9 := by
        have K9 : ∀ {base : Nat} {e : TypeId} {size : Nat} {v : Value} {n : Nat} {xs : List Value}, e ≠ 41 → wr.ownsRow base e size v n xs → w9.ownsRow base e size v n xs := fun he h => own_only h ZB.out he HO9.out
        have hlg : rs.length ≤ 1000000 := by have := HP.out.lg; omega
        have hmem : ∀ r, r ∈ rs → ∃ x, x ∈ p.g.l ∧ x.l = r.l := fun r hr => by
          have : r.l ∈ rs.map (·.l) := List.mem_map.2 ⟨r, hr, rfl⟩
          rw [HRS.out] at this
          exact List.mem_map.1 this
        refine ⟨⟨⟨A1, p.s.l, c1⟩, ⟨A2, p.r.l, c2⟩, ⟨Ar, rs, cr⟩, ⟨A3, p.e.l, c3⟩, ⟨A4, p.k.l, c4⟩, p.lo, p.hi, p.years⟩, rfl, ?_, ⟨?_, ?_, ?_, fun r hr => ?_, ?_, ?_, HP.out.ls, HP.out.lr, hlg, fun r hr => ?_, HP.out.le, HP.out.lk⟩, HO9.out.below HB.out (by omega)⟩
        · unfold PlM.d
          simp only [HRS.out]
        · exact sl_of_own (enc := encR) (fun _ => rfl) (K9 (by decide) V1.out)
        · exact sl_of_own (enc := encI) (fun _ => rfl) (K9 (by decide) V2.out)
        · exact sl_of_own (enc := encV) (fun _ => rfl) (K9 (by decide) HOW.out)
        · exact sl_of_own' (K9 (by decide) (HRO.out r hr))
        · exact sl_of_own (enc := encI) (fun _ => rfl) (K9 (by decide) V3.out)
        · exact sl_of_own (enc := encI) (fun _ => rfl) (K9 (by decide) V4.out)
        · obtain ⟨x, hx, e⟩ := hmem r hr
          rw [← e]; exact HP.out.lrows x hx
      have HRES := Lib.hid hres
      have HS := Lib.hid hs9
      clear hres hs9 HS9 HO9
      go_wp2
      exact bodyPost_ret (results_cell_row rfl _ _ (w.heap.size + 1) 41 #[.slice A1 p.s.l.length c1, .slice A2 p.r.l.length c2, .slice Ar rs.length cr, .slice A3 p.e.l.length c3, .slice A4 p.k.l.length c4, .int .i64 p.lo, .int .i64 p.hi, .int .i64 p.years] (0, 0) _ rfl HS.out Try.underlying41 rfl size41) rfl HRES.out
end Go.Proofs.Ytlkdmcdnkoiflaa

/- field: the plan of the chapter. -/
namespace Go.Proofs.Ytlkdmcdnkoiflaa
open Go.RowKit Go.Lib

def fieldD : PD := ⟨[(1000, 1200), (0, 0)], [5000, 3000], [[(500, 700), (300, 400)], [(1500, 2000), (800, 900)]], [0, 200], [0, 100], 50, 100, 2⟩
/-- It hands back this plan. -/
def RetD (d : PD) (w : World) (e : Ending) (w' : World) : Prop := ∃ q : PlM, e = .returned (.agg q.cells.toArray) ∧ q.d = d ∧ q.At w' w'.heap.size ∧ Below w.heap.size w w'
set_option maxRecDepth 100000 in
set_option maxHeartbeats 1000000 in
theorem field_any (w : World) : Calls Try.prog 48 #[] w (RetD fieldD w) := by
  go_enter Try.func48, Try.ntmps48
  go_wp2
  refine bodyPost_ret (results_cell_row rfl _ _ w.heap.size 41 #[.slice (some ⟨w.heap.size + 1, 0, none⟩) 2 2, .slice (some ⟨w.heap.size + 1 + 1, 0, none⟩) 2 2, .slice (some ⟨w.heap.size + 1 + 1 + 1 + 1 + 1, 0, none⟩) 2 2, .slice (some ⟨w.heap.size + 1 + 1 + 1 + 1 + 1 + 1, 0, none⟩) 2 2, .slice (some ⟨w.heap.size + 1 + 1 + 1 + 1 + 1 + 1 + 1, 0, none⟩) 2 2, .int .i64 50, .int .i64 100, .int .i64 2] (0, 0) _ rfl (by repeat (first | (exact Lies.fresh' (by simp)) | (refine Lies.alloc ?_ _))) Try.underlying41 rfl size41) rfl ?_
  refine ⟨⟨⟨some ⟨w.heap.size + 1, 0, none⟩, [(1000, 1200), (0, 0)], 2⟩, ⟨some ⟨w.heap.size + 1 + 1, 0, none⟩, [5000, 3000], 2⟩, ⟨some ⟨w.heap.size + 1 + 1 + 1 + 1 + 1, 0, none⟩, [⟨some ⟨w.heap.size + 1 + 1 + 1, 0, none⟩, [(500, 700), (300, 400)], 2⟩, ⟨some ⟨w.heap.size + 1 + 1 + 1 + 1, 0, none⟩, [(1500, 2000), (800, 900)], 2⟩], 2⟩, ⟨some ⟨w.heap.size + 1 + 1 + 1 + 1 + 1 + 1, 0, none⟩, [0, 200], 2⟩, ⟨some ⟨w.heap.size + 1 + 1 + 1 + 1 + 1 + 1 + 1, 0, none⟩, [0, 100], 2⟩, 50, 100, 2⟩, rfl, rfl, ⟨?_, ?_, ?_, fun x hx => ?_, ?_, ?_, (show (2 : Nat) ≤ 1000000 by decide), (show (2 : Nat) ≤ 1000000 by decide), (show (2 : Nat) ≤ 1000000 by decide), fun x hx => ?_, (show (2 : Nat) ≤ 1000000 by decide), (show (2 : Nat) ≤ 1000000 by decide)⟩, (by repeat (first | (with_reducible assumption) | (with_reducible exact Below.refl _ _) | (with_reducible refine Below.drew ?_) | (with_reducible refine below_drewN ?_ _) | ((with_reducible refine Below.setCell ?_ ?_ _); rotate_left; focus (first | (simp; done) | (simp; omega) | omega)) | ((with_reducible refine Below.alloc ?_ ?_ _); rotate_left; focus (first | (simp; done) | (simp; omega) | omega))))⟩
  · exact sl_of_lies (t := 39) (enc := encR) (fun _ => rfl) (by repeat (first | (exact Lies.fresh' (by simp)) | (refine Lies.alloc ?_ _)))
  · exact sl_of_lies (t := 3) (enc := encI) (fun _ => rfl) (by repeat (first | (exact Lies.fresh' (by simp)) | (refine Lies.alloc ?_ _)))
  · exact sl_of_lies (t := 37) (enc := encV) (fun _ => rfl) (by repeat (first | (exact Lies.fresh' (by simp)) | (refine Lies.alloc ?_ _)))
  · simp only [List.mem_cons, List.not_mem_nil, or_false] at hx
    rcases hx with rfl | rfl
    · exact sl_of_lies (t := 39) (enc := encR) (fun _ => rfl) (by repeat (first | (exact Lies.fresh' (by simp)) | (refine Lies.alloc ?_ _)))
    · exact sl_of_lies (t := 39) (enc := encR) (fun _ => rfl) (by repeat (first | (exact Lies.fresh' (by simp)) | (refine Lies.alloc ?_ _)))
  · exact sl_of_lies (t := 3) (enc := encI) (fun _ => rfl) (by repeat (first | (exact Lies.fresh' (by simp)) | (refine Lies.alloc ?_ _)))
  · exact sl_of_lies (t := 3) (enc := encI) (fun _ => rfl) (by repeat (first | (exact Lies.fresh' (by simp)) | (refine Lies.alloc ?_ _)))
  · simp only [List.mem_cons, List.not_mem_nil, or_false] at hx
    rcases hx with rfl | rfl <;> exact (show (2 : Nat) ≤ 1000000 by decide)
end Go.Proofs.Ytlkdmcdnkoiflaa

/- What is sold, plainly. -/
namespace Go.Proofs.Ytlkdmcdnkoiflaa
open Go.RowKit Go.Lib

/-- What is sold of a size in the first k years. -/
def soldUpD (d : PD) (gr : Nat → List (List Int)) (loss : Nat → Int) (pl : List Int) (size : Nat) : Nat → Int
  | 0 => 0
  | k + 1 => soldUpD d gr loss pl size k + (yrD d gr loss pl k).getD (5 + size) 0
theorem soldUp_d (p : PlM) (t : TrM) (pl : List Int) (size : Nat) : ∀ k, soldUp p t pl size k = soldUpD p.d (grT t) (loT t) pl size k
  | 0 => rfl
  | k + 1 => by rw [soldUp, soldUpD, soldUp_d p t pl size k, yrK_d]
theorem soldUpD_congr {d d' : PD} {gr gr' : Nat → List (List Int)} {loss loss' : Nat → Int} {pl : List Int} {size : Nat} (h1 : d.s.length = d'.s.length) (h2 : d.r = d'.r) (h3 : d.e = d'.e) (h4 : d.k = d'.k) : ∀ k, (∀ j, j < k → gr j = gr' j ∧ loss j = loss' j) → soldUpD d gr loss pl size k = soldUpD d' gr' loss' pl size k
  | 0, _ => rfl
  | k + 1, h => by
    rw [soldUpD, soldUpD, soldUpD_congr h1 h2 h3 h4 k (fun j hj => h j (by omega)), yrD_congr h1 h2 h3 h4 k (fun j hj => h j (by omega))]
theorem ends_gr {p : PlM} {t : TrM} {fb fc : Int × Int → Int} {Y : Nat} (e2 : t.g.l.length = Y) (e3 : ∀ y, y ∈ t.g.l → y.l.map (·.l) = p.g.l.map fun x => x.l.map fb) (e4 : t.l.l = List.replicate Y (fc (p.lo, p.hi))) {j : Nat} (hj : j < Y) :
    grT t j = growF p.d fb ∧ loT t j = fc (p.d.lo, p.d.hi) := by
  refine ⟨?_, ?_⟩
  · unfold grT growF PlM.d
    have hjl : j < t.g.l.length := by omega
    simp only [List.getD, List.getElem?_eq_getElem hjl, Option.getD_some, List.map_map]
    rw [e3 _ (List.getElem_mem hjl)]
    rfl
  · unfold loT PlM.d
    rw [e4]
    simp [List.getD, hj]
/-- What is sold of a size in the truth of ends, if so much is planted at first. -/
def sellsD (d : PD) (fb fc : Int × Int → Int) (pl : List Int) (size Y : Nat) : Int := soldUpD d (fun _ => growF d fb) (fun _ => fc (d.lo, d.hi)) pl size Y
theorem soldUp_ends {p : PlM} {t : TrM} {fb fc : Int × Int → Int} {Y : Nat} (e2 : t.g.l.length = Y) (e3 : ∀ y, y ∈ t.g.l → y.l.map (·.l) = p.g.l.map fun x => x.l.map fb) (e4 : t.l.l = List.replicate Y (fc (p.lo, p.hi))) (pl : List Int) (size : Nat) :
    soldUp p t pl size Y = sellsD p.d fb fc pl size Y := by
  rw [soldUp_d]
  exact soldUpD_congr rfl rfl rfl rfl Y fun j hj => ends_gr e2 e3 e4 hj
/-- Are enough surely sold, if h are planted of a size? -/
def enoughD (d : PD) (Y planted size : Nat) (number h : Int) : Bool := decide (number ≤ sellsD d (·.1) (·.2) ((pad5 (d.s.map (·.1))).set planted h) size Y)
theorem asked_zero {p : PlM} {number : Int} {sizes : List Int} (h : askedL p number sizes = 0) : p.Valid ∧ (∀ x, x ∈ sizes → 0 ≤ x ∧ x < p.s.l.length) ∧ 0 ≤ number ∧ number ≤ 10000000 := by
  unfold askedL at h
  by_cases hf : p.fault ≠ 0
  · rw [if_pos hf] at h; exact absurd h hf
  · rw [if_neg hf] at h
    have hf0 : p.fault = 0 := by simpa using hf
    split at h
    · rename_i ha
      simp only [Bool.and_eq_true, List.all_eq_true] at ha
      have h2 := inB_iff.1 ha.2
      exact ⟨fault_zero hf0, fun x hx => by have := inB_iff.1 (ha.1 x hx); omega, h2.1, h2.2⟩
    · cases h
end Go.Proofs.Ytlkdmcdnkoiflaa

/- Least. -/
namespace Go.Proofs.Ytlkdmcdnkoiflaa
open Go.RowKit Go.Lib

/-- What Least hands back. -/
def RetLe (d : PD) (Y planted size : Nat) (number : Int) (w : World) (e : Ending) (w' : World) : Prop :=
  ∃ i : Nat, (i : Int) ≤ d.r.getD planted 0 + 1 ∧ (0 < i → enoughD d Y planted size number ((i - 1 : Nat) : Int) = false) ∧ ((i : Int) ≤ d.r.getD planted 0 → enoughD d Y planted size number (i : Int) = true) ∧
    e = .returned (.tuple #[.int .i64 (if (i : Int) ≤ d.r.getD planted 0 then i else 0), .int .i64 (if (i : Int) ≤ d.r.getD planted 0 then 0 else 9)]) ∧ Below w.heap.size w w'
theorem alloc_course (w : World) : (Instr.alloc 117 true (.tuple #[])).run Try.prog w = .ok (.pointer (some ⟨w.heap.size, 0, none⟩)) (w.alloc (.cells zcourse.toArray 117)) := by kernel_rfl
/-- What the search keeps. -/
structure LJ (pl : List Int) (planted gs : Nat) (W0 W : World) : Prop where
  st : ∃ x, Lies W gs 120 (vals (pl.set planted x))
  g : W0.grownBy W (some gs)
theorem grown_below {W0 W : World} {g : Nat} (h : W0.grownBy W (some g)) (hg : g < W0.heap.size) : Below g W0 W := (Below.refl g W0).grown h (by omega) (fun k e => by cases e; exact Nat.le_refl _)
theorem grown_lies {W0 W : World} {g k : Nat} {t : TypeId} {cs : Array Value} (h : W0.grownBy W (some g)) (hl : Lies W0 k t cs) (hk : k ≠ g) : Lies W k t cs := hl.grown h (fun e => by cases e; exact hk rfl)
theorem grown_trans {W0 W W' : World} {r : Option Nat} (h : W0.grownBy W r) (h' : W.grownBy W' r) : W0.grownBy W' r :=
  ⟨h'.os.trans h.os, h'.tape.trans h.tape, h'.output.trans h.output, Nat.le_trans h.size h'.size, fun k hk hne => (h'.block k (Nat.lt_of_lt_of_le hk h.size) hne).trans (h.block k hk hne)⟩

set_option maxRecDepth 100000 in
set_option maxHeartbeats 1000000 in
theorem Least_ok (p : PlM) (Y planted size : Nat) (number : Int) (w : World) (hp : p.At w w.heap.size) (hY : p.years = (Y : Int)) (hq : askedL p number [(planted : Int), (size : Int)] = 0) :
    Calls Try.prog 34 #[.agg p.cells.toArray, .int .i64 planted, .int .i64 size, .int .i64 number] w (RetLe p.d Y planted size number w) := by
  obtain ⟨hv, hsz, hnb⟩ := asked_zero hq
  have hn5 := hv.ok.n
  have hpl : planted < p.s.l.length := by have := hsz planted (by simp); omega
  have hss : size < p.s.l.length := by have := hsz size (by simp); omega
  have hY6 : Y ≤ 6 := by have := hv.y; omega
  have l0 : Lies ((((w.alloc (.cells p.cells.toArray 41)).alloc (.cells #[.int .i64 planted] 3)).alloc (.cells #[.int .i64 size] 3)).alloc (.cells #[.int .i64 number] 3)) w.heap.size 41 p.cells.toArray := (((Lies.fresh _ _ _).alloc _).alloc _).alloc _
  have l1 : Lies ((((w.alloc (.cells p.cells.toArray 41)).alloc (.cells #[.int .i64 planted] 3)).alloc (.cells #[.int .i64 size] 3)).alloc (.cells #[.int .i64 number] 3)) (w.heap.size + 1) 3 #[.int .i64 planted] := ((Lies.fresh' (by simp)).alloc _).alloc _
  have l2 : Lies ((((w.alloc (.cells p.cells.toArray 41)).alloc (.cells #[.int .i64 planted] 3)).alloc (.cells #[.int .i64 size] 3)).alloc (.cells #[.int .i64 number] 3)) (w.heap.size + 1 + 1) 3 #[.int .i64 size] := (Lies.fresh' (by simp)).alloc _
  have l3 : Lies ((((w.alloc (.cells p.cells.toArray 41)).alloc (.cells #[.int .i64 planted] 3)).alloc (.cells #[.int .i64 size] 3)).alloc (.cells #[.int .i64 number] 3)) (w.heap.size + 1 + 1 + 1) 3 #[.int .i64 number] := Lies.fresh' (by simp)
  have b0 : Below w.heap.size w ((((w.alloc (.cells p.cells.toArray 41)).alloc (.cells #[.int .i64 planted] 3)).alloc (.cells #[.int .i64 size] 3)).alloc (.cells #[.int .i64 number] 3)) := (by repeat (first | (with_reducible assumption) | (with_reducible exact Below.refl _ _) | (with_reducible refine Below.drew ?_) | (with_reducible refine below_drewN ?_ _) | ((with_reducible refine Below.setCell ?_ ?_ _); rotate_left; focus (first | (simp; done) | (simp; omega) | omega)) | ((with_reducible refine Below.alloc ?_ ?_ _); rotate_left; focus (first | (simp; done) | (simp; omega) | omega))))
  have hA : ∀ W, Below w.heap.size w W → Sl W W.heap.size 1 (fun x => [Value.int .i64 x]) (some ⟨w.heap.size + 1 + 1 + 1 + 1, 0, none⟩) [(planted : Int), (size : Int)] → Calls Try.prog 69 #[.agg p.cells.toArray, .int .i64 number, .slice (some ⟨w.heap.size + 1 + 1 + 1 + 1, 0, none⟩) 2 2] W fun e w' => e = .returned (.int .i64 0) ∧ Below W.heap.size W w' := fun W hb hs => by
    have h := checkAsked_any p number (some ⟨w.heap.size + 1 + 1 + 1 + 1, 0, none⟩) 2 [(planted : Int), (size : Int)] W (hp.below hb hb.size) hs (by simp)
    rw [hq] at h
    exact h
  have hF : ∀ W, Below w.heap.size w W → Calls Try.prog 70 #[.agg p.cells.toArray, .agg (endsC 109 109 108 109).toArray] W (FollowR p (·.1) (·.1) (·.2) Y W) := fun W hb => follow_any p _ _ _ _ _ _ _ Y W (hp.below hb hb.size) hY hY6 takes_low takes_low takes_high
  have L0 := Lib.hid l0
  have L1 := Lib.hid l1
  have L2 := Lib.hid l2
  have L3 := Lib.hid l3
  have B0 := Lib.hid b0
  have HA := Lib.hid hA
  have HF := Lib.hid hF
  have HP := Lib.hid hp
  have HV := Lib.hid hv
  have HYE := Lib.hid hY
  clear l0 l1 l2 l3 b0 hA hF hp hv hY hq hsz
  unfold PlM.cells at HA ⊢
  go_enter Try.func34, Try.ntmps34
  go_upto_region 4 with (first
    | (refine wpList_load_row (o := ⟨some 16, _, _, _, _, _⟩) ?_ 41 (.tmp 4) ?_ w.heap.size ?_ 41 p.cells.toArray (0, 0) _ L0.out Try.underlying41 rfl size41 ?_; rfl; rfl; rfl)
    | (go_at_call 69; refine (HA.out _ (B0.out.alloc B0.out.size _) ?_).mono ?_; exact sl_of_lies (enc := encI) (fun _ => rfl) (Lies.fresh' (by simp)); rintro e w1 ⟨rfl, hb1⟩))
  have b1 : Below w.heap.size w w1 := (B0.out.alloc B0.out.size _).trans (hb1.mono (B0.out.alloc B0.out.size _).size)
  have k0 := (L0.out.alloc (.cells #[.int .i64 planted, .int .i64 size] 3)).call hb1
  have k1 := (L1.out.alloc (.cells #[.int .i64 planted, .int .i64 size] 3)).call hb1
  have k2 := (L2.out.alloc (.cells #[.int .i64 planted, .int .i64 size] 3)).call hb1
  have k3 := (L3.out.alloc (.cells #[.int .i64 planted, .int .i64 size] 3)).call hb1
  have hrg : ∀ W, (∃ q : Regrown, W = Go.Sort.grow (redrawn w1 q.d) q.os) → W.rangeAt w.heap.size 0 p.cells := by
    rintro W ⟨q, rfl⟩
    exact Lies.range (cs := p.cells) (k0.call (below_regrown _ q.d q.os)) (fun j v hj => by simpa using hj)
  have HRG := Lib.hid hrg
  have K0 := Lib.hid k0
  have K1 := Lib.hid k1
  have K2 := Lib.hid k2
  have K3 := Lib.hid k3
  have B1 := Lib.hid b1
  have hz1 : w.heap.size + 4 ≤ w1.heap.size := by have := hb1.size; simp at this; omega
  clear hrg k0 k1 k2 k3 b1 hb1 HA L0 L1 L2 L3 B0
  refine wp_region_float 4 [0] [1, 2] 3 11 117 zcourse.toArray (by kernel_rfl) (by kernel_rfl) (by simp) alloc_course ?_
  simp only [List.filterMap_cons, List.filterMap_nil, List.take_succ_cons, List.take_zero, List.getElem?_toArray, List.getElem?_cons_zero, List.getElem?_cons_succ, List.drop_succ_cons, List.drop_zero]
  refine wpQuiet_load_whole (o := ⟨some 25, _, _, _, _, _⟩) ?_ 41 (.tmp 4) ?_ w.heap.size 0 ?_ p.cells _ HRG.out Try.underlying41 rfl size41 ?_
  rfl; rfl; rfl
  simp only [Act.put, List.setIfInBounds_toArray, List.set_cons_zero, List.set_cons_succ]
  refine wpQuiet_nil ?_
  refine ⟨by simp, ?_⟩
  intro vf0 w2 hx2
  simp only [List.setIfInBounds_toArray, List.set_cons_zero, List.set_cons_succ]
  simp only [wpFloat]
  go_wp2_with (go_at_call 72; refine (lesserEnds_any _).mono ?_; rintro e u3 ⟨rfl, hb3⟩)
  refine Ends.intro ⟨hb3, ?_⟩
  intro vf3 w3 hx3
  simp only [Act.put, List.setIfInBounds_toArray, List.set_cons_zero, List.set_cons_succ]
  have hc3 := hx2.trans ((hb3.trans (hx3.mono hb3.size)).mono hx2.size)
  go_wp2_with (go_at_call 70; refine (HF.out _ (B1.out.trans (hc3.mono B1.out.size))).mono ?_; rintro e u4 ⟨t, rfl, ht, e1, e2, e3, e4, hb4⟩)
  refine Ends.intro ⟨hb4, ?_⟩
  intro vf4 w4 hx4
  simp only [List.setIfInBounds_toArray, List.set_cons_zero, List.set_cons_succ]
  intro G w5 hx5 hG hlG
  simp only [Act.put, List.setIfInBounds_toArray, List.set_cons_zero, List.set_cons_succ]
  have h45 := hx4.trans (hx5.mono hx4.size)
  have hc5 := hc3.trans ((hb4.trans (h45.mono hb4.size)).mono hc3.size)
  have hW5 : t.Within w5 w3.heap.size u4.heap.size := ht.mid fun j _ hj => h45.block j hj
  have hz35 : u4.heap.size ≤ w5.heap.size := h45.size
  have hlo3 : w1.heap.size ≤ w3.heap.size := hc3.size
  refine wpList_store_cells (o := ⟨none, .store 117 (.tmp 11) _, _, _, _, _⟩) ?_ 117 (.tmp 11) (.tmp 27) ?_ G 0 ?_ 117 zcourse (p.cells ++ t.cells) ?_ hlG (by simp [PlM.cells, TrM.cells]) size117 (by simp [PlM.cells, TrM.cells, Value.oneCell']) ?_
  rfl; rfl; rfl; rfl
  intro w6 HS6 HO6
  refine wpList_nil ?_
  have hl6 : Lies w6 G 117 (p.cells ++ t.cells).toArray := by have := HS6.out; rwa [splice_whole (by simp [PlM.cells, TrM.cells])] at this
  have hW6 := hW5.only HO6.out hlG
  have hG4 : w.heap.size + 4 ≤ G := by omega
  have m0 := HO6.out.lies (K0.out.call hc5) (by omega)
  have m1 := HO6.out.lies (K1.out.call hc5) (by omega)
  have m2 := HO6.out.lies (K2.out.call hc5) (by omega)
  have m3 := HO6.out.lies (K3.out.call hc5) (by omega)
  have b6 : Below w.heap.size w w6 := HO6.out.below (B1.out.trans (hc5.mono B1.out.size)) (by omega)
  have hpt := ends_fit HV.out between_low between_low between_high HYE.out e1 e2 e3 e4
  have ht6 : t.At w6 w6.heap.size := hW6.at (by rw [HO6.out.size]; exact hz35)
  have hS : ∀ W, Below w6.heap.size w6 W → Calls Try.prog 75 #[.agg (p.cells ++ t.cells).toArray] W fun e w' => e = .returned (.agg (vals (pad5 t.s.l))) ∧ Below W.heap.size W w' := fun W hb => start_any p t W (ht6.below hb hb.size) (by rw [hpt.fit.s]; exact hpt.ok.n)
  have HS := Lib.hid hS
  have M0 := Lib.hid m0
  have M1 := Lib.hid m1
  have M2 := Lib.hid m2
  have M3 := Lib.hid m3
  have L6 := Lib.hid hl6
  have T6 := Lib.hid ht6
  have B6 := Lib.hid b6
  have HPT := Lib.hid hpt
  have E1 := Lib.hid e1
  have E2 := Lib.hid e2
  have E3 := Lib.hid e3
  have E4 := Lib.hid e4
  have hz6 : G < w6.heap.size := hl6.in_
  clear hS m0 m1 m2 m3 hl6 ht6 b6 hpt e1 e2 e3 e4 hW6 hW5 hc5 hc3 h45 hx2 hx3 hx4 hx5 hb3 hb4 ht hlG HS6 HO6 K0 K1 K2 K3 B1 HRG HF hG
  have hlen5 : (pad5 t.s.l).length = 5 := pad5_length (by rw [HPT.out.fit.s]; exact hn5)
  have hfit : 0 + (pad5 t.s.l).length ≤ z5.length ∧ (Try.prog.info? 120).map (·.size) = some (pad5 t.s.l).length := by rw [hlen5]; exact ⟨by decide, size120⟩
  have HFI := Lib.hid hfit
  have HL5 := Lib.hid hlen5
  clear hfit hlen5
  go_upto_region 7 with (first
    | (refine wpList_load_row (o := ⟨some 28, _, _, _, _, _⟩) ?_ 117 (.tmp 11) ?_ G ?_ 117 (p.cells ++ t.cells).toArray (0, 0) _ L6.out Try.underlying117 rfl size117 ?_; rfl; rfl; rfl)
    | (go_at_call 75; refine (HS.out _ (Below.refl _ _)).mono ?_; rintro e w7 ⟨rfl, hb7⟩)
    | (refine wpList_store_ints (o := ⟨none, .store 120 (.tmp 12) _, _, _, _, _⟩) ?_ 120 (.tmp 12) (.tmp 29) ?_ w7.heap.size 0 ?_ 120 z5 (pad5 t.s.l) ?_ (Lies.fresh w7 120 (vals z5)) HFI.out.1 HFI.out.2 ?_; rfl; rfl; rfl; rfl; intro w8 HS8 HO8; (try simp only [Act.put])))
  have hl8 : Lies w8 w7.heap.size 120 (vals (pad5 t.s.l)) := by
    have := HS8.out
    rwa [splice_all (by rw [HL5.out]; rfl)] at this
  have b78 : Below w7.heap.size w7 w8 := HO8.out.below ((Below.refl _ _).alloc (Nat.le_refl _) _) (Nat.le_refl _)
  have b68 : Below w6.heap.size w6 w8 := hb7.trans (b78.mono hb7.size)
  have hz67 := hb7.size
  have hgs8 : w7.heap.size < w8.heap.size := hl8.in_
  have n0 := M0.out.call b68
  have n1 := M1.out.call b68
  have n2 := M2.out.call b68
  have n3 := M3.out.call b68
  have nG := L6.out.call b68
  have b8 : Below w.heap.size w w8 := B6.out.trans (b68.mono B6.out.size)
  obtain ⟨room, hroom⟩ : ∃ room, p.r.l[planted]? = some room := ⟨p.r.l[planted]'(by rw [HV.out.ok.r]; exact hpl), by simp⟩
  have hrb := HV.out.ok.rb room (List.mem_of_getElem? hroom)
  have hrd : p.d.r.getD planted 0 = room := by show p.r.l.getD planted 0 = room; simp [List.getD, hroom]
  obtain ⟨rm, rfl⟩ : ∃ rm : Nat, room = (rm : Int) := ⟨room.toNat, by omega⟩
  obtain ⟨br, orr, er, hbr, cr⟩ := HP.out.r.cell1 hroom
  have d1 : w8.cell? ⟨w.heap.size, 1, none⟩ = some (.slice (some ⟨br, orr, none⟩) p.r.l.length p.r.c) := by rw [← er]; exact n0.at_ 1
  have d2 : w8.cell? ⟨w.heap.size + 1, 0, none⟩ = some (.int .i64 planted) := n1.at_ 0
  have d3 : w8.cell? ⟨br, orr + planted, none⟩ = some (.int .i64 rm) := by rw [b8.cell (p := ⟨br, orr + planted, none⟩) hbr]; exact cr
  have hrl : (planted : Int) < (p.r.l.length : Int) := by have := HV.out.ok.r; omega
  have hp0 : (0 : Int) ≤ (planted : Int) := by omega
  have hrm : (rm : Int) ≤ 1000000 := hrb.2
  have hpl5 := start_five HPT.out
  have hSr : Calls Try.prog 78 #[.int .i64 ((rm : Int) + 1), .func (.func 76) #[] #[.pointer (some ⟨w7.heap.size, 0, none⟩), .pointer (some ⟨w.heap.size + 1, 0, none⟩), .pointer (some ⟨G, 0, none⟩), .pointer (some ⟨w.heap.size + 1 + 1, 0, none⟩), .pointer (some ⟨w.heap.size + 1 + 1 + 1, 0, none⟩)]] w8 fun e w' =>
      ∃ i : Nat, e = .returned (.int .i64 i) ∧ LJ (pad5 t.s.l) planted w7.heap.size w8 w' ∧ i ≤ rm + 1 ∧ (0 < i → enoughD p.d Y planted size number ((i - 1 : Nat) : Int) = false) ∧ (i < rm + 1 → enoughD p.d Y planted size number (i : Int) = true) := by
    have hset : ∀ (x h : Int), ((pad5 t.s.l).set planted x).set planted h = (pad5 t.s.l).set planted h := fun x h => by simp
    have h0 : LJ (pad5 t.s.l) planted w7.heap.size w8 w8 := by
      refine ⟨⟨(pad5 t.s.l).getD planted 0, ?_⟩, World.grownBy.refl _ _⟩
      have hself : (pad5 t.s.l).set planted ((pad5 t.s.l).getD planted 0) = pad5 t.s.l := by
        have hlt : planted < (pad5 t.s.l).length := by rw [HL5.out]; omega
        simp [List.getD, hlt]
      rw [hself]; exact hl8
    have h := search_any (rm + 1) 76 #[.pointer (some ⟨w7.heap.size, 0, none⟩), .pointer (some ⟨w.heap.size + 1, 0, none⟩), .pointer (some ⟨G, 0, none⟩), .pointer (some ⟨w.heap.size + 1 + 1, 0, none⟩), .pointer (some ⟨w.heap.size + 1 + 1 + 1, 0, none⟩)] (fun h => enoughD p.d Y planted size number (h : Int)) (LJ (pad5 t.s.l) planted w7.heap.size w8) w8 (by omega) h0 (enters_of Try.func76 (by kernel_rfl) rfl) (fun W h hJ hlt => ?_)
    · have e : (((rm + 1 : Nat) : Int)) = (rm : Int) + 1 := by omega
      rw [e] at h
      exact h
    · obtain ⟨⟨x, hx⟩, hg⟩ := hJ
      have hgb := grown_below hg hgs8
      have hbW : Below w.heap.size w W := b8.trans (hgb.mono (by have := B6.out.size; omega))
      have hbW6 : Below w6.heap.size w6 W := b68.trans (hgb.mono hz67)
      have hw6 := B6.out.size
      have hlen : ((pad5 t.s.l).set planted x).length = 5 := by rw [List.length_set]; exact HL5.out
      have hF2 : Five2 p.s.l.length (((pad5 t.s.l).set planted x).set planted (h : Int)) := by
        rw [hset]
        refine ⟨by rw [List.length_set]; exact HL5.out, fun i hi => ?_⟩
        have hlt2 : planted < (pad5 t.s.l).length := by rw [HL5.out]; omega
        by_cases hip : planted = i
        · subst hip
          simp [List.getD, hlt2]
          omega
        · have := hpl5.b i hi
          simpa [List.getD, List.getElem?_set, hip] using this
      have hL := least1_any p t ((pad5 t.s.l).set planted x) (h : Int) number planted size w7.heap.size (w.heap.size + 1) G (w.heap.size + 1 + 1) (w.heap.size + 1 + 1 + 1) W (HP.out.below hbW (by omega)) (T6.out.below hbW6 hz67) HPT.out hlen hF2 (by omega) (by omega) hx
        ((grown_lies hg n1 (by omega)).at_ 0) (by omega) (grown_lies hg nG (by omega)) (by omega) ((grown_lies hg n2 (by omega)).at_ 0) (by omega) ((grown_lies hg n3 (by omega)).at_ 0) (by omega)
      refine hL.mono ?_
      rintro e w' ⟨rfl, hl', hg'⟩
      rw [hset] at hl'
      refine ⟨ret_bool ?_, ⟨⟨h, hl'⟩, grown_trans hg hg'⟩⟩
      rw [hset, E2.out, soldUp_ends (fb := (·.1)) (fc := (·.2)) E2.out E3.out E4.out]
      show decide (number ≤ _) = _
      unfold enoughD
      rw [E1.out]; rfl
  have HSr := Lib.hid hSr
  have B8 := Lib.hid b8
  have HRD := Lib.hid hrd
  clear hSr n0 n1 n2 n3 nG b68 b78 hl8 HS8 HO8 hb7 er cr hroom hpl5 hrb hrd hnb
  have hgs0 : w.heap.size ≤ w7.heap.size := by have := B6.out.size; omega
  go_wp2_with (go_at_call 78; refine HSr.out.mono ?_; rintro e w9 ⟨i, rfl, hJ, hin, hq0, hq1⟩; have HJ := Lib.hid hJ; have HQ0 := Lib.hid hq0; have HQ1 := Lib.hid hq1; clear hJ hq0 hq1)
  all_goals go_ret2
  all_goals
    refine ⟨i, by rw [HRD.out]; omega, HQ0.out, fun h => HQ1.out (by rw [HRD.out] at h; omega), ?_, B8.out.trans ((grown_below HJ.out.g hgs8).mono hgs0)⟩
    rw [HRD.out]
    first
      | (rw [if_pos (by omega), if_pos (by omega)]; rfl)
      | (rw [if_neg (by omega), if_neg (by omega)]; rfl)
end Go.Proofs.Ytlkdmcdnkoiflaa

/- More planted at first: no less is sold; the chapter's numbers. -/
namespace Go.Proofs.Ytlkdmcdnkoiflaa
open Go.RowKit Go.Lib

theorem growF_bd {p : PlM} (hv : p.Valid) {fb : Int × Int → Int} (hb : Between fb) {i j : Nat} (hi : i < p.s.l.length) (hj : j < p.s.l.length) : 0 ≤ ((growF p.d fb).getD i []).getD j 0 ∧ ((growF p.d fb).getD i []).getD j 0 ≤ 5000 := by
  have hgi : i < p.g.l.length := by rw [hv.g]; exact hi
  have hm : p.g.l[i] ∈ p.g.l := List.getElem_mem hgi
  have hjl : j < p.g.l[i].l.length := by rw [hv.gl _ hm]; exact hj
  have hr := hv.gb _ hm _ (List.getElem_mem hjl)
  have hf := hb p.g.l[i].l[j] hr.2.1
  have e : ((growF p.d fb).getD i []).getD j 0 = fb p.g.l[i].l[j] := by
    unfold growF PlM.d
    simp [List.getD, hgi, hjl]
  rw [e]; omega
/-- The numbers of a plan that a year asks. -/
theorem nums_bd {p : PlM} (hv : p.Valid) {i : Nat} (hi : i < p.s.l.length) : 0 ≤ p.d.e.getD i 0 ∧ 0 ≤ p.d.k.getD i 0 ∧ 0 ≤ p.d.r.getD i 0 :=
  ⟨(hv.ok.eb _ (getD_mem (l := p.e.l) (by rw [hv.ok.e]; exact hi))).1, (hv.ok.kb _ (getD_mem (l := p.k.l) (by rw [hv.ok.k]; exact hi))).1, (hv.ok.rb _ (getD_mem (l := p.r.l) (by rw [hv.ok.r]; exact hi))).1⟩
theorem yrD_sold {d : PD} (hn : d.s.length ≤ 5) (gr : Nat → List (List Int)) (loss : Nat → Int) (pl : List Int) (k : Nat) {i : Nat} (hi : i < d.s.length) : (yrD d gr loss pl k).getD (5 + i) 0 = solD d (gr k) (plD d gr loss pl k) i :=
  (yearD_at d (gr k) (loss k) (plD d gr loss pl k) hi hn).2.1
theorem soldUpD_mono {d : PD} {gr gr' : Nat → List (List Int)} {loss loss' : Nat → Int} {pl pl' : List Int} (hn : d.s.length ≤ 5) (hp : ∀ i, i < d.s.length → 0 ≤ pl.getD i 0 ∧ pl.getD i 0 ≤ pl'.getD i 0)
    (he : ∀ i, i < d.s.length → 0 ≤ d.e.getD i 0 ∧ 0 ≤ d.k.getD i 0 ∧ 0 ≤ d.r.getD i 0) {size : Nat} (hs : size < d.s.length) : ∀ k,
    (∀ y, y < k → ∀ i j, i < d.s.length → j < d.s.length → 0 ≤ ((gr y).getD i []).getD j 0 ∧ ((gr y).getD i []).getD j 0 ≤ ((gr' y).getD i []).getD j 0) → (∀ y, y < k → 0 ≤ loss y ∧ loss' y ≤ loss y ∧ loss y ≤ 1000) →
    soldUpD d gr loss pl size k ≤ soldUpD d gr' loss' pl' size k
  | 0, _, _ => by simp [soldUpD]
  | k + 1, hg, hl => by
    have ih := soldUpD_mono hn hp he hs k (fun y hy => hg y (by omega)) (fun y hy => hl y (by omega))
    have hpk := plD_mono (gr := gr) (gr' := gr') (loss := loss) (loss' := loss') hn hp he k (fun y hy => hg y (by omega)) (fun y hy => hl y (by omega))
    have hlk := hl k (by omega)
    have hm := (year_mono (loss := loss k) (loss' := loss' k) hpk (hg k (by omega)) hlk.2.1 hlk.2.2 (fun i hi => ⟨(he i hi).1, (he i hi).2.1⟩) hs).2.1
    rw [soldUpD, soldUpD, yrD_sold hn _ _ _ _ hs, yrD_sold hn _ _ _ _ hs]
    omega
theorem enough_mono {p : PlM} (hv : p.Valid) {Y planted size : Nat} {number h h' : Int} (hpl : planted < p.s.l.length) (hs : size < p.s.l.length) (h0 : 0 ≤ h) (hh : h ≤ h') (he : enoughD p.d Y planted size number h = true) : enoughD p.d Y planted size number h' = true := by
  unfold enoughD at he ⊢
  rw [decide_eq_true_eq] at he ⊢
  refine Int.le_trans he ?_
  unfold sellsD
  have hn5 := hv.ok.n
  have hlo := hv.l
  have hlen : (p.d.s.map (·.1)).length = p.s.l.length := by simp [PlM.d]
  have hpad : ∀ i, i < p.s.l.length → 0 ≤ (pad5 (p.d.s.map (·.1))).getD i 0 := fun i hi => by
    rw [pad5_getD (by omega) i (by omega)]
    have hi' : i < p.d.s.length := hi
    have := hv.sb p.s.l[i] (List.getElem_mem hi)
    simp only [List.getD, List.getElem?_map, List.getElem?_eq_getElem hi', Option.map_some, Option.getD_some]
    exact this.1
  have h5 : planted < (pad5 (p.d.s.map (·.1))).length := by rw [pad5_length (by omega)]; omega
  refine soldUpD_mono (d := p.d) hn5 (fun i hi => ?_) (fun i hi => nums_bd hv hi) hs Y (fun y _ i j hi hj => ⟨(growF_bd hv between_low hi hj).1, Int.le_refl _⟩) (fun y _ => ⟨show 0 ≤ p.hi by omega, Int.le_refl _, show p.hi ≤ 1000 by omega⟩)
  by_cases e : planted = i
  · subst e
    simp [List.getD, h5]
    omega
  · have := hpad i hi
    simp only [List.getD, List.getElem?_set, e, if_false] at this ⊢
    exact ⟨this, Int.le_refl _⟩
theorem field_fault : faultD fieldD = 0 := by kernel_rfl
theorem field_bnds : (List.range 2).map (bndD fieldD) = [([(500, 840), (300, 480)], [(0, 0), (200, 200)], [(25, 84), (5, 28)], [(450, 798), (90, 266)]), ([(360, 1090), (207, 558)], [(0, 0), (107, 200)], [(18, 109), (5, 35)], [(324, 1036), (90, 341)])] := by kernel_rfl
theorem field_enough : enoughD fieldD 2 0 1 200 753 = false ∧ enoughD fieldD 2 0 1 200 754 = true ∧ fieldD.r.getD 0 0 = 5000 := by
  refine ⟨by kernel_rfl, by kernel_rfl, by kernel_rfl⟩
theorem field_least {p : PlM} (hd : p.d = fieldD) {w w' : World} {e : Ending} (h : RetLe p.d 2 0 1 200 w e w') : e = .returned (.tuple #[.int .i64 754, .int .i64 0]) ∧ Below w.heap.size w w' := by
  have hv : p.Valid := fault_zero (by rw [fault_d, hd]; exact field_fault)
  have hn : p.s.l.length = 2 := by have := congrArg (fun d : PD => d.s.length) hd; exact this
  obtain ⟨i, h1, h2, h3, h4, h5⟩ := h
  have hm := fun (a b : Int) => enough_mono hv (Y := 2) (planted := 0) (size := 1) (number := 200) (h := a) (h' := b) (by omega) (by omega)
  rw [hd] at h1 h2 h3 h4 hm
  rw [field_enough.2.2] at h1 h3 h4
  have hi : i = 754 := by
    rcases Nat.lt_trichotomy i 754 with hlt | he | hgt
    · have := hm i 753 (by omega) (by omega) (h3 (by omega))
      rw [field_enough.1] at this; cases this
    · exact he
    · have := hm 754 ((i - 1 : Nat) : Int) (by omega) (by omega) field_enough.2.1
      rw [h2 (by omega)] at this; cases this
  subst hi
  exact ⟨h4, h5⟩
end Go.Proofs.Ytlkdmcdnkoiflaa

/- awake. -/
namespace Go.Proofs.Ytlkdmcdnkoiflaa
open Go.RowKit Go.Lib

theorem valid_field {q : PlM} (h : q.d = fieldD) : q.fault = 0 ∧ q.years = ((2 : Nat) : Int) ∧ askedL q 200 [((0 : Nat) : Int), ((1 : Nat) : Int)] = 0 := by
  have hf : q.fault = 0 := by rw [fault_d, h]; exact field_fault
  have hy : q.years = 2 := congrArg PD.years h
  have hn : q.s.l.length = 2 := congrArg (fun d : PD => d.s.length) h
  refine ⟨hf, hy, ?_⟩
  unfold askedL
  rw [hf, hn]
  rfl
set_option maxRecDepth 100000 in
set_option maxHeartbeats 1000000 in
theorem awake_any (w : World) : Calls Try.prog 19 #[] w fun e w' => e = .returned (.bool true) ∧ Below w.heap.size w w' := by
  go_enter Try.func19, Try.ntmps19
  go_wp2_with (go_at_call 48; refine (field_any _).mono ?_; rintro e w1 ⟨q1, rfl, hd1, hq1, hb1⟩)
  obtain ⟨f1, y1, _⟩ := valid_field hd1
  have hC := Count_ok q1 2 w1 hq1 f1 y1
  rw [hd1] at hC
  have HC := Lib.hid hC
  clear hC f1 y1 hd1 hq1
  go_wp2_with (go_at_call 28; refine HC.out.mono ?_; rintro e w2 ⟨A, c, bs, rfl, hs2, hl2, ha2, hb2⟩)
  rw [field_bnds] at hl2
  obtain ⟨x0, x1, rfl⟩ : ∃ x0 x1 : BdM, bs = [x0, x1] := by
    have h := congrArg List.length hl2
    simp only [List.length_map, List.length_cons, List.length_nil] at h
    match bs, h with
    | [x0, x1], _ => exact ⟨x0, x1, rfl⟩
  simp only [List.map_cons, List.map_nil, List.cons.injEq, and_true] at hl2
  have hx1 := hl2.2
  have hx := ha2 x1 (by simp)
  clear hl2 ha2
  obtain ⟨⟨Aa, la, ca⟩, ⟨Ab, lb, cb⟩, ⟨Ac, lc, cc⟩, ⟨Ad, ld, cd⟩⟩ := x1
  simp only [BdM.lists, Prod.mk.injEq] at hx1
  obtain ⟨rfl, rfl, rfl, rfl⟩ := hx1
  obtain ⟨b, off, rfl, hbb, hcell⟩ := hs2.at_ (i := 1) (x := ⟨⟨Aa, [(360, 1090), (207, 558)], ca⟩, ⟨Ab, [(0, 0), (107, 200)], cb⟩, ⟨Ac, [(18, 109), (5, 35)], cc⟩, ⟨Ad, [(324, 1036), (90, 341)], cd⟩⟩) rfl
  have d0 : w2.cell? ⟨b, off + 4, none⟩ = some (.slice Aa 2 ca) := hcell 0 _ rfl
  have d1 : w2.cell? ⟨b, off + 4 + 1, none⟩ = some (.slice Ab 2 cb) := hcell 1 _ rfl
  have d2 : w2.cell? ⟨b, off + 4 + 2, none⟩ = some (.slice Ac 2 cc) := hcell 2 _ rfl
  have d3 : w2.cell? ⟨b, off + 4 + 3, none⟩ = some (.slice Ad 2 cd) := hcell 3 _ rfl
  have D0 := Lib.hid d0
  have D1 := Lib.hid d1
  have D2 := Lib.hid d2
  have D3 := Lib.hid d3
  have HX := Lib.hid hx
  clear d0 d1 d2 d3 hx hcell hs2 HC
  go_wp2_with (go_at_call 48; refine (field_any _).mono ?_; rintro e w3 ⟨q3, rfl, hd3, hq3, hb3⟩)
  obtain ⟨f3, y3, a3⟩ := valid_field hd3
  have hL : Calls Try.prog 34 #[.agg q3.cells.toArray, .int .i64 0, .int .i64 1, .int .i64 200] w3 fun e w' => e = .returned (.tuple #[.int .i64 754, .int .i64 0]) ∧ Below w3.heap.size w3 w' :=
    (Least_ok q3 2 0 1 200 w3 hq3 y3 a3).mono fun e w' h => field_least hd3 h
  have HL := Lib.hid hL
  clear hL f3 y3 a3 hd3 hq3
  go_wp2_with (first
    | (go_at_call 34; refine HL.out.mono ?_; rintro e w4 ⟨rfl, hb4⟩; have h34 := hb3.trans (hb4.mono hb3.size); have d0 := (h34.cell (p := ⟨b, off + 4, none⟩) hbb).trans D0.out; have d1 := (h34.cell (p := ⟨b, off + 4 + 1, none⟩) hbb).trans D1.out; have d2 := (h34.cell (p := ⟨b, off + 4 + 2, none⟩) hbb).trans D2.out; have d3 := (h34.cell (p := ⟨b, off + 4 + 3, none⟩) hbb).trans D3.out; have HX4 := Lib.hid (HX.out.below h34 h34.size))
    | (go_at_call 50; (first
        | (with_reducible refine (ranged_any Aa ca 360 1090 207 558 _ HX4.out.a).mono ?_)
        | (with_reducible refine (ranged_any Ab cb 0 0 107 200 _ HX4.out.b).mono ?_)
        | (with_reducible refine (ranged_any Ac cc 18 109 5 35 _ HX4.out.c).mono ?_)
        | (with_reducible refine (ranged_any Ad cd 324 1036 90 341 _ HX4.out.d).mono ?_)); rintro e w' ⟨rfl, rfl⟩))
  go_ret
  have h2 := hb1.trans (hb2.mono hb1.size)
  exact ⟨rfl, h2.trans (h34.mono h2.size)⟩
end Go.Proofs.Ytlkdmcdnkoiflaa

/- A plan's error, size by size. -/
namespace Go.Proofs.Ytlkdmcdnkoiflaa
open Go.RowKit Go.Lib

/-- What is asked of a plan as a whole. -/
structure Pre (p : PlM) : Prop where
  one : 1 ≤ p.s.l.length
  five : p.s.l.length ≤ 5
  r : p.r.l.length = p.s.l.length
  g : p.g.l.length = p.s.l.length
  e : p.e.l.length = p.s.l.length
  k : p.k.l.length = p.s.l.length
  l : spanB (p.lo, p.hi) 1000 = true
  y : inB p.years 0 6 = true
/-- What is asked of the lists at an index. -/
structure RowsAt (p : PlM) (r : Int) (q : Int × Int) (e k : Int) (x : Sv (Int × Int)) : Prop where
  rr : inB r 0 1000000 = true
  qq : spanB q r = true
  ee : inB e 0 1000000 = true
  kk : inB k 0 1000000 = true
  nn : x.l.length = p.s.l.length
  xx : ∀ (t : Nat) (y : Int × Int), x.l[t]? = some y → spanB y 5000 = true
theorem pre_of_valid {p : PlM} (h : p.validB = true) (h5 : p.s.l.length ≤ 5) : Pre p := by
  have hv := valid_of h h5
  exact ⟨hv.ok.one, h5, hv.ok.r, hv.g, hv.ok.e, hv.ok.k, spanB_iff.2 hv.l, inB_iff.2 hv.y⟩
theorem rows_of_valid {p : PlM} (h : p.validB = true) (h5 : p.s.l.length ≤ 5) {s : Nat} {r : Int} {q : Int × Int} {e k : Int} {x : Sv (Int × Int)} (hr : p.r.l[s]? = some r) (hq : p.s.l[s]? = some q) (he : p.e.l[s]? = some e) (hk : p.k.l[s]? = some k) (hx : p.g.l[s]? = some x) : RowsAt p r q e k x := by
  have hv := valid_of h h5
  have h1 := hv.ok.rb r (List.mem_of_getElem? hr)
  have h2 := hv.sb q (List.mem_of_getElem? hq)
  have h3 : q.2 ≤ r := by
    cases hp : decide (q.2 ≤ r) with
    | true => simpa using hp
    | false =>
      have := paired_hit (p := fun (r : Int × Int) (m : Int) => decide (r.2 ≤ m)) hq hr hp
      rw [hv.pr] at this; cases this
  refine ⟨inB_iff.2 h1, spanB_iff.2 ⟨h2.1, h2.2.1, h3⟩, inB_iff.2 (hv.ok.eb e (List.mem_of_getElem? he)), inB_iff.2 (hv.ok.kb k (List.mem_of_getElem? hk)), hv.gl x (List.mem_of_getElem? hx), fun t y hy => spanB_iff.2 (hv.gb x (List.mem_of_getElem? hx) y (List.mem_of_getElem? hy))⟩
theorem valid_of_rows {p : PlM} (hp : Pre p) (h : ∀ (s : Nat) (r : Int) (q : Int × Int) (e k : Int) (x : Sv (Int × Int)), p.r.l[s]? = some r → p.s.l[s]? = some q → p.e.l[s]? = some e → p.k.l[s]? = some k → p.g.l[s]? = some x → RowsAt p r q e k x) : p.validB = true := by
  have all : ∀ s, s < p.s.l.length → ∃ r q e k x, p.r.l[s]? = some r ∧ p.s.l[s]? = some q ∧ p.e.l[s]? = some e ∧ p.k.l[s]? = some k ∧ p.g.l[s]? = some x ∧ RowsAt p r q e k x := fun s hs => by
    have h1 : s < p.r.l.length := by rw [hp.r]; exact hs
    have h2 : s < p.e.l.length := by rw [hp.e]; exact hs
    have h3 : s < p.k.l.length := by rw [hp.k]; exact hs
    have h4 : s < p.g.l.length := by rw [hp.g]; exact hs
    exact ⟨p.r.l[s], p.s.l[s], p.e.l[s], p.k.l[s], p.g.l[s], by simp [h1], by simp [hs], by simp [h2], by simp [h3], by simp [h4], h s _ _ _ _ _ (by simp [h1]) (by simp [hs]) (by simp [h2]) (by simp [h3]) (by simp [h4])⟩
  have m : ∀ {α : Type} {l : List α} {y : α}, l.length = p.s.l.length → y ∈ l → ∃ s, s < p.s.l.length ∧ l[s]? = some y := fun {α l y} hl hy => by
    obtain ⟨s, hs, e⟩ := List.getElem_of_mem hy
    exact ⟨s, by omega, by rw [List.getElem?_eq_getElem hs, e]⟩
  simp only [PlM.validB, PlM.b, Bool.and_eq_true, decide_eq_true_eq, List.all_eq_true]
  refine ⟨⟨⟨⟨⟨⟨⟨⟨by have := hp.one; omega, trivial, fun q hq => ?_⟩, by rw [hp.r], fun r hr => ?_⟩, ?_⟩, by rw [hp.g], fun x hx => ?_⟩, by rw [hp.e], fun e he => ?_⟩, by rw [hp.k], fun k hk => ?_⟩, hp.l⟩, hp.y⟩
  · obtain ⟨s, hs, e⟩ := m (l := p.s.l) rfl hq
    obtain ⟨r, q', _, _, _, _, h2, _, _, _, hR⟩ := all s hs
    rw [e] at h2; cases h2
    have h3 := spanB_iff.1 hR.qq
    have h4 := inB_iff.1 hR.rr
    exact spanB_iff.2 ⟨h3.1, h3.2.1, by omega⟩
  · obtain ⟨s, hs, e⟩ := m hp.r hr
    obtain ⟨r', _, _, _, _, h1, _, _, _, _, hR⟩ := all s hs
    rw [e] at h1; cases h1
    exact hR.rr
  · refine paired_miss hp.r.symm fun j x y hj hx hy => ?_
    obtain ⟨r', q', _, _, _, h1, h2, _, _, _, hR⟩ := all j hj
    rw [hx] at h2; cases h2
    rw [hy] at h1; cases h1
    simpa using (spanB_iff.1 hR.qq).2.2
  · obtain ⟨s, hs, e⟩ := m hp.g hx
    obtain ⟨_, _, _, _, x', _, _, _, _, h5, hR⟩ := all s hs
    rw [e] at h5; cases h5
    simp only [rowB, Bool.and_eq_true, decide_eq_true_eq, List.all_eq_true]
    refine ⟨by rw [hR.nn], fun y hy => ?_⟩
    obtain ⟨t, ht, e'⟩ := List.getElem_of_mem hy
    exact hR.xx t y (by rw [List.getElem?_eq_getElem ht, e'])
  · obtain ⟨s, hs, e'⟩ := m hp.e he
    obtain ⟨_, _, e2, _, _, _, _, h3, _, _, hR⟩ := all s hs
    rw [e'] at h3; cases h3
    exact hR.ee
  · obtain ⟨s, hs, e'⟩ := m hp.k hk
    obtain ⟨_, _, _, k2, _, _, _, _, h4, _, hR⟩ := all s hs
    rw [e'] at h4; cases h4
    exact hR.kk
theorem fault_one {p : PlM} (h5 : p.s.l.length ≤ 5) (h : p.validB = true → False) : p.fault = 1 := by
  unfold PlM.fault
  rw [if_neg (by omega)]
  cases hv : p.validB with
  | true => exact (h hv).elim
  | false => rfl
theorem fault_ok {p : PlM} (h5 : p.s.l.length ≤ 5) (h : p.validB = true) : p.fault = 0 := by
  unfold PlM.fault
  rw [if_neg (by omega), h]; rfl
end Go.Proofs.Ytlkdmcdnkoiflaa

/- Fault: the error of a plan, by its words. -/
namespace Go.Proofs.Ytlkdmcdnkoiflaa
open Go.RowKit Go.Lib

theorem In_below (n lo hi : Int) (w : World) : Calls Try.prog 37 #[.int .i64 n, .int .i64 lo, .int .i64 hi] w fun e w' => e = .returned (.bool (inB n lo hi)) ∧ Below w.heap.size w w' := (In_any n lo hi w).mono fun _ _ ⟨he, hw⟩ => ⟨he, hw ▸ Below.refl _ _⟩
set_option maxRecDepth 100000 in
set_option maxHeartbeats 400000 in
theorem Fault_many (p : PlM) (w : World) (h : 5 < p.s.l.length) : Calls Try.prog 24 #[.agg p.cells.toArray] w fun e w' => e = .returned (.int .i64 3) ∧ Below w.heap.size w w' := by
  have h' : (5 : Int) < (p.s.l.length : Int) := by omega
  unfold PlM.cells
  go_enter Try.func24, Try.ntmps24
  go_wp2
  go_ret
  exact ⟨rfl, (by repeat (first | (with_reducible assumption) | (with_reducible exact Below.refl _ _) | (with_reducible refine Below.drew ?_) | (with_reducible refine below_drewN ?_ _) | ((with_reducible refine Below.setCell ?_ ?_ _); rotate_left; focus (first | (simp; done) | (simp; omega) | omega)) | ((with_reducible refine Below.alloc ?_ ?_ _); rotate_left; focus (first | (simp; done) | (simp; omega) | omega))))⟩
set_option maxRecDepth 100000 in
set_option maxHeartbeats 400000 in
theorem Fault_no0 (p : PlM) (w : World) (h5 : p.s.l.length ≤ 5)  (hf : p.s.l.length < 1) : Calls Try.prog 24 #[.agg p.cells.toArray] w fun e w' => e = .returned (.int .i64 1) ∧ Below w.heap.size w w' := by
  have h5' : ¬ (5 : Int) < (p.s.l.length : Int) := by omega
  have hf' : (p.s.l.length : Int) < 1 := by omega
  clear hf
  unfold PlM.cells
  go_enter Try.func24, Try.ntmps24
  go_wp2
  go_ret
  exact ⟨rfl, (by repeat (first | (with_reducible assumption) | (with_reducible exact Below.refl _ _) | (with_reducible refine Below.drew ?_) | (with_reducible refine below_drewN ?_ _) | ((with_reducible refine Below.setCell ?_ ?_ _); rotate_left; focus (first | (simp; done) | (simp; omega) | omega)) | ((with_reducible refine Below.alloc ?_ ?_ _); rotate_left; focus (first | (simp; done) | (simp; omega) | omega))))⟩
set_option maxRecDepth 100000 in
set_option maxHeartbeats 400000 in
theorem Fault_no1 (p : PlM) (w : World) (h5 : p.s.l.length ≤ 5) (hone : 1 ≤ p.s.l.length) (hf : p.r.l.length ≠ p.s.l.length) : Calls Try.prog 24 #[.agg p.cells.toArray] w fun e w' => e = .returned (.int .i64 1) ∧ Below w.heap.size w w' := by
  have h5' : ¬ (5 : Int) < (p.s.l.length : Int) := by omega
  have h1' : ¬ (p.s.l.length : Int) < 1 := by omega
  have hf' : ((p.r.l.length : Int) != (p.s.l.length : Int)) = true := by rw [bne_iff_ne]; omega
  clear hf
  unfold PlM.cells
  go_enter Try.func24, Try.ntmps24
  go_wp2
  go_ret
  exact ⟨rfl, (by repeat (first | (with_reducible assumption) | (with_reducible exact Below.refl _ _) | (with_reducible refine Below.drew ?_) | (with_reducible refine below_drewN ?_ _) | ((with_reducible refine Below.setCell ?_ ?_ _); rotate_left; focus (first | (simp; done) | (simp; omega) | omega)) | ((with_reducible refine Below.alloc ?_ ?_ _); rotate_left; focus (first | (simp; done) | (simp; omega) | omega))))⟩
set_option maxRecDepth 100000 in
set_option maxHeartbeats 400000 in
theorem Fault_no2 (p : PlM) (w : World) (h5 : p.s.l.length ≤ 5) (hone : 1 ≤ p.s.l.length) (hr : p.r.l.length = p.s.l.length) (hf : p.g.l.length ≠ p.s.l.length) : Calls Try.prog 24 #[.agg p.cells.toArray] w fun e w' => e = .returned (.int .i64 1) ∧ Below w.heap.size w w' := by
  have h5' : ¬ (5 : Int) < (p.s.l.length : Int) := by omega
  have h1' : ¬ (p.s.l.length : Int) < 1 := by omega
  have hf' : ((p.g.l.length : Int) != (p.s.l.length : Int)) = true := by rw [bne_iff_ne]; omega
  clear hf
  unfold PlM.cells
  rw [hr]
  clear hr
  go_enter Try.func24, Try.ntmps24
  go_wp2
  go_ret
  exact ⟨rfl, (by repeat (first | (with_reducible assumption) | (with_reducible exact Below.refl _ _) | (with_reducible refine Below.drew ?_) | (with_reducible refine below_drewN ?_ _) | ((with_reducible refine Below.setCell ?_ ?_ _); rotate_left; focus (first | (simp; done) | (simp; omega) | omega)) | ((with_reducible refine Below.alloc ?_ ?_ _); rotate_left; focus (first | (simp; done) | (simp; omega) | omega))))⟩
set_option maxRecDepth 100000 in
set_option maxHeartbeats 400000 in
theorem Fault_no3 (p : PlM) (w : World) (h5 : p.s.l.length ≤ 5) (hone : 1 ≤ p.s.l.length) (hr : p.r.l.length = p.s.l.length) (hg : p.g.l.length = p.s.l.length) (hf : p.e.l.length ≠ p.s.l.length) : Calls Try.prog 24 #[.agg p.cells.toArray] w fun e w' => e = .returned (.int .i64 1) ∧ Below w.heap.size w w' := by
  have h5' : ¬ (5 : Int) < (p.s.l.length : Int) := by omega
  have h1' : ¬ (p.s.l.length : Int) < 1 := by omega
  have hf' : ((p.e.l.length : Int) != (p.s.l.length : Int)) = true := by rw [bne_iff_ne]; omega
  clear hf
  unfold PlM.cells
  rw [hr, hg]
  clear hr hg
  go_enter Try.func24, Try.ntmps24
  go_wp2
  go_ret
  exact ⟨rfl, (by repeat (first | (with_reducible assumption) | (with_reducible exact Below.refl _ _) | (with_reducible refine Below.drew ?_) | (with_reducible refine below_drewN ?_ _) | ((with_reducible refine Below.setCell ?_ ?_ _); rotate_left; focus (first | (simp; done) | (simp; omega) | omega)) | ((with_reducible refine Below.alloc ?_ ?_ _); rotate_left; focus (first | (simp; done) | (simp; omega) | omega))))⟩
set_option maxRecDepth 100000 in
set_option maxHeartbeats 400000 in
theorem Fault_no4 (p : PlM) (w : World) (h5 : p.s.l.length ≤ 5) (hone : 1 ≤ p.s.l.length) (hr : p.r.l.length = p.s.l.length) (hg : p.g.l.length = p.s.l.length) (he : p.e.l.length = p.s.l.length) (hf : p.k.l.length ≠ p.s.l.length) : Calls Try.prog 24 #[.agg p.cells.toArray] w fun e w' => e = .returned (.int .i64 1) ∧ Below w.heap.size w w' := by
  have h5' : ¬ (5 : Int) < (p.s.l.length : Int) := by omega
  have h1' : ¬ (p.s.l.length : Int) < 1 := by omega
  have hf' : ((p.k.l.length : Int) != (p.s.l.length : Int)) = true := by rw [bne_iff_ne]; omega
  clear hf
  unfold PlM.cells
  rw [hr, hg, he]
  clear hr hg he
  go_enter Try.func24, Try.ntmps24
  go_wp2
  go_ret
  exact ⟨rfl, (by repeat (first | (with_reducible assumption) | (with_reducible exact Below.refl _ _) | (with_reducible refine Below.drew ?_) | (with_reducible refine below_drewN ?_ _) | ((with_reducible refine Below.setCell ?_ ?_ _); rotate_left; focus (first | (simp; done) | (simp; omega) | omega)) | ((with_reducible refine Below.alloc ?_ ?_ _); rotate_left; focus (first | (simp; done) | (simp; omega) | omega))))⟩
set_option maxRecDepth 100000 in
set_option maxHeartbeats 400000 in
theorem Fault_no5 (p : PlM) (w : World) (h5 : p.s.l.length ≤ 5) (hone : 1 ≤ p.s.l.length) (hr : p.r.l.length = p.s.l.length) (hg : p.g.l.length = p.s.l.length) (he : p.e.l.length = p.s.l.length) (hk : p.k.l.length = p.s.l.length) (hf : spanB (p.lo, p.hi) 1000 = false) : Calls Try.prog 24 #[.agg p.cells.toArray] w fun e w' => e = .returned (.int .i64 1) ∧ Below w.heap.size w w' := by
  have h5' : ¬ (5 : Int) < (p.s.l.length : Int) := by omega
  have h1' : ¬ (p.s.l.length : Int) < 1 := by omega
  have hS := fun W => span_any p.lo p.hi 1000 W
  rw [hf] at hS
  have HS := Lib.hid hS
  clear hS
  clear hf
  unfold PlM.cells
  rw [hr, hg, he, hk]
  clear hr hg he hk
  go_enter Try.func24, Try.ntmps24
  go_wp2_with (first | (go_at_call 64; refine (HS.out _).mono ?_; rintro e w1 ⟨rfl, hb1⟩))
  go_ret
  exact ⟨rfl, ((Below.refl w.heap.size w).alloc (Nat.le_refl _) _).trans (hb1.mono ((Below.refl w.heap.size w).alloc (Nat.le_refl _) _).size)⟩
set_option maxRecDepth 100000 in
set_option maxHeartbeats 400000 in
theorem Fault_no6 (p : PlM) (w : World) (h5 : p.s.l.length ≤ 5) (hone : 1 ≤ p.s.l.length) (hr : p.r.l.length = p.s.l.length) (hg : p.g.l.length = p.s.l.length) (he : p.e.l.length = p.s.l.length) (hk : p.k.l.length = p.s.l.length) (hl : spanB (p.lo, p.hi) 1000 = true) (hf : inB p.years 0 6 = false) : Calls Try.prog 24 #[.agg p.cells.toArray] w fun e w' => e = .returned (.int .i64 1) ∧ Below w.heap.size w w' := by
  have h5' : ¬ (5 : Int) < (p.s.l.length : Int) := by omega
  have h1' : ¬ (p.s.l.length : Int) < 1 := by omega
  have hS := fun W => span_any p.lo p.hi 1000 W
  rw [hl] at hS
  have HS := Lib.hid hS
  clear hS
  have hI := fun W => In_below p.years 0 6 W
  rw [hf] at hI
  have HI := Lib.hid hI
  clear hI hl
  clear hf
  have l0 : Lies (w.alloc (.cells p.cells.toArray 28)) w.heap.size 28 p.cells.toArray := Lies.fresh _ _ _
  unfold PlM.cells at l0 ⊢
  rw [hr, hg, he, hk] at l0 ⊢
  clear hr hg he hk
  have L0 := Lib.hid l0
  clear l0
  go_enter Try.func24, Try.ntmps24
  go_wp2_with (first | (go_at_call 64; refine (HS.out _).mono ?_; rintro e w1 ⟨rfl, hb1⟩; have c7 : w1.cell? ⟨w.heap.size, 7, none⟩ = some (.int .i64 p.years) := (L0.out.call hb1).at_ 7) | (go_at_call 37; refine (HI.out _).mono ?_; rintro e w2 ⟨rfl, hb2⟩))
  go_ret
  have hx := ((Below.refl w.heap.size w).alloc (Nat.le_refl _) _).trans (hb1.mono ((Below.refl w.heap.size w).alloc (Nat.le_refl _) _).size)
  exact ⟨rfl, hx.trans (hb2.mono hx.size)⟩
end Go.Proofs.Ytlkdmcdnkoiflaa

/- Fault, where the plan as a whole is well: size by size. -/
namespace Go.Proofs.Ytlkdmcdnkoiflaa
open Go.RowKit Go.Lib

set_option maxRecDepth 100000 in
set_option maxHeartbeats 4000000 in
theorem Fault_pre (p : PlM) (w : World) (hp : p.At w w.heap.size) (hpre : Pre p) : Calls Try.prog 24 #[.agg p.cells.toArray] w fun e w' => e = .returned (.int .i64 p.fault) ∧ Below w.heap.size w w' := by
  have h5' : ¬ (5 : Int) < (p.s.l.length : Int) := by have := hpre.five; omega
  have h1' : ¬ (p.s.l.length : Int) < 1 := by have := hpre.one; omega
  have hn5 := hpre.five
  have hS := fun W => span_any p.lo p.hi 1000 W
  rw [hpre.l] at hS
  have hI := fun W => In_below p.years 0 6 W
  rw [hpre.y] at hI
  have l0 : Lies (w.alloc (.cells p.cells.toArray 28)) w.heap.size 28 p.cells.toArray := Lies.fresh _ _ _
  unfold PlM.cells at l0 ⊢
  rw [hpre.r, hpre.g, hpre.e, hpre.k] at l0 ⊢
  have L0 := Lib.hid l0
  have HS0 := Lib.hid hS
  have HI0 := Lib.hid hI
  have HP := Lib.hid hp
  have HPRE0 := Lib.hid hpre
  clear l0 hS hI hp hpre
  go_enter Try.func24, Try.ntmps24
  go_wp2_with (first | (go_at_call 64; refine (HS0.out _).mono ?_; rintro e w1 ⟨rfl, hb1⟩; have c7 : w1.cell? ⟨w.heap.size, 7, none⟩ = some (.int .i64 p.years) := (L0.out.call hb1).at_ 7) | (go_at_call 37; refine (HI0.out _).mono ?_; rintro e w2 ⟨rfl, hb2⟩))
  have b1 : Below w.heap.size w w1 := ((Below.refl _ _).alloc (Nat.le_refl _) _).trans (hb1.mono (by simp))
  have b2 := b1.trans (hb2.mono b1.size)
  have l2 := (L0.out.call hb1).call hb2
  have B2 := Lib.hid b2
  have L2 := Lib.hid l2
  clear b1 b2 l2 hb1 hb2 c7 HS0 HI0 L0
  go_loopw [4, 5] (fun s4 _ wr => ∃ k : Nat, k ≤ p.s.l.length ∧ s4 = .int .i64 k ∧ Aside (∀ (s : Nat) (r : Int) (q : Int × Int) (e k2 : Int) (x : Sv (Int × Int)), s < k → p.r.l[s]? = some r → p.s.l[s]? = some q → p.e.l[s]? = some e → p.k.l[s]? = some k2 → p.g.l[s]? = some x → RowsAt p r q e k2 x) ∧ Aside (Lies wr w.heap.size 28 #[.slice p.s.A p.s.l.length p.s.c, .slice p.r.A p.s.l.length p.r.c, .slice p.g.A p.s.l.length p.g.c, .slice p.e.A p.s.l.length p.e.c, .slice p.k.A p.s.l.length p.k.c, .int .i64 p.lo, .int .i64 p.hi, .int .i64 p.years]) ∧ Aside (Below w.heap.size w wr)) (fun s4 _ _ => p.s.l.length - (intOf s4).toNat)
  case atStart => exact ⟨0, Nat.zero_le _, rfl, fun s r q e k2 x h => absurd h (by omega), L2.out, B2.out⟩
  case round =>
    obtain ⟨k, hk, rfl, HALL, HL, HB⟩ := hrel
    by_cases hlt : k < p.s.l.length
    · have hltz : (k : Int) < (p.s.l.length : Int) := by omega
      have hk0 : (0 : Int) ≤ (k : Int) := by omega
      have hpre := HPRE0.out
      obtain ⟨r, h1⟩ : ∃ r, p.r.l[k]? = some r := ⟨p.r.l[k]'(by rw [hpre.r]; exact hlt), by simp⟩
      obtain ⟨q, h2⟩ : ∃ q, p.s.l[k]? = some q := ⟨p.s.l[k], by simp [hlt]⟩
      obtain ⟨e, h3⟩ : ∃ e, p.e.l[k]? = some e := ⟨p.e.l[k]'(by rw [hpre.e]; exact hlt), by simp⟩
      obtain ⟨k', h4⟩ : ∃ k', p.k.l[k]? = some k' := ⟨p.k.l[k]'(by rw [hpre.k]; exact hlt), by simp⟩
      obtain ⟨x, h5⟩ : ∃ x, p.g.l[k]? = some x := ⟨p.g.l[k]'(by rw [hpre.g]; exact hlt), by simp⟩
      obtain ⟨br, orr, er, hbr, cr⟩ := HP.out.r.cell1 h1
      obtain ⟨bs, os, es, hbs, cs0, cs1⟩ := HP.out.s.cellR h2
      obtain ⟨be, oe, ee, hbe, ce⟩ := HP.out.e.cell1 h3
      obtain ⟨bk, ok, ek, hbk, ck⟩ := HP.out.k.cell1 h4
      obtain ⟨bg, og, eg, hbg, cg⟩ := HP.out.g.cell1 h5
      have r0 := cell_regrown (show wr.cell? ⟨w.heap.size, 0, none⟩ = some (.slice (some ⟨bs, os, none⟩) p.s.l.length p.s.c) by rw [← es]; exact HL.out.at_ 0)
      have r1 := cell_regrown (show wr.cell? ⟨w.heap.size, 1, none⟩ = some (.slice (some ⟨br, orr, none⟩) p.s.l.length p.r.c) by rw [← er]; exact HL.out.at_ 1)
      have r2 := cell_regrown (show wr.cell? ⟨w.heap.size, 2, none⟩ = some (.slice (some ⟨bg, og, none⟩) p.s.l.length p.g.c) by rw [← eg]; exact HL.out.at_ 2)
      have r3 := cell_regrown (show wr.cell? ⟨w.heap.size, 3, none⟩ = some (.slice (some ⟨be, oe, none⟩) p.s.l.length p.e.c) by rw [← ee]; exact HL.out.at_ 3)
      have r4 := cell_regrown (show wr.cell? ⟨w.heap.size, 4, none⟩ = some (.slice (some ⟨bk, ok, none⟩) p.s.l.length p.k.c) by rw [← ek]; exact HL.out.at_ 4)
      have r5 := cell_regrown (show wr.cell? ⟨br, orr + k, none⟩ = some (.int .i64 r) by rw [HB.out.cell (p := ⟨br, orr + k, none⟩) hbr]; exact cr)
      have r6 := cell_regrown (show wr.cell? ⟨bs, os + k * 2, none⟩ = some (.int .i64 q.1) by rw [HB.out.cell (p := ⟨bs, os + k * 2, none⟩) hbs]; exact cs0)
      have r7 := cell_regrown (show wr.cell? ⟨bs, os + k * 2 + 1, none⟩ = some (.int .i64 q.2) by rw [HB.out.cell (p := ⟨bs, os + k * 2 + 1, none⟩) hbs]; exact cs1)
      have r8 := cell_regrown (show wr.cell? ⟨be, oe + k, none⟩ = some (.int .i64 e) by rw [HB.out.cell (p := ⟨be, oe + k, none⟩) hbe]; exact ce)
      have r9 := cell_regrown (show wr.cell? ⟨bk, ok + k, none⟩ = some (.int .i64 k') by rw [HB.out.cell (p := ⟨bk, ok + k, none⟩) hbk]; exact ck)
      have r12 := cell_regrown (show wr.cell? ⟨bg, og + k, none⟩ = some (.slice x.A x.l.length x.c) by rw [HB.out.cell (p := ⟨bg, og + k, none⟩) hbg]; exact cg)
      have r10 : True := trivial
      have r11 : True := trivial
      have EG := Lib.hid eg
      have CG := Lib.hid cg
      have hi1 := fun W => In_below r 0 1000000 W
      have hs2 := fun W => span_any q.1 q.2 r W
      have hi3 := fun W => In_below e 0 1000000 W
      have hi4 := fun W => In_below k' 0 1000000 W
      change ∀ W, Calls Try.prog 64 #[.agg #[.int .i64 q.1, .int .i64 q.2], .int .i64 r] W fun e w' => e = .returned (.bool (spanB q r)) ∧ Below W.heap.size W w' at hs2
      clear cr cs0 cs1 ce ck cg er es ee ek eg
      cases hb0 : inB r 0 1000000 with
      | false =>
        rw [hb0] at hi1
        have HI1 := Lib.hid hi1
        have HS2 := Lib.hid hs2
        have HI3 := Lib.hid hi3
        have HI4 := Lib.hid hi4
        have hfault : p.fault = 1 := fault_one hpre.five fun hv => by have h9 := (rows_of_valid hv hpre.five h1 h2 h3 h4 h5).rr; rw [hb0] at h9; cases h9
        have HFT := Lib.hid hfault
        clear hfault hi1 hs2 hi3 hi4 h1 h2 h3 h4 h5 hpre HALL hb0
        go_wp2
        refine wp_region_quiet_below (by kernel_rfl) (by kernel_rfl) ?_
        repeat (first | go_big_quiet_step (((first | (go_at_call 37; (first | (with_reducible exact Calls.regrown_of (HI1.out _)) | (with_reducible exact Calls.regrown_of (HI3.out _)) | (with_reducible exact Calls.regrown_of (HI4.out _)))) | (go_at_call 64; (with_reducible exact Calls.regrown_of (HS2.out _)))))) | quiet_step (((first | (go_at_call 37; (first | (with_reducible exact Calls.regrown_of (HI1.out _)) | (with_reducible exact Calls.regrown_of (HI3.out _)) | (with_reducible exact Calls.regrown_of (HI4.out _)))) | (go_at_call 64; (with_reducible exact Calls.regrown_of (HS2.out _)))))))
        refine wpQuiet_nil ?_
        intro wq hwq
        have hbq : Below wr.heap.size wr wq := (by obtain ⟨p, rfl⟩ := hwq; exact below_regrown _ _ _)
        clear hwq
        go_wp2
        go_ret
        exact ⟨ret_int HFT.out.symm, HB.out.trans (hbq.mono HB.out.size)⟩
      | true =>
      cases hb1 : spanB q r with
      | false =>
        rw [hb0] at hi1
        rw [hb1] at hs2
        have HI1 := Lib.hid hi1
        have HS2 := Lib.hid hs2
        have HI3 := Lib.hid hi3
        have HI4 := Lib.hid hi4
        have hfault : p.fault = 1 := fault_one hpre.five fun hv => by have h9 := (rows_of_valid hv hpre.five h1 h2 h3 h4 h5).qq; rw [hb1] at h9; cases h9
        have HFT := Lib.hid hfault
        clear hfault hi1 hs2 hi3 hi4 h1 h2 h3 h4 h5 hpre HALL hb0 hb1
        go_wp2
        refine wp_region_quiet_below (by kernel_rfl) (by kernel_rfl) ?_
        repeat (first | go_big_quiet_step (((first | (go_at_call 37; (first | (with_reducible exact Calls.regrown_of (HI1.out _)) | (with_reducible exact Calls.regrown_of (HI3.out _)) | (with_reducible exact Calls.regrown_of (HI4.out _)))) | (go_at_call 64; (with_reducible exact Calls.regrown_of (HS2.out _)))))) | quiet_step (((first | (go_at_call 37; (first | (with_reducible exact Calls.regrown_of (HI1.out _)) | (with_reducible exact Calls.regrown_of (HI3.out _)) | (with_reducible exact Calls.regrown_of (HI4.out _)))) | (go_at_call 64; (with_reducible exact Calls.regrown_of (HS2.out _)))))))
        refine wpQuiet_nil ?_
        intro wq hwq
        have hbq : Below wr.heap.size wr wq := (by obtain ⟨p, rfl⟩ := hwq; exact below_regrown _ _ _)
        clear hwq
        go_wp2
        go_ret
        exact ⟨ret_int HFT.out.symm, HB.out.trans (hbq.mono HB.out.size)⟩
      | true =>
      cases hb2 : inB e 0 1000000 with
      | false =>
        rw [hb0] at hi1
        rw [hb1] at hs2
        rw [hb2] at hi3
        have HI1 := Lib.hid hi1
        have HS2 := Lib.hid hs2
        have HI3 := Lib.hid hi3
        have HI4 := Lib.hid hi4
        have hfault : p.fault = 1 := fault_one hpre.five fun hv => by have h9 := (rows_of_valid hv hpre.five h1 h2 h3 h4 h5).ee; rw [hb2] at h9; cases h9
        have HFT := Lib.hid hfault
        clear hfault hi1 hs2 hi3 hi4 h1 h2 h3 h4 h5 hpre HALL hb0 hb1 hb2
        go_wp2
        refine wp_region_quiet_below (by kernel_rfl) (by kernel_rfl) ?_
        repeat (first | go_big_quiet_step (((first | (go_at_call 37; (first | (with_reducible exact Calls.regrown_of (HI1.out _)) | (with_reducible exact Calls.regrown_of (HI3.out _)) | (with_reducible exact Calls.regrown_of (HI4.out _)))) | (go_at_call 64; (with_reducible exact Calls.regrown_of (HS2.out _)))))) | quiet_step (((first | (go_at_call 37; (first | (with_reducible exact Calls.regrown_of (HI1.out _)) | (with_reducible exact Calls.regrown_of (HI3.out _)) | (with_reducible exact Calls.regrown_of (HI4.out _)))) | (go_at_call 64; (with_reducible exact Calls.regrown_of (HS2.out _)))))))
        refine wpQuiet_nil ?_
        intro wq hwq
        have hbq : Below wr.heap.size wr wq := (by obtain ⟨p, rfl⟩ := hwq; exact below_regrown _ _ _)
        clear hwq
        go_wp2
        go_ret
        exact ⟨ret_int HFT.out.symm, HB.out.trans (hbq.mono HB.out.size)⟩
      | true =>
      cases hb3 : inB k' 0 1000000 with
      | false =>
        rw [hb0] at hi1
        rw [hb1] at hs2
        rw [hb2] at hi3
        rw [hb3] at hi4
        have HI1 := Lib.hid hi1
        have HS2 := Lib.hid hs2
        have HI3 := Lib.hid hi3
        have HI4 := Lib.hid hi4
        have hfault : p.fault = 1 := fault_one hpre.five fun hv => by have h9 := (rows_of_valid hv hpre.five h1 h2 h3 h4 h5).kk; rw [hb3] at h9; cases h9
        have HFT := Lib.hid hfault
        clear hfault hi1 hs2 hi3 hi4 h1 h2 h3 h4 h5 hpre HALL hb0 hb1 hb2 hb3
        go_wp2
        refine wp_region_quiet_below (by kernel_rfl) (by kernel_rfl) ?_
        repeat (first | go_big_quiet_step (((first | (go_at_call 37; (first | (with_reducible exact Calls.regrown_of (HI1.out _)) | (with_reducible exact Calls.regrown_of (HI3.out _)) | (with_reducible exact Calls.regrown_of (HI4.out _)))) | (go_at_call 64; (with_reducible exact Calls.regrown_of (HS2.out _)))))) | quiet_step (((first | (go_at_call 37; (first | (with_reducible exact Calls.regrown_of (HI1.out _)) | (with_reducible exact Calls.regrown_of (HI3.out _)) | (with_reducible exact Calls.regrown_of (HI4.out _)))) | (go_at_call 64; (with_reducible exact Calls.regrown_of (HS2.out _)))))))
        refine wpQuiet_nil ?_
        intro wq hwq
        have hbq : Below wr.heap.size wr wq := (by obtain ⟨p, rfl⟩ := hwq; exact below_regrown _ _ _)
        clear hwq
        go_wp2
        go_ret
        exact ⟨ret_int HFT.out.symm, HB.out.trans (hbq.mono HB.out.size)⟩
      | true =>
      by_cases hlen : x.l.length = p.s.l.length
      case neg =>
        rw [hb0] at hi1
        rw [hb1] at hs2
        rw [hb2] at hi3
        rw [hb3] at hi4
        have HI1 := Lib.hid hi1
        have HS2 := Lib.hid hs2
        have HI3 := Lib.hid hi3
        have HI4 := Lib.hid hi4
        have hfault : p.fault = 1 := fault_one hpre.five fun hv => hlen (rows_of_valid hv hpre.five h1 h2 h3 h4 h5).nn
        have hlz : ((x.l.length : Int) != (p.s.l.length : Int)) = true := by rw [bne_iff_ne]; omega
        have HFT := Lib.hid hfault
        clear hfault hi1 hs2 hi3 hi4 h1 h2 h3 h4 h5 hpre HALL hb0 hb1 hb2 hb3 hlen
        go_wp2
        refine wp_region_quiet_below (by kernel_rfl) (by kernel_rfl) ?_
        repeat (first | go_big_quiet_step (((first | (go_at_call 37; (first | (with_reducible exact Calls.regrown_of (HI1.out _)) | (with_reducible exact Calls.regrown_of (HI3.out _)) | (with_reducible exact Calls.regrown_of (HI4.out _)))) | (go_at_call 64; (with_reducible exact Calls.regrown_of (HS2.out _)))))) | quiet_step (((first | (go_at_call 37; (first | (with_reducible exact Calls.regrown_of (HI1.out _)) | (with_reducible exact Calls.regrown_of (HI3.out _)) | (with_reducible exact Calls.regrown_of (HI4.out _)))) | (go_at_call 64; (with_reducible exact Calls.regrown_of (HS2.out _)))))))
        refine wpQuiet_nil ?_
        intro wq hwq
        have hbq : Below wr.heap.size wr wq := (by obtain ⟨p, rfl⟩ := hwq; exact below_regrown _ _ _)
        clear hwq
        go_wp2
        go_ret
        exact ⟨ret_int HFT.out.symm, HB.out.trans (hbq.mono HB.out.size)⟩
      case pos =>
        rw [hb0] at hi1
        rw [hb1] at hs2
        rw [hb2] at hi3
        rw [hb3] at hi4
        have HI1 := Lib.hid hi1
        have HS2 := Lib.hid hs2
        have HI3 := Lib.hid hi3
        have HI4 := Lib.hid hi4
        have H0 := Lib.hid hb0
        have H1 := Lib.hid hb1
        have H2 := Lib.hid hb2
        have H3 := Lib.hid hb3
        have G1 := Lib.hid h1
        have G2 := Lib.hid h2
        have G3 := Lib.hid h3
        have G4 := Lib.hid h4
        have G5 := Lib.hid h5
        have HPRE := Lib.hid hpre
        have HLN := Lib.hid hlen
        rw [hlen] at r12
        clear hi1 hs2 hi3 hi4 hb0 hb1 hb2 hb3 h1 h2 h3 h4 h5 hpre hlen
        go_wp2
        refine wp_region_quiet_below (by kernel_rfl) (by kernel_rfl) ?_
        repeat (first | go_big_quiet_step (((first | (go_at_call 37; (first | (with_reducible exact Calls.regrown_of (HI1.out _)) | (with_reducible exact Calls.regrown_of (HI3.out _)) | (with_reducible exact Calls.regrown_of (HI4.out _)))) | (go_at_call 64; (with_reducible exact Calls.regrown_of (HS2.out _)))))) | quiet_step (((first | (go_at_call 37; (first | (with_reducible exact Calls.regrown_of (HI1.out _)) | (with_reducible exact Calls.regrown_of (HI3.out _)) | (with_reducible exact Calls.regrown_of (HI4.out _)))) | (go_at_call 64; (with_reducible exact Calls.regrown_of (HS2.out _)))))))
        refine wpQuiet_nil ?_
        intro wq hwq
        have hbq : Below wr.heap.size wr wq := (by obtain ⟨p, rfl⟩ := hwq; exact below_regrown _ _ _)
        clear hwq
        clear r0 r1 r2 r3 r4 r5 r6 r7 r8 r9 r10 r11 r12
        have hLq := HL.out.call hbq
        have hBq := HB.out.trans (hbq.mono HB.out.size)
        have HLq := Lib.hid hLq
        have HBq := Lib.hid hBq
        clear hLq hBq hbq
        go_wp2
        go_loopw [5] (fun s5 wz => ∃ t : Nat, t ≤ p.s.l.length ∧ s5 = .int .i64 t ∧ Aside (∀ (j : Nat) (y : Int × Int), j < t → x.l[j]? = some y → spanB y 5000 = true) ∧ Aside (Lies wz w.heap.size 28 #[.slice p.s.A p.s.l.length p.s.c, .slice p.r.A p.s.l.length p.r.c, .slice p.g.A p.s.l.length p.g.c, .slice p.e.A p.s.l.length p.e.c, .slice p.k.A p.s.l.length p.k.c, .int .i64 p.lo, .int .i64 p.hi, .int .i64 p.years]) ∧ Aside (Below w.heap.size w wz)) (fun s5 _ => p.s.l.length - (intOf s5).toNat)
        case atStart => exact ⟨0, Nat.zero_le _, rfl, fun j y h => absurd h (by omega), HLq.out, HBq.out⟩
        case round =>
          obtain ⟨t, ht, rfl, HT, HLz, HBz⟩ := hrel
          by_cases htl : t < p.s.l.length
          · have htz : (t : Int) < (p.s.l.length : Int) := by omega
            have ht0 : (0 : Int) ≤ (t : Int) := by omega
            obtain ⟨y, hy⟩ : ∃ y, x.l[t]? = some y := ⟨x.l[t]'(by rw [HLN.out]; exact htl), by simp⟩
            obtain ⟨by', oy, ey, hby, cy0, cy1⟩ := (HP.out.rows x (List.mem_of_getElem? G5.out)).cellR hy
            have d2 : wr.cell? ⟨w.heap.size, 2, none⟩ = some (.slice (some ⟨bg, og, none⟩) p.s.l.length p.g.c) := by rw [← EG.out]; exact HLz.out.at_ 2
            have d3 : wr.cell? ⟨bg, og + k, none⟩ = some (.slice (some ⟨by', oy, none⟩) p.s.l.length x.c) := by rw [HBz.out.cell (p := ⟨bg, og + k, none⟩) hbg, CG.out, ← ey, ← HLN.out]; rfl
            have d4 : wr.cell? ⟨by', oy + t * 2, none⟩ = some (.int .i64 y.1) := by rw [HBz.out.cell (p := ⟨by', oy + t * 2, none⟩) hby]; exact cy0
            have d5 : wr.cell? ⟨by', oy + t * 2 + 1, none⟩ = some (.int .i64 y.2) := by rw [HBz.out.cell (p := ⟨by', oy + t * 2 + 1, none⟩) hby]; exact cy1
            have hS := fun W => span_any y.1 y.2 5000 W
            have HY := Lib.hid hy
            cases hb : spanB (y.1, y.2) 5000 with
            | false =>
              rw [hb] at hS
              have hft : p.fault = 1 := fault_one HPRE.out.five fun hv => by
                have h9 := (rows_of_valid hv HPRE.out.five G1.out G2.out G3.out G4.out G5.out).xx t y hy
                rw [show spanB y 5000 = spanB (y.1, y.2) 5000 from rfl, hb] at h9; cases h9
              have HFT := Lib.hid hft
              have HS := Lib.hid hS
              clear hft hS hb hy cy0 cy1 ey
              go_wp2_with (go_at_call 64; refine (HS.out _).mono ?_; rintro e w9 ⟨rfl, hb9⟩)
              go_ret
              exact ⟨ret_int HFT.out.symm, HBz.out.trans (hb9.mono HBz.out.size)⟩
            | true =>
              rw [hb] at hS
              have HS := Lib.hid hS
              have HBB := Lib.hid hb
              clear hS hb hy cy0 cy1 ey
              go_wp2_with (go_at_call 64; refine (HS.out _).mono ?_; rintro e w9 ⟨rfl, hb9⟩)
              go_roundw
              case rel =>
                refine ⟨t + 1, by omega, by go_num, fun j z hj hz => ?_, HLz.out.call hb9, HBz.out.trans (hb9.mono HBz.out.size)⟩
                by_cases e : j = t
                · subst e; rw [HY.out] at hz; cases hz; exact HBB.out
                · exact HT.out j z (by omega) hz
              case measure => simp [intOf]; omega
          · obtain rfl : t = p.s.l.length := by omega
            go_wp2
            go_roundw
            case rel =>
              refine ⟨k + 1, by omega, by go_num, fun s r2 q2 e2 k2 x2 hs a1 a2 a3 a4 a5 => ?_, HLz.out, HBz.out⟩
              by_cases e' : s = k
              · subst e'
                rw [G1.out] at a1; cases a1
                rw [G2.out] at a2; cases a2
                rw [G3.out] at a3; cases a3
                rw [G4.out] at a4; cases a4
                rw [G5.out] at a5; cases a5
                exact ⟨H0.out, H1.out, H2.out, H3.out, HLN.out, fun j z hz => HT.out j z (by have := (List.getElem?_eq_some_iff.1 hz).1; rw [HLN.out] at this; exact this) hz⟩
              · exact HALL.out s r2 q2 e2 k2 x2 (by omega) a1 a2 a3 a4 a5
            case measure => simp [intOf]; omega
    · obtain rfl : k = p.s.l.length := by omega
      have hft : p.fault = 0 := fault_ok HPRE0.out.five (valid_of_rows HPRE0.out fun s r q e k2 x a1 a2 a3 a4 a5 => HALL.out s r q e k2 x (List.getElem?_eq_some_iff.1 a2).1 a1 a2 a3 a4 a5)
      have HFT := Lib.hid hft
      clear hft
      go_wp2
      go_ret
      exact ⟨ret_int HFT.out.symm, HB.out⟩
end Go.Proofs.Ytlkdmcdnkoiflaa

/- Fault at any plan; ready. -/
namespace Go.Proofs.Ytlkdmcdnkoiflaa
open Go.RowKit Go.Lib

theorem Fault_any (p : PlM) (w : World) (hp : p.At w w.heap.size) : Calls Try.prog 24 #[.agg p.cells.toArray] w fun e w' => e = .returned (.int .i64 p.fault) ∧ Below w.heap.size w w' := by
  by_cases h5 : p.s.l.length ≤ 5
  case neg =>
    have e : p.fault = 3 := by unfold PlM.fault; rw [if_pos (by omega)]
    rw [e]; exact Fault_many p w (by omega)
  have one : ∀ {h : ¬ Pre p}, p.fault = 1 := fun {h} => fault_one h5 fun hv => h (pre_of_valid hv h5)
  by_cases h0 : 1 ≤ p.s.l.length
  case neg => rw [one (h := fun h => h0 h.one)]; exact Fault_no0 p w h5 (by omega)
  by_cases h1 : p.r.l.length = p.s.l.length
  case neg => rw [one (h := fun h => h1 h.r)]; exact Fault_no1 p w h5 h0 h1
  by_cases h2 : p.g.l.length = p.s.l.length
  case neg => rw [one (h := fun h => h2 h.g)]; exact Fault_no2 p w h5 h0 h1 h2
  by_cases h3 : p.e.l.length = p.s.l.length
  case neg => rw [one (h := fun h => h3 h.e)]; exact Fault_no3 p w h5 h0 h1 h2 h3
  by_cases h4 : p.k.l.length = p.s.l.length
  case neg => rw [one (h := fun h => h4 h.k)]; exact Fault_no4 p w h5 h0 h1 h2 h3 h4
  by_cases h6 : spanB (p.lo, p.hi) 1000 = true
  case neg => rw [one (h := fun h => h6 h.l)]; exact Fault_no5 p w h5 h0 h1 h2 h3 h4 (by simpa using h6)
  by_cases h7 : inB p.years 0 6 = true
  case neg => rw [one (h := fun h => h7 h.y)]; exact Fault_no6 p w h5 h0 h1 h2 h3 h4 h6 (by simpa using h7)
  exact Fault_pre p w hp ⟨h0, h5, h1, h2, h3, h4, h6, h7⟩
theorem size28 : (Try.prog.info? 28).map (·.size) = some 8 := by kernel_rfl
def readyB (p : PlM) : Bool := thinB p && decide (p.fault = 0)
set_option maxRecDepth 100000 in
set_option maxHeartbeats 1000000 in
theorem ready_any (p : PlM) (w : World) (hp : p.Lay w w.heap.size) : Calls Try.prog 51 #[.agg p.cells.toArray] w fun e w' => e = .returned (.bool (readyB p)) ∧ Below w.heap.size w w' := by
  have l0 : Lies (w.alloc (.cells p.cells.toArray 28)) w.heap.size 28 p.cells.toArray := Lies.fresh _ _ _
  have b0 : Below w.heap.size w (w.alloc (.cells p.cells.toArray 28)) := (Below.refl _ _).alloc (Nat.le_refl _) _
  have hT := Thin_any p _ (hp.below b0 b0.size)
  cases ht : thinB p with
  | false =>
    rw [ht] at hT
    have hr : readyB p = false := by unfold readyB; rw [ht]; rfl
    rw [hr]
    have L0 := Lib.hid l0
    have B0 := Lib.hid b0
    have HT := Lib.hid hT
    clear l0 b0 hT hp hr ht
    unfold PlM.cells at HT ⊢
    go_enter Try.func51, Try.ntmps51
    go_wp2_with (first
      | (refine wpList_load_row (o := ⟨some 3, _, _, _, _, _⟩) ?_ 28 (.tmp 1) ?_ w.heap.size ?_ 28 p.cells.toArray (0, 0) _ L0.out Try.underlying28 rfl size28 ?_; rfl; rfl; rfl)
      | (go_at_call 17; refine HT.out.mono ?_; rintro e w1 ⟨rfl, hb1⟩))
    go_ret
    exact ⟨rfl, B0.out.trans (hb1.mono B0.out.size)⟩
  | true =>
    rw [ht] at hT
    have hat := hp.at ht
    have hF : ∀ W, Below w.heap.size w W → Calls Try.prog 24 #[.agg p.cells.toArray] W fun e w' => e = .returned (.int .i64 p.fault) ∧ Below W.heap.size W w' := fun W hb => Fault_any p W (hat.below hb hb.size)
    have hr : readyB p = (p.fault == 0) := by unfold readyB; rw [ht]; simp; rfl
    rw [hr]
    have L0 := Lib.hid l0
    have B0 := Lib.hid b0
    have HT := Lib.hid hT
    generalize p.fault = ft at *
    have HF := Lib.hid hF
    clear l0 b0 hT hp hr ht hat hF
    unfold PlM.cells at HT ⊢
    go_enter Try.func51, Try.ntmps51
    go_wp2_with (first
      | (refine wpList_load_row (o := ⟨some 3, _, _, _, _, _⟩) ?_ 28 (.tmp 1) ?_ w.heap.size ?_ 28 p.cells.toArray (0, 0) _ L0.out Try.underlying28 rfl size28 ?_; rfl; rfl; rfl)
      | (go_at_call 17; refine HT.out.mono ?_; rintro e w1 ⟨rfl, hb1⟩; have c0 : w1.cell? ⟨w.heap.size, 0, none⟩ = some (.slice p.s.A p.s.l.length p.s.c) := (L0.out.call hb1).at_ 0; have c1 : w1.cell? ⟨w.heap.size, 1, none⟩ = some (.slice p.r.A p.r.l.length p.r.c) := (L0.out.call hb1).at_ 1; have c2 : w1.cell? ⟨w.heap.size, 2, none⟩ = some (.slice p.g.A p.g.l.length p.g.c) := (L0.out.call hb1).at_ 2; have c3 : w1.cell? ⟨w.heap.size, 3, none⟩ = some (.slice p.e.A p.e.l.length p.e.c) := (L0.out.call hb1).at_ 3; have c4 : w1.cell? ⟨w.heap.size, 4, none⟩ = some (.slice p.k.A p.k.l.length p.k.c) := (L0.out.call hb1).at_ 4; have c5 : w1.cell? ⟨w.heap.size, 5, none⟩ = some (.int .i64 p.lo) := (L0.out.call hb1).at_ 5; have c6 : w1.cell? ⟨w.heap.size, 6, none⟩ = some (.int .i64 p.hi) := (L0.out.call hb1).at_ 6; have c7 : w1.cell? ⟨w.heap.size, 7, none⟩ = some (.int .i64 p.years) := (L0.out.call hb1).at_ 7)
      | (go_at_call 24; refine (HF.out _ (B0.out.trans (hb1.mono B0.out.size))).mono ?_; rintro e w2 ⟨rfl, hb2⟩))
    go_ret
    have hx := B0.out.trans (hb1.mono B0.out.size)
    exact ⟨rfl, hx.trans (hb2.mono hx.size)⟩
end Go.Proofs.Ytlkdmcdnkoiflaa

/- A plan with fewer years. -/
namespace Go.Proofs.Ytlkdmcdnkoiflaa
open Go.RowKit Go.Lib

theorem bndD_years (d : PD) (X : Int) (k : Nat) : bndD { d with years := X } k = bndD d k := by
  have h : ∀ fa fb fc fd : Int × Int → Int, seaD { d with years := X } fa fb fc fd k = seaD d fa fb fc fd k := fun fa fb fc fd => by
    unfold seaD seaY
    rw [yrD_congr (d := { d with years := X }) (d' := d) rfl rfl rfl rfl k (fun j _ => ⟨rfl, rfl⟩)]
    rfl
  unfold bndD lowD highD
  rw [h, h]
theorem fault_years {p : PlM} {X : Int} (h : p.fault = 0) (h0 : 0 ≤ X) (h6 : X ≤ 6) : PlM.fault { p with years := X } = 0 := by
  have hv := fault_zero h
  have h5 := hv.ok.n
  have hb : p.validB = true := by
    cases hb : p.validB with
    | true => rfl
    | false => unfold PlM.fault at h; rw [if_neg (by omega), hb] at h; cases h
  refine fault_ok (p := { p with years := X }) h5 ?_
  have hp := pre_of_valid hb h5
  refine valid_of_rows (p := { p with years := X }) ⟨hp.one, hp.five, hp.r, hp.g, hp.e, hp.k, hp.l, inB_iff.2 ⟨h0, h6⟩⟩ fun s r q e k x a1 a2 a3 a4 a5 => ?_
  have hr := rows_of_valid hb h5 a1 a2 a3 a4 a5
  exact ⟨hr.rr, hr.qq, hr.ee, hr.kk, hr.nn, hr.xx⟩
theorem ready_iff {p : PlM} : readyB p = true ↔ thinB p = true ∧ p.fault = 0 := by unfold readyB; simp
end Go.Proofs.Ytlkdmcdnkoiflaa

/- Arguments opened as they lie; what a law owes behind its walk. -/
namespace Go.Proofs.Ytlkdmcdnkoiflaa
open Go.ChangeShapes Go.WideShapes Go.ChangeAt Go.RowKit

section
variable {H : Type} {enc : TypeId × Value → H} {P : Program} {w : World}
/-- A slice that came in, whatever its elements are. -/
theorem open_sl {α : Type} {en : α → List Value} {Q : α → Prop} {k : Nat} {t e : TypeId} (hk0 : 0 < k) (ht : P.underlying t = some (.slice e)) (hk : P.cellsOf e = k)
    (hop : ∀ (fuel : Nat) (cs : List Value) (x : DataW H × List MemPlace), DataW.trod enc P w 0 (fun _ => true) true fuel e cs = some x → ∃ y : α, cs = en y ∧ Q y)
    {fuel : Nat} {cs : List Value} {x : DataW H × List MemPlace} (h : DataW.trod enc P w 0 (fun _ => true) true fuel t cs = some x) :
    ∃ (A : Option Addr) (l : List α) (c : Nat), cs = [.slice A l.length c] ∧ (A = none → l.length = 0 ∧ c = 0) ∧ Sl w w.heap.size k en A l ∧ (∀ y, y ∈ l → Q y) ∧ l.length ≤ maxLen := by
  rcases Deep.open_slice ht h with ⟨rfl, _⟩ | ⟨a, len, cap, m, n, D, Pl, rfl, _, hl, hm, hmm, _, hx⟩
  · exact ⟨none, [], 0, rfl, fun _ => ⟨rfl, rfl⟩, Sl.nil, fun y hy => (by cases hy), Nat.zero_le _⟩
  simp only [if_true] at hmm
  have hmm' := hmm.symm
  subst hmm'
  have each : ∀ i, i < len → ∃ y : α, Q y ∧ w.cells? 0 (a.add (i * k)) k = some (en y) := fun i hi => by
    obtain ⟨cs', h1, h2⟩ := hx i (by omega)
    obtain ⟨y, rfl, hq⟩ := hop _ _ _ h2
    rw [hk] at h1
    exact ⟨y, hq, h1⟩
  have lists : ∀ n, n ≤ len → ∃ l : List α, l.length = n ∧ ∀ i y, l[i]? = some y → Q y ∧ w.cells? 0 (a.add (i * k)) k = some (en y) := by
    intro n
    induction n with
    | zero => intro _; exact ⟨[], rfl, fun i y hy => by simp at hy⟩
    | succ n ih =>
      intro hn
      obtain ⟨l, hl, hr⟩ := ih (by omega)
      obtain ⟨y, hq, hc⟩ := each n (by omega)
      refine ⟨l ++ [y], by simp [hl], fun i z hz => ?_⟩
      rw [List.getElem?_append] at hz
      split at hz
      · exact hr i z hz
      · rename_i hi
        have hi' : i = n := by
          have := (List.getElem?_eq_some_iff.1 hz).1
          simp at this; omega
        subst hi'
        rw [hl, Nat.sub_self] at hz
        simp at hz; subst hz
        exact ⟨hq, hc⟩
  obtain ⟨l, hll, hr⟩ := lists len (Nat.le_refl _)
  subst hll
  refine ⟨some a, l, cap, rfl, (fun e => by cases e), fun hne => ?_, fun y hy => ?_, by omega⟩
  · obtain ⟨b, off, spot⟩ := a
    have hcell : ∀ i y, l[i]? = some y → ∀ j u, (en y)[j]? = some u → w.cell? (((⟨b, off, spot⟩ : Addr).add (i * k)).add j) = some u := fun i y hy j u hu => by
      obtain ⟨_, hlen, hc⟩ := World.cells?_some (hr i y hy).2
      have hj := (List.getElem?_eq_some_iff.1 hu).1
      rw [hc j (by omega)]; exact hu
    obtain ⟨y, hy⟩ : ∃ y, l[0]? = some y := by
      cases l with
      | nil => exact absurd rfl hne
      | cons y l => exact ⟨y, rfl⟩
    have hlen := (World.cells?_some (hr 0 y hy).2).2.1
    obtain ⟨u, hu⟩ : ∃ u, (en y)[0]? = some u := ⟨(en y)[0], by simp [hlen, hk0]⟩
    have h0 := hcell 0 y hy 0 u hu
    have hspot : spot = none := by simpa [Addr.add] using World.cell?_spot h0
    subst hspot
    have hb := World.block_lt_of_cell? w _ h0
    rw [add_lit, add_lit] at hb
    refine ⟨b, off, rfl, hb, fun i z hz j v hv => ?_⟩
    have := hcell i z hz j v hv
    rwa [add_lit, add_lit] at this
  · obtain ⟨i, hi, e⟩ := List.getElem_of_mem hy
    exact (hr i y (by rw [List.getElem?_eq_getElem hi, e])).1
theorem open_num {t : TypeId} {k : IntKind} (ht : P.underlying t = some (.int k)) {fuel : Nat} {cs : List Value} {x : DataW H × List MemPlace} (h : DataW.trod enc P w 0 (fun _ => true) true fuel t cs = some x) : ∃ y : Int, cs = [.int k y] ∧ (Lit.int k y).wf = true := by
  obtain ⟨n, h1, _, h3⟩ := DataW.trod_int ht h
  exact ⟨n, h1, h3⟩
/-- All arguments read behind the call as they did. -/
theorem Below.trodAll (hl : laidOutB P = true) {W W' : World} (hb : Below W.heap.size W W') : ∀ {ts : List TypeId} {vs : List Value} {ds : List (DataW H)} {ps : List MemPlace}, (∀ t, t ∈ ts → P.readableRec t = true ∧ t < P.types.size) →
    DataW.TrodAll enc P W 0 (fun _ => true) true ts vs ds ps → (∀ x ∈ ps, x.block < W.heap.size) → DataW.TrodAll enc P W' 0 (fun b => decide (b < W.heap.size)) true ts vs ds ps
  | [], [], [], _, _, h, _ => h
  | t :: ts, v :: vs, d :: ds, _, hr, ⟨p, q, h1, h2, e⟩, hlt => by
    subst e
    exact ⟨p, q, RowKit.Below.trod hl (hr t (by simp)).1 (hr t (by simp)).2 h1 hb (fun x hx => hlt x (by simp [hx])), Below.trodAll hl hb (fun u hu => hr u (by simp [hu])) h2 (fun x hx => hlt x (by simp [hx])), rfl⟩
  | [], [], _ :: _, _, _, h, _ => h.elim
  | [], _ :: _, _, _, _, h, _ => h.elim
  | _ :: _, [], _, _, _, h, _ => h.elim
  | _ :: _, _ :: _, [], _, _, h, _ => h.elim
/-- What a law owes behind its walk. -/
theorem law_post {f : Func} {s : ChangeSpec} {W W' : World} {args : Array Value} {ds gs : List (DataW H)} {before : List MemPlace} {tb : TypeId} (hl : laidOutB P = true) (hW : DataW.Whole enc P f.params.toList s.vars false W args.toList ds gs before) (hv : s.vars = [])
    (hrt : f.resultTypes = #[tb]) (htb : P.underlying tb = some .bool) (hrd : ∀ t, t ∈ f.params.toList → P.readableRec t = true ∧ t < P.types.size)
    (hfn : (s.fn H ds).results = [.lit (.bool true)] ∧ (s.fn H ds).args = ds ∧ (s.fn H ds).vars = []) (hb : Below W.heap.size W W') : s.post enc P f false true false false W args (.bool true) W' := by
  have hlt : ∀ p ∈ before, p.block < W.heap.size := fun p hp => by simpa using hW.lt p hp
  have hW' := hW
  obtain ⟨p, q, h1, h2, rfl, hz, hn⟩ := hW
  rw [hv] at h2
  obtain ⟨rfl, rfl⟩ := trodVars_none h2
  simp only [List.append_nil] at hlt hW'
  refine ⟨ds, [], p, [], p, [], hW', ?_, ?_, ?_, hb.frame _, fun h => by cases h⟩
  · rw [List.append_nil, hfn.1, hrt]
    exact trodAll_mk1 (shut_bool htb true)
  · rw [List.append_nil, hfn.2.1]
    exact Below.trodAll hl hb hrd h1 hlt
  · rw [List.append_nil, hfn.2.2, hv]
    exact rfl
end
theorem laidOutP : laidOutB Try.prog = true := by kernel_rfl
theorem ownP : ownKnob Try.prog.godebug = none := by kernel_rfl
end Go.Proofs.Ytlkdmcdnkoiflaa

/- A plan that came in, opened. -/
namespace Go.Proofs.Ytlkdmcdnkoiflaa
open Go.ChangeShapes Go.WideShapes Go.ChangeAt Go.RowKit

theorem len2 {α : Type} : ∀ {l : List α}, l.length = 2 → ∃ a b, l = [a, b]
  | [a, b], _ => ⟨a, b, rfl⟩
theorem len8 {α : Type} : ∀ {l : List α}, l.length = 8 → ∃ a b c d e f g h, l = [a, b, c, d, e, f, g, h]
  | [a, b, c, d, e, f, g, h], _ => ⟨a, b, c, d, e, f, g, h, rfl⟩
section
variable {H : Type} {enc : TypeId × Value → H} {w : World} {fuel : Nat} {cs : List Value} {x : DataW H × List MemPlace}
theorem cI : Try.prog.cellsOf 3 = 1 := by kernel_rfl
theorem cR : Try.prog.cellsOf 26 = 2 := by kernel_rfl
theorem cSR : Try.prog.cellsOf 22 = 1 := by kernel_rfl
theorem cSI : Try.prog.cellsOf 23 = 1 := by kernel_rfl
theorem cSSR : Try.prog.cellsOf 24 = 1 := by kernel_rfl
theorem cPl : Try.prog.cellsOf 28 = 8 := by kernel_rfl
theorem open_range (h : DataW.trod enc Try.prog w 0 (fun _ => true) true fuel 26 cs = some x) : ∃ r : Int × Int, cs = encR r ∧ True := by
  obtain ⟨xs, n, _, _, hl, hxs, hf⟩ := DataW.trod_struct Try.underlying26 h
  obtain ⟨c0, c1, rfl⟩ := len2 (hl.trans cR)
  clear hl
  have h0 := hf 0 _ rfl
  have h1 := hf 1 _ rfl
  simp only [List.getElem_toArray, List.getElem_cons_zero, List.getElem_cons_succ, cI, List.drop_zero, List.take_succ_cons, List.take_zero, List.drop_succ_cons] at h0 h1
  have e0 : xs[0]? = some (xs[0]'(by rw [hxs]; decide)) := by simp
  have e1 : xs[1]? = some (xs[1]'(by rw [hxs]; decide)) := by simp
  rw [e0] at h0
  rw [e1] at h1
  obtain ⟨a, ha, _⟩ := open_num Try.underlying3 h0
  obtain ⟨b, hb, _⟩ := open_num Try.underlying3 h1
  simp only [List.cons.injEq, and_true] at ha hb
  subst ha; subst hb
  exact ⟨(a, b), rfl, trivial⟩
theorem open_ranges (h : DataW.trod enc Try.prog w 0 (fun _ => true) true fuel 22 cs = some x) : ∃ s : Sv (Int × Int), cs = encV s ∧ (s.A = none → s.l.length = 0 ∧ s.c = 0) ∧ Sl w w.heap.size 2 encR s.A s.l := by
  obtain ⟨A, l, c, e, hn, hs, _⟩ := open_sl (en := encR) (Q := fun _ => True) (by decide) Try.underlying22 cR (fun _ _ _ h => open_range h) h
  exact ⟨⟨A, l, c⟩, e, hn, hs⟩
theorem open_nums (h : DataW.trod enc Try.prog w 0 (fun _ => true) true fuel 23 cs = some x) : ∃ s : Sv Int, cs = encV s ∧ (s.A = none → s.l.length = 0 ∧ s.c = 0) ∧ Sl w w.heap.size 1 encI s.A s.l := by
  obtain ⟨A, l, c, e, hn, hs, _⟩ := open_sl (en := encI) (Q := fun _ => True) (by decide) Try.underlying23 cI (fun _ _ _ h => (open_num Try.underlying3 h).imp fun _ h => ⟨h.1, trivial⟩) h
  exact ⟨⟨A, l, c⟩, e, hn, hs⟩
theorem open_grow (h : DataW.trod enc Try.prog w 0 (fun _ => true) true fuel 24 cs = some x) : ∃ s : Sv (Sv (Int × Int)), cs = encV s ∧ Sl w w.heap.size 1 encV s.A s.l ∧ ∀ y, y ∈ s.l → Sl w w.heap.size 2 encR y.A y.l := by
  obtain ⟨A, l, c, e, _, hs, hq, _⟩ := open_sl (en := encV) (Q := fun y : Sv (Int × Int) => Sl w w.heap.size 2 encR y.A y.l) (by decide) Try.underlying24 cSR (fun _ _ _ h => (open_ranges h).imp fun _ h => ⟨h.1, h.2.2⟩) h
  exact ⟨⟨A, l, c⟩, e, hs, hq⟩
theorem open_plan (h : DataW.trod enc Try.prog w 0 (fun _ => true) true fuel 28 cs = some x) : ∃ p : PlM, cs = p.cells ∧ p.Lay w w.heap.size := by
  obtain ⟨xs, n, _, _, hl, hxs, hf⟩ := DataW.trod_struct Try.underlying28 h
  obtain ⟨c0, c1, c2, c3, c4, c5, c6, c7, rfl⟩ := len8 (hl.trans cPl)
  clear hl
  have h0 := hf 0 _ rfl
  have h1 := hf 1 _ rfl
  have h2 := hf 2 _ rfl
  have h3 := hf 3 _ rfl
  have h4 := hf 4 _ rfl
  have h5 := hf 5 _ rfl
  have h6 := hf 6 _ rfl
  simp only [List.getElem_toArray, List.getElem_cons_zero, List.getElem_cons_succ, cI, cR, cSR, cSI, cSSR, List.drop_zero, List.take_succ_cons, List.take_zero, List.drop_succ_cons] at h0 h1 h2 h3 h4 h5 h6
  have el : ∀ i, i < 7 → ∃ z, xs[i]? = some z := fun i hi => ⟨xs[i]'(by rw [hxs]; exact hi), by simp⟩
  obtain ⟨z0, e0⟩ := el 0 (by decide)
  obtain ⟨z1, e1⟩ := el 1 (by decide)
  obtain ⟨z2, e2⟩ := el 2 (by decide)
  obtain ⟨z3, e3⟩ := el 3 (by decide)
  obtain ⟨z4, e4⟩ := el 4 (by decide)
  obtain ⟨z5, e5⟩ := el 5 (by decide)
  obtain ⟨z6, e6⟩ := el 6 (by decide)
  rw [e0] at h0
  rw [e1] at h1
  rw [e2] at h2
  rw [e3] at h3
  rw [e4] at h4
  rw [e5] at h5
  rw [e6] at h6
  obtain ⟨s, a0, _, l0⟩ := open_ranges h0
  obtain ⟨r, a1, nr, l1⟩ := open_nums h1
  obtain ⟨g, a2, l2, l2'⟩ := open_grow h2
  obtain ⟨e, a3, ne, l3⟩ := open_nums h3
  obtain ⟨k, a4, nk, l4⟩ := open_nums h4
  obtain ⟨q, a5, _⟩ := open_range h5
  obtain ⟨y, a6, _⟩ := open_num Try.underlying3 h6
  simp only [encV, encR, List.cons.injEq, and_true] at a0 a1 a2 a3 a4 a5 a6
  obtain ⟨a5, a5'⟩ := a5
  subst a0; subst a1; subst a2; subst a3; subst a4; subst a5; subst a5'; subst a6
  exact ⟨⟨s, r, g, e, k, q.1, q.2, y⟩, rfl, l0, l1, l2, l2', l3, l4, nr, ne, nk⟩
end
end Go.Proofs.Ytlkdmcdnkoiflaa
