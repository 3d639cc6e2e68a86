/- ints: equal lists. -/
import Derived.Test.YtlkdmcdnkoiflaaGH
import Derived.Test.YtlkdmcdnkoiflaaYC
import Derived.Test.YtlkdmcdnkoiflaaYE
import Derived.Test.YtlkdmcdnkoiflaaYB
import Derived.Test.YtlkdmcdnkoiflaaYD
namespace Go.Proofs.Ytlkdmcdnkoiflaa
open Go.RowKit Go.Lib

set_option maxRecDepth 100000 in
set_option maxHeartbeats 1000000 in
theorem ints_yes (A1 A2 : Option Addr) (c1 c2 : Nat) (l : List Int) (w : World) (h1 : Sl w w.heap.size 1 encI A1 l) (h2 : Sl w w.heap.size 1 encI A2 l) (hl : l.length ≤ 1000000) :
    Calls Try.prog 46 #[.slice A1 l.length c1, .slice A2 l.length c2] w fun e w' => e = .returned (.bool true) ∧ Below w.heap.size w w' := by
  have H1 := Lib.hid h1
  have H2 := Lib.hid h2
  have hlz : (l.length : Int) ≤ 1000000 := by omega
  clear h1 h2
  go_enter Try.func46, Try.ntmps46
  go_wp2
  go_loopw [5] (fun i wr => ∃ k : Nat, k ≤ l.length ∧ i = .int .i64 k ∧ Aside (Below w.heap.size w wr)) (fun i _ => l.length - (intOf i).toNat)
  case atStart => exact ⟨0, by omega, rfl, Below.refl _ _⟩
  case round =>
    obtain ⟨k, hk, rfl, hb⟩ := hrel
    by_cases hlt : k < l.length
    · have hltz : (k : Int) < (l.length : Int) := by omega
      have hk0 : (0 : Int) ≤ (k : Int) := by omega
      obtain ⟨x, hx⟩ : ∃ x, l[k]? = some x := ⟨l[k], by simp [hlt]⟩
      obtain ⟨b1, o1, rfl, hb1, p1⟩ := H1.out.cell1 hx
      obtain ⟨b2, o2, rfl, hb2, p2⟩ := H2.out.cell1 hx
      have r1 := cell_regrown ((hb.out.cell (p := ⟨b1, o1 + k, none⟩) hb1).trans p1)
      have r2 := cell_regrown ((hb.out.cell (p := ⟨b2, o2 + k, none⟩) hb2).trans p2)
      have HB := Lib.hid hb.out
      clear p1 p2 hx hb
      go_wp2
      refine wp_region_quiet_below (by kernel_rfl) (by kernel_rfl) ?_; (repeat (first | go_big_quiet_step ((fail)) | quiet_step ((fail)))); refine wpQuiet_nil ?_; intro wq hwq; have hbq : Below _ _ wq := (by obtain ⟨p, rfl⟩ := hwq; exact below_regrown _ _ _); clear hwq
      clear r1 r2
      go_wp2
      go_roundw
      case rel => exact ⟨k + 1, by omega, by go_num, HB.out.trans (hbq.mono HB.out.size)⟩
      case measure => simp [intOf]; omega
    · obtain rfl : k = l.length := by omega
      go_wp2
      go_ret
      exact ⟨rfl, hb.out⟩
end Go.Proofs.Ytlkdmcdnkoiflaa

namespace Go.Proofs.Ytlkdmcdnkoiflaa
open Go.RowKit Go.Lib

section
variable {P : Program} {Q : Exit → Act → World → Prop}
def wayWB (l : List Oper) (rs : List Nat) (t : Wy) : Bool :=
  Region.noSelect l.toArray && takes3B .any l.toArray (Array.replicate l.toArray.size false) rs && wysB .any l.toArray true (takenB (Array.replicate l.toArray.size false) rs) t && decide (t.depth + rs.length = l.toArray.size)
/-- A drawn region that goes in several ways to its very end. -/
theorem wp_region_wayw {id : Nat} {l : List Oper} {a : Act} {w : World} (rs : List Nat) (t : Wy) (S : World → Prop) (hm : P.follows .mixedOrders = true) (hB : wayWB l rs t = true) (hS : S w.drew)
    (h : wpQuiet P l.toArray S (fun a' => wpWy P l.toArray S (fun a w => Q .normal a w) true t a' w.drew) (rs.filterMap (l.toArray[·]?)) a) :
    (Code.region id l.toArray true).wp P Q a w := by
  simp only [wayWB, Bool.and_eq_true, decide_eq_true_eq] at hB
  obtain ⟨⟨⟨b6, b7⟩, b8⟩, b9⟩ := hB
  refine wp_region_any hm (wpAny_of_ends (T := fun a w => Q .normal a w) (fun _ _ h => h) _ _ _ _ ?_)
  refine wpAny_of_held (S := S) _ _ _ _ ?_
  rw [← b9]
  refine wpAnyH_takes3 b6 rs _ a _ t.depth hS (by rw [b9]; exact b7) ?_
  refine wpQuiet_mono (fun a' ha => ?_) _ _ h
  exact wpAnyH_wy b6 _ t _ a' _ (Nat.le_refl _) hS (by rw [b9]; exact b8) ha
end
end Go.Proofs.Ytlkdmcdnkoiflaa

namespace Go.Proofs.Ytlkdmcdnkoiflaa
open Go.RowKit Go.Lib

/-- A plan with another start. -/
def PlM.onS (p : PlM) (A : Option Addr) (c : Nat) (xs : List (Int × Int)) : PlM := { p with s := ⟨A, xs, c⟩ }
section
variable {p : PlM} {l : List Cr} {q : List Int}
end
end Go.Proofs.Ytlkdmcdnkoiflaa

namespace Go.Proofs.Ytlkdmcdnkoiflaa
open Go.RowKit Go.Lib

def fieldM : PlM := ⟨⟨none, [(1000, 1200), (0, 0)], 2⟩, ⟨none, [5000, 3000], 2⟩, ⟨none, [⟨none, [(500, 700), (300, 400)], 2⟩, ⟨none, [(1500, 2000), (800, 900)], 2⟩], 2⟩, ⟨none, [0, 200], 2⟩, ⟨none, [0, 100], 2⟩, 50, 100, 2⟩
def offersL : List Cr := [⟨0, 500, 40, 3⟩, ⟨1, 100, 30, 2⟩]
theorem asked_congr {p q : PlM} (h : q.d = p.d) (n : Int) (zs : List Int) : askedL q n zs = askedL p n zs := by
  have hs : q.s.l = p.s.l := congrArg PD.s h
  unfold askedL
  rw [fault_congr h, hs]
theorem f_cheap400 : bestP fieldM offersL 1 2 400 = some [0, 1] := by kernel_rfl
theorem f_cheap401 : bestP fieldM offersL 1 2 401 = none := by kernel_rfl
theorem f_off (n : Int) (h0 : 0 ≤ n) (h1 : n ≤ 10000000) : offL fieldM offersL ((1 : Nat) : Int) n = 0 := offL_good (by kernel_rfl) (by kernel_rfl) (by decide) h0 h1
theorem f_en10 : enV fieldM offersL 1 2 400 [1, 0] = .tuple #[.bool true, .int .i64 0] := by kernel_rfl
theorem f_en00 : enV fieldM offersL 1 2 400 [0, 0] = .tuple #[.bool false, .int .i64 0] := by kernel_rfl
theorem f_en40 : enV fieldM offersL 1 2 400 [4, 0] = .tuple #[.bool false, .int .i64 2] := by kernel_rfl
def fullL : List Cr := [⟨0, 3801, 0, 1⟩]
theorem f_enfull : enV fieldM fullL 1 2 0 [1] = .tuple #[.bool false, .int .i64 0] := by kernel_rfl
theorem f_offull : offL fieldM fullL ((1 : Nat) : Int) 0 = 0 := offL_good (by kernel_rfl) (by kernel_rfl) (by decide) (by decide) (by decide)
def zeroCr : Cr := ⟨0, 0, 0, 0⟩
theorem f_off5 : offL fieldM [zeroCr, zeroCr, zeroCr, zeroCr, zeroCr] 0 0 = 3 := by kernel_rfl
theorem f_off1 : offL fieldM [zeroCr] 0 0 = 1 := by kernel_rfl
theorem f_asked20 : askedL fieldM 0 [2] = 2 := by kernel_rfl
theorem f_asked0m : askedL fieldM (-1) [0] = 2 := by kernel_rfl
theorem f_asked201 : askedL fieldM 1 [2, 0] = 2 := by kernel_rfl
theorem f_askedR (n : Int) (h0 : 0 ≤ n) (h1 : n ≤ 10000000) : askedL fieldM n [((1 : Nat) : Int)] = 0 := by
  have h3 : inB n 0 10000000 = true := inB_iff.2 ⟨h0, h1⟩
  unfold askedL
  rw [if_neg (by rw [show fieldM.fault = 0 from by kernel_rfl]; decide)]
  simp [h3]
  decide
theorem f_sold : soldE fieldD true 1 1 = 200 ∧ soldE fieldD true 1 2 = 400 ∧ soldE fieldD false 1 1 = 200 ∧ soldE fieldD false 1 2 = 307 := ⟨by kernel_rfl, by kernel_rfl, by kernel_rfl, by kernel_rfl⟩
theorem reach2 {f : Nat → Int} {n r : Int} (h : ReachP f 2 n r) : r = if n ≤ f 1 then 0 else if n ≤ f 2 then 1 else -1 := by
  rcases h with ⟨rfl, h⟩ | ⟨k, hk, rfl, h1, h2⟩
  · have a := h 0 (by omega)
    have b := h 1 (by omega)
    rw [if_neg (by simpa using a), if_neg (by simpa using b)]
  · have : k = 0 ∨ k = 1 := by omega
    rcases this with rfl | rfl
    · rw [if_pos (by simpa using h1)]; rfl
    · have a := h2 0 (by omega)
      rw [if_neg (by simpa using a), if_pos (by simpa using h1)]; rfl
section
variable {q : PlM} (hd : q.d = fieldD) (W : World) (hq : q.At W W.heap.size)
include hd hq
theorem f_reach (n a b : Int) (h0 : 0 ≤ n) (h1 : n ≤ 10000000) (ha : (if n ≤ (200 : Int) then (0 : Int) else if n ≤ 400 then 1 else -1) = a) (hb : (if n ≤ (200 : Int) then (0 : Int) else if n ≤ 307 then 1 else -1) = b) :
    Calls Try.prog 31 #[.agg q.cells.toArray, .int .i64 1, .int .i64 n] W fun e w' => e = .returned (.tuple #[.int .i64 a, .int .i64 b, .int .i64 0]) ∧ Below W.heap.size W w' := by
  have hY : q.years = ((2 : Nat) : Int) := congrArg PD.years hd
  have h := Reach_ok q 2 1 n W hq hY (by rw [asked_congr (p := fieldM) (by rw [hd]; rfl)]; exact f_askedR n h0 h1)
  refine h.mono fun e w' ⟨x, y, he, hx, hy, hb'⟩ => ⟨?_, hb'⟩
  rw [hd] at hx hy
  have e1 := reach2 hx
  have e2 := reach2 hy
  rw [f_sold.1, f_sold.2.1, ha] at e1
  rw [f_sold.2.2.1, f_sold.2.2.2, hb] at e2
  rw [he, e1, e2]
theorem f_reachno (size n k : Int) (hk : askedL fieldM n [size] = k) (h0 : k ≠ 0) :
    Calls Try.prog 31 #[.agg q.cells.toArray, .int .i64 size, .int .i64 n] W fun e w' => e = .returned (.tuple #[.int .i64 0, .int .i64 0, .int .i64 k]) ∧ Below W.heap.size W w' := by
  have ha : askedL q n [size] = k := by rw [asked_congr (p := fieldM) (by rw [hd]; rfl)]; exact hk
  have h := Reach_no q size n W hq (by rw [ha]; exact h0)
  rwa [ha] at h
theorem f_leastno : Calls Try.prog 34 #[.agg q.cells.toArray, .int .i64 2, .int .i64 0, .int .i64 1] W fun e w' => e = .returned (.tuple #[.int .i64 0, .int .i64 2]) ∧ Below W.heap.size W w' := by
  have ha : askedL q 1 [2, 0] = 2 := by rw [asked_congr (p := fieldM) (by rw [hd]; rfl)]; exact f_asked201
  have h := Least_no q 2 0 1 W hq (by rw [ha]; decide)
  rwa [ha] at h
theorem f_least9 : Calls Try.prog 34 #[.agg q.cells.toArray, .int .i64 0, .int .i64 0, .int .i64 1] W fun e w' => e = .returned (.tuple #[.int .i64 0, .int .i64 9]) ∧ Below W.heap.size W w' := by
  have hY : q.years = ((2 : Nat) : Int) := congrArg PD.years hd
  have hv : q.Valid := fault_zero (by rw [fault_d, hd]; exact field_fault)
  have hn : q.s.l.length = 2 := by have := congrArg (fun d : PD => d.s.length) hd; exact this
  have ha : askedL q 1 [((0 : Nat) : Int), ((0 : Nat) : Int)] = 0 := by rw [asked_congr (p := fieldM) (by rw [hd]; rfl)]; kernel_rfl
  refine (Least_ok q 2 0 0 1 W hq hY ha).mono fun e w' ⟨i, h1, h2, h3, h4, h5⟩ => ⟨?_, h5⟩
  have hm := fun (a b : Int) => enough_mono hv (Y := 2) (planted := 0) (size := 0) (number := 1) (h := a) (h' := b) (by omega) (by omega)
  rw [hd] at h1 h3 h4 hm
  have hr : fieldD.r.getD 0 0 = 5000 := by kernel_rfl
  have hen : enoughD fieldD 2 0 0 1 5000 = false := by kernel_rfl
  rw [hr] at h1 h3 h4
  by_cases hi : (i : Int) ≤ 5000
  · have := hm i 5000 (by omega) hi (h3 hi)
    rw [hen] at this; cases this
  · rw [h4, if_neg hi, if_neg hi]
theorem f_cheap (A : Option Addr) (c : Nat) (n : Int) (h0 : 0 ≤ n) (h1 : n ≤ 10000000) (hA : Sl W W.heap.size 4 encCr A offersL) :
    Calls Try.prog 41 #[.agg q.cells.toArray, .slice A 2 c, .int .i64 1, .int .i64 n] W (RetCh offersL (bestP fieldM offersL 1 2 n) W) :=
  Cheapest_all q fieldM (by rw [hd]; rfl) A c 1 2 offersL n W hq hA (f_off n h0 h1) rfl
theorem f_cheapno (A : Option Addr) (c : Nat) (l : List Cr) (k : Int) (hl : l.length ≤ 5) (hk : offL fieldM l 0 0 = k) (h0 : k ≠ 0) (hA : Sl W W.heap.size 4 encCr A l) :
    Calls Try.prog 41 #[.agg q.cells.toArray, .slice A l.length c, .int .i64 0, .int .i64 0] W fun e w' => e = .returned (.tuple #[.slice none 0 0, .int .i64 0, .int .i64 k]) ∧ Below W.heap.size W w' := by
  have ha : offL q l 0 0 = k := by rw [offL_congr (p := fieldM) (by rw [hd]; rfl)]; exact hk
  have h := Cheapest_no q A c l 0 0 W hq hA (by omega) (by rw [ha]; exact h0)
  rwa [ha] at h
theorem f_enough (A A' : Option Addr) (c c' : Nat) (l : List Cr) (y : List Int) (n : Int) (v : Value) (hno : offL fieldM l ((1 : Nat) : Int) n = 0) (hv : enV fieldM l 1 2 n y = v) (hA : Sl W W.heap.size 4 encCr A l) (hA' : Sl W W.heap.size 1 encI A' y) :
    Calls Try.prog 38 #[.agg q.cells.toArray, .slice A l.length c, .slice A' y.length c', .int .i64 1, .int .i64 n] W fun e w' => e = .returned v ∧ Below W.heap.size W w' := by
  have h := Enough_all q fieldM (by rw [hd]; rfl) A A' c c' 1 2 l y n W hq hA hA' hno rfl
  rwa [hv] at h
theorem f_run (t : TrM) (ht : t.At W W.heap.size) (hg : t.g.l = []) (hl : t.l.l = []) (hs : t.s.l = []) :
    Calls Try.prog 22 #[.agg q.cells.toArray, .agg t.cells.toArray] W fun e w' => e = .returned (.tuple #[.slice none 0 0, .int .i64 2]) ∧ Below W.heap.size W w' := by
  have hs2 : q.s.l = [(1000, 1200), (0, 0)] := congrArg PD.s hd
  refine Run_unfit q t W hq ht (by rw [hg]; simp) (by rw [hl]; simp) (by rw [fault_d, hd]; exact field_fault) ?_
  unfold TrM.fitB TrM.f0
  rw [hs, hs2]
  simp [pairedB]
end
theorem offers_any (w : World) : Calls Try.prog 49 #[] w fun e w' => ∃ A c, e = .returned (.slice A 2 c) ∧ Sl w' w'.heap.size 4 encCr A offersL ∧ Below w.heap.size w w' := by
  go_enter Try.func49, Try.ntmps49
  go_wp2
  go_ret
  refine ⟨_, _, rfl, sl_of_lies (t := 93) (enc := encCr) (l := offersL) (fun _ => rfl) (by repeat (first | (exact Lies.fresh' (by simp)) | (refine Lies.alloc ?_ _))), (by repeat (first | (with_reducible assumption) | (with_reducible exact Below.refl _ _) | (with_reducible refine Below.drew ?_) | (with_reducible refine below_drewN ?_ _) | ((with_reducible refine Below.setCell ?_ ?_ _); rotate_left; focus (first | (simp; done) | (simp; omega) | omega)) | ((with_reducible refine Below.alloc ?_ ?_ _); rotate_left; focus (first | (simp; done) | (simp; omega) | omega))))⟩
end Go.Proofs.Ytlkdmcdnkoiflaa

namespace Go.Proofs.Ytlkdmcdnkoiflaa
open Go.RowKit Go.Lib

theorem nilT_at (w : World) (B : Nat) : TrM.At ⟨⟨none, [], 0⟩, ⟨none, [], 0⟩, ⟨none, [], 0⟩⟩ w B := ⟨Sl.nil, Sl.nil, fun y hy => (by cases hy), fun y hy => (by cases hy), Sl.nil⟩
def c5 : Array Value := ([zeroCr, zeroCr, zeroCr, zeroCr, zeroCr].flatMap encCr).toArray
theorem make_crates5 (w : World) : (Instr.makeSlice 76 (.int .i64 5) (.int .i64 5)).run Try.prog w = .ok (.slice (some ⟨w.heap.size, 0, none⟩) 5 5) (w.alloc (.cells c5 93)) := by
  kernel_rfl
def sixR : List (Int × Int) := [(0, 0), (0, 0), (0, 0), (0, 0), (0, 0), (0, 0)]
def c6 : Array Value := (sixR.flatMap encR).toArray
theorem make_ranges6 (w : World) : (Instr.makeSlice 37 (.int .i64 6) (.int .i64 6)).run Try.prog w = .ok (.slice (some ⟨w.heap.size, 0, none⟩) 6 6) (w.alloc (.cells c6 39)) := by
  kernel_rfl
/-- The examples' plan, from block g on; the greatest number of the first size's start is a. -/
def fieldP (g : Nat) (a : Int) : PlM := ⟨⟨some ⟨g + 1, 0, none⟩, [(1000, a), (0, 0)], 2⟩, ⟨some ⟨g + 1 + 1, 0, none⟩, [5000, 3000], 2⟩, ⟨some ⟨g + 1 + 1 + 1 + 1 + 1, 0, none⟩, [⟨some ⟨g + 1 + 1 + 1, 0, none⟩, [(500, 700), (300, 400)], 2⟩, ⟨some ⟨g + 1 + 1 + 1 + 1, 0, none⟩, [(1500, 2000), (800, 900)], 2⟩], 2⟩, ⟨some ⟨g + 1 + 1 + 1 + 1 + 1 + 1, 0, none⟩, [0, 200], 2⟩, ⟨some ⟨g + 1 + 1 + 1 + 1 + 1 + 1 + 1, 0, none⟩, [0, 100], 2⟩, 50, 100, 2⟩
structure FdAt (V : World) (g : Nat) (a : Int) : Prop where
  s : Lies V (g + 1) 39 #[.int .i64 1000, .int .i64 a, .int .i64 0, .int .i64 0]
  r : Lies V (g + 1 + 1) 3 #[.int .i64 5000, .int .i64 3000]
  g0 : Lies V (g + 1 + 1 + 1) 39 #[.int .i64 500, .int .i64 700, .int .i64 300, .int .i64 400]
  g1 : Lies V (g + 1 + 1 + 1 + 1) 39 #[.int .i64 1500, .int .i64 2000, .int .i64 800, .int .i64 900]
  gg : Lies V (g + 1 + 1 + 1 + 1 + 1) 37 #[.slice (some ⟨g + 1 + 1 + 1, 0, none⟩) 2 2, .slice (some ⟨g + 1 + 1 + 1 + 1, 0, none⟩) 2 2]
  e : Lies V (g + 1 + 1 + 1 + 1 + 1 + 1) 3 #[.int .i64 0, .int .i64 200]
  k : Lies V (g + 1 + 1 + 1 + 1 + 1 + 1 + 1) 3 #[.int .i64 0, .int .i64 100]
theorem FdAt.call {V V' : World} {g : Nat} {a : Int} (h : FdAt V g a) (hb : Below V.heap.size V V') : FdAt V' g a := ⟨h.s.call hb, h.r.call hb, h.g0.call hb, h.g1.call hb, h.gg.call hb, h.e.call hb, h.k.call hb⟩
theorem FdAt.only {V V' : World} {g G : Nat} {a : Int} (h : FdAt V g a) (ho : Only G V V') (hG : G < g + 1 ∨ g + 7 < G) : FdAt V' g a :=
  ⟨ho.lies h.s (by omega), ho.lies h.r (by omega), ho.lies h.g0 (by omega), ho.lies h.g1 (by omega), ho.lies h.gg (by omega), ho.lies h.e (by omega), ho.lies h.k (by omega)⟩
theorem FdAt.set {V : World} {g : Nat} {a : Int} (h : FdAt V g a) (x : Int) : FdAt (V.setCell ⟨g + 1, 1, none⟩ (.int .i64 x)) g x := by
  have ho := Only.set (g + 1) 1 V (.int .i64 x)
  exact ⟨h.s.set 1 _, ho.lies h.r (by omega), ho.lies h.g0 (by omega), ho.lies h.g1 (by omega), ho.lies h.gg (by omega), ho.lies h.e (by omega), ho.lies h.k (by omega)⟩
theorem FdAt.at {V : World} {g : Nat} {a : Int} (h : FdAt V g a) : (fieldP g a).At V V.heap.size := by
  refine ⟨?_, ?_, ?_, fun x hx => ?_, ?_, ?_, (show (2 : Nat) ≤ 1000000 by decide), (show (2 : Nat) ≤ 1000000 by decide), (show (2 : Nat) ≤ 1000000 by decide), fun x hx => ?_, (show (2 : Nat) ≤ 1000000 by decide), (show (2 : Nat) ≤ 1000000 by decide)⟩
  · exact sl_of_lies (t := 39) (enc := encR) (fun _ => rfl) h.s
  · exact sl_of_lies (t := 3) (enc := encI) (fun _ => rfl) h.r
  · exact sl_of_lies (t := 37) (enc := encV) (fun _ => rfl) h.gg
  · simp only [fieldP, List.mem_cons, List.not_mem_nil, or_false] at hx
    rcases hx with rfl | rfl
    · exact sl_of_lies (t := 39) (enc := encR) (fun _ => rfl) h.g0
    · exact sl_of_lies (t := 39) (enc := encR) (fun _ => rfl) h.g1
  · exact sl_of_lies (t := 3) (enc := encI) (fun _ => rfl) h.e
  · exact sl_of_lies (t := 3) (enc := encI) (fun _ => rfl) h.k
  · simp only [fieldP, List.mem_cons, List.not_mem_nil, or_false] at hx
    rcases hx with rfl | rfl <;> exact (show (2 : Nat) ≤ 1000000 by decide)
set_option maxRecDepth 100000 in
set_option maxHeartbeats 1000000 in
theorem field_own (w : World) : Calls Try.prog 48 #[] w fun e w' => e = .returned (.agg (fieldP w.heap.size 1200).cells.toArray) ∧ FdAt w' w.heap.size 1200 ∧ Below w.heap.size w w' := by
  go_enter Try.func48, Try.ntmps48
  go_wp2
  refine bodyPost_ret (results_cell_row rfl _ _ w.heap.size 41 #[.slice (some ⟨w.heap.size + 1, 0, none⟩) 2 2, .slice (some ⟨w.heap.size + 1 + 1, 0, none⟩) 2 2, .slice (some ⟨w.heap.size + 1 + 1 + 1 + 1 + 1, 0, none⟩) 2 2, .slice (some ⟨w.heap.size + 1 + 1 + 1 + 1 + 1 + 1, 0, none⟩) 2 2, .slice (some ⟨w.heap.size + 1 + 1 + 1 + 1 + 1 + 1 + 1, 0, none⟩) 2 2, .int .i64 50, .int .i64 100, .int .i64 2] (0, 0) _ rfl (by repeat (first | (exact Lies.fresh' (by simp)) | (refine Lies.alloc ?_ _))) Try.underlying41 rfl size41) rfl ?_
  exact ⟨rfl, ⟨by repeat (first | (exact Lies.fresh' (by simp)) | (refine Lies.alloc ?_ _)), by repeat (first | (exact Lies.fresh' (by simp)) | (refine Lies.alloc ?_ _)), by repeat (first | (exact Lies.fresh' (by simp)) | (refine Lies.alloc ?_ _)), by repeat (first | (exact Lies.fresh' (by simp)) | (refine Lies.alloc ?_ _)), by repeat (first | (exact Lies.fresh' (by simp)) | (refine Lies.alloc ?_ _)), by repeat (first | (exact Lies.fresh' (by simp)) | (refine Lies.alloc ?_ _)), by repeat (first | (exact Lies.fresh' (by simp)) | (refine Lies.alloc ?_ _))⟩, (by repeat (first | (with_reducible assumption) | (with_reducible exact Below.refl _ _) | (with_reducible refine Below.drew ?_) | (with_reducible refine below_drewN ?_ _) | ((with_reducible refine Below.setCell ?_ ?_ _); rotate_left; focus (first | (simp; done) | (simp; omega) | omega)) | ((with_reducible refine Below.alloc ?_ ?_ _); rotate_left; focus (first | (simp; done) | (simp; omega) | omega))))⟩
/-- The three plans that are not valid. -/
theorem check_odd {V : World} {g : Nat} (h : FdAt V g 5001) : Calls Try.prog 20 #[.agg (fieldP g 5001).cells.toArray] V fun e w' => e = .returned (.int .i64 1) ∧ Below V.heap.size V w' := by
  have hc := CheckPlan_any _ V h.at
  have hf : (fieldP g 5001).fault = 1 := by rw [fault_d]; kernel_rfl
  rwa [hf] at hc
theorem onS_at' {p : PlM} {V : World} {A : Option Addr} {c : Nat} {xs : List (Int × Int)} (h : p.At V V.heap.size) (hx : Sl V V.heap.size 2 encR A xs) (hl : xs.length ≤ 1000000) : (p.onS A c xs).At V V.heap.size :=
  ⟨hx, h.r, h.g, h.rows, h.e, h.k, hl, h.lr, h.lg, h.lrows, h.le, h.lk⟩
theorem check_many {q : PlM} {V : World} {g : Nat} (h : q.At V V.heap.size) (hg : Lies V g 39 c6) : Calls Try.prog 20 #[.agg (q.onS (some ⟨g, 0, none⟩) 6 sixR).cells.toArray] V fun e w' => e = .returned (.int .i64 3) ∧ Below V.heap.size V w' := by
  have hc := CheckPlan_any (q.onS (some ⟨g, 0, none⟩) 6 sixR) V (onS_at' h (sl_of_lies (t := 39) (enc := encR) (fun _ => rfl) hg) (by decide))
  have hf : (q.onS (some ⟨g, 0, none⟩) 6 sixR).fault = 3 := by unfold PlM.fault; exact if_pos (show 5 < 6 by decide)
  rwa [hf] at hc
def noP : PlM := ⟨⟨none, [], 0⟩, ⟨none, [], 0⟩, ⟨none, [], 0⟩, ⟨none, [], 0⟩, ⟨none, [], 0⟩, 0, 0, 0⟩
theorem check_no (V : World) : Calls Try.prog 20 #[.agg noP.cells.toArray] V fun e w' => e = .returned (.int .i64 1) ∧ Below V.heap.size V w' := by
  have hc := CheckPlan_any noP V ⟨Sl.nil, Sl.nil, Sl.nil, fun x hx => (by cases hx), Sl.nil, Sl.nil, by decide, by decide, by decide, fun x hx => (by cases hx), by decide, by decide⟩
  have hf : noP.fault = 1 := by kernel_rfl
  rwa [hf] at hc
end Go.Proofs.Ytlkdmcdnkoiflaa
