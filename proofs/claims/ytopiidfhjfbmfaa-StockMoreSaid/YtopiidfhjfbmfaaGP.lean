/- The texts SA SB SC, joined. -/
import Derived.Test.YtopiidfhjfbmfaaGK
import Derived.Test.YtopiidfhjfbmfaaGL
import Derived.Test.YtopiidfhjfbmfaaGJ
import Derived.Test.YtopiidfhjfbmfaaGH
import Derived.Test.YtopiidfhjfbmfaaGM
import Derived.Test.YtopiidfhjfbmfaaGO
import Derived.Deep.DeepCutAuto
/- StockSizes: a plan whose sizes are turned, and its bounds. -/
namespace Go.Proofs.Ytopiidfhjfbmfaa
open Go.RowKit Go.Lib

/-- A sum of the first numbers. -/
def sumN (F : Nat → Int) : Nat → Int
  | 0 => 0
  | m + 1 => sumN F m + F m
theorem sumN_congr {F H : Nat → Int} : ∀ m, (∀ i, i < m → F i = H i) → sumN F m = sumN H m
  | 0, _ => rfl
  | m + 1, h => by unfold sumN; rw [sumN_congr m (fun i hi => h i (by omega)), h m (by omega)]
theorem sumN_add (F : Nat → Int) (a : Nat) : ∀ b, sumN F (a + b) = sumN F a + sumN (fun i => F (a + i)) b
  | 0 => by simp [sumN]
  | b + 1 => by
    rw [show a + (b + 1) = (a + b) + 1 by omega]
    rw [show sumN F ((a + b) + 1) = sumN F (a + b) + F (a + b) from rfl, show sumN (fun i => F (a + i)) (b + 1) = sumN (fun i => F (a + i)) b + F (a + b) from rfl, sumN_add F a b]; omega
/-- Where a size was. -/
def tau (n k i : Nat) : Nat := (i + k) % n
theorem tau_lt {n k i : Nat} (h : 0 < n) : tau n k i < n := Nat.mod_lt _ h
theorem sumN_turn (F : Nat → Int) {n k : Nat} (hk : k < n) : sumN (fun i => F (tau n k i)) n = sumN F n := by
  have e1 : sumN (fun i => F (tau n k i)) n = sumN (fun i => F (tau n k i)) (n - k) + sumN (fun i => F (tau n k (n - k + i))) k := by
    have h := sumN_add (fun i => F (tau n k i)) (n - k) k
    rwa [show n - k + k = n by omega] at h
  have e2 : sumN F n = sumN F k + sumN (fun i => F (k + i)) (n - k) := by
    have h := sumN_add F k (n - k)
    rwa [show k + (n - k) = n by omega] at h
  have e3 : sumN (fun i => F (tau n k i)) (n - k) = sumN (fun i => F (k + i)) (n - k) := sumN_congr _ fun i hi => by
    have : tau n k i = k + i := by unfold tau; rw [Nat.mod_eq_of_lt (by omega)]; omega
    rw [this]
  have e4 : sumN (fun i => F (tau n k (n - k + i))) k = sumN F k := sumN_congr _ fun i hi => by
    have : tau n k (n - k + i) = i := by
      unfold tau
      rw [show n - k + i + k = i + n by omega, Nat.add_mod_right, Nat.mod_eq_of_lt (by omega)]
    rw [this]
  rw [e1, e2, e3, e4]; omega
theorem liftAt_sum (pl : List Int) (gr : List (List Int)) (j : Nat) : ∀ m, liftAt pl gr j m = sumN (fun f => pl.getD f 0 * (gr.getD f []).getD j 0 / 1000) m
  | 0 => rfl
  | m + 1 => by unfold liftAt sumN; rw [liftAt_sum pl gr j m]
/-- The plan with its sizes turned by k. -/
def turnD (d : PD) (k : Nat) : PD :=
  ⟨(List.range d.s.length).map fun i => d.s.getD (tau d.s.length k i) (0, 0), (List.range d.s.length).map fun i => d.r.getD (tau d.s.length k i) 0,
    (List.range d.s.length).map fun i => (List.range d.s.length).map fun j => (d.g.getD (tau d.s.length k i) []).getD (tau d.s.length k j) (0, 0),
    (List.range d.s.length).map fun i => d.e.getD (tau d.s.length k i) 0, (List.range d.s.length).map fun i => d.k.getD (tau d.s.length k i) 0, d.lo, d.hi, d.years⟩
theorem rangeD {α : Type} (f : Nat → α) {n i : Nat} (h : i < n) (z : α) : ((List.range n).map f).getD i z = f i := by simp [List.getD, h]
theorem turn_len (d : PD) (k : Nat) : (turnD d k).s.length = d.s.length := by simp [turnD]
theorem getD_mem2 {α : Type} {l : List α} {i : Nat} {z : α} (h : i < l.length) : l.getD i z ∈ l := by
  rw [List.getD, List.getElem?_eq_getElem h]; simp
theorem getD_map2 {α β : Type} (f : α → β) {l : List α} {i : Nat} (h : i < l.length) (z : α) (y : β) : (l.map f).getD i y = f (l.getD i z) := by
  simp [List.getD, h]
theorem turn_valid {d : PD} {k : Nat} (h : validD d = true) : validD (turnD d k) = true := by
  simp only [validD, Bool.and_eq_true, decide_eq_true_eq, List.all_eq_true] at h ⊢
  obtain ⟨⟨⟨⟨⟨⟨⟨⟨h1, h2, h3⟩, h4, h5⟩, h6⟩, h7, h8⟩, h9, h10⟩, h11, h12⟩, h13⟩, h14⟩ := h
  have hn : 0 < d.s.length := by omega
  have ht : ∀ i, tau d.s.length k i < d.s.length := fun i => tau_lt hn
  have hsl : (turnD d k).s.length = d.s.length := turn_len d k
  rw [hsl]
  have hgr : ∀ i, (d.g.getD (tau d.s.length k i) []) ∈ d.g := fun i => getD_mem2 (by have := ht i; omega)
  refine ⟨⟨⟨⟨⟨⟨⟨⟨h1, trivial, fun r hr => ?_⟩, by simp [turnD], fun r hr => ?_⟩, ?_⟩, by simp [turnD], fun r hr => ?_⟩, by simp [turnD], fun r hr => ?_⟩, by simp [turnD], fun r hr => ?_⟩, h13⟩, h14⟩
  · obtain ⟨i, _, rfl⟩ := List.mem_map.1 hr
    exact h3 _ (getD_mem2 (ht i))
  · obtain ⟨i, _, rfl⟩ := List.mem_map.1 hr
    exact h5 _ (getD_mem2 (by have := ht i; omega))
  · rw [pairedB_iff] at h6 ⊢
    refine ⟨by simp [turnD], fun i x y hx hy => ?_⟩
    obtain ⟨hi, rfl⟩ := range_at hx
    obtain ⟨_, rfl⟩ := range_at hy
    have a1 := ht i
    exact h6.2 (tau d.s.length k i) _ _ (by simp [List.getD, a1]) (by have : tau d.s.length k i < d.r.length := by omega
                                                                      simp [List.getD, this])
  · obtain ⟨i, _, rfl⟩ := List.mem_map.1 hr
    have h := h8 _ (hgr i)
    simp only [rowD, Bool.and_eq_true, decide_eq_true_eq, List.all_eq_true] at h ⊢
    refine ⟨by simp, fun q hq => ?_⟩
    obtain ⟨j, _, rfl⟩ := List.mem_map.1 hq
    exact h.2 _ (getD_mem2 (by have := ht j; have := h.1; omega))
  · obtain ⟨i, _, rfl⟩ := List.mem_map.1 hr
    exact h10 _ (getD_mem2 (by have := ht i; omega))
  · obtain ⟨i, _, rfl⟩ := List.mem_map.1 hr
    exact h12 _ (getD_mem2 (by have := ht i; omega))
theorem turn_fault {d : PD} {k : Nat} (h : faultD d = 0) : faultD (turnD d k) = 0 := by
  unfold faultD at h ⊢
  rw [turn_len]
  by_cases h5 : 5 < d.s.length
  · rw [if_pos h5] at h; exact absurd h (by decide)
  · rw [if_neg h5] at h ⊢
    by_cases hv : validD d = true
    · rw [if_pos (turn_valid hv)]
    · rw [if_neg hv] at h; exact absurd h (by decide)
theorem turn_grow {d : PD} (k : Nat) (hg : d.g.length = d.s.length) (hr : ∀ x, x ∈ d.g → x.length = d.s.length) (fb : Int × Int → Int) {i j : Nat} (hi : i < d.s.length) (hj : j < d.s.length) :
    ((growF (turnD d k) fb).getD i []).getD j 0 = ((growF d fb).getD (tau d.s.length k i) []).getD (tau d.s.length k j) 0 := by
  have hn : 0 < d.s.length := by omega
  have h1 : tau d.s.length k i < d.g.length := by rw [hg]; exact tau_lt hn
  have h2 : tau d.s.length k j < (d.g.getD (tau d.s.length k i) []).length := by rw [hr _ (getD_mem2 h1)]; exact tau_lt hn
  unfold growF
  rw [getD_map2 (fun x : List (Int × Int) => x.map fb) h1 [] [], getD_map2 fb h2 (0, 0) 0]
  rw [getD_map2 (fun x : List (Int × Int) => x.map fb) (l := (turnD d k).g) (by simp [turnD]; exact hi) [] []]
  have e : (turnD d k).g.getD i [] = (List.range d.s.length).map fun j => (d.g.getD (tau d.s.length k i) []).getD (tau d.s.length k j) (0, 0) := rangeD _ hi _
  rw [e, getD_map2 fb (by simp; exact hj) (0, 0) 0, rangeD _ hj]
theorem turn_lift {d : PD} {k : Nat} (hk : k < d.s.length) (hg : d.g.length = d.s.length) (hr : ∀ x, x ∈ d.g → x.length = d.s.length) (fb : Int × Int → Int) {pl pl' : List Int} (hp : ∀ i, i < d.s.length → pl'.getD i 0 = pl.getD (tau d.s.length k i) 0)
    {i : Nat} (hi : i < d.s.length) : lifD (turnD d k) (growF (turnD d k) fb) pl' i = lifD d (growF d fb) pl (tau d.s.length k i) := by
  unfold lifD
  rw [turn_len, liftAt_sum, liftAt_sum, ← sumN_turn (fun f => pl.getD f 0 * ((growF d fb).getD f []).getD (tau d.s.length k i) 0 / 1000) hk]
  exact sumN_congr _ fun f hf => by rw [hp f hf, turn_grow k hg hr fb hf hi]
theorem turn_year {d : PD} {k : Nat} (hk : k < d.s.length) (hg : d.g.length = d.s.length) (hr : ∀ x, x ∈ d.g → x.length = d.s.length) (fb : Int × Int → Int) {pl pl' : List Int} (hp : ∀ i, i < d.s.length → pl'.getD i 0 = pl.getD (tau d.s.length k i) 0)
    (loss : Int) {i : Nat} (hi : i < d.s.length) : solD (turnD d k) (growF (turnD d k) fb) pl' i = solD d (growF d fb) pl (tau d.s.length k i) ∧ losD (turnD d k) (growF (turnD d k) fb) loss pl' i = losD d (growF d fb) loss pl (tau d.s.length k i) ∧
      plaD (turnD d k) (growF (turnD d k) fb) loss pl' i = plaD d (growF d fb) loss pl (tau d.s.length k i) := by
  have e := turn_lift hk hg hr fb hp hi
  have e1 : (turnD d k).e.getD i 0 = d.e.getD (tau d.s.length k i) 0 := rangeD _ hi _
  have e2 : (turnD d k).k.getD i 0 = d.k.getD (tau d.s.length k i) 0 := rangeD _ hi _
  have e3 : (turnD d k).r.getD i 0 = d.r.getD (tau d.s.length k i) 0 := rangeD _ hi _
  unfold plaD losD solD
  rw [e, e1, e2, e3]
  exact ⟨rfl, rfl, rfl⟩
theorem turn_pl {d : PD} {k : Nat} (hn : d.s.length ≤ 5) (hk : k < d.s.length) (hg : d.g.length = d.s.length) (hr : ∀ x, x ∈ d.g → x.length = d.s.length) (fa fb : Int × Int → Int) (loss : Int) :
    ∀ y i, i < d.s.length → (plD (turnD d k) (fun _ => growF (turnD d k) fb) (fun _ => loss) (pad5 ((turnD d k).s.map fa)) y).getD i 0 = (plD d (fun _ => growF d fb) (fun _ => loss) (pad5 (d.s.map fa)) y).getD (tau d.s.length k i) 0
  | 0, i, hi => by
    have ht : tau d.s.length k i < d.s.length := tau_lt (by omega)
    have e : ∀ (l : List (Int × Int)) (j : Nat), j < l.length → (pad5 (l.map fa)).getD j 0 = fa (l.getD j (0, 0)) := fun l j hj => by
      rw [List.getD, pad5_lt (by simpa using hj), ← List.getD, getD_map2 fa hj (0, 0) 0]
    show (pad5 ((turnD d k).s.map fa)).getD i 0 = (pad5 (d.s.map fa)).getD (tau d.s.length k i) 0
    rw [e _ _ (by rw [turn_len]; exact hi), e _ _ ht]
    exact congrArg fa (rangeD _ hi _)
  | y + 1, i, hi => by
    have ih := turn_pl hn hk hg hr fa fb loss y
    rw [plD_at _ _ _ _ _ (by rw [turn_len]; exact hi) (by rw [turn_len]; exact hn), plD_at _ _ _ _ _ (tau_lt (by omega)) hn]
    exact (turn_year hk hg hr fb ih loss hi).2.2
theorem turn_sea {d : PD} {k : Nat} (hn : d.s.length ≤ 5) (hk : k < d.s.length) (hg : d.g.length = d.s.length) (hr : ∀ x, x ∈ d.g → x.length = d.s.length) (fa fb fc fd : Int × Int → Int) (y : Nat) {i : Nat} (hi : i < d.s.length) :
    (seaD (turnD d k) fa fb fc fd y).getD i 0 = (seaD d fa fb fc fd y).getD (tau d.s.length k i) 0 ∧ (seaD (turnD d k) fa fb fc fd y).getD (5 + i) 0 = (seaD d fa fb fc fd y).getD (5 + tau d.s.length k i) 0 ∧
    (seaD (turnD d k) fa fb fc fd y).getD (10 + i) 0 = (seaD d fa fb fc fd y).getD (10 + tau d.s.length k i) 0 ∧ (seaD (turnD d k) fa fb fc fd y).getD (15 + i) 0 = (seaD d fa fb fc fd y).getD (15 + tau d.s.length k i) 0 := by
  have ht : tau d.s.length k i < d.s.length := tau_lt (by omega)
  have a := sea_at (d := turnD d k) (by rw [turn_len]; exact hn) fa fb fc fd y (show i < (turnD d k).s.length by rw [turn_len]; exact hi)
  have b := sea_at hn fa fb fc fd y ht
  have hp := turn_pl (d := d) (k := k) hn hk hg hr fa fb (fc (d.lo, d.hi)) y
  have e0 := turn_lift hk hg hr fb hp hi
  have e1 := turn_year hk hg hr fb hp (fd (d.lo, d.hi)) hi
  have e2 := turn_year hk hg hr fb hp (fc (d.lo, d.hi)) hi
  rw [b.1, b.2.1, b.2.2.1, b.2.2.2, a.1, a.2.1, a.2.2.1, a.2.2.2]
  exact ⟨e0, e1.1, e1.2.1, e2.2.2⟩
/-- The bounds of the turned plan are those of the plan, turned. -/
theorem turn_bnd {d : PD} {k : Nat} (hn : d.s.length ≤ 5) (hk : k < d.s.length) (hg : d.g.length = d.s.length) (hr : ∀ x, x ∈ d.g → x.length = d.s.length) (y : Nat) {i : Nat} (hi : i < d.s.length) :
    ∃ ra rb rc re : Int × Int, ((bndD d y).1[tau d.s.length k i]? = some ra ∧ (bndD d y).2.1[tau d.s.length k i]? = some rb ∧ (bndD d y).2.2.1[tau d.s.length k i]? = some rc ∧ (bndD d y).2.2.2[tau d.s.length k i]? = some re) ∧
      ((bndD (turnD d k) y).1[i]? = some ra ∧ (bndD (turnD d k) y).2.1[i]? = some rb ∧ (bndD (turnD d k) y).2.2.1[i]? = some rc ∧ (bndD (turnD d k) y).2.2.2[i]? = some re) := by
  have a := bnd_at d hn y (tau_lt (k := k) (i := i) (show 0 < d.s.length by omega))
  have b := bnd_at (turnD d k) (by rw [turn_len]; exact hn) y (show i < (turnD d k).s.length by rw [turn_len]; exact hi)
  have l := turn_sea hn hk hg hr (·.1) (·.1) (·.2) (·.1) y hi
  have h := turn_sea hn hk hg hr (·.2) (·.2) (·.1) (·.2) y hi
  have el : lowD (turnD d k) y = seaD (turnD d k) (·.1) (·.1) (·.2) (·.1) y := rfl
  have eh : highD (turnD d k) y = seaD (turnD d k) (·.2) (·.2) (·.1) (·.2) y := rfl
  have el' : lowD d y = seaD d (·.1) (·.1) (·.2) (·.1) y := rfl
  have eh' : highD d y = seaD d (·.2) (·.2) (·.1) (·.2) y := rfl
  refine ⟨_, _, _, _, a, ?_⟩
  rw [b.1, b.2.1, b.2.2.1, b.2.2.2, el, eh, el', eh', l.1, l.2.1, l.2.2.1, l.2.2.2, h.1, h.2.1, h.2.2.1, h.2.2.2]
  exact ⟨rfl, rfl, rfl, rfl⟩
end Go.Proofs.Ytopiidfhjfbmfaa

/- StockSizes: the memory between two rounds of the loop that turns the sizes. -/
namespace Go.Proofs.Ytopiidfhjfbmfaa
open Go.RowKit Go.Lib

/-- Rows of ranges, of lists of ranges. -/
def rowR (B : Nat) (v : Value) (l : List (Int × Int)) : RowO := ⟨B, 26, 2, v, l.length, l.flatMap encR⟩
def rowV (B : Nat) (v : Value) (l : List (Sv (Int × Int))) : RowO := ⟨B, 22, 1, v, l.length, l.flatMap encV⟩
theorem Since.appR {w0 w w' : World} {l0 l : List RowO} (h : Since w0 l0 l w) {i B : Nat} {v : Value} {xs : List (Int × Int)} (hi : l[i]? = some (rowR B v xs)) {g c : Nat} {x : Int × Int}
    (hown : w'.ownsRow B 26 2 (.slice (some ⟨g, 0, none⟩) (xs.length + 1) c) (xs.length + 1) (xs.flatMap encR ++ [.int .i64 x.1, .int .i64 x.2])) (hg : w.grownBy w' v.ownBlock) (hat : v.ownBlock = some g ∨ g = w.heap.size) :
    Since w0 l0 (l.set i (rowR B (.slice (some ⟨g, 0, none⟩) (xs.length + 1) c) (xs ++ [x]))) w' := by
  have h1 := h.app hi hown hg hat
  have e : rowR B (.slice (some ⟨g, 0, none⟩) (xs.length + 1) c) (xs ++ [x]) = ⟨(rowR B v xs).B, (rowR B v xs).e, (rowR B v xs).s, .slice (some ⟨g, 0, none⟩) (xs.length + 1) c, xs.length + 1, xs.flatMap encR ++ [.int .i64 x.1, .int .i64 x.2]⟩ := by
    simp [rowR, encR]
  rw [e]; exact h1
theorem Since.appV {w0 w w' : World} {l0 l : List RowO} (h : Since w0 l0 l w) {i B : Nat} {v : Value} {xs : List (Sv (Int × Int))} (hi : l[i]? = some (rowV B v xs)) {g c : Nat} {x : Sv (Int × Int)}
    (hown : w'.ownsRow B 22 1 (.slice (some ⟨g, 0, none⟩) (xs.length + 1) c) (xs.length + 1) (xs.flatMap encV ++ [x.val])) (hg : w.grownBy w' v.ownBlock) (hat : v.ownBlock = some g ∨ g = w.heap.size) :
    Since w0 l0 (l.set i (rowV B (.slice (some ⟨g, 0, none⟩) (xs.length + 1) c) (xs ++ [x]))) w' := by
  have h1 := h.app hi hown hg hat
  have e : rowV B (.slice (some ⟨g, 0, none⟩) (xs.length + 1) c) (xs ++ [x]) = ⟨(rowV B v xs).B, (rowV B v xs).e, (rowV B v xs).s, .slice (some ⟨g, 0, none⟩) (xs.length + 1) c, xs.length + 1, xs.flatMap encV ++ [x.val]⟩ := by
    simp [rowV]
  rw [e]; exact h1
/-- The first k of a row. -/
def colA {α : Type} (f : Nat → α) (k : Nat) : List α := (List.range k).map f
theorem colA_succ {α : Type} (f : Nat → α) (k : Nat) : colA f (k + 1) = colA f k ++ [f k] := by simp [colA, List.range_succ]
theorem colA_length {α : Type} (f : Nat → α) (k : Nat) : (colA f k).length = k := by simp [colA]
/-- The rows of the plan that grows, and the lists of ranges that it has. -/
def szR (B : Nat) (v0 v1 v2 v3 v4 : Value) (s : List (Int × Int)) (r : List Int) (g : List (Sv (Int × Int))) (e k : List Int) : List RowO :=
  [rowR B v0 s, rowI B v1 r, rowV B v2 g, rowI B v3 e, rowI B v4 k] ++ g.map fun x => rowR B x.val x.l
/-- The memory. -/
structure SzM (p : PlM) (w : World) (gx : Nat) (v0 v1 v2 v3 v4 : Value) (rs : List RowO) (wr : World) : Prop where
  pb : Lies wr w.heap.size 28 p.cells.toArray
  ob : Lies wr gx 28 #[v0, v1, v2, v3, v4, .int .i64 p.lo, .int .i64 p.hi, .int .i64 p.years]
  bel : Below w.heap.size w wr
  lt : w.heap.size < gx
  rows : Since wr rs rs wr
  bs : ∀ r : RowO, r ∈ rs → r.B = gx + 1 ∧ r.e ≠ 28
section
variable {p : PlM} {w wr wq : World} {gx : Nat} {v0 v1 v2 v3 v4 : Value} {rs : List RowO}
theorem SzM.far (M : SzM p w gx v0 v1 v2 v3 v4 rs wr) {k : Nat} (hk : k < gx + 1) : ∀ r : RowO, r ∈ rs → r.v.ownBlock ≠ some k := fun r hr e => by
  obtain ⟨i, hi⟩ := List.getElem?_of_mem hr
  have h := own_at (M.rows.own i r hi) e
  have h2 := (M.bs r hr).1
  omega
theorem SzM.call (M : SzM p w gx v0 v1 v2 v3 v4 rs wr) (hb : Below wr.heap.size wr wq) : SzM p w gx v0 v1 v2 v3 v4 rs wq := by
  have h := M.rows.call hb
  exact ⟨M.pb.call hb, M.ob.call hb, M.bel.trans (hb.mono M.bel.size), M.lt, Since.start h.own h.ne, M.bs⟩
theorem SzM.size (M : SzM p w gx v0 v1 v2 v3 v4 rs wr) : gx + 1 ≤ wr.heap.size := M.ob.in_
theorem SzM.since (M : SzM p w gx v0 v1 v2 v3 v4 rs wr) {rs' : List RowO} (h : Since wr rs rs' wq) (hbs : ∀ r : RowO, r ∈ rs' → r.B = gx + 1 ∧ r.e ≠ 28) : SzM p w gx v0 v1 v2 v3 v4 rs' wq := by
  refine ⟨h.lies M.pb (M.far (by have := M.lt; omega)), h.lies M.ob (M.far (by omega)), ?_, M.lt, Since.start h.own h.ne, hbs⟩
  exact M.bel.trans (h.below (fun r hr g e => by
    obtain ⟨i, hi⟩ := List.getElem?_of_mem hr
    have h2 := own_at (M.rows.own i r hi) e
    have h3 := (M.bs r hr).1
    have := M.lt
    omega) M.bel.size)
/-- Behind appends, and stores into the plan. -/
theorem SzM.stored (M : SzM p w gx v0 v1 v2 v3 v4 rs wr) {rs' : List RowO} (h : Since wr rs rs' wq) (hbs : ∀ r : RowO, r ∈ rs' → r.B = gx + 1 ∧ r.e ≠ 28) {u0 u1 u2 u3 u4 : Value} {wz : World} (ho : Only gx wq wz)
    (hl : Lies wz gx 28 #[u0, u1, u2, u3, u4, .int .i64 p.lo, .int .i64 p.hi, .int .i64 p.years]) : SzM p w gx u0 u1 u2 u3 u4 rs' wz := by
  have M2 := M.since h hbs
  refine ⟨ho.lies M2.pb (by have := M.lt; omega), hl, ho.below M2.bel (by have := M.lt; omega), M.lt, Since.start (fun i r hr => ?_) h.ne, hbs⟩
  exact own_only (h.own i r hr) M2.ob (hbs r (List.mem_of_getElem? hr)).2 ho
end
theorem szR_bs {B gx : Nat} (hB : B = gx + 1) {v0 v1 v2 v3 v4 : Value} {s : List (Int × Int)} {r : List Int} {g : List (Sv (Int × Int))} {e k : List Int} : ∀ q : RowO, q ∈ szR B v0 v1 v2 v3 v4 s r g e k → q.B = gx + 1 ∧ q.e ≠ 28 := fun q hq => by
  subst hB
  simp only [szR, List.mem_append, List.mem_cons, List.not_mem_nil, or_false, List.mem_map] at hq
  rcases hq with (rfl | rfl | rfl | rfl | rfl) | ⟨x, _, rfl⟩
  · exact ⟨rfl, show 26 ≠ 28 by decide⟩
  · exact ⟨rfl, show 3 ≠ 28 by decide⟩
  · exact ⟨rfl, show 22 ≠ 28 by decide⟩
  · exact ⟨rfl, show 3 ≠ 28 by decide⟩
  · exact ⟨rfl, show 3 ≠ 28 by decide⟩
  · exact ⟨rfl, show 26 ≠ 28 by decide⟩
theorem szR_bs2 {gx : Nat} {v0 v1 v2 v3 v4 v : Value} {s l : List (Int × Int)} {r : List Int} {g : List (Sv (Int × Int))} {e k : List Int} : ∀ q : RowO, q ∈ szR (gx + 1) v0 v1 v2 v3 v4 s r g e k ++ [rowR (gx + 1) v l] → q.B = gx + 1 ∧ q.e ≠ 28 := fun q hq => by
  rcases List.mem_append.1 hq with h | h
  · exact szR_bs rfl q h
  · simp only [List.mem_cons, List.not_mem_nil, or_false] at h
    subst h
    exact ⟨rfl, show 26 ≠ 28 by decide⟩
/-- A further row, not yet there. -/
theorem SzM.row {p : PlM} {w wr : World} {gx : Nat} {v0 v1 v2 v3 v4 : Value} {rs : List RowO} (M : SzM p w gx v0 v1 v2 v3 v4 rs wr) : SzM p w gx v0 v1 v2 v3 v4 (rs ++ [rowR (gx + 1) (.slice none 0 0) []]) wr := by
  refine ⟨M.pb, M.ob, M.bel, M.lt, Since.start (fun i r hr => ?_) (fun i j r r' hr hr' hij g hg => ?_), fun r hr => ?_⟩
  · by_cases hi : i < rs.length
    · rw [List.getElem?_append_left hi] at hr; exact M.rows.own i r hr
    · rw [List.getElem?_append_right (by omega)] at hr
      have hm := List.mem_of_getElem? hr
      simp only [List.mem_cons, List.not_mem_nil, or_false] at hm
      subst hm
      exact World.ownsRow_nil _ _ _ _
  · have nl : ∀ {i : Nat} {r : RowO}, (rs ++ [rowR (gx + 1) (.slice none 0 0) []])[i]? = some r → rs[i]? = some r ∨ r.v.ownBlock = none := fun {i r} hr => by
      by_cases hi : i < rs.length
      · rw [List.getElem?_append_left hi] at hr; exact .inl hr
      · rw [List.getElem?_append_right (by omega)] at hr
        have hm := List.mem_of_getElem? hr
        simp only [List.mem_cons, List.not_mem_nil, or_false] at hm
        subst hm
        exact .inr rfl
    rcases nl hr with h1 | h1
    · rcases nl hr' with h2 | h2
      · exact M.rows.ne i j r r' h1 h2 hij g hg
      · rw [h2]; simp
    · rw [h1] at hg; cases hg
  · rcases List.mem_append.1 hr with hr | hr
    · exact M.bs r hr
    · simp only [List.mem_cons, List.not_mem_nil, or_false] at hr
      subst hr
      exact ⟨rfl, show 26 ≠ 28 by decide⟩
theorem rowR_form {w : World} {B : Nat} {v : Value} {l : List (Int × Int)} (h : (rowR B v l).In w) : ∃ A c, v = .slice A l.length c ∧ Sl w w.heap.size 2 encR A l := by
  obtain ⟨A, c, e, _, hs⟩ := Sl.of_own (enc := encR) (l := l) (fun _ => rfl) (show w.ownsRow B 26 2 v l.length (l.flatMap encR) from h) rfl
  exact ⟨A, c, e, hs⟩
theorem rowV_form {w : World} {B : Nat} {v : Value} {l : List (Sv (Int × Int))} (h : (rowV B v l).In w) : ∃ A c, v = .slice A l.length c ∧ Sl w w.heap.size 1 encV A l := by
  obtain ⟨A, c, e, _, hs⟩ := Sl.of_own (enc := encV) (l := l) (fun _ => rfl) (show w.ownsRow B 22 1 v l.length (l.flatMap encV) from h) rfl
  exact ⟨A, c, e, hs⟩
theorem sl_none {α : Type} {w : World} {B k n : Nat} {enc : α → List Value} {A : Option Addr} {l : List α} (h : Sl w B k enc A l) (hl : l.length = n) (hn : 1 ≤ n) {P : Prop} : A = none → P := fun e => by
  obtain ⟨b, o, e2, _⟩ := h (by rintro rfl; simp at hl; omega)
  rw [e] at e2; cases e2
/-- The turned plan, as it lies. -/
theorem SzM.plan {p : PlM} {w wr : World} {gx K : Nat} {v0 v1 v2 v3 v4 : Value} {g : List (Sv (Int × Int))} (hv : p.Valid) (hg : g.map (·.l) = (turnD p.d K).g)
    (M : SzM p w gx v0 v1 v2 v3 v4 (szR (gx + 1) v0 v1 v2 v3 v4 (turnD p.d K).s (turnD p.d K).r g (turnD p.d K).e (turnD p.d K).k) wr) :
    ∃ q : PlM, q.d = turnD p.d K ∧ q.At wr wr.heap.size ∧ Lies wr gx 28 q.cells.toArray ∧ (q.r.A = none → q.r.l.length = 0 ∧ q.r.c = 0) ∧ (q.e.A = none → q.e.l.length = 0 ∧ q.e.c = 0) ∧ (q.k.A = none → q.k.l.length = 0 ∧ q.k.c = 0) := by
  have hn5 := hv.ok.n
  have hn1 := hv.ok.one
  obtain ⟨A0, c0, e0, s0⟩ := rowR_form (M.rows.own 0 _ rfl)
  obtain ⟨A1, c1, e1, s1⟩ := rowI_form (M.rows.own 1 _ rfl)
  obtain ⟨A2, c2, e2, s2⟩ := rowV_form (M.rows.own 2 _ rfl)
  obtain ⟨A3, c3, e3, s3⟩ := rowI_form (M.rows.own 3 _ rfl)
  obtain ⟨A4, c4, e4, s4⟩ := rowI_form (M.rows.own 4 _ rfl)
  have h := M.ob
  rw [e0, e1, e2, e3, e4] at h
  have l0 : (turnD p.d K).s.length = p.s.l.length := by simp [turnD]; rfl
  have l1 : (turnD p.d K).r.length = p.s.l.length := by simp [turnD]; rfl
  have l2 : g.length = p.s.l.length := by have := congrArg List.length hg; simp [turnD] at this; exact this
  have l3 : (turnD p.d K).e.length = p.s.l.length := by simp [turnD]; rfl
  have l4 : (turnD p.d K).k.length = p.s.l.length := by simp [turnD]; rfl
  have lr : ∀ x, x ∈ g → x.l.length = p.s.l.length := fun x hx => by
    have h1 : x.l ∈ (turnD p.d K).g := by rw [← hg]; exact List.mem_map.2 ⟨x, hx, rfl⟩
    simp only [turnD] at h1
    obtain ⟨i, _, e⟩ := List.mem_map.1 h1
    rw [← e]; simp; rfl
  have hrows : ∀ x, x ∈ g → Sl wr wr.heap.size 2 encR x.A x.l := fun x hx => by
    obtain ⟨i, hi⟩ := List.getElem?_of_mem hx
    have ho := M.rows.own (5 + i) (rowR (gx + 1) x.val x.l) (by
      unfold szR
      rw [List.getElem?_append_right (by simp), List.getElem?_map]
      simp [hi])
    obtain ⟨A, c, e, hs⟩ := rowR_form ho
    have : A = x.A := by have e' : Value.slice x.A x.l.length x.c = .slice A x.l.length c := e; cases e'; rfl
    rw [← this]; exact hs
  refine ⟨⟨⟨A0, (turnD p.d K).s, c0⟩, ⟨A1, (turnD p.d K).r, c1⟩, ⟨A2, g, c2⟩, ⟨A3, (turnD p.d K).e, c3⟩, ⟨A4, (turnD p.d K).k, c4⟩, p.lo, p.hi, p.years⟩, ?_, ⟨s0, s1, s2, hrows, s3, s4, by simp only; omega, by simp only; omega, by simp only; omega, fun x hx => by have := lr x hx; omega, by simp only; omega, by simp only; omega⟩, h, sl_none s1 l1 hn1, sl_none s3 l3 hn1, sl_none s4 l4 hn1⟩
  show PD.mk _ _ _ _ _ _ _ _ = turnD p.d K
  rw [hg]; rfl
end Go.Proofs.Ytopiidfhjfbmfaa

/- StockSizes: plans that are not played; the loop that turns the sizes. -/
namespace Go.Proofs.Ytopiidfhjfbmfaa
open Go.RowKit Go.Lib
attribute [local go_sem] Oper.semAt_some

theorem infoRefRanges : (Try.prog.info? 22).map (fun i => (i.zero, i.size, i.bytes)) = some (some (.slice none 0 0), 1, 24) := by kernel_rfl
theorem built_x (lo hi y : Int) : Try.prog.built 28 [(5, .agg #[.int .i64 lo, .int .i64 hi]), (6, .int .i64 y)] = some #[.slice none 0 0, .slice none 0 0, .slice none 0 0, .slice none 0 0, .slice none 0 0, .int .i64 lo, .int .i64 hi, .int .i64 y] := by kernel_rfl
set_option maxRecDepth 100000 in
set_option maxHeartbeats 1000000 in
theorem Sizes_no (p : PlM) (yr : Nat) (w : World) (hp : p.Lay w w.heap.size) (hr : readyB p = false) : Calls Try.prog 16 #[.agg p.cells.toArray, .int .u8 yr] w fun e w' => e = .returned (.bool true) ∧ Below w.heap.size w w' := by
  have l0 : Lies (w.alloc (.cells p.cells.toArray 28)) w.heap.size 28 p.cells.toArray := Lies.fresh _ _ _
  have b0 : Below w.heap.size w (w.alloc (.cells p.cells.toArray 28)) := (Below.refl _ _).alloc (Nat.le_refl _) _
  have hR := ready_any p _ (hp.below b0 b0.size)
  rw [hr] at hR
  have L0 := Lib.hid l0
  have B0 := Lib.hid b0
  have HR := Lib.hid hR
  clear l0 b0 hR hp hr
  unfold PlM.cells at HR ⊢
  go_enter Try.func16, Try.ntmps16
  go_wp2_with (first
    | (refine wpList_load_row (o := ⟨some 19, _, _, _, _, _⟩) ?_ 28 (.tmp 2) ?_ w.heap.size ?_ 28 p.cells.toArray (0, 0) _ L0.out Try.underlying28 rfl size28 ?_; rfl; rfl; rfl)
    | (go_at_call 51; refine HR.out.mono ?_; rintro e w1 ⟨rfl, hb1⟩)
    | (go_at_call 19; refine (awake_any _).mono ?_; rintro e w2 ⟨rfl, hb2⟩))
  go_ret
  have hx := B0.out.trans (hb1.mono B0.out.size)
  exact ⟨rfl, hx.trans (hb2.mono hx.size)⟩
set_option maxRecDepth 100000 in
set_option maxHeartbeats 4000000 in
theorem Sizes_yes (p : PlM) (yr : Nat) (w : World) (hp : p.Lay w w.heap.size) (hr : readyB p = true) (hyr : yr ≤ 255) : Calls Try.prog 16 #[.agg p.cells.toArray, .int .u8 yr] w fun e w' => e = .returned (.bool true) ∧ Below w.heap.size w w' := by
  obtain ⟨i0, hi, hz0, hz1, hz2⟩ := info_parts infoInt
  obtain ⟨i1, hj, hj0, hj1, hj2⟩ := info_parts infoRef
  obtain ⟨i2, hk, hk0, hk1, hk2⟩ := info_parts infoRefRanges
  obtain ⟨ht, hf⟩ := ready_iff.1 hr
  have hat := hp.at ht
  have hv := fault_zero hf
  have hn5 := hv.ok.n
  have hn1 := hv.ok.one
  obtain ⟨K, hK⟩ : ∃ K : Nat, (yr : Int) % (p.s.l.length : Int) = (K : Int) := ⟨yr % p.s.l.length, by rw [Int.natCast_emod]⟩
  have hKN : K < p.s.l.length := by
    have h1 := Int.emod_lt_of_pos (yr : Int) (show (0 : Int) < (p.s.l.length : Int) by omega)
    rw [hK] at h1; omega
  have l0 : Lies (w.alloc (.cells p.cells.toArray 28)) w.heap.size 28 p.cells.toArray := Lies.fresh _ _ _
  have b0 : Below w.heap.size w (w.alloc (.cells p.cells.toArray 28)) := (Below.refl _ _).alloc (Nat.le_refl _) _
  have hR := ready_any p _ (hp.below b0 b0.size)
  rw [hr] at hR
  have L0 := Lib.hid l0
  have B0 := Lib.hid b0
  have HR := Lib.hid hR
  have HP := Lib.hid hp
  have HAT := Lib.hid hat
  have HV := Lib.hid hv
  have HF := Lib.hid hf
  have HKK := Lib.hid hK
  have HI := Lib.hid hi
  have Hz0 := Lib.hid hz0
  have Hz1 := Lib.hid hz1
  have Hz2 := Lib.hid hz2
  have HJ := Lib.hid hj
  have Hj0 := Lib.hid hj0
  have Hj1 := Lib.hid hj1
  have Hj2 := Lib.hid hj2
  have HK := Lib.hid hk
  have Hk0 := Lib.hid hk0
  have Hk1 := Lib.hid hk1
  have Hk2 := Lib.hid hk2
  have hyz : (yr : Int) ≤ 255 := by omega
  have hy0 : (0 : Int) ≤ (yr : Int) := by omega
  have hnz1 : (1 : Int) ≤ (p.s.l.length : Int) := by omega
  have hnz5 : (p.s.l.length : Int) ≤ 5 := by omega
  have hkz : (K : Int) < (p.s.l.length : Int) := by omega
  have hkz0 : (0 : Int) ≤ (K : Int) := by omega
  clear l0 b0 hR hp hr hat hv hf hK ht hi hz0 hz1 hz2 hj hj0 hj1 hj2 hk hk0 hk1 hk2
  unfold PlM.cells at HR ⊢
  go_enter Try.func16, Try.ntmps16
  go_upto_region 5 with (first
    | (refine wpList_load_row (o := ⟨some 19, _, _, _, _, _⟩) ?_ 28 (.tmp 2) ?_ w.heap.size ?_ 28 p.cells.toArray (0, 0) _ L0.out Try.underlying28 rfl size28 ?_; rfl; rfl; rfl)
    | (go_at_call 51; refine HR.out.mono ?_; rintro e w1 ⟨rfl, hb1⟩; have L1 := Lib.hid (L0.out.call hb1); have B1 := Lib.hid (B0.out.trans (hb1.mono B0.out.size)); clear hb1; have d0 : w1.cell? ⟨w.heap.size, 0, none⟩ = some (.slice p.s.A p.s.l.length p.s.c) := L1.out.at_ 0; have d5 : w1.cell? ⟨w.heap.size, 5, none⟩ = some (.int .i64 p.lo) := L1.out.at_ 5; have d6 : w1.cell? ⟨w.heap.size, 6, none⟩ = some (.int .i64 p.hi) := L1.out.at_ 6; have d7 : w1.cell? ⟨w.heap.size, 7, none⟩ = some (.int .i64 p.years) := L1.out.at_ 7))
  have hKv := HKK.out
  (try rw [hKv])
  clear hKv
  go_upto_region 6 with (first
    | (refine wpList_build (o := ⟨some 34, _, _, _, _, _⟩) ?_ 28 #[(5, .tmp 31), (6, .tmp 33)] ?_ #[(5, .agg #[.int .i64 p.lo, .int .i64 p.hi]), (6, .int .i64 p.years)] ?_ #[.slice none 0 0, .slice none 0 0, .slice none 0 0, .slice none 0 0, .slice none 0 0, .int .i64 p.lo, .int .i64 p.hi, .int .i64 p.years] ?_ ?_; rfl; rfl; (simp [Act.eval]); exact built_x _ _ _)
    | (refine wpList_store_cells (o := ⟨none, .store 28 (.tmp 7) _, _, _, _, _⟩) ?_ 28 (.tmp 7) (.tmp 34) ?_ w1.heap.size 0 ?_ 28 zplan [.slice none 0 0, .slice none 0 0, .slice none 0 0, .slice none 0 0, .slice none 0 0, .int .i64 p.lo, .int .i64 p.hi, .int .i64 p.years] ?_ (Lies.fresh w1 28 zplan.toArray) (Nat.le_refl 8) size28 (by simp [Value.oneCell']) ?_; rfl; rfl; rfl; rfl; intro w3 HS3 HO3; (try simp only [Act.put])))
  have hz1 : w.heap.size + 1 ≤ w1.heap.size := L1.out.in_
  have hx3 : Lies w3 w1.heap.size 28 #[.slice none 0 0, .slice none 0 0, .slice none 0 0, .slice none 0 0, .slice none 0 0, .int .i64 p.lo, .int .i64 p.hi, .int .i64 p.years] := HS3.out
  have hp3 : Lies w3 w.heap.size 28 p.cells.toArray := HO3.out.lies (L1.out.alloc _) (by omega)
  have b3 : Below w.heap.size w w3 := HO3.out.below (B1.out.alloc B1.out.size _) (by omega)
  clear d0 d5 d6 d7 HS3 HO3 L1 L0 B0 B1 HR
  generalize w1.heap.size = gx at *
  have hM : SzM p w gx (.slice none 0 0) (.slice none 0 0) (.slice none 0 0) (.slice none 0 0) (.slice none 0 0) (szR (gx + 1) (.slice none 0 0) (.slice none 0 0) (.slice none 0 0) (.slice none 0 0) (.slice none 0 0) [] [] [] [] []) w3 := by
    refine ⟨hp3, hx3, b3, by omega, Since.start (fun i r hr => ?_) (fun i j r r' hr _ _ g hg => ?_), szR_bs rfl⟩
    · have hm := List.mem_of_getElem? hr
      simp only [szR, List.map_nil, List.append_nil, List.mem_cons, List.not_mem_nil, or_false] at hm
      rcases hm with rfl | rfl | rfl | rfl | rfl <;> exact World.ownsRow_nil _ _ _ _
    · have hm := List.mem_of_getElem? hr
      simp only [szR, List.map_nil, List.append_nil, List.mem_cons, List.not_mem_nil, or_false] at hm
      rcases hm with rfl | rfl | rfl | rfl | rfl <;> cases hg
  have HM := Lib.hid hM
  clear hM hx3 hp3 b3
  go_wp2
  go_loopw [8, 9, 10, 11] (fun i _ _ _ wr => ∃ (k : Nat) (v0 v1 v2 v3 v4 : Value) (g : List (Sv (Int × Int))), k ≤ p.s.l.length ∧ i = .int .i64 k ∧ Aside (SzM p w gx v0 v1 v2 v3 v4 (szR (gx + 1) v0 v1 v2 v3 v4 (colA (fun i => p.s.l.getD (tau p.s.l.length K i) (0, 0)) k) (colA (fun i => p.r.l.getD (tau p.s.l.length K i) 0) k) g (colA (fun i => p.e.l.getD (tau p.s.l.length K i) 0) k) (colA (fun i => p.k.l.getD (tau p.s.l.length K i) 0) k)) wr ∧ g.map (·.l) = colA (fun i => colA (fun j => (p.d.g.getD (tau p.s.l.length K i) []).getD (tau p.s.l.length K j) (0, 0)) p.s.l.length) k)) (fun i _ _ _ _ => p.s.l.length - (intOf i).toNat)
  case atStart => exact ⟨0, _, _, _, _, _, [], by omega, rfl, HM.out, rfl⟩
  case round =>
    obtain ⟨k, v0, v1, v2, v3, v4, g, hk, rfl, M, hg⟩ := hrel
    by_cases hlt : k < p.s.l.length
    · have hltz : (k : Int) < (p.s.l.length : Int) := by omega
      have hk0 : (0 : Int) ≤ (k : Int) := by omega
      have hO : ((k : Int) + (K : Int)) % (p.s.l.length : Int) = ((tau p.s.l.length K k : Nat) : Int) := by unfold tau; rw [Int.natCast_emod]; simp
      have hOl : tau p.s.l.length K k < p.s.l.length := tau_lt (by omega)
      have s0 := colA_succ (fun i => p.s.l.getD (tau p.s.l.length K i) (0, 0)) k
      have s1 := colA_succ (fun i => p.r.l.getD (tau p.s.l.length K i) 0) k
      have s3 := colA_succ (fun i => p.e.l.getD (tau p.s.l.length K i) 0) k
      have s4 := colA_succ (fun i => p.k.l.getD (tau p.s.l.length K i) 0) k
      have s2 := colA_succ (fun i => colA (fun j => (p.d.g.getD (tau p.s.l.length K i) []).getD (tau p.s.l.length K j) (0, 0)) p.s.l.length) k
      have c0 : (colA (fun i => p.s.l.getD (tau p.s.l.length K i) (0, 0)) k).length = k := colA_length _ _
      have c1 : (colA (fun i => p.r.l.getD (tau p.s.l.length K i) 0) k).length = k := colA_length _ _
      have c3 : (colA (fun i => p.e.l.getD (tau p.s.l.length K i) 0) k).length = k := colA_length _ _
      have c4 : (colA (fun i => p.k.l.getD (tau p.s.l.length K i) 0) k).length = k := colA_length _ _
      have cg : g.length = k := by have := congrArg List.length hg; simpa [colA] using this
      have qs : p.s.l[tau p.s.l.length K k]? = some (p.s.l.getD (tau p.s.l.length K k) (0, 0)) := by rw [List.getD, List.getElem?_eq_getElem hOl]; rfl
      have qr : p.r.l[tau p.s.l.length K k]? = some (p.r.l.getD (tau p.s.l.length K k) 0) := getD_some (by rw [HV.out.ok.r]; exact hOl)
      have qe : p.e.l[tau p.s.l.length K k]? = some (p.e.l.getD (tau p.s.l.length K k) 0) := getD_some (by rw [HV.out.ok.e]; exact hOl)
      have qk : p.k.l[tau p.s.l.length K k]? = some (p.k.l.getD (tau p.s.l.length K k) 0) := getD_some (by rw [HV.out.ok.k]; exact hOl)
      obtain ⟨G, qg⟩ : ∃ G, p.g.l[tau p.s.l.length K k]? = some G := ⟨p.g.l[tau p.s.l.length K k]'(by rw [HV.out.g]; exact hOl), by simp⟩
      have hGd : p.d.g.getD (tau p.s.l.length K k) [] = G.l := by show (p.g.l.map (·.l)).getD _ [] = _; simp [List.getD, qg]
      simp only [hGd] at s2
      have hGl : G.l.length = p.s.l.length := HV.out.gl G (List.mem_of_getElem? qg)
      have hGs := HAT.out.rows G (List.mem_of_getElem? qg)
      obtain ⟨bs, os, es, hbs, cs0, cs1⟩ := HAT.out.s.cellR qs
      obtain ⟨br, orr, er, hbr, cr⟩ := HAT.out.r.cell1 qr
      obtain ⟨be, oe, ee, hbe, ce⟩ := HAT.out.e.cell1 qe
      obtain ⟨bk, ok, ek, hbk, ck⟩ := HAT.out.k.cell1 qk
      obtain ⟨bg, og, eg, hbg, cgr⟩ := HAT.out.g.cell1 qg
      have hOr : ((tau p.s.l.length K k : Nat) : Int) < (p.r.l.length : Int) := by have := HV.out.ok.r; omega
      have hOe : ((tau p.s.l.length K k : Nat) : Int) < (p.e.l.length : Int) := by have := HV.out.ok.e; omega
      have hOk : ((tau p.s.l.length K k : Nat) : Int) < (p.k.l.length : Int) := by have := HV.out.ok.k; omega
      have hOg : ((tau p.s.l.length K k : Nat) : Int) < (p.g.l.length : Int) := by have := HV.out.g; omega
      have hOz : ((tau p.s.l.length K k : Nat) : Int) < (p.s.l.length : Int) := by omega
      have hO0 : (0 : Int) ≤ ((tau p.s.l.length K k : Nat) : Int) := by omega
      clear qs qr qe qk qg
      generalize p.s.l.getD (tau p.s.l.length K k) (0, 0) = xs at *
      generalize p.r.l.getD (tau p.s.l.length K k) 0 = xr at *
      generalize p.e.l.getD (tau p.s.l.length K k) 0 = xe at *
      generalize p.k.l.getD (tau p.s.l.length K k) 0 = xk at *
      generalize tau p.s.l.length K k = O at *
      generalize colA (fun i => p.s.l.getD (tau p.s.l.length K i) (0, 0)) k = ls at *
      generalize colA (fun i => p.r.l.getD (tau p.s.l.length K i) 0) k = lr at *
      generalize colA (fun i => p.e.l.getD (tau p.s.l.length K i) 0) k = le at *
      generalize colA (fun i => p.k.l.getD (tau p.s.l.length K i) 0) k = lk at *
      have S0 := Lib.hid s0
      have S1 := Lib.hid s1
      have S2 := Lib.hid s2
      have S3 := Lib.hid s3
      have S4 := Lib.hid s4
      have C0 := Lib.hid c0
      have C1 := Lib.hid c1
      have C3 := Lib.hid c3
      have C4 := Lib.hid c4
      have CG := Lib.hid cg
      have ES := Lib.hid es
      have ER := Lib.hid er
      have EE := Lib.hid ee
      have EK := Lib.hid ek
      have EG := Lib.hid eg
      have QS := Lib.hid (And.intro cs0 cs1)
      have QR := Lib.hid cr
      have QE := Lib.hid ce
      have QK := Lib.hid ck
      have QG := Lib.hid cgr
      have HG := Lib.hid hg
      have HGL := Lib.hid hGl
      have HGS := Lib.hid hGs
      have HOL := Lib.hid hOl
      have M1 := Lib.hid M
      have hlt0 : w.heap.size < gx := M.lt
      clear s0 s1 s2 s3 s4 c0 c1 c3 c4 cg es er ee ek eg cs0 cs1 cr ce ck cgr hg hGl hGs hGd hOl M HM
      go_upto_region 10 with (fail)
      rw [hO]
      clear hO
      go_cut [9] from 35 to 110 (fun s9 wx => s9 = .int .i64 O ∧ ∃ u0 u1, Aside (SzM p w gx u0 u1 v2 v3 v4 (szR (gx + 1) u0 u1 v2 v3 v4 (ls ++ [xs]) (lr ++ [xr]) g le lk) wx))
      case first =>
        as_aux_lemma =>
          have HLEN0 := C0
          have HLEN1 := C1
          have rS0 := SinceW.cell (w0 := wr) (l0 := szR (gx + 1) v0 v1 v2 v3 v4 ls lr g le lk) (show wr.cell? ⟨gx, 0, none⟩ = some v0 from M1.out.ob.at_ 0) (M1.out.far (k := gx) (by omega))
          have rS1 := SinceW.cell (w0 := wr) (l0 := szR (gx + 1) v0 v1 v2 v3 v4 ls lr g le lk) (show wr.cell? ⟨gx, 1, none⟩ = some v1 from M1.out.ob.at_ 1) (M1.out.far (k := gx) (by omega))
          have rX0 := SinceW.cell (w0 := wr) (l0 := szR (gx + 1) v0 v1 v2 v3 v4 ls lr g le lk) (show wr.cell? ⟨w.heap.size, 0, none⟩ = some (.slice (some ⟨bs, os, none⟩) p.s.l.length p.s.c) by rw [← ES.out]; exact M1.out.pb.at_ 0) (M1.out.far (k := w.heap.size) (by omega))
          have rX1 := SinceW.cell (w0 := wr) (l0 := szR (gx + 1) v0 v1 v2 v3 v4 ls lr g le lk) (show wr.cell? ⟨w.heap.size, 1, none⟩ = some (.slice (some ⟨br, orr, none⟩) p.r.l.length p.r.c) by rw [← ER.out]; exact M1.out.pb.at_ 1) (M1.out.far (k := w.heap.size) (by omega))
          have rX2 := SinceW.cell (w0 := wr) (l0 := szR (gx + 1) v0 v1 v2 v3 v4 ls lr g le lk) (show wr.cell? ⟨bs, os + O * 2, none⟩ = some (.int .i64 xs.1) by rw [M1.out.bel.cell (p := ⟨bs, os + O * 2, none⟩) hbs]; exact QS.out.1) (M1.out.far (k := bs) (by omega))
          have rX3 := SinceW.cell (w0 := wr) (l0 := szR (gx + 1) v0 v1 v2 v3 v4 ls lr g le lk) (show wr.cell? ⟨bs, os + O * 2 + 1, none⟩ = some (.int .i64 xs.2) by rw [M1.out.bel.cell (p := ⟨bs, os + O * 2 + 1, none⟩) hbs]; exact QS.out.2) (M1.out.far (k := bs) (by omega))
          have rX4 := SinceW.cell (w0 := wr) (l0 := szR (gx + 1) v0 v1 v2 v3 v4 ls lr g le lk) (show wr.cell? ⟨br, orr + O, none⟩ = some (.int .i64 xr) by rw [M1.out.bel.cell (p := ⟨br, orr + O, none⟩) hbr]; exact QR.out) (M1.out.far (k := br) (by omega))
          have hold0 : ∀ g, v0.ownBlock = some g → g < wr.heap.size := fun g e => (own_at (M1.out.rows.own 0 _ rfl) e).2.1
          have HOLD0 := Lib.hid hold0
          have hold1 : ∀ g, v1.ownBlock = some g → g < wr.heap.size := fun g e => (own_at (M1.out.rows.own 1 _ rfl) e).2.1
          have HOLD1 := Lib.hid hold1
          have HSa := Lib.hid (M1.out.rows.drew)
          clear hold0 hold1
          haveI hnewr : Nonempty (SinceW wr (szR (gx + 1) v0 v1 v2 v3 v4 ls lr g le lk)) := ⟨⟨_, _, HSa.out⟩⟩
          refine wp_region_ways3 19 [0, 1, 2, 3, 4, 5, 6, 9, 10, 11, 12, 13, 14, 15] (.way 7 (.way 8 (.take 18 (.way 16 (.way 17 .fin .fin) .fin)) (.way 16 (.way 8 (.take 18 (.way 17 .fin .fin)) .fin) .fin)) (.way 16 (.way 7 (.way 8 (.take 18 (.way 17 .fin .fin)) .fin) .fin) .fin)) (fun W => ∃ c : SinceW wr (szR (gx + 1) v0 v1 v2 v3 v4 ls lr g le lk), W = c.val) (by kernel_rfl) (by kernel_rfl) HSa.out.here ?_
          simp only [List.filterMap_cons, List.filterMap_nil, List.take_succ_cons, List.take_zero, List.getElem?_toArray, List.getElem?_cons_zero, List.getElem?_cons_succ, List.drop_succ_cons, List.drop_zero]
          repeat (first | go_big_quiet_step (fail) | quiet_step (fail))
          refine wpQuiet_nil ?_
          have hzd : wr.heap.size ≤ wr.drew.heap.size := Nat.le_refl _
          generalize wr.drew = wd at *
          clear rS0 rS1 rX0 rX1 rX2 rX3 rX4
          rw [wpWy_way]
          refine ⟨?_, ?_⟩
          · skip
            simp only [List.getElem?_toArray, List.getElem?_cons_succ, List.getElem?_cons_zero]
            go_wp2_with (fail)
            have HS1 := Lib.hid (HSa.out.alloc (.cells #[.int .i64 xs.1, .int .i64 xs.2] 26))
            have LB2 : Hid (Lies (wd.alloc (.cells #[.int .i64 xs.1, .int .i64 xs.2] 26)) (wd.heap.size) 26 #[.int .i64 xs.1, .int .i64 xs.2]) := Lib.hid (Lies.fresh' (by simp))
            refine Ends.intro ⟨HS1.out.here, ?_⟩
            rw [wpWy_way]
            refine ⟨?_, ?_⟩
            · skip
              simp only [List.getElem?_toArray, List.getElem?_cons_succ, List.getElem?_cons_zero]
              have HO3 : Hid (World.ownsRow (wd.alloc (.cells #[.int .i64 xs.1, .int .i64 xs.2] 26)) (gx + 1) 26 2 v0 ls.length (ls.flatMap encR)) := Lib.hid (HS1.out.own 0 _ rfl)
              have HN4 := Lib.hid (news_lies (cs := [.int .i64 xs.1, .int .i64 xs.2]) LB2.out)
              have hbase5 : gx + 1 ≤ ((wd.alloc (.cells #[.int .i64 xs.1, .int .i64 xs.2] 26))).heap.size := by have h := HS1.out.size; have h2 := M1.out.ob.in_; omega
              go_wp2_with (at_builtin; refine wpList_append_lies _ rfl (.tmp 46) (.tmp 52) 22 rfl (gx + 1) 26 i1 _ 2 16 Try.underlying22 HJ.out Hj0.out Hj1.out Hj2.out rfl (by decide) v0 ls.length (ls.flatMap encR) rfl HO3.out ⟨wd.heap.size, 0, none⟩ 1 1 [.int .i64 xs.1, .int .i64 xs.2] rfl rfl HN4.out (by intro u hu; simp at hu; rcases hu with rfl | rfl <;> rfl) Nat.one_pos (by unfold maxLen; have := HLEN0.out; omega) (by have := HLEN0.out; omega) hbase5 _ rfl ?_; intro g6 cap6 wn6 hown6 hg6 hat6 hlt6)
              have HS7 := Lib.hid (HS1.out.appR (i := 0) (x := xs) rfl hown6 hg6 hat6)
              clear hown6 hg6 hat6 hlt6
              refine Ends.intro ⟨HS7.out.here, ?_⟩
              rw [wpWy_take]
              simp only [List.getElem?_toArray, List.getElem?_cons_succ, List.getElem?_cons_zero]
              repeat (first | go_big_quiet_step (fail) | quiet_step (fail))
              refine wpQuiet_nil ?_
              rw [wpWy_way]
              refine ⟨?_, ?_⟩
              · skip
                simp only [List.getElem?_toArray, List.getElem?_cons_succ, List.getElem?_cons_zero]
                go_wp2_with (fail)
                have HS8 := Lib.hid (HS7.out.alloc (.cells #[.int .i64 xr] 3))
                have LB9 : Hid (Lies (wn6.alloc (.cells #[.int .i64 xr] 3)) (wn6.heap.size) 3 #[.int .i64 xr]) := Lib.hid (Lies.fresh' (by simp))
                have LB10 := Lib.hid (LB2.out.alloc (.cells #[.int .i64 xr] 3))
                refine Ends.intro ⟨HS8.out.here, ?_⟩
                rw [wpWy_way]
                refine ⟨?_, ?_⟩
                · skip
                  simp only [List.getElem?_toArray, List.getElem?_cons_succ, List.getElem?_cons_zero]
                  have HO11 : Hid (World.ownsRow (wn6.alloc (.cells #[.int .i64 xr] 3)) (gx + 1) 3 1 v1 lr.length (lr.map (Value.int .i64))) := Lib.hid (HS8.out.own 1 _ rfl)
                  have HN12 := Lib.hid (news_lies (cs := [.int .i64 xr]) LB9.out)
                  have hbase13 : gx + 1 ≤ ((wn6.alloc (.cells #[.int .i64 xr] 3))).heap.size := by have h := HS8.out.size; have h2 := M1.out.ob.in_; omega
                  go_wp2_with (at_builtin; refine wpList_append_lies _ rfl (.tmp 55) (.tmp 61) 23 rfl (gx + 1) 3 i0 _ 1 8 Try.underlying23 HI.out Hz0.out Hz1.out Hz2.out rfl (by decide) v1 lr.length (lr.map (Value.int .i64)) rfl HO11.out ⟨wn6.heap.size, 0, none⟩ 1 1 [.int .i64 xr] rfl rfl HN12.out (by intro u hu; simp at hu; rcases hu with rfl | rfl <;> rfl) Nat.one_pos (by unfold maxLen; have := HLEN1.out; omega) (by have := HLEN1.out; omega) hbase13 _ rfl ?_; intro g14 cap14 wn14 hown14 hg14 hat14 hlt14)
                  have HS15 := Lib.hid (HS8.out.appI (i := 1) rfl hown14 hg14 hat14)
                  clear hown14 hg14 hat14 hlt14
                  refine Ends.intro ⟨HS15.out.here, ?_⟩
                  rw [wpWy_fin]
                  have HOB16 := Lib.hid (HS15.out.lies M1.out.ob (M1.out.far (by omega)))
                  have cS0 : wn14.cell? ⟨gx, 0, none⟩ = some v0 := HOB16.out.at_ 0
                  have fS0 : wn14.frozen? ⟨gx, 0, none⟩ = false := HOB16.out.free 0
                  have cS1 : wn14.cell? ⟨gx, 1, none⟩ = some v1 := HOB16.out.at_ 1
                  have fS1 : wn14.frozen? ⟨gx, 1, none⟩ = false := HOB16.out.free 1
                  go_wp2_with (fail)
                  go_meet
                  exact ⟨rfl, _, _, M1.out.stored HS15.out (szR_bs rfl) ((Only.set _ 0 _ _).trans (Only.set _ 1 _ _)) ((HOB16.out.set 0 _).set 1 _)⟩
                exact trivial
              exact trivial
            rw [wpWy_way]
            refine ⟨?_, ?_⟩
            · skip
              simp only [List.getElem?_toArray, List.getElem?_cons_succ, List.getElem?_cons_zero]
              go_wp2_with (fail)
              have HS17 := Lib.hid (HS1.out.alloc (.cells #[.int .i64 xr] 3))
              have LB18 : Hid (Lies ((wd.alloc (.cells #[.int .i64 xs.1, .int .i64 xs.2] 26)).alloc (.cells #[.int .i64 xr] 3)) (wd.heap.size + 1) 3 #[.int .i64 xr]) := Lib.hid (Lies.fresh' (by simp))
              have LB19 := Lib.hid (LB2.out.alloc (.cells #[.int .i64 xr] 3))
              refine Ends.intro ⟨HS17.out.here, ?_⟩
              rw [wpWy_way]
              refine ⟨?_, ?_⟩
              · skip
                simp only [List.getElem?_toArray, List.getElem?_cons_succ, List.getElem?_cons_zero]
                have HO20 : Hid (World.ownsRow ((wd.alloc (.cells #[.int .i64 xs.1, .int .i64 xs.2] 26)).alloc (.cells #[.int .i64 xr] 3)) (gx + 1) 26 2 v0 ls.length (ls.flatMap encR)) := Lib.hid (HS17.out.own 0 _ rfl)
                have HN21 := Lib.hid (news_lies (cs := [.int .i64 xs.1, .int .i64 xs.2]) LB19.out)
                have hbase22 : gx + 1 ≤ (((wd.alloc (.cells #[.int .i64 xs.1, .int .i64 xs.2] 26)).alloc (.cells #[.int .i64 xr] 3))).heap.size := by have h := HS17.out.size; have h2 := M1.out.ob.in_; omega
                go_wp2_with (at_builtin; refine wpList_append_lies _ rfl (.tmp 46) (.tmp 52) 22 rfl (gx + 1) 26 i1 _ 2 16 Try.underlying22 HJ.out Hj0.out Hj1.out Hj2.out rfl (by decide) v0 ls.length (ls.flatMap encR) rfl HO20.out ⟨wd.heap.size, 0, none⟩ 1 1 [.int .i64 xs.1, .int .i64 xs.2] rfl rfl HN21.out (by intro u hu; simp at hu; rcases hu with rfl | rfl <;> rfl) Nat.one_pos (by unfold maxLen; have := HLEN0.out; omega) (by have := HLEN0.out; omega) hbase22 _ rfl ?_; intro g23 cap23 wn23 hown23 hg23 hat23 hlt23)
                have HS24 := Lib.hid (HS17.out.appR (i := 0) (x := xs) rfl hown23 hg23 hat23)
                have LB25 := Lib.hid (LB18.out.grown hg23 (fun e => by have := HOLD0.out _ e.symm; omega))
                clear hown23 hg23 hat23 hlt23
                refine Ends.intro ⟨HS24.out.here, ?_⟩
                rw [wpWy_take]
                simp only [List.getElem?_toArray, List.getElem?_cons_succ, List.getElem?_cons_zero]
                repeat (first | go_big_quiet_step (fail) | quiet_step (fail))
                refine wpQuiet_nil ?_
                rw [wpWy_way]
                refine ⟨?_, ?_⟩
                · skip
                  simp only [List.getElem?_toArray, List.getElem?_cons_succ, List.getElem?_cons_zero]
                  have HO26 : Hid (World.ownsRow wn23 (gx + 1) 3 1 v1 lr.length (lr.map (Value.int .i64))) := Lib.hid (HS24.out.own 1 _ rfl)
                  have HN27 := Lib.hid (news_lies (cs := [.int .i64 xr]) LB25.out)
                  have hbase28 : gx + 1 ≤ (wn23).heap.size := by have h := HS24.out.size; have h2 := M1.out.ob.in_; omega
                  go_wp2_with (at_builtin; refine wpList_append_lies _ rfl (.tmp 55) (.tmp 61) 23 rfl (gx + 1) 3 i0 _ 1 8 Try.underlying23 HI.out Hz0.out Hz1.out Hz2.out rfl (by decide) v1 lr.length (lr.map (Value.int .i64)) rfl HO26.out ⟨wd.heap.size + 1, 0, none⟩ 1 1 [.int .i64 xr] rfl rfl HN27.out (by intro u hu; simp at hu; rcases hu with rfl | rfl <;> rfl) Nat.one_pos (by unfold maxLen; have := HLEN1.out; omega) (by have := HLEN1.out; omega) hbase28 _ rfl ?_; intro g29 cap29 wn29 hown29 hg29 hat29 hlt29)
                  have HS30 := Lib.hid (HS24.out.appI (i := 1) rfl hown29 hg29 hat29)
                  clear hown29 hg29 hat29 hlt29
                  refine Ends.intro ⟨HS30.out.here, ?_⟩
                  rw [wpWy_fin]
                  have HOB31 := Lib.hid (HS30.out.lies M1.out.ob (M1.out.far (by omega)))
                  have cS0 : wn29.cell? ⟨gx, 0, none⟩ = some v0 := HOB31.out.at_ 0
                  have fS0 : wn29.frozen? ⟨gx, 0, none⟩ = false := HOB31.out.free 0
                  have cS1 : wn29.cell? ⟨gx, 1, none⟩ = some v1 := HOB31.out.at_ 1
                  have fS1 : wn29.frozen? ⟨gx, 1, none⟩ = false := HOB31.out.free 1
                  go_wp2_with (fail)
                  go_meet
                  exact ⟨rfl, _, _, M1.out.stored HS30.out (szR_bs rfl) ((Only.set _ 0 _ _).trans (Only.set _ 1 _ _)) ((HOB31.out.set 0 _).set 1 _)⟩
                exact trivial
              exact trivial
            exact trivial
          rw [wpWy_way]
          refine ⟨?_, ?_⟩
          · skip
            simp only [List.getElem?_toArray, List.getElem?_cons_succ, List.getElem?_cons_zero]
            go_wp2_with (fail)
            have HS32 := Lib.hid (HSa.out.alloc (.cells #[.int .i64 xr] 3))
            have LB33 : Hid (Lies (wd.alloc (.cells #[.int .i64 xr] 3)) (wd.heap.size) 3 #[.int .i64 xr]) := Lib.hid (Lies.fresh' (by simp))
            refine Ends.intro ⟨HS32.out.here, ?_⟩
            rw [wpWy_way]
            refine ⟨?_, ?_⟩
            · skip
              simp only [List.getElem?_toArray, List.getElem?_cons_succ, List.getElem?_cons_zero]
              go_wp2_with (fail)
              have HS34 := Lib.hid (HS32.out.alloc (.cells #[.int .i64 xs.1, .int .i64 xs.2] 26))
              have LB35 : Hid (Lies ((wd.alloc (.cells #[.int .i64 xr] 3)).alloc (.cells #[.int .i64 xs.1, .int .i64 xs.2] 26)) (wd.heap.size + 1) 26 #[.int .i64 xs.1, .int .i64 xs.2]) := Lib.hid (Lies.fresh' (by simp))
              have LB36 := Lib.hid (LB33.out.alloc (.cells #[.int .i64 xs.1, .int .i64 xs.2] 26))
              refine Ends.intro ⟨HS34.out.here, ?_⟩
              rw [wpWy_way]
              refine ⟨?_, ?_⟩
              · skip
                simp only [List.getElem?_toArray, List.getElem?_cons_succ, List.getElem?_cons_zero]
                have HO37 : Hid (World.ownsRow ((wd.alloc (.cells #[.int .i64 xr] 3)).alloc (.cells #[.int .i64 xs.1, .int .i64 xs.2] 26)) (gx + 1) 26 2 v0 ls.length (ls.flatMap encR)) := Lib.hid (HS34.out.own 0 _ rfl)
                have HN38 := Lib.hid (news_lies (cs := [.int .i64 xs.1, .int .i64 xs.2]) LB35.out)
                have hbase39 : gx + 1 ≤ (((wd.alloc (.cells #[.int .i64 xr] 3)).alloc (.cells #[.int .i64 xs.1, .int .i64 xs.2] 26))).heap.size := by have h := HS34.out.size; have h2 := M1.out.ob.in_; omega
                go_wp2_with (at_builtin; refine wpList_append_lies _ rfl (.tmp 46) (.tmp 52) 22 rfl (gx + 1) 26 i1 _ 2 16 Try.underlying22 HJ.out Hj0.out Hj1.out Hj2.out rfl (by decide) v0 ls.length (ls.flatMap encR) rfl HO37.out ⟨wd.heap.size + 1, 0, none⟩ 1 1 [.int .i64 xs.1, .int .i64 xs.2] rfl rfl HN38.out (by intro u hu; simp at hu; rcases hu with rfl | rfl <;> rfl) Nat.one_pos (by unfold maxLen; have := HLEN0.out; omega) (by have := HLEN0.out; omega) hbase39 _ rfl ?_; intro g40 cap40 wn40 hown40 hg40 hat40 hlt40)
                have HS41 := Lib.hid (HS34.out.appR (i := 0) (x := xs) rfl hown40 hg40 hat40)
                have LB42 := Lib.hid (LB36.out.grown hg40 (fun e => by have := HOLD0.out _ e.symm; omega))
                clear hown40 hg40 hat40 hlt40
                refine Ends.intro ⟨HS41.out.here, ?_⟩
                rw [wpWy_take]
                simp only [List.getElem?_toArray, List.getElem?_cons_succ, List.getElem?_cons_zero]
                repeat (first | go_big_quiet_step (fail) | quiet_step (fail))
                refine wpQuiet_nil ?_
                rw [wpWy_way]
                refine ⟨?_, ?_⟩
                · skip
                  simp only [List.getElem?_toArray, List.getElem?_cons_succ, List.getElem?_cons_zero]
                  have HO43 : Hid (World.ownsRow wn40 (gx + 1) 3 1 v1 lr.length (lr.map (Value.int .i64))) := Lib.hid (HS41.out.own 1 _ rfl)
                  have HN44 := Lib.hid (news_lies (cs := [.int .i64 xr]) LB42.out)
                  have hbase45 : gx + 1 ≤ (wn40).heap.size := by have h := HS41.out.size; have h2 := M1.out.ob.in_; omega
                  go_wp2_with (at_builtin; refine wpList_append_lies _ rfl (.tmp 55) (.tmp 61) 23 rfl (gx + 1) 3 i0 _ 1 8 Try.underlying23 HI.out Hz0.out Hz1.out Hz2.out rfl (by decide) v1 lr.length (lr.map (Value.int .i64)) rfl HO43.out ⟨wd.heap.size, 0, none⟩ 1 1 [.int .i64 xr] rfl rfl HN44.out (by intro u hu; simp at hu; rcases hu with rfl | rfl <;> rfl) Nat.one_pos (by unfold maxLen; have := HLEN1.out; omega) (by have := HLEN1.out; omega) hbase45 _ rfl ?_; intro g46 cap46 wn46 hown46 hg46 hat46 hlt46)
                  have HS47 := Lib.hid (HS41.out.appI (i := 1) rfl hown46 hg46 hat46)
                  clear hown46 hg46 hat46 hlt46
                  refine Ends.intro ⟨HS47.out.here, ?_⟩
                  rw [wpWy_fin]
                  have HOB48 := Lib.hid (HS47.out.lies M1.out.ob (M1.out.far (by omega)))
                  have cS0 : wn46.cell? ⟨gx, 0, none⟩ = some v0 := HOB48.out.at_ 0
                  have fS0 : wn46.frozen? ⟨gx, 0, none⟩ = false := HOB48.out.free 0
                  have cS1 : wn46.cell? ⟨gx, 1, none⟩ = some v1 := HOB48.out.at_ 1
                  have fS1 : wn46.frozen? ⟨gx, 1, none⟩ = false := HOB48.out.free 1
                  go_wp2_with (fail)
                  go_meet
                  exact ⟨rfl, _, _, M1.out.stored HS47.out (szR_bs rfl) ((Only.set _ 0 _ _).trans (Only.set _ 1 _ _)) ((HOB48.out.set 0 _).set 1 _)⟩
                exact trivial
              exact trivial
            exact trivial
          exact trivial
      case rest =>
        obtain ⟨rfl, u0, u1, M2⟩ := hcut
        have M2 := Lib.hid M2.out
        go_upto_region 11 with (fail)
        go_cut [9] from 35 to 110 (fun s9 wx => s9 = .int .i64 O ∧ ∃ u3 u4, Aside (SzM p w gx u0 u1 v2 u3 u4 (szR (gx + 1) u0 u1 v2 u3 u4 (ls ++ [xs]) (lr ++ [xr]) g (le ++ [xe]) (lk ++ [xk])) wx))
        case first =>
          as_aux_lemma =>
            have HLEN0 := C3
            have HLEN1 := C4
            have rS0 := SinceW.cell (w0 := wc) (l0 := szR (gx + 1) u0 u1 v2 v3 v4 (ls ++ [xs]) (lr ++ [xr]) g le lk) (show wc.cell? ⟨gx, 3, none⟩ = some v3 from M2.out.ob.at_ 3) (M2.out.far (k := gx) (by omega))
            have rS1 := SinceW.cell (w0 := wc) (l0 := szR (gx + 1) u0 u1 v2 v3 v4 (ls ++ [xs]) (lr ++ [xr]) g le lk) (show wc.cell? ⟨gx, 4, none⟩ = some v4 from M2.out.ob.at_ 4) (M2.out.far (k := gx) (by omega))
            have rX0 := SinceW.cell (w0 := wc) (l0 := szR (gx + 1) u0 u1 v2 v3 v4 (ls ++ [xs]) (lr ++ [xr]) g le lk) (show wc.cell? ⟨w.heap.size, 3, none⟩ = some (.slice (some ⟨be, oe, none⟩) p.e.l.length p.e.c) by rw [← EE.out]; exact M2.out.pb.at_ 3) (M2.out.far (k := w.heap.size) (by omega))
            have rX1 := SinceW.cell (w0 := wc) (l0 := szR (gx + 1) u0 u1 v2 v3 v4 (ls ++ [xs]) (lr ++ [xr]) g le lk) (show wc.cell? ⟨w.heap.size, 4, none⟩ = some (.slice (some ⟨bk, ok, none⟩) p.k.l.length p.k.c) by rw [← EK.out]; exact M2.out.pb.at_ 4) (M2.out.far (k := w.heap.size) (by omega))
            have rX2 := SinceW.cell (w0 := wc) (l0 := szR (gx + 1) u0 u1 v2 v3 v4 (ls ++ [xs]) (lr ++ [xr]) g le lk) (show wc.cell? ⟨be, oe + O, none⟩ = some (.int .i64 xe) by rw [M2.out.bel.cell (p := ⟨be, oe + O, none⟩) hbe]; exact QE.out) (M2.out.far (k := be) (by omega))
            have rX3 := SinceW.cell (w0 := wc) (l0 := szR (gx + 1) u0 u1 v2 v3 v4 (ls ++ [xs]) (lr ++ [xr]) g le lk) (show wc.cell? ⟨bk, ok + O, none⟩ = some (.int .i64 xk) by rw [M2.out.bel.cell (p := ⟨bk, ok + O, none⟩) hbk]; exact QK.out) (M2.out.far (k := bk) (by omega))
            have hold0 : ∀ g, v3.ownBlock = some g → g < wc.heap.size := fun g e => (own_at (M2.out.rows.own 3 _ rfl) e).2.1
            have HOLD0 := Lib.hid hold0
            have hold1 : ∀ g, v4.ownBlock = some g → g < wc.heap.size := fun g e => (own_at (M2.out.rows.own 4 _ rfl) e).2.1
            have HOLD1 := Lib.hid hold1
            have HSa := Lib.hid (M2.out.rows.drew)
            clear hold0 hold1
            haveI hnewc : Nonempty (SinceW wc (szR (gx + 1) u0 u1 v2 v3 v4 (ls ++ [xs]) (lr ++ [xr]) g le lk)) := ⟨⟨_, _, HSa.out⟩⟩
            refine wp_region_ways3 19 [0, 1, 2, 3, 4, 5, 6, 9, 10, 11, 12, 13, 14, 15] (.way 7 (.way 8 (.take 18 (.way 16 (.way 17 .fin .fin) .fin)) (.way 16 (.way 8 (.take 18 (.way 17 .fin .fin)) .fin) .fin)) (.way 16 (.way 7 (.way 8 (.take 18 (.way 17 .fin .fin)) .fin) .fin) .fin)) (fun W => ∃ c : SinceW wc (szR (gx + 1) u0 u1 v2 v3 v4 (ls ++ [xs]) (lr ++ [xr]) g le lk), W = c.val) (by kernel_rfl) (by kernel_rfl) HSa.out.here ?_
            simp only [List.filterMap_cons, List.filterMap_nil, List.take_succ_cons, List.take_zero, List.getElem?_toArray, List.getElem?_cons_zero, List.getElem?_cons_succ, List.drop_succ_cons, List.drop_zero]
            repeat (first | go_big_quiet_step (fail) | quiet_step (fail))
            refine wpQuiet_nil ?_
            have hzd : wc.heap.size ≤ wc.drew.heap.size := Nat.le_refl _
            generalize wc.drew = wd at *
            clear rS0 rS1 rX0 rX1 rX2 rX3
            rw [wpWy_way]
            refine ⟨?_, ?_⟩
            · skip
              simp only [List.getElem?_toArray, List.getElem?_cons_succ, List.getElem?_cons_zero]
              go_wp2_with (fail)
              have HS1 := Lib.hid (HSa.out.alloc (.cells #[.int .i64 xe] 3))
              have LB2 : Hid (Lies (wd.alloc (.cells #[.int .i64 xe] 3)) (wd.heap.size) 3 #[.int .i64 xe]) := Lib.hid (Lies.fresh' (by simp))
              refine Ends.intro ⟨HS1.out.here, ?_⟩
              rw [wpWy_way]
              refine ⟨?_, ?_⟩
              · skip
                simp only [List.getElem?_toArray, List.getElem?_cons_succ, List.getElem?_cons_zero]
                have HO3 : Hid (World.ownsRow (wd.alloc (.cells #[.int .i64 xe] 3)) (gx + 1) 3 1 v3 le.length (le.map (Value.int .i64))) := Lib.hid (HS1.out.own 3 _ rfl)
                have HN4 := Lib.hid (news_lies (cs := [.int .i64 xe]) LB2.out)
                have hbase5 : gx + 1 ≤ ((wd.alloc (.cells #[.int .i64 xe] 3))).heap.size := by have h := HS1.out.size; have h2 := M2.out.ob.in_; omega
                go_wp2_with (at_builtin; refine wpList_append_lies _ rfl (.tmp 66) (.tmp 72) 23 rfl (gx + 1) 3 i0 _ 1 8 Try.underlying23 HI.out Hz0.out Hz1.out Hz2.out rfl (by decide) v3 le.length (le.map (Value.int .i64)) rfl HO3.out ⟨wd.heap.size, 0, none⟩ 1 1 [.int .i64 xe] rfl rfl HN4.out (by intro u hu; simp at hu; rcases hu with rfl | rfl <;> rfl) Nat.one_pos (by unfold maxLen; have := HLEN0.out; omega) (by have := HLEN0.out; omega) hbase5 _ rfl ?_; intro g6 cap6 wn6 hown6 hg6 hat6 hlt6)
                have HS7 := Lib.hid (HS1.out.appI (i := 3) rfl hown6 hg6 hat6)
                clear hown6 hg6 hat6 hlt6
                refine Ends.intro ⟨HS7.out.here, ?_⟩
                rw [wpWy_take]
                simp only [List.getElem?_toArray, List.getElem?_cons_succ, List.getElem?_cons_zero]
                repeat (first | go_big_quiet_step (fail) | quiet_step (fail))
                refine wpQuiet_nil ?_
                rw [wpWy_way]
                refine ⟨?_, ?_⟩
                · skip
                  simp only [List.getElem?_toArray, List.getElem?_cons_succ, List.getElem?_cons_zero]
                  go_wp2_with (fail)
                  have HS8 := Lib.hid (HS7.out.alloc (.cells #[.int .i64 xk] 3))
                  have LB9 : Hid (Lies (wn6.alloc (.cells #[.int .i64 xk] 3)) (wn6.heap.size) 3 #[.int .i64 xk]) := Lib.hid (Lies.fresh' (by simp))
                  have LB10 := Lib.hid (LB2.out.alloc (.cells #[.int .i64 xk] 3))
                  refine Ends.intro ⟨HS8.out.here, ?_⟩
                  rw [wpWy_way]
                  refine ⟨?_, ?_⟩
                  · skip
                    simp only [List.getElem?_toArray, List.getElem?_cons_succ, List.getElem?_cons_zero]
                    have HO11 : Hid (World.ownsRow (wn6.alloc (.cells #[.int .i64 xk] 3)) (gx + 1) 3 1 v4 lk.length (lk.map (Value.int .i64))) := Lib.hid (HS8.out.own 4 _ rfl)
                    have HN12 := Lib.hid (news_lies (cs := [.int .i64 xk]) LB9.out)
                    have hbase13 : gx + 1 ≤ ((wn6.alloc (.cells #[.int .i64 xk] 3))).heap.size := by have h := HS8.out.size; have h2 := M2.out.ob.in_; omega
                    go_wp2_with (at_builtin; refine wpList_append_lies _ rfl (.tmp 75) (.tmp 81) 23 rfl (gx + 1) 3 i0 _ 1 8 Try.underlying23 HI.out Hz0.out Hz1.out Hz2.out rfl (by decide) v4 lk.length (lk.map (Value.int .i64)) rfl HO11.out ⟨wn6.heap.size, 0, none⟩ 1 1 [.int .i64 xk] rfl rfl HN12.out (by intro u hu; simp at hu; rcases hu with rfl | rfl <;> rfl) Nat.one_pos (by unfold maxLen; have := HLEN1.out; omega) (by have := HLEN1.out; omega) hbase13 _ rfl ?_; intro g14 cap14 wn14 hown14 hg14 hat14 hlt14)
                    have HS15 := Lib.hid (HS8.out.appI (i := 4) rfl hown14 hg14 hat14)
                    clear hown14 hg14 hat14 hlt14
                    refine Ends.intro ⟨HS15.out.here, ?_⟩
                    rw [wpWy_fin]
                    have HOB16 := Lib.hid (HS15.out.lies M2.out.ob (M2.out.far (by omega)))
                    have cS0 : wn14.cell? ⟨gx, 3, none⟩ = some v3 := HOB16.out.at_ 3
                    have fS0 : wn14.frozen? ⟨gx, 3, none⟩ = false := HOB16.out.free 3
                    have cS1 : wn14.cell? ⟨gx, 4, none⟩ = some v4 := HOB16.out.at_ 4
                    have fS1 : wn14.frozen? ⟨gx, 4, none⟩ = false := HOB16.out.free 4
                    go_wp2_with (fail)
                    go_meet
                    exact ⟨rfl, _, _, M2.out.stored HS15.out (szR_bs rfl) ((Only.set _ 3 _ _).trans (Only.set _ 4 _ _)) ((HOB16.out.set 3 _).set 4 _)⟩
                  exact trivial
                exact trivial
              rw [wpWy_way]
              refine ⟨?_, ?_⟩
              · skip
                simp only [List.getElem?_toArray, List.getElem?_cons_succ, List.getElem?_cons_zero]
                go_wp2_with (fail)
                have HS17 := Lib.hid (HS1.out.alloc (.cells #[.int .i64 xk] 3))
                have LB18 : Hid (Lies ((wd.alloc (.cells #[.int .i64 xe] 3)).alloc (.cells #[.int .i64 xk] 3)) (wd.heap.size + 1) 3 #[.int .i64 xk]) := Lib.hid (Lies.fresh' (by simp))
                have LB19 := Lib.hid (LB2.out.alloc (.cells #[.int .i64 xk] 3))
                refine Ends.intro ⟨HS17.out.here, ?_⟩
                rw [wpWy_way]
                refine ⟨?_, ?_⟩
                · skip
                  simp only [List.getElem?_toArray, List.getElem?_cons_succ, List.getElem?_cons_zero]
                  have HO20 : Hid (World.ownsRow ((wd.alloc (.cells #[.int .i64 xe] 3)).alloc (.cells #[.int .i64 xk] 3)) (gx + 1) 3 1 v3 le.length (le.map (Value.int .i64))) := Lib.hid (HS17.out.own 3 _ rfl)
                  have HN21 := Lib.hid (news_lies (cs := [.int .i64 xe]) LB19.out)
                  have hbase22 : gx + 1 ≤ (((wd.alloc (.cells #[.int .i64 xe] 3)).alloc (.cells #[.int .i64 xk] 3))).heap.size := by have h := HS17.out.size; have h2 := M2.out.ob.in_; omega
                  go_wp2_with (at_builtin; refine wpList_append_lies _ rfl (.tmp 66) (.tmp 72) 23 rfl (gx + 1) 3 i0 _ 1 8 Try.underlying23 HI.out Hz0.out Hz1.out Hz2.out rfl (by decide) v3 le.length (le.map (Value.int .i64)) rfl HO20.out ⟨wd.heap.size, 0, none⟩ 1 1 [.int .i64 xe] rfl rfl HN21.out (by intro u hu; simp at hu; rcases hu with rfl | rfl <;> rfl) Nat.one_pos (by unfold maxLen; have := HLEN0.out; omega) (by have := HLEN0.out; omega) hbase22 _ rfl ?_; intro g23 cap23 wn23 hown23 hg23 hat23 hlt23)
                  have HS24 := Lib.hid (HS17.out.appI (i := 3) rfl hown23 hg23 hat23)
                  have LB25 := Lib.hid (LB18.out.grown hg23 (fun e => by have := HOLD0.out _ e.symm; omega))
                  clear hown23 hg23 hat23 hlt23
                  refine Ends.intro ⟨HS24.out.here, ?_⟩
                  rw [wpWy_take]
                  simp only [List.getElem?_toArray, List.getElem?_cons_succ, List.getElem?_cons_zero]
                  repeat (first | go_big_quiet_step (fail) | quiet_step (fail))
                  refine wpQuiet_nil ?_
                  rw [wpWy_way]
                  refine ⟨?_, ?_⟩
                  · skip
                    simp only [List.getElem?_toArray, List.getElem?_cons_succ, List.getElem?_cons_zero]
                    have HO26 : Hid (World.ownsRow wn23 (gx + 1) 3 1 v4 lk.length (lk.map (Value.int .i64))) := Lib.hid (HS24.out.own 4 _ rfl)
                    have HN27 := Lib.hid (news_lies (cs := [.int .i64 xk]) LB25.out)
                    have hbase28 : gx + 1 ≤ (wn23).heap.size := by have h := HS24.out.size; have h2 := M2.out.ob.in_; omega
                    go_wp2_with (at_builtin; refine wpList_append_lies _ rfl (.tmp 75) (.tmp 81) 23 rfl (gx + 1) 3 i0 _ 1 8 Try.underlying23 HI.out Hz0.out Hz1.out Hz2.out rfl (by decide) v4 lk.length (lk.map (Value.int .i64)) rfl HO26.out ⟨wd.heap.size + 1, 0, none⟩ 1 1 [.int .i64 xk] rfl rfl HN27.out (by intro u hu; simp at hu; rcases hu with rfl | rfl <;> rfl) Nat.one_pos (by unfold maxLen; have := HLEN1.out; omega) (by have := HLEN1.out; omega) hbase28 _ rfl ?_; intro g29 cap29 wn29 hown29 hg29 hat29 hlt29)
                    have HS30 := Lib.hid (HS24.out.appI (i := 4) rfl hown29 hg29 hat29)
                    clear hown29 hg29 hat29 hlt29
                    refine Ends.intro ⟨HS30.out.here, ?_⟩
                    rw [wpWy_fin]
                    have HOB31 := Lib.hid (HS30.out.lies M2.out.ob (M2.out.far (by omega)))
                    have cS0 : wn29.cell? ⟨gx, 3, none⟩ = some v3 := HOB31.out.at_ 3
                    have fS0 : wn29.frozen? ⟨gx, 3, none⟩ = false := HOB31.out.free 3
                    have cS1 : wn29.cell? ⟨gx, 4, none⟩ = some v4 := HOB31.out.at_ 4
                    have fS1 : wn29.frozen? ⟨gx, 4, none⟩ = false := HOB31.out.free 4
                    go_wp2_with (fail)
                    go_meet
                    exact ⟨rfl, _, _, M2.out.stored HS30.out (szR_bs rfl) ((Only.set _ 3 _ _).trans (Only.set _ 4 _ _)) ((HOB31.out.set 3 _).set 4 _)⟩
                  exact trivial
                exact trivial
              exact trivial
            rw [wpWy_way]
            refine ⟨?_, ?_⟩
            · skip
              simp only [List.getElem?_toArray, List.getElem?_cons_succ, List.getElem?_cons_zero]
              go_wp2_with (fail)
              have HS32 := Lib.hid (HSa.out.alloc (.cells #[.int .i64 xk] 3))
              have LB33 : Hid (Lies (wd.alloc (.cells #[.int .i64 xk] 3)) (wd.heap.size) 3 #[.int .i64 xk]) := Lib.hid (Lies.fresh' (by simp))
              refine Ends.intro ⟨HS32.out.here, ?_⟩
              rw [wpWy_way]
              refine ⟨?_, ?_⟩
              · skip
                simp only [List.getElem?_toArray, List.getElem?_cons_succ, List.getElem?_cons_zero]
                go_wp2_with (fail)
                have HS34 := Lib.hid (HS32.out.alloc (.cells #[.int .i64 xe] 3))
                have LB35 : Hid (Lies ((wd.alloc (.cells #[.int .i64 xk] 3)).alloc (.cells #[.int .i64 xe] 3)) (wd.heap.size + 1) 3 #[.int .i64 xe]) := Lib.hid (Lies.fresh' (by simp))
                have LB36 := Lib.hid (LB33.out.alloc (.cells #[.int .i64 xe] 3))
                refine Ends.intro ⟨HS34.out.here, ?_⟩
                rw [wpWy_way]
                refine ⟨?_, ?_⟩
                · skip
                  simp only [List.getElem?_toArray, List.getElem?_cons_succ, List.getElem?_cons_zero]
                  have HO37 : Hid (World.ownsRow ((wd.alloc (.cells #[.int .i64 xk] 3)).alloc (.cells #[.int .i64 xe] 3)) (gx + 1) 3 1 v3 le.length (le.map (Value.int .i64))) := Lib.hid (HS34.out.own 3 _ rfl)
                  have HN38 := Lib.hid (news_lies (cs := [.int .i64 xe]) LB35.out)
                  have hbase39 : gx + 1 ≤ (((wd.alloc (.cells #[.int .i64 xk] 3)).alloc (.cells #[.int .i64 xe] 3))).heap.size := by have h := HS34.out.size; have h2 := M2.out.ob.in_; omega
                  go_wp2_with (at_builtin; refine wpList_append_lies _ rfl (.tmp 66) (.tmp 72) 23 rfl (gx + 1) 3 i0 _ 1 8 Try.underlying23 HI.out Hz0.out Hz1.out Hz2.out rfl (by decide) v3 le.length (le.map (Value.int .i64)) rfl HO37.out ⟨wd.heap.size + 1, 0, none⟩ 1 1 [.int .i64 xe] rfl rfl HN38.out (by intro u hu; simp at hu; rcases hu with rfl | rfl <;> rfl) Nat.one_pos (by unfold maxLen; have := HLEN0.out; omega) (by have := HLEN0.out; omega) hbase39 _ rfl ?_; intro g40 cap40 wn40 hown40 hg40 hat40 hlt40)
                  have HS41 := Lib.hid (HS34.out.appI (i := 3) rfl hown40 hg40 hat40)
                  have LB42 := Lib.hid (LB36.out.grown hg40 (fun e => by have := HOLD0.out _ e.symm; omega))
                  clear hown40 hg40 hat40 hlt40
                  refine Ends.intro ⟨HS41.out.here, ?_⟩
                  rw [wpWy_take]
                  simp only [List.getElem?_toArray, List.getElem?_cons_succ, List.getElem?_cons_zero]
                  repeat (first | go_big_quiet_step (fail) | quiet_step (fail))
                  refine wpQuiet_nil ?_
                  rw [wpWy_way]
                  refine ⟨?_, ?_⟩
                  · skip
                    simp only [List.getElem?_toArray, List.getElem?_cons_succ, List.getElem?_cons_zero]
                    have HO43 : Hid (World.ownsRow wn40 (gx + 1) 3 1 v4 lk.length (lk.map (Value.int .i64))) := Lib.hid (HS41.out.own 4 _ rfl)
                    have HN44 := Lib.hid (news_lies (cs := [.int .i64 xk]) LB42.out)
                    have hbase45 : gx + 1 ≤ (wn40).heap.size := by have h := HS41.out.size; have h2 := M2.out.ob.in_; omega
                    go_wp2_with (at_builtin; refine wpList_append_lies _ rfl (.tmp 75) (.tmp 81) 23 rfl (gx + 1) 3 i0 _ 1 8 Try.underlying23 HI.out Hz0.out Hz1.out Hz2.out rfl (by decide) v4 lk.length (lk.map (Value.int .i64)) rfl HO43.out ⟨wd.heap.size, 0, none⟩ 1 1 [.int .i64 xk] rfl rfl HN44.out (by intro u hu; simp at hu; rcases hu with rfl | rfl <;> rfl) Nat.one_pos (by unfold maxLen; have := HLEN1.out; omega) (by have := HLEN1.out; omega) hbase45 _ rfl ?_; intro g46 cap46 wn46 hown46 hg46 hat46 hlt46)
                    have HS47 := Lib.hid (HS41.out.appI (i := 4) rfl hown46 hg46 hat46)
                    clear hown46 hg46 hat46 hlt46
                    refine Ends.intro ⟨HS47.out.here, ?_⟩
                    rw [wpWy_fin]
                    have HOB48 := Lib.hid (HS47.out.lies M2.out.ob (M2.out.far (by omega)))
                    have cS0 : wn46.cell? ⟨gx, 3, none⟩ = some v3 := HOB48.out.at_ 3
                    have fS0 : wn46.frozen? ⟨gx, 3, none⟩ = false := HOB48.out.free 3
                    have cS1 : wn46.cell? ⟨gx, 4, none⟩ = some v4 := HOB48.out.at_ 4
                    have fS1 : wn46.frozen? ⟨gx, 4, none⟩ = false := HOB48.out.free 4
                    go_wp2_with (fail)
                    go_meet
                    exact ⟨rfl, _, _, M2.out.stored HS47.out (szR_bs rfl) ((Only.set _ 3 _ _).trans (Only.set _ 4 _ _)) ((HOB48.out.set 3 _).set 4 _)⟩
                  exact trivial
                exact trivial
              exact trivial
            exact trivial
        case rest =>
          obtain ⟨rfl, u3, u4, M3⟩ := hcut
          have M3 := Lib.hid M3.out
          have MR := Lib.hid M3.out.row
          clear M2 M1 M3
          go_wp2
          go_loopw [10, 11] (fun r10 t11 wr => ∃ (m : Nat), m ≤ p.s.l.length ∧ t11 = .int .i64 m ∧ Aside (SzM p w gx u0 u1 v2 u3 u4 (szR (gx + 1) u0 u1 v2 u3 u4 (ls ++ [xs]) (lr ++ [xr]) g (le ++ [xe]) (lk ++ [xk]) ++ [rowR (gx + 1) r10 (colA (fun j => G.l.getD (tau p.s.l.length K j) (0, 0)) m)]) wr)) (fun _ i _ => p.s.l.length - (intOf i).toNat)
          case atStart => exact ⟨0, by omega, rfl, MR.out⟩
          case round =>
            obtain ⟨m, hm, rfl, M4⟩ := hrel
            have M4 := Lib.hid M4.out
            have HLS := Lib.hid (show (szR (gx + 1) u0 u1 v2 u3 u4 (ls ++ [xs]) (lr ++ [xr]) g (le ++ [xe]) (lk ++ [xk])).length = 5 + g.length by simp [szR]; omega)
            clear MR
            by_cases hml : m < p.s.l.length
            · have hmz : (m : Int) < (p.s.l.length : Int) := by omega
              have hm0 : (0 : Int) ≤ (m : Int) := by omega
              have hQ : ((m : Int) + (K : Int)) % (p.s.l.length : Int) = ((tau p.s.l.length K m : Nat) : Int) := by unfold tau; rw [Int.natCast_emod]; simp
              have hQl : tau p.s.l.length K m < p.s.l.length := tau_lt (by omega)
              have s5 := colA_succ (fun j => G.l.getD (tau p.s.l.length K j) (0, 0)) m
              have c5 : (colA (fun j => G.l.getD (tau p.s.l.length K j) (0, 0)) m).length = m := colA_length _ _
              have qx : G.l[tau p.s.l.length K m]? = some (G.l.getD (tau p.s.l.length K m) (0, 0)) := by rw [List.getD, List.getElem?_eq_getElem (by rw [HGL.out]; exact hQl)]; rfl
              obtain ⟨bG, oG, eG, hbG, cG0, cG1⟩ := HGS.out.cellR qx
              have hQz : ((tau p.s.l.length K m : Nat) : Int) < (p.s.l.length : Int) := by omega
              have hQ0 : (0 : Int) ≤ ((tau p.s.l.length K m : Nat) : Int) := by omega
              clear qx
              generalize G.l.getD (tau p.s.l.length K m) (0, 0) = xg at *
              generalize tau p.s.l.length K m = Q at *
              generalize colA (fun j => G.l.getD (tau p.s.l.length K j) (0, 0)) m = lm at *
              have S5 := Lib.hid s5
              have C5 := Lib.hid c5
              have EGG := Lib.hid eG
              have QGG := Lib.hid (And.intro cG0 cG1)
              have HQ := Lib.hid hQ
              have HRI := Lib.hid (show (szR (gx + 1) u0 u1 v2 u3 u4 (ls ++ [xs]) (lr ++ [xr]) g (le ++ [xe]) (lk ++ [xk]) ++ [rowR (gx + 1) u10 lm])[5 + g.length]? = some (rowR (gx + 1) u10 lm) by rw [← HLS.out]; simp)
              have HST := Lib.hid (show ∀ r' : RowO, (szR (gx + 1) u0 u1 v2 u3 u4 (ls ++ [xs]) (lr ++ [xr]) g (le ++ [xe]) (lk ++ [xk]) ++ [rowR (gx + 1) u10 lm]).set (5 + g.length) r' = szR (gx + 1) u0 u1 v2 u3 u4 (ls ++ [xs]) (lr ++ [xr]) g (le ++ [xe]) (lk ++ [xk]) ++ [r'] by intro r'; rw [← HLS.out]; simp)
              clear s5 c5 eG cG0 cG1 hQl hQ
              go_upto_region 16 with (fail)
              have rX0 := SinceW.cell (w0 := wr) (l0 := szR (gx + 1) u0 u1 v2 u3 u4 (ls ++ [xs]) (lr ++ [xr]) g (le ++ [xe]) (lk ++ [xk]) ++ [rowR (gx + 1) u10 lm]) (show wr.cell? ⟨w.heap.size, 2, none⟩ = some (.slice (some ⟨bg, og, none⟩) p.g.l.length p.g.c) by rw [← EG.out]; exact M4.out.pb.at_ 2) (M4.out.far (k := w.heap.size) (by omega))
              have rX1 := SinceW.cell (w0 := wr) (l0 := szR (gx + 1) u0 u1 v2 u3 u4 (ls ++ [xs]) (lr ++ [xr]) g (le ++ [xe]) (lk ++ [xk]) ++ [rowR (gx + 1) u10 lm]) (show wr.cell? ⟨bg, og + O, none⟩ = some (.slice (some ⟨bG, oG, none⟩) p.s.l.length G.c) by rw [M4.out.bel.cell (p := ⟨bg, og + O, none⟩) hbg, QG.out, ← EGG.out, ← HGL.out]; rfl) (M4.out.far (k := bg) (by omega))
              have rX2 := SinceW.cell (w0 := wr) (l0 := szR (gx + 1) u0 u1 v2 u3 u4 (ls ++ [xs]) (lr ++ [xr]) g (le ++ [xe]) (lk ++ [xk]) ++ [rowR (gx + 1) u10 lm]) (show wr.cell? ⟨bG, oG + Q * 2, none⟩ = some (.int .i64 xg.1) by rw [M4.out.bel.cell (p := ⟨bG, oG + Q * 2, none⟩) hbG]; exact QGG.out.1) (M4.out.far (k := bG) (by omega))
              have rX3 := SinceW.cell (w0 := wr) (l0 := szR (gx + 1) u0 u1 v2 u3 u4 (ls ++ [xs]) (lr ++ [xr]) g (le ++ [xe]) (lk ++ [xk]) ++ [rowR (gx + 1) u10 lm]) (show wr.cell? ⟨bG, oG + Q * 2 + 1, none⟩ = some (.int .i64 xg.2) by rw [M4.out.bel.cell (p := ⟨bG, oG + Q * 2 + 1, none⟩) hbG]; exact QGG.out.2) (M4.out.far (k := bG) (by omega))
              have HSa := Lib.hid M4.out.rows.drew
              haveI hnewr : Nonempty (SinceW wr (szR (gx + 1) u0 u1 v2 u3 u4 (ls ++ [xs]) (lr ++ [xr]) g (le ++ [xe]) (lk ++ [xk]) ++ [rowR (gx + 1) u10 lm])) := ⟨⟨_, _, HSa.out⟩⟩
              refine wp_region_ways3 15 [0, 1, 2, 3, 4, 5, 6, 7, 8, 9, 10, 11, 12] (.way 13 (.way 14 .fin .fin) .fin) (fun W => ∃ c : SinceW wr (szR (gx + 1) u0 u1 v2 u3 u4 (ls ++ [xs]) (lr ++ [xr]) g (le ++ [xe]) (lk ++ [xk]) ++ [rowR (gx + 1) u10 lm]), W = c.val) (by kernel_rfl) (by kernel_rfl) HSa.out.here ?_
              simp only [List.filterMap_cons, List.filterMap_nil, List.take_succ_cons, List.take_zero, List.getElem?_toArray, List.getElem?_cons_zero, List.getElem?_cons_succ, List.drop_succ_cons, List.drop_zero]
              have e1 : (p.s.l = []) = False := by simp only [eq_iff_iff, iff_false]; intro e; rw [e] at hn1; simp at hn1
              have e2 : IntKind.i64.wrap ((m : Int) + (K : Int)) = (m : Int) + (K : Int) := IntWalk.i64_in _ (by omega)
              have e3 : ((m : Int) + (K : Int)).tmod (p.s.l.length : Int) = (Q : Int) := by rw [Int.tmod_eq_emod_of_nonneg (by omega)]; exact HQ.out
              repeat (first | go_big_quiet_step (fail) | quiet_step (fail))
              refine wpQuiet_nil ?_
              have hzd : wr.heap.size ≤ wr.drew.heap.size := Nat.le_refl _
              generalize wr.drew = wd at *
              clear rX0 rX1 rX2 rX3 e1 e2 e3
              rw [wpWy_way]
              refine ⟨?_, ?_⟩
              · skip
                simp only [List.getElem?_toArray, List.getElem?_cons_succ, List.getElem?_cons_zero]
                go_wp2_with (fail)
                have HS1 := Lib.hid (HSa.out.alloc (.cells #[.int .i64 xg.1, .int .i64 xg.2] 26))
                have LB1 : Hid (Lies (wd.alloc (.cells #[.int .i64 xg.1, .int .i64 xg.2] 26)) wd.heap.size 26 #[.int .i64 xg.1, .int .i64 xg.2]) := Lib.hid (Lies.fresh' (by simp))
                refine Ends.intro ⟨HS1.out.here, ?_⟩
                rw [wpWy_way]
                refine ⟨?_, ?_⟩
                · skip
                  simp only [List.getElem?_toArray, List.getElem?_cons_succ, List.getElem?_cons_zero]
                  have HO1 : Hid (World.ownsRow (wd.alloc (.cells #[.int .i64 xg.1, .int .i64 xg.2] 26)) (gx + 1) 26 2 u10 lm.length (lm.flatMap encR)) := Lib.hid (HS1.out.own _ _ HRI.out)
                  have HN1 := Lib.hid (news_lies (cs := [.int .i64 xg.1, .int .i64 xg.2]) LB1.out)
                  have hbase1 : gx + 1 ≤ (wd.alloc (.cells #[.int .i64 xg.1, .int .i64 xg.2] 26)).heap.size := by have h := HS1.out.size; have h2 := M4.out.ob.in_; omega
                  go_wp2_with (at_builtin; refine wpList_append_lies _ rfl (.tmp 90) (.tmp 103) 22 rfl (gx + 1) 26 i1 _ 2 16 Try.underlying22 HJ.out Hj0.out Hj1.out Hj2.out rfl (by decide) u10 lm.length (lm.flatMap encR) rfl HO1.out ⟨wd.heap.size, 0, none⟩ 1 1 [.int .i64 xg.1, .int .i64 xg.2] rfl rfl HN1.out (by intro u hu; simp at hu; rcases hu with rfl | rfl <;> rfl) Nat.one_pos (by unfold maxLen; have := C5.out; omega) (by have := C5.out; omega) hbase1 _ rfl ?_; intro g1 cap1 wn1 hown1 hg1 hat1 hlt1)
                  have HS2 := Lib.hid (HS1.out.appR (x := xg) HRI.out hown1 hg1 hat1)
                  clear hown1 hg1 hat1 hlt1
                  refine Ends.intro ⟨HS2.out.here, ?_⟩
                  rw [wpWy_fin]
                  have M5 := Lib.hid (M4.out.since (by have h := HS2.out; rw [HST.out] at h; exact h) szR_bs2)
                  go_wp2_with (fail)
                  go_roundw
                  case rel => exact ⟨m + 1, by omega, by go_num, by rw [S5.out]; exact M5.out⟩
                  case measure => simp [intOf]; omega
                exact trivial
              exact trivial
            · obtain rfl : m = p.s.l.length := by omega
              have hRI : (szR (gx + 1) u0 u1 v2 u3 u4 (ls ++ [xs]) (lr ++ [xr]) g (le ++ [xe]) (lk ++ [xk]) ++ [rowR (gx + 1) u10 (colA (fun j => G.l.getD (tau p.s.l.length K j) (0, 0)) p.s.l.length)])[5 + g.length]? = some (rowR (gx + 1) u10 (colA (fun j => G.l.getD (tau p.s.l.length K j) (0, 0)) p.s.l.length)) := by rw [← HLS.out]; simp
              obtain ⟨Ar, cR, rfl, _⟩ := rowR_form (M4.out.rows.own _ _ hRI)
              have HS2 := Lib.hid (show ∀ v, (szR (gx + 1) u0 u1 v2 u3 u4 (ls ++ [xs]) (lr ++ [xr]) g (le ++ [xe]) (lk ++ [xk]) ++ [rowR (gx + 1) (.slice Ar (colA (fun j => G.l.getD (tau p.s.l.length K j) (0, 0)) p.s.l.length).length cR) (colA (fun j => G.l.getD (tau p.s.l.length K j) (0, 0)) p.s.l.length)]).set 2 (rowV (gx + 1) v (g ++ [⟨Ar, colA (fun j => G.l.getD (tau p.s.l.length K j) (0, 0)) p.s.l.length, cR⟩])) = szR (gx + 1) u0 u1 v u3 u4 (ls ++ [xs]) (lr ++ [xr]) (g ++ [⟨Ar, colA (fun j => G.l.getD (tau p.s.l.length K j) (0, 0)) p.s.l.length, cR⟩]) (le ++ [xe]) (lk ++ [xk]) by intro v; simp [szR, Sv.val])
              clear hRI HLS
              generalize colA (fun j => G.l.getD (tau p.s.l.length K j) (0, 0)) p.s.l.length = lx at *
              have d2 : wr.cell? ⟨gx, 2, none⟩ = some v2 := M4.out.ob.at_ 2
              have HSa := Lib.hid (M4.out.rows.alloc (.cells #[.slice Ar lx.length cR] 22))
              have HO1 : Hid (World.ownsRow (wr.alloc (.cells #[.slice Ar lx.length cR] 22)) (gx + 1) 22 1 v2 g.length (g.flatMap encV)) := Lib.hid (HSa.out.own 2 _ rfl)
              have LB1 : Hid (Lies (wr.alloc (.cells #[.slice Ar lx.length cR] 22)) wr.heap.size 22 #[.slice Ar lx.length cR]) := Lib.hid (Lies.fresh' (by simp))
              have HN1 := Lib.hid (news_lies (cs := [.slice Ar lx.length cR]) LB1.out)
              have hbase1 : gx + 1 ≤ (wr.alloc (.cells #[.slice Ar lx.length cR] 22)).heap.size := by have h := HSa.out.size; have h2 := M4.out.ob.in_; omega
              go_wp2_with (at_builtin; refine wpList_append_lies _ rfl (.tmp 106) (.tmp 108) 24 rfl (gx + 1) 22 i2 _ 1 24 Try.underlying24 HK.out Hk0.out Hk1.out Hk2.out rfl (by decide) v2 g.length (g.flatMap encV) rfl HO1.out ⟨wr.heap.size, 0, none⟩ 1 1 [.slice Ar lx.length cR] rfl rfl HN1.out (by intro u hu; simp at hu; subst hu; rfl) Nat.one_pos (by unfold maxLen; have := CG.out; omega) (by have := CG.out; omega) hbase1 _ rfl ?_; intro g7 cap7 w7 hown7 hg7 hat7 hlt7; have HS7 := Lib.hid (HSa.out.appV (x := ⟨Ar, lx, cR⟩) (i := 2) rfl hown7 hg7 hat7); have o7 := Lib.hid (HS7.out.lies M4.out.ob (M4.out.far (by omega))); have c7 : w7.cell? ⟨gx, 2, none⟩ = some v2 := o7.out.at_ 2; have f7 : w7.frozen? ⟨gx, 2, none⟩ = false := o7.out.free 2; clear hown7 hg7 hat7 hlt7)
              have M8 := Lib.hid (M4.out.stored (by have h := HS7.out; rw [HS2.out] at h; exact h) (szR_bs rfl) (Only.set gx 2 w7 (.slice (some ⟨g7, 0, none⟩) (g.length + 1) cap7)) (o7.out.set 2 (.slice (some ⟨g7, 0, none⟩) (g.length + 1) cap7)))
              go_roundw
              case rel => exact ⟨k + 1, u0, u1, _, u3, u4, g ++ [⟨Ar, lx, cR⟩], by omega, by go_num, by rw [S0.out, S1.out, S3.out, S4.out]; exact M8.out, by rw [S2.out, List.map_append, HG.out]; rfl⟩
              case measure => simp [intOf]; omega
    · obtain rfl : k = p.s.l.length := by omega
      obtain ⟨q, hqd, hqa, hql, hnr, hne, hnk⟩ := SzM.plan (K := K) HV.out hg M
      obtain ⟨Y, hY⟩ : ∃ Y : Nat, p.years = (Y : Int) := ⟨p.years.toNat, years_nat HV.out⟩
      have hY6 : Y ≤ 6 := by have := HV.out.y; omega
      have hYz : (Y : Int) ≤ 6 := by omega
      have hY0 : (0 : Int) ≤ (Y : Int) := by omega
      have hP : ∀ W, Below w.heap.size w W → Calls Try.prog 21 #[.agg p.cells.toArray] W (RetP p W) := fun W hb => Plan_any p W (HAT.out.below hb hb.size) HP.out.nr HP.out.ne HP.out.nk
      have hPX : ∀ W, Below wr.heap.size wr W → Calls Try.prog 21 #[.agg q.cells.toArray] W (RetP q W) := fun W hb => Plan_any q W (hqa.below hb hb.size) hnr hne hnk
      have HPL := Lib.hid hP
      have HPX := Lib.hid hPX
      have HP4 := Lib.hid M.pb
      have HX4 := Lib.hid hql
      have B4 := Lib.hid M.bel
      have HY := Lib.hid hY
      have HQD := Lib.hid hqd
      have hqf : q.fault = 0 := by rw [fault_d, hqd]; exact turn_fault (by rw [← fault_d]; exact HF.out)
      have hqy : q.years = (Y : Int) := by rw [show q.years = q.d.years from rfl, hqd]; exact hY
      have HQF := Lib.hid hqf
      have HQY := Lib.hid hqy
      have HTB := Lib.hid (fun y i (hi : i < p.s.l.length) => turn_bnd (d := p.d) (k := K) hn5 hKN (by show (p.g.l.map (·.l)).length = _; rw [List.length_map]; exact HV.out.g) (fun x hx => by obtain ⟨z, hz, rfl⟩ := List.mem_map.1 hx; exact HV.out.gl z hz) y (show i < p.d.s.length from hi))
      clear hP hPX hqa hql hnr hne hnk hY hqd hqf hqy M hg HM HI Hz0 Hz1 Hz2 HJ Hj0 Hj1 Hj2 HK Hk0 Hk1 Hk2 i0 i1 i2 hyr hyz hy0 HKK
      as_aux_lemma =>
      go_wp2_with (first
        | (refine wpList_load_row (o := ⟨some 112, _, _, _, _, _⟩) ?_ 28 (.tmp 2) ?_ w.heap.size ?_ 28 p.cells.toArray (0, 0) _ HP4.out Try.underlying28 rfl size28 ?_; rfl; rfl; rfl)
        | (go_at_call 21; refine (HPL.out _ B4.out).mono ?_; rintro e w5 ⟨q5, rfl, hd, hq, hb5⟩))
      have hC := Count_ok q5 Y w5 hq (by rw [fault_congr hd]; exact HF.out) (by rw [show q5.years = q5.d.years from rfl, hd]; exact HY.out)
      rw [hd] at hC
      have HC := Lib.hid hC
      have B5 := Lib.hid (B4.out.trans (hb5.mono B4.out.size))
      have HX5 := Lib.hid (HX4.out.call hb5)
      have HP5 := Lib.hid (HP4.out.call hb5)
      have D5 := Lib.hid hb5
      clear hC hd hq hb5 HX4 HP4 HPL
      go_wp2_with (first
        | (go_at_call 28; refine HC.out.mono ?_; rintro e w6 ⟨A1, c1, bs, rfl, hs6, hl6, ha6, hb6⟩; have HX6 := Lib.hid (HX5.out.call hb6); have HP6 := Lib.hid (HP5.out.call hb6); have D6 := Lib.hid (D5.out.trans (hb6.mono D5.out.size)))
        | (refine wpList_load_row (o := ⟨some 118, _, _, _, _, _⟩) ?_ 28 (.tmp 7) ?_ gx ?_ 28 q.cells.toArray (0, 0) _ HX6.out Try.underlying28 rfl size28 ?_; rfl; rfl; rfl))
      clear HC
      go_wp2_with (go_at_call 21; refine (HPX.out _ D6.out).mono ?_; rintro e w7 ⟨q7, rfl, hd, hq, hb7⟩)
      have B6 := Lib.hid (B5.out.trans (hb6.mono B5.out.size))
      have HS6 := Lib.hid hs6
      have HL6 := Lib.hid hl6
      have HA6 := Lib.hid ha6
      have hC := Count_ok q7 Y w7 hq (by rw [fault_congr hd]; exact HQF.out) (by rw [show q7.years = q7.d.years from rfl, hd]; exact HQY.out)
      rw [hd, HQD.out] at hC
      have HC2 := Lib.hid hC
      have B7 := Lib.hid (B6.out.trans (hb7.mono B6.out.size))
      have B67 := Lib.hid hb7
      have HP7 := Lib.hid (HP6.out.call hb7)
      clear hC hd hq hb7 hb6 HPX HX5 HX6 HP5 B5 D5 D6 hs6 hl6 ha6
      go_wp2_with (go_at_call 28; refine HC2.out.mono ?_; rintro e w8 ⟨A2, c2, bt, rfl, hs8, hl8, ha8, hb8⟩; have d7 : w8.cell? ⟨w.heap.size, 7, none⟩ = some (.int .i64 (Y : Int)) := (by rw [← HY.out]; exact (HP7.out.call hb8).at_ 7))
      have B8 := Lib.hid (B7.out.trans (hb8.mono B7.out.size))
      have P8 := Lib.hid (HP7.out.call hb8)
      have b68 : Below w6.heap.size w6 w8 := B67.out.trans (hb8.mono B67.out.size)
      have HS6' := Lib.hid ((HS6.out.below b68).more b68.size)
      have HA6' := Lib.hid (show ∀ x, x ∈ bs → x.At w8 w8.heap.size from fun x hx => (HA6.out x hx).below b68 b68.size)
      have HS8 := Lib.hid hs8
      have HL8 := Lib.hid hl8
      have HA8 := Lib.hid ha8
      clear hs8 hl8 ha8 hb8 b68 HC2 HP7 HS6 HA6 B7 B67 B6 HP6 d7
      go_loopw [16, 17, 18] (fun i _ _ wr => ∃ k : Nat, k ≤ Y ∧ i = .int .i64 k ∧ Aside (Below w8.heap.size w8 wr)) (fun i _ _ _ => Y - (intOf i).toNat)
      case atStart => exact ⟨0, by omega, rfl, Below.refl _ _⟩
      case round =>
        obtain ⟨k, hk, rfl, hb⟩ := hrel
        have d7 : wr.cell? ⟨w.heap.size, 7, none⟩ = some (.int .i64 (Y : Int)) := by rw [← HY.out]; exact (P8.out.call hb.out).at_ 7
        by_cases hlt : k < Y
        · have hltz : (k : Int) < (Y : Int) := by omega
          have hk0 : (0 : Int) ≤ (k : Int) := by omega
          obtain ⟨b1, o1, x1, rfl, e1, ⟨c10, c11, c12, c13⟩, hb1, i1'⟩ := bnd_more (n := p.s.l.length) HS6'.out HL6.out HA6'.out (bnd_lens2 p.d k) hlt
          obtain ⟨b2, o2, x2, rfl, e2, ⟨c20, c21, c22, c23⟩, hb2, i2'⟩ := bnd_more (n := p.s.l.length) HS8.out HL8.out HA8.out (by have h := bnd_lens2 (turnD p.d K) k; rw [turn_len] at h; exact h) hlt
          have g10 := (hb.out.cell (p := ⟨b1, o1 + k * 4, none⟩) hb1).trans c10
          have g11 := (hb.out.cell (p := ⟨b1, o1 + k * 4 + 1, none⟩) hb1).trans c11
          have g12 := (hb.out.cell (p := ⟨b1, o1 + k * 4 + 2, none⟩) hb1).trans c12
          have g13 := (hb.out.cell (p := ⟨b1, o1 + k * 4 + 3, none⟩) hb1).trans c13
          have hBd : ∀ (a1 a2 a3 a4 : Option Addr) (u1 u2 u3 u4 : Nat) (W : World), Calls Try.prog 53 #[.agg #[.slice a1 p.s.l.length u1, .slice a2 p.s.l.length u2, .slice a3 p.s.l.length u3, .slice a4 p.s.l.length u4], .int .i64 p.s.l.length] W fun e w' => e = .returned (.bool true) ∧ Below W.heap.size W w' := fun a1 a2 a3 a4 u1 u2 u3 u4 W => bounded_any a1 a2 a3 a4 p.s.l.length u1 u2 u3 u4 W hn5
          have HBD := Lib.hid hBd
          have E1 := Lib.hid e1
          have E2 := Lib.hid e2
          have I1 := Lib.hid i1'
          have I2 := Lib.hid i2'
          have G1 := Lib.hid (And.intro c10 (And.intro c11 (And.intro c12 c13)))
          have G2 := Lib.hid (And.intro c20 (And.intro c21 (And.intro c22 c23)))
          have HB := Lib.hid hb.out
          clear c10 c11 c12 c13 c20 c21 c22 c23 e1 e2 i1' i2' hBd hb
          go_wp2_with (fail)
          refine (HBD.out _ _ _ _ _ _ _ _ _).mono ?_
          rintro e w9 ⟨rfl, hb9⟩
          have b89 := HB.out.trans (hb9.mono HB.out.size)
          have g20 := (b89.cell (p := ⟨b2, o2 + k * 4, none⟩) hb2).trans G2.out.1
          have g21 := (b89.cell (p := ⟨b2, o2 + k * 4 + 1, none⟩) hb2).trans G2.out.2.1
          have g22 := (b89.cell (p := ⟨b2, o2 + k * 4 + 2, none⟩) hb2).trans G2.out.2.2.1
          have g23 := (b89.cell (p := ⟨b2, o2 + k * 4 + 3, none⟩) hb2).trans G2.out.2.2.2
          have B89 := Lib.hid b89
          clear b89 hb9 g10 g11 g12 g13 d7
          go_wp2_with (fail)
          refine (HBD.out _ _ _ _ _ _ _ _ _).mono ?_
          rintro e w10 ⟨rfl, hb10⟩
          have B810 := Lib.hid (B89.out.trans (hb10.mono B89.out.size))
          clear hb10 g20 g21 g22 g23 HBD B89
          go_wp2
          go_loopw [17, 18] (fun i _ wr => ∃ t : Nat, t ≤ p.s.l.length ∧ i = .int .i64 t ∧ Aside (Below w8.heap.size w8 wr)) (fun i _ _ => p.s.l.length - (intOf i).toNat)
          case atStart => exact ⟨0, by omega, rfl, B810.out⟩
          case round =>
            obtain ⟨t, ht, rfl, hz⟩ := hrel
            have HZ := Lib.hid hz.out
            clear hz B810
            by_cases htl : t < p.s.l.length
            · have htz : (t : Int) < (p.s.l.length : Int) := by omega
              have ht0 : (0 : Int) ≤ (t : Int) := by omega
              have hT : ((t : Int) + (K : Int)) % (p.s.l.length : Int) = ((tau p.s.l.length K t : Nat) : Int) := by unfold tau; rw [Int.natCast_emod]; simp
              have hTl : tau p.s.l.length K t < p.s.l.length := tau_lt (by omega)
              have hTz : ((tau p.s.l.length K t : Nat) : Int) < (p.s.l.length : Int) := by omega
              have hT0 : (0 : Int) ≤ ((tau p.s.l.length K t : Nat) : Int) := by omega
              go_upto_region 31 with (fail)
              rw [hT]
              clear hT
              obtain ⟨ra, rb, rc, re, ⟨t1, t2, t3, t4⟩, ⟨u1, u2, u3, u4⟩⟩ := HTB.out k t htl
              have f1 : x1.lists = _ := E1.out
              have f2 : x2.lists = _ := E2.out
              obtain ⟨ma, ya, ia, ja, ka0, ka1⟩ := I1.out.a.cellR ((congrArg (·[tau p.s.l.length K t]?) (congrArg (·.1) f1)).trans t1)
              obtain ⟨mb, yb, ib, jb, kb0, kb1⟩ := I1.out.b.cellR ((congrArg (·[tau p.s.l.length K t]?) (congrArg (·.2.1) f1)).trans t2)
              obtain ⟨mc, yc, ic, jc, kc0, kc1⟩ := I1.out.c.cellR ((congrArg (·[tau p.s.l.length K t]?) (congrArg (·.2.2.1) f1)).trans t3)
              obtain ⟨md, yd, id, jd, kd0, kd1⟩ := I1.out.d.cellR ((congrArg (·[tau p.s.l.length K t]?) (congrArg (·.2.2.2) f1)).trans t4)
              obtain ⟨na, za, la, va, sa0, sa1⟩ := I2.out.a.cellR ((congrArg (·[t]?) (congrArg (·.1) f2)).trans u1)
              obtain ⟨nb, zb, lb, vb, sb0, sb1⟩ := I2.out.b.cellR ((congrArg (·[t]?) (congrArg (·.2.1) f2)).trans u2)
              obtain ⟨nc, zc, lc, vc, sc0, sc1⟩ := I2.out.c.cellR ((congrArg (·[t]?) (congrArg (·.2.2.1) f2)).trans u3)
              obtain ⟨nd, zd, ld, vd, sd0, sd1⟩ := I2.out.d.cellR ((congrArg (·[t]?) (congrArg (·.2.2.2) f2)).trans u4)
              clear t1 t2 t3 t4 u1 u2 u3 u4 f1 f2
              have p0 := cell_regrown (show wr.cell? ⟨b1, o1 + k * 4, none⟩ = some (.slice (some ⟨ma, ya, none⟩) p.s.l.length x1.a.c) by rw [HZ.out.cell (p := ⟨b1, o1 + k * 4, none⟩) hb1, G1.out.1, ia])
              have p1 := cell_regrown (show wr.cell? ⟨b1, o1 + k * 4 + 1, none⟩ = some (.slice (some ⟨mb, yb, none⟩) p.s.l.length x1.b.c) by rw [HZ.out.cell (p := ⟨b1, o1 + k * 4 + 1, none⟩) hb1, G1.out.2.1, ib])
              have p2 := cell_regrown (show wr.cell? ⟨b1, o1 + k * 4 + 2, none⟩ = some (.slice (some ⟨mc, yc, none⟩) p.s.l.length x1.c.c) by rw [HZ.out.cell (p := ⟨b1, o1 + k * 4 + 2, none⟩) hb1, G1.out.2.2.1, ic])
              have p3 := cell_regrown (show wr.cell? ⟨b1, o1 + k * 4 + 3, none⟩ = some (.slice (some ⟨md, yd, none⟩) p.s.l.length x1.d.c) by rw [HZ.out.cell (p := ⟨b1, o1 + k * 4 + 3, none⟩) hb1, G1.out.2.2.2, id])
              have q0 := cell_regrown (show wr.cell? ⟨b2, o2 + k * 4, none⟩ = some (.slice (some ⟨na, za, none⟩) p.s.l.length x2.a.c) by rw [HZ.out.cell (p := ⟨b2, o2 + k * 4, none⟩) hb2, G2.out.1, la])
              have q1 := cell_regrown (show wr.cell? ⟨b2, o2 + k * 4 + 1, none⟩ = some (.slice (some ⟨nb, zb, none⟩) p.s.l.length x2.b.c) by rw [HZ.out.cell (p := ⟨b2, o2 + k * 4 + 1, none⟩) hb2, G2.out.2.1, lb])
              have q2 := cell_regrown (show wr.cell? ⟨b2, o2 + k * 4 + 2, none⟩ = some (.slice (some ⟨nc, zc, none⟩) p.s.l.length x2.c.c) by rw [HZ.out.cell (p := ⟨b2, o2 + k * 4 + 2, none⟩) hb2, G2.out.2.2.1, lc])
              have q3 := cell_regrown (show wr.cell? ⟨b2, o2 + k * 4 + 3, none⟩ = some (.slice (some ⟨nd, zd, none⟩) p.s.l.length x2.d.c) by rw [HZ.out.cell (p := ⟨b2, o2 + k * 4 + 3, none⟩) hb2, G2.out.2.2.2, ld])
              generalize tau p.s.l.length K t = Q at *
              have pa0 := cell_regrown ((HZ.out.cell (p := ⟨ma, ya + Q * 2, none⟩) ja).trans ka0)
              have pa1 := cell_regrown ((HZ.out.cell (p := ⟨ma, ya + Q * 2 + 1, none⟩) ja).trans ka1)
              have pb0 := cell_regrown ((HZ.out.cell (p := ⟨mb, yb + Q * 2, none⟩) jb).trans kb0)
              have pb1 := cell_regrown ((HZ.out.cell (p := ⟨mb, yb + Q * 2 + 1, none⟩) jb).trans kb1)
              have pc0 := cell_regrown ((HZ.out.cell (p := ⟨mc, yc + Q * 2, none⟩) jc).trans kc0)
              have pc1 := cell_regrown ((HZ.out.cell (p := ⟨mc, yc + Q * 2 + 1, none⟩) jc).trans kc1)
              have pd0 := cell_regrown ((HZ.out.cell (p := ⟨md, yd + Q * 2, none⟩) jd).trans kd0)
              have pd1 := cell_regrown ((HZ.out.cell (p := ⟨md, yd + Q * 2 + 1, none⟩) jd).trans kd1)
              have qa0 := cell_regrown ((HZ.out.cell (p := ⟨na, za + t * 2, none⟩) va).trans sa0)
              have qa1 := cell_regrown ((HZ.out.cell (p := ⟨na, za + t * 2 + 1, none⟩) va).trans sa1)
              have qb0 := cell_regrown ((HZ.out.cell (p := ⟨nb, zb + t * 2, none⟩) vb).trans sb0)
              have qb1 := cell_regrown ((HZ.out.cell (p := ⟨nb, zb + t * 2 + 1, none⟩) vb).trans sb1)
              have qc0 := cell_regrown ((HZ.out.cell (p := ⟨nc, zc + t * 2, none⟩) vc).trans sc0)
              have qc1 := cell_regrown ((HZ.out.cell (p := ⟨nc, zc + t * 2 + 1, none⟩) vc).trans sc1)
              have qd0 := cell_regrown ((HZ.out.cell (p := ⟨nd, zd + t * 2, none⟩) vd).trans sd0)
              have qd1 := cell_regrown ((HZ.out.cell (p := ⟨nd, zd + t * 2 + 1, none⟩) vd).trans sd1)
              clear ia ja ka0 ka1 ib jb kb0 kb1 ic jc kc0 kc1 id jd kd0 kd1 la va sa0 sa1 lb vb sb0 sb1 lc vc sc0 sc1 ld vd sd0 sd1 hTl
              refine wp_region_quiet_below (by kernel_rfl) (by kernel_rfl) ?_
              repeat (first | go_big_quiet_step (fail) | quiet_step (fail))
              refine wpQuiet_nil ?_
              intro wq hwq
              have hbq : Below wr.heap.size wr wq := (by obtain ⟨q, rfl⟩ := hwq; exact below_regrown _ _ _)
              clear hwq p0 p1 p2 p3 q0 q1 q2 q3 pa0 pa1 pb0 pb1 pc0 pc1 pd0 pd1 qa0 qa1 qb0 qb1 qc0 qc1 qd0 qd1
              go_wp2
              go_roundw
              case rel => exact ⟨t + 1, by omega, by go_num, HZ.out.trans (hbq.mono HZ.out.size)⟩
              case measure => simp [intOf]; omega
            · obtain rfl : t = p.s.l.length := by omega
              go_wp2
              go_roundw
              case rel => exact ⟨k + 1, by omega, by go_num, HZ.out⟩
              case measure => simp [intOf]; omega
        · obtain rfl : k = Y := by omega
          go_wp2_with (go_at_call 19; refine (awake_any _).mono ?_; rintro e w9 ⟨rfl, hb9⟩)
          go_ret
          have hx := B8.out.trans (hb.out.mono B8.out.size)
          exact ⟨rfl, hx.trans (hb9.mono hx.size)⟩
theorem StockSizes_walk (p : PlM) (yr : Nat) (w : World) (hp : p.Lay w w.heap.size) (hyr : yr ≤ 255) : Calls Try.prog 16 #[.agg p.cells.toArray, .int .u8 yr] w fun e w' => e = .returned (.bool true) ∧ Below w.heap.size w w' := by
  cases hr : readyB p with
  | false => exact Sizes_no p yr w hp hr
  | true => exact Sizes_yes p yr w hp hr hyr
end Go.Proofs.Ytopiidfhjfbmfaa
