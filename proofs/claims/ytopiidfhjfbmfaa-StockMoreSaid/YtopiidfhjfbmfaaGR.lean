/- The texts PKO MOA MOB MOC, joined. -/
import Derived.Test.YtopiidfhjfbmfaaGH
import Derived.Test.YtopiidfhjfbmfaaGI
import Derived.Test.YtopiidfhjfbmfaaGK
import Derived.Test.YtopiidfhjfbmfaaGO
import Derived.Test.YtopiidfhjfbmfaaGM
import Derived.Test.YtopiidfhjfbmfaaGP
import Derived.Test.YtopiidfhjfbmfaaGL
import Derived.Deep.DeepCutAuto
/- Picked, where what is one's own is told: each row of the truth lies in a block of its own. -/
namespace Go.Proofs.Ytopiidfhjfbmfaa
open Go.RowKit Go.Lib

/-- The one lies ahead of the other. -/
def Lt2 (r r' : Sv Int) : Prop := ∀ a a' : Addr, r.A = some a → r'.A = some a' → a.block < a'.block
/-- The years of a truth so far. -/
structure PK2o (w W2 : World) (B2 : Nat) (vs vg vl : Value) (fg : Nat → List (List Int)) (fl : Nat → Int) (k kl U : Nat) (wr : World) : Prop where
  tb : Lies wr (w.heap.size + 1 + 1) 31 #[vs, vg, vl]
  og : ∃ gs : List (Sv (Sv Int)), wr.ownsRow B2 100 1 vg k (gs.flatMap encV) ∧ gs.map (fun g => g.l.map (·.l)) = (List.range k).map fg ∧
    (∀ g, g ∈ gs → SlT wr wr.heap.size 1 23 encV g.A g.l ∧ ∀ r, r ∈ g.l → SlT wr wr.heap.size 1 3 encI r.A r.l ∧ Ap r.A vl ∧ Bt r B2 U) ∧ (gs.flatMap (·.l)).Pairwise Lt2
  ol : wr.ownsRow B2 3 1 vl kl (((List.range kl).map fl).map (Value.int .i64))
  old : ∀ j, j < B2 → j ≠ w.heap.size + 1 + 1 → wr.heap[j]? = W2.heap[j]?
  b : Below w.heap.size w wr
  z : B2 ≤ wr.heap.size
  zb : B2 ≤ U
  zu : U ≤ wr.heap.size
section
variable {w W2 wr w' w4 : World} {B2 k kl U : Nat} {vs vg vl v4 : Value} {fg : Nat → List (List Int)} {fl : Nat → Int}
theorem PK2o.call (h : PK2o w W2 B2 vs vg vl fg fl k kl U wr) (hb : Below wr.heap.size wr w') : PK2o w W2 B2 vs vg vl fg fl k kl U w' := by
  obtain ⟨gs, h1, h2, h3, h4⟩ := h.og
  have hz := h.z
  exact ⟨h.tb.call hb, ⟨gs, ownsRow_call h1 hb, h2, fun g hg => ⟨(h3 g hg).1.call hb, fun r hr => ⟨((h3 g hg).2 r hr).1.call hb, ((h3 g hg).2 r hr).2⟩⟩, h4⟩,
    ownsRow_call h.ol hb, fun j hj hn => (hb.block j (by omega)).trans (h.old j hj hn), h.b.trans (hb.mono h.b.size), Nat.le_trans h.z hb.size, h.zb, Nat.le_trans h.zu hb.size⟩
/-- A year's growth is told. -/
theorem PK2o.grow {g : Sv (Sv Int)} {gs : List (Sv (Sv Int))} (h : PK2o w W2 B2 vs vg vl fg fl k kl U wr) (h1 : wr.ownsRow B2 100 1 vg k (gs.flatMap encV)) (h2 : gs.map (fun g => g.l.map (·.l)) = (List.range k).map fg)
    (h3 : ∀ g, g ∈ gs → SlT wr wr.heap.size 1 23 encV g.A g.l ∧ ∀ r, r ∈ g.l → SlT wr wr.heap.size 1 3 encI r.A r.l ∧ Ap r.A vl ∧ Bt r B2 U) (h4 : (gs.flatMap (·.l)).Pairwise Lt2)
    (hg1 : SlT wr wr.heap.size 1 23 encV g.A g.l) (hg2 : ∀ r, r ∈ g.l → SlT wr wr.heap.size 1 3 encI r.A r.l ∧ Ap r.A vl ∧ Bt r U wr.heap.size) (hg3 : g.l.map (·.l) = fg k) (hg4 : g.l.Pairwise Lt2)
    (hB : w.heap.size + 1 + 1 < B2) (hg : wr.grownBy w4 vg.ownBlock) (hown : w4.ownsRow B2 100 1 v4 (k + 1) (gs.flatMap encV ++ encV g)) :
    PK2o w W2 B2 vs v4 vl fg fl (k + 1) kl wr.heap.size (w4.setCell ⟨w.heap.size + 1 + 1, 1, none⟩ v4) ∧ Lies w4 (w.heap.size + 1 + 1) 31 #[vs, vg, vl] := by
  have hne : ∀ j, j < B2 → some j ≠ vg.ownBlock := fun j hj e => by have := (own_at h1 e.symm).1; omega
  have ht := h.tb.grown hg (hne _ hB)
  have hz := h.z
  have hsz : wr.heap.size ≤ (w4.setCell ⟨w.heap.size + 1 + 1, 1, none⟩ v4).heap.size := by simpa only [World.size_setCell] using hg.size
  have o4 : Only (w.heap.size + 1 + 1) w4 (w4.setCell ⟨w.heap.size + 1 + 1, 1, none⟩ v4) := Only.set _ _ _ _
  have key : ∀ {lo hi : Nat}, B2 ≤ lo → hi ≤ wr.heap.size → ∀ g : Sv (Sv Int), (SlT wr wr.heap.size 1 23 encV g.A g.l ∧ ∀ r, r ∈ g.l → SlT wr wr.heap.size 1 3 encI r.A r.l ∧ Ap r.A vl ∧ Bt r lo hi) →
      SlT (w4.setCell ⟨w.heap.size + 1 + 1, 1, none⟩ v4) (w4.setCell ⟨w.heap.size + 1 + 1, 1, none⟩ v4).heap.size 1 23 encV g.A g.l ∧ ∀ r, r ∈ g.l → SlT (w4.setCell ⟨w.heap.size + 1 + 1, 1, none⟩ v4) (w4.setCell ⟨w.heap.size + 1 + 1, 1, none⟩ v4).heap.size 1 3 encI r.A r.l ∧ Ap r.A vl ∧ Bt r B2 wr.heap.size := fun h5 h6 g hh =>
    ⟨((hh.1.grown h1 (by decide) hg).only o4 ht (by decide)).more hsz, fun r hr => ⟨(((hh.2 r hr).1.grown h1 (by decide) hg).only o4 ht (by decide)).more hsz, (hh.2 r hr).2.1, (hh.2 r hr).2.2.more h5 h6⟩⟩
  refine ⟨⟨ht.set 1 v4, ⟨gs ++ [g], ?_, ?_, fun x hx => ?_, ?_⟩, own_set (own_other h.ol h1 (by decide) hg) ht (by decide) v4, fun j hj hn => ?_, ?_, by omega, Nat.le_trans h.zb h.zu, hsz⟩, ht⟩
  · rw [List.flatMap_append]
    simpa using own_set hown ht (by decide) (i := 1) v4
  · rw [List.map_append, h2, List.range_succ, List.map_append]
    simp [hg3]
  · rcases List.mem_append.1 hx with hx | hx
    · exact key (Nat.le_refl _) h.zu x (h3 x hx)
    · obtain rfl : x = g := by simpa using hx
      exact key h.zb (Nat.le_refl _) x ⟨hg1, hg2⟩
  · rw [List.flatMap_append]
    refine List.pairwise_append.2 ⟨h4, by simpa using hg4, fun r hr r' hr' a a' ea ea' => ?_⟩
    obtain ⟨g0, hg0, hr0⟩ := List.mem_flatMap.1 hr
    have hr1 : r' ∈ g.l := by simpa using hr'
    have b1 := (((h3 g0 hg0).2 r hr0).2.2.1 a ea).2
    have b2 := ((hg2 r' hr1).2.2.1 a' ea').1
    omega
  · rw [heap_setCell_other _ _ _ _ hn, hg.block j (by omega) (hne j hj), h.old j hj hn]
  · have hw := h.b.size
    exact (h.b.grown hg hw (fun j e => by have := (own_at h1 e).1; omega)).setCell (by show w.heap.size ≤ w.heap.size + 1 + 1; omega) _
/-- A year's loss is told. -/
theorem PK2o.loss {g m c : Nat} (h : PK2o w W2 B2 vs vg vl fg fl k kl U wr) (hB : w.heap.size + 1 + 1 < B2) (hg : wr.grownBy w4 vl.ownBlock) (hat : vl.ownBlock = some g ∨ g = wr.heap.size)
    (hown : w4.ownsRow B2 3 1 (.slice (some ⟨g, 0, none⟩) m c) (kl + 1) (((List.range kl).map fl).map (Value.int .i64) ++ [.int .i64 (fl kl)])) :
    PK2o w W2 B2 vs vg (.slice (some ⟨g, 0, none⟩) m c) fg fl k (kl + 1) U (w4.setCell ⟨w.heap.size + 1 + 1, 2, none⟩ (.slice (some ⟨g, 0, none⟩) m c)) ∧ Lies w4 (w.heap.size + 1 + 1) 31 #[vs, vg, vl] := by
  obtain ⟨gs, h1, h2, h3, h4⟩ := h.og
  have hne : ∀ j, j < B2 → some j ≠ vl.ownBlock := fun j hj e => by have := (own_at h.ol e.symm).1; omega
  have ht := h.tb.grown hg (hne _ hB)
  have hz := h.z
  have hsz : wr.heap.size ≤ (w4.setCell ⟨w.heap.size + 1 + 1, 2, none⟩ (.slice (some ⟨g, 0, none⟩) m c)).heap.size := by simpa only [World.size_setCell] using hg.size
  have o4 : Only (w.heap.size + 1 + 1) w4 (w4.setCell ⟨w.heap.size + 1 + 1, 2, none⟩ (.slice (some ⟨g, 0, none⟩) m c)) := Only.set _ _ _ _
  have hsz4 : (w4.setCell ⟨w.heap.size + 1 + 1, 2, none⟩ (.slice (some ⟨g, 0, none⟩) m c)).heap.size = w4.heap.size := by simp only [World.size_setCell]
  refine ⟨⟨ht.set 2 _, ⟨gs, own_set (own_other h1 h.ol (by decide) hg) ht (by decide) _, h2, fun x hx => ⟨(((h3 x hx).1.grown h.ol (by decide) hg).only o4 ht (by decide)).more hsz, fun r hr => ⟨?_, ((h3 x hx).2 r hr).2.1.step (fun a e => Nat.lt_of_lt_of_le (((h3 x hx).2 r hr).2.2.1 a e).2 h.zu) hat, ((h3 x hx).2 r hr).2.2⟩⟩, h4⟩, ?_, fun j hj hn => ?_, ?_, by omega, h.zb, Nat.le_trans h.zu hsz⟩, ht⟩
  · rw [hsz4]
    exact (((h3 x hx).2 r hr).1.app ((h3 x hx).2 r hr).2.1 h.ol hg).only o4 ht (by decide)
  · rw [List.range_succ, List.map_append, List.map_append]
    exact own_set hown ht (by decide) _
  · rw [heap_setCell_other _ _ _ _ hn, hg.block j (by omega) (hne j hj), h.old j hj hn]
  · have hw := h.b.size
    exact (h.b.grown hg hw (fun j e => by have := (own_at h.ol e).1; omega)).setCell (by show w.heap.size ≤ w.heap.size + 1 + 1; omega) _
end
/-- The rows of a year so far. -/
structure PK3o (wo : World) (f : Nat → List Int) (v : Value) (j U : Nat) (wr : World) : Prop where
  own : ∃ rs : List (Sv Int), wr.ownsRow wo.heap.size 23 1 v j (rs.flatMap encV) ∧ rs.map (·.l) = (List.range j).map f ∧ (∀ r, r ∈ rs → SlT wr wr.heap.size 1 3 encI r.A r.l ∧ Bt r wo.heap.size U) ∧ rs.Pairwise Lt2
  b : Below wo.heap.size wo wr
  zb : wo.heap.size ≤ U
  zu : U ≤ wr.heap.size
section
variable {wo wr w' w4 : World} {f : Nat → List Int} {v v4 : Value} {j U : Nat}
theorem PK3o.start (wo : World) (f : Nat → List Int) : PK3o wo f (.slice none 0 0) 0 wo.heap.size wo := ⟨⟨[], by simpa using World.ownsRow_nil _ _ _ _, rfl, (fun r hr => by cases hr), List.Pairwise.nil⟩, Below.refl _ _, Nat.le_refl _, Nat.le_refl _⟩
theorem PK3o.call (h : PK3o wo f v j U wr) (hb : Below wr.heap.size wr w') : PK3o wo f v j U w' := by
  obtain ⟨rs, h1, h2, h3, h4⟩ := h.own
  exact ⟨⟨rs, ownsRow_call h1 hb, h2, fun r hr => ⟨(h3 r hr).1.call hb, (h3 r hr).2⟩, h4⟩, h.b.trans (hb.mono h.b.size), h.zb, Nat.le_trans h.zu hb.size⟩
theorem PK3o.next {r : Sv Int} {rs : List (Sv Int)} (h : PK3o wo f v j U wr) (h1 : wr.ownsRow wo.heap.size 23 1 v j (rs.flatMap encV)) (h2 : rs.map (·.l) = (List.range j).map f)
    (h3 : ∀ r, r ∈ rs → SlT wr wr.heap.size 1 3 encI r.A r.l ∧ Bt r wo.heap.size U) (h4 : rs.Pairwise Lt2) (hr : SlT wr wr.heap.size 1 3 encI r.A r.l ∧ Bt r U wr.heap.size) (hl : r.l = f j)
    (hg : wr.grownBy w4 v.ownBlock) (hown : w4.ownsRow wo.heap.size 23 1 v4 (j + 1) (rs.flatMap encV ++ encV r)) : PK3o wo f v4 (j + 1) wr.heap.size w4 := by
  have key : ∀ {lo hi : Nat}, wo.heap.size ≤ lo → hi ≤ wr.heap.size → ∀ r : Sv Int, (SlT wr wr.heap.size 1 3 encI r.A r.l ∧ Bt r lo hi) → SlT w4 w4.heap.size 1 3 encI r.A r.l ∧ Bt r wo.heap.size wr.heap.size := fun h5 h6 r hh =>
    ⟨(hh.1.grown h1 (by decide) hg).more hg.size, hh.2.more h5 h6⟩
  refine ⟨⟨rs ++ [r], ?_, ?_, fun x hx => ?_, ?_⟩, h.b.grown hg h.b.size (fun i e => (own_at h1 e).1), Nat.le_trans h.zb h.zu, hg.size⟩
  · rw [List.flatMap_append]; simpa using hown
  · rw [List.map_append, h2, List.range_succ, List.map_append]; simp [hl]
  · rcases List.mem_append.1 hx with hx | hx
    · exact key (Nat.le_refl _) h.zu x (h3 x hx)
    · obtain rfl : x = r := by simpa using hx
      exact key h.zb (Nat.le_refl _) x hr
  · refine List.pairwise_append.2 ⟨h4, List.pairwise_singleton _ _, fun r0 hr0 r' hr' a a' ea ea' => ?_⟩
    obtain rfl : r' = r := by simpa using hr'
    have b1 := ((h3 r0 hr0).2.1 a ea).2
    have b2 := (hr.2.1 a' ea').1
    omega
end
/-- A truth of one's own: its rows lie in blocks from lo on, each in another one. -/
structure TrM.Own (t : TrM) (lo : Nat) (W : World) : Prop where
  s : SlT W W.heap.size 1 3 encI t.s.A t.s.l
  l : SlT W W.heap.size 1 3 encI t.l.A t.l.l
  g : SlT W W.heap.size 1 100 encV t.g.A t.g.l
  y : ∀ y, y ∈ t.g.l → SlT W W.heap.size 1 23 encV y.A y.l
  r : ∀ y, y ∈ t.g.l → ∀ r, r ∈ y.l → SlT W W.heap.size 1 3 encI r.A r.l
  sb : ∀ a : Addr, t.s.A = some a → lo ≤ a.block
  lb : ∀ a : Addr, t.l.A = some a → lo ≤ a.block
  rb : ∀ y, y ∈ t.g.l → ∀ r, r ∈ y.l → ∀ a : Addr, r.A = some a → lo ≤ a.block
  sl : ∀ a a' : Addr, t.s.A = some a → t.l.A = some a' → a.block ≠ a'.block
  sr : ∀ y, y ∈ t.g.l → ∀ r, r ∈ y.l → ∀ a a' : Addr, t.s.A = some a → r.A = some a' → a.block ≠ a'.block
  lr : ∀ y, y ∈ t.g.l → ∀ r, r ∈ y.l → ∀ a a' : Addr, t.l.A = some a → r.A = some a' → a.block ≠ a'.block
  rr : (t.g.l.flatMap (·.l)).Pairwise Lt2
def RetO (d : TD) (w : World) (e : Ending) (w' : World) : Prop := ∃ t : TrM, e = .returned (.agg t.cells.toArray) ∧ t.d = d ∧ t.At w' w'.heap.size ∧ t.Nil ∧ t.Own w.heap.size w' ∧ Below w.heap.size w w'
set_option maxRecDepth 100000 in
set_option maxHeartbeats 4000000 in
theorem Picked_own (p : PlM) (Y : Nat) (A : Option Addr) (c : Nat) (ws : List Nat) (w : World) (hp : p.At w w.heap.size) (hv : p.Valid) (hY : p.years = (Y : Int)) (hA : Sl w w.heap.size 1 encW A ws) (hw : ∀ x, x ∈ ws → x < 65536) (hl : ws.length ≤ 9223372036854775807) :
    Calls Try.prog 52 #[.agg p.cells.toArray, .slice A ws.length c] w (RetO (pickD p.d Y ws) w) := by
  obtain ⟨i0, hi, hz0, hz1, hz2⟩ := info_parts infoInt
  obtain ⟨i1, hi1, hz10, hz11, hz12⟩ := info_parts infoInts
  obtain ⟨i2, hi2, hz20, hz21, hz22⟩ := info_parts infoRows
  have hn5 := hv.ok.n
  have hn1 := hv.ok.one
  have hY6 : Y ≤ 6 := by have := hv.y; omega
  have hPI : ∀ (W : World) (lo hi : Int) (i : Nat) (z : Int), Below w.heap.size w W → z = (i : Int) → i ≤ 1000000 → 0 ≤ lo → lo ≤ hi → hi ≤ 1000000 → Calls Try.prog 85 #[.agg #[.int .i64 lo, .int .i64 hi], .slice A ws.length c, .int .i64 z] W fun e w' => e = .returned (.int .i64 (pickN (lo, hi) ws i)) ∧ Below W.heap.size W w' :=
    fun W lo hi i z hb hz h1 h2 h3 h4 => hz ▸ pick_any lo hi A c ws i W ((hA.below hb).more hb.size) hw hl h1 h2 h3 h4
  have l0 : Lies (((w.alloc (.cells p.cells.toArray 28)).alloc (.cells #[.slice none 0 0, .slice none 0 0, .slice none 0 0] 31)).alloc (.cells #[.slice none 0 0, .slice none 0 0, .slice none 0 0] 31)) w.heap.size 28 p.cells.toArray := ((Lies.fresh _ _ _).alloc _).alloc _
  have l1 : Lies (((w.alloc (.cells p.cells.toArray 28)).alloc (.cells #[.slice none 0 0, .slice none 0 0, .slice none 0 0] 31)).alloc (.cells #[.slice none 0 0, .slice none 0 0, .slice none 0 0] 31)) (w.heap.size + 1) 31 #[.slice none 0 0, .slice none 0 0, .slice none 0 0] := (Lies.fresh' (by simp)).alloc _
  have l2 : Lies (((w.alloc (.cells p.cells.toArray 28)).alloc (.cells #[.slice none 0 0, .slice none 0 0, .slice none 0 0] 31)).alloc (.cells #[.slice none 0 0, .slice none 0 0, .slice none 0 0] 31)) (w.heap.size + 1 + 1) 31 #[.slice none 0 0, .slice none 0 0, .slice none 0 0] := Lies.fresh' (by simp)
  have b0 : Below w.heap.size w (((w.alloc (.cells p.cells.toArray 28)).alloc (.cells #[.slice none 0 0, .slice none 0 0, .slice none 0 0] 31)).alloc (.cells #[.slice none 0 0, .slice none 0 0, .slice none 0 0] 31)) := (by repeat (first | (with_reducible assumption) | (with_reducible exact Below.refl _ _) | (with_reducible refine Below.drew ?_) | (with_reducible refine below_drewN ?_ _) | ((with_reducible refine Below.setCell ?_ ?_ _); rotate_left; focus (first | (simp; done) | (simp; omega) | omega)) | ((with_reducible refine Below.alloc ?_ ?_ _); rotate_left; focus (first | (simp; done) | (simp; omega) | omega))))
  have hM : PK1 p w (fun s => pickN (p.d.s.getD s (0, 0)) ws s) (.slice none 0 0) 0 (((w.alloc (.cells p.cells.toArray 28)).alloc (.cells #[.slice none 0 0, .slice none 0 0, .slice none 0 0] 31)).alloc (.cells #[.slice none 0 0, .slice none 0 0, .slice none 0 0] 31)) := ⟨l0, l1, l2, by simpa using World.ownsRow_nil _ _ _ _, b0⟩
  have HM := Lib.hid hM
  have HP := Lib.hid hp
  have HV := Lib.hid hv
  have HYE := Lib.hid hY
  have HPI := Lib.hid hPI
  have L0 := Lib.hid l0
  have HI := Lib.hid hi
  have Hz0 := Lib.hid hz0
  have Hz1 := Lib.hid hz1
  have Hz2 := Lib.hid hz2
  have HI1 := Lib.hid hi1
  have Hz10 := Lib.hid hz10
  have Hz11 := Lib.hid hz11
  have Hz12 := Lib.hid hz12
  have HI2 := Lib.hid hi2
  have Hz20 := Lib.hid hz20
  have Hz21 := Lib.hid hz21
  have Hz22 := Lib.hid hz22
  have r0 : (((w.alloc (.cells p.cells.toArray 28)).alloc (.cells #[.slice none 0 0, .slice none 0 0, .slice none 0 0] 31)).alloc (.cells #[.slice none 0 0, .slice none 0 0, .slice none 0 0] 31)).cell? ⟨w.heap.size, 0, none⟩ = some (.slice p.s.A p.s.l.length p.s.c) := l0.at_ 0
  clear hM hp hv hY hPI l0 l1 l2 b0 hi hz0 hz1 hz2 hi1 hz10 hz11 hz12 hi2 hz20 hz21 hz22 hA hw hl
  unfold PlM.cells at r0 ⊢
  go_enter Try.func52, Try.ntmps52
  go_wp2
  clear r0
  go_loopw [7] (fun i wr => ∃ (k : Nat) (v : Value), k ≤ p.s.l.length ∧ i = .int .i64 k ∧ Aside (PK1 p w (fun s => pickN (p.d.s.getD s (0, 0)) ws s) v k wr)) (fun i _ => p.s.l.length - (intOf i).toNat)
  case atStart => exact ⟨0, _, by omega, rfl, HM.out⟩
  case round =>
    obtain ⟨k, v, hk, rfl, M⟩ := hrel
    by_cases hlt : k < p.s.l.length
    · have hltz : (k : Int) < (p.s.l.length : Int) := by omega
      have hk0 : (0 : Int) ≤ (k : Int) := by omega
      obtain ⟨r, hr⟩ : ∃ r, p.s.l[k]? = some r := ⟨p.s.l[k], by simp [hlt]⟩
      obtain ⟨b, o, eA, hb, c0, c1⟩ := HP.out.s.cellR hr
      have hrb := HV.out.sb r (List.mem_of_getElem? hr)
      have hfk : pickN (p.d.s.getD k (0, 0)) ws k = pickN (r.1, r.2) ws k := by
        show pickN (p.s.l.getD k (0, 0)) ws k = _
        rw [List.getD, hr]; rfl
      have q0 := cell_regrown (show wr.cell? ⟨w.heap.size + 1 + 1, 0, none⟩ = some v from M.out.tb.at_ 0)
      have q1 := cell_regrown (show wr.cell? ⟨w.heap.size, 0, none⟩ = some (.slice (some ⟨b, o, none⟩) p.s.l.length p.s.c) by rw [← eA]; exact M.out.pb.at_ 0)
      have q2 := cell_regrown (show wr.cell? ⟨b, o + k * 2, none⟩ = some (.int .i64 r.1) by rw [M.out.b.cell (p := ⟨b, o + k * 2, none⟩) hb]; exact c0)
      have q3 := cell_regrown (show wr.cell? ⟨b, o + k * 2 + 1, none⟩ = some (.int .i64 r.2) by rw [M.out.b.cell (p := ⟨b, o + k * 2 + 1, none⟩) hb]; exact c1)
      have HFK := Lib.hid hfk
      have HRB := Lib.hid hrb
      have HE := Lib.hid eA
      clear hfk hrb c0 c1 hr eA
      go_wp2
      refine wp_region_reads 11 [0, 1, 2, 3, 4, 5, 6, 7, 8] [9, 10] (by kernel_rfl) (by kernel_rfl) ?_
      simp only [List.filterMap_cons, List.filterMap_nil, List.take_succ_cons, List.take_zero, List.getElem?_toArray, List.getElem?_cons_zero, List.getElem?_cons_succ, List.drop_succ_cons, List.drop_zero]
      repeat (first | go_big_quiet_step (fail) | quiet_step (fail))
      refine wpQuiet_nil ?_
      intro w0 hb0 hz0
      clear q0 q1 q2 q3 hz0
      simp only [wpForce]
      have M1 := Lib.hid (M.out.call hb0)
      go_wp2_with (go_at_call 85; refine (HPI.out _ r.1 r.2 k (k : Int) M1.out.b rfl (by omega) HRB.out.1 HRB.out.2.1 HRB.out.2.2).mono ?_; rintro e w4 ⟨rfl, hb4⟩)
      have M4 := Lib.hid (M1.out.call hb4)
      have hb04 := hb0.trans (hb4.mono hb0.size)
      refine Ends.intro ⟨hb04, ?_⟩
      clear hb4 M1 hb0
      go_wp2
      have M5 := Lib.hid (M4.out.call ((Below.refl _ _).alloc (Nat.le_refl _) (.cells #[.int .i64 (pickN (r.1, r.2) ws k)] 3)))
      have HN5 := Lib.hid (news_alloc w4 [.int .i64 (pickN (r.1, r.2) ws k)] 3)
      refine Ends.intro ⟨hb04.alloc hb04.size _, ?_⟩
      have hz5 : w.heap.size + 3 ≤ (w4.alloc (.cells #[.int .i64 (pickN (r.1, r.2) ws k)] 3)).heap.size := by have := M5.out.tb.in_; omega
      clear hb04
      go_wp2_with (at_builtin; refine wpList_append_lies _ rfl (.tmp 22) (.tmp 31) 23 rfl (w.heap.size + 3) 3 i0 _ 1 8 Try.underlying23 HI.out Hz0.out Hz1.out Hz2.out rfl (by decide) v k (((List.range k).map (fun s => pickN (p.d.s.getD s (0, 0)) ws s)).map (Value.int .i64)) rfl M5.out.own ⟨w4.heap.size, 0, none⟩ 1 1 [.int .i64 (pickN (r.1, r.2) ws k)] rfl rfl HN5.out (by intro u hu; simp at hu; subst hu; rfl) Nat.one_pos (by unfold maxLen; omega) (by omega) hz5 _ rfl ?_; intro g6 cap6 w6 hown6 hg6 hat6 hlt6; have hN := M5.out.next hg6 (by rw [HFK.out]; exact hown6); have c6 : w6.cell? ⟨w.heap.size + 1 + 1, 0, none⟩ = some v := hN.2.2.1.at_ 0; have f6 := hN.2.2.1.free 0; have HN := Lib.hid hN; clear hN hown6 hg6 hat6 hlt6)
      clear hz5 M4 M5 HN5 HFK
      exact ⟨⟨k + 1, _, by omega, by go_num, HN.out.1⟩, by simp [intOf]; omega⟩
    · obtain rfl : k = p.s.l.length := by omega
      have hM2 : PK2o w wr wr.heap.size v (.slice none 0 0) (.slice none 0 0) (fun y => (List.range p.s.l.length).map fun s => (List.range p.s.l.length).map fun k => pickN ((p.d.g.getD s []).getD k (0, 0)) ws (31 * y + 5 * s + k + 3)) (fun y => pickN (p.d.lo, p.d.hi) ws (7 * y + 1)) 0 0 wr.heap.size wr :=
        ⟨M.out.tb, ⟨[], by simpa using World.ownsRow_nil _ _ _ _, rfl, (fun g hg => by cases hg), List.Pairwise.nil⟩, by simpa using World.ownsRow_nil _ _ _ _, fun _ _ _ => rfl, M.out.b, Nat.le_refl _, Nat.le_refl _, Nat.le_refl _⟩
      have HM2 := Lib.hid hM2
      have hB2 : w.heap.size + 1 + 1 < wr.heap.size := M.out.tb.in_
      have hYz : (Y : Int) ≤ 6 := by omega
      clear hM2
      obtain ⟨w2, rfl⟩ : ∃ w2 : World, w2 = wr := ⟨_, rfl⟩
      go_wp2
      go_loopw [8, 9, 10, 11, 12] (fun i _ _ _ _ wr => ∃ (y : Nat) (vg vl : Value) (U : Nat), y ≤ Y ∧ i = .int .i64 y ∧ Aside (PK2o w w2 w2.heap.size v vg vl (fun y => (List.range p.s.l.length).map fun s => (List.range p.s.l.length).map fun k => pickN ((p.d.g.getD s []).getD k (0, 0)) ws (31 * y + 5 * s + k + 3)) (fun y => pickN (p.d.lo, p.d.hi) ws (7 * y + 1)) y y U wr)) (fun i _ _ _ _ _ => Y - (intOf i).toNat)
      case atStart => exact ⟨0, _, _, _, by omega, rfl, HM2.out⟩
      case round =>
        obtain ⟨y, vg, vl, U, hy, rfl, N⟩ := hrel
        have hPB : ∀ W, (∀ j, j < w2.heap.size → j ≠ w.heap.size + 1 + 1 → W.heap[j]? = w2.heap[j]?) → Lies W w.heap.size 28 p.cells.toArray := fun W h => M.out.pb.to_ (h _ (by omega) (by omega))
        have d7 : wr.cell? ⟨w.heap.size, 7, none⟩ = some (.int .i64 (Y : Int)) := by rw [← HYE.out]; exact (hPB wr N.out.old).at_ 7
        have HPB := Lib.hid hPB
        clear hPB
        obtain ⟨wo, rfl⟩ : ∃ wo : World, wo = wr := ⟨_, rfl⟩
        by_cases hyl : y < Y
        · have hyz : (y : Int) < (Y : Int) := by omega
          have hy0 : (0 : Int) ≤ (y : Int) := by omega
          go_wp2
          clear d7
          go_loopw [9, 10, 11, 12] (fun vr s _ _ wr => ∃ j U3 : Nat, j ≤ p.s.l.length ∧ s = .int .i64 j ∧ Aside (PK3o wo (fun s => (List.range p.s.l.length).map fun k => pickN ((p.d.g.getD s []).getD k (0, 0)) ws (31 * y + 5 * s + k + 3)) vr j U3 wr)) (fun _ s _ _ _ => p.s.l.length - (intOf s).toNat)
          case atStart => exact ⟨0, _, by omega, rfl, PK3o.start _ _⟩
          case round =>
            obtain ⟨j, U3, hj, rfl, R⟩ := hrel
            obtain ⟨w3, rfl⟩ : ∃ w3 : World, w3 = wr := ⟨_, rfl⟩
            by_cases hjl : j < p.s.l.length
            · have hjz : (j : Int) < (p.s.l.length : Int) := by omega
              have hj0 : (0 : Int) ≤ (j : Int) := by omega
              go_wp2
              go_loopw [11, 12] (fun v4 i wr => ∃ q : Nat, q ≤ p.s.l.length ∧ i = .int .i64 q ∧ Aside (Below w3.heap.size w3 wr ∧ wr.ownsRow w3.heap.size 3 1 v4 q (((List.range q).map fun k => pickN ((p.d.g.getD j []).getD k (0, 0)) ws (31 * y + 5 * j + k + 3)).map (Value.int .i64)))) (fun _ i _ => p.s.l.length - (intOf i).toNat)
              case atStart => exact ⟨0, by omega, rfl, Below.refl _ _, by simpa using World.ownsRow_nil _ _ _ _⟩
              case round =>
                obtain ⟨q, hq, rfl, HQ⟩ := hrel
                have hb3 : Below w.heap.size w wr := (N.out.b.trans (R.out.b.mono N.out.b.size)).trans (HQ.out.1.mono (Nat.le_trans N.out.b.size R.out.b.size))
                have hold : ∀ j, j < w2.heap.size → j ≠ w.heap.size + 1 + 1 → wr.heap[j]? = w2.heap[j]? := fun j h1 h2 => by
                  have z1 := N.out.z
                  have z2 := R.out.b.size
                  rw [HQ.out.1.block j (by omega), R.out.b.block j (by omega), N.out.old j h1 h2]
                by_cases hql : q < p.s.l.length
                · have hqz : (q : Int) < (p.s.l.length : Int) := by omega
                  have hq0 : (0 : Int) ≤ (q : Int) := by omega
                  obtain ⟨x, hx⟩ : ∃ x, p.g.l[j]? = some x := ⟨p.g.l[j]'(by rw [HV.out.g]; exact hjl), by simp⟩
                  have hxm := List.mem_of_getElem? hx
                  have hxl := HV.out.gl x hxm
                  obtain ⟨r, hr⟩ : ∃ r, x.l[q]? = some r := ⟨x.l[q]'(by rw [hxl]; exact hql), by simp⟩
                  have hrb := HV.out.gb x hxm r (List.mem_of_getElem? hr)
                  obtain ⟨bg, og, eg, hbg, cg⟩ := HP.out.g.cell1 hx
                  obtain ⟨br, orr, er, hbr, cr0, cr1⟩ := (HP.out.rows x hxm).cellR hr
                  have d2 : wr.cell? ⟨w.heap.size, 2, none⟩ = some (.slice (some ⟨bg, og, none⟩) p.g.l.length p.g.c) := by rw [← eg]; exact (HPB.out wr hold).at_ 2
                  have d3 : wr.cell? ⟨bg, og + j, none⟩ = some (.slice (some ⟨br, orr, none⟩) p.s.l.length x.c) := by rw [hb3.cell (p := ⟨bg, og + j, none⟩) hbg, cg, ← er, ← hxl]; rfl
                  have d4 : wr.cell? ⟨br, orr + q * 2, none⟩ = some (.int .i64 r.1) := by rw [hb3.cell (p := ⟨br, orr + q * 2, none⟩) hbr]; exact cr0
                  have d5 : wr.cell? ⟨br, orr + q * 2 + 1, none⟩ = some (.int .i64 r.2) := by rw [hb3.cell (p := ⟨br, orr + q * 2 + 1, none⟩) hbr]; exact cr1
                  have hgz : (j : Int) < (p.g.l.length : Int) := by have := HV.out.g; omega
                  have hfk : pickN ((p.d.g.getD j []).getD q (0, 0)) ws (31 * y + 5 * j + q + 3) = pickN (r.1, r.2) ws (31 * y + 5 * j + q + 3) := by
                    have e1 : (p.d.g.getD j []).getD q (0, 0) = r := by
                      show ((p.g.l.map (·.l)).getD j []).getD q (0, 0) = r
                      simp [List.getD, hx, hr]
                    rw [e1]
                  have hy5 : (y : Int) ≤ 5 := by omega
                  have hj5 : (j : Int) ≤ 4 := by omega
                  have hq5 : (q : Int) ≤ 4 := by omega
                  have HFK := Lib.hid hfk
                  have HRB := Lib.hid hrb
                  have HB3 := Lib.hid hb3
                  have HOW := Lib.hid HQ.out.2
                  have HBW := Lib.hid HQ.out.1
                  have hz3 := HQ.out.1.size
                  clear hfk hrb hb3 hold eg er cg cr0 cr1 hx hxm hxl hr HQ
                  go_wp2_with (first
                    | (go_at_call 85; refine (HPI.out _ r.1 r.2 (31 * y + 5 * j + q + 3) _ HB3.out (by omega) (by omega) HRB.out.1 HRB.out.2.1 (by have := HRB.out.2.2; omega)).mono ?_; rintro e w4 ⟨rfl, hb4⟩; have HN5 := Lib.hid (news_alloc w4 [.int .i64 (pickN (r.1, r.2) ws (31 * y + 5 * j + q + 3))] 3); have HO5 := Lib.hid ((ownsRow_call HOW.out hb4).alloc (.cells #[.int .i64 (pickN (r.1, r.2) ws (31 * y + 5 * j + q + 3))] 3)); have hz5 : w3.heap.size ≤ (w4.alloc (.cells #[.int .i64 (pickN (r.1, r.2) ws (31 * y + 5 * j + q + 3))] 3)).heap.size := (by have := hb4.size; simp; omega); have HB4 := Lib.hid hb4; clear hb4)
                    | (at_builtin; refine wpList_append_lies _ rfl (.tmp 50) (.tmp 69) 23 rfl w3.heap.size 3 i0 _ 1 8 Try.underlying23 HI.out Hz0.out Hz1.out Hz2.out rfl (by decide) u11 q _ rfl HO5.out ⟨w4.heap.size, 0, none⟩ 1 1 [.int .i64 (pickN (r.1, r.2) ws (31 * y + 5 * j + q + 3))] rfl rfl HN5.out (by intro u hu; simp at hu; subst hu; rfl) Nat.one_pos (by unfold maxLen; omega) (by omega) hz5 _ rfl ?_; intro g6 cap6 w6 hown6 hg6 hat6 hlt6; clear hat6 hlt6))
                  have hb6 : Below w3.heap.size w3 w6 := ((HBW.out.trans (HB4.out.mono hz3)).alloc (by have := HB4.out.size; omega) _).grown hg6 hz5 (fun i e => (own_at HO5.out e).1)
                  have ho6 : w6.ownsRow w3.heap.size 3 1 (.slice (some ⟨g6, 0, none⟩) (q + 1) cap6) (q + 1) (((List.range (q + 1)).map fun k => pickN ((p.d.g.getD j []).getD k (0, 0)) ws (31 * y + 5 * j + k + 3)).map (Value.int .i64)) := by
                    rw [List.range_succ, List.map_append, List.map_append]
                    simp only [List.map_cons, List.map_nil]
                    rw [HFK.out]
                    exact hown6
                  have H6 := Lib.hid (And.intro hb6 ho6)
                  clear hb6 ho6 hown6 hg6 d2 d3 d4 d5
                  go_roundw
                  case rel => exact ⟨q + 1, by omega, by go_num, H6.out⟩
                  case measure => simp [intOf]; omega
                · obtain rfl : q = p.s.l.length := by omega
                  obtain ⟨x, e1, hxl, hxs, hxb⟩ := own_done (enc := encI) (l := (List.range p.s.l.length).map fun k => pickN ((p.d.g.getD j []).getD k (0, 0)) ws (31 * y + 5 * j + k + 3)) (fun _ => rfl) (by rw [List.length_map, List.length_range, flat_ints]; exact HQ.out.2)
                  rw [List.length_map, List.length_range] at e1
                  subst e1
                  have hR5 := (R.out.call HQ.out.1).call ((Below.refl _ _).alloc (Nat.le_refl _) (.cells #[.slice x.A p.s.l.length x.c] 23))
                  have hxs5 := hxs.call ((Below.refl _ _).alloc (Nat.le_refl _) (.cells #[.slice x.A p.s.l.length x.c] 23))
                  obtain ⟨rs, hown, hrs, hro, hrp⟩ := hR5.own
                  have hN5 := news_alloc wr [.slice x.A p.s.l.length x.c] 23
                  have hxlen : x.l.length = p.s.l.length := by rw [hxl]; simp
                  have hz3 := R.out.b.size
                  have hz4 := HQ.out.1.size
                  have hz5 : wo.heap.size ≤ (wr.alloc (.cells #[.slice x.A p.s.l.length x.c] 23)).heap.size := by simp; omega
                  have HR5 := Lib.hid hR5
                  have HXS := Lib.hid (And.intro hxs5 (hxb.more R.out.zu (by simp : wr.heap.size ≤ (wr.alloc (.cells #[.slice x.A p.s.l.length x.c] 23)).heap.size)))
                  have HXL := Lib.hid hxl
                  have HXN := Lib.hid hxlen
                  have HOW := Lib.hid hown
                  have HRS := Lib.hid hrs
                  have HRO := Lib.hid hro
                  have HRP := Lib.hid hrp
                  have HN5 := Lib.hid hN5
                  clear hR5 hxs hxs5 hxb hxl hxlen hown hrs hro hrp hN5 HQ hb3 hold
                  go_wp2_with (at_builtin; refine wpList_append_lies _ rfl (.tmp 71) (.tmp 73) 100 rfl wo.heap.size 23 i1 _ 1 24 Try.underlying100 HI1.out Hz10.out Hz11.out Hz12.out rfl (by decide) u9 j _ rfl HOW.out ⟨wr.heap.size, 0, none⟩ 1 1 [.slice x.A p.s.l.length x.c] rfl rfl HN5.out (by intro u hu; simp at hu; subst hu; rfl) Nat.one_pos (by unfold maxLen; omega) (by omega) hz5 _ rfl ?_; intro g7 cap7 w7 hown7 hg7 hat7 hlt7; clear hat7 hlt7)
                  have hR7 := HR5.out.next (r := x) HOW.out HRS.out HRO.out HRP.out HXS.out HXL.out hg7 (by have h := hown7; rw [← HXN.out] at h; exact h)
                  have HR7 := Lib.hid hR7
                  clear hR7 hown7 hg7
                  go_roundw
                  case rel => exact ⟨j + 1, _, by omega, by go_num, HR7.out⟩
                  case measure => simp [intOf]; omega
            · obtain rfl : j = p.s.l.length := by omega
              obtain ⟨rs, hown, hrs, hro, hrp⟩ := R.out.own
              have hrl : rs.length = p.s.l.length := by have := congrArg List.length hrs; simpa using this
              obtain ⟨G, e1, hgl, hgs, hgb⟩ := own_done (enc := encV) (l := rs) (fun _ => rfl) (by rw [hrl]; exact hown)
              rw [hrl] at e1
              subst e1
              have hAl : (Below w3.heap.size w3 (w3.alloc (.cells #[.slice G.A p.s.l.length G.c] 100))) := (Below.refl _ _).alloc (Nat.le_refl _) _
              have hN5 := (N.out.call R.out.b).call hAl
              obtain ⟨gs, hgo, hgm, hga, hgp⟩ := hN5.og
              have hnw := news_alloc w3 [.slice G.A p.s.l.length G.c] 100
              have hG1 := hgs.call hAl
              have hvl : ∀ b, vl.ownBlock = some b → b < wo.heap.size := fun b e => (own_at N.out.ol e).2.1
              have hG2 : ∀ r, r ∈ G.l → SlT (w3.alloc (.cells #[.slice G.A p.s.l.length G.c] 100)) (w3.alloc (.cells #[.slice G.A p.s.l.length G.c] 100)).heap.size 1 3 encI r.A r.l ∧ Ap r.A vl ∧ Bt r U (w3.alloc (.cells #[.slice G.A p.s.l.length G.c] 100)).heap.size := fun r hr => by
                rw [hgl] at hr
                refine ⟨(hro r hr).1.call hAl, fun a e h => ?_, (hro r hr).2.more N.out.zu (Nat.le_trans R.out.zu hAl.size)⟩
                have := hvl _ h
                have := ((hro r hr).2.1 a e).1
                omega
              have hG3 : G.l.map (·.l) = (List.range p.s.l.length).map fun s => (List.range p.s.l.length).map fun k => pickN ((p.d.g.getD s []).getD k (0, 0)) ws (31 * y + 5 * s + k + 3) := by rw [hgl, hrs]
              have hGn : G.l.length = p.s.l.length := by rw [hgl, hrl]
              have t1 : w3.cell? ⟨w.heap.size + 1 + 1, 1, none⟩ = some vg := (N.out.call R.out.b).tb.at_ 1
              have hz5 := hN5.z
              have HN5 := Lib.hid hN5
              have HGO := Lib.hid hgo
              have HGM := Lib.hid hgm
              have HGA := Lib.hid hga
              have HNW := Lib.hid hnw
              have HG1 := Lib.hid hG1
              have HG2 := Lib.hid hG2
              have HG3 := Lib.hid hG3
              have HGN := Lib.hid hGn
              have HGP := Lib.hid hgp
              have HG4 := Lib.hid (show G.l.Pairwise Lt2 by rw [hgl]; exact hrp)
              clear hN5 hgo hgm hga hgp hnw hG1 hG2 hG3 hGn hown hrs hro hrp hrl hgl hgs hgb hAl hvl R
              go_upto_region 21 with (at_builtin; refine wpList_append_lies _ rfl (.tmp 76) (.tmp 78) 29 rfl w2.heap.size 100 i2 _ 1 24 Try.underlying29 HI2.out Hz20.out Hz21.out Hz22.out rfl (by decide) vg y _ rfl HGO.out ⟨w3.heap.size, 0, none⟩ 1 1 [.slice G.A p.s.l.length G.c] rfl rfl HNW.out (by intro u hu; simp at hu; subst hu; rfl) Nat.one_pos (by unfold maxLen; omega) (by omega) hz5 _ rfl ?_; intro g7 cap7 w7 hown7 hg7 hat7 hlt7; clear hat7 hlt7; have e7 := HN5.out.grow (g := G) HGO.out HGM.out HGA.out HGP.out HG1.out HG2.out HG3.out HG4.out hB2 hg7 (by have h := hown7; rw [← HGN.out] at h; exact h); have c7 : w7.cell? ⟨w.heap.size + 1 + 1, 1, none⟩ = some vg := e7.2.at_ 1; have f7 := e7.2.free 1; have E7 := Lib.hid e7.1; clear e7 hown7 hg7)
              clear t1 c7 f7 HN5 HGO HGM HGA HNW HG1 HG2 HG3 HGN
              generalize w7.setCell ⟨w.heap.size + 1 + 1, 1, none⟩ (.slice (some ⟨g7, 0, none⟩) (y + 1) cap7) = w8 at *
              have q0 := cell_regrown (show w8.cell? ⟨w.heap.size + 1 + 1, 2, none⟩ = some vl from E7.out.tb.at_ 2)
              have q1 := cell_regrown (show w8.cell? ⟨w.heap.size, 5, none⟩ = some (.int .i64 p.lo) from (HPB.out _ E7.out.old).at_ 5)
              have q2 := cell_regrown (show w8.cell? ⟨w.heap.size, 6, none⟩ = some (.int .i64 p.hi) from (HPB.out _ E7.out.old).at_ 6)
              have hlo := HV.out.l
              have w1 : IntKind.i64.wrap (7 * (y : Int)) = 7 * (y : Int) := IntWalk.i64_in _ (by omega)
              have w2' : IntKind.i64.wrap (7 * (y : Int) + 1) = 7 * (y : Int) + 1 := IntWalk.i64_in _ (by omega)
              have HLO := Lib.hid hlo
              clear hlo
              refine wp_region_reads 10 [0, 1, 2, 3, 4, 5, 6, 7] [8, 9] (by kernel_rfl) (by kernel_rfl) ?_
              simp only [List.filterMap_cons, List.filterMap_nil, List.take_succ_cons, List.take_zero, List.getElem?_toArray, List.getElem?_cons_zero, List.getElem?_cons_succ, List.drop_succ_cons, List.drop_zero]
              repeat (first | go_big_quiet_step (fail) | quiet_step (fail))
              refine wpQuiet_nil ?_
              intro w0 hb0 hz0
              (try simp only [w1, w2'])
              clear q0 q1 q2 hz0 w1 w2'
              simp only [wpForce]
              have M1 := Lib.hid (E7.out.call hb0)
              go_wp2_with (go_at_call 85; refine (HPI.out _ p.lo p.hi (7 * y + 1) _ M1.out.b (by omega) (by omega) HLO.out.1 HLO.out.2.1 (by have := HLO.out.2.2; omega)).mono ?_; rintro e w9 ⟨rfl, hb9⟩)
              have M4 := Lib.hid (M1.out.call hb9)
              have hb09 := hb0.trans (hb9.mono hb0.size)
              refine Ends.intro ⟨hb09, ?_⟩
              clear hb9 M1 hb0
              go_wp2
              have M5 := Lib.hid (M4.out.call ((Below.refl _ _).alloc (Nat.le_refl _) (.cells #[.int .i64 (pickN (p.lo, p.hi) ws (7 * y + 1))] 3)))
              have HN5 := Lib.hid (news_alloc w9 [.int .i64 (pickN (p.lo, p.hi) ws (7 * y + 1))] 3)
              refine Ends.intro ⟨hb09.alloc hb09.size _, ?_⟩
              have hz6 := M5.out.z
              clear hb09
              go_wp2_with (at_builtin; refine wpList_append_lies _ rfl (.tmp 82) (.tmp 90) 23 rfl w2.heap.size 3 i0 _ 1 8 Try.underlying23 HI.out Hz0.out Hz1.out Hz2.out rfl (by decide) vl y _ rfl M5.out.ol ⟨w9.heap.size, 0, none⟩ 1 1 [.int .i64 (pickN (p.lo, p.hi) ws (7 * y + 1))] rfl rfl HN5.out (by intro u hu; simp at hu; subst hu; rfl) Nat.one_pos (by unfold maxLen; omega) (by omega) hz6 _ rfl ?_; intro g6 cap6 w6 hown6 hg6 hat6 hlt6; have hN := M5.out.loss hB2 hg6 hat6 hown6; have c6 : w6.cell? ⟨w.heap.size + 1 + 1, 2, none⟩ = some vl := hN.2.at_ 2; have f6 := hN.2.free 2; have HN := Lib.hid hN.1; clear hN hown6 hg6 hat6 hlt6)
              clear hz6 M4 M5 HN5
              exact ⟨⟨y + 1, _, _, _, by omega, by go_num, HN.out⟩, by simp [intOf]; omega⟩
        · obtain rfl : y = Y := by omega
          obtain ⟨gs, hgo, hgm, hga, hgp⟩ := N.out.og
          have hgl : gs.length = y := by have := congrArg List.length hgm; simpa using this
          have hso : wo.ownsRow (w.heap.size + 3) 3 1 v p.s.l.length (((List.range p.s.l.length).map fun s => pickN (p.d.s.getD s (0, 0)) ws s).map (Value.int .i64)) := own_keep M.out.own fun g hg => N.out.old g (own_at M.out.own hg).2.1 (by have := (own_at M.out.own hg).1; omega)
          obtain ⟨xs, es, hsl, hss, hsn⟩ := own_done (enc := encI) (l := (List.range p.s.l.length).map fun s => pickN (p.d.s.getD s (0, 0)) ws s) (fun _ => rfl) (by rw [List.length_map, List.length_range, flat_ints]; exact hso)
          obtain ⟨xg, eg, hgl', hgs, _⟩ := own_done (enc := encV) (l := gs) (fun _ => rfl) (by rw [hgl]; exact hgo)
          obtain ⟨xl, el, hll, hls, hln⟩ := own_done (enc := encI) (l := (List.range y).map fun y => pickN (p.d.lo, p.d.hi) ws (7 * y + 1)) (fun _ => rfl) (by rw [List.length_map, List.length_range, flat_ints]; exact N.out.ol)
          rw [List.length_map, List.length_range] at es el
          rw [hgl] at eg
          have hsB : ∀ a : Addr, xs.A = some a → w.heap.size + 3 ≤ a.block ∧ a.block < w2.heap.size := fun a e => by
            have h := own_at M.out.own (g := a.block) (by rw [es, e]; rfl)
            exact ⟨h.1, h.2.1⟩
          have hlA : ∀ g, g ∈ gs → ∀ r, r ∈ g.l → ∀ a a' : Addr, xl.A = some a → r.A = some a' → a.block ≠ a'.block := fun g hg r hr a a' e e' h => by
            have h2 := ((hga g hg).2 r hr).2.1 a' e'
            rw [el, e] at h2
            exact h2 (show some a.block = some a'.block by rw [h])
          have hlB := hln.1
          have hrB : ∀ g, g ∈ gs → ∀ r, r ∈ g.l → ∀ a : Addr, r.A = some a → w2.heap.size ≤ a.block := fun g hg r hr a e => (((hga g hg).2 r hr).2.2.1 a e).1
          subst es eg el
          have hzb : Lies wo (w.heap.size + 1) 31 #[.slice none 0 0, .slice none 0 0, .slice none 0 0] := M.out.zb.to_ (N.out.old _ (by omega) (by omega))
          have htd : (⟨xs, xg, xl⟩ : TrM).d = pickD p.d y ws := by
            unfold TrM.d pickD mkT
            simp only [hsl, hgl', hll, hgm]
            rfl
          have hcs : (⟨xs, xg, xl⟩ : TrM).cells = [.slice xs.A p.s.l.length xs.c, .slice xg.A y xg.c, .slice xl.A y xl.c] := by
            unfold TrM.cells
            rw [show xs.l.length = p.s.l.length by rw [hsl]; simp, show xg.l.length = y by rw [hgl', hgl], show xl.l.length = y by rw [hll]; simp]
          have ZB := Lib.hid hzb
          have TB := Lib.hid N.out.tb
          have HB := Lib.hid N.out.b
          have HTD := Lib.hid htd
          have HCS := Lib.hid hcs
          have hnil : (⟨xs, xg, xl⟩ : TrM).Nil := ⟨hsn.2, fun g hg r hr => ((hga g (by rw [← hgl']; exact hg)).2 r hr).2.2.2, hln.2⟩
          have HNIL := Lib.hid hnil
          have HSB := Lib.hid hsB
          have HLA := Lib.hid (hgl' ▸ hlA)
          have HLB := Lib.hid hlB
          have HRB := Lib.hid (hgl' ▸ hrB)
          have HGP := Lib.hid (show (xg.l.flatMap (·.l)).Pairwise Lt2 by rw [hgl']; exact hgp)
          have HAT := Lib.hid (And.intro hss (And.intro hgs (And.intro hls (hgl' ▸ hga))))
          clear hnil hsB hlA hlB hrB hgp hsn hln hgo hgm hga hgl hso hsl hss hgl' hgs hll hls hzb htd hcs
          go_upto_region 22 with (fail)
          apply wp_region_lit
          refine wpList_load_row (o := ⟨some 93, _, _, _, _, _⟩) ?_ 31 (.tmp 5) ?_ (w.heap.size + 1 + 1) ?_ 31 #[.slice xs.A p.s.l.length xs.c, .slice xg.A y xg.c, .slice xl.A y xl.c] (0, 0) _ TB.out Try.underlying31 rfl size31 ?_
          rfl; rfl; rfl
          simp only [Act.put, List.setIfInBounds_toArray, List.set_cons_zero, List.set_cons_succ]
          refine wpList_store_cells (o := ⟨none, .store 31 (.tmp 4) _, _, _, _, _⟩) ?_ 31 (.tmp 4) (.tmp 93) ?_ (w.heap.size + 1) 0 ?_ 31 [.slice none 0 0, .slice none 0 0, .slice none 0 0] [.slice xs.A p.s.l.length xs.c, .slice xg.A y xg.c, .slice xl.A y xl.c] ?_ ZB.out (Nat.le_refl 3) size31 (by simp [Value.oneCell']) ?_
          rfl; rfl; rfl; rfl
          intro w9 HS9 HO9
          refine wpList_nil ?_
          have hs9 : Lies w9 (w.heap.size + 1) 31 #[.slice xs.A p.s.l.length xs.c, .slice xg.A y xg.c, .slice xl.A y xl.c] := HS9.out
          have hk8 : ∀ {α : Type} {k : Nat} {T : TypeId} {enc : α → List Value} {A : Option Addr} {l : List α}, T ≠ 31 → SlT wo wo.heap.size k T enc A l → SlT w9 w9.heap.size k T enc A l := fun hT h => by
            rw [HO9.out.size]
            exact h.only HO9.out ZB.out hT
          have hzw : w.heap.size + 3 ≤ w2.heap.size := hB2
          have how : (⟨xs, xg, xl⟩ : TrM).Own w.heap.size w9 := ⟨hk8 (by decide) HAT.out.1, hk8 (by decide) HAT.out.2.2.1, hk8 (by decide) HAT.out.2.1, fun g hg => hk8 (by decide) (HAT.out.2.2.2 g hg).1, fun g hg r hr => hk8 (by decide) ((HAT.out.2.2.2 g hg).2 r hr).1,
            fun a e => by have := (HSB.out a e).1; omega, fun a e => by have := (HLB.out a e).1; omega, fun g hg r hr a e => by have := HRB.out g hg r hr a e; omega,
            fun a a' e e' h => by have h1 := (HSB.out a e).2; have h2 := (HLB.out a' e').1; omega, fun g hg r hr a a' e e' h => by have h1 := (HSB.out a e).2; have h2 := HRB.out g hg r hr a' e'; omega, HLA.out, HGP.out⟩
          have hk9 : ∀ {α : Type} {k : Nat} {T : TypeId} {enc : α → List Value} {A : Option Addr} {l : List α}, T ≠ 31 → SlT wo wo.heap.size k T enc A l → Sl w9 w9.heap.size k enc A l := fun hT h => by
            rw [HO9.out.size]
            exact (h.only HO9.out ZB.out hT).sl
          have hres : RetO (pickD p.d y ws) w (.returned (.agg #[.slice xs.A p.s.l.length xs.c, .slice xg.A y xg.c, .slice xl.A y xl.c])) w9 :=
            ⟨⟨xs, xg, xl⟩, by rw [HCS.out], HTD.out, ⟨hk9 (by decide) HAT.out.1, hk9 (by decide) HAT.out.2.1, fun g hg => hk9 (by decide) (HAT.out.2.2.2 g hg).1, fun g hg r hr => hk9 (by decide) ((HAT.out.2.2.2 g hg).2 r hr).1, hk9 (by decide) HAT.out.2.2.1⟩, HNIL.out, how, HO9.out.below HB.out (by omega)⟩
          have HRES := Lib.hid hres
          have HS := Lib.hid hs9
          clear hres hs9 HS9 HO9 hk9 hk8 how hzw
          go_wp2
          exact bodyPost_ret (results_cell_row rfl _ _ (w.heap.size + 1) 31 #[.slice xs.A p.s.l.length xs.c, .slice xg.A y xg.c, .slice xl.A y xl.c] (0, 0) _ rfl HS.out Try.underlying31 rfl size31) rfl HRES.out
end Go.Proofs.Ytopiidfhjfbmfaa

/- StockMore: a truth that is changed in place. -/
namespace Go.Proofs.Ytopiidfhjfbmfaa
open Go.RowKit Go.Lib

def ad (A : Option Addr) : Addr := A.getD ⟨0, 0, none⟩
theorem ad_of {A : Option Addr} {a : Addr} (h : A = some a) : A = some (ad A) := by subst h; rfl
def gAt (x : TrM) (y : Nat) : Sv (Sv Int) := x.g.l.getD y ⟨none, [], 0⟩
def rAt (x : TrM) (y s : Nat) : Sv Int := (gAt x y).l.getD s ⟨none, [], 0⟩
/-- The blocks of what is not written. -/
def Hd (x : TrM) (Y gx h : Nat) : Prop := h = gx ∨ (0 < Y ∧ h = (ad x.g.A).block) ∨ ∃ y, y < Y ∧ h = (ad (gAt x y).A).block
/-- What is written lies apart. -/
structure Apt (x : TrM) (n Y lo gx : Nat) : Prop where
  bs : lo ≤ (ad x.s.A).block
  bl : 0 < Y → lo ≤ (ad x.l.A).block
  br : ∀ y s, y < Y → s < n → lo ≤ (ad (rAt x y s).A).block
  sl : 0 < Y → (ad x.s.A).block ≠ (ad x.l.A).block
  sr : ∀ y s, y < Y → s < n → (ad x.s.A).block ≠ (ad (rAt x y s).A).block
  lr : ∀ y s, y < Y → s < n → (ad x.l.A).block ≠ (ad (rAt x y s).A).block
  rr : ∀ y s y' s', y < Y → s < n → y' < Y → s' < n → (ad (rAt x y s).A).block = (ad (rAt x y' s').A).block → y = y' ∧ s = s'
  hs : ∀ h, Hd x Y gx h → h ≠ (ad x.s.A).block
  hl : ∀ h, Hd x Y gx h → 0 < Y → h ≠ (ad x.l.A).block
  hr : ∀ h, Hd x Y gx h → ∀ y s, y < Y → s < n → h ≠ (ad (rAt x y s).A).block
/-- The memory while it is changed; fs, fl, fg: what stands there. -/
structure MoM (x : TrM) (n Y lo gx : Nat) (w4 : World) (fs fl : Nat → Int) (fg : Nat → Nat → Nat → Int) (wr : World) : Prop where
  b : Below lo w4 wr
  z : w4.heap.size ≤ wr.heap.size
  xb : Lies wr gx 31 x.cells.toArray
  cs : ∀ i, i < n → wr.cell? ⟨(ad x.s.A).block, (ad x.s.A).off + i, none⟩ = some (.int .i64 (fs i))
  cl : ∀ y, y < Y → wr.cell? ⟨(ad x.l.A).block, (ad x.l.A).off + y, none⟩ = some (.int .i64 (fl y))
  cg : ∀ y, y < Y → wr.cell? ⟨(ad x.g.A).block, (ad x.g.A).off + y, none⟩ = some (.slice (some ⟨(ad (gAt x y).A).block, (ad (gAt x y).A).off, none⟩) n (gAt x y).c)
  cy : ∀ y s, y < Y → s < n → wr.cell? ⟨(ad (gAt x y).A).block, (ad (gAt x y).A).off + s, none⟩ = some (.slice (some ⟨(ad (rAt x y s).A).block, (ad (rAt x y s).A).off, none⟩) n (rAt x y s).c)
  cr : ∀ y s k, y < Y → s < n → k < n → wr.cell? ⟨(ad (rAt x y s).A).block, (ad (rAt x y s).A).off + k, none⟩ = some (.int .i64 (fg y s k))
  fs : ∀ o, wr.frozen? ⟨(ad x.s.A).block, o, none⟩ = false
  fl : 0 < Y → ∀ o, wr.frozen? ⟨(ad x.l.A).block, o, none⟩ = false
  fr : ∀ y s, y < Y → s < n → ∀ o, wr.frozen? ⟨(ad (rAt x y s).A).block, o, none⟩ = false
section
variable {x : TrM} {n Y lo gx : Nat} {w4 wr wq : World} {fs fl fs' fl' : Nat → Int} {fg fg' : Nat → Nat → Nat → Int}
theorem cell_apart {w : World} {b o b' o' : Nat} {v : Value} (h : b' = b → o' ≠ o) : (w.setCell ⟨b, o, none⟩ v).cell? ⟨b', o', none⟩ = w.cell? ⟨b', o', none⟩ :=
  World.cell?_setCell_other _ _ _ _ fun e => by
    have e1 : b = b' := congrArg Addr.block e
    have e2 : o = o' := congrArg Addr.off e
    exact h e1.symm e2.symm
theorem MoM.drew (M : MoM x n Y lo gx w4 fs fl fg wr) : MoM x n Y lo gx w4 fs fl fg wr.drew :=
  ⟨M.b.drew, M.z, M.xb, M.cs, M.cl, M.cg, M.cy, M.cr, M.fs, M.fl, M.fr⟩
theorem MoM.setS (M : MoM x n Y lo gx w4 fs fl fg wr) (A : Apt x n Y lo gx) {i : Nat} (hi : i < n) (v : Int) :
    MoM x n Y lo gx w4 (fun j => if j = i then v else fs j) fl fg (wr.setCell ⟨(ad x.s.A).block, (ad x.s.A).off + i, none⟩ (.int .i64 v)) := by
  refine ⟨M.b.setCell (show lo ≤ (⟨(ad x.s.A).block, (ad x.s.A).off + i, none⟩ : Addr).block from A.bs) _, by simpa using M.z, M.xb.other (show gx ≠ (⟨(ad x.s.A).block, (ad x.s.A).off + i, none⟩ : Addr).block from A.hs _ (.inl rfl)) _, fun j hj => ?_, fun y hy => ?_, fun y hy => ?_, fun y s hy hs => ?_, fun y s k hy hs hk => ?_, fun o => by simpa using M.fs o, fun h o => by simpa using M.fl h o, fun y s hy hs o => by simpa using M.fr y s hy hs o⟩
  · by_cases e : j = i
    · subst e
      rw [if_pos rfl]
      exact World.cell?_setCell_same _ _ _ (M.cs j hj)
    · rw [if_neg e, cell_apart (fun _ h => e (by omega))]; exact M.cs j hj
  · rw [cell_apart (fun h => absurd h.symm (A.sl (by omega)))]; exact M.cl y hy
  · rw [cell_apart (fun h => absurd h (A.hs _ (.inr (.inl ⟨by omega, rfl⟩))))]; exact M.cg y hy
  · rw [cell_apart (fun h => absurd h (A.hs _ (.inr (.inr ⟨y, hy, rfl⟩))))]; exact M.cy y s hy hs
  · rw [cell_apart (fun h => absurd h.symm (A.sr y s hy hs))]; exact M.cr y s k hy hs hk
theorem MoM.setL (M : MoM x n Y lo gx w4 fs fl fg wr) (A : Apt x n Y lo gx) {i : Nat} (hi : i < Y) (v : Int) :
    MoM x n Y lo gx w4 fs (fun j => if j = i then v else fl j) fg (wr.setCell ⟨(ad x.l.A).block, (ad x.l.A).off + i, none⟩ (.int .i64 v)) := by
  have h0 : 0 < Y := by omega
  refine ⟨M.b.setCell (show lo ≤ (⟨(ad x.l.A).block, (ad x.l.A).off + i, none⟩ : Addr).block from A.bl h0) _, by simpa using M.z, M.xb.other (show gx ≠ (⟨(ad x.l.A).block, (ad x.l.A).off + i, none⟩ : Addr).block from A.hl _ (.inl rfl) h0) _, fun j hj => ?_, fun y hy => ?_, fun y hy => ?_, fun y s hy hs => ?_, fun y s k hy hs hk => ?_, fun o => by simpa using M.fs o, fun h o => by simpa using M.fl h o, fun y s hy hs o => by simpa using M.fr y s hy hs o⟩
  · rw [cell_apart (fun h => absurd h (A.sl h0))]; exact M.cs j hj
  · by_cases e : y = i
    · subst e
      rw [if_pos rfl]
      exact World.cell?_setCell_same _ _ _ (M.cl y hy)
    · rw [if_neg e, cell_apart (fun _ h => e (by omega))]; exact M.cl y hy
  · rw [cell_apart (fun h => absurd h (A.hl _ (.inr (.inl ⟨by omega, rfl⟩)) h0))]; exact M.cg y hy
  · rw [cell_apart (fun h => absurd h (A.hl _ (.inr (.inr ⟨y, hy, rfl⟩)) h0))]; exact M.cy y s hy hs
  · rw [cell_apart (fun h => absurd h.symm (A.lr y s hy hs))]; exact M.cr y s k hy hs hk
theorem MoM.setR (M : MoM x n Y lo gx w4 fs fl fg wr) (A : Apt x n Y lo gx) {y0 s0 k0 : Nat} (hy0 : y0 < Y) (hs0 : s0 < n) (hk0 : k0 < n) (v : Int) :
    MoM x n Y lo gx w4 fs fl (fun y s k => if y = y0 ∧ s = s0 ∧ k = k0 then v else fg y s k) (wr.setCell ⟨(ad (rAt x y0 s0).A).block, (ad (rAt x y0 s0).A).off + k0, none⟩ (.int .i64 v)) := by
  refine ⟨M.b.setCell (show lo ≤ (⟨(ad (rAt x y0 s0).A).block, (ad (rAt x y0 s0).A).off + k0, none⟩ : Addr).block from A.br y0 s0 hy0 hs0) _, by simpa using M.z, M.xb.other (show gx ≠ (⟨(ad (rAt x y0 s0).A).block, (ad (rAt x y0 s0).A).off + k0, none⟩ : Addr).block from A.hr _ (.inl rfl) y0 s0 hy0 hs0) _, fun j hj => ?_, fun y hy => ?_, fun y hy => ?_, fun y s hy hs => ?_, fun y s k hy hs hk => ?_, fun o => by simpa using M.fs o, fun h o => by simpa using M.fl h o, fun y s hy hs o => by simpa using M.fr y s hy hs o⟩
  · rw [cell_apart (fun h => absurd h (A.sr y0 s0 hy0 hs0))]; exact M.cs j hj
  · rw [cell_apart (fun h => absurd h (A.lr y0 s0 hy0 hs0))]; exact M.cl y hy
  · rw [cell_apart (fun h => absurd h (A.hr _ (.inr (.inl ⟨by omega, rfl⟩)) y0 s0 hy0 hs0))]; exact M.cg y hy
  · rw [cell_apart (fun h => absurd h (A.hr _ (.inr (.inr ⟨y, hy, rfl⟩)) y0 s0 hy0 hs0))]; exact M.cy y s hy hs
  · by_cases e : y = y0 ∧ s = s0 ∧ k = k0
    · obtain ⟨rfl, rfl, rfl⟩ := e
      rw [if_pos ⟨rfl, rfl, rfl⟩]
      exact World.cell?_setCell_same _ _ _ (M.cr y s k hy hs hk)
    · rw [if_neg e, cell_apart (fun h h2 => ?_)]
      · exact M.cr y s k hy hs hk
      · obtain ⟨e1, e2⟩ := A.rr y s y0 s0 hy hs hy0 hs0 h
        subst e1; subst e2
        exact e ⟨rfl, rfl, by omega⟩
theorem MoM.congr (M : MoM x n Y lo gx w4 fs fl fg wr) (h1 : ∀ i, i < n → fs i = fs' i) (h2 : ∀ y, y < Y → fl y = fl' y) (h3 : ∀ y s k, y < Y → s < n → k < n → fg y s k = fg' y s k) : MoM x n Y lo gx w4 fs' fl' fg' wr :=
  ⟨M.b, M.z, M.xb, fun i hi => by rw [← h1 i hi]; exact M.cs i hi, fun y hy => by rw [← h2 y hy]; exact M.cl y hy, M.cg, M.cy, fun y s k hy hs hk => by rw [← h3 y s k hy hs hk]; exact M.cr y s k hy hs hk, M.fs, M.fl, M.fr⟩
end
theorem SlT.ad {α : Type} {w : World} {B k : Nat} {T : TypeId} {enc : α → List Value} {A : Option Addr} {l : List α} (h : SlT w B k T enc A l) (hl : 0 < l.length) :
    A = some ⟨(ad A).block, (ad A).off, none⟩ ∧ (ad A).block < B ∧ (∃ cs, Lies w (ad A).block T cs) ∧ ∀ i x, l[i]? = some x → ∀ j u, (enc x)[j]? = some u → w.cell? ⟨(ad A).block, (ad A).off + i * k + j, none⟩ = some u := by
  obtain ⟨b, off, rfl, hb, hc, hx⟩ := h (by rintro rfl; simp at hl)
  exact ⟨rfl, hb, hc, hx⟩
theorem TrM.Own.call {t : TrM} {lo : Nat} {w w' : World} (h : t.Own lo w) (hb : Below w.heap.size w w') : t.Own lo w' :=
  ⟨h.s.call hb, h.l.call hb, h.g.call hb, fun y hy => (h.y y hy).call hb, fun y hy r hr => (h.r y hy r hr).call hb, h.sb, h.lb, h.rb, h.sl, h.sr, h.lr, h.rr⟩
theorem TrM.Own.only {t : TrM} {lo g : Nat} {cs : Array Value} {w w' : World} (h : t.Own lo w) (ho : Only g w w') (hg : Lies w g 31 cs) : t.Own lo w' := by
  have key : ∀ {α : Type} {k : Nat} {T : TypeId} {enc : α → List Value} {A : Option Addr} {l : List α}, T ≠ 31 → SlT w w.heap.size k T enc A l → SlT w' w'.heap.size k T enc A l := fun hT h => by
    rw [ho.size]
    exact h.only ho hg hT
  exact ⟨key (by decide) h.s, key (by decide) h.l, key (by decide) h.g, fun y hy => key (by decide) (h.y y hy), fun y hy r hr => key (by decide) (h.r y hy r hr), h.sb, h.lb, h.rb, h.sl, h.sr, h.lr, h.rr⟩
/-- What a truth made of functions reads as. -/
theorem mkT_parts {x : TrM} {n Y : Nat} {fs fl : Nat → Int} {fg : Nat → Nat → Nat → Int} (h : x.d = mkT n Y fs fg fl) :
    x.s.l = (List.range n).map fs ∧ x.l.l = (List.range Y).map fl ∧ x.g.l.length = Y ∧ ∀ y, y < Y → x.g.l[y]? = some (gAt x y) ∧ (gAt x y).l.length = n ∧ ∀ s, s < n → (gAt x y).l[s]? = some (rAt x y s) ∧ (rAt x y s).l = (List.range n).map (fg y s) := by
  have h1 : x.s.l = (List.range n).map fs := congrArg TD.s h
  have h2 : x.l.l = (List.range Y).map fl := congrArg TD.l h
  have h3 : (x.g.l.map fun y => y.l.map (·.l)) = (List.range Y).map fun y => (List.range n).map fun s => (List.range n).map fun k => fg y s k := congrArg TD.g h
  have hlen : x.g.l.length = Y := by have := congrArg List.length h3; simpa using this
  refine ⟨h1, h2, hlen, fun y hy => ?_⟩
  have hg : x.g.l[y]? = some (gAt x y) := by
    unfold gAt
    rw [List.getD, List.getElem?_eq_getElem (by omega)]; rfl
  have h4 : (gAt x y).l.map (·.l) = (List.range n).map fun s => (List.range n).map fun k => fg y s k := by
    have := congrArg (·[y]?) h3
    simp only [List.getElem?_map, hg, Option.map_some, List.getElem?_range hy] at this
    exact Option.some.inj this
  have hl2 : (gAt x y).l.length = n := by have := congrArg List.length h4; simpa using this
  refine ⟨hg, hl2, fun s hs => ?_⟩
  have hr : (gAt x y).l[s]? = some (rAt x y s) := by
    unfold rAt
    rw [List.getD, List.getElem?_eq_getElem (by omega)]; rfl
  refine ⟨hr, ?_⟩
  have := congrArg (·[s]?) h4
  simp only [List.getElem?_map, hr, Option.map_some, List.getElem?_range hs] at this
  exact Option.some.inj this
/-- It begins so. -/
theorem MoM.start {x : TrM} {n Y lo gx : Nat} {w4 : World} {fs fl : Nat → Int} {fg : Nat → Nat → Nat → Int} (hO : x.Own lo w4) (hd : x.d = mkT n Y fs fg fl) (hn : 0 < n) (hx : Lies w4 gx 31 x.cells.toArray) :
    Apt x n Y lo gx ∧ MoM x n Y lo gx w4 fs fl fg w4 := by
  obtain ⟨e1, e2, e3, e4⟩ := mkT_parts hd
  have ls : x.s.l.length = n := by rw [e1]; simp
  have ll : x.l.l.length = Y := by rw [e2]; simp
  obtain ⟨s1, s2, ⟨cs1, s3⟩, s4⟩ := hO.s.ad (by omega)
  have L : 0 < Y → _ := fun h => hO.l.ad (show 0 < x.l.l.length by omega)
  have G : 0 < Y → _ := fun h => hO.g.ad (show 0 < x.g.l.length by omega)
  have gm : ∀ y, y < Y → gAt x y ∈ x.g.l := fun y hy => List.mem_of_getElem? (e4 y hy).1
  have rm : ∀ y s, y < Y → s < n → rAt x y s ∈ (gAt x y).l := fun y s hy hs => List.mem_of_getElem? ((e4 y hy).2.2 s hs).1
  have GY : ∀ y, y < Y → _ := fun y hy => (hO.y _ (gm y hy)).ad (show 0 < (gAt x y).l.length by have := (e4 y hy).2.1; omega)
  have RR : ∀ y s, y < Y → s < n → _ := fun y s hy hs => (hO.r _ (gm y hy) _ (rm y s hy hs)).ad (show 0 < (rAt x y s).l.length by rw [((e4 y hy).2.2 s hs).2]; simpa using hn)
  have hdr : ∀ h, Hd x Y gx h → ∃ T cs, T ≠ 3 ∧ Lies w4 h T cs := fun h hh => by
    rcases hh with rfl | ⟨h0, rfl⟩ | ⟨y, hy, rfl⟩
    · exact ⟨_, _, by decide, hx⟩
    · obtain ⟨_, _, ⟨cs, hc⟩, _⟩ := G h0; exact ⟨_, cs, by decide, hc⟩
    · obtain ⟨_, _, ⟨cs, hc⟩, _⟩ := GY y hy; exact ⟨_, cs, by decide, hc⟩
  have hne : ∀ h, Hd x Y gx h → ∀ b cs, Lies w4 b 3 cs → h ≠ b := fun h hh b cs hb => by
    obtain ⟨T, cs', hT, hc⟩ := hdr h hh
    exact lies_ne hc hb hT
  have hpw := List.pairwise_flatMap.1 hO.rr
  have hlt : ∀ y s y' s', y < Y → s < n → y' < Y → s' < n → (y < y' ∨ (y = y' ∧ s < s')) → (Go.Proofs.Ytopiidfhjfbmfaa.ad (rAt x y s).A).block < (Go.Proofs.Ytopiidfhjfbmfaa.ad (rAt x y' s').A).block := fun y s y' s' hy hs hy' hs' hc => by
    obtain ⟨a1, _, _, _⟩ := RR y s hy hs
    obtain ⟨a2, _, _, _⟩ := RR y' s' hy' hs'
    rcases hc with hc | ⟨rfl, hc⟩
    · have h1 := List.pairwise_iff_getElem.1 hpw.2 y y' (by omega) (by omega) hc
      have g1 : x.g.l[y] = gAt x y := by have := (e4 y hy).1; rw [List.getElem?_eq_getElem (by omega)] at this; exact Option.some.inj this
      have g2 : x.g.l[y'] = gAt x y' := by have := (e4 y' hy').1; rw [List.getElem?_eq_getElem (by omega)] at this; exact Option.some.inj this
      rw [g1, g2] at h1
      exact h1 _ (rm y s hy hs) _ (rm y' s' hy' hs') _ _ (ad_of a1) (ad_of a2)
    · have h1 := List.pairwise_iff_getElem.1 (hpw.1 _ (gm y hy)) s s' (by rw [(e4 y hy).2.1]; exact hs) (by rw [(e4 y hy).2.1]; exact hs') hc
      have g1 : (gAt x y).l[s]'(by rw [(e4 y hy).2.1]; exact hs) = rAt x y s := by have := ((e4 y hy).2.2 s hs).1; rw [List.getElem?_eq_getElem (by rw [(e4 y hy).2.1]; exact hs)] at this; exact Option.some.inj this
      have g2 : (gAt x y).l[s']'(by rw [(e4 y hy).2.1]; exact hs') = rAt x y s' := by have := ((e4 y hy).2.2 s' hs').1; rw [List.getElem?_eq_getElem (by rw [(e4 y hy).2.1]; exact hs')] at this; exact Option.some.inj this
      rw [g1, g2] at h1
      exact h1 _ _ (ad_of a1) (ad_of a2)
  constructor
  · refine ⟨hO.sb _ (ad_of s1), fun h0 => hO.lb _ (ad_of (L h0).1), fun y s hy hs => hO.rb _ (gm y hy) _ (rm y s hy hs) _ (ad_of (RR y s hy hs).1), fun h0 => hO.sl _ _ (ad_of s1) (ad_of (L h0).1), fun y s hy hs => hO.sr _ (gm y hy) _ (rm y s hy hs) _ _ (ad_of s1) (ad_of (RR y s hy hs).1),
      fun y s hy hs => hO.lr _ (gm y hy) _ (rm y s hy hs) _ _ (ad_of (L (by omega)).1) (ad_of (RR y s hy hs).1), fun y s y' s' hy hs hy' hs' he => ?_, fun h hh => hne h hh _ _ s3, fun h hh h0 => ?_, fun h hh y s hy hs => ?_⟩
    · by_cases c1 : y < y' ∨ (y = y' ∧ s < s')
      · have := hlt y s y' s' hy hs hy' hs' c1; omega
      · by_cases c2 : y' < y ∨ (y' = y ∧ s' < s)
        · have := hlt y' s' y s hy' hs' hy hs c2; omega
        · omega
    · obtain ⟨_, _, ⟨cs, hc⟩, _⟩ := L h0; exact hne h hh _ _ hc
    · obtain ⟨_, _, ⟨cs, hc⟩, _⟩ := RR y s hy hs; exact hne h hh _ _ hc
  · refine ⟨Below.refl _ _, Nat.le_refl _, hx, fun i hi => ?_, fun y hy => ?_, fun y hy => ?_, fun y s hy hs => ?_, fun y s k hy hs hk => ?_, fun o => s3.free o, fun h0 o => ?_, fun y s hy hs o => ?_⟩
    · have := s4 i (fs i) (by rw [e1]; simp [hi]) 0 _ rfl
      simpa using this
    · have := (L (by omega)).2.2.2 y (fl y) (by rw [e2]; simp [hy]) 0 _ rfl
      simpa using this
    · have := (G (by omega)).2.2.2 y _ (e4 y hy).1 0 _ rfl
      have hA := (GY y hy).1
      rw [show (gAt x y).val = .slice (gAt x y).A (gAt x y).l.length (gAt x y).c from rfl, (e4 y hy).2.1] at this
      rw [← hA]
      simpa using this
    · have := (GY y hy).2.2.2 s _ ((e4 y hy).2.2 s hs).1 0 _ rfl
      have hA := (RR y s hy hs).1
      rw [show (rAt x y s).val = .slice (rAt x y s).A (rAt x y s).l.length (rAt x y s).c from rfl, ((e4 y hy).2.2 s hs).2, List.length_map, List.length_range] at this
      rw [← hA]
      simpa using this
    · have := (RR y s hy hs).2.2.2 k (fg y s k) (by rw [((e4 y hy).2.2 s hs).2]; simp [hk]) 0 _ rfl
      simpa using this
    · obtain ⟨_, _, ⟨cs, hc⟩, _⟩ := L h0; exact hc.free o
    · obtain ⟨_, _, ⟨cs, hc⟩, _⟩ := RR y s hy hs; exact hc.free o
/-- What is changed is a truth. -/
theorem MoM.truth {x : TrM} {n Y lo gx : Nat} {w4 wr : World} {fs fl f0 l0 : Nat → Int} {fg g0 : Nat → Nat → Nat → Int} (M : MoM x n Y lo gx w4 fs fl fg wr) (hO : x.Own lo w4) (hN : x.Nil) (hd : x.d = mkT n Y f0 g0 l0) (hn : 0 < n) :
    ∃ u : TrM, u.cells = x.cells ∧ u.d = mkT n Y fs fg fl ∧ u.At wr wr.heap.size ∧ u.Nil := by
  obtain ⟨e1, e2, e3, e4⟩ := mkT_parts hd
  have ls : x.s.l.length = n := by rw [e1]; simp
  have ll : x.l.l.length = Y := by rw [e2]; simp
  have gm : ∀ y, y < Y → gAt x y ∈ x.g.l := fun y hy => List.mem_of_getElem? (e4 y hy).1
  have rm : ∀ y s, y < Y → s < n → rAt x y s ∈ (gAt x y).l := fun y s hy hs => List.mem_of_getElem? ((e4 y hy).2.2 s hs).1
  have hz := M.z
  obtain ⟨s1, s2, _, _⟩ := hO.s.ad (by omega)
  have L : 0 < Y → _ := fun h => hO.l.ad (show 0 < x.l.l.length by omega)
  have G : 0 < Y → _ := fun h => hO.g.ad (show 0 < x.g.l.length by omega)
  have GY : ∀ y, y < Y → _ := fun y hy => (hO.y _ (gm y hy)).ad (show 0 < (gAt x y).l.length by have := (e4 y hy).2.1; omega)
  have RR : ∀ y s, y < Y → s < n → _ := fun y s hy hs => (hO.r _ (gm y hy) _ (rm y s hy hs)).ad (show 0 < (rAt x y s).l.length by rw [((e4 y hy).2.2 s hs).2]; simpa using hn)
  have one : ∀ {v : Value} {j : Nat} {u : Value}, [v][j]? = some u → j = 0 ∧ u = v := fun {v j u} h => by
    cases j with
    | zero => exact ⟨rfl, by simpa using h.symm⟩
    | succ j => simp at h
  refine ⟨⟨⟨x.s.A, (List.range n).map fs, x.s.c⟩, ⟨x.g.A, (List.range Y).map fun y => ⟨(gAt x y).A, (List.range n).map fun s => ⟨(rAt x y s).A, (List.range n).map (fg y s), (rAt x y s).c⟩, (gAt x y).c⟩, x.g.c⟩, ⟨x.l.A, (List.range Y).map fl, x.l.c⟩⟩, ?_, ?_, ⟨?_, ?_, ?_, ?_, ?_⟩, ⟨hN.s, ?_, hN.l⟩⟩
  · unfold TrM.cells
    simp only [List.length_map, List.length_range, ls, ll, e3]
  · unfold TrM.d mkT
    simp only [List.map_map]
    congr 1
    refine List.map_congr_left fun y _ => ?_
    simp only [Function.comp_def, List.map_map]
  · refine fun _ => ⟨_, _, s1, by omega, fun i v hv j u hu => ?_⟩
    obtain ⟨hi, rfl⟩ := range_at hv
    obtain ⟨rfl, rfl⟩ := one hu
    simpa using M.cs i hi
  · refine fun hl => ?_
    have h0 : 0 < Y := by
      cases Y with
      | zero => exact absurd rfl hl
      | succ y => omega
    have hG := G h0
    refine ⟨_, _, hG.1, by have := hG.2.1; omega, fun i v hv j u hu => ?_⟩
    obtain ⟨hi, rfl⟩ := range_at hv
    obtain ⟨rfl, rfl⟩ := one hu
    have := M.cg i hi
    rw [← (GY i hi).1] at this
    simpa [Sv.val] using this
  · rintro g hg
    obtain ⟨y, hy, rfl⟩ := List.mem_map.1 hg
    have hy := List.mem_range.1 hy
    refine fun _ => ⟨_, _, (GY y hy).1, by have := (GY y hy).2.1; omega, fun i v hv j u hu => ?_⟩
    obtain ⟨hi, rfl⟩ := range_at hv
    obtain ⟨rfl, rfl⟩ := one hu
    have := M.cy y i hy hi
    rw [← (RR y i hy hi).1] at this
    simpa [Sv.val] using this
  · rintro g hg r hr
    obtain ⟨y, hy, rfl⟩ := List.mem_map.1 hg
    have hy := List.mem_range.1 hy
    obtain ⟨s, hs, rfl⟩ := List.mem_map.1 hr
    have hs := List.mem_range.1 hs
    refine fun _ => ⟨_, _, (RR y s hy hs).1, by have := (RR y s hy hs).2.1; omega, fun i v hv j u hu => ?_⟩
    obtain ⟨hi, rfl⟩ := range_at hv
    obtain ⟨rfl, rfl⟩ := one hu
    simpa using M.cr y s i hy hs hi
  · refine fun hl => ?_
    have h0 : 0 < Y := by
      cases Y with
      | zero => exact absurd rfl hl
      | succ y => omega
    have hL := L h0
    refine ⟨_, _, hL.1, by have := hL.2.1; omega, fun i v hv j u hu => ?_⟩
    obtain ⟨hi, rfl⟩ := range_at hv
    obtain ⟨rfl, rfl⟩ := one hu
    simpa using M.cl i hi
  · rintro g hg r hr
    obtain ⟨y, hy, rfl⟩ := List.mem_map.1 hg
    have hy := List.mem_range.1 hy
    obtain ⟨s, hs, rfl⟩ := List.mem_map.1 hr
    have hs := List.mem_range.1 hs
    have h9 := hN.r _ (gm y hy) _ (rm y s hy hs)
    exact h9
end Go.Proofs.Ytopiidfhjfbmfaa

/- StockMore: what is more is not less; a truth that lies while variables are set. -/
namespace Go.Proofs.Ytopiidfhjfbmfaa
open Go.RowKit Go.Lib

/-- What words pick is in its range. -/
structure InP (p : PlM) (Y : Nat) (fs fl : Nat → Int) (fg : Nat → Nat → Nat → Int) : Prop where
  s : ∀ s, s < p.s.l.length → hasB (p.d.s.getD s (0, 0)) (fs s) = true
  g : ∀ y s k, y < Y → s < p.s.l.length → k < p.s.l.length → hasB ((p.d.g.getD s []).getD k (0, 0)) (fg y s k) = true
  l : ∀ y, y < Y → inB (fl y) p.lo p.hi = true
def pkS (d : PD) (ws : List Nat) : Nat → Int := fun s => pickN (d.s.getD s (0, 0)) ws s
def pkG (d : PD) (ws : List Nat) : Nat → Nat → Nat → Int := fun y s k => pickN ((d.g.getD s []).getD k (0, 0)) ws (31 * y + 5 * s + k + 3)
def pkL (d : PD) (ws : List Nat) : Nat → Int := fun y => pickN (d.lo, d.hi) ws (7 * y + 1)
theorem pickD_mk (d : PD) (Y : Nat) (ws : List Nat) : pickD d Y ws = mkT d.s.length Y (pkS d ws) (pkG d ws) (pkL d ws) := rfl
theorem pick_inP {p : PlM} (hv : p.Valid) (Y : Nat) (ws : List Nat) : InP p Y (pkS p.d ws) (pkL p.d ws) (pkG p.d ws) := by
  refine ⟨fun s hs => pickN_has ?_ ws _, fun y s k _ hs hk => pickN_has ?_ ws _, fun y _ => inB_iff.2 (pickN_in (r := (p.d.lo, p.d.hi)) ?_ ws _)⟩
  · obtain ⟨r, hr⟩ : ∃ r, p.s.l[s]? = some r := ⟨p.s.l[s], by simp [hs]⟩
    have h := hv.sb r (List.mem_of_getElem? hr)
    have e : p.d.s.getD s (0, 0) = r := by show p.s.l.getD s (0, 0) = r; simp [List.getD, hr]
    rw [e]; exact h.2.1
  · obtain ⟨x, hx⟩ : ∃ x, p.g.l[s]? = some x := ⟨p.g.l[s]'(by rw [hv.g]; exact hs), by simp⟩
    have hxm := List.mem_of_getElem? hx
    obtain ⟨r, hr⟩ : ∃ r, x.l[k]? = some r := ⟨x.l[k]'(by rw [hv.gl x hxm]; exact hk), by simp⟩
    have h := hv.gb x hxm r (List.mem_of_getElem? hr)
    have e : (p.d.g.getD s []).getD k (0, 0) = r := by show ((p.g.l.map (·.l)).getD s []).getD k (0, 0) = r; simp [List.getD, hx, hr]
    rw [e]; exact h.2.1
  · exact hv.l.2.1
theorem InP.fit {p : PlM} {Y : Nat} {fs fl : Nat → Int} {fg : Nat → Nat → Nat → Int} (h : InP p Y fs fl fg) (hv : p.Valid) (hY : p.years = (Y : Int)) : fitD p.d (mkT p.s.l.length Y fs fg fl) = true := fit_mkT hv hY h.s h.g h.l
theorem InP.more {p : PlM} {Y : Nat} {fs fl fs' fl' : Nat → Int} {fg fg' : Nat → Nat → Nat → Int} (h : InP p Y fs fl fg) (h' : InP p Y fs' fl' fg') :
    InP p Y (fun i => max (fs i) (fs' i)) (fun y => min (fl y) (fl' y)) (fun y s k => max (fg y s k) (fg' y s k)) := by
  refine ⟨fun s hs => ?_, fun y s k hy hs hk => ?_, fun y hy => ?_⟩
  · have a := inB_iff.1 (h.s s hs)
    have b := inB_iff.1 (h'.s s hs)
    exact inB_iff.2 (by omega)
  · have a := inB_iff.1 (h.g y s k hy hs hk)
    have b := inB_iff.1 (h'.g y s k hy hs hk)
    exact inB_iff.2 (by omega)
  · have a := inB_iff.1 (h.l y hy)
    have b := inB_iff.1 (h'.l y hy)
    exact inB_iff.2 (by omega)
theorem mkT_s (n Y : Nat) (fs fl : Nat → Int) (fg : Nat → Nat → Nat → Int) (hn : n ≤ 5) {i : Nat} (hi : i < n) : (pad5 (mkT n Y fs fg fl).s).getD i 0 = fs i := by
  rw [pad5_getD (by simp [mkT]; omega) i (by simp [mkT]; omega)]
  simp [mkT, List.getD, hi]
theorem mkT_g (n Y : Nat) (fs fl : Nat → Int) (fg : Nat → Nat → Nat → Int) {y i j : Nat} (hy : y < Y) (hi : i < n) (hj : j < n) : (((mkT n Y fs fg fl).g.getD y []).getD i []).getD j 0 = fg y i j := by
  simp [mkT, List.getD, hy, hi, hj]
theorem mkT_l (n Y : Nat) (fs fl : Nat → Int) (fg : Nat → Nat → Nat → Int) {y : Nat} (hy : y < Y) : (mkT n Y fs fg fl).l.getD y 0 = fl y := by simp [mkT, List.getD, hy]
/-- What is more is not less. -/
theorem more_mono {p : PlM} (hv : p.Valid) {Y : Nat} {fs fl fs' fl' : Nat → Int} {fg fg' : Nat → Nat → Nat → Int} (h : InP p Y fs fl fg)
    (hs : ∀ i, i < p.s.l.length → fs i ≤ fs' i) (hg : ∀ y i j, y < Y → i < p.s.l.length → j < p.s.l.length → fg y i j ≤ fg' y i j) (hl : ∀ y, y < Y → fl' y ≤ fl y) {k i : Nat} (hk : k < Y) (hi : i < p.s.l.length) :
    ∃ a0 a1 a2 a3 b0 b1 b2 b3 : Int, ((toldL p.d.s.length (yrT p.d (mkT p.s.l.length Y fs fg fl) k)).1[i]? = some a0 ∧ (toldL p.d.s.length (yrT p.d (mkT p.s.l.length Y fs fg fl) k)).2.1[i]? = some a1 ∧ (toldL p.d.s.length (yrT p.d (mkT p.s.l.length Y fs fg fl) k)).2.2.1[i]? = some a2 ∧ (toldL p.d.s.length (yrT p.d (mkT p.s.l.length Y fs fg fl) k)).2.2.2[i]? = some a3) ∧
      ((toldL p.d.s.length (yrT p.d (mkT p.s.l.length Y fs' fg' fl') k)).1[i]? = some b0 ∧ (toldL p.d.s.length (yrT p.d (mkT p.s.l.length Y fs' fg' fl') k)).2.1[i]? = some b1 ∧ (toldL p.d.s.length (yrT p.d (mkT p.s.l.length Y fs' fg' fl') k)).2.2.1[i]? = some b2 ∧ (toldL p.d.s.length (yrT p.d (mkT p.s.l.length Y fs' fg' fl') k)).2.2.2[i]? = some b3) ∧
      a0 ≤ b0 ∧ a1 ≤ b1 ∧ a3 ≤ b3 := by
  have hn5 := hv.ok.n
  have hlo := hv.l
  have S0 : ∀ i, i < p.s.l.length → 0 ≤ fs i := fun i hi => by
    have a := inB_iff.1 (h.s i hi)
    have h0 := hv.sb (p.s.l.getD i (0, 0)) (getD_mem2 hi)
    have : 0 ≤ (p.d.s.getD i (0, 0)).1 := h0.1
    omega
  have G0 : ∀ y i j, y < Y → i < p.s.l.length → j < p.s.l.length → 0 ≤ fg y i j := fun y i j hy hi hj => by
    have a := inB_iff.1 (h.g y i j hy hi hj)
    have h1 : i < p.g.l.length := by rw [hv.g]; exact hi
    have e : p.d.g.getD i [] = (p.g.l[i]).l := by show (p.g.l.map (·.l)).getD i [] = _; simp [List.getD, h1]
    rw [e] at a
    have h2 := hv.gb _ (List.getElem_mem h1) ((p.g.l[i]).l.getD j (0, 0)) (getD_mem2 (by rw [hv.gl _ (List.getElem_mem h1)]; exact hj))
    have := h2.1
    omega
  have L0 : ∀ y, y < Y → 0 ≤ fl y ∧ fl y ≤ 1000 := fun y hy => by have a := inB_iff.1 (h.l y hy); omega
  have hen := fun i hi => nums_bd hv (i := i) hi
  have m := plD_mono (d := p.d) (gr := fun k => (mkT p.s.l.length Y fs fg fl).g.getD k []) (gr' := fun k => (mkT p.s.l.length Y fs' fg' fl').g.getD k []) (loss := fun k => (mkT p.s.l.length Y fs fg fl).l.getD k 0) (loss' := fun k => (mkT p.s.l.length Y fs' fg' fl').l.getD k 0)
    (pl := pad5 (mkT p.s.l.length Y fs fg fl).s) (pl' := pad5 (mkT p.s.l.length Y fs' fg' fl').s) hn5 (fun i hi => by rw [mkT_s _ _ _ _ _ hn5 (show i < p.s.l.length from hi), mkT_s _ _ _ _ _ hn5 (show i < p.s.l.length from hi)]; exact ⟨S0 i hi, hs i hi⟩) hen k
    (fun y hy i j hi hj => by rw [mkT_g _ _ _ _ _ (by omega) (show i < p.s.l.length from hi) (show j < p.s.l.length from hj), mkT_g _ _ _ _ _ (by omega) (show i < p.s.l.length from hi) (show j < p.s.l.length from hj)]; exact ⟨G0 y i j (by omega) hi hj, hg y i j (by omega) hi hj⟩)
    (fun y hy => by rw [mkT_l _ _ _ _ _ (by omega), mkT_l _ _ _ _ _ (by omega)]; exact ⟨(L0 y (by omega)).1, hl y (by omega), (L0 y (by omega)).2⟩)
  have y0 := year_mono (d := p.d) (gr := (mkT p.s.l.length Y fs fg fl).g.getD k []) (gr' := (mkT p.s.l.length Y fs' fg' fl').g.getD k []) (loss := (mkT p.s.l.length Y fs fg fl).l.getD k 0) (loss' := (mkT p.s.l.length Y fs' fg' fl').l.getD k 0) m
    (fun i j hi hj => by rw [mkT_g _ _ _ _ _ hk (show i < p.s.l.length from hi) (show j < p.s.l.length from hj), mkT_g _ _ _ _ _ hk (show i < p.s.l.length from hi) (show j < p.s.l.length from hj)]; exact ⟨G0 k i j hk hi hj, hg k i j hk hi hj⟩) (by rw [mkT_l _ _ _ _ _ hk, mkT_l _ _ _ _ _ hk]; exact hl k hk) (by rw [mkT_l _ _ _ _ _ hk]; exact (L0 k hk).2) (fun i hi => ⟨(hen i hi).1, (hen i hi).2.1⟩) hi
  have ta := told_at (d := p.d) (t := mkT p.s.l.length Y fs fg fl) (k := k) (i := i) hi hn5
  have tb := told_at (d := p.d) (t := mkT p.s.l.length Y fs' fg' fl') (k := k) (i := i) hi hn5
  exact ⟨_, _, _, _, _, _, _, _, ta, tb, y0.1, y0.2.1, y0.2.2.1⟩
theorem alloc_rtruth (w : World) : (Instr.alloc 31 true (.tuple #[])).run Try.prog w = .ok (.pointer (some ⟨w.heap.size, 0, none⟩)) (w.alloc (.cells [.slice none 0 0, .slice none 0 0, .slice none 0 0].toArray 31)) := by kernel_rfl
theorem Mxv.slg {α : Type} {fls : List Fl} {B k : Nat} {w W : World} {enc : α → List Value} {A : Option Addr} {l : List α} (h : Mxv fls B w W) (hs : Sl w w.heap.size k enc A l) (hz : ∀ x, x ∈ l → ∀ u, u ∈ enc x → ∀ fl, fl ∈ fls → u ∉ fl.z) : Sl W W.heap.size k enc A l := fun hl => by
  obtain ⟨b, o, e, hb, hc⟩ := hs hl
  exact ⟨b, o, e, Nat.lt_of_lt_of_le hb h.size, fun i x hx j u hu => h.cell (hc i x hx j u hu) fun fl hfl => hz x (List.mem_of_getElem? hx) u (List.mem_of_getElem? hu) fl hfl⟩
/-- A truth lies on while variables are set. -/
theorem Mxv.tr {fls : List Fl} {B : Nat} {w W : World} {t : TrM} (h : Mxv fls B w W) (ht : t.At w w.heap.size) (hI : ∀ fl, fl ∈ fls → ∀ x : Int, Value.int .i64 x ∉ fl.z) (hS : ∀ fl, fl ∈ fls → ∀ (A : Option Addr) (n c : Nat), n ≠ 0 → Value.slice A n c ∉ fl.z)
    (hg : ∀ G, G ∈ t.g.l → G.l.length ≠ 0 ∧ ∀ r, r ∈ G.l → r.l.length ≠ 0) : t.At W W.heap.size := by
  have i1 : ∀ (x : Int) (u : Value), u ∈ encI x → ∀ fl, fl ∈ fls → u ∉ fl.z := fun x u hu fl hfl => by
    obtain rfl : u = .int .i64 x := by simpa using hu
    exact hI fl hfl x
  refine ⟨h.slg ht.s fun x _ => i1 x, h.slg ht.g fun G hG u hu fl hfl => ?_, fun G hG => h.slg (ht.ys G hG) fun r hr u hu fl hfl => ?_, fun G hG r hr => h.slg (ht.rs G hG r hr) fun x _ => i1 x, h.slg ht.l fun x _ => i1 x⟩
  · obtain rfl : u = G.val := by simpa using hu
    exact hS fl hfl _ _ _ (hg G hG).1
  · obtain rfl : u = r.val := by simpa using hu
    exact hS fl hfl _ _ _ ((hg G hG).2 r hr)
/-- What a picked truth has is not empty. -/
theorem mk_full {t : TrM} {n Y : Nat} {fs fl : Nat → Int} {fg : Nat → Nat → Nat → Int} (h : t.d = mkT n Y fs fg fl) (hn : n ≠ 0) : ∀ G, G ∈ t.g.l → G.l.length ≠ 0 ∧ ∀ r, r ∈ G.l → r.l.length ≠ 0 := fun G hG => by
  obtain ⟨_, _, e3, e4⟩ := mkT_parts h
  obtain ⟨y, hy⟩ := List.getElem?_of_mem hG
  have hyl : y < Y := by rw [← e3]; exact (List.getElem?_eq_some_iff.1 hy).1
  obtain ⟨g1, g2, g3⟩ := e4 y hyl
  rw [hy] at g1
  cases g1
  refine ⟨by omega, fun r hr => ?_⟩
  obtain ⟨s, hs⟩ := List.getElem?_of_mem hr
  have hsl : s < n := by rw [← g2]; exact (List.getElem?_eq_some_iff.1 hs).1
  obtain ⟨r1, r2⟩ := g3 s hsl
  rw [hs] at r1
  cases r1
  rw [r2]; simpa using hn
abbrev flsT : List Fl := [⟨6, 7, 31, [.slice none 0 0, .slice none 0 0, .slice none 0 0].toArray⟩, ⟨7, 8, 31, [.slice none 0 0, .slice none 0 0, .slice none 0 0].toArray⟩]
theorem flsT_int : ∀ fl, fl ∈ flsT → ∀ x : Int, Value.int .i64 x ∉ fl.z := by
  intro fl h x
  simp only [flsT, List.mem_cons, List.not_mem_nil, or_false] at h
  rcases h with rfl | rfl <;> simp
theorem flsT_slice : ∀ fl, fl ∈ flsT → ∀ (A : Option Addr) (n c : Nat), n ≠ 0 → Value.slice A n c ∉ fl.z := by
  intro fl h A n c hn
  simp only [flsT, List.mem_cons, List.not_mem_nil, or_false] at h
  rcases h with rfl | rfl <;> simp [hn]
/-- The cells of a truth of functions, as it lies. -/
theorem rd_s {t : TrM} {n Y : Nat} {fs fl : Nat → Int} {fg : Nat → Nat → Nat → Int} {W : World} (h : t.d = mkT n Y fs fg fl) (ht : t.At W W.heap.size) {i : Nat} (hi : i < n) : ∃ b o, t.s.A = some ⟨b, o, none⟩ ∧ b < W.heap.size ∧ W.cell? ⟨b, o + i, none⟩ = some (.int .i64 (fs i)) :=
  ht.s.cell1 (by rw [(mkT_parts h).1]; simp [hi])
theorem rd_l {t : TrM} {n Y : Nat} {fs fl : Nat → Int} {fg : Nat → Nat → Nat → Int} {W : World} (h : t.d = mkT n Y fs fg fl) (ht : t.At W W.heap.size) {y : Nat} (hy : y < Y) : ∃ b o, t.l.A = some ⟨b, o, none⟩ ∧ b < W.heap.size ∧ W.cell? ⟨b, o + y, none⟩ = some (.int .i64 (fl y)) :=
  ht.l.cell1 (by rw [(mkT_parts h).2.1]; simp [hy])
theorem rd_g {t : TrM} {n Y : Nat} {fs fl : Nat → Int} {fg : Nat → Nat → Nat → Int} {W : World} (h : t.d = mkT n Y fs fg fl) (ht : t.At W W.heap.size) {y s k : Nat} (hy : y < Y) (hs : s < n) (hk : k < n) :
    ∃ bg og bG oG cG bR oR cR, t.g.A = some ⟨bg, og, none⟩ ∧ bg < W.heap.size ∧ W.cell? ⟨bg, og + y, none⟩ = some (.slice (some ⟨bG, oG, none⟩) n cG) ∧ bG < W.heap.size ∧ W.cell? ⟨bG, oG + s, none⟩ = some (.slice (some ⟨bR, oR, none⟩) n cR) ∧ bR < W.heap.size ∧ W.cell? ⟨bR, oR + k, none⟩ = some (.int .i64 (fg y s k)) := by
  obtain ⟨_, _, e3, e4⟩ := mkT_parts h
  obtain ⟨g1, g2, g3⟩ := e4 y hy
  obtain ⟨r1, r2⟩ := g3 s hs
  have gm := List.mem_of_getElem? g1
  have rm := List.mem_of_getElem? r1
  obtain ⟨bg, og, ea, ha, ca⟩ := ht.g.cell1 g1
  obtain ⟨bG, oG, eb, hb, cb⟩ := (ht.ys _ gm).cell1 r1
  obtain ⟨bR, oR, ec, hc, cc⟩ := (ht.rs _ gm _ rm).cell1 (i := k) (x := fg y s k) (by rw [r2]; simp [hk])
  refine ⟨bg, og, bG, oG, (gAt t y).c, bR, oR, (rAt t y s).c, ea, ha, ?_, hb, ?_, hc, cc⟩
  · rw [ca, ← eb, ← g2]; rfl
  · have hl : (rAt t y s).l.length = n := by rw [r2]; simp
    rw [cb, ← ec, ← hl]; rfl
end Go.Proofs.Ytopiidfhjfbmfaa

/- StockMore: the walk. -/
namespace Go.Proofs.Ytopiidfhjfbmfaa
open Go.RowKit Go.Lib
attribute [local go_sem] Oper.semAt_some

theorem mk_sizes (n Y : Nat) (fs fl : Nat → Int) (fg : Nat → Nat → Nat → Int) : (mkT n Y fs fg fl).s.length = n ∧ (mkT n Y fs fg fl).g.length = Y ∧ (∀ y, y ∈ (mkT n Y fs fg fl).g → y.length = n) ∧ (∀ y, y ∈ (mkT n Y fs fg fl).g → ∀ r, r ∈ y → r.length = n) ∧ (mkT n Y fs fg fl).l.length = Y := by
  refine ⟨by simp [mkT], by simp [mkT], fun y hy => ?_, fun y hy r hr => ?_, by simp [mkT]⟩
  · obtain ⟨i, _, rfl⟩ := List.mem_map.1 hy; simp
  · obtain ⟨i, _, rfl⟩ := List.mem_map.1 hy
    obtain ⟨j, _, rfl⟩ := List.mem_map.1 hr
    simp
theorem tb_at {t : TrM} {n Y g : Nat} {fs fl : Nat → Int} {fg : Nat → Nat → Nat → Int} {W : World} (h : t.d = mkT n Y fs fg fl) (hl : Lies W g 31 t.cells.toArray) :
    W.cell? ⟨g, 0, none⟩ = some (.slice t.s.A n t.s.c) ∧ W.cell? ⟨g, 1, none⟩ = some (.slice t.g.A Y t.g.c) ∧ W.cell? ⟨g, 2, none⟩ = some (.slice t.l.A Y t.l.c) := by
  obtain ⟨e1, e2, e3, _⟩ := mkT_parts h
  have a : t.s.l.length = n := by rw [e1]; simp
  have b : t.l.l.length = Y := by rw [e2]; simp
  have c0 : W.cell? ⟨g, 0, none⟩ = some (.slice t.s.A t.s.l.length t.s.c) := hl.at_ 0
  have c1 : W.cell? ⟨g, 1, none⟩ = some (.slice t.g.A t.g.l.length t.g.c) := hl.at_ 1
  have c2 : W.cell? ⟨g, 2, none⟩ = some (.slice t.l.A t.l.l.length t.l.c) := hl.at_ 2
  rw [a] at c0
  rw [e3] at c1
  rw [b] at c2
  exact ⟨c0, c1, c2⟩
theorem if_iff {α : Type} {P Q : Prop} [Decidable P] [Decidable Q] {a b : α} (h : P ↔ Q) : (if P then a else b) = if Q then a else b := by
  by_cases hp : P
  · rw [if_pos hp, if_pos (h.1 hp)]
  · rw [if_neg hp, if_neg (fun hq => hp (h.2 hq))]
theorem cls_cell {w : World} {a : Addr} {v : Value} (h : w.cell? a = some v) : ∀ c : Cls (fun W => Below w.heap.size w W), c.val.cell? a = some v := fun c => (c.h.cell (World.block_lt_of_cell? w _ h)).trans h
set_option maxRecDepth 100000 in
set_option maxHeartbeats 1000000 in
theorem More_no (p : PlM) (ws xs : Sv Nat) (w : World) (hp : p.Lay w w.heap.size) (hr : readyB p = false) : Calls Try.prog 11 #[.agg p.cells.toArray, .slice ws.A ws.l.length ws.c, .slice xs.A xs.l.length xs.c] w fun e w' => e = .returned (.bool true) ∧ Below w.heap.size w w' := by
  have l0 : Lies (w.alloc (.cells p.cells.toArray 28)) w.heap.size 28 p.cells.toArray := Lies.fresh _ _ _
  have b0 : Below w.heap.size w (w.alloc (.cells p.cells.toArray 28)) := (Below.refl _ _).alloc (Nat.le_refl _) _
  have hR := ready_any p _ (hp.below b0 b0.size)
  rw [hr] at hR
  have L0 := Lib.hid l0
  have B0 := Lib.hid b0
  have HR := Lib.hid hR
  clear l0 b0 hR hp hr
  unfold PlM.cells at HR ⊢
  go_enter Try.func11, Try.ntmps11
  go_wp2_with (first
    | (refine wpList_load_row (o := ⟨some 21, _, _, _, _, _⟩) ?_ 28 (.tmp 3) ?_ w.heap.size ?_ 28 p.cells.toArray (0, 0) _ L0.out Try.underlying28 rfl size28 ?_; rfl; rfl; rfl)
    | (go_at_call 51; refine HR.out.mono ?_; rintro e w1 ⟨rfl, hb1⟩)
    | (go_at_call 19; refine (awake_any _).mono ?_; rintro e w2 ⟨rfl, hb2⟩))
  go_ret
  have hx := B0.out.trans (hb1.mono B0.out.size)
  exact ⟨rfl, hx.trans (hb2.mono hx.size)⟩
set_option maxRecDepth 100000 in
set_option maxHeartbeats 8000000 in
theorem More_yes (p : PlM) (ws xs : Sv Nat) (w : World) (hp : p.Lay w w.heap.size) (hr : readyB p = true) (hA : Sl w w.heap.size 1 encW ws.A ws.l) (hw : (∀ x, x ∈ ws.l → x < 65536) ∧ ws.l.length ≤ 9223372036854775807) (hB : Sl w w.heap.size 1 encW xs.A xs.l) (hx : (∀ x, x ∈ xs.l → x < 65536) ∧ xs.l.length ≤ 9223372036854775807) :
    Calls Try.prog 11 #[.agg p.cells.toArray, .slice ws.A ws.l.length ws.c, .slice xs.A xs.l.length xs.c] w fun e w' => e = .returned (.bool true) ∧ Below w.heap.size w w' := by
  obtain ⟨ht, hf⟩ := ready_iff.1 hr
  have hat := hp.at ht
  have hv := fault_zero hf
  have hn5 := hv.ok.n
  have hn1 := hv.ok.one
  obtain ⟨Y, hY⟩ : ∃ Y : Nat, p.years = (Y : Int) := ⟨p.years.toNat, years_nat hv⟩
  have hY6 : Y ≤ 6 := by have := hv.y; omega
  obtain ⟨ft, fgt, flt, IT, hPK1⟩ : ∃ ft fgt flt, InP p Y ft flt fgt ∧ ∀ W, Below w.heap.size w W → Calls Try.prog 52 #[.agg p.cells.toArray, .slice ws.A ws.l.length ws.c] W (RetO (mkT p.s.l.length Y ft fgt flt) W) :=
    ⟨_, _, _, pick_inP hv Y ws.l, fun W hb => Picked_own p Y ws.A ws.c ws.l W (hat.below hb hb.size) hv hY ((hA.below hb).more hb.size) hw.1 hw.2⟩
  obtain ⟨fo, fgo, flo, IO, hPK2⟩ : ∃ ft fgt flt, InP p Y ft flt fgt ∧ ∀ W, Below w.heap.size w W → Calls Try.prog 52 #[.agg p.cells.toArray, .slice xs.A xs.l.length xs.c] W (RetO (mkT p.s.l.length Y ft fgt flt) W) :=
    ⟨_, _, _, pick_inP hv Y xs.l, fun W hb => Picked_own p Y xs.A xs.c xs.l W (hat.below hb hb.size) hv hY ((hB.below hb).more hb.size) hx.1 hx.2⟩
  have hP : ∀ W, Below w.heap.size w W → Calls Try.prog 21 #[.agg p.cells.toArray] W (RetP p W) := fun W hb => Plan_any p W (hat.below hb hb.size) hp.nr hp.ne hp.nk
  have hTr : ∀ (fs fl : Nat → Int) (fg : Nat → Nat → Nat → Int) (u : TrM) (W : World), u.d = mkT p.s.l.length Y fs fg fl → u.At W W.heap.size → u.Nil → Calls Try.prog 23 #[.agg u.cells.toArray] W (RetT (mkT p.s.l.length Y fs fg fl) W) := fun fs fl fg u W h1 h2 h3 => Truth_law u _ p.s.l.length Y W h1 h2 h3 (mk_sizes _ _ _ _ _) hn5 hY6
  have hRu : ∀ (fs fl : Nat → Int) (fg : Nat → Nat → Nat → Int), InP p Y fs fl fg → ∀ (q : PlM) (u : TrM) (W : World), q.d = p.d → u.d = mkT p.s.l.length Y fs fg fl → q.At W W.heap.size → u.At W W.heap.size → Calls Try.prog 22 #[.agg q.cells.toArray, .agg u.cells.toArray] W (RetR (fun k => toldL p.d.s.length (yrT p.d (mkT p.s.l.length Y fs fg fl) k)) Y W) := fun fs fl fg hI q u W h1 h2 h3 h4 =>
    Run_law q u p.d _ Y W h1 h2 h3 h4 (by rw [fault_congr h1]; exact hf) (hI.fit hv hY) (by rw [← hY]; show q.d.years = _; rw [h1]; rfl)
  have l0 : Lies (w.alloc (.cells p.cells.toArray 28)) w.heap.size 28 p.cells.toArray := Lies.fresh _ _ _
  have b0 : Below w.heap.size w (w.alloc (.cells p.cells.toArray 28)) := (Below.refl _ _).alloc (Nat.le_refl _) _
  have hR := ready_any p _ (hp.below b0 b0.size)
  rw [hr] at hR
  have L0 := Lib.hid l0
  have B0 := Lib.hid b0
  have HR := Lib.hid hR
  have HPK1 := Lib.hid hPK1
  have HPK2 := Lib.hid hPK2
  have HP := Lib.hid hP
  have HTR := Lib.hid hTr
  have HRU := Lib.hid hRu
  have HIT := Lib.hid IT
  have HIO := Lib.hid IO
  have HV := Lib.hid hv
  have HY := Lib.hid hY
  have hYz : (Y : Int) ≤ 6 := by omega
  have hY0 : (0 : Int) ≤ (Y : Int) := by omega
  have hnz1 : (1 : Int) ≤ (p.s.l.length : Int) := by omega
  have hnz5 : (p.s.l.length : Int) ≤ 5 := by omega
  clear l0 b0 hR hp hr hat hv hf ht hPK1 hPK2 hP hTr hRu IT IO hA hB hw hx hY
  unfold PlM.cells at HR ⊢
  go_enter Try.func11, Try.ntmps11
  go_upto_region 3 with (first
    | (refine wpList_load_row (o := ⟨some 21, _, _, _, _, _⟩) ?_ 28 (.tmp 3) ?_ w.heap.size ?_ 28 p.cells.toArray (0, 0) _ L0.out Try.underlying28 rfl size28 ?_; rfl; rfl; rfl)
    | (go_at_call 51; refine HR.out.mono ?_; rintro e w1 ⟨rfl, hb1⟩; have L1 := Lib.hid (L0.out.call hb1); have B1 := Lib.hid (B0.out.trans (hb1.mono B0.out.size)); clear hb1))
  clear L0 B0 HR
  refine wp_region_mix [.take 0, .take 1, .take 3, .take 4, .force 2, .force 5] [⟨⟨6, 7, 31, [.slice none 0 0, .slice none 0 0, .slice none 0 0].toArray⟩, 8, 27⟩, ⟨⟨7, 8, 31, [.slice none 0 0, .slice none 0 0, .slice none 0 0].toArray⟩, 9, 30⟩] (by kernel_rfl) (by kernel_rfl) (fun s h => ?_) (fun s h => ?_) (fun s s' h h' => ?_) (fun s h => ?_) ?_
  · simp only [List.mem_cons, List.not_mem_nil, or_false] at h
    rcases h with rfl | rfl <;> exact alloc_rtruth
  · simp only [List.mem_cons, List.not_mem_nil, or_false] at h
    rcases h with rfl | rfl <;> exact size31
  · simp only [List.mem_cons, List.not_mem_nil, or_false] at h h'
    rcases h with rfl | rfl <;> rcases h' with rfl | rfl <;> simp
  · simp only [List.mem_cons, List.not_mem_nil, or_false] at h
    rcases h with rfl | rfl <;> simp
  have hd1 : Below w1.heap.size w1 w1.drew := (Below.refl _ _).drew
  have hltB : w.heap.size < w1.heap.size := L1.out.in_
  have HFI := Lib.hid (show ∀ fl, fl ∈ ([⟨6, 7, 31, [.slice none 0 0, .slice none 0 0, .slice none 0 0].toArray⟩, ⟨7, 8, 31, [.slice none 0 0, .slice none 0 0, .slice none 0 0].toArray⟩] : List Fl) → ∀ x : Int, Value.int .i64 x ∉ fl.z from flsT_int)
  have HFS := Lib.hid (show ∀ fl, fl ∈ ([⟨6, 7, 31, [.slice none 0 0, .slice none 0 0, .slice none 0 0].toArray⟩, ⟨7, 8, 31, [.slice none 0 0, .slice none 0 0, .slice none 0 0].toArray⟩] : List Fl) → ∀ (A : Option Addr) (n c : Nat), n ≠ 0 → Value.slice A n c ∉ fl.z from flsT_slice)
  simp only [wpMx_take, wpMx_force, List.map_cons, List.map_nil, List.getElem?_toArray, List.getElem?_cons_zero, List.getElem?_cons_succ]
  generalize hFl : ([⟨6, 7, 31, [.slice none 0 0, .slice none 0 0, .slice none 0 0].toArray⟩, ⟨7, 8, 31, [.slice none 0 0, .slice none 0 0, .slice none 0 0].toArray⟩] : List Fl) = Fl at *
  have HFL := Lib.hid hFl
  clear hFl
  generalize w1.drew = v1 at *
  have hrg : ∀ W, (∃ c : Cls (Mxv Fl w1.heap.size v1), W = c.val) → W.rangeAt w.heap.size 0 p.cells := by
    rintro W ⟨c, rfl⟩
    exact Lies.range (cs := p.cells) (c.h.lies hd1.size (L1.out.call hd1) hltB) (fun j v hj => by simpa using hj)
  have HRG := Lib.hid hrg
  clear hrg
  haveI hne1 : Nonempty (Cls (Mxv Fl w1.heap.size v1)) := ⟨⟨v1, .here⟩⟩
  (refine wpQuiet_load_whole (o := ⟨some 25, _, _, _, _, _⟩) ?_ 28 (.tmp 3) ?_ w.heap.size 0 ?_ p.cells _ HRG.out Try.underlying28 rfl size28 ?_; rfl; rfl; rfl; simp only [Act.put, List.setIfInBounds_toArray, List.set_cons_zero, List.set_cons_succ])
  refine wpQuiet_nil ?_
  (first | go_big_quiet_step (rfl) | quiet_step (rfl))
  refine wpQuiet_nil ?_
  (refine wpQuiet_load_whole (o := ⟨some 28, _, _, _, _, _⟩) ?_ 28 (.tmp 3) ?_ w.heap.size 0 ?_ p.cells _ HRG.out Try.underlying28 rfl size28 ?_; rfl; rfl; rfl; simp only [Act.put, List.setIfInBounds_toArray, List.set_cons_zero, List.set_cons_succ])
  refine wpQuiet_nil ?_
  (first | go_big_quiet_step (rfl) | quiet_step (rfl))
  refine wpQuiet_nil ?_
  clear HRG hne1
  intro val w3 hw3
  (try simp only [putF, List.foldl_cons, List.foldl_nil])
  have hd3 := hd1.trans (hw3.mono hd1.size)
  go_wp2_with (go_at_call 52; refine (HPK1.out _ (B1.out.trans (hd3.mono B1.out.size))).mono ?_; rintro e w4 ⟨t, rfl, htd, hta, htn, _, hb4⟩)
  refine Ends.intro ⟨hb4, ?_⟩
  have hd4 := hd3.trans (hb4.mono hd3.size)
  intro val5 w5 hw5
  (try simp only [putF, List.foldl_cons, List.foldl_nil])
  have hd5 := hd4.trans (hw5.mono hd4.size)
  go_wp2_with (go_at_call 52; refine (HPK2.out _ (B1.out.trans (hd5.mono B1.out.size))).mono ?_; rintro e w6 ⟨o, rfl, hod, hoa, _, _, hb6⟩)
  refine Ends.intro ⟨hb6, ?_⟩
  have hd6 := hd5.trans (hb6.mono hd5.size)
  have h46 : Below w4.heap.size w4 w6 := hw5.trans (hb6.mono hw5.size)
  rw [wpMx_nil]
  refine ⟨fun f => if f = 7 then t.cells.toArray else o.cells.toArray, fun s hs => ?_, fun Gf wz hmz hGf _ => ?_⟩
  · simp only [List.mem_cons, List.not_mem_nil, or_false] at hs
    rcases hs with rfl | rfl
    · exact ⟨rfl, rfl, by simp [TrM.cells, Value.oneCell']⟩
    · exact ⟨rfl, rfl, by simp [TrM.cells, Value.oneCell']⟩
  have l7 : Lies wz (Gf 7) 31 t.cells.toArray := (hGf ⟨⟨6, 7, 31, [.slice none 0 0, .slice none 0 0, .slice none 0 0].toArray⟩, 8, 27⟩ (by simp)).2
  have l8 : Lies wz (Gf 8) 31 o.cells.toArray := (hGf ⟨⟨7, 8, 31, [.slice none 0 0, .slice none 0 0, .slice none 0 0].toArray⟩, 9, 30⟩ (by simp)).2
  have hmz2 : Mxv Fl w1.heap.size w6 wz := by rw [← HFL.out]; exact hmz
  have hn0 : p.s.l.length ≠ 0 := by omega
  have htz : t.At wz wz.heap.size := (Mxv.trans (.of h46) hmz2).tr hta HFI.out HFS.out (mk_full htd hn0)
  have hoz : o.At wz wz.heap.size := hmz2.tr hoa HFI.out HFS.out (mk_full hod hn0)
  have h1z : Below w1.heap.size w1 wz := hd6.trans (hmz2.under hd6.size)
  simp only [List.map_cons, List.map_nil, putF, List.foldl_cons, List.foldl_nil, Act.put, List.setIfInBounds_toArray, List.set_cons_zero, List.set_cons_succ]
  generalize Gf 7 = g7 at *
  generalize Gf 8 = g8 at *
  have L7 := Lib.hid l7
  have L8 := Lib.hid l8
  have TA := Lib.hid htz
  have OA := Lib.hid hoz
  have TD := Lib.hid htd
  have OD := Lib.hid hod
  have TN := Lib.hid htn
  have PB := Lib.hid (L1.out.call h1z)
  have BZ := Lib.hid (B1.out.trans (h1z.mono B1.out.size))
  clear hd1 hltB HFI HFS HFL hd3 hd4 hd5 hd6 h46 hw3 hb4 hw5 hb6 hta hoa htd hod htn hmz hGf hmz2 htz hoz h1z l7 l8 L1 B1 HPK1 hn0
  go_wp2_with (first
    | (refine wpList_load_row (o := ⟨some 31, _, _, _, _, _⟩) ?_ 28 (.tmp 3) ?_ w.heap.size ?_ 28 p.cells.toArray (0, 0) _ PB.out Try.underlying28 rfl size28 ?_; rfl; rfl; rfl)
    | (go_at_call 52; refine (HPK2.out _ BZ.out).mono ?_; rintro e w7 ⟨x, rfl, hxd, hxa, hxn, hxo, hb7⟩; have HB7 := Lib.hid hb7; have d0 : w7.cell? ⟨w.heap.size, 0, none⟩ = some (.slice p.s.A p.s.l.length p.s.c) := (PB.out.call hb7).at_ 0; clear hb7)
    | (refine wpList_store_cells (o := ⟨none, .store 31 (.tmp 9) _, _, _, _, _⟩) ?_ 31 (.tmp 9) (.tmp 33) ?_ w7.heap.size 0 ?_ 31 [.slice none 0 0, .slice none 0 0, .slice none 0 0] x.cells ?_ (Lies.fresh w7 31 [.slice none 0 0, .slice none 0 0, .slice none 0 0].toArray) (Nat.le_refl 3) size31 (by simp [TrM.cells, Value.oneCell']) ?_; rfl; rfl; rfl; rfl; intro w8 HS8 HO8; have e0 : w8.cell? ⟨w.heap.size, 0, none⟩ = some (.slice p.s.A p.s.l.length p.s.c) := (by have h := HO8.out.lies ((PB.out.call HB7.out).alloc _) (show w.heap.size ≠ w7.heap.size by have := (PB.out.call HB7.out).in_; omega); exact h.at_ 0); (try simp only [Act.put])))
  have hxw : Lies w8 w7.heap.size 31 x.cells.toArray := by have := HS8.out; rwa [splice_whole (by simp [TrM.cells])] at this
  have hal : Below w7.heap.size w7 (w7.alloc (.cells [.slice none 0 0, .slice none 0 0, .slice none 0 0].toArray 31)) := (Below.refl _ _).alloc (Nat.le_refl _) _
  have hxo8 : x.Own wz.heap.size w8 := (hxo.call hal).only HO8.out (Lies.fresh w7 31 [.slice none 0 0, .slice none 0 0, .slice none 0 0].toArray)
  have hz8 : Below wz.heap.size wz w8 := HO8.out.below (HB7.out.trans (hal.mono HB7.out.size)) HB7.out.size
  obtain ⟨hapt, hmo⟩ := MoM.start hxo8 hxd (show 0 < p.s.l.length by omega) hxw
  have APT := Lib.hid hapt
  have XO := Lib.hid hxo8
  have XD := Lib.hid hxd
  have XN := Lib.hid hxn
  have Z8 := Lib.hid hz8
  have HM := Lib.hid hmo
  clear hxw hal hxo8 hz8 hapt hmo hxo hxd hxn hxa HS8 HO8 HB7 e0 d0 HPK2
  generalize w7.heap.size = gx at *
  go_loopw [11] (fun i wr => ∃ s : Nat, s ≤ p.s.l.length ∧ i = .int .i64 s ∧ Aside (MoM x p.s.l.length Y wz.heap.size gx w8 (fun i => if i < s then max (ft i) (fo i) else fo i) flo fgo wr)) (fun i _ => p.s.l.length - (intOf i).toNat)
  case atStart => exact ⟨0, by omega, rfl, HM.out.congr (fun i _ => by simp) (fun _ _ => rfl) (fun _ _ _ _ _ _ => rfl)⟩
  case round =>
    obtain ⟨s, hs, rfl, M⟩ := hrel
    have M := Lib.hid M.out
    by_cases hlt : s < p.s.l.length
    · have hltz : (s : Int) < (p.s.l.length : Int) := by omega
      have hs0 : (0 : Int) ≤ (s : Int) := by omega
      have hbz : Below wz.heap.size wz wr := Z8.out.trans M.out.b
      obtain ⟨bt, ot, et, hbt, ct⟩ := rd_s TD.out TA.out hlt
      obtain ⟨bo, oo, eo, hbo, co⟩ := rd_s OD.out OA.out hlt
      have t7 := tb_at TD.out (L7.out.to_ (hbz.block g7 L7.out.in_))
      have t8 := tb_at OD.out (L8.out.to_ (hbz.block g8 L8.out.in_))
      have tx := tb_at XD.out M.out.xb
      have ex := (XO.out.s.ad (show 0 < x.s.l.length by rw [(mkT_parts XD.out).1]; simp; omega)).1
      have r0 := cls_cell (show wr.cell? ⟨gx, 0, none⟩ = some (.slice (some ⟨(ad x.s.A).block, (ad x.s.A).off, none⟩) p.s.l.length x.s.c) by rw [← ex]; exact tx.1)
      have r1 := cls_cell (show wr.cell? ⟨g7, 0, none⟩ = some (.slice (some ⟨bt, ot, none⟩) p.s.l.length t.s.c) by rw [← et]; exact t7.1)
      have r2 := cls_cell (show wr.cell? ⟨g8, 0, none⟩ = some (.slice (some ⟨bo, oo, none⟩) p.s.l.length o.s.c) by rw [← eo]; exact t8.1)
      have r3 := cls_cell ((hbz.cell (p := ⟨bt, ot + s, none⟩) hbt).trans ct)
      have r4 := cls_cell ((hbz.cell (p := ⟨bo, oo + s, none⟩) hbo).trans co)
      haveI hnec : Nonempty (Cls (fun W => Below wr.heap.size wr W)) := ⟨⟨wr, Below.refl _ _⟩⟩
      clear et eo ct co t7 t8 tx ex hbz hbt hbo
      go_wp2
      refine wp_region_ways3 15 [0, 1, 2, 3, 4, 5, 6, 7, 8, 9, 10, 11, 12, 13, 14] .fin (fun W => ∃ c : Cls (fun W => Below wr.heap.size wr W), W = c.val) (by kernel_rfl) (by kernel_rfl) (Cls.here (Below.refl _ _).drew) ?_
      simp only [List.filterMap_cons, List.filterMap_nil, List.take_succ_cons, List.take_zero, List.getElem?_toArray, List.getElem?_cons_zero, List.getElem?_cons_succ, List.drop_succ_cons, List.drop_zero]
      repeat (first | go_big_quiet_step (fail) | quiet_step (fail))
      refine wpQuiet_nil ?_
      rw [wpWy_fin]
      clear r0 r1 r2 r3 r4 hnec
      have MD := Lib.hid M.out.drew
      have c9 : wr.drew.cell? ⟨(ad x.s.A).block, (ad x.s.A).off + s, none⟩ = some (.int .i64 (if s < s then max (ft s) (fo s) else fo s)) := MD.out.cs s hlt
      have f9 : wr.drew.frozen? ⟨(ad x.s.A).block, (ad x.s.A).off + s, none⟩ = false := MD.out.fs _
      clear M
      generalize wr.drew = wd at *
      go_wp2_with (fail)
      go_roundw
      case rel =>
        refine ⟨s + 1, by omega, by go_num, (MD.out.setS APT.out hlt _).congr (fun i hi => ?_) (fun _ _ => rfl) (fun _ _ _ _ _ _ => rfl)⟩
        by_cases h : i = s
        · subst h; rw [if_pos rfl, if_pos (by omega)]
        · rw [if_neg h]; exact if_iff (by omega)
      case measure => simp [intOf]; omega
    · obtain rfl : s = p.s.l.length := by omega
      have M1 := Lib.hid (M.out.congr (fs' := fun i => max (ft i) (fo i)) (fun i hi => by rw [if_pos hi]) (fun _ _ => rfl) (fun _ _ _ _ _ _ => rfl))
      clear M HM
      go_wp2
      go_loopw [12, 13, 14] (fun i _ _ wr => ∃ y : Nat, y ≤ Y ∧ i = .int .i64 y ∧ Aside (MoM x p.s.l.length Y wz.heap.size gx w8 (fun i => max (ft i) (fo i)) (fun j => if j < y then min (flt j) (flo j) else flo j) (fun y' s k => if y' < y then max (fgt y' s k) (fgo y' s k) else fgo y' s k) wr)) (fun i _ _ _ => Y - (intOf i).toNat)
      case atStart => exact ⟨0, by omega, rfl, M1.out.congr (fun _ _ => rfl) (fun i _ => by simp) (fun _ _ _ _ _ _ => by simp)⟩
      case round =>
        obtain ⟨y, hy, rfl, M⟩ := hrel
        have M := Lib.hid M.out
        clear M1
        have hbz : Below wz.heap.size wz wr := Z8.out.trans M.out.b
        have d7 : wr.cell? ⟨w.heap.size, 7, none⟩ = some (.int .i64 (Y : Int)) := by rw [← HY.out]; exact (PB.out.to_ (hbz.block _ PB.out.in_)).at_ 7
        by_cases hyl : y < Y
        · have hylz : (y : Int) < (Y : Int) := by omega
          have hy0 : (0 : Int) ≤ (y : Int) := by omega
          obtain ⟨bt, ot, et, hbt, ct⟩ := rd_l TD.out TA.out hyl
          obtain ⟨bo, oo, eo, hbo, co⟩ := rd_l OD.out OA.out hyl
          have t7 := tb_at TD.out (L7.out.to_ (hbz.block g7 L7.out.in_))
          have t8 := tb_at OD.out (L8.out.to_ (hbz.block g8 L8.out.in_))
          have tx := tb_at XD.out M.out.xb
          have ex := (XO.out.l.ad (show 0 < x.l.l.length by rw [(mkT_parts XD.out).2.1]; simp; omega)).1
          have r0 := cls_cell (show wr.cell? ⟨gx, 2, none⟩ = some (.slice (some ⟨(ad x.l.A).block, (ad x.l.A).off, none⟩) Y x.l.c) by rw [← ex]; exact tx.2.2)
          have r1 := cls_cell (show wr.cell? ⟨g7, 2, none⟩ = some (.slice (some ⟨bt, ot, none⟩) Y t.l.c) by rw [← et]; exact t7.2.2)
          have r2 := cls_cell (show wr.cell? ⟨g8, 2, none⟩ = some (.slice (some ⟨bo, oo, none⟩) Y o.l.c) by rw [← eo]; exact t8.2.2)
          have r3 := cls_cell ((hbz.cell (p := ⟨bt, ot + y, none⟩) hbt).trans ct)
          have r4 := cls_cell ((hbz.cell (p := ⟨bo, oo + y, none⟩) hbo).trans co)
          haveI hnec : Nonempty (Cls (fun W => Below wr.heap.size wr W)) := ⟨⟨wr, Below.refl _ _⟩⟩
          clear et eo ct co t7 t8 tx ex hbz hbt hbo
          go_wp2
          refine wp_region_ways3 15 [0, 1, 2, 3, 4, 5, 6, 7, 8, 9, 10, 11, 12, 13, 14] .fin (fun W => ∃ c : Cls (fun W => Below wr.heap.size wr W), W = c.val) (by kernel_rfl) (by kernel_rfl) (Cls.here (Below.refl _ _).drew) ?_
          simp only [List.filterMap_cons, List.filterMap_nil, List.take_succ_cons, List.take_zero, List.getElem?_toArray, List.getElem?_cons_zero, List.getElem?_cons_succ, List.drop_succ_cons, List.drop_zero]
          repeat (first | go_big_quiet_step (fail) | quiet_step (fail))
          refine wpQuiet_nil ?_
          rw [wpWy_fin]
          clear r0 r1 r2 r3 r4 hnec d7
          have MD := Lib.hid M.out.drew
          have c9 : wr.drew.cell? ⟨(ad x.l.A).block, (ad x.l.A).off + y, none⟩ = some (.int .i64 (if y < y then min (flt y) (flo y) else flo y)) := MD.out.cl y hyl
          have f9 : wr.drew.frozen? ⟨(ad x.l.A).block, (ad x.l.A).off + y, none⟩ = false := MD.out.fl (by omega) _
          clear M
          generalize wr.drew = wd at *
          go_wp2_with (fail)
          have M2 := Lib.hid ((MD.out.setL APT.out hyl (min (flt y) (flo y))).congr (fl' := fun j => if j < y + 1 then min (flt j) (flo j) else flo j) (fg' := fun y' s k => if y' < y ∨ (y' = y ∧ s < 0) then max (fgt y' s k) (fgo y' s k) else fgo y' s k) (fun _ _ => rfl) (fun j hj => by
            by_cases h : j = y
            · subst h; rw [if_pos rfl, if_pos (by omega)]
            · rw [if_neg h]; exact if_iff (by omega)) (fun y' s k _ _ _ => if_iff (by omega)))
          clear MD c9 f9
          go_loopw [13, 14] (fun i _ wr => ∃ s : Nat, s ≤ p.s.l.length ∧ i = .int .i64 s ∧ Aside (MoM x p.s.l.length Y wz.heap.size gx w8 (fun i => max (ft i) (fo i)) (fun j => if j < y + 1 then min (flt j) (flo j) else flo j) (fun y' s' k => if y' < y ∨ (y' = y ∧ s' < s) then max (fgt y' s' k) (fgo y' s' k) else fgo y' s' k) wr)) (fun i _ _ => p.s.l.length - (intOf i).toNat)
          case atStart => exact ⟨0, by omega, rfl, M2.out⟩
          case round =>
            obtain ⟨s, hs, rfl, M⟩ := hrel
            have M := Lib.hid M.out
            clear M2
            by_cases hlt : s < p.s.l.length
            · have hltz : (s : Int) < (p.s.l.length : Int) := by omega
              have hs0 : (0 : Int) ≤ (s : Int) := by omega
              have M3 := Lib.hid (M.out.congr (fg' := fun y' s' k' => if y' < y ∨ (y' = y ∧ (s' < s ∨ (s' = s ∧ k' < 0))) then max (fgt y' s' k') (fgo y' s' k') else fgo y' s' k') (fun _ _ => rfl) (fun _ _ => rfl) (fun y' s' k' _ _ _ => if_iff (by omega)))
              clear M
              go_wp2
              go_loopw [14] (fun i wr => ∃ k : Nat, k ≤ p.s.l.length ∧ i = .int .i64 k ∧ Aside (MoM x p.s.l.length Y wz.heap.size gx w8 (fun i => max (ft i) (fo i)) (fun j => if j < y + 1 then min (flt j) (flo j) else flo j) (fun y' s' k' => if y' < y ∨ (y' = y ∧ (s' < s ∨ (s' = s ∧ k' < k))) then max (fgt y' s' k') (fgo y' s' k') else fgo y' s' k') wr)) (fun i _ => p.s.l.length - (intOf i).toNat)
              case atStart => exact ⟨0, by omega, rfl, M3.out⟩
              case round =>
                obtain ⟨k, hk, rfl, M⟩ := hrel
                have M := Lib.hid M.out
                clear M3
                by_cases hkl : k < p.s.l.length
                · have hklz : (k : Int) < (p.s.l.length : Int) := by omega
                  have hk0 : (0 : Int) ≤ (k : Int) := by omega
                  have hbz : Below wz.heap.size wz wr := Z8.out.trans M.out.b
                  obtain ⟨bg, og, bG, oG, cG, bR, oR, cR, et, h1, c1, h2, c2, h3, c3⟩ := rd_g TD.out TA.out hyl hlt hkl
                  obtain ⟨bg', og', bG', oG', cG', bR', oR', cR', eo, h1', c1', h2', c2', h3', c3'⟩ := rd_g OD.out OA.out hyl hlt hkl
                  have t7 := tb_at TD.out (L7.out.to_ (hbz.block g7 L7.out.in_))
                  have t8 := tb_at OD.out (L8.out.to_ (hbz.block g8 L8.out.in_))
                  have tx := tb_at XD.out M.out.xb
                  have ex := (XO.out.g.ad (show 0 < x.g.l.length by rw [(mkT_parts XD.out).2.2.1]; omega)).1
                  have r0 := cls_cell (show wr.cell? ⟨gx, 1, none⟩ = some (.slice (some ⟨(ad x.g.A).block, (ad x.g.A).off, none⟩) Y x.g.c) by rw [← ex]; exact tx.2.1)
                  have r1 := cls_cell (show wr.cell? ⟨g7, 1, none⟩ = some (.slice (some ⟨bg, og, none⟩) Y t.g.c) by rw [← et]; exact t7.2.1)
                  have r2 := cls_cell (show wr.cell? ⟨g8, 1, none⟩ = some (.slice (some ⟨bg', og', none⟩) Y o.g.c) by rw [← eo]; exact t8.2.1)
                  have r3 := cls_cell ((hbz.cell (p := ⟨bg, og + y, none⟩) h1).trans c1)
                  have r4 := cls_cell ((hbz.cell (p := ⟨bG, oG + s, none⟩) h2).trans c2)
                  have r5 := cls_cell ((hbz.cell (p := ⟨bR, oR + k, none⟩) h3).trans c3)
                  have q3 := cls_cell ((hbz.cell (p := ⟨bg', og' + y, none⟩) h1').trans c1')
                  have q4 := cls_cell ((hbz.cell (p := ⟨bG', oG' + s, none⟩) h2').trans c2')
                  have q5 := cls_cell ((hbz.cell (p := ⟨bR', oR' + k, none⟩) h3').trans c3')
                  have x3 := cls_cell (M.out.cg y hyl)
                  have x4 := cls_cell (M.out.cy y s hyl hlt)
                  haveI hnec : Nonempty (Cls (fun W => Below wr.heap.size wr W)) := ⟨⟨wr, Below.refl _ _⟩⟩
                  clear et eo c1 c2 c3 c1' c2' c3' h1 h2 h3 h1' h2' h3' t7 t8 tx ex hbz
                  go_wp2
                  refine wp_region_ways3 33 [0, 1, 2, 3, 4, 5, 6, 7, 8, 9, 10, 11, 12, 13, 14, 15, 16, 17, 18, 19, 20, 21, 22, 23, 24, 25, 26, 27, 28, 29, 30, 31, 32] .fin (fun W => ∃ c : Cls (fun W => Below wr.heap.size wr W), W = c.val) (by kernel_rfl) (by kernel_rfl) (Cls.here (Below.refl _ _).drew) ?_
                  simp only [List.filterMap_cons, List.filterMap_nil, List.take_succ_cons, List.take_zero, List.getElem?_toArray, List.getElem?_cons_zero, List.getElem?_cons_succ, List.drop_succ_cons, List.drop_zero]
                  repeat (first | go_big_quiet_step (fail) | quiet_step (fail))
                  refine wpQuiet_nil ?_
                  rw [wpWy_fin]
                  clear r0 r1 r2 r3 r4 r5 q3 q4 q5 x3 x4 hnec
                  have MD := Lib.hid M.out.drew
                  have c9 : wr.drew.cell? ⟨(ad (rAt x y s).A).block, (ad (rAt x y s).A).off + k, none⟩ = some (.int .i64 (if y < y ∨ (y = y ∧ (s < s ∨ (s = s ∧ k < k))) then max (fgt y s k) (fgo y s k) else fgo y s k)) := MD.out.cr y s k hyl hlt hkl
                  have f9 : wr.drew.frozen? ⟨(ad (rAt x y s).A).block, (ad (rAt x y s).A).off + k, none⟩ = false := MD.out.fr y s hyl hlt _
                  clear M
                  generalize wr.drew = wd at *
                  go_wp2_with (fail)
                  go_roundw
                  case rel =>
                    refine ⟨k + 1, by omega, by go_num, (MD.out.setR APT.out hyl hlt hkl _).congr (fun _ _ => rfl) (fun _ _ => rfl) (fun y' s' k' _ _ _ => ?_)⟩
                    by_cases h : y' = y ∧ s' = s ∧ k' = k
                    · obtain ⟨rfl, rfl, rfl⟩ := h
                      rw [if_pos ⟨rfl, rfl, rfl⟩, if_pos (by omega)]
                    · rw [if_neg h]; exact if_iff (by omega)
                  case measure => simp [intOf]; omega
                · obtain rfl : k = p.s.l.length := by omega
                  go_wp2
                  go_roundw
                  case rel =>
                    refine ⟨s + 1, by omega, by go_num, M.out.congr (fun _ _ => rfl) (fun _ _ => rfl) (fun y' s' k' _ _ hk' => if_iff (by omega))⟩
                  case measure => simp [intOf]; omega
            · obtain rfl : s = p.s.l.length := by omega
              go_wp2
              go_roundw
              case rel =>
                refine ⟨y + 1, by omega, by go_num, M.out.congr (fun _ _ => rfl) (fun _ _ => rfl) (fun y' s' k' _ hs' _ => if_iff (by omega))⟩
              case measure => simp [intOf]; omega
        · obtain rfl : y = Y := by omega
          have M1 := Lib.hid (M.out.congr (fl' := fun j => min (flt j) (flo j)) (fg' := fun y' s k => max (fgt y' s k) (fgo y' s k)) (fun _ _ => rfl) (fun j hj => by rw [if_pos hj]) (fun y' s k hy' _ _ => by rw [if_pos hy']))
          obtain ⟨u, huc, hud, hua, hun⟩ := M1.out.truth XO.out XN.out XD.out (by omega)
          have hxb := M1.out.xb
          rw [← huc] at hxb
          have UB := Lib.hid hxb
          have UD := Lib.hid hud
          have UA := Lib.hid hua
          have UN := Lib.hid hun
          have T7 := Lib.hid (show Lies wr g7 31 t.cells.toArray from L7.out.to_ (hbz.block g7 L7.out.in_))
          have TA2 := Lib.hid (TA.out.below hbz hbz.size)
          have PR := Lib.hid (show Lies wr w.heap.size 28 p.cells.toArray from PB.out.to_ (hbz.block _ PB.out.in_))
          have BW := Lib.hid (BZ.out.trans (hbz.mono BZ.out.size))
          have HIX := Lib.hid (HIT.out.more HIO.out)
          have HMM := Lib.hid (fun k i (hk : k < y) (hi : i < p.s.l.length) => more_mono (p := p) HV.out (Y := y) HIT.out (fs' := fun i => max (ft i) (fo i)) (fl' := fun j => min (flt j) (flo j)) (fg' := fun y' s k => max (fgt y' s k) (fgo y' s k)) (fun i _ => Int.le_max_left _ _) (fun _ _ _ _ _ _ => Int.le_max_left _ _) (fun _ _ => Int.min_le_left _ _) hk hi)
          clear M M1 huc hud hua hun hxb hbz L7 L8 TA OA OD XO XD XN Z8 APT PB BZ HIO
          generalize (fun i => max (ft i) (fo i)) = fX at *
          generalize (fun j => min (flt j) (flo j)) = flX at *
          generalize (fun y' s k => max (fgt y' s k) (fgo y' s k)) = fgX at *
          as_aux_lemma =>
          go_upto_region 21 with (fail)
          have hrp : ∀ W, (∃ c : Cls (fun W => Below wr.heap.size wr W), W = c.val) → W.rangeAt w.heap.size 0 p.cells := by
            rintro W ⟨c, rfl⟩
            exact Lies.range (cs := p.cells) (PR.out.call c.h) (fun j v hj => by simpa using hj)
          have hrt : ∀ W, (∃ c : Cls (fun W => Below wr.heap.size wr W), W = c.val) → W.rangeAt g7 0 t.cells := by
            rintro W ⟨c, rfl⟩
            exact Lies.range (cs := t.cells) (T7.out.call c.h) (fun j v hj => by simpa using hj)
          have HRP := Lib.hid hrp
          have HRT := Lib.hid hrt
          clear hrp hrt d7
          haveI hne4 : Nonempty (Cls (fun W => Below wr.heap.size wr W)) := ⟨⟨wr, Below.refl _ _⟩⟩
          refine wp_region_whole [([0, 2], [1, 3, 4]), ([5, 6, 7, 8, 9], [])] (fun W => ∃ c : Cls (fun W => Below wr.heap.size wr W), W = c.val) (Cls.here (Below.refl _ _).drew) (by kernel_rfl) (by kernel_rfl) ?_
          simp only [wpPhases, List.filterMap_cons, List.filterMap_nil, List.getElem?_toArray, List.getElem?_cons_zero, List.getElem?_cons_succ]
          refine wpQuiet_load_whole (o := ⟨some 122, _, _, _, _, _⟩) ?_ 28 (.tmp 3) ?_ w.heap.size 0 ?_ p.cells _ HRP.out Try.underlying28 rfl size28 ?_
          rfl; rfl; rfl
          simp only [Act.put, List.setIfInBounds_toArray, List.set_cons_zero, List.set_cons_succ]
          refine wpQuiet_load_whole (o := ⟨some 124, _, _, _, _, _⟩) ?_ 31 (.tmp 7) ?_ g7 0 ?_ t.cells _ HRT.out Try.underlying31 rfl size31 ?_
          rfl; rfl; rfl
          simp only [Act.put, List.setIfInBounds_toArray, List.set_cons_zero, List.set_cons_succ]
          refine wpQuiet_nil ?_
          simp only [wpForce]
          have hd1 : Below wr.heap.size wr wr.drew := (Below.refl _ _).drew
          generalize wr.drew = v1 at *
          go_wp2_with (go_at_call 21; refine (HP.out _ (BW.out.trans (hd1.mono BW.out.size))).mono ?_; rintro e v2 ⟨q, rfl, hqd, hqa, hb⟩)
          have hd2 := hd1.trans (hb.mono hd1.size)
          refine Ends.intro ⟨Cls.here hd2, ?_⟩
          clear hb
          go_wp2_with (go_at_call 23; refine (HTR.out _ _ _ t _ TD.out (TA2.out.below hd2 hd2.size) TN.out).mono ?_; rintro e v3 ⟨v, rfl, hvd, hva, _, hb⟩)
          have hd3 := hd2.trans (hb.mono hd2.size)
          refine Ends.intro ⟨Cls.here hd3, ?_⟩
          have hqa3 := hqa.below hb hb.size
          clear hb
          go_wp2_with (go_at_call 22; refine (HRU.out _ _ _ HIT.out q v _ hqd hvd hqa3 hva).mono ?_; rintro e w10 ⟨A1, c1, ys, rfl, hys, hym, hyi, hb⟩)
          have hd4 := hd3.trans (hb.mono hd3.size)
          refine Ends.intro ⟨Cls.here hd4, ?_⟩
          have P2 := Lib.hid (PR.out.call hd4)
          have U2 := Lib.hid (UB.out.call hd4)
          have UA2 := Lib.hid (UA.out.below hd4 hd4.size)
          have BW2 := Lib.hid (BW.out.trans (hd4.mono BW.out.size))
          have HYS := Lib.hid hys
          have HYM := Lib.hid hym
          have HYI := Lib.hid hyi
          clear hb hd1 hd2 hd3 hd4 hqd hqa hqa3 hvd hva HRP HRT hys hym hyi
          repeat (first | go_big_quiet_step (fail) | quiet_step (fail))
          refine wpQuiet_nil ?_
          clear PR UB UA BW T7 TA2 TN TD hne4
          go_upto_region 22 with (fail)
          have hrp : ∀ W, (∃ c : Cls (fun W => Below w10.heap.size w10 W), W = c.val) → W.rangeAt w.heap.size 0 p.cells := by
            rintro W ⟨c, rfl⟩
            exact Lies.range (cs := p.cells) (P2.out.call c.h) (fun j v hj => by simpa using hj)
          have hrt : ∀ W, (∃ c : Cls (fun W => Below w10.heap.size w10 W), W = c.val) → W.rangeAt gx 0 u.cells := by
            rintro W ⟨c, rfl⟩
            exact Lies.range (cs := u.cells) (U2.out.call c.h) (fun j v hj => by simpa using hj)
          have HRP := Lib.hid hrp
          have HRT := Lib.hid hrt
          clear hrp hrt
          haveI hne4 : Nonempty (Cls (fun W => Below w10.heap.size w10 W)) := ⟨⟨w10, Below.refl _ _⟩⟩
          refine wp_region_whole [([0, 2], [1, 3, 4]), ([5, 6, 7, 8, 9], [])] (fun W => ∃ c : Cls (fun W => Below w10.heap.size w10 W), W = c.val) (Cls.here (Below.refl _ _).drew) (by kernel_rfl) (by kernel_rfl) ?_
          simp only [wpPhases, List.filterMap_cons, List.filterMap_nil, List.getElem?_toArray, List.getElem?_cons_zero, List.getElem?_cons_succ]
          refine wpQuiet_load_whole (o := ⟨some 130, _, _, _, _, _⟩) ?_ 28 (.tmp 3) ?_ w.heap.size 0 ?_ p.cells _ HRP.out Try.underlying28 rfl size28 ?_
          rfl; rfl; rfl
          simp only [Act.put, List.setIfInBounds_toArray, List.set_cons_zero, List.set_cons_succ]
          refine wpQuiet_load_whole (o := ⟨some 132, _, _, _, _, _⟩) ?_ 31 (.tmp 9) ?_ gx 0 ?_ u.cells _ HRT.out Try.underlying31 rfl size31 ?_
          rfl; rfl; rfl
          simp only [Act.put, List.setIfInBounds_toArray, List.set_cons_zero, List.set_cons_succ]
          refine wpQuiet_nil ?_
          simp only [wpForce]
          have hd1 : Below w10.heap.size w10 w10.drew := (Below.refl _ _).drew
          generalize w10.drew = v1 at *
          go_wp2_with (go_at_call 21; refine (HP.out _ (BW2.out.trans (hd1.mono BW2.out.size))).mono ?_; rintro e v2 ⟨q, rfl, hqd, hqa, hb⟩)
          have hd2 := hd1.trans (hb.mono hd1.size)
          refine Ends.intro ⟨Cls.here hd2, ?_⟩
          clear hb
          go_wp2_with (go_at_call 23; refine (HTR.out _ _ _ u _ UD.out (UA2.out.below hd2 hd2.size) UN.out).mono ?_; rintro e v3 ⟨v, rfl, hvd, hva, _, hb⟩)
          have hd3 := hd2.trans (hb.mono hd2.size)
          refine Ends.intro ⟨Cls.here hd3, ?_⟩
          have hqa3 := hqa.below hb hb.size
          clear hb
          go_wp2_with (go_at_call 22; refine (HRU.out _ _ _ HIX.out q v _ hqd hvd hqa3 hva).mono ?_; rintro e w11 ⟨A2, c2, zs, rfl, hzs, hzm, hzi, hb⟩)
          have hd4 := hd3.trans (hb.mono hd3.size)
          refine Ends.intro ⟨Cls.here hd4, ?_⟩
          have P3 := Lib.hid (P2.out.call hd4)
          have B3 := Lib.hid (BW2.out.trans (hd4.mono BW2.out.size))
          have HYS2 := Lib.hid ((HYS.out.sl.below hd4).more hd4.size)
          have HYI2 := Lib.hid (show ∀ y, y ∈ ys → y.In w11 w11.heap.size from fun y hy => (HYI.out y hy).call hd4)
          have HZS := Lib.hid hzs.sl
          have HZM := Lib.hid hzm
          have HZI := Lib.hid hzi
          clear hb hd1 hd2 hd3 hd4 hqd hqa hqa3 hvd hva HRP HRT hzs hzm hzi HYS HYI
          repeat (first | go_big_quiet_step (fail) | quiet_step (fail))
          refine wpQuiet_nil ?_
          clear P2 U2 UA2 BW2 HTR HRU HP UN UD HIX HIT hne4
          have d7 : w11.cell? ⟨w.heap.size, 7, none⟩ = some (.int .i64 (y : Int)) := by rw [← HY.out]; exact P3.out.at_ 7
          go_wp2
          clear d7
          go_loopw [19, 20] (fun i _ wr => ∃ k : Nat, k ≤ y ∧ i = .int .i64 k ∧ Aside (Below w11.heap.size w11 wr)) (fun i _ _ => y - (intOf i).toNat)
          case atStart => exact ⟨0, by omega, rfl, Below.refl _ _⟩
          case round =>
            obtain ⟨k, hk, rfl, hb⟩ := hrel
            have d7 : wr.cell? ⟨w.heap.size, 7, none⟩ = some (.int .i64 (y : Int)) := by rw [← HY.out]; exact (P3.out.call hb.out).at_ 7
            by_cases hlt : k < y
            · have hltz : (k : Int) < (y : Int) := by omega
              have hk0 : (0 : Int) ≤ (k : Int) := by omega
              obtain ⟨b1, o1, x1, rfl, e1, ⟨c10, c11, c12, c13⟩, hb1, i1'⟩ := year_more (n := p.s.l.length) HYS2.out HYM.out HYI2.out (told_lens hn5) hlt
              obtain ⟨b2, o2, x2, rfl, e2, ⟨c20, c21, c22, c23⟩, hb2, i2'⟩ := year_more (n := p.s.l.length) HZS.out HZM.out HZI.out (told_lens hn5) hlt
              have g10 := (hb.out.cell (p := ⟨b1, o1 + k * 4, none⟩) hb1).trans c10
              have g11 := (hb.out.cell (p := ⟨b1, o1 + k * 4 + 1, none⟩) hb1).trans c11
              have g12 := (hb.out.cell (p := ⟨b1, o1 + k * 4 + 2, none⟩) hb1).trans c12
              have g13 := (hb.out.cell (p := ⟨b1, o1 + k * 4 + 3, none⟩) hb1).trans c13
              have hWh : ∀ (a1 a2 a3 a4 : Option Addr) (u1 u2 u3 u4 : Nat) (W : World), Calls Try.prog 54 #[.agg #[.slice a1 p.s.l.length u1, .slice a2 p.s.l.length u2, .slice a3 p.s.l.length u3, .slice a4 p.s.l.length u4], .int .i64 p.s.l.length] W fun e w' => e = .returned (.bool true) ∧ Below W.heap.size W w' := fun a1 a2 a3 a4 u1 u2 u3 u4 W => whole_any a1 a2 a3 a4 p.s.l.length u1 u2 u3 u4 W
              have HBD := Lib.hid hWh
              have E1 := Lib.hid e1
              have E2 := Lib.hid e2
              have I1 := Lib.hid i1'
              have I2 := Lib.hid i2'
              have G1 := Lib.hid (And.intro c10 (And.intro c11 (And.intro c12 c13)))
              have G2 := Lib.hid (And.intro c20 (And.intro c21 (And.intro c22 c23)))
              have HB := Lib.hid hb.out
              clear c10 c11 c12 c13 c20 c21 c22 c23 e1 e2 i1' i2' hWh hb
              go_wp2_with (fail)
              refine (HBD.out _ _ _ _ _ _ _ _ _).mono ?_
              rintro e w12 ⟨rfl, hb9⟩
              have b89 := HB.out.trans (hb9.mono HB.out.size)
              have g20 := (b89.cell (p := ⟨b2, o2 + k * 4, none⟩) hb2).trans G2.out.1
              have g21 := (b89.cell (p := ⟨b2, o2 + k * 4 + 1, none⟩) hb2).trans G2.out.2.1
              have g22 := (b89.cell (p := ⟨b2, o2 + k * 4 + 2, none⟩) hb2).trans G2.out.2.2.1
              have g23 := (b89.cell (p := ⟨b2, o2 + k * 4 + 3, none⟩) hb2).trans G2.out.2.2.2
              have B89 := Lib.hid b89
              clear b89 hb9 g10 g11 g12 g13 d7
              go_wp2_with (fail)
              refine (HBD.out _ _ _ _ _ _ _ _ _).mono ?_
              rintro e w13 ⟨rfl, hb10⟩
              have B810 := Lib.hid (B89.out.trans (hb10.mono B89.out.size))
              clear hb10 g20 g21 g22 g23 HBD B89
              go_wp2
              go_loopw [20] (fun i wr => ∃ s : Nat, s ≤ p.s.l.length ∧ i = .int .i64 s ∧ Aside (Below w11.heap.size w11 wr)) (fun i _ => p.s.l.length - (intOf i).toNat)
              case atStart => exact ⟨0, by omega, rfl, B810.out⟩
              case round =>
                obtain ⟨s, hs, rfl, hz⟩ := hrel
                have HZ := Lib.hid hz.out
                clear hz B810
                by_cases htl : s < p.s.l.length
                · have htz : (s : Int) < (p.s.l.length : Int) := by omega
                  have ht0 : (0 : Int) ≤ (s : Int) := by omega
                  go_upto_region 33 with (fail)
                  obtain ⟨a0, a1, a2, a3, m0, m1, m2, m3, ⟨t1, t2, _, t4⟩, ⟨u1, u2, _, u4⟩, n0, n1, n3⟩ := HMM.out k s hlt htl
                  have f1 : x1.lists = _ := E1.out
                  have f2 : x2.lists = _ := E2.out
                  obtain ⟨ma, ya, ia, ja, ka⟩ := I1.out.a.sl.cell1 ((congrArg (·[s]?) (congrArg (·.1) f1)).trans t1)
                  obtain ⟨mb, yb, ib, jb, kb⟩ := I1.out.b.sl.cell1 ((congrArg (·[s]?) (congrArg (·.2.1) f1)).trans t2)
                  obtain ⟨md, yd, id, jd, kd⟩ := I1.out.d.sl.cell1 ((congrArg (·[s]?) (congrArg (·.2.2.2) f1)).trans t4)
                  obtain ⟨na, za, la, va, sa⟩ := I2.out.a.sl.cell1 ((congrArg (·[s]?) (congrArg (·.1) f2)).trans u1)
                  obtain ⟨nb, zb, lb, vb, sb⟩ := I2.out.b.sl.cell1 ((congrArg (·[s]?) (congrArg (·.2.1) f2)).trans u2)
                  obtain ⟨nd, zd, ld, vd, sd⟩ := I2.out.d.sl.cell1 ((congrArg (·[s]?) (congrArg (·.2.2.2) f2)).trans u4)
                  clear t1 t2 t4 u1 u2 u4 f1 f2
                  have p0 := cell_regrown (show wr.cell? ⟨b1, o1 + k * 4, none⟩ = some (.slice (some ⟨ma, ya, none⟩) p.s.l.length x1.a.c) by rw [HZ.out.cell (p := ⟨b1, o1 + k * 4, none⟩) hb1, G1.out.1, ia])
                  have p1 := cell_regrown (show wr.cell? ⟨b1, o1 + k * 4 + 1, none⟩ = some (.slice (some ⟨mb, yb, none⟩) p.s.l.length x1.b.c) by rw [HZ.out.cell (p := ⟨b1, o1 + k * 4 + 1, none⟩) hb1, G1.out.2.1, ib])
                  have p3 := cell_regrown (show wr.cell? ⟨b1, o1 + k * 4 + 3, none⟩ = some (.slice (some ⟨md, yd, none⟩) p.s.l.length x1.d.c) by rw [HZ.out.cell (p := ⟨b1, o1 + k * 4 + 3, none⟩) hb1, G1.out.2.2.2, id])
                  have q0 := cell_regrown (show wr.cell? ⟨b2, o2 + k * 4, none⟩ = some (.slice (some ⟨na, za, none⟩) p.s.l.length x2.a.c) by rw [HZ.out.cell (p := ⟨b2, o2 + k * 4, none⟩) hb2, G2.out.1, la])
                  have q1 := cell_regrown (show wr.cell? ⟨b2, o2 + k * 4 + 1, none⟩ = some (.slice (some ⟨nb, zb, none⟩) p.s.l.length x2.b.c) by rw [HZ.out.cell (p := ⟨b2, o2 + k * 4 + 1, none⟩) hb2, G2.out.2.1, lb])
                  have q3 := cell_regrown (show wr.cell? ⟨b2, o2 + k * 4 + 3, none⟩ = some (.slice (some ⟨nd, zd, none⟩) p.s.l.length x2.d.c) by rw [HZ.out.cell (p := ⟨b2, o2 + k * 4 + 3, none⟩) hb2, G2.out.2.2.2, ld])
                  have pa := cell_regrown ((HZ.out.cell (p := ⟨ma, ya + s, none⟩) ja).trans ka)
                  have pb := cell_regrown ((HZ.out.cell (p := ⟨mb, yb + s, none⟩) jb).trans kb)
                  have pd := cell_regrown ((HZ.out.cell (p := ⟨md, yd + s, none⟩) jd).trans kd)
                  have qa := cell_regrown ((HZ.out.cell (p := ⟨na, za + s, none⟩) va).trans sa)
                  have qb := cell_regrown ((HZ.out.cell (p := ⟨nb, zb + s, none⟩) vb).trans sb)
                  have qd := cell_regrown ((HZ.out.cell (p := ⟨nd, zd + s, none⟩) vd).trans sd)
                  have z0 : decide (m0 < a0) = false := decide_eq_false (by omega)
                  have z1 : decide (m1 < a1) = false := decide_eq_false (by omega)
                  have z3 : decide (m3 < a3) = false := decide_eq_false (by omega)
                  clear ia ja ka ib jb kb id jd kd la va sa lb vb sb ld vd sd n0 n1 n3
                  refine wp_region_quiet_below (by kernel_rfl) (by kernel_rfl) ?_
                  repeat (first | go_big_quiet_step (fail) | quiet_step (fail))
                  refine wpQuiet_nil ?_
                  intro wq hwq
                  have hbq : Below wr.heap.size wr wq := (by obtain ⟨q, rfl⟩ := hwq; exact below_regrown _ _ _)
                  clear hwq p0 p1 p3 q0 q1 q3 pa pb pd qa qb qd
                  go_wp2
                  go_roundw
                  case rel => exact ⟨s + 1, by omega, by go_num, HZ.out.trans (hbq.mono HZ.out.size)⟩
                  case measure => simp [intOf]; omega
                · obtain rfl : s = p.s.l.length := by omega
                  go_wp2
                  go_roundw
                  case rel => exact ⟨k + 1, by omega, by go_num, HZ.out⟩
                  case measure => simp [intOf]; omega
            · obtain rfl : k = y := by omega
              go_wp2_with (go_at_call 19; refine (awake_any _).mono ?_; rintro e w9 ⟨rfl, hb9⟩)
              go_ret
              have hx := B3.out.trans (hb.out.mono B3.out.size)
              exact ⟨rfl, hx.trans (hb9.mono hx.size)⟩
theorem StockMore_walk (p : PlM) (ws xs : Sv Nat) (w : World) (hp : p.Lay w w.heap.size) (hm : (∀ x, x ∈ ws.l → x < 65536) ∧ ws.l.length ≤ 9223372036854775807) (hA : Sl w w.heap.size 1 encW ws.A ws.l) (hm2 : (∀ x, x ∈ xs.l → x < 65536) ∧ xs.l.length ≤ 9223372036854775807) (hB : Sl w w.heap.size 1 encW xs.A xs.l) :
    Calls Try.prog 11 #[.agg p.cells.toArray, .slice ws.A ws.l.length ws.c, .slice xs.A xs.l.length xs.c] w fun e w' => e = .returned (.bool true) ∧ Below w.heap.size w w' := by
  cases hr : readyB p with
  | false => exact More_no p ws xs w hp hr
  | true => exact More_yes p ws xs w hp hr hA hm hB hm2
end Go.Proofs.Ytopiidfhjfbmfaa
