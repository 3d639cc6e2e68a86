/- The texts RV RW RY, joined. -/
import Derived.Test.YtopiidfhjfbmfaaGJ
/- Each number of a truth lies in its bounds; the ends are reached in the truths that the document names. -/
namespace Go.Proofs.Ytopiidfhjfbmfaa
open Go.RowKit Go.Lib

/-- The parts of a truth at the ends. -/
theorem ends_parts {p : PlM} (hv : p.Valid) (Y : Nat) (hg : Bool) (year : Int) : (endsD p.d Y hg year).s = p.d.s.map (endF hg) ∧
    ∀ j, j < Y → (endsD p.d Y hg year).g.getD j [] = growF p.d (endF hg) ∧ (endsD p.d Y hg year).l.getD j 0 = endF (hg != decide ((j : Int) < year)) (p.d.lo, p.d.hi) := by
  refine ⟨?_, fun j hjY => ⟨?_, ?_⟩⟩
  · show (List.range p.d.s.length).map (fun s => endF hg (p.d.s.getD s (0, 0))) = _
    have h := congrArg (List.map (endF hg)) (range_getD p.d.s (0, 0))
    rw [List.map_map] at h
    exact h
  · have hgl : p.d.g.length = p.d.s.length := by show (p.g.l.map (·.l)).length = p.s.l.length; rw [List.length_map]; exact hv.g
    have hrow : ∀ x, x ∈ p.d.g → x.length = p.d.s.length := fun x hx => by
      obtain ⟨z, hz, rfl⟩ := List.mem_map.1 (show x ∈ p.g.l.map (·.l) from hx)
      exact hv.gl z hz
    show ((List.range Y).map fun y => (List.range p.d.s.length).map fun s => (List.range p.d.s.length).map fun k => endF hg ((p.d.g.getD s []).getD k (0, 0))).getD j [] = growF p.d (endF hg)
    simp only [List.getD, List.getElem?_map, List.getElem?_range hjY, Option.map_some, Option.getD_some]
    unfold growF
    have h : (List.range p.d.s.length).map (fun i => p.d.g.getD i []) = p.d.g := by rw [← hgl]; exact range_getD _ _
    refine Eq.trans ?_ (congrArg (List.map fun x => x.map (endF hg)) h)
    rw [List.map_map]
    refine List.map_congr_left fun s hs => ?_
    have hsl : s < p.d.g.length := by rw [hgl]; exact List.mem_range.1 hs
    have hx := hrow (p.d.g.getD s []) (by simp only [List.getD, List.getElem?_eq_getElem hsl, Option.getD_some]; exact List.getElem_mem hsl)
    have h2 : (List.range p.d.s.length).map (fun i => (p.d.g.getD s []).getD i (0, 0)) = p.d.g.getD s [] := by rw [← hx]; exact range_getD _ _
    refine Eq.trans ?_ (congrArg (List.map (endF hg)) h2)
    rw [List.map_map]
    rfl
  · show ((List.range Y).map fun y : Nat => endF (hg != decide ((y : Int) < year)) (p.d.lo, p.d.hi)).getD j 0 = _
    simp [List.getD, hjY]
theorem lostAt_at {y : List Int} (h : y.length = 20) (loss : Int) {i : Nat} (hi : i < 5) :
    (lostAt y loss).getD i 0 = y.getD i 0 ∧ (lostAt y loss).getD (5 + i) 0 = y.getD (5 + i) 0 ∧ (lostAt y loss).getD (10 + i) 0 = lossAt y loss i ∧ (lostAt y loss).getD (15 + i) 0 = y.getD (15 + i) 0 := by
  have hX : (lossL y loss).length = 5 := upto5_length _ _
  have hx : (lossL y loss).getD i 0 = lossAt y loss i := by
    unfold lossL
    rw [upto5_getD _ _ _ hi, if_pos hi]
  have e : lostAt y loss = y.take 10 ++ lossL y loss ++ y.drop 15 := by unfold lostAt splice; rw [hX, List.append_assoc]
  have ht : (y.take 10).length = 10 := by rw [List.length_take]; omega
  rw [e]
  simp only [List.getD] at hx ⊢
  refine ⟨?_, ?_, ?_, ?_⟩
  · rw [List.append_assoc, List.getElem?_append_left (by omega), List.getElem?_take_of_lt (by omega)]
  · rw [List.append_assoc, List.getElem?_append_left (by omega), List.getElem?_take_of_lt (by omega)]
  · rw [List.append_assoc, List.getElem?_append_right (by omega), List.getElem?_append_left (by omega), ht, show 10 + i - 10 = i by omega, hx]
  · rw [List.getElem?_append_right (by rw [List.length_append]; omega), List.length_append, ht, hX, List.getElem?_drop, show 15 + (15 + i - (10 + 5)) = 15 + i by omega]
/-- What seasons come to, number by number. -/
theorem sea_at {d : PD} (hn : d.s.length ≤ 5) (fa fb fc fd : Int × Int → Int) (k : Nat) {i : Nat} (hi : i < d.s.length) :
    (seaD d fa fb fc fd k).getD i 0 = lifD d (growF d fb) (plD d (fun _ => growF d fb) (fun _ => fc (d.lo, d.hi)) (pad5 (d.s.map fa)) k) i ∧
    (seaD d fa fb fc fd k).getD (5 + i) 0 = solD d (growF d fb) (plD d (fun _ => growF d fb) (fun _ => fc (d.lo, d.hi)) (pad5 (d.s.map fa)) k) i ∧
    (seaD d fa fb fc fd k).getD (10 + i) 0 = losD d (growF d fb) (fd (d.lo, d.hi)) (plD d (fun _ => growF d fb) (fun _ => fc (d.lo, d.hi)) (pad5 (d.s.map fa)) k) i ∧
    (seaD d fa fb fc fd k).getD (15 + i) 0 = plaD d (growF d fb) (fc (d.lo, d.hi)) (plD d (fun _ => growF d fb) (fun _ => fc (d.lo, d.hi)) (pad5 (d.s.map fa)) k) i := by
  have h := lostAt_at (seaY_length d fa fb fc k) (fd (d.lo, d.hi)) (show i < 5 by omega)
  have hy := yearD_at d (growF d fb) (fc (d.lo, d.hi)) (plD d (fun _ => growF d fb) (fun _ => fc (d.lo, d.hi)) (pad5 (d.s.map fa)) k) hi hn
  have e : seaY d fa fb fc k = yearD d (growF d fb) (fc (d.lo, d.hi)) (plD d (fun _ => growF d fb) (fun _ => fc (d.lo, d.hi)) (pad5 (d.s.map fa)) k) := rfl
  unfold lossAt at h
  rw [e, hy.1, hy.2.1, hy.2.2.2] at h
  exact h
/-- A range of bounds. -/
theorem bnd_at (d : PD) (hn : d.s.length ≤ 5) (k : Nat) {i : Nat} (hi : i < d.s.length) :
    (bndD d k).1[i]? = some ((lowD d k).getD i 0, (highD d k).getD i 0) ∧ (bndD d k).2.1[i]? = some ((lowD d k).getD (5 + i) 0, (highD d k).getD (5 + i) 0) ∧
    (bndD d k).2.2.1[i]? = some ((lowD d k).getD (10 + i) 0, (highD d k).getD (10 + i) 0) ∧ (bndD d k).2.2.2[i]? = some ((lowD d k).getD (15 + i) 0, (highD d k).getD (15 + i) 0) := by
  have key : ∀ off, (rangesL (sub5 off (lowD d k)) (sub5 off (highD d k)) d.s.length)[i]? = some ((lowD d k).getD (off + i) 0, (highD d k).getD (off + i) 0) := fun off => by
    unfold rangesL
    rw [List.getElem?_map, List.getElem?_range hi, Option.map_some, sub5_getD (by omega), sub5_getD (by omega)]
  have k0 := key 0
  rw [Nat.zero_add] at k0
  exact ⟨k0, key 5, key 10, key 15⟩
theorem mul_mono {r r' l l' : Int} (h0 : 0 ≤ r) (h1 : r ≤ r') (h2 : 0 ≤ l) (h3 : l ≤ l') : r * l / 1000 ≤ r' * l' / 1000 := by
  have := Int.mul_le_mul h1 h3 h2 (by omega)
  omega
theorem rest_nonneg {d : PD} {gr : List (List Int)} {pl : List Int} (hp : ∀ i, i < d.s.length → 0 ≤ pl.getD i 0) (hg : ∀ i j, i < d.s.length → j < d.s.length → 0 ≤ (gr.getD i []).getD j 0) (he : ∀ i, i < d.s.length → 0 ≤ d.e.getD i 0 ∧ 0 ≤ d.k.getD i 0 ∧ 0 ≤ d.r.getD i 0) {i : Nat} (hi : i < d.s.length) :
    0 ≤ lifD d gr pl i - solD d gr pl i := by
  have hz : ∀ f : Nat, f ≤ d.s.length → 0 ≤ liftAt pl gr i f := by
    intro f
    induction f with
    | zero => intro _; simp [liftAt]
    | succ f ih =>
      intro hf
      have h2 := ih (by omega)
      have hm := Int.mul_nonneg (hp f (by omega)) (hg f i (by omega) hi)
      simp only [liftAt]
      omega
  have a0 := hz d.s.length (Nat.le_refl _)
  have hei := he i hi
  have e1 : lifD d gr pl i = liftAt pl gr i d.s.length := rfl
  unfold solD
  omega
/-- Four numbers of a year lie in four ranges. -/
def In4 (a b c e : Int) (ra rb rc re : Int × Int) : Prop := (ra.1 ≤ a ∧ a ≤ ra.2) ∧ (rb.1 ≤ b ∧ b ≤ rb.2) ∧ (rc.1 ≤ c ∧ c ≤ rc.2) ∧ (re.1 ≤ e ∧ e ≤ re.2)
/-- In each truth each number lies in its bounds. -/
theorem truth_in {p : PlM} {T : TD} (hv : p.Valid) {Y : Nat} (hY : p.years = (Y : Int)) (hf : fitD p.d T = true) {k i : Nat} (hk : k < Y) (hi : i < p.s.l.length) :
    ∃ (a b c e : Int) (ra rb rc re : Int × Int), ((toldL p.d.s.length (yrT p.d T k)).1[i]? = some a ∧ (toldL p.d.s.length (yrT p.d T k)).2.1[i]? = some b ∧ (toldL p.d.s.length (yrT p.d T k)).2.2.1[i]? = some c ∧ (toldL p.d.s.length (yrT p.d T k)).2.2.2[i]? = some e) ∧
      ((bndD p.d k).1[i]? = some ra ∧ (bndD p.d k).2.1[i]? = some rb ∧ (bndD p.d k).2.2.1[i]? = some rc ∧ (bndD p.d k).2.2.2[i]? = some re) ∧ In4 a b c e ra rb rc re := by
  have hn5 := hv.ok.n
  have hlo := hv.l
  have hfit := hf
  unfold fitD at hf
  simp only [Bool.and_eq_true, decide_eq_true_eq, List.all_eq_true] at hf
  obtain ⟨h0, ⟨h1, h2⟩, h3, h4⟩ := hf
  have hst := (pairedB_iff.1 h0)
  have hgl : T.g.length = Y := by have : p.d.years = p.years := rfl; omega
  have hll : T.l.length = Y := by have : p.d.years = p.years := rfl; omega
  have hS : ∀ i, i < p.s.l.length → ∃ r : Int × Int, 0 ≤ r.1 ∧ r.1 ≤ T.s.getD i 0 ∧ T.s.getD i 0 ≤ r.2 ∧ (p.d.s.map (·.1)).getD i 0 = r.1 ∧ (p.d.s.map (·.2)).getD i 0 = r.2 := fun i hi => by
    have hx : p.d.s[i]? = some p.s.l[i] := by show p.s.l[i]? = _; simp [hi]
    have hi2 : i < T.s.length := by rw [← hst.1]; exact hi
    have hy : T.s[i]? = some T.s[i] := by simp [hi2]
    have := inB_iff.1 (hst.2 i _ _ hx hy)
    have hr := hv.sb _ (List.getElem_mem hi)
    have e : T.s.getD i 0 = T.s[i] := by simp [List.getD, hy]
    rw [e]
    exact ⟨p.s.l[i], hr.1, this.1, this.2, by simp [List.getD, hx], by simp [List.getD, hx]⟩
  have hG : ∀ y, y < Y → ∀ i j, i < p.s.l.length → j < p.s.l.length → ∃ r : Int × Int, 0 ≤ r.1 ∧ r.1 ≤ ((T.g.getD y []).getD i []).getD j 0 ∧ ((T.g.getD y []).getD i []).getD j 0 ≤ r.2 ∧ ((growF p.d (·.1)).getD i []).getD j 0 = r.1 ∧ ((growF p.d (·.2)).getD i []).getD j 0 = r.2 := fun y hy i j hi hj => by
    have hyl : y < T.g.length := by omega
    have hp2 := pairedB_iff.1 (h2 T.g[y] (List.getElem_mem hyl))
    have hdg : p.d.g.length = p.s.l.length := by show (p.g.l.map (·.l)).length = _; rw [List.length_map]; exact hv.g
    have hgi : i < p.d.g.length := by omega
    have hti : i < T.g[y].length := by rw [← hp2.1]; omega
    have hp3 := pairedB_iff.1 (hp2.2 i p.d.g[i] T.g[y][i] (by simp [hgi]) (by simp [hti]))
    have hpi : i < p.g.l.length := by rw [hv.g]; exact hi
    have hdi : p.d.g[i] = p.g.l[i].l := by simp [PlM.d]
    have hrl : p.d.g[i].length = p.s.l.length := by rw [hdi]; exact hv.gl _ (List.getElem_mem hpi)
    have hj1 : j < p.d.g[i].length := by omega
    have hj2 : j < T.g[y][i].length := by rw [← hp3.1]; omega
    have hh := inB_iff.1 (hp3.2 j p.d.g[i][j] T.g[y][i][j] (by simp [hj1]) (by simp [hj2]))
    have hb := hv.gb _ (List.getElem_mem hpi) (p.d.g[i][j]) (by rw [← hdi]; exact List.getElem_mem hj1)
    have e : ((T.g.getD y []).getD i []).getD j 0 = T.g[y][i][j] := by simp [List.getD, hyl, hti, hj2]
    rw [e]
    exact ⟨p.d.g[i][j], hb.1, hh.1, hh.2, by simp [growF, List.getD, hgi, hj1], by simp [growF, List.getD, hgi, hj1]⟩
  have hL : ∀ y, y < Y → p.lo ≤ T.l.getD y 0 ∧ T.l.getD y 0 ≤ p.hi := fun y hy => inB_iff.1 (h4 _ (getD_mem (by omega)))
  have hln1 : (p.d.s.map (·.1)).length = p.s.l.length := by simp [PlM.d]
  have hln2 : (p.d.s.map (·.2)).length = p.s.l.length := by simp [PlM.d]
  have hlt : T.s.length = p.s.l.length := hst.1.symm
  have hst0 : ∀ i, i < p.s.l.length → 0 ≤ (pad5 (p.d.s.map (·.1))).getD i 0 ∧ (pad5 (p.d.s.map (·.1))).getD i 0 ≤ (pad5 T.s).getD i 0 := fun i hi => by
    obtain ⟨r, b0, b1, b2, e3, e4⟩ := hS i hi
    rw [pad5_getD (by omega) i (by omega), pad5_getD (by omega) i (by omega), e3]
    omega
  have hst1 : ∀ i, i < p.s.l.length → 0 ≤ (pad5 T.s).getD i 0 ∧ (pad5 T.s).getD i 0 ≤ (pad5 (p.d.s.map (·.2))).getD i 0 := fun i hi => by
    obtain ⟨r, b0, b1, b2, e3, e4⟩ := hS i hi
    rw [pad5_getD (by omega) i (by omega), pad5_getD (by omega) i (by omega), e4]
    omega
  have hgr0 : ∀ y, y < Y → ∀ i j, i < p.s.l.length → j < p.s.l.length → 0 ≤ ((growF p.d (·.1)).getD i []).getD j 0 ∧ ((growF p.d (·.1)).getD i []).getD j 0 ≤ ((T.g.getD y []).getD i []).getD j 0 := fun y hy i j hi hj => by
    obtain ⟨r, b0, b1, b2, e3, e4⟩ := hG y hy i j hi hj
    rw [e3]
    omega
  have hgr1 : ∀ y, y < Y → ∀ i j, i < p.s.l.length → j < p.s.l.length → 0 ≤ ((T.g.getD y []).getD i []).getD j 0 ∧ ((T.g.getD y []).getD i []).getD j 0 ≤ ((growF p.d (·.2)).getD i []).getD j 0 := fun y hy i j hi hj => by
    obtain ⟨r, b0, b1, b2, e3, e4⟩ := hG y hy i j hi hj
    rw [e4]
    omega
  have hls := hL k hk
  have hen := fun i hi => nums_bd hv (i := i) hi
  have m0 := plD_mono (d := p.d) (gr := fun _ => growF p.d (·.1)) (gr' := fun k => T.g.getD k []) (loss := fun _ => p.hi) (loss' := fun k => T.l.getD k 0) hn5 hst0 hen k (fun y hy => hgr0 y (by omega)) (fun y hy => by have := hL y (by omega); exact ⟨show 0 ≤ p.hi by omega, this.2, show p.hi ≤ 1000 by omega⟩)
  have m1 := plD_mono (d := p.d) (gr := fun k => T.g.getD k []) (gr' := fun _ => growF p.d (·.2)) (loss := fun k => T.l.getD k 0) (loss' := fun _ => p.lo) hn5 hst1 hen k (fun y hy => hgr1 y (by omega)) (fun y hy => by have := hL y (by omega); exact ⟨show 0 ≤ T.l.getD y 0 by omega, this.1, show T.l.getD y 0 ≤ 1000 by omega⟩)
  have y0 := year_mono (d := p.d) (loss := p.hi) (loss' := T.l.getD k 0) m0 (hgr0 k hk) hls.2 (by omega) (fun i hi => ⟨(hen i hi).1, (hen i hi).2.1⟩) hi
  have y1 := year_mono (d := p.d) (loss := T.l.getD k 0) (loss' := p.lo) m1 (hgr1 k hk) hls.1 (by omega) (fun i hi => ⟨(hen i hi).1, (hen i hi).2.1⟩) hi
  have sl := sea_at (d := p.d) hn5 (·.1) (·.1) (·.2) (·.1) k hi
  have sh := sea_at (d := p.d) hn5 (·.2) (·.2) (·.1) (·.2) k hi
  have tt := told_at (d := p.d) (t := T) (k := k) (i := i) hi hn5
  have bb := bnd_at p.d hn5 k hi
  refine ⟨_, _, _, _, _, _, _, _, tt, bb, ⟨?_, ?_⟩, ⟨?_, ?_⟩, ⟨?_, ?_⟩, ⟨?_, ?_⟩⟩
  · show (lowD p.d k).getD i 0 ≤ _; unfold lowD; rw [sl.1]; exact y0.1
  · show _ ≤ (highD p.d k).getD i 0; unfold highD; rw [sh.1]; exact y1.1
  · show (lowD p.d k).getD (5 + i) 0 ≤ _; unfold lowD; rw [sl.2.1]; exact y0.2.1
  · show _ ≤ (highD p.d k).getD (5 + i) 0; unfold highD; rw [sh.2.1]; exact y1.2.1
  · show (lowD p.d k).getD (10 + i) 0 ≤ _
    unfold lowD
    rw [sl.2.2.1]
    exact mul_mono (rest_nonneg (fun i hi => (m0 i hi).1) (fun i j hi hj => (hgr0 k hk i j hi hj).1) hen hi) y0.2.2.2 hlo.1 hls.1
  · show _ ≤ (highD p.d k).getD (10 + i) 0
    unfold highD
    rw [sh.2.2.1]
    exact mul_mono (rest_nonneg (fun i hi => (m1 i hi).1) (fun i j hi hj => (hgr1 k hk i j hi hj).1) hen hi) y1.2.2.2 (by omega) hls.2
  · show (lowD p.d k).getD (15 + i) 0 ≤ _; unfold lowD; rw [sl.2.2.2]; exact y0.2.2.1
  · show _ ≤ (highD p.d k).getD (15 + i) 0; unfold highD; rw [sh.2.2.2]; exact y1.2.2.1
/-- The numbers of the truth at the ends. -/
theorem told_ends {p : PlM} (hv : p.Valid) {Y : Nat} (hg : Bool) (year : Int) {k i : Nat} (hk : k < Y) (hi : i < p.s.l.length) (hb : ∀ j : Nat, j < k → (j : Int) < year) :
    ∃ pl : List Int, pl = plD p.d (fun _ => growF p.d (endF hg)) (fun _ => endF (!hg) (p.d.lo, p.d.hi)) (pad5 (p.d.s.map (endF hg))) k ∧
    (toldL p.d.s.length (yrT p.d (endsD p.d Y hg year) k)).1[i]? = some (lifD p.d (growF p.d (endF hg)) pl i) ∧
    (toldL p.d.s.length (yrT p.d (endsD p.d Y hg year) k)).2.1[i]? = some (solD p.d (growF p.d (endF hg)) pl i) ∧
    (toldL p.d.s.length (yrT p.d (endsD p.d Y hg year) k)).2.2.1[i]? = some (losD p.d (growF p.d (endF hg)) (endF (hg != decide ((k : Int) < year)) (p.d.lo, p.d.hi)) pl i) ∧
    (toldL p.d.s.length (yrT p.d (endsD p.d Y hg year) k)).2.2.2[i]? = some (plaD p.d (growF p.d (endF hg)) (endF (hg != decide ((k : Int) < year)) (p.d.lo, p.d.hi)) pl i) := by
  have hp := ends_parts hv Y hg year
  have tt := told_at (d := p.d) (t := endsD p.d Y hg year) (k := k) (i := i) hi hv.ok.n
  have e : plD p.d (fun k => (endsD p.d Y hg year).g.getD k []) (fun k => (endsD p.d Y hg year).l.getD k 0) (pad5 (endsD p.d Y hg year).s) k = plD p.d (fun _ => growF p.d (endF hg)) (fun _ => endF (!hg) (p.d.lo, p.d.hi)) (pad5 (p.d.s.map (endF hg))) k := by
    rw [hp.1]
    refine plD_congr rfl rfl rfl rfl k fun j hj => ⟨(hp.2 j (by omega)).1, ?_⟩
    rw [(hp.2 j (by omega)).2, decide_eq_true (hb j hj)]
    cases hg <;> rfl
  rw [e, (hp.2 k hk).1, (hp.2 k hk).2] at tt
  exact ⟨_, rfl, tt⟩
/-- The ends are reached. -/
theorem truth_ends {p : PlM} (hv : p.Valid) {Y : Nat} {k i : Nat} (hk : k < Y) (hi : i < p.s.l.length) :
    ∃ ra rb rc re : Int × Int, ((bndD p.d k).1[i]? = some ra ∧ (bndD p.d k).2.1[i]? = some rb ∧ (bndD p.d k).2.2.1[i]? = some rc ∧ (bndD p.d k).2.2.2[i]? = some re) ∧
      ((toldL p.d.s.length (yrT p.d (endsD p.d Y false (Y : Int)) k)).1[i]? = some ra.1 ∧ (toldL p.d.s.length (yrT p.d (endsD p.d Y false (Y : Int)) k)).2.1[i]? = some rb.1 ∧ (toldL p.d.s.length (yrT p.d (endsD p.d Y false (Y : Int)) k)).2.2.2[i]? = some re.1) ∧
      ((toldL p.d.s.length (yrT p.d (endsD p.d Y true (Y : Int)) k)).1[i]? = some ra.2 ∧ (toldL p.d.s.length (yrT p.d (endsD p.d Y true (Y : Int)) k)).2.1[i]? = some rb.2 ∧ (toldL p.d.s.length (yrT p.d (endsD p.d Y true (Y : Int)) k)).2.2.2[i]? = some re.2) ∧
      (toldL p.d.s.length (yrT p.d (endsD p.d Y false (k : Int)) k)).2.2.1[i]? = some rc.1 ∧ (toldL p.d.s.length (yrT p.d (endsD p.d Y true (k : Int)) k)).2.2.1[i]? = some rc.2 := by
  have hn5 := hv.ok.n
  have bb := bnd_at p.d hn5 k hi
  have sl := sea_at (d := p.d) hn5 (·.1) (·.1) (·.2) (·.1) k hi
  have sh := sea_at (d := p.d) hn5 (·.2) (·.2) (·.1) (·.2) k hi
  have hkY : decide ((k : Int) < (Y : Int)) = true := decide_eq_true (by omega)
  have hkk : decide ((k : Int) < (k : Int)) = false := decide_eq_false (by omega)
  obtain ⟨_, rfl, a1, a2, _, a4⟩ := told_ends hv (Y := Y) false (Y : Int) hk hi (fun j hj => by omega)
  obtain ⟨_, rfl, b1, b2, _, b4⟩ := told_ends hv (Y := Y) true (Y : Int) hk hi (fun j hj => by omega)
  obtain ⟨_, rfl, _, _, c3, _⟩ := told_ends hv (Y := Y) false (k : Int) hk hi (fun j hj => by omega)
  obtain ⟨_, rfl, _, _, d3, _⟩ := told_ends hv (Y := Y) true (k : Int) hk hi (fun j hj => by omega)
  rw [hkY] at a4 b4
  rw [hkk] at c3 d3
  refine ⟨_, _, _, _, bb, ⟨?_, ?_, ?_⟩, ⟨?_, ?_, ?_⟩, ?_, ?_⟩
  · rw [a1]; exact congrArg some (show _ = (lowD p.d k).getD i 0 from sl.1.symm)
  · rw [a2]; exact congrArg some (show _ = (lowD p.d k).getD (5 + i) 0 from sl.2.1.symm)
  · rw [a4]; exact congrArg some (show _ = (lowD p.d k).getD (15 + i) 0 from sl.2.2.2.symm)
  · rw [b1]; exact congrArg some (show _ = (highD p.d k).getD i 0 from sh.1.symm)
  · rw [b2]; exact congrArg some (show _ = (highD p.d k).getD (5 + i) 0 from sh.2.1.symm)
  · rw [b4]; exact congrArg some (show _ = (highD p.d k).getD (15 + i) 0 from sh.2.2.2.symm)
  · rw [c3]; exact congrArg some (show _ = (lowD p.d k).getD (10 + i) 0 from sl.2.2.1.symm)
  · rw [d3]; exact congrArg some (show _ = (highD p.d k).getD (10 + i) 0 from sh.2.2.1.symm)
end Go.Proofs.Ytopiidfhjfbmfaa

/- in; Count for the law. -/
namespace Go.Proofs.Ytopiidfhjfbmfaa
open Go.RowKit Go.Lib

theorem in_any (lo hi x : Int) (h1 : lo ≤ x) (h2 : x ≤ hi) (w : World) : Calls Try.prog 55 #[.agg #[.int .i64 lo, .int .i64 hi], .int .i64 x] w fun e w' => e = .returned (.bool true) ∧ Below w.heap.size w w' := by
  go_enter Try.func55, Try.ntmps55
  go_wp2
  go_ret
  exact ⟨rfl, (by repeat (first | (with_reducible assumption) | (with_reducible exact Below.refl _ _) | (with_reducible refine Below.drew ?_) | (with_reducible refine below_drewN ?_ _) | ((with_reducible refine Below.setCell ?_ ?_ _); rotate_left; focus (first | (simp; done) | (simp; omega) | omega)) | ((with_reducible refine Below.alloc ?_ ?_ _); rotate_left; focus (first | (simp; done) | (simp; omega) | omega))))⟩
theorem Count_law (q : PlM) (d : PD) (Y : Nat) (W : World) (hd : q.d = d) (hq : q.At W W.heap.size) (hf : q.fault = 0) (hY : q.years = (Y : Int)) : Calls Try.prog 28 #[.agg q.cells.toArray] W (RetC d Y W) := by
  subst hd
  exact Count_ok q Y W hq hf hY
/-- The slices of the k-th year of what Run tells. -/
theorem year_cells {A : Option Addr} {ys : List Y4} {Y n k : Nat} {f : Nat → List Int × List Int × List Int × List Int} {W0 W : World} (hs : Sl W0 W0.heap.size 4 encY4 A ys) (hm : ys.map Y4.lists = (List.range Y).map f)
    (hl : (f k).1.length = n ∧ (f k).2.1.length = n ∧ (f k).2.2.1.length = n ∧ (f k).2.2.2.length = n) (hk : k < Y) (hb : Below W0.heap.size W0 W) :
    ∃ (b o : Nat) (y : Y4), A = some ⟨b, o, none⟩ ∧ y ∈ ys ∧ y.lists = f k ∧ W.cell? ⟨b, o + k * 4, none⟩ = some (.slice y.a.A n y.a.c) ∧ W.cell? ⟨b, o + k * 4 + 1, none⟩ = some (.slice y.b.A n y.b.c) ∧
      W.cell? ⟨b, o + k * 4 + 2, none⟩ = some (.slice y.c.A n y.c.c) ∧ W.cell? ⟨b, o + k * 4 + 3, none⟩ = some (.slice y.d.A n y.d.c) := by
  obtain ⟨y, hy⟩ : ∃ y, ys[k]? = some y := ⟨ys[k]'(by have := congrArg List.length hm; simp at this; omega), by simp⟩
  have ey : y.lists = f k := by
    have h := congrArg (·[k]?) hm
    simp only [List.getElem?_map, hy, Option.map_some, List.getElem?_range hk] at h
    exact Option.some.inj h
  rw [← ey] at hl
  obtain ⟨la, lb, lc, ld⟩ : y.a.l.length = n ∧ y.b.l.length = n ∧ y.c.l.length = n ∧ y.d.l.length = n := hl
  obtain ⟨b, o, e, hbb, q⟩ := hs.at_ hy
  refine ⟨b, o, y, e, List.mem_of_getElem? hy, ey, ?_, ?_, ?_, ?_⟩
  · rw [hb.cell (p := ⟨b, o + k * 4, none⟩) hbb, ← la]; exact q 0 _ rfl
  · rw [hb.cell (p := ⟨b, o + k * 4 + 1, none⟩) hbb, ← lb]; exact q 1 _ rfl
  · rw [hb.cell (p := ⟨b, o + k * 4 + 2, none⟩) hbb, ← lc]; exact q 2 _ rfl
  · rw [hb.cell (p := ⟨b, o + k * 4 + 3, none⟩) hbb, ← ld]; exact q 3 _ rfl
/-- The slices of the k-th year of what Count tells. -/
theorem bnd_cells {A : Option Addr} {bs : List BdM} {Y n k : Nat} {f : Nat → List (Int × Int) × List (Int × Int) × List (Int × Int) × List (Int × Int)} {W0 W : World} (hs : Sl W0 W0.heap.size 4 encB A bs) (hm : bs.map BdM.lists = (List.range Y).map f)
    (hl : (f k).1.length = n ∧ (f k).2.1.length = n ∧ (f k).2.2.1.length = n ∧ (f k).2.2.2.length = n) (hk : k < Y) (hb : Below W0.heap.size W0 W) :
    ∃ (b o : Nat) (y : BdM), A = some ⟨b, o, none⟩ ∧ y ∈ bs ∧ y.lists = f k ∧ W.cell? ⟨b, o + k * 4, none⟩ = some (.slice y.a.A n y.a.c) ∧ W.cell? ⟨b, o + k * 4 + 1, none⟩ = some (.slice y.b.A n y.b.c) ∧
      W.cell? ⟨b, o + k * 4 + 2, none⟩ = some (.slice y.c.A n y.c.c) ∧ W.cell? ⟨b, o + k * 4 + 3, none⟩ = some (.slice y.d.A n y.d.c) := by
  obtain ⟨y, hy⟩ : ∃ y, bs[k]? = some y := ⟨bs[k]'(by have := congrArg List.length hm; simp at this; omega), by simp⟩
  have ey : y.lists = f k := by
    have h := congrArg (·[k]?) hm
    simp only [List.getElem?_map, hy, Option.map_some, List.getElem?_range hk] at h
    exact Option.some.inj h
  rw [← ey] at hl
  obtain ⟨la, lb, lc, ld⟩ : y.a.l.length = n ∧ y.b.l.length = n ∧ y.c.l.length = n ∧ y.d.l.length = n := hl
  obtain ⟨b, o, e, hbb, q⟩ := hs.at_ hy
  refine ⟨b, o, y, e, List.mem_of_getElem? hy, ey, ?_, ?_, ?_, ?_⟩
  · rw [hb.cell (p := ⟨b, o + k * 4, none⟩) hbb, ← la]; exact q 0 _ rfl
  · rw [hb.cell (p := ⟨b, o + k * 4 + 1, none⟩) hbb, ← lb]; exact q 1 _ rfl
  · rw [hb.cell (p := ⟨b, o + k * 4 + 2, none⟩) hbb, ← lc]; exact q 2 _ rfl
  · rw [hb.cell (p := ⟨b, o + k * 4 + 3, none⟩) hbb, ← ld]; exact q 3 _ rfl
theorem bnd_lens2 (d : PD) (k : Nat) : (bndD d k).1.length = d.s.length ∧ (bndD d k).2.1.length = d.s.length ∧ (bndD d k).2.2.1.length = d.s.length ∧ (bndD d k).2.2.2.length = d.s.length := by
  unfold bndD bndL rangesL
  simp
end Go.Proofs.Ytopiidfhjfbmfaa

/- Years and bounds, cell by cell, in all later worlds. -/
namespace Go.Proofs.Ytopiidfhjfbmfaa
open Go.RowKit Go.Lib

/-- A year of what Run tells, as it lies from W0 on: four slices of n numbers, and their numbers. -/
structure YearAt (g : List Int × List Int × List Int × List Int) (W0 : World) (n b o : Nat) (y : Y4) : Prop where
  h : ∀ W, Below W0.heap.size W0 W → W.cell? ⟨b, o, none⟩ = some (.slice y.a.A n y.a.c) ∧ W.cell? ⟨b, o + 1, none⟩ = some (.slice y.b.A n y.b.c) ∧ W.cell? ⟨b, o + 2, none⟩ = some (.slice y.c.A n y.c.c) ∧ W.cell? ⟨b, o + 3, none⟩ = some (.slice y.d.A n y.d.c)
  r1 : ∀ (t : Nat) (v : Int), g.1[t]? = some v → ∃ m z, y.a.A = some ⟨m, z, none⟩ ∧ ∀ W, Below W0.heap.size W0 W → W.cell? ⟨m, z + t, none⟩ = some (.int .i64 v)
  r2 : ∀ (t : Nat) (v : Int), g.2.1[t]? = some v → ∃ m z, y.b.A = some ⟨m, z, none⟩ ∧ ∀ W, Below W0.heap.size W0 W → W.cell? ⟨m, z + t, none⟩ = some (.int .i64 v)
  r3 : ∀ (t : Nat) (v : Int), g.2.2.1[t]? = some v → ∃ m z, y.c.A = some ⟨m, z, none⟩ ∧ ∀ W, Below W0.heap.size W0 W → W.cell? ⟨m, z + t, none⟩ = some (.int .i64 v)
  r4 : ∀ (t : Nat) (v : Int), g.2.2.2[t]? = some v → ∃ m z, y.d.A = some ⟨m, z, none⟩ ∧ ∀ W, Below W0.heap.size W0 W → W.cell? ⟨m, z + t, none⟩ = some (.int .i64 v)
theorem sl_cell1 {s : Sv Int} {W0 : World} (h : Sl W0 W0.heap.size 1 encI s.A s.l) {t : Nat} {v : Int} (hv : s.l[t]? = some v) : ∃ m z, s.A = some ⟨m, z, none⟩ ∧ ∀ W, Below W0.heap.size W0 W → W.cell? ⟨m, z + t, none⟩ = some (.int .i64 v) := by
  obtain ⟨m, z, e, hm, hc⟩ := h.cell1 hv
  exact ⟨m, z, e, fun W hb => (hb.cell (p := ⟨m, z + t, none⟩) hm).trans hc⟩
theorem YearAt.below {g : List Int × List Int × List Int × List Int} {W0 W1 : World} {n b o : Nat} {y : Y4} (h : YearAt g W0 n b o y) (hb : Below W0.heap.size W0 W1) : YearAt g W1 n b o y := by
  have key : ∀ W, Below W1.heap.size W1 W → Below W0.heap.size W0 W := fun W hw => hb.trans (hw.mono hb.size)
  exact ⟨fun W hw => h.h W (key W hw), fun t v hv => (h.r1 t v hv).imp fun m h => h.imp fun z h => ⟨h.1, fun W hw => h.2 W (key W hw)⟩, fun t v hv => (h.r2 t v hv).imp fun m h => h.imp fun z h => ⟨h.1, fun W hw => h.2 W (key W hw)⟩,
    fun t v hv => (h.r3 t v hv).imp fun m h => h.imp fun z h => ⟨h.1, fun W hw => h.2 W (key W hw)⟩, fun t v hv => (h.r4 t v hv).imp fun m h => h.imp fun z h => ⟨h.1, fun W hw => h.2 W (key W hw)⟩⟩
theorem year_all {A : Option Addr} {ys : List Y4} {Y n k : Nat} {f : Nat → List Int × List Int × List Int × List Int} {W0 : World} (hs : Sl W0 W0.heap.size 4 encY4 A ys) (hm : ys.map Y4.lists = (List.range Y).map f) (hi : ∀ y, y ∈ ys → y.In W0 W0.heap.size)
    (hl : (f k).1.length = n ∧ (f k).2.1.length = n ∧ (f k).2.2.1.length = n ∧ (f k).2.2.2.length = n) (hk : k < Y) :
    ∃ (b o : Nat) (y : Y4), A = some ⟨b, o, none⟩ ∧ YearAt (f k) W0 n b (o + k * 4) y := by
  obtain ⟨y, hy⟩ : ∃ y, ys[k]? = some y := ⟨ys[k]'(by have := congrArg List.length hm; simp at this; omega), by simp⟩
  have ey : y.lists = f k := by
    have h := congrArg (·[k]?) hm
    simp only [List.getElem?_map, hy, Option.map_some, List.getElem?_range hk] at h
    exact Option.some.inj h
  rw [← ey] at hl ⊢
  obtain ⟨la, lb, lc, ld⟩ : y.a.l.length = n ∧ y.b.l.length = n ∧ y.c.l.length = n ∧ y.d.l.length = n := hl
  obtain ⟨b, o, e, hbb, q⟩ := hs.at_ hy
  have hin := hi y (List.mem_of_getElem? hy)
  refine ⟨b, o, y, e, fun W hb => ⟨?_, ?_, ?_, ?_⟩, fun t v hv => sl_cell1 hin.a.sl hv, fun t v hv => sl_cell1 hin.b.sl hv, fun t v hv => sl_cell1 hin.c.sl hv, fun t v hv => sl_cell1 hin.d.sl hv⟩
  · rw [hb.cell (p := ⟨b, o + k * 4, none⟩) hbb, ← la]; exact q 0 _ rfl
  · rw [hb.cell (p := ⟨b, o + k * 4 + 1, none⟩) hbb, ← lb]; exact q 1 _ rfl
  · rw [hb.cell (p := ⟨b, o + k * 4 + 2, none⟩) hbb, ← lc]; exact q 2 _ rfl
  · rw [hb.cell (p := ⟨b, o + k * 4 + 3, none⟩) hbb, ← ld]; exact q 3 _ rfl
/-- A year of what Count tells, as it lies from W0 on. -/
structure BndAt (g : List (Int × Int) × List (Int × Int) × List (Int × Int) × List (Int × Int)) (W0 : World) (n b o : Nat) (y : BdM) : Prop where
  h : ∀ W, Below W0.heap.size W0 W → W.cell? ⟨b, o, none⟩ = some (.slice y.a.A n y.a.c) ∧ W.cell? ⟨b, o + 1, none⟩ = some (.slice y.b.A n y.b.c) ∧ W.cell? ⟨b, o + 2, none⟩ = some (.slice y.c.A n y.c.c) ∧ W.cell? ⟨b, o + 3, none⟩ = some (.slice y.d.A n y.d.c)
  r1 : ∀ (t : Nat) (v : Int × Int), g.1[t]? = some v → ∃ m z, y.a.A = some ⟨m, z, none⟩ ∧ ∀ W, Below W0.heap.size W0 W → W.cell? ⟨m, z + t * 2, none⟩ = some (.int .i64 v.1) ∧ W.cell? ⟨m, z + t * 2 + 1, none⟩ = some (.int .i64 v.2)
  r2 : ∀ (t : Nat) (v : Int × Int), g.2.1[t]? = some v → ∃ m z, y.b.A = some ⟨m, z, none⟩ ∧ ∀ W, Below W0.heap.size W0 W → W.cell? ⟨m, z + t * 2, none⟩ = some (.int .i64 v.1) ∧ W.cell? ⟨m, z + t * 2 + 1, none⟩ = some (.int .i64 v.2)
  r3 : ∀ (t : Nat) (v : Int × Int), g.2.2.1[t]? = some v → ∃ m z, y.c.A = some ⟨m, z, none⟩ ∧ ∀ W, Below W0.heap.size W0 W → W.cell? ⟨m, z + t * 2, none⟩ = some (.int .i64 v.1) ∧ W.cell? ⟨m, z + t * 2 + 1, none⟩ = some (.int .i64 v.2)
  r4 : ∀ (t : Nat) (v : Int × Int), g.2.2.2[t]? = some v → ∃ m z, y.d.A = some ⟨m, z, none⟩ ∧ ∀ W, Below W0.heap.size W0 W → W.cell? ⟨m, z + t * 2, none⟩ = some (.int .i64 v.1) ∧ W.cell? ⟨m, z + t * 2 + 1, none⟩ = some (.int .i64 v.2)
theorem sl_cellR {s : Sv (Int × Int)} {W0 : World} (h : Sl W0 W0.heap.size 2 encR s.A s.l) {t : Nat} {v : Int × Int} (hv : s.l[t]? = some v) : ∃ m z, s.A = some ⟨m, z, none⟩ ∧ ∀ W, Below W0.heap.size W0 W → W.cell? ⟨m, z + t * 2, none⟩ = some (.int .i64 v.1) ∧ W.cell? ⟨m, z + t * 2 + 1, none⟩ = some (.int .i64 v.2) := by
  obtain ⟨m, z, e, hm, hc, hd⟩ := h.cellR hv
  exact ⟨m, z, e, fun W hb => ⟨(hb.cell (p := ⟨m, z + t * 2, none⟩) hm).trans hc, (hb.cell (p := ⟨m, z + t * 2 + 1, none⟩) hm).trans hd⟩⟩
theorem BndAt.below {g : List (Int × Int) × List (Int × Int) × List (Int × Int) × List (Int × Int)} {W0 W1 : World} {n b o : Nat} {y : BdM} (h : BndAt g W0 n b o y) (hb : Below W0.heap.size W0 W1) : BndAt g W1 n b o y := by
  have key : ∀ W, Below W1.heap.size W1 W → Below W0.heap.size W0 W := fun W hw => hb.trans (hw.mono hb.size)
  exact ⟨fun W hw => h.h W (key W hw), fun t v hv => (h.r1 t v hv).imp fun m h => h.imp fun z h => ⟨h.1, fun W hw => h.2 W (key W hw)⟩, fun t v hv => (h.r2 t v hv).imp fun m h => h.imp fun z h => ⟨h.1, fun W hw => h.2 W (key W hw)⟩,
    fun t v hv => (h.r3 t v hv).imp fun m h => h.imp fun z h => ⟨h.1, fun W hw => h.2 W (key W hw)⟩, fun t v hv => (h.r4 t v hv).imp fun m h => h.imp fun z h => ⟨h.1, fun W hw => h.2 W (key W hw)⟩⟩
theorem bnd_all {A : Option Addr} {bs : List BdM} {Y n k : Nat} {f : Nat → List (Int × Int) × List (Int × Int) × List (Int × Int) × List (Int × Int)} {W0 : World} (hs : Sl W0 W0.heap.size 4 encB A bs) (hm : bs.map BdM.lists = (List.range Y).map f) (hi : ∀ y, y ∈ bs → y.At W0 W0.heap.size)
    (hl : (f k).1.length = n ∧ (f k).2.1.length = n ∧ (f k).2.2.1.length = n ∧ (f k).2.2.2.length = n) (hk : k < Y) :
    ∃ (b o : Nat) (y : BdM), A = some ⟨b, o, none⟩ ∧ BndAt (f k) W0 n b (o + k * 4) y := by
  obtain ⟨y, hy⟩ : ∃ y, bs[k]? = some y := ⟨bs[k]'(by have := congrArg List.length hm; simp at this; omega), by simp⟩
  have ey : y.lists = f k := by
    have h := congrArg (·[k]?) hm
    simp only [List.getElem?_map, hy, Option.map_some, List.getElem?_range hk] at h
    exact Option.some.inj h
  rw [← ey] at hl ⊢
  obtain ⟨la, lb, lc, ld⟩ : y.a.l.length = n ∧ y.b.l.length = n ∧ y.c.l.length = n ∧ y.d.l.length = n := hl
  obtain ⟨b, o, e, hbb, q⟩ := hs.at_ hy
  have hin := hi y (List.mem_of_getElem? hy)
  refine ⟨b, o, y, e, fun W hb => ⟨?_, ?_, ?_, ?_⟩, fun t v hv => sl_cellR hin.a hv, fun t v hv => sl_cellR hin.b hv, fun t v hv => sl_cellR hin.c hv, fun t v hv => sl_cellR hin.d hv⟩
  · rw [hb.cell (p := ⟨b, o + k * 4, none⟩) hbb, ← la]; exact q 0 _ rfl
  · rw [hb.cell (p := ⟨b, o + k * 4 + 1, none⟩) hbb, ← lb]; exact q 1 _ rfl
  · rw [hb.cell (p := ⟨b, o + k * 4 + 2, none⟩) hbb, ← lc]; exact q 2 _ rfl
  · rw [hb.cell (p := ⟨b, o + k * 4 + 3, none⟩) hbb, ← ld]; exact q 3 _ rfl
end Go.Proofs.Ytopiidfhjfbmfaa
