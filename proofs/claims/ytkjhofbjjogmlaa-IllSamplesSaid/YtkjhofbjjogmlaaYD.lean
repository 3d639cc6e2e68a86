/- IllNotes: the walk. -/
import Derived.Test.YtkjhofbjjogmlaaYA
import Derived.Test.YtkjhofbjjogmlaaYC
import Derived.Test.YtkjhofbjjogmlaaYB
import Derived.StillTailTactics
namespace Go.Proofs.Ytkjhofbjjogmlaa
open Go.RowKit Go.Lib

theorem size_rnote : (Try.prog.info? 67).map (·.size) = some 4 := by kernel_rfl
theorem Count_of {r q : RwM} {w W : World} (hq : LawR r w q W) (hb : r.d.err = 0) : Calls Try.prog 28 #[.agg q.cells.toArray] W (YesC r.d W) := by
  have := Count_yes q W hq.at_ (by rw [hq.d]; exact hb)
  rwa [hq.d] at this
theorem Count_of_no {r q : RwM} {w W : World} (hq : LawR r w q W) (hb : r.d.err ≠ 0) : Calls Try.prog 28 #[.agg q.cells.toArray] W (NoC r.d.err W) := by
  have := Count_no q W hq.at_ (by rw [hq.d]; exact hb)
  rwa [hq.d] at this
/-- Behind the appends: the row x0, one note more than r. -/
structure NoteX (r x0 : RwM) (x : Nt) (w : World) (gx : Nat) (W : World) : Prop where
  o : Lies W gx 26 x0.cells.toArray
  a : x0.At W W.heap.size
  t : ThinM x0
  e : x0.d = r.d.more x
  r : Lies W w.heap.size 26 r.cells.toArray
  b : Below w.heap.size w W
end Go.Proofs.Ytkjhofbjjogmlaa

namespace Go.Proofs.Ytkjhofbjjogmlaa
open Go.RowKit Go.Lib

/-- What note number i says. -/
def RwD.noteYes (r : RwD) (t : List Int) (ws : List Nat) (i : Nat) (n : Nt) : Bool :=
  if n.k = 0 then decide (0 ≤ t.getD n.p.toNat 0) && decide (t.getD n.p.toNat 0 ≤ n.w - r.sh)
  else decide (0 ≤ t.getD n.p.toNat 0) && decide (t.getD n.p.toNat 0 ≤ n.w) && (decide (t.getD n.p.toNat 0 ≤ n.w - r.old) || decide (wordD ws (i + 5) % 2 = 0))
def RwD.ndTo (r : RwD) (t : List Int) (ws : List Nat) (k : Nat) : List Nt := r.ns.mapIdx fun i n => if i < k then { n with y := r.noteYes t ws i n } else n
theorem ndTo_length (r : RwD) (t : List Int) (ws : List Nat) (k : Nat) : (r.ndTo t ws k).length = r.ns.length := by unfold RwD.ndTo; simp
theorem ndTo_mem {r : RwD} {t : List Int} {ws : List Nat} {k : Nat} {y : Nt} (h : y ∈ r.ndTo t ws k) : ∃ n, n ∈ r.ns ∧ y.p = n.p ∧ y.w = n.w ∧ y.k = n.k ∧ ∃ i, y = n ∨ y = { n with y := r.noteYes t ws i n } := by
  obtain ⟨i, hi⟩ := List.getElem?_of_mem h
  unfold RwD.ndTo at hi
  rw [List.getElem?_mapIdx] at hi
  cases e : r.ns[i]? with
  | none => rw [e] at hi; cases hi
  | some n =>
    rw [e] at hi
    simp only [Option.map_some, Option.some.injEq] at hi
    refine ⟨n, List.mem_of_getElem? e, ?_⟩
    split at hi <;> (subst hi; exact ⟨rfl, rfl, rfl, i, by simp⟩)
def RwD.notedBy (r : RwD) (t : List Int) (ws : List Nat) : RwD := { r with ns := r.ndTo t ws r.ns.length }
def RwM.nsAs (r : RwM) (A : Option Addr) (l : List Nt) (c : Nat) : RwM := { r with ns := ⟨A, l, c⟩ }
theorem cells_nsAs (r : RwM) (A : Option Addr) (l l' : List Nt) (c : Nat) (h : l.length = l'.length) : (r.nsAs A l c).cells = (r.nsAs A l' c).cells := by unfold RwM.nsAs RwM.cells; simp [h]
/-- The memory of noted. -/
structure NdM (r : RwM) (w : World) (gx BB M : Nat) (A : Option Addr) (c : Nat) (l : List Nt) (W : World) : Prop where
  o : Lies W gx 26 (r.nsAs A l c).cells.toArray
  z : Lies W (w.heap.size + 1) 26 zrow.toArray
  r : Lies W w.heap.size 26 r.cells.toArray
  b : Below w.heap.size w W
  n : W.ownsRow BB 67 4 (.slice A M c) M (l.flatMap encN)
  hl : l.length = M
  g1 : w.heap.size + 1 < gx
  g2 : gx < BB
theorem NdM.call {r : RwM} {w W W' : World} {gx BB M c : Nat} {A : Option Addr} {l : List Nt} (h : NdM r w gx BB M A c l W) (hb : Below W.heap.size W W') : NdM r w gx BB M A c l W' :=
  ⟨h.o.call hb, h.z.call hb, h.r.call hb, h.b.trans (hb.mono h.b.size), ownsRow_call h.n hb, h.hl, h.g1, h.g2⟩
theorem NdM.at_ {r : RwM} {w W : World} {gx BB M c k : Nat} {A : Option Addr} {l : List Nt} {z : Nt} (h : NdM r w gx BB M A c l W) (hz : l[k]? = some z) :
    ∃ g, A = some ⟨g, 0, none⟩ ∧ BB ≤ g ∧ g < W.heap.size ∧ W.cell? ⟨g, k * 4, none⟩ = some (.int .i64 z.p) ∧ W.cell? ⟨g, k * 4 + 1, none⟩ = some (.int .i64 z.w) ∧ W.cell? ⟨g, k * 4 + 2, none⟩ = some (.int .u8 z.k) ∧ W.cell? ⟨g, k * 4 + 3, none⟩ = some (.bool z.y) ∧ W.frozen? ⟨g, k * 4 + 3, none⟩ = false ∧
      ∀ v, NdM r w gx BB M A c (l.set k { z with y := v }) (W.setCell ⟨g, k * 4 + 3, none⟩ (.bool v)) := by
  obtain ⟨ho, hzr, hr, hb, hn, hl, g1, g2⟩ := h
  subst hl
  have hk := (List.getElem?_eq_some_iff.1 hz).1
  obtain ⟨g7, cur, hA, hb7, hl7⟩ := own_addr hn (by omega)
  obtain ⟨A', c', e1, -, hS⟩ := Sl.of_own (enc := encN) (fun _ => rfl) hn rfl
  cases e1
  obtain ⟨b, off, e2, hbl, c0, c1, c2, c3⟩ := hS.cellN hz
  rw [hA] at e2
  cases e2
  refine ⟨g7, hA, hb7, hbl, by simpa using c0, by simpa using c1, by simpa using c2, by simpa using c3, hl7.free _, fun v => ?_⟩
  have hO := Only.set g7 (k * 4 + 3) W (.bool v)
  have hln : (l.set k { z with y := v }).length = l.length := List.length_set
  refine ⟨by rw [cells_nsAs r A _ l c hln]; exact hO.lies ho (by omega), hO.lies hzr (by omega), hO.lies hr (by omega), hO.below hb (by omega), ?_, hln, g1, g2⟩
  have h1 := own_set_cell (u := .bool v) hn hA (i := k * 4 + 3) (by rw [flat_len (enc := encN) (k := 4) (fun _ => rfl)]; omega)
  have h2 := flat_set (enc := encN) (k := 4) (fun _ => rfl) (q := 3) (u := .bool v) (y := { z with y := v }) (z := z) (by omega) rfl l k hz
  rw [h2] at h1
  exact h1
/-- What noted hands back. -/
structure NotedR (r : RwM) (t : List Int) (ws : List Nat) (w : World) (x : RwM) (W : World) : Prop where
  d : x.d = r.d.notedBy t ws
  at_ : x.At W W.heap.size
  b : Below w.heap.size w W
  t : ThinM r → ThinM x
  nn : x.ns.A = none → x.ns.l.length = 0 ∧ x.ns.c = 0
  ew : x.ws = r.ws
  ed : x.dug = r.dug
  own : W.ownsRow w.heap.size 67 4 (.slice x.ns.A x.ns.l.length x.ns.c) x.ns.l.length (x.ns.l.flatMap encN)
theorem NdM.done {r : RwM} {t : List Int} {ws : List Nat} {w W W' : World} {gx BB c : Nat} {A : Option Addr} (h : NdM r w gx BB r.ns.l.length A c (r.d.ndTo t ws r.ns.l.length) W) (hr : r.At w w.heap.size) (hb : Below W.heap.size W W' ∨ (∃ g, Only g W W' ∧ w.heap.size ≤ g ∧ g < BB)) : NotedR r t ws w (r.nsAs A (r.d.ndTo t ws r.ns.l.length) c) W' := by
  have hl := ndTo_length r.d t ws r.ns.l.length
  have hB : Below w.heap.size w W' := by
    rcases hb with hb | ⟨g, ho, hg, _⟩
    · exact h.b.trans (hb.mono h.b.size)
    · exact ho.below h.b hg
  have hN : W'.ownsRow BB 67 4 (.slice A r.ns.l.length c) r.ns.l.length ((r.d.ndTo t ws r.ns.l.length).flatMap encN) := by
    rcases hb with hb | ⟨g, ho, hg, hg2⟩
    · exact ownsRow_call h.n hb
    · exact own_keep h.n fun j hj => ho.block j (by have := (own_at h.n hj).1; omega)
  obtain ⟨_, _, e1, hn0, s1⟩ := Sl.of_own (enc := encN) (k := 4) (l := r.d.ndTo t ws r.ns.l.length) (fun _ => rfl) (by rw [show (r.d.ndTo t ws r.ns.l.length).length = r.ns.l.length from hl]; exact hN) rfl
  rw [show (r.d.ndTo t ws r.ns.l.length).length = r.ns.l.length from hl] at e1
  cases e1
  have hN2 : W'.ownsRow BB 67 4 (.slice A (r.d.ndTo t ws r.ns.l.length).length c) (r.d.ndTo t ws r.ns.l.length).length ((r.d.ndTo t ws r.ns.l.length).flatMap encN) := by rw [show (r.d.ndTo t ws r.ns.l.length).length = r.ns.l.length from hl]; exact hN
  have ha := hr.below hB hB.size
  refine ⟨rfl, ⟨ha.ws, ha.dug, s1, ha.lw, ha.ld, by show (r.d.ndTo t ws r.ns.l.length).length ≤ _; rw [show (r.d.ndTo t ws r.ns.l.length).length = r.ns.l.length from hl]; exact ha.ln, fun y hy => ?_⟩, hB, fun ht => ⟨ht.w, by show (r.d.ndTo t ws r.ns.l.length).length ≤ _; rw [show (r.d.ndTo t ws r.ns.l.length).length = r.ns.l.length from hl]; exact ht.n, ht.d, ht.nn⟩, hn0, rfl, rfl, own_lower hN2 (by have := h.g1; have := h.g2; omega)⟩
  obtain ⟨n, hn, -, -, e, -⟩ := ndTo_mem hy
  rw [e]
  exact hr.kn n hn
end Go.Proofs.Ytkjhofbjjogmlaa

namespace Go.Proofs.Ytkjhofbjjogmlaa
open Go.RowKit Go.Lib

end Go.Proofs.Ytkjhofbjjogmlaa

namespace Go.Proofs.Ytkjhofbjjogmlaa
open Go.RowKit Go.Lib

theorem winD_all (sh old : Int) (p : Nat) (t : Int) : ∀ (ns : List Nt) (ws : List (Int × Int)), (∀ n, n ∈ ns → n.p.toNat < ws.length) → winD ws p t = true →
    (∀ n, n ∈ ns → p = n.p.toNat → inB t (alwD sh old n).1 (alwD sh old n).2 = true) → winD (notedD sh old ws ns) p t = true
  | [], _, _, h, _ => h
  | n :: ns, ws, hl, h, hn => by
    unfold notedD
    rw [List.foldl_cons]
    refine winD_all sh old p t ns _ (fun m hm => by rw [noteD_length]; exact hl m (by simp [hm])) ?_ (fun m hm e => hn m (by simp [hm]) e)
    rw [winD_note sh old ws n (hl n (by simp)), h, Bool.true_and, Bool.or_eq_true]
    by_cases e : p = n.p.toNat
    · exact .inr (hn n (by simp) e)
    · exact .inl (by simp [e])
theorem truthD_in {t : List Int} {p : Nat} (hp : p < t.length) : (truthD t).getD p 0 = in31 (t.getD p 0) := by
  rw [truthD_at, dif_pos hp, List.getD, List.getElem?_eq_getElem hp, Option.getD_some]
theorem getD_mem {t : List Int} {p : Nat} (hp : p < t.length) : t.getD p 0 ∈ t := by
  rw [List.getD, List.getElem?_eq_getElem hp]; exact List.getElem_mem _
theorem ill_truth {r : RwD} (hf : r.fault = 0) {t : List Int} (hT : TrW r.ws.length t) (ht : r.possB r.wins t = true) {m : Nat} (hm : Least r r.wins m) :
    m ≤ (r.illB t).length ∧ (r.illB t).length ≤ (r.illB r.earliest).length := by
  obtain ⟨hok, -, -, hlw, -⟩ := fault_ok hf
  refine ⟨hm.le t hT ht, length_le_sub illB_nodup fun p hp => ?_⟩
  obtain ⟨h1, h2⟩ := mem_illB.1 hp
  have hle : r.earliest.getD p 0 ≤ t.getD p 0 := early_least hok hT ht p h1.1
  exact mem_illB.2 ⟨h1, by omega⟩
theorem truthD_trw {l : List Int} {N : Nat} (hl : l.length ≤ 10) (h : ∀ o, o ∈ l → -1 ≤ o ∧ o ≤ (N : Int)) : TrW N (truthD l) := by
  refine ⟨by unfold truthD; simp; omega, fun i => ?_⟩
  by_cases hi : i < l.length
  · rw [truthD_in hi]
    have := h _ (getD_mem hi)
    unfold in31
    split <;> omega
  · rw [truthD_at, dif_neg hi]
    split <;> omega
end Go.Proofs.Ytkjhofbjjogmlaa

namespace Go.Proofs.Ytkjhofbjjogmlaa
open Go.RowKit Go.Lib

theorem poss_congr {r : RwD} (hok : r.Ok) {ws : List (Int × Int)} {s t : List Int} (h : ∀ p, p < r.dug.length → s.getD p 0 = t.getD p 0) (ht : r.possB ws t = true) : r.possB ws s = true := by
  refine all_range.2 fun p hp => ?_
  have hp2 := all_range.1 ht p hp
  unfold RwD.possAt at *
  rw [h p hp]
  rw [Bool.and_eq_true, Bool.or_eq_true] at *
  exact ⟨hp2.1, hp2.2.imp id (fun hf => fall_mono hok (fun q hq _ => by rw [h q hq]; exact Int.le_refl _) hf)⟩
theorem ill_congr {r : RwD} {s t : List Int} (h : ∀ p, p < r.dug.length → s.getD p 0 = t.getD p 0) : r.illB s = r.illB t := by
  unfold RwD.illB
  refine List.filter_congr fun q hq => ?_
  unfold thoseD at hq
  rw [h q (List.mem_range.1 (List.mem_filter.1 hq).1)]
section
variable {r : RwD}
theorem first_truth (hf : r.fault = 0) (p : Nat) (hp : p < r.dug.length) : (truthD r.firstD).getD p 0 = r.earliest.getD p 0 := by
  obtain ⟨hok, -, -, hlw, -⟩ := fault_ok hf
  have h10 : r.dug.length ≤ 10 := by have := hok.dug; have := hok.n1; omega
  rw [truthD_in (by rw [firstD_length _ h10]; exact hp), firstD_at r p hp h10]
  have b := (earliest_ok (r := r)).b p
  unfold in31 out31
  split <;> split at * <;> omega
theorem first_mem (hf : r.fault = 0) : ∀ o, o ∈ r.firstD → -1 ≤ o ∧ o ≤ r.ws.length := fun o ho => by
  obtain ⟨hok, -, -, hlw, -⟩ := fault_ok hf
  have h10 : r.dug.length ≤ 10 := by have := hok.dug; have := hok.n1; omega
  obtain ⟨p, hp⟩ := List.getElem?_of_mem ho
  obtain ⟨-, rfl⟩ := first_at h10 hp
  have b := (earliest_ok (r := r)).b p
  unfold out31
  split <;> omega
theorem first_prove (hf : r.fault = 0) (hc : r.can = true) : r.proveD r.firstD = true := by
  obtain ⟨hok, -, -, hlw, -⟩ := fault_ok hf
  have h10 : r.dug.length ≤ 10 := by have := hok.dug; have := hok.n1; omega
  unfold RwD.proveD RwD.onsB
  rw [hf, poss_congr hok (first_truth hf) hc]
  simp only [decide_true, Bool.true_and, Bool.and_true, Bool.and_eq_true, decide_eq_true_eq, List.all_eq_true, inB_iff]
  exact ⟨by rw [firstD_length _ h10]; exact hok.dug, first_mem hf⟩
theorem first_ill (hf : r.fault = 0) : r.illB (truthD r.firstD) = r.illB r.earliest := ill_congr (first_truth hf)
theorem prove_has {t : List Int} (h : r.proveD t = true) : r.fault = 0 ∧ TrW r.ws.length (truthD t) ∧ t.length = r.dug.length ∧ r.possB r.wins (truthD t) = true ∧ ∀ o, o ∈ t → -1 ≤ o ∧ o ≤ r.ws.length := by
  unfold RwD.proveD at h
  rw [Bool.and_eq_true, Bool.and_eq_true, decide_eq_true_eq] at h
  obtain ⟨⟨hf, ho⟩, hp⟩ := h
  obtain ⟨hl, hb⟩ := onsB_at ho
  obtain ⟨hok, -, -, hlw, -⟩ := fault_ok hf
  have := hok.dug
  have := hok.n1
  exact ⟨hf, truthD_trw (by omega) hb, by omega, hp, hb⟩
theorem prove_can {t : List Int} (h : r.proveD t = true) : r.can = true := by
  obtain ⟨hf, hT, -, hp, -⟩ := prove_has h
  exact early_can (fault_ok hf).1 hT hp
theorem prove_least {t : List Int} (h : r.proveD t = true) {p : Nat} {o f : Int} (ho : t[p]? = some o) (hfi : r.firstD[p]? = some f) (h0 : 0 ≤ o) : 0 ≤ f ∧ f ≤ o := by
  obtain ⟨hf, hT, hl, hp, hob⟩ := prove_has h
  obtain ⟨hok, -, -, hlw, -⟩ := fault_ok hf
  have h10 : r.dug.length ≤ 10 := by have := hok.dug; have := hok.n1; omega
  obtain ⟨hpl, rfl⟩ := first_at h10 hfi
  have hle : r.earliest.getD p 0 ≤ (truthD t).getD p 0 := early_least hok hT hp p hpl
  have hpt := (List.getElem?_eq_some_iff.1 ho).1
  have b := (earliest_ok (r := r)).b p
  have e : t.getD p 0 = o := by rw [List.getD, ho]; rfl
  have hb := hob o (List.mem_of_getElem? ho)
  rw [truthD_in hpt, e] at hle
  unfold in31 at hle
  rw [if_neg (by omega)] at hle
  unfold out31
  split <;> omega
end
end Go.Proofs.Ytkjhofbjjogmlaa

namespace Go.Proofs.Ytkjhofbjjogmlaa
open Go.RowKit Go.Lib

/-- So late that a test in the last week says no. -/
def RwD.lateB (r : RwD) (t : Int) : Bool := inB t ((r.ws.length : Int) - r.old + 1) 31
/-- The number of old cases. -/
def RwD.numC (r : RwD) (t : List Int) : Nat := (r.allCases t ((r.ws.length : Int) - r.old)).length
theorem winD_tested (r : RwD) (q : Nat) (t : Int) : ∀ (ps : List Int) (ws : List (Int × Int)), (∀ p, p ∈ ps → 0 ≤ p ∧ p < 10) → ws.length = 10 → winD (r.testedD ws ps) q t = (winD ws q t && (!decide ((q : Int) ∈ ps) || r.lateB t))
  | [], ws, _, _ => by unfold RwD.testedD; simp
  | p :: ps, ws, hp, hw => by
    have h0 := hp p (by simp)
    have ih := winD_tested r q t ps (noteD r.sh r.old ws (testN r.ws.length p)) (fun x hx => hp x (by simp [hx])) (by rw [noteD_length]; exact hw)
    have e : r.testedD ws (p :: ps) = r.testedD (noteD r.sh r.old ws (testN r.ws.length p)) ps := rfl
    have hpn : (testN r.ws.length p).p.toNat = p.toNat := rfl
    rw [e, ih, winD_note _ _ _ _ (by rw [hw, hpn]; omega), hpn]
    have ha : inB t (alwD r.sh r.old (testN r.ws.length p)).1 (alwD r.sh r.old (testN r.ws.length p)).2 = r.lateB t := rfl
    rw [ha, show decide ((q : Int) ∈ p :: ps) = (decide (q = p.toNat) || decide ((q : Int) ∈ ps)) from by
      rw [← Bool.decide_or]
      refine decide_eq_decide.2 ?_
      rw [List.mem_cons]
      exact or_congr ⟨fun h => by omega, fun h => by omega⟩ Iff.rfl]
    generalize decide (q = p.toNat) = a
    generalize decide ((q : Int) ∈ ps) = b
    generalize winD ws q t = c
    generalize r.lateB t = d
    cases a <;> cases b <;> cases c <;> cases d <;> rfl
section
variable {r : RwD} {ws : List (Int × Int)} {ps qs : List Int} {k : Int}
theorem poss_tested (hw : ws.length = 10) (hp : ∀ p, p ∈ ps → 0 ≤ p ∧ p < 10) (t : List Int) : r.possB (r.testedD ws ps) t = true ↔ r.possB ws t = true ∧ ∀ q : Nat, q < r.dug.length → (q : Int) ∈ ps → r.lateB (t.getD q 0) = true := by
  constructor
  · intro h
    refine ⟨all_range.2 fun q hq => ?_, fun q hq hm => ?_⟩
    · have h1 := all_range.1 h q hq
      unfold RwD.possAt at *
      rw [winD_tested r q _ ps ws hp hw, Bool.and_eq_true, Bool.and_eq_true] at h1
      rw [Bool.and_eq_true]
      exact ⟨h1.1.1, h1.2⟩
    · have h1 := all_range.1 h q hq
      unfold RwD.possAt at h1
      rw [winD_tested r q _ ps ws hp hw, Bool.and_eq_true, Bool.and_eq_true, Bool.or_eq_true] at h1
      exact h1.1.2.resolve_left (by simp [hm])
  · rintro ⟨h1, h2⟩
    refine all_range.2 fun q hq => ?_
    have h3 := all_range.1 h1 q hq
    unfold RwD.possAt at *
    rw [winD_tested r q _ ps ws hp hw]
    rw [Bool.and_eq_true] at h3
    rw [Bool.and_eq_true]
    refine ⟨?_, h3.2⟩
    rw [h3.1, Bool.true_and, Bool.or_eq_true]
    by_cases hm : (q : Int) ∈ ps
    · exact .inr (h2 q hq hm)
    · exact .inl (by simp [hm])
theorem cases_le {s t : List Int} (h : ∀ q, q < r.dug.length → s.getD q 0 ≤ t.getD q 0) : r.numC t ≤ r.numC s := by
  unfold RwD.numC RwD.allCases
  rw [List.length_map, List.length_map]
  refine length_le_sub ((List.nodup_range.filter _).filter _) fun q hq => ?_
  obtain ⟨h1, h2⟩ := List.mem_filter.1 hq
  have hq2 := List.mem_range.1 (List.mem_filter.1 h1).1
  have := h q hq2
  refine List.mem_filter.2 ⟨h1, ?_⟩
  rw [decide_eq_true_eq] at *
  omega
theorem enough_iff (hok : r.Ok) : r.enoughD ws ps k = true ↔ ∀ t, TrW r.ws.length t → r.possB (r.testedD ws ps) t = true → (r.numC t : Int) ≤ k := by
  unfold RwD.enoughD
  rw [Bool.or_eq_true, Bool.not_eq_true', decide_eq_true_eq]
  constructor
  · intro h t hT ht
    have hc := early_can hok hT ht
    rcases h with h | h
    · rw [hc] at h; cases h
    · have := cases_le (r := r) (s := r.earlyD (r.testedD ws ps)) (t := t) (fun q hq => early_least hok hT ht q hq)
      unfold RwD.numC at *
      omega
  · intro h
    cases hc : r.possB (r.testedD ws ps) (r.earlyD (r.testedD ws ps)) with
    | false => exact .inl rfl
    | true => exact .inr (h _ (early_ok r _) hc)
theorem enough_of (hok : r.Ok) (h : ∀ t, TrW r.ws.length t → r.possB (r.testedD ws qs) t = true → r.possB (r.testedD ws ps) t = true) (he : r.enoughD ws ps k = true) : r.enoughD ws qs k = true :=
  (enough_iff hok).2 fun t hT ht => (enough_iff hok).1 he t hT (h t hT ht)
theorem mem_tells {q : Nat} : (q : Int) ∈ r.tells ws ↔ q < r.dug.length ∧ r.tellB ws q = true := by
  unfold RwD.tells thoseD
  rw [List.mem_map]
  constructor
  · rintro ⟨a, ha, e⟩
    have : a = q := by omega
    subst this
    obtain ⟨h1, h2⟩ := List.mem_filter.1 ha
    exact ⟨List.mem_range.1 h1, h2⟩
  · rintro ⟨h1, h2⟩
    exact ⟨q, List.mem_filter.2 ⟨List.mem_range.2 h1, h2⟩, rfl⟩
theorem tells_nat {x : Int} (h : x ∈ r.tells ws) : ∃ q : Nat, x = q ∧ q < r.dug.length ∧ r.tellB ws q = true := by
  unfold RwD.tells thoseD at h
  obtain ⟨a, ha, rfl⟩ := List.mem_map.1 h
  obtain ⟨h1, h2⟩ := List.mem_filter.1 ha
  exact ⟨a, rfl, List.mem_range.1 h1, h2⟩
/-- Where a test tells nothing, it would say no. -/
theorem no_tell (hw : ws.length = 10) {q : Nat} (hq : q < 10) (hl : r.lastB q = true) (ht : r.tellB ws q = false) {t : Int} (h : winD ws q t = true) : r.lateB t = true := by
  unfold RwD.tellB at ht
  rw [hl, Bool.true_and, Bool.not_eq_false', decide_eq_true_eq] at ht
  have h2 : winD (r.testedD ws [(q : Int)]) q t = winD ws q t := by unfold winD; rw [ht]
  rw [winD_tested r q t [(q : Int)] ws (fun p hp => by simp at hp; omega) hw, h] at h2
  simpa using h2
theorem tells_enough (hok : r.Ok) (hw : ws.length = 10) (hk : 0 ≤ k) : r.enoughD ws (r.tells ws) k = true := by
  have hd10 : r.dug.length ≤ 10 := by have := hok.dug; have := hok.n1; omega
  refine (enough_iff hok).2 fun t hT ht => ?_
  have hin : ∀ p, p ∈ r.tells ws → 0 ≤ p ∧ p < 10 := fun p hp => by obtain ⟨q, rfl, h1, -⟩ := tells_nat hp; omega
  obtain ⟨h1, h2⟩ := (poss_tested hw hin t).1 ht
  have hn : r.numC t = 0 := by
    unfold RwD.numC RwD.allCases
    rw [List.length_map, List.length_eq_zero_iff, List.filter_eq_nil_iff]
    intro q hq
    obtain ⟨ha, hb⟩ := List.mem_filter.1 hq
    have hqn := List.mem_range.1 ha
    have hlate : r.lateB (t.getD q 0) = true := by
      cases htl : r.tellB ws q with
      | true => exact h2 q hqn (mem_tells.2 ⟨hqn, htl⟩)
      | false =>
        have h3 := all_range.1 h1 q hqn
        unfold RwD.possAt at h3
        rw [Bool.and_eq_true] at h3
        exact no_tell hw (by omega) hb htl h3.1
    unfold RwD.lateB at hlate
    rw [inB_iff] at hlate
    rw [decide_eq_true_eq]
    omega
  omega
end
theorem findC_some (f : List Int → Bool) : ∀ (m : Nat) (l pre s : List Int), findC f m l pre = some s → f s = true ∧ ∃ sub, s = pre ++ sub ∧ sub.Sublist l ∧ sub.length = m
  | 0, l, pre, s, h => by
    rw [findC] at h
    split at h
    · rename_i hf; cases h; exact ⟨hf, [], by simp, List.nil_sublist _, rfl⟩
    · cases h
  | m + 1, [], pre, s, h => by rw [findC] at h; cases h
  | m + 1, x :: rest, pre, s, h => by
    rw [findC] at h
    split at h
    · cases h
    · split at h
      · rename_i s' h2
        cases h
        obtain ⟨hf, sub, h3, h4, h5⟩ := findC_some f m rest (pre ++ [x]) _ h2
        exact ⟨hf, x :: sub, by rw [h3]; simp, h4.cons_cons x, by simp [h5]⟩
      · obtain ⟨hf, sub, h3, h4, h5⟩ := findC_some f (m + 1) rest pre s h
        exact ⟨hf, sub, h3, h4.cons x, h5⟩
theorem findC_none (f : List Int → Bool) : ∀ (m : Nat) (l pre : List Int), findC f m l pre = none → ∀ sub, sub.Sublist l → sub.length = m → f (pre ++ sub) = false
  | 0, l, pre, h, sub, _, hl => by
    rw [findC] at h
    have : sub = [] := List.eq_nil_of_length_eq_zero hl
    subst this
    split at h
    · cases h
    · rename_i hf; simpa using hf
  | m + 1, [], pre, h, sub, hs, hl => by
    have := hs.length_le
    simp at this
    subst this
    simp at hl
  | m + 1, x :: rest, pre, h, sub, hs, hl => by
    rw [findC] at h
    split at h
    · rename_i h2
      have := hs.length_le
      simp at this
      omega
    · split at h
      · cases h
      · rename_i h2
        cases hs with
        | cons _ hs => exact findC_none f (m + 1) rest pre h sub hs hl
        | cons_cons _ hs =>
          rename_i sub'
          have := findC_none f m rest (pre ++ [x]) h2 sub' hs (by simpa using hl)
          simpa using this
theorem bestN_some {g : Nat → Option (List Int)} : ∀ {n k : Nat} {s : List Int}, bestN g n k = some s → ∃ j, k ≤ j ∧ j < k + n ∧ g j = some s ∧ ∀ i, k ≤ i → i < j → g i = none
  | 0, k, s, h => by rw [bestN] at h; cases h
  | n + 1, k, s, h => by
    rw [bestN] at h
    split at h
    · rename_i s' h2
      cases h
      exact ⟨k, Nat.le_refl _, by omega, h2, fun i h1 h2 => by omega⟩
    · rename_i h2
      obtain ⟨j, h3, h4, h5, h6⟩ := bestN_some h
      exact ⟨j, by omega, by omega, h5, fun i hi hj => by
        by_cases e : i = k
        · subst e; exact h2
        · exact h6 i (by omega) hj⟩
theorem bestN_none {g : Nat → Option (List Int)} : ∀ {n k : Nat}, bestN g n k = none → ∀ i, k ≤ i → i < k + n → g i = none
  | 0, k, _, i, h1, h2 => by omega
  | n + 1, k, h, i, h1, h2 => by
    rw [bestN] at h
    split at h
    · cases h
    · rename_i h3
      by_cases e : i = k
      · subst e; exact h3
      · exact bestN_none h i (by omega) (by omega)
section
variable {r : RwD} {ws : List (Int × Int)} {k : Int}
/-- The best sample: plants that tell, enough, and no fewer are. -/
theorem best_is (hok : r.Ok) (hw : ws.length = 10) (hk : 0 ≤ k) : (r.bestD ws k).Sublist (r.tells ws) ∧ r.enoughD ws (r.bestD ws k) k = true ∧ ∀ sub, sub.Sublist (r.tells ws) → r.enoughD ws sub k = true → (r.bestD ws k).length ≤ sub.length := by
  unfold RwD.bestD
  cases h : bestN (fun k' => findC (fun ps => r.enoughD ws ps k) k' (r.tells ws) []) (r.tells ws).length 0 with
  | none =>
    refine ⟨List.Sublist.refl _, tells_enough hok hw hk, fun sub hs he => ?_⟩
    by_cases hl : sub.length < (r.tells ws).length
    · have h2 := findC_none _ _ _ _ (bestN_none h sub.length (Nat.zero_le _) (by omega)) sub hs rfl
      simp only [List.nil_append] at h2
      rw [he] at h2
      cases h2
    · simpa using Nat.le_of_not_lt hl
  | some s =>
    obtain ⟨j, -, hj, hs, hno⟩ := bestN_some h
    obtain ⟨hf, sub, e, h1, h2⟩ := findC_some _ _ _ _ _ hs
    rw [List.nil_append] at e
    subst e
    refine ⟨h1, hf, fun sub' hs' he => ?_⟩
    rw [Option.getD_some, h2]
    by_cases hl : sub'.length < j
    · have h3 := findC_none _ _ _ _ (hno sub'.length (Nat.zero_le _) hl) sub' hs' rfl
      simp only [List.nil_append] at h3
      rw [he] at h3
      cases h3
    · exact Nat.le_of_not_lt hl
theorem tells_rising : (r.tells ws).Pairwise (· < ·) := by
  unfold RwD.tells thoseD
  rw [List.pairwise_map]
  exact ((List.pairwise_lt_range).filter _).imp fun h => by omega
end
theorem rises_pair {l : List Int} (h : risesB l = true) : l.Pairwise (· < ·) := by
  have h1 : ∀ i, i + 1 < l.length → l.getD i 0 < l.getD (i + 1) 0 := fun i hi => by
    have := all_range.1 h (i + 1) hi
    unfold risesAt at this
    simpa using this
  rw [List.pairwise_iff_getElem]
  intro i j hi hj hij
  have h2 : ∀ d, i + 1 + d < l.length → l.getD i 0 < l.getD (i + 1 + d) 0 := fun d => by
    induction d with
    | zero => exact fun hd => h1 i hd
    | succ d ih => exact fun hd => Int.lt_trans (ih (by omega)) (h1 (i + 1 + d) hd)
  have h3 := h2 (j - (i + 1)) (by omega)
  rw [show i + 1 + (j - (i + 1)) = j by omega] at h3
  simpa [List.getD, hi, hj] using h3
theorem pair_rises {l : List Int} (h : l.Pairwise (· < ·)) : risesB l = true := by
  refine all_range.2 fun i hi => ?_
  unfold risesAt
  rw [Bool.or_eq_true, decide_eq_true_eq, decide_eq_true_eq]
  by_cases h0 : i = 0
  · exact .inl h0
  · right
    rw [List.pairwise_iff_getElem] at h
    have := h (i - 1) i (by omega) hi (by omega)
    simpa [List.getD, hi, show i - 1 < l.length by omega] using this
theorem sub_of_rising : ∀ (m l : List Int), l.Pairwise (· < ·) → m.Pairwise (· < ·) → (∀ x, x ∈ l → x ∈ m) → l.Sublist m
  | [], l, _, _, h => by
    cases l with
    | nil => exact List.Sublist.refl _
    | cons x l => exact absurd (h x (by simp)) (by simp)
  | y :: m, [], _, _, _ => List.nil_sublist _
  | y :: m, x :: l, hl, hm, h => by
    rw [List.pairwise_cons] at hl hm
    by_cases e : x = y
    · subst e
      refine (sub_of_rising m l hl.2 hm.2 fun z hz => ?_).cons_cons x
      have h1 := hl.1 z hz
      rcases List.mem_cons.1 (h z (by simp [hz])) with h2 | h2
      · omega
      · exact h2
    · refine (sub_of_rising m (x :: l) (List.pairwise_cons.2 hl) hm.2 fun z hz => ?_).cons y
      have hxm : x ∈ m := by
        rcases List.mem_cons.1 (h x (by simp)) with h2 | h2
        · exact absurd h2 e
        · exact h2
      have hyx := hm.1 x hxm
      rcases List.mem_cons.1 (h z hz) with h2 | h2
      · subst h2
        rcases List.mem_cons.1 hz with h3 | h3
        · exact absurd h3.symm e
        · have := hl.1 z h3; omega
      · exact h2
section
variable {r : RwD} {ws : List (Int × Int)} {k : Int}
theorem sample_at {l : List Int} (h : r.sampleB l = true) : (∀ p, p ∈ l → 0 ≤ p ∧ p ≤ r.n - 1) ∧ (∀ p, p ∈ l → r.lastB p.toNat = true) ∧ l.Pairwise (· < ·) := by
  unfold RwD.sampleB at h
  rw [Bool.and_eq_true, Bool.and_eq_true, List.all_eq_true, List.all_eq_true] at h
  exact ⟨fun p hp => inB_iff.1 (h.1.1 p hp), h.1.2, rises_pair h.2⟩
theorem sample_mk {l : List Int} (h1 : ∀ p, p ∈ l → 0 ≤ p ∧ p ≤ r.n - 1) (h2 : ∀ p, p ∈ l → r.lastB p.toNat = true) (h3 : l.Pairwise (· < ·)) : r.sampleB l = true := by
  unfold RwD.sampleB
  rw [Bool.and_eq_true, Bool.and_eq_true, List.all_eq_true, List.all_eq_true]
  exact ⟨⟨fun p hp => inB_iff.2 (h1 p hp), h2⟩, pair_rises h3⟩
theorem sub_sample (hok : r.Ok) {l : List Int} (h : l.Sublist (r.tells ws)) : r.sampleB l = true := by
  have hd := hok.dug
  refine sample_mk (fun p hp => ?_) (fun p hp => ?_) (tells_rising.sublist h)
  · obtain ⟨q, rfl, h1, -⟩ := tells_nat (h.subset hp); omega
  · obtain ⟨q, rfl, h1, h2⟩ := tells_nat (h.subset hp)
    unfold RwD.tellB at h2
    rw [Bool.and_eq_true] at h2
    exact h2.1
/-- No sample that is enough has fewer plants than the best one. -/
theorem best_least (hok : r.Ok) (hw : ws.length = 10) (hk : 0 ≤ k) {l : List Int} (hs : r.sampleB l = true) (he : r.enoughD ws l k = true) : (r.bestD ws k).length ≤ l.length := by
  obtain ⟨h1, h2, h3⟩ := sample_at hs
  have hd := hok.dug
  have hn := hok.n1
  have hin : ∀ p, p ∈ l → 0 ≤ p ∧ p < 10 := fun p hp => by have := h1 p hp; omega
  have hfs : (l.filter fun p => r.tellB ws p.toNat).Sublist l := List.filter_sublist
  have hin2 : ∀ p, p ∈ (l.filter fun p => r.tellB ws p.toNat) → 0 ≤ p ∧ p < 10 := fun p hp => hin p (hfs.subset hp)
  refine Nat.le_trans ((best_is hok hw hk).2.2 (l.filter fun p => r.tellB ws p.toNat) ?_ ?_) hfs.length_le
  · refine sub_of_rising _ _ (h3.sublist hfs) tells_rising fun x hx => ?_
    obtain ⟨ha, hb⟩ := List.mem_filter.1 hx
    have := h1 x ha
    have h4 := mem_tells (r := r) (ws := ws) (q := x.toNat)
    rw [show ((x.toNat : Nat) : Int) = x by omega] at h4
    exact h4.2 ⟨by omega, hb⟩
  · refine enough_of hok (fun t hT ht => ?_) he
    obtain ⟨ha, hb⟩ := (poss_tested hw hin2 t).1 ht
    refine (poss_tested hw hin t).2 ⟨ha, fun q hq hm => ?_⟩
    cases htl : r.tellB ws q with
    | true => exact hb q hq (List.mem_filter.2 ⟨hm, htl⟩)
    | false =>
      have h5 := all_range.1 ha q hq
      unfold RwD.possAt at h5
      rw [Bool.and_eq_true] at h5
      exact no_tell hw (by omega) (h2 _ hm) htl h5.1
end
end Go.Proofs.Ytkjhofbjjogmlaa
