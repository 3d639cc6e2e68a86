/- Arguments opened as they lie; what a law owes behind its walk. -/
import Derived.Test.YtkjhofbjjogmlaaXA
import Derived.ProofKit
import Derived.OpenShut
import Derived.Deep.Slices
import Derived.Carry
import Derived.Test.YtkjhofbjjogmlaaXE
import Derived.Test.YtkjhofbjjogmlaaXC
namespace Go.Proofs.Ytkjhofbjjogmlaa
open Go.ChangeShapes Go.WideShapes Go.ChangeAt Go.RowKit

section
variable {H : Type} {enc : TypeId × Value → H} {P : Program} {w : World}
/-- A slice that came in, whatever its elements are. -/
theorem open_sl {α : Type} {en : α → List Value} {Q : α → Prop} {k : Nat} {t e : TypeId} (hk0 : 0 < k) (ht : P.underlying t = some (.slice e)) (hk : P.cellsOf e = k)
    (hop : ∀ (fuel : Nat) (cs : List Value) (x : DataW H × List MemPlace), DataW.trod enc P w 0 (fun _ => true) true fuel e cs = some x → ∃ y : α, cs = en y ∧ Q y)
    {fuel : Nat} {cs : List Value} {x : DataW H × List MemPlace} (h : DataW.trod enc P w 0 (fun _ => true) true fuel t cs = some x) :
    ∃ (A : Option Addr) (l : List α) (c : Nat), cs = [.slice A l.length c] ∧ (A = none → l.length = 0 ∧ c = 0) ∧ Sl w w.heap.size k en A l ∧ (∀ y, y ∈ l → Q y) ∧ l.length ≤ maxLen := by
  rcases Deep.open_slice ht h with ⟨rfl, _⟩ | ⟨a, len, cap, m, n, D, Pl, rfl, _, hl, hm, hmm, _, hx⟩
  · exact ⟨none, [], 0, rfl, fun _ => ⟨rfl, rfl⟩, Sl.nil, fun y hy => (by cases hy), Nat.zero_le _⟩
  simp only [if_true] at hmm
  have hmm' := hmm.symm
  subst hmm'
  have each : ∀ i, i < len → ∃ y : α, Q y ∧ w.cells? 0 (a.add (i * k)) k = some (en y) := fun i hi => by
    obtain ⟨cs', h1, h2⟩ := hx i (by omega)
    obtain ⟨y, rfl, hq⟩ := hop _ _ _ h2
    rw [hk] at h1
    exact ⟨y, hq, h1⟩
  have lists : ∀ n, n ≤ len → ∃ l : List α, l.length = n ∧ ∀ i y, l[i]? = some y → Q y ∧ w.cells? 0 (a.add (i * k)) k = some (en y) := by
    intro n
    induction n with
    | zero => intro _; exact ⟨[], rfl, fun i y hy => by simp at hy⟩
    | succ n ih =>
      intro hn
      obtain ⟨l, hl, hr⟩ := ih (by omega)
      obtain ⟨y, hq, hc⟩ := each n (by omega)
      refine ⟨l ++ [y], by simp [hl], fun i z hz => ?_⟩
      rw [List.getElem?_append] at hz
      split at hz
      · exact hr i z hz
      · rename_i hi
        have hi' : i = n := by
          have := (List.getElem?_eq_some_iff.1 hz).1
          simp at this; omega
        subst hi'
        rw [hl, Nat.sub_self] at hz
        simp at hz; subst hz
        exact ⟨hq, hc⟩
  obtain ⟨l, hll, hr⟩ := lists len (Nat.le_refl _)
  subst hll
  refine ⟨some a, l, cap, rfl, (fun e => by cases e), fun hne => ?_, fun y hy => ?_, by omega⟩
  · obtain ⟨b, off, spot⟩ := a
    have hcell : ∀ i y, l[i]? = some y → ∀ j u, (en y)[j]? = some u → w.cell? (((⟨b, off, spot⟩ : Addr).add (i * k)).add j) = some u := fun i y hy j u hu => by
      obtain ⟨_, hlen, hc⟩ := World.cells?_some (hr i y hy).2
      have hj := (List.getElem?_eq_some_iff.1 hu).1
      rw [hc j (by omega)]; exact hu
    obtain ⟨y, hy⟩ : ∃ y, l[0]? = some y := by
      cases l with
      | nil => exact absurd rfl hne
      | cons y l => exact ⟨y, rfl⟩
    have hlen := (World.cells?_some (hr 0 y hy).2).2.1
    obtain ⟨u, hu⟩ : ∃ u, (en y)[0]? = some u := ⟨(en y)[0], by simp [hlen, hk0]⟩
    have h0 := hcell 0 y hy 0 u hu
    have hspot : spot = none := by simpa [Addr.add] using World.cell?_spot h0
    subst hspot
    have hb := World.block_lt_of_cell? w _ h0
    rw [add_lit, add_lit] at hb
    refine ⟨b, off, rfl, hb, fun i z hz j v hv => ?_⟩
    have := hcell i z hz j v hv
    rwa [add_lit, add_lit] at this
  · obtain ⟨i, hi, e⟩ := List.getElem_of_mem hy
    exact (hr i y (by rw [List.getElem?_eq_getElem hi, e])).1
theorem open_num {t : TypeId} {k : IntKind} (ht : P.underlying t = some (.int k)) {fuel : Nat} {cs : List Value} {x : DataW H × List MemPlace} (h : DataW.trod enc P w 0 (fun _ => true) true fuel t cs = some x) : ∃ y : Int, cs = [.int k y] ∧ (Lit.int k y).wf = true := by
  obtain ⟨n, h1, _, h3⟩ := DataW.trod_int ht h
  exact ⟨n, h1, h3⟩
/-- All arguments read behind the call as they did. -/
theorem Below.trodAll (hl : laidOutB P = true) {W W' : World} (hb : Below W.heap.size W W') : ∀ {ts : List TypeId} {vs : List Value} {ds : List (DataW H)} {ps : List MemPlace}, (∀ t, t ∈ ts → P.readableRec t = true ∧ t < P.types.size) →
    DataW.TrodAll enc P W 0 (fun _ => true) true ts vs ds ps → (∀ x ∈ ps, x.block < W.heap.size) → DataW.TrodAll enc P W' 0 (fun b => decide (b < W.heap.size)) true ts vs ds ps
  | [], [], [], _, _, h, _ => h
  | t :: ts, v :: vs, d :: ds, _, hr, ⟨p, q, h1, h2, e⟩, hlt => by
    subst e
    exact ⟨p, q, RowKit.Below.trod hl (hr t (by simp)).1 (hr t (by simp)).2 h1 hb (fun x hx => hlt x (by simp [hx])), Below.trodAll hl hb (fun u hu => hr u (by simp [hu])) h2 (fun x hx => hlt x (by simp [hx])), rfl⟩
  | [], [], _ :: _, _, _, h, _ => h.elim
  | [], _ :: _, _, _, _, h, _ => h.elim
  | _ :: _, [], _, _, _, h, _ => h.elim
  | _ :: _, _ :: _, [], _, _, h, _ => h.elim
/-- What a law owes behind its walk. -/
theorem law_post {f : Func} {s : ChangeSpec} {W W' : World} {args : Array Value} {ds gs : List (DataW H)} {before : List MemPlace} {tb : TypeId} (hl : laidOutB P = true) (hW : DataW.Whole enc P f.params.toList s.vars false W args.toList ds gs before) (hv : s.vars = [])
    (hrt : f.resultTypes = #[tb]) (htb : P.underlying tb = some .bool) (hrd : ∀ t, t ∈ f.params.toList → P.readableRec t = true ∧ t < P.types.size)
    (hfn : (s.fn H ds).results = [.lit (.bool true)] ∧ (s.fn H ds).args = ds ∧ (s.fn H ds).vars = []) (hb : Below W.heap.size W W') : s.post enc P f false true false false W args (.bool true) W' := by
  have hlt : ∀ p ∈ before, p.block < W.heap.size := fun p hp => by simpa using hW.lt p hp
  have hW' := hW
  obtain ⟨p, q, h1, h2, rfl, hz, hn⟩ := hW
  rw [hv] at h2
  obtain ⟨rfl, rfl⟩ := trodVars_none h2
  simp only [List.append_nil] at hlt hW'
  refine ⟨ds, [], p, [], p, [], hW', ?_, ?_, ?_, hb.frame _, fun h => by cases h⟩
  · rw [List.append_nil, hfn.1, hrt]
    exact trodAll_mk1 (shut_bool htb true)
  · rw [List.append_nil, hfn.2.1]
    exact Below.trodAll hl hb hrd h1 hlt
  · rw [List.append_nil, hfn.2.2, hv]
    exact rfl
end
theorem laidOutP : laidOutB Try.prog = true := by kernel_rfl
theorem ownP : ownKnob Try.prog.godebug = none := by kernel_rfl
end Go.Proofs.Ytkjhofbjjogmlaa

namespace Go.Proofs.Ytkjhofbjjogmlaa
open Go.ChangeShapes Go.WideShapes Go.ChangeAt Go.RowKit

theorem len2 {α : Type} : ∀ {l : List α}, l.length = 2 → ∃ a b, l = [a, b]
  | [a, b], _ => ⟨a, b, rfl⟩
theorem len4 {α : Type} : ∀ {l : List α}, l.length = 4 → ∃ a b c d, l = [a, b, c, d]
  | [a, b, c, d], _ => ⟨a, b, c, d, rfl⟩
theorem len8 {α : Type} : ∀ {l : List α}, l.length = 8 → ∃ a b c d e f g h, l = [a, b, c, d, e, f, g, h]
  | [a, b, c, d, e, f, g, h], _ => ⟨a, b, c, d, e, f, g, h, rfl⟩
section
variable {H : Type} {enc : TypeId × Value → H} {w : World} {fuel : Nat} {cs : List Value} {x : DataW H × List MemPlace}
theorem cI : Try.prog.cellsOf 3 = 1 := by kernel_rfl
theorem cB : Try.prog.cellsOf 4 = 1 := by kernel_rfl
theorem cU : Try.prog.cellsOf 5 = 1 := by kernel_rfl
theorem cWk : Try.prog.cellsOf 76 = 2 := by kernel_rfl
theorem cNt : Try.prog.cellsOf 67 = 4 := by kernel_rfl
theorem cSW : Try.prog.cellsOf 22 = 1 := by kernel_rfl
theorem cSN : Try.prog.cellsOf 24 = 1 := by kernel_rfl
theorem cSI : Try.prog.cellsOf 23 = 1 := by kernel_rfl
theorem cRw : Try.prog.cellsOf 26 = 8 := by kernel_rfl
theorem open_week (h : DataW.trod enc Try.prog w 0 (fun _ => true) true fuel 76 cs = some x) : ∃ y : Wk, cs = encW y ∧ True := by
  obtain ⟨xs, n, _, _, hl, hxs, hf⟩ := DataW.trod_struct Try.underlying76 h
  obtain ⟨c0, c1, rfl⟩ := len2 (hl.trans cWk)
  clear hl
  have h0 := hf 0 _ rfl
  have h1 := hf 1 _ rfl
  simp only [List.getElem_toArray, List.getElem_cons_zero, List.getElem_cons_succ, cI, cB, List.drop_zero, List.take_succ_cons, List.take_zero, List.drop_succ_cons] at h0 h1
  have e0 : xs[0]? = some (xs[0]'(by rw [hxs]; decide)) := by simp
  have e1 : xs[1]? = some (xs[1]'(by rw [hxs]; decide)) := by simp
  rw [e0] at h0
  rw [e1] at h1
  obtain ⟨a, ha, _⟩ := open_num Try.underlying3 h0
  obtain ⟨b, hb, _⟩ := DataW.trod_bool Try.underlying4 h1
  simp only [List.cons.injEq, and_true] at ha hb
  subst ha; subst hb
  exact ⟨⟨a, b⟩, rfl, trivial⟩
theorem open_note (h : DataW.trod enc Try.prog w 0 (fun _ => true) true fuel 67 cs = some x) : ∃ y : Nt, cs = encN y ∧ (0 ≤ y.k ∧ y.k ≤ 255) := by
  obtain ⟨xs, n, _, _, hl, hxs, hf⟩ := DataW.trod_struct Try.underlying67 h
  obtain ⟨c0, c1, c2, c3, rfl⟩ := len4 (hl.trans cNt)
  clear hl
  have h0 := hf 0 _ rfl
  have h1 := hf 1 _ rfl
  have h2 := hf 2 _ rfl
  have h3 := hf 3 _ rfl
  simp only [List.getElem_toArray, List.getElem_cons_zero, List.getElem_cons_succ, cI, cB, cU, List.drop_zero, List.take_succ_cons, List.take_zero, List.drop_succ_cons] at h0 h1 h2 h3
  have el : ∀ i, i < 4 → ∃ z, xs[i]? = some z := fun i hi => ⟨xs[i]'(by rw [hxs]; exact hi), by simp⟩
  obtain ⟨z0, e0⟩ := el 0 (by decide)
  obtain ⟨z1, e1⟩ := el 1 (by decide)
  obtain ⟨z2, e2⟩ := el 2 (by decide)
  obtain ⟨z3, e3⟩ := el 3 (by decide)
  rw [e0] at h0
  rw [e1] at h1
  rw [e2] at h2
  rw [e3] at h3
  obtain ⟨a, ha, _⟩ := open_num Try.underlying3 h0
  obtain ⟨b, hb, _⟩ := open_num Try.underlying3 h1
  obtain ⟨c, hc, hw⟩ := open_num Try.underlying5 h2
  obtain ⟨d, hd, _⟩ := DataW.trod_bool Try.underlying4 h3
  simp only [List.cons.injEq, and_true] at ha hb hc hd
  subst ha; subst hb; subst hc; subst hd
  have hu := bounds_u8 hw
  exact ⟨⟨a, b, c, d⟩, rfl, by omega⟩
theorem open_nums (h : DataW.trod enc Try.prog w 0 (fun _ => true) true fuel 23 cs = some x) : ∃ s : Sv Int, cs = encV s ∧ ((s.A = none → s.l.length = 0 ∧ s.c = 0) ∧ s.l.length ≤ maxLen) ∧ Sl w w.heap.size 1 encI s.A s.l := by
  obtain ⟨A, l, c, e, hn, hs, _, hm⟩ := open_sl (en := encI) (Q := fun _ => True) (by decide) Try.underlying23 cI (fun _ _ _ h => (open_num Try.underlying3 h).imp fun _ h => ⟨h.1, trivial⟩) h
  exact ⟨⟨A, l, c⟩, e, ⟨hn, hm⟩, hs⟩
theorem open_row (h : DataW.trod enc Try.prog w 0 (fun _ => true) true fuel 26 cs = some x) : ∃ r : RwM, cs = r.cells ∧ OpenRow r w := by
  obtain ⟨xs, n, _, _, hl, hxs, hf⟩ := DataW.trod_struct Try.underlying26 h
  obtain ⟨c0, c1, c2, c3, c4, c5, c6, c7, rfl⟩ := len8 (hl.trans cRw)
  clear hl
  have h0 := hf 0 _ rfl
  have h1 := hf 1 _ rfl
  have h2 := hf 2 _ rfl
  have h3 := hf 3 _ rfl
  have h4 := hf 4 _ rfl
  have h5 := hf 5 _ rfl
  have h6 := hf 6 _ rfl
  have h7 := hf 7 _ rfl
  simp only [List.getElem_toArray, List.getElem_cons_zero, List.getElem_cons_succ, cI, cB, cSW, cSN, cSI, List.drop_zero, List.take_succ_cons, List.take_zero, List.drop_succ_cons] at h0 h1 h2 h3 h4 h5 h6 h7
  have el : ∀ i, i < 8 → ∃ z, xs[i]? = some z := fun i hi => ⟨xs[i]'(by rw [hxs]; exact hi), by simp⟩
  obtain ⟨z0, e0⟩ := el 0 (by decide)
  obtain ⟨z1, e1⟩ := el 1 (by decide)
  obtain ⟨z2, e2⟩ := el 2 (by decide)
  obtain ⟨z3, e3⟩ := el 3 (by decide)
  obtain ⟨z4, e4⟩ := el 4 (by decide)
  obtain ⟨z5, e5⟩ := el 5 (by decide)
  obtain ⟨z6, e6⟩ := el 6 (by decide)
  obtain ⟨z7, e7⟩ := el 7 (by decide)
  rw [e0] at h0
  rw [e1] at h1
  rw [e2] at h2
  rw [e3] at h3
  rw [e4] at h4
  rw [e5] at h5
  rw [e6] at h6
  rw [e7] at h7
  obtain ⟨y0, a0, _⟩ := open_num Try.underlying3 h0
  obtain ⟨A1, l1, k1, a1, n1, s1, _, m1⟩ := open_sl (en := encW) (Q := fun _ => True) (by decide) Try.underlying22 cWk (fun _ _ _ h => open_week h) h1
  obtain ⟨y2, a2, _⟩ := open_num Try.underlying3 h2
  obtain ⟨y3, a3, _⟩ := open_num Try.underlying3 h3
  obtain ⟨y4, a4, _⟩ := open_num Try.underlying3 h4
  obtain ⟨y5, a5, _⟩ := DataW.trod_bool Try.underlying4 h5
  obtain ⟨A6, l6, k6, a6, n6, s6, _, m6⟩ := open_sl (en := encI) (Q := fun _ => True) (by decide) Try.underlying23 cI (fun _ _ _ h => (open_num Try.underlying3 h).imp fun _ h => ⟨h.1, trivial⟩) h6
  obtain ⟨A7, l7, k7, a7, n7, s7, q7, m7⟩ := open_sl (en := encN) (Q := fun y : Nt => 0 ≤ y.k ∧ y.k ≤ 255) (by decide) Try.underlying24 cNt (fun _ _ _ h => open_note h) h7
  simp only [List.cons.injEq, and_true] at a0 a1 a2 a3 a4 a5 a6 a7
  subst a0; subst a1; subst a2; subst a3; subst a4; subst a5; subst a6; subst a7
  exact ⟨⟨y0, ⟨A1, l1, k1⟩, y2, y3, y4, y5, ⟨A6, l6, k6⟩, ⟨A7, l7, k7⟩⟩, rfl, ⟨s1, s6, s7, m1, m6, m7, q7, n6, n1, n7⟩⟩
end
end Go.Proofs.Ytkjhofbjjogmlaa

namespace Go.Proofs.Ytkjhofbjjogmlaa
open Go.RowKit Go.Lib

/-- Does each number rise above the one before it, up to k? -/
def risesAt (l : List Int) (i : Nat) : Bool := decide (i = 0) || decide (l.getD (i - 1) 0 < l.getD i 0)
def risesTo (l : List Int) (k : Nat) : Bool := (List.range k).all (risesAt l)
def risesB (l : List Int) : Bool := risesTo l l.length
theorem risesTo_succ (l : List Int) (k : Nat) : risesTo l (k + 1) = (risesTo l k && risesAt l k) := by
  unfold risesTo; rw [List.range_succ, List.all_append]; simp
theorem risesB_no {l : List Int} {k : Nat} (hk : k < l.length) (h : risesAt l k = false) : risesB l = false := all_range_no hk h
set_option maxRecDepth 100000 in
set_option maxHeartbeats 1000000 in
theorem rises_any (A : Option Addr) (c : Nat) (l : List Int) (w : World) (hA : Sl w w.heap.size 1 encI A l) (hl : l.length ≤ 1000000) :
    Calls Try.prog 88 #[.slice A l.length c] w fun e w' => e = .returned (.bool (risesB l)) ∧ Below w.heap.size w w' := by
  have HA := Lib.hid hA
  clear hA
  go_enter Try.func88, Try.ntmps88
  go_wp2
  go_loopg [3, 4, 7] l.length (fun gg _ _ s7 wr => ∃ k : Nat, k ≤ l.length ∧ l.length - k ≤ gg ∧ s7 = .int .i64 k ∧ Aside (Below w.heap.size w wr) ∧ Aside (risesTo l k = true))
  case atStart => exact ⟨0, Nat.zero_le _, by omega, rfl, Below.refl _ w, rfl⟩
  case round =>
    obtain ⟨k, hk, hg, rfl, BW, HH⟩ := hrel
    by_cases hlt : k < l.length
    · have hltz : (k : Int) < (l.length : Int) := by omega
      have hk0 : (0 : Int) ≤ (k : Int) := by omega
      obtain ⟨x, hx⟩ : ∃ x, l[k]? = some x := ⟨l[k], by simp [hlt]⟩
      obtain ⟨b, off, rfl, hb, hc⟩ := HA.out.cell1 hx
      have l2 : wr.cell? ⟨b, off + k, none⟩ = some (.int .i64 x) := by rw [BW.out.cell (p := ⟨b, off + k, none⟩) hb]; exact hc
      have hxg : l.getD k 0 = x := by rw [List.getD, hx]; rfl
      have HX := Lib.hid hxg
      clear hc hx hxg
      by_cases h0 : k = 0
      · have hz : ¬ (0 : Int) < (k : Int) := by omega
        have HZ := Lib.hid h0
        clear h0
        go_wp2
        go_roundg (l.length - (k + 1))
        case measure => omega
        case rel => exact ⟨k + 1, by omega, by omega, by go_num, BW.out, (show Aside _ by show risesTo l (k + 1) = true; rw [risesTo_succ, HH.out, risesAt, HZ.out]; rfl)⟩
      · obtain ⟨j, hj⟩ : ∃ j, j + 1 = k := ⟨k - 1, by omega⟩
        have hz : (0 : Int) < (k : Int) := by omega
        have hjz : (k : Int) - 1 = (j : Int) := by omega
        have hj0 : (0 : Int) ≤ (j : Int) := by omega
        have hjl : (j : Int) < (l.length : Int) := by omega
        have hw : IntKind.i64.wrap (j : Int) = (j : Int) := IntWalk.i64_in _ (by omega)
        obtain ⟨y, hy⟩ : ∃ y, l[j]? = some y := ⟨l[j]'(by omega), by simp⟩
        obtain ⟨b', off', e', hb', hc'⟩ := HA.out.cell1 hy
        cases e'
        have l3 : wr.cell? ⟨b, off + j, none⟩ = some (.int .i64 y) := by rw [BW.out.cell (p := ⟨b, off + j, none⟩) hb]; exact hc'
        have hyg : l.getD (k - 1) 0 = y := by rw [← hj, Nat.add_sub_cancel, List.getD, hy]; rfl
        have HY := Lib.hid hyg
        have HZ := Lib.hid h0
        clear hc' hy hyg hb' h0
        by_cases hxy : x ≤ y
        · go_wp2
          go_ret
          exact ⟨ret_bool (risesB_no (k := k) hlt (by unfold risesAt; rw [HX.out, HY.out, decide_eq_false HZ.out, decide_eq_false (by omega)]; rfl)).symm, BW.out⟩
        · go_wp2
          go_roundg (l.length - (k + 1))
          case measure => omega
          case rel => exact ⟨k + 1, by omega, by omega, by go_num, BW.out, (show Aside _ by show risesTo l (k + 1) = true; rw [risesTo_succ, HH.out, risesAt, HX.out, HY.out, decide_eq_true (by omega : y < x)]; simp)⟩
    · have hltz : ¬ (k : Int) < (l.length : Int) := by omega
      have he : k = l.length := by omega
      have HE := Lib.hid he
      clear he
      go_wp2
      go_ret
      exact ⟨ret_bool (by unfold risesB; rw [← HE.out]; exact HH.out.symm), BW.out⟩
/-- Is the list a sample of the row? -/
def RwD.sampleB (r : RwD) (l : List Int) : Bool := (l.all fun p => inB p 0 (r.n - 1)) && (l.all fun p => r.lastB p.toNat) && risesB l
set_option maxRecDepth 100000 in
set_option maxHeartbeats 4000000 in
theorem isSample_any (r : RwM) (A : Option Addr) (c : Nat) (l : List Int) (w : World) (hr : r.At w w.heap.size) (hok : r.d.Ok) (hA : Sl w w.heap.size 1 encI A l) (hl : l.length ≤ 1000000) :
    Calls Try.prog 60 #[.agg r.cells.toArray, .slice A l.length c] w fun e w' => e = .returned (.bool (r.d.sampleB l)) ∧ Below w.heap.size w w' := by
  have l0 : Lies (w.alloc (.cells r.cells.toArray 34)) w.heap.size 34 r.cells.toArray := Lies.fresh _ _ _
  have b0 : Below w.heap.size w (w.alloc (.cells r.cells.toArray 34)) := (by repeat (first | (with_reducible assumption) | (with_reducible exact Below.refl _ _) | (with_reducible refine Below.drew ?_) | (with_reducible refine below_drewN ?_ _) | ((with_reducible refine Below.setCell ?_ ?_ _); rotate_left; focus (first | (simp; done) | (simp; omega) | omega)) | ((with_reducible refine Below.alloc ?_ ?_ _); rotate_left; focus (first | (simp; done) | (simp; omega) | omega))))
  have h0 : -1000000 ≤ r.n := by have := hok.n0; have h2 : r.d.n = r.n := rfl; omega
  have h1 : r.n ≤ 1000000 := by have := hok.n1; have h2 : r.d.n = r.n := rfl; omega
  have hP := fun W (hb : Below w.heap.size w W) => everyInt_any 86 #[.agg r.cells.toArray] #[] _ A c l W ((hA.below hb).more hb.size) (ask_plant r h0 h1 W (· ∈ l)) hl
  have hS := fun (hq : ∀ p, p ∈ l → inB p 0 (r.n - 1) = true) W (hb : Below w.heap.size w W) => everyInt_any 87 #[.agg r.cells.toArray] #[] (fun p => r.d.lastB p.toNat) A c l W ((hA.below hb).more hb.size) ⟨enters_sl, fun V x hx hv => by
    have h := inB_iff.1 (hq x hx)
    have hd : (r.dug.l.length : Int) = r.n := hok.dug
    have h2 := standsLast_any r x.toNat V (hr.below (hb.trans (hv.mono hb.size)) (hb.trans (hv.mono hb.size)).size) (by omega)
    rw [show ((x.toNat : Nat) : Int) = x by omega] at h2
    exact h2⟩ hl
  have hR := fun W (hb : Below w.heap.size w W) => rises_any A c l W ((hA.below hb).more hb.size) hl
  have hq : r.d.sampleB l = ((l.all fun p => inB p 0 (r.n - 1)) && (l.all fun p => r.d.lastB p.toNat) && risesB l) := rfl
  rw [hq]
  have hqa : (l.all fun p => inB p 0 (r.n - 1)) = true → ∀ p, p ∈ l → inB p 0 (r.n - 1) = true := fun h => List.all_eq_true.1 h
  have hS2 := fun h => hS (hqa h)
  generalize (l.all fun p => inB p 0 (r.n - 1)) = a at *
  generalize (l.all fun p => r.d.lastB p.toNat) = b at *
  generalize risesB l = z at *
  have L0 := Lib.hid l0
  have B0 := Lib.hid b0
  have HP := Lib.hid hP
  have HS := Lib.hid hS2
  have HR := Lib.hid hR
  clear l0 b0 hP hS hS2 hR hq hqa hr hok hA hl h0 h1
  cases a
  · go_enter Try.func60, Try.ntmps60
    go_upto_region 1 with (fail)
    change Code.wp _ _ _ _ (w.alloc (.cells r.cells.toArray 34))
    generalize w.alloc (.cells r.cells.toArray 34) = w0 at *
    go_wp2_with (first
      | (refine wpList_load_row (o := ⟨some 6, _, _, _, _, _⟩) ?_ 34 (.tmp 2) ?_ w.heap.size ?_ 34 r.cells.toArray (0, 0) _ L0.out Try.underlying34 rfl size_row ?_; rfl; rfl; rfl)
      | (go_at_call 68; refine (HP.out _ B0.out).mono ?_; rintro e w1 ⟨rfl, hb1⟩))
    go_ret
    exact ⟨rfl, B0.out.trans (hb1.mono B0.out.size)⟩
  · cases b
    · go_enter Try.func60, Try.ntmps60
      go_upto_region 1 with (fail)
      change Code.wp _ _ _ _ (w.alloc (.cells r.cells.toArray 34))
      generalize w.alloc (.cells r.cells.toArray 34) = w0 at *
      go_wp2_with (first
        | (refine wpList_load_row (o := ⟨some 6, _, _, _, _, _⟩) ?_ 34 (.tmp 2) ?_ w.heap.size ?_ 34 r.cells.toArray (0, 0) _ L0.out Try.underlying34 rfl size_row ?_; rfl; rfl; rfl)
        | ((fail_if_success (have hxx := B1)); go_at_call 68; refine (HP.out _ B0.out).mono ?_; rintro e w1 ⟨rfl, hb1⟩; have B1 := Lib.hid (B0.out.trans (hb1.mono B0.out.size)); have L1 := Lib.hid (L0.out.call hb1))
        | (refine wpList_load_rowG (o := ⟨some 11, _, _, _, _, _⟩) ?_ 34 (.tmp 2) ?_ w.heap.size ?_ 34 r.cells.toArray (0, 0) _ L1.out Try.underlying34 rfl size_row ?_; kernel_rfl; rfl; rfl)
        | (have hxx := B1; clear hxx; go_at_call 68; refine (HS.out (by simp) _ B1.out).mono ?_; rintro e w2 ⟨rfl, hb2⟩))
      go_ret
      exact ⟨rfl, B1.out.trans (hb2.mono B1.out.size)⟩
    · go_enter Try.func60, Try.ntmps60
      go_upto_region 1 with (fail)
      change Code.wp _ _ _ _ (w.alloc (.cells r.cells.toArray 34))
      generalize w.alloc (.cells r.cells.toArray 34) = w0 at *
      go_wp2_with (first
        | (refine wpList_load_row (o := ⟨some 6, _, _, _, _, _⟩) ?_ 34 (.tmp 2) ?_ w.heap.size ?_ 34 r.cells.toArray (0, 0) _ L0.out Try.underlying34 rfl size_row ?_; rfl; rfl; rfl)
        | ((fail_if_success (have hxx := B1)); go_at_call 68; refine (HP.out _ B0.out).mono ?_; rintro e w1 ⟨rfl, hb1⟩; have B1 := Lib.hid (B0.out.trans (hb1.mono B0.out.size)); have L1 := Lib.hid (L0.out.call hb1))
        | (refine wpList_load_rowG (o := ⟨some 11, _, _, _, _, _⟩) ?_ 34 (.tmp 2) ?_ w.heap.size ?_ 34 r.cells.toArray (0, 0) _ L1.out Try.underlying34 rfl size_row ?_; kernel_rfl; rfl; rfl)
        | ((fail_if_success (have hxx := B2)); have hxx := B1; clear hxx; go_at_call 68; refine (HS.out (by simp) _ B1.out).mono ?_; rintro e w2 ⟨rfl, hb2⟩; have B2 := Lib.hid (B1.out.trans (hb2.mono B1.out.size)))
        | (go_at_call 88; refine (HR.out _ B2.out).mono ?_; rintro e w3 ⟨rfl, hb3⟩))
      go_ret
      exact ⟨rfl, B2.out.trans (hb3.mono B2.out.size)⟩
end Go.Proofs.Ytkjhofbjjogmlaa

namespace Go.Proofs.Ytkjhofbjjogmlaa
open Go.RowKit Go.Lib

theorem isOnset_any (r : RwM) (g : Nat) (o : Int) (w : World) (h : Lies w g 34 r.cells.toArray) (_hl : r.ws.l.length ≤ 1000000) :
    Calls Try.prog 73 #[.int .i64 o, .pointer (some ⟨g, 0, none⟩)] w fun e w' => e = .returned (.bool (inB o (-1) r.ws.l.length)) ∧ Below w.heap.size w w' := by
  have a1 : w.cell? ⟨g, 1, none⟩ = some (.slice r.ws.A r.ws.l.length r.ws.c) := h.at_ 1
  clear h
  go_enter Try.func73, Try.ntmps73
  go_wp2_with (go_at_call 65; refine (within_any _ _ _ _).mono ?_; rintro e w' ⟨rfl, rfl⟩)
  all_goals (go_ret; exact ⟨rfl, (by repeat (first | (with_reducible assumption) | (with_reducible exact Below.refl _ _) | (with_reducible refine Below.drew ?_) | (with_reducible refine below_drewN ?_ _) | ((with_reducible refine Below.setCell ?_ ?_ _); rotate_left; focus (first | (simp; done) | (simp; omega) | omega)) | ((with_reducible refine Below.alloc ?_ ?_ _); rotate_left; focus (first | (simp; done) | (simp; omega) | omega))))⟩)
theorem ask_onset (r : RwM) (g : Nat) (w : World) (h : Lies w g 34 r.cells.toArray) (hl : r.ws.l.length ≤ 1000000) (D : Int → Prop) :
    Ask Try.prog (Value.int .i64) 73 #[] #[.pointer (some ⟨g, 0, none⟩)] (fun o => inB o (-1) r.ws.l.length) D w :=
  ⟨enters_of Try.func73 (by kernel_rfl) rfl, fun W x _ hb => isOnset_any r g x W (h.call hb) hl⟩
/-- Has the list an onset for each plant? -/
def RwD.onsB (r : RwD) (l : List Int) : Bool := decide ((l.length : Int) = r.n) && l.all fun o => inB o (-1) r.ws.length
set_option maxRecDepth 100000 in
set_option maxHeartbeats 4000000 in
theorem hasOnsets_any (r : RwM) (A : Option Addr) (c : Nat) (l : List Int) (w : World) (hA : Sl w w.heap.size 1 encI A l) (hl : l.length ≤ 1000000) (hlw : r.ws.l.length ≤ 1000000) :
    Calls Try.prog 49 #[.agg r.cells.toArray, .slice A l.length c] w fun e w' => e = .returned (.bool (r.d.onsB l)) ∧ Below w.heap.size w w' := by
  have l0 : Lies (w.alloc (.cells r.cells.toArray 34)) w.heap.size 34 r.cells.toArray := Lies.fresh _ _ _
  have b0 : Below w.heap.size w (w.alloc (.cells r.cells.toArray 34)) := (by repeat (first | (with_reducible assumption) | (with_reducible exact Below.refl _ _) | (with_reducible refine Below.drew ?_) | (with_reducible refine below_drewN ?_ _) | ((with_reducible refine Below.setCell ?_ ?_ _); rotate_left; focus (first | (simp; done) | (simp; omega) | omega)) | ((with_reducible refine Below.alloc ?_ ?_ _); rotate_left; focus (first | (simp; done) | (simp; omega) | omega))))
  have hq : r.d.onsB l = (((l.length : Int) == r.n) && l.all fun o => inB o (-1) r.ws.l.length) := by
    have e : ((l.length : Int) == r.n) = decide ((l.length : Int) = r.n) := by by_cases h : (l.length : Int) = r.n <;> simp [h]
    rw [e]; rfl
  rw [hq]
  have hE := fun W (hb : Below w.heap.size w W) (h : Lies W w.heap.size 34 r.cells.toArray) => everyInt_any 73 #[] #[.pointer (some ⟨w.heap.size, 0, none⟩)] _ A c l W ((hA.below hb).more hb.size) (ask_onset r w.heap.size W h hlw (· ∈ l)) hl
  generalize (l.all fun o => inB o (-1) r.ws.l.length) = y at *
  generalize hyn : ((l.length : Int) == r.n) = yn at *
  have L0 := Lib.hid l0
  have B0 := Lib.hid b0
  have HE := Lib.hid hE
  clear l0 b0 hE hA hq
  cases yn
  all_goals
    go_enter Try.func49, Try.ntmps49
    go_upto_region 1 with (fail)
    change Code.wp _ _ _ _ (w.alloc (.cells r.cells.toArray 34))
    generalize w.alloc (.cells r.cells.toArray 34) = w0 at *
    have a0 : w0.cell? ⟨w.heap.size, 0, none⟩ = some (.int .i64 r.n) := L0.out.at_ 0
    go_wp2_with (go_at_call 68; refine (HE.out _ B0.out L0.out).mono ?_; rintro e w1 ⟨rfl, hb1⟩)
    go_ret
  · exact ⟨rfl, B0.out⟩
  · exact ⟨rfl, B0.out.trans (hb1.mono B0.out.size)⟩
/-- Is the list a possible truth of the row? -/
def RwD.proveD (r : RwD) (l : List Int) : Bool := decide (r.fault = 0) && r.onsB l && r.possB r.wins (truthD l)
theorem onsB_at {r : RwD} {l : List Int} (h : r.onsB l = true) : (l.length : Int) = r.n ∧ ∀ o, o ∈ l → -1 ≤ o ∧ o ≤ r.ws.length := by
  unfold RwD.onsB at h
  rw [Bool.and_eq_true, decide_eq_true_eq, List.all_eq_true] at h
  exact ⟨h.1, fun o ho => inB_iff.1 (h.2 o ho)⟩
theorem truthD_at {l : List Int} (p : Nat) : (truthD l).getD p 0 = if h : p < l.length then in31 l[p] else if p < l.length + (10 - l.length) then 31 else 0 := by
  unfold truthD
  rw [List.getD]
  by_cases h : p < l.length
  · rw [List.getElem?_append_left (by simpa using h), List.getElem?_map, dif_pos h]; simp [h]
  · rw [List.getElem?_append_right (by simpa using h), dif_neg h, List.getElem?_replicate]
    simp only [List.length_map]
    by_cases h2 : p < l.length + (10 - l.length)
    · rw [if_pos h2, if_pos (by omega)]; rfl
    · rw [if_neg h2, if_neg (by omega)]; rfl
theorem truth_trw {r : RwD} {l : List Int} (hl : l.length ≤ 10) (h : ∀ o, o ∈ l → -1 ≤ o ∧ o ≤ r.ws.length) : TrW r.ws.length (truthD l) := by
  refine ⟨truthD_length hl, fun i => ?_⟩
  rw [truthD_at]
  split
  · rename_i hi
    have := h l[i] (List.getElem_mem hi)
    unfold in31
    split <;> omega
  · split <;> omega
set_option maxRecDepth 100000 in
set_option maxHeartbeats 4000000 in
theorem ProveTruth_any (r : RwM) (A : Option Addr) (c : Nat) (l : List Int) (w : World) (hr : r.At w w.heap.size) (hA : Sl w w.heap.size 1 encI A l) (hl : l.length ≤ 1000000) :
    Calls Try.prog 20 #[.agg r.cells.toArray, .slice A l.length c] w fun e w' => e = .returned (.bool (r.d.proveD l)) ∧ Below w.heap.size w w' := by
  have l0 : Lies (w.alloc (.cells r.cells.toArray 34)) w.heap.size 34 r.cells.toArray := Lies.fresh _ _ _
  have b0 : Below w.heap.size w (w.alloc (.cells r.cells.toArray 34)) := (by repeat (first | (with_reducible assumption) | (with_reducible exact Below.refl _ _) | (with_reducible refine Below.drew ?_) | (with_reducible refine below_drewN ?_ _) | ((with_reducible refine Below.setCell ?_ ?_ _); rotate_left; focus (first | (simp; done) | (simp; omega) | omega)) | ((with_reducible refine Below.alloc ?_ ?_ _); rotate_left; focus (first | (simp; done) | (simp; omega) | omega))))
  have hC := CheckRow_any r _ (hr.below b0 b0.size)
  have hO := fun W (hb : Below w.heap.size w W) => hasOnsets_any r A c l W ((hA.below hb).more hb.size) hl hr.lw
  have hT := fun W (hb : Below w.heap.size w W) (h10 : l.length ≤ 10) => truthOf_any A c l W ((hA.below hb).more hb.size) h10
  by_cases hf : r.d.fault = 0
  · cases hyo : r.d.onsB l with
    | false =>
      have hp : r.d.proveD l = false := by unfold RwD.proveD; rw [hyo]; simp
      rw [hp]
      rw [hf] at hC
      rw [hyo] at hO
      have HC := Lib.hid hC
      have HO := Lib.hid hO
      have L0 := Lib.hid l0
      have B0 := Lib.hid b0
      clear hC hO hT l0 b0 hr hA hf hyo hp
      go_enter Try.func20, Try.ntmps20
      go_upto_region 1 with (fail)
      change Code.wp _ _ _ _ (w.alloc (.cells r.cells.toArray 34))
      generalize w.alloc (.cells r.cells.toArray 34) = w0 at *
      go_wp2_with (first
        | (refine wpList_load_row (o := ⟨some 5, _, _, _, _, _⟩) ?_ 34 (.tmp 2) ?_ w.heap.size ?_ 34 r.cells.toArray (0, 0) _ L0.out Try.underlying34 rfl size_row ?_; rfl; rfl; rfl)
        | (go_at_call 17; refine HC.out.mono ?_; rintro e w1 ⟨rfl, hb1⟩; have L1 := Lib.hid (L0.out.call hb1); have B1 := Lib.hid (B0.out.trans (hb1.mono B0.out.size)))
        | (refine wpList_load_rowG (o := ⟨some 9, _, _, _, _, _⟩) ?_ 34 (.tmp 2) ?_ w.heap.size ?_ 34 r.cells.toArray (0, 0) _ L1.out Try.underlying34 rfl size_row ?_; kernel_rfl; rfl; rfl)
        | (go_at_call 49; refine (HO.out _ B1.out).mono ?_; rintro e w2 ⟨rfl, hb2⟩))
      go_ret
      exact ⟨rfl, B1.out.trans (hb2.mono B1.out.size)⟩
    | true =>
      obtain ⟨hok, hn, hd, hlw, hln⟩ := fault_ok hf
      have hfit : ∀ x, x ∈ r.ns.l → x.Fit := fun x hx => fit_of hok (hr.kn x hx).1 (hn x hx)
      have hsh := hok.sh
      have hold := hok.old
      obtain ⟨hln2, hon⟩ := onsB_at hyo
      have h10 : l.length ≤ 10 := by have := hok.n1; omega
      have htw := truth_trw h10 hon
      have hp : r.d.proveD l = r.d.possB r.d.wins (truthD l) := by unfold RwD.proveD; rw [hyo, hf]; simp
      rw [hp]
      have hQ := fun W (hb : Below w.heap.size w W) => follow_any r W (hr.below hb hb.size) hfit hsh.1 (by have := hsh.2; have h2 : r.d.sh = r.sh := rfl; omega) hold.1 (by have := hold.2; have h2 : r.d.old = r.old := rfl; omega)
      have hP := fun W (hb : Below w.heap.size w W) => isPossible_any ⟨r, r.d.wins⟩ (truthD l) W r.d.wins_length (hr.below hb hb.size) hok (htw.ok hlw) (fun p _ => by have := htw.b p; have h2 : r.d.ws.length = r.ws.l.length := rfl; show (truthD l).getD p 0 = 31 ∨ (truthD l).getD p 0 ≤ (r.ws.l.length : Int); omega)
      rw [hf] at hC
      rw [hyo] at hO
      have HC := Lib.hid hC
      have HO := Lib.hid hO
      have HT := Lib.hid (fun W hb => hT W hb h10)
      have HQ := Lib.hid hQ
      have HP := Lib.hid hP
      have L0 := Lib.hid l0
      have B0 := Lib.hid b0
      clear hC hO hT hQ hP l0 b0 hr hA hf hyo hp htw hok hn hd hlw hln hfit hsh hold hln2 hon h10
      go_enter Try.func20, Try.ntmps20
      go_upto_region 1 with (fail)
      change Code.wp _ _ _ _ (w.alloc (.cells r.cells.toArray 34))
      generalize w.alloc (.cells r.cells.toArray 34) = w0 at *
      go_wp2_with (first
        | (refine wpList_load_row (o := ⟨some 5, _, _, _, _, _⟩) ?_ 34 (.tmp 2) ?_ w.heap.size ?_ 34 r.cells.toArray (0, 0) _ L0.out Try.underlying34 rfl size_row ?_; rfl; rfl; rfl)
        | (go_at_call 17; refine HC.out.mono ?_; rintro e w1 ⟨rfl, hb1⟩; have L1 := Lib.hid (L0.out.call hb1); have B1 := Lib.hid (B0.out.trans (hb1.mono B0.out.size)))
        | (refine wpList_load_rowG (o := ⟨some 9, _, _, _, _, _⟩) ?_ 34 (.tmp 2) ?_ w.heap.size ?_ 34 r.cells.toArray (0, 0) _ L1.out Try.underlying34 rfl size_row ?_; kernel_rfl; rfl; rfl)
        | (go_at_call 49; refine (HO.out _ B1.out).mono ?_; rintro e w2 ⟨rfl, hb2⟩; have L2 := Lib.hid (L1.out.call hb2); have B2 := Lib.hid (B1.out.trans (hb2.mono B1.out.size)))
        | (refine wpList_load_rowG (o := ⟨some 14, _, _, _, _, _⟩) ?_ 34 (.tmp 2) ?_ w.heap.size ?_ 34 r.cells.toArray (0, 0) _ L2.out Try.underlying34 rfl size_row ?_; kernel_rfl; rfl; rfl)
        | (go_at_call 50; refine (HQ.out _ B2.out).mono ?_; rintro e w3 ⟨rfl, hb3⟩; have B3 := Lib.hid (B2.out.trans (hb3.mono B2.out.size)))
        | (go_at_call 52; refine (HT.out _ B3.out).mono ?_; rintro e w4 ⟨rfl, hb4⟩; have B4 := Lib.hid (B3.out.trans (hb4.mono B3.out.size)))
        | (go_at_call 51; refine (HP.out _ B4.out).mono ?_; rintro e w5 ⟨rfl, hb5⟩))
      go_ret
      exact ⟨rfl, B4.out.trans (hb5.mono B4.out.size)⟩
  · have hp : r.d.proveD l = false := by unfold RwD.proveD; simp [hf]
    rw [hp]
    have hf0 : (r.d.fault == 0) = false := by simpa using hf
    generalize r.d.fault = ft at *
    have HC := Lib.hid hC
    have L0 := Lib.hid l0
    have B0 := Lib.hid b0
    clear hC hO hT l0 b0 hr hA hf hp
    go_enter Try.func20, Try.ntmps20
    go_upto_region 1 with (fail)
    change Code.wp _ _ _ _ (w.alloc (.cells r.cells.toArray 34))
    generalize w.alloc (.cells r.cells.toArray 34) = w0 at *
    go_wp2_with (first
      | (refine wpList_load_row (o := ⟨some 5, _, _, _, _, _⟩) ?_ 34 (.tmp 2) ?_ w.heap.size ?_ 34 r.cells.toArray (0, 0) _ L0.out Try.underlying34 rfl size_row ?_; rfl; rfl; rfl)
      | (go_at_call 17; refine HC.out.mono ?_; rintro e w1 ⟨rfl, hb1⟩))
    go_ret
    exact ⟨rfl, B0.out.trans (hb1.mono B0.out.size)⟩
end Go.Proofs.Ytkjhofbjjogmlaa

namespace Go.Proofs.Ytkjhofbjjogmlaa
open Go.RowKit Go.Lib

/-- The windows, where some plants are spared. -/
def spareW (ws : List (Int × Int)) (S : List Bool) : List (Int × Int) := ws.mapIdx fun p w => if S.getD p false then andD w (31, 31) else w
theorem spareW_length (ws : List (Int × Int)) (S : List Bool) : (spareW ws S).length = ws.length := by simp [spareW]
theorem spareW_at (ws : List (Int × Int)) (S : List Bool) (p : Nat) (hp : p < ws.length) : winAt (spareW ws S) p = if S.getD p false then andD (winAt ws p) (31, 31) else winAt ws p := by
  unfold winAt spareW
  simp only [List.getD, List.getElem?_mapIdx, List.getElem?_eq_getElem hp, Option.map_some, Option.getD_some]
  rfl
theorem getD_setB (S : List Bool) (p i : Nat) (hp : p < S.length) : (S.set p true).getD i false = if i = p then true else S.getD i false := by
  simp only [List.getD, List.getElem?_set]
  by_cases e : p = i
  · subst e; rw [if_pos rfl, if_pos hp, if_pos rfl]; rfl
  · rw [if_neg e, if_neg (fun h => e h.symm)]
theorem spareW_set (ws : List (Int × Int)) (S : List Bool) (p : Nat) (hp : p < ws.length) (hs : p < S.length) (h : S.getD p false = false) : withoutD (spareW ws S) p = spareW ws (S.set p true) := by
  refine List.ext_getElem? fun i => ?_
  unfold withoutD
  rw [List.getElem?_set]
  by_cases e : p = i
  · subst e
    rw [if_pos rfl, if_pos (by rw [spareW_length]; exact hp), spareW_at _ _ _ hp, h]
    unfold spareW winAt
    rw [List.getElem?_mapIdx, List.getElem?_eq_getElem hp, Option.map_some, getD_setB S p p hs, if_pos rfl]
    simp [List.getD, List.getElem?_eq_getElem hp]
  · rw [if_neg e]
    unfold spareW
    rw [List.getElem?_mapIdx, List.getElem?_mapIdx, getD_setB S p i hs, if_neg (fun h => e h.symm)]
theorem spareW_none (ws : List (Int × Int)) : spareW ws (List.replicate 10 false) = ws := by
  refine List.ext_getElem? fun i => ?_
  unfold spareW
  rw [List.getElem?_mapIdx]
  have : (List.replicate 10 false).getD i false = false := by
    simp only [List.getD, List.getElem?_replicate]; split <;> rfl
  rw [this]; simp
theorem winD_spare (ws : List (Int × Int)) (S : List Bool) (p : Nat) (t : Int) (hp : p < ws.length) : winD (spareW ws S) p t = (winD ws p t && (!S.getD p false || decide (t = 31))) := by
  unfold winD
  rw [spareW_at _ _ _ hp]
  cases S.getD p false
  · simp
  · rw [if_pos rfl, Bool.eq_iff_iff]
    simp only [Bool.and_eq_true, inB_iff, Bool.not_true, Bool.false_or, decide_eq_true_eq]
    unfold andD
    dsimp only
    omega
/-- The ill plants that count, of a truth. -/
def RwD.illB (r : RwD) (t : List Int) : List Nat := (thoseD r.lastB r.dug.length).filter fun q => decide (t.getD q 0 ≤ r.ws.length)
/-- Of the earliest truth, where some are spared: can it be, and who is ill? -/
def RwD.canS (r : RwD) (ws : List (Int × Int)) (S : List Bool) : Bool := r.possB (spareW ws S) (r.earlyD (spareW ws S))
def RwD.illS (r : RwD) (ws : List (Int × Int)) (S : List Bool) : List Nat := r.illB (r.earlyD (spareW ws S))
section
variable {r : RwD} {ws : List (Int × Int)}
/-- What was tried is done with. -/
def Closed (r : RwD) (ws : List (Int × Int)) (T : List (List Bool)) (m : Nat) (S : List Bool) : Prop :=
  r.canS ws S = true → m ≤ (r.illS ws S).length ∧ ∀ p, p ∈ r.illS ws S → S.set p true ∈ T
theorem Closed.mono {T T' : List (List Bool)} {m m' : Nat} {S : List Bool} (h : Closed r ws T m S) (hT : ∀ x, x ∈ T → x ∈ T') (hm : m' ≤ m) : Closed r ws T' m' S :=
  fun hc => ⟨Nat.le_trans hm (h hc).1, fun p hp => hT _ ((h hc).2 p hp)⟩
/-- What a call of the search does to the sets that were tried, and the least number. -/
structure Tried (r : RwD) (ws : List (Int × Int)) (T : List (List Bool)) (m : Nat) (S : List Bool) (T' : List (List Bool)) (m' : Nat) : Prop where
  sub : ∀ x, x ∈ T → x ∈ T'
  mem : S ∈ T'
  le : m' ≤ m
  cl : ∀ x, x ∈ T' → x ∉ T → Closed r ws T' m' x
  at_ : m' = m ∨ ∃ x, r.canS ws x = true ∧ (r.illS ws x).length = m'
theorem Tried.hit {T : List (List Bool)} {m : Nat} {S : List Bool} (h : S ∈ T) : Tried r ws T m S T m := ⟨fun _ h => h, h, Nat.le_refl _, fun _ h h2 => absurd h h2, .inl rfl⟩
theorem Tried.sick {T : List (List Bool)} {m : Nat} {S : List Bool} (h : r.canS ws S = false) : Tried r ws T m S (S :: T) m :=
  ⟨fun _ h => List.mem_cons_of_mem _ h, List.mem_cons_self, Nat.le_refl _, fun x hx hn => by
    rcases List.mem_cons.1 hx with rfl | hx
    · intro hc; rw [h] at hc; cases hc
    · exact absurd hx hn, .inl rfl⟩
/-- In the loop over those who are ill. -/
structure TryL (r : RwD) (ws : List (Int × Int)) (T : List (List Bool)) (m : Nat) (S : List Bool) (k : Nat) (T' : List (List Bool)) (m' : Nat) : Prop where
  sub : ∀ x, x ∈ S :: T → x ∈ T'
  le : m' ≤ m
  li : m' ≤ (r.illS ws S).length
  cl : ∀ x, x ∈ T' → x ∉ S :: T → Closed r ws T' m' x
  dn : ∀ j p, j < k → (r.illS ws S)[j]? = some p → S.set p true ∈ T'
  at_ : m' = m ∨ ∃ x, r.canS ws x = true ∧ (r.illS ws x).length = m'
theorem TryL.start {T : List (List Bool)} {m : Nat} {S : List Bool} (h : r.canS ws S = true) : TryL r ws T m S 0 (S :: T) (min m (r.illS ws S).length) :=
  ⟨fun _ h => h, Nat.min_le_left _ _, Nat.min_le_right _ _, fun _ h h2 => absurd h h2, fun _ _ h => absurd h (Nat.not_lt_zero _), by
    by_cases e : m ≤ (r.illS ws S).length
    · exact .inl (Nat.min_eq_left e)
    · exact .inr ⟨S, h, (Nat.min_eq_right (by omega)).symm⟩⟩
theorem TryL.next {T T1 T2 : List (List Bool)} {m m1 m2 k p : Nat} {S : List Bool} (h : TryL r ws T m S k T1 m1) (hp : (r.illS ws S)[k]? = some p) (ht : Tried r ws T1 m1 (S.set p true) T2 m2) : TryL r ws T m S (k + 1) T2 m2 := by
  refine ⟨fun x hx => ht.sub x (h.sub x hx), Nat.le_trans ht.le h.le, Nat.le_trans ht.le h.li, fun x hx hn => ?_, fun j q hj hq => ?_, ?_⟩
  · by_cases e : x ∈ T1
    · exact (h.cl x e hn).mono ht.sub ht.le
    · exact ht.cl x hx e
  · by_cases e : j = k
    · subst e; rw [hp] at hq; cases hq; exact ht.mem
    · exact ht.sub _ (h.dn j q (by omega) hq)
  · rcases ht.at_ with e | e
    · rw [e]; exact h.at_
    · exact .inr e
theorem TryL.done {T T1 : List (List Bool)} {m m1 : Nat} {S : List Bool} (h : TryL r ws T m S (r.illS ws S).length T1 m1) : Tried r ws T m S T1 m1 := by
  refine ⟨fun x hx => h.sub x (List.mem_cons_of_mem _ hx), h.sub S List.mem_cons_self, h.le, fun x hx hn => ?_, h.at_⟩
  by_cases e : x = S
  · subst e
    exact fun _ => ⟨h.li, fun p hp => by
      obtain ⟨j, hj, rfl⟩ := List.getElem_of_mem hp
      exact h.dn j _ hj (by simp [hj])⟩
  · exact h.cl x hx (by simp [e, hn])
end
def falses (S : List Bool) : Nat := (S.filter (! ·)).length
theorem falses_set : ∀ {S : List Bool} {p : Nat}, S.getD p false = false → p < S.length → falses (S.set p true) + 1 = falses S
  | [], _, _, h => by simp at h
  | b :: S, 0, h, _ => by
    have : b = false := by simpa using h
    subst this
    simp [falses]
  | b :: S, p + 1, h, hp => by
    have ih := falses_set (S := S) (p := p) (by simpa using h) (by simpa using hp)
    unfold falses at *
    cases b <;> simp_all <;> omega
theorem mem_illB {r : RwD} {t : List Int} {p : Nat} : p ∈ r.illB t ↔ (p < r.dug.length ∧ r.lastB p = true) ∧ t.getD p 0 ≤ r.ws.length := by
  unfold RwD.illB thoseD
  rw [List.mem_filter, List.mem_filter, List.mem_range, decide_eq_true_eq]
theorem illB_nodup {r : RwD} {t : List Int} : (r.illB t).Nodup := by
  unfold RwD.illB thoseD
  exact (List.nodup_range.filter _).filter _
/-- Who is spared is not ill. -/
theorem ill_free {r : RwD} (hok : r.Ok) {ws : List (Int × Int)} (hws : ws.length = 10) {S : List Bool} (hc : r.canS ws S = true) {p : Nat} (hp : p ∈ r.illS ws S) : S.getD p false = false ∧ p < 10 := by
  obtain ⟨⟨h1, h2⟩, h3⟩ := mem_illB.1 hp
  have hn10 : r.dug.length ≤ 10 := by have := hok.dug; have := hok.n1; omega
  have hw30 := hok.nw
  refine ⟨?_, by omega⟩
  have h := all_range.1 hc p h1
  unfold RwD.possAt at h
  rw [Bool.and_eq_true, winD_spare _ _ _ _ (by omega), Bool.and_eq_true, Bool.or_eq_true, decide_eq_true_eq] at h
  rcases h.1.2 with h4 | h4
  · simpa using h4
  · omega
/-- A truth is possible where those are spared that it spares. -/
theorem poss_set {r : RwD} {ws : List (Int × Int)} (hws : ws.length = 10) (hn10 : r.dug.length ≤ 10) {S : List Bool} (hS : S.length = 10) {t : List Int} (ht : r.possB (spareW ws S) t = true) {p : Nat} (hp : t.getD p 0 = 31) (hp10 : p < 10) : r.possB (spareW ws (S.set p true)) t = true := by
  refine all_range.2 fun q hq => ?_
  have h := all_range.1 ht q hq
  unfold RwD.possAt at *
  rw [Bool.and_eq_true, winD_spare _ _ _ _ (by omega), Bool.and_eq_true, Bool.or_eq_true] at *
  refine ⟨⟨h.1.1, ?_⟩, h.2⟩
  rw [getD_setB S p q (by omega)]
  split
  · rename_i e; subst e; right; simpa using hp
  · exact h.1.2
theorem poss_of_spare {r : RwD} {ws : List (Int × Int)} (hws : ws.length = 10) (hn10 : r.dug.length ≤ 10) {S : List Bool} {t : List Int} (ht : r.possB (spareW ws S) t = true) : r.possB ws t = true := by
  refine all_range.2 fun q hq => ?_
  have h := all_range.1 ht q hq
  unfold RwD.possAt at *
  rw [Bool.and_eq_true, winD_spare _ _ _ _ (by omega), Bool.and_eq_true] at h
  rw [Bool.and_eq_true]
  exact ⟨h.1.1, h.2⟩
theorem length_le_sub {l m : List Nat} (hl : l.Nodup) (h : ∀ x, x ∈ l → x ∈ m) : l.length ≤ m.length := by
  induction l generalizing m with
  | nil => simp
  | cons x l ih =>
    have hx := h x (by simp)
    have h2 := ih (List.nodup_cons.1 hl).2 (m := m.erase x) (fun y hy => (List.mem_erase_of_ne (show y ≠ x from fun e => (List.nodup_cons.1 hl).1 (by subst e; exact hy))).2 (h y (by simp [hy])))
    rw [List.length_erase_of_mem hx] at h2
    have := List.length_pos_of_mem hx
    simp; omega
/-- No truth has fewer. -/
theorem tried_least {r : RwD} (hok : r.Ok) {ws : List (Int × Int)} (hws : ws.length = 10) {T : List (List Bool)} {m : Nat} (hT : ∀ x, x ∈ T → Closed r ws T m x) {t : List Int} (hTr : TrW r.ws.length t) :
    ∀ k (S : List Bool), falses S = k → S.length = 10 → S ∈ T → r.possB (spareW ws S) t = true → m ≤ (r.illB t).length := by
  have hn10 : r.dug.length ≤ 10 := by have := hok.dug; have := hok.n1; omega
  intro k
  induction k with
  | zero =>
    intro S hk hl hm ht
    have hc : r.canS ws S = true := early_can hok hTr ht
    obtain ⟨h1, h2⟩ := hT S hm hc
    refine Nat.le_trans h1 (length_le_sub illB_nodup fun p hp => ?_)
    obtain ⟨hf, h10⟩ := ill_free hok hws hc hp
    have := falses_set hf (by omega)
    omega
  | succ k ih =>
    intro S hk hl hm ht
    have hc : r.canS ws S = true := early_can hok hTr ht
    obtain ⟨h1, h2⟩ := hT S hm hc
    by_cases hall : ∀ p, p ∈ r.illS ws S → p ∈ r.illB t
    · exact Nat.le_trans h1 (length_le_sub illB_nodup hall)
    · obtain ⟨p, hp⟩ := Classical.not_forall.1 hall
      obtain ⟨hp, hnp⟩ := Classical.not_imp.1 hp
      obtain ⟨hf, h10⟩ := ill_free hok hws hc hp
      have hmb := (mem_illB.1 hp).1
      have h31 : t.getD p 0 = 31 := by
        refine (hTr.b p).resolve_right fun h => hnp (mem_illB.2 ⟨hmb, h.2⟩)
      have := falses_set hf (by omega)
      exact ih (S.set p true) (by omega) (by rw [List.length_set]; exact hl) (h2 p hp) (poss_set hws hn10 hl ht h31 h10)
/-- What the search finds is the least number of all truths, if one is possible. -/
structure Least (r : RwD) (ws : List (Int × Int)) (m : Nat) : Prop where
  le : ∀ t, TrW r.ws.length t → r.possB ws t = true → m ≤ (r.illB t).length
  at_ : ∃ t, TrW r.ws.length t ∧ r.possB ws t = true ∧ (r.illB t).length = m
theorem tried_all {r : RwD} (hok : r.Ok) {ws : List (Int × Int)} (hws : ws.length = 10) (hc : r.possB ws (r.earlyD ws) = true) {T : List (List Bool)} {m : Nat} (h : Tried r ws [] r.dug.length (List.replicate 10 false) T m) : Least r ws m := by
  have hn10 : r.dug.length ≤ 10 := by have := hok.dug; have := hok.n1; omega
  have hcl : ∀ x, x ∈ T → Closed r ws T m x := fun x hx => h.cl x hx (by simp)
  have hc0 : r.canS ws (List.replicate 10 false) = true := by unfold RwD.canS; rw [spareW_none]; exact hc
  refine ⟨fun t hTr ht => tried_least hok hws hcl hTr _ (List.replicate 10 false) rfl (by simp) h.mem (by rw [spareW_none]; exact ht), ?_⟩
  have key : ∃ x, r.canS ws x = true ∧ (r.illS ws x).length = m := by
    rcases h.at_ with e | e
    · refine ⟨_, hc0, ?_⟩
      have h1 := (hcl _ h.mem hc0).1
      have h2 : (r.illS ws (List.replicate 10 false)).length ≤ r.dug.length := by
        unfold RwD.illS RwD.illB thoseD
        exact Nat.le_trans (List.length_filter_le _ _) (Nat.le_trans (List.length_filter_le _ _) (by simp))
      omega
    · exact e
  obtain ⟨x, hx, he⟩ := key
  exact ⟨r.earlyD (spareW ws x), early_ok r _, poss_of_spare hws hn10 hx, he⟩
end Go.Proofs.Ytkjhofbjjogmlaa

namespace Go.Proofs.Ytkjhofbjjogmlaa
open Go.RowKit Go.Lib

theorem in_and (t : Int) (a b : Int × Int) : inB t (andD a b).1 (andD a b).2 = (inB t a.1 a.2 && inB t b.1 b.2) := by
  rw [Bool.eq_iff_iff, Bool.and_eq_true, inB_iff, inB_iff, inB_iff]
  unfold andD
  dsimp only
  omega
theorem winAt_set (ws : List (Int × Int)) (i p : Nat) (y : Int × Int) : winAt (ws.set i y) p = if p = i ∧ i < ws.length then y else winAt ws p := by
  unfold winAt
  simp only [List.getD, List.getElem?_set]
  by_cases e : i = p
  · subst e
    by_cases h : i < ws.length
    · simp [h]
    · simp [h]
  · rw [if_neg e, if_neg (fun h => e h.1.symm)]
theorem winD_note (sh old : Int) (ws : List (Int × Int)) (n : Nt) (hn : n.p.toNat < ws.length) (p : Nat) (t : Int) :
    winD (noteD sh old ws n) p t = (winD ws p t && (!decide (p = n.p.toNat) || inB t (alwD sh old n).1 (alwD sh old n).2)) := by
  unfold winD noteD
  rw [winAt_set]
  by_cases e : p = n.p.toNat
  · rw [if_pos ⟨e, hn⟩, in_and, e]; simp
  · rw [if_neg (fun h => e h.1)]; simp [e]
/-- What a window allows, each note of the plant allows. -/
theorem winD_noted (sh old : Int) (p : Nat) (t : Int) : ∀ (ns : List Nt) (ws : List (Int × Int)), (∀ n, n ∈ ns → n.p.toNat < ws.length) → winD (notedD sh old ws ns) p t = true →
    winD ws p t = true ∧ ∀ n, n ∈ ns → p = n.p.toNat → inB t (alwD sh old n).1 (alwD sh old n).2 = true
  | [], ws, _, h => ⟨h, fun n hn => by cases hn⟩
  | n :: ns, ws, hl, h => by
    unfold notedD at h
    rw [List.foldl_cons] at h
    have hn := hl n (by simp)
    have ih := winD_noted sh old p t ns (noteD sh old ws n) (fun m hm => by rw [noteD_length]; exact hl m (by simp [hm])) h
    have h1 := ih.1
    rw [winD_note sh old ws n hn, Bool.and_eq_true, Bool.or_eq_true] at h1
    refine ⟨h1.1, fun m hm e => ?_⟩
    rcases List.mem_cons.1 hm with rfl | hm
    · exact h1.2.resolve_left (by simp [e])
    · exact ih.2 m hm e
theorem winD_without (ws : List (Int × Int)) (p : Nat) (hp : p < ws.length) (t : Int) : winD (withoutD ws p) p t = (winD ws p t && decide (t = 31)) := by
  unfold winD withoutD
  rw [winAt_set, if_pos ⟨rfl, hp⟩, in_and]
  congr 1
  rw [Bool.eq_iff_iff, inB_iff, decide_eq_true_eq]
  omega
theorem note_plant {r : RwD} (hok : r.Ok) {x : Nt} (h : r.haveB x = true) : x.p.toNat < r.dug.length ∧ 1 ≤ x.w ∧ x.w ≤ r.ws.length := by
  unfold RwD.haveB at h
  simp only [Bool.and_eq_true, inB_iff] at h
  have := hok.dug
  omega
end Go.Proofs.Ytkjhofbjjogmlaa

namespace Go.Proofs.Ytkjhofbjjogmlaa
open Go.RowKit Go.Lib

/-- A row with one note more. -/
def RwD.more (r : RwD) (x : Nt) : RwD := { r with ns := r.ns ++ [x] }
section
variable {r : RwD} {x : Nt}
/-- Where the windows are wider, more is possible. -/
theorem poss_wide {ws wx : List (Int × Int)} (h : ∀ p t, winD wx p t = true → winD ws p t = true) {t : List Int} (ht : r.possB wx t = true) : r.possB ws t = true := by
  refine all_range.2 fun q hq => ?_
  have hp := all_range.1 ht q hq
  unfold RwD.possAt at *
  rw [Bool.and_eq_true] at *
  exact ⟨h _ _ hp.1, hp.2⟩
theorem winD_without' (ws : List (Int × Int)) (p : Nat) (hp : p < ws.length) (q : Nat) (t : Int) : winD (withoutD ws p) q t = (winD ws q t && (!decide (q = p) || decide (t = 31))) := by
  by_cases e : q = p
  · subst e; rw [winD_without ws q hp]; simp
  · unfold winD withoutD
    rw [winAt_set, if_neg (fun h => e h.1)]
    simp [e]
end
end Go.Proofs.Ytkjhofbjjogmlaa

namespace Go.Proofs.Ytkjhofbjjogmlaa
open Go.RowKit Go.Lib

/-- Known of a row from Row. -/
theorem Known_of {r q : RwM} {w W : World} (hq : LawR r w q W) (hb : r.d.err = 0) : Calls Try.prog 27 #[.agg q.cells.toArray] W (RetE8 r.d.knowns W) := by
  have := Known_yes q W hq.at_ (by rw [hq.d]; exact hb)
  rwa [hq.d] at this
theorem Known_of_no {r q : RwM} {w W : World} (hq : LawR r w q W) (hb : r.d.err ≠ 0) : Calls Try.prog 27 #[.agg q.cells.toArray] W (NoE r.d.err W) := by
  have := Known_no q W hq.at_ (by rw [hq.d]; exact hb)
  rwa [hq.d] at this
end Go.Proofs.Ytkjhofbjjogmlaa

namespace Go.Proofs.Ytkjhofbjjogmlaa
open Go.RowKit Go.Lib

/-- Block g holds the row q, all of it in memory made behind w; its notes and its weeks of digging are its own. -/
structure RowX (w : World) (g B2 : Nat) (q : RwM) (W : World) : Prop where
  o : Lies W g 34 q.cells.toArray
  b : Below w.heap.size w W
  g0 : w.heap.size ≤ g
  B0 : w.heap.size ≤ B2
  B1 : B2 ≤ W.heap.size
  ws : Sl W B2 2 encW q.ws.A q.ws.l
  wg : ∀ a, q.ws.A = some a → w.heap.size ≤ a.block ∧ a.block ≠ g
  ap : ∀ a b, q.ws.A = some a → q.dug.A = some b → b.block < a.block
  dg : W.ownsRow w.heap.size 3 1 (.slice q.dug.A q.dug.l.length q.dug.c) q.dug.l.length (q.dug.l.flatMap encI)
  db : ∀ a, q.dug.A = some a → a.block < B2
  ns : W.ownsRow B2 61 4 (.slice q.ns.A q.ns.l.length q.ns.c) q.ns.l.length (q.ns.l.flatMap encN)
  lw : q.ws.l.length ≤ 35
  ln : q.ns.l.length ≤ 46
  ld : q.dug.l.length ≤ 15
  kn : ∀ x, x ∈ q.ns.l → 0 ≤ x.k ∧ x.k ≤ 255
  nn : q.dug.A = none → q.dug.l.length = 0 ∧ q.dug.c = 0
theorem row_ne_int : (34 : TypeId) ≠ 3 := by decide
theorem row_ne_note : (34 : TypeId) ≠ 61 := by decide
theorem RowX.of {r q : RwM} {d V V' W w : World} {g : Nat} (h : LawR r d q V) (hb : Below V.heap.size V V') (ho : Only g V' W) (hl : Lies W g 34 q.cells.toArray)
    (hg : g < d.heap.size ∨ V.heap.size ≤ g) (h5 : Below w.heap.size w V') (hd : w.heap.size ≤ d.heap.size) (hg5 : w.heap.size ≤ g) : ∃ B2, RowX w g B2 q W := by
  obtain ⟨B2, b1, b2, s1, s2, o3, hdb⟩ := h.own
  have hz := hb.size
  have hz2 := ho.size
  have hdV := h.b.size
  refine ⟨B2, hl, ho.below h5 hg5, hg5, by omega, by omega, ?_, fun a e => ?_, h.ap, ?_, hdb, ?_, h.nw.1, by have := h.nw.2.1; omega, h.nw.2.2, h.at_.kn, h.nn⟩
  · exact ho.slNe (s1.below (hb.mono b2)) (fun a e => by have := h.fw a e; omega)
  · have := h.fw a e; omega
  · exact ownsRow_base (own_keep (ownsRow_call h.dg hb) fun j hj => ho.block j (by obtain ⟨a, ha, rfl⟩ := own_blk hj; have := (own_at h.dg hj).1; have := hdb a ha; omega)) hd
  · exact own_keep (ownsRow_call o3 hb) fun j hj => ho.block j (by have := own_at o3 hj; omega)
section
variable {w W W' : World} {g B2 : Nat} {q : RwM}
theorem RowX.call (h : RowX w g B2 q W) (hb : Below W.heap.size W W') : RowX w g B2 q W' :=
  ⟨h.o.call hb, h.b.trans (hb.mono h.b.size), h.g0, h.B0, Nat.le_trans h.B1 hb.size, h.ws.below (hb.mono h.B1), h.wg, h.ap, ownsRow_call h.dg hb, h.db, ownsRow_call h.ns hb, h.lw, h.ln, h.ld, h.kn, h.nn⟩
theorem RowX.at_ (h : RowX w g B2 q W) : q.At W W.heap.size := by
  obtain ⟨_, _, e2, _, s2⟩ := Sl.of_own (enc := encI) (fun _ => rfl) h.dg rfl
  cases e2
  obtain ⟨_, _, e3, _, s3⟩ := Sl.of_own (enc := encN) (fun _ => rfl) h.ns rfl
  cases e3
  exact ⟨h.ws.more h.B1, s2, s3, by have := h.lw; omega, by have := h.ld; omega, by have := h.ln; omega, h.kn⟩
theorem RowX.grown (h : RowX w g B2 q W) (hg : W.grownBy W' (Value.slice q.ns.A q.ns.l.length q.ns.c).ownBlock) : Lies W' g 34 q.cells.toArray :=
  h.o.grown hg (fun e => by
    obtain ⟨_, _, cs, hcs⟩ := own_at h.ns e.symm
    exact lies_ne h.o hcs row_ne_note rfl)
/-- The notes, grown by an append, behind the row's own field. -/
theorem RowX.note (h : RowX w g B2 q W) (hb : Below B2 W W') (hg : W.grownBy W' (Value.slice q.ns.A q.ns.l.length q.ns.c).ownBlock) {A : Option Addr} {c : Nat} {x : Nt} (hx : 0 ≤ x.k ∧ x.k ≤ 255) (hl : q.ns.l.length ≤ 45)
    (ho : W'.ownsRow B2 61 4 (.slice A (q.ns.l ++ [x]).length c) (q.ns.l ++ [x]).length ((q.ns.l ++ [x]).flatMap encN)) :
    RowX w g B2 { q with ns := ⟨A, q.ns.l ++ [x], c⟩ } (W'.setCell ⟨g, 7, none⟩ (.slice A (q.ns.l ++ [x]).length c)) := by
  have hgo := h.grown hg
  have hO := Only.set g 7 W' (.slice A (q.ns.l ++ [x]).length c)
  have hz := hb.size
  refine ⟨?_, hO.below (h.b.trans (hb.mono h.B0)) h.g0, h.g0, h.B0, by have := h.B1; rw [hO.size]; omega, ?_, h.wg, h.ap, ?_, h.db, ?_, h.lw, by show (q.ns.l ++ [x]).length ≤ 46; rw [List.length_append]; simp; exact hl, h.ld, fun y hy => ?_, h.nn⟩
  · have h7 := hgo.set 7 (.slice A (q.ns.l ++ [x]).length c)
    unfold RwM.cells at *
    simpa using h7
  · exact hO.slNe (h.ws.below hb) (fun a e => (h.wg a e).2)
  · refine own_keep (ownsRow_below h.dg hb fun k hk => ?_) fun j hj => hO.block j (fun e => ?_)
    · obtain ⟨a, ha, rfl⟩ := own_blk hk; exact h.db a ha
    · subst e
      obtain ⟨_, _, cs, hcs⟩ := own_at h.dg hj
      exact lies_ne h.o hcs row_ne_int rfl
  · refine own_keep ho fun j hj => hO.block j (fun e => ?_)
    subst e
    obtain ⟨_, _, cs, hcs⟩ := own_at ho hj
    exact lies_ne hgo hcs row_ne_note rfl
  · rcases List.mem_append.1 hy with hy | hy
    · exact h.kn y hy
    · simp at hy; subst hy; exact hx
end
end Go.Proofs.Ytkjhofbjjogmlaa

namespace Go.Proofs.Ytkjhofbjjogmlaa
open Go.RowKit Go.Lib

end Go.Proofs.Ytkjhofbjjogmlaa

namespace Go.Proofs.Ytkjhofbjjogmlaa
open Go.RowKit Go.Lib

def Nt.turn (n : Int) (x : Nt) : Nt := { x with p := n - 1 - x.p }
def RwD.turn (r : RwD) : RwD := { r with dug := r.dug.reverse, ns := r.ns.map (Nt.turn r.n) }
section
variable {r : RwD}
theorem mem_src (hok : r.Ok) {p : Nat} {week : Int} (hp : p < r.dug.length) {q : Nat} : q ∈ r.srcD p week ↔ q < r.dug.length ∧ r.srcOk p week q = true ∧ (p : Int) - (r.wk week).f ≤ q ∧ (q : Int) ≤ p + (r.wk week).f := by
  have hd := hok.dug
  have hf : 0 ≤ (r.wk week).f := by
    unfold RwD.wk
    rw [List.getD]
    cases h : r.ws[(week - 1).toNat]? with
    | none => exact Int.le_refl _
    | some y => exact (hok.wk y (List.mem_of_getElem? h)).1
  unfold RwD.srcD RwD.srcFrom
  rw [List.mem_filter, List.mem_range'_1]
  unfold RwD.nearD RwD.farD
  constructor
  · rintro ⟨h1, h2⟩
    exact ⟨by omega, h2, by omega, by omega⟩
  · rintro ⟨h1, h2, h3, h4⟩
    exact ⟨by omega, h2⟩
/-- May a plant be spared? -/
theorem spare_iff (hok : r.Ok) {p : Nat} (hp : p < r.dug.length) : r.possB (withoutD r.wins p) (r.earlyD (withoutD r.wins p)) = true ↔ ∃ t, TrW r.ws.length t ∧ r.possB r.wins t = true ∧ t.getD p 0 = 31 := by
  have hd10 : r.dug.length ≤ 10 := by have := hok.dug; have := hok.n1; omega
  rw [can_iff hok]
  constructor
  · rintro ⟨t, hT, ht⟩
    refine ⟨t, hT, poss_wide (r := r) (fun q k h => ?_) ht, ?_⟩
    · rw [winD_without' _ _ (by rw [r.wins_length]; omega), Bool.and_eq_true] at h; exact h.1
    · have h := all_range.1 ht p hp
      unfold RwD.possAt at h
      rw [Bool.and_eq_true, winD_without' _ _ (by rw [r.wins_length]; omega), Bool.and_eq_true] at h
      simpa using h.1.2
  · rintro ⟨t, hT, ht, h31⟩
    refine ⟨t, hT, all_range.2 fun q hq => ?_⟩
    have h := all_range.1 ht q hq
    unfold RwD.possAt at *
    rw [Bool.and_eq_true] at *
    refine ⟨?_, h.2⟩
    rw [winD_without' _ _ (by rw [r.wins_length]; omega), h.1, Bool.true_and]
    by_cases e : q = p
    · subst e; rw [h31]; simp
    · simp [e]
end
end Go.Proofs.Ytkjhofbjjogmlaa
