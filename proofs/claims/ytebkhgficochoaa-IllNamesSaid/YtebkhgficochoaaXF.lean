/- The texts RK RL RX RM OPN OPR OPS, joined. -/
import Derived.Test.YtebkhgficochoaaXE
import Derived.Test.YtebkhgficochoaaXA
import Derived.ProofKit
import Derived.OpenShut
import Derived.Deep.Slices
import Derived.Carry
/- Surely ill: a note that says Yes; a test more. -/
namespace Go.Proofs.Ytebkhgficochoaa
open Go.RowKit Go.Lib

theorem in_and (t : Int) (a b : Int × Int) : inB t (andD a b).1 (andD a b).2 = (inB t a.1 a.2 && inB t b.1 b.2) := by
  rw [Bool.eq_iff_iff, Bool.and_eq_true, inB_iff, inB_iff, inB_iff]
  unfold andD
  dsimp only
  omega
theorem winAt_set (ws : List (Int × Int)) (i p : Nat) (y : Int × Int) : winAt (ws.set i y) p = if p = i ∧ i < ws.length then y else winAt ws p := by
  unfold winAt
  simp only [List.getD, List.getElem?_set]
  by_cases e : i = p
  · subst e
    by_cases h : i < ws.length
    · simp [h]
    · simp [h]
  · rw [if_neg e, if_neg (fun h => e h.1.symm)]
theorem winD_note (sh old : Int) (ws : List (Int × Int)) (n : Nt) (hn : n.p.toNat < ws.length) (p : Nat) (t : Int) :
    winD (noteD sh old ws n) p t = (winD ws p t && (!decide (p = n.p.toNat) || inB t (alwD sh old n).1 (alwD sh old n).2)) := by
  unfold winD noteD
  rw [winAt_set]
  by_cases e : p = n.p.toNat
  · rw [if_pos ⟨e, hn⟩, in_and, e]; simp
  · rw [if_neg (fun h => e h.1)]; simp [e]
/-- What a window allows, each note of the plant allows. -/
theorem winD_noted (sh old : Int) (p : Nat) (t : Int) : ∀ (ns : List Nt) (ws : List (Int × Int)), (∀ n, n ∈ ns → n.p.toNat < ws.length) → winD (notedD sh old ws ns) p t = true →
    winD ws p t = true ∧ ∀ n, n ∈ ns → p = n.p.toNat → inB t (alwD sh old n).1 (alwD sh old n).2 = true
  | [], ws, _, h => ⟨h, fun n hn => by cases hn⟩
  | n :: ns, ws, hl, h => by
    unfold notedD at h
    rw [List.foldl_cons] at h
    have hn := hl n (by simp)
    have ih := winD_noted sh old p t ns (noteD sh old ws n) (fun m hm => by rw [noteD_length]; exact hl m (by simp [hm])) h
    have h1 := ih.1
    rw [winD_note sh old ws n hn, Bool.and_eq_true, Bool.or_eq_true] at h1
    refine ⟨h1.1, fun m hm e => ?_⟩
    rcases List.mem_cons.1 hm with rfl | hm
    · exact h1.2.resolve_left (by simp [e])
    · exact ih.2 m hm e
theorem winD_without (ws : List (Int × Int)) (p : Nat) (hp : p < ws.length) (t : Int) : winD (withoutD ws p) p t = (winD ws p t && decide (t = 31)) := by
  unfold winD withoutD
  rw [winAt_set, if_pos ⟨rfl, hp⟩, in_and]
  congr 1
  rw [Bool.eq_iff_iff, inB_iff, decide_eq_true_eq]
  omega
theorem note_plant {r : RwD} (hok : r.Ok) {x : Nt} (h : r.haveB x = true) : x.p.toNat < r.dug.length ∧ 1 ≤ x.w ∧ x.w ≤ r.ws.length := by
  unfold RwD.haveB at h
  simp only [Bool.and_eq_true, inB_iff] at h
  have := hok.dug
  omega
/-- Of a plant of which a note says Yes it is known that it is ill. -/
theorem known_note {r : RwD} (hf : r.fault = 0) (hc : r.can = true) {x : Nt} (hx : x ∈ r.ns) (hy : x.y = true) : r.knownD r.wins r.earliest x.p.toNat = 1 := by
  obtain ⟨hok, hns, -, hlw, -⟩ := fault_ok hf
  obtain ⟨hp, hw1, hw2⟩ := note_plant hok (hns x hx)
  have hd10 : r.dug.length ≤ 10 := by have := hok.dug; have := hok.n1; omega
  have hall : ∀ n, n ∈ r.ns → n.p.toNat < anyD.length := fun n hn => by
    have := (note_plant hok (hns n hn)).1
    show n.p.toNat < 10
    omega
  have hno : ∀ t, winD r.wins x.p.toNat t = true → t ≤ 30 := fun t ht => by
    have h := (winD_noted r.sh r.old x.p.toNat t r.ns anyD hall ht).2 x hx rfl
    unfold alwD at h
    rw [if_pos hy, inB_iff] at h
    unfold yesD at h
    have := hok.sh
    dsimp only at h
    split at h <;> omega
  have he := all_range.1 hc x.p.toNat hp
  unfold RwD.possAt at he
  rw [Bool.and_eq_true] at he
  have he30 := hno _ he.1
  unfold RwD.knownD
  rw [if_neg (by omega), if_neg]
  intro h
  have h2 := all_range.1 h x.p.toNat hp
  unfold RwD.possAt at h2
  rw [Bool.and_eq_true, winD_without r.wins x.p.toNat (by rw [r.wins_length]; omega), Bool.and_eq_true, decide_eq_true_eq] at h2
  have := hno _ h2.1.1
  omega
/-- The row with a test more that says that a plant is ill. -/
def RwD.testYes (r : RwD) (p : Nat) : RwD := { r with ns := r.ns ++ [⟨p, r.ws.length, 1, true⟩] }
theorem testYes_fault {r : RwD} (hf : r.fault = 0) (hl : r.ns.length ≤ 39) {p : Nat} (hp : p < r.dug.length) (hw : 1 ≤ r.ws.length) (hs : stB (r.dg p) r.ws.length = true) : (r.testYes p).fault = 0 := by
  obtain ⟨hok, -, -, hlw, -⟩ := fault_ok hf
  have hv : r.validB = true := by
    unfold RwD.fault at hf
    split at hf
    · cases hf
    · split at hf
      · assumption
      · cases hf
  have hvx : (r.testYes p).validB = true := by
    unfold RwD.validB at *
    have hh : ∀ x, (r.testYes p).haveB x = r.haveB x := fun x => rfl
    have hn : (r.testYes p).ns.all (r.testYes p).haveB = (r.ns.all r.haveB && r.haveB ⟨p, r.ws.length, 1, true⟩) := by
      show (r.ns ++ [(⟨p, r.ws.length, 1, true⟩ : Nt)]).all (r.testYes p).haveB = _
      rw [List.all_append]
      simp only [List.all_cons, List.all_nil, Bool.and_true]
      rfl
    have hb : r.haveB ⟨p, r.ws.length, 1, true⟩ = true := by
      unfold RwD.haveB
      have hd := hok.dug
      simp only [Bool.and_eq_true]
      exact ⟨⟨⟨inB_iff.2 ⟨by omega, by omega⟩, inB_iff.2 ⟨by omega, by omega⟩⟩, hs⟩, by simp⟩
    rw [hn, hb, Bool.and_true]
    exact hv
  have hlx : (r.testYes p).ns.length ≤ 40 := by
    show (r.ns ++ [(⟨p, r.ws.length, 1, true⟩ : Nt)]).length ≤ 40
    rw [List.length_append]
    show r.ns.length + 1 ≤ 40
    omega
  exact fault_yes hlw hlx hvx
theorem testYes_wins (r : RwD) (p : Nat) : (r.testYes p).wins = noteD r.sh r.old r.wins ⟨p, r.ws.length, 1, true⟩ := by
  unfold RwD.wins RwD.testYes notedD
  dsimp only
  rw [List.foldl_append]
  rfl
theorem testYes_fall (r : RwD) (p : Nat) (t : List Int) (q : Nat) (k : Int) : (r.testYes p).fallB t q k = r.fallB t q k := rfl
/-- It is healthy just if with that test the row cannot be. -/
theorem known_healthy {r : RwD} (hf : r.fault = 0) (hc : r.can = true) (hl : r.ns.length ≤ 39) {p : Nat} (hp : p < r.dug.length) (hw : 1 ≤ r.ws.length) (hs : stB (r.dg p) r.ws.length = true) :
    r.knownD r.wins r.earliest p = 2 ↔ (r.testYes p).can = false := by
  obtain ⟨hok, -, -, hlw, -⟩ := fault_ok hf
  obtain ⟨hokx, -, -, -, -⟩ := fault_ok (testYes_fault hf hl hp hw hs)
  have hd10 : r.dug.length ≤ 10 := by have := hok.dug; have := hok.n1; omega
  have hwin : ∀ q t, winD (r.testYes p).wins q t = (winD r.wins q t && (!decide (q = p) || inB t 0 r.ws.length)) := fun q t => by
    rw [testYes_wins, winD_note _ _ _ _ (by rw [r.wins_length]; show ((p : Int)).toNat < 10; omega)]
    rfl
  have hk : r.knownD r.wins r.earliest p = 2 ↔ r.earliest.getD p 0 = 31 := by
    unfold RwD.knownD
    split
    · rename_i h; exact ⟨fun _ => h, fun _ => rfl⟩
    · rename_i h
      refine ⟨fun h2 => ?_, fun h2 => absurd h2 h⟩
      split at h2 <;> cases h2
  rw [hk, ← Bool.not_eq_true]
  constructor
  · intro he hcx
    obtain ⟨t, hT, ht⟩ := (can_iff hokx _).1 hcx
    have hpx := all_range.1 ht p hp
    unfold RwD.possAt at hpx
    rw [hwin, Bool.and_eq_true, Bool.and_eq_true, Bool.or_eq_true, inB_iff] at hpx
    have h3 := hpx.1.2.resolve_left (by simp)
    have htr : r.possB r.wins t = true := all_range.2 fun q hq => by
      have h := all_range.1 ht q hq
      unfold RwD.possAt at *
      rw [hwin, Bool.and_eq_true, Bool.and_eq_true] at h
      rw [Bool.and_eq_true]
      exact ⟨h.1.1, h.2⟩
    have := early_least hok hT htr p hp
    unfold RwD.earliest at he
    omega
  · intro hn
    refine Classical.byContradiction fun he => hn ?_
    refine early_can hokx (t := r.earliest) (early_ok r r.wins) (all_range.2 fun q hq => ?_)
    have h := all_range.1 hc q hq
    unfold RwD.possAt at *
    rw [Bool.and_eq_true] at *
    refine ⟨?_, h.2⟩
    rw [hwin, h.1, Bool.true_and, Bool.or_eq_true]
    by_cases e : q = p
    · right
      subst e
      rw [inB_iff]
      have := (earliest_ok (r := r)).b q
      omega
    · left; simp [e]
end Go.Proofs.Ytebkhgficochoaa

/- IllSure's walk: rows that may not be asked. -/
namespace Go.Proofs.Ytebkhgficochoaa
open Go.RowKit Go.Lib

set_option maxRecDepth 100000 in
set_option maxHeartbeats 8000000 in
theorem IllSure_unready (r : RwM) (pl : Nat) (w : World) (h : OpenRow r w) (hy : (r.d.thin && decide (r.d.fault = 0)) = false) : Calls Try.prog 10 #[.agg r.cells.toArray, .int .u8 pl] w fun e w' => e = .returned (.bool true) ∧ Below w.heap.size w w' := by
  have l0 : Lies (w.alloc (.cells r.cells.toArray 26)) w.heap.size 26 r.cells.toArray := Lies.fresh _ _ _
  have b0 : Below w.heap.size w (w.alloc (.cells r.cells.toArray 26)) := (by repeat (first | (with_reducible assumption) | (with_reducible exact Below.refl _ _) | (with_reducible refine Below.drew ?_) | (with_reducible refine below_drewN ?_ _) | ((with_reducible refine Below.setCell ?_ ?_ _); rotate_left; focus (first | (simp; done) | (simp; omega) | omega)) | ((with_reducible refine Below.alloc ?_ ?_ _); rotate_left; focus (first | (simp; done) | (simp; omega) | omega))))
  have hR := fun W hb => ready_no h hy (W := W) hb
  have HR := Lib.hid hR
  have L0 := Lib.hid l0
  have B0 := Lib.hid b0
  clear hR l0 b0 hy h
  go_enter Try.func10, Try.ntmps10
  go_upto_region 1 with (fail)
  change Code.wp _ _ _ _ (w.alloc (.cells r.cells.toArray 26))
  generalize w.alloc (.cells r.cells.toArray 26) = w0 at *
  go_wp2_with (first
    | (refine wpList_load_row (o := ⟨some 12, _, _, _, _, _⟩) ?_ 26 (.tmp 2) ?_ w.heap.size ?_ 26 r.cells.toArray (0, 0) _ L0.out Try.underlying26 rfl size_refrow ?_; rfl; rfl; rfl)
    | (go_at_call 38; refine (HR.out _ B0.out).mono ?_; rintro e w1 ⟨rfl, hb1⟩)
    | (go_at_call 16; refine (awake_any _).mono ?_; rintro e w2 ⟨rfl, hb2⟩))
  go_ret
  exact ⟨rfl, B0.out.trans ((hb1.trans (hb2.mono hb1.size)).mono B0.out.size)⟩
set_option maxRecDepth 100000 in
set_option maxHeartbeats 8000000 in
theorem IllSure_short (r : RwM) (pl : Nat) (w : World) (hr : r.At w w.heap.size) (hy : (r.d.thin && decide (r.d.fault = 0)) = true) (hz : r.ws.l.length = 0) : Calls Try.prog 10 #[.agg r.cells.toArray, .int .u8 pl] w fun e w' => e = .returned (.bool true) ∧ Below w.heap.size w w' := by
  have l0 : Lies (w.alloc (.cells r.cells.toArray 26)) w.heap.size 26 r.cells.toArray := Lies.fresh _ _ _
  have b0 : Below w.heap.size w (w.alloc (.cells r.cells.toArray 26)) := (by repeat (first | (with_reducible assumption) | (with_reducible exact Below.refl _ _) | (with_reducible refine Below.drew ?_) | (with_reducible refine below_drewN ?_ _) | ((with_reducible refine Below.setCell ?_ ?_ _); rotate_left; focus (first | (simp; done) | (simp; omega) | omega)) | ((with_reducible refine Below.alloc ?_ ?_ _); rotate_left; focus (first | (simp; done) | (simp; omega) | omega))))
  have hR := fun W (hb : Below w.heap.size w W) => ready_any r W (hr.below hb hb.size)
  rw [hy] at hR
  have HR := Lib.hid hR
  have L0 := Lib.hid l0
  have B0 := Lib.hid b0
  have hz0 : ((r.ws.l.length : Int) == 0) = true := by simp [hz]
  clear hR l0 b0 hy hr hz
  go_enter Try.func10, Try.ntmps10
  go_upto_region 1 with (fail)
  change Code.wp _ _ _ _ (w.alloc (.cells r.cells.toArray 26))
  generalize w.alloc (.cells r.cells.toArray 26) = w0 at *
  go_wp2_with (first
    | (refine wpList_load_row (o := ⟨some 12, _, _, _, _, _⟩) ?_ 26 (.tmp 2) ?_ w.heap.size ?_ 26 r.cells.toArray (0, 0) _ L0.out Try.underlying26 rfl size_refrow ?_; rfl; rfl; rfl)
    | (go_at_call 38; refine (HR.out _ B0.out).mono ?_; rintro e w1 ⟨rfl, hb1⟩; have a1 : w1.cell? ⟨w.heap.size, 1, none⟩ = some (.slice r.ws.A r.ws.l.length r.ws.c) := (L0.out.call hb1).at_ 1)
    | (go_at_call 16; refine (awake_any _).mono ?_; rintro e w2 ⟨rfl, hb2⟩))
  go_ret
  exact ⟨rfl, B0.out.trans ((hb1.trans (hb2.mono hb1.size)).mono B0.out.size)⟩
/-- Known of a row from Row. -/
theorem Known_of {r q : RwM} {w W : World} (hq : LawR r w q W) (hb : r.d.err = 0) : Calls Try.prog 27 #[.agg q.cells.toArray] W (RetE8 r.d.knowns W) := by
  have := Known_yes q W hq.at_ (by rw [hq.d]; exact hb)
  rwa [hq.d] at this
theorem Known_of_no {r q : RwM} {w W : World} (hq : LawR r w q W) (hb : r.d.err ≠ 0) : Calls Try.prog 27 #[.agg q.cells.toArray] W (NoE r.d.err W) := by
  have := Known_no q W hq.at_ (by rw [hq.d]; exact hb)
  rwa [hq.d] at this
set_option maxRecDepth 100000 in
set_option maxHeartbeats 8000000 in
theorem IllSure_sick (r : RwM) (pl : Nat) (w : World) (hr : r.At w w.heap.size) (ht : ThinM r) (hy : (r.d.thin && decide (r.d.fault = 0)) = true) (hz : r.ws.l.length ≠ 0) (he : r.d.err = 10) : Calls Try.prog 10 #[.agg r.cells.toArray, .int .u8 pl] w fun e w' => e = .returned (.bool true) ∧ Below w.heap.size w w' := by
  have l0 : Lies (w.alloc (.cells r.cells.toArray 26)) w.heap.size 26 r.cells.toArray := Lies.fresh _ _ _
  have b0 : Below w.heap.size w (w.alloc (.cells r.cells.toArray 26)) := (by repeat (first | (with_reducible assumption) | (with_reducible exact Below.refl _ _) | (with_reducible refine Below.drew ?_) | (with_reducible refine below_drewN ?_ _) | ((with_reducible refine Below.setCell ?_ ?_ _); rotate_left; focus (first | (simp; done) | (simp; omega) | omega)) | ((with_reducible refine Below.alloc ?_ ?_ _); rotate_left; focus (first | (simp; done) | (simp; omega) | omega))))
  have hR := fun W (hb : Below w.heap.size w W) => ready_any r W (hr.below hb hb.size)
  rw [hy] at hR
  have hW := fun W (h : Below w.heap.size w W) => lawRow_thin r W (hr.below h h.size) ht
  have hK := fun q w0 W (h : LawR r w0 q W) => Known_of_no h (by rw [he]; decide)
  rw [he] at hK
  have HR := Lib.hid hR
  have HW := Lib.hid hW
  have HK := Lib.hid hK
  have L0 := Lib.hid l0
  have B0 := Lib.hid b0
  have hz0 : ((r.ws.l.length : Int) == 0) = false := by
    have h : (r.ws.l.length : Int) ≠ 0 := by omega
    simpa using h
  clear hR l0 b0 hy hr hz hW hK ht he
  go_enter Try.func10, Try.ntmps10
  go_upto_region 1 with (fail)
  change Code.wp _ _ _ _ (w.alloc (.cells r.cells.toArray 26))
  generalize w.alloc (.cells r.cells.toArray 26) = w0 at *
  go_wp2_with (first
    | (refine wpList_load_row (o := ⟨some 12, _, _, _, _, _⟩) ?_ 26 (.tmp 2) ?_ w.heap.size ?_ 26 r.cells.toArray (0, 0) _ L0.out Try.underlying26 rfl size_refrow ?_; rfl; rfl; rfl)
    | (go_at_call 38; refine (HR.out _ B0.out).mono ?_; rintro e w1 ⟨rfl, hb1⟩; have B1 := Lib.hid (B0.out.trans (hb1.mono B0.out.size)); have L1 := Lib.hid (L0.out.call hb1); have a1 : w1.cell? ⟨w.heap.size, 1, none⟩ = some (.slice r.ws.A r.ws.l.length r.ws.c) := L1.out.at_ 1)
    | (refine wpList_load_row (o := ⟨some 23, _, _, _, _, _⟩) ?_ 26 (.tmp 2) ?_ w.heap.size ?_ 26 r.cells.toArray (0, 0) _ L1.out Try.underlying26 rfl size_refrow ?_; rfl; rfl; rfl)
    | (go_at_call 18; refine (HW.out _ B1.out).mono ?_; rintro e w2 ⟨q, rfl, hq⟩)
    | (go_at_call 27; refine (HK.out q _ _ hq).mono ?_; rintro e w3 ⟨rfl, hb3⟩; have B3 := Lib.hid (B1.out.trans ((hq.b.trans (hb3.mono hq.b.size)).mono B1.out.size)))
    | (go_at_call 16; refine (awake_any _).mono ?_; rintro e w4 ⟨rfl, hb4⟩))
  go_ret
  exact ⟨rfl, B3.out.trans (hb4.mono B3.out.size)⟩
end Go.Proofs.Ytebkhgficochoaa

/- A row from Row in a variable of the law's own. -/
namespace Go.Proofs.Ytebkhgficochoaa
open Go.RowKit Go.Lib

/-- Block g holds the row q, all of it in memory made behind w; its notes and its weeks of digging are its own. -/
structure RowX (w : World) (g B2 : Nat) (q : RwM) (W : World) : Prop where
  o : Lies W g 34 q.cells.toArray
  b : Below w.heap.size w W
  g0 : w.heap.size ≤ g
  B0 : w.heap.size ≤ B2
  B1 : B2 ≤ W.heap.size
  ws : Sl W B2 2 encW q.ws.A q.ws.l
  wg : ∀ a, q.ws.A = some a → w.heap.size ≤ a.block ∧ a.block ≠ g
  ap : ∀ a b, q.ws.A = some a → q.dug.A = some b → b.block < a.block
  dg : W.ownsRow w.heap.size 3 1 (.slice q.dug.A q.dug.l.length q.dug.c) q.dug.l.length (q.dug.l.flatMap encI)
  db : ∀ a, q.dug.A = some a → a.block < B2
  ns : W.ownsRow B2 61 4 (.slice q.ns.A q.ns.l.length q.ns.c) q.ns.l.length (q.ns.l.flatMap encN)
  lw : q.ws.l.length ≤ 35
  ln : q.ns.l.length ≤ 46
  ld : q.dug.l.length ≤ 15
  kn : ∀ x, x ∈ q.ns.l → 0 ≤ x.k ∧ x.k ≤ 255
  nn : q.dug.A = none → q.dug.l.length = 0 ∧ q.dug.c = 0
theorem row_ne_int : (34 : TypeId) ≠ 3 := by decide
theorem row_ne_note : (34 : TypeId) ≠ 61 := by decide
theorem RowX.of {r q : RwM} {d V V' W w : World} {g : Nat} (h : LawR r d q V) (hb : Below V.heap.size V V') (ho : Only g V' W) (hl : Lies W g 34 q.cells.toArray)
    (hg : g < d.heap.size ∨ V.heap.size ≤ g) (h5 : Below w.heap.size w V') (hd : w.heap.size ≤ d.heap.size) (hg5 : w.heap.size ≤ g) : ∃ B2, RowX w g B2 q W := by
  obtain ⟨B2, b1, b2, s1, s2, o3, hdb⟩ := h.own
  have hz := hb.size
  have hz2 := ho.size
  have hdV := h.b.size
  refine ⟨B2, hl, ho.below h5 hg5, hg5, by omega, by omega, ?_, fun a e => ?_, h.ap, ?_, hdb, ?_, h.nw.1, by have := h.nw.2.1; omega, h.nw.2.2, h.at_.kn, h.nn⟩
  · exact ho.slNe (s1.below (hb.mono b2)) (fun a e => by have := h.fw a e; omega)
  · have := h.fw a e; omega
  · exact ownsRow_base (own_keep (ownsRow_call h.dg hb) fun j hj => ho.block j (by obtain ⟨a, ha, rfl⟩ := own_blk hj; have := (own_at h.dg hj).1; have := hdb a ha; omega)) hd
  · exact own_keep (ownsRow_call o3 hb) fun j hj => ho.block j (by have := own_at o3 hj; omega)
section
variable {w W W' : World} {g B2 : Nat} {q : RwM}
theorem RowX.call (h : RowX w g B2 q W) (hb : Below W.heap.size W W') : RowX w g B2 q W' :=
  ⟨h.o.call hb, h.b.trans (hb.mono h.b.size), h.g0, h.B0, Nat.le_trans h.B1 hb.size, h.ws.below (hb.mono h.B1), h.wg, h.ap, ownsRow_call h.dg hb, h.db, ownsRow_call h.ns hb, h.lw, h.ln, h.ld, h.kn, h.nn⟩
theorem RowX.at_ (h : RowX w g B2 q W) : q.At W W.heap.size := by
  obtain ⟨_, _, e2, _, s2⟩ := Sl.of_own (enc := encI) (fun _ => rfl) h.dg rfl
  cases e2
  obtain ⟨_, _, e3, _, s3⟩ := Sl.of_own (enc := encN) (fun _ => rfl) h.ns rfl
  cases e3
  exact ⟨h.ws.more h.B1, s2, s3, by have := h.lw; omega, by have := h.ld; omega, by have := h.ln; omega, h.kn⟩
theorem RowX.grown (h : RowX w g B2 q W) (hg : W.grownBy W' (Value.slice q.ns.A q.ns.l.length q.ns.c).ownBlock) : Lies W' g 34 q.cells.toArray :=
  h.o.grown hg (fun e => by
    obtain ⟨_, _, cs, hcs⟩ := own_at h.ns e.symm
    exact lies_ne h.o hcs row_ne_note rfl)
/-- The notes, grown by an append, behind the row's own field. -/
theorem RowX.note (h : RowX w g B2 q W) (hb : Below B2 W W') (hg : W.grownBy W' (Value.slice q.ns.A q.ns.l.length q.ns.c).ownBlock) {A : Option Addr} {c : Nat} {x : Nt} (hx : 0 ≤ x.k ∧ x.k ≤ 255) (hl : q.ns.l.length ≤ 45)
    (ho : W'.ownsRow B2 61 4 (.slice A (q.ns.l ++ [x]).length c) (q.ns.l ++ [x]).length ((q.ns.l ++ [x]).flatMap encN)) :
    RowX w g B2 { q with ns := ⟨A, q.ns.l ++ [x], c⟩ } (W'.setCell ⟨g, 7, none⟩ (.slice A (q.ns.l ++ [x]).length c)) := by
  have hgo := h.grown hg
  have hO := Only.set g 7 W' (.slice A (q.ns.l ++ [x]).length c)
  have hz := hb.size
  refine ⟨?_, hO.below (h.b.trans (hb.mono h.B0)) h.g0, h.g0, h.B0, by have := h.B1; rw [hO.size]; omega, ?_, h.wg, h.ap, ?_, h.db, ?_, h.lw, by show (q.ns.l ++ [x]).length ≤ 46; rw [List.length_append]; simp; exact hl, h.ld, fun y hy => ?_, h.nn⟩
  · have h7 := hgo.set 7 (.slice A (q.ns.l ++ [x]).length c)
    unfold RwM.cells at *
    simpa using h7
  · exact hO.slNe (h.ws.below hb) (fun a e => (h.wg a e).2)
  · refine own_keep (ownsRow_below h.dg hb fun k hk => ?_) fun j hj => hO.block j (fun e => ?_)
    · obtain ⟨a, ha, rfl⟩ := own_blk hk; exact h.db a ha
    · subst e
      obtain ⟨_, _, cs, hcs⟩ := own_at h.dg hj
      exact lies_ne h.o hcs row_ne_int rfl
  · refine own_keep ho fun j hj => hO.block j (fun e => ?_)
    subst e
    obtain ⟨_, _, cs, hcs⟩ := own_at ho hj
    exact lies_ne hgo hcs row_ne_note rfl
  · rcases List.mem_append.1 hy with hy | hy
    · exact h.kn y hy
    · simp at hy; subst hy; exact hx
end
end Go.Proofs.Ytebkhgficochoaa

/- IllSure's walk: rows that may be asked. -/
namespace Go.Proofs.Ytebkhgficochoaa
open Go.RowKit Go.Lib

/-- The row from Row with one note more. -/
def RwM.noteM (q : RwM) (A : Option Addr) (c : Nat) (x : Nt) : RwM := { q with ns := ⟨A, q.ns.l ++ [x], c⟩ }
theorem noteM_d {r q : RwM} (h : q.d = r.d) (A : Option Addr) (c p : Nat) : (q.noteM A c ⟨p, r.ws.l.length, 1, true⟩).d = r.d.testYes p := by
  obtain ⟨n, ws, lag, sh, old, cl, dug, ns⟩ := q
  unfold RwM.noteM RwM.d RwD.testYes at *
  have h1 := congrArg RwD.n h
  have h2 := congrArg RwD.ws h
  have h3 := congrArg RwD.lag h
  have h4 := congrArg RwD.sh h
  have h5 := congrArg RwD.old h
  have h6 := congrArg RwD.cl h
  have h7 := congrArg RwD.dug h
  have h8 := congrArg RwD.ns h
  dsimp only at *
  simp only [h1, h2, h3, h4, h5, h6, h7, h8]
theorem knowns_at (r : RwD) {p : Nat} (hp : p < r.dug.length) : r.knowns[p]? = some (r.knownD r.wins r.earliest p) := by
  unfold RwD.knowns
  rw [List.getElem?_map, List.getElem?_range hp]
  rfl
set_option maxRecDepth 100000 in
set_option maxHeartbeats 8000000 in
theorem IllSure_main (r : RwM) (pl : Nat) (w : World) (hpl : pl ≤ 255) (hr : r.At w w.heap.size) (ht : ThinM r) (hy : (r.d.thin && decide (r.d.fault = 0)) = true) (hf : r.d.fault = 0) (hz : r.ws.l.length ≠ 0) (hc : r.d.can = true) : Calls Try.prog 10 #[.agg r.cells.toArray, .int .u8 pl] w fun e w' => e = .returned (.bool true) ∧ Below w.heap.size w w' := by
  obtain ⟨hok, hns, hdg, hlw, hln⟩ := fault_ok hf
  have l0 : Lies (w.alloc (.cells r.cells.toArray 26)) w.heap.size 26 r.cells.toArray := Lies.fresh _ _ _
  have b0 : Below w.heap.size w (w.alloc (.cells r.cells.toArray 26)) := (by repeat (first | (with_reducible assumption) | (with_reducible exact Below.refl _ _) | (with_reducible refine Below.drew ?_) | (with_reducible refine below_drewN ?_ _) | ((with_reducible refine Below.setCell ?_ ?_ _); rotate_left; focus (first | (simp; done) | (simp; omega) | omega)) | ((with_reducible refine Below.alloc ?_ ?_ _); rotate_left; focus (first | (simp; done) | (simp; omega) | omega))))
  have hR := fun W (hb : Below w.heap.size w W) => ready_any r W (hr.below hb hb.size)
  rw [hy] at hR
  have hW := fun W (h : Below w.heap.size w W) => lawRow_thin r W (hr.below h h.size) ht
  have hK := fun q w0 W (h : LawR r w0 q W) => Known_of h (err_ok hf hc)
  obtain ⟨N, hN⟩ : ∃ N, N = r.dug.l.length := ⟨_, rfl⟩
  have hnn : r.n = (N : Int) := by rw [hN]; exact hok.dug.symm
  have hN1 : 1 ≤ N := by have := hok.n0; have h2 : r.d.n = r.n := rfl; omega
  have hN10 : N ≤ 10 := by have := hok.n1; have h2 : r.d.n = r.n := rfl; omega
  have hlk : r.d.knowns.length = N := by unfold RwD.knowns; rw [List.length_map, List.length_range, hN]; rfl
  have hkn : ∀ x, x ∈ r.ns.l → ∃ p : Nat, x.p = (p : Int) ∧ p < N ∧ (x.y = true → r.d.knowns[p]? = some 1) := fun x hx => by
    obtain ⟨h1, -, -⟩ := note_plant hok (hns x hx)
    have h0 : 0 ≤ x.p := by
      have := hns x hx
      unfold RwD.haveB at this
      simp only [Bool.and_eq_true, inB_iff] at this
      omega
    refine ⟨x.p.toNat, by omega, by rw [hN]; exact h1, fun hy2 => ?_⟩
    rw [knowns_at r.d h1, known_note hf hc hx hy2]
  obtain ⟨Y, hY⟩ : ∃ Y, Y = r.ws.l.length := ⟨_, rfl⟩
  have hY1 : 1 ≤ Y := by omega
  have hY30 : Y ≤ 30 := by have : r.ws.l.length ≤ 30 := hlw; omega
  obtain ⟨p, hp⟩ : ∃ p, p = pl % N := ⟨_, rfl⟩
  have hpN : p < N := by rw [hp]; exact Nat.mod_lt _ (by omega)
  have hpd : p < r.dug.l.length := by rw [← hN]; exact hpN
  have hkp : r.d.knowns[p]? = some (r.d.knownD r.d.wins r.d.earliest p) := knowns_at r.d hpd
  have hS := fun W (hb : Below w.heap.size w W) => refStands_any r p (r.d.dg (p : Nat)) ((Y : Nat) : Int) W ((hr.dug.below hb).more hb.size) (by show r.dug.l[p]? = some (r.dug.l.getD p 0); simp [List.getD, hpd]) hr.ld
  have hhe : ∀ (h39 : r.d.ns.length ≤ 39) (hs : stB (r.d.dg (p : Nat)) Y = true), (r.d.testYes p).fault = 0 ∧ (r.d.knownD r.d.wins r.d.earliest p = 2 ↔ (r.d.testYes p).can = false) := fun h39 hs => by
    rw [hY] at hs
    exact ⟨testYes_fault hf h39 hpd (by show 1 ≤ r.ws.l.length; omega) hs, known_healthy hf hc h39 hpd (by show 1 ≤ r.ws.l.length; omega) hs⟩
  generalize r.d.knownD r.d.wins r.d.earliest p = kv at *
  generalize r.d.knowns = lk at *
  have hnz : (r.ns.l.length : Int) ≤ 45 := by have := ht.n; omega
  have hY0 : ((Y : Int) == 0) = false := by simp; omega
  have hYz : (Y : Int) ≤ 30 := by omega
  have hNz : (N : Int) ≤ 10 := by omega
  have hN0' : (N : Int) ≠ 0 := by omega
  have hplz : (pl : Int) ≤ 255 := by omega
  have hlkz : (lk.length : Int) = (N : Int) := by omega
  have hlkn : ((lk.length : Int) != (N : Int)) = false := by simp [hlkz]
  have hn0 : (0 : Int) ≤ (pl : Int) % (N : Int) := Int.emod_nonneg _ (by omega)
  have hn1 : (pl : Int) % (N : Int) ≤ 255 := by have := Int.emod_lt_of_pos (pl : Int) (show (0 : Int) < N by omega); omega
  have HPE := Lib.hid (show (pl : Int) % (N : Int) = (p : Int) by rw [hp]; simp)
  have HR := Lib.hid hR
  have HW := Lib.hid hW
  have HK := Lib.hid hK
  have HS := Lib.hid hS
  have HKN := Lib.hid hkn
  have HKP := Lib.hid hkp
  have HHE := Lib.hid hhe
  have HLK := Lib.hid hlk
  have L0 := Lib.hid l0
  have B0 := Lib.hid b0
  have HRR := Lib.hid hr
  have HT := Lib.hid ht
  have HNN := Lib.hid hnn
  have HNL := Lib.hid hN
  have HYL := Lib.hid hY
  clear hR hW hK hS hkn hkp hhe hlk l0 b0 hr ht hy hf hok hns hdg hlw hln hz hnn hN hY hc hp hpd hlkz
  go_enter Try.func10, Try.ntmps10
  go_upto_region 1 with (fail)
  change Code.wp _ _ _ _ (w.alloc (.cells r.cells.toArray 26))
  generalize w.alloc (.cells r.cells.toArray 26) = w0 at *
  go_upto_region 6 with (first
    | (refine wpList_load_row (o := ⟨some 12, _, _, _, _, _⟩) ?_ 26 (.tmp 2) ?_ w.heap.size ?_ 26 r.cells.toArray (0, 0) _ L0.out Try.underlying26 rfl size_refrow ?_; rfl; rfl; rfl)
    | (go_at_call 38; refine (HR.out _ B0.out).mono ?_; rintro e w1 ⟨rfl, hb1⟩; have L1 := Lib.hid (L0.out.call hb1); have B1 := Lib.hid (B0.out.trans (hb1.mono B0.out.size)); have a1 : w1.cell? ⟨w.heap.size, 1, none⟩ = some (.slice r.ws.A Y r.ws.c) := by rw [HYL.out]; exact L1.out.at_ 1)
    | (refine wpList_load_row (o := ⟨some 23, _, _, _, _, _⟩) ?_ 26 (.tmp 2) ?_ w.heap.size ?_ 26 r.cells.toArray (0, 0) _ L1.out Try.underlying26 rfl size_refrow ?_; rfl; rfl; rfl)
    | (go_at_call 18; refine (HW.out _ B1.out).mono ?_; rintro e w2 ⟨q, rfl, hq⟩)
    | (go_at_call 27; refine (HK.out q _ _ hq).mono ?_; rintro e w3 ⟨A5, c5, rfl, hA5, hS5, hb3⟩))
  have hb31 := hq.b.trans (hb3.mono hq.b.size)
  have L3 := Lib.hid (L1.out.call hb31)
  have B3 := Lib.hid (B1.out.trans (hb31.mono B1.out.size))
  obtain ⟨x0, hx0⟩ : ∃ x, lk[0]? = some x := ⟨lk[0]'(by have := HLK.out; omega), by simp⟩
  obtain ⟨kb, ko, hA5e, hkb, -⟩ := hS5.cell8 hx0
  subst hA5e
  have S3 := Lib.hid hS5
  clear hb31 hb3 hq hb1 hA5 hS5 hx0 L0 B0 L1 B1 a1 HR HK
  have a0 : w3.cell? ⟨w.heap.size, 0, none⟩ = some (.int .i64 N) := by rw [← HNN.out]; exact L3.out.at_ 0
  go_wp2
  clear a0 hlkn
  go_loopw [7] (fun s7 wr => ∃ k : Nat, k ≤ r.ns.l.length ∧ s7 = .int .i64 k ∧ Aside (Below w3.heap.size w3 wr)) (fun i _ => r.ns.l.length - (intOf i).toNat)
  case atStart => exact ⟨0, by omega, rfl, Below.refl _ _⟩
  case round =>
    obtain ⟨k, hk, rfl, HB⟩ := hrel
    have hlk := HLK.out
    have c7 : wr.cell? ⟨w.heap.size, 7, none⟩ = some (.slice r.ns.A r.ns.l.length r.ns.c) := (L3.out.call HB.out).at_ 7
    by_cases hlt : k < r.ns.l.length
    · have hltz : (k : Int) < (r.ns.l.length : Int) := by omega
      have hk0 : (0 : Int) ≤ (k : Int) := by omega
      obtain ⟨x, hx⟩ : ∃ x, r.ns.l[k]? = some x := ⟨r.ns.l[k], by simp [hlt]⟩
      obtain ⟨tb, off, hAT, htb, d0, d1, d2, d3⟩ := HRR.out.ns.cellN hx
      rw [hAT] at c7
      have hbw := B3.out.trans (HB.out.mono B3.out.size)
      have l2 : wr.cell? ⟨tb, off + k * 4, none⟩ = some (.int .i64 x.p) := (hbw.cell (p := ⟨tb, off + k * 4, none⟩) htb).trans d0
      have l5 : wr.cell? ⟨tb, off + k * 4 + 3, none⟩ = some (.bool x.y) := (hbw.cell (p := ⟨tb, off + k * 4 + 3, none⟩) htb).trans d3
      obtain ⟨p', hp', hpn, hyes⟩ := HKN.out x (List.mem_of_getElem? hx)
      obtain ⟨xp, xw, xk, xy⟩ := x
      dsimp only at l2 l5 hp' hyes
      subst hp'
      clear hx hAT d0 d1 d2 d3 hbw
      cases xy with
      | false =>
        clear hyes
        go_wp2
        go_roundw
        case rel => exact ⟨k + 1, by omega, by go_num, HB.out⟩
        case measure => simp [intOf]; omega
      | true =>
        obtain ⟨b6, o6, e6, hb6, l6⟩ := S3.out.cell8 (hyes rfl)
        cases e6
        have l7 : wr.cell? ⟨kb, ko + p', none⟩ = some (.int .u8 1) := (HB.out.cell (p := ⟨kb, ko + p', none⟩) hb6).trans l6
        have hpz : (p' : Int) < (lk.length : Int) := by omega
        have hp0 : (0 : Int) ≤ (p' : Int) := by omega
        clear hyes l6
        go_wp2
        go_roundw
        case rel => exact ⟨k + 1, by omega, by go_num, HB.out⟩
        case measure => simp [intOf]; omega
    · obtain rfl : k = r.ns.l.length := by omega
      have L4 := Lib.hid (L3.out.call HB.out)
      have B4 := Lib.hid (B3.out.trans (HB.out.mono B3.out.size))
      have S4 := Lib.hid ((S3.out.below HB.out).more HB.out.size)
      have a0 : wr.cell? ⟨w.heap.size, 0, none⟩ = some (.int .i64 N) := by rw [← HNN.out]; exact L4.out.at_ 0
      clear HB L3 B3 S3
      go_upto_region 14 with (fail)
      rw [HPE.out]
      have a1 : wr.cell? ⟨w.heap.size, 1, none⟩ = some (.slice r.ws.A Y r.ws.c) := by rw [HYL.out]; exact L4.out.at_ 1
      have a7 : wr.cell? ⟨w.heap.size, 7, none⟩ = some (.slice r.ns.A r.ns.l.length r.ns.c) := L4.out.at_ 7
      clear a0 hn0 hn1
      by_cases h39 : 39 < r.ns.l.length
      · have h39z : decide (39 < (r.ns.l.length : Int)) = true := by simp; omega
        go_wp2_with (go_at_call 16; refine (awake_any _).mono ?_; rintro e w5 ⟨rfl, hb5⟩)
        go_ret
        exact ⟨rfl, B4.out.trans (hb5.mono B4.out.size)⟩
      have h39z : decide (39 < (r.ns.l.length : Int)) = false := by simp; omega
      have HS4 := Lib.hid (HS.out _ B4.out)
      generalize hsb : stB (r.d.dg (p : Int)) (Y : Int) = sb at *
      have HSB := Lib.hid hsb
      clear hsb HS
      cases sb with
      | false =>
        go_wp2_with (first
          | (refine wpList_load_rowG (o := ⟨some 75, _, _, _, _, _⟩) ?_ 26 (.tmp 2) ?_ w.heap.size ?_ 26 r.cells.toArray (0, 0) _ L4.out Try.underlying26 rfl size_refrow ?_; kernel_rfl; rfl; rfl)
          | (go_at_call 42; refine HS4.out.mono ?_; rintro e w5 ⟨rfl, hb5⟩)
          | (go_at_call 16; refine (awake_any _).mono ?_; rintro e w6 ⟨rfl, hb6⟩))
        go_ret
        exact ⟨rfl, B4.out.trans ((hb5.trans (hb6.mono hb5.size)).mono B4.out.size)⟩
      | true =>
        obtain ⟨hfx, hiff⟩ := HHE.out (by show r.ns.l.length ≤ 39; omega) rfl
        have HFX := Lib.hid hfx
        have HIF := Lib.hid hiff
        clear hfx hiff HHE
        go_upto_region 16 with (first
          | (refine wpList_load_rowG (o := ⟨some 75, _, _, _, _, _⟩) ?_ 26 (.tmp 2) ?_ w.heap.size ?_ 26 r.cells.toArray (0, 0) _ L4.out Try.underlying26 rfl size_refrow ?_; kernel_rfl; rfl; rfl)
          | (go_at_call 42; refine HS4.out.mono ?_; rintro e w5 ⟨rfl, hb5⟩))
        have L5 := Lib.hid (L4.out.call hb5)
        have B5 := Lib.hid (B4.out.trans (hb5.mono B4.out.size))
        have S5 := Lib.hid ((S4.out.below hb5).more hb5.size)
        clear hb5 L4 B4 S4 a1 a7
        have hzw := (Below.refl w5.heap.size w5)
        go_upto_region 17 with (first
          | (refine wpList_load_row (o := ⟨some 84, _, _, _, _, _⟩) ?_ 26 (.tmp 2) ?_ w.heap.size ?_ 26 r.cells.toArray (0, 0) _ L5.out Try.underlying26 rfl size_refrow ?_; rfl; rfl; rfl)
          | (go_at_call 18; refine (HW.out _ B5.out).mono ?_; rintro e w6 ⟨q, rfl, hq⟩)
          | (refine wpList_store_cells (o := ⟨none, .store 34 (.tmp 9) _, _, _, _, _⟩) ?_ 34 (.tmp 9) (.tmp 85) ?_ w6.heap.size 0 ?_ 34 zrow q.cells ?_ (Lies.fresh w6 34 zrow.toArray) (by simp [zrow, RwM.cells]) size_row (part_one q _ _ _ rfl rfl rfl) ?_; rfl; rfl; rfl; rfl; intro w7 HS7 HO7; (try simp only [Act.put])))
        have hs7 := HS7.out
        rw [splice_whole (by rfl)] at hs7
        have hzz := (Below.refl w6.heap.size w6).alloc (Nat.le_refl _) (.cells zrow.toArray 34)
        obtain ⟨B2, hX7⟩ := RowX.of (w := w5) hq hzz HO7.out hs7 (.inr (Nat.le_refl _)) (hq.b.trans (hzz.mono hq.b.size)) (Nat.le_refl _) hq.b.size
        have hb7 : Below w5.heap.size w5 w7 := hX7.b
        have X7 := Lib.hid hX7
        have HQD := Lib.hid hq.d
        have L7 := Lib.hid (L5.out.call hb7)
        have B7 := Lib.hid (B5.out.trans (hb7.mono B5.out.size))
        have S7 := Lib.hid ((S5.out.below hb7).more hb7.size)
        have hgx : w5.heap.size ≤ w6.heap.size := hq.b.size
        clear HW hs7 hzz hX7 hb7 hq HS7 HO7
        generalize w6.heap.size = gx at *
        have c17 : w7.cell? ⟨gx, 7, none⟩ = some (.slice q.ns.A q.ns.l.length q.ns.c) := X7.out.o.at_ 7
        have a17 : w7.cell? ⟨w.heap.size, 1, none⟩ = some (.slice r.ws.A Y r.ws.c) := by rw [HYL.out]; exact L7.out.at_ 1
        have D1 := Lib.hid ((Below.refl w7.heap.size w7).alloc (Nat.le_refl _) (.cells #[.int .i64 p, .int .i64 Y, .int .u8 1, .bool true] 61))
        have hqn : q.ns.l = r.ns.l := congrArg RwD.ns HQD.out
        have HLN := Lib.hid (show q.ns.l.length + 1 ≤ 1000 by rw [hqn]; omega)
        have HL45 := Lib.hid (show q.ns.l.length ≤ 45 by rw [hqn]; omega)
        clear hqn
        go_upto_region 18 with (refine wpList_app_notes (o := ⟨some 94, _, _, _, _, _⟩) ?_ (.tmp 87) (.tmp 93) ?_ B2 (.slice q.ns.A q.ns.l.length q.ns.c) q.ns.l ?_ (ownsRow_call X7.out.ns D1.out) (some ⟨w7.heap.size, 0, none⟩) 1 [⟨p, Y, 1, true⟩] ?_ (by simp) (lies_one rfl (Lies.fresh w7 61 (encN ⟨p, Y, 1, true⟩).toArray)) HLN.out (Nat.le_trans X7.out.B1 D1.out.size) ?_; rfl; rfl; rfl; rfl; intro v8 w8 hown8 hb8 hg8; obtain ⟨A8, c8, hv8, -, -⟩ := Sl.of_own (enc := encN) (fun _ => rfl) hown8 rfl; subst hv8; have O8 := Lib.hid ((X7.out.call D1.out).grown hg8); have X8 := Lib.hid ((X7.out.call D1.out).note (x := ⟨p, Y, 1, true⟩) hb8 hg8 (by simp) HL45.out hown8); have c18 : w8.cell? ⟨gx, 7, none⟩ = some (.slice q.ns.A q.ns.l.length q.ns.c) := O8.out.at_ 7; have f18 : w8.frozen? ⟨gx, 7, none⟩ = false := O8.out.free 7; clear hown8 hb8 hg8 c17 a17)
        have hx9 := X8.out
        rw [show (q.ns.l ++ [(⟨p, Y, 1, true⟩ : Nt)]).length = q.ns.l.length + 1 by simp] at hx9
        have X9 := Lib.hid (show RowX w5 gx B2 (q.noteM A8 c8 ⟨p, Y, 1, true⟩) _ from hx9)
        clear hx9 X8 c18 f18 O8 X7 D1 L7 B7 S7
        generalize w8.setCell ⟨gx, 7, none⟩ (.slice A8 (q.ns.l.length + 1) c8) = w9 at *
        have hqd : (q.noteM A8 c8 ⟨p, Y, 1, true⟩).d = r.d.testYes p := by rw [HYL.out]; exact noteM_d HQD.out A8 c8 p
        obtain ⟨kb', ko', ek, hkb', hkc⟩ := S5.out.cell8 HKP.out
        cases ek
        have B9 := Lib.hid (B5.out.trans (X9.out.b.mono B5.out.size))
        have K9 := Lib.hid (show w9.cell? ⟨kb, ko + p, none⟩ = some (.int .u8 kv) from (X9.out.b.cell (p := ⟨kb, ko + p, none⟩) hkb').trans hkc)
        have hkl : kb < w9.heap.size := Nat.lt_of_lt_of_le hkb' X9.out.b.size
        have hpz : (p : Int) < (lk.length : Int) := by have := HLK.out; omega
        have hp0 : (0 : Int) ≤ (p : Int) := by omega
        clear hkc hkb' S5 B5 L5
        cases hcx : (r.d.testYes p).can with
        | true =>
          have hF := First_yes _ w9 X9.out.at_ (by rw [hqd]; exact err_ok HFX.out hcx)
          have hk2 : ((kv : Int) == 2) = false := by
            have : kv ≠ 2 := fun e => by have := HIF.out.1 e; rw [hcx] at this; cases this
            simpa using this
          have HF := Lib.hid hF
          clear hF hqd hcx HIF
          go_upto_region 19 with (first
            | (refine wpList_load_row (o := ⟨some 97, _, _, _, _, _⟩) ?_ 34 (.tmp 9) ?_ gx ?_ 34 (q.noteM A8 c8 ⟨p, Y, 1, true⟩).cells.toArray (0, 0) _ X9.out.o Try.underlying34 rfl size_row ?_; rfl; rfl; rfl)
            | (go_at_call 19; refine HF.out.mono ?_; rintro e wa ⟨Aa, ca, rfl, hAa, hSa, hba⟩))
          have ka : wa.cell? ⟨kb, ko + p, none⟩ = some (.int .u8 kv) := (hba.cell (p := ⟨kb, ko + p, none⟩) hkl).trans K9.out
          have Ba := Lib.hid (B9.out.trans (hba.mono B9.out.size))
          clear hba hSa hAa K9 B9 X9 HF
          go_wp2_with (go_at_call 16; refine (awake_any _).mono ?_; rintro e wb ⟨rfl, hbb⟩)
          go_ret
          exact ⟨rfl, Ba.out.trans (hbb.mono Ba.out.size)⟩
        | false =>
          have hF := First_no _ w9 X9.out.at_ (by rw [hqd, err_sick HFX.out hcx]; decide)
          rw [hqd, err_sick HFX.out hcx] at hF
          have hk2 : kv = 2 := HIF.out.2 hcx
          subst hk2
          have HF := Lib.hid hF
          clear hF hqd hcx HIF
          go_upto_region 19 with (first
            | (refine wpList_load_row (o := ⟨some 97, _, _, _, _, _⟩) ?_ 34 (.tmp 9) ?_ gx ?_ 34 (q.noteM A8 c8 ⟨p, Y, 1, true⟩).cells.toArray (0, 0) _ X9.out.o Try.underlying34 rfl size_row ?_; rfl; rfl; rfl)
            | (go_at_call 19; refine HF.out.mono ?_; rintro e wa ⟨rfl, hba⟩))
          have ka : wa.cell? ⟨kb, ko + p, none⟩ = some (.int .u8 2) := (hba.cell (p := ⟨kb, ko + p, none⟩) hkl).trans K9.out
          have Ba := Lib.hid (B9.out.trans (hba.mono B9.out.size))
          clear hba K9 B9 X9 HF
          go_wp2_with (go_at_call 16; refine (awake_any _).mono ?_; rintro e wb ⟨rfl, hbb⟩)
          go_ret
          exact ⟨rfl, Ba.out.trans (hbb.mono Ba.out.size)⟩
end Go.Proofs.Ytebkhgficochoaa

/- Arguments opened as they lie; what a law owes behind its walk. -/
namespace Go.Proofs.Ytebkhgficochoaa
open Go.ChangeShapes Go.WideShapes Go.ChangeAt Go.RowKit

section
variable {H : Type} {enc : TypeId × Value → H} {P : Program} {w : World}
/-- A slice that came in, whatever its elements are. -/
theorem open_sl {α : Type} {en : α → List Value} {Q : α → Prop} {k : Nat} {t e : TypeId} (hk0 : 0 < k) (ht : P.underlying t = some (.slice e)) (hk : P.cellsOf e = k)
    (hop : ∀ (fuel : Nat) (cs : List Value) (x : DataW H × List MemPlace), DataW.trod enc P w 0 (fun _ => true) true fuel e cs = some x → ∃ y : α, cs = en y ∧ Q y)
    {fuel : Nat} {cs : List Value} {x : DataW H × List MemPlace} (h : DataW.trod enc P w 0 (fun _ => true) true fuel t cs = some x) :
    ∃ (A : Option Addr) (l : List α) (c : Nat), cs = [.slice A l.length c] ∧ (A = none → l.length = 0 ∧ c = 0) ∧ Sl w w.heap.size k en A l ∧ (∀ y, y ∈ l → Q y) ∧ l.length ≤ maxLen := by
  rcases Deep.open_slice ht h with ⟨rfl, _⟩ | ⟨a, len, cap, m, n, D, Pl, rfl, _, hl, hm, hmm, _, hx⟩
  · exact ⟨none, [], 0, rfl, fun _ => ⟨rfl, rfl⟩, Sl.nil, fun y hy => (by cases hy), Nat.zero_le _⟩
  simp only [if_true] at hmm
  have hmm' := hmm.symm
  subst hmm'
  have each : ∀ i, i < len → ∃ y : α, Q y ∧ w.cells? 0 (a.add (i * k)) k = some (en y) := fun i hi => by
    obtain ⟨cs', h1, h2⟩ := hx i (by omega)
    obtain ⟨y, rfl, hq⟩ := hop _ _ _ h2
    rw [hk] at h1
    exact ⟨y, hq, h1⟩
  have lists : ∀ n, n ≤ len → ∃ l : List α, l.length = n ∧ ∀ i y, l[i]? = some y → Q y ∧ w.cells? 0 (a.add (i * k)) k = some (en y) := by
    intro n
    induction n with
    | zero => intro _; exact ⟨[], rfl, fun i y hy => by simp at hy⟩
    | succ n ih =>
      intro hn
      obtain ⟨l, hl, hr⟩ := ih (by omega)
      obtain ⟨y, hq, hc⟩ := each n (by omega)
      refine ⟨l ++ [y], by simp [hl], fun i z hz => ?_⟩
      rw [List.getElem?_append] at hz
      split at hz
      · exact hr i z hz
      · rename_i hi
        have hi' : i = n := by
          have := (List.getElem?_eq_some_iff.1 hz).1
          simp at this; omega
        subst hi'
        rw [hl, Nat.sub_self] at hz
        simp at hz; subst hz
        exact ⟨hq, hc⟩
  obtain ⟨l, hll, hr⟩ := lists len (Nat.le_refl _)
  subst hll
  refine ⟨some a, l, cap, rfl, (fun e => by cases e), fun hne => ?_, fun y hy => ?_, by omega⟩
  · obtain ⟨b, off, spot⟩ := a
    have hcell : ∀ i y, l[i]? = some y → ∀ j u, (en y)[j]? = some u → w.cell? (((⟨b, off, spot⟩ : Addr).add (i * k)).add j) = some u := fun i y hy j u hu => by
      obtain ⟨_, hlen, hc⟩ := World.cells?_some (hr i y hy).2
      have hj := (List.getElem?_eq_some_iff.1 hu).1
      rw [hc j (by omega)]; exact hu
    obtain ⟨y, hy⟩ : ∃ y, l[0]? = some y := by
      cases l with
      | nil => exact absurd rfl hne
      | cons y l => exact ⟨y, rfl⟩
    have hlen := (World.cells?_some (hr 0 y hy).2).2.1
    obtain ⟨u, hu⟩ : ∃ u, (en y)[0]? = some u := ⟨(en y)[0], by simp [hlen, hk0]⟩
    have h0 := hcell 0 y hy 0 u hu
    have hspot : spot = none := by simpa [Addr.add] using World.cell?_spot h0
    subst hspot
    have hb := World.block_lt_of_cell? w _ h0
    rw [add_lit, add_lit] at hb
    refine ⟨b, off, rfl, hb, fun i z hz j v hv => ?_⟩
    have := hcell i z hz j v hv
    rwa [add_lit, add_lit] at this
  · obtain ⟨i, hi, e⟩ := List.getElem_of_mem hy
    exact (hr i y (by rw [List.getElem?_eq_getElem hi, e])).1
theorem open_num {t : TypeId} {k : IntKind} (ht : P.underlying t = some (.int k)) {fuel : Nat} {cs : List Value} {x : DataW H × List MemPlace} (h : DataW.trod enc P w 0 (fun _ => true) true fuel t cs = some x) : ∃ y : Int, cs = [.int k y] ∧ (Lit.int k y).wf = true := by
  obtain ⟨n, h1, _, h3⟩ := DataW.trod_int ht h
  exact ⟨n, h1, h3⟩
/-- All arguments read behind the call as they did. -/
theorem Below.trodAll (hl : laidOutB P = true) {W W' : World} (hb : Below W.heap.size W W') : ∀ {ts : List TypeId} {vs : List Value} {ds : List (DataW H)} {ps : List MemPlace}, (∀ t, t ∈ ts → P.readableRec t = true ∧ t < P.types.size) →
    DataW.TrodAll enc P W 0 (fun _ => true) true ts vs ds ps → (∀ x ∈ ps, x.block < W.heap.size) → DataW.TrodAll enc P W' 0 (fun b => decide (b < W.heap.size)) true ts vs ds ps
  | [], [], [], _, _, h, _ => h
  | t :: ts, v :: vs, d :: ds, _, hr, ⟨p, q, h1, h2, e⟩, hlt => by
    subst e
    exact ⟨p, q, RowKit.Below.trod hl (hr t (by simp)).1 (hr t (by simp)).2 h1 hb (fun x hx => hlt x (by simp [hx])), Below.trodAll hl hb (fun u hu => hr u (by simp [hu])) h2 (fun x hx => hlt x (by simp [hx])), rfl⟩
  | [], [], _ :: _, _, _, h, _ => h.elim
  | [], _ :: _, _, _, _, h, _ => h.elim
  | _ :: _, [], _, _, _, h, _ => h.elim
  | _ :: _, _ :: _, [], _, _, h, _ => h.elim
/-- What a law owes behind its walk. -/
theorem law_post {f : Func} {s : ChangeSpec} {W W' : World} {args : Array Value} {ds gs : List (DataW H)} {before : List MemPlace} {tb : TypeId} (hl : laidOutB P = true) (hW : DataW.Whole enc P f.params.toList s.vars false W args.toList ds gs before) (hv : s.vars = [])
    (hrt : f.resultTypes = #[tb]) (htb : P.underlying tb = some .bool) (hrd : ∀ t, t ∈ f.params.toList → P.readableRec t = true ∧ t < P.types.size)
    (hfn : (s.fn H ds).results = [.lit (.bool true)] ∧ (s.fn H ds).args = ds ∧ (s.fn H ds).vars = []) (hb : Below W.heap.size W W') : s.post enc P f false true false false W args (.bool true) W' := by
  have hlt : ∀ p ∈ before, p.block < W.heap.size := fun p hp => by simpa using hW.lt p hp
  have hW' := hW
  obtain ⟨p, q, h1, h2, rfl, hz, hn⟩ := hW
  rw [hv] at h2
  obtain ⟨rfl, rfl⟩ := trodVars_none h2
  simp only [List.append_nil] at hlt hW'
  refine ⟨ds, [], p, [], p, [], hW', ?_, ?_, ?_, hb.frame _, fun h => by cases h⟩
  · rw [List.append_nil, hfn.1, hrt]
    exact trodAll_mk1 (shut_bool htb true)
  · rw [List.append_nil, hfn.2.1]
    exact Below.trodAll hl hb hrd h1 hlt
  · rw [List.append_nil, hfn.2.2, hv]
    exact rfl
end
theorem laidOutP : laidOutB Try.prog = true := by kernel_rfl
theorem ownP : ownKnob Try.prog.godebug = none := by kernel_rfl
end Go.Proofs.Ytebkhgficochoaa

/- A row that came in, opened. -/
namespace Go.Proofs.Ytebkhgficochoaa
open Go.ChangeShapes Go.WideShapes Go.ChangeAt Go.RowKit

theorem len2 {α : Type} : ∀ {l : List α}, l.length = 2 → ∃ a b, l = [a, b]
  | [a, b], _ => ⟨a, b, rfl⟩
theorem len4 {α : Type} : ∀ {l : List α}, l.length = 4 → ∃ a b c d, l = [a, b, c, d]
  | [a, b, c, d], _ => ⟨a, b, c, d, rfl⟩
theorem len8 {α : Type} : ∀ {l : List α}, l.length = 8 → ∃ a b c d e f g h, l = [a, b, c, d, e, f, g, h]
  | [a, b, c, d, e, f, g, h], _ => ⟨a, b, c, d, e, f, g, h, rfl⟩
section
variable {H : Type} {enc : TypeId × Value → H} {w : World} {fuel : Nat} {cs : List Value} {x : DataW H × List MemPlace}
theorem cI : Try.prog.cellsOf 3 = 1 := by kernel_rfl
theorem cB : Try.prog.cellsOf 4 = 1 := by kernel_rfl
theorem cU : Try.prog.cellsOf 5 = 1 := by kernel_rfl
theorem cWk : Try.prog.cellsOf 76 = 2 := by kernel_rfl
theorem cNt : Try.prog.cellsOf 67 = 4 := by kernel_rfl
theorem cSW : Try.prog.cellsOf 22 = 1 := by kernel_rfl
theorem cSN : Try.prog.cellsOf 24 = 1 := by kernel_rfl
theorem cSI : Try.prog.cellsOf 23 = 1 := by kernel_rfl
theorem cRw : Try.prog.cellsOf 26 = 8 := by kernel_rfl
theorem open_week (h : DataW.trod enc Try.prog w 0 (fun _ => true) true fuel 76 cs = some x) : ∃ y : Wk, cs = encW y ∧ True := by
  obtain ⟨xs, n, _, _, hl, hxs, hf⟩ := DataW.trod_struct Try.underlying76 h
  obtain ⟨c0, c1, rfl⟩ := len2 (hl.trans cWk)
  clear hl
  have h0 := hf 0 _ rfl
  have h1 := hf 1 _ rfl
  simp only [List.getElem_toArray, List.getElem_cons_zero, List.getElem_cons_succ, cI, cB, List.drop_zero, List.take_succ_cons, List.take_zero, List.drop_succ_cons] at h0 h1
  have e0 : xs[0]? = some (xs[0]'(by rw [hxs]; decide)) := by simp
  have e1 : xs[1]? = some (xs[1]'(by rw [hxs]; decide)) := by simp
  rw [e0] at h0
  rw [e1] at h1
  obtain ⟨a, ha, _⟩ := open_num Try.underlying3 h0
  obtain ⟨b, hb, _⟩ := DataW.trod_bool Try.underlying4 h1
  simp only [List.cons.injEq, and_true] at ha hb
  subst ha; subst hb
  exact ⟨⟨a, b⟩, rfl, trivial⟩
theorem open_note (h : DataW.trod enc Try.prog w 0 (fun _ => true) true fuel 67 cs = some x) : ∃ y : Nt, cs = encN y ∧ (0 ≤ y.k ∧ y.k ≤ 255) := by
  obtain ⟨xs, n, _, _, hl, hxs, hf⟩ := DataW.trod_struct Try.underlying67 h
  obtain ⟨c0, c1, c2, c3, rfl⟩ := len4 (hl.trans cNt)
  clear hl
  have h0 := hf 0 _ rfl
  have h1 := hf 1 _ rfl
  have h2 := hf 2 _ rfl
  have h3 := hf 3 _ rfl
  simp only [List.getElem_toArray, List.getElem_cons_zero, List.getElem_cons_succ, cI, cB, cU, List.drop_zero, List.take_succ_cons, List.take_zero, List.drop_succ_cons] at h0 h1 h2 h3
  have el : ∀ i, i < 4 → ∃ z, xs[i]? = some z := fun i hi => ⟨xs[i]'(by rw [hxs]; exact hi), by simp⟩
  obtain ⟨z0, e0⟩ := el 0 (by decide)
  obtain ⟨z1, e1⟩ := el 1 (by decide)
  obtain ⟨z2, e2⟩ := el 2 (by decide)
  obtain ⟨z3, e3⟩ := el 3 (by decide)
  rw [e0] at h0
  rw [e1] at h1
  rw [e2] at h2
  rw [e3] at h3
  obtain ⟨a, ha, _⟩ := open_num Try.underlying3 h0
  obtain ⟨b, hb, _⟩ := open_num Try.underlying3 h1
  obtain ⟨c, hc, hw⟩ := open_num Try.underlying5 h2
  obtain ⟨d, hd, _⟩ := DataW.trod_bool Try.underlying4 h3
  simp only [List.cons.injEq, and_true] at ha hb hc hd
  subst ha; subst hb; subst hc; subst hd
  have hu := bounds_u8 hw
  exact ⟨⟨a, b, c, d⟩, rfl, by omega⟩
theorem open_nums (h : DataW.trod enc Try.prog w 0 (fun _ => true) true fuel 23 cs = some x) : ∃ s : Sv Int, cs = encV s ∧ ((s.A = none → s.l.length = 0 ∧ s.c = 0) ∧ s.l.length ≤ maxLen) ∧ Sl w w.heap.size 1 encI s.A s.l := by
  obtain ⟨A, l, c, e, hn, hs, _, hm⟩ := open_sl (en := encI) (Q := fun _ => True) (by decide) Try.underlying23 cI (fun _ _ _ h => (open_num Try.underlying3 h).imp fun _ h => ⟨h.1, trivial⟩) h
  exact ⟨⟨A, l, c⟩, e, ⟨hn, hm⟩, hs⟩
theorem open_row (h : DataW.trod enc Try.prog w 0 (fun _ => true) true fuel 26 cs = some x) : ∃ r : RwM, cs = r.cells ∧ OpenRow r w := by
  obtain ⟨xs, n, _, _, hl, hxs, hf⟩ := DataW.trod_struct Try.underlying26 h
  obtain ⟨c0, c1, c2, c3, c4, c5, c6, c7, rfl⟩ := len8 (hl.trans cRw)
  clear hl
  have h0 := hf 0 _ rfl
  have h1 := hf 1 _ rfl
  have h2 := hf 2 _ rfl
  have h3 := hf 3 _ rfl
  have h4 := hf 4 _ rfl
  have h5 := hf 5 _ rfl
  have h6 := hf 6 _ rfl
  have h7 := hf 7 _ rfl
  simp only [List.getElem_toArray, List.getElem_cons_zero, List.getElem_cons_succ, cI, cB, cSW, cSN, cSI, List.drop_zero, List.take_succ_cons, List.take_zero, List.drop_succ_cons] at h0 h1 h2 h3 h4 h5 h6 h7
  have el : ∀ i, i < 8 → ∃ z, xs[i]? = some z := fun i hi => ⟨xs[i]'(by rw [hxs]; exact hi), by simp⟩
  obtain ⟨z0, e0⟩ := el 0 (by decide)
  obtain ⟨z1, e1⟩ := el 1 (by decide)
  obtain ⟨z2, e2⟩ := el 2 (by decide)
  obtain ⟨z3, e3⟩ := el 3 (by decide)
  obtain ⟨z4, e4⟩ := el 4 (by decide)
  obtain ⟨z5, e5⟩ := el 5 (by decide)
  obtain ⟨z6, e6⟩ := el 6 (by decide)
  obtain ⟨z7, e7⟩ := el 7 (by decide)
  rw [e0] at h0
  rw [e1] at h1
  rw [e2] at h2
  rw [e3] at h3
  rw [e4] at h4
  rw [e5] at h5
  rw [e6] at h6
  rw [e7] at h7
  obtain ⟨y0, a0, _⟩ := open_num Try.underlying3 h0
  obtain ⟨A1, l1, k1, a1, n1, s1, _, m1⟩ := open_sl (en := encW) (Q := fun _ => True) (by decide) Try.underlying22 cWk (fun _ _ _ h => open_week h) h1
  obtain ⟨y2, a2, _⟩ := open_num Try.underlying3 h2
  obtain ⟨y3, a3, _⟩ := open_num Try.underlying3 h3
  obtain ⟨y4, a4, _⟩ := open_num Try.underlying3 h4
  obtain ⟨y5, a5, _⟩ := DataW.trod_bool Try.underlying4 h5
  obtain ⟨A6, l6, k6, a6, n6, s6, _, m6⟩ := open_sl (en := encI) (Q := fun _ => True) (by decide) Try.underlying23 cI (fun _ _ _ h => (open_num Try.underlying3 h).imp fun _ h => ⟨h.1, trivial⟩) h6
  obtain ⟨A7, l7, k7, a7, n7, s7, q7, m7⟩ := open_sl (en := encN) (Q := fun y : Nt => 0 ≤ y.k ∧ y.k ≤ 255) (by decide) Try.underlying24 cNt (fun _ _ _ h => open_note h) h7
  simp only [List.cons.injEq, and_true] at a0 a1 a2 a3 a4 a5 a6 a7
  subst a0; subst a1; subst a2; subst a3; subst a4; subst a5; subst a6; subst a7
  exact ⟨⟨y0, ⟨A1, l1, k1⟩, y2, y3, y4, y5, ⟨A6, l6, k6⟩, ⟨A7, l7, k7⟩⟩, rfl, ⟨s1, s6, s7, m1, m6, m7, q7, n6, n1, n7⟩⟩
end
theorem IllDug_walk (r : RwM) (pl wk : Nat) (w : World) (h : OpenRow r w) (hpl : pl ≤ 255) (hwk : wk ≤ 255) : Calls Try.prog 11 #[.agg r.cells.toArray, .int .u8 pl, .int .u8 wk] w fun e w' => e = .returned (.bool true) ∧ Below w.heap.size w w' := by
  cases hy : r.d.thin && decide (r.d.fault = 0) with
  | false => exact IllDug_unready r pl wk w h hy
  | true =>
    have hy2 := hy
    rw [Bool.and_eq_true, decide_eq_true_eq] at hy2
    obtain ⟨hr, ht⟩ := h.thin hy2.1
    by_cases hz : r.ws.l.length = 0
    · exact IllDug_short r pl wk w hr hy hz
    · exact IllDug_main r pl wk w hpl hwk hr ht hy hy2.2 hz
end Go.Proofs.Ytebkhgficochoaa

/- IllSure's walk, whole. -/
namespace Go.Proofs.Ytebkhgficochoaa
open Go.RowKit Go.Lib

theorem IllSure_walk (r : RwM) (pl : Nat) (w : World) (h : OpenRow r w) (hpl : pl ≤ 255) : Calls Try.prog 10 #[.agg r.cells.toArray, .int .u8 pl] w fun e w' => e = .returned (.bool true) ∧ Below w.heap.size w w' := by
  cases hy : r.d.thin && decide (r.d.fault = 0) with
  | false => exact IllSure_unready r pl w h hy
  | true =>
    have hy2 := hy
    rw [Bool.and_eq_true, decide_eq_true_eq] at hy2
    obtain ⟨hr, ht⟩ := h.thin hy2.1
    by_cases hz : r.ws.l.length = 0
    · exact IllSure_short r pl w hr hy hz
    · cases hc : r.d.can with
      | true => exact IllSure_main r pl w hpl hr ht hy hy2.2 hz hc
      | false => exact IllSure_sick r pl w hr ht hy hz (err_sick hy2.2 hc)
end Go.Proofs.Ytebkhgficochoaa
