/- The texts SU SX SY UA UB UC UD, joined. -/
import Derived.Test.YtebkhgficochoaaXE
import Derived.Test.YtebkhgficochoaaXK
import Derived.Test.YtebkhgficochoaaXJ
import Derived.BigQuiet
/- rises, isSample. -/
namespace Go.Proofs.Ytebkhgficochoaa
open Go.RowKit Go.Lib

/-- Does each number rise above the one before it, up to k? -/
def risesAt (l : List Int) (i : Nat) : Bool := decide (i = 0) || decide (l.getD (i - 1) 0 < l.getD i 0)
def risesTo (l : List Int) (k : Nat) : Bool := (List.range k).all (risesAt l)
def risesB (l : List Int) : Bool := risesTo l l.length
theorem risesTo_succ (l : List Int) (k : Nat) : risesTo l (k + 1) = (risesTo l k && risesAt l k) := by
  unfold risesTo; rw [List.range_succ, List.all_append]; simp
theorem risesB_no {l : List Int} {k : Nat} (hk : k < l.length) (h : risesAt l k = false) : risesB l = false := all_range_no hk h
set_option maxRecDepth 100000 in
set_option maxHeartbeats 1000000 in
theorem rises_any (A : Option Addr) (c : Nat) (l : List Int) (w : World) (hA : Sl w w.heap.size 1 encI A l) (hl : l.length ≤ 1000000) :
    Calls Try.prog 88 #[.slice A l.length c] w fun e w' => e = .returned (.bool (risesB l)) ∧ Below w.heap.size w w' := by
  have HA := Lib.hid hA
  clear hA
  go_enter Try.func88, Try.ntmps88
  go_wp2
  go_loopg [3, 4, 7] l.length (fun gg _ _ s7 wr => ∃ k : Nat, k ≤ l.length ∧ l.length - k ≤ gg ∧ s7 = .int .i64 k ∧ Aside (Below w.heap.size w wr) ∧ Aside (risesTo l k = true))
  case atStart => exact ⟨0, Nat.zero_le _, by omega, rfl, Below.refl _ w, rfl⟩
  case round =>
    obtain ⟨k, hk, hg, rfl, BW, HH⟩ := hrel
    by_cases hlt : k < l.length
    · have hltz : (k : Int) < (l.length : Int) := by omega
      have hk0 : (0 : Int) ≤ (k : Int) := by omega
      obtain ⟨x, hx⟩ : ∃ x, l[k]? = some x := ⟨l[k], by simp [hlt]⟩
      obtain ⟨b, off, rfl, hb, hc⟩ := HA.out.cell1 hx
      have l2 : wr.cell? ⟨b, off + k, none⟩ = some (.int .i64 x) := by rw [BW.out.cell (p := ⟨b, off + k, none⟩) hb]; exact hc
      have hxg : l.getD k 0 = x := by rw [List.getD, hx]; rfl
      have HX := Lib.hid hxg
      clear hc hx hxg
      by_cases h0 : k = 0
      · have hz : ¬ (0 : Int) < (k : Int) := by omega
        have HZ := Lib.hid h0
        clear h0
        go_wp2
        go_roundg (l.length - (k + 1))
        case measure => omega
        case rel => exact ⟨k + 1, by omega, by omega, by go_num, BW.out, (show Aside _ by show risesTo l (k + 1) = true; rw [risesTo_succ, HH.out, risesAt, HZ.out]; rfl)⟩
      · obtain ⟨j, hj⟩ : ∃ j, j + 1 = k := ⟨k - 1, by omega⟩
        have hz : (0 : Int) < (k : Int) := by omega
        have hjz : (k : Int) - 1 = (j : Int) := by omega
        have hj0 : (0 : Int) ≤ (j : Int) := by omega
        have hjl : (j : Int) < (l.length : Int) := by omega
        have hw : IntKind.i64.wrap (j : Int) = (j : Int) := IntWalk.i64_in _ (by omega)
        obtain ⟨y, hy⟩ : ∃ y, l[j]? = some y := ⟨l[j]'(by omega), by simp⟩
        obtain ⟨b', off', e', hb', hc'⟩ := HA.out.cell1 hy
        cases e'
        have l3 : wr.cell? ⟨b, off + j, none⟩ = some (.int .i64 y) := by rw [BW.out.cell (p := ⟨b, off + j, none⟩) hb]; exact hc'
        have hyg : l.getD (k - 1) 0 = y := by rw [← hj, Nat.add_sub_cancel, List.getD, hy]; rfl
        have HY := Lib.hid hyg
        have HZ := Lib.hid h0
        clear hc' hy hyg hb' h0
        by_cases hxy : x ≤ y
        · go_wp2
          go_ret
          exact ⟨ret_bool (risesB_no (k := k) hlt (by unfold risesAt; rw [HX.out, HY.out, decide_eq_false HZ.out, decide_eq_false (by omega)]; rfl)).symm, BW.out⟩
        · go_wp2
          go_roundg (l.length - (k + 1))
          case measure => omega
          case rel => exact ⟨k + 1, by omega, by omega, by go_num, BW.out, (show Aside _ by show risesTo l (k + 1) = true; rw [risesTo_succ, HH.out, risesAt, HX.out, HY.out, decide_eq_true (by omega : y < x)]; simp)⟩
    · have hltz : ¬ (k : Int) < (l.length : Int) := by omega
      have he : k = l.length := by omega
      have HE := Lib.hid he
      clear he
      go_wp2
      go_ret
      exact ⟨ret_bool (by unfold risesB; rw [← HE.out]; exact HH.out.symm), BW.out⟩
/-- Is the list a sample of the row? -/
def RwD.sampleB (r : RwD) (l : List Int) : Bool := (l.all fun p => inB p 0 (r.n - 1)) && (l.all fun p => r.lastB p.toNat) && risesB l
set_option maxRecDepth 100000 in
set_option maxHeartbeats 4000000 in
theorem isSample_any (r : RwM) (A : Option Addr) (c : Nat) (l : List Int) (w : World) (hr : r.At w w.heap.size) (hok : r.d.Ok) (hA : Sl w w.heap.size 1 encI A l) (hl : l.length ≤ 1000000) :
    Calls Try.prog 60 #[.agg r.cells.toArray, .slice A l.length c] w fun e w' => e = .returned (.bool (r.d.sampleB l)) ∧ Below w.heap.size w w' := by
  have l0 : Lies (w.alloc (.cells r.cells.toArray 34)) w.heap.size 34 r.cells.toArray := Lies.fresh _ _ _
  have b0 : Below w.heap.size w (w.alloc (.cells r.cells.toArray 34)) := (by repeat (first | (with_reducible assumption) | (with_reducible exact Below.refl _ _) | (with_reducible refine Below.drew ?_) | (with_reducible refine below_drewN ?_ _) | ((with_reducible refine Below.setCell ?_ ?_ _); rotate_left; focus (first | (simp; done) | (simp; omega) | omega)) | ((with_reducible refine Below.alloc ?_ ?_ _); rotate_left; focus (first | (simp; done) | (simp; omega) | omega))))
  have h0 : -1000000 ≤ r.n := by have := hok.n0; have h2 : r.d.n = r.n := rfl; omega
  have h1 : r.n ≤ 1000000 := by have := hok.n1; have h2 : r.d.n = r.n := rfl; omega
  have hP := fun W (hb : Below w.heap.size w W) => everyInt_any 86 #[.agg r.cells.toArray] #[] _ A c l W ((hA.below hb).more hb.size) (ask_plant r h0 h1 W (· ∈ l)) hl
  have hS := fun (hq : ∀ p, p ∈ l → inB p 0 (r.n - 1) = true) W (hb : Below w.heap.size w W) => everyInt_any 87 #[.agg r.cells.toArray] #[] (fun p => r.d.lastB p.toNat) A c l W ((hA.below hb).more hb.size) ⟨enters_sl, fun V x hx hv => by
    have h := inB_iff.1 (hq x hx)
    have hd : (r.dug.l.length : Int) = r.n := hok.dug
    have h2 := standsLast_any r x.toNat V (hr.below (hb.trans (hv.mono hb.size)) (hb.trans (hv.mono hb.size)).size) (by omega)
    rw [show ((x.toNat : Nat) : Int) = x by omega] at h2
    exact h2⟩ hl
  have hR := fun W (hb : Below w.heap.size w W) => rises_any A c l W ((hA.below hb).more hb.size) hl
  have hq : r.d.sampleB l = ((l.all fun p => inB p 0 (r.n - 1)) && (l.all fun p => r.d.lastB p.toNat) && risesB l) := rfl
  rw [hq]
  have hqa : (l.all fun p => inB p 0 (r.n - 1)) = true → ∀ p, p ∈ l → inB p 0 (r.n - 1) = true := fun h => List.all_eq_true.1 h
  have hS2 := fun h => hS (hqa h)
  generalize (l.all fun p => inB p 0 (r.n - 1)) = a at *
  generalize (l.all fun p => r.d.lastB p.toNat) = b at *
  generalize risesB l = z at *
  have L0 := Lib.hid l0
  have B0 := Lib.hid b0
  have HP := Lib.hid hP
  have HS := Lib.hid hS2
  have HR := Lib.hid hR
  clear l0 b0 hP hS hS2 hR hq hqa hr hok hA hl h0 h1
  cases a
  · go_enter Try.func60, Try.ntmps60
    go_upto_region 1 with (fail)
    change Code.wp _ _ _ _ (w.alloc (.cells r.cells.toArray 34))
    generalize w.alloc (.cells r.cells.toArray 34) = w0 at *
    go_wp2_with (first
      | (refine wpList_load_row (o := ⟨some 6, _, _, _, _, _⟩) ?_ 34 (.tmp 2) ?_ w.heap.size ?_ 34 r.cells.toArray (0, 0) _ L0.out Try.underlying34 rfl size_row ?_; rfl; rfl; rfl)
      | (go_at_call 68; refine (HP.out _ B0.out).mono ?_; rintro e w1 ⟨rfl, hb1⟩))
    go_ret
    exact ⟨rfl, B0.out.trans (hb1.mono B0.out.size)⟩
  · cases b
    · go_enter Try.func60, Try.ntmps60
      go_upto_region 1 with (fail)
      change Code.wp _ _ _ _ (w.alloc (.cells r.cells.toArray 34))
      generalize w.alloc (.cells r.cells.toArray 34) = w0 at *
      go_wp2_with (first
        | (refine wpList_load_row (o := ⟨some 6, _, _, _, _, _⟩) ?_ 34 (.tmp 2) ?_ w.heap.size ?_ 34 r.cells.toArray (0, 0) _ L0.out Try.underlying34 rfl size_row ?_; rfl; rfl; rfl)
        | ((fail_if_success (have hxx := B1)); go_at_call 68; refine (HP.out _ B0.out).mono ?_; rintro e w1 ⟨rfl, hb1⟩; have B1 := Lib.hid (B0.out.trans (hb1.mono B0.out.size)); have L1 := Lib.hid (L0.out.call hb1))
        | (refine wpList_load_rowG (o := ⟨some 11, _, _, _, _, _⟩) ?_ 34 (.tmp 2) ?_ w.heap.size ?_ 34 r.cells.toArray (0, 0) _ L1.out Try.underlying34 rfl size_row ?_; kernel_rfl; rfl; rfl)
        | (have hxx := B1; clear hxx; go_at_call 68; refine (HS.out (by simp) _ B1.out).mono ?_; rintro e w2 ⟨rfl, hb2⟩))
      go_ret
      exact ⟨rfl, B1.out.trans (hb2.mono B1.out.size)⟩
    · go_enter Try.func60, Try.ntmps60
      go_upto_region 1 with (fail)
      change Code.wp _ _ _ _ (w.alloc (.cells r.cells.toArray 34))
      generalize w.alloc (.cells r.cells.toArray 34) = w0 at *
      go_wp2_with (first
        | (refine wpList_load_row (o := ⟨some 6, _, _, _, _, _⟩) ?_ 34 (.tmp 2) ?_ w.heap.size ?_ 34 r.cells.toArray (0, 0) _ L0.out Try.underlying34 rfl size_row ?_; rfl; rfl; rfl)
        | ((fail_if_success (have hxx := B1)); go_at_call 68; refine (HP.out _ B0.out).mono ?_; rintro e w1 ⟨rfl, hb1⟩; have B1 := Lib.hid (B0.out.trans (hb1.mono B0.out.size)); have L1 := Lib.hid (L0.out.call hb1))
        | (refine wpList_load_rowG (o := ⟨some 11, _, _, _, _, _⟩) ?_ 34 (.tmp 2) ?_ w.heap.size ?_ 34 r.cells.toArray (0, 0) _ L1.out Try.underlying34 rfl size_row ?_; kernel_rfl; rfl; rfl)
        | ((fail_if_success (have hxx := B2)); have hxx := B1; clear hxx; go_at_call 68; refine (HS.out (by simp) _ B1.out).mono ?_; rintro e w2 ⟨rfl, hb2⟩; have B2 := Lib.hid (B1.out.trans (hb2.mono B1.out.size)))
        | (go_at_call 88; refine (HR.out _ B2.out).mono ?_; rintro e w3 ⟨rfl, hb3⟩))
      go_ret
      exact ⟨rfl, B2.out.trans (hb3.mono B2.out.size)⟩
end Go.Proofs.Ytebkhgficochoaa

/- Samples that are enough: the mathematics. -/
namespace Go.Proofs.Ytebkhgficochoaa
open Go.RowKit Go.Lib

/-- So late that a test in the last week says no. -/
def RwD.lateB (r : RwD) (t : Int) : Bool := inB t ((r.ws.length : Int) - r.old + 1) 31
/-- The number of old cases. -/
def RwD.numC (r : RwD) (t : List Int) : Nat := (r.allCases t ((r.ws.length : Int) - r.old)).length
theorem winD_tested (r : RwD) (q : Nat) (t : Int) : ∀ (ps : List Int) (ws : List (Int × Int)), (∀ p, p ∈ ps → 0 ≤ p ∧ p < 10) → ws.length = 10 → winD (r.testedD ws ps) q t = (winD ws q t && (!decide ((q : Int) ∈ ps) || r.lateB t))
  | [], ws, _, _ => by unfold RwD.testedD; simp
  | p :: ps, ws, hp, hw => by
    have h0 := hp p (by simp)
    have ih := winD_tested r q t ps (noteD r.sh r.old ws (testN r.ws.length p)) (fun x hx => hp x (by simp [hx])) (by rw [noteD_length]; exact hw)
    have e : r.testedD ws (p :: ps) = r.testedD (noteD r.sh r.old ws (testN r.ws.length p)) ps := rfl
    have hpn : (testN r.ws.length p).p.toNat = p.toNat := rfl
    rw [e, ih, winD_note _ _ _ _ (by rw [hw, hpn]; omega), hpn]
    have ha : inB t (alwD r.sh r.old (testN r.ws.length p)).1 (alwD r.sh r.old (testN r.ws.length p)).2 = r.lateB t := rfl
    rw [ha, show decide ((q : Int) ∈ p :: ps) = (decide (q = p.toNat) || decide ((q : Int) ∈ ps)) from by
      rw [← Bool.decide_or]
      refine decide_eq_decide.2 ?_
      rw [List.mem_cons]
      exact or_congr ⟨fun h => by omega, fun h => by omega⟩ Iff.rfl]
    generalize decide (q = p.toNat) = a
    generalize decide ((q : Int) ∈ ps) = b
    generalize winD ws q t = c
    generalize r.lateB t = d
    cases a <;> cases b <;> cases c <;> cases d <;> rfl
section
variable {r : RwD} {ws : List (Int × Int)} {ps qs : List Int} {k : Int}
theorem poss_tested (hw : ws.length = 10) (hp : ∀ p, p ∈ ps → 0 ≤ p ∧ p < 10) (t : List Int) : r.possB (r.testedD ws ps) t = true ↔ r.possB ws t = true ∧ ∀ q : Nat, q < r.dug.length → (q : Int) ∈ ps → r.lateB (t.getD q 0) = true := by
  constructor
  · intro h
    refine ⟨all_range.2 fun q hq => ?_, fun q hq hm => ?_⟩
    · have h1 := all_range.1 h q hq
      unfold RwD.possAt at *
      rw [winD_tested r q _ ps ws hp hw, Bool.and_eq_true, Bool.and_eq_true] at h1
      rw [Bool.and_eq_true]
      exact ⟨h1.1.1, h1.2⟩
    · have h1 := all_range.1 h q hq
      unfold RwD.possAt at h1
      rw [winD_tested r q _ ps ws hp hw, Bool.and_eq_true, Bool.and_eq_true, Bool.or_eq_true] at h1
      exact h1.1.2.resolve_left (by simp [hm])
  · rintro ⟨h1, h2⟩
    refine all_range.2 fun q hq => ?_
    have h3 := all_range.1 h1 q hq
    unfold RwD.possAt at *
    rw [winD_tested r q _ ps ws hp hw]
    rw [Bool.and_eq_true] at h3
    rw [Bool.and_eq_true]
    refine ⟨?_, h3.2⟩
    rw [h3.1, Bool.true_and, Bool.or_eq_true]
    by_cases hm : (q : Int) ∈ ps
    · exact .inr (h2 q hq hm)
    · exact .inl (by simp [hm])
theorem cases_le {s t : List Int} (h : ∀ q, q < r.dug.length → s.getD q 0 ≤ t.getD q 0) : r.numC t ≤ r.numC s := by
  unfold RwD.numC RwD.allCases
  rw [List.length_map, List.length_map]
  refine length_le_sub ((List.nodup_range.filter _).filter _) fun q hq => ?_
  obtain ⟨h1, h2⟩ := List.mem_filter.1 hq
  have hq2 := List.mem_range.1 (List.mem_filter.1 h1).1
  have := h q hq2
  refine List.mem_filter.2 ⟨h1, ?_⟩
  rw [decide_eq_true_eq] at *
  omega
theorem enough_iff (hok : r.Ok) : r.enoughD ws ps k = true ↔ ∀ t, TrW r.ws.length t → r.possB (r.testedD ws ps) t = true → (r.numC t : Int) ≤ k := by
  unfold RwD.enoughD
  rw [Bool.or_eq_true, Bool.not_eq_true', decide_eq_true_eq]
  constructor
  · intro h t hT ht
    have hc := early_can hok hT ht
    rcases h with h | h
    · rw [hc] at h; cases h
    · have := cases_le (r := r) (s := r.earlyD (r.testedD ws ps)) (t := t) (fun q hq => early_least hok hT ht q hq)
      unfold RwD.numC at *
      omega
  · intro h
    cases hc : r.possB (r.testedD ws ps) (r.earlyD (r.testedD ws ps)) with
    | false => exact .inl rfl
    | true => exact .inr (h _ (early_ok r _) hc)
theorem enough_of (hok : r.Ok) (h : ∀ t, TrW r.ws.length t → r.possB (r.testedD ws qs) t = true → r.possB (r.testedD ws ps) t = true) (he : r.enoughD ws ps k = true) : r.enoughD ws qs k = true :=
  (enough_iff hok).2 fun t hT ht => (enough_iff hok).1 he t hT (h t hT ht)
theorem enough_sub (hok : r.Ok) (hw : ws.length = 10) (hp : ∀ p, p ∈ ps → 0 ≤ p ∧ p < 10) (hq : ∀ p, p ∈ qs → 0 ≤ p ∧ p < 10) (h : ∀ p, p ∈ ps → p ∈ qs) (he : r.enoughD ws ps k = true) : r.enoughD ws qs k = true :=
  enough_of hok (fun t _ ht => (poss_tested hw hp t).2 ⟨((poss_tested hw hq t).1 ht).1, fun q hq1 hm => ((poss_tested hw hq t).1 ht).2 q hq1 (h _ hm)⟩) he
theorem enough_up (hok : r.Ok) {k' : Int} (hk : k ≤ k') (he : r.enoughD ws ps k = true) : r.enoughD ws ps k' = true :=
  (enough_iff hok).2 fun t hT ht => Int.le_trans ((enough_iff hok).1 he t hT ht) hk
theorem mem_tells {q : Nat} : (q : Int) ∈ r.tells ws ↔ q < r.dug.length ∧ r.tellB ws q = true := by
  unfold RwD.tells thoseD
  rw [List.mem_map]
  constructor
  · rintro ⟨a, ha, e⟩
    have : a = q := by omega
    subst this
    obtain ⟨h1, h2⟩ := List.mem_filter.1 ha
    exact ⟨List.mem_range.1 h1, h2⟩
  · rintro ⟨h1, h2⟩
    exact ⟨q, List.mem_filter.2 ⟨List.mem_range.2 h1, h2⟩, rfl⟩
theorem tells_nat {x : Int} (h : x ∈ r.tells ws) : ∃ q : Nat, x = q ∧ q < r.dug.length ∧ r.tellB ws q = true := by
  unfold RwD.tells thoseD at h
  obtain ⟨a, ha, rfl⟩ := List.mem_map.1 h
  obtain ⟨h1, h2⟩ := List.mem_filter.1 ha
  exact ⟨a, rfl, List.mem_range.1 h1, h2⟩
/-- Where a test tells nothing, it would say no. -/
theorem no_tell (hw : ws.length = 10) {q : Nat} (hq : q < 10) (hl : r.lastB q = true) (ht : r.tellB ws q = false) {t : Int} (h : winD ws q t = true) : r.lateB t = true := by
  unfold RwD.tellB at ht
  rw [hl, Bool.true_and, Bool.not_eq_false', decide_eq_true_eq] at ht
  have h2 : winD (r.testedD ws [(q : Int)]) q t = winD ws q t := by unfold winD; rw [ht]
  rw [winD_tested r q t [(q : Int)] ws (fun p hp => by simp at hp; omega) hw, h] at h2
  simpa using h2
theorem tells_enough (hok : r.Ok) (hw : ws.length = 10) (hk : 0 ≤ k) : r.enoughD ws (r.tells ws) k = true := by
  have hd10 : r.dug.length ≤ 10 := by have := hok.dug; have := hok.n1; omega
  refine (enough_iff hok).2 fun t hT ht => ?_
  have hin : ∀ p, p ∈ r.tells ws → 0 ≤ p ∧ p < 10 := fun p hp => by obtain ⟨q, rfl, h1, -⟩ := tells_nat hp; omega
  obtain ⟨h1, h2⟩ := (poss_tested hw hin t).1 ht
  have hn : r.numC t = 0 := by
    unfold RwD.numC RwD.allCases
    rw [List.length_map, List.length_eq_zero_iff, List.filter_eq_nil_iff]
    intro q hq
    obtain ⟨ha, hb⟩ := List.mem_filter.1 hq
    have hqn := List.mem_range.1 ha
    have hlate : r.lateB (t.getD q 0) = true := by
      cases htl : r.tellB ws q with
      | true => exact h2 q hqn (mem_tells.2 ⟨hqn, htl⟩)
      | false =>
        have h3 := all_range.1 h1 q hqn
        unfold RwD.possAt at h3
        rw [Bool.and_eq_true] at h3
        exact no_tell hw (by omega) hb htl h3.1
    unfold RwD.lateB at hlate
    rw [inB_iff] at hlate
    rw [decide_eq_true_eq]
    omega
  omega
end
theorem findC_some (f : List Int → Bool) : ∀ (m : Nat) (l pre s : List Int), findC f m l pre = some s → f s = true ∧ ∃ sub, s = pre ++ sub ∧ sub.Sublist l ∧ sub.length = m
  | 0, l, pre, s, h => by
    rw [findC] at h
    split at h
    · rename_i hf; cases h; exact ⟨hf, [], by simp, List.nil_sublist _, rfl⟩
    · cases h
  | m + 1, [], pre, s, h => by rw [findC] at h; cases h
  | m + 1, x :: rest, pre, s, h => by
    rw [findC] at h
    split at h
    · cases h
    · split at h
      · rename_i s' h2
        cases h
        obtain ⟨hf, sub, h3, h4, h5⟩ := findC_some f m rest (pre ++ [x]) _ h2
        exact ⟨hf, x :: sub, by rw [h3]; simp, h4.cons_cons x, by simp [h5]⟩
      · obtain ⟨hf, sub, h3, h4, h5⟩ := findC_some f (m + 1) rest pre s h
        exact ⟨hf, sub, h3, h4.cons x, h5⟩
theorem findC_none (f : List Int → Bool) : ∀ (m : Nat) (l pre : List Int), findC f m l pre = none → ∀ sub, sub.Sublist l → sub.length = m → f (pre ++ sub) = false
  | 0, l, pre, h, sub, _, hl => by
    rw [findC] at h
    have : sub = [] := List.eq_nil_of_length_eq_zero hl
    subst this
    split at h
    · cases h
    · rename_i hf; simpa using hf
  | m + 1, [], pre, h, sub, hs, hl => by
    have := hs.length_le
    simp at this
    subst this
    simp at hl
  | m + 1, x :: rest, pre, h, sub, hs, hl => by
    rw [findC] at h
    split at h
    · rename_i h2
      have := hs.length_le
      simp at this
      omega
    · split at h
      · cases h
      · rename_i h2
        cases hs with
        | cons _ hs => exact findC_none f (m + 1) rest pre h sub hs hl
        | cons_cons _ hs =>
          rename_i sub'
          have := findC_none f m rest (pre ++ [x]) h2 sub' hs (by simpa using hl)
          simpa using this
theorem bestN_some {g : Nat → Option (List Int)} : ∀ {n k : Nat} {s : List Int}, bestN g n k = some s → ∃ j, k ≤ j ∧ j < k + n ∧ g j = some s ∧ ∀ i, k ≤ i → i < j → g i = none
  | 0, k, s, h => by rw [bestN] at h; cases h
  | n + 1, k, s, h => by
    rw [bestN] at h
    split at h
    · rename_i s' h2
      cases h
      exact ⟨k, Nat.le_refl _, by omega, h2, fun i h1 h2 => by omega⟩
    · rename_i h2
      obtain ⟨j, h3, h4, h5, h6⟩ := bestN_some h
      exact ⟨j, by omega, by omega, h5, fun i hi hj => by
        by_cases e : i = k
        · subst e; exact h2
        · exact h6 i (by omega) hj⟩
theorem bestN_none {g : Nat → Option (List Int)} : ∀ {n k : Nat}, bestN g n k = none → ∀ i, k ≤ i → i < k + n → g i = none
  | 0, k, _, i, h1, h2 => by omega
  | n + 1, k, h, i, h1, h2 => by
    rw [bestN] at h
    split at h
    · cases h
    · rename_i h3
      by_cases e : i = k
      · subst e; exact h3
      · exact bestN_none h i (by omega) (by omega)
section
variable {r : RwD} {ws : List (Int × Int)} {k : Int}
/-- The best sample: plants that tell, enough, and no fewer are. -/
theorem best_is (hok : r.Ok) (hw : ws.length = 10) (hk : 0 ≤ k) : (r.bestD ws k).Sublist (r.tells ws) ∧ r.enoughD ws (r.bestD ws k) k = true ∧ ∀ sub, sub.Sublist (r.tells ws) → r.enoughD ws sub k = true → (r.bestD ws k).length ≤ sub.length := by
  unfold RwD.bestD
  cases h : bestN (fun k' => findC (fun ps => r.enoughD ws ps k) k' (r.tells ws) []) (r.tells ws).length 0 with
  | none =>
    refine ⟨List.Sublist.refl _, tells_enough hok hw hk, fun sub hs he => ?_⟩
    by_cases hl : sub.length < (r.tells ws).length
    · have h2 := findC_none _ _ _ _ (bestN_none h sub.length (Nat.zero_le _) (by omega)) sub hs rfl
      simp only [List.nil_append] at h2
      rw [he] at h2
      cases h2
    · simpa using Nat.le_of_not_lt hl
  | some s =>
    obtain ⟨j, -, hj, hs, hno⟩ := bestN_some h
    obtain ⟨hf, sub, e, h1, h2⟩ := findC_some _ _ _ _ _ hs
    rw [List.nil_append] at e
    subst e
    refine ⟨h1, hf, fun sub' hs' he => ?_⟩
    rw [Option.getD_some, h2]
    by_cases hl : sub'.length < j
    · have h3 := findC_none _ _ _ _ (hno sub'.length (Nat.zero_le _) hl) sub' hs' rfl
      simp only [List.nil_append] at h3
      rw [he] at h3
      cases h3
    · exact Nat.le_of_not_lt hl
theorem tells_rising : (r.tells ws).Pairwise (· < ·) := by
  unfold RwD.tells thoseD
  rw [List.pairwise_map]
  exact ((List.pairwise_lt_range).filter _).imp fun h => by omega
end
theorem rises_pair {l : List Int} (h : risesB l = true) : l.Pairwise (· < ·) := by
  have h1 : ∀ i, i + 1 < l.length → l.getD i 0 < l.getD (i + 1) 0 := fun i hi => by
    have := all_range.1 h (i + 1) hi
    unfold risesAt at this
    simpa using this
  rw [List.pairwise_iff_getElem]
  intro i j hi hj hij
  have h2 : ∀ d, i + 1 + d < l.length → l.getD i 0 < l.getD (i + 1 + d) 0 := fun d => by
    induction d with
    | zero => exact fun hd => h1 i hd
    | succ d ih => exact fun hd => Int.lt_trans (ih (by omega)) (h1 (i + 1 + d) hd)
  have h3 := h2 (j - (i + 1)) (by omega)
  rw [show i + 1 + (j - (i + 1)) = j by omega] at h3
  simpa [List.getD, hi, hj] using h3
theorem pair_rises {l : List Int} (h : l.Pairwise (· < ·)) : risesB l = true := by
  refine all_range.2 fun i hi => ?_
  unfold risesAt
  rw [Bool.or_eq_true, decide_eq_true_eq, decide_eq_true_eq]
  by_cases h0 : i = 0
  · exact .inl h0
  · right
    rw [List.pairwise_iff_getElem] at h
    have := h (i - 1) i (by omega) hi (by omega)
    simpa [List.getD, hi, show i - 1 < l.length by omega] using this
theorem sub_of_rising : ∀ (m l : List Int), l.Pairwise (· < ·) → m.Pairwise (· < ·) → (∀ x, x ∈ l → x ∈ m) → l.Sublist m
  | [], l, _, _, h => by
    cases l with
    | nil => exact List.Sublist.refl _
    | cons x l => exact absurd (h x (by simp)) (by simp)
  | y :: m, [], _, _, _ => List.nil_sublist _
  | y :: m, x :: l, hl, hm, h => by
    rw [List.pairwise_cons] at hl hm
    by_cases e : x = y
    · subst e
      refine (sub_of_rising m l hl.2 hm.2 fun z hz => ?_).cons_cons x
      have h1 := hl.1 z hz
      rcases List.mem_cons.1 (h z (by simp [hz])) with h2 | h2
      · omega
      · exact h2
    · refine (sub_of_rising m (x :: l) (List.pairwise_cons.2 hl) hm.2 fun z hz => ?_).cons y
      have hxm : x ∈ m := by
        rcases List.mem_cons.1 (h x (by simp)) with h2 | h2
        · exact absurd h2 e
        · exact h2
      have hyx := hm.1 x hxm
      rcases List.mem_cons.1 (h z hz) with h2 | h2
      · subst h2
        rcases List.mem_cons.1 hz with h3 | h3
        · exact absurd h3.symm e
        · have := hl.1 z h3; omega
      · exact h2
section
variable {r : RwD} {ws : List (Int × Int)} {k : Int}
theorem sample_at {l : List Int} (h : r.sampleB l = true) : (∀ p, p ∈ l → 0 ≤ p ∧ p ≤ r.n - 1) ∧ (∀ p, p ∈ l → r.lastB p.toNat = true) ∧ l.Pairwise (· < ·) := by
  unfold RwD.sampleB at h
  rw [Bool.and_eq_true, Bool.and_eq_true, List.all_eq_true, List.all_eq_true] at h
  exact ⟨fun p hp => inB_iff.1 (h.1.1 p hp), h.1.2, rises_pair h.2⟩
theorem sample_mk {l : List Int} (h1 : ∀ p, p ∈ l → 0 ≤ p ∧ p ≤ r.n - 1) (h2 : ∀ p, p ∈ l → r.lastB p.toNat = true) (h3 : l.Pairwise (· < ·)) : r.sampleB l = true := by
  unfold RwD.sampleB
  rw [Bool.and_eq_true, Bool.and_eq_true, List.all_eq_true, List.all_eq_true]
  exact ⟨⟨fun p hp => inB_iff.2 (h1 p hp), h2⟩, pair_rises h3⟩
theorem sub_sample (hok : r.Ok) {l : List Int} (h : l.Sublist (r.tells ws)) : r.sampleB l = true := by
  have hd := hok.dug
  refine sample_mk (fun p hp => ?_) (fun p hp => ?_) (tells_rising.sublist h)
  · obtain ⟨q, rfl, h1, -⟩ := tells_nat (h.subset hp); omega
  · obtain ⟨q, rfl, h1, h2⟩ := tells_nat (h.subset hp)
    unfold RwD.tellB at h2
    rw [Bool.and_eq_true] at h2
    exact h2.1
/-- No sample that is enough has fewer plants than the best one. -/
theorem best_least (hok : r.Ok) (hw : ws.length = 10) (hk : 0 ≤ k) {l : List Int} (hs : r.sampleB l = true) (he : r.enoughD ws l k = true) : (r.bestD ws k).length ≤ l.length := by
  obtain ⟨h1, h2, h3⟩ := sample_at hs
  have hd := hok.dug
  have hn := hok.n1
  have hin : ∀ p, p ∈ l → 0 ≤ p ∧ p < 10 := fun p hp => by have := h1 p hp; omega
  have hfs : (l.filter fun p => r.tellB ws p.toNat).Sublist l := List.filter_sublist
  have hin2 : ∀ p, p ∈ (l.filter fun p => r.tellB ws p.toNat) → 0 ≤ p ∧ p < 10 := fun p hp => hin p (hfs.subset hp)
  refine Nat.le_trans ((best_is hok hw hk).2.2 (l.filter fun p => r.tellB ws p.toNat) ?_ ?_) hfs.length_le
  · refine sub_of_rising _ _ (h3.sublist hfs) tells_rising fun x hx => ?_
    obtain ⟨ha, hb⟩ := List.mem_filter.1 hx
    have := h1 x ha
    have h4 := mem_tells (r := r) (ws := ws) (q := x.toNat)
    rw [show ((x.toNat : Nat) : Int) = x by omega] at h4
    exact h4.2 ⟨by omega, hb⟩
  · refine enough_of hok (fun t hT ht => ?_) he
    obtain ⟨ha, hb⟩ := (poss_tested hw hin2 t).1 ht
    refine (poss_tested hw hin t).2 ⟨ha, fun q hq hm => ?_⟩
    cases htl : r.tellB ws q with
    | true => exact hb q hq (List.mem_filter.2 ⟨hm, htl⟩)
    | false =>
      have h5 := all_range.1 ha q hq
      unfold RwD.possAt at h5
      rw [Bool.and_eq_true] at h5
      exact no_tell hw (by omega) (h2 _ hm) htl h5.1
end
/-- A plant put into a rising list. -/
def insP (p : Int) : List Int → List Int
  | [] => [p]
  | x :: l => if p ≤ x then (if p < x then p :: x :: l else x :: l) else x :: insP p l
theorem mem_insP {p x : Int} : ∀ {l : List Int}, x ∈ insP p l ↔ x = p ∨ x ∈ l
  | [] => by simp [insP]
  | y :: l => by
    unfold insP
    split
    · split
      · simp
      · have : p = y := by omega
        subst this; simp
    · rw [List.mem_cons, mem_insP, List.mem_cons]
      exact ⟨fun h => h.elim (fun h => .inr (.inl h)) (fun h => h.elim .inl fun h => .inr (.inr h)), fun h => h.elim (fun h => .inr (.inl h)) fun h => h.elim .inl fun h => .inr (.inr h)⟩
theorem insP_rising {p : Int} : ∀ {l : List Int}, l.Pairwise (· < ·) → (insP p l).Pairwise (· < ·)
  | [], _ => by simp [insP]
  | y :: l, h => by
    have h2 := List.pairwise_cons.1 h
    unfold insP
    split
    · split
      · refine List.pairwise_cons.2 ⟨fun z hz => ?_, h⟩
        rcases List.mem_cons.1 hz with rfl | hz
        · assumption
        · have := h2.1 z hz; omega
      · exact h
    · refine List.pairwise_cons.2 ⟨fun z hz => ?_, insP_rising h2.2⟩
      rcases mem_insP.1 hz with rfl | hz
      · omega
      · exact h2.1 z hz
/-- One plant of the list looked at. -/
def widS (p : Int) (s : Bool × List Int) (x : Int) : Bool × List Int := if !s.1 && decide (p ≤ x) then (true, s.2 ++ (if p < x then [p] else []) ++ [x]) else (s.1, s.2 ++ [x])
def widK (p : Int) (d : Bool) (l : List Int) (k : Nat) : Bool × List Int := (l.take k).foldl (widS p) (d, [])
def widD (p : Int) (d : Bool) (l : List Int) : List Int := if (widK p d l l.length).1 then (widK p d l l.length).2 else (widK p d l l.length).2 ++ [p]
theorem widK_succ {p : Int} {d : Bool} {l : List Int} {k : Nat} {x : Int} (h : l[k]? = some x) : widK p d l (k + 1) = widS p (widK p d l k) x := by
  unfold widK; rw [List.take_add_one, h]; simp
theorem wid_fold (p : Int) : ∀ (l : List Int) (d : Bool) (acc : List Int), (if (l.foldl (widS p) (d, acc)).1 then (l.foldl (widS p) (d, acc)).2 else (l.foldl (widS p) (d, acc)).2 ++ [p]) = acc ++ (if d then l else insP p l)
  | [], d, acc => by cases d <;> simp [insP]
  | x :: l, d, acc => by
    rw [List.foldl_cons]
    cases d with
    | true =>
      rw [show widS p (true, acc) x = (true, acc ++ [x]) from rfl, wid_fold p l true]; simp
    | false =>
      by_cases h : p ≤ x
      · rw [show widS p (false, acc) x = (true, acc ++ (if p < x then [p] else []) ++ [x]) from by unfold widS; simp [h], wid_fold p l true, insP, if_pos h]
        by_cases h2 : p < x
        · simp [h2]
        · simp [h2]
      · rw [show widS p (false, acc) x = (false, acc ++ [x]) from by unfold widS; simp [h], wid_fold p l false, insP, if_neg h]; simp
theorem widD_eq (p : Int) (d : Bool) (l : List Int) : widD p d l = if d then l else insP p l := by
  unfold widD widK
  rw [List.take_length, wid_fold]; simp
theorem widK_length (p : Int) (d : Bool) (l : List Int) : ∀ k, (widK p d l k).2.length ≤ 2 * k
  | 0 => by simp [widK]
  | k + 1 => by
    have ih := widK_length p d l k
    cases h : l[k]? with
    | none =>
      have : widK p d l (k + 1) = widK p d l k := by unfold widK; rw [List.take_add_one, h]; simp
      rw [this]; omega
    | some x =>
      rw [widK_succ h]
      unfold widS
      split
      · simp only [List.length_append]
        split <;> simp <;> omega
      · simp; omega
end Go.Proofs.Ytebkhgficochoaa

/- ProveSample. -/
namespace Go.Proofs.Ytebkhgficochoaa
open Go.RowKit Go.Lib

/-- Is a list a sample of the row that is enough for the number? -/
def RwD.proveS (r : RwD) (number : Int) (l : List Int) : Bool := decide (r.err = 0) && r.askD number && r.sampleB l && r.enoughD r.wins l number
set_option maxRecDepth 100000 in
set_option maxHeartbeats 4000000 in
theorem ProveSample_no (r : RwM) (number : Int) (A : Option Addr) (n c : Nat) (w : World) (hr : r.At w w.heap.size) (he : r.d.err ≠ 0) :
    Calls Try.prog 32 #[.agg r.cells.toArray, .int .i64 number, .slice A n c] w fun e w' => e = .returned (.bool false) ∧ Below w.heap.size w w' := by
  have l0 : Lies (w.alloc (.cells r.cells.toArray 34)) w.heap.size 34 r.cells.toArray := Lies.fresh _ _ _
  have b0 : Below w.heap.size w (w.alloc (.cells r.cells.toArray 34)) := (by repeat (first | (with_reducible assumption) | (with_reducible exact Below.refl _ _) | (with_reducible refine Below.drew ?_) | (with_reducible refine below_drewN ?_ _) | ((with_reducible refine Below.setCell ?_ ?_ _); rotate_left; focus (first | (simp; done) | (simp; omega) | omega)) | ((with_reducible refine Below.alloc ?_ ?_ _); rotate_left; focus (first | (simp; done) | (simp; omega) | omega))))
  have hQ := lookAt_no r _ (hr.below b0 b0.size) he
  generalize r.d.err = err at *
  have hfb : (err == 0) = false := by simpa using he
  have L0 := Lib.hid l0
  have B0 := Lib.hid b0
  have HQ := Lib.hid hQ
  clear l0 b0 hQ he hr
  go_enter Try.func32, Try.ntmps32
  go_upto_region 1 with (fail)
  change Code.wp _ _ _ _ (w.alloc (.cells r.cells.toArray 34))
  generalize w.alloc (.cells r.cells.toArray 34) = w0 at *
  go_wp2_with (first
    | (refine wpList_load_row (o := ⟨some 11, _, _, _, _, _⟩) ?_ 34 (.tmp 3) ?_ w.heap.size ?_ 34 r.cells.toArray (0, 0) _ L0.out Try.underlying34 rfl size_row ?_; rfl; rfl; rfl)
    | (go_at_call 47; refine HQ.out.mono ?_; rintro e w5 ⟨rfl, hb5⟩)
    | (refine wpList_store_cells (o := ⟨none, .store 84 (.tmp 7) _, _, _, _, _⟩) ?_ 84 (.tmp 7) (.tmp 13) ?_ w5.heap.size 0 ?_ 84 zco zco ?_ ((Lies.fresh w5 84 zco.toArray).alloc _) (by simp) size_zco zco_one ?_; rfl; rfl; rfl; rfl; intro w6 HS6 HO6)
    | (refine wpList_store_ints (o := ⟨none, .store 86 (.tmp 8) _, _, _, _, _⟩) ?_ 86 (.tmp 8) (.tmp 14) ?_ (w5.heap.size + 1) 0 ?_ 86 (List.replicate 10 0) (List.replicate 10 0) ?_ (HO6.out.lies (Lies.fresh' (by simp)) (by omega)) (by simp) size_ztr ?_; rfl; rfl; rfl; rfl; intro w7 HS7 HO7))
  go_ret
  exact ⟨rfl, HO7.out.below (HO6.out.below (((B0.out.trans (hb5.mono B0.out.size)).alloc (B0.out.trans (hb5.mono B0.out.size)).size _).alloc (by have := (B0.out.trans (hb5.mono B0.out.size)).size; simp; omega) _) (B0.out.trans (hb5.mono B0.out.size)).size) (by have := (B0.out.trans (hb5.mono B0.out.size)).size; omega)⟩
set_option maxRecDepth 100000 in
set_option maxHeartbeats 8000000 in
theorem ProveSample_yes (r : RwM) (number : Int) (A : Option Addr) (c : Nat) (l : List Int) (w : World) (hr : r.At w w.heap.size) (hA : Sl w w.heap.size 1 encI A l) (hl : l.length ≤ 1000000) (he : r.d.err = 0) :
    Calls Try.prog 32 #[.agg r.cells.toArray, .int .i64 number, .slice A l.length c] w fun e w' => e = .returned (.bool (r.d.askD number && r.d.sampleB l && r.d.enoughD r.d.wins l number)) ∧ Below w.heap.size w w' := by
  obtain ⟨hf, hc⟩ := err_zero he
  obtain ⟨hok, hn, hd, hlw, hln⟩ := fault_ok hf
  have l0 : Lies (w.alloc (.cells r.cells.toArray 34)) w.heap.size 34 r.cells.toArray := Lies.fresh _ _ _
  have b0 : Below w.heap.size w (w.alloc (.cells r.cells.toArray 34)) := (by repeat (first | (with_reducible assumption) | (with_reducible exact Below.refl _ _) | (with_reducible refine Below.drew ?_) | (with_reducible refine below_drewN ?_ _) | ((with_reducible refine Below.setCell ?_ ?_ _); rotate_left; focus (first | (simp; done) | (simp; omega) | omega)) | ((with_reducible refine Below.alloc ?_ ?_ _); rotate_left; focus (first | (simp; done) | (simp; omega) | omega))))
  have hQ := lookAt_yes r _ (hr.below b0 b0.size) hf hc
  have hlen : r.d.earliest.length = 10 := earliest_ok.len
  have hCS := fun W => canBeSampled_any r number W hlw
  have hIS := fun W (hb : Below w.heap.size w W) => isSample_any r A c l W (hr.below hb hb.size) hok ((hA.below hb).more hb.size) hl
  have hIE := fun (hs : r.d.sampleB l = true) W (hb : Below w.heap.size w W) => isEnough_any r.co A c l number W r.d.wins_length (hr.below hb hb.size) hok ((hA.below hb).more hb.size) hl (fun p hp => by have h1 := (sample_at hs).1 p hp; have := hok.n1; omega)
  change ∀ (hs : r.d.sampleB l = true) W, Below w.heap.size w W → Calls Try.prog 61 #[.agg r.co.cells.toArray, .slice A l.length c, .int .i64 number] W (fun e w' => e = .returned (.bool (r.d.enoughD r.d.wins l number)) ∧ Below W.heap.size W w') at hIE
  have hszc : (Try.prog.info? 84).map (·.size) = some r.co.cells.length := by rw [CoM.len _ r.d.wins_length]; exact size_co
  have hszcA : (Try.prog.info? 84).map (·.size) = some r.co.cells.toArray.size := by simpa using hszc
  have hszt : (Try.prog.info? 86).map (·.size) = some r.d.earliest.length := by rw [hlen]; exact size_tr
  have hwc : r.co.cells.length = zco.length := by rw [CoM.len _ r.d.wins_length]; rfl
  have hwt : r.d.earliest.length = (List.replicate 10 (0 : Int)).length := by rw [hlen]; rfl
  generalize r.d.askD number = ya at *
  generalize r.d.enoughD r.d.wins l number = yn at *
  generalize r.d.sampleB l = ys at *
  have L0 := Lib.hid l0
  have B0 := Lib.hid b0
  have HQ := Lib.hid hQ
  have HCS := Lib.hid hCS
  have HIS := Lib.hid hIS
  have HIE := Lib.hid hIE
  have HSC := Lib.hid hszc
  have HSCA := Lib.hid hszcA
  have HST := Lib.hid hszt
  have HWT := Lib.hid hwt
  have HWC := Lib.hid hwc
  have HFC := Lib.hid (show 0 + r.co.cells.length ≤ zco.length by rw [hwc]; simp)
  have HFT := Lib.hid (show 0 + r.d.earliest.length ≤ (List.replicate 10 (0 : Int)).length by rw [hwt]; simp)
  have HONE := Lib.hid (show ∀ v ∈ r.co.cells, v.oneCell' = true from co_one r r.d.wins)
  clear l0 b0 hQ he hr hf hc hok hn hd hlw hln hlen hszc hszcA hszt hwc hwt hCS hIS hIE hA hl
  go_enter Try.func32, Try.ntmps32
  go_upto_region 1 with (fail)
  change Code.wp _ _ _ _ (w.alloc (.cells r.cells.toArray 34))
  generalize w.alloc (.cells r.cells.toArray 34) = w0 at *
  go_upto_region 2 with (first
    | (refine wpList_load_row (o := ⟨some 11, _, _, _, _, _⟩) ?_ 34 (.tmp 3) ?_ w.heap.size ?_ 34 r.cells.toArray (0, 0) _ L0.out Try.underlying34 rfl size_row ?_; rfl; rfl; rfl)
    | (go_at_call 47; refine HQ.out.mono ?_; rintro e w5 ⟨rfl, hb5⟩)
    | (refine wpList_store_cells (o := ⟨none, .store 84 (.tmp 7) _, _, _, _, _⟩) ?_ 84 (.tmp 7) (.tmp 13) ?_ w5.heap.size 0 ?_ 84 zco r.co.cells ?_ ((Lies.fresh w5 84 zco.toArray).alloc _) HFC.out HSC.out HONE.out ?_; rfl; rfl; rfl; rfl; intro w6 HS6 HO6)
    | (refine wpList_store_ints (o := ⟨none, .store 86 (.tmp 8) _, _, _, _, _⟩) ?_ 86 (.tmp 8) (.tmp 14) ?_ (w5.heap.size + 1) 0 ?_ 86 (List.replicate 10 0) r.d.earliest ?_ (HO6.out.lies (Lies.fresh' (by simp)) (by omega)) HFT.out HST.out ?_; rfl; rfl; rfl; rfl; intro w7 HS7 HO7; (try simp only [Act.put])))
  have hb7 : Below w.heap.size w w7 := HO7.out.below (HO6.out.below (((B0.out.trans (hb5.mono B0.out.size)).alloc (B0.out.trans (hb5.mono B0.out.size)).size _).alloc (by have := (B0.out.trans (hb5.mono B0.out.size)).size; simp; omega) _) (B0.out.trans (hb5.mono B0.out.size)).size) (by have := (B0.out.trans (hb5.mono B0.out.size)).size; omega)
  have hs6 := HS6.out
  rw [splice_whole HWC.out] at hs6
  have hw5 : w.heap.size < w5.heap.size := Nat.lt_of_lt_of_le L0.out.in_ hb5.size
  have C7 := Lib.hid (HO7.out.lies hs6 (by omega))
  have R7 := Lib.hid (HO7.out.lies (HO6.out.lies (((L0.out.call hb5).alloc _).alloc _) (by omega)) (by omega))
  have B7 := Lib.hid hb7
  generalize w5.heap.size = g5 at *
  clear hs6 hb7 HS7 HO7 HS6 HO6 hb5 HQ L0 B0
  cases ya
  · go_wp2_with (first
      | (refine wpList_load_rowG (o := ⟨some 19, _, _, _, _, _⟩) ?_ 34 (.tmp 3) ?_ w.heap.size ?_ 34 r.cells.toArray (0, 0) _ R7.out Try.underlying34 rfl size_row ?_; kernel_rfl; rfl; rfl)
      | (go_at_call 58; refine (HCS.out _).mono ?_; rintro e w8 ⟨rfl, hb8⟩))
    go_ret
    exact ⟨rfl, B7.out.trans (hb8.mono B7.out.size)⟩
  · cases ys
    · go_wp2_with (first
        | ((fail_if_success (have hxx := B8)); refine wpList_load_rowG (o := ⟨some 19, _, _, _, _, _⟩) ?_ 34 (.tmp 3) ?_ w.heap.size ?_ 34 r.cells.toArray (0, 0) _ R7.out Try.underlying34 rfl size_row ?_; kernel_rfl; rfl; rfl)
        | (go_at_call 58; refine (HCS.out _).mono ?_; rintro e w8 ⟨rfl, hb8⟩; have B8 := Lib.hid (B7.out.trans (hb8.mono B7.out.size)); have R8 := Lib.hid (R7.out.call hb8))
        | (refine wpList_load_rowG (o := ⟨some 24, _, _, _, _, _⟩) ?_ 34 (.tmp 3) ?_ w.heap.size ?_ 34 r.cells.toArray (0, 0) _ R8.out Try.underlying34 rfl size_row ?_; kernel_rfl; rfl; rfl)
        | (go_at_call 60; refine (HIS.out _ B8.out).mono ?_; rintro e w9 ⟨rfl, hb9⟩))
      go_ret
      exact ⟨rfl, B8.out.trans (hb9.mono B8.out.size)⟩
    · go_wp2_with (first
        | ((fail_if_success (have hxx := B8)); refine wpList_load_rowG (o := ⟨some 19, _, _, _, _, _⟩) ?_ 34 (.tmp 3) ?_ w.heap.size ?_ 34 r.cells.toArray (0, 0) _ R7.out Try.underlying34 rfl size_row ?_; kernel_rfl; rfl; rfl)
        | (go_at_call 58; refine (HCS.out _).mono ?_; rintro e w8 ⟨rfl, hb8⟩; have B8 := Lib.hid (B7.out.trans (hb8.mono B7.out.size)); have R8 := Lib.hid (R7.out.call hb8); have C8 := Lib.hid (C7.out.call hb8))
        | ((fail_if_success (have hxx := B9)); refine wpList_load_rowG (o := ⟨some 24, _, _, _, _, _⟩) ?_ 34 (.tmp 3) ?_ w.heap.size ?_ 34 r.cells.toArray (0, 0) _ R8.out Try.underlying34 rfl size_row ?_; kernel_rfl; rfl; rfl)
        | (go_at_call 60; refine (HIS.out _ B8.out).mono ?_; rintro e w9 ⟨rfl, hb9⟩; have B9 := Lib.hid (B8.out.trans (hb9.mono B8.out.size)); have C9 := Lib.hid (C8.out.call hb9))
        | (refine wpList_load_rowG (o := ⟨some 29, _, _, _, _, _⟩) ?_ 84 (.tmp 7) ?_ g5 ?_ 84 r.co.cells.toArray (0, 0) _ C9.out Try.underlying84 rfl HSCA.out ?_; kernel_rfl; rfl; rfl)
        | (go_at_call 61; refine (HIE.out (by simp) _ B9.out).mono ?_; rintro e wa ⟨rfl, hba⟩))
      go_ret
      exact ⟨rfl, B9.out.trans (hba.mono B9.out.size)⟩
theorem ProveSample_any (r : RwM) (number : Int) (A : Option Addr) (c : Nat) (l : List Int) (w : World) (hr : r.At w w.heap.size) (hA : Sl w w.heap.size 1 encI A l) (hl : l.length ≤ 1000000) :
    Calls Try.prog 32 #[.agg r.cells.toArray, .int .i64 number, .slice A l.length c] w fun e w' => e = .returned (.bool (r.d.proveS number l)) ∧ Below w.heap.size w w' := by
  unfold RwD.proveS
  by_cases he : r.d.err = 0
  · have := ProveSample_yes r number A c l w hr hA hl he
    rw [decide_eq_true he, Bool.true_and]; exact this
  · have := ProveSample_no r number A l.length c w hr he
    rw [decide_eq_false he, Bool.false_and, Bool.false_and, Bool.false_and]; exact this
end Go.Proofs.Ytebkhgficochoaa

/- ref.IsSample. -/
namespace Go.Proofs.Ytebkhgficochoaa
open Go.RowKit Go.Lib

/-- Can place i of a list stand in a sample? -/
def RwD.sampAt (r : RwD) (l : List Int) (i : Nat) : Bool := inB (l.getD i 0) 0 (r.n - 1) && r.lastB (l.getD i 0).toNat && risesAt l i
theorem sample_all (r : RwD) (l : List Int) : r.sampleB l = (List.range l.length).all (r.sampAt l) := by
  rw [Bool.eq_iff_iff, all_range]
  unfold RwD.sampleB
  rw [Bool.and_eq_true, Bool.and_eq_true, List.all_eq_true, List.all_eq_true]
  constructor
  · rintro ⟨⟨h1, h2⟩, h3⟩ i hi
    unfold RwD.sampAt
    rw [h1 _ (getD_mem hi), h2 _ (getD_mem hi), all_range.1 h3 i hi]; rfl
  · intro h
    have h' : ∀ i, i < l.length → inB (l.getD i 0) 0 (r.n - 1) = true ∧ r.lastB (l.getD i 0).toNat = true ∧ risesAt l i = true := fun i hi => by
      have := h i hi
      unfold RwD.sampAt at this
      rw [Bool.and_eq_true, Bool.and_eq_true] at this
      exact ⟨this.1.1, this.1.2, this.2⟩
    refine ⟨⟨fun x hx => ?_, fun x hx => ?_⟩, all_range.2 fun i hi => (h' i hi).2.2⟩
    · obtain ⟨i, hi⟩ := List.getElem?_of_mem hx
      have := (h' i (List.getElem?_eq_some_iff.1 hi).1).1
      rwa [List.getD, hi] at this
    · obtain ⟨i, hi⟩ := List.getElem?_of_mem hx
      have := (h' i (List.getElem?_eq_some_iff.1 hi).1).2.1
      rwa [List.getD, hi] at this
set_option maxRecDepth 100000 in
set_option maxHeartbeats 8000000 in
theorem refIsSample_any (r : RwM) (A : Option Addr) (c : Nat) (l : List Int) (w : World) (hr : r.At w w.heap.size) (hok : r.d.Ok) (hA : Sl w w.heap.size 1 encI A l) (hl : l.length ≤ 1000000) :
    Calls Try.prog 35 #[.agg r.cells.toArray, .slice A l.length c] w fun e w' => e = .returned (.bool (r.d.sampleB l)) ∧ Below w.heap.size w w' := by
  obtain ⟨N, hN⟩ : ∃ N, N = r.dug.l.length := ⟨_, rfl⟩
  have hnn : r.n = (N : Int) := by rw [hN]; exact hok.dug.symm
  have hN1 : 1 ≤ N := by have := hok.n0; have h2 : r.d.n = r.n := rfl; omega
  have hN10 : N ≤ 10 := by have := hok.n1; have h2 : r.d.n = r.n := rfl; omega
  have hN1z : (1 : Int) ≤ (N : Int) := by omega
  have hN10z : (N : Int) ≤ 10 := by omega
  have hw1 : IntKind.i64.wrap ((N : Int) - 1) = (N : Int) - 1 := IntWalk.i64_in _ (by omega)
  have hYz : (r.ws.l.length : Int) ≤ 30 := by have h2 : r.ws.l.length ≤ 30 := hok.nw; omega
  have l0 : Lies (w.alloc (.cells r.cells.toArray 26)) w.heap.size 26 r.cells.toArray := Lies.fresh _ _ _
  have b0 : Below w.heap.size w (w.alloc (.cells r.cells.toArray 26)) := (by repeat (first | (with_reducible assumption) | (with_reducible exact Below.refl _ _) | (with_reducible refine Below.drew ?_) | (with_reducible refine below_drewN ?_ _) | ((with_reducible refine Below.setCell ?_ ?_ _); rotate_left; focus (first | (simp; done) | (simp; omega) | omega)) | ((with_reducible refine Below.alloc ?_ ?_ _); rotate_left; focus (first | (simp; done) | (simp; omega) | omega))))
  have hSQ := fun (q : Nat) (hq : q < N) W (hb : Below w.heap.size w W) => (refStands_any r q (r.d.dg (q : Nat)) (r.ws.l.length : Int) W ((hr.dug.below hb).more hb.size) (by show r.dug.l[q]? = some (r.dug.l.getD q 0); rw [hN] at hq; simp [List.getD, hq]) hr.ld : Calls Try.prog 42 #[.agg r.cells.toArray, .int .i64 q, .int .i64 r.ws.l.length] W fun e w' => e = .returned (.bool (r.d.lastB q)) ∧ Below W.heap.size W w')
  have hno : ∀ k, k < l.length → r.d.sampAt l k = false → r.d.sampleB l = false := fun k hk h => by rw [sample_all]; exact all_range_no hk h
  have hyes : (∀ k, k < l.length → r.d.sampAt l k = true) → r.d.sampleB l = true := fun h => by rw [sample_all]; exact all_range.2 h
  have hdn : r.d.n = (N : Int) := hnn
  have L0 := Lib.hid l0
  have B0 := Lib.hid b0
  have HSQ := Lib.hid hSQ
  have HNE := Lib.hid hnn
  have HDN := Lib.hid hdn
  have HAA := Lib.hid hA
  have HNO := Lib.hid hno
  have HYES := Lib.hid hyes
  clear l0 b0 hSQ hnn hA hr hok hN hno hyes hdn
  go_enter Try.func35, Try.ntmps35
  go_upto_region 1 with (fail)
  change Code.wp _ _ _ _ (w.alloc (.cells r.cells.toArray 26))
  generalize w.alloc (.cells r.cells.toArray 26) = w0 at *
  go_wp2
  go_loopw [5] (fun s5 wr => ∃ k : Nat, k ≤ l.length ∧ s5 = .int .i64 k ∧ Aside (Below w.heap.size w wr) ∧ Aside (Lies wr w.heap.size 26 r.cells.toArray) ∧ Aside (∀ j, j < k → r.d.sampAt l j = true)) (fun i _ => l.length - (intOf i).toNat)
  case atStart => exact ⟨0, by omega, rfl, B0.out, L0.out, fun j h => absurd h (by omega)⟩
  case round =>
    obtain ⟨k, hk, rfl, HB, HL, HH⟩ := hrel
    clear L0 B0
    by_cases hlt : k < l.length
    · have hltz : (k : Int) < (l.length : Int) := by omega
      have hk0 : (0 : Int) ≤ (k : Int) := by omega
      obtain ⟨x, hx⟩ : ∃ x, l[k]? = some x := ⟨l[k], by simp [hlt]⟩
      obtain ⟨lb, lo, rfl, hlb, c16'⟩ := HAA.out.cell1 hx
      have hxg : l.getD k 0 = x := by rw [List.getD, hx]; rfl
      have hsat : r.d.sampAt l k = (inB x 0 ((N : Int) - 1) && r.d.lastB x.toNat && risesAt l k) := by unfold RwD.sampAt; rw [hxg, HDN.out]
      have r1 := cell_regrown ((HB.out.cell (p := ⟨lb, lo + k, none⟩) hlb).trans c16')
      have r2 := cell_regrown (show wr.cell? ⟨w.heap.size, 0, none⟩ = some (.int .i64 N) by rw [← HNE.out]; exact HL.out.at_ 0)
      have r3 := cell_regrown (show wr.cell? ⟨w.heap.size, 1, none⟩ = some (.slice r.ws.A r.ws.l.length r.ws.c) from HL.out.at_ 1)
      have hq1 : ∀ W, Calls Try.prog 33 #[.int .i64 x, .int .i64 0, .int .i64 ((N : Int) - 1)] W fun e w' => e = .returned (.bool (inB x 0 ((N : Int) - 1))) ∧ Below W.heap.size W w' := fun W => refIn_below _ _ _ _
      have hr0 : ∀ V, (∃ p : Regrown, V = Go.Sort.grow (redrawn wr p.d) p.os) → V.rangeAt w.heap.size 0 r.cells := by
        rintro V ⟨p, rfl⟩
        exact Lies.range (cs := r.cells) (HL.out.call (below_regrown _ _ _)) (fun j v hj => by simpa using hj)
      have HR0 := Lib.hid hr0
      have HSAT := Lib.hid hsat
      have HXG := Lib.hid hxg
      have HBB := Lib.hid HB.out
      have HLL := Lib.hid HL.out
      have hdx : inB x 0 ((N : Int) - 1) = true → 0 ≤ x ∧ x.toNat < N := fun h => by have := inB_iff.1 h; omega
      have HDX := Lib.hid hdx
      obtain ⟨y1, hy1⟩ : ∃ y, y = inB x 0 ((N : Int) - 1) := ⟨_, rfl⟩
      rw [← hy1] at hq1
      have Q1 := Lib.hid hq1
      have HY1 := Lib.hid hy1
      clear hx c16' hsat hxg hq1 hr0 hdx hy1 HB HL
      go_upto_region 4 with (fail)
      cases y1 with
      | false =>
        refine wp_region_quiet_below (by kernel_rfl) (by kernel_rfl) ?_
        repeat (first | go_big_quiet_step ((go_at_call 33; exact Calls.regrown_of (Q1.out _))) | quiet_step ((go_at_call 33; exact Calls.regrown_of (Q1.out _))))
        refine wpQuiet_nil ?_
        intro wq hwq
        have hbq : Below _ _ wq := (by obtain ⟨p, rfl⟩ := hwq; exact below_regrown _ _ _)
        clear hwq r1 r2 r3
        go_wp2
        go_ret
        exact ⟨ret_bool (HNO.out k hlt (by rw [HSAT.out, ← HY1.out]; rfl)).symm, HBB.out.trans (hbq.mono HBB.out.size)⟩
      | true =>
        obtain ⟨hx0, hxN⟩ := HDX.out HY1.out.symm
        obtain ⟨p, hp⟩ : ∃ p : Nat, x = (p : Int) := ⟨x.toNat, by omega⟩
        subst hp
        have hst := fun W (hb : Below wr.heap.size wr W) => HSQ.out p (by omega) W (HBB.out.trans (hb.mono HBB.out.size))
        obtain ⟨y2, hy2⟩ : ∃ y, y = stB (r.d.dg (p : Nat)) (r.ws.l.length : Int) := ⟨_, rfl⟩
        rw [← hy2] at hst
        have HST := Lib.hid hst
        have HY2 := Lib.hid (show y2 = r.d.lastB p from hy2)
        clear hst hy2 hx0 hxN
        cases y2 with
        | false =>
          refine wp_region_quiet_below (by kernel_rfl) (by kernel_rfl) ?_
          repeat (first
            | go_big_quiet_skip
            | (refine wpQuiet_load_wholeG (o := ⟨some 22, _, _, _, _, _⟩) ?_ 26 (.tmp 2) ?_ w.heap.size 0 ?_ r.cells _ HR0.out Try.underlying26 rfl size_refrow ?_; kernel_rfl; rfl; rfl; simp only [Act.put, List.setIfInBounds_toArray, List.set_cons_zero, List.set_cons_succ])
            | go_big_quiet_step (first | (go_at_call 33; exact Calls.regrown_of (Q1.out _)) | (go_at_call 42; exact Calls.regrown_of (HST.out _ (below_regrown _ _ _)))) | quiet_step (first | (go_at_call 33; exact Calls.regrown_of (Q1.out _)) | (go_at_call 42; exact Calls.regrown_of (HST.out _ (below_regrown _ _ _)))))
          refine wpQuiet_nil ?_
          intro wq hwq
          have hbq : Below _ _ wq := (by obtain ⟨p, rfl⟩ := hwq; exact below_regrown _ _ _)
          clear hwq r1 r2 r3
          go_wp2
          go_ret
          exact ⟨ret_bool (HNO.out k hlt (by rw [HSAT.out, ← HY1.out, Int.toNat_natCast, ← HY2.out]; rfl)).symm, HBB.out.trans (hbq.mono HBB.out.size)⟩
        | true =>
          have hsa : r.d.sampAt l k = risesAt l k := by rw [HSAT.out, ← HY1.out, Int.toNat_natCast, ← HY2.out]; rfl
          by_cases h0 : k = 0
          · have d0 : decide (0 < k) = false := decide_eq_false (by omega)
            have hra : risesAt l k = true := by unfold risesAt; rw [h0]; rfl
            have HS := Lib.hid (hsa.trans hra)
            clear h0 hsa hra
            refine wp_region_quiet_below (by kernel_rfl) (by kernel_rfl) ?_
            repeat (first
              | go_big_quiet_skip
              | (refine wpQuiet_load_wholeG (o := ⟨some 22, _, _, _, _, _⟩) ?_ 26 (.tmp 2) ?_ w.heap.size 0 ?_ r.cells _ HR0.out Try.underlying26 rfl size_refrow ?_; kernel_rfl; rfl; rfl; simp only [Act.put, List.setIfInBounds_toArray, List.set_cons_zero, List.set_cons_succ])
              | go_big_quiet_step (first | (go_at_call 33; exact Calls.regrown_of (Q1.out _)) | (go_at_call 42; exact Calls.regrown_of (HST.out _ (below_regrown _ _ _)))) | quiet_step (first | (go_at_call 33; exact Calls.regrown_of (Q1.out _)) | (go_at_call 42; exact Calls.regrown_of (HST.out _ (below_regrown _ _ _)))))
            refine wpQuiet_nil ?_
            intro wq hwq
            have hbq : Below _ _ wq := (by obtain ⟨p, rfl⟩ := hwq; exact below_regrown _ _ _)
            clear hwq r1 r2 r3
            go_wp2
            go_roundw
            case rel => exact ⟨k + 1, by omega, by go_num, HBB.out.trans (hbq.mono HBB.out.size), HLL.out.call hbq, fun j hj => by
              by_cases e : j = k
              · rw [e]; exact HS.out
              · exact HH.out j (by omega)⟩
            case measure => simp [intOf]; omega
          · obtain ⟨j, hj⟩ : ∃ j, j + 1 = k := ⟨k - 1, by omega⟩
            have d0 : decide (0 < k) = true := decide_eq_true (by omega)
            have hjz : (k : Int) - 1 = (j : Int) := by omega
            have hj0 : (0 : Int) ≤ (j : Int) := by omega
            have hjl : (j : Int) < (l.length : Int) := by omega
            have hw2 : IntKind.i64.wrap (j : Int) = (j : Int) := IntWalk.i64_in _ (by omega)
            obtain ⟨y, hy⟩ : ∃ y, l[j]? = some y := ⟨l[j]'(by omega), by simp⟩
            obtain ⟨b', off', e', hb', hc'⟩ := HAA.out.cell1 hy
            cases e'
            have r4 := cell_regrown ((HBB.out.cell (p := ⟨lb, lo + j, none⟩) hb').trans hc')
            have hyg : l.getD (k - 1) 0 = y := by rw [← hj, Nat.add_sub_cancel, List.getD, hy]; rfl
            have hra : risesAt l k = decide (y < (p : Int)) := by unfold risesAt; rw [hyg, HXG.out, decide_eq_false h0]; rfl
            have hsa2 := hsa.trans hra
            clear hy hc' hyg hb' h0 hsa hra
            by_cases hxy : (p : Int) ≤ y
            · have d1 : decide ((p : Int) ≤ y) = true := decide_eq_true hxy
              have HS := Lib.hid (hsa2.trans (decide_eq_false (by omega)))
              clear hsa2
              refine wp_region_quiet_below (by kernel_rfl) (by kernel_rfl) ?_
              repeat (first
                | go_big_quiet_skip
                | (refine wpQuiet_load_wholeG (o := ⟨some 22, _, _, _, _, _⟩) ?_ 26 (.tmp 2) ?_ w.heap.size 0 ?_ r.cells _ HR0.out Try.underlying26 rfl size_refrow ?_; kernel_rfl; rfl; rfl; simp only [Act.put, List.setIfInBounds_toArray, List.set_cons_zero, List.set_cons_succ])
                | go_big_quiet_step (first | (go_at_call 33; exact Calls.regrown_of (Q1.out _)) | (go_at_call 42; exact Calls.regrown_of (HST.out _ (below_regrown _ _ _)))) | quiet_step (first | (go_at_call 33; exact Calls.regrown_of (Q1.out _)) | (go_at_call 42; exact Calls.regrown_of (HST.out _ (below_regrown _ _ _)))))
              refine wpQuiet_nil ?_
              intro wq hwq
              have hbq : Below _ _ wq := (by obtain ⟨p, rfl⟩ := hwq; exact below_regrown _ _ _)
              clear hwq r1 r2 r3 r4
              go_wp2
              go_ret
              exact ⟨ret_bool (HNO.out k hlt HS.out).symm, HBB.out.trans (hbq.mono HBB.out.size)⟩
            · have d1 : decide ((p : Int) ≤ y) = false := decide_eq_false hxy
              have HS := Lib.hid (hsa2.trans (decide_eq_true (by omega)))
              clear hsa2
              refine wp_region_quiet_below (by kernel_rfl) (by kernel_rfl) ?_
              repeat (first
                | go_big_quiet_skip
                | (refine wpQuiet_load_wholeG (o := ⟨some 22, _, _, _, _, _⟩) ?_ 26 (.tmp 2) ?_ w.heap.size 0 ?_ r.cells _ HR0.out Try.underlying26 rfl size_refrow ?_; kernel_rfl; rfl; rfl; simp only [Act.put, List.setIfInBounds_toArray, List.set_cons_zero, List.set_cons_succ])
                | go_big_quiet_step (first | (go_at_call 33; exact Calls.regrown_of (Q1.out _)) | (go_at_call 42; exact Calls.regrown_of (HST.out _ (below_regrown _ _ _)))) | quiet_step (first | (go_at_call 33; exact Calls.regrown_of (Q1.out _)) | (go_at_call 42; exact Calls.regrown_of (HST.out _ (below_regrown _ _ _)))))
              refine wpQuiet_nil ?_
              intro wq hwq
              have hbq : Below _ _ wq := (by obtain ⟨p, rfl⟩ := hwq; exact below_regrown _ _ _)
              clear hwq r1 r2 r3 r4
              go_wp2
              go_roundw
              case rel => exact ⟨k + 1, by omega, by go_num, HBB.out.trans (hbq.mono HBB.out.size), HLL.out.call hbq, fun i hi => by
                by_cases e : i = k
                · rw [e]; exact HS.out
                · exact HH.out i (by omega)⟩
              case measure => simp [intOf]; omega
    · obtain rfl : k = l.length := by omega
      have HBB := Lib.hid HB.out
      have HS := Lib.hid (HYES.out HH.out)
      clear HB HL
      go_wp2
      go_ret
      exact ⟨ret_bool HS.out.symm, HBB.out⟩
end Go.Proofs.Ytebkhgficochoaa

/- ref.Cases. -/
namespace Go.Proofs.Ytebkhgficochoaa
open Go.RowKit Go.Lib

def RwD.casF (r : RwD) (l : List Int) (p : Nat) : Bool := decide (0 ≤ l.getD p 0) && decide (l.getD p 0 + r.old ≤ r.ws.length) && r.lastB p
def RwD.casK (r : RwD) (l : List Int) (k : Nat) : Nat := ((List.range k).filter (r.casF l)).length
theorem casK_succ (r : RwD) (l : List Int) (k : Nat) : r.casK l (k + 1) = r.casK l k + (if r.casF l k then 1 else 0) := by
  unfold RwD.casK
  rw [List.range_succ, List.filter_append, List.length_append]
  congr 1
  rw [List.filter_cons]
  split <;> rfl
theorem casK_le (r : RwD) (l : List Int) (k : Nat) : r.casK l k ≤ k := by
  unfold RwD.casK
  exact Nat.le_trans (List.length_filter_le _ _) (by simp)
/-- The number of old cases of a list of onsets is that of its truth. -/
theorem casK_num {r : RwD} (hok : r.Ok) {l : List Int} (hl : l.length = r.dug.length) (ho : ∀ o, o ∈ l → -1 ≤ o ∧ o ≤ r.ws.length) : r.casK l r.dug.length = r.numC (truthD l) := by
  have h30 := hok.nw
  have hold := hok.old
  unfold RwD.casK RwD.numC RwD.allCases thoseD
  rw [List.length_map, List.filter_filter]
  congr 1
  refine List.filter_congr fun p hp => ?_
  have hp' := List.mem_range.1 hp
  have h := ho _ (getD_mem (t := l) (p := p) (by omega))
  unfold RwD.casF
  rw [truthD_in (by omega)]
  congr 1
  rw [← Bool.decide_and, decide_eq_decide]
  unfold in31
  split <;> omega
set_option maxRecDepth 100000 in
set_option maxHeartbeats 8000000 in
theorem refCases_any (r : RwM) (A : Option Addr) (c : Nat) (l : List Int) (w : World) (hr : r.At w w.heap.size) (hok : r.d.Ok) (hA : Sl w w.heap.size 1 encI A l) (hl : l.length = r.dug.l.length) (hob : ∀ o, o ∈ l → -1 ≤ o ∧ o ≤ 30) :
    Calls Try.prog 43 #[.agg r.cells.toArray, .slice A l.length c] w fun e w' => e = .returned (.int .i64 (r.d.casK l r.d.dug.length)) ∧ Below w.heap.size w w' := by
  obtain ⟨N, hN⟩ : ∃ N, N = r.dug.l.length := ⟨_, rfl⟩
  have hnn : r.n = (N : Int) := by rw [hN]; exact hok.dug.symm
  have hN10 : N ≤ 10 := by have := hok.n1; have h2 : r.d.n = r.n := rfl; omega
  have hYz : (r.ws.l.length : Int) ≤ 30 := by have h2 : r.ws.l.length ≤ 30 := hok.nw; omega
  have hold : 0 ≤ r.old ∧ r.old ≤ 30 := hok.old
  have hla : l.length = N := by omega
  have l0 : Lies (w.alloc (.cells r.cells.toArray 26)) w.heap.size 26 r.cells.toArray := Lies.fresh _ _ _
  have b0 : Below w.heap.size w (w.alloc (.cells r.cells.toArray 26)) := (by repeat (first | (with_reducible assumption) | (with_reducible exact Below.refl _ _) | (with_reducible refine Below.drew ?_) | (with_reducible refine below_drewN ?_ _) | ((with_reducible refine Below.setCell ?_ ?_ _); rotate_left; focus (first | (simp; done) | (simp; omega) | omega)) | ((with_reducible refine Below.alloc ?_ ?_ _); rotate_left; focus (first | (simp; done) | (simp; omega) | omega))))
  have hSQ := fun (q : Nat) (hq : q < N) W (hb : Below w.heap.size w W) => (refStands_any r q (r.d.dg (q : Nat)) (r.ws.l.length : Int) W ((hr.dug.below hb).more hb.size) (by show r.dug.l[q]? = some (r.dug.l.getD q 0); rw [hN] at hq; simp [List.getD, hq]) hr.ld : Calls Try.prog 42 #[.agg r.cells.toArray, .int .i64 q, .int .i64 r.ws.l.length] W fun e w' => e = .returned (.bool (r.d.lastB q)) ∧ Below W.heap.size W w')
  have hres : r.d.dug.length = N := hN.symm
  rw [hres]
  have L0 := Lib.hid l0
  have B0 := Lib.hid b0
  have HSQ := Lib.hid hSQ
  have HNE := Lib.hid hnn
  have HAA := Lib.hid hA
  have HLA := Lib.hid hla
  have HOB := Lib.hid hob
  have HOL := Lib.hid hold
  clear l0 b0 hSQ hnn hA hla hr hok hl hN hres hob hold
  go_enter Try.func43, Try.ntmps43
  go_upto_region 1 with (fail)
  change Code.wp _ _ _ _ (w.alloc (.cells r.cells.toArray 26))
  generalize w.alloc (.cells r.cells.toArray 26) = w0 at *
  go_wp2
  go_loopw [5, 6] (fun s5 s6 wr => ∃ k : Nat, k ≤ N ∧ s5 = .int .i64 (r.d.casK l k : Nat) ∧ s6 = .int .i64 k ∧ Aside (Below w.heap.size w wr) ∧ Aside (Lies wr w.heap.size 26 r.cells.toArray)) (fun _ i _ => N - (intOf i).toNat)
  case atStart => exact ⟨0, by omega, rfl, rfl, B0.out, L0.out⟩
  case round =>
    obtain ⟨k, hk, rfl, rfl, HB, HL⟩ := hrel
    clear L0 B0
    have cn : wr.cell? ⟨w.heap.size, 0, none⟩ = some (.int .i64 N) := by rw [← HNE.out]; exact HL.out.at_ 0
    by_cases hlt : k < N
    · have hltz : (k : Int) < (N : Int) := by omega
      have hk0 : (0 : Int) ≤ (k : Int) := by omega
      have hla := HLA.out
      have hll : (k : Int) < (l.length : Int) := by omega
      obtain ⟨o, ho⟩ : ∃ o, l[k]? = some o := ⟨l[k]'(by omega), by simp⟩
      have hog : l.getD k 0 = o := by rw [List.getD, ho]; rfl
      obtain ⟨lb, lo, hAe, hlb, c16'⟩ := HAA.out.cell1 ho
      have r1 := cell_regrown ((HB.out.cell (p := ⟨lb, lo + k, none⟩) hlb).trans c16')
      have r2 := cell_regrown (show wr.cell? ⟨w.heap.size, 4, none⟩ = some (.int .i64 r.old) from HL.out.at_ 4)
      have r3 := cell_regrown (show wr.cell? ⟨w.heap.size, 1, none⟩ = some (.slice r.ws.A r.ws.l.length r.ws.c) from HL.out.at_ 1)
      have hsucc := casK_succ r.d l k
      have hle := casK_le r.d l k
      have hfk : r.d.casF l k = (decide (0 ≤ o) && decide (o + r.old ≤ (r.ws.l.length : Int)) && stB (r.d.dg (k : Nat)) (r.ws.l.length : Int)) := by unfold RwD.casF; rw [hog]; rfl
      rw [hfk] at hsucc
      obtain ⟨ho0, ho1⟩ := HOB.out o (List.mem_of_getElem? ho)
      obtain ⟨hd0, hd1⟩ := HOL.out
      have hcz : (r.d.casK l k : Int) ≤ 10 := by omega
      have hcz0 : (0 : Int) ≤ (r.d.casK l k : Int) := by omega
      have hw1 : IntKind.i64.wrap (o + r.old) = o + r.old := IntWalk.i64_in _ (by omega)
      have hr0 : ∀ V, (∃ p : Regrown, V = Go.Sort.grow (redrawn wr p.d) p.os) → V.rangeAt w.heap.size 0 r.cells := by
        rintro V ⟨p, rfl⟩
        exact Lies.range (cs := r.cells) (HL.out.call (below_regrown _ _ _)) (fun j v hj => by simpa using hj)
      have hst := fun W (hb : Below wr.heap.size wr W) => HSQ.out k hlt W (HB.out.trans (hb.mono HB.out.size))
      obtain ⟨sb, hsb⟩ : ∃ sb, sb = stB (r.d.dg (k : Nat)) (r.ws.l.length : Int) := ⟨_, rfl⟩
      rw [← hsb] at hst hsucc
      have HR0 := Lib.hid hr0
      have HST := Lib.hid hst
      have HBB := Lib.hid HB.out
      have HLL := Lib.hid HL.out
      subst hAe
      clear ho hog hla c16' hfk HB HL hle hr0 hst hsb hlb
      go_upto_region 5 with (fail)
      clear cn
      by_cases h0 : 0 ≤ o
      · have d0 : decide (0 ≤ o) = true := decide_eq_true h0
        by_cases h1 : o + r.old ≤ (r.ws.l.length : Int)
        · have d1 : decide (o + r.old ≤ (r.ws.l.length : Int)) = true := decide_eq_true h1
          rw [d0, d1, Bool.true_and, Bool.true_and] at hsucc
          have HSU := Lib.hid hsucc
          clear hsucc h0 h1
          cases sb with
          | false =>
            refine wp_region_quiet_below (by kernel_rfl) (by kernel_rfl) ?_
            repeat (first
              | go_big_quiet_skip
              | (refine wpQuiet_load_wholeG (o := ⟨some 32, _, _, _, _, _⟩) ?_ 26 (.tmp 2) ?_ w.heap.size 0 ?_ r.cells _ HR0.out Try.underlying26 rfl size_refrow ?_; kernel_rfl; rfl; rfl; simp only [Act.put, List.setIfInBounds_toArray, List.set_cons_zero, List.set_cons_succ])
              | go_big_quiet_step ((go_at_call 42; exact Calls.regrown_of (HST.out _ (below_regrown _ _ _)))) | quiet_step ((go_at_call 42; exact Calls.regrown_of (HST.out _ (below_regrown _ _ _)))))
            refine wpQuiet_nil ?_
            intro wq hwq
            have hbq : Below _ _ wq := (by obtain ⟨p, rfl⟩ := hwq; exact below_regrown _ _ _)
            clear hwq r1 r2 r3
            go_wp2
            go_roundw
            case rel => exact ⟨k + 1, by omega, by rw [HSU.out]; rfl, by go_num, HBB.out.trans (hbq.mono HBB.out.size), HLL.out.call hbq⟩
            case measure => simp [intOf]; omega
          | true =>
            refine wp_region_quiet_below (by kernel_rfl) (by kernel_rfl) ?_
            repeat (first
              | go_big_quiet_skip
              | (refine wpQuiet_load_wholeG (o := ⟨some 32, _, _, _, _, _⟩) ?_ 26 (.tmp 2) ?_ w.heap.size 0 ?_ r.cells _ HR0.out Try.underlying26 rfl size_refrow ?_; kernel_rfl; rfl; rfl; simp only [Act.put, List.setIfInBounds_toArray, List.set_cons_zero, List.set_cons_succ])
              | go_big_quiet_step ((go_at_call 42; exact Calls.regrown_of (HST.out _ (below_regrown _ _ _)))) | quiet_step ((go_at_call 42; exact Calls.regrown_of (HST.out _ (below_regrown _ _ _)))))
            refine wpQuiet_nil ?_
            intro wq hwq
            have hbq : Below _ _ wq := (by obtain ⟨p, rfl⟩ := hwq; exact below_regrown _ _ _)
            clear hwq r1 r2 r3
            go_wp2
            go_roundw
            case rel => exact ⟨k + 1, by omega, by rw [HSU.out]; go_num, by go_num, HBB.out.trans (hbq.mono HBB.out.size), HLL.out.call hbq⟩
            case measure => simp [intOf]; omega
        · have d1 : decide (o + r.old ≤ (r.ws.l.length : Int)) = false := decide_eq_false h1
          rw [d1, Bool.and_false, Bool.false_and] at hsucc
          have HSU := Lib.hid hsucc
          clear hsucc h0 h1
          refine wp_region_quiet_below (by kernel_rfl) (by kernel_rfl) ?_; (repeat (first | go_big_quiet_step ((fail)) | quiet_step ((fail)))); refine wpQuiet_nil ?_; intro wq hwq; have hbq : Below _ _ wq := (by obtain ⟨p, rfl⟩ := hwq; exact below_regrown _ _ _); clear hwq
          clear r1 r2 r3
          go_wp2
          go_roundw
          case rel => exact ⟨k + 1, by omega, by rw [HSU.out]; rfl, by go_num, HBB.out.trans (hbq.mono HBB.out.size), HLL.out.call hbq⟩
          case measure => simp [intOf]; omega
      · have d0 : decide (0 ≤ o) = false := decide_eq_false h0
        rw [d0, Bool.false_and, Bool.false_and] at hsucc
        have HSU := Lib.hid hsucc
        clear hsucc h0
        refine wp_region_quiet_below (by kernel_rfl) (by kernel_rfl) ?_; (repeat (first | go_big_quiet_step ((fail)) | quiet_step ((fail)))); refine wpQuiet_nil ?_; intro wq hwq; have hbq : Below _ _ wq := (by obtain ⟨p, rfl⟩ := hwq; exact below_regrown _ _ _); clear hwq
        clear r1 r2 r3
        go_wp2
        go_roundw
        case rel => exact ⟨k + 1, by omega, by rw [HSU.out]; rfl, by go_num, HBB.out.trans (hbq.mono HBB.out.size), HLL.out.call hbq⟩
        case measure => simp [intOf]; omega
    · obtain rfl : k = N := by omega
      have HBB := Lib.hid HB.out
      clear HB HL
      go_wp2
      go_ret
      exact ⟨rfl, HBB.out⟩
end Go.Proofs.Ytebkhgficochoaa

/- IllEnough: the mathematics. -/
namespace Go.Proofs.Ytebkhgficochoaa
open Go.RowKit Go.Lib

section
variable {x : RwD} {k : Nat}
theorem ask_yes (hw : 1 ≤ x.ws.length) (hk : k ≤ 10) : x.askD k = true := by
  unfold RwD.askD
  rw [Bool.and_eq_true, inB_iff, decide_eq_true_eq]
  omega
theorem prove_mk (he : x.err = 0) {n : Int} {l : List Int} (ha : x.askD n = true) (hs : x.sampleB l = true) (hn : x.enoughD x.wins l n = true) : x.proveS n l = true := by
  unfold RwD.proveS
  rw [ha, hs, hn, decide_eq_true he]; rfl
theorem prove_of {n : Int} {l : List Int} (h : x.proveS n l = true) : x.sampleB l = true ∧ x.enoughD x.wins l n = true := by
  unfold RwD.proveS at h
  rw [Bool.and_eq_true, Bool.and_eq_true] at h
  exact ⟨h.1.2, h.2⟩
theorem best_prove (he : x.err = 0) (hw : 1 ≤ x.ws.length) (hk : k ≤ 10) : x.sampleB (x.bestD x.wins k) = true ∧ x.proveS k (x.bestD x.wins k) = true := by
  obtain ⟨hf, hc⟩ := err_zero he
  have hok := (fault_ok hf).1
  obtain ⟨h1, h2, -⟩ := best_is (r := x) hok x.wins_length (k := k) (by omega)
  exact ⟨sub_sample hok h1, prove_mk he (ask_yes hw hk) (sub_sample hok h1) h2⟩
theorem best_less (he : x.err = 0) (hw : 1 ≤ x.ws.length) (hk : k ≤ 10) {ps : List Int} (h : x.proveS k ps = true) : (x.bestD x.wins k).length ≤ ps.length ∧ x.proveS (min 10 ((k : Int) + 1)) ps = true := by
  obtain ⟨hf, hc⟩ := err_zero he
  have hok := (fault_ok hf).1
  obtain ⟨h1, h2⟩ := prove_of h
  refine ⟨best_least hok x.wins_length (by omega) h1 h2, prove_mk he ?_ h1 (enough_up hok (by omega) h2)⟩
  have := ask_yes (x := x) (k := min 10 (k + 1)) hw (by omega)
  rwa [show ((min 10 (k + 1) : Nat) : Int) = min 10 ((k : Int) + 1) by omega] at this
theorem best_wide (he : x.err = 0) (hw : 1 ≤ x.ws.length) (hk : k ≤ 10) {p : Nat} (hp : p < x.dug.length) : x.proveS k (widD p (!x.lastB p) (x.bestD x.wins k)) = true := by
  obtain ⟨hf, hc⟩ := err_zero he
  have hok := (fault_ok hf).1
  have hd := hok.dug
  have hn := hok.n1
  obtain ⟨hs, hpr⟩ := best_prove he hw hk
  obtain ⟨-, hen⟩ := prove_of hpr
  rw [widD_eq]
  cases hl : x.lastB p with
  | false => exact hpr
  | true =>
    obtain ⟨h1, h2, h3⟩ := sample_at hs
    rw [Bool.not_true, if_neg (by simp)]
    have hm : ∀ y, y ∈ insP (p : Int) (x.bestD x.wins k) → 0 ≤ y ∧ y ≤ x.n - 1 := fun y hy => by
      rcases mem_insP.1 hy with rfl | hy
      · omega
      · exact h1 y hy
    refine prove_mk he (ask_yes hw hk) (sample_mk hm (fun y hy => ?_) (insP_rising h3)) (enough_sub hok x.wins_length (fun y hy => by have := h1 y hy; omega) (fun y hy => by have := hm y hy; omega) (fun y hy => mem_insP.2 (.inr hy)) hen)
    rcases mem_insP.1 hy with rfl | hy
    · exact hl
    · exact h2 y hy
theorem best_cases (he : x.err = 0) {t : List Int} (htl : t.length = x.dug.length) (htb : ∀ o, o ∈ t → -1 ≤ o ∧ o ≤ x.ws.length) (hpo : x.possB x.wins (truthD t) = true)
    (hun : ∀ q : Nat, (q : Int) ∈ x.bestD x.wins k → t.getD q 0 < 0 ∨ (x.ws.length : Int) < t.getD q 0 + x.old) : x.casK t x.dug.length ≤ k := by
  obtain ⟨hf, hc⟩ := err_zero he
  have hok := (fault_ok hf).1
  have hd10 : x.dug.length ≤ 10 := by have := hok.dug; have := hok.n1; omega
  have hold := hok.old
  have hnw := hok.nw
  obtain ⟨h1, h2, -⟩ := best_is (r := x) hok x.wins_length (k := k) (by omega)
  have hin : ∀ p, p ∈ x.bestD x.wins k → 0 ≤ p ∧ p < 10 := fun p hp => by obtain ⟨q, rfl, h3, -⟩ := tells_nat (h1.subset hp); omega
  rw [casK_num hok htl htb]
  have h4 := (enough_iff hok).1 h2 (truthD t) (truthD_trw (by omega) htb) ((poss_tested x.wins_length hin _).2 ⟨hpo, fun q hq hm => by
    rw [truthD_in (by omega)]
    have h5 := hun q hm
    have h6 := htb _ (getD_mem (t := t) (p := q) (by omega))
    unfold RwD.lateB
    rw [inB_iff]
    unfold in31
    split <;> omega⟩)
  omega
end
/-- The samples' plants, seen or not. -/
def unsAt (W old : Int) (t l : List Int) (i : Nat) : Bool := decide (t.getD (l.getD i 0).toNat 0 < 0) || decide (W < t.getD (l.getD i 0).toNat 0 + old)
def unsK (W old : Int) (t l : List Int) (k : Nat) : Bool := (List.range k).all (unsAt W old t l)
theorem unsK_succ (W old : Int) (t l : List Int) (k : Nat) : unsK W old t l (k + 1) = (unsK W old t l k && unsAt W old t l k) := by
  unfold unsK; rw [List.range_succ, List.all_append]; simp
theorem unsK_all {W old : Int} {t l : List Int} (h : unsK W old t l l.length = true) (q : Nat) (hq : (q : Int) ∈ l) : t.getD q 0 < 0 ∨ W < t.getD q 0 + old := by
  obtain ⟨i, hi⟩ := List.getElem?_of_mem hq
  have := all_range.1 h i (List.getElem?_eq_some_iff.1 hi).1
  unfold unsAt at this
  rw [Bool.or_eq_true, decide_eq_true_eq, decide_eq_true_eq, show l.getD i 0 = (q : Int) by rw [List.getD, hi]; rfl, Int.toNat_natCast] at this
  exact this
end Go.Proofs.Ytebkhgficochoaa

/- IllEnough: the walk. -/
namespace Go.Proofs.Ytebkhgficochoaa
open Go.RowKit Go.Lib

set_option maxRecDepth 100000 in
set_option maxHeartbeats 8000000 in
theorem IllEnough_unready (r : RwM) (nb mo : Nat) (A1 A2 : Option Addr) (n1 c1 n2 c2 : Nat) (w : World) (h : OpenRow r w) (hy : (r.d.thin && decide (r.d.fault = 0)) = false) : Calls Try.prog 12 #[.agg r.cells.toArray, .int .u8 nb, .slice A1 n1 c1, .int .u8 mo, .slice A2 n2 c2] w fun e w' => e = .returned (.bool true) ∧ Below w.heap.size w w' := by
  have l0 : Lies (w.alloc (.cells r.cells.toArray 26)) w.heap.size 26 r.cells.toArray := Lies.fresh _ _ _
  have b0 : Below w.heap.size w (w.alloc (.cells r.cells.toArray 26)) := (by repeat (first | (with_reducible assumption) | (with_reducible exact Below.refl _ _) | (with_reducible refine Below.drew ?_) | (with_reducible refine below_drewN ?_ _) | ((with_reducible refine Below.setCell ?_ ?_ _); rotate_left; focus (first | (simp; done) | (simp; omega) | omega)) | ((with_reducible refine Below.alloc ?_ ?_ _); rotate_left; focus (first | (simp; done) | (simp; omega) | omega))))
  have hR := fun W hb => ready_no h hy (W := W) hb
  have HR := Lib.hid hR
  have L0 := Lib.hid l0
  have B0 := Lib.hid b0
  clear hR l0 b0 hy h
  go_enter Try.func12, Try.ntmps12
  go_upto_region 1 with (fail)
  change Code.wp _ _ _ _ (w.alloc (.cells r.cells.toArray 26))
  generalize w.alloc (.cells r.cells.toArray 26) = w0 at *
  go_wp2_with (first
    | (refine wpList_load_row (o := ⟨some 23, _, _, _, _, _⟩) ?_ 26 (.tmp 5) ?_ w.heap.size ?_ 26 r.cells.toArray (0, 0) _ L0.out Try.underlying26 rfl size_refrow ?_; rfl; rfl; rfl)
    | (go_at_call 38; refine (HR.out _ B0.out).mono ?_; rintro e w1 ⟨rfl, hb1⟩)
    | (go_at_call 16; refine (awake_any _).mono ?_; rintro e w2 ⟨rfl, hb2⟩))
  go_ret
  exact ⟨rfl, B0.out.trans ((hb1.trans (hb2.mono hb1.size)).mono B0.out.size)⟩
set_option maxRecDepth 100000 in
set_option maxHeartbeats 8000000 in
theorem IllEnough_not (r : RwM) (nb mo : Nat) (A1 A2 : Option Addr) (n1 c1 n2 c2 : Nat) (w : World) (hr : r.At w w.heap.size) (hy : (r.d.thin && decide (r.d.fault = 0)) = true) (_hm : n1 ≤ maxLen) (hn : r.ws.l.length = 0 ∨ 15 < n1) : Calls Try.prog 12 #[.agg r.cells.toArray, .int .u8 nb, .slice A1 n1 c1, .int .u8 mo, .slice A2 n2 c2] w fun e w' => e = .returned (.bool true) ∧ Below w.heap.size w w' := by
  have l0 : Lies (w.alloc (.cells r.cells.toArray 26)) w.heap.size 26 r.cells.toArray := Lies.fresh _ _ _
  have b0 : Below w.heap.size w (w.alloc (.cells r.cells.toArray 26)) := (by repeat (first | (with_reducible assumption) | (with_reducible exact Below.refl _ _) | (with_reducible refine Below.drew ?_) | (with_reducible refine below_drewN ?_ _) | ((with_reducible refine Below.setCell ?_ ?_ _); rotate_left; focus (first | (simp; done) | (simp; omega) | omega)) | ((with_reducible refine Below.alloc ?_ ?_ _); rotate_left; focus (first | (simp; done) | (simp; omega) | omega))))
  have hR := fun W (hb : Below w.heap.size w W) => ready_any r W (hr.below hb hb.size)
  rw [hy] at hR
  have hlw := hr.lw
  have HR := Lib.hid hR
  have L0 := Lib.hid l0
  have B0 := Lib.hid b0
  clear hR l0 b0 hy hr
  by_cases hz : r.ws.l.length = 0
  · have hz0 : ((r.ws.l.length : Int) == 0) = true := by simp [hz]
    clear hn
    go_enter Try.func12, Try.ntmps12
    go_upto_region 1 with (fail)
    change Code.wp _ _ _ _ (w.alloc (.cells r.cells.toArray 26))
    generalize w.alloc (.cells r.cells.toArray 26) = w0 at *
    go_wp2_with (first
      | (refine wpList_load_row (o := ⟨some 23, _, _, _, _, _⟩) ?_ 26 (.tmp 5) ?_ w.heap.size ?_ 26 r.cells.toArray (0, 0) _ L0.out Try.underlying26 rfl size_refrow ?_; rfl; rfl; rfl)
      | (go_at_call 38; refine (HR.out _ B0.out).mono ?_; rintro e w1 ⟨rfl, hb1⟩; have a1 : w1.cell? ⟨w.heap.size, 1, none⟩ = some (.slice r.ws.A r.ws.l.length r.ws.c) := (L0.out.call hb1).at_ 1)
      | (go_at_call 16; refine (awake_any _).mono ?_; rintro e w2 ⟨rfl, hb2⟩))
    go_ret
    exact ⟨rfl, B0.out.trans ((hb1.trans (hb2.mono hb1.size)).mono B0.out.size)⟩
  · have hn15 := hn.resolve_left hz
    have hz0 : ((r.ws.l.length : Int) == 0) = false := by
      have h : (r.ws.l.length : Int) ≠ 0 := by omega
      simpa using h
    have hnz : (15 : Int) < (n1 : Int) := by omega
    clear hn
    go_enter Try.func12, Try.ntmps12
    go_upto_region 1 with (fail)
    change Code.wp _ _ _ _ (w.alloc (.cells r.cells.toArray 26))
    generalize w.alloc (.cells r.cells.toArray 26) = w0 at *
    go_wp2_with (first
      | (refine wpList_load_row (o := ⟨some 23, _, _, _, _, _⟩) ?_ 26 (.tmp 5) ?_ w.heap.size ?_ 26 r.cells.toArray (0, 0) _ L0.out Try.underlying26 rfl size_refrow ?_; rfl; rfl; rfl)
      | (go_at_call 38; refine (HR.out _ B0.out).mono ?_; rintro e w1 ⟨rfl, hb1⟩; have a1 : w1.cell? ⟨w.heap.size, 1, none⟩ = some (.slice r.ws.A r.ws.l.length r.ws.c) := (L0.out.call hb1).at_ 1)
      | (go_at_call 16; refine (awake_any _).mono ?_; rintro e w2 ⟨rfl, hb2⟩))
    go_ret
    exact ⟨rfl, B0.out.trans ((hb1.trans (hb2.mono hb1.size)).mono B0.out.size)⟩
theorem widD_length (p : Int) (d : Bool) (l : List Int) : (widD p d l).length ≤ 2 * l.length + 1 := by
  have := widK_length p d l l.length
  unfold widD
  split
  · omega
  · rw [List.length_append, List.length_singleton]; omega
set_option maxRecDepth 100000 in
set_option maxHeartbeats 32000000 in
theorem IllEnough_main (r : RwM) (nb mo : Nat) (A0 : Option Addr) (c0 : Nat) (ps : List Int) (A : Option Addr) (c : Nat) (ws : List Nat) (w : World) (hr : r.At w w.heap.size) (hth : ThinM r) (hnn : r.ns.A = none → r.ns.l.length = 0 ∧ r.ns.c = 0)
    (hO : Sl w w.heap.size 1 encI A0 ps) (hon : A0 = none → ps.length = 0 ∧ c0 = 0) (hol : ps.length ≤ 15) (hnb : nb ≤ 255) (hmo : mo ≤ 255) (hw0 : 1 ≤ r.ws.l.length)
    (hA : Sl w w.heap.size 1 enc16 A ws) (hl : ws.length ≤ maxLen) (hx : ∀ x, x ∈ ws → x < 65536) (hy : (r.d.thin && decide (r.d.fault = 0)) = true) (hf : r.d.fault = 0) :
    Calls Try.prog 12 #[.agg r.cells.toArray, .int .u8 nb, .slice A0 ps.length c0, .int .u8 mo, .slice A ws.length c] w fun e w' => e = .returned (.bool true) ∧ Below w.heap.size w w' := by
  have l0 : Lies (w.alloc (.cells r.cells.toArray 26)) w.heap.size 26 r.cells.toArray := Lies.fresh _ _ _
  have b0 : Below w.heap.size w (w.alloc (.cells r.cells.toArray 26)) := (by repeat (first | (with_reducible assumption) | (with_reducible exact Below.refl _ _) | (with_reducible refine Below.drew ?_) | (with_reducible refine below_drewN ?_ _) | ((with_reducible refine Below.setCell ?_ ?_ _); rotate_left; focus (first | (simp; done) | (simp; omega) | omega)) | ((with_reducible refine Below.alloc ?_ ?_ _); rotate_left; focus (first | (simp; done) | (simp; omega) | omega))))
  have hR := fun W (hb : Below w.heap.size w W) => ready_any r W (hr.below hb hb.size)
  rw [hy] at hR
  obtain ⟨hok, hns, -, hlw, -⟩ := fault_ok hf
  obtain ⟨N, hN⟩ : ∃ N, N = r.dug.l.length := ⟨_, rfl⟩
  have hne : r.n = (N : Int) := by rw [hN]; exact hok.dug.symm
  have hN1 : 1 ≤ N := by have := hok.n0; have h2 : r.d.n = r.n := rfl; omega
  have hN10 : N ≤ 10 := by have := hok.n1; have h2 : r.d.n = r.n := rfl; omega
  have hS := fun W (hb : Below w.heap.size w W) => spread_any r A c ws W (hr.below hb hb.size) hok ((hA.below hb).more hb.size) hl hx
  have hNd := fun W (hb : Below w.heap.size w W) (A' : Option Addr) (c' : Nat) (t : List Int) => lawNoted_any r A' c' t A c ws W (hr.below hb hb.size) hf hnn
  have hIs := fun W (hb : Below w.heap.size w W) (A' : Option Addr) (c' : Nat) (l : List Int) => refIsSample_any r A' c' l W (hr.below hb hb.size) hok
  have hCa := fun W (hb : Below w.heap.size w W) (A' : Option Addr) (c' : Nat) (t : List Int) => refCases_any r A' c' t W (hr.below hb hb.size) hok
  obtain ⟨t, ht⟩ : ∃ t, t = r.d.spreadD ws := ⟨_, rfl⟩
  have htl : t.length = r.dug.l.length := by rw [ht]; exact spW_length r.d ws _
  have htb : ∀ o, o ∈ t → -1 ≤ o ∧ o ≤ r.d.ws.length := fun o ho => by rw [ht] at ho; exact spW_mem r.d ws _ o ho
  have hfa : ∀ p, p < r.d.dug.length → (truthD t).getD p 0 = 31 ∨ r.d.fallB (truthD t) p ((truthD t).getD p 0) = true := fun p hp => by rw [ht]; exact spread_falls hok ws hp
  rw [← ht] at hS
  clear ht
  have hpo := noted_poss hf ws htl htb hfa
  have hT : TrW r.d.ws.length (truthD t) := truthD_trw (by omega) htb
  have hfx := noted_fault hf t ws
  have hcx := noted_can hf ws hT hpo
  obtain ⟨xd, hxd⟩ : ∃ xd, xd = r.d.notedBy t ws := ⟨_, rfl⟩
  have hxl : xd.dug.length = N := by rw [hxd, hN]; rfl
  have hxw : xd.ws.length = r.d.ws.length := by rw [hxd]; rfl
  rw [← hxd] at hpo hfx hcx
  have her := err_ok hfx hcx
  obtain ⟨k, hk⟩ : ∃ k, k = nb % 11 := ⟨_, rfl⟩
  have hk10 : k ≤ 10 := by omega
  have hkm : (nb : Int) % 11 = (k : Int) := by omega
  obtain ⟨p, hp⟩ : ∃ p, p = mo % N := ⟨_, rfl⟩
  have hpN : p < N := by rw [hp]; exact Nat.mod_lt _ (by omega)
  have hpm : (mo : Int) % (N : Int) = (p : Int) := by rw [hp]; simp
  have hask : xd.askD k = true := ask_yes (by rw [hxw]; exact hw0) hk10
  obtain ⟨hbs, hbp⟩ := best_prove (x := xd) (k := k) her (by rw [hxw]; exact hw0) hk10
  have hbl := fun (h : xd.proveS k ps = true) => best_less (x := xd) her (by rw [hxw]; exact hw0) hk10 h
  have hbw := best_wide (x := xd) (k := k) her (by rw [hxw]; exact hw0) hk10 (p := p) (by omega)
  have hbc := fun hun => best_cases (x := xd) (k := k) her (t := t) (by rw [hxl, hN]; exact htl) (by rw [hxw]; exact htb) hpo hun
  obtain ⟨l, hlf⟩ : ∃ l, l = xd.bestD xd.wins k := ⟨_, rfl⟩
  rw [← hlf] at hbs hbp hbl hbw hbc
  have hsr : r.d.sampleB l = true := by rw [hxd] at hbs; exact hbs
  have hlb : xd.lastB p = stB (r.d.dg (p : Nat)) (r.ws.l.length : Int) := by rw [hxd]; rfl
  rw [hlb] at hbw
  obtain ⟨sb, hsb⟩ : ∃ sb, sb = stB (r.d.dg (p : Nat)) (r.ws.l.length : Int) := ⟨_, rfl⟩
  rw [← hsb] at hbw
  have hst := fun W (hb : Below w.heap.size w W) => refStands_any r p (r.d.dg (p : Nat)) (r.ws.l.length : Int) W ((hr.dug.below hb).more hb.size) (by show r.dug.l[p]? = some (r.dug.l.getD p 0); rw [hN] at hpN; simp [List.getD, hpN]) hr.ld
  rw [← hsb] at hst
  have hlx : ∀ (i : Nat) (y : Int), l[i]? = some y → 0 ≤ y ∧ y ≤ (N : Int) - 1 := fun i y hy => by
    have h1 := (sample_at hsr).1 y (List.mem_of_getElem? hy)
    have h2 : r.d.n = r.n := rfl
    rw [h2, hne] at h1; exact h1
  have hl10 : l.length ≤ 10 := by
    have h1 := (best_is (r := xd) (fault_ok hfx).1 xd.wins_length (k := (k : Int)) (by omega)).1.length_le
    rw [← hlf] at h1
    have h2 : (xd.tells xd.wins).length ≤ xd.dug.length := by
      unfold RwD.tells thoseD
      rw [List.length_map]
      exact Nat.le_trans (List.length_filter_le _ _) (by simp)
    omega
  have hck : xd.casK t xd.dug.length = r.d.casK t r.d.dug.length := by rw [hxd]; rfl
  have hcle := casK_le r.d t r.d.dug.length
  rw [hck, hxw] at hbc
  have hold : xd.old = r.old := by rw [hxd]; rfl
  rw [hold] at hbc
  have hrn : r.d.dug.length = N := hN.symm
  obtain ⟨ck, hckd⟩ : ∃ ck, ck = r.d.casK t r.d.dug.length := ⟨_, rfl⟩
  have hck10 : ck ≤ 10 := by omega
  rw [← hckd] at hbc
  have hbc2 : unsK (r.ws.l.length : Int) r.old t l l.length = true → ck ≤ k := fun h => hbc (unsK_all h)
  obtain ⟨is, his⟩ : ∃ b, b = xd.proveS k ps := ⟨_, rfl⟩
  rw [← his] at hbl
  have holdb : 0 ≤ r.old ∧ r.old ≤ 30 := hok.old
  have hY30 : r.ws.l.length ≤ 30 := hok.nw
  have hz0 : ((r.ws.l.length : Int) == 0) = false := by
    have h : (r.ws.l.length : Int) ≠ 0 := by omega
    simpa using h
  have hYz : (r.ws.l.length : Int) ≤ 30 := by omega
  have hp15 : (ps.length : Int) ≤ 15 := by omega
  have hnbz : (nb : Int) ≤ 255 := by omega
  have hmoz : (mo : Int) ≤ 255 := by omega
  have hkz : (k : Int) ≤ 10 := by omega
  have hpz : (p : Int) ≤ 9 := by omega
  have hNz : (N : Int) ≠ 0 := by omega
  have hNz10 : (N : Int) ≤ 10 := by omega
  have hlz10 : (l.length : Int) ≤ 10 := by omega
  have HR := Lib.hid hR
  have HS := Lib.hid hS
  have HND := Lib.hid hNd
  have HIS := Lib.hid hIs
  have HCA := Lib.hid hCa
  have HST := Lib.hid hst
  have HWS := Lib.hid (And.intro hA (And.intro hl hx))
  have HPS := Lib.hid (And.intro hO hon)
  have L0 := Lib.hid l0
  have B0 := Lib.hid b0
  have HTL := Lib.hid htl
  have HTB := Lib.hid (show ∀ o, o ∈ t → -1 ≤ o ∧ o ≤ 30 from fun o ho => by have := htb o ho; omega)
  have HTH := Lib.hid hth
  have HXD := Lib.hid hxd
  have HFX := Lib.hid hfx
  have HCX := Lib.hid hcx
  have HAS := Lib.hid hask
  have HLF := Lib.hid hlf
  have HSR := Lib.hid hsr
  have HBP := Lib.hid hbp
  have HBL := Lib.hid hbl
  have HBW := Lib.hid hbw
  have HBC := Lib.hid hbc2
  have HIQ := Lib.hid his
  have HCK := Lib.hid hckd
  have HLX := Lib.hid hlx
  have HN := Lib.hid hN
  have HNE := Lib.hid hne
  have HNI := Lib.hid hns
  clear hR l0 b0 hy hr hth hnn hA hl hx hf hok hns hlw hS hNd hIs hCa hst htl htb hfa hpo hT hfx hcx her hxd hxl hxw hN hne hO hon hk hp hask hbs hbp hbl hbw hbc hbc2 hlf hsr hlb hsb hlx hck hcle hold hrn his hckd
  go_enter Try.func12, Try.ntmps12
  go_upto_region 1 with (fail)
  change Code.wp _ _ _ _ (w.alloc (.cells r.cells.toArray 26))
  generalize w.alloc (.cells r.cells.toArray 26) = w0 at *
  go_upto_region 3 with (first
    | (refine wpList_load_row (o := ⟨some 23, _, _, _, _, _⟩) ?_ 26 (.tmp 5) ?_ w.heap.size ?_ 26 r.cells.toArray (0, 0) _ L0.out Try.underlying26 rfl size_refrow ?_; rfl; rfl; rfl)
    | (go_at_call 38; refine (HR.out _ B0.out).mono ?_; rintro e w1 ⟨rfl, hb1⟩; have a1 : w1.cell? ⟨w.heap.size, 1, none⟩ = some (.slice r.ws.A r.ws.l.length r.ws.c) := (L0.out.call hb1).at_ 1))
  have L1 := Lib.hid (L0.out.call hb1)
  have B1 := Lib.hid (B0.out.trans (hb1.mono B0.out.size))
  clear hb1 L0 B0 HR a1 hz0
  go_upto_region 4 with (first
    | (refine wpList_load_row (o := ⟨some 38, _, _, _, _, _⟩) ?_ 26 (.tmp 5) ?_ w.heap.size ?_ 26 r.cells.toArray (0, 0) _ L1.out Try.underlying26 rfl size_refrow ?_; rfl; rfl; rfl)
    | (go_at_call 39; refine (HS.out _ B1.out).mono ?_; rintro e w2 ⟨A2, c2, rfl, ho2, hb2⟩))
  have L2 := Lib.hid (L1.out.call hb2)
  have B2 := Lib.hid (B1.out.trans (hb2.mono B1.out.size))
  rw [← HTL.out] at ho2
  obtain ⟨_, _, e2, hn2, hs2⟩ := Sl.of_own (enc := encI) (fun _ => rfl) ho2 rfl
  cases e2
  have S2 := Lib.hid hs2
  rw [← HTL.out]
  clear hb2 ho2 hs2 hn2 L1 B1 HS
  have hND := HND.out w2 B2.out A2 c2 t S2.out HTL.out HTB.out ((HWS.out.1.below B2.out).more B2.out.size) HWS.out.2.1 HWS.out.2.2
  have HND2 := Lib.hid hND
  clear hND HND HWS
  go_upto_region 5 with (first
    | (refine wpList_load_row (o := ⟨some 41, _, _, _, _, _⟩) ?_ 26 (.tmp 5) ?_ w.heap.size ?_ 26 r.cells.toArray (0, 0) _ L2.out Try.underlying26 rfl size_refrow ?_; rfl; rfl; rfl)
    | (go_at_call 40; refine HND2.out.mono ?_; rintro e w3 ⟨x, rfl, hx3⟩)
    | (refine wpList_store_cells (o := ⟨none, .store 26 (.tmp 12) _, _, _, _, _⟩) ?_ 26 (.tmp 12) (.tmp 44) ?_ w3.heap.size 0 ?_ 26 zrow x.cells ?_ (Lies.fresh w3 26 zrow.toArray) (by simp [zrow, RwM.cells]) size_refrow (part_one x _ _ _ rfl rfl rfl) ?_; rfl; rfl; rfl; rfl; intro w4 HS4 HO4; (try simp only [Act.put])))
  have hs4 := HS4.out
  rw [splice_whole (by rfl)] at hs4
  have hz4 := (Below.refl w3.heap.size w3).alloc (Nat.le_refl _) (.cells zrow.toArray 26)
  have hb4 : Below w3.heap.size w3 w4 := HO4.out.below hz4 (Nat.le_refl _)
  have hd4 := hx3.b.trans (hb4.mono hx3.b.size)
  have X4 := Lib.hid hs4
  have XA := Lib.hid (hx3.at_.below hb4 hb4.size)
  have XT := Lib.hid (hx3.t HTH.out)
  have XD := Lib.hid (hx3.d.trans HXD.out.symm)
  have L4 := Lib.hid (L2.out.call hd4)
  have B4 := Lib.hid (B2.out.trans (hd4.mono B2.out.size))
  have S4 := Lib.hid ((S2.out.below hd4).more hd4.size)
  clear hs4 hz4 hb4 hd4 hx3 HS4 HO4 L2 B2 S2 HND2 HXD HTH
  generalize w3.heap.size = gx at *
  have RX := Lib.hid (fun W (hb : Below w4.heap.size w4 W) => lawRow_thin x W (XA.out.below hb hb.size) XT.out)
  have SX := Lib.hid (fun (q : RwM) (w0 W : World) (h : LawR x w0 q W) => (by have h2 := Sample_yes q k W h.at_ (by rw [h.d, XD.out]; exact HFX.out) (by rw [h.d, XD.out]; exact HAS.out) (by rw [h.d, XD.out]; exact HCX.out); rw [h.d, XD.out, ← HLF.out] at h2; exact h2 : Calls Try.prog 31 #[.agg q.cells.toArray, .int .i64 k] W (RetE l W)))
  have PX := Lib.hid (fun (n : Int) (s : List Int) (b : Bool) (hs : s.length ≤ 1000000) (hb1 : xd.proveS n s = b) (q : RwM) (w0 V W : World) (A : Option Addr) (c : Nat) (h : LawR x w0 q V) (hb : Below V.heap.size V W) (hA : Sl W W.heap.size 1 encI A s) => (by have h2 := ProveSample_any q n A c s W (h.at_.below hb hb.size) hA hs; rw [h.d, XD.out, hb1] at h2; exact h2 : Calls Try.prog 32 #[.agg q.cells.toArray, .int .i64 n, .slice A s.length c] W fun e w' => e = .returned (.bool b) ∧ Below W.heap.size W w'))
  clear HFX HAS HCX HLF XA XT XD
  go_upto_region 7 with (first
    | (refine wpList_load_row (o := ⟨some 49, _, _, _, _, _⟩) ?_ 26 (.tmp 12) ?_ gx ?_ 26 x.cells.toArray (0, 0) _ X4.out Try.underlying26 rfl size_refrow ?_; rfl; rfl; rfl)
    | (go_at_call_of 18 (Value.agg x.cells.toArray); refine (RX.out _ (Below.refl _ _)).mono ?_; rintro e w5 ⟨q5, rfl, hq5⟩)
    | (go_at_call_of 31 (Value.agg q5.cells.toArray); refine (SX.out q5 _ _ hq5).mono ?_; rintro e w6 ⟨A6, c6, rfl, hA6, hS6, hb6⟩))
  have D6 := Lib.hid (hq5.b.trans (hb6.mono hq5.b.size))
  have S6 := Lib.hid hS6
  have N6 := Lib.hid hA6
  have X6 := Lib.hid (X4.out.call D6.out)
  have R6 := Lib.hid (L4.out.call D6.out)
  clear hq5 hb6 hS6 hA6 SX
  have LL := Lib.hid (fun W (hb : Below w6.heap.size w6 W) => lawList_any A6 c6 l W ((S6.out.below hb).more hb.size) (by omega) N6.out)
  have LP := Lib.hid (fun W (hb : Below w4.heap.size w4 W) => lawList_any A0 c0 ps W (((HPS.out.1.below B4.out).below (hb.mono B4.out.size)).more (Nat.le_trans B4.out.size hb.size)) (by omega) HPS.out.2)
  have hI6 := HIS.out w6 (B4.out.trans (D6.out.mono B4.out.size)) A6 c6 l S6.out (by omega)
  rw [HSR.out] at hI6
  have HI6 := Lib.hid hI6
  clear hI6 HIS HSR
  go_upto_region 9 with (first
    | ((fail_if_success (have hxx := E7)); refine wpList_load_rowG (o := ⟨some 58, _, _, _, _, _⟩) ?_ 26 (.tmp 5) ?_ w.heap.size ?_ 26 r.cells.toArray (0, 0) _ R6.out Try.underlying26 rfl size_refrow ?_; kernel_rfl; rfl; rfl)
    | (go_at_call_of 35 (Value.agg r.cells.toArray); refine HI6.out.mono ?_; rintro e w7 ⟨rfl, hb7⟩; have E7 := Lib.hid hb7; have X7 := Lib.hid (X6.out.call hb7))
    | ((fail_if_success (have hxx := E8)); refine wpList_load_rowG (o := ⟨some 64, _, _, _, _, _⟩) ?_ 26 (.tmp 12) ?_ gx ?_ 26 x.cells.toArray (0, 0) _ X7.out Try.underlying26 rfl size_refrow ?_; kernel_rfl; rfl; rfl)
    | ((fail_if_success (have hxx := E8)); go_at_call_of 18 (Value.agg x.cells.toArray); refine (RX.out _ (D6.out.trans (E7.out.mono D6.out.size))).mono ?_; rintro e w8 ⟨q8, rfl, hq8⟩; have E8 := Lib.hid (E7.out.trans (hq8.b.mono E7.out.size)))
    | ((fail_if_success (have hxx := E9)); go_at_call_of 21 (Value.slice A6 l.length c6); refine (LL.out _ E8.out).mono ?_; rintro e w9 ⟨Al, cl, rfl, hAl, hSl, hbl⟩; have E9 := Lib.hid (E8.out.trans (hbl.mono E8.out.size)))
    | (go_at_call_of 32 (Value.agg q8.cells.toArray); refine (PX.out k l true (by omega) HBP.out q8 _ _ _ Al cl hq8 hbl hSl).mono ?_; rintro e wa ⟨rfl, hba⟩; have Ea := Lib.hid (E9.out.trans (hba.mono E9.out.size))))
  have DA := Lib.hid (D6.out.trans (Ea.out.mono D6.out.size))
  have XA := Lib.hid (X6.out.call Ea.out)
  have SA := Lib.hid ((S6.out.below Ea.out).more Ea.out.size)
  clear hq8 hbl hSl hAl hba E7 E8 E9 Ea X7 HI6 LL S6 N6 R6 D6 X6 HBP
  go_upto_region 10 with (first
    | (refine wpList_load_row (o := ⟨some 72, _, _, _, _, _⟩) ?_ 26 (.tmp 12) ?_ gx ?_ 26 x.cells.toArray (0, 0) _ XA.out Try.underlying26 rfl size_refrow ?_; rfl; rfl; rfl)
    | (go_at_call_of 18 (Value.agg x.cells.toArray); refine (RX.out _ DA.out).mono ?_; rintro e wb ⟨qb, rfl, hqb⟩; have EB := Lib.hid hqb.b)
    | (go_at_call_of 21 (Value.slice A0 ps.length c0); refine (LP.out _ (DA.out.trans (EB.out.mono DA.out.size))).mono ?_; rintro e wc ⟨Al, cl, rfl, hAl, hSl, hbl⟩; have EC := Lib.hid (EB.out.trans (hbl.mono EB.out.size)))
    | (go_at_call_of 32 (Value.agg qb.cells.toArray); refine (PX.out k ps is (by omega) HIQ.out.symm qb _ _ _ Al cl hqb hbl hSl).mono ?_; rintro e wd ⟨rfl, hbd⟩; have ED := Lib.hid (EC.out.trans (hbd.mono EC.out.size))))
  have DD := Lib.hid (DA.out.trans (ED.out.mono DA.out.size))
  have XD := Lib.hid (XA.out.call ED.out)
  have SD := Lib.hid ((SA.out.below ED.out).more ED.out.size)
  clear hqb hbl hSl hAl hbd EB EC ED DA XA SA HIQ
  cases is
  · go_upto_region 12 with (fail)
    have DZ := Lib.hid DD.out
    have XZ := Lib.hid XD.out
    have SZ := Lib.hid SD.out
    clear DD XD SD LP HBL
    generalize wd = vz at *
    have RZ := Lib.hid (L4.out.call DZ.out)
    have BZ := Lib.hid (B4.out.trans (DZ.out.mono B4.out.size))
    have TZ := Lib.hid ((S4.out.below DZ.out).more DZ.out.size)
    have a12 : vz.cell? ⟨w.heap.size, 0, none⟩ = some (.int .i64 N) := by rw [← HNE.out]; exact RZ.out.at_ 0
    go_upto_region 14 with (fail)
    clear a12
    have a14 : vz.cell? ⟨w.heap.size, 1, none⟩ = some (.slice r.ws.A r.ws.l.length r.ws.c) := RZ.out.at_ 1
    go_upto_region 15 with (first
      | (refine wpList_load_row (o := ⟨some 105, _, _, _, _, _⟩) ?_ 26 (.tmp 5) ?_ w.heap.size ?_ 26 r.cells.toArray (0, 0) _ RZ.out Try.underlying26 rfl size_refrow ?_; rfl; rfl; rfl)
      | (go_at_call 42; refine (HST.out _ BZ.out).mono ?_; rintro e v ⟨rfl, hbv⟩))
    have DV := Lib.hid (DZ.out.trans (hbv.mono DZ.out.size))
    have BV := Lib.hid (BZ.out.trans (hbv.mono BZ.out.size))
    have XV := Lib.hid (XZ.out.call hbv)
    have RV := Lib.hid (RZ.out.call hbv)
    have SV := Lib.hid ((SZ.out.below hbv).more hbv.size)
    have TV := Lib.hid ((TZ.out.below hbv).more hbv.size)
    clear hbv DZ BZ XZ RZ SZ TZ a14 HST S4 X4 L4
    go_wp2
    go_loopw [18, 19, 20] (fun s18 s19 s20 wr => ∃ (k1 : Nat) (A' : Option Addr) (c' : Nat) (dk : Bool) (acc : List Int), k1 ≤ l.length ∧ s18 = .slice A' acc.length c' ∧ s19 = .bool dk ∧ s20 = .int .i64 k1 ∧ Aside (widK p (!sb) l k1 = (dk, acc)) ∧ Aside (wr.ownsRow v.heap.size 3 1 (.slice A' acc.length c') acc.length (acc.flatMap encI)) ∧ Aside (Below v.heap.size v wr)) (fun _ _ i _ => l.length - (intOf i).toNat)
    case atStart => exact ⟨0, none, 0, !sb, [], by omega, rfl, rfl, rfl, (by show widK (p : Int) (!sb) l 0 = (!sb, []); simp [widK]), World.ownsRow_nil _ _ _ _, Below.refl _ _⟩
    case round =>
      obtain ⟨k1, A', c', dk, acc, hk1, rfl, rfl, rfl, HW, HOW, HB⟩ := hrel
      have hacc : acc.length ≤ 2 * k1 := by have := widK_length p (!sb) l k1; rw [HW.out] at this; exact this
      by_cases hlt : k1 < l.length
      · have hltz : (k1 : Int) < (l.length : Int) := by omega
        have hk0 : (0 : Int) ≤ (k1 : Int) := by omega
        obtain ⟨y, hy⟩ : ∃ y, l[k1]? = some y := ⟨l[k1], by simp [hlt]⟩
        obtain ⟨lb, lo, e6, hlb, c16'⟩ := SV.out.cell1 hy
        have r1 : wr.cell? ⟨lb, lo + k1, none⟩ = some (.int .i64 y) := (HB.out.cell (p := ⟨lb, lo + k1, none⟩) hlb).trans c16'
        obtain ⟨hy0, hy1⟩ := HLX.out k1 y hy
        have hsu := widK_succ (p := (p : Int)) (d := !sb) hy
        rw [HW.out] at hsu
        have HSU := Lib.hid hsu
        have HB' := Lib.hid HB.out
        have HO' := Lib.hid HOW.out
        subst e6
        have HC := Lib.hid (And.intro hlb c16')
        clear hy c16' hlb hsu HB HOW HW
        cases dk with
        | true =>
          go_wp2_with (refine wpList_app_ints (o := ⟨some 144, _, _, _, _, _⟩) ?_ (.tmp 138) (.tmp 143) ?_ v.heap.size (.slice A' acc.length c') acc ?_ (ownsRow_call HO'.out ((Below.refl _ _).alloc (Nat.le_refl _) _)) (some ⟨wr.heap.size, 0, none⟩) 1 [y] ?_ (by simp) (lies_one (enc := encI) (x := y) rfl (Lies.fresh' rfl)) (by simp; omega) (by have h := HB'.out.size; simp; omega) ?_; rfl; rfl; rfl; rfl; intro v5 w5 hown5 hb5 hg5)
          obtain ⟨A5, c5, hv5, -, -⟩ := Sl.of_own (enc := encI) (fun _ => rfl) hown5 rfl
          subst hv5
          have hb6 := (HB'.out.trans (((Below.refl wr.heap.size wr).alloc (Nat.le_refl _) (.cells #[.int .i64 y] 3)).mono HB'.out.size)).trans hb5
          have HN1 := Lib.hid hown5
          have HN2 := Lib.hid hb6
          clear hown5 hb5 hg5 hb6
          go_roundw
          case rel => exact ⟨k1 + 1, A5, c5, true, acc ++ [y], by omega, rfl, rfl, by go_num, (show Aside _ from HSU.out.trans rfl), HN1.out, HN2.out⟩
          case measure => simp [intOf]; omega
        | false =>
          by_cases hpy : (p : Int) ≤ y
          · by_cases hpy2 : (p : Int) < y
            · have HWS := Lib.hid (show widS p (false, acc) y = (true, (acc ++ [(p : Int)]) ++ [y]) by unfold widS; simp [hpy, hpy2])
              go_upto_region 22 with (refine wpList_app_ints (o := ⟨some 137, _, _, _, _, _⟩) ?_ (.tmp 134) (.tmp 136) ?_ v.heap.size (.slice A' acc.length c') acc ?_ (ownsRow_call HO'.out ((Below.refl _ _).alloc (Nat.le_refl _) _)) (some ⟨wr.heap.size, 0, none⟩) 1 [(p : Int)] ?_ (by simp) (lies_one (enc := encI) (x := (p : Int)) rfl (Lies.fresh' rfl)) (by simp; omega) (by have h := HB'.out.size; simp; omega) ?_; rfl; rfl; rfl; rfl; intro v5 w5 hown5 hb5 hg5)
              obtain ⟨A5, c5, hv5, -, -⟩ := Sl.of_own (enc := encI) (fun _ => rfl) hown5 rfl
              subst hv5
              have hb6 := (HB'.out.trans (((Below.refl wr.heap.size wr).alloc (Nat.le_refl _) (.cells #[.int .i64 p] 3)).mono HB'.out.size)).trans hb5
              have HO5 := Lib.hid hown5
              have HB5 := Lib.hid hb6
              have r2 : w5.cell? ⟨lb, lo + k1, none⟩ = some (.int .i64 y) := (hb6.cell (p := ⟨lb, lo + k1, none⟩) HC.out.1).trans HC.out.2
              clear hown5 hb5 hg5 hb6 r1
              go_wp2_with (refine wpList_app_ints (o := ⟨some 144, _, _, _, _, _⟩) ?_ (.tmp 138) (.tmp 143) ?_ v.heap.size (.slice A5 (acc ++ [(p : Int)]).length c5) (acc ++ [(p : Int)]) ?_ (ownsRow_call HO5.out ((Below.refl _ _).alloc (Nat.le_refl _) _)) (some ⟨w5.heap.size, 0, none⟩) 1 [y] ?_ (by simp) (lies_one (enc := encI) (x := y) rfl (Lies.fresh' rfl)) (by simp; omega) (by have h := HB5.out.size; simp; omega) ?_; rfl; rfl; rfl; rfl; intro v7 w7 hown7 hb7 hg7)
              obtain ⟨A7, c7, hv7, -, -⟩ := Sl.of_own (enc := encI) (fun _ => rfl) hown7 rfl
              subst hv7
              have hb8 := (HB5.out.trans (((Below.refl w5.heap.size w5).alloc (Nat.le_refl _) (.cells #[.int .i64 y] 3)).mono HB5.out.size)).trans hb7
              have HN1 := Lib.hid hown7
              have HN2 := Lib.hid hb8
              clear hown7 hb7 hg7 hb8
              go_roundw
              case rel => exact ⟨k1 + 1, A7, c7, true, (acc ++ [(p : Int)]) ++ [y], by omega, rfl, rfl, by go_num, (show Aside _ from HSU.out.trans HWS.out), HN1.out, HN2.out⟩
              case measure => simp [intOf]; omega
            · obtain rfl : y = (p : Int) := by omega
              have HWS := Lib.hid (show widS p (false, acc) (p : Int) = (true, acc ++ [(p : Int)]) by unfold widS; simp)
              go_wp2_with (refine wpList_app_ints (o := ⟨some 144, _, _, _, _, _⟩) ?_ (.tmp 138) (.tmp 143) ?_ v.heap.size (.slice A' acc.length c') acc ?_ (ownsRow_call HO'.out ((Below.refl _ _).alloc (Nat.le_refl _) _)) (some ⟨wr.heap.size, 0, none⟩) 1 [(p : Int)] ?_ (by simp) (lies_one (enc := encI) (x := (p : Int)) rfl (Lies.fresh' rfl)) (by simp; omega) (by have h := HB'.out.size; simp; omega) ?_; rfl; rfl; rfl; rfl; intro v5 w5 hown5 hb5 hg5)
              obtain ⟨A5, c5, hv5, -, -⟩ := Sl.of_own (enc := encI) (fun _ => rfl) hown5 rfl
              subst hv5
              have hb6 := (HB'.out.trans (((Below.refl wr.heap.size wr).alloc (Nat.le_refl _) (.cells #[.int .i64 p] 3)).mono HB'.out.size)).trans hb5
              have HN1 := Lib.hid hown5
              have HN2 := Lib.hid hb6
              clear hown5 hb5 hg5 hb6
              go_roundw
              case rel => exact ⟨k1 + 1, A5, c5, true, acc ++ [(p : Int)], by omega, rfl, rfl, by go_num, (show Aside _ from HSU.out.trans HWS.out), HN1.out, HN2.out⟩
              case measure => simp [intOf]; omega
          · have HWS := Lib.hid (show widS p (false, acc) y = (false, acc ++ [y]) by unfold widS; simp [hpy])
            go_wp2_with (refine wpList_app_ints (o := ⟨some 144, _, _, _, _, _⟩) ?_ (.tmp 138) (.tmp 143) ?_ v.heap.size (.slice A' acc.length c') acc ?_ (ownsRow_call HO'.out ((Below.refl _ _).alloc (Nat.le_refl _) _)) (some ⟨wr.heap.size, 0, none⟩) 1 [y] ?_ (by simp) (lies_one (enc := encI) (x := y) rfl (Lies.fresh' rfl)) (by simp; omega) (by have h := HB'.out.size; simp; omega) ?_; rfl; rfl; rfl; rfl; intro v5 w5 hown5 hb5 hg5)
            obtain ⟨A5, c5, hv5, -, -⟩ := Sl.of_own (enc := encI) (fun _ => rfl) hown5 rfl
            subst hv5
            have hb6 := (HB'.out.trans (((Below.refl wr.heap.size wr).alloc (Nat.le_refl _) (.cells #[.int .i64 y] 3)).mono HB'.out.size)).trans hb5
            have HN1 := Lib.hid hown5
            have HN2 := Lib.hid hb6
            clear hown5 hb5 hg5 hb6
            go_roundw
            case rel => exact ⟨k1 + 1, A5, c5, false, acc ++ [y], by omega, rfl, rfl, by go_num, (show Aside _ from HSU.out.trans HWS.out), HN1.out, HN2.out⟩
            case measure => simp [intOf]; omega
      · obtain rfl : k1 = l.length := by omega
        have HB' := Lib.hid HB.out
        have HO' := Lib.hid HOW.out
        have hwd : widD (p : Int) (!sb) l = if dk then acc else acc ++ [(p : Int)] := by unfold widD; rw [HW.out]
        have HWD := Lib.hid hwd
        clear HB HOW HW hwd
        go_upto_if 146 with (fail)
        go_cut [18] from 147 to 150 (fun s18 wx => ∃ (A9 : Option Addr) (c9 : Nat), s18 = .slice A9 (widD (p : Int) (!sb) l).length c9 ∧ wx.ownsRow v.heap.size 3 1 (.slice A9 (widD (p : Int) (!sb) l).length c9) (widD (p : Int) (!sb) l).length ((widD (p : Int) (!sb) l).flatMap encI) ∧ Below v.heap.size v wx)
        case first =>
          cases dk with
          | true =>
            have hwd := HWD.out
            rw [if_pos rfl] at hwd
            have HWE := Lib.hid hwd
            clear hwd
            go_wp2
            go_meet
            case rel => exact ⟨A', c', by rw [HWE.out], by rw [HWE.out]; exact HO'.out, HB'.out⟩
          | false =>
            have hwd := HWD.out
            rw [if_neg (by simp)] at hwd
            have HWE := Lib.hid hwd
            clear hwd
            go_wp2_with (refine wpList_app_ints (o := ⟨some 150, _, _, _, _, _⟩) ?_ (.tmp 147) (.tmp 149) ?_ v.heap.size (.slice A' acc.length c') acc ?_ (ownsRow_call HO'.out ((Below.refl _ _).alloc (Nat.le_refl _) _)) (some ⟨wr.heap.size, 0, none⟩) 1 [(p : Int)] ?_ (by simp) (lies_one (enc := encI) (x := (p : Int)) rfl (Lies.fresh' rfl)) (by simp; omega) (by have h := HB'.out.size; simp; omega) ?_; rfl; rfl; rfl; rfl; intro v5 w5 hown5 hb5 hg5)
            obtain ⟨A5, c5, hv5, -, -⟩ := Sl.of_own (enc := encI) (fun _ => rfl) hown5 rfl
            subst hv5
            have hb6 := (HB'.out.trans (((Below.refl wr.heap.size wr).alloc (Nat.le_refl _) (.cells #[.int .i64 p] 3)).mono HB'.out.size)).trans hb5
            have HN1 := Lib.hid hown5
            have HN2 := Lib.hid hb6
            clear hown5 hb5 hg5 hb6
            go_meet
            case rel => exact ⟨A5, c5, by rw [HWE.out], by rw [HWE.out]; exact HN1.out, HN2.out⟩
        case rest =>
          obtain ⟨A9, c9, rfl, hown, hbx⟩ := hcut
          have hwl := widD_length (p : Int) (!sb) l
          have hbw := HBW.out
          generalize widD (p : Int) (!sb) l = wid at *
          obtain ⟨_, _, e9, -, hs9⟩ := Sl.of_own (enc := encI) (fun _ => rfl) hown rfl
          cases e9
          have S9 := Lib.hid hs9
          have D9 := Lib.hid (DV.out.trans (hbx.mono DV.out.size))
          have XC := Lib.hid (XV.out.call hbx)
          have BX := Lib.hid hbx
          have HBWW := Lib.hid hbw
          clear hown hs9 hbx hbw HBW HB' HO' HWD XV DV
          go_upto_region 27 with (first
            | (refine wpList_load_row (o := ⟨some 151, _, _, _, _, _⟩) ?_ 26 (.tmp 12) ?_ gx ?_ 26 x.cells.toArray (0, 0) _ XC.out Try.underlying26 rfl size_refrow ?_; rfl; rfl; rfl)
            | (go_at_call_of 18 (Value.agg x.cells.toArray); refine (RX.out _ D9.out).mono ?_; rintro e u1 ⟨q1, rfl, hq1⟩)
            | (go_at_call_of 32 (Value.agg q1.cells.toArray); refine (PX.out k wid true (by omega) HBWW.out q1 _ _ _ A9 c9 hq1 (Below.refl _ _) ((S9.out.below hq1.b).more hq1.b.size)).mono ?_; rintro e vy ⟨rfl, hby⟩))
          have h9y := BX.out.trans ((hq1.b.trans (hby.mono hq1.b.size)).mono BX.out.size)
          have SY := Lib.hid ((SV.out.below h9y).more h9y.size)
          have TY := Lib.hid ((TV.out.below h9y).more h9y.size)
          have RY := Lib.hid (RV.out.call h9y)
          have BY := Lib.hid (BV.out.trans (h9y.mono BV.out.size))
          clear h9y hq1 hby SV TV RV BV BX D9 XC S9 RX PX HBWW hwl
          go_wp2
          go_loopw [21, 22] (fun s21 s22 wr => ∃ (k2 : Nat) (u : Bool), k2 ≤ l.length ∧ s21 = .bool u ∧ s22 = .int .i64 k2 ∧ Aside (u = unsK (r.ws.l.length : Int) r.old t l k2) ∧ Aside (Below vy.heap.size vy wr)) (fun _ i _ => l.length - (intOf i).toNat)
          case atStart => exact ⟨0, true, by omega, rfl, rfl, (show true = unsK _ _ t l 0 from rfl), Below.refl _ _⟩
          case round =>
            obtain ⟨k2, u, hk2, rfl, rfl, HU, HB⟩ := hrel
            have HB' := Lib.hid HB.out
            by_cases hlt : k2 < l.length
            · have hltz : (k2 : Int) < (l.length : Int) := by omega
              have hk0 : (0 : Int) ≤ (k2 : Int) := by omega
              obtain ⟨y, hy⟩ : ∃ y, l[k2]? = some y := ⟨l[k2], by simp [hlt]⟩
              obtain ⟨hy0, hy1⟩ := HLX.out k2 y hy
              obtain ⟨q, rfl⟩ : ∃ q : Nat, y = (q : Int) := ⟨y.toNat, by omega⟩
              have htn : t.length = N := HTL.out.trans HN.out.symm
              obtain ⟨o, ho⟩ : ∃ o, t[q]? = some o := ⟨t[q]'(by omega), by simp⟩
              obtain ⟨ho0, ho1⟩ := HTB.out o (List.mem_of_getElem? ho)
              have hqz : (q : Int) < (t.length : Int) := by omega
              have hua : unsAt (r.ws.l.length : Int) r.old t l k2 = (decide (o < 0) || decide ((r.ws.l.length : Int) < o + r.old)) := by
                unfold unsAt
                rw [show l.getD k2 0 = (q : Int) by rw [List.getD, hy]; rfl, Int.toNat_natCast, show t.getD q 0 = o by rw [List.getD, ho]; rfl]
              have hsu := unsK_succ (r.ws.l.length : Int) r.old t l k2
              rw [← HU.out, hua] at hsu
              obtain ⟨lb, lo, e6, hlb, c1⟩ := SY.out.cell1 hy
              obtain ⟨tb, tf, e2, htb, c2⟩ := TY.out.cell1 ho
              have r1 := cell_regrown ((HB.out.cell (p := ⟨lb, lo + k2, none⟩) hlb).trans c1)
              have r2 := cell_regrown ((HB.out.cell (p := ⟨tb, tf + q, none⟩) htb).trans c2)
              have r3 := cell_regrown (show wr.cell? ⟨w.heap.size, 4, none⟩ = some (.int .i64 r.old) from (RY.out.call HB.out).at_ 4)
              have r4 := cell_regrown (show wr.cell? ⟨w.heap.size, 1, none⟩ = some (.slice r.ws.A r.ws.l.length r.ws.c) from (RY.out.call HB.out).at_ 1)
              have hw2 : IntKind.i64.wrap (o + r.old) = o + r.old := IntWalk.i64_in _ (by omega)
              subst e6 e2
              clear hy ho c1 c2 hlb htb hua HU HB htn
              go_upto_region 31 with (fail)
              cases u with
              | false =>
                have HSU := Lib.hid (show false = unsK (r.ws.l.length : Int) r.old t l (k2 + 1) by rw [hsu]; rfl)
                clear hsu
                refine wp_region_quiet_below (by kernel_rfl) (by kernel_rfl) ?_; (repeat (first | go_big_quiet_step ((fail)) | quiet_step ((fail)))); refine wpQuiet_nil ?_; intro wq hwq; have hbq : Below _ _ wq := (by obtain ⟨p, rfl⟩ := hwq; exact below_regrown _ _ _); clear hwq
                clear r1 r2 r3 r4
                go_wp2
                go_roundw
                case rel => exact ⟨k2 + 1, false, by omega, rfl, by go_num, HSU.out, HB'.out.trans (hbq.mono HB'.out.size)⟩
                case measure => simp [intOf]; omega
              | true =>
                by_cases h0 : o < 0
                · have d0 : decide (o < 0) = true := decide_eq_true h0
                  have HSU := Lib.hid (show true = unsK (r.ws.l.length : Int) r.old t l (k2 + 1) by rw [hsu, d0]; rfl)
                  clear hsu h0
                  refine wp_region_quiet_below (by kernel_rfl) (by kernel_rfl) ?_; (repeat (first | go_big_quiet_step ((fail)) | quiet_step ((fail)))); refine wpQuiet_nil ?_; intro wq hwq; have hbq : Below _ _ wq := (by obtain ⟨p, rfl⟩ := hwq; exact below_regrown _ _ _); clear hwq
                  clear r1 r2 r3 r4
                  go_wp2
                  go_roundw
                  case rel => exact ⟨k2 + 1, true, by omega, rfl, by go_num, HSU.out, HB'.out.trans (hbq.mono HB'.out.size)⟩
                  case measure => simp [intOf]; omega
                · have d0 : decide (o < 0) = false := decide_eq_false h0
                  by_cases h1 : (r.ws.l.length : Int) < o + r.old
                  · have d1 : decide ((r.ws.l.length : Int) < o + r.old) = true := decide_eq_true h1
                    have HSU := Lib.hid (show true = unsK (r.ws.l.length : Int) r.old t l (k2 + 1) by rw [hsu, d0, d1]; rfl)
                    clear hsu h0 h1
                    refine wp_region_quiet_below (by kernel_rfl) (by kernel_rfl) ?_; (repeat (first | go_big_quiet_step ((fail)) | quiet_step ((fail)))); refine wpQuiet_nil ?_; intro wq hwq; have hbq : Below _ _ wq := (by obtain ⟨p, rfl⟩ := hwq; exact below_regrown _ _ _); clear hwq
                    clear r1 r2 r3 r4
                    go_wp2
                    go_roundw
                    case rel => exact ⟨k2 + 1, true, by omega, rfl, by go_num, HSU.out, HB'.out.trans (hbq.mono HB'.out.size)⟩
                    case measure => simp [intOf]; omega
                  · have d1 : decide ((r.ws.l.length : Int) < o + r.old) = false := decide_eq_false h1
                    have HSU := Lib.hid (show false = unsK (r.ws.l.length : Int) r.old t l (k2 + 1) by rw [hsu, d0, d1]; rfl)
                    clear hsu h0 h1
                    refine wp_region_quiet_below (by kernel_rfl) (by kernel_rfl) ?_; (repeat (first | go_big_quiet_step ((fail)) | quiet_step ((fail)))); refine wpQuiet_nil ?_; intro wq hwq; have hbq : Below _ _ wq := (by obtain ⟨p, rfl⟩ := hwq; exact below_regrown _ _ _); clear hwq
                    clear r1 r2 r3 r4
                    go_wp2
                    go_roundw
                    case rel => exact ⟨k2 + 1, false, by omega, rfl, by go_num, HSU.out, HB'.out.trans (hbq.mono HB'.out.size)⟩
                    case measure => simp [intOf]; omega
            · obtain rfl : k2 = l.length := by omega
              cases u with
              | false =>
                clear HU HB
                go_wp2_with (go_at_call 16; refine (awake_any _).mono ?_; rintro e vq ⟨rfl, hbq⟩)
                go_ret
                exact ⟨rfl, BY.out.trans ((HB'.out.trans (hbq.mono HB'.out.size)).mono BY.out.size)⟩
              | true =>
                have hck := HBC.out HU.out.symm
                have hckz : (ck : Int) ≤ (k : Int) := by omega
                have hC := HCA.out _ (BY.out.trans (HB'.out.mono BY.out.size)) A2 c2 t ((TY.out.below HB'.out).more HB'.out.size) HTL.out HTB.out
                rw [← HCK.out] at hC
                have HC := Lib.hid hC
                have RW := Lib.hid (RY.out.call HB'.out)
                have hcd : decide (ck ≤ k) = true := decide_eq_true hck
                clear HU HB hC
                go_wp2_with (first
                  | (refine wpList_load_rowG (o := ⟨some 193, _, _, _, _, _⟩) ?_ 26 (.tmp 5) ?_ w.heap.size ?_ 26 r.cells.toArray (0, 0) _ RW.out Try.underlying26 rfl size_refrow ?_; kernel_rfl; rfl; rfl)
                  | (go_at_call 43; refine HC.out.mono ?_; rintro e vp ⟨rfl, hbp⟩)
                  | (go_at_call 16; refine (awake_any _).mono ?_; rintro e vq ⟨rfl, hbq⟩))
                go_ret
                exact ⟨rfl, BY.out.trans ((HB'.out.trans ((hbp.trans (hbq.mono hbp.size)).mono HB'.out.size)).mono BY.out.size)⟩
  · obtain ⟨hll, hpm1⟩ := HBL.out rfl
    have hw1 : IntKind.i64.wrap ((k : Int) + 1) = (k : Int) + 1 := IntWalk.i64_in _ (by omega)
    have hd1 : decide ((ps.length : Int) < (l.length : Int)) = false := decide_eq_false (by omega)
    have hd2 : decide (ps.length < l.length) = false := decide_eq_false (by omega)
    have HPM := Lib.hid hpm1
    clear hpm1 hll
    go_upto_region 12 with (first
      | ((fail_if_success (have hxx := EB)); refine wpList_load_rowG (o := ⟨some 89, _, _, _, _, _⟩) ?_ 26 (.tmp 12) ?_ gx ?_ 26 x.cells.toArray (0, 0) _ XD.out Try.underlying26 rfl size_refrow ?_; kernel_rfl; rfl; rfl)
      | ((fail_if_success (have hxx := EB)); go_at_call_of 18 (Value.agg x.cells.toArray); refine (RX.out _ DD.out).mono ?_; rintro e we ⟨qb, rfl, hqb⟩; have EB := Lib.hid hqb.b)
      | ((fail_if_success (have hxx := EC)); go_at_call_of 21 (Value.slice A0 ps.length c0); refine (LP.out _ (DD.out.trans (EB.out.mono DD.out.size))).mono ?_; rintro e wf ⟨Al, cl, rfl, hAl, hSl, hbl⟩; have EC := Lib.hid (EB.out.trans (hbl.mono EB.out.size)))
      | (go_at_call_of 32 (Value.agg qb.cells.toArray); refine (PX.out (min 10 ((k : Int) + 1)) ps true (by omega) HPM.out qb _ _ _ Al cl hqb hbl hSl).mono ?_; rintro e wg ⟨rfl, hbg⟩; have EG := Lib.hid (EC.out.trans (hbg.mono EC.out.size))))
    have DZ := Lib.hid (DD.out.trans (EG.out.mono DD.out.size))
    have XZ := Lib.hid (XD.out.call EG.out)
    have SZ := Lib.hid ((SD.out.below EG.out).more EG.out.size)
    clear hqb hbl hSl hAl hbg EB EC EG DD XD SD LP HBL HPM hw1 hd1 hd2
    generalize wg = vz at *
    have RZ := Lib.hid (L4.out.call DZ.out)
    have BZ := Lib.hid (B4.out.trans (DZ.out.mono B4.out.size))
    have TZ := Lib.hid ((S4.out.below DZ.out).more DZ.out.size)
    have a12 : vz.cell? ⟨w.heap.size, 0, none⟩ = some (.int .i64 N) := by rw [← HNE.out]; exact RZ.out.at_ 0
    go_upto_region 14 with (fail)
    clear a12
    have a14 : vz.cell? ⟨w.heap.size, 1, none⟩ = some (.slice r.ws.A r.ws.l.length r.ws.c) := RZ.out.at_ 1
    go_upto_region 15 with (first
      | (refine wpList_load_row (o := ⟨some 105, _, _, _, _, _⟩) ?_ 26 (.tmp 5) ?_ w.heap.size ?_ 26 r.cells.toArray (0, 0) _ RZ.out Try.underlying26 rfl size_refrow ?_; rfl; rfl; rfl)
      | (go_at_call 42; refine (HST.out _ BZ.out).mono ?_; rintro e v ⟨rfl, hbv⟩))
    have DV := Lib.hid (DZ.out.trans (hbv.mono DZ.out.size))
    have BV := Lib.hid (BZ.out.trans (hbv.mono BZ.out.size))
    have XV := Lib.hid (XZ.out.call hbv)
    have RV := Lib.hid (RZ.out.call hbv)
    have SV := Lib.hid ((SZ.out.below hbv).more hbv.size)
    have TV := Lib.hid ((TZ.out.below hbv).more hbv.size)
    clear hbv DZ BZ XZ RZ SZ TZ a14 HST S4 X4 L4
    go_wp2
    go_loopw [18, 19, 20] (fun s18 s19 s20 wr => ∃ (k1 : Nat) (A' : Option Addr) (c' : Nat) (dk : Bool) (acc : List Int), k1 ≤ l.length ∧ s18 = .slice A' acc.length c' ∧ s19 = .bool dk ∧ s20 = .int .i64 k1 ∧ Aside (widK p (!sb) l k1 = (dk, acc)) ∧ Aside (wr.ownsRow v.heap.size 3 1 (.slice A' acc.length c') acc.length (acc.flatMap encI)) ∧ Aside (Below v.heap.size v wr)) (fun _ _ i _ => l.length - (intOf i).toNat)
    case atStart => exact ⟨0, none, 0, !sb, [], by omega, rfl, rfl, rfl, (by show widK (p : Int) (!sb) l 0 = (!sb, []); simp [widK]), World.ownsRow_nil _ _ _ _, Below.refl _ _⟩
    case round =>
      obtain ⟨k1, A', c', dk, acc, hk1, rfl, rfl, rfl, HW, HOW, HB⟩ := hrel
      have hacc : acc.length ≤ 2 * k1 := by have := widK_length p (!sb) l k1; rw [HW.out] at this; exact this
      by_cases hlt : k1 < l.length
      · have hltz : (k1 : Int) < (l.length : Int) := by omega
        have hk0 : (0 : Int) ≤ (k1 : Int) := by omega
        obtain ⟨y, hy⟩ : ∃ y, l[k1]? = some y := ⟨l[k1], by simp [hlt]⟩
        obtain ⟨lb, lo, e6, hlb, c16'⟩ := SV.out.cell1 hy
        have r1 : wr.cell? ⟨lb, lo + k1, none⟩ = some (.int .i64 y) := (HB.out.cell (p := ⟨lb, lo + k1, none⟩) hlb).trans c16'
        obtain ⟨hy0, hy1⟩ := HLX.out k1 y hy
        have hsu := widK_succ (p := (p : Int)) (d := !sb) hy
        rw [HW.out] at hsu
        have HSU := Lib.hid hsu
        have HB' := Lib.hid HB.out
        have HO' := Lib.hid HOW.out
        subst e6
        have HC := Lib.hid (And.intro hlb c16')
        clear hy c16' hlb hsu HB HOW HW
        cases dk with
        | true =>
          go_wp2_with (refine wpList_app_ints (o := ⟨some 144, _, _, _, _, _⟩) ?_ (.tmp 138) (.tmp 143) ?_ v.heap.size (.slice A' acc.length c') acc ?_ (ownsRow_call HO'.out ((Below.refl _ _).alloc (Nat.le_refl _) _)) (some ⟨wr.heap.size, 0, none⟩) 1 [y] ?_ (by simp) (lies_one (enc := encI) (x := y) rfl (Lies.fresh' rfl)) (by simp; omega) (by have h := HB'.out.size; simp; omega) ?_; rfl; rfl; rfl; rfl; intro v5 w5 hown5 hb5 hg5)
          obtain ⟨A5, c5, hv5, -, -⟩ := Sl.of_own (enc := encI) (fun _ => rfl) hown5 rfl
          subst hv5
          have hb6 := (HB'.out.trans (((Below.refl wr.heap.size wr).alloc (Nat.le_refl _) (.cells #[.int .i64 y] 3)).mono HB'.out.size)).trans hb5
          have HN1 := Lib.hid hown5
          have HN2 := Lib.hid hb6
          clear hown5 hb5 hg5 hb6
          go_roundw
          case rel => exact ⟨k1 + 1, A5, c5, true, acc ++ [y], by omega, rfl, rfl, by go_num, (show Aside _ from HSU.out.trans rfl), HN1.out, HN2.out⟩
          case measure => simp [intOf]; omega
        | false =>
          by_cases hpy : (p : Int) ≤ y
          · by_cases hpy2 : (p : Int) < y
            · have HWS := Lib.hid (show widS p (false, acc) y = (true, (acc ++ [(p : Int)]) ++ [y]) by unfold widS; simp [hpy, hpy2])
              go_upto_region 22 with (refine wpList_app_ints (o := ⟨some 137, _, _, _, _, _⟩) ?_ (.tmp 134) (.tmp 136) ?_ v.heap.size (.slice A' acc.length c') acc ?_ (ownsRow_call HO'.out ((Below.refl _ _).alloc (Nat.le_refl _) _)) (some ⟨wr.heap.size, 0, none⟩) 1 [(p : Int)] ?_ (by simp) (lies_one (enc := encI) (x := (p : Int)) rfl (Lies.fresh' rfl)) (by simp; omega) (by have h := HB'.out.size; simp; omega) ?_; rfl; rfl; rfl; rfl; intro v5 w5 hown5 hb5 hg5)
              obtain ⟨A5, c5, hv5, -, -⟩ := Sl.of_own (enc := encI) (fun _ => rfl) hown5 rfl
              subst hv5
              have hb6 := (HB'.out.trans (((Below.refl wr.heap.size wr).alloc (Nat.le_refl _) (.cells #[.int .i64 p] 3)).mono HB'.out.size)).trans hb5
              have HO5 := Lib.hid hown5
              have HB5 := Lib.hid hb6
              have r2 : w5.cell? ⟨lb, lo + k1, none⟩ = some (.int .i64 y) := (hb6.cell (p := ⟨lb, lo + k1, none⟩) HC.out.1).trans HC.out.2
              clear hown5 hb5 hg5 hb6 r1
              go_wp2_with (refine wpList_app_ints (o := ⟨some 144, _, _, _, _, _⟩) ?_ (.tmp 138) (.tmp 143) ?_ v.heap.size (.slice A5 (acc ++ [(p : Int)]).length c5) (acc ++ [(p : Int)]) ?_ (ownsRow_call HO5.out ((Below.refl _ _).alloc (Nat.le_refl _) _)) (some ⟨w5.heap.size, 0, none⟩) 1 [y] ?_ (by simp) (lies_one (enc := encI) (x := y) rfl (Lies.fresh' rfl)) (by simp; omega) (by have h := HB5.out.size; simp; omega) ?_; rfl; rfl; rfl; rfl; intro v7 w7 hown7 hb7 hg7)
              obtain ⟨A7, c7, hv7, -, -⟩ := Sl.of_own (enc := encI) (fun _ => rfl) hown7 rfl
              subst hv7
              have hb8 := (HB5.out.trans (((Below.refl w5.heap.size w5).alloc (Nat.le_refl _) (.cells #[.int .i64 y] 3)).mono HB5.out.size)).trans hb7
              have HN1 := Lib.hid hown7
              have HN2 := Lib.hid hb8
              clear hown7 hb7 hg7 hb8
              go_roundw
              case rel => exact ⟨k1 + 1, A7, c7, true, (acc ++ [(p : Int)]) ++ [y], by omega, rfl, rfl, by go_num, (show Aside _ from HSU.out.trans HWS.out), HN1.out, HN2.out⟩
              case measure => simp [intOf]; omega
            · obtain rfl : y = (p : Int) := by omega
              have HWS := Lib.hid (show widS p (false, acc) (p : Int) = (true, acc ++ [(p : Int)]) by unfold widS; simp)
              go_wp2_with (refine wpList_app_ints (o := ⟨some 144, _, _, _, _, _⟩) ?_ (.tmp 138) (.tmp 143) ?_ v.heap.size (.slice A' acc.length c') acc ?_ (ownsRow_call HO'.out ((Below.refl _ _).alloc (Nat.le_refl _) _)) (some ⟨wr.heap.size, 0, none⟩) 1 [(p : Int)] ?_ (by simp) (lies_one (enc := encI) (x := (p : Int)) rfl (Lies.fresh' rfl)) (by simp; omega) (by have h := HB'.out.size; simp; omega) ?_; rfl; rfl; rfl; rfl; intro v5 w5 hown5 hb5 hg5)
              obtain ⟨A5, c5, hv5, -, -⟩ := Sl.of_own (enc := encI) (fun _ => rfl) hown5 rfl
              subst hv5
              have hb6 := (HB'.out.trans (((Below.refl wr.heap.size wr).alloc (Nat.le_refl _) (.cells #[.int .i64 p] 3)).mono HB'.out.size)).trans hb5
              have HN1 := Lib.hid hown5
              have HN2 := Lib.hid hb6
              clear hown5 hb5 hg5 hb6
              go_roundw
              case rel => exact ⟨k1 + 1, A5, c5, true, acc ++ [(p : Int)], by omega, rfl, rfl, by go_num, (show Aside _ from HSU.out.trans HWS.out), HN1.out, HN2.out⟩
              case measure => simp [intOf]; omega
          · have HWS := Lib.hid (show widS p (false, acc) y = (false, acc ++ [y]) by unfold widS; simp [hpy])
            go_wp2_with (refine wpList_app_ints (o := ⟨some 144, _, _, _, _, _⟩) ?_ (.tmp 138) (.tmp 143) ?_ v.heap.size (.slice A' acc.length c') acc ?_ (ownsRow_call HO'.out ((Below.refl _ _).alloc (Nat.le_refl _) _)) (some ⟨wr.heap.size, 0, none⟩) 1 [y] ?_ (by simp) (lies_one (enc := encI) (x := y) rfl (Lies.fresh' rfl)) (by simp; omega) (by have h := HB'.out.size; simp; omega) ?_; rfl; rfl; rfl; rfl; intro v5 w5 hown5 hb5 hg5)
            obtain ⟨A5, c5, hv5, -, -⟩ := Sl.of_own (enc := encI) (fun _ => rfl) hown5 rfl
            subst hv5
            have hb6 := (HB'.out.trans (((Below.refl wr.heap.size wr).alloc (Nat.le_refl _) (.cells #[.int .i64 y] 3)).mono HB'.out.size)).trans hb5
            have HN1 := Lib.hid hown5
            have HN2 := Lib.hid hb6
            clear hown5 hb5 hg5 hb6
            go_roundw
            case rel => exact ⟨k1 + 1, A5, c5, false, acc ++ [y], by omega, rfl, rfl, by go_num, (show Aside _ from HSU.out.trans HWS.out), HN1.out, HN2.out⟩
            case measure => simp [intOf]; omega
      · obtain rfl : k1 = l.length := by omega
        have HB' := Lib.hid HB.out
        have HO' := Lib.hid HOW.out
        have hwd : widD (p : Int) (!sb) l = if dk then acc else acc ++ [(p : Int)] := by unfold widD; rw [HW.out]
        have HWD := Lib.hid hwd
        clear HB HOW HW hwd
        go_upto_if 146 with (fail)
        go_cut [18] from 147 to 150 (fun s18 wx => ∃ (A9 : Option Addr) (c9 : Nat), s18 = .slice A9 (widD (p : Int) (!sb) l).length c9 ∧ wx.ownsRow v.heap.size 3 1 (.slice A9 (widD (p : Int) (!sb) l).length c9) (widD (p : Int) (!sb) l).length ((widD (p : Int) (!sb) l).flatMap encI) ∧ Below v.heap.size v wx)
        case first =>
          cases dk with
          | true =>
            have hwd := HWD.out
            rw [if_pos rfl] at hwd
            have HWE := Lib.hid hwd
            clear hwd
            go_wp2
            go_meet
            case rel => exact ⟨A', c', by rw [HWE.out], by rw [HWE.out]; exact HO'.out, HB'.out⟩
          | false =>
            have hwd := HWD.out
            rw [if_neg (by simp)] at hwd
            have HWE := Lib.hid hwd
            clear hwd
            go_wp2_with (refine wpList_app_ints (o := ⟨some 150, _, _, _, _, _⟩) ?_ (.tmp 147) (.tmp 149) ?_ v.heap.size (.slice A' acc.length c') acc ?_ (ownsRow_call HO'.out ((Below.refl _ _).alloc (Nat.le_refl _) _)) (some ⟨wr.heap.size, 0, none⟩) 1 [(p : Int)] ?_ (by simp) (lies_one (enc := encI) (x := (p : Int)) rfl (Lies.fresh' rfl)) (by simp; omega) (by have h := HB'.out.size; simp; omega) ?_; rfl; rfl; rfl; rfl; intro v5 w5 hown5 hb5 hg5)
            obtain ⟨A5, c5, hv5, -, -⟩ := Sl.of_own (enc := encI) (fun _ => rfl) hown5 rfl
            subst hv5
            have hb6 := (HB'.out.trans (((Below.refl wr.heap.size wr).alloc (Nat.le_refl _) (.cells #[.int .i64 p] 3)).mono HB'.out.size)).trans hb5
            have HN1 := Lib.hid hown5
            have HN2 := Lib.hid hb6
            clear hown5 hb5 hg5 hb6
            go_meet
            case rel => exact ⟨A5, c5, by rw [HWE.out], by rw [HWE.out]; exact HN1.out, HN2.out⟩
        case rest =>
          obtain ⟨A9, c9, rfl, hown, hbx⟩ := hcut
          have hwl := widD_length (p : Int) (!sb) l
          have hbw := HBW.out
          generalize widD (p : Int) (!sb) l = wid at *
          obtain ⟨_, _, e9, -, hs9⟩ := Sl.of_own (enc := encI) (fun _ => rfl) hown rfl
          cases e9
          have S9 := Lib.hid hs9
          have D9 := Lib.hid (DV.out.trans (hbx.mono DV.out.size))
          have XC := Lib.hid (XV.out.call hbx)
          have BX := Lib.hid hbx
          have HBWW := Lib.hid hbw
          clear hown hs9 hbx hbw HBW HB' HO' HWD XV DV
          go_upto_region 27 with (first
            | (refine wpList_load_row (o := ⟨some 151, _, _, _, _, _⟩) ?_ 26 (.tmp 12) ?_ gx ?_ 26 x.cells.toArray (0, 0) _ XC.out Try.underlying26 rfl size_refrow ?_; rfl; rfl; rfl)
            | (go_at_call_of 18 (Value.agg x.cells.toArray); refine (RX.out _ D9.out).mono ?_; rintro e u1 ⟨q1, rfl, hq1⟩)
            | (go_at_call_of 32 (Value.agg q1.cells.toArray); refine (PX.out k wid true (by omega) HBWW.out q1 _ _ _ A9 c9 hq1 (Below.refl _ _) ((S9.out.below hq1.b).more hq1.b.size)).mono ?_; rintro e vy ⟨rfl, hby⟩))
          have h9y := BX.out.trans ((hq1.b.trans (hby.mono hq1.b.size)).mono BX.out.size)
          have SY := Lib.hid ((SV.out.below h9y).more h9y.size)
          have TY := Lib.hid ((TV.out.below h9y).more h9y.size)
          have RY := Lib.hid (RV.out.call h9y)
          have BY := Lib.hid (BV.out.trans (h9y.mono BV.out.size))
          clear h9y hq1 hby SV TV RV BV BX D9 XC S9 RX PX HBWW hwl
          go_wp2
          go_loopw [21, 22] (fun s21 s22 wr => ∃ (k2 : Nat) (u : Bool), k2 ≤ l.length ∧ s21 = .bool u ∧ s22 = .int .i64 k2 ∧ Aside (u = unsK (r.ws.l.length : Int) r.old t l k2) ∧ Aside (Below vy.heap.size vy wr)) (fun _ i _ => l.length - (intOf i).toNat)
          case atStart => exact ⟨0, true, by omega, rfl, rfl, (show true = unsK _ _ t l 0 from rfl), Below.refl _ _⟩
          case round =>
            obtain ⟨k2, u, hk2, rfl, rfl, HU, HB⟩ := hrel
            have HB' := Lib.hid HB.out
            by_cases hlt : k2 < l.length
            · have hltz : (k2 : Int) < (l.length : Int) := by omega
              have hk0 : (0 : Int) ≤ (k2 : Int) := by omega
              obtain ⟨y, hy⟩ : ∃ y, l[k2]? = some y := ⟨l[k2], by simp [hlt]⟩
              obtain ⟨hy0, hy1⟩ := HLX.out k2 y hy
              obtain ⟨q, rfl⟩ : ∃ q : Nat, y = (q : Int) := ⟨y.toNat, by omega⟩
              have htn : t.length = N := HTL.out.trans HN.out.symm
              obtain ⟨o, ho⟩ : ∃ o, t[q]? = some o := ⟨t[q]'(by omega), by simp⟩
              obtain ⟨ho0, ho1⟩ := HTB.out o (List.mem_of_getElem? ho)
              have hqz : (q : Int) < (t.length : Int) := by omega
              have hua : unsAt (r.ws.l.length : Int) r.old t l k2 = (decide (o < 0) || decide ((r.ws.l.length : Int) < o + r.old)) := by
                unfold unsAt
                rw [show l.getD k2 0 = (q : Int) by rw [List.getD, hy]; rfl, Int.toNat_natCast, show t.getD q 0 = o by rw [List.getD, ho]; rfl]
              have hsu := unsK_succ (r.ws.l.length : Int) r.old t l k2
              rw [← HU.out, hua] at hsu
              obtain ⟨lb, lo, e6, hlb, c1⟩ := SY.out.cell1 hy
              obtain ⟨tb, tf, e2, htb, c2⟩ := TY.out.cell1 ho
              have r1 := cell_regrown ((HB.out.cell (p := ⟨lb, lo + k2, none⟩) hlb).trans c1)
              have r2 := cell_regrown ((HB.out.cell (p := ⟨tb, tf + q, none⟩) htb).trans c2)
              have r3 := cell_regrown (show wr.cell? ⟨w.heap.size, 4, none⟩ = some (.int .i64 r.old) from (RY.out.call HB.out).at_ 4)
              have r4 := cell_regrown (show wr.cell? ⟨w.heap.size, 1, none⟩ = some (.slice r.ws.A r.ws.l.length r.ws.c) from (RY.out.call HB.out).at_ 1)
              have hw2 : IntKind.i64.wrap (o + r.old) = o + r.old := IntWalk.i64_in _ (by omega)
              subst e6 e2
              clear hy ho c1 c2 hlb htb hua HU HB htn
              go_upto_region 31 with (fail)
              cases u with
              | false =>
                have HSU := Lib.hid (show false = unsK (r.ws.l.length : Int) r.old t l (k2 + 1) by rw [hsu]; rfl)
                clear hsu
                refine wp_region_quiet_below (by kernel_rfl) (by kernel_rfl) ?_; (repeat (first | go_big_quiet_step ((fail)) | quiet_step ((fail)))); refine wpQuiet_nil ?_; intro wq hwq; have hbq : Below _ _ wq := (by obtain ⟨p, rfl⟩ := hwq; exact below_regrown _ _ _); clear hwq
                clear r1 r2 r3 r4
                go_wp2
                go_roundw
                case rel => exact ⟨k2 + 1, false, by omega, rfl, by go_num, HSU.out, HB'.out.trans (hbq.mono HB'.out.size)⟩
                case measure => simp [intOf]; omega
              | true =>
                by_cases h0 : o < 0
                · have d0 : decide (o < 0) = true := decide_eq_true h0
                  have HSU := Lib.hid (show true = unsK (r.ws.l.length : Int) r.old t l (k2 + 1) by rw [hsu, d0]; rfl)
                  clear hsu h0
                  refine wp_region_quiet_below (by kernel_rfl) (by kernel_rfl) ?_; (repeat (first | go_big_quiet_step ((fail)) | quiet_step ((fail)))); refine wpQuiet_nil ?_; intro wq hwq; have hbq : Below _ _ wq := (by obtain ⟨p, rfl⟩ := hwq; exact below_regrown _ _ _); clear hwq
                  clear r1 r2 r3 r4
                  go_wp2
                  go_roundw
                  case rel => exact ⟨k2 + 1, true, by omega, rfl, by go_num, HSU.out, HB'.out.trans (hbq.mono HB'.out.size)⟩
                  case measure => simp [intOf]; omega
                · have d0 : decide (o < 0) = false := decide_eq_false h0
                  by_cases h1 : (r.ws.l.length : Int) < o + r.old
                  · have d1 : decide ((r.ws.l.length : Int) < o + r.old) = true := decide_eq_true h1
                    have HSU := Lib.hid (show true = unsK (r.ws.l.length : Int) r.old t l (k2 + 1) by rw [hsu, d0, d1]; rfl)
                    clear hsu h0 h1
                    refine wp_region_quiet_below (by kernel_rfl) (by kernel_rfl) ?_; (repeat (first | go_big_quiet_step ((fail)) | quiet_step ((fail)))); refine wpQuiet_nil ?_; intro wq hwq; have hbq : Below _ _ wq := (by obtain ⟨p, rfl⟩ := hwq; exact below_regrown _ _ _); clear hwq
                    clear r1 r2 r3 r4
                    go_wp2
                    go_roundw
                    case rel => exact ⟨k2 + 1, true, by omega, rfl, by go_num, HSU.out, HB'.out.trans (hbq.mono HB'.out.size)⟩
                    case measure => simp [intOf]; omega
                  · have d1 : decide ((r.ws.l.length : Int) < o + r.old) = false := decide_eq_false h1
                    have HSU := Lib.hid (show false = unsK (r.ws.l.length : Int) r.old t l (k2 + 1) by rw [hsu, d0, d1]; rfl)
                    clear hsu h0 h1
                    refine wp_region_quiet_below (by kernel_rfl) (by kernel_rfl) ?_; (repeat (first | go_big_quiet_step ((fail)) | quiet_step ((fail)))); refine wpQuiet_nil ?_; intro wq hwq; have hbq : Below _ _ wq := (by obtain ⟨p, rfl⟩ := hwq; exact below_regrown _ _ _); clear hwq
                    clear r1 r2 r3 r4
                    go_wp2
                    go_roundw
                    case rel => exact ⟨k2 + 1, false, by omega, rfl, by go_num, HSU.out, HB'.out.trans (hbq.mono HB'.out.size)⟩
                    case measure => simp [intOf]; omega
            · obtain rfl : k2 = l.length := by omega
              cases u with
              | false =>
                clear HU HB
                go_wp2_with (go_at_call 16; refine (awake_any _).mono ?_; rintro e vq ⟨rfl, hbq⟩)
                go_ret
                exact ⟨rfl, BY.out.trans ((HB'.out.trans (hbq.mono HB'.out.size)).mono BY.out.size)⟩
              | true =>
                have hck := HBC.out HU.out.symm
                have hckz : (ck : Int) ≤ (k : Int) := by omega
                have hC := HCA.out _ (BY.out.trans (HB'.out.mono BY.out.size)) A2 c2 t ((TY.out.below HB'.out).more HB'.out.size) HTL.out HTB.out
                rw [← HCK.out] at hC
                have HC := Lib.hid hC
                have RW := Lib.hid (RY.out.call HB'.out)
                have hcd : decide (ck ≤ k) = true := decide_eq_true hck
                clear HU HB hC
                go_wp2_with (first
                  | (refine wpList_load_rowG (o := ⟨some 193, _, _, _, _, _⟩) ?_ 26 (.tmp 5) ?_ w.heap.size ?_ 26 r.cells.toArray (0, 0) _ RW.out Try.underlying26 rfl size_refrow ?_; kernel_rfl; rfl; rfl)
                  | (go_at_call 43; refine HC.out.mono ?_; rintro e vp ⟨rfl, hbp⟩)
                  | (go_at_call 16; refine (awake_any _).mono ?_; rintro e vq ⟨rfl, hbq⟩))
                go_ret
                exact ⟨rfl, BY.out.trans ((HB'.out.trans ((hbp.trans (hbq.mono hbp.size)).mono HB'.out.size)).mono BY.out.size)⟩
theorem IllEnough_walk (r : RwM) (nb : Nat) (o : Sv Int) (mo : Nat) (s : Sv Nat) (w : World) (h : OpenRow r w) (hnb : nb ≤ 255) (ho : (o.A = none → o.l.length = 0 ∧ o.c = 0) ∧ o.l.length ≤ maxLen) (hO : Sl w w.heap.size 1 encI o.A o.l) (hmo : mo ≤ 255) (hs : (∀ x, x ∈ s.l → x < 65536) ∧ s.l.length ≤ maxLen) (hS : Sl w w.heap.size 1 enc16 s.A s.l) :
    Calls Try.prog 12 #[.agg r.cells.toArray, .int .u8 nb, .slice o.A o.l.length o.c, .int .u8 mo, .slice s.A s.l.length s.c] w fun e w' => e = .returned (.bool true) ∧ Below w.heap.size w w' := by
  cases hy : r.d.thin && decide (r.d.fault = 0) with
  | false => exact IllEnough_unready r _ _ _ _ _ _ _ _ w h hy
  | true =>
    have hy2 := hy
    rw [Bool.and_eq_true, decide_eq_true_eq] at hy2
    obtain ⟨hr, ht⟩ := h.thin hy2.1
    by_cases hz : r.ws.l.length = 0
    · exact IllEnough_not r _ _ _ _ _ _ _ _ w hr hy ho.2 (.inl hz)
    · by_cases hn : 15 < o.l.length
      · exact IllEnough_not r _ _ _ _ _ _ _ _ w hr hy ho.2 (.inr hn)
      · exact IllEnough_main r nb mo o.A o.c o.l s.A s.c s.l w hr ht h.nsn hO ho.1 (by omega) hnb hmo (by omega) hS hs.2 hs.1 hy hy2.2
end Go.Proofs.Ytebkhgficochoaa
