/- The texts SU SX SY, joined. -/
import Derived.Test.YtebkhgficochoaaXE
import Derived.Test.YtebkhgficochoaaXK
/- rises, isSample. -/
namespace Go.Proofs.Ytebkhgficochoaa
open Go.RowKit Go.Lib

/-- Does each number rise above the one before it, up to k? -/
def risesAt (l : List Int) (i : Nat) : Bool := decide (i = 0) || decide (l.getD (i - 1) 0 < l.getD i 0)
def risesTo (l : List Int) (k : Nat) : Bool := (List.range k).all (risesAt l)
def risesB (l : List Int) : Bool := risesTo l l.length
theorem risesTo_succ (l : List Int) (k : Nat) : risesTo l (k + 1) = (risesTo l k && risesAt l k) := by
  unfold risesTo; rw [List.range_succ, List.all_append]; simp
theorem risesB_no {l : List Int} {k : Nat} (hk : k < l.length) (h : risesAt l k = false) : risesB l = false := all_range_no hk h
set_option maxRecDepth 100000 in
set_option maxHeartbeats 1000000 in
theorem rises_any (A : Option Addr) (c : Nat) (l : List Int) (w : World) (hA : Sl w w.heap.size 1 encI A l) (hl : l.length ≤ 1000000) :
    Calls Try.prog 88 #[.slice A l.length c] w fun e w' => e = .returned (.bool (risesB l)) ∧ Below w.heap.size w w' := by
  have HA := Lib.hid hA
  clear hA
  go_enter Try.func88, Try.ntmps88
  go_wp2
  go_loopg [3, 4, 7] l.length (fun gg _ _ s7 wr => ∃ k : Nat, k ≤ l.length ∧ l.length - k ≤ gg ∧ s7 = .int .i64 k ∧ Aside (Below w.heap.size w wr) ∧ Aside (risesTo l k = true))
  case atStart => exact ⟨0, Nat.zero_le _, by omega, rfl, Below.refl _ w, rfl⟩
  case round =>
    obtain ⟨k, hk, hg, rfl, BW, HH⟩ := hrel
    by_cases hlt : k < l.length
    · have hltz : (k : Int) < (l.length : Int) := by omega
      have hk0 : (0 : Int) ≤ (k : Int) := by omega
      obtain ⟨x, hx⟩ : ∃ x, l[k]? = some x := ⟨l[k], by simp [hlt]⟩
      obtain ⟨b, off, rfl, hb, hc⟩ := HA.out.cell1 hx
      have l2 : wr.cell? ⟨b, off + k, none⟩ = some (.int .i64 x) := by rw [BW.out.cell (p := ⟨b, off + k, none⟩) hb]; exact hc
      have hxg : l.getD k 0 = x := by rw [List.getD, hx]; rfl
      have HX := Lib.hid hxg
      clear hc hx hxg
      by_cases h0 : k = 0
      · have hz : ¬ (0 : Int) < (k : Int) := by omega
        have HZ := Lib.hid h0
        clear h0
        go_wp2
        go_roundg (l.length - (k + 1))
        case measure => omega
        case rel => exact ⟨k + 1, by omega, by omega, by go_num, BW.out, (show Aside _ by show risesTo l (k + 1) = true; rw [risesTo_succ, HH.out, risesAt, HZ.out]; rfl)⟩
      · obtain ⟨j, hj⟩ : ∃ j, j + 1 = k := ⟨k - 1, by omega⟩
        have hz : (0 : Int) < (k : Int) := by omega
        have hjz : (k : Int) - 1 = (j : Int) := by omega
        have hj0 : (0 : Int) ≤ (j : Int) := by omega
        have hjl : (j : Int) < (l.length : Int) := by omega
        have hw : IntKind.i64.wrap (j : Int) = (j : Int) := IntWalk.i64_in _ (by omega)
        obtain ⟨y, hy⟩ : ∃ y, l[j]? = some y := ⟨l[j]'(by omega), by simp⟩
        obtain ⟨b', off', e', hb', hc'⟩ := HA.out.cell1 hy
        cases e'
        have l3 : wr.cell? ⟨b, off + j, none⟩ = some (.int .i64 y) := by rw [BW.out.cell (p := ⟨b, off + j, none⟩) hb]; exact hc'
        have hyg : l.getD (k - 1) 0 = y := by rw [← hj, Nat.add_sub_cancel, List.getD, hy]; rfl
        have HY := Lib.hid hyg
        have HZ := Lib.hid h0
        clear hc' hy hyg hb' h0
        by_cases hxy : x ≤ y
        · go_wp2
          go_ret
          exact ⟨ret_bool (risesB_no (k := k) hlt (by unfold risesAt; rw [HX.out, HY.out, decide_eq_false HZ.out, decide_eq_false (by omega)]; rfl)).symm, BW.out⟩
        · go_wp2
          go_roundg (l.length - (k + 1))
          case measure => omega
          case rel => exact ⟨k + 1, by omega, by omega, by go_num, BW.out, (show Aside _ by show risesTo l (k + 1) = true; rw [risesTo_succ, HH.out, risesAt, HX.out, HY.out, decide_eq_true (by omega : y < x)]; simp)⟩
    · have hltz : ¬ (k : Int) < (l.length : Int) := by omega
      have he : k = l.length := by omega
      have HE := Lib.hid he
      clear he
      go_wp2
      go_ret
      exact ⟨ret_bool (by unfold risesB; rw [← HE.out]; exact HH.out.symm), BW.out⟩
/-- Is the list a sample of the row? -/
def RwD.sampleB (r : RwD) (l : List Int) : Bool := (l.all fun p => inB p 0 (r.n - 1)) && (l.all fun p => r.lastB p.toNat) && risesB l
set_option maxRecDepth 100000 in
set_option maxHeartbeats 4000000 in
theorem isSample_any (r : RwM) (A : Option Addr) (c : Nat) (l : List Int) (w : World) (hr : r.At w w.heap.size) (hok : r.d.Ok) (hA : Sl w w.heap.size 1 encI A l) (hl : l.length ≤ 1000000) :
    Calls Try.prog 60 #[.agg r.cells.toArray, .slice A l.length c] w fun e w' => e = .returned (.bool (r.d.sampleB l)) ∧ Below w.heap.size w w' := by
  have l0 : Lies (w.alloc (.cells r.cells.toArray 34)) w.heap.size 34 r.cells.toArray := Lies.fresh _ _ _
  have b0 : Below w.heap.size w (w.alloc (.cells r.cells.toArray 34)) := (by repeat (first | (with_reducible assumption) | (with_reducible exact Below.refl _ _) | (with_reducible refine Below.drew ?_) | (with_reducible refine below_drewN ?_ _) | ((with_reducible refine Below.setCell ?_ ?_ _); rotate_left; focus (first | (simp; done) | (simp; omega) | omega)) | ((with_reducible refine Below.alloc ?_ ?_ _); rotate_left; focus (first | (simp; done) | (simp; omega) | omega))))
  have h0 : -1000000 ≤ r.n := by have := hok.n0; have h2 : r.d.n = r.n := rfl; omega
  have h1 : r.n ≤ 1000000 := by have := hok.n1; have h2 : r.d.n = r.n := rfl; omega
  have hP := fun W (hb : Below w.heap.size w W) => everyInt_any 86 #[.agg r.cells.toArray] #[] _ A c l W ((hA.below hb).more hb.size) (ask_plant r h0 h1 W (· ∈ l)) hl
  have hS := fun (hq : ∀ p, p ∈ l → inB p 0 (r.n - 1) = true) W (hb : Below w.heap.size w W) => everyInt_any 87 #[.agg r.cells.toArray] #[] (fun p => r.d.lastB p.toNat) A c l W ((hA.below hb).more hb.size) ⟨enters_sl, fun V x hx hv => by
    have h := inB_iff.1 (hq x hx)
    have hd : (r.dug.l.length : Int) = r.n := hok.dug
    have h2 := standsLast_any r x.toNat V (hr.below (hb.trans (hv.mono hb.size)) (hb.trans (hv.mono hb.size)).size) (by omega)
    rw [show ((x.toNat : Nat) : Int) = x by omega] at h2
    exact h2⟩ hl
  have hR := fun W (hb : Below w.heap.size w W) => rises_any A c l W ((hA.below hb).more hb.size) hl
  have hq : r.d.sampleB l = ((l.all fun p => inB p 0 (r.n - 1)) && (l.all fun p => r.d.lastB p.toNat) && risesB l) := rfl
  rw [hq]
  have hqa : (l.all fun p => inB p 0 (r.n - 1)) = true → ∀ p, p ∈ l → inB p 0 (r.n - 1) = true := fun h => List.all_eq_true.1 h
  have hS2 := fun h => hS (hqa h)
  generalize (l.all fun p => inB p 0 (r.n - 1)) = a at *
  generalize (l.all fun p => r.d.lastB p.toNat) = b at *
  generalize risesB l = z at *
  have L0 := Lib.hid l0
  have B0 := Lib.hid b0
  have HP := Lib.hid hP
  have HS := Lib.hid hS2
  have HR := Lib.hid hR
  clear l0 b0 hP hS hS2 hR hq hqa hr hok hA hl h0 h1
  cases a
  · go_enter Try.func60, Try.ntmps60
    go_upto_region 1 with (fail)
    change Code.wp _ _ _ _ (w.alloc (.cells r.cells.toArray 34))
    generalize w.alloc (.cells r.cells.toArray 34) = w0 at *
    go_wp2_with (first
      | (refine wpList_load_row (o := ⟨some 6, _, _, _, _, _⟩) ?_ 34 (.tmp 2) ?_ w.heap.size ?_ 34 r.cells.toArray (0, 0) _ L0.out Try.underlying34 rfl size_row ?_; rfl; rfl; rfl)
      | (go_at_call 68; refine (HP.out _ B0.out).mono ?_; rintro e w1 ⟨rfl, hb1⟩))
    go_ret
    exact ⟨rfl, B0.out.trans (hb1.mono B0.out.size)⟩
  · cases b
    · go_enter Try.func60, Try.ntmps60
      go_upto_region 1 with (fail)
      change Code.wp _ _ _ _ (w.alloc (.cells r.cells.toArray 34))
      generalize w.alloc (.cells r.cells.toArray 34) = w0 at *
      go_wp2_with (first
        | (refine wpList_load_row (o := ⟨some 6, _, _, _, _, _⟩) ?_ 34 (.tmp 2) ?_ w.heap.size ?_ 34 r.cells.toArray (0, 0) _ L0.out Try.underlying34 rfl size_row ?_; rfl; rfl; rfl)
        | ((fail_if_success (have hxx := B1)); go_at_call 68; refine (HP.out _ B0.out).mono ?_; rintro e w1 ⟨rfl, hb1⟩; have B1 := Lib.hid (B0.out.trans (hb1.mono B0.out.size)); have L1 := Lib.hid (L0.out.call hb1))
        | (refine wpList_load_rowG (o := ⟨some 11, _, _, _, _, _⟩) ?_ 34 (.tmp 2) ?_ w.heap.size ?_ 34 r.cells.toArray (0, 0) _ L1.out Try.underlying34 rfl size_row ?_; kernel_rfl; rfl; rfl)
        | (have hxx := B1; clear hxx; go_at_call 68; refine (HS.out (by simp) _ B1.out).mono ?_; rintro e w2 ⟨rfl, hb2⟩))
      go_ret
      exact ⟨rfl, B1.out.trans (hb2.mono B1.out.size)⟩
    · go_enter Try.func60, Try.ntmps60
      go_upto_region 1 with (fail)
      change Code.wp _ _ _ _ (w.alloc (.cells r.cells.toArray 34))
      generalize w.alloc (.cells r.cells.toArray 34) = w0 at *
      go_wp2_with (first
        | (refine wpList_load_row (o := ⟨some 6, _, _, _, _, _⟩) ?_ 34 (.tmp 2) ?_ w.heap.size ?_ 34 r.cells.toArray (0, 0) _ L0.out Try.underlying34 rfl size_row ?_; rfl; rfl; rfl)
        | ((fail_if_success (have hxx := B1)); go_at_call 68; refine (HP.out _ B0.out).mono ?_; rintro e w1 ⟨rfl, hb1⟩; have B1 := Lib.hid (B0.out.trans (hb1.mono B0.out.size)); have L1 := Lib.hid (L0.out.call hb1))
        | (refine wpList_load_rowG (o := ⟨some 11, _, _, _, _, _⟩) ?_ 34 (.tmp 2) ?_ w.heap.size ?_ 34 r.cells.toArray (0, 0) _ L1.out Try.underlying34 rfl size_row ?_; kernel_rfl; rfl; rfl)
        | ((fail_if_success (have hxx := B2)); have hxx := B1; clear hxx; go_at_call 68; refine (HS.out (by simp) _ B1.out).mono ?_; rintro e w2 ⟨rfl, hb2⟩; have B2 := Lib.hid (B1.out.trans (hb2.mono B1.out.size)))
        | (go_at_call 88; refine (HR.out _ B2.out).mono ?_; rintro e w3 ⟨rfl, hb3⟩))
      go_ret
      exact ⟨rfl, B2.out.trans (hb3.mono B2.out.size)⟩
end Go.Proofs.Ytebkhgficochoaa

/- Samples that are enough: the mathematics. -/
namespace Go.Proofs.Ytebkhgficochoaa
open Go.RowKit Go.Lib

/-- So late that a test in the last week says no. -/
def RwD.lateB (r : RwD) (t : Int) : Bool := inB t ((r.ws.length : Int) - r.old + 1) 31
/-- The number of old cases. -/
def RwD.numC (r : RwD) (t : List Int) : Nat := (r.allCases t ((r.ws.length : Int) - r.old)).length
theorem winD_tested (r : RwD) (q : Nat) (t : Int) : ∀ (ps : List Int) (ws : List (Int × Int)), (∀ p, p ∈ ps → 0 ≤ p ∧ p < 10) → ws.length = 10 → winD (r.testedD ws ps) q t = (winD ws q t && (!decide ((q : Int) ∈ ps) || r.lateB t))
  | [], ws, _, _ => by unfold RwD.testedD; simp
  | p :: ps, ws, hp, hw => by
    have h0 := hp p (by simp)
    have ih := winD_tested r q t ps (noteD r.sh r.old ws (testN r.ws.length p)) (fun x hx => hp x (by simp [hx])) (by rw [noteD_length]; exact hw)
    have e : r.testedD ws (p :: ps) = r.testedD (noteD r.sh r.old ws (testN r.ws.length p)) ps := rfl
    have hpn : (testN r.ws.length p).p.toNat = p.toNat := rfl
    rw [e, ih, winD_note _ _ _ _ (by rw [hw, hpn]; omega), hpn]
    have ha : inB t (alwD r.sh r.old (testN r.ws.length p)).1 (alwD r.sh r.old (testN r.ws.length p)).2 = r.lateB t := rfl
    rw [ha, show decide ((q : Int) ∈ p :: ps) = (decide (q = p.toNat) || decide ((q : Int) ∈ ps)) from by
      rw [← Bool.decide_or]
      refine decide_eq_decide.2 ?_
      rw [List.mem_cons]
      exact or_congr ⟨fun h => by omega, fun h => by omega⟩ Iff.rfl]
    generalize decide (q = p.toNat) = a
    generalize decide ((q : Int) ∈ ps) = b
    generalize winD ws q t = c
    generalize r.lateB t = d
    cases a <;> cases b <;> cases c <;> cases d <;> rfl
section
variable {r : RwD} {ws : List (Int × Int)} {ps qs : List Int} {k : Int}
theorem poss_tested (hw : ws.length = 10) (hp : ∀ p, p ∈ ps → 0 ≤ p ∧ p < 10) (t : List Int) : r.possB (r.testedD ws ps) t = true ↔ r.possB ws t = true ∧ ∀ q : Nat, q < r.dug.length → (q : Int) ∈ ps → r.lateB (t.getD q 0) = true := by
  constructor
  · intro h
    refine ⟨all_range.2 fun q hq => ?_, fun q hq hm => ?_⟩
    · have h1 := all_range.1 h q hq
      unfold RwD.possAt at *
      rw [winD_tested r q _ ps ws hp hw, Bool.and_eq_true, Bool.and_eq_true] at h1
      rw [Bool.and_eq_true]
      exact ⟨h1.1.1, h1.2⟩
    · have h1 := all_range.1 h q hq
      unfold RwD.possAt at h1
      rw [winD_tested r q _ ps ws hp hw, Bool.and_eq_true, Bool.and_eq_true, Bool.or_eq_true] at h1
      exact h1.1.2.resolve_left (by simp [hm])
  · rintro ⟨h1, h2⟩
    refine all_range.2 fun q hq => ?_
    have h3 := all_range.1 h1 q hq
    unfold RwD.possAt at *
    rw [winD_tested r q _ ps ws hp hw]
    rw [Bool.and_eq_true] at h3
    rw [Bool.and_eq_true]
    refine ⟨?_, h3.2⟩
    rw [h3.1, Bool.true_and, Bool.or_eq_true]
    by_cases hm : (q : Int) ∈ ps
    · exact .inr (h2 q hq hm)
    · exact .inl (by simp [hm])
theorem cases_le {s t : List Int} (h : ∀ q, q < r.dug.length → s.getD q 0 ≤ t.getD q 0) : r.numC t ≤ r.numC s := by
  unfold RwD.numC RwD.allCases
  rw [List.length_map, List.length_map]
  refine length_le_sub ((List.nodup_range.filter _).filter _) fun q hq => ?_
  obtain ⟨h1, h2⟩ := List.mem_filter.1 hq
  have hq2 := List.mem_range.1 (List.mem_filter.1 h1).1
  have := h q hq2
  refine List.mem_filter.2 ⟨h1, ?_⟩
  rw [decide_eq_true_eq] at *
  omega
theorem enough_iff (hok : r.Ok) : r.enoughD ws ps k = true ↔ ∀ t, TrW r.ws.length t → r.possB (r.testedD ws ps) t = true → (r.numC t : Int) ≤ k := by
  unfold RwD.enoughD
  rw [Bool.or_eq_true, Bool.not_eq_true', decide_eq_true_eq]
  constructor
  · intro h t hT ht
    have hc := early_can hok hT ht
    rcases h with h | h
    · rw [hc] at h; cases h
    · have := cases_le (r := r) (s := r.earlyD (r.testedD ws ps)) (t := t) (fun q hq => early_least hok hT ht q hq)
      unfold RwD.numC at *
      omega
  · intro h
    cases hc : r.possB (r.testedD ws ps) (r.earlyD (r.testedD ws ps)) with
    | false => exact .inl rfl
    | true => exact .inr (h _ (early_ok r _) hc)
theorem enough_of (hok : r.Ok) (h : ∀ t, TrW r.ws.length t → r.possB (r.testedD ws qs) t = true → r.possB (r.testedD ws ps) t = true) (he : r.enoughD ws ps k = true) : r.enoughD ws qs k = true :=
  (enough_iff hok).2 fun t hT ht => (enough_iff hok).1 he t hT (h t hT ht)
theorem enough_sub (hok : r.Ok) (hw : ws.length = 10) (hp : ∀ p, p ∈ ps → 0 ≤ p ∧ p < 10) (hq : ∀ p, p ∈ qs → 0 ≤ p ∧ p < 10) (h : ∀ p, p ∈ ps → p ∈ qs) (he : r.enoughD ws ps k = true) : r.enoughD ws qs k = true :=
  enough_of hok (fun t _ ht => (poss_tested hw hp t).2 ⟨((poss_tested hw hq t).1 ht).1, fun q hq1 hm => ((poss_tested hw hq t).1 ht).2 q hq1 (h _ hm)⟩) he
theorem enough_up (hok : r.Ok) {k' : Int} (hk : k ≤ k') (he : r.enoughD ws ps k = true) : r.enoughD ws ps k' = true :=
  (enough_iff hok).2 fun t hT ht => Int.le_trans ((enough_iff hok).1 he t hT ht) hk
theorem mem_tells {q : Nat} : (q : Int) ∈ r.tells ws ↔ q < r.dug.length ∧ r.tellB ws q = true := by
  unfold RwD.tells thoseD
  rw [List.mem_map]
  constructor
  · rintro ⟨a, ha, e⟩
    have : a = q := by omega
    subst this
    obtain ⟨h1, h2⟩ := List.mem_filter.1 ha
    exact ⟨List.mem_range.1 h1, h2⟩
  · rintro ⟨h1, h2⟩
    exact ⟨q, List.mem_filter.2 ⟨List.mem_range.2 h1, h2⟩, rfl⟩
theorem tells_nat {x : Int} (h : x ∈ r.tells ws) : ∃ q : Nat, x = q ∧ q < r.dug.length ∧ r.tellB ws q = true := by
  unfold RwD.tells thoseD at h
  obtain ⟨a, ha, rfl⟩ := List.mem_map.1 h
  obtain ⟨h1, h2⟩ := List.mem_filter.1 ha
  exact ⟨a, rfl, List.mem_range.1 h1, h2⟩
/-- Where a test tells nothing, it would say no. -/
theorem no_tell (hw : ws.length = 10) {q : Nat} (hq : q < 10) (hl : r.lastB q = true) (ht : r.tellB ws q = false) {t : Int} (h : winD ws q t = true) : r.lateB t = true := by
  unfold RwD.tellB at ht
  rw [hl, Bool.true_and, Bool.not_eq_false', decide_eq_true_eq] at ht
  have h2 : winD (r.testedD ws [(q : Int)]) q t = winD ws q t := by unfold winD; rw [ht]
  rw [winD_tested r q t [(q : Int)] ws (fun p hp => by simp at hp; omega) hw, h] at h2
  simpa using h2
theorem tells_enough (hok : r.Ok) (hw : ws.length = 10) (hk : 0 ≤ k) : r.enoughD ws (r.tells ws) k = true := by
  have hd10 : r.dug.length ≤ 10 := by have := hok.dug; have := hok.n1; omega
  refine (enough_iff hok).2 fun t hT ht => ?_
  have hin : ∀ p, p ∈ r.tells ws → 0 ≤ p ∧ p < 10 := fun p hp => by obtain ⟨q, rfl, h1, -⟩ := tells_nat hp; omega
  obtain ⟨h1, h2⟩ := (poss_tested hw hin t).1 ht
  have hn : r.numC t = 0 := by
    unfold RwD.numC RwD.allCases
    rw [List.length_map, List.length_eq_zero_iff, List.filter_eq_nil_iff]
    intro q hq
    obtain ⟨ha, hb⟩ := List.mem_filter.1 hq
    have hqn := List.mem_range.1 ha
    have hlate : r.lateB (t.getD q 0) = true := by
      cases htl : r.tellB ws q with
      | true => exact h2 q hqn (mem_tells.2 ⟨hqn, htl⟩)
      | false =>
        have h3 := all_range.1 h1 q hqn
        unfold RwD.possAt at h3
        rw [Bool.and_eq_true] at h3
        exact no_tell hw (by omega) hb htl h3.1
    unfold RwD.lateB at hlate
    rw [inB_iff] at hlate
    rw [decide_eq_true_eq]
    omega
  omega
end
theorem findC_some (f : List Int → Bool) : ∀ (m : Nat) (l pre s : List Int), findC f m l pre = some s → f s = true ∧ ∃ sub, s = pre ++ sub ∧ sub.Sublist l ∧ sub.length = m
  | 0, l, pre, s, h => by
    rw [findC] at h
    split at h
    · rename_i hf; cases h; exact ⟨hf, [], by simp, List.nil_sublist _, rfl⟩
    · cases h
  | m + 1, [], pre, s, h => by rw [findC] at h; cases h
  | m + 1, x :: rest, pre, s, h => by
    rw [findC] at h
    split at h
    · cases h
    · split at h
      · rename_i s' h2
        cases h
        obtain ⟨hf, sub, h3, h4, h5⟩ := findC_some f m rest (pre ++ [x]) _ h2
        exact ⟨hf, x :: sub, by rw [h3]; simp, h4.cons_cons x, by simp [h5]⟩
      · obtain ⟨hf, sub, h3, h4, h5⟩ := findC_some f (m + 1) rest pre s h
        exact ⟨hf, sub, h3, h4.cons x, h5⟩
theorem findC_none (f : List Int → Bool) : ∀ (m : Nat) (l pre : List Int), findC f m l pre = none → ∀ sub, sub.Sublist l → sub.length = m → f (pre ++ sub) = false
  | 0, l, pre, h, sub, _, hl => by
    rw [findC] at h
    have : sub = [] := List.eq_nil_of_length_eq_zero hl
    subst this
    split at h
    · cases h
    · rename_i hf; simpa using hf
  | m + 1, [], pre, h, sub, hs, hl => by
    have := hs.length_le
    simp at this
    subst this
    simp at hl
  | m + 1, x :: rest, pre, h, sub, hs, hl => by
    rw [findC] at h
    split at h
    · rename_i h2
      have := hs.length_le
      simp at this
      omega
    · split at h
      · cases h
      · rename_i h2
        cases hs with
        | cons _ hs => exact findC_none f (m + 1) rest pre h sub hs hl
        | cons_cons _ hs =>
          rename_i sub'
          have := findC_none f m rest (pre ++ [x]) h2 sub' hs (by simpa using hl)
          simpa using this
theorem bestN_some {g : Nat → Option (List Int)} : ∀ {n k : Nat} {s : List Int}, bestN g n k = some s → ∃ j, k ≤ j ∧ j < k + n ∧ g j = some s ∧ ∀ i, k ≤ i → i < j → g i = none
  | 0, k, s, h => by rw [bestN] at h; cases h
  | n + 1, k, s, h => by
    rw [bestN] at h
    split at h
    · rename_i s' h2
      cases h
      exact ⟨k, Nat.le_refl _, by omega, h2, fun i h1 h2 => by omega⟩
    · rename_i h2
      obtain ⟨j, h3, h4, h5, h6⟩ := bestN_some h
      exact ⟨j, by omega, by omega, h5, fun i hi hj => by
        by_cases e : i = k
        · subst e; exact h2
        · exact h6 i (by omega) hj⟩
theorem bestN_none {g : Nat → Option (List Int)} : ∀ {n k : Nat}, bestN g n k = none → ∀ i, k ≤ i → i < k + n → g i = none
  | 0, k, _, i, h1, h2 => by omega
  | n + 1, k, h, i, h1, h2 => by
    rw [bestN] at h
    split at h
    · cases h
    · rename_i h3
      by_cases e : i = k
      · subst e; exact h3
      · exact bestN_none h i (by omega) (by omega)
section
variable {r : RwD} {ws : List (Int × Int)} {k : Int}
/-- The best sample: plants that tell, enough, and no fewer are. -/
theorem best_is (hok : r.Ok) (hw : ws.length = 10) (hk : 0 ≤ k) : (r.bestD ws k).Sublist (r.tells ws) ∧ r.enoughD ws (r.bestD ws k) k = true ∧ ∀ sub, sub.Sublist (r.tells ws) → r.enoughD ws sub k = true → (r.bestD ws k).length ≤ sub.length := by
  unfold RwD.bestD
  cases h : bestN (fun k' => findC (fun ps => r.enoughD ws ps k) k' (r.tells ws) []) (r.tells ws).length 0 with
  | none =>
    refine ⟨List.Sublist.refl _, tells_enough hok hw hk, fun sub hs he => ?_⟩
    by_cases hl : sub.length < (r.tells ws).length
    · have h2 := findC_none _ _ _ _ (bestN_none h sub.length (Nat.zero_le _) (by omega)) sub hs rfl
      simp only [List.nil_append] at h2
      rw [he] at h2
      cases h2
    · simpa using Nat.le_of_not_lt hl
  | some s =>
    obtain ⟨j, -, hj, hs, hno⟩ := bestN_some h
    obtain ⟨hf, sub, e, h1, h2⟩ := findC_some _ _ _ _ _ hs
    rw [List.nil_append] at e
    subst e
    refine ⟨h1, hf, fun sub' hs' he => ?_⟩
    rw [Option.getD_some, h2]
    by_cases hl : sub'.length < j
    · have h3 := findC_none _ _ _ _ (hno sub'.length (Nat.zero_le _) hl) sub' hs' rfl
      simp only [List.nil_append] at h3
      rw [he] at h3
      cases h3
    · exact Nat.le_of_not_lt hl
theorem tells_rising : (r.tells ws).Pairwise (· < ·) := by
  unfold RwD.tells thoseD
  rw [List.pairwise_map]
  exact ((List.pairwise_lt_range).filter _).imp fun h => by omega
end
theorem rises_pair {l : List Int} (h : risesB l = true) : l.Pairwise (· < ·) := by
  have h1 : ∀ i, i + 1 < l.length → l.getD i 0 < l.getD (i + 1) 0 := fun i hi => by
    have := all_range.1 h (i + 1) hi
    unfold risesAt at this
    simpa using this
  rw [List.pairwise_iff_getElem]
  intro i j hi hj hij
  have h2 : ∀ d, i + 1 + d < l.length → l.getD i 0 < l.getD (i + 1 + d) 0 := fun d => by
    induction d with
    | zero => exact fun hd => h1 i hd
    | succ d ih => exact fun hd => Int.lt_trans (ih (by omega)) (h1 (i + 1 + d) hd)
  have h3 := h2 (j - (i + 1)) (by omega)
  rw [show i + 1 + (j - (i + 1)) = j by omega] at h3
  simpa [List.getD, hi, hj] using h3
theorem pair_rises {l : List Int} (h : l.Pairwise (· < ·)) : risesB l = true := by
  refine all_range.2 fun i hi => ?_
  unfold risesAt
  rw [Bool.or_eq_true, decide_eq_true_eq, decide_eq_true_eq]
  by_cases h0 : i = 0
  · exact .inl h0
  · right
    rw [List.pairwise_iff_getElem] at h
    have := h (i - 1) i (by omega) hi (by omega)
    simpa [List.getD, hi, show i - 1 < l.length by omega] using this
theorem sub_of_rising : ∀ (m l : List Int), l.Pairwise (· < ·) → m.Pairwise (· < ·) → (∀ x, x ∈ l → x ∈ m) → l.Sublist m
  | [], l, _, _, h => by
    cases l with
    | nil => exact List.Sublist.refl _
    | cons x l => exact absurd (h x (by simp)) (by simp)
  | y :: m, [], _, _, _ => List.nil_sublist _
  | y :: m, x :: l, hl, hm, h => by
    rw [List.pairwise_cons] at hl hm
    by_cases e : x = y
    · subst e
      refine (sub_of_rising m l hl.2 hm.2 fun z hz => ?_).cons_cons x
      have h1 := hl.1 z hz
      rcases List.mem_cons.1 (h z (by simp [hz])) with h2 | h2
      · omega
      · exact h2
    · refine (sub_of_rising m (x :: l) (List.pairwise_cons.2 hl) hm.2 fun z hz => ?_).cons y
      have hxm : x ∈ m := by
        rcases List.mem_cons.1 (h x (by simp)) with h2 | h2
        · exact absurd h2 e
        · exact h2
      have hyx := hm.1 x hxm
      rcases List.mem_cons.1 (h z hz) with h2 | h2
      · subst h2
        rcases List.mem_cons.1 hz with h3 | h3
        · exact absurd h3.symm e
        · have := hl.1 z h3; omega
      · exact h2
section
variable {r : RwD} {ws : List (Int × Int)} {k : Int}
theorem sample_at {l : List Int} (h : r.sampleB l = true) : (∀ p, p ∈ l → 0 ≤ p ∧ p ≤ r.n - 1) ∧ (∀ p, p ∈ l → r.lastB p.toNat = true) ∧ l.Pairwise (· < ·) := by
  unfold RwD.sampleB at h
  rw [Bool.and_eq_true, Bool.and_eq_true, List.all_eq_true, List.all_eq_true] at h
  exact ⟨fun p hp => inB_iff.1 (h.1.1 p hp), h.1.2, rises_pair h.2⟩
theorem sample_mk {l : List Int} (h1 : ∀ p, p ∈ l → 0 ≤ p ∧ p ≤ r.n - 1) (h2 : ∀ p, p ∈ l → r.lastB p.toNat = true) (h3 : l.Pairwise (· < ·)) : r.sampleB l = true := by
  unfold RwD.sampleB
  rw [Bool.and_eq_true, Bool.and_eq_true, List.all_eq_true, List.all_eq_true]
  exact ⟨⟨fun p hp => inB_iff.2 (h1 p hp), h2⟩, pair_rises h3⟩
theorem sub_sample (hok : r.Ok) {l : List Int} (h : l.Sublist (r.tells ws)) : r.sampleB l = true := by
  have hd := hok.dug
  refine sample_mk (fun p hp => ?_) (fun p hp => ?_) (tells_rising.sublist h)
  · obtain ⟨q, rfl, h1, -⟩ := tells_nat (h.subset hp); omega
  · obtain ⟨q, rfl, h1, h2⟩ := tells_nat (h.subset hp)
    unfold RwD.tellB at h2
    rw [Bool.and_eq_true] at h2
    exact h2.1
/-- No sample that is enough has fewer plants than the best one. -/
theorem best_least (hok : r.Ok) (hw : ws.length = 10) (hk : 0 ≤ k) {l : List Int} (hs : r.sampleB l = true) (he : r.enoughD ws l k = true) : (r.bestD ws k).length ≤ l.length := by
  obtain ⟨h1, h2, h3⟩ := sample_at hs
  have hd := hok.dug
  have hn := hok.n1
  have hin : ∀ p, p ∈ l → 0 ≤ p ∧ p < 10 := fun p hp => by have := h1 p hp; omega
  have hfs : (l.filter fun p => r.tellB ws p.toNat).Sublist l := List.filter_sublist
  have hin2 : ∀ p, p ∈ (l.filter fun p => r.tellB ws p.toNat) → 0 ≤ p ∧ p < 10 := fun p hp => hin p (hfs.subset hp)
  refine Nat.le_trans ((best_is hok hw hk).2.2 (l.filter fun p => r.tellB ws p.toNat) ?_ ?_) hfs.length_le
  · refine sub_of_rising _ _ (h3.sublist hfs) tells_rising fun x hx => ?_
    obtain ⟨ha, hb⟩ := List.mem_filter.1 hx
    have := h1 x ha
    have h4 := mem_tells (r := r) (ws := ws) (q := x.toNat)
    rw [show ((x.toNat : Nat) : Int) = x by omega] at h4
    exact h4.2 ⟨by omega, hb⟩
  · refine enough_of hok (fun t hT ht => ?_) he
    obtain ⟨ha, hb⟩ := (poss_tested hw hin2 t).1 ht
    refine (poss_tested hw hin t).2 ⟨ha, fun q hq hm => ?_⟩
    cases htl : r.tellB ws q with
    | true => exact hb q hq (List.mem_filter.2 ⟨hm, htl⟩)
    | false =>
      have h5 := all_range.1 ha q hq
      unfold RwD.possAt at h5
      rw [Bool.and_eq_true] at h5
      exact no_tell hw (by omega) (h2 _ hm) htl h5.1
end
/-- A plant put into a rising list. -/
def insP (p : Int) : List Int → List Int
  | [] => [p]
  | x :: l => if p ≤ x then (if p < x then p :: x :: l else x :: l) else x :: insP p l
theorem mem_insP {p x : Int} : ∀ {l : List Int}, x ∈ insP p l ↔ x = p ∨ x ∈ l
  | [] => by simp [insP]
  | y :: l => by
    unfold insP
    split
    · split
      · simp
      · have : p = y := by omega
        subst this; simp
    · rw [List.mem_cons, mem_insP, List.mem_cons]
      exact ⟨fun h => h.elim (fun h => .inr (.inl h)) (fun h => h.elim .inl fun h => .inr (.inr h)), fun h => h.elim (fun h => .inr (.inl h)) fun h => h.elim .inl fun h => .inr (.inr h)⟩
theorem insP_rising {p : Int} : ∀ {l : List Int}, l.Pairwise (· < ·) → (insP p l).Pairwise (· < ·)
  | [], _ => by simp [insP]
  | y :: l, h => by
    have h2 := List.pairwise_cons.1 h
    unfold insP
    split
    · split
      · refine List.pairwise_cons.2 ⟨fun z hz => ?_, h⟩
        rcases List.mem_cons.1 hz with rfl | hz
        · assumption
        · have := h2.1 z hz; omega
      · exact h
    · refine List.pairwise_cons.2 ⟨fun z hz => ?_, insP_rising h2.2⟩
      rcases mem_insP.1 hz with rfl | hz
      · omega
      · exact h2.1 z hz
/-- One plant of the list looked at. -/
def widS (p : Int) (s : Bool × List Int) (x : Int) : Bool × List Int := if !s.1 && decide (p ≤ x) then (true, s.2 ++ (if p < x then [p] else []) ++ [x]) else (s.1, s.2 ++ [x])
def widK (p : Int) (d : Bool) (l : List Int) (k : Nat) : Bool × List Int := (l.take k).foldl (widS p) (d, [])
def widD (p : Int) (d : Bool) (l : List Int) : List Int := if (widK p d l l.length).1 then (widK p d l l.length).2 else (widK p d l l.length).2 ++ [p]
theorem widK_succ {p : Int} {d : Bool} {l : List Int} {k : Nat} {x : Int} (h : l[k]? = some x) : widK p d l (k + 1) = widS p (widK p d l k) x := by
  unfold widK; rw [List.take_add_one, h]; simp
theorem wid_fold (p : Int) : ∀ (l : List Int) (d : Bool) (acc : List Int), (if (l.foldl (widS p) (d, acc)).1 then (l.foldl (widS p) (d, acc)).2 else (l.foldl (widS p) (d, acc)).2 ++ [p]) = acc ++ (if d then l else insP p l)
  | [], d, acc => by cases d <;> simp [insP]
  | x :: l, d, acc => by
    rw [List.foldl_cons]
    cases d with
    | true =>
      rw [show widS p (true, acc) x = (true, acc ++ [x]) from rfl, wid_fold p l true]; simp
    | false =>
      by_cases h : p ≤ x
      · rw [show widS p (false, acc) x = (true, acc ++ (if p < x then [p] else []) ++ [x]) from by unfold widS; simp [h], wid_fold p l true, insP, if_pos h]
        by_cases h2 : p < x
        · simp [h2]
        · simp [h2]
      · rw [show widS p (false, acc) x = (false, acc ++ [x]) from by unfold widS; simp [h], wid_fold p l false, insP, if_neg h]; simp
theorem widD_eq (p : Int) (d : Bool) (l : List Int) : widD p d l = if d then l else insP p l := by
  unfold widD widK
  rw [List.take_length, wid_fold]; simp
theorem widK_length (p : Int) (d : Bool) (l : List Int) : ∀ k, (widK p d l k).2.length ≤ 2 * k
  | 0 => by simp [widK]
  | k + 1 => by
    have ih := widK_length p d l k
    cases h : l[k]? with
    | none =>
      have : widK p d l (k + 1) = widK p d l k := by unfold widK; rw [List.take_add_one, h]; simp
      rw [this]; omega
    | some x =>
      rw [widK_succ h]
      unfold widS
      split
      · simp only [List.length_append]
        split <;> simp <;> omega
      · simp; omega
end Go.Proofs.Ytebkhgficochoaa

/- ProveSample. -/
namespace Go.Proofs.Ytebkhgficochoaa
open Go.RowKit Go.Lib

/-- Is a list a sample of the row that is enough for the number? -/
def RwD.proveS (r : RwD) (number : Int) (l : List Int) : Bool := decide (r.err = 0) && r.askD number && r.sampleB l && r.enoughD r.wins l number
set_option maxRecDepth 100000 in
set_option maxHeartbeats 4000000 in
theorem ProveSample_no (r : RwM) (number : Int) (A : Option Addr) (n c : Nat) (w : World) (hr : r.At w w.heap.size) (he : r.d.err ≠ 0) :
    Calls Try.prog 32 #[.agg r.cells.toArray, .int .i64 number, .slice A n c] w fun e w' => e = .returned (.bool false) ∧ Below w.heap.size w w' := by
  have l0 : Lies (w.alloc (.cells r.cells.toArray 34)) w.heap.size 34 r.cells.toArray := Lies.fresh _ _ _
  have b0 : Below w.heap.size w (w.alloc (.cells r.cells.toArray 34)) := (by repeat (first | (with_reducible assumption) | (with_reducible exact Below.refl _ _) | (with_reducible refine Below.drew ?_) | (with_reducible refine below_drewN ?_ _) | ((with_reducible refine Below.setCell ?_ ?_ _); rotate_left; focus (first | (simp; done) | (simp; omega) | omega)) | ((with_reducible refine Below.alloc ?_ ?_ _); rotate_left; focus (first | (simp; done) | (simp; omega) | omega))))
  have hQ := lookAt_no r _ (hr.below b0 b0.size) he
  generalize r.d.err = err at *
  have hfb : (err == 0) = false := by simpa using he
  have L0 := Lib.hid l0
  have B0 := Lib.hid b0
  have HQ := Lib.hid hQ
  clear l0 b0 hQ he hr
  go_enter Try.func32, Try.ntmps32
  go_upto_region 1 with (fail)
  change Code.wp _ _ _ _ (w.alloc (.cells r.cells.toArray 34))
  generalize w.alloc (.cells r.cells.toArray 34) = w0 at *
  go_wp2_with (first
    | (refine wpList_load_row (o := ⟨some 11, _, _, _, _, _⟩) ?_ 34 (.tmp 3) ?_ w.heap.size ?_ 34 r.cells.toArray (0, 0) _ L0.out Try.underlying34 rfl size_row ?_; rfl; rfl; rfl)
    | (go_at_call 47; refine HQ.out.mono ?_; rintro e w5 ⟨rfl, hb5⟩)
    | (refine wpList_store_cells (o := ⟨none, .store 84 (.tmp 7) _, _, _, _, _⟩) ?_ 84 (.tmp 7) (.tmp 13) ?_ w5.heap.size 0 ?_ 84 zco zco ?_ ((Lies.fresh w5 84 zco.toArray).alloc _) (by simp) size_zco zco_one ?_; rfl; rfl; rfl; rfl; intro w6 HS6 HO6)
    | (refine wpList_store_ints (o := ⟨none, .store 86 (.tmp 8) _, _, _, _, _⟩) ?_ 86 (.tmp 8) (.tmp 14) ?_ (w5.heap.size + 1) 0 ?_ 86 (List.replicate 10 0) (List.replicate 10 0) ?_ (HO6.out.lies (Lies.fresh' (by simp)) (by omega)) (by simp) size_ztr ?_; rfl; rfl; rfl; rfl; intro w7 HS7 HO7))
  go_ret
  exact ⟨rfl, HO7.out.below (HO6.out.below (((B0.out.trans (hb5.mono B0.out.size)).alloc (B0.out.trans (hb5.mono B0.out.size)).size _).alloc (by have := (B0.out.trans (hb5.mono B0.out.size)).size; simp; omega) _) (B0.out.trans (hb5.mono B0.out.size)).size) (by have := (B0.out.trans (hb5.mono B0.out.size)).size; omega)⟩
set_option maxRecDepth 100000 in
set_option maxHeartbeats 8000000 in
theorem ProveSample_yes (r : RwM) (number : Int) (A : Option Addr) (c : Nat) (l : List Int) (w : World) (hr : r.At w w.heap.size) (hA : Sl w w.heap.size 1 encI A l) (hl : l.length ≤ 1000000) (he : r.d.err = 0) :
    Calls Try.prog 32 #[.agg r.cells.toArray, .int .i64 number, .slice A l.length c] w fun e w' => e = .returned (.bool (r.d.askD number && r.d.sampleB l && r.d.enoughD r.d.wins l number)) ∧ Below w.heap.size w w' := by
  obtain ⟨hf, hc⟩ := err_zero he
  obtain ⟨hok, hn, hd, hlw, hln⟩ := fault_ok hf
  have l0 : Lies (w.alloc (.cells r.cells.toArray 34)) w.heap.size 34 r.cells.toArray := Lies.fresh _ _ _
  have b0 : Below w.heap.size w (w.alloc (.cells r.cells.toArray 34)) := (by repeat (first | (with_reducible assumption) | (with_reducible exact Below.refl _ _) | (with_reducible refine Below.drew ?_) | (with_reducible refine below_drewN ?_ _) | ((with_reducible refine Below.setCell ?_ ?_ _); rotate_left; focus (first | (simp; done) | (simp; omega) | omega)) | ((with_reducible refine Below.alloc ?_ ?_ _); rotate_left; focus (first | (simp; done) | (simp; omega) | omega))))
  have hQ := lookAt_yes r _ (hr.below b0 b0.size) hf hc
  have hlen : r.d.earliest.length = 10 := earliest_ok.len
  have hCS := fun W => canBeSampled_any r number W hlw
  have hIS := fun W (hb : Below w.heap.size w W) => isSample_any r A c l W (hr.below hb hb.size) hok ((hA.below hb).more hb.size) hl
  have hIE := fun (hs : r.d.sampleB l = true) W (hb : Below w.heap.size w W) => isEnough_any r.co A c l number W r.d.wins_length (hr.below hb hb.size) hok ((hA.below hb).more hb.size) hl (fun p hp => by have h1 := (sample_at hs).1 p hp; have := hok.n1; omega)
  change ∀ (hs : r.d.sampleB l = true) W, Below w.heap.size w W → Calls Try.prog 61 #[.agg r.co.cells.toArray, .slice A l.length c, .int .i64 number] W (fun e w' => e = .returned (.bool (r.d.enoughD r.d.wins l number)) ∧ Below W.heap.size W w') at hIE
  have hszc : (Try.prog.info? 84).map (·.size) = some r.co.cells.length := by rw [CoM.len _ r.d.wins_length]; exact size_co
  have hszcA : (Try.prog.info? 84).map (·.size) = some r.co.cells.toArray.size := by simpa using hszc
  have hszt : (Try.prog.info? 86).map (·.size) = some r.d.earliest.length := by rw [hlen]; exact size_tr
  have hwc : r.co.cells.length = zco.length := by rw [CoM.len _ r.d.wins_length]; rfl
  have hwt : r.d.earliest.length = (List.replicate 10 (0 : Int)).length := by rw [hlen]; rfl
  generalize r.d.askD number = ya at *
  generalize r.d.enoughD r.d.wins l number = yn at *
  generalize r.d.sampleB l = ys at *
  have L0 := Lib.hid l0
  have B0 := Lib.hid b0
  have HQ := Lib.hid hQ
  have HCS := Lib.hid hCS
  have HIS := Lib.hid hIS
  have HIE := Lib.hid hIE
  have HSC := Lib.hid hszc
  have HSCA := Lib.hid hszcA
  have HST := Lib.hid hszt
  have HWT := Lib.hid hwt
  have HWC := Lib.hid hwc
  have HFC := Lib.hid (show 0 + r.co.cells.length ≤ zco.length by rw [hwc]; simp)
  have HFT := Lib.hid (show 0 + r.d.earliest.length ≤ (List.replicate 10 (0 : Int)).length by rw [hwt]; simp)
  have HONE := Lib.hid (show ∀ v ∈ r.co.cells, v.oneCell' = true from co_one r r.d.wins)
  clear l0 b0 hQ he hr hf hc hok hn hd hlw hln hlen hszc hszcA hszt hwc hwt hCS hIS hIE hA hl
  go_enter Try.func32, Try.ntmps32
  go_upto_region 1 with (fail)
  change Code.wp _ _ _ _ (w.alloc (.cells r.cells.toArray 34))
  generalize w.alloc (.cells r.cells.toArray 34) = w0 at *
  go_upto_region 2 with (first
    | (refine wpList_load_row (o := ⟨some 11, _, _, _, _, _⟩) ?_ 34 (.tmp 3) ?_ w.heap.size ?_ 34 r.cells.toArray (0, 0) _ L0.out Try.underlying34 rfl size_row ?_; rfl; rfl; rfl)
    | (go_at_call 47; refine HQ.out.mono ?_; rintro e w5 ⟨rfl, hb5⟩)
    | (refine wpList_store_cells (o := ⟨none, .store 84 (.tmp 7) _, _, _, _, _⟩) ?_ 84 (.tmp 7) (.tmp 13) ?_ w5.heap.size 0 ?_ 84 zco r.co.cells ?_ ((Lies.fresh w5 84 zco.toArray).alloc _) HFC.out HSC.out HONE.out ?_; rfl; rfl; rfl; rfl; intro w6 HS6 HO6)
    | (refine wpList_store_ints (o := ⟨none, .store 86 (.tmp 8) _, _, _, _, _⟩) ?_ 86 (.tmp 8) (.tmp 14) ?_ (w5.heap.size + 1) 0 ?_ 86 (List.replicate 10 0) r.d.earliest ?_ (HO6.out.lies (Lies.fresh' (by simp)) (by omega)) HFT.out HST.out ?_; rfl; rfl; rfl; rfl; intro w7 HS7 HO7; (try simp only [Act.put])))
  have hb7 : Below w.heap.size w w7 := HO7.out.below (HO6.out.below (((B0.out.trans (hb5.mono B0.out.size)).alloc (B0.out.trans (hb5.mono B0.out.size)).size _).alloc (by have := (B0.out.trans (hb5.mono B0.out.size)).size; simp; omega) _) (B0.out.trans (hb5.mono B0.out.size)).size) (by have := (B0.out.trans (hb5.mono B0.out.size)).size; omega)
  have hs6 := HS6.out
  rw [splice_whole HWC.out] at hs6
  have hw5 : w.heap.size < w5.heap.size := Nat.lt_of_lt_of_le L0.out.in_ hb5.size
  have C7 := Lib.hid (HO7.out.lies hs6 (by omega))
  have R7 := Lib.hid (HO7.out.lies (HO6.out.lies (((L0.out.call hb5).alloc _).alloc _) (by omega)) (by omega))
  have B7 := Lib.hid hb7
  generalize w5.heap.size = g5 at *
  clear hs6 hb7 HS7 HO7 HS6 HO6 hb5 HQ L0 B0
  cases ya
  · go_wp2_with (first
      | (refine wpList_load_rowG (o := ⟨some 19, _, _, _, _, _⟩) ?_ 34 (.tmp 3) ?_ w.heap.size ?_ 34 r.cells.toArray (0, 0) _ R7.out Try.underlying34 rfl size_row ?_; kernel_rfl; rfl; rfl)
      | (go_at_call 58; refine (HCS.out _).mono ?_; rintro e w8 ⟨rfl, hb8⟩))
    go_ret
    exact ⟨rfl, B7.out.trans (hb8.mono B7.out.size)⟩
  · cases ys
    · go_wp2_with (first
        | ((fail_if_success (have hxx := B8)); refine wpList_load_rowG (o := ⟨some 19, _, _, _, _, _⟩) ?_ 34 (.tmp 3) ?_ w.heap.size ?_ 34 r.cells.toArray (0, 0) _ R7.out Try.underlying34 rfl size_row ?_; kernel_rfl; rfl; rfl)
        | (go_at_call 58; refine (HCS.out _).mono ?_; rintro e w8 ⟨rfl, hb8⟩; have B8 := Lib.hid (B7.out.trans (hb8.mono B7.out.size)); have R8 := Lib.hid (R7.out.call hb8))
        | (refine wpList_load_rowG (o := ⟨some 24, _, _, _, _, _⟩) ?_ 34 (.tmp 3) ?_ w.heap.size ?_ 34 r.cells.toArray (0, 0) _ R8.out Try.underlying34 rfl size_row ?_; kernel_rfl; rfl; rfl)
        | (go_at_call 60; refine (HIS.out _ B8.out).mono ?_; rintro e w9 ⟨rfl, hb9⟩))
      go_ret
      exact ⟨rfl, B8.out.trans (hb9.mono B8.out.size)⟩
    · go_wp2_with (first
        | ((fail_if_success (have hxx := B8)); refine wpList_load_rowG (o := ⟨some 19, _, _, _, _, _⟩) ?_ 34 (.tmp 3) ?_ w.heap.size ?_ 34 r.cells.toArray (0, 0) _ R7.out Try.underlying34 rfl size_row ?_; kernel_rfl; rfl; rfl)
        | (go_at_call 58; refine (HCS.out _).mono ?_; rintro e w8 ⟨rfl, hb8⟩; have B8 := Lib.hid (B7.out.trans (hb8.mono B7.out.size)); have R8 := Lib.hid (R7.out.call hb8); have C8 := Lib.hid (C7.out.call hb8))
        | ((fail_if_success (have hxx := B9)); refine wpList_load_rowG (o := ⟨some 24, _, _, _, _, _⟩) ?_ 34 (.tmp 3) ?_ w.heap.size ?_ 34 r.cells.toArray (0, 0) _ R8.out Try.underlying34 rfl size_row ?_; kernel_rfl; rfl; rfl)
        | (go_at_call 60; refine (HIS.out _ B8.out).mono ?_; rintro e w9 ⟨rfl, hb9⟩; have B9 := Lib.hid (B8.out.trans (hb9.mono B8.out.size)); have C9 := Lib.hid (C8.out.call hb9))
        | (refine wpList_load_rowG (o := ⟨some 29, _, _, _, _, _⟩) ?_ 84 (.tmp 7) ?_ g5 ?_ 84 r.co.cells.toArray (0, 0) _ C9.out Try.underlying84 rfl HSCA.out ?_; kernel_rfl; rfl; rfl)
        | (go_at_call 61; refine (HIE.out (by simp) _ B9.out).mono ?_; rintro e wa ⟨rfl, hba⟩))
      go_ret
      exact ⟨rfl, B9.out.trans (hba.mono B9.out.size)⟩
theorem ProveSample_any (r : RwM) (number : Int) (A : Option Addr) (c : Nat) (l : List Int) (w : World) (hr : r.At w w.heap.size) (hA : Sl w w.heap.size 1 encI A l) (hl : l.length ≤ 1000000) :
    Calls Try.prog 32 #[.agg r.cells.toArray, .int .i64 number, .slice A l.length c] w fun e w' => e = .returned (.bool (r.d.proveS number l)) ∧ Below w.heap.size w w' := by
  unfold RwD.proveS
  by_cases he : r.d.err = 0
  · have := ProveSample_yes r number A c l w hr hA hl he
    rw [decide_eq_true he, Bool.true_and]; exact this
  · have := ProveSample_no r number A l.length c w hr he
    rw [decide_eq_false he, Bool.false_and, Bool.false_and, Bool.false_and]; exact this
end Go.Proofs.Ytebkhgficochoaa
