/- The texts BA BB BD BN BE BC BK BL BO, joined. -/
import Derived.Test.YtlkdmcdnkoiflaaGF
import Derived.Test.YtlkdmcdnkoiflaaGH
import Derived.Test.YtlkdmcdnkoiflaaGD
import Derived.WideKeyPair
import Derived.Maps.Own
/- Crates: what is offered; checkOffer. -/
namespace Go.Proofs.Ytlkdmcdnkoiflaa
open Go.RowKit Go.Lib

/-- Are crates as they must be, for so many sizes? -/
def Cr.okB (n : Nat) (c : Cr) : Bool := inB c.size 0 ((n : Int) - 1) && inB c.bulbs 1 1000000 && inB c.price 0 1000000 && inB c.most 0 9
theorem Cr.ok_iff {n : Nat} {c : Cr} : c.okB n = true ↔ (0 ≤ c.size ∧ c.size ≤ (n : Int) - 1) ∧ (1 ≤ c.bulbs ∧ c.bulbs ≤ 1000000) ∧ (0 ≤ c.price ∧ c.price ≤ 1000000) ∧ 0 ≤ c.most ∧ c.most ≤ 9 := by
  unfold Cr.okB
  simp only [Bool.and_eq_true, inB_iff, and_assoc]
/-- The error of crates. -/
def offB (n : Nat) (l : List Cr) : Int := if 4 < l.length then 3 else if l.all (Cr.okB n) then 0 else 1
theorem offB_zero {n : Nat} {l : List Cr} (h : offB n l = 0) : l.length ≤ 4 ∧ ∀ c, c ∈ l → c.okB n = true := by
  unfold offB at h
  split at h
  · cases h
  · split at h
    · rename_i h1 h2
      exact ⟨by omega, fun c hc => List.all_eq_true.1 h2 c hc⟩
    · cases h
set_option maxRecDepth 100000 in
set_option maxHeartbeats 1000000 in
theorem isOffered_any (p : PlM) (c : Cr) (w : World) (hl : p.s.l.length ≤ 1000000) :
    Calls Try.prog 111 #[.agg p.cells.toArray, .agg (encCr c).toArray] w fun e w' => e = .returned (.bool (c.okB p.s.l.length)) ∧ Below w.heap.size w w' := by
  have l0 : Lies ((w.alloc (.cells p.cells.toArray 41)).alloc (.cells (encCr c).toArray 93)) w.heap.size 41 p.cells.toArray := (Lies.fresh _ _ _).alloc _
  have l1 : Lies ((w.alloc (.cells p.cells.toArray 41)).alloc (.cells (encCr c).toArray 93)) (w.heap.size + 1) 93 (encCr c).toArray := Lies.fresh' (by simp)
  have b0 : Below w.heap.size w ((w.alloc (.cells p.cells.toArray 41)).alloc (.cells (encCr c).toArray 93)) := (by repeat (first | (with_reducible assumption) | (with_reducible exact Below.refl _ _) | (with_reducible refine Below.drew ?_) | (with_reducible refine below_drewN ?_ _) | ((with_reducible refine Below.setCell ?_ ?_ _); rotate_left; focus (first | (simp; done) | (simp; omega) | omega)) | ((with_reducible refine Below.alloc ?_ ?_ _); rotate_left; focus (first | (simp; done) | (simp; omega) | omega))))
  have q0 : ∀ W, Calls Try.prog 106 #[.agg p.cells.toArray, .int .i64 c.size] W fun e w' => e = .returned (.bool (inB c.size 0 ((p.s.l.length : Int) - 1))) ∧ Below W.heap.size W w' := fun W => hasSize_any p c.size W hl
  have q1 : ∀ W, Calls Try.prog 94 #[.int .i64 c.bulbs, .int .i64 1, .int .i64 1000000] W fun e w' => e = .returned (.bool (inB c.bulbs 1 1000000)) ∧ W = w' := fun W => within_any _ _ _ W
  have q2 : ∀ W, Calls Try.prog 94 #[.int .i64 c.price, .int .i64 0, .int .i64 1000000] W fun e w' => e = .returned (.bool (inB c.price 0 1000000)) ∧ W = w' := fun W => within_any _ _ _ W
  have q3 : ∀ W, Calls Try.prog 94 #[.int .i64 c.most, .int .i64 0, .int .i64 9] W fun e w' => e = .returned (.bool (inB c.most 0 9)) ∧ W = w' := fun W => within_any _ _ _ W
  have hr : c.okB p.s.l.length = (inB c.size 0 ((p.s.l.length : Int) - 1) && inB c.bulbs 1 1000000 && inB c.price 0 1000000 && inB c.most 0 9) := rfl
  generalize inB c.size 0 ((p.s.l.length : Int) - 1) = y0 at *
  generalize inB c.bulbs 1 1000000 = y1 at *
  generalize inB c.price 0 1000000 = y2 at *
  generalize inB c.most 0 9 = y3 at *
  generalize c.okB p.s.l.length = r at *
  have HR := Lib.hid hr
  have L0 := Lib.hid l0
  have L1 := Lib.hid l1
  have B0 := Lib.hid b0
  have Q0 := Lib.hid q0
  have Q1 := Lib.hid q1
  have Q2 := Lib.hid q2
  have Q3 := Lib.hid q3
  clear l0 l1 b0 q0 q1 q2 q3 hr
  unfold PlM.cells at Q0 ⊢
  unfold encCr
  go_enter Try.func111, Try.ntmps111
  cases y0 <;> cases y1 <;> cases y2 <;> cases y3
  all_goals
    go_wp2_with (first
      | (refine wpList_load_row (o := ⟨some 5, _, _, _, _, _⟩) ?_ 41 (.tmp 2) ?_ w.heap.size ?_ 41 p.cells.toArray (0, 0) _ L0.out Try.underlying41 rfl size41 ?_; rfl; rfl; rfl)
      | (go_at_call 106; refine (Q0.out _).mono ?_; rintro e w1 ⟨rfl, hb1⟩; have d1 : w1.cell? ⟨w.heap.size + 1, 1, none⟩ = some (.int .i64 c.bulbs) := (L1.out.call hb1).at_ 1; have d2 : w1.cell? ⟨w.heap.size + 1, 2, none⟩ = some (.int .i64 c.price) := (L1.out.call hb1).at_ 2; have d3 : w1.cell? ⟨w.heap.size + 1, 3, none⟩ = some (.int .i64 c.most) := (L1.out.call hb1).at_ 3)
      | (go_at_call_of 94 (Value.int .i64 c.bulbs); refine (Q1.out _).mono ?_; rintro e w' ⟨rfl, rfl⟩)
      | (go_at_call_of 94 (Value.int .i64 c.price); refine (Q2.out _).mono ?_; rintro e w' ⟨rfl, rfl⟩)
      | (go_at_call_of 94 (Value.int .i64 c.most); refine (Q3.out _).mono ?_; rintro e w' ⟨rfl, rfl⟩))
    go_ret
    exact ⟨ret_bool (by rw [HR.out]; rfl), B0.out.trans (hb1.mono B0.out.size)⟩
theorem ask_isOffered (p : PlM) (hl : p.s.l.length ≤ 1000000) (w : World) (D : Cr → Prop) : Ask Try.prog (fun x : Cr => .agg (encCr x).toArray) 111 #[.agg p.cells.toArray] #[] (Cr.okB p.s.l.length) D w :=
  ⟨enters_of Try.func111 (by kernel_rfl) rfl, fun W x _ _ => isOffered_any p x W hl⟩
/-- The error of an offer. -/
def offL (p : PlM) (l : List Cr) (size number : Int) : Int := if p.fault ≠ 0 then p.fault else if offB p.s.l.length l ≠ 0 then offB p.s.l.length l else askedL p number [size]
theorem offL_zero {p : PlM} {l : List Cr} {size number : Int} (h : offL p l size number = 0) : p.fault = 0 ∧ offB p.s.l.length l = 0 ∧ askedL p number [size] = 0 := by
  unfold offL at h
  by_cases h1 : p.fault = 0
  · rw [if_neg (by simpa using h1)] at h
    by_cases h2 : offB p.s.l.length l = 0
    · rw [if_neg (by simpa using h2)] at h
      exact ⟨h1, h2, h⟩
    · rw [if_pos h2] at h; exact absurd h h2
  · rw [if_pos h1] at h; exact absurd h h1
set_option maxRecDepth 100000 in
set_option maxHeartbeats 2000000 in
theorem checkOffer_any (p : PlM) (A : Option Addr) (c : Nat) (l : List Cr) (size number : Int) (w : World) (hp : p.At w w.heap.size) (hA : Sl w w.heap.size 4 encCr A l) (hl : l.length ≤ 1000000) :
    Calls Try.prog 79 #[.agg p.cells.toArray, .slice A l.length c, .int .i64 size, .int .i64 number] w fun e w' => e = .returned (.int .i64 (offL p l size number)) ∧ Below w.heap.size w w' := by
  have hls := hp.ls
  have l0 : Lies (w.alloc (.cells p.cells.toArray 41)) w.heap.size 41 p.cells.toArray := Lies.fresh _ _ _
  have b0 : Below w.heap.size w (w.alloc (.cells p.cells.toArray 41)) := (Below.refl _ _).alloc (Nat.le_refl _) _
  have qc := CheckPlan_any p _ (hp.below b0 b0.size)
  have qe : ∀ W, Below w.heap.size w W → Calls Try.prog 110 #[.slice A l.length c, .func (.func 111) #[.agg p.cells.toArray] #[]] W fun e w' => e = .returned (.bool (l.all (Cr.okB p.s.l.length))) ∧ Below W.heap.size W w' := fun W hb =>
    everyCrate_any _ _ _ _ A c l W ((hA.below hb).more hb.size) (ask_isOffered p hls W _) hl
  have qa : ∀ (g : Nat) W, Below w.heap.size w W → Sl W W.heap.size 1 (fun x => [Value.int .i64 x]) (some ⟨g, 0, none⟩) [size] → Calls Try.prog 69 #[.agg p.cells.toArray, .int .i64 number, .slice (some ⟨g, 0, none⟩) 1 1] W fun e w' => e = .returned (.int .i64 (askedL p number [size])) ∧ Below W.heap.size W w' := fun g W hb hs =>
    checkAsked_any p number (some ⟨g, 0, none⟩) 1 [size] W (hp.below hb hb.size) hs (by simp)
  have hr : offL p l size number = if p.fault ≠ 0 then p.fault else if 4 < l.length then 3 else if l.all (Cr.okB p.s.l.length) then askedL p number [size] else 1 := by
    unfold offL offB
    by_cases h1 : p.fault ≠ 0
    · rw [if_pos h1, if_pos h1]
    · rw [if_neg h1, if_neg h1]
      by_cases h2 : 4 < l.length
      · rw [if_pos h2, if_pos h2, if_pos (by decide)]
      · rw [if_neg h2, if_neg h2]
        cases l.all (Cr.okB p.s.l.length) <;> simp
  have HR := Lib.hid hr
  have L0 := Lib.hid l0
  have B0 := Lib.hid b0
  have QC := Lib.hid qc
  have QE := Lib.hid qe
  have QA := Lib.hid qa
  have hlz : (l.length : Int) ≤ 1000000 := by omega
  clear l0 b0 qc qe qa hr hp hA hls
  generalize l.all (Cr.okB p.s.l.length) = ya at *
  generalize askedL p number [size] = ak at *
  generalize offL p l size number = r at *
  generalize p.fault = ft at *
  unfold PlM.cells at QC QE QA ⊢
  by_cases h1 : ft = 0
  case neg =>
    have hA1 : (ft != 0) = true := by simpa using h1
    have hq : r = ft := by rw [HR.out, if_pos h1]
    subst hq
    clear HR h1
    go_enter Try.func79, Try.ntmps79
    go_wp2_with (first
      | (refine wpList_load_row (o := ⟨some 10, _, _, _, _, _⟩) ?_ 41 (.tmp 4) ?_ w.heap.size ?_ 41 p.cells.toArray (0, 0) _ L0.out Try.underlying41 rfl size41 ?_; rfl; rfl; rfl)
      | (go_at_call 20; refine QC.out.mono ?_; rintro e w1 ⟨rfl, hb1⟩))
    go_ret
    exact ⟨rfl, B0.out.trans (hb1.mono B0.out.size)⟩
  subst h1
  by_cases h4 : 4 < l.length
  case pos =>
    have h4z : (4 : Int) < (l.length : Int) := by omega
    have hq : r = 3 := by rw [HR.out, if_neg (by simp), if_pos h4]
    subst hq
    clear HR
    go_enter Try.func79, Try.ntmps79
    go_wp2_with (first
      | (refine wpList_load_row (o := ⟨some 10, _, _, _, _, _⟩) ?_ 41 (.tmp 4) ?_ w.heap.size ?_ 41 p.cells.toArray (0, 0) _ L0.out Try.underlying41 rfl size41 ?_; rfl; rfl; rfl)
      | (go_at_call 20; refine QC.out.mono ?_; rintro e w1 ⟨rfl, hb1⟩))
    go_ret
    exact ⟨rfl, B0.out.trans (hb1.mono B0.out.size)⟩
  have h4z : (l.length : Int) ≤ 4 := by omega
  have hq : r = if ya then ak else 1 := by rw [HR.out, if_neg (by simp), if_neg h4]
  clear HR h4
  cases ya
  all_goals
    subst hq
    go_enter Try.func79, Try.ntmps79
    go_wp2_with (first
      | (refine wpList_load_row (o := ⟨some 10, _, _, _, _, _⟩) ?_ 41 (.tmp 4) ?_ w.heap.size ?_ 41 p.cells.toArray (0, 0) _ L0.out Try.underlying41 rfl size41 ?_; rfl; rfl; rfl)
      | (refine wpList_load_row (o := ⟨some 19, _, _, _, _, _⟩) ?_ 41 (.tmp 4) ?_ w.heap.size ?_ 41 p.cells.toArray (0, 0) _ L1.out Try.underlying41 rfl size41 ?_; rfl; rfl; rfl)
      | (refine wpList_load_row (o := ⟨some 23, _, _, _, _, _⟩) ?_ 41 (.tmp 4) ?_ w.heap.size ?_ 41 p.cells.toArray (0, 0) _ L2.out Try.underlying41 rfl size41 ?_; rfl; rfl; rfl)
      | (go_at_call 20; refine QC.out.mono ?_; rintro e w1 ⟨rfl, hb1⟩; have L1 := Lib.hid (L0.out.call hb1); have B1 := Lib.hid (B0.out.trans (hb1.mono B0.out.size)))
      | (go_at_call 110; refine (QE.out _ B1.out).mono ?_; rintro e w2 ⟨rfl, hb2⟩; have L2 := Lib.hid (L1.out.call hb2); have B2 := Lib.hid (B1.out.trans (hb2.mono B1.out.size)))
      | (go_at_call 69; refine (QA.out _ _ (B2.out.alloc B2.out.size _) ?_).mono ?_; exact sl_of_lies (enc := encI) (fun _ => rfl) (Lies.fresh' (by simp)); rintro e w3 ⟨rfl, hb3⟩))
  · go_ret
    exact ⟨rfl, B2.out⟩
  · go_ret
    exact ⟨rfl, (B2.out.alloc B2.out.size _).trans (hb3.mono (B2.out.alloc B2.out.size _).size)⟩
end Go.Proofs.Ytlkdmcdnkoiflaa

/- Crates: costOf, Price, IsPurchase, CratesFault, the law's Crates. -/
namespace Go.Proofs.Ytlkdmcdnkoiflaa
open Go.RowKit Go.Lib

theorem at_getD {α : Type} {l : List α} {i : Nat} {x d : α} (h : l[i]? = some x) : l.getD i d = x := by simp [List.getD, h]
/-- What the first k kinds of a purchase cost. -/
def costP (l : List Cr) (q : List Int) : Nat → Int
  | 0 => 0
  | k + 1 => costP l q k + (l.getD k default).price * q.getD k 0
/-- A purchase of crates that may be offered. -/
structure PurF (l : List Cr) (q : List Int) : Prop where
  len : q.length = l.length
  four : l.length ≤ 4
  b : ∀ (k : Nat) (c : Cr) (x : Int), l[k]? = some c → q[k]? = some x → (0 ≤ c.price ∧ c.price ≤ 1000000) ∧ (1 ≤ c.bulbs ∧ c.bulbs ≤ 1000000) ∧ 0 ≤ x ∧ x ≤ 9
theorem cost_step {l : List Cr} {q : List Int} {k : Nat} {c : Cr} {x : Int} (hc : l[k]? = some c) (hx : q[k]? = some x) : costP l q (k + 1) = costP l q k + c.price * x := by
  rw [costP, at_getD hc, at_getD hx]
theorem prod_bd {a x m n : Int} (ha : 0 ≤ a ∧ a ≤ m) (hx : 0 ≤ x ∧ x ≤ n) : 0 ≤ a * x ∧ a * x ≤ m * n :=
  ⟨Int.mul_nonneg ha.1 hx.1, Int.mul_le_mul ha.2 hx.2 hx.1 (by omega)⟩
theorem cost_bd {l : List Cr} {q : List Int} (h : PurF l q) : ∀ k : Nat, k ≤ l.length → 0 ≤ costP l q k ∧ costP l q k ≤ 9000000 * (k : Int)
  | 0, _ => by simp [costP]
  | k + 1, hk => by
    have ih := cost_bd h k (by omega)
    obtain ⟨c, hc⟩ : ∃ c, l[k]? = some c := ⟨l[k], by simp⟩
    obtain ⟨x, hx⟩ : ∃ x, q[k]? = some x := ⟨q[k]'(by rw [h.len]; omega), by simp⟩
    have hb := h.b k c x hc hx
    have := prod_bd hb.1 hb.2.2
    rw [cost_step hc hx]
    push_cast
    omega
section
set_option maxRecDepth 100000
set_option maxHeartbeats 1000000
theorem costOf_any (A A' : Option Addr) (c c' : Nat) (l : List Cr) (q : List Int) (w : World) (hA : Sl w w.heap.size 4 encCr A l) (hA' : Sl w w.heap.size 1 encI A' q) (hf : PurF l q) :
    Calls Try.prog 115 #[.slice A l.length c, .slice A' q.length c'] w fun e w' => e = .returned (.int .i64 (costP l q l.length)) ∧ Below w.heap.size w w' := by
  have hl4 : (l.length : Int) ≤ 4 := by have := hf.four; omega
  have hql : (q.length : Int) = (l.length : Int) := by have := hf.len; omega
  have HA := Lib.hid hA
  have HA' := Lib.hid hA'
  have HF := Lib.hid hf
  clear hA hA' hf
  have HQL := Lib.hid hql
  clear hql
  go_enter Try.func115, Try.ntmps115
  go_wp2
  go_loopw [5, 6, 7, 10] (fun v _ _ i wr => ∃ k : Nat, k ≤ l.length ∧ i = .int .i64 k ∧ v = .int .i64 (costP l q k) ∧ Aside (Below w.heap.size w wr)) (fun _ _ _ i _ => l.length - (intOf i).toNat)
  case atStart => exact ⟨0, by omega, rfl, rfl, Below.refl _ _⟩
  case round =>
    obtain ⟨k, hk, rfl, rfl, hb⟩ := hrel
    have HB := Lib.hid hb.out
    clear hb
    by_cases hlt : k < l.length
    · have hltz : (k : Int) < (l.length : Int) := by omega
      have hk0 : (0 : Int) ≤ (k : Int) := by omega
      have hkq : (k : Int) < (q.length : Int) := by have := HQL.out; omega
      obtain ⟨x, hx⟩ : ∃ x, l[k]? = some x := ⟨l[k], by simp [hlt]⟩
      obtain ⟨y, hy⟩ : ∃ y, q[k]? = some y := ⟨q[k]'(by omega), by simp⟩
      obtain ⟨b, off, rfl, hb1, c0, c1, c2, c3⟩ := HA.out.cellCr hx
      obtain ⟨b', off', rfl, hb2, d0⟩ := HA'.out.cell1 hy
      have l2 : wr.cell? ⟨b, off + k * 4, none⟩ = some (.int .i64 x.size) := by rw [HB.out.cell (p := ⟨b, off + k * 4, none⟩) hb1]; exact c0
      have l3 : wr.cell? ⟨b, off + k * 4 + 1, none⟩ = some (.int .i64 x.bulbs) := by rw [HB.out.cell (p := ⟨b, off + k * 4 + 1, none⟩) hb1]; exact c1
      have l4 : wr.cell? ⟨b, off + k * 4 + 2, none⟩ = some (.int .i64 x.price) := by rw [HB.out.cell (p := ⟨b, off + k * 4 + 2, none⟩) hb1]; exact c2
      have l5 : wr.cell? ⟨b, off + k * 4 + 3, none⟩ = some (.int .i64 x.most) := by rw [HB.out.cell (p := ⟨b, off + k * 4 + 3, none⟩) hb1]; exact c3
      have m2 : wr.cell? ⟨b', off' + k, none⟩ = some (.int .i64 y) := by rw [HB.out.cell (p := ⟨b', off' + k, none⟩) hb2]; exact d0
      have hbr : b' < wr.heap.size := by have := HB.out.size; omega
      have hfb := HF.out.b k x y hx hy
      have hm := prod_bd hfb.1 hfb.2.2
      have hm0 := hm.1
      have hm1 : x.price * y ≤ 9000000 := by have := hm.2; omega
      have hcb := cost_bd HF.out k (by omega)
      have hc0 := hcb.1
      have hc1 : costP l q k ≤ 36000000 := by have := hcb.2; omega
      have HS := Lib.hid (cost_step hx hy)
      clear c0 c1 c2 c3 d0 hx hy hfb hm hcb
      generalize costP l q k = ck at *
      generalize hmd : x.price * y = m at *
      have hmw : IntKind.i64.wrap (x.price * y) = m := by rw [hmd]; exact IntWalk.i64_in (by omega) (by omega)
      go_wp2
      have r2 := cell_regrown (show (wr.alloc (.cells #[.int .i64 x.size, .int .i64 x.bulbs, .int .i64 x.price, .int .i64 x.most] 93)).cell? ⟨wr.heap.size, 2, none⟩ = some (.int .i64 x.price) by simp [World.cell?_alloc_new])
      have s2 := cell_regrown (show (wr.alloc (.cells #[.int .i64 x.size, .int .i64 x.bulbs, .int .i64 x.price, .int .i64 x.most] 93)).cell? ⟨b', off' + k, none⟩ = some (.int .i64 y) by rw [World.cell?_alloc_lt wr _ ⟨b', off' + k, none⟩ hbr]; exact m2)
      refine wp_region_quiet_below (by kernel_rfl) (by kernel_rfl) ?_; (repeat (first | go_big_quiet_step ((fail)) | quiet_step ((fail)))); refine wpQuiet_nil ?_; intro wq hwq; have hbq : Below _ _ wq := (by obtain ⟨p, rfl⟩ := hwq; exact below_regrown _ _ _); clear hwq
      clear r2 s2
      go_wp2
      go_roundw
      case rel =>
        have hsz := HB.out.alloc HB.out.size (.cells #[.int .i64 x.size, .int .i64 x.bulbs, .int .i64 x.price, .int .i64 x.most] 93)
        exact ⟨k + 1, by omega, by go_num, by rw [HS.out], hsz.trans (hbq.mono hsz.size)⟩
      case measure => simp [intOf]; omega
    · obtain rfl : k = l.length := by omega
      go_wp2
      go_ret
      exact ⟨rfl, HB.out⟩
theorem Price_any (A A' : Option Addr) (c c' : Nat) (l : List Cr) (q : List Int) (w : World) (hA : Sl w w.heap.size 4 encCr A l) (hA' : Sl w w.heap.size 1 encI A' q) (hf : PurF l q) :
    Calls Try.prog 47 #[.slice A l.length c, .slice A' q.length c'] w fun e w' => e = .returned (.int .i64 (costP l q l.length)) ∧ Below w.heap.size w w' := by
  have hl4 : (l.length : Int) ≤ 4 := by have := hf.four; omega
  have hql : (q.length : Int) = (l.length : Int) := by have := hf.len; omega
  have HA := Lib.hid hA
  have HA' := Lib.hid hA'
  have HF := Lib.hid hf
  clear hA hA' hf
  have HQL := Lib.hid hql
  clear hql
  go_enter Try.func47, Try.ntmps47
  go_wp2
  go_loopw [5, 6] (fun v i wr => ∃ k : Nat, k ≤ l.length ∧ i = .int .i64 k ∧ v = .int .i64 (costP l q k) ∧ Aside (Below w.heap.size w wr)) (fun _ i _ => l.length - (intOf i).toNat)
  case atStart => exact ⟨0, by omega, rfl, rfl, Below.refl _ _⟩
  case round =>
    obtain ⟨k, hk, rfl, rfl, hb⟩ := hrel
    have HB := Lib.hid hb.out
    clear hb
    by_cases hlt : k < l.length
    · have hltz : (k : Int) < (l.length : Int) := by omega
      have hk0 : (0 : Int) ≤ (k : Int) := by omega
      have hkq : (k : Int) < (q.length : Int) := by have := HQL.out; omega
      obtain ⟨x, hx⟩ : ∃ x, l[k]? = some x := ⟨l[k], by simp [hlt]⟩
      obtain ⟨y, hy⟩ : ∃ y, q[k]? = some y := ⟨q[k]'(by omega), by simp⟩
      obtain ⟨b, off, rfl, hb1, c0, c1, c2, c3⟩ := HA.out.cellCr hx
      obtain ⟨b', off', rfl, hb2, d0⟩ := HA'.out.cell1 hy
      have r2 := cell_regrown (show wr.cell? ⟨b, off + k * 4 + 2, none⟩ = some (.int .i64 x.price) by rw [HB.out.cell (p := ⟨b, off + k * 4 + 2, none⟩) hb1]; exact c2)
      have s2 := cell_regrown (show wr.cell? ⟨b', off' + k, none⟩ = some (.int .i64 y) by rw [HB.out.cell (p := ⟨b', off' + k, none⟩) hb2]; exact d0)
      have hfb := HF.out.b k x y hx hy
      have hm := prod_bd hfb.1 hfb.2.2
      have hm0 := hm.1
      have hm1 : x.price * y ≤ 9000000 := by have := hm.2; omega
      have hcb := cost_bd HF.out k (by omega)
      have hc0 := hcb.1
      have hc1 : costP l q k ≤ 36000000 := by have := hcb.2; omega
      have HS := Lib.hid (cost_step hx hy)
      clear c0 c1 c2 c3 d0 hx hy hfb hm hcb hb1 hb2
      generalize costP l q k = ck at *
      generalize hmd : x.price * y = m at *
      have hmw : IntKind.i64.wrap (x.price * y) = m := by rw [hmd]; exact IntWalk.i64_in (by omega) (by omega)
      go_wp2
      refine wp_region_quiet_below (by kernel_rfl) (by kernel_rfl) ?_; (repeat (first | go_big_quiet_step ((fail)) | quiet_step ((fail)))); refine wpQuiet_nil ?_; intro wq hwq; have hbq : Below _ _ wq := (by obtain ⟨p, rfl⟩ := hwq; exact below_regrown _ _ _); clear hwq
      clear r2 s2
      go_wp2
      go_roundw
      case rel => exact ⟨k + 1, by omega, by go_num, by rw [HS.out], HB.out.trans (hbq.mono HB.out.size)⟩
      case measure => simp [intOf]; omega
    · obtain rfl : k = l.length := by omega
      go_wp2
      go_ret
      exact ⟨rfl, HB.out⟩
theorem IsPurchase_any (A A' : Option Addr) (c c' : Nat) (l : List Cr) (q : List Int) (w : World) (hA : Sl w w.heap.size 4 encCr A l) (hA' : Sl w w.heap.size 1 encI A' q) (hl : l.length ≤ 1000000) (hq : q.length ≤ 1000000) :
    Calls Try.prog 43 #[.slice A l.length c, .slice A' q.length c'] w fun e w' => e = .returned (.bool (pairedB l q fun c m => inB m 0 c.most)) ∧ Below w.heap.size w w' := by
  have hlz : (l.length : Int) ≤ 1000000 := by omega
  have hqz : (q.length : Int) ≤ 1000000 := by omega
  have HA := Lib.hid hA
  have HA' := Lib.hid hA'
  clear hA hA'
  by_cases hn : l.length = q.length
  case neg =>
    have hb : ((q.length : Int) != (l.length : Int)) = true := by simp; omega
    have HN := Lib.hid hn
    clear hn
    go_enter Try.func43, Try.ntmps43
    go_wp2
    go_ret
    exact ⟨ret_bool (paired_ne HN.out).symm, Below.refl _ _⟩
  have hb : ((q.length : Int) != (l.length : Int)) = false := by simp; omega
  have HN := Lib.hid hn
  clear hn
  go_enter Try.func43, Try.ntmps43
  go_wp2
  clear hb
  go_loopw [5] (fun i wr => ∃ k : Nat, k ≤ l.length ∧ i = .int .i64 k ∧ Aside (∀ j x y, j < k → l[j]? = some x → q[j]? = some y → inB y 0 x.most = true) ∧ Aside (Below w.heap.size w wr)) (fun i _ => l.length - (intOf i).toNat)
  case atStart => exact ⟨0, by omega, rfl, fun j x y h => absurd h (by omega), Below.refl _ _⟩
  case round =>
    obtain ⟨k, hk, rfl, hh, hb⟩ := hrel
    have HH := Lib.hid hh.out
    have HB := Lib.hid hb.out
    clear hh hb
    by_cases hlt : k < l.length
    · have hltz : (k : Int) < (l.length : Int) := by omega
      have hk0 : (0 : Int) ≤ (k : Int) := by omega
      have hkq : (k : Int) < (q.length : Int) := by have := HN.out; omega
      obtain ⟨x, hx⟩ : ∃ x, l[k]? = some x := ⟨l[k], by simp [hlt]⟩
      obtain ⟨y, hy⟩ : ∃ y, q[k]? = some y := ⟨q[k]'(by omega), by simp⟩
      obtain ⟨b, off, rfl, hb1, c0, c1, c2, c3⟩ := HA.out.cellCr hx
      obtain ⟨b', off', rfl, hb2, d0⟩ := HA'.out.cell1 hy
      have r3 := cell_regrown (show wr.cell? ⟨b, off + k * 4 + 3, none⟩ = some (.int .i64 x.most) by rw [HB.out.cell (p := ⟨b, off + k * 4 + 3, none⟩) hb1]; exact c3)
      have s2 := cell_regrown (show wr.cell? ⟨b', off' + k, none⟩ = some (.int .i64 y) by rw [HB.out.cell (p := ⟨b', off' + k, none⟩) hb2]; exact d0)
      have hI : ∀ W, Calls Try.prog 37 #[.int .i64 y, .int .i64 0, .int .i64 x.most] W fun e w' => e = .returned (.bool (inB y 0 x.most)) ∧ Below W.heap.size W w' := fun W => In_below _ _ _ W
      obtain ⟨bb, hbb⟩ : ∃ bb, bb = inB y 0 x.most := ⟨_, rfl⟩
      rw [← hbb] at hI
      have HI := Lib.hid hI
      have HBB := Lib.hid hbb
      have HX := Lib.hid hx
      have HY := Lib.hid hy
      clear c0 c1 c2 c3 d0 hx hy hI hbb hb1 hb2
      go_wp2
      refine wp_region_quiet_below (by kernel_rfl) (by kernel_rfl) ?_; (repeat (first | go_big_quiet_step ((go_at_call 37; exact Calls.regrown_of (HI.out _))) | quiet_step ((go_at_call 37; exact Calls.regrown_of (HI.out _))))); refine wpQuiet_nil ?_; intro wq hwq; have hbq : Below _ _ wq := (by obtain ⟨p, rfl⟩ := hwq; exact below_regrown _ _ _); clear hwq
      clear r3 s2
      cases bb with
      | false =>
        go_wp2
        go_ret
        exact ⟨ret_bool (paired_hit HX.out HY.out HBB.out.symm).symm, HB.out.trans (hbq.mono HB.out.size)⟩
      | true =>
        go_wp2
        go_roundw
        case rel =>
          refine ⟨k + 1, by omega, by go_num, fun j x' y' hj hx' hy' => ?_, HB.out.trans (hbq.mono HB.out.size)⟩
          by_cases e : j = k
          · subst e
            rw [HX.out] at hx'; cases hx'
            rw [HY.out] at hy'; cases hy'
            exact HBB.out.symm
          · exact HH.out j x' y' (by omega) hx' hy'
        case measure => simp [intOf]; omega
    · obtain rfl : k = l.length := by omega
      have HF := Lib.hid (show pairedB l q (fun c m => inB m 0 c.most) = true from paired_miss HN.out HH.out)
      go_wp2
      go_ret
      exact ⟨ret_bool HF.out.symm, HB.out⟩
theorem CratesFault_any (p : PlM) (A : Option Addr) (c : Nat) (l : List Cr) (w : World) (hA : Sl w w.heap.size 4 encCr A l) (hn : p.s.l.length ≤ 1000000) (hl : l.length ≤ 1000000) :
    Calls Try.prog 42 #[.agg p.cells.toArray, .slice A l.length c] w fun e w' => e = .returned (.int .i64 (offB p.s.l.length l)) ∧ Below w.heap.size w w' := by
  have hlz : (l.length : Int) ≤ 1000000 := by omega
  have hnz : (p.s.l.length : Int) ≤ 1000000 := by omega
  have l0 : Lies (w.alloc (.cells p.cells.toArray 28)) w.heap.size 28 p.cells.toArray := Lies.fresh _ _ _
  have b0 : Below w.heap.size w (w.alloc (.cells p.cells.toArray 28)) := (Below.refl _ _).alloc (Nat.le_refl _) _
  have L0 := Lib.hid l0
  have B0 := Lib.hid b0
  have HA := Lib.hid hA
  clear l0 b0 hA hn hl
  by_cases h4 : 4 < l.length
  case pos =>
    have h4z : (4 : Int) < (l.length : Int) := by omega
    have HE := Lib.hid (show offB p.s.l.length l = 3 by unfold offB; rw [if_pos h4])
    unfold PlM.cells
    go_enter Try.func42, Try.ntmps42
    go_wp2
    go_ret
    exact ⟨ret_int HE.out.symm, B0.out⟩
  have h4z : (l.length : Int) ≤ 4 := by omega
  have H4 := Lib.hid h4
  clear h4
  unfold PlM.cells
  go_enter Try.func42, Try.ntmps42
  go_wp2
  go_loopw [5, 6] (fun i _ wr => ∃ k : Nat, k ≤ l.length ∧ i = .int .i64 k ∧ Aside (∀ j x, j < k → l[j]? = some x → x.okB p.s.l.length = true) ∧ Aside (Below w.heap.size w wr) ∧ Aside (Lies wr w.heap.size 28 p.cells.toArray)) (fun i _ _ => l.length - (intOf i).toNat)
  case atStart => exact ⟨0, by omega, rfl, fun j x h => absurd h (by omega), B0.out, L0.out⟩
  case round =>
    obtain ⟨k, hk, rfl, hh, hb, hL⟩ := hrel
    have HH := Lib.hid hh.out
    have HB := Lib.hid hb.out
    have HL := Lib.hid hL.out
    clear hh hb hL
    by_cases hlt : k < l.length
    · have hltz : (k : Int) < (l.length : Int) := by omega
      have hk0 : (0 : Int) ≤ (k : Int) := by omega
      obtain ⟨x, hx⟩ : ∃ x, l[k]? = some x := ⟨l[k], by simp [hlt]⟩
      obtain ⟨b, off, rfl, hb1, c0, c1, c2, c3⟩ := HA.out.cellCr hx
      have l2 : wr.cell? ⟨b, off + k * 4, none⟩ = some (.int .i64 x.size) := by rw [HB.out.cell (p := ⟨b, off + k * 4, none⟩) hb1]; exact c0
      have l3 : wr.cell? ⟨b, off + k * 4 + 1, none⟩ = some (.int .i64 x.bulbs) := by rw [HB.out.cell (p := ⟨b, off + k * 4 + 1, none⟩) hb1]; exact c1
      have l4 : wr.cell? ⟨b, off + k * 4 + 2, none⟩ = some (.int .i64 x.price) := by rw [HB.out.cell (p := ⟨b, off + k * 4 + 2, none⟩) hb1]; exact c2
      have l5 : wr.cell? ⟨b, off + k * 4 + 3, none⟩ = some (.int .i64 x.most) := by rw [HB.out.cell (p := ⟨b, off + k * 4 + 3, none⟩) hb1]; exact c3
      have d0 : ∀ W, Below wr.heap.size wr W → W.cell? ⟨w.heap.size, 0, none⟩ = some (.slice p.s.A p.s.l.length p.s.c) := fun W hW => (HL.out.call hW).at_ 0
      have d1 : (wr.alloc (.cells #[.int .i64 x.size, .int .i64 x.bulbs, .int .i64 x.price, .int .i64 x.most] 85)).cell? ⟨w.heap.size, 0, none⟩ = some (.slice p.s.A p.s.l.length p.s.c) := d0 _ ((Below.refl _ _).alloc (Nat.le_refl _) _)
      have hq0 : ∀ W, Calls Try.prog 37 #[.int .i64 x.size, .int .i64 0, .int .i64 ((p.s.l.length : Int) - 1)] W fun e w' => e = .returned (.bool (inB x.size 0 ((p.s.l.length : Int) - 1))) ∧ W = w' := fun W => In_any _ _ _ W
      have hq1 : ∀ W, Calls Try.prog 37 #[.int .i64 x.bulbs, .int .i64 1, .int .i64 1000000] W fun e w' => e = .returned (.bool (inB x.bulbs 1 1000000)) ∧ W = w' := fun W => In_any _ _ _ W
      have hq2 : ∀ W, Calls Try.prog 37 #[.int .i64 x.price, .int .i64 0, .int .i64 1000000] W fun e w' => e = .returned (.bool (inB x.price 0 1000000)) ∧ W = w' := fun W => In_any _ _ _ W
      have hq3 : ∀ W, Calls Try.prog 37 #[.int .i64 x.most, .int .i64 0, .int .i64 9] W fun e w' => e = .returned (.bool (inB x.most 0 9)) ∧ W = w' := fun W => In_any _ _ _ W
      have hr : x.okB p.s.l.length = (inB x.size 0 ((p.s.l.length : Int) - 1) && inB x.bulbs 1 1000000 && inB x.price 0 1000000 && inB x.most 0 9) := rfl
      generalize inB x.size 0 ((p.s.l.length : Int) - 1) = y0 at *
      generalize inB x.bulbs 1 1000000 = y1 at *
      generalize inB x.price 0 1000000 = y2 at *
      generalize inB x.most 0 9 = y3 at *
      have HR := Lib.hid hr
      have Q0 := Lib.hid hq0
      have Q1 := Lib.hid hq1
      have Q2 := Lib.hid hq2
      have Q3 := Lib.hid hq3
      have HX := Lib.hid hx
      have HBR := Lib.hid hb1
      have hsz := HB.out.alloc HB.out.size (.cells #[.int .i64 x.size, .int .i64 x.bulbs, .int .i64 x.price, .int .i64 x.most] 85)
      have HSZ := Lib.hid hsz
      have HL2 := Lib.hid (HL.out.call ((Below.refl wr.heap.size wr).alloc (Nat.le_refl _) (.cells #[.int .i64 x.size, .int .i64 x.bulbs, .int .i64 x.price, .int .i64 x.most] 85)))
      clear hr hq0 hq1 hq2 hq3 hx hb1 c0 c1 c2 c3 d0 hsz
      cases y0 <;> cases y1 <;> cases y2 <;> cases y3
      all_goals
        go_wp2_with (first
          | (go_at_call_of 37 (Value.int .i64 x.size); refine (Q0.out _).mono ?_; rintro e w' ⟨rfl, rfl⟩)
          | (go_at_call_of 37 (Value.int .i64 x.bulbs); refine (Q1.out _).mono ?_; rintro e w' ⟨rfl, rfl⟩)
          | (go_at_call_of 37 (Value.int .i64 x.price); refine (Q2.out _).mono ?_; rintro e w' ⟨rfl, rfl⟩)
          | (go_at_call_of 37 (Value.int .i64 x.most); refine (Q3.out _).mono ?_; rintro e w' ⟨rfl, rfl⟩))
        first
        | (go_ret
           have hx1 : x.okB p.s.l.length = false := by rw [HR.out]; rfl
           exact ⟨ret_int (by unfold offB; rw [if_neg H4.out, all_hit HX.out hx1]; rfl), HSZ.out⟩)
        | (go_roundw
           case rel =>
             refine ⟨k + 1, by omega, by go_num, fun j x' hj hx' => ?_, HSZ.out, HL2.out⟩
             by_cases e : j = k
             · subst e
               rw [HX.out] at hx'; cases hx'
               rw [HR.out]; rfl
             · exact HH.out j x' (by omega) hx'
           case measure => simp [intOf]; omega)
    · obtain rfl : k = l.length := by omega
      have HF := Lib.hid (show offB p.s.l.length l = 0 by unfold offB; rw [if_neg H4.out, all_miss HH.out]; rfl)
      go_wp2
      go_ret
      exact ⟨ret_int HF.out.symm, HB.out⟩
end
end Go.Proofs.Ytlkdmcdnkoiflaa

/- The law's Crates. -/
namespace Go.Proofs.Ytlkdmcdnkoiflaa
open Go.RowKit Go.Lib
section
set_option maxRecDepth 100000
set_option maxHeartbeats 1000000
theorem infoCr : (Try.prog.info? 93).map (fun i => (i.zero, i.size, i.bytes)) = some (some (.agg #[.int .i64 0, .int .i64 0, .int .i64 0, .int .i64 0]), 4, 32) := by kernel_rfl
theorem encCr_one (x : Cr) : ∀ u ∈ encCr x, u.oneCell' = true := by intro u hu; simp [encCr] at hu; rcases hu with rfl | rfl | rfl | rfl <;> rfl
/-- The law's crates lie as they are given. -/
theorem Crates_any (A : Option Addr) (c : Nat) (l : List Cr) (w : World) (hA : Sl w w.heap.size 4 encCr A l) (hl : l.length ≤ 1000000) :
    Calls Try.prog 39 #[.slice A l.length c] w fun e w' => ∃ A' c', e = .returned (.slice A' l.length c') ∧ SlT w' w'.heap.size 4 93 encCr A' l ∧ Below w.heap.size w w' := by
  obtain ⟨i0, hi, hp⟩ := Option.map_eq_some_iff.1 infoCr
  have hz0 : i0.zero = some (.agg #[.int .i64 0, .int .i64 0, .int .i64 0, .int .i64 0]) := congrArg (·.1) hp
  have hz1 : i0.size = 4 := congrArg (·.2.1) hp
  have hz2 : i0.bytes = 32 := congrArg (·.2.2) hp
  have HL := Lib.hid hA
  have Hz0 := Lib.hid hz0
  have Hz1 := Lib.hid hz1
  have Hz2 := Lib.hid hz2
  have HI := Lib.hid hi
  have hlz : (l.length : Int) ≤ 1000000 := by omega
  clear hp hA hz0 hz1 hz2 hi
  go_enter Try.func39, Try.ntmps39
  go_wp2
  go_loopw [3, 4, 5] (fun v i _ wr => ∃ k : Nat, k ≤ l.length ∧ i = .int .i64 k ∧ wr.ownsRow w.heap.size 93 4 v k ((l.take k).flatMap encCr) ∧ Aside (Below w.heap.size w wr)) (fun _ i _ _ => l.length - (intOf i).toNat)
  case atStart => exact ⟨0, Nat.zero_le _, rfl, by simpa using World.ownsRow_nil _ _ _ _, Below.refl _ _⟩
  case round =>
    obtain ⟨k, hk, rfl, hown, hnx⟩ := hrel
    by_cases hlt : k < l.length
    · have hltz : (k : Int) < (l.length : Int) := by omega
      have hk0 : (0 : Int) ≤ (k : Int) := by omega
      obtain ⟨x, hx⟩ : ∃ x, l[k]? = some x := ⟨l[k], by simp [hlt]⟩
      obtain ⟨b, off, rfl, hb, c0, c1, c2, c3⟩ := HL.out.cellCr hx
      have l2 : wr.cell? ⟨b, off + k * 4, none⟩ = some (.int .i64 x.size) := by rw [hnx.out.cell (p := ⟨b, off + k * 4, none⟩) hb]; exact c0
      have l3 : wr.cell? ⟨b, off + k * 4 + 1, none⟩ = some (.int .i64 x.bulbs) := by rw [hnx.out.cell (p := ⟨b, off + k * 4 + 1, none⟩) hb]; exact c1
      have l4 : wr.cell? ⟨b, off + k * 4 + 2, none⟩ = some (.int .i64 x.price) := by rw [hnx.out.cell (p := ⟨b, off + k * 4 + 2, none⟩) hb]; exact c2
      have l5 : wr.cell? ⟨b, off + k * 4 + 3, none⟩ = some (.int .i64 x.most) := by rw [hnx.out.cell (p := ⟨b, off + k * 4 + 3, none⟩) hb]; exact c3
      have hnw : ∀ j u, (encCr x)[j]? = some u → ((wr.alloc (.cells #[.int .i64 x.size, .int .i64 x.bulbs, .int .i64 x.price, .int .i64 x.most] 85)).alloc (.cells #[.int .i64 x.size, .int .i64 x.bulbs, .int .i64 x.price, .int .i64 x.most] 93)).cell? ((⟨wr.heap.size + 1, 0, none⟩ : Addr).add j) = some u := fun j u hu => by
        have := news_alloc (wr.alloc (.cells #[.int .i64 x.size, .int .i64 x.bulbs, .int .i64 x.price, .int .i64 x.most] 85)) (encCr x) 93 j u hu
        rw [show (wr.alloc (.cells #[.int .i64 x.size, .int .i64 x.bulbs, .int .i64 x.price, .int .i64 x.most] 85)).heap.size = wr.heap.size + 1 by simp] at this
        exact this
      have HNW := Lib.hid hnw
      have HX := Lib.hid hx
      clear c0 c1 c2 c3 hx hnw
      go_wp2_with (at_builtin; go_loud (refine wpList_append_own _ rfl (.tmp 16) (.tmp 26) 76 rfl w.heap.size 93 i0 _ 4 32 Try.underlying76 HI.out Hz0.out Hz1.out Hz2.out rfl (by decide) _ _ _ rfl ((hown.alloc _).alloc _) ⟨wr.heap.size + 1, 0, none⟩ 1 1 (encCr x) rfl rfl HNW.out (encCr_one x) (by unfold maxLen; omega) (by omega) (by have := hnx.out.size; simp at this ⊢; omega) ?_; intro v4 w4 hown4 hg4 hnil4; clear hnil4))
      go_roundw
      case rel =>
        have hs1 := hnx.out.size
        refine ⟨k + 1, by omega, by go_num, ?_, ((hnx.out.alloc (by omega) _).alloc (by simp; omega) _).grown hg4 (by simp; omega) (fun j hj => (hown.lt j hj).1)⟩
        rw [List.take_add_one, HX.out]
        simpa using hown4
      case measure => simp [intOf]; omega
    · obtain rfl : k = l.length := by omega
      rw [List.take_length] at hown
      obtain ⟨A', c', e1, e2, e3⟩ := Sl.of_own (enc := encCr) (l := l) (fun _ => rfl) hown rfl
      subst e1
      have HO := Lib.hid hown
      clear hown
      go_wp2
      go_ret
      exact ⟨A', c', rfl, SlT.of_own (fun _ => rfl) HO.out, hnx.out⟩
end
end Go.Proofs.Ytlkdmcdnkoiflaa

/- A range over a function whose iterator keeps at most one block of its own, that it makes first: the law for the caller. -/
namespace Go.Proofs.Ytlkdmcdnkoiflaa
open Go.RowKit Go.Lib

/-- New blocks, and at most one record from D on that has turned. -/
def Recs (D : Nat) (A A' : World) : Prop := ∃ row, A.grownBy A' row ∧ ∀ r, row = some r → D ≤ r ∧ ∃ o : Obj, A.heap[r]? = some o ∧ o.isCells = false
theorem Recs.alloc (D : Nat) (A : World) (o : Obj) : Recs D A (A.alloc o) := ⟨none, World.grownBy_alloc A o none, fun r e => by cases e⟩
theorem Recs.put {D l : Nat} {A : World} {o : Obj} (o' : Obj) (hD : D ≤ l) (hl : A.heap[l]? = some o) (ho : o.isCells = false) : Recs D A (A.putObj l o') :=
  ⟨some l, grownBy_putObj' A l o', fun r e => by cases e; exact ⟨hD, o, hl, ho⟩⟩
theorem Recs.size {D : Nat} {A A' : World} (h : Recs D A A') : A.heap.size ≤ A'.heap.size := by
  obtain ⟨row, hgr, hr⟩ := h; exact hgr.size
theorem Recs.lies {t : TypeId} {D g : Nat} {A A' : World} {cs : Array Value} (h : Recs D A A') (hl : Lies A g t cs) : Lies A' g t cs := by
  obtain ⟨row, hgr, hr⟩ := h
  refine hl.to_ (hgr.block g hl.in_ (fun e => ?_))
  obtain ⟨o, ho, hc⟩ := (hr g e.symm).2
  rw [hl] at ho; cases ho; cases hc
theorem Recs.below {B D : Nat} {w A A' : World} (h : Recs D A A') (hb : Below B w A) (hB : B ≤ D) (hA : B ≤ A.heap.size) : Below B w A' := by
  obtain ⟨row, hgr, hr⟩ := h
  exact hb.grown hgr hA (fun k e => by have := (hr k e).1; omega)
/-- Steps of the iterator's own: new blocks, and its block b. -/
def StepB (b : Nat) (A A' : World) : Prop := A.grownBy A' (some b)
theorem StepB.of_below {b : Nat} {A A' : World} (h : Below A.heap.size A A') : StepB b A A' := ⟨h.os, h.tape, h.output, h.size, fun k hk _ => h.block k hk⟩
theorem StepB.of_only {b : Nat} {A A' : World} (h : Only b A A') : StepB b A A' := ⟨h.os, h.tape, h.output, by rw [h.size]; exact Nat.le_refl _, fun k _ hk => h.block k (fun e => hk (by rw [e]))⟩
theorem StepB.trans {b : Nat} {A A' A'' : World} (h : StepB b A A') (h' : StepB b A' A'') : StepB b A A'' :=
  ⟨h'.os.trans h.os, h'.tape.trans h.tape, h'.output.trans h.output, Nat.le_trans h.size h'.size, fun k hk hb => (h'.block k (Nat.lt_of_lt_of_le hk h.size) hb).trans (h.block k hk hb)⟩
theorem StepB.below' {b : Nat} {w A A' : World} (h : StepB b w A) (h' : Below A.heap.size A A') : StepB b w A' := h.trans (.of_below h')
theorem StepB.only_new {b G : Nat} {w A A' : World} (h : StepB b w A) (h' : Only G A A') (hG : w.heap.size ≤ G) : StepB b w A' :=
  ⟨h'.os.trans h.os, h'.tape.trans h.tape, h'.output.trans h.output, by rw [h'.size]; exact h.size, fun k hk hb => (h'.block k (by omega)).trans (h.block k hk hb)⟩
theorem StepB.same {b k : Nat} {A A' : World} {o : Obj} (h : StepB b A A') (hk : A.heap[k]? = some o) (hb : k ≠ b) : A'.heap[k]? = some o := by
  rw [h.block k (Array.getElem?_eq_some_iff.1 hk).1 (fun e => hb (by cases e; rfl))]; exact hk
theorem StepB.lies {b g : Nat} {t : TypeId} {A A' : World} {cs : Array Value} (h : StepB b A A') (hl : Lies A g t cs) (hg : g ≠ b) : Lies A' g t cs := h.same hl hg
theorem StepB.below {B b : Nat} {w A A' : World} (h : StepB b A A') (hb : Below B w A) (hB : B ≤ b) (hA : B ≤ A.heap.size) : Below B w A' :=
  hb.grown h hA (fun k e => by cases e; omega)
/-- The iterator gives just the elements of xs, in their order; its own block is the first that it makes. -/
def GivesB {α : Type} (n : Nat) (P : Program) (g : Nat) (lb : Array Value) (encs : Nat → α → Array Value) (xs : List α) (w : World) (Own : Nat → α → World → Prop) (St : World → Prop) : Prop :=
  ∀ (l : Nat) (J : Nat → World → Prop) (Jx : Nat → World → Prop) (W : World), Below w.heap.size w W → (∀ k A, J k A → St A) →
    (∀ k A A', J k A → StepB W.heap.size A A' → J k A') →
    (∀ k x A, xs[k]? = some x → J k A → Own W.heap.size x A → YieldAt Fence.wide (n - 1) P l (encs W.heap.size x) A fun e A' =>
      (e = .returned (.bool true) ∧ J (k + 1) A' ∧ Own W.heap.size x A') ∨ (e = .returned (.bool false) ∧ Jx (k + 1) A')) →
    J 0 W →
    CallsIn Fence.wide n P g (#[.func (.yield l) #[] #[]] ++ lb) W fun e A => (∃ v, e = .returned v) ∧ (J xs.length A ∨ ∃ k, k ≤ xs.length ∧ Jx k A)
/-- How the body of a round may be left. -/
def bodyPostB (D : Nat) (I : Nat → World → Prop) (Ix : Code → Nat → World → Prop) (O : World → Prop) (k : Nat) (W : World) : Exit → Act → World → Prop
  | .normal, _, W' => KeepsFrom D W W' ∧ I k W' ∧ O W'
  | .ret, _, W' => KeepsFrom D W W' ∧ Ix .ret k W'
  | .exit id, _, W' => KeepsFrom D W W' ∧ Ix (.exit id) k W'
  | .goto t, _, W' => KeepsFrom D W W' ∧ Ix (.goto t) k W'
  | .panic _, _, _ => False
  | .outgrown, _, _ => False
section
variable {P : Program}
theorem round_givesB {D l m : Nat} {fn : FuncId} {tmps : Array Value} {assign body : Code} {ps : Array Tmp} {I : Nat → World → Prop} {Ix : Code → Nat → World → Prop} {O : World → Prop} {k : Nat} {W : World}
    (rec : LoopState → Option Code → Loop) (hrec : rec = fun st pe => { state := st, pending := pe, fn, tmps, params := ps, assign, body, defers := D }) (hDl : D < l)
    (hI : ∀ k A A', I k A → Recs D A A' → I k A') (hIx : ∀ c k A A', Ix c k A → Recs D A A' → Ix c k A') (hO : ∀ A A', O A → Recs D A A' → O A')
    (hl : W.heap[l]? = some (.loop (rec .ready none))) (hd : W.heap[D]? = some (.deferred (some []))) {a' : Act}
    (hbody : body.wpIn (Fence.wide.inRound l) m P (bodyPostB D I Ix O k (W.putObj l (.loop { rec .ready none with state := .busy }))) a' (W.putObj l (.loop { rec .ready none with state := .busy }))) :
    ∃ W1, (Instr.beginRound l).run P W = .ok () W1 ∧ body.wpIn (Fence.wide.inRound l) m P (fun e _ W3 => ∃ (jump : Option Code) (W4 : World), (match e with | .normal => jump = none | .ret => jump = some .ret | .exit id => jump = some (.exit id) | .goto t => jump = some (.goto t) | _ => False) ∧
      (Instr.endRound l jump).run P W3 = .ok (.bool jump.isNone) W4 ∧ W4.heap[D]? = some (.deferred (some [])) ∧
      (match jump with
        | none => (I k W4 ∧ O W4) ∧ W4.heap[l]? = some (.loop (rec .ready none))
        | some c => Ix c k W4 ∧ W4.heap[l]? = some (.loop (rec .done (some c))))) a' W1 := by
  have hlt := (Array.getElem?_eq_some_iff.1 hl).1
  refine ⟨_, run_beginRound hl (by rw [hrec]), wpIn_mono hbody ?_⟩
  have hl2 : (W.putObj l (.loop { rec .ready none with state := .busy })).heap[l]? = some (.loop { rec .ready none with state := .busy }) := World.putObj_heap_same hlt
  have hd2 : (W.putObj l (.loop { rec .ready none with state := .busy })).heap[D]? = some (.deferred (some [])) := (World.putObj_heap_other (by omega)).trans hd
  have close : ∀ (jump : Option Code) (W3 : World), KeepsFrom D (W.putObj l (.loop { rec .ready none with state := .busy })) W3 →
      W3.heap[l]? = some (.loop { rec .ready none with state := .busy }) ∧ ∃ W4, W4 = W3.putObj l (.loop (rec (if jump.isNone then .ready else .done) jump)) ∧ (Instr.endRound l jump).run P W3 = .ok (.bool jump.isNone) W4 ∧ W4.heap[D]? = some (.deferred (some [])) ∧ W4.heap[l]? = some (.loop (rec (if jump.isNone then .ready else .done) jump)) := by
    intro jump W3 hk
    have h3 := hk.same _ _ (by omega) hl2 rfl
    refine ⟨h3, _, rfl, ?_, (World.putObj_heap_other (by omega)).trans (hk.same _ _ (Nat.le_refl _) hd2 rfl), World.putObj_heap_same (Array.getElem?_eq_some_iff.1 h3).1⟩
    have := run_endRound (P := P) jump h3
    rw [hrec] at this ⊢
    exact this
  intro e _ W3 hp
  match e, hp with
  | .normal, ⟨hk, hi, ho⟩ =>
    obtain ⟨h3, W4, rfl, hr, h4, h5⟩ := close none W3 hk
    exact ⟨none, _, rfl, hr, h4, ⟨hI _ _ _ hi (Recs.put _ (by omega) h3 rfl), hO _ _ ho (Recs.put _ (by omega) h3 rfl)⟩, h5⟩
  | .ret, ⟨hk, hi⟩ =>
    obtain ⟨h3, W4, rfl, hr, h4, h5⟩ := close (some .ret) W3 hk
    exact ⟨some .ret, _, rfl, hr, h4, hIx _ _ _ _ hi (Recs.put _ (by omega) h3 rfl), h5⟩
  | .exit id, ⟨hk, hi⟩ =>
    obtain ⟨h3, W4, rfl, hr, h4, h5⟩ := close (some (.exit id)) W3 hk
    exact ⟨some (.exit id), _, rfl, hr, h4, hIx _ _ _ _ hi (Recs.put _ (by omega) h3 rfl), h5⟩
  | .goto t, ⟨hk, hi⟩ =>
    obtain ⟨h3, W4, rfl, hr, h4, h5⟩ := close (some (.goto t)) W3 hk
    exact ⟨some (.goto t), _, rfl, hr, h4, hIx _ _ _ _ hi (Recs.put _ (by omega) h3 rfl), h5⟩
  | .panic _, hp => exact hp.elim
  | .outgrown, hp => exact hp.elim

theorem range_givesB {α : Type} {g : Operand} {ps : Array Tmp} {assign body : Code} {Q : Exit → Act → World → Prop} {a : Act} {w : World} (n : Nat) {gf : Nat} {lb : Array Value} (hg : a.eval g = .func (.func gf) #[] lb) (eg : ∀ args w, (callFunc gf args).run P w = .ok (.enter gf args) w)
    {encs : Nat → α → Array Value} {xs : List α} {w0 : World} {Own : Nat → α → World → Prop} {St : World → Prop} (hseq : GivesB (n - 1) P gf lb encs xs w0 Own St) (hb0 : Below w0.heap.size w0 w) (hps : ∀ b x, (encs b x).size = ps.size)
    (hO : ∀ b x A A', Own b x A → Recs w.heap.size A A' → Own b x A')
    (I : Nat → World → Prop) (Ix : Code → Nat → World → Prop) (hI : ∀ k A A', I k A → Recs w.heap.size A A' → I k A') (hIs : ∀ k A A', I k A → StepB (w.heap.size + 2) A A' → I k A') (hIx : ∀ c k A A', Ix c k A → Recs w.heap.size A A' → Ix c k A') (h0 : I 0 w) (hSt : ∀ k A, I k A → St A)
    (Ax : α → Act → World → Prop) (hAx : ∀ x a' A A', Ax x a' A → Recs w.heap.size A A' → Ax x a' A')
    (hassign : ∀ (l : Nat) (k : Nat) (x : α) (W : World) (K : Act → World → Prop), xs[k]? = some x → I k W → Own (w.heap.size + 2) x W → (∀ a' W', KeepsFrom w.heap.size W W' → I k W' → Own (w.heap.size + 2) x W' → Ax x a' W' → K a' W') →
      assign.wpIn (Fence.wide.inRound l) (n - 1 - 1) P (Exit.then K (fun _ _ _ => False)) { tmps := (ps.zip (encs (w.heap.size + 2) x)).foldl (fun t (p, v) => t.setIfInBounds p v) a.tmps, defers := [] } W)
    (hbody : ∀ (l : Nat) (k : Nat) (x : α) (a' : Act) (W : World), w.heap.size ≤ l → xs[k]? = some x → I k W → Own (w.heap.size + 2) x W → Ax x a' W → body.wpIn (Fence.wide.inRound l) (n - 1 - 1) P (bodyPostB w.heap.size I Ix (Own (w.heap.size + 2) x) (k + 1) W) a' W)
    (hdone : ∀ (D : Nat) (W : World), w.heap.size ≤ D → I xs.length W → W.heap[D]? = some (.deferred (some [])) → Q .normal { a with defers := { target := .collected D, args := #[] } :: a.defers } W)
    (hstop : ∀ (D : Nat) (c : Code) (k : Nat) (W : World), w.heap.size ≤ D → k ≤ xs.length → Ix c k W → W.heap[D]? = some (.deferred (some [])) → c.wpIn Fence.wide n P Q { a with defers := { target := .collected D, args := #[] } :: a.defers } W) :
    (Code.rangeFunc g ps assign body).wp P Q a w := by
  refine (wpIn_wide (n := n)).1 (wpIn_rangeFunc fun fn hfn => ?_)
  have hro : Fence.wide.round = none := rfl
  rw [hro]
  obtain ⟨rec, hrec⟩ : ∃ rec : LoopState → Option Code → Loop, rec = fun st pe => { state := st, pending := pe, fn, tmps := a.tmps, params := ps, assign, body, defers := w.heap.size } := ⟨_, rfl⟩
  obtain ⟨W1, hW1⟩ : ∃ W1, (w.alloc (.deferred (some []))).alloc (.loop (rec .ready none)) = W1 := ⟨_, rfl⟩
  have hs1 : W1.heap.size = w.heap.size + 2 := by rw [← hW1]; simp
  have hl1 : W1.heap[w.heap.size + 1]? = some (.loop (rec .ready none)) := by
    rw [← hW1]
    have := heap_alloc_new (w.alloc (.deferred (some []))) (.loop (rec .ready none))
    rwa [World.size_alloc] at this
  have hd1 : W1.heap[w.heap.size]? = some (.deferred (some [])) := by
    rw [← hW1, heap_alloc_old _ _ (by simp)]; exact heap_alloc_new _ _
  have hi1 : I 0 W1 := by rw [← hW1]; exact hI _ _ _ (hI _ _ _ h0 (Recs.alloc _ _ _)) (Recs.alloc _ _ _)
  have hb1 : Below w0.heap.size w0 W1 := by
    rw [← hW1]; exact (hb0.alloc hb0.size _).alloc (by simp; have := hb0.size; omega) _
  refine ⟨w.heap.size + 1, [{ target := .collected w.heap.size, args := #[] }], W1, { target := .fn (.func gf) lb, args := #[.func (.yield (w.heap.size + 1)) #[] #[]] }, W1, gf, #[.func (.yield (w.heap.size + 1)) #[] #[]] ++ lb, W1, ?_, ?_, fun _ _ => trivial, ?_, (fun h => by cases h), ?_⟩
  · rw [← hW1, hrec]; exact run_enterLoop_outer _ _ _ _ _
  · simp only [resolve, hg]; simp [go_sem]
  · simp [invoke, go_sem, eg]
  have hcall := hseq (w.heap.size + 1) (fun k A => I k A ∧ A.heap[w.heap.size + 1]? = some (.loop (rec .ready none)) ∧ A.heap[w.heap.size]? = some (.deferred (some [])))
    (fun k A => ∃ c, Ix c k A ∧ A.heap[w.heap.size + 1]? = some (.loop (rec .done (some c))) ∧ A.heap[w.heap.size]? = some (.deferred (some []))) W1 hb1 (fun k A hs => hSt k A hs.1)
  rw [hs1] at hcall
  refine (hcall (fun k A A' hs ht => ⟨hIs _ _ _ hs.1 ht, ht.same hs.2.1 (by omega), ht.same hs.2.2 (by omega)⟩) ?_ ⟨hi1, hl1, hd1⟩).mono ?_
  · rintro k x A hx ⟨hi, hl, hd⟩ ho
    have hy := run_yield (P := P) (args := encs (w.heap.size + 2) x) hl (by rw [hrec]; exact hps _ x)
    rw [hrec] at hy
    refine ⟨fn, _, assign, body, hy, roundIn_of_wpIn hfn (hassign _ k x A _ hx hi ho ?_)⟩
    intro a' A' hkf hi' ho' hax
    have hl' := hkf.same _ _ (by omega) hl rfl
    have hd' := hkf.same _ _ (Nat.le_refl _) hd rfl
    have hbd := hbody (w.heap.size + 1) k x a' (A'.putObj (w.heap.size + 1) (.loop { rec .ready none with state := .busy })) (by omega) hx (hI _ _ _ hi' (Recs.put _ (by omega) hl' rfl)) (hO _ _ _ _ ho' (Recs.put _ (by omega) hl' rfl)) (hAx _ _ _ _ hax (Recs.put _ (by omega) hl' rfl))
    obtain ⟨W2, hbeg, hrun⟩ := round_givesB (l := w.heap.size + 1) rec hrec (by omega) hI hIx (hO _ _) hl' hd' hbd
    refine ⟨W2, hbeg, wpIn_mono hrun ?_⟩
    rintro e a3 W3 ⟨jump, W4, hj, hend, hd4, hm⟩
    cases e with
    | normal =>
      subst hj
      obtain ⟨⟨hi4, ho4⟩, hl4⟩ := hm
      exact ⟨_, _, hend, .inl ⟨rfl, ⟨hi4, hl4, hd4⟩, ho4⟩⟩
    | ret =>
      subst hj
      exact ⟨_, _, hend, .inr ⟨rfl, .ret, hm.1, hm.2, hd4⟩⟩
    | exit id =>
      subst hj
      exact ⟨_, _, hend, .inr ⟨rfl, .exit id, hm.1, hm.2, hd4⟩⟩
    | goto t =>
      subst hj
      exact ⟨_, _, hend, .inr ⟨rfl, .goto t, hm.1, hm.2, hd4⟩⟩
    | panic ch => exact hj.elim
    | outgrown => exact hj.elim
  · rintro e A ⟨⟨v, rfl⟩, (⟨hi, hl, hd⟩ | ⟨k, hk, c, hi, hl, hd⟩)⟩
    · refine ⟨none, _, by have := run_endLoop (P := P) hl (by rw [hrec]; simp); rw [hrec] at this; exact this, hdone _ _ (Nat.le_refl _) (hI _ _ _ hi (Recs.put _ (by omega) hl rfl)) ((World.putObj_heap_other (by omega)).trans hd)⟩
    · refine ⟨some c, _, by have := run_endLoop (P := P) hl (by rw [hrec]; simp); rw [hrec] at this; exact this, hstop _ c k _ (Nat.le_refl _) hk (hIx _ _ _ _ hi (Recs.put _ (by omega) hl rfl)) ((World.putObj_heap_other (by omega)).trans hd)⟩
end
end Go.Proofs.Ytlkdmcdnkoiflaa

/- What keeps all cells; a map from counts to numbers that remembers a function. -/
namespace Go.Proofs.Ytlkdmcdnkoiflaa
open Go.RowKit Go.Lib
open Go.WideMaps (ArrKey KeyLaw)
open Go.ChangeMaps (setBlock heap_setBlock_same heap_setBlock_other)

/-- All cells stay as they are. -/
structure KC (w w' : World) : Prop where
  size : w.heap.size ≤ w'.heap.size
  blk : ∀ (g : Nat) cs T f, w.heap[g]? = some (.cells cs T f) → w'.heap[g]? = w.heap[g]?
theorem KC.refl (w : World) : KC w w := ⟨Nat.le_refl _, fun _ _ _ _ _ => rfl⟩
theorem KC.trans {w w' w'' : World} (h : KC w w') (h' : KC w' w'') : KC w w'' := ⟨Nat.le_trans h.size h'.size, fun g cs T f hl => (h'.blk g cs T f ((h.blk g cs T f hl).trans hl)).trans (h.blk g cs T f hl)⟩
theorem KC.of_below {w w' : World} (h : Below w.heap.size w w') : KC w w' := ⟨h.size, fun g _ _ _ hl => h.block g (Array.getElem?_eq_some_iff.1 hl).1⟩
theorem KC.alloc {w w' : World} (h : KC w w') (o : Obj) : KC w (w'.alloc o) := h.trans (KC.of_below ((Below.refl _ _).alloc (Nat.le_refl _) o))
theorem KC.call {w w' w'' : World} (h : KC w w') (hb : Below w'.heap.size w' w'') : KC w w'' := h.trans (KC.of_below hb)
theorem KC.lies {w w' : World} (h : KC w w') {g : Nat} {t : TypeId} {cs : Array Value} (hl : Lies w g t cs) : Lies w' g t cs := hl.to_ (h.blk g _ _ _ hl)
theorem KC.cell {w w' : World} (h : KC w w') {b o : Nat} {v : Value} (hc : w.cell? ⟨b, o, none⟩ = some v) : w'.cell? ⟨b, o, none⟩ = some v := by
  have hb : ∃ cs t f, w.heap[b]? = some (.cells cs t f) := by
    unfold World.cell? at hc
    simp only at hc
    cases ho : w.heap[b]? with
    | none => rw [ho] at hc; cases hc
    | some q =>
      rw [ho] at hc
      cases q <;> first | exact ⟨_, _, _, rfl⟩ | cases hc
  obtain ⟨cs, t, f, hb⟩ := hb
  exact (World.cell?_of_block (a := ⟨b, o, none⟩) (h.blk b cs t f hb)).trans hc
theorem KC.of_grown {w w' : World} {b : Nat} {es : Array MapEntry} {clock : Nat} (h : w.grownBy w' (some b)) (hm : w.heap[b]? = some (.map es clock)) : KC w w' :=
  ⟨h.size, fun g cs T f hg => h.block g (Array.getElem?_eq_some_iff.1 hg).1 (by intro e; cases e; rw [hm] at hg; cases hg)⟩
theorem Sl.kc {α : Type} {w w' : World} {B B' k : Nat} {enc : α → List Value} {A : Option Addr} {l : List α} (h : Sl w B k enc A l) (hk : KC w w') (hB : B ≤ B') : Sl w' B' k enc A l := fun hl => by
  obtain ⟨b, off, e, hb, hc⟩ := h hl
  exact ⟨b, off, e, by omega, fun i x hx j u hu => hk.cell (hc i x hx j u hu)⟩
theorem PlM.At.kc {p : PlM} {w w' : World} {B B' : Nat} (h : p.At w B) (hb : KC w w') (hB : B ≤ B') : p.At w' B' :=
  ⟨h.s.kc hb hB, h.r.kc hb hB, h.g.kc hb hB, fun x hx => (h.rows x hx).kc hb hB, h.e.kc hb hB, h.k.kc hb hB, h.ls, h.lr, h.lg, h.lrows, h.le, h.lk⟩
theorem TrM.At.kc {t : TrM} {w w' : World} {B B' : Nat} (h : t.At w B) (hb : KC w w') (hB : B ≤ B') : t.At w' B' :=
  ⟨h.s.kc hb hB, h.g.kc hb hB, fun y hy => (h.ys y hy).kc hb hB, fun y hy r hr => (h.rs y hy r hr).kc hb hB, h.l.kc hb hB⟩

/-- A list of counts that can be a key. -/
def Key5 (pl : List Int) : Prop := pl.length = 5 ∧ ∀ x, x ∈ pl → (Lit.int .i64 x).wf = true
theorem arr5 : ArrKey Try.prog 120 3 5 := ⟨Try.underlying120, by kernel_rfl, by kernel_rfl, by kernel_rfl⟩
theorem key5_law : KeyLaw Try.prog 120 := arr5.law
theorem types_pos : ∃ m, Try.prog.types.size = m + 1 := ⟨Try.prog.types.size - 1, by kernel_rfl⟩
theorem keyOf5 {pl : List Int} (h : Key5 pl) : ∃ kl, keyOf Try.prog 120 (.agg (vals pl)) = some kl := by
  obtain ⟨h5, hb⟩ := h
  obtain ⟨a, b, c, d, e, rfl⟩ : ∃ a b c d e, pl = [a, b, c, d, e] := by
    match pl, h5 with
    | [a, b, c, d, e], _ => exact ⟨a, b, c, d, e, rfl⟩
  have wa := hb a (by simp)
  have wb := hb b (by simp)
  have wc := hb c (by simp)
  have wd := hb d (by simp)
  have we := hb e (by simp)
  have hkt := arr5.keyType types_pos
  obtain ⟨m, hm⟩ := types_pos
  refine ⟨.string (keyBytes [.int .i64 a, .int .i64 b, .int .i64 c, .int .i64 d, .int .i64 e]), ?_⟩
  show keyOf _ _ (.agg #[.int .i64 a, .int .i64 b, .int .i64 c, .int .i64 d, .int .i64 e]) = _
  unfold keyOf
  simp only [arr5.hu]
  rw [if_pos (by simp [hkt, Value.formed, arr5.hu, arr5.size]), hm]
  unfold Program.keyLits
  simp only [arr5.hu, Value.cells]
  rw [if_pos (by rw [arr5.size]; rfl), show List.range 5 = [0, 1, 2, 3, 4] from rfl]
  simp only [List.mapM_cons, List.mapM_nil]
  simp [arr5.one, Program.keyLits, Try.underlying3, wa, wb, wc, wd, we]
theorem vals_inj {a b : List Int} (h : Value.agg (vals a) = .agg (vals b)) : a = b := by
  have h1 : vals a = vals b := by injection h
  have h2 : a.map (Value.int .i64) = b.map (Value.int .i64) := by
    have := congrArg Array.toList h1
    simpa [vals] using this
  exact (List.map_inj_right (fun x y e => by injection e)).1 h2
/-- Block b is a map of at most n entries that remembers f. -/
def Memo (w : World) (b n : Nat) (f : List Int → Int) : Prop :=
  ∃ es clock, w.heap[b]? = some (.map es clock) ∧ es.size ≤ n ∧ ∀ x, x ∈ es.toList → ∃ pl, Key5 pl ∧ x.key = .agg (vals pl) ∧ x.val = .int .i64 (f pl)
theorem Memo.in_ {w : World} {b n : Nat} {f : List Int → Int} (h : Memo w b n f) : b < w.heap.size := by
  obtain ⟨es, clock, hb, _⟩ := h
  exact (Array.getElem?_eq_some_iff.1 hb).1
theorem Memo.below {w w' : World} {B b n : Nat} {f : List Int → Int} (h : Memo w b n f) (hb : Below B w w') (hB : b < B) : Memo w' b n f := by
  obtain ⟨es, clock, hm, r⟩ := h
  exact ⟨es, clock, (hb.block b hB).trans hm, r⟩
theorem Memo.call {w w' : World} {b n : Nat} {f : List Int → Int} (h : Memo w b n f) (hb : Below w.heap.size w w') : Memo w' b n f := h.below hb h.in_
theorem Memo.mono {w : World} {b n n' : Nat} {f : List Int → Int} (h : Memo w b n f) (hn : n ≤ n') : Memo w b n' f := by
  obtain ⟨es, clock, hm, h1, r⟩ := h
  exact ⟨es, clock, hm, by omega, r⟩
theorem memo_made (w : World) (f : List Int → Int) : Memo (w.alloc (.map #[] 0)) w.heap.size 0 f := ⟨#[], 0, (MapKept.heap_alloc w _).1, Nat.le_refl _, by simp⟩
theorem zero_int (w : World) : (zeroValue 3).run Try.prog w = .ok (.int .i64 0) w := by kernel_rfl
theorem memo_keys {es : Array MapEntry} {f : List Int → Int} (h : ∀ x, x ∈ es.toList → ∃ pl, Key5 pl ∧ x.key = .agg (vals pl) ∧ x.val = .int .i64 (f pl)) : ∀ x ∈ es.toList, ∃ l, keyOf Try.prog 120 x.key = some l := fun x hx => by
  obtain ⟨pl, h5, e, _⟩ := h x hx
  rw [e]; exact keyOf5 h5
theorem memo_look {w : World} {b n : Nat} {f : List Int → Int} (h : Memo w b n f) {pl : List Int} (h5 : Key5 pl) :
    ∃ bb : Bool, (Instr.lookup 145 (.map (some b)) (.agg (vals pl)) true).run Try.prog w = .ok (.tuple #[.int .i64 (if bb then f pl else 0), .bool bb]) w := by
  obtain ⟨es, clock, hb, hs, hr⟩ := h
  obtain ⟨kl, hk⟩ := keyOf5 h5
  rcases key5_law.find w hk es.toList (memo_keys hr) with ⟨h1, h2⟩ | ⟨j, e0, h1, h2, h3⟩
  · exact ⟨false, by simp [Instr.lookup, run_underlying Try.underlying145, MapKept.run_getObj_map hb, key5_law.check w _ hk, h1, Result.andThen]⟩
  · obtain ⟨pl', _, e1, e2⟩ := hr e0 (List.mem_of_getElem? h2)
    obtain rfl := vals_inj (e1.symm.trans h3)
    exact ⟨true, by simp [Instr.lookup, run_underlying Try.underlying145, MapKept.run_getObj_map hb, key5_law.check w _ hk, h1, e2, Result.andThen]⟩
theorem memo_put {w : World} {b n : Nat} {f : List Int → Int} (h : Memo w b n f) {pl : List Int} (h5 : Key5 pl) :
    ∃ w', (Instr.mapUpdate 145 (.map (some b)) (.agg (vals pl)) (.int .i64 (f pl))).run Try.prog w = .ok () w' ∧ Memo w' b (n + 1) f ∧ w.grownBy w' (some b) := by
  obtain ⟨es, clock, hb, hs, hr⟩ := h
  obtain ⟨kl, hk⟩ := keyOf5 h5
  rcases key5_law.find w hk es.toList (memo_keys hr) with ⟨h1, h2⟩ | ⟨j, e0, h1, h2, h3⟩
  · refine ⟨setBlock w b (.map (es.push ⟨.agg (vals pl), .int .i64 (f pl), clock⟩) (clock + 1)), ?_, ⟨_, _, heap_setBlock_same hb _, by simp; omega, fun x hx => ?_⟩, ⟨rfl, rfl, rfl, by simp [setBlock], fun i _ hi => heap_setBlock_other hb _ (fun e => hi (by rw [e]))⟩⟩
    · simp [Instr.mapUpdate, run_underlying Try.underlying145, MapKept.run_getObj_map hb, key5_law.check w false hk, h1, MapKept.run_setObj_map _ hb, Result.andThen, setBlock]
    · simp only [Array.toList_push, List.mem_append, List.mem_singleton] at hx
      rcases hx with hx | rfl
      · exact hr x hx
      · exact ⟨pl, h5, rfl, rfl⟩
  · have hj : es[j]? = some e0 := by simpa using h2
    refine ⟨setBlock w b (.map (es.modify j (fun e' => { e' with key := .agg (vals pl), val := .int .i64 (f pl) })) clock), ?_, ⟨_, _, heap_setBlock_same hb _, by simp; omega, fun x hx => ?_⟩, ⟨rfl, rfl, rfl, by simp [setBlock], fun i _ hi => heap_setBlock_other hb _ (fun e => hi (by rw [e]))⟩⟩
    · simp [Instr.mapUpdate, run_underlying Try.underlying145, MapKept.run_getObj_map hb, key5_law.check w false hk, h1, hj, h3, key5_law.stays w hk, MapKept.run_setObj_map _ hb, Result.andThen, setBlock]
    · rcases MapFrom.mem_modify hx with hx | ⟨e', _, rfl⟩
      · exact hr x hx
      · exact ⟨pl, h5, rfl, rfl⟩
section
variable {w : World} {ops : Array Oper} {rest : List Oper} {o : Oper} {a : Act} {Q : Exit → Act → World → Prop}
theorem wpList_look_memo (hg : o.guard = none) (m x : Operand) (hop : o.op = Op.lookup 145 m x true) (b n : Nat) (f : List Int → Int) (hm : a.eval m = .map (some b)) (h : Memo w b n f) (pl : List Int) (h5 : Key5 pl) (hx : a.eval x = .agg (vals pl))
    (hK : ∀ bb : Bool, wpList Try.prog ops Q rest (a.put o.dst (.tuple #[.int .i64 (if bb then f pl else 0), .bool bb])) w) : wpList Try.prog ops Q (o :: rest) a w := by
  refine wpList_plain hg fun K' hK' => ?_
  obtain ⟨bb, hrun⟩ := memo_look h h5
  unfold Oper.wp
  simp [execOp, hop, hm, hx, hrun, Result.andThen]
  exact hK' _ _ (hK bb)
theorem wpList_put_memo (hg : o.guard = none) (m x v : Operand) (hop : o.op = Op.mapUpdate 145 m x v) (b n : Nat) (f : List Int → Int) (hm : a.eval m = .map (some b)) (h : Memo w b n f) (pl : List Int) (h5 : Key5 pl) (hx : a.eval x = .agg (vals pl)) (hv : a.eval v = .int .i64 (f pl))
    (hK : ∀ w', Memo w' b (n + 1) f → KC w w' → StepB b w w' → wpList Try.prog ops Q rest (a.put o.dst undef) w') : wpList Try.prog ops Q (o :: rest) a w := by
  refine wpList_plain hg fun K' hK' => ?_
  obtain ⟨w', hrun, r1, r2⟩ := memo_put h h5
  have hkc : KC w w' := by
    obtain ⟨es, clock, hb, _⟩ := h
    exact KC.of_grown r2 hb
  unfold Oper.wp
  simp [execOp, hop, hm, hx, hv, hrun, Result.andThen]
  exact hK' _ _ (hK w' r1 hkc r2)
end
end Go.Proofs.Ytlkdmcdnkoiflaa

/- hasRoom, sure. -/
namespace Go.Proofs.Ytlkdmcdnkoiflaa
open Go.RowKit Go.Lib

/-- An offer as it lies. -/
def offC (p : PlM) (t : TrM) (A : Option Addr) (n c : Nat) (size : Int) (mb : Nat) : List Value := p.cells ++ t.cells ++ [.slice A n c, .int .i64 size, .map (some mb)]
/-- Is there room, at least where size i is planted? -/
def roomAt (p : PlM) (pl : List Int) (i : Nat) : Bool := decide (pl.getD i 0 + (p.s.l.getD i (0, 0)).2 - (p.s.l.getD i (0, 0)).1 ≤ p.r.l.getD i 0)
def roomB (p : PlM) (pl : List Int) : Bool := (List.range p.s.l.length).all (roomAt p pl)
theorem room_hit {p : PlM} {pl : List Int} {k : Nat} (hk : k < p.s.l.length) (h : roomAt p pl k = false) : roomB p pl = false :=
  List.all_eq_false.2 ⟨k, List.mem_range.2 hk, by rw [h]; simp⟩
theorem room_miss {p : PlM} {pl : List Int} (h : ∀ k, k < p.s.l.length → roomAt p pl k = true) : roomB p pl = true :=
  List.all_eq_true.2 fun k hk => h k (List.mem_range.1 hk)
theorem room_of {p : PlM} {pl : List Int} {k : Nat} {q : Int × Int} {m v : Int} {bb : Bool} (hq : p.s.l[k]? = some q) (hm : p.r.l[k]? = some m) (hv : pl[k]? = some v) (hb : bb = decide (m < v + q.2 - q.1)) : roomAt p pl k = !bb := by
  unfold roomAt
  rw [at_getD hq, at_getD hm, at_getD hv, hb]
  by_cases hc : m < v + q.2 - q.1
  · rw [decide_eq_true hc, decide_eq_false (by omega)]; rfl
  · rw [decide_eq_false hc, decide_eq_true (by omega)]; rfl
set_option maxRecDepth 100000 in
set_option maxHeartbeats 1000000 in
theorem hasRoom_any (p : PlM) (t : TrM) (A : Option Addr) (n c : Nat) (size : Int) (mb : Nat) (pl : List Int) (w : World) (hp : p.At w w.heap.size) (hv : p.Valid) (h5 : pl.length = 5) (hb : ∀ i, i < p.s.l.length → 0 ≤ pl.getD i 0 ∧ pl.getD i 0 ≤ 100000000) :
    Calls Try.prog 112 #[.agg (offC p t A n c size mb).toArray, .agg (vals pl)] w fun e w' => e = .returned (.bool (roomB p pl)) ∧ Below w.heap.size w w' := by
  have hn5 := hv.ok.n
  have hn5z : (p.s.l.length : Int) ≤ 5 := by omega
  have l1 : Lies ((w.alloc (.cells (offC p t A n c size mb).toArray 147)).alloc (.cells (vals pl) 120)) (w.heap.size + 1) 120 (vals pl) := Lies.fresh' (by simp)
  have l0 : Lies ((w.alloc (.cells (offC p t A n c size mb).toArray 147)).alloc (.cells (vals pl) 120)) w.heap.size 147 (offC p t A n c size mb).toArray := (Lies.fresh _ _ _).alloc _
  have b0 : Below w.heap.size w ((w.alloc (.cells (offC p t A n c size mb).toArray 147)).alloc (.cells (vals pl) 120)) := (by repeat (first | (with_reducible assumption) | (with_reducible exact Below.refl _ _) | (with_reducible refine Below.drew ?_) | (with_reducible refine below_drewN ?_ _) | ((with_reducible refine Below.setCell ?_ ?_ _); rotate_left; focus (first | (simp; done) | (simp; omega) | omega)) | ((with_reducible refine Below.alloc ?_ ?_ _); rotate_left; focus (first | (simp; done) | (simp; omega) | omega))))
  have HP := Lib.hid hp
  have HV := Lib.hid hv
  have H5 := Lib.hid h5
  have HB := Lib.hid hb
  have L0 := Lib.hid l0
  have L1 := Lib.hid l1
  have B0 := Lib.hid b0
  clear hp hv h5 hb l0 l1 b0 hn5
  unfold offC PlM.cells TrM.cells
  go_enter Try.func112, Try.ntmps112
  go_wp2
  go_loopw [5, 6, 12] (fun _ _ i wr => ∃ k : Nat, k ≤ p.s.l.length ∧ i = .int .i64 k ∧ Aside (∀ j, j < k → roomAt p pl j = true) ∧ Aside (Below w.heap.size w wr) ∧ Aside (Lies wr w.heap.size 147 (offC p t A n c size mb).toArray) ∧ Aside (Lies wr (w.heap.size + 1) 120 (vals pl))) (fun _ _ i _ => p.s.l.length - (intOf i).toNat)
  case atStart => exact ⟨0, by omega, rfl, fun j h => absurd h (by omega), B0.out, L0.out, L1.out⟩
  case round =>
    obtain ⟨k, hk, rfl, hh, hbw, hl0, hl1⟩ := hrel
    have HH := Lib.hid hh.out
    have HBW := Lib.hid hbw.out
    have HL0 := Lib.hid hl0.out
    have HL1 := Lib.hid hl1.out
    clear hh hbw hl0 hl1 L0 L1 B0
    by_cases hlt : k < p.s.l.length
    · have hltz : (k : Int) < (p.s.l.length : Int) := by omega
      have hk0 : (0 : Int) ≤ (k : Int) := by omega
      have hkr : (k : Int) < (p.r.l.length : Int) := by have := HV.out.ok.r; omega
      obtain ⟨q, hq⟩ : ∃ q, p.s.l[k]? = some q := ⟨p.s.l[k], by simp [hlt]⟩
      obtain ⟨m, hm⟩ : ∃ m, p.r.l[k]? = some m := ⟨p.r.l[k]'(by omega), by simp⟩
      obtain ⟨v, hvv⟩ : ∃ v, pl[k]? = some v := ⟨pl[k]'(by have := H5.out; omega), by simp⟩
      obtain ⟨b1, o1, e1, hb1, c0, c1⟩ := HP.out.s.cellR hq
      obtain ⟨b2, o2, e2, hb2, c2⟩ := HP.out.r.cell1 hm
      have l2 : wr.cell? ⟨b1, o1 + k * 2, none⟩ = some (.int .i64 q.1) := by rw [HBW.out.cell (p := ⟨b1, o1 + k * 2, none⟩) hb1]; exact c0
      have l3 : wr.cell? ⟨b1, o1 + k * 2 + 1, none⟩ = some (.int .i64 q.2) := by rw [HBW.out.cell (p := ⟨b1, o1 + k * 2 + 1, none⟩) hb1]; exact c1
      have hqb := HV.out.sb q (List.mem_of_getElem? hq)
      have hq0 := hqb.1
      have hq1 := hqb.2.1
      have hq2 := hqb.2.2
      have hmb := HV.out.ok.rb m (List.mem_of_getElem? hm)
      have hm0 := hmb.1
      have hm1 := hmb.2
      have hvb := HB.out k hlt
      rw [at_getD hvv] at hvb
      have hv0 := hvb.1
      have hv1 := hvb.2
      obtain ⟨bb, hbb⟩ : ∃ bb, bb = decide (m < v + q.2 - q.1) := ⟨_, rfl⟩
      have HR := Lib.hid (show roomAt p pl k = !bb by exact room_of hq hm hvv hbb)
      have hd : decide (m < v + q.2 - q.1) = bb := hbb.symm
      have b2r : b2 < wr.heap.size := by have := HBW.out.size; omega
      have W1 : KC wr (wr.alloc (.cells #[.int .i64 q.1, .int .i64 q.2] 39)) := (KC.refl _).alloc _
      have r0 := cell_regrown (show (wr.alloc (.cells #[.int .i64 q.1, .int .i64 q.2] 39)).cell? ⟨wr.heap.size, 0, none⟩ = some (.int .i64 q.1) by simp [World.cell?_alloc_new])
      have r1 := cell_regrown (show (wr.alloc (.cells #[.int .i64 q.1, .int .i64 q.2] 39)).cell? ⟨wr.heap.size, 1, none⟩ = some (.int .i64 q.2) by simp [World.cell?_alloc_new])
      have r2 := cell_regrown (show (wr.alloc (.cells #[.int .i64 q.1, .int .i64 q.2] 39)).cell? ⟨w.heap.size + 1, k, none⟩ = some (.int .i64 v) from W1.cell (by rw [HL1.out.at_ k]; simpa [vals] using hvv))
      have r3 := cell_regrown (show (wr.alloc (.cells #[.int .i64 q.1, .int .i64 q.2] 39)).cell? ⟨w.heap.size, 1, none⟩ = some (.slice (some ⟨b2, o2, none⟩) p.r.l.length p.r.c) from W1.cell (by rw [HL0.out.at_ 1, ← e2]; rfl))
      have r4 := cell_regrown (show (wr.alloc (.cells #[.int .i64 q.1, .int .i64 q.2] 39)).cell? ⟨b2, o2 + k, none⟩ = some (.int .i64 m) from W1.cell ((HBW.out.cell (p := ⟨b2, o2 + k, none⟩) hb2).trans c2))
      have HSZ := Lib.hid (HBW.out.alloc HBW.out.size (.cells #[.int .i64 q.1, .int .i64 q.2] 39))
      have HK0 := Lib.hid (W1.lies HL0.out)
      have HK1 := Lib.hid (W1.lies HL1.out)
      clear c0 c1 c2 hq hm hvv hqb hmb hvb hbb W1 e2 hb1 hb2
      rw [e1]
      cases bb
      · go_wp2
        refine wp_region_quiet_below (by kernel_rfl) (by kernel_rfl) ?_; (repeat (first | go_big_quiet_step ((fail)) | quiet_step ((fail)))); refine wpQuiet_nil ?_; intro wq hwq; have hbq : Below _ _ wq := (by obtain ⟨p, rfl⟩ := hwq; exact below_regrown _ _ _); clear hwq
        clear r0 r1 r2 r3 r4
        go_wp2
        go_roundw
        case rel =>
          refine ⟨k + 1, by omega, by go_num, fun j hj => ?_, HSZ.out.trans (hbq.mono HSZ.out.size), HK0.out.call hbq, HK1.out.call hbq⟩
          by_cases e : j = k
          · subst e; exact HR.out
          · exact HH.out j (by omega)
        case measure => simp [intOf]; omega
      · go_wp2
        refine wp_region_quiet_below (by kernel_rfl) (by kernel_rfl) ?_; (repeat (first | go_big_quiet_step ((fail)) | quiet_step ((fail)))); refine wpQuiet_nil ?_; intro wq hwq; have hbq : Below _ _ wq := (by obtain ⟨p, rfl⟩ := hwq; exact below_regrown _ _ _); clear hwq
        clear r0 r1 r2 r3 r4
        go_wp2
        go_ret
        exact ⟨ret_bool (room_hit hlt HR.out).symm, HSZ.out.trans (hbq.mono HSZ.out.size)⟩
    · obtain rfl : k = p.s.l.length := by omega
      have HR := Lib.hid (room_miss HH.out)
      go_wp2
      go_ret
      exact ⟨ret_bool HR.out.symm, HBW.out⟩
end Go.Proofs.Ytlkdmcdnkoiflaa

/- All purchases, one after the other (mathematics alone). -/
namespace Go.Proofs.Ytlkdmcdnkoiflaa
open Go.RowKit Go.Lib

/-- The next list, by rising lists; none behind the last one. -/
def nextD : List Nat → List Int → Option (List Int)
  | m :: ms, x :: xs =>
    match nextD ms xs with
    | some ys => some (x :: ys)
    | none => if x < (m : Int) then some ((x + 1) :: ms.map fun _ => 0) else none
  | _, _ => none
/-- All lists, rising. -/
def allQ : List Nat → List (List Int)
  | [] => [[]]
  | m :: ms => (List.range (m + 1)).flatMap fun x : Nat => (allQ ms).map fun l => (x : Int) :: l
theorem block_at {α β : Type} (L : List α) (f : Nat → α → β) : ∀ (n a b : Nat) (x : α), a < n → L[b]? = some x → ((List.range n).flatMap fun i => L.map (f i))[a * L.length + b]? = some (f a x)
  | 0, a, b, x, h, _ => absurd h (by omega)
  | n + 1, a, b, x, h, hx => by
    have hb : b < L.length := (List.getElem?_eq_some_iff.1 hx).1
    have hlen : ∀ n, ((List.range n).flatMap fun i => L.map (f i)).length = n * L.length := fun n => by
      induction n with
      | zero => simp
      | succ n ih => rw [List.range_succ, List.flatMap_append, List.length_append, ih]; simp [Nat.succ_mul]
    rw [List.range_succ, List.flatMap_append]
    by_cases e : a = n
    · subst e
      rw [List.getElem?_append_right (by rw [hlen]; omega), hlen, Nat.add_sub_cancel_left]
      simp [hx]
    · have hlt : a * L.length + b < n * L.length := by
        have : (a + 1) * L.length ≤ n * L.length := Nat.mul_le_mul_right _ (by omega)
        rw [Nat.succ_mul] at this
        omega
      rw [List.getElem?_append_left (by rw [hlen]; exact hlt)]
      exact block_at L f n a b x (by omega) hx
theorem block_len {α β : Type} (L : List α) (f : Nat → α → β) (n : Nat) : ((List.range n).flatMap fun i => L.map (f i)).length = n * L.length := by
  induction n with
  | zero => simp
  | succ n ih => rw [List.range_succ, List.flatMap_append, List.length_append, ih]; simp [Nat.succ_mul]
theorem allQ_zero : ∀ ms : List Nat, (allQ ms)[0]? = some (ms.map fun _ => 0)
  | [] => rfl
  | m :: ms => by
    have h := block_at (allQ ms) (fun x l => (x : Int) :: l) (m + 1) 0 0 _ (by omega) (allQ_zero ms)
    simpa [allQ] using h
theorem allQ_next : ∀ (ms : List Nat) (i : Nat) (q : List Int), (allQ ms)[i]? = some q → nextD ms q = (allQ ms)[i + 1]?
  | [], i, q, h => by
    have : i = 0 := by
      have := (List.getElem?_eq_some_iff.1 h).1
      simp [allQ] at this
      exact this
    subst this
    simp [allQ] at h ⊢
    subst h
    rfl
  | m :: ms, i, q, h => by
    have hpos : 0 < (allQ ms).length := (List.getElem?_eq_some_iff.1 (allQ_zero ms)).1
    have hi : i < (m + 1) * (allQ ms).length := by
      have := (List.getElem?_eq_some_iff.1 h).1
      rwa [allQ, block_len] at this
    obtain ⟨a, b, hab, hb⟩ : ∃ a b, i = a * (allQ ms).length + b ∧ b < (allQ ms).length :=
      ⟨i / (allQ ms).length, i % (allQ ms).length, by rw [Nat.mul_comm]; exact (Nat.div_add_mod i _).symm, Nat.mod_lt _ hpos⟩
    have ha : a < m + 1 := by
      refine Nat.lt_of_not_le fun hc => ?_
      have := Nat.mul_le_mul_right (allQ ms).length hc
      omega
    obtain ⟨x, hx⟩ : ∃ x, (allQ ms)[b]? = some x := ⟨(allQ ms)[b], by simp [hb]⟩
    have h1 := block_at (allQ ms) (fun x l => (x : Int) :: l) (m + 1) a b x ha hx
    have hq : q = (a : Int) :: x := by
      rw [hab] at h
      exact Option.some.inj (h.symm.trans h1)
    have ih := allQ_next ms b x hx
    subst hq
    rw [nextD]
    by_cases hb1 : b + 1 < (allQ ms).length
    · obtain ⟨y, hy⟩ : ∃ y, (allQ ms)[b + 1]? = some y := ⟨(allQ ms)[b + 1], by simp [hb1]⟩
      rw [ih, hy]
      have h2 := block_at (allQ ms) (fun x l => (x : Int) :: l) (m + 1) a (b + 1) y ha hy
      rw [hab, Nat.add_assoc]
      exact h2.symm
    · have hn : (allQ ms)[b + 1]? = none := List.getElem?_eq_none (by omega)
      rw [ih, hn]
      have hi1 : i + 1 = (a + 1) * (allQ ms).length + 0 := by rw [hab, Nat.succ_mul]; omega
      by_cases ham : a < m
      · have h2 := block_at (allQ ms) (fun x l => (x : Int) :: l) (m + 1) (a + 1) 0 _ (by omega) (allQ_zero ms)
        rw [hi1]
        show (if (a : Int) < (m : Int) then _ else _) = _
        rw [if_pos (by omega)]
        have h3 : (allQ (m :: ms))[(a + 1) * (allQ ms).length + 0]? = some (((a + 1 : Nat) : Int) :: ms.map fun _ => 0) := h2
        rw [h3]
        push_cast
        rfl
      · have : a = m := by omega
        subst this
        show (if (a : Int) < (a : Int) then _ else _) = _
        rw [if_neg (by omega), hi1]
        symm
        exact List.getElem?_eq_none (by rw [allQ, block_len]; omega)
theorem nextD_append : ∀ (a b : List Nat) (qa qb : List Int), qa.length = a.length → nextD (a ++ b) (qa ++ qb) = match nextD b qb with
    | some y => some (qa ++ y)
    | none => (nextD a qa).map (· ++ b.map fun _ => 0)
  | [], b, [], qb, _ => by
    cases h : nextD b qb <;> simp [nextD, h]
  | m :: a, b, x :: qa, qb, h => by
    have ih := nextD_append a b qa qb (by simpa using h)
    simp only [List.cons_append, nextD]
    rw [ih]
    cases h1 : nextD b qb with
    | some y => simp
    | none =>
      cases h2 : nextD a qa with
      | some y => simp
      | none =>
        by_cases h3 : x < (m : Int) <;> simp [h3]
theorem mem_allQ : ∀ (ms : List Nat) (q : List Int), q ∈ allQ ms ↔ pairedB ms q (fun m x => inB x 0 m) = true
  | [], q => by
    rw [pairedB_iff]
    cases q <;> simp [allQ]
  | m :: ms, q => by
    rw [pairedB_iff]
    cases q with
    | nil => simp [allQ]
    | cons x xs =>
      have ih := mem_allQ ms xs
      rw [pairedB_iff] at ih
      simp only [allQ, List.mem_flatMap, List.mem_range, List.mem_map, List.cons.injEq]
      constructor
      · rintro ⟨n, hn, y, hy, rfl, rfl⟩
        obtain ⟨h1, h2⟩ := ih.1 hy
        refine ⟨by simp [h1], fun i a b ha hb => ?_⟩
        cases i with
        | zero => simp at ha hb; subst ha hb; exact inB_iff.2 (by omega)
        | succ i => exact h2 i a b (by simpa using ha) (by simpa using hb)
      · rintro ⟨h1, h2⟩
        have h0 := inB_iff.1 (h2 0 m x rfl rfl)
        refine ⟨x.toNat, by omega, xs, ih.2 ⟨by simpa using h1, fun i a b ha hb => h2 (i + 1) a b (by simpa using ha) (by simpa using hb)⟩, by omega, rfl⟩
end Go.Proofs.Ytlkdmcdnkoiflaa

/- The best of a list (mathematics alone). -/
namespace Go.Proofs.Ytlkdmcdnkoiflaa
open Go.RowKit Go.Lib

/-- The first of two unless the second costs less. -/
def pickB (cost : List Int → Int) : Option (List Int) → Option (List Int) → Option (List Int)
  | none, c => c
  | some z, none => some z
  | some z, some q => if cost q < cost z then some q else some z
theorem pickB_none (cost : List Int → Int) (b : Option (List Int)) : pickB cost b none = b := by cases b <;> rfl
theorem pickB_assoc (cost : List Int → Int) (a b c : Option (List Int)) : pickB cost (pickB cost a b) c = pickB cost a (pickB cost b c) := by
  cases a with
  | none => rfl
  | some a =>
    cases b with
    | none => rfl
    | some b =>
      cases c with
      | none => rw [pickB_none, pickB_none]
      | some c =>
        simp only [pickB]
        by_cases h1 : cost b < cost a <;> by_cases h2 : cost c < cost b <;> by_cases h3 : cost c < cost a <;> simp [h1, h2, h3] <;> omega
/-- The best of those of E that f takes. -/
def bestD (cost : List Int → Int) (f : List Int → Bool) (E : List (List Int)) : Option (List Int) := E.foldl (fun b q => pickB cost b (if f q then some q else none)) none
theorem best_from (cost : List Int → Int) (f : List Int → Bool) : ∀ (E : List (List Int)) (b : Option (List Int)), E.foldl (fun b q => pickB cost b (if f q then some q else none)) b = pickB cost b (bestD cost f E)
  | [], b => by rw [List.foldl_nil]; exact (pickB_none cost b).symm
  | q :: E, b => by
    unfold bestD
    rw [List.foldl_cons, List.foldl_cons, best_from cost f E, best_from cost f E, pickB_assoc]
    rfl
theorem best_append (cost : List Int → Int) (f : List Int → Bool) (E F : List (List Int)) : bestD cost f (E ++ F) = pickB cost (bestD cost f E) (bestD cost f F) := by
  conv => lhs; unfold bestD
  rw [List.foldl_append]
  exact best_from cost f F _
theorem best_take (cost : List Int → Int) (f : List Int → Bool) {E : List (List Int)} {i : Nat} {q : List Int} (h : E[i]? = some q) : bestD cost f (E.take (i + 1)) = pickB cost (bestD cost f (E.take i)) (if f q then some q else none) := by
  rw [List.take_add_one, h, best_append]
  rfl
theorem best_spec (cost : List Int → Int) (f : List Int → Bool) : ∀ E : List (List Int), match bestD cost f E with
    | some z => z ∈ E ∧ f z = true ∧ ∀ q, q ∈ E → f q = true → cost z ≤ cost q
    | none => ∀ q, q ∈ E → f q = false
  | [] => by simp [bestD]
  | x :: E => by
    have ih := best_spec cost f E
    have h : bestD cost f (x :: E) = pickB cost (if f x then some x else none) (bestD cost f E) := by
      rw [show x :: E = [x] ++ E from rfl, best_append]
      rfl
    rw [h]
    cases hb : bestD cost f E with
    | none =>
      rw [hb] at ih
      rw [pickB_none]
      by_cases hx : f x = true
      · rw [if_pos hx]
        refine ⟨List.mem_cons_self, hx, fun q hq hf => ?_⟩
        rcases List.mem_cons.1 hq with rfl | hq
        · exact Int.le_refl _
        · have := ih q hq; rw [this] at hf; cases hf
      · rw [if_neg hx]
        intro q hq
        rcases List.mem_cons.1 hq with rfl | hq
        · simpa using hx
        · exact ih q hq
    | some z =>
      rw [hb] at ih
      obtain ⟨h1, h2, h3⟩ := ih
      by_cases hx : f x = true
      · rw [if_pos hx]
        simp only [pickB]
        by_cases hc : cost z < cost x
        · rw [if_pos hc]
          refine ⟨List.mem_cons_of_mem _ h1, h2, fun q hq hf => ?_⟩
          rcases List.mem_cons.1 hq with rfl | hq
          · omega
          · exact h3 q hq hf
        · rw [if_neg hc]
          refine ⟨List.mem_cons_self, hx, fun q hq hf => ?_⟩
          rcases List.mem_cons.1 hq with rfl | hq
          · exact Int.le_refl _
          · have := h3 q hq hf; omega
      · rw [if_neg hx]
        refine ⟨List.mem_cons_of_mem _ h1, h2, fun q hq hf => ?_⟩
        rcases List.mem_cons.1 hq with rfl | hq
        · exact absurd hf hx
        · exact h3 q hq hf
end Go.Proofs.Ytlkdmcdnkoiflaa

/- goOn from behind (mathematics alone). -/
namespace Go.Proofs.Ytlkdmcdnkoiflaa
open Go.RowKit Go.Lib

/-- A list of which all from j on is zero. -/
def zeroB (q : List Int) (j : Nat) : List Int := q.take j ++ List.replicate (q.length - j) 0
theorem zeroB_length (q : List Int) {j : Nat} (h : j ≤ q.length) : (zeroB q j).length = q.length := by
  unfold zeroB
  rw [List.length_append, List.length_take, List.length_replicate]
  omega
theorem zeroB_full (q : List Int) : zeroB q q.length = q := by simp [zeroB]
theorem take_next {q : List Int} {j : Nat} {x : Int} (hx : q[j]? = some x) : q.take (j + 1) = q.take j ++ [x] := by
  rw [List.take_add_one, hx]; rfl
theorem zeroB_at {q : List Int} {j : Nat} {x : Int} (hx : q[j]? = some x) : (zeroB q (j + 1))[j]? = some x := by
  have hj := (List.getElem?_eq_some_iff.1 hx).1
  unfold zeroB
  rw [take_next hx, List.append_assoc, List.getElem?_append_right (by rw [List.length_take]; omega), List.length_take, Nat.min_eq_left (by omega), Nat.sub_self]
  rfl
theorem zeroB_split {q : List Int} {j : Nat} {x : Int} (hx : q[j]? = some x) : zeroB q (j + 1) = q.take j ++ x :: List.replicate (q.length - (j + 1)) 0 := by
  unfold zeroB
  rw [take_next hx, List.append_assoc]
  rfl
theorem set_mid {α : Type} (a b : List α) (x y : α) {j : Nat} (hj : a.length = j) : (a ++ x :: b).set j y = a ++ y :: b := by
  subst hj
  simp
theorem zeroB_zero {q : List Int} {j : Nat} {x : Int} (hx : q[j]? = some x) : (zeroB q (j + 1)).set j 0 = zeroB q j := by
  have hj := (List.getElem?_eq_some_iff.1 hx).1
  rw [zeroB_split hx, set_mid _ _ _ _ (by rw [List.length_take]; omega)]
  unfold zeroB
  rw [show q.length - j = (q.length - (j + 1)) + 1 by omega, List.replicate_succ]
theorem zeroB_set {q : List Int} {j : Nat} {x : Int} (hx : q[j]? = some x) (y : Int) : (zeroB q (j + 1)).set j y = q.take j ++ y :: List.replicate (q.length - (j + 1)) 0 := by
  have hj := (List.getElem?_eq_some_iff.1 hx).1
  rw [zeroB_split hx, set_mid _ _ _ _ (by rw [List.length_take]; omega)]
theorem next_none {ms : List Nat} {q : List Int} {j m : Nat} {x : Int} (hm : ms[j]? = some m) (hx : q[j]? = some x) (hn : nextD (ms.drop (j + 1)) (q.drop (j + 1)) = none) (h : ¬ x < (m : Int)) : nextD (ms.drop j) (q.drop j) = none := by
  have h1 := (List.getElem?_eq_some_iff.1 hm)
  have h2 := (List.getElem?_eq_some_iff.1 hx)
  rw [List.drop_eq_getElem_cons h1.1, List.drop_eq_getElem_cons h2.1, h1.2, h2.2]
  simp only [nextD]
  rw [hn]
  exact if_neg h
theorem next_some {ms : List Nat} {q : List Int} {j m : Nat} {x : Int} (hl : ms.length = q.length) (hm : ms[j]? = some m) (hx : q[j]? = some x) (hn : nextD (ms.drop (j + 1)) (q.drop (j + 1)) = none) (h : x < (m : Int)) : nextD ms q = some (q.take j ++ (x + 1) :: List.replicate (q.length - (j + 1)) 0) := by
  have h1 := (List.getElem?_eq_some_iff.1 hm)
  have h2 := (List.getElem?_eq_some_iff.1 hx)
  have e := nextD_append (ms.take j) (ms.drop j) (q.take j) (q.drop j) (by rw [List.length_take, List.length_take, hl])
  rw [List.take_append_drop, List.take_append_drop] at e
  rw [e]
  rw [List.drop_eq_getElem_cons h1.1, List.drop_eq_getElem_cons h2.1, h1.2, h2.2]
  simp only [nextD]
  rw [hn]
  simp only [if_pos h]
  congr 2
  rw [← hl, List.map_const', List.length_drop]
/-- The list that goOn leaves. -/
def goQ (ms : List Nat) (q : List Int) : List Int := match nextD ms q with | some y => y | none => zeroB q 0
theorem next_len : ∀ (ms : List Nat) (q y : List Int), nextD ms q = some y → ms.length = q.length → y.length = q.length
  | [], q, y, h, _ => by simp [nextD] at h
  | m :: ms, [], y, h, _ => by simp [nextD] at h
  | m :: ms, x :: xs, y, h, hl => by
    simp only [nextD] at h
    cases hn : nextD ms xs with
    | some z =>
      rw [hn] at h
      have := next_len ms xs z hn (by simpa using hl)
      simp only [Option.some.injEq] at h
      rw [← h]; simp [this]
    | none =>
      rw [hn] at h
      simp only [Option.ite_none_right_eq_some, Option.some.injEq] at h
      rw [← h.2]; simpa using hl
theorem goQ_length {ms : List Nat} {q : List Int} (hl : ms.length = q.length) : (goQ ms q).length = q.length := by
  unfold goQ
  split
  · rename_i y hy; exact next_len _ _ _ hy hl
  · exact zeroB_length q (Nat.zero_le _)
/-- What slices.Backward gives. -/
def backL {α : Type} [Inhabited α] (l : List α) : List (Nat × α) := (List.range l.length).map fun k => (l.length - 1 - k, l.getD (l.length - 1 - k) default)
theorem backL_length {α : Type} [Inhabited α] (l : List α) : (backL l).length = l.length := by simp [backL]
theorem backL_at {α : Type} [Inhabited α] {l : List α} {k : Nat} (hk : k < l.length) {x : α} (hx : l[l.length - 1 - k]? = some x) : (backL l)[k]? = some (l.length - 1 - k, x) := by
  simp [backL, hk, List.getD, hx]
end Go.Proofs.Ytlkdmcdnkoiflaa
