/- law.Few. -/
import Derived.Test.YtkjhofbjjogmlaaYF
import Derived.Test.YtkjhofbjjogmlaaYD
import Derived.Test.YtkjhofbjjogmlaaYA
import Derived.Test.YtkjhofbjjogmlaaYE
namespace Go.Proofs.Ytkjhofbjjogmlaa
open Go.RowKit Go.Lib

/-- Is a row not valid, or small? -/
def RwD.fewB (r : RwD) : Bool := r.thin && (decide (r.fault ≠ 0) || (decide (r.n ≤ 4) && decide (r.ws.length ≤ 4)) || (decide (r.n ≤ 5) && decide (r.ws.length ≤ 2)))
set_option maxRecDepth 100000 in
set_option maxHeartbeats 4000000 in
theorem few_thick (r : RwM) (w : World) (hw : r.ws.l.length ≤ maxLen) (hn : r.ns.l.length ≤ maxLen) (hd : r.dug.l.length ≤ maxLen) (ht : r.d.thin = false) : Calls Try.prog 15 #[.agg r.cells.toArray] w fun e w' => e = .returned (.bool false) ∧ Below w.heap.size w w' := by
  have l0 : Lies (w.alloc (.cells r.cells.toArray 26)) w.heap.size 26 r.cells.toArray := Lies.fresh _ _ _
  have b0 : Below w.heap.size w (w.alloc (.cells r.cells.toArray 26)) := (by repeat (first | (with_reducible assumption) | (with_reducible exact Below.refl _ _) | (with_reducible refine Below.drew ?_) | (with_reducible refine below_drewN ?_ _) | ((with_reducible refine Below.setCell ?_ ?_ _); rotate_left; focus (first | (simp; done) | (simp; omega) | omega)) | ((with_reducible refine Below.alloc ?_ ?_ _); rotate_left; focus (first | (simp; done) | (simp; omega) | omega))))
  have hT := fun W => Thin_any r W hw hn hd
  rw [ht] at hT
  have HT := Lib.hid hT
  have L0 := Lib.hid l0
  have B0 := Lib.hid b0
  clear l0 b0 hT ht
  go_enter Try.func15, Try.ntmps15
  go_upto_region 1 with (fail)
  change Code.wp _ _ _ _ (w.alloc (.cells r.cells.toArray 26))
  generalize w.alloc (.cells r.cells.toArray 26) = w0 at *
  go_wp2_with (first
    | ((fail_if_success (have hxx := B1)); refine wpList_load_row (o := ⟨some 3, _, _, _, _, _⟩) ?_ 26 (.tmp 1) ?_ w.heap.size ?_ 26 r.cells.toArray (0, 0) _ L0.out Try.underlying26 rfl size_refrow ?_; rfl; rfl; rfl)
    | (go_at_call 44; refine (HT.out _).mono ?_; rintro e w1 ⟨rfl, hb1⟩; have B1 := Lib.hid (B0.out.trans (hb1.mono B0.out.size)); clear hb1))
  go_ret
  exact ⟨rfl, B1.out⟩
set_option maxRecDepth 100000 in
set_option maxHeartbeats 8000000 in
theorem few_thin (r : RwM) (w : World) (hr : r.At w w.heap.size) (ht : r.d.thin = true) (h35 : r.ws.l.length ≤ 35) : Calls Try.prog 15 #[.agg r.cells.toArray] w fun e w' => e = .returned (.bool r.d.fewB) ∧ Below w.heap.size w w' := by
  have l0 : Lies (w.alloc (.cells r.cells.toArray 26)) w.heap.size 26 r.cells.toArray := Lies.fresh _ _ _
  have b0 : Below w.heap.size w (w.alloc (.cells r.cells.toArray 26)) := (by repeat (first | (with_reducible assumption) | (with_reducible exact Below.refl _ _) | (with_reducible refine Below.drew ?_) | (with_reducible refine below_drewN ?_ _) | ((with_reducible refine Below.setCell ?_ ?_ _); rotate_left; focus (first | (simp; done) | (simp; omega) | omega)) | ((with_reducible refine Below.alloc ?_ ?_ _); rotate_left; focus (first | (simp; done) | (simp; omega) | omega))))
  have hT := fun W => Thin_any r W (by have := hr.lw; unfold maxLen; omega) (by have := hr.ln; unfold maxLen; omega) (by have := hr.ld; unfold maxLen; omega)
  have hF := fun W (hb : Below w.heap.size w W) => refFault_any r W (hr.below hb hb.size)
  rw [ht] at hT
  have hq : r.d.fewB = (decide (r.d.fault ≠ 0) || (decide (r.n ≤ 4) && decide ((r.ws.l.length : Int) ≤ 4)) || (decide (r.n ≤ 5) && decide ((r.ws.l.length : Int) ≤ 2))) := by
    unfold RwD.fewB
    rw [ht, Bool.true_and]
    have e1 : r.d.n = r.n := rfl
    have e2 : r.d.ws.length = r.ws.l.length := rfl
    rw [e1, e2]
    congr 1
    · congr 2; exact decide_eq_decide.2 (by omega)
    · congr 1; exact decide_eq_decide.2 (by omega)
  rw [hq]
  have hlz : (r.ws.l.length : Int) ≤ 35 := by omega
  generalize r.d.fault = fl at *
  have HT := Lib.hid hT
  have HF := Lib.hid hF
  have L0 := Lib.hid l0
  have B0 := Lib.hid b0
  clear l0 b0 hT hF ht hr hq
  by_cases hf : fl = 0
  · have hfb : ((fl : Int) != 0) = false := by simp [hf]
    by_cases h4 : r.n ≤ 4
    · by_cases hw4 : (r.ws.l.length : Int) ≤ 4
      · go_enter Try.func15, Try.ntmps15
        go_upto_region 1 with (fail)
        change Code.wp _ _ _ _ (w.alloc (.cells r.cells.toArray 26))
        generalize w.alloc (.cells r.cells.toArray 26) = w0 at *
        go_wp2_with (first
          | ((fail_if_success (have hxx := B1)); refine wpList_load_row (o := ⟨some 3, _, _, _, _, _⟩) ?_ 26 (.tmp 1) ?_ w.heap.size ?_ 26 r.cells.toArray (0, 0) _ L0.out Try.underlying26 rfl size_refrow ?_; rfl; rfl; rfl)
          | (go_at_call 44; refine (HT.out _).mono ?_; rintro e w1 ⟨rfl, hb1⟩; have B1 := Lib.hid (B0.out.trans (hb1.mono B0.out.size)); have L1 := Lib.hid (L0.out.call hb1); clear hb1)
          | ((fail_if_success (have hxx := B2)); refine wpList_load_rowG (o := ⟨some 6, _, _, _, _, _⟩) ?_ 26 (.tmp 1) ?_ w.heap.size ?_ 26 r.cells.toArray (0, 0) _ L1.out Try.underlying26 rfl size_refrow ?_; kernel_rfl; rfl; rfl)
          | (go_at_call 22; refine (HF.out _ B1.out).mono ?_; rintro e w2 ⟨rfl, hb2⟩; have B2 := Lib.hid (B1.out.trans (hb2.mono B1.out.size)); have L2 := Lib.hid (L1.out.call hb2); have a0 : w2.cell? ⟨w.heap.size, 0, none⟩ = some (.int .i64 r.n) := L2.out.at_ 0; have a1 : w2.cell? ⟨w.heap.size, 1, none⟩ = some (.slice r.ws.A r.ws.l.length r.ws.c) := L2.out.at_ 1; clear hb2))
        go_ret
        exact ⟨ret_bool (by simp [hf, h4, hw4]), B2.out⟩
      · have hw2 : ¬ (r.ws.l.length : Int) ≤ 2 := by omega
        go_enter Try.func15, Try.ntmps15
        go_upto_region 1 with (fail)
        change Code.wp _ _ _ _ (w.alloc (.cells r.cells.toArray 26))
        generalize w.alloc (.cells r.cells.toArray 26) = w0 at *
        have h5 : r.n ≤ 5 := by omega
        go_wp2_with (first
          | ((fail_if_success (have hxx := B1)); refine wpList_load_row (o := ⟨some 3, _, _, _, _, _⟩) ?_ 26 (.tmp 1) ?_ w.heap.size ?_ 26 r.cells.toArray (0, 0) _ L0.out Try.underlying26 rfl size_refrow ?_; rfl; rfl; rfl)
          | (go_at_call 44; refine (HT.out _).mono ?_; rintro e w1 ⟨rfl, hb1⟩; have B1 := Lib.hid (B0.out.trans (hb1.mono B0.out.size)); have L1 := Lib.hid (L0.out.call hb1); clear hb1)
          | ((fail_if_success (have hxx := B2)); refine wpList_load_rowG (o := ⟨some 6, _, _, _, _, _⟩) ?_ 26 (.tmp 1) ?_ w.heap.size ?_ 26 r.cells.toArray (0, 0) _ L1.out Try.underlying26 rfl size_refrow ?_; kernel_rfl; rfl; rfl)
          | (go_at_call 22; refine (HF.out _ B1.out).mono ?_; rintro e w2 ⟨rfl, hb2⟩; have B2 := Lib.hid (B1.out.trans (hb2.mono B1.out.size)); have L2 := Lib.hid (L1.out.call hb2); have a0 : w2.cell? ⟨w.heap.size, 0, none⟩ = some (.int .i64 r.n) := L2.out.at_ 0; have a1 : w2.cell? ⟨w.heap.size, 1, none⟩ = some (.slice r.ws.A r.ws.l.length r.ws.c) := L2.out.at_ 1; clear hb2))
        go_ret
        exact ⟨ret_bool (by simp [hf, h4, h5]; try omega), B2.out⟩
    · by_cases h5 : r.n ≤ 5
      · go_enter Try.func15, Try.ntmps15
        go_upto_region 1 with (fail)
        change Code.wp _ _ _ _ (w.alloc (.cells r.cells.toArray 26))
        generalize w.alloc (.cells r.cells.toArray 26) = w0 at *
        go_wp2_with (first
          | ((fail_if_success (have hxx := B1)); refine wpList_load_row (o := ⟨some 3, _, _, _, _, _⟩) ?_ 26 (.tmp 1) ?_ w.heap.size ?_ 26 r.cells.toArray (0, 0) _ L0.out Try.underlying26 rfl size_refrow ?_; rfl; rfl; rfl)
          | (go_at_call 44; refine (HT.out _).mono ?_; rintro e w1 ⟨rfl, hb1⟩; have B1 := Lib.hid (B0.out.trans (hb1.mono B0.out.size)); have L1 := Lib.hid (L0.out.call hb1); clear hb1)
          | ((fail_if_success (have hxx := B2)); refine wpList_load_rowG (o := ⟨some 6, _, _, _, _, _⟩) ?_ 26 (.tmp 1) ?_ w.heap.size ?_ 26 r.cells.toArray (0, 0) _ L1.out Try.underlying26 rfl size_refrow ?_; kernel_rfl; rfl; rfl)
          | (go_at_call 22; refine (HF.out _ B1.out).mono ?_; rintro e w2 ⟨rfl, hb2⟩; have B2 := Lib.hid (B1.out.trans (hb2.mono B1.out.size)); have L2 := Lib.hid (L1.out.call hb2); have a0 : w2.cell? ⟨w.heap.size, 0, none⟩ = some (.int .i64 r.n) := L2.out.at_ 0; have a1 : w2.cell? ⟨w.heap.size, 1, none⟩ = some (.slice r.ws.A r.ws.l.length r.ws.c) := L2.out.at_ 1; clear hb2))
        go_ret
        exact ⟨ret_bool (by simp []; try omega), B2.out⟩
      · go_enter Try.func15, Try.ntmps15
        go_upto_region 1 with (fail)
        change Code.wp _ _ _ _ (w.alloc (.cells r.cells.toArray 26))
        generalize w.alloc (.cells r.cells.toArray 26) = w0 at *
        go_wp2_with (first
          | ((fail_if_success (have hxx := B1)); refine wpList_load_row (o := ⟨some 3, _, _, _, _, _⟩) ?_ 26 (.tmp 1) ?_ w.heap.size ?_ 26 r.cells.toArray (0, 0) _ L0.out Try.underlying26 rfl size_refrow ?_; rfl; rfl; rfl)
          | (go_at_call 44; refine (HT.out _).mono ?_; rintro e w1 ⟨rfl, hb1⟩; have B1 := Lib.hid (B0.out.trans (hb1.mono B0.out.size)); have L1 := Lib.hid (L0.out.call hb1); clear hb1)
          | ((fail_if_success (have hxx := B2)); refine wpList_load_rowG (o := ⟨some 6, _, _, _, _, _⟩) ?_ 26 (.tmp 1) ?_ w.heap.size ?_ 26 r.cells.toArray (0, 0) _ L1.out Try.underlying26 rfl size_refrow ?_; kernel_rfl; rfl; rfl)
          | (go_at_call 22; refine (HF.out _ B1.out).mono ?_; rintro e w2 ⟨rfl, hb2⟩; have B2 := Lib.hid (B1.out.trans (hb2.mono B1.out.size)); have L2 := Lib.hid (L1.out.call hb2); have a0 : w2.cell? ⟨w.heap.size, 0, none⟩ = some (.int .i64 r.n) := L2.out.at_ 0; have a1 : w2.cell? ⟨w.heap.size, 1, none⟩ = some (.slice r.ws.A r.ws.l.length r.ws.c) := L2.out.at_ 1; clear hb2))
        go_ret
        exact ⟨ret_bool (by simp []; try omega), B2.out⟩
  · have hfb : ((fl : Int) != 0) = true := by simpa using hf
    go_enter Try.func15, Try.ntmps15
    go_upto_region 1 with (fail)
    change Code.wp _ _ _ _ (w.alloc (.cells r.cells.toArray 26))
    generalize w.alloc (.cells r.cells.toArray 26) = w0 at *
    go_wp2_with (first
      | ((fail_if_success (have hxx := B1)); refine wpList_load_row (o := ⟨some 3, _, _, _, _, _⟩) ?_ 26 (.tmp 1) ?_ w.heap.size ?_ 26 r.cells.toArray (0, 0) _ L0.out Try.underlying26 rfl size_refrow ?_; rfl; rfl; rfl)
      | (go_at_call 44; refine (HT.out _).mono ?_; rintro e w1 ⟨rfl, hb1⟩; have B1 := Lib.hid (B0.out.trans (hb1.mono B0.out.size)); have L1 := Lib.hid (L0.out.call hb1); clear hb1)
      | ((fail_if_success (have hxx := B2)); refine wpList_load_rowG (o := ⟨some 6, _, _, _, _, _⟩) ?_ 26 (.tmp 1) ?_ w.heap.size ?_ 26 r.cells.toArray (0, 0) _ L1.out Try.underlying26 rfl size_refrow ?_; kernel_rfl; rfl; rfl)
      | (go_at_call 22; refine (HF.out _ B1.out).mono ?_; rintro e w2 ⟨rfl, hb2⟩; have B2 := Lib.hid (B1.out.trans (hb2.mono B1.out.size)); have L2 := Lib.hid (L1.out.call hb2); have a0 : w2.cell? ⟨w.heap.size, 0, none⟩ = some (.int .i64 r.n) := L2.out.at_ 0; have a1 : w2.cell? ⟨w.heap.size, 1, none⟩ = some (.slice r.ws.A r.ws.l.length r.ws.c) := L2.out.at_ 1; clear hb2))
    go_ret
    exact ⟨ret_bool (by simp [hf]), B2.out⟩
end Go.Proofs.Ytkjhofbjjogmlaa

namespace Go.Proofs.Ytkjhofbjjogmlaa
open Go.RowKit Go.Lib

/-- The least and the greatest number of the first lists. -/
structure LoHi (nk : List Int → Nat) (ls : List (List Int)) (i : Nat) (lo hi : Int) : Prop where
  a : ∃ l, l ∈ ls.take i ∧ lo = nk l
  b : ∃ l, l ∈ ls.take i ∧ hi = nk l
  c : ∀ l, l ∈ ls.take i → lo ≤ nk l ∧ (nk l : Int) ≤ hi
theorem mem_take_succ {ls : List (List Int)} {i : Nat} {l x : List Int} (h : ls[i]? = some l) : x ∈ ls.take (i + 1) ↔ x ∈ ls.take i ∨ x = l := by
  rw [List.take_add_one, h, List.mem_append]
  simp
theorem LoHi.one {nk : List Int → Nat} {ls : List (List Int)} {l : List Int} (h : ls[0]? = some l) : LoHi nk ls 1 (nk l) (nk l) := by
  have hm : ∀ x, x ∈ ls.take 1 ↔ x = l := fun x => by
    rw [mem_take_succ h]; simp
  exact ⟨⟨l, (hm l).2 rfl, rfl⟩, ⟨l, (hm l).2 rfl, rfl⟩, fun x hx => by rw [(hm x).1 hx]; omega⟩
theorem LoHi.next {nk : List Int → Nat} {ls : List (List Int)} {i : Nat} {lo hi : Int} {l : List Int} (h : LoHi nk ls i lo hi) (hl : ls[i]? = some l) : LoHi nk ls (i + 1) (min lo (nk l)) (max hi (nk l)) := by
  obtain ⟨⟨a, ha, ea⟩, ⟨b, hb, eb⟩, hc⟩ := h
  refine ⟨?_, ?_, fun x hx => ?_⟩
  · by_cases hle : lo ≤ nk l
    · exact ⟨a, (mem_take_succ hl).2 (.inl ha), by omega⟩
    · exact ⟨l, (mem_take_succ hl).2 (.inr rfl), by omega⟩
  · by_cases hle : (nk l : Int) ≤ hi
    · exact ⟨b, (mem_take_succ hl).2 (.inl hb), by omega⟩
    · exact ⟨l, (mem_take_succ hl).2 (.inr rfl), by omega⟩
  · rcases (mem_take_succ hl).1 hx with hx | rfl
    · have := hc x hx; omega
    · omega
theorem LoHi.done {nk : List Int → Nat} {ls : List (List Int)} {lo hi : Int} {m M : Nat} (h : LoHi nk ls ls.length lo hi) (h1 : ∀ l, l ∈ ls → m ≤ nk l ∧ nk l ≤ M) (h2 : ∃ l, l ∈ ls ∧ nk l = m) (h3 : ∃ l, l ∈ ls ∧ nk l = M) : lo = m ∧ hi = M := by
  obtain ⟨⟨a, ha, ea⟩, ⟨b, hb, eb⟩, hc⟩ := h
  rw [List.take_length] at *
  obtain ⟨x, hx, ex⟩ := h2
  obtain ⟨y, hy, ey⟩ := h3
  have c1 := hc x hx
  have c2 := hc y hy
  have c3 := h1 a ha
  have c4 := h1 b hb
  omega
end Go.Proofs.Ytkjhofbjjogmlaa

namespace Go.Proofs.Ytkjhofbjjogmlaa
open Go.RowKit Go.Lib

set_option maxRecDepth 100000 in
set_option maxHeartbeats 8000000 in
theorem IllKnows_not (r : RwM) (w : World) (hF : ∀ W, Below w.heap.size w W → Calls Try.prog 15 #[.agg r.cells.toArray] W fun e w' => e = .returned (.bool false) ∧ Below W.heap.size W w') : Calls Try.prog 4 #[.agg r.cells.toArray] w fun e w' => e = .returned (.bool true) ∧ Below w.heap.size w w' := by
  have l0 : Lies (w.alloc (.cells r.cells.toArray 26)) w.heap.size 26 r.cells.toArray := Lies.fresh _ _ _
  have b0 : Below w.heap.size w (w.alloc (.cells r.cells.toArray 26)) := (by repeat (first | (with_reducible assumption) | (with_reducible exact Below.refl _ _) | (with_reducible refine Below.drew ?_) | (with_reducible refine below_drewN ?_ _) | ((with_reducible refine Below.setCell ?_ ?_ _); rotate_left; focus (first | (simp; done) | (simp; omega) | omega)) | ((with_reducible refine Below.alloc ?_ ?_ _); rotate_left; focus (first | (simp; done) | (simp; omega) | omega))))
  have HF := Lib.hid hF
  have L0 := Lib.hid l0
  have B0 := Lib.hid b0
  clear hF l0 b0
  go_enter Try.func4, Try.ntmps4
  go_upto_region 1 with (fail)
  change Code.wp _ _ _ _ (w.alloc (.cells r.cells.toArray 26))
  generalize w.alloc (.cells r.cells.toArray 26) = w0 at *
  go_wp2_with (first
    | (refine wpList_load_row (o := ⟨some 15, _, _, _, _, _⟩) ?_ 26 (.tmp 1) ?_ w.heap.size ?_ 26 r.cells.toArray (0, 0) _ L0.out Try.underlying26 rfl size_refrow ?_; rfl; rfl; rfl)
    | (go_at_call 15; refine (HF.out _ B0.out).mono ?_; rintro e w1 ⟨rfl, hb1⟩)
    | (go_at_call 16; refine (awake_any _).mono ?_; rintro e w2 ⟨rfl, hb2⟩))
  go_ret
  exact ⟨rfl, B0.out.trans ((hb1.trans (hb2.mono hb1.size)).mono B0.out.size)⟩
set_option maxRecDepth 100000 in
set_option maxHeartbeats 8000000 in
theorem IllKnows_bad (r : RwM) (w : World) (hr : r.At w w.heap.size) (ht : ThinM r) (hF : ∀ W, Below w.heap.size w W → Calls Try.prog 15 #[.agg r.cells.toArray] W fun e w' => e = .returned (.bool true) ∧ Below W.heap.size W w') (hf : r.d.fault ≠ 0) : Calls Try.prog 4 #[.agg r.cells.toArray] w fun e w' => e = .returned (.bool true) ∧ Below w.heap.size w w' := by
  have l0 : Lies (w.alloc (.cells r.cells.toArray 26)) w.heap.size 26 r.cells.toArray := Lies.fresh _ _ _
  have b0 : Below w.heap.size w (w.alloc (.cells r.cells.toArray 26)) := (by repeat (first | (with_reducible assumption) | (with_reducible exact Below.refl _ _) | (with_reducible refine Below.drew ?_) | (with_reducible refine below_drewN ?_ _) | ((with_reducible refine Below.setCell ?_ ?_ _); rotate_left; focus (first | (simp; done) | (simp; omega) | omega)) | ((with_reducible refine Below.alloc ?_ ?_ _); rotate_left; focus (first | (simp; done) | (simp; omega) | omega))))
  have her : r.d.err ≠ 0 := by rw [err_bad hf]; exact hf
  have hK := fun q w0 W (h : LawR r w0 q W) => Known_of_no h her
  have hC := fun q w0 W (h : LawR r w0 q W) => Count_of_no h her
  rw [err_bad hf] at hK hC
  have hFA := fun W (hb : Below w.heap.size w W) => refFault_any r W (hr.below hb hb.size)
  have RW := Lib.hid (fun W (hb : Below w.heap.size w W) => lawRow_thin r W (hr.below hb hb.size) ht)
  generalize r.d.fault = fl at *
  have hf1 : (fl == 0) = false := by simpa using hf
  have hf2 : (fl != 0) = true := by simpa using hf
  unfold NoE at hK
  unfold NoC at hC
  have HF := Lib.hid hF
  have HK := Lib.hid hK
  have HC := Lib.hid hC
  have HFA := Lib.hid hFA
  have L0 := Lib.hid l0
  have B0 := Lib.hid b0
  clear hF l0 b0 hr ht hf her hK hC hFA
  go_enter Try.func4, Try.ntmps4
  go_upto_region 1 with (fail)
  change Code.wp _ _ _ _ (w.alloc (.cells r.cells.toArray 26))
  generalize w.alloc (.cells r.cells.toArray 26) = w0 at *
  go_upto_region 3 with (first
    | (refine wpList_load_row (o := ⟨some 15, _, _, _, _, _⟩) ?_ 26 (.tmp 1) ?_ w.heap.size ?_ 26 r.cells.toArray (0, 0) _ L0.out Try.underlying26 rfl size_refrow ?_; rfl; rfl; rfl)
    | (go_at_call 15; refine (HF.out _ B0.out).mono ?_; rintro e w1 ⟨rfl, hb1⟩))
  have L1 := Lib.hid (L0.out.call hb1)
  have B1 := Lib.hid (B0.out.trans (hb1.mono B0.out.size))
  clear hb1 L0 B0 HF
  go_upto_region 4 with (first
    | (refine wpList_load_row (o := ⟨some 20, _, _, _, _, _⟩) ?_ 26 (.tmp 1) ?_ w.heap.size ?_ 26 r.cells.toArray (0, 0) _ L1.out Try.underlying26 rfl size_refrow ?_; rfl; rfl; rfl)
    | (go_at_call_of 18 (Value.agg r.cells.toArray); refine (RW.out _ B1.out).mono ?_; rintro e w2 ⟨q2, rfl, hq2⟩)
    | (go_at_call_of 27 (Value.agg q2.cells.toArray); refine (HK.out q2 _ _ hq2).mono ?_; rintro e w3 ⟨rfl, hb3⟩))
  have D3 := Lib.hid (hq2.b.trans (hb3.mono hq2.b.size))
  have L3 := Lib.hid (L1.out.call D3.out)
  have B3 := Lib.hid (B1.out.trans (D3.out.mono B1.out.size))
  clear hq2 hb3 D3 L1 B1 HK
  go_upto_region 5 with (first
    | (refine wpList_load_row (o := ⟨some 26, _, _, _, _, _⟩) ?_ 26 (.tmp 1) ?_ w.heap.size ?_ 26 r.cells.toArray (0, 0) _ L3.out Try.underlying26 rfl size_refrow ?_; rfl; rfl; rfl)
    | (go_at_call_of 18 (Value.agg r.cells.toArray); refine (RW.out _ B3.out).mono ?_; rintro e w4 ⟨q4, rfl, hq4⟩)
    | (go_at_call_of 28 (Value.agg q4.cells.toArray); refine (HC.out q4 _ _ hq4).mono ?_; rintro e w5 ⟨rfl, hb5⟩))
  have D5 := Lib.hid (hq4.b.trans (hb5.mono hq4.b.size))
  have L5 := Lib.hid (L3.out.call D5.out)
  have B5 := Lib.hid (B3.out.trans (D5.out.mono B3.out.size))
  clear hq4 hb5 D5 L3 B3 HC RW
  go_wp2_with (first
    | ((fail_if_success (have hxx := D6)); refine wpList_load_row (o := ⟨some 32, _, _, _, _, _⟩) ?_ 26 (.tmp 1) ?_ w.heap.size ?_ 26 r.cells.toArray (0, 0) _ L5.out Try.underlying26 rfl size_refrow ?_; rfl; rfl; rfl)
    | (go_at_call_of 22 (Value.agg r.cells.toArray); refine (HFA.out _ B5.out).mono ?_; rintro e w6 ⟨rfl, hb6⟩; have D6 := Lib.hid (B5.out.trans (hb6.mono B5.out.size)))
    | (go_at_call 16; refine (awake_any _).mono ?_; rintro e w7 ⟨rfl, hb7⟩))
  go_ret
  exact ⟨by simp, D6.out.trans (hb7.mono D6.out.size)⟩
set_option maxRecDepth 100000 in
set_option maxHeartbeats 8000000 in
theorem IllKnows_sick (r : RwM) (w : World) (hr : r.At w w.heap.size) (ht : ThinM r) (hF : ∀ W, Below w.heap.size w W → Calls Try.prog 15 #[.agg r.cells.toArray] W fun e w' => e = .returned (.bool true) ∧ Below W.heap.size W w') (hf : r.d.fault = 0) (hbig : (r.d.ws.length + 2) ^ r.d.dug.length ≤ 400000) (hc : r.d.can = false) : Calls Try.prog 4 #[.agg r.cells.toArray] w fun e w' => e = .returned (.bool true) ∧ Below w.heap.size w w' := by
  have l0 : Lies (w.alloc (.cells r.cells.toArray 26)) w.heap.size 26 r.cells.toArray := Lies.fresh _ _ _
  have b0 : Below w.heap.size w (w.alloc (.cells r.cells.toArray 26)) := (by repeat (first | (with_reducible assumption) | (with_reducible exact Below.refl _ _) | (with_reducible refine Below.drew ?_) | (with_reducible refine below_drewN ?_ _) | ((with_reducible refine Below.setCell ?_ ?_ _); rotate_left; focus (first | (simp; done) | (simp; omega) | omega)) | ((with_reducible refine Below.alloc ?_ ?_ _); rotate_left; focus (first | (simp; done) | (simp; omega) | omega))))
  have her : r.d.err ≠ 0 := by rw [err_sick hf hc]; decide
  have hK := fun q w0 W (h : LawR r w0 q W) => Known_of_no h her
  have hC := fun q w0 W (h : LawR r w0 q W) => Count_of_no h her
  rw [err_sick hf hc] at hK hC
  have hFA := fun W (hb : Below w.heap.size w W) => refFault_any r W (hr.below hb hb.size)
  rw [hf] at hFA
  have hnil : r.d.allD = [] := (all_nil hf (fun n hn => (hr.kn n hn).1)).2 hc
  have hT : ∀ W, Below w.heap.size w W → Calls Try.prog 24 #[.agg r.cells.toArray, .slice none 0 0] W fun e w' => ∃ A c, e = .returned (.slice A 0 c) ∧ Below W.heap.size W w' := fun W hb => by
    have h := refTruths_any r hf hbig r.dug.l.length none 0 [] W (hr.below hb hb.size) (fun h => absurd rfl h) (fun _ => ⟨rfl, rfl⟩) (by simp) (fun o ho => by cases ho)
    refine h.mono ?_
    rintro e w' ⟨out, A, c, rfl, ho, -, hb'⟩
    have e1 : r.d.truthsD r.dug.l.length [] = [] := hnil
    rw [e1] at ho
    have e2 : out = [] := by simpa using ho
    subst e2
    exact ⟨A, c, rfl, hb'⟩
  have RW := Lib.hid (fun W (hb : Below w.heap.size w W) => lawRow_thin r W (hr.below hb hb.size) ht)
  unfold NoE at hK
  unfold NoC at hC
  have HF := Lib.hid hF
  have HK := Lib.hid hK
  have HC := Lib.hid hC
  have HFA := Lib.hid hFA
  have HT := Lib.hid hT
  have L0 := Lib.hid l0
  have B0 := Lib.hid b0
  clear hF l0 b0 hr ht hf her hK hC hFA hnil hT hbig hc
  go_enter Try.func4, Try.ntmps4
  go_upto_region 1 with (fail)
  change Code.wp _ _ _ _ (w.alloc (.cells r.cells.toArray 26))
  generalize w.alloc (.cells r.cells.toArray 26) = w0 at *
  go_upto_region 3 with (first
    | (refine wpList_load_row (o := ⟨some 15, _, _, _, _, _⟩) ?_ 26 (.tmp 1) ?_ w.heap.size ?_ 26 r.cells.toArray (0, 0) _ L0.out Try.underlying26 rfl size_refrow ?_; rfl; rfl; rfl)
    | (go_at_call 15; refine (HF.out _ B0.out).mono ?_; rintro e w1 ⟨rfl, hb1⟩))
  have L1 := Lib.hid (L0.out.call hb1)
  have B1 := Lib.hid (B0.out.trans (hb1.mono B0.out.size))
  clear hb1 L0 B0 HF
  go_upto_region 4 with (first
    | (refine wpList_load_row (o := ⟨some 20, _, _, _, _, _⟩) ?_ 26 (.tmp 1) ?_ w.heap.size ?_ 26 r.cells.toArray (0, 0) _ L1.out Try.underlying26 rfl size_refrow ?_; rfl; rfl; rfl)
    | (go_at_call_of 18 (Value.agg r.cells.toArray); refine (RW.out _ B1.out).mono ?_; rintro e w2 ⟨q2, rfl, hq2⟩)
    | (go_at_call_of 27 (Value.agg q2.cells.toArray); refine (HK.out q2 _ _ hq2).mono ?_; rintro e w3 ⟨rfl, hb3⟩))
  have D3 := Lib.hid (hq2.b.trans (hb3.mono hq2.b.size))
  have L3 := Lib.hid (L1.out.call D3.out)
  have B3 := Lib.hid (B1.out.trans (D3.out.mono B1.out.size))
  clear hq2 hb3 D3 L1 B1 HK
  go_upto_region 5 with (first
    | (refine wpList_load_row (o := ⟨some 26, _, _, _, _, _⟩) ?_ 26 (.tmp 1) ?_ w.heap.size ?_ 26 r.cells.toArray (0, 0) _ L3.out Try.underlying26 rfl size_refrow ?_; rfl; rfl; rfl)
    | (go_at_call_of 18 (Value.agg r.cells.toArray); refine (RW.out _ B3.out).mono ?_; rintro e w4 ⟨q4, rfl, hq4⟩)
    | (go_at_call_of 28 (Value.agg q4.cells.toArray); refine (HC.out q4 _ _ hq4).mono ?_; rintro e w5 ⟨rfl, hb5⟩))
  have D5 := Lib.hid (hq4.b.trans (hb5.mono hq4.b.size))
  have L5 := Lib.hid (L3.out.call D5.out)
  have B5 := Lib.hid (B3.out.trans (D5.out.mono B3.out.size))
  clear hq4 hb5 D5 L3 B3 HC RW
  go_upto_region 8 with (first
    | ((fail_if_success (have hxx := D6)); refine wpList_load_row (o := ⟨some 32, _, _, _, _, _⟩) ?_ 26 (.tmp 1) ?_ w.heap.size ?_ 26 r.cells.toArray (0, 0) _ L5.out Try.underlying26 rfl size_refrow ?_; rfl; rfl; rfl)
    | (go_at_call_of 22 (Value.agg r.cells.toArray); refine (HFA.out _ B5.out).mono ?_; rintro e w6 ⟨rfl, hb6⟩; have D6 := Lib.hid (B5.out.trans (hb6.mono B5.out.size)); have L6 := Lib.hid (L5.out.call hb6)))
  go_wp2_with (first
    | ((fail_if_success (have hxx := D7)); refine wpList_load_row (o := ⟨some 36, _, _, _, _, _⟩) ?_ 26 (.tmp 1) ?_ w.heap.size ?_ 26 r.cells.toArray (0, 0) _ L6.out Try.underlying26 rfl size_refrow ?_; rfl; rfl; rfl)
    | (go_at_call_of 24 (Value.agg r.cells.toArray); refine (HT.out _ D6.out).mono ?_; rintro e w7 ⟨A7, c7, rfl, hb7⟩; have D7 := Lib.hid (D6.out.trans (hb7.mono D6.out.size)))
    | (go_at_call 16; refine (awake_any _).mono ?_; rintro e w8 ⟨rfl, hb8⟩))
  go_ret
  exact ⟨rfl, D7.out.trans (hb8.mono D7.out.size)⟩
/-- What is asked of the lists. -/
structure KnL (r : RwD) (ls : List (List Int)) (m M : Nat) : Prop where
  k : ∀ k a, r.knowns[k]? = some a → knownOf ls k = a
  l : ∀ l, l ∈ ls → l.length = r.dug.length
  n : ls ≠ []
  m : ∀ lo hi, LoHi (fun l => r.numK l r.dug.length) ls ls.length lo hi → lo = m ∧ hi = M
theorem KnL.of {r : RwD} (hf : r.fault = 0) (hkn : ∀ n, n ∈ r.ns → 0 ≤ n.k) (hc : r.can = true) {m : Nat} (hm : Least r r.wins m) : KnL r r.allD m (r.illB r.earliest).length := by
  have hne : r.allD ≠ [] := fun h => by rw [all_nil hf hkn, hc] at h; cases h
  obtain ⟨h1, h2, h3⟩ := all_least hf hkn hm
  refine ⟨fun k a h => ?_, fun l hl => ?_, hne, fun lo hi h => h.done h1 h2 (h3 hc)⟩
  · unfold RwD.knowns at h
    rw [List.getElem?_map, Option.map_eq_some_iff] at h
    obtain ⟨p, hp, e⟩ := h
    obtain ⟨hp1, hp2⟩ := List.getElem?_eq_some_iff.1 hp
    rw [List.getElem_range] at hp2
    subst hp2
    rw [List.length_range] at hp1
    rw [← e, all_known hf hkn hp1 hne]
    rfl
  · exact (prove_has ((mem_all hf hkn).1 hl)).2.2.1
set_option maxRecDepth 100000 in
set_option maxHeartbeats 8000000 in
theorem IllKnows_yes (r : RwM) (w : World) (hr : r.At w w.heap.size) (ht : ThinM r) (hF : ∀ W, Below w.heap.size w W → Calls Try.prog 15 #[.agg r.cells.toArray] W fun e w' => e = .returned (.bool true) ∧ Below W.heap.size W w') (hf : r.d.fault = 0) (hbig : (r.d.ws.length + 2) ^ r.d.dug.length ≤ 400000) (hc : r.d.can = true) : Calls Try.prog 4 #[.agg r.cells.toArray] w fun e w' => e = .returned (.bool true) ∧ Below w.heap.size w w' := by
  obtain ⟨hok, -, -, hlw, -⟩ := fault_ok hf
  obtain ⟨N, hN⟩ : ∃ N, N = r.dug.l.length := ⟨_, rfl⟩
  have hnn : r.n = (N : Int) := by rw [hN]; exact hok.dug.symm
  have hN10 : N ≤ 10 := by have := hok.n1; have h2 : r.d.n = r.n := rfl; omega
  have l0 : Lies (w.alloc (.cells r.cells.toArray 26)) w.heap.size 26 r.cells.toArray := Lies.fresh _ _ _
  have b0 : Below w.heap.size w (w.alloc (.cells r.cells.toArray 26)) := (by repeat (first | (with_reducible assumption) | (with_reducible exact Below.refl _ _) | (with_reducible refine Below.drew ?_) | (with_reducible refine below_drewN ?_ _) | ((with_reducible refine Below.setCell ?_ ?_ _); rotate_left; focus (first | (simp; done) | (simp; omega) | omega)) | ((with_reducible refine Below.alloc ?_ ?_ _); rotate_left; focus (first | (simp; done) | (simp; omega) | omega))))
  have hkn : ∀ n, n ∈ r.d.ns → 0 ≤ n.k := fun n hn => (hr.kn n hn).1
  have her : r.d.err = 0 := err_ok hf hc
  have hK := fun q w0 W (h : LawR r w0 q W) => Known_of h her
  have hC := fun q w0 W (h : LawR r w0 q W) => Count_of h her
  have hFA := fun W (hb : Below w.heap.size w W) => refFault_any r W (hr.below hb hb.size)
  rw [hf] at hFA
  obtain ⟨ls, hls⟩ : ∃ ls, ls = r.d.allD := ⟨_, rfl⟩
  have hdN : r.d.dug.length = N := hN.symm
  have hT : ∀ W, Below w.heap.size w W → Calls Try.prog 24 #[.agg r.cells.toArray, .slice none 0 0] W (RetT ls W) := fun W hb => by
    have h := refTruths_any r hf hbig r.dug.l.length none 0 [] W (hr.below hb hb.size) (fun h => absurd rfl h) (fun _ => ⟨rfl, rfl⟩) (by simp) (fun o ho => by cases ho)
    rw [hls]
    exact h
  have hlen : ls.length ≤ 400000 := by rw [hls]; exact Nat.le_trans (truths_length _ _ _) hbig
  obtain ⟨M, hM⟩ : ∃ M, M = (r.d.illB r.d.earliest).length := ⟨_, rfl⟩
  have hKL : ∀ m, Least r.d r.d.wins m → KnL r.d ls m M := fun m hm => by rw [hls, hM]; exact KnL.of hf hkn hc hm
  have hkl : r.d.knowns.length = N := by unfold RwD.knowns; simp [hdN]
  obtain ⟨kl, hkle⟩ : ∃ kl, kl = r.d.knowns := ⟨_, rfl⟩
  have hNU := fun (A : Option Addr) (c : Nat) (l : List Int) W (hb : Below w.heap.size w W) (hA : Sl W W.heap.size 1 encI A l) (hl : l.length = N) => Number_any r A c l W (hr.below hb hb.size) hok hA (by rw [hl]; exact hN)
  rw [hdN] at hNU
  have RW := Lib.hid (fun W (hb : Below w.heap.size w W) => lawRow_thin r W (hr.below hb hb.size) ht)
  unfold YesC at hC
  rw [← hM] at hC
  rw [← hkle] at hK hkl
  unfold RetE8 at hK
  unfold RetT at hT
  have HF := Lib.hid hF
  have HK := Lib.hid hK
  have HC := Lib.hid hC
  have HFA := Lib.hid hFA
  have HT := Lib.hid hT
  have HNE := Lib.hid hnn
  have HLEN := Lib.hid hlen
  have HKL := Lib.hid hKL
  have HKK := Lib.hid hkl
  have HKE := Lib.hid hkle
  have HNU := Lib.hid hNU
  have HDN := Lib.hid hdN
  have L0 := Lib.hid l0
  have B0 := Lib.hid b0
  clear hF l0 b0 hr ht hf her hK hC hFA hT hbig hc hok hlw hN hnn hkn hls hlen hM hKL hkl hkle hNU hdN
  go_enter Try.func4, Try.ntmps4
  go_upto_region 1 with (fail)
  change Code.wp _ _ _ _ (w.alloc (.cells r.cells.toArray 26))
  generalize w.alloc (.cells r.cells.toArray 26) = w0 at *
  go_upto_region 3 with (first
    | (refine wpList_load_row (o := ⟨some 15, _, _, _, _, _⟩) ?_ 26 (.tmp 1) ?_ w.heap.size ?_ 26 r.cells.toArray (0, 0) _ L0.out Try.underlying26 rfl size_refrow ?_; rfl; rfl; rfl)
    | (go_at_call 15; refine (HF.out _ B0.out).mono ?_; rintro e w1 ⟨rfl, hb1⟩))
  have L1 := Lib.hid (L0.out.call hb1)
  have B1 := Lib.hid (B0.out.trans (hb1.mono B0.out.size))
  clear hb1 L0 B0 HF
  go_upto_region 4 with (first
    | (refine wpList_load_row (o := ⟨some 20, _, _, _, _, _⟩) ?_ 26 (.tmp 1) ?_ w.heap.size ?_ 26 r.cells.toArray (0, 0) _ L1.out Try.underlying26 rfl size_refrow ?_; rfl; rfl; rfl)
    | (go_at_call_of 18 (Value.agg r.cells.toArray); refine (RW.out _ B1.out).mono ?_; rintro e w2 ⟨q2, rfl, hq2⟩)
    | (go_at_call_of 27 (Value.agg q2.cells.toArray); refine (HK.out q2 _ _ hq2).mono ?_; rintro e w3 ⟨A3, c3, rfl, hA3, hS3, hb3⟩))
  have D3 := Lib.hid (hq2.b.trans (hb3.mono hq2.b.size))
  have L3 := Lib.hid (L1.out.call D3.out)
  have B3 := Lib.hid (B1.out.trans (D3.out.mono B1.out.size))
  have S3 := Lib.hid hS3
  clear hq2 hb3 hS3 hA3 D3 L1 B1 HK
  go_upto_region 5 with (first
    | (refine wpList_load_row (o := ⟨some 26, _, _, _, _, _⟩) ?_ 26 (.tmp 1) ?_ w.heap.size ?_ 26 r.cells.toArray (0, 0) _ L3.out Try.underlying26 rfl size_refrow ?_; rfl; rfl; rfl)
    | (go_at_call_of 18 (Value.agg r.cells.toArray); refine (RW.out _ B3.out).mono ?_; rintro e w4 ⟨q4, rfl, hq4⟩)
    | (go_at_call_of 28 (Value.agg q4.cells.toArray); refine (HC.out q4 _ _ hq4).mono ?_; rintro e w5 ⟨m, rfl, hm, hb5⟩))
  have D5 := Lib.hid (hq4.b.trans (hb5.mono hq4.b.size))
  have L5 := Lib.hid (L3.out.call D5.out)
  have B5 := Lib.hid (B3.out.trans (D5.out.mono B3.out.size))
  have S5 := Lib.hid ((S3.out.below D5.out).more D5.out.size)
  have HKN := Lib.hid (HKL.out m hm)
  clear hq4 hb5 hm D5 L3 B3 HC RW HKL S3
  go_upto_region 8 with (first
    | ((fail_if_success (have hxx := D6)); refine wpList_load_row (o := ⟨some 32, _, _, _, _, _⟩) ?_ 26 (.tmp 1) ?_ w.heap.size ?_ 26 r.cells.toArray (0, 0) _ L5.out Try.underlying26 rfl size_refrow ?_; rfl; rfl; rfl)
    | (go_at_call_of 22 (Value.agg r.cells.toArray); refine (HFA.out _ B5.out).mono ?_; rintro e w6 ⟨rfl, hb6⟩; have D6 := Lib.hid (B5.out.trans (hb6.mono B5.out.size)); have L6 := Lib.hid (L5.out.call hb6)))
  have S6 := Lib.hid ((S5.out.below hb6).more hb6.size)
  clear hb6 B5 L5 S5 HFA
  go_upto_region 9 with (first
    | ((fail_if_success (have hxx := D7)); refine wpList_load_row (o := ⟨some 36, _, _, _, _, _⟩) ?_ 26 (.tmp 1) ?_ w.heap.size ?_ 26 r.cells.toArray (0, 0) _ L6.out Try.underlying26 rfl size_refrow ?_; rfl; rfl; rfl)
    | (go_at_call_of 24 (Value.agg r.cells.toArray); refine (HT.out _ D6.out).mono ?_; rintro e w7 ⟨out, A7, c7, rfl, ho7, hO7, hb7⟩; have D7 := Lib.hid (D6.out.trans (hb7.mono D6.out.size))))
  have L7 := Lib.hid (L6.out.call hb7)
  have S7 := Lib.hid ((S6.out.below hb7).more hb7.size)
  have O7 := Lib.hid hO7.ll
  have HO := Lib.hid ho7
  obtain ⟨L, hL⟩ : ∃ L, L = out.length := ⟨_, rfl⟩
  have hLs : ls.length = L := by rw [← ho7, List.length_map, hL]
  have hLZ : L ≤ 400000 := by have := HLEN.out; omega
  have hL1 : 1 ≤ L := by
    have := List.length_pos_iff.2 HKN.out.n
    omega
  rw [← hL]
  have HLL := Lib.hid hL
  have HLS := Lib.hid hLs
  have hLn : ((L : Int) == 0) = false := by simp; omega
  have hLz : (L : Int) ≤ 400000 := by omega
  have hL0 : (0 : Int) < (L : Int) := by omega
  have a0 : w7.cell? ⟨w.heap.size, 0, none⟩ = some (.int .i64 N) := by rw [← HNE.out]; exact L7.out.at_ 0
  have hkn : ((kl.length : Int) != (N : Int)) = false := by rw [HKK.out]; simp
  have hkz : (kl.length : Int) ≤ 10 := by have := HKK.out; omega
  clear hb7 hO7 ho7 hL hLs L6 S6 D6 HT
  go_wp2
  clear a0 hLn hkn
  go_loopw [10] (fun s10 wr => ∃ k : Nat, k ≤ N ∧ s10 = .int .i64 k ∧ Aside (Below w7.heap.size w7 wr)) (fun i _ => N - (intOf i).toNat)
  case atStart => exact ⟨0, by omega, rfl, Below.refl _ _⟩
  case round =>
    obtain ⟨k, hk, rfl, HB⟩ := hrel
    have c0 : wr.cell? ⟨w.heap.size, 0, none⟩ = some (.int .i64 N) := by rw [← HNE.out]; exact (L7.out.call HB.out).at_ 0
    by_cases hlt : k < N
    · have hltz : (k : Int) < (N : Int) := by omega
      have hk0 : (0 : Int) ≤ (k : Int) := by omega
      have hkl := HKK.out
      have hltk : (k : Int) < (kl.length : Int) := by omega
      obtain ⟨a, ha⟩ : ∃ a, kl[k]? = some a := ⟨kl[k]'(by omega), by simp⟩
      obtain ⟨b1, o1, e1, hb1, p1⟩ := S7.out.cell8 ha
      have r1 := cell_regrown ((HB.out.cell (p := ⟨b1, o1 + k, none⟩) hb1).trans p1)
      have hka := HKN.out.k k a (by rw [← HKE.out]; exact ha)
      have hko : ∀ W, Below wr.heap.size wr W → Calls Try.prog 29 #[.slice A7 L c7, .int .i64 k] W fun e w' => e = .returned (.int .u8 a) ∧ Below W.heap.size W w' := fun W hb => by
        have hb7 := HB.out.trans (hb.mono HB.out.size)
        have h := refKnown_any A7 c7 out k W (O7.out.below hb7) (by have := HLL.out; omega) fun s hs => by
          have h1 := HKN.out.l s.l (by rw [← HO.out]; exact List.mem_map.2 ⟨s, hs, rfl⟩)
          rw [HDN.out] at h1
          omega
        rw [HO.out, hka, ← HLL.out] at h
        exact h
      have HKO := Lib.hid hko
      have HB' := Lib.hid HB.out
      have hne : (a != a) = false := by simp
      subst e1
      clear ha p1 hb1 hkl hka hko HB
      go_upto_region 18 with (fail)
      clear c0
      refine wp_region_quiet_below (by kernel_rfl) (by kernel_rfl) ?_
      repeat (first
        | go_big_quiet_step ((first | (go_at_call 29; exact Calls.regrown_of (HKO.out _ (below_regrown _ _ _))))) | quiet_step ((first | (go_at_call 29; exact Calls.regrown_of (HKO.out _ (below_regrown _ _ _))))))
      refine wpQuiet_nil ?_
      intro wq hwq
      have hbq : Below _ _ wq := (by obtain ⟨p, rfl⟩ := hwq; exact below_regrown _ _ _)
      clear hwq r1
      go_wp2
      go_roundw
      case rel => exact ⟨k + 1, by omega, by go_num, HB'.out.trans (hbq.mono HB'.out.size)⟩
      case measure => simp [intOf]; omega
    · obtain rfl : k = N := by omega
      have HB' := Lib.hid HB.out
      obtain ⟨s0, hs0⟩ : ∃ s, out[0]? = some s := ⟨out[0]'(by have := HLL.out; omega), by simp⟩
      have hnum : ∀ s, s ∈ out → ∀ W, Below wr.heap.size wr W → Calls Try.prog 30 #[.agg r.cells.toArray, .slice s.A s.l.length s.c] W fun e w' => e = .returned (.int .i64 (r.d.numK s.l k)) ∧ Below W.heap.size W w' := fun s hs W hb => by
        have hb7 := HB'.out.trans (hb.mono HB'.out.size)
        have h1 := HKN.out.l s.l (by rw [← HO.out]; exact List.mem_map.2 ⟨s, hs, rfl⟩)
        exact HNU.out s.A s.c s.l W (D7.out.trans (hb7.mono D7.out.size)) ((O7.out.below hb7).i s hs) (h1.trans HDN.out)
      have HNM := Lib.hid hnum
      have hn0 := hnum s0 (List.mem_of_getElem? hs0)
      have HN0 := Lib.hid hn0
      obtain ⟨ob, of, e1, hob, hc0⟩ := O7.out.at_ hs0
      rw [Nat.add_zero] at hc0
      have r0 := cell_regrown ((HB'.out.cell (p := ⟨ob, of, none⟩) hob).trans hc0)
      have hr0 : ∀ V, (∃ p : Regrown, V = Go.Sort.grow (redrawn wr p.d) p.os) → V.rangeAt w.heap.size 0 r.cells := by
        rintro V ⟨p, rfl⟩
        exact Lies.range (cs := r.cells) ((L7.out.call HB'.out).call (below_regrown _ _ _)) (fun j v hj => by simpa using hj)
      have HR0 := Lib.hid hr0
      have HLO := Lib.hid (LoHi.one (nk := fun l => r.d.numK l r.d.dug.length) (ls := ls) (l := s0.l) (by rw [← HO.out, List.getElem?_map, hs0]; rfl))
      rw [HDN.out] at HLO
      subst e1
      clear hs0 hnum hn0 hc0 hob hr0 HB HNU
      go_upto_region 20 with (fail)
      clear c0
      refine wp_region_quiet_below (by kernel_rfl) (by kernel_rfl) ?_
      repeat (first
        | (refine wpQuiet_load_wholeG (o := ⟨some 94, _, _, _, _, _⟩) ?_ 26 (.tmp 1) ?_ w.heap.size 0 ?_ r.cells _ HR0.out Try.underlying26 rfl size_refrow ?_; kernel_rfl; rfl; rfl; simp only [Act.put, List.setIfInBounds_toArray, List.set_cons_zero, List.set_cons_succ])
        | (refine wpQuiet_load_wholeG (o := ⟨some 99, _, _, _, _, _⟩) ?_ 26 (.tmp 1) ?_ w.heap.size 0 ?_ r.cells _ HR0.out Try.underlying26 rfl size_refrow ?_; kernel_rfl; rfl; rfl; simp only [Act.put, List.setIfInBounds_toArray, List.set_cons_zero, List.set_cons_succ])
        | go_big_quiet_step ((first | (go_at_call 30; exact Calls.regrown_of (HN0.out _ (below_regrown _ _ _))))) | quiet_step ((first | (go_at_call 30; exact Calls.regrown_of (HN0.out _ (below_regrown _ _ _))))))
      refine wpQuiet_nil ?_
      intro wq hwq
      have hbq : Below _ _ wq := (by obtain ⟨p, rfl⟩ := hwq; exact below_regrown _ _ _)
      clear hwq r0 HR0 HN0
      have BQ := Lib.hid hbq
      have BR := Lib.hid (HB'.out.trans (hbq.mono HB'.out.size))
      clear hbq
      go_wp2
      go_loopw [11, 12, 13, 14] (fun s11 s12 s13 _ wz => ∃ (i : Nat) (lo hi : Int), 1 ≤ i ∧ i ≤ L ∧ s11 = .int .i64 lo ∧ s12 = .int .i64 hi ∧ s13 = .int .i64 i ∧ Aside (Below wq.heap.size wq wz) ∧ Aside (LoHi (fun l => r.d.numK l k) ls i lo hi)) (fun _ _ i _ _ => L - (intOf i).toNat)
      case atStart => exact ⟨1, _, _, by omega, by omega, rfl, rfl, rfl, Below.refl _ _, HLO.out⟩
      case round =>
        obtain ⟨i, lo, hi, hi1, hi2, rfl, rfl, rfl, HW, HH⟩ := hrel
        have hbw : Below w7.heap.size w7 wr := BR.out.trans (HW.out.mono BR.out.size)
        by_cases hlt2 : i < L
        · have hltz : (i : Int) < (L : Int) := by omega
          have hi0 : (0 : Int) ≤ (i : Int) := by omega
          obtain ⟨s, hs⟩ : ∃ s, out[i]? = some s := ⟨out[i]'(by have := HLL.out; omega), by simp⟩
          have hn1 := fun W (hb : Below wr.heap.size wr W) => HNM.out s (List.mem_of_getElem? hs) W (BQ.out.trans ((HW.out.trans (hb.mono HW.out.size)).mono BQ.out.size))
          have HN1 := Lib.hid hn1
          obtain ⟨ob2, of2, e2, hob2, hc2⟩ := O7.out.at_ hs
          cases e2
          have r1 := cell_regrown ((hbw.cell (p := ⟨ob, of + i, none⟩) hob2).trans hc2)
          have hr0 : ∀ V, (∃ p : Regrown, V = Go.Sort.grow (redrawn wr p.d) p.os) → V.rangeAt w.heap.size 0 r.cells := by
            rintro V ⟨p, rfl⟩
            exact Lies.range (cs := r.cells) ((L7.out.call hbw).call (below_regrown _ _ _)) (fun j v hj => by simpa using hj)
          have HR0 := Lib.hid hr0
          have HNX := Lib.hid (HH.out.next (l := s.l) (by rw [← HO.out, List.getElem?_map, hs]; rfl))
          have HWW := Lib.hid HW.out
          clear hs hn1 hob2 hc2 hr0 hbw HH HW HLO
          go_upto_region 24 with (fail)
          refine wp_region_quiet_below (by kernel_rfl) (by kernel_rfl) ?_
          repeat (first
            | (refine wpQuiet_load_wholeG (o := ⟨some 110, _, _, _, _, _⟩) ?_ 26 (.tmp 1) ?_ w.heap.size 0 ?_ r.cells _ HR0.out Try.underlying26 rfl size_refrow ?_; kernel_rfl; rfl; rfl; simp only [Act.put, List.setIfInBounds_toArray, List.set_cons_zero, List.set_cons_succ])
            | go_big_quiet_step ((first | (go_at_call 30; exact Calls.regrown_of (HN1.out _ (below_regrown _ _ _))))) | quiet_step ((first | (go_at_call 30; exact Calls.regrown_of (HN1.out _ (below_regrown _ _ _))))))
          refine wpQuiet_nil ?_
          intro wv hwq
          have hbv : Below _ _ wv := (by obtain ⟨p, rfl⟩ := hwq; exact below_regrown _ _ _)
          clear hwq r1 HR0 HN1
          go_wp2
          go_roundw
          case rel => exact ⟨i + 1, _, _, by omega, by omega, rfl, rfl, by go_num, HWW.out.trans (hbv.mono HWW.out.size), HNX.out⟩
          case measure => simp [intOf]; omega
        · have hil : i = ls.length := by have := HLS.out; omega
          have hh := HH.out
          rw [hil] at hh
          have hdn := HKN.out.m lo hi (by rw [HDN.out]; exact hh)
          obtain ⟨rfl, rfl⟩ := hdn
          have HBW := Lib.hid hbw
          clear hil hh hbw HH HW HLO
          go_wp2_with (first
            | (go_at_call 16; refine (awake_any _).mono ?_; rintro e v1 ⟨rfl, hv1⟩))
          go_ret
          exact ⟨rfl, D7.out.trans ((HBW.out.trans (hv1.mono HBW.out.size)).mono D7.out.size)⟩
theorem few_big {r : RwD} (h : r.fewB = true) (hf : r.fault = 0) : (r.ws.length + 2) ^ r.dug.length ≤ 400000 := by
  have hd := (fault_ok hf).1.dug
  have h0 := (fault_ok hf).1.n0
  unfold RwD.fewB at h
  simp only [Bool.and_eq_true, Bool.or_eq_true, decide_eq_true_eq] at h
  obtain ⟨-, h | ⟨h1, h2⟩⟩ := h
  · rcases h with h | ⟨h1, h2⟩
    · exact absurd hf h
    · exact Nat.le_trans (Nat.pow_le_pow_left (show r.ws.length + 2 ≤ 6 by omega) _) (Nat.le_trans (Nat.pow_le_pow_right (by decide) (show r.dug.length ≤ 4 by omega)) (by decide))
  · exact Nat.le_trans (Nat.pow_le_pow_left (show r.ws.length + 2 ≤ 4 by omega) _) (Nat.le_trans (Nat.pow_le_pow_right (by decide) (show r.dug.length ≤ 5 by omega)) (by decide))
theorem IllKnows_walk (r : RwM) (w : World) (h : OpenRow r w) :
    Calls Try.prog 4 #[.agg r.cells.toArray] w fun e w' => e = .returned (.bool true) ∧ Below w.heap.size w w' := by
  cases ht : r.d.thin with
  | false => exact IllKnows_not r w fun W _ => few_thick r W h.lw h.ln h.ld ht
  | true =>
    obtain ⟨hr, htm⟩ := h.thin ht
    have hF := fun W (hb : Below w.heap.size w W) => few_thin r W (hr.below hb hb.size) ht htm.w
    cases hfw : r.d.fewB with
    | false => rw [hfw] at hF; exact IllKnows_not r w hF
    | true =>
      rw [hfw] at hF
      by_cases hf : r.d.fault = 0
      · cases hc : r.d.can with
        | false => exact IllKnows_sick r w hr htm hF hf (few_big hfw hf) hc
        | true => exact IllKnows_yes r w hr htm hF hf (few_big hfw hf) hc
      · exact IllKnows_bad r w hr htm hF hf
end Go.Proofs.Ytkjhofbjjogmlaa

namespace Go.Proofs.Ytkjhofbjjogmlaa
open Go.RowKit Go.Lib

theorem truths_ret (r : RwM) (w : World) (hr : r.At w w.heap.size) (hf : r.d.fault = 0) (hbig : (r.d.ws.length + 2) ^ r.d.dug.length ≤ 400000) : ∀ W, Below w.heap.size w W → Calls Try.prog 24 #[.agg r.cells.toArray, .slice none 0 0] W (RetT r.d.allD W) := fun W hb =>
  refTruths_any r hf hbig r.dug.l.length none 0 [] W (hr.below hb hb.size) (fun h => absurd rfl h) (fun _ => ⟨rfl, rfl⟩) (by simp) (fun o ho => by cases ho)
/-- The lists and their earliest. -/
theorem first_all {r : RwD} (hf : r.fault = 0) (hkn : ∀ n, n ∈ r.ns → 0 ≤ n.k) {a : List Int} {ls : List (List Int)} (h : r.allD = a :: ls) : firstL r.dug.length a ls ls.length = r.firstD := by
  have hok := (fault_ok hf).1
  have h10 : r.dug.length ≤ 10 := by have := hok.dug; have := hok.n1; omega
  refine List.ext_getElem? fun p => ?_
  by_cases hp : p < r.dug.length
  · have h1 := all_first hf hkn hp h
    unfold firstL foO
    rw [List.getElem?_map, List.getElem?_range hp, Option.map_some, List.take_length, h1, List.getElem?_eq_getElem (by rw [firstD_length r h10]; exact hp)]
    simp [List.getD, firstD_length r h10, hp]
  · rw [List.getElem?_eq_none (by rw [firstL_length]; omega), List.getElem?_eq_none (by rw [firstD_length r h10]; omega)]
theorem Check_of {r q : RwM} {w W : World} (hq : LawR r w q W) : Calls Try.prog 17 #[.agg q.cells.toArray] W fun e w' => e = .returned (.int .i64 r.d.fault) ∧ Below W.heap.size W w' := by
  have := CheckRow_any q W hq.at_
  rwa [hq.d] at this
set_option maxRecDepth 100000 in
set_option maxHeartbeats 8000000 in
theorem IllFirst_not (r : RwM) (A : Option Addr) (n c : Nat) (w : World) (hF : ∀ W, Below w.heap.size w W → Calls Try.prog 15 #[.agg r.cells.toArray] W fun e w' => e = .returned (.bool false) ∧ Below W.heap.size W w') : Calls Try.prog 3 #[.agg r.cells.toArray, .slice A n c] w fun e w' => e = .returned (.bool true) ∧ Below w.heap.size w w' := by
  have l0 : Lies (w.alloc (.cells r.cells.toArray 26)) w.heap.size 26 r.cells.toArray := Lies.fresh _ _ _
  have b0 : Below w.heap.size w (w.alloc (.cells r.cells.toArray 26)) := (by repeat (first | (with_reducible assumption) | (with_reducible exact Below.refl _ _) | (with_reducible refine Below.drew ?_) | (with_reducible refine below_drewN ?_ _) | ((with_reducible refine Below.setCell ?_ ?_ _); rotate_left; focus (first | (simp; done) | (simp; omega) | omega)) | ((with_reducible refine Below.alloc ?_ ?_ _); rotate_left; focus (first | (simp; done) | (simp; omega) | omega))))
  have HF := Lib.hid hF
  have L0 := Lib.hid l0
  have B0 := Lib.hid b0
  clear hF l0 b0
  go_enter Try.func3, Try.ntmps3
  go_upto_region 1 with (fail)
  change Code.wp _ _ _ _ (w.alloc (.cells r.cells.toArray 26))
  generalize w.alloc (.cells r.cells.toArray 26) = w0 at *
  go_wp2_with (first
    | (refine wpList_load_row (o := ⟨some 11, _, _, _, _, _⟩) ?_ 26 (.tmp 2) ?_ w.heap.size ?_ 26 r.cells.toArray (0, 0) _ L0.out Try.underlying26 rfl size_refrow ?_; rfl; rfl; rfl)
    | (go_at_call 15; refine (HF.out _ B0.out).mono ?_; rintro e w1 ⟨rfl, hb1⟩)
    | (go_at_call 16; refine (awake_any _).mono ?_; rintro e w2 ⟨rfl, hb2⟩))
  go_ret
  exact ⟨rfl, B0.out.trans ((hb1.trans (hb2.mono hb1.size)).mono B0.out.size)⟩
set_option maxRecDepth 100000 in
set_option maxHeartbeats 8000000 in
theorem IllFirst_long (r : RwM) (A : Option Addr) (n c : Nat) (w : World) (hn : 15 < n) (hF : ∀ W, Below w.heap.size w W → Calls Try.prog 15 #[.agg r.cells.toArray] W fun e w' => e = .returned (.bool true) ∧ Below W.heap.size W w') : Calls Try.prog 3 #[.agg r.cells.toArray, .slice A n c] w fun e w' => e = .returned (.bool true) ∧ Below w.heap.size w w' := by
  have l0 : Lies (w.alloc (.cells r.cells.toArray 26)) w.heap.size 26 r.cells.toArray := Lies.fresh _ _ _
  have b0 : Below w.heap.size w (w.alloc (.cells r.cells.toArray 26)) := (by repeat (first | (with_reducible assumption) | (with_reducible exact Below.refl _ _) | (with_reducible refine Below.drew ?_) | (with_reducible refine below_drewN ?_ _) | ((with_reducible refine Below.setCell ?_ ?_ _); rotate_left; focus (first | (simp; done) | (simp; omega) | omega)) | ((with_reducible refine Below.alloc ?_ ?_ _); rotate_left; focus (first | (simp; done) | (simp; omega) | omega))))
  have hnz : (15 : Int) < (n : Int) := by omega
  have HF := Lib.hid hF
  have L0 := Lib.hid l0
  have B0 := Lib.hid b0
  clear hF l0 b0 hn
  go_enter Try.func3, Try.ntmps3
  go_upto_region 1 with (fail)
  change Code.wp _ _ _ _ (w.alloc (.cells r.cells.toArray 26))
  generalize w.alloc (.cells r.cells.toArray 26) = w0 at *
  go_wp2_with (first
    | (refine wpList_load_row (o := ⟨some 11, _, _, _, _, _⟩) ?_ 26 (.tmp 2) ?_ w.heap.size ?_ 26 r.cells.toArray (0, 0) _ L0.out Try.underlying26 rfl size_refrow ?_; rfl; rfl; rfl)
    | (go_at_call 15; refine (HF.out _ B0.out).mono ?_; rintro e w1 ⟨rfl, hb1⟩)
    | (go_at_call 16; refine (awake_any _).mono ?_; rintro e w2 ⟨rfl, hb2⟩))
  go_ret
  exact ⟨rfl, B0.out.trans ((hb1.trans (hb2.mono hb1.size)).mono B0.out.size)⟩
set_option maxRecDepth 100000 in
set_option maxHeartbeats 8000000 in
theorem IllFirst_bad (r : RwM) (s : Sv Int) (w : World) (hr : r.At w w.heap.size) (ht : ThinM r) (hs : Sl w w.heap.size 1 encI s.A s.l) (hsn : s.A = none → s.l.length = 0 ∧ s.c = 0) (hl : s.l.length ≤ 15) (hF : ∀ W, Below w.heap.size w W → Calls Try.prog 15 #[.agg r.cells.toArray] W fun e w' => e = .returned (.bool true) ∧ Below W.heap.size W w') (hf : r.d.fault ≠ 0) : Calls Try.prog 3 #[.agg r.cells.toArray, .slice s.A s.l.length s.c] w fun e w' => e = .returned (.bool true) ∧ Below w.heap.size w w' := by
  have l0 : Lies (w.alloc (.cells r.cells.toArray 26)) w.heap.size 26 r.cells.toArray := Lies.fresh _ _ _
  have b0 : Below w.heap.size w (w.alloc (.cells r.cells.toArray 26)) := (by repeat (first | (with_reducible assumption) | (with_reducible exact Below.refl _ _) | (with_reducible refine Below.drew ?_) | (with_reducible refine below_drewN ?_ _) | ((with_reducible refine Below.setCell ?_ ?_ _); rotate_left; focus (first | (simp; done) | (simp; omega) | omega)) | ((with_reducible refine Below.alloc ?_ ?_ _); rotate_left; focus (first | (simp; done) | (simp; omega) | omega))))
  have hlz : (s.l.length : Int) ≤ 15 := by omega
  have RW := Lib.hid (fun W (hb : Below w.heap.size w W) => lawRow_thin r W (hr.below hb hb.size) ht)
  have RL := Lib.hid (fun W (hb : Below w.heap.size w W) => lawList_any s.A s.c s.l W ((hs.below hb).more hb.size) (by omega) hsn)
  have hCK := fun q w0 W (h : LawR r w0 q W) => Check_of h
  have hFA := fun W (hb : Below w.heap.size w W) => refFault_any r W (hr.below hb hb.size)
  have hPR := fun (q : RwM) (w0 V W : World) (A : Option Addr) (c : Nat) (h : LawR r w0 q V) (hb : Below V.heap.size V W) (hA : Sl W W.heap.size 1 encI A s.l) => (by have h2 := ProveTruth_any q A c s.l W (h.at_.below hb hb.size) hA (by omega); rw [h.d] at h2; exact h2 : Calls Try.prog 20 #[.agg q.cells.toArray, .slice A s.l.length c] W fun e w' => e = .returned (.bool (r.d.proveD s.l)) ∧ Below W.heap.size W w')
  have her : r.d.err ≠ 0 := by rw [err_bad hf]; exact hf
  have hFI := fun q w0 W (h : LawR r w0 q W) => First_of_no h her
  rw [err_bad hf] at hFI
  have hpf : r.d.proveD s.l = false := by
    rw [Bool.eq_false_iff]
    intro h
    exact hf (prove_has h).1
  rw [hpf] at hPR
  generalize r.d.fault = fl at *
  have hf1 : (fl == 0) = false := by simpa using hf
  have hf2 : (fl != 0) = true := by simpa using hf
  have hf3 : (fl != fl) = false := by simp
  unfold NoE at hFI
  have HF := Lib.hid hF
  have HCK := Lib.hid hCK
  have HFA := Lib.hid hFA
  have HPR := Lib.hid hPR
  have HFI := Lib.hid hFI
  have L0 := Lib.hid l0
  have B0 := Lib.hid b0
  clear hF l0 b0 hr ht hs hsn hl hCK hFA hPR hFI hf her hpf
  go_enter Try.func3, Try.ntmps3
  go_upto_region 1 with (fail)
  change Code.wp _ _ _ _ (w.alloc (.cells r.cells.toArray 26))
  generalize w.alloc (.cells r.cells.toArray 26) = w0 at *
  go_upto_region 3 with (first
    | (refine wpList_load_row (o := ⟨some 11, _, _, _, _, _⟩) ?_ 26 (.tmp 2) ?_ w.heap.size ?_ 26 r.cells.toArray (0, 0) _ L0.out Try.underlying26 rfl size_refrow ?_; rfl; rfl; rfl)
    | (go_at_call 15; refine (HF.out _ B0.out).mono ?_; rintro e w1 ⟨rfl, hb1⟩))
  have L1 := Lib.hid (L0.out.call hb1)
  have B1 := Lib.hid (B0.out.trans (hb1.mono B0.out.size))
  clear hb1 L0 B0 HF
  go_upto_region 4 with (first
    | (refine wpList_load_row (o := ⟨some 20, _, _, _, _, _⟩) ?_ 26 (.tmp 2) ?_ w.heap.size ?_ 26 r.cells.toArray (0, 0) _ L1.out Try.underlying26 rfl size_refrow ?_; rfl; rfl; rfl)
    | (go_at_call_of 18 (Value.agg r.cells.toArray); refine (RW.out _ B1.out).mono ?_; rintro e w2 ⟨q2, rfl, hq2⟩)
    | (go_at_call_of 17 (Value.agg q2.cells.toArray); refine (HCK.out q2 _ _ hq2).mono ?_; rintro e w3 ⟨rfl, hb3⟩))
  have D3 := Lib.hid (hq2.b.trans (hb3.mono hq2.b.size))
  have L3 := Lib.hid (L1.out.call D3.out)
  have B3 := Lib.hid (B1.out.trans (D3.out.mono B1.out.size))
  clear hq2 hb3 D3 L1 B1 HCK
  go_upto_region 5 with (first
    | (refine wpList_load_row (o := ⟨some 24, _, _, _, _, _⟩) ?_ 26 (.tmp 2) ?_ w.heap.size ?_ 26 r.cells.toArray (0, 0) _ L3.out Try.underlying26 rfl size_refrow ?_; rfl; rfl; rfl)
    | (go_at_call_of 18 (Value.agg r.cells.toArray); refine (RW.out _ B3.out).mono ?_; rintro e w4 ⟨q4, rfl, hq4⟩)
    | (go_at_call_of 19 (Value.agg q4.cells.toArray); refine (HFI.out q4 _ _ hq4).mono ?_; rintro e w5 ⟨rfl, hb5⟩))
  have D5 := Lib.hid (hq4.b.trans (hb5.mono hq4.b.size))
  have L5 := Lib.hid (L3.out.call D5.out)
  have B5 := Lib.hid (B3.out.trans (D5.out.mono B3.out.size))
  clear hq4 hb5 D5 L3 B3 HFI
  go_upto_region 6 with (first
    | (refine wpList_load_row (o := ⟨some 29, _, _, _, _, _⟩) ?_ 26 (.tmp 2) ?_ w.heap.size ?_ 26 r.cells.toArray (0, 0) _ L5.out Try.underlying26 rfl size_refrow ?_; rfl; rfl; rfl)
    | (go_at_call_of 18 (Value.agg r.cells.toArray); refine (RW.out _ B5.out).mono ?_; rintro e w6 ⟨q6, rfl, hq6⟩; have C6 := Lib.hid (B5.out.trans (hq6.b.mono B5.out.size)))
    | (go_at_call_of 21 (Value.slice s.A s.l.length s.c); refine (RL.out _ C6.out).mono ?_; rintro e w7 ⟨Al, cl, rfl, hAl, hSl, hbl⟩)
    | (go_at_call_of 20 (Value.agg q6.cells.toArray); refine (HPR.out q6 _ _ _ Al cl hq6 hbl hSl).mono ?_; rintro e w8 ⟨rfl, hb8⟩))
  have D8 := Lib.hid (hq6.b.trans ((hbl.trans (hb8.mono hbl.size)).mono hq6.b.size))
  have L8 := Lib.hid (L5.out.call D8.out)
  have B8 := Lib.hid (B5.out.trans (D8.out.mono B5.out.size))
  clear hq6 hbl hb8 hSl hAl C6 D8 L5 B5 HPR RW RL
  go_upto_region 7 with (first
    | (refine wpList_load_row (o := ⟨some 34, _, _, _, _, _⟩) ?_ 26 (.tmp 2) ?_ w.heap.size ?_ 26 r.cells.toArray (0, 0) _ L8.out Try.underlying26 rfl size_refrow ?_; rfl; rfl; rfl)
    | (go_at_call_of 22 (Value.agg r.cells.toArray); refine (HFA.out _ B8.out).mono ?_; rintro e w9 ⟨rfl, hb9⟩))
  have L9 := Lib.hid (L8.out.call hb9)
  have B9 := Lib.hid (B8.out.trans (hb9.mono B8.out.size))
  clear hb9 L8 B8 HFA
  go_wp2_with (first
    | (go_at_call 16; refine (awake_any _).mono ?_; rintro e v1 ⟨rfl, hv1⟩))
  go_ret
  exact ⟨by simp, B9.out.trans (hv1.mono B9.out.size)⟩
set_option maxRecDepth 100000 in
set_option maxHeartbeats 8000000 in
theorem IllFirst_sick (r : RwM) (s : Sv Int) (w : World) (hr : r.At w w.heap.size) (ht : ThinM r) (hs : Sl w w.heap.size 1 encI s.A s.l) (hsn : s.A = none → s.l.length = 0 ∧ s.c = 0) (hl : s.l.length ≤ 15) (hF : ∀ W, Below w.heap.size w W → Calls Try.prog 15 #[.agg r.cells.toArray] W fun e w' => e = .returned (.bool true) ∧ Below W.heap.size W w') (hf : r.d.fault = 0) (hbig : (r.d.ws.length + 2) ^ r.d.dug.length ≤ 400000) (hc : r.d.can = false) : Calls Try.prog 3 #[.agg r.cells.toArray, .slice s.A s.l.length s.c] w fun e w' => e = .returned (.bool true) ∧ Below w.heap.size w w' := by
  have l0 : Lies (w.alloc (.cells r.cells.toArray 26)) w.heap.size 26 r.cells.toArray := Lies.fresh _ _ _
  have b0 : Below w.heap.size w (w.alloc (.cells r.cells.toArray 26)) := (by repeat (first | (with_reducible assumption) | (with_reducible exact Below.refl _ _) | (with_reducible refine Below.drew ?_) | (with_reducible refine below_drewN ?_ _) | ((with_reducible refine Below.setCell ?_ ?_ _); rotate_left; focus (first | (simp; done) | (simp; omega) | omega)) | ((with_reducible refine Below.alloc ?_ ?_ _); rotate_left; focus (first | (simp; done) | (simp; omega) | omega))))
  have hlz : (s.l.length : Int) ≤ 15 := by omega
  have RW := Lib.hid (fun W (hb : Below w.heap.size w W) => lawRow_thin r W (hr.below hb hb.size) ht)
  have RL := Lib.hid (fun W (hb : Below w.heap.size w W) => lawList_any s.A s.c s.l W ((hs.below hb).more hb.size) (by omega) hsn)
  have hCK := fun q w0 W (h : LawR r w0 q W) => Check_of h
  have hFA := fun W (hb : Below w.heap.size w W) => refFault_any r W (hr.below hb hb.size)
  have hPR := fun (q : RwM) (w0 V W : World) (A : Option Addr) (c : Nat) (h : LawR r w0 q V) (hb : Below V.heap.size V W) (hA : Sl W W.heap.size 1 encI A s.l) => (by have h2 := ProveTruth_any q A c s.l W (h.at_.below hb hb.size) hA (by omega); rw [h.d] at h2; exact h2 : Calls Try.prog 20 #[.agg q.cells.toArray, .slice A s.l.length c] W fun e w' => e = .returned (.bool (r.d.proveD s.l)) ∧ Below W.heap.size W w')
  rw [hf] at hCK hFA
  have hPO := fun W (hb : Below w.heap.size w W) => refPossible_any r s.A s.c s.l W (hr.below hb hb.size) hf ((hs.below hb).more hb.size)
  obtain ⟨pr, hpr⟩ : ∃ pr, pr = r.d.proveD s.l := ⟨_, rfl⟩
  rw [← hpr] at hPR hPO
  have hp2 : (pr != pr) = false := by simp
  have hkn : ∀ n, n ∈ r.d.ns → 0 ≤ n.k := fun n hn => (hr.kn n hn).1
  have hT := truths_ret r w hr hf hbig
  have hFI := fun q w0 W (h : LawR r w0 q W) => First_of_no h (by rw [err_sick hf hc]; decide)
  rw [err_sick hf hc] at hFI
  unfold NoE at hFI
  rw [(all_nil hf hkn).2 hc] at hT
  unfold RetT at hT
  have HF := Lib.hid hF
  have HCK := Lib.hid hCK
  have HFA := Lib.hid hFA
  have HPR := Lib.hid hPR
  have HFI := Lib.hid hFI
  have L0 := Lib.hid l0
  have B0 := Lib.hid b0
  have HPO := Lib.hid hPO
  have HT := Lib.hid hT
  clear hF l0 b0 hr ht hs hsn hl hCK hFA hPR hFI hf hPO hT hpr hkn hbig hc
  go_enter Try.func3, Try.ntmps3
  go_upto_region 1 with (fail)
  change Code.wp _ _ _ _ (w.alloc (.cells r.cells.toArray 26))
  generalize w.alloc (.cells r.cells.toArray 26) = w0 at *
  go_upto_region 3 with (first
    | (refine wpList_load_row (o := ⟨some 11, _, _, _, _, _⟩) ?_ 26 (.tmp 2) ?_ w.heap.size ?_ 26 r.cells.toArray (0, 0) _ L0.out Try.underlying26 rfl size_refrow ?_; rfl; rfl; rfl)
    | (go_at_call 15; refine (HF.out _ B0.out).mono ?_; rintro e w1 ⟨rfl, hb1⟩))
  have L1 := Lib.hid (L0.out.call hb1)
  have B1 := Lib.hid (B0.out.trans (hb1.mono B0.out.size))
  clear hb1 L0 B0 HF
  go_upto_region 4 with (first
    | (refine wpList_load_row (o := ⟨some 20, _, _, _, _, _⟩) ?_ 26 (.tmp 2) ?_ w.heap.size ?_ 26 r.cells.toArray (0, 0) _ L1.out Try.underlying26 rfl size_refrow ?_; rfl; rfl; rfl)
    | (go_at_call_of 18 (Value.agg r.cells.toArray); refine (RW.out _ B1.out).mono ?_; rintro e w2 ⟨q2, rfl, hq2⟩)
    | (go_at_call_of 17 (Value.agg q2.cells.toArray); refine (HCK.out q2 _ _ hq2).mono ?_; rintro e w3 ⟨rfl, hb3⟩))
  have D3 := Lib.hid (hq2.b.trans (hb3.mono hq2.b.size))
  have L3 := Lib.hid (L1.out.call D3.out)
  have B3 := Lib.hid (B1.out.trans (D3.out.mono B1.out.size))
  clear hq2 hb3 D3 L1 B1 HCK
  go_upto_region 5 with (first
    | (refine wpList_load_row (o := ⟨some 24, _, _, _, _, _⟩) ?_ 26 (.tmp 2) ?_ w.heap.size ?_ 26 r.cells.toArray (0, 0) _ L3.out Try.underlying26 rfl size_refrow ?_; rfl; rfl; rfl)
    | (go_at_call_of 18 (Value.agg r.cells.toArray); refine (RW.out _ B3.out).mono ?_; rintro e w4 ⟨q4, rfl, hq4⟩)
    | (go_at_call_of 19 (Value.agg q4.cells.toArray); refine (HFI.out q4 _ _ hq4).mono ?_; rintro e w5 ⟨rfl, hb5⟩))
  have D5 := Lib.hid (hq4.b.trans (hb5.mono hq4.b.size))
  have L5 := Lib.hid (L3.out.call D5.out)
  have B5 := Lib.hid (B3.out.trans (D5.out.mono B3.out.size))
  clear hq4 hb5 D5 L3 B3 HFI
  go_upto_region 6 with (first
    | (refine wpList_load_row (o := ⟨some 29, _, _, _, _, _⟩) ?_ 26 (.tmp 2) ?_ w.heap.size ?_ 26 r.cells.toArray (0, 0) _ L5.out Try.underlying26 rfl size_refrow ?_; rfl; rfl; rfl)
    | (go_at_call_of 18 (Value.agg r.cells.toArray); refine (RW.out _ B5.out).mono ?_; rintro e w6 ⟨q6, rfl, hq6⟩; have C6 := Lib.hid (B5.out.trans (hq6.b.mono B5.out.size)))
    | (go_at_call_of 21 (Value.slice s.A s.l.length s.c); refine (RL.out _ C6.out).mono ?_; rintro e w7 ⟨Al, cl, rfl, hAl, hSl, hbl⟩)
    | (go_at_call_of 20 (Value.agg q6.cells.toArray); refine (HPR.out q6 _ _ _ Al cl hq6 hbl hSl).mono ?_; rintro e w8 ⟨rfl, hb8⟩))
  have D8 := Lib.hid (hq6.b.trans ((hbl.trans (hb8.mono hbl.size)).mono hq6.b.size))
  have L8 := Lib.hid (L5.out.call D8.out)
  have B8 := Lib.hid (B5.out.trans (D8.out.mono B5.out.size))
  clear hq6 hbl hb8 hSl hAl C6 D8 L5 B5 HPR RW RL
  go_upto_region 7 with (first
    | (refine wpList_load_row (o := ⟨some 34, _, _, _, _, _⟩) ?_ 26 (.tmp 2) ?_ w.heap.size ?_ 26 r.cells.toArray (0, 0) _ L8.out Try.underlying26 rfl size_refrow ?_; rfl; rfl; rfl)
    | (go_at_call_of 22 (Value.agg r.cells.toArray); refine (HFA.out _ B8.out).mono ?_; rintro e w9 ⟨rfl, hb9⟩))
  have L9 := Lib.hid (L8.out.call hb9)
  have B9 := Lib.hid (B8.out.trans (hb9.mono B8.out.size))
  clear hb9 L8 B8 HFA
  go_upto_region 11 with (first
    | ((fail_if_success (have hxx := D10)); refine wpList_load_rowG (o := ⟨some 44, _, _, _, _, _⟩) ?_ 26 (.tmp 2) ?_ w.heap.size ?_ 26 r.cells.toArray (0, 0) _ L9.out Try.underlying26 rfl size_refrow ?_; kernel_rfl; rfl; rfl)
    | (go_at_call_of 23 (Value.agg r.cells.toArray); refine (HPO.out _ B9.out).mono ?_; rintro e w10 ⟨rfl, hb10⟩; have D10 := Lib.hid hb10))
  have L10 := Lib.hid (L9.out.call hb10)
  have B10 := Lib.hid (B9.out.trans (hb10.mono B9.out.size))
  clear hb10 D10 L9 B9 HPO hp2
  go_upto_region 12 with (first
    | ((fail_if_success (have hxx := D11)); refine wpList_load_row (o := ⟨some 63, _, _, _, _, _⟩) ?_ 26 (.tmp 2) ?_ w.heap.size ?_ 26 r.cells.toArray (0, 0) _ L10.out Try.underlying26 rfl size_refrow ?_; rfl; rfl; rfl)
    | (go_at_call_of 24 (Value.agg r.cells.toArray); refine (HT.out _ B10.out).mono ?_; rintro e w11 ⟨out, A11, c11, rfl, ho11, hO11, hb11⟩; have D11 := Lib.hid hb11))
  have B11 := Lib.hid (B10.out.trans (hb11.mono B10.out.size))
  have ho : out = [] := by simpa using ho11
  subst ho
  clear ho11 hO11 hb11 D11 L10 B10 HT
  go_wp2_with (first
    | (go_at_call 16; refine (awake_any _).mono ?_; rintro e v1 ⟨rfl, hv1⟩))
  go_ret
  exact ⟨rfl, B11.out.trans (hv1.mono B11.out.size)⟩
set_option maxRecDepth 100000 in
set_option maxHeartbeats 8000000 in
theorem IllFirst_yes (r : RwM) (s : Sv Int) (w : World) (hr : r.At w w.heap.size) (ht : ThinM r) (hs : Sl w w.heap.size 1 encI s.A s.l) (hsn : s.A = none → s.l.length = 0 ∧ s.c = 0) (hl : s.l.length ≤ 15) (hF : ∀ W, Below w.heap.size w W → Calls Try.prog 15 #[.agg r.cells.toArray] W fun e w' => e = .returned (.bool true) ∧ Below W.heap.size W w') (hf : r.d.fault = 0) (hbig : (r.d.ws.length + 2) ^ r.d.dug.length ≤ 400000) (hc : r.d.can = true) : Calls Try.prog 3 #[.agg r.cells.toArray, .slice s.A s.l.length s.c] w fun e w' => e = .returned (.bool true) ∧ Below w.heap.size w w' := by
  have l0 : Lies (w.alloc (.cells r.cells.toArray 26)) w.heap.size 26 r.cells.toArray := Lies.fresh _ _ _
  have b0 : Below w.heap.size w (w.alloc (.cells r.cells.toArray 26)) := (by repeat (first | (with_reducible assumption) | (with_reducible exact Below.refl _ _) | (with_reducible refine Below.drew ?_) | (with_reducible refine below_drewN ?_ _) | ((with_reducible refine Below.setCell ?_ ?_ _); rotate_left; focus (first | (simp; done) | (simp; omega) | omega)) | ((with_reducible refine Below.alloc ?_ ?_ _); rotate_left; focus (first | (simp; done) | (simp; omega) | omega))))
  have hlz : (s.l.length : Int) ≤ 15 := by omega
  have RW := Lib.hid (fun W (hb : Below w.heap.size w W) => lawRow_thin r W (hr.below hb hb.size) ht)
  have RL := Lib.hid (fun W (hb : Below w.heap.size w W) => lawList_any s.A s.c s.l W ((hs.below hb).more hb.size) (by omega) hsn)
  have hCK := fun q w0 W (h : LawR r w0 q W) => Check_of h
  have hFA := fun W (hb : Below w.heap.size w W) => refFault_any r W (hr.below hb hb.size)
  have hPR := fun (q : RwM) (w0 V W : World) (A : Option Addr) (c : Nat) (h : LawR r w0 q V) (hb : Below V.heap.size V W) (hA : Sl W W.heap.size 1 encI A s.l) => (by have h2 := ProveTruth_any q A c s.l W (h.at_.below hb hb.size) hA (by omega); rw [h.d] at h2; exact h2 : Calls Try.prog 20 #[.agg q.cells.toArray, .slice A s.l.length c] W fun e w' => e = .returned (.bool (r.d.proveD s.l)) ∧ Below W.heap.size W w')
  rw [hf] at hCK hFA
  have hPO := fun W (hb : Below w.heap.size w W) => refPossible_any r s.A s.c s.l W (hr.below hb hb.size) hf ((hs.below hb).more hb.size)
  obtain ⟨pr, hpr⟩ : ∃ pr, pr = r.d.proveD s.l := ⟨_, rfl⟩
  rw [← hpr] at hPR hPO
  have hp2 : (pr != pr) = false := by simp
  have hkn : ∀ n, n ∈ r.d.ns → 0 ≤ n.k := fun n hn => (hr.kn n hn).1
  have hT := truths_ret r w hr hf hbig
  have hFI := fun q w0 W (h : LawR r w0 q W) => First_of h (err_ok hf hc)
  have hok := (fault_ok hf).1
  have hlw := (fault_ok hf).2.2.2.1
  have h10 : r.d.dug.length ≤ 10 := by have := hok.dug; have := hok.n1; omega
  have hne : r.d.allD ≠ [] := fun h => by rw [all_nil hf hkn, hc] at h; cases h
  obtain ⟨a, ls, hal⟩ : ∃ a ls, r.d.allD = a :: ls := by
    cases h : r.d.allD with
    | nil => exact absurd h hne
    | cons a ls => exact ⟨a, ls, rfl⟩
  have hfl := first_all hf hkn hal
  have hmm : ∀ l, l ∈ a :: ls → l.length = r.d.dug.length ∧ ∀ o, o ∈ l → -1 ≤ o ∧ o ≤ 30 := fun l h => by
    rw [← hal] at h
    have h2 := prove_has ((mem_all hf hkn).1 h)
    exact ⟨h2.2.2.1, fun o ho => by have := h2.2.2.2.2 o ho; omega⟩
  have hlen : ls.length < 400000 := by
    have h1 : r.d.allD.length ≤ 400000 := Nat.le_trans (truths_length _ _ _) hbig
    rw [hal, List.length_cons] at h1
    omega
  have hfn := firstD_length r.d h10
  rw [hal] at hT
  unfold RetT at hT
  generalize r.d.firstD = lf at *
  generalize r.d.dug.length = N at *
  unfold RetE at hFI
  have hlf : (lf.length : Int) ≤ 10 := by omega
  have HF := Lib.hid hF
  have HCK := Lib.hid hCK
  have HFA := Lib.hid hFA
  have HPR := Lib.hid hPR
  have HFI := Lib.hid hFI
  have L0 := Lib.hid l0
  have B0 := Lib.hid b0
  have HPO := Lib.hid hPO
  have HT := Lib.hid hT
  have HFL := Lib.hid hfl
  have HMM := Lib.hid hmm
  have HLN := Lib.hid hlen
  have HFN := Lib.hid hfn
  have H10 := Lib.hid h10
  clear hF l0 b0 hr ht hs hsn hl hCK hFA hPR hFI hf hPO hT hpr hkn hbig hc hok hlw h10 hne hal hfl hmm hlen hfn
  go_enter Try.func3, Try.ntmps3
  go_upto_region 1 with (fail)
  change Code.wp _ _ _ _ (w.alloc (.cells r.cells.toArray 26))
  generalize w.alloc (.cells r.cells.toArray 26) = w0 at *
  go_upto_region 3 with (first
    | (refine wpList_load_row (o := ⟨some 11, _, _, _, _, _⟩) ?_ 26 (.tmp 2) ?_ w.heap.size ?_ 26 r.cells.toArray (0, 0) _ L0.out Try.underlying26 rfl size_refrow ?_; rfl; rfl; rfl)
    | (go_at_call 15; refine (HF.out _ B0.out).mono ?_; rintro e w1 ⟨rfl, hb1⟩))
  have L1 := Lib.hid (L0.out.call hb1)
  have B1 := Lib.hid (B0.out.trans (hb1.mono B0.out.size))
  clear hb1 L0 B0 HF
  go_upto_region 4 with (first
    | (refine wpList_load_row (o := ⟨some 20, _, _, _, _, _⟩) ?_ 26 (.tmp 2) ?_ w.heap.size ?_ 26 r.cells.toArray (0, 0) _ L1.out Try.underlying26 rfl size_refrow ?_; rfl; rfl; rfl)
    | (go_at_call_of 18 (Value.agg r.cells.toArray); refine (RW.out _ B1.out).mono ?_; rintro e w2 ⟨q2, rfl, hq2⟩)
    | (go_at_call_of 17 (Value.agg q2.cells.toArray); refine (HCK.out q2 _ _ hq2).mono ?_; rintro e w3 ⟨rfl, hb3⟩))
  have D3 := Lib.hid (hq2.b.trans (hb3.mono hq2.b.size))
  have L3 := Lib.hid (L1.out.call D3.out)
  have B3 := Lib.hid (B1.out.trans (D3.out.mono B1.out.size))
  clear hq2 hb3 D3 L1 B1 HCK
  go_upto_region 5 with (first
    | (refine wpList_load_row (o := ⟨some 24, _, _, _, _, _⟩) ?_ 26 (.tmp 2) ?_ w.heap.size ?_ 26 r.cells.toArray (0, 0) _ L3.out Try.underlying26 rfl size_refrow ?_; rfl; rfl; rfl)
    | (go_at_call_of 18 (Value.agg r.cells.toArray); refine (RW.out _ B3.out).mono ?_; rintro e w4 ⟨q4, rfl, hq4⟩)
    | (go_at_call_of 19 (Value.agg q4.cells.toArray); refine (HFI.out q4 _ _ hq4).mono ?_; rintro e w5 ⟨A5, c5, rfl, hA5, hS5, hb5⟩))
  have D5 := Lib.hid (hq4.b.trans (hb5.mono hq4.b.size))
  have L5 := Lib.hid (L3.out.call D5.out)
  have B5 := Lib.hid (B3.out.trans (D5.out.mono B3.out.size))
  have S5 := Lib.hid hS5
  clear hS5 hA5
  clear hq4 hb5 D5 L3 B3 HFI
  go_upto_region 6 with (first
    | (refine wpList_load_row (o := ⟨some 29, _, _, _, _, _⟩) ?_ 26 (.tmp 2) ?_ w.heap.size ?_ 26 r.cells.toArray (0, 0) _ L5.out Try.underlying26 rfl size_refrow ?_; rfl; rfl; rfl)
    | (go_at_call_of 18 (Value.agg r.cells.toArray); refine (RW.out _ B5.out).mono ?_; rintro e w6 ⟨q6, rfl, hq6⟩; have C6 := Lib.hid (B5.out.trans (hq6.b.mono B5.out.size)))
    | (go_at_call_of 21 (Value.slice s.A s.l.length s.c); refine (RL.out _ C6.out).mono ?_; rintro e w7 ⟨Al, cl, rfl, hAl, hSl, hbl⟩)
    | (go_at_call_of 20 (Value.agg q6.cells.toArray); refine (HPR.out q6 _ _ _ Al cl hq6 hbl hSl).mono ?_; rintro e w8 ⟨rfl, hb8⟩))
  have D8 := Lib.hid (hq6.b.trans ((hbl.trans (hb8.mono hbl.size)).mono hq6.b.size))
  have L8 := Lib.hid (L5.out.call D8.out)
  have B8 := Lib.hid (B5.out.trans (D8.out.mono B5.out.size))
  have S8 := Lib.hid ((S5.out.below D8.out).more D8.out.size)
  clear S5
  clear hq6 hbl hb8 hSl hAl C6 D8 L5 B5 HPR RW RL
  go_upto_region 7 with (first
    | (refine wpList_load_row (o := ⟨some 34, _, _, _, _, _⟩) ?_ 26 (.tmp 2) ?_ w.heap.size ?_ 26 r.cells.toArray (0, 0) _ L8.out Try.underlying26 rfl size_refrow ?_; rfl; rfl; rfl)
    | (go_at_call_of 22 (Value.agg r.cells.toArray); refine (HFA.out _ B8.out).mono ?_; rintro e w9 ⟨rfl, hb9⟩))
  have L9 := Lib.hid (L8.out.call hb9)
  have B9 := Lib.hid (B8.out.trans (hb9.mono B8.out.size))
  have S9 := Lib.hid ((S8.out.below hb9).more hb9.size)
  clear S8
  clear hb9 L8 B8 HFA
  go_upto_region 11 with (first
    | ((fail_if_success (have hxx := D10)); refine wpList_load_rowG (o := ⟨some 44, _, _, _, _, _⟩) ?_ 26 (.tmp 2) ?_ w.heap.size ?_ 26 r.cells.toArray (0, 0) _ L9.out Try.underlying26 rfl size_refrow ?_; kernel_rfl; rfl; rfl)
    | (go_at_call_of 23 (Value.agg r.cells.toArray); refine (HPO.out _ B9.out).mono ?_; rintro e w10 ⟨rfl, hb10⟩; have D10 := Lib.hid hb10))
  have L10 := Lib.hid (L9.out.call hb10)
  have B10 := Lib.hid (B9.out.trans (hb10.mono B9.out.size))
  have S10 := Lib.hid ((S9.out.below hb10).more hb10.size)
  clear S9
  clear hb10 D10 L9 B9 HPO hp2
  go_upto_region 12 with (first
    | ((fail_if_success (have hxx := D11)); refine wpList_load_row (o := ⟨some 63, _, _, _, _, _⟩) ?_ 26 (.tmp 2) ?_ w.heap.size ?_ 26 r.cells.toArray (0, 0) _ L10.out Try.underlying26 rfl size_refrow ?_; rfl; rfl; rfl)
    | (go_at_call_of 24 (Value.agg r.cells.toArray); refine (HT.out _ B10.out).mono ?_; rintro e w11 ⟨out, A11, c11, rfl, ho11, hO11, hb11⟩; have D11 := Lib.hid hb11))
  have B11 := Lib.hid (B10.out.trans (hb11.mono B10.out.size))
  obtain ⟨s0, rest, rfl⟩ : ∃ s0 rest, out = s0 :: rest := by
    cases out with
    | nil => cases ho11
    | cons s0 rest => exact ⟨s0, rest, rfl⟩
  rw [List.map_cons] at ho11
  injection ho11 with ho1 ho2
  subst ho1 ho2
  have hrl : (s0 :: rest).length = rest.length + 1 := rfl
  have hlm : (rest.map Sv.l).length = rest.length := List.length_map ..
  have hO := hO11.ll
  have S11 := Lib.hid ((S10.out.below hb11).more hb11.size)
  have h0n : s0.A = none → s0.l.length = 0 ∧ s0.c = 0 := by
    obtain ⟨_, _, e2, h2, -⟩ := Sl.of_own (enc := encI) (fun _ => rfl) (hO11.i s0 (by simp)) rfl
    cases e2
    exact h2
  have hFS := refFirst_any A11 c11 s0 rest N w11 hO (by have := HLN.out; rw [hlm] at this; omega) (fun x hx => (HMM.out x.l (by rw [← List.map_cons]; exact List.mem_map.2 ⟨x, hx, rfl⟩)).1) h0n H10.out (fun x hx => (HMM.out x.l (by rw [← List.map_cons]; exact List.mem_map.2 ⟨x, hx, rfl⟩)).2)
  have hfl := HFL.out
  rw [hlm] at hfl
  rw [hfl] at hFS
  have HFS := Lib.hid hFS
  obtain ⟨L, hL⟩ : ∃ L, L = (s0 :: rest).length := ⟨_, rfl⟩
  have hLn : ((L : Int) == 0) = false := by rw [hL]; simp; omega
  have hLz : (L : Int) ≤ 400000 := by have := HLN.out; rw [hlm] at this; omega
  rw [← hL] at HFS ⊢
  clear hO11 hb11 D11 L10 B10 HT h0n hO hFS hfl HFL HMM HLN hrl hlm hL S10
  go_wp2_with (first
    | (go_at_call 26; refine HFS.out.mono ?_; rintro e v1 ⟨Af, cf, rfl, hAf, hSf, hv1⟩; have SV := Lib.hid ((S11.out.below hv1).more hv1.size))
    | (go_at_call 25; refine (ints_yes A5 Af c5 cf lf v1 SV.out hSf (by have := H10.out; have := HFN.out; omega)).mono ?_; rintro e v2 ⟨rfl, hv2⟩)
    | (go_at_call 16; refine (awake_any _).mono ?_; rintro e v3 ⟨rfl, hv3⟩))
  go_ret
  exact ⟨rfl, B11.out.trans ((hv1.trans ((hv2.trans (hv3.mono hv2.size)).mono hv1.size)).mono B11.out.size)⟩
theorem IllFirst_walk (r : RwM) (s : Sv Int) (w : World) (h : OpenRow r w) (hsn : (s.A = none → s.l.length = 0 ∧ s.c = 0) ∧ s.l.length ≤ maxLen) (hs : Sl w w.heap.size 1 encI s.A s.l) :
    Calls Try.prog 3 #[.agg r.cells.toArray, s.val] w fun e w' => e = .returned (.bool true) ∧ Below w.heap.size w w' := by
  unfold Sv.val
  cases ht : r.d.thin with
  | false => exact IllFirst_not r _ _ _ w fun W _ => few_thick r W h.lw h.ln h.ld ht
  | true =>
    obtain ⟨hr, htm⟩ := h.thin ht
    have hF := fun W (hb : Below w.heap.size w W) => few_thin r W (hr.below hb hb.size) ht htm.w
    cases hfw : r.d.fewB with
    | false => rw [hfw] at hF; exact IllFirst_not r _ _ _ w hF
    | true =>
      rw [hfw] at hF
      by_cases hl : 15 < s.l.length
      · exact IllFirst_long r _ _ _ w hl hF
      · by_cases hf : r.d.fault = 0
        · cases hc : r.d.can with
          | false => exact IllFirst_sick r s w hr htm hs hsn.1 (by omega) hF hf (few_big hfw hf) hc
          | true => exact IllFirst_yes r s w hr htm hs hsn.1 (by omega) hF hf (few_big hfw hf) hc
        · exact IllFirst_bad r s w hr htm hs hsn.1 (by omega) hF hf
end Go.Proofs.Ytkjhofbjjogmlaa

namespace Go.Proofs.Ytkjhofbjjogmlaa
open Go.RowKit Go.Lib

/-- Is a list before another one, number by number? -/
def lexL : List Int → List Int → Bool
  | a :: l, b :: m => decide (a < b) || (decide (a = b) && lexL l m)
  | _, _ => false
/-- Is a list shorter, or as long and before it? -/
def shortL (a b : List Int) : Bool := if a.length = b.length then lexL a b else decide (a.length < b.length)
theorem lexL_irr : ∀ (a b : List Int), lexL a b = true → lexL b a = false
  | [], _, h => by simp [lexL] at h
  | _ :: _, [], h => by simp [lexL] at h
  | a :: l, b :: m, h => by
    rw [lexL, Bool.or_eq_true, Bool.and_eq_true, decide_eq_true_eq, decide_eq_true_eq] at h
    rw [lexL]
    rcases h with h | ⟨h1, h2⟩
    · rw [decide_eq_false (by omega), decide_eq_false (by omega)]; rfl
    · rw [lexL_irr l m h2, decide_eq_false (by omega)]; simp
theorem shortL_irr {a b : List Int} (h : shortL a b = true) : shortL b a = false := by
  unfold shortL at *
  by_cases e : a.length = b.length
  · rw [if_pos e] at h
    rw [if_pos e.symm]
    exact lexL_irr a b h
  · rw [if_neg e, decide_eq_true_eq] at h
    rw [if_neg (by omega), decide_eq_false (by omega)]
/-- What findC finds is the first one. -/
theorem findC_first (f : List Int → Bool) : ∀ (m : Nat) (l pre s : List Int), l.Pairwise (· < ·) → findC f m l pre = some (pre ++ s) → ∀ sub, sub.Sublist l → sub.length = m → f (pre ++ sub) = true → sub = s ∨ lexL s sub = true
  | 0, l, pre, s, _, h, sub, _, hl, _ => by
    have : sub = [] := List.eq_nil_of_length_eq_zero hl
    subst this
    rw [findC] at h
    split at h
    · rw [Option.some.injEq] at h
      have : pre ++ [] = pre ++ s := by rw [List.append_nil]; exact h
      exact .inl (List.append_cancel_left this)
    · cases h
  | m + 1, [], pre, s, _, h, sub, hs, hl, _ => by rw [findC] at h; cases h
  | m + 1, x :: rest, pre, s, hp, h, sub, hs, hl, hf => by
    rw [List.pairwise_cons] at hp
    rw [findC] at h
    split at h
    · cases h
    · split at h
      · rename_i s' h2
        cases h
        obtain ⟨-, s2, e, -, -⟩ := findC_some f m rest (pre ++ [x]) _ h2
        have e2 : s = x :: s2 := by rw [List.append_assoc] at e; exact List.append_cancel_left e
        subst e2
        have h3 : findC f m rest (pre ++ [x]) = some ((pre ++ [x]) ++ s2) := by rw [h2, e]
        cases hs with
        | cons _ hs =>
          right
          cases sub with
          | nil => simp at hl
          | cons y sub =>
            have := hp.1 y (hs.subset (by simp))
            rw [lexL, decide_eq_true this]; rfl
        | cons_cons _ hs =>
          rename_i sub'
          rcases findC_first f m rest (pre ++ [x]) s2 hp.2 h3 sub' hs (by simpa using hl) (by rw [List.append_assoc]; exact hf) with h4 | h4
          · left; rw [h4]
          · right; rw [lexL, h4]; simp
      · rename_i h2
        cases hs with
        | cons _ hs => exact findC_first f (m + 1) rest pre s hp.2 h sub hs hl hf
        | cons_cons _ hs =>
          rename_i sub'
          have := findC_none f m rest (pre ++ [x]) h2 sub' hs (by simpa using hl)
          rw [List.append_assoc] at this
          rw [show pre ++ ([x] ++ sub') = pre ++ x :: sub' from rfl] at this
          rw [this] at hf; cases hf
section
variable {r : RwD} {ws : List (Int × Int)} {k : Int}
/-- Plants that tell nothing are of no use. -/
theorem tell_enough (hok : r.Ok) (hw : ws.length = 10) {l : List Int} (hs : r.sampleB l = true) (he : r.enoughD ws l k = true) : (l.filter fun p => r.tellB ws p.toNat).Sublist (r.tells ws) ∧ r.enoughD ws (l.filter fun p => r.tellB ws p.toNat) k = true := by
  obtain ⟨h1, h2, h3⟩ := sample_at hs
  have hd := hok.dug
  have hn := hok.n1
  have hin : ∀ p, p ∈ l → 0 ≤ p ∧ p < 10 := fun p hp => by have := h1 p hp; omega
  have hfs : (l.filter fun p => r.tellB ws p.toNat).Sublist l := List.filter_sublist
  have hin2 : ∀ p, p ∈ (l.filter fun p => r.tellB ws p.toNat) → 0 ≤ p ∧ p < 10 := fun p hp => hin p (hfs.subset hp)
  refine ⟨?_, ?_⟩
  · refine sub_of_rising _ _ (h3.sublist hfs) tells_rising fun x hx => ?_
    obtain ⟨ha, hb⟩ := List.mem_filter.1 hx
    have := h1 x ha
    have h4 := mem_tells (r := r) (ws := ws) (q := x.toNat)
    rw [show ((x.toNat : Nat) : Int) = x by omega] at h4
    exact h4.2 ⟨by omega, hb⟩
  · refine enough_of hok (fun t hT ht => ?_) he
    obtain ⟨ha, hb⟩ := (poss_tested hw hin2 t).1 ht
    refine (poss_tested hw hin t).2 ⟨ha, fun q hq hm => ?_⟩
    cases htl : r.tellB ws q with
    | true => exact hb q hq (List.mem_filter.2 ⟨hm, htl⟩)
    | false =>
      have h5 := all_range.1 ha q hq
      unfold RwD.possAt at h5
      rw [Bool.and_eq_true] at h5
      exact no_tell hw (by omega) (h2 _ hm) htl h5.1
/-- A sample that is enough is the best one, or this is before it. -/
theorem best_first (hok : r.Ok) (hw : ws.length = 10) (hk : 0 ≤ k) {l : List Int} (hs : r.sampleB l = true) (he : r.enoughD ws l k = true) : l = r.bestD ws k ∨ shortL (r.bestD ws k) l = true := by
  have hle := best_least hok hw hk hs he
  by_cases hlen : (r.bestD ws k).length = l.length
  · have hfs : (l.filter fun p => r.tellB ws p.toNat).Sublist l := List.filter_sublist
    obtain ⟨h1, h2⟩ := tell_enough hok hw hs he
    have h3 := (best_is hok hw hk).2.2 _ h1 h2
    have h4 : l.filter (fun p => r.tellB ws p.toNat) = l := hfs.eq_of_length (Nat.le_antisymm hfs.length_le (by omega))
    rw [h4] at h1
    have key : l = r.bestD ws k ∨ lexL (r.bestD ws k) l = true := by
      unfold RwD.bestD at *
      cases h : bestN (fun k' => findC (fun ps => r.enoughD ws ps k) k' (r.tells ws) []) (r.tells ws).length 0 with
      | none =>
        rw [h] at hlen
        left
        exact h1.eq_of_length hlen.symm
      | some s =>
        rw [h] at hlen
        obtain ⟨j, -, hj, hs', hno⟩ := bestN_some h
        obtain ⟨-, sub, e, h5, h6⟩ := findC_some _ _ _ _ _ hs'
        rw [List.nil_append] at e
        subst e
        rw [Option.getD_some] at hlen ⊢
        exact findC_first _ j _ [] s tells_rising hs' l h1 (by omega) he
    rcases key with h | h
    · exact .inl h
    · right; unfold shortL; rw [if_pos hlen, h]
  · right
    unfold shortL
    rw [if_neg hlen, decide_eq_true_eq]; omega
end
/-- The plants of a set, as a number's bits. -/
def setL (n j : Nat) : List Int := ((List.range n).filter fun p => j.testBit p).map fun p : Nat => (p : Int)
theorem setL_succ (n j : Nat) : setL (n + 1) j = setL n j ++ if j.testBit n then [(n : Int)] else [] := by
  unfold setL
  rw [List.range_succ, List.filter_append, List.map_append]
  congr 1
  by_cases h : j.testBit n = true
  · rw [if_pos h]; simp [h]
  · rw [if_neg h]; simp [h]
theorem setL_length (n j : Nat) : (setL n j).length ≤ n := by
  unfold setL
  rw [List.length_map]
  exact Nat.le_trans (List.length_filter_le ..) (by simp)
theorem mem_setL {n j : Nat} {x : Int} : x ∈ setL n j ↔ ∃ p : Nat, x = p ∧ p < n ∧ j.testBit p = true := by
  unfold setL
  rw [List.mem_map]
  constructor
  · rintro ⟨p, hp, rfl⟩
    obtain ⟨h1, h2⟩ := List.mem_filter.1 hp
    exact ⟨p, rfl, List.mem_range.1 h1, h2⟩
  · rintro ⟨p, rfl, h1, h2⟩
    exact ⟨p, List.mem_filter.2 ⟨List.mem_range.2 h1, h2⟩, rfl⟩
theorem setL_rising (n j : Nat) : (setL n j).Pairwise (· < ·) := by
  unfold setL
  rw [List.pairwise_map]
  exact ((List.pairwise_lt_range).filter _).imp fun h => by omega
theorem bits_of (f : Nat → Bool) : ∀ n, ∃ j, j < 2 ^ n ∧ ∀ p, p < n → j.testBit p = f p
  | 0 => ⟨0, by simp, fun p h => by omega⟩
  | n + 1 => by
    obtain ⟨j, h1, h2⟩ := bits_of f n
    cases hf : f n with
    | false =>
      refine ⟨j, by rw [Nat.pow_succ]; omega, fun p hp => ?_⟩
      by_cases e : p = n
      · subst e; rw [Nat.testBit_lt_two_pow h1, hf]
      · exact h2 p (by omega)
    | true =>
      refine ⟨2 ^ n + j, by rw [Nat.pow_succ]; omega, fun p hp => ?_⟩
      by_cases e : p = n
      · subst e; rw [Nat.testBit_two_pow_add_eq, Nat.testBit_lt_two_pow h1, hf]; rfl
      · rw [Nat.testBit_two_pow_add_gt (by omega)]; exact h2 p (by omega)
theorem set_of {n : Nat} {l : List Int} (h : ∀ x, x ∈ l → 0 ≤ x ∧ x < n) (hp : l.Pairwise (· < ·)) : ∃ j, j < 2 ^ n ∧ setL n j = l := by
  obtain ⟨j, h1, h2⟩ := bits_of (fun p => decide ((p : Int) ∈ l)) n
  refine ⟨j, h1, ?_⟩
  have hm : ∀ x, x ∈ setL n j ↔ x ∈ l := fun x => by
    rw [mem_setL]
    constructor
    · rintro ⟨p, rfl, h3, h4⟩
      rw [h2 p h3, decide_eq_true_eq] at h4
      exact h4
    · intro hx
      have := h x hx
      refine ⟨x.toNat, by omega, by omega, ?_⟩
      rw [h2 _ (by omega), decide_eq_true_eq, show ((x.toNat : Nat) : Int) = x by omega]
      exact hx
  have s1 := sub_of_rising l (setL n j) (setL_rising n j) hp fun x hx => (hm x).1 hx
  have s2 := sub_of_rising (setL n j) l hp (setL_rising n j) fun x hx => (hm x).2 hx
  exact s1.eq_of_length (Nat.le_antisymm s1.length_le s2.length_le)
/-- The best set that is good, of the first ones. -/
def smpTo (good : List Int → Bool) (n : Nat) : Nat → Option (List Int)
  | 0 => none
  | i + 1 => if good (setL n i) && (match smpTo good n i with | none => true | some b => shortL (setL n i) b) then some (setL n i) else smpTo good n i
theorem smpTo_mem {good : List Int → Bool} {n : Nat} : ∀ {i : Nat} {b : List Int}, smpTo good n i = some b → good b = true ∧ ∃ j, j < i ∧ b = setL n j
  | 0, b, h => by cases h
  | i + 1, b, h => by
    rw [smpTo] at h
    generalize (match smpTo good n i with | none => true | some b => shortL (setL n i) b) = mm at h
    cases hg : good (setL n i) && mm with
    | true =>
      rw [hg, if_pos rfl] at h
      cases h
      rw [Bool.and_eq_true] at hg
      exact ⟨hg.1, i, by omega, rfl⟩
    | false =>
      rw [hg, if_neg (by simp)] at h
      obtain ⟨h1, j, h2, h3⟩ := smpTo_mem h
      exact ⟨h1, j, by omega, h3⟩
theorem smpTo_best {good : List Int → Bool} {n j : Nat} (hg : good (setL n j) = true) (h1 : ∀ i, good (setL n i) = true → setL n i = setL n j ∨ shortL (setL n j) (setL n i) = true) : ∀ i, j < i → smpTo good n i = some (setL n j)
  | 0, h => by omega
  | i + 1, h => by
    rw [smpTo]
    by_cases e : j = i
    · subst e
      rw [hg, Bool.true_and]
      cases hs : smpTo good n j with
      | none => rfl
      | some b =>
        obtain ⟨h2, j', h3, rfl⟩ := smpTo_mem hs
        dsimp only
        rcases h1 j' h2 with h4 | h4
        · rw [h4, ite_self]
        · rw [if_pos h4]
    · rw [smpTo_best hg h1 i (by omega)]
      dsimp only
      split
      · rename_i hc
        rw [Bool.and_eq_true] at hc
        rcases h1 i hc.1 with h2 | h2
        · rw [h2]
        · rw [shortL_irr h2] at hc; cases hc.2
      · rfl
/-- What the reference takes for the best sample. -/
theorem best_smp {r : RwD} (hok : r.Ok) {k : Int} (hk : 0 ≤ k) : smpTo (fun l => r.sampleB l && r.enoughD r.wins l k) r.dug.length (2 ^ r.dug.length) = some (r.bestD r.wins k) := by
  obtain ⟨h1, h2, -⟩ := best_is (r := r) hok r.wins_length hk
  have hs := sub_sample hok h1
  obtain ⟨h3, -, h4⟩ := sample_at hs
  have hd := hok.dug
  obtain ⟨j, hj, e⟩ := set_of (n := r.dug.length) (l := r.bestD r.wins k) (fun x hx => by have := h3 x hx; omega) h4
  rw [← e]
  refine smpTo_best ?_ (fun i hi => ?_) _ hj
  · rw [e, hs, h2]; rfl
  · rw [Bool.and_eq_true] at hi
    rw [e]
    exact best_first hok r.wins_length hk hi.1 hi.2
end Go.Proofs.Ytkjhofbjjogmlaa

namespace Go.Proofs.Ytkjhofbjjogmlaa
open Go.RowKit Go.Lib

/-- Is a list of onsets seen by a sample, or has it few old cases? -/
def RwD.enAt (r : RwD) (number : Int) (ps l : List Int) : Bool := !(unsK r.ws.length r.old l ps ps.length) || decide ((r.casK l r.dug.length : Int) ≤ number)
def RwD.refEn (r : RwD) (ls : List (List Int)) (number : Int) (ps : List Int) : Bool := ls.all (r.enAt number ps)
theorem refEn_yes {r : RwD} {ls : List (List Int)} {number : Int} {ps : List Int} (h : ∀ (j : Nat) (l : List Int), ls[j]? = some l → r.enAt number ps l = true) : r.refEn ls number ps = true := by
  unfold RwD.refEn
  rw [List.all_eq_true]
  intro l hl
  obtain ⟨j, hj⟩ := List.getElem?_of_mem hl
  exact h j l hj
theorem refEn_no {r : RwD} {ls : List (List Int)} {number : Int} {ps l : List Int} {j : Nat} (hj : ls[j]? = some l) (h : r.enAt number ps l = false) : r.refEn ls number ps = false := by
  rw [Bool.eq_false_iff]
  intro h2
  unfold RwD.refEn at h2
  rw [List.all_eq_true] at h2
  rw [h2 l (List.mem_of_getElem? hj)] at h; cases h
set_option maxRecDepth 100000 in
set_option maxHeartbeats 8000000 in
theorem refEnough_any (r : RwM) (A7 : Option Addr) (c7 : Nat) (out : List (Sv Int)) (number : Int) (Ap : Option Addr) (cp : Nat) (ps : List Int) (w : World) (hr : r.At w w.heap.size) (hok : r.d.Ok) (hM : LlM out A7 w) (hl : out.length ≤ 1000000) (hL : ∀ s, s ∈ out → s.l.length = r.d.dug.length ∧ ∀ o, o ∈ s.l → -1 ≤ o ∧ o ≤ 30) (hP : Sl w w.heap.size 1 encI Ap ps) (hpl : ps.length ≤ 1000000) (hp : ∀ p, p ∈ ps → 0 ≤ p ∧ p < r.d.dug.length) :
    Calls Try.prog 36 #[.agg r.cells.toArray, .slice A7 out.length c7, .int .i64 number, .slice Ap ps.length cp] w fun e w' => e = .returned (.bool (r.d.refEn (out.map Sv.l) number ps)) ∧ Below w.heap.size w w' := by
  obtain ⟨N, hN⟩ : ∃ N, N = r.d.dug.length := ⟨_, rfl⟩
  obtain ⟨Y, hY⟩ : ∃ Y, Y = r.ws.l.length := ⟨_, rfl⟩
  obtain ⟨K, hK⟩ : ∃ K, K = ps.length := ⟨_, rfl⟩
  obtain ⟨L, hLo⟩ : ∃ L, L = out.length := ⟨_, rfl⟩
  have hN10 : N ≤ 10 := by have := hok.n1; have := hok.dug; omega
  have hY30 : Y ≤ 30 := by rw [hY]; exact hok.nw
  have hYz : (Y : Int) ≤ 30 := by omega
  have hold : 0 ≤ r.old ∧ r.old ≤ 30 := hok.old
  have hsh : 0 ≤ r.sh ∧ r.sh ≤ 30 := hok.sh
  have hLz : (L : Int) ≤ 1000000 := by omega
  have hKz : (K : Int) ≤ 1000000 := by omega
  have l0 : Lies (w.alloc (.cells r.cells.toArray 26)) w.heap.size 26 r.cells.toArray := Lies.fresh _ _ _
  have b0 : Below w.heap.size w (w.alloc (.cells r.cells.toArray 26)) := (by repeat (first | (with_reducible assumption) | (with_reducible exact Below.refl _ _) | (with_reducible refine Below.drew ?_) | (with_reducible refine below_drewN ?_ _) | ((with_reducible refine Below.setCell ?_ ?_ _); rotate_left; focus (first | (simp; done) | (simp; omega) | omega)) | ((with_reducible refine Below.alloc ?_ ?_ _); rotate_left; focus (first | (simp; done) | (simp; omega) | omega))))
  obtain ⟨ls, hls⟩ : ∃ ls, ls = out.map Sv.l := ⟨_, rfl⟩
  have hen : ∀ l, r.d.enAt number ps l = (!(unsK Y r.old l ps K) || decide ((r.d.casK l N : Int) ≤ number)) := fun l => by unfold RwD.enAt; rw [hN, hK, hY]; rfl
  have hCA := fun (A : Option Addr) (c : Nat) (l : List Int) W (hb : Below w.heap.size w W) (hA : Sl W W.heap.size 1 encI A l) (hln : l.length = N) (ho : ∀ o, o ∈ l → -1 ≤ o ∧ o ≤ 30) => refCases_any r A c l W (hr.below hb hb.size) hok hA (by rw [hln, hN]; rfl) ho
  rw [← hN] at hCA hp hL
  rw [← hls, ← hLo, ← hK]
  have HLS := Lib.hid hls
  have HLO := Lib.hid hLo
  have HKK := Lib.hid hK
  have HEN := Lib.hid hen
  have HCA := Lib.hid hCA
  have HM := Lib.hid hM
  have HLL := Lib.hid hL
  have HPS := Lib.hid hP
  have HPP := Lib.hid hp
  have HYY := Lib.hid hY
  have HSA := Lib.hid (fun (p o : Int) W => says_any r ⟨p, (Y : Int), 1, false⟩ o W ⟨by show (-1000 : Int) ≤ Y; omega, by show (Y : Int) ≤ 1000; omega⟩ ⟨hsh.1, by omega⟩ ⟨hold.1, by omega⟩)
  have HSB := Lib.hid (show ∀ (p o : Int), r.d.saysB ⟨p, (Y : Int), 1, false⟩ o = (decide (o < 0) || decide ((Y : Int) < o + r.old)) from fun p o => by
    show (if false = true then _ else decide (o < 0) || decide ((Y : Int) - r.old < o)) = _
    rw [if_neg (by simp)]
    congr 1
    exact decide_eq_decide.2 (by omega))
  have L0 := Lib.hid l0
  have B0 := Lib.hid b0
  clear l0 b0 hr hok hM hl hL hP hpl hp hN hY hK hLo hold hsh hls hen hCA
  go_enter Try.func36, Try.ntmps36
  go_upto_region 1 with (fail)
  change Code.wp _ _ _ _ (w.alloc (.cells r.cells.toArray 26))
  generalize w.alloc (.cells r.cells.toArray 26) = w0 at *
  go_wp2
  go_loopw [9, 10, 11] (fun s9 _ _ wr => ∃ i : Nat, i ≤ L ∧ s9 = .int .i64 i ∧ Aside (Below w.heap.size w wr) ∧ Aside (Lies wr w.heap.size 26 r.cells.toArray) ∧ Aside (∀ j l, j < i → ls[j]? = some l → r.d.enAt number ps l = true)) (fun i _ _ _ => L - (intOf i).toNat)
  case atStart => exact ⟨0, by omega, rfl, B0.out, L0.out, (show Aside _ from fun j l h => absurd h (Nat.not_lt_zero _))⟩
  case round =>
    obtain ⟨i, hi, rfl, HB, HL, HH⟩ := hrel
    clear L0 B0
    by_cases hlt : i < L
    · have hltz : (i : Int) < (L : Int) := by omega
      have hi0 : (0 : Int) ≤ (i : Int) := by omega
      obtain ⟨s, hs⟩ : ∃ s, out[i]? = some s := ⟨out[i]'(by rw [← HLO.out]; exact hlt), by simp⟩
      have hsm := List.mem_of_getElem? hs
      obtain ⟨hsl, hso⟩ := HLL.out s hsm
      obtain ⟨ob, of, e1, hob, hc1⟩ := HM.out.at_ hs
      have hsi := HM.out.i s hsm
      have hlx : ls[i]? = some s.l := by rw [HLS.out, List.getElem?_map, hs]; rfl
      have HLX := Lib.hid hlx
      have HC1 := Lib.hid hc1
      have HSI := Lib.hid hsi
      have HSO := Lib.hid hso
      have HSL := Lib.hid hsl
      have HB1 := Lib.hid HB.out
      have HL1 := Lib.hid HL.out
      subst e1
      clear hs hsm hsi hlx hc1 hso hsl HB HL HM
      go_wp2
      go_loopw [10, 11] (fun s10 s11 wz => ∃ k : Nat, k ≤ K ∧ s10 = .bool (unsK Y r.old s.l ps k) ∧ s11 = .int .i64 k ∧ Aside (Below w.heap.size w wz) ∧ Aside (Lies wz w.heap.size 26 r.cells.toArray)) (fun _ k _ => K - (intOf k).toNat)
      case atStart => exact ⟨0, by omega, rfl, rfl, HB1.out, HL1.out⟩
      case round =>
        obtain ⟨k, hk, rfl, rfl, HB, HL⟩ := hrel
        clear HB1 HL1
        by_cases hkt : k < K
        · have hktz : (k : Int) < (K : Int) := by omega
          have hk0 : (0 : Int) ≤ (k : Int) := by omega
          obtain ⟨q, hq⟩ : ∃ q, ps[k]? = some q := ⟨ps[k]'(by rw [← HKK.out]; exact hkt), by simp⟩
          obtain ⟨hq0, hqN⟩ := HPP.out q (List.mem_of_getElem? hq)
          obtain ⟨p, rfl⟩ : ∃ p : Nat, q = (p : Int) := ⟨q.toNat, by omega⟩
          have hsl := HSL.out
          have hpl : (p : Int) < (s.l.length : Int) := by omega
          have hp0 : (0 : Int) ≤ (p : Int) := by omega
          have hsz : (s.l.length : Int) ≤ 10 := by omega
          obtain ⟨o, ho⟩ : ∃ o, s.l[p]? = some o := ⟨s.l[p]'(by omega), by simp⟩
          have hsuc := unsK_succ Y r.old s.l ps k
          have hat : unsAt Y r.old s.l ps k = (decide (o < 0) || decide ((Y : Int) < o + r.old)) := by
            unfold unsAt
            rw [show ps.getD k 0 = (p : Int) by rw [List.getD, hq]; rfl, Int.toNat_natCast, show s.l.getD p 0 = o by rw [List.getD, ho]; rfl]
          rw [hat, ← HSB.out (p : Int) o] at hsuc
          obtain ⟨pb, pf, ep, hpb, hcp⟩ := HPS.out.cell1 hq
          obtain ⟨ib, ifs, ei, hib, hci⟩ := HSI.out.cell1 ho
          have r1 := cell_regrown ((HB.out.cell (p := ⟨pb, pf + k, none⟩) hpb).trans hcp)
          have r2 := cell_regrown ((HB.out.cell (p := ⟨ob, of + i, none⟩) hob).trans HC1.out)
          have r3 := cell_regrown ((HB.out.cell (p := ⟨ib, ifs + p, none⟩) hib).trans hci)
          have r4 := cell_regrown (show wr.cell? ⟨w.heap.size, 1, none⟩ = some (.slice r.ws.A Y r.ws.c) by rw [HYY.out]; exact HL.out.at_ 1)
          rw [ei] at r2
          have hr0 : ∀ V, (∃ p : Regrown, V = Go.Sort.grow (redrawn wr p.d) p.os) → V.rangeAt w.heap.size 0 r.cells := by
            rintro V ⟨p, rfl⟩
            exact Lies.range (cs := r.cells) (HL.out.call (below_regrown _ _ _)) (fun j v hj => by simpa using hj)
          have HR0 := Lib.hid hr0
          obtain ⟨sb, hsb⟩ : ∃ b, b = r.d.saysB ⟨(p : Int), (Y : Int), 1, false⟩ o := ⟨_, rfl⟩
          have hsy := HSA.out (p : Int) o
          rw [← hsb] at hsy hsuc
          have HSY := Lib.hid (fun W (_ : Below wr.heap.size wr W) => hsy W)
          obtain ⟨u, hu⟩ : ∃ u, u = unsK Y r.old s.l ps k := ⟨_, rfl⟩
          rw [← hu] at hsuc ⊢
          have HSU := Lib.hid hsuc
          have HBB := Lib.hid HB.out
          have HLB := Lib.hid HL.out
          subst ep
          clear hq ho hsl hat hcp hci hr0 hsb hsy hu hsuc hpb hib ei HB HL
          cases u with
          | false =>
            go_upto_region 8 with (fail)
            refine wp_region_quiet_below (by kernel_rfl) (by kernel_rfl) ?_
            repeat (first
              | go_big_quiet_skip
              | go_big_quiet_step ((first  | fail)) | quiet_step ((first  | fail)))
            refine wpQuiet_nil ?_
            intro wq hwq
            have hbq : Below _ _ wq := (by obtain ⟨p, rfl⟩ := hwq; exact below_regrown _ _ _)
            clear hwq r1 r2 r3 r4
            go_wp2
            go_roundw
            case rel => exact ⟨k + 1, by omega, by rw [HSU.out]; rfl, by go_num, HBB.out.trans (hbq.mono HBB.out.size), HLB.out.call hbq⟩
            case measure => simp [intOf]; omega
          | true =>
            go_upto_region 8 with (fail)
            refine wp_region_quiet_below (by kernel_rfl) (by kernel_rfl) ?_
            repeat (first
              | go_big_quiet_skip
              | (have hxx := HR0; clear HR0; refine wpQuiet_load_wholeG (o := ⟨some 26, _, _, _, _, _⟩) ?_ 26 (.tmp 4) ?_ w.heap.size 0 ?_ r.cells _ hxx.out Try.underlying26 rfl size_refrow ?_; kernel_rfl; rfl; rfl; simp only [Act.put, List.setIfInBounds_toArray, List.set_cons_zero, List.set_cons_succ]; clear hxx)
              | go_big_quiet_step ((first | (go_at_call 63; exact Calls.regrown_of (HSY.out _ (below_regrown _ _ _))) | fail)) | quiet_step ((first | (go_at_call 63; exact Calls.regrown_of (HSY.out _ (below_regrown _ _ _))) | fail)))
            refine wpQuiet_nil ?_
            intro wq hwq
            have hbq : Below _ _ wq := (by obtain ⟨p, rfl⟩ := hwq; exact below_regrown _ _ _)
            clear hwq r1 r2 r3 r4
            go_wp2
            go_roundw
            case rel => exact ⟨k + 1, by omega, by rw [HSU.out]; rfl, by go_num, HBB.out.trans (hbq.mono HBB.out.size), HLB.out.call hbq⟩
            case measure => simp [intOf]; omega
        · obtain rfl : k = K := by omega
          have hen := HEN.out s.l
          have r2 := cell_regrown ((HB.out.cell (p := ⟨ob, of + i, none⟩) hob).trans HC1.out)
          have hr0 : ∀ V, (∃ p : Regrown, V = Go.Sort.grow (redrawn wr p.d) p.os) → V.rangeAt w.heap.size 0 r.cells := by
            rintro V ⟨p, rfl⟩
            exact Lies.range (cs := r.cells) (HL.out.call (below_regrown _ _ _)) (fun j v hj => by simpa using hj)
          have HR0 := Lib.hid hr0
          have hca := fun W (hb : Below wr.heap.size wr W) => HCA.out s.A s.c s.l W (HB.out.trans (hb.mono HB.out.size)) ((HSI.out.below (HB.out.trans (hb.mono HB.out.size))).more (Nat.le_trans HB.out.size hb.size)) HSL.out HSO.out
          obtain ⟨ck, hck⟩ : ∃ ck, ck = r.d.casK s.l N := ⟨_, rfl⟩
          obtain ⟨u, hu⟩ : ∃ u, u = unsK Y r.old s.l ps k := ⟨_, rfl⟩
          rw [← hck] at hca hen
          rw [← hu] at hen ⊢
          have HC := Lib.hid hca
          have HE := Lib.hid hen
          have HBB := Lib.hid HB.out
          have HLB := Lib.hid HL.out
          have HNX := Lib.hid (show r.d.enAt number ps s.l = true → ∀ j l, j < i + 1 → ls[j]? = some l → r.d.enAt number ps l = true from fun h j l hj hl => by
            by_cases e : j = i
            · subst e
              rw [HLX.out] at hl
              cases hl
              exact h
            · exact HH.out j l (by omega) hl)
          clear hen hca hck hu hr0 HB HL
          cases u with
          | false =>
            go_upto_region 9 with (fail)
            refine wp_region_quiet_below (by kernel_rfl) (by kernel_rfl) ?_
            repeat (first
              | go_big_quiet_skip
              | go_big_quiet_step ((first  | fail)) | quiet_step ((first  | fail)))
            refine wpQuiet_nil ?_
            intro wq hwq
            have hbq : Below _ _ wq := (by obtain ⟨p, rfl⟩ := hwq; exact below_regrown _ _ _)
            clear hwq r2
            go_wp2
            go_roundw
            case rel => exact ⟨i + 1, by omega, by go_num, HBB.out.trans (hbq.mono HBB.out.size), HLB.out.call hbq, HNX.out (by rw [HE.out]; rfl)⟩
            case measure => simp [intOf]; omega
          | true =>
            by_cases hle : (ck : Int) ≤ number
            · have hgt : ¬ number < (ck : Int) := by omega
              go_upto_region 9 with (fail)
              refine wp_region_quiet_below (by kernel_rfl) (by kernel_rfl) ?_
              repeat (first
                | go_big_quiet_skip
                | (have hxx := HR0; clear HR0; refine wpQuiet_load_wholeG (o := ⟨some 49, _, _, _, _, _⟩) ?_ 26 (.tmp 4) ?_ w.heap.size 0 ?_ r.cells _ hxx.out Try.underlying26 rfl size_refrow ?_; kernel_rfl; rfl; rfl; simp only [Act.put, List.setIfInBounds_toArray, List.set_cons_zero, List.set_cons_succ]; clear hxx)
                | go_big_quiet_step ((first | (go_at_call 43; exact Calls.regrown_of (HC.out _ (below_regrown _ _ _))) | fail)) | quiet_step ((first | (go_at_call 43; exact Calls.regrown_of (HC.out _ (below_regrown _ _ _))) | fail)))
              refine wpQuiet_nil ?_
              intro wq hwq
              have hbq : Below _ _ wq := (by obtain ⟨p, rfl⟩ := hwq; exact below_regrown _ _ _)
              clear hwq r2
              go_wp2
              go_roundw
              case rel => exact ⟨i + 1, by omega, by go_num, HBB.out.trans (hbq.mono HBB.out.size), HLB.out.call hbq, HNX.out (by rw [HE.out, decide_eq_true hle]; rfl)⟩
              case measure => simp [intOf]; omega
            · have hgt : number < (ck : Int) := by omega
              go_upto_region 9 with (fail)
              refine wp_region_quiet_below (by kernel_rfl) (by kernel_rfl) ?_
              repeat (first
                | go_big_quiet_skip
                | (have hxx := HR0; clear HR0; refine wpQuiet_load_wholeG (o := ⟨some 49, _, _, _, _, _⟩) ?_ 26 (.tmp 4) ?_ w.heap.size 0 ?_ r.cells _ hxx.out Try.underlying26 rfl size_refrow ?_; kernel_rfl; rfl; rfl; simp only [Act.put, List.setIfInBounds_toArray, List.set_cons_zero, List.set_cons_succ]; clear hxx)
                | go_big_quiet_step ((first | (go_at_call 43; exact Calls.regrown_of (HC.out _ (below_regrown _ _ _))) | fail)) | quiet_step ((first | (go_at_call 43; exact Calls.regrown_of (HC.out _ (below_regrown _ _ _))) | fail)))
              refine wpQuiet_nil ?_
              intro wq hwq
              have hbq : Below _ _ wq := (by obtain ⟨p, rfl⟩ := hwq; exact below_regrown _ _ _)
              clear hwq r2
              go_wp2
              go_ret
              exact ⟨ret_bool (refEn_no HLX.out (by rw [HE.out, decide_eq_false (by omega)]; rfl)).symm, HBB.out.trans (hbq.mono HBB.out.size)⟩
    · obtain rfl : i = L := by omega
      have hy : r.d.refEn ls number ps = true := refEn_yes fun j l hj => HH.out j l (by
        have := (List.getElem?_eq_some_iff.1 hj).1
        rw [HLS.out, List.length_map, ← HLO.out] at this
        exact this) hj
      have HY := Lib.hid hy
      have HBB := Lib.hid HB.out
      clear hy HB HL HH
      go_wp2
      go_ret
      exact ⟨ret_bool HY.out.symm, HBB.out⟩
/-- The reference's word for enough is the program's. -/
theorem refEn_iff {r : RwD} (hf : r.fault = 0) (hkn : ∀ n, n ∈ r.ns → 0 ≤ n.k) {ps : List Int} {k : Int} (hp : ∀ p, p ∈ ps → 0 ≤ p ∧ p < r.dug.length) : r.refEn r.allD k ps = r.enoughD r.wins ps k := by
  rw [Bool.eq_iff_iff, all_enough hf hkn hp]
  unfold RwD.refEn
  rw [List.all_eq_true]
  refine forall_congr' fun l => forall_congr' fun hl => ?_
  unfold RwD.enAt
  rw [Bool.or_eq_true, Bool.not_eq_true', decide_eq_true_eq]
  constructor
  · rintro (h | h) hu
    · rw [← Bool.not_eq_true] at h
      refine absurd (all_range.2 fun i hi => ?_) h
      have hm : ps.getD i 0 ∈ ps := getD_mem (by simpa using hi)
      unfold unsAt
      rw [Bool.or_eq_true, decide_eq_true_eq, decide_eq_true_eq]
      exact hu _ hm
    · exact h
  · intro h
    cases hu : unsK r.ws.length r.old l ps ps.length with
    | false => exact .inl rfl
    | true =>
      right
      refine h fun p hpm => ?_
      have := unsK_all hu p.toNat (by rw [show ((p.toNat : Nat) : Int) = p by have := hp p hpm; omega]; exact hpm)
      exact this
end Go.Proofs.Ytkjhofbjjogmlaa

namespace Go.Proofs.Ytkjhofbjjogmlaa
open Go.RowKit Go.Lib

theorem lexL_step {a b : List Int} {i : Nat} {x y : Int} (hx : a[i]? = some x) (hy : b[i]? = some y) : lexL (a.drop i) (b.drop i) = (decide (x < y) || (decide (x = y) && lexL (a.drop (i + 1)) (b.drop (i + 1)))) := by
  obtain ⟨h1, h2⟩ := List.getElem?_eq_some_iff.1 hx
  obtain ⟨h3, h4⟩ := List.getElem?_eq_some_iff.1 hy
  rw [List.drop_eq_getElem_cons h1, List.drop_eq_getElem_cons h3, lexL, h2, h4]
set_option maxRecDepth 100000 in
set_option maxHeartbeats 4000000 in
theorem refLess_any (A1 A2 : Option Addr) (c1 c2 : Nat) (a b : List Int) (w : World) (h1 : Sl w w.heap.size 1 encI A1 a) (h2 : Sl w w.heap.size 1 encI A2 b) (hl1 : a.length ≤ 1000) (hl2 : b.length ≤ 1000) :
    Calls Try.prog 62 #[.slice A1 a.length c1, .slice A2 b.length c2] w fun e w' => e = .returned (.bool (shortL a b)) ∧ Below w.heap.size w w' := by
  obtain ⟨n, hn⟩ : ∃ n, n = a.length := ⟨_, rfl⟩
  by_cases e : a.length = b.length
  · have hs : shortL a b = lexL a b := by unfold shortL; rw [if_pos e]
    rw [hs, ← e, ← hn]
    have hnz : (n : Int) ≤ 1000 := by omega
    have H1 := Lib.hid h1
    have H2 := Lib.hid h2
    have HN := Lib.hid hn
    have HE := Lib.hid e
    clear h1 h2 hn e hs hl1 hl2
    go_enter Try.func62, Try.ntmps62
    go_wp2
    go_loopw [5] (fun s5 wr => ∃ i : Nat, i ≤ n ∧ s5 = .int .i64 i ∧ Aside (Below w.heap.size w wr) ∧ Aside (lexL a b = lexL (a.drop i) (b.drop i))) (fun i _ => n - (intOf i).toNat)
    case atStart => exact ⟨0, by omega, rfl, Below.refl _ _, rfl⟩
    case round =>
      obtain ⟨i, hi, rfl, HB, HX⟩ := hrel
      by_cases hlt : i < n
      · have hltz : (i : Int) < (n : Int) := by omega
        have hi0 : (0 : Int) ≤ (i : Int) := by omega
        obtain ⟨x, hx⟩ : ∃ x, a[i]? = some x := ⟨a[i]'(by rw [← HN.out]; exact hlt), by simp⟩
        obtain ⟨y, hy⟩ : ∃ y, b[i]? = some y := ⟨b[i]'(by rw [← HE.out, ← HN.out]; exact hlt), by simp⟩
        obtain ⟨b1, o1, e1, hb1, p1⟩ := H1.out.cell1 hx
        obtain ⟨b2, o2, e2, hb2, p2⟩ := H2.out.cell1 hy
        have r1 := cell_regrown ((HB.out.cell (p := ⟨b1, o1 + i, none⟩) hb1).trans p1)
        have r2 := cell_regrown ((HB.out.cell (p := ⟨b2, o2 + i, none⟩) hb2).trans p2)
        have hst := HX.out.trans (lexL_step hx hy)
        have HS := Lib.hid hst
        have HB' := Lib.hid HB.out
        have HP1 := Lib.hid p1
        have HP2 := Lib.hid p2
        subst e1 e2
        clear hx hy p1 p2 hst HB HX
        go_upto_region 4 with (fail)
        by_cases hxy : x = y
        · have hne : (x != y) = false := by simp [hxy]
          have HQ := Lib.hid (show lexL a b = lexL (a.drop (i + 1)) (b.drop (i + 1)) by rw [HS.out, decide_eq_false (by omega), decide_eq_true hxy]; simp)
          clear hxy
          refine wp_region_quiet_below (by kernel_rfl) (by kernel_rfl) ?_; (repeat (first | go_big_quiet_step ((fail)) | quiet_step ((fail)))); refine wpQuiet_nil ?_; intro wq hwq; have hbq : Below _ _ wq := (by obtain ⟨p, rfl⟩ := hwq; exact below_regrown _ _ _); clear hwq
          clear r1 r2
          go_wp2
          go_roundw
          case rel => exact ⟨i + 1, by omega, by go_num, HB'.out.trans (hbq.mono HB'.out.size), HQ.out⟩
          case measure => simp [intOf]; omega
        · have hne : (x != y) = true := by simp [hxy]
          have HQ := Lib.hid (show lexL a b = decide (x < y) by rw [HS.out, decide_eq_false hxy]; simp)
          clear hxy
          refine wp_region_quiet_below (by kernel_rfl) (by kernel_rfl) ?_; (repeat (first | go_big_quiet_step ((fail)) | quiet_step ((fail)))); refine wpQuiet_nil ?_; intro wq hwq; have hbq : Below _ _ wq := (by obtain ⟨p, rfl⟩ := hwq; exact below_regrown _ _ _); clear hwq
          have BQ := Lib.hid (HB'.out.trans (hbq.mono HB'.out.size))
          have r3 := cell_regrown ((BQ.out.cell (p := ⟨b1, o1 + i, none⟩) hb1).trans HP1.out)
          have r4 := cell_regrown ((BQ.out.cell (p := ⟨b2, o2 + i, none⟩) hb2).trans HP2.out)
          clear hbq r1 r2
          go_upto_region 5 with (fail)
          refine wp_region_quiet_below (by kernel_rfl) (by kernel_rfl) ?_; (repeat (first | go_big_quiet_step ((fail)) | quiet_step ((fail)))); refine wpQuiet_nil ?_; intro wq hwq; have hbq : Below _ _ wq := (by obtain ⟨p, rfl⟩ := hwq; exact below_regrown _ _ _); clear hwq
          clear r3 r4
          go_wp2
          go_ret
          exact ⟨ret_bool (by rw [HQ.out]), BQ.out.trans (hbq.mono BQ.out.size)⟩
      · obtain rfl : i = n := by omega
        have hq : lexL a b = false := by rw [HX.out, HN.out, List.drop_length]; rfl
        have HQ := Lib.hid hq
        have HB' := Lib.hid HB.out
        clear hq HB HX
        go_wp2
        go_ret
        exact ⟨ret_bool (by rw [HQ.out]), HB'.out⟩
  · have hs : shortL a b = decide (a.length < b.length) := by unfold shortL; rw [if_neg e]
    obtain ⟨m, hm⟩ : ∃ m, m = b.length := ⟨_, rfl⟩
    rw [hs, ← hn, ← hm]
    have hnz : (n : Int) ≤ 1000 := by omega
    have hmz : (m : Int) ≤ 1000 := by omega
    have hne : ((n : Int) == (m : Int)) = false := by simp; omega
    clear h1 h2 e hs hl1 hl2 hn hm
    go_enter Try.func62, Try.ntmps62
    go_wp2
    go_loopw [5] (fun s5 wr => s5 = .int .i64 0 ∧ Aside (Below w.heap.size w wr)) (fun i _ => 0)
    case atStart => exact ⟨rfl, Below.refl _ _⟩
    case round =>
      obtain ⟨rfl, HB⟩ := hrel
      have HB' := Lib.hid HB.out
      clear HB
      by_cases h0 : (0 : Int) < (n : Int)
      · go_wp2
        go_ret
        exact ⟨ret_bool (by exact (decide_eq_decide.2 (by omega))), HB'.out⟩
      · go_wp2
        go_ret
        exact ⟨ret_bool (by exact (decide_eq_decide.2 (by omega))), HB'.out⟩
end Go.Proofs.Ytkjhofbjjogmlaa
