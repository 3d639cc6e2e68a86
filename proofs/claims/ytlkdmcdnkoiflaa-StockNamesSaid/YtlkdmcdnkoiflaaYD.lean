/- The reference's Season. -/
import Derived.Test.YtlkdmcdnkoiflaaYC
import Derived.Test.YtlkdmcdnkoiflaaGD
import Derived.Deep.DeepCutAuto
import Derived.Test.YtlkdmcdnkoiflaaGH
import Derived.Test.YtlkdmcdnkoiflaaYA
import Derived.Test.YtlkdmcdnkoiflaaGF
import Derived.Test.YtlkdmcdnkoiflaaYB
namespace Go.Proofs.Ytlkdmcdnkoiflaa
open Go.RowKit Go.Lib

theorem SeM.len (p : PlM) (w wr : World) (v0 v1 v2 v3 : Value) (a b c d : List Int) (_M : SeM p w v0 v1 v2 v3 a b c d wr) : True := trivial
end Go.Proofs.Ytlkdmcdnkoiflaa

namespace Go.Proofs.Ytlkdmcdnkoiflaa
open Go.RowKit Go.Lib

end Go.Proofs.Ytlkdmcdnkoiflaa

namespace Go.Proofs.Ytlkdmcdnkoiflaa
open Go.RowKit Go.Lib
attribute [local go_sem] Oper.semAt_some

/-- What the reference's Run hands back of Y years. -/
def RetQ (f : Nat → List Int × List Int × List Int × List Int) (Y : Nat) (w : World) (e : Ending) (w' : World) : Prop :=
  ∃ (A : Option Addr) (c : Nat) (ys : List Y4), e = .returned (.slice A Y c) ∧ SlT w' w'.heap.size 4 55 encY4 A ys ∧ ys.map Y4.lists = (List.range Y).map f ∧ (∀ y, y ∈ ys → y.In w' w'.heap.size) ∧ Below w.heap.size w w'
/-- The memory of Run between two rounds; v: the years so far; A5, l: what is planted. -/
structure QM (p : PlM) (t : TrM) (w : World) (f : Nat → List Int × List Int × List Int × List Int) (v : Value) (k : Nat) (A5 : Option Addr) (l : List Int) (A : World) : Prop where
  pb : Lies A w.heap.size 28 p.cells.toArray
  tb : Lies A (w.heap.size + 1) 31 t.cells.toArray
  own : ∃ ys : List Y4, A.ownsRow (w.heap.size + 1 + 1) 55 4 v k (ys.flatMap encY4) ∧ ys.map Y4.lists = (List.range k).map f ∧ ∀ y, y ∈ ys → y.In A A.heap.size
  pl : Sl w w.heap.size 1 encI A5 l ∨ SlT A A.heap.size 1 3 encI A5 l
  b : Below w.heap.size w A
section
variable {p : PlM} {t : TrM} {f : Nat → List Int × List Int × List Int × List Int} {w : World} {v : Value} {k : Nat} {A5 : Option Addr} {l : List Int} {A A' : World}
theorem QM.call (h : QM p t w f v k A5 l A) (hb : Below A.heap.size A A') : QM p t w f v k A5 l A' := by
  obtain ⟨ys, h1, h2, h3⟩ := h.own
  exact ⟨h.pb.call hb, h.tb.call hb, ⟨ys, ownsRow_call h1 hb, h2, fun y hy => (h3 y hy).call hb⟩, h.pl.imp id (fun h => h.call hb), h.b.trans (hb.mono h.b.size)⟩
theorem QM.start (h : QM p t w f v k A5 l A) : Sl A A.heap.size 1 encI A5 l := by
  rcases h.pl with h1 | h1
  · exact (h1.below h.b).more h.b.size
  · exact h1.sl
end
end Go.Proofs.Ytlkdmcdnkoiflaa

namespace Go.Proofs.Ytlkdmcdnkoiflaa
open Go.RowKit Go.Lib
attribute [local go_sem] Oper.semAt_some

/-- What is sold of a size up to each of these years: f. -/
structure SoldF (ys : List Y4) (size : Nat) (f : Nat → Int) (w : World) : Prop where
  h0 : f 0 = 0
  len : ys.length ≤ 6
  s5 : size < 5
  step : ∀ k y, ys[k]? = some y → ∃ b : Int, y.b.l[size]? = some b ∧ f (k + 1) = f k + b ∧ 0 ≤ b ∧ b ≤ 30000000
  in_ : ∀ y, y ∈ ys → y.In w w.heap.size
end Go.Proofs.Ytlkdmcdnkoiflaa

namespace Go.Proofs.Ytlkdmcdnkoiflaa
open Go.RowKit Go.Lib
attribute [local go_sem] Oper.semAt_some

set_option maxRecDepth 100000 in
set_option maxHeartbeats 2000000 in
theorem Reach_no (p : PlM) (size number : Int) (w : World) (hp : p.At w w.heap.size) (hq : askedL p number [size] ≠ 0) :
    Calls Try.prog 31 #[.agg p.cells.toArray, .int .i64 size, .int .i64 number] w fun e w' => e = .returned (.tuple #[.int .i64 0, .int .i64 0, .int .i64 (askedL p number [size])]) ∧ Below w.heap.size w w' := by
  have l0 : Lies (w.alloc (.cells p.cells.toArray 41)) w.heap.size 41 p.cells.toArray := Lies.fresh _ _ _
  have b0 : Below w.heap.size w (w.alloc (.cells p.cells.toArray 41)) := (Below.refl _ _).alloc (Nat.le_refl _) _
  have hA : ∀ W, Below w.heap.size w W → Sl W W.heap.size 1 (fun x => [Value.int .i64 x]) (some ⟨w.heap.size + 1, 0, none⟩) [size] → Calls Try.prog 69 #[.agg p.cells.toArray, .int .i64 number, .slice (some ⟨w.heap.size + 1, 0, none⟩) 1 1] W fun e w' => e = .returned (.int .i64 (askedL p number [size])) ∧ Below W.heap.size W w' := fun W hb hs =>
    checkAsked_any p number (some ⟨w.heap.size + 1, 0, none⟩) 1 [size] W (hp.below hb hb.size) hs (by simp)
  have L0 := Lib.hid l0
  have B0 := Lib.hid b0
  have HA := Lib.hid hA
  clear l0 b0 hA hp
  generalize askedL p number [size] = q at *
  unfold PlM.cells at HA ⊢
  go_enter Try.func31, Try.ntmps31
  go_wp2_with (first
    | (refine wpList_load_row (o := ⟨some 12, _, _, _, _, _⟩) ?_ 41 (.tmp 3) ?_ w.heap.size ?_ 41 p.cells.toArray (0, 0) _ L0.out Try.underlying41 rfl size41 ?_; rfl; rfl; rfl)
    | (go_at_call 69; refine (HA.out _ (B0.out.alloc B0.out.size _) ?_).mono ?_; exact sl_of_lies (enc := encI) (fun _ => rfl) (Lies.fresh' (by simp)); rintro e w1 ⟨rfl, hb1⟩))
  go_ret3
  exact ⟨rfl, (B0.out.alloc B0.out.size _).trans (hb1.mono (B0.out.alloc B0.out.size _).size)⟩
end Go.Proofs.Ytlkdmcdnkoiflaa

namespace Go.Proofs.Ytlkdmcdnkoiflaa
open Go.RowKit Go.Lib
attribute [local go_sem] Oper.semAt_some

theorem ReachP.one {f : Nat → Int} {Y : Nat} {number r s : Int} (h1 : ReachP f Y number r) (h2 : ReachP f Y number s) : r = s := by
  rcases h1 with ⟨a1, a2⟩ | ⟨k, a1, a2, a3, a4⟩ <;> rcases h2 with ⟨b1, b2⟩ | ⟨j, b1, b2, b3, b4⟩
  · omega
  · have := a2 j b1; omega
  · have := b2 k a1; omega
  · rcases Nat.lt_trichotomy k j with h | h | h
    · have := b4 k h; omega
    · omega
    · have := a4 j h; omega
theorem ReachP.congr {f g : Nat → Int} {Y : Nat} {number r : Int} (h : ReachP f Y number r) (e : ∀ k, k ≤ Y → f k = g k) : ReachP g Y number r := by
  rcases h with ⟨a1, a2⟩ | ⟨k, a1, a2, a3, a4⟩
  · exact .inl ⟨a1, fun j hj => by rw [← e (j + 1) (by omega)]; exact a2 j hj⟩
  · exact .inr ⟨k, a1, a2, by rw [← e (k + 1) (by omega)]; exact a3, fun j hj => by rw [← e (j + 1) (by omega)]; exact a4 j hj⟩
end Go.Proofs.Ytlkdmcdnkoiflaa

namespace Go.Proofs.Ytlkdmcdnkoiflaa
open Go.RowKit Go.Lib
attribute [local go_sem] Oper.semAt_some

/-- What the calls of the laws about ends answer. -/
structure EC (p : PlM) (Y : Nat) (w : World) : Prop where
  plan : ∀ W, Below w.heap.size w W → Calls Try.prog 21 #[.agg p.cells.toArray] W (RetP p W)
  ends : ∀ (hg : Bool) (year : Int) (W : World), Below w.heap.size w W → Calls Try.prog 29 #[.agg p.cells.toArray, .bool hg, .int .i64 year] W (RetT (endsD p.d Y hg year) W)
  run : ∀ (hg : Bool) (year : Int) (u : TrM) (W : World), Below w.heap.size w W → u.d = endsD p.d Y hg year → u.At W W.heap.size → Calls Try.prog 26 #[.agg p.cells.toArray, .agg u.cells.toArray] W (RetQ (fun k => toldL p.d.s.length (yrT p.d (endsD p.d Y hg year) k)) Y W)
end Go.Proofs.Ytlkdmcdnkoiflaa

namespace Go.Proofs.Ytlkdmcdnkoiflaa
open Go.RowKit Go.Lib
attribute [local go_sem] Oper.semAt_some

end Go.Proofs.Ytlkdmcdnkoiflaa

namespace Go.Proofs.Ytlkdmcdnkoiflaa
open Go.RowKit Go.Lib
attribute [local go_sem] Oper.semAt_some

set_option maxRecDepth 100000 in
set_option maxHeartbeats 2000000 in
theorem Least_no (p : PlM) (planted size number : Int) (w : World) (hp : p.At w w.heap.size) (hq : askedL p number [planted, size] ≠ 0) :
    Calls Try.prog 34 #[.agg p.cells.toArray, .int .i64 planted, .int .i64 size, .int .i64 number] w fun e w' => e = .returned (.tuple #[.int .i64 0, .int .i64 (askedL p number [planted, size])]) ∧ Below w.heap.size w w' := by
  have l0 : Lies ((((w.alloc (.cells p.cells.toArray 41)).alloc (.cells #[.int .i64 planted] 3)).alloc (.cells #[.int .i64 size] 3)).alloc (.cells #[.int .i64 number] 3)) w.heap.size 41 p.cells.toArray := (((Lies.fresh _ _ _).alloc _).alloc _).alloc _
  have b0 : Below w.heap.size w ((((w.alloc (.cells p.cells.toArray 41)).alloc (.cells #[.int .i64 planted] 3)).alloc (.cells #[.int .i64 size] 3)).alloc (.cells #[.int .i64 number] 3)) := (by repeat (first | (with_reducible assumption) | (with_reducible exact Below.refl _ _) | (with_reducible refine Below.drew ?_) | (with_reducible refine below_drewN ?_ _) | ((with_reducible refine Below.setCell ?_ ?_ _); rotate_left; focus (first | (simp; done) | (simp; omega) | omega)) | ((with_reducible refine Below.alloc ?_ ?_ _); rotate_left; focus (first | (simp; done) | (simp; omega) | omega))))
  have hA : ∀ W, Below w.heap.size w W → Sl W W.heap.size 1 (fun x => [Value.int .i64 x]) (some ⟨w.heap.size + 1 + 1 + 1 + 1, 0, none⟩) [planted, size] → Calls Try.prog 69 #[.agg p.cells.toArray, .int .i64 number, .slice (some ⟨w.heap.size + 1 + 1 + 1 + 1, 0, none⟩) 2 2] W fun e w' => e = .returned (.int .i64 (askedL p number [planted, size])) ∧ Below W.heap.size W w' := fun W hb hs =>
    checkAsked_any p number (some ⟨w.heap.size + 1 + 1 + 1 + 1, 0, none⟩) 2 [planted, size] W (hp.below hb hb.size) hs (by simp)
  have L0 := Lib.hid l0
  have B0 := Lib.hid b0
  have HA := Lib.hid hA
  clear l0 b0 hA hp
  generalize askedL p number [planted, size] = q at *
  have hne : (q != 0) = true := by simpa using hq
  clear hq
  unfold PlM.cells at HA ⊢
  go_enter Try.func34, Try.ntmps34
  go_wp2_with (first
    | (refine wpList_load_row (o := ⟨some 16, _, _, _, _, _⟩) ?_ 41 (.tmp 4) ?_ w.heap.size ?_ 41 p.cells.toArray (0, 0) _ L0.out Try.underlying41 rfl size41 ?_; rfl; rfl; rfl)
    | (go_at_call 69; refine (HA.out _ (B0.out.alloc B0.out.size _) ?_).mono ?_; exact sl_of_lies (enc := encI) (fun _ => rfl) (Lies.fresh' (by simp)); rintro e w1 ⟨rfl, hb1⟩))
  go_ret2
  exact ⟨rfl, (B0.out.alloc B0.out.size _).trans (hb1.mono (B0.out.alloc B0.out.size _).size)⟩
/-- What the calls of StockLeasts answer, of a start of h. -/
structure LS2 (p : PlM) (Y Q S : Nat) (N : Int) (w : World) (h : Int) : Prop where
  with_ : ∀ W, Below w.heap.size w W → Calls Try.prog 36 #[.agg p.cells.toArray, .int .i64 Q, .agg #[.int .i64 h, .int .i64 h]] W (RetW p Q (h, h) W)
  surely : ∀ A c W, (p.withS A c Q (h, h)).At W W.heap.size → Calls Try.prog 35 #[.agg (p.withS A c Q (h, h)).cells.toArray, .int .i64 S, .int .i64 N] W fun e w' => e = .returned (.bool (enoughD p.d Y Q S N h)) ∧ Below W.heap.size W w'
end Go.Proofs.Ytlkdmcdnkoiflaa

namespace Go.Proofs.Ytlkdmcdnkoiflaa
open Go.RowKit Go.Lib

set_option maxRecDepth 100000 in
set_option maxHeartbeats 1000000 in
theorem Run_unfit (p : PlM) (t : TrM) (w : World) (hp : p.At w w.heap.size) (ht : t.At w w.heap.size) (hg : t.g.l.length ≤ 1000000) (hl : t.l.l.length ≤ 1000000) (hf : p.fault = 0) (hfit : t.fitB p = false) :
    Calls Try.prog 22 #[.agg p.cells.toArray, .agg t.cells.toArray] w fun e w' => e = .returned (.tuple #[.slice none 0 0, .int .i64 2]) ∧ Below w.heap.size w w' := by
  have l0 : Lies ((w.alloc (.cells p.cells.toArray 41)).alloc (.cells t.cells.toArray 46)) w.heap.size 41 p.cells.toArray := (Lies.fresh _ _ _).alloc _
  have l1 : Lies ((w.alloc (.cells p.cells.toArray 41)).alloc (.cells t.cells.toArray 46)) (w.heap.size + 1) 46 t.cells.toArray := Lies.fresh' (by simp)
  have b0 : Below w.heap.size w ((w.alloc (.cells p.cells.toArray 41)).alloc (.cells t.cells.toArray 46)) := (by repeat (first | (with_reducible assumption) | (with_reducible exact Below.refl _ _) | (with_reducible refine Below.drew ?_) | (with_reducible refine below_drewN ?_ _) | ((with_reducible refine Below.setCell ?_ ?_ _); rotate_left; focus (first | (simp; done) | (simp; omega) | omega)) | ((with_reducible refine Below.alloc ?_ ?_ _); rotate_left; focus (first | (simp; done) | (simp; omega) | omega))))
  have hCP : ∀ W, Below w.heap.size w W → Calls Try.prog 20 #[.agg p.cells.toArray] W fun e w' => e = .returned (.int .i64 0) ∧ Below W.heap.size W w' := fun W hb => by
    have := CheckPlan_any p W (hp.below hb hb.size); rwa [hf] at this
  have hIS : ∀ W, Below w.heap.size w W → Calls Try.prog 60 #[.agg t.cells.toArray, .agg p.cells.toArray] W fun e w' => e = .returned (.bool false) ∧ Below W.heap.size W w' := fun W hb => by
    have := isOf_any p t W (hp.below hb hb.size) (ht.below hb hb.size) hg hl
    rwa [hfit] at this
  have HCP := Lib.hid hCP
  have HIS := Lib.hid hIS
  have L0 := Lib.hid l0
  have L1 := Lib.hid l1
  have B0 := Lib.hid b0
  clear l0 l1 b0 hCP hIS hp ht hf hfit hg hl
  unfold PlM.cells TrM.cells
  go_enter Try.func22, Try.ntmps22
  go_wp2_with (first
    | (refine wpList_load_row (o := ⟨some 10, _, _, _, _, _⟩) ?_ 41 (.tmp 2) ?_ w.heap.size ?_ 41 p.cells.toArray (0, 0) _ L0.out Try.underlying41 rfl size41 ?_; rfl; rfl; rfl)
    | (go_at_call 20; refine (HCP.out _ B0.out).mono ?_; rintro e w1 ⟨rfl, hb1⟩; have L2 := Lib.hid (L0.out.call hb1); have L3 := Lib.hid (L1.out.call hb1); have B1 := Lib.hid (B0.out.trans (hb1.mono B0.out.size)))
    | (refine wpList_load_row (o := ⟨some 15, _, _, _, _, _⟩) ?_ 46 (.tmp 3) ?_ (w.heap.size + 1) ?_ 46 t.cells.toArray (0, 0) _ L3.out Try.underlying46 rfl size46 ?_; rfl; rfl; rfl)
    | (refine wpList_load_row (o := ⟨some 16, _, _, _, _, _⟩) ?_ 41 (.tmp 2) ?_ w.heap.size ?_ 41 p.cells.toArray (0, 0) _ L2.out Try.underlying41 rfl size41 ?_; rfl; rfl; rfl)
    | (go_at_call 60; refine (HIS.out _ B1.out).mono ?_; rintro e w2 ⟨rfl, hb2⟩))
  go_ret2
  exact ⟨rfl, B1.out.trans (hb2.mono B1.out.size)⟩
end Go.Proofs.Ytlkdmcdnkoiflaa
