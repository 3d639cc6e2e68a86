/- Polders in memory; the leaves: ranges, levels, amounts, isKept, price, greatest. -/
import Derived.Test.YteognijlgalahaaMB
import Derived.Test.YteognijlgalahaaBK
import Derived.Test.YteognijlgalahaaWD
namespace Go.Proofs.Yteognijlgalahaa
open Go.RowKit Go.Lib

abbrev encD (d : Dy) : List Value := [.int .i64 d.lo, .int .i64 d.hi, .int .i64 d.sp, .int .i64 d.ou, .int .i64 d.inn]
/-- A polder as it lies in memory. -/
structure PoM where
  low : Int
  high : Int
  slo : Int
  shi : Int
  pump : Int
  inl : Int
  ds : Sv Dy
def PoM.d (p : PoM) : PoD := ⟨p.low, p.high, p.slo, p.shi, p.pump, p.inl, p.ds.l⟩
def PoM.cells (p : PoM) : List Value := [.int .i64 p.low, .int .i64 p.high, .int .i64 p.slo, .int .i64 p.shi, .int .i64 p.pump, .int .i64 p.inl, .slice p.ds.A p.ds.l.length p.ds.c]
structure PoM.At (p : PoM) (w : World) (B : Nat) : Prop where
  s : Sl w B 5 encD p.ds.A p.ds.l
  l : p.ds.l.length ≤ 1000000
theorem PoM.At.below {p : PoM} {w w' : World} {B B' : Nat} (h : p.At w B) (hb : Below B w w') (hB : B ≤ B') : p.At w' B' := ⟨(h.s.below hb).more hB, h.l⟩
theorem Sl.cellD {w : World} {B : Nat} {A : Option Addr} {l : List Dy} (h : Sl w B 5 encD A l) {i : Nat} {x : Dy} (hx : l[i]? = some x) :
    ∃ b off, A = some ⟨b, off, none⟩ ∧ b < B ∧ w.rangeAt b (off + i * 5) (encD x) := by
  obtain ⟨b, off, e, hb, hc⟩ := h.at_ hx
  exact ⟨b, off, e, hb, fun j v hj => hc j v hj⟩
theorem has_any (lo hi n : Int) (w : World) : Calls Try.prog 67 #[.agg #[.int .i64 lo, .int .i64 hi], .int .i64 n] w fun e w' => e = .returned (.bool (inB n lo hi)) ∧ Below w.heap.size w w' := by
  go_enter Try.func67, Try.ntmps67
  go_wp2
  all_goals (go_ret; exact ⟨ret_bool (by simp [inB]; try omega), (by repeat (first | (with_reducible assumption) | (with_reducible exact Below.refl _ _) | (with_reducible refine Below.drew ?_) | (with_reducible refine below_drewN ?_ _) | ((with_reducible refine Below.setCell ?_ ?_ _); rotate_left; focus (first | (simp; done) | (simp; omega) | omega)) | ((with_reducible refine Below.alloc ?_ ?_ _); rotate_left; focus (first | (simp; done) | (simp; omega) | omega))))⟩)
theorem isUpTo_any (lo hi m : Int) (w : World) : Calls Try.prog 64 #[.agg #[.int .i64 lo, .int .i64 hi], .int .i64 m] w fun e w' => e = .returned (.bool (spanP lo hi 0 m)) ∧ Below w.heap.size w w' := by
  go_enter Try.func64, Try.ntmps64
  go_wp2
  all_goals (go_ret; exact ⟨ret_bool (by simp [spanP, inB]; try omega), (by repeat (first | (with_reducible assumption) | (with_reducible exact Below.refl _ _) | (with_reducible refine Below.drew ?_) | (with_reducible refine below_drewN ?_ _) | ((with_reducible refine Below.setCell ?_ ?_ _); rotate_left; focus (first | (simp; done) | (simp; omega) | omega)) | ((with_reducible refine Below.alloc ?_ ?_ _); rotate_left; focus (first | (simp; done) | (simp; omega) | omega))))⟩)
theorem levels_any (p : PoM) (w : World) : Calls Try.prog 63 #[.agg p.cells.toArray] w fun e w' => e = .returned (.agg #[.int .i64 p.low, .int .i64 p.high]) ∧ Below w.heap.size w w' := by
  unfold PoM.cells
  go_enter Try.func63, Try.ntmps63
  go_wp2
  all_goals (exact bodyPost_ret (v := .agg #[.int .i64 p.low, .int .i64 p.high]) (by simp [results, Try.results63, go_sem]) rfl ⟨rfl, (by repeat (first | (with_reducible assumption) | (with_reducible exact Below.refl _ _) | (with_reducible refine Below.drew ?_) | (with_reducible refine below_drewN ?_ _) | ((with_reducible refine Below.setCell ?_ ?_ _); rotate_left; focus (first | (simp; done) | (simp; omega) | omega)) | ((with_reducible refine Below.alloc ?_ ?_ _); rotate_left; focus (first | (simp; done) | (simp; omega) | omega))))⟩)
theorem amounts_any (p : PoM) (w : World) (h0 : -1000 ≤ p.inl) (h1 : p.inl ≤ 1000) : Calls Try.prog 76 #[.agg p.cells.toArray] w fun e w' => e = .returned (.agg #[.int .i64 (-p.inl), .int .i64 p.pump]) ∧ Below w.heap.size w w' := by
  unfold PoM.cells
  go_enter Try.func76, Try.ntmps76
  go_wp2
  all_goals (exact bodyPost_ret (v := .agg #[.int .i64 (-p.inl), .int .i64 p.pump]) (by simp [results, Try.results76, go_sem]) rfl ⟨rfl, (by repeat (first | (with_reducible assumption) | (with_reducible exact Below.refl _ _) | (with_reducible refine Below.drew ?_) | (with_reducible refine below_drewN ?_ _) | ((with_reducible refine Below.setCell ?_ ?_ _); rotate_left; focus (first | (simp; done) | (simp; omega) | omega)) | ((with_reducible refine Below.alloc ?_ ?_ _); rotate_left; focus (first | (simp; done) | (simp; omega) | omega))))⟩)
theorem size_po : (Try.prog.info? 34).map (·.size) = some 7 := by kernel_rfl
theorem isKept_any (p : PoM) (n : Int) (w : World) : Calls Try.prog 66 #[.agg p.cells.toArray, .int .i64 n] w fun e w' => e = .returned (.bool (inB n p.low p.high)) ∧ Below w.heap.size w w' := by
  have l0 : Lies (w.alloc (.cells p.cells.toArray 34)) w.heap.size 34 p.cells.toArray := Lies.fresh _ _ _
  have b0 : Below w.heap.size w (w.alloc (.cells p.cells.toArray 34)) := (by repeat (first | (with_reducible assumption) | (with_reducible exact Below.refl _ _) | (with_reducible refine Below.drew ?_) | (with_reducible refine below_drewN ?_ _) | ((with_reducible refine Below.setCell ?_ ?_ _); rotate_left; focus (first | (simp; done) | (simp; omega) | omega)) | ((with_reducible refine Below.alloc ?_ ?_ _); rotate_left; focus (first | (simp; done) | (simp; omega) | omega))))
  have L0 := Lib.hid l0
  have B0 := Lib.hid b0
  clear l0 b0
  go_enter Try.func66, Try.ntmps66
  go_upto_region 1 with (fail)
  change Code.wp _ _ _ _ (w.alloc (.cells p.cells.toArray 34))
  generalize w.alloc (.cells p.cells.toArray 34) = w0 at *
  go_wp2_with (first
    | (refine wpList_load_row (o := ⟨some 5, _, _, _, _, _⟩) ?_ 34 (.tmp 2) ?_ w.heap.size ?_ 34 p.cells.toArray (0, 0) _ L0.out Try.underlying34 rfl size_po ?_; rfl; rfl; rfl)
    | (go_at_call 63; refine (levels_any p _).mono ?_; rintro e w1 ⟨rfl, hb1⟩)
    | (go_at_call 67; refine (has_any _ _ _ _).mono ?_; rintro e w2 ⟨rfl, hb2⟩))
  go_ret
  exact ⟨rfl, B0.out.trans ((hb1.trans (hb2.mono hb1.size)).mono B0.out.size)⟩
theorem price_any (d : Dy) (n : Int) (w : World) (hd : d.Ok) (h0 : -1000 ≤ n) (h1 : n ≤ 1000) : Calls Try.prog 78 #[.agg (encD d).toArray, .int .i64 n] w fun e w' => e = .returned (.int .i64 (d.price n)) ∧ Below w.heap.size w w' := by
  obtain ⟨lo, hi, sp, ou, inn⟩ := d
  obtain ⟨-, -, -, -, -, o0, o1, i0, i1⟩ := hd
  dsimp only at o0 o1 i0 i1
  have hp : (⟨lo, hi, sp, ou, inn⟩ : Dy).price n = if n < 0 then -n * inn else n * ou := rfl
  rw [hp]
  unfold encD
  dsimp only
  have hw1 : IntKind.i64.wrap (-n) = -n := IntWalk.i64_in _ (by omega)
  by_cases h : n < 0
  · have hm := Int.mul_nonneg (show 0 ≤ -n by omega) i0
    have hm2 := Int.mul_le_mul (show -n ≤ 1000 by omega) i1 i0 (by omega)
    have hw2 : IntKind.i64.wrap (-n * inn) = -n * inn := IntWalk.i64_in _ (by omega)
    rw [if_pos h]
    clear hm hm2
    go_enter Try.func78, Try.ntmps78
    go_wp2
    all_goals (go_ret; exact ⟨ret_int rfl, (by repeat (first | (with_reducible assumption) | (with_reducible exact Below.refl _ _) | (with_reducible refine Below.drew ?_) | (with_reducible refine below_drewN ?_ _) | ((with_reducible refine Below.setCell ?_ ?_ _); rotate_left; focus (first | (simp; done) | (simp; omega) | omega)) | ((with_reducible refine Below.alloc ?_ ?_ _); rotate_left; focus (first | (simp; done) | (simp; omega) | omega))))⟩)
  · have hm := Int.mul_nonneg (show 0 ≤ n by omega) o0
    have hm2 := Int.mul_le_mul (show n ≤ 1000 by omega) o1 o0 (by omega)
    have hw2 : IntKind.i64.wrap (n * ou) = n * ou := IntWalk.i64_in _ (by omega)
    rw [if_neg h]
    clear hm hm2
    go_enter Try.func78, Try.ntmps78
    go_wp2
    all_goals (go_ret; exact ⟨ret_int rfl, (by repeat (first | (with_reducible assumption) | (with_reducible exact Below.refl _ _) | (with_reducible refine Below.drew ?_) | (with_reducible refine below_drewN ?_ _) | ((with_reducible refine Below.setCell ?_ ?_ _); rotate_left; focus (first | (simp; done) | (simp; omega) | omega)) | ((with_reducible refine Below.alloc ?_ ?_ _); rotate_left; focus (first | (simp; done) | (simp; omega) | omega))))⟩)
theorem getD_mem {t : List Int} {p : Nat} (hp : p < t.length) : t.getD p 0 ∈ t := by
  rw [List.getD, List.getElem?_eq_getElem hp]
  exact List.getElem_mem hp
/-- The greatest of a list of costs. -/
def greL (l : List Int) (k : Nat) : Int := greTo (fun i => l.getD i 0) k
set_option maxRecDepth 100000 in
set_option maxHeartbeats 1000000 in
theorem greatest_any (A : Option Addr) (c : Nat) (l : List Int) (w : World) (hA : Sl w w.heap.size 1 encI A l) (hl : l.length ≤ 1000000) (hl0 : ∀ x, x ∈ l → -1 ≤ x ∧ x ≤ 1000000) :
    Calls Try.prog 73 #[.slice A l.length c] w fun e w' => e = .returned (.int .i64 (greL l l.length)) ∧ Below w.heap.size w w' := by
  obtain ⟨N, hN⟩ : ∃ N, N = l.length := ⟨_, rfl⟩
  have hgd : ∀ k, -1 ≤ l.getD k 0 := fun k => by
    by_cases hk : k < l.length
    · exact (hl0 _ (getD_mem hk)).1
    · rw [List.getD, List.getElem?_eq_none (by omega)]; show (-1 : Int) ≤ 0; omega
  have HA := Lib.hid hA
  have HG := Lib.hid hgd
  have HLL := Lib.hid hN
  have HL0 := Lib.hid hl0
  rw [← hN]
  have hNz : (N : Int) ≤ 1000000 := by omega
  clear hA hgd hN hl hl0
  go_enter Try.func73, Try.ntmps73
  go_wp2
  go_loopw [3, 5, 8] (fun s3 _ s8 wr => ∃ (k : Nat) (m : Int), k ≤ N ∧ s3 = .int .i64 m ∧ s8 = .int .i64 k ∧ 0 ≤ m ∧ m ≤ 1000000 ∧ Aside (m = greL l k) ∧ Aside (Below w.heap.size w wr)) (fun _ _ i _ => N - (intOf i).toNat)
  case atStart => exact ⟨0, 0, by omega, rfl, rfl, by omega, by omega, rfl, Below.refl _ _⟩
  case round =>
    obtain ⟨k, m, hk, rfl, rfl, hm0, hm1, HM, HB⟩ := hrel
    by_cases hlt : k < N
    · have hltz : (k : Int) < (N : Int) := by omega
      have hk0 : (0 : Int) ≤ (k : Int) := by omega
      have hll := HLL.out
      obtain ⟨x, hx⟩ : ∃ x, l[k]? = some x := ⟨l[k]'(by omega), by simp⟩
      obtain ⟨hx0, hx1⟩ := HL0.out x (List.mem_of_getElem? hx)
      obtain ⟨b, off, rfl, hb, hc⟩ := HA.out.cell1 hx
      have c1 : wr.cell? ⟨b, off + k, none⟩ = some (.int .i64 x) := (HB.out.cell (p := ⟨b, off + k, none⟩) hb).trans hc
      have hxg : l.getD k 0 = x := by rw [List.getD, hx]; rfl
      have hst : greL l (k + 1) = gre m x := by
        show gre (greL l k) (l.getD k 0) = _
        rw [hxg, HM.out]
      have HS := Lib.hid hst
      have HB' := Lib.hid HB.out
      have HM' := Lib.hid HM.out
      have HXG := Lib.hid hxg
      clear hx hb hc hxg hst HB HM hll
      by_cases hx1' : x = -1
      · have hxe : ((x : Int) == -1) = true := by simp [hx1']
        have hfin : greL l N = -1 := by
          unfold greL
          rw [(greTo_spec HG.out N).1]
          exact ⟨k, hlt, by rw [HXG.out, hx1']⟩
        have HF := Lib.hid hfin
        clear hfin
        go_wp2
        go_ret
        exact ⟨ret_int HF.out.symm, HB'.out⟩
      · have hxe : ((x : Int) == -1) = false := by simpa using hx1'
        have HS2 := Lib.hid (show greL l (k + 1) = max m x by
          rw [HS.out]
          unfold gre
          rw [if_neg (by omega), if_neg hx1'])
        go_wp2
        go_roundw
        case rel => exact ⟨k + 1, max m x, by omega, rfl, by go_num, by omega, by omega, HS2.out.symm, HB'.out⟩
        case measure => simp [intOf]; omega
    · obtain rfl : k = N := by omega
      have HM' := Lib.hid HM.out
      have HB' := Lib.hid HB.out
      clear HM HB
      go_wp2
      go_ret
      exact ⟨ret_int HM'.out, HB'.out⟩
end Go.Proofs.Yteognijlgalahaa
