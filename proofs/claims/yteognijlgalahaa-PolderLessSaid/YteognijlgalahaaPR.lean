/- canRain, checkRains. -/
import Derived.Test.YteognijlgalahaaPQ
namespace Go.Proofs.Yteognijlgalahaa
open Go.RowKit Go.Lib
attribute [local go_sem] Oper.semAt_some

def PoD.rainAt (p : PoD) (rs : List Int) (i : Nat) : Bool := inB (rs.getD i 0) (p.ds.getD i ⟨0, 0, 0, 0, 0⟩).lo (p.ds.getD i ⟨0, 0, 0, 0, 0⟩).hi
def PoD.rainyB (p : PoD) (rs : List Int) : Bool := decide (rs.length = p.ds.length) && (List.range rs.length).all (p.rainAt rs)
theorem PoD.rainAt_eq {p : PoD} {rs : List Int} {i : Nat} {d : Dy} {r : Int} (hd : p.ds[i]? = some d) (hr : rs[i]? = some r) : p.rainAt rs i = inB r d.lo d.hi := by
  unfold PoD.rainAt
  rw [List.getD, List.getD, hd, hr]; rfl
theorem PoD.rainyB_iff {p : PoD} {rs : List Int} : p.rainyB rs = true ↔ p.rainy rs := by
  unfold PoD.rainyB PoD.rainy
  rw [Bool.and_eq_true, decide_eq_true_eq, List.all_eq_true]
  constructor
  · rintro ⟨h1, h2⟩
    refine ⟨h1, fun i d r hd hr => ?_⟩
    have := h2 i (List.mem_range.2 (List.getElem?_eq_some_iff.1 hr).1)
    rw [PoD.rainAt_eq hd hr, inB_iff] at this
    exact this
  · rintro ⟨h1, h2⟩
    refine ⟨h1, fun i hi => ?_⟩
    have hi' := List.mem_range.1 hi
    have hd : p.ds[i]? = some (p.ds[i]'(by omega)) := by simp
    have hr : rs[i]? = some (rs[i]'hi') := by simp
    rw [PoD.rainAt_eq hd hr, inB_iff]
    exact h2 i _ _ hd hr
set_option maxRecDepth 100000 in
set_option maxHeartbeats 4000000 in
theorem canRain_any (p : PoM) (A : Option Addr) (c : Nat) (rs : List Int) (w : World) (hp : p.At w w.heap.size) (hs : Sl w w.heap.size 1 encI A rs) (hl : rs.length ≤ 1000000) :
    Calls Try.prog 80 #[.agg p.cells.toArray, .slice A rs.length c] w fun e w' => e = .returned (.bool (p.d.rainyB rs)) ∧ Below w.heap.size w w' := by
  have l0 : Lies (w.alloc (.cells p.cells.toArray 34)) w.heap.size 34 p.cells.toArray := Lies.fresh _ _ _
  have b0 : Below w.heap.size w (w.alloc (.cells p.cells.toArray 34)) := (by repeat (first | (with_reducible assumption) | (with_reducible exact Below.refl _ _) | (with_reducible refine Below.drew ?_) | (with_reducible refine below_drewN ?_ _) | ((with_reducible refine Below.setCell ?_ ?_ _); rotate_left; focus (first | (simp; done) | (simp; omega) | omega)) | ((with_reducible refine Below.alloc ?_ ?_ _); rotate_left; focus (first | (simp; done) | (simp; omega) | omega))))
  have hpl : p.ds.l.length ≤ 1000000 := hp.l
  have hq : p.d.rainyB rs = (decide (rs.length = p.ds.l.length) && (List.range rs.length).all (p.d.rainAt rs)) := rfl
  obtain ⟨N, hN⟩ : ∃ N, N = rs.length := ⟨_, rfl⟩
  obtain ⟨M, hM⟩ : ∃ M, M = p.ds.l.length := ⟨_, rfl⟩
  have L0 := Lib.hid l0
  have B0 := Lib.hid b0
  have HQ := Lib.hid hq
  have HP := Lib.hid (hp.below b0 b0.size)
  have HS := Lib.hid (hs.below b0)
  have HN := Lib.hid hN
  have HM := Lib.hid hM
  rw [← hN, ← hM] at HQ
  have hNz : (N : Int) ≤ 1000000 := by omega
  have hMz : (M : Int) ≤ 1000000 := by omega
  rw [← hN]
  clear l0 b0 hq hp hs hN hM hpl hl
  generalize p.d.rainyB rs = q at *
  go_enter Try.func80, Try.ntmps80
  go_upto_region 1 with (fail)
  change Code.wp _ _ _ _ (w.alloc (.cells p.cells.toArray 34))
  generalize w.alloc (.cells p.cells.toArray 34) = w1 at *
  have c10 : w1.cell? ⟨w.heap.size, 6, none⟩ = some (.slice p.ds.A M p.ds.c) := by rw [HM.out]; exact L0.out.at_ 6
  by_cases hnm : N = M
  · have hne : ((N : Int) != (M : Int)) = false := by simp [hnm]
    have hne2 : ((N : Int) == (M : Int)) = true := by simp [hnm]
    have HNM := Lib.hid hnm
    rw [decide_eq_true hnm, Bool.true_and] at HQ
    clear hnm
    go_wp2
    go_loopw [5, 6, 15] (fun _ _ s15 wr => ∃ kk : Nat, kk ≤ N ∧ s15 = .int .i64 kk ∧ Aside (Below w1.heap.size w1 wr) ∧ Aside (∀ j x, j < kk → (List.range N)[j]? = some x → p.d.rainAt rs x = true)) (fun _ _ i _ => N - (intOf i).toNat)
    case atStart => exact ⟨0, by omega, rfl, Below.refl _ _, fun j x hj => absurd hj (Nat.not_lt_zero _)⟩
    case round =>
      obtain ⟨kk, hkk, rfl, BW, HH⟩ := hrel
      by_cases hlt : kk < N
      · have hltz : (kk : Int) < (N : Int) := by omega
        have hk0 : (0 : Int) ≤ (kk : Int) := by omega
        have hkM : kk < M := by have := HNM.out; omega
        have hkMz : (kk : Int) < (M : Int) := by omega
        have hsz : w.heap.size ≤ w1.heap.size := B0.out.size
        have hdl : kk < p.ds.l.length := by have := HM.out; omega
        have hrl : kk < rs.length := by have := HN.out; omega
        obtain ⟨d, hd⟩ : ∃ d, p.ds.l[kk]? = some d := ⟨p.ds.l[kk]'hdl, by simp⟩
        obtain ⟨r, hr⟩ : ∃ r, rs[kk]? = some r := ⟨rs[kk]'hrl, by simp⟩
        obtain ⟨br, offr, hAr, hbr, hcr⟩ := (HS.out.below (BW.out.mono hsz)).cell1 hr
        have l19 : wr.cell? ⟨br, offr + kk, none⟩ = some (.int .i64 r) := hcr
        obtain ⟨bd, od, hA, hbd, hrg⟩ := Sl.cellD (HP.out.s.below BW.out) hd
        have c21 : wr.cell? ⟨w.heap.size, 6, none⟩ = some (.slice (some ⟨bd, od, none⟩) M p.ds.c) := by rw [← hA, HM.out]; exact (L0.out.call BW.out).at_ 6
        have HRG := Lib.hid (show wr.rangeAt bd (od + kk * 5) [.int .i64 d.lo, .int .i64 d.hi] from fun j v hj => by
          match j, hj with
          | 0, hj => exact hrg 0 v hj
          | 1, hj => exact hrg 1 v hj)
        have hra : p.d.rainAt rs kk = inB r d.lo d.hi := PoD.rainAt_eq hd hr
        have hcall := has_any d.lo d.hi r wr
        rw [← hra] at hcall
        have hkr : (List.range N)[kk]? = some kk := List.getElem?_range hlt
        have HKR := Lib.hid hkr
        have K25 := Lib.hid True.intro
        subst hAr
        clear hd hr hbr hcr hA hbd hrg hra hkr
        cases hq : p.d.rainAt rs kk with
        | false =>
          rw [hq] at hcall
          have HQQ := Lib.hid hq
          clear hq
          go_wp2_with (first
          | (have h := K25; clear h; refine wpList_load_mid (op := ⟨some 25, _, _, _, _, _⟩) ?_ 31 (.tmp 24) ?_ bd (od + kk * 5) ?_ [.int .i64 d.lo, .int .i64 d.hi] _ HRG.out Try.underlying31 rfl size_rg ?_; rfl; rfl; rfl; have K27 := Lib.hid True.intro; clear K25)
          | (have h := K27; clear h; go_at_call 67; refine hcall.mono ?_; rintro e w' ⟨rfl, hb'⟩; clear K27))
          go_ret
          exact ⟨ret_bool (by rw [HQ.out]; exact (all_hit HKR.out HQQ.out).symm), B0.out.trans ((BW.out.trans (hb'.mono BW.out.size)).mono hsz)⟩
        | true =>
          rw [hq] at hcall
          have HQQ := Lib.hid hq
          clear hq
          go_wp2_with (first
          | (have h := K25; clear h; refine wpList_load_mid (op := ⟨some 25, _, _, _, _, _⟩) ?_ 31 (.tmp 24) ?_ bd (od + kk * 5) ?_ [.int .i64 d.lo, .int .i64 d.hi] _ HRG.out Try.underlying31 rfl size_rg ?_; rfl; rfl; rfl; have K27 := Lib.hid True.intro; clear K25)
          | (have h := K27; clear h; go_at_call 67; refine hcall.mono ?_; rintro e w' ⟨rfl, hb'⟩; clear K27))
          go_roundw
          case rel =>
            refine ⟨kk + 1, by omega, by go_num, BW.out.trans (hb'.mono BW.out.size), (show Aside _ from fun j y hj hy => ?_)⟩
            by_cases e : j = kk
            · subst e
              rw [HKR.out] at hy; cases hy; exact HQQ.out
            · exact HH.out j y (by omega) hy
          case measure => simp [intOf]; omega
      · obtain rfl : kk = N := by omega
        go_wp2
        go_ret
        exact ⟨ret_bool (by rw [HQ.out]; exact (all_miss (fun j x hj hx => HH.out j x (by simpa using hj) hx)).symm), B0.out.trans (BW.out.mono B0.out.size)⟩
  · have hne : ((N : Int) != (M : Int)) = true := by simp; omega
    have hne2 : ((N : Int) == (M : Int)) = false := by simp; omega
    rw [decide_eq_false hnm, Bool.false_and] at HQ
    clear hnm
    go_wp2
    go_ret
    exact ⟨ret_bool HQ.out.symm, B0.out⟩
end Go.Proofs.Yteognijlgalahaa
