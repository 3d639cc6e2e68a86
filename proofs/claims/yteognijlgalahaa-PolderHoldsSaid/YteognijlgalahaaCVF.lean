/- PolderHolds: the walk. -/
import Derived.Test.YteognijlgalahaaGA
import Derived.Test.YteognijlgalahaaGB
namespace Go.Proofs.Yteognijlgalahaa
open Go.RowKit Go.Lib
attribute [local go_sem] Oper.semAt_some

/-- The ends of the levels that can be held, as the law finds them. -/
def PoD.rngTo (p : PoD) (nx : Int → Int) : Nat → Int × Int
  | 0 => (-1, -1)
  | i + 1 => if nx (p.low + (i : Int)) = -1 then p.rngTo nx i else (if (p.rngTo nx i).1 < 0 then p.low + (i : Int) else (p.rngTo nx i).1, p.low + (i : Int))
theorem PoD.rngTo_spec {p : PoD} (h0 : 0 ≤ p.low) (nx : Int → Int) : ∀ i : Nat, p.low + (i : Int) ≤ p.high + 1 →
    (p.rngTo nx i = (-1, -1) ∧ p.heldTo nx i = (p.high + 1, p.low - 1)) ∨ (0 ≤ (p.rngTo nx i).1 ∧ p.rngTo nx i = p.heldTo nx i ∧ (p.heldTo nx i).1 ≤ (p.heldTo nx i).2 ∧ (p.heldTo nx i).2 < p.low + (i : Int))
  | 0, _ => .inl ⟨rfl, rfl⟩
  | i + 1, h => by
    have ih := PoD.rngTo_spec h0 nx i (by omega)
    rw [PoD.rngTo, PoD.heldTo]
    by_cases hc : nx (p.low + (i : Int)) = -1
    · rw [if_pos hc, if_pos hc]
      rcases ih with h1 | ⟨h1, h2, h3, h4⟩
      · exact .inl h1
      · exact .inr ⟨h1, h2, h3, by omega⟩
    · rw [if_neg hc, if_neg hc]
      rcases ih with ⟨h1, h2⟩ | ⟨h1, h2, h3, h4⟩
      · rw [h1, h2]
        refine .inr ⟨?_, ?_, ?_, ?_⟩
        · rw [if_pos (by decide)]; dsimp only; omega
        · rw [if_pos (by decide)]
          dsimp only
          rw [Int.min_eq_right (by omega), Int.max_eq_right (by omega)]
        · dsimp only
          rw [Int.min_eq_right (by omega), Int.max_eq_right (by omega)]; omega
        · dsimp only
          rw [Int.max_eq_right (by omega)]; omega
      · rw [h2] at h1 ⊢
        clear h2
        generalize p.heldTo nx i = r at *
        obtain ⟨lo, hi⟩ := r
        dsimp only at h1 h3 h4 ⊢
        have e1 : min lo (p.low + (i : Int)) = lo := Int.min_eq_left (by omega)
        have e2 : max hi (p.low + (i : Int)) = p.low + (i : Int) := Int.max_eq_right (by omega)
        rw [if_neg (by omega), e1, e2]
        exact .inr ⟨h1, rfl, by omega, by omega⟩
/-- A day's ends: none, or those of Hold. -/
theorem PoD.rng_day {p : PoD} (h : p.Ok) (day : Nat) {x : Int × Int} (hx : x = p.rngTo (p.vals (p.ds.drop day)) p.levels) : (x.1 < 0 ∧ ¬ (p.rangeAt day).1 ≤ (p.rangeAt day).2) ∨ (¬ x.1 < 0 ∧ x = p.rangeAt day ∧ (p.rangeAt day).1 ≤ (p.rangeAt day).2) := by
  subst hx
  have hl0 := h.l0
  have hl1 := h.l1
  have e : p.rangeAt day = p.heldTo (p.vals (p.ds.drop day)) p.levels := rfl
  rw [e]
  rcases PoD.rngTo_spec hl0 (p.vals (p.ds.drop day)) p.levels (by unfold PoD.levels; omega) with ⟨h1, h2⟩ | ⟨h1, h2, h3, -⟩
  · rw [h1, h2]
    exact .inl ⟨by decide, by dsimp only; omega⟩
  · exact .inr ⟨by omega, h2, h3⟩
theorem run_neq_rg (a b : Int) (w : World) : (binOp .neq 31 (.agg #[.int .i64 a, .int .i64 b]) (.agg #[.int .i64 a, .int .i64 b])).run Try.prog w = .ok (.bool false) w := by
  have u3 := Try.underlying3
  have hS : Try.prog.underlying 31 = some (.struct (Try.prog.fieldsOf 31)) := by kernel_rfl
  have hp : Try.prog.stoodInHeld 31 = false := by kernel_rfl
  rw [run_neq_struct, show (10000 : Nat) = 9999 + 1 from rfl, run_equalIn_agg w 9999 _ _ _ hS hp]
  simp only [Program.fieldsOf, Try.underlying31]
  go_simp
set_option maxRecDepth 100000 in
set_option maxHeartbeats 16000000 in
theorem PolderHolds_walk (q : PoM) (w : World) (h : OpenPo q w) : Calls Try.prog 3 #[.agg q.cells.toArray] w fun e w' => e = .returned (.bool true) ∧ Below w.heap.size w w' := by
  have l0 : Lies (w.alloc (.cells q.cells.toArray 26)) w.heap.size 26 q.cells.toArray := Lies.fresh _ _ _
  have b0 : Below w.heap.size w (w.alloc (.cells q.cells.toArray 26)) := (by repeat (first | (with_reducible assumption) | (with_reducible exact Below.refl _ _) | (with_reducible refine Below.drew ?_) | (with_reducible refine below_drewN ?_ _) | ((with_reducible refine Below.setCell ?_ ?_ _); rotate_left; focus (first | (simp; done) | (simp; omega) | omega)) | ((with_reducible refine Below.alloc ?_ ?_ _); rotate_left; focus (first | (simp; done) | (simp; omega) | omega))))
  have HTH := Lib.hid (fun W => Thin_any q W)
  have HO := Lib.hid h
  have L := Lib.hid l0
  have B := Lib.hid b0
  have K12 := Lib.hid True.intro
  clear l0 b0 h
  by_cases hthin : q.ds.l.length ≤ 15
  · rw [decide_eq_true hthin] at HTH
    have HL15 := Lib.hid hthin
    have HAT := Lib.hid (HO.out.at_ hthin)
    clear hthin HO
    by_cases hff : q.d.fault = 0
    · have HOK := Lib.hid (fault_ok hff)
      obtain ⟨N, hN⟩ : ∃ N, N = q.ds.l.length := ⟨_, rfl⟩
      have hNz : (N : Int) ≤ 12 := by have := HOK.out.n2; have h2 : q.d.ds.length = q.ds.l.length := rfl; omega
      obtain ⟨M, hM⟩ : ∃ M, M = q.d.levels := ⟨_, rfl⟩
      have hl0 : 0 ≤ q.low := HOK.out.l0
      have hl1 : q.low ≤ q.high := HOK.out.l1
      have hl2 : q.high ≤ 60 := HOK.out.l2
      have hMz : (M : Int) ≤ 61 := by rw [hM]; unfold PoD.levels; show (((q.high + 1 - q.low).toNat : Nat) : Int) ≤ 61; omega
      have HN := Lib.hid hN
      have HM := Lib.hid hM
      have HCH := Lib.hid (fun A c W (hat : (q.withA A c).At W W.heap.size) => (show Calls Try.prog 17 #[.agg (q.withA A c).cells.toArray] W fun e w' => e = .returned (.int .i64 0) ∧ Below W.heap.size W w' by
        have := CheckPolder_any (q.withA A c) W hat
        rw [show (q.withA A c).d.fault = 0 from hff] at this
        exact this))
      have HFA := Lib.hid (fun W (hq : q.At W W.heap.size) => (show Calls Try.prog 20 #[.agg q.cells.toArray] W fun e w' => e = .returned (.int .i64 0) ∧ Below W.heap.size W w' by
        have := lawFault_any q W hq
        rw [hff] at this
        exact this))
      clear hN hM
      cases hcan : q.d.canHold with
      | true =>
        have hho : q.d.holdR = (q.d.holdL, 0) := by unfold PoD.holdR; rw [hff, hcan, if_neg (by simp), if_pos rfl]
        have HHO := Lib.hid (fun A c W (hat : (q.withA A c).At W W.heap.size) => (show Calls Try.prog 19 #[.agg (q.withA A c).cells.toArray] W (HoldO (q.d.holdL, 0) W) by
          have := Hold_any (q.withA A c) W hat
          rw [show (q.withA A c).d.holdR = (q.d.holdL, 0) from hho] at this
          exact this))
        have HCAN := Lib.hid (show ∀ i, i < q.d.ds.length → (q.d.rangeAt i).1 ≤ (q.d.rangeAt i).2 from fun i hi => by
          unfold PoD.canHold at hcan
          rw [List.all_eq_true] at hcan
          have := hcan i (List.mem_range.2 hi)
          rwa [decide_eq_true_eq] at this)
        clear hho hcan hff
        go_enter Try.func3, Try.ntmps3
        go_upto_region 1 with (fail)
        change Code.wp _ _ _ _ (w.alloc (.cells q.cells.toArray 26))
        generalize w.alloc (.cells q.cells.toArray 26) = w1 at *
        go_upto_region 11 with (first
            | (have h := K12; clear h; refine wpList_load_row (o := ⟨some 12, _, _, _, _, _⟩) ?_ 26 (.tmp 1) ?_ w.heap.size ?_ 26 q.cells.toArray (0, 0) _ L.out Try.underlying26 rfl size_rp ?_; rfl; rfl; rfl; have K13 := Lib.hid True.intro; clear K12)
            | (have h := K13; clear h; go_at_call 15; refine (HTH.out _).mono ?_; rintro e w2 ⟨rfl, hb⟩; replace B := Lib.hid (B.out.trans (hb.mono B.out.size)); replace L := Lib.hid (L.out.call hb); clear hb; have K16 := Lib.hid True.intro; clear K13)
            | (have h := K16; clear h; refine wpList_load_row (o := ⟨some 16, _, _, _, _, _⟩) ?_ 26 (.tmp 1) ?_ w.heap.size ?_ 26 q.cells.toArray (0, 0) _ L.out Try.underlying26 rfl size_rp ?_; rfl; rfl; rfl; have K17 := Lib.hid True.intro; clear K16)
            | (have h := K17; clear h; go_at_call 18; refine (Copy_any q _ (HAT.out.below B.out B.out.size) HL15.out).mono ?_; rintro e w3 ⟨A3, c3, rfl, hat, hb⟩; replace B := Lib.hid (B.out.trans (hb.mono B.out.size)); replace L := Lib.hid (L.out.call hb); have T3 := Lib.hid hat; clear hat; clear hb; have K18 := Lib.hid True.intro; clear K17)
            | (have h := K18; clear h; go_at_call 17; refine (HCH.out A3 c3 _ T3.out).mono ?_; rintro e w4 ⟨rfl, hb⟩; replace B := Lib.hid (B.out.trans (hb.mono B.out.size)); replace L := Lib.hid (L.out.call hb); replace T3 := Lib.hid (T3.out.below hb hb.size); clear hb; have K20 := Lib.hid True.intro; clear K18)
            | (have h := K20; clear h; refine wpList_load_row (o := ⟨some 20, _, _, _, _, _⟩) ?_ 26 (.tmp 1) ?_ w.heap.size ?_ 26 q.cells.toArray (0, 0) _ L.out Try.underlying26 rfl size_rp ?_; rfl; rfl; rfl; have K21 := Lib.hid True.intro; clear K20)
            | (have h := K21; clear h; go_at_call 18; refine (Copy_any q _ (HAT.out.below B.out B.out.size) HL15.out).mono ?_; rintro e w5 ⟨A4, c4, rfl, hat, hb⟩; replace B := Lib.hid (B.out.trans (hb.mono B.out.size)); replace L := Lib.hid (L.out.call hb); replace T3 := Lib.hid (T3.out.below hb hb.size); have T4 := Lib.hid hat; clear hat; clear hb; have K22 := Lib.hid True.intro; clear K21)
            | (have h := K22; clear h; go_at_call 19; refine (HHO.out A4 c4 _ T4.out).mono ?_; rintro e w6 ⟨Ah, ch, rfl, hsh, hb⟩; replace B := Lib.hid (B.out.trans (hb.mono B.out.size)); replace L := Lib.hid (L.out.call hb); replace T3 := Lib.hid (T3.out.below hb hb.size); replace T4 := Lib.hid (T4.out.below hb hb.size); have SH := Lib.hid hsh; clear hsh; clear hb; have K25 := Lib.hid True.intro; clear K22)
            | (have h := K25; clear h; refine wpList_load_row (o := ⟨some 25, _, _, _, _, _⟩) ?_ 26 (.tmp 1) ?_ w.heap.size ?_ 26 q.cells.toArray (0, 0) _ L.out Try.underlying26 rfl size_rp ?_; rfl; rfl; rfl; have K26 := Lib.hid True.intro; clear K25)
            | (have h := K26; clear h; go_at_call 20; refine (HFA.out _ (HAT.out.below B.out B.out.size)).mono ?_; rintro e w7 ⟨rfl, hb⟩; replace B := Lib.hid (B.out.trans (hb.mono B.out.size)); replace L := Lib.hid (L.out.call hb); replace T3 := Lib.hid (T3.out.below hb hb.size); replace T4 := Lib.hid (T4.out.below hb hb.size); replace SH := Lib.hid ((SH.out.below hb).more hb.size); clear hb; have K43 := Lib.hid True.intro; clear K26)
            | (have h := K43; clear h; refine wpList_load_row (o := ⟨some 43, _, _, _, _, _⟩) ?_ 26 (.tmp 1) ?_ w.heap.size ?_ 26 q.cells.toArray (0, 0) _ L.out Try.underlying26 rfl size_rp ?_; rfl; rfl; rfl; have K44 := Lib.hid True.intro; clear K43)
            | (have h := K44; clear h; go_at_call 21; refine (Values_any q _ (HAT.out.below B.out B.out.size) HOK.out).mono ?_; rintro e w8 ⟨gv, row, rfl, _, hvl, hb⟩; replace B := Lib.hid (B.out.trans (hb.mono B.out.size)); replace L := Lib.hid (L.out.call hb); replace T3 := Lib.hid (T3.out.below hb hb.size); replace T4 := Lib.hid (T4.out.below hb hb.size); replace SH := Lib.hid ((SH.out.below hb).more hb.size); have VL := Lib.hid hvl; clear hvl; clear hb; have KX := Lib.hid True.intro; clear K44))
        have HG := Lib.hid (show gv < w8.heap.size by obtain ⟨cs, h1, _⟩ := VL.out.c; exact h1.in_)
        have hvN : q.d.ds.length + 1 = N + 1 := by rw [HN.out]; rfl
        rw [hvN]
        clear hvN
        have HLN := Lib.hid (show q.d.holdL.length = N by rw [PoD.holdL_length, HN.out]; rfl)
        rw [HLN.out]
        go_wp2
        go_loopw [2, 8, 9, 10, 11] (fun _ s8 _ _ _ wr => ∃ (k : Nat), k ≤ N ∧ s8 = .int .i64 k ∧ Aside (Below w8.heap.size w8 wr ∧ ∀ i, i < k → (q.d.rangeAt i).1 ≤ (q.d.rangeAt i).2)) (fun _ i _ _ _ _ => N - (intOf i).toNat)
        case atStart => exact ⟨0, by omega, rfl, Below.refl _ _, fun i hi => by omega⟩
        case round =>
          obtain ⟨k, hkN, rfl, HH⟩ := hrel
          have HB := Lib.hid HH.out.1
          have HPR := Lib.hid HH.out.2
          have BW := Lib.hid (B.out.trans (HB.out.mono B.out.size))
          clear HH
          have hk0 : (0 : Int) ≤ (k : Int) := by omega
          have c47 : wr.cell? ⟨w.heap.size, 6, none⟩ = some (.slice q.ds.A N q.ds.c) := by rw [HN.out]; exact (L.out.call HB.out).at_ 6
          by_cases hlt : k < N
          · have hltz : (k : Int) < (N : Int) := by omega
            have hltz1 : (k : Int) < (N : Int) + 1 := by omega
            have hkd : k ≤ q.d.ds.length := by have := HN.out; show k ≤ q.ds.l.length; omega
            have HKD := Lib.hid hkd
            have hrl : (row k).l.length = M := by rw [VL.out.len hkd, HM.out]
            have FC := Lib.hid (fun V (h : Below w8.heap.size w8 V) => (show V.cell? ⟨gv, k, none⟩ = some (.slice (row k).A M (row k).c) by rw [← hrl]; exact (h.cell (p := ⟨gv, k, none⟩) HG.out).trans (VL.out.cell hkd)))
            have hrs := VL.out.sl hkd
            have HRS := Lib.hid hrs
            have HRL := Lib.hid hrl
            have HNX := Lib.hid (show ∀ i, i < M → (row k).l[i]? = some (q.d.vals (q.d.ds.drop k) (q.low + (i : Int))) from fun i hi => by rw [(VL.out.r k hkd).1]; exact PoD.rowT_at q.d k (by rw [← HM.out]; exact hi))
            clear hrs hrl hkd
            go_wp2
            clear c47
            go_loopw [9, 10, 11] (fun s9 s10 s11 wq => ∃ (i : Nat), i ≤ M ∧ s9 = .int .i64 (q.d.rngTo (q.d.vals (q.d.ds.drop k)) i).1 ∧ s10 = .int .i64 (q.d.rngTo (q.d.vals (q.d.ds.drop k)) i).2 ∧ s11 = .int .i64 i ∧ Aside (Below w8.heap.size w8 wq)) (fun _ _ i _ => M - (intOf i).toNat)
            case atStart => exact ⟨0, by omega, rfl, rfl, rfl, HB.out⟩
            case round =>
              obtain ⟨i, hiM, rfl, rfl, rfl, HH⟩ := hrel
              have HC := Lib.hid HH.out
              clear HH
              have hi0 : (0 : Int) ≤ (i : Int) := by omega
              have c56 := FC.out _ HC.out
              by_cases him : i < M
              · have himz : (i : Int) < (M : Int) := by omega
                obtain ⟨y, hy⟩ : ∃ y, y = q.d.vals (q.d.ds.drop k) (q.low + (i : Int)) := ⟨_, rfl⟩
                have hyg : -1 ≤ y := by rw [hy]; exact HOK.out.cstDrop k _
                have hst : q.d.rngTo (q.d.vals (q.d.ds.drop k)) (i + 1) = if y = -1 then q.d.rngTo (q.d.vals (q.d.ds.drop k)) i else (if (q.d.rngTo (q.d.vals (q.d.ds.drop k)) i).1 < 0 then q.low + (i : Int) else (q.d.rngTo (q.d.vals (q.d.ds.drop k)) i).1, q.low + (i : Int)) := by rw [hy]; rfl
                have hx := HNX.out i him
                rw [← hy] at hx
                obtain ⟨ba, oa, hA, hba, hca⟩ := HRS.out.cell1 hx
                rw [hA] at c56
                have c67 : wr.cell? ⟨ba, oa + i, none⟩ = some (.int .i64 y) := (HC.out.cell (p := ⟨ba, oa + i, none⟩) hba).trans hca
                have c72 : wr.cell? ⟨w.heap.size, 0, none⟩ = some (.int .i64 q.low) := (L.out.call HC.out).at_ 0
                have hwi : IntKind.i64.wrap (q.low + (i : Int)) = q.low + (i : Int) := IntWalk.i64_in _ (by omega)
                obtain ⟨⟨a, b⟩, hab⟩ : ∃ r, r = q.d.rngTo (q.d.vals (q.d.ds.drop k)) i := ⟨_, rfl⟩
                rw [← hab] at hst ⊢
                dsimp only at hst ⊢
                clear hx hy hA hba hca hab
                by_cases hyn : y = -1
                · have hy0 : ¬ 0 ≤ y := by omega
                  rw [if_pos hyn] at hst
                  have HS := Lib.hid hst
                  clear hst hyn
                  go_wp2
                  go_roundw
                  case rel => exact ⟨i + 1, by omega, by rw [HS.out], by rw [HS.out], by go_num, HC.out⟩
                  case measure => simp [intOf]; omega
                · have hy0 : 0 ≤ y := by omega
                  rw [if_neg hyn] at hst
                  clear hyn
                  by_cases ha : a < 0
                  · rw [if_pos ha] at hst
                    have HS := Lib.hid hst
                    clear hst
                    go_wp2
                    go_roundw
                    case rel => exact ⟨i + 1, by omega, by rw [HS.out], by rw [HS.out], by go_num, HC.out⟩
                    case measure => simp [intOf]; omega
                  · rw [if_neg ha] at hst
                    have HS := Lib.hid hst
                    clear hst
                    go_wp2
                    go_roundw
                    case rel => exact ⟨i + 1, by omega, by rw [HS.out], by rw [HS.out], by go_num, HC.out⟩
                    case measure => simp [intOf]; omega
              · obtain rfl : i = M := by omega
                obtain ⟨⟨a, b⟩, hab⟩ : ∃ r, r = q.d.rngTo (q.d.vals (q.d.ds.drop k)) i := ⟨_, rfl⟩
                rw [← hab]
                have hday := PoD.rng_day HOK.out k (x := (a, b)) (by rw [hab, HM.out])
                dsimp only at hday ⊢
                have BC := Lib.hid (B.out.trans (HC.out.mono B.out.size))
                clear hab
                rcases hday with ⟨hneg, hbad⟩ | ⟨hpos, hab, hle⟩
                · exfalso
                  exact hbad (HCAN.out k (by have := HN.out; show k < q.ds.l.length; omega))
                · have hlc : q.d.holdL[k]? = some (a, b) := by rw [PoD.holdL_at q.d (by have := HN.out; show k < q.ds.l.length; omega), hab]
                  obtain ⟨bh, oh, hAh, hbh, hc1, hc2⟩ := SH.out.cellRg hlc
                  subst hAh
                  have HRG := Lib.hid (show wr.rangeAt bh (oh + k * 2) [.int .i64 a, .int .i64 b] from fun j v hj => by
                    match j, hj with
                    | 0, hj => cases hj; exact (HC.out.cell (p := ⟨bh, oh + k * 2, none⟩) hbh).trans hc1
                    | 1, hj => cases hj; exact (HC.out.cell (p := ⟨bh, oh + k * 2 + 1, none⟩) hbh).trans hc2)
                  have HLE := Lib.hid hle
                  have hneqq := run_neq_rg a b
                  clear hlc hbh hc1 hc2 hab hle
                  have K99 := Lib.hid True.intro
                  go_wp2_with (have h := K99; clear h; refine wpList_load_midG (op := ⟨some 99, _, _, _, _, _⟩) ?_ 31 (.tmp 98) ?_ bh (oh + k * 2) ?_ [.int .i64 a, .int .i64 b] _ HRG.out Try.underlying31 rfl size_rg ?_; rfl; rfl; rfl; clear K99)
                  go_roundw
                  case rel => exact ⟨k + 1, by omega, by go_num, HC.out, fun j hj => by
                    by_cases e : j = k
                    · subst e; exact HLE.out
                    · exact HPR.out j (by omega)⟩
                  case measure => simp [intOf]; omega
          · obtain rfl : k = N := by omega
            go_wp2_with (go_at_call 16; refine (wakes_any _).mono ?_; rintro e w99 ⟨rfl, hb9⟩)
            go_ret
            exact ⟨rfl, BW.out.trans (hb9.mono BW.out.size)⟩
      | false =>
        have hho : q.d.holdR = ([], 9) := by unfold PoD.holdR; rw [hff, hcan, if_neg (by simp), if_neg (by simp)]
        have HHO := Lib.hid (fun A c W (hat : (q.withA A c).At W W.heap.size) => (show Calls Try.prog 19 #[.agg (q.withA A c).cells.toArray] W (HoldO ([], 9) W) by
          have := Hold_any (q.withA A c) W hat
          rw [show (q.withA A c).d.holdR = ([], 9) from hho] at this
          exact this))
        have HCAN := Lib.hid (show ∃ j, j < q.d.ds.length ∧ ¬ (q.d.rangeAt j).1 ≤ (q.d.rangeAt j).2 by
          unfold PoD.canHold at hcan
          rw [List.all_eq_false] at hcan
          obtain ⟨j, hj, hd⟩ := hcan
          exact ⟨j, List.mem_range.1 hj, by simpa using hd⟩)
        clear hho hcan hff
        go_enter Try.func3, Try.ntmps3
        go_upto_region 1 with (fail)
        change Code.wp _ _ _ _ (w.alloc (.cells q.cells.toArray 26))
        generalize w.alloc (.cells q.cells.toArray 26) = w1 at *
        go_upto_region 11 with (first
            | (have h := K12; clear h; refine wpList_load_row (o := ⟨some 12, _, _, _, _, _⟩) ?_ 26 (.tmp 1) ?_ w.heap.size ?_ 26 q.cells.toArray (0, 0) _ L.out Try.underlying26 rfl size_rp ?_; rfl; rfl; rfl; have K13 := Lib.hid True.intro; clear K12)
            | (have h := K13; clear h; go_at_call 15; refine (HTH.out _).mono ?_; rintro e w2 ⟨rfl, hb⟩; replace B := Lib.hid (B.out.trans (hb.mono B.out.size)); replace L := Lib.hid (L.out.call hb); clear hb; have K16 := Lib.hid True.intro; clear K13)
            | (have h := K16; clear h; refine wpList_load_row (o := ⟨some 16, _, _, _, _, _⟩) ?_ 26 (.tmp 1) ?_ w.heap.size ?_ 26 q.cells.toArray (0, 0) _ L.out Try.underlying26 rfl size_rp ?_; rfl; rfl; rfl; have K17 := Lib.hid True.intro; clear K16)
            | (have h := K17; clear h; go_at_call 18; refine (Copy_any q _ (HAT.out.below B.out B.out.size) HL15.out).mono ?_; rintro e w3 ⟨A3, c3, rfl, hat, hb⟩; replace B := Lib.hid (B.out.trans (hb.mono B.out.size)); replace L := Lib.hid (L.out.call hb); have T3 := Lib.hid hat; clear hat; clear hb; have K18 := Lib.hid True.intro; clear K17)
            | (have h := K18; clear h; go_at_call 17; refine (HCH.out A3 c3 _ T3.out).mono ?_; rintro e w4 ⟨rfl, hb⟩; replace B := Lib.hid (B.out.trans (hb.mono B.out.size)); replace L := Lib.hid (L.out.call hb); replace T3 := Lib.hid (T3.out.below hb hb.size); clear hb; have K20 := Lib.hid True.intro; clear K18)
            | (have h := K20; clear h; refine wpList_load_row (o := ⟨some 20, _, _, _, _, _⟩) ?_ 26 (.tmp 1) ?_ w.heap.size ?_ 26 q.cells.toArray (0, 0) _ L.out Try.underlying26 rfl size_rp ?_; rfl; rfl; rfl; have K21 := Lib.hid True.intro; clear K20)
            | (have h := K21; clear h; go_at_call 18; refine (Copy_any q _ (HAT.out.below B.out B.out.size) HL15.out).mono ?_; rintro e w5 ⟨A4, c4, rfl, hat, hb⟩; replace B := Lib.hid (B.out.trans (hb.mono B.out.size)); replace L := Lib.hid (L.out.call hb); replace T3 := Lib.hid (T3.out.below hb hb.size); have T4 := Lib.hid hat; clear hat; clear hb; have K22 := Lib.hid True.intro; clear K21)
            | (have h := K22; clear h; go_at_call 19; refine (HHO.out A4 c4 _ T4.out).mono ?_; rintro e w6 ⟨Ah, ch, rfl, hsh, hb⟩; replace B := Lib.hid (B.out.trans (hb.mono B.out.size)); replace L := Lib.hid (L.out.call hb); replace T3 := Lib.hid (T3.out.below hb hb.size); replace T4 := Lib.hid (T4.out.below hb hb.size); have SH := Lib.hid hsh; clear hsh; clear hb; have K25 := Lib.hid True.intro; clear K22)
            | (have h := K25; clear h; refine wpList_load_row (o := ⟨some 25, _, _, _, _, _⟩) ?_ 26 (.tmp 1) ?_ w.heap.size ?_ 26 q.cells.toArray (0, 0) _ L.out Try.underlying26 rfl size_rp ?_; rfl; rfl; rfl; have K26 := Lib.hid True.intro; clear K25)
            | (have h := K26; clear h; go_at_call 20; refine (HFA.out _ (HAT.out.below B.out B.out.size)).mono ?_; rintro e w7 ⟨rfl, hb⟩; replace B := Lib.hid (B.out.trans (hb.mono B.out.size)); replace L := Lib.hid (L.out.call hb); replace T3 := Lib.hid (T3.out.below hb hb.size); replace T4 := Lib.hid (T4.out.below hb hb.size); replace SH := Lib.hid ((SH.out.below hb).more hb.size); clear hb; have K43 := Lib.hid True.intro; clear K26)
            | (have h := K43; clear h; refine wpList_load_row (o := ⟨some 43, _, _, _, _, _⟩) ?_ 26 (.tmp 1) ?_ w.heap.size ?_ 26 q.cells.toArray (0, 0) _ L.out Try.underlying26 rfl size_rp ?_; rfl; rfl; rfl; have K44 := Lib.hid True.intro; clear K43)
            | (have h := K44; clear h; go_at_call 21; refine (Values_any q _ (HAT.out.below B.out B.out.size) HOK.out).mono ?_; rintro e w8 ⟨gv, row, rfl, _, hvl, hb⟩; replace B := Lib.hid (B.out.trans (hb.mono B.out.size)); replace L := Lib.hid (L.out.call hb); replace T3 := Lib.hid (T3.out.below hb hb.size); replace T4 := Lib.hid (T4.out.below hb hb.size); replace SH := Lib.hid ((SH.out.below hb).more hb.size); have VL := Lib.hid hvl; clear hvl; clear hb; have KX := Lib.hid True.intro; clear K44))
        have HG := Lib.hid (show gv < w8.heap.size by obtain ⟨cs, h1, _⟩ := VL.out.c; exact h1.in_)
        have hvN : q.d.ds.length + 1 = N + 1 := by rw [HN.out]; rfl
        rw [hvN]
        clear hvN
        have HLN := Lib.hid (show q.d.holdL.length = N by rw [PoD.holdL_length, HN.out]; rfl)
        go_wp2
        go_loopw [2, 8, 9, 10, 11] (fun _ s8 _ _ _ wr => ∃ (k : Nat), k ≤ N ∧ s8 = .int .i64 k ∧ Aside (Below w8.heap.size w8 wr ∧ ∀ i, i < k → (q.d.rangeAt i).1 ≤ (q.d.rangeAt i).2)) (fun _ i _ _ _ _ => N - (intOf i).toNat)
        case atStart => exact ⟨0, by omega, rfl, Below.refl _ _, fun i hi => by omega⟩
        case round =>
          obtain ⟨k, hkN, rfl, HH⟩ := hrel
          have HB := Lib.hid HH.out.1
          have HPR := Lib.hid HH.out.2
          have BW := Lib.hid (B.out.trans (HB.out.mono B.out.size))
          clear HH
          have hk0 : (0 : Int) ≤ (k : Int) := by omega
          have c47 : wr.cell? ⟨w.heap.size, 6, none⟩ = some (.slice q.ds.A N q.ds.c) := by rw [HN.out]; exact (L.out.call HB.out).at_ 6
          by_cases hlt : k < N
          · have hltz : (k : Int) < (N : Int) := by omega
            have hltz1 : (k : Int) < (N : Int) + 1 := by omega
            have hkd : k ≤ q.d.ds.length := by have := HN.out; show k ≤ q.ds.l.length; omega
            have HKD := Lib.hid hkd
            have hrl : (row k).l.length = M := by rw [VL.out.len hkd, HM.out]
            have FC := Lib.hid (fun V (h : Below w8.heap.size w8 V) => (show V.cell? ⟨gv, k, none⟩ = some (.slice (row k).A M (row k).c) by rw [← hrl]; exact (h.cell (p := ⟨gv, k, none⟩) HG.out).trans (VL.out.cell hkd)))
            have hrs := VL.out.sl hkd
            have HRS := Lib.hid hrs
            have HRL := Lib.hid hrl
            have HNX := Lib.hid (show ∀ i, i < M → (row k).l[i]? = some (q.d.vals (q.d.ds.drop k) (q.low + (i : Int))) from fun i hi => by rw [(VL.out.r k hkd).1]; exact PoD.rowT_at q.d k (by rw [← HM.out]; exact hi))
            clear hrs hrl hkd
            go_wp2
            clear c47
            go_loopw [9, 10, 11] (fun s9 s10 s11 wq => ∃ (i : Nat), i ≤ M ∧ s9 = .int .i64 (q.d.rngTo (q.d.vals (q.d.ds.drop k)) i).1 ∧ s10 = .int .i64 (q.d.rngTo (q.d.vals (q.d.ds.drop k)) i).2 ∧ s11 = .int .i64 i ∧ Aside (Below w8.heap.size w8 wq)) (fun _ _ i _ => M - (intOf i).toNat)
            case atStart => exact ⟨0, by omega, rfl, rfl, rfl, HB.out⟩
            case round =>
              obtain ⟨i, hiM, rfl, rfl, rfl, HH⟩ := hrel
              have HC := Lib.hid HH.out
              clear HH
              have hi0 : (0 : Int) ≤ (i : Int) := by omega
              have c56 := FC.out _ HC.out
              by_cases him : i < M
              · have himz : (i : Int) < (M : Int) := by omega
                obtain ⟨y, hy⟩ : ∃ y, y = q.d.vals (q.d.ds.drop k) (q.low + (i : Int)) := ⟨_, rfl⟩
                have hyg : -1 ≤ y := by rw [hy]; exact HOK.out.cstDrop k _
                have hst : q.d.rngTo (q.d.vals (q.d.ds.drop k)) (i + 1) = if y = -1 then q.d.rngTo (q.d.vals (q.d.ds.drop k)) i else (if (q.d.rngTo (q.d.vals (q.d.ds.drop k)) i).1 < 0 then q.low + (i : Int) else (q.d.rngTo (q.d.vals (q.d.ds.drop k)) i).1, q.low + (i : Int)) := by rw [hy]; rfl
                have hx := HNX.out i him
                rw [← hy] at hx
                obtain ⟨ba, oa, hA, hba, hca⟩ := HRS.out.cell1 hx
                rw [hA] at c56
                have c67 : wr.cell? ⟨ba, oa + i, none⟩ = some (.int .i64 y) := (HC.out.cell (p := ⟨ba, oa + i, none⟩) hba).trans hca
                have c72 : wr.cell? ⟨w.heap.size, 0, none⟩ = some (.int .i64 q.low) := (L.out.call HC.out).at_ 0
                have hwi : IntKind.i64.wrap (q.low + (i : Int)) = q.low + (i : Int) := IntWalk.i64_in _ (by omega)
                obtain ⟨⟨a, b⟩, hab⟩ : ∃ r, r = q.d.rngTo (q.d.vals (q.d.ds.drop k)) i := ⟨_, rfl⟩
                rw [← hab] at hst ⊢
                dsimp only at hst ⊢
                clear hx hy hA hba hca hab
                by_cases hyn : y = -1
                · have hy0 : ¬ 0 ≤ y := by omega
                  rw [if_pos hyn] at hst
                  have HS := Lib.hid hst
                  clear hst hyn
                  go_wp2
                  go_roundw
                  case rel => exact ⟨i + 1, by omega, by rw [HS.out], by rw [HS.out], by go_num, HC.out⟩
                  case measure => simp [intOf]; omega
                · have hy0 : 0 ≤ y := by omega
                  rw [if_neg hyn] at hst
                  clear hyn
                  by_cases ha : a < 0
                  · rw [if_pos ha] at hst
                    have HS := Lib.hid hst
                    clear hst
                    go_wp2
                    go_roundw
                    case rel => exact ⟨i + 1, by omega, by rw [HS.out], by rw [HS.out], by go_num, HC.out⟩
                    case measure => simp [intOf]; omega
                  · rw [if_neg ha] at hst
                    have HS := Lib.hid hst
                    clear hst
                    go_wp2
                    go_roundw
                    case rel => exact ⟨i + 1, by omega, by rw [HS.out], by rw [HS.out], by go_num, HC.out⟩
                    case measure => simp [intOf]; omega
              · obtain rfl : i = M := by omega
                obtain ⟨⟨a, b⟩, hab⟩ : ∃ r, r = q.d.rngTo (q.d.vals (q.d.ds.drop k)) i := ⟨_, rfl⟩
                rw [← hab]
                have hday := PoD.rng_day HOK.out k (x := (a, b)) (by rw [hab, HM.out])
                dsimp only at hday ⊢
                have BC := Lib.hid (B.out.trans (HC.out.mono B.out.size))
                clear hab
                rcases hday with ⟨hneg, hbad⟩ | ⟨hpos, hab, hle⟩
                · go_wp2_with (go_at_call 16; refine (wakes_any _).mono ?_; rintro e w99 ⟨rfl, hb9⟩)
                  go_ret
                  exact ⟨rfl, BC.out.trans (hb9.mono BC.out.size)⟩
                · have HLE := Lib.hid hle
                  clear hab hle
                  go_wp2
                  go_roundw
                  case rel => exact ⟨k + 1, by omega, by go_num, HC.out, fun j hj => by
                    by_cases e : j = k
                    · subst e; exact HLE.out
                    · exact HPR.out j (by omega)⟩
                  case measure => simp [intOf]; omega
          · obtain rfl : k = N := by omega
            exfalso
            obtain ⟨j, hj, hno⟩ := HCAN.out
            have hyes := HPR.out j (by have := HN.out; have h2 : j < q.ds.l.length := hj; omega)
            omega
    · obtain ⟨ff, hff0⟩ : ∃ ff, ff = q.d.fault := ⟨_, rfl⟩
      have hho : q.d.holdR = ([], ff) := by unfold PoD.holdR; rw [if_pos hff, ← hff0]
      rw [← hff0] at hff
      have hne : ((ff : Int) == 0) = false := by simpa using hff
      have hne2 : ((ff : Int) != 0) = true := by simpa using hff
      have hee : ((ff : Int) == ff) = true := by simp
      have hee2 : ((ff : Int) != ff) = false := by simp
      clear hff
      have hff := hff0.symm
      have HCH := Lib.hid (fun A c W (hat : (q.withA A c).At W W.heap.size) => (show Calls Try.prog 17 #[.agg (q.withA A c).cells.toArray] W fun e w' => e = .returned (.int .i64 ff) ∧ Below W.heap.size W w' by
        have := CheckPolder_any (q.withA A c) W hat
        rw [show (q.withA A c).d.fault = ff from hff] at this
        exact this))
      have HFA := Lib.hid (fun W (hq : q.At W W.heap.size) => (show Calls Try.prog 20 #[.agg q.cells.toArray] W fun e w' => e = .returned (.int .i64 ff) ∧ Below W.heap.size W w' by
        have := lawFault_any q W hq
        rw [hff] at this
        exact this))
      have HHO := Lib.hid (fun A c W (hat : (q.withA A c).At W W.heap.size) => (show Calls Try.prog 19 #[.agg (q.withA A c).cells.toArray] W (HoldO ([], ff) W) by
        have := Hold_any (q.withA A c) W hat
        rw [show (q.withA A c).d.holdR = ([], ff) from hho] at this
        exact this))
      clear hho hff hff0
      go_enter Try.func3, Try.ntmps3
      go_upto_region 1 with (fail)
      change Code.wp _ _ _ _ (w.alloc (.cells q.cells.toArray 26))
      generalize w.alloc (.cells q.cells.toArray 26) = w1 at *
      go_upto_region 9 with (first
          | (have h := K12; clear h; refine wpList_load_row (o := ⟨some 12, _, _, _, _, _⟩) ?_ 26 (.tmp 1) ?_ w.heap.size ?_ 26 q.cells.toArray (0, 0) _ L.out Try.underlying26 rfl size_rp ?_; rfl; rfl; rfl; have K13 := Lib.hid True.intro; clear K12)
          | (have h := K13; clear h; go_at_call 15; refine (HTH.out _).mono ?_; rintro e w2 ⟨rfl, hb⟩; replace B := Lib.hid (B.out.trans (hb.mono B.out.size)); replace L := Lib.hid (L.out.call hb); clear hb; have K16 := Lib.hid True.intro; clear K13)
          | (have h := K16; clear h; refine wpList_load_row (o := ⟨some 16, _, _, _, _, _⟩) ?_ 26 (.tmp 1) ?_ w.heap.size ?_ 26 q.cells.toArray (0, 0) _ L.out Try.underlying26 rfl size_rp ?_; rfl; rfl; rfl; have K17 := Lib.hid True.intro; clear K16)
          | (have h := K17; clear h; go_at_call 18; refine (Copy_any q _ (HAT.out.below B.out B.out.size) HL15.out).mono ?_; rintro e w3 ⟨A3, c3, rfl, hat, hb⟩; replace B := Lib.hid (B.out.trans (hb.mono B.out.size)); replace L := Lib.hid (L.out.call hb); have T3 := Lib.hid hat; clear hat; clear hb; have K18 := Lib.hid True.intro; clear K17)
          | (have h := K18; clear h; go_at_call 17; refine (HCH.out A3 c3 _ T3.out).mono ?_; rintro e w4 ⟨rfl, hb⟩; replace B := Lib.hid (B.out.trans (hb.mono B.out.size)); replace L := Lib.hid (L.out.call hb); replace T3 := Lib.hid (T3.out.below hb hb.size); clear hb; have K20 := Lib.hid True.intro; clear K18)
          | (have h := K20; clear h; refine wpList_load_row (o := ⟨some 20, _, _, _, _, _⟩) ?_ 26 (.tmp 1) ?_ w.heap.size ?_ 26 q.cells.toArray (0, 0) _ L.out Try.underlying26 rfl size_rp ?_; rfl; rfl; rfl; have K21 := Lib.hid True.intro; clear K20)
          | (have h := K21; clear h; go_at_call 18; refine (Copy_any q _ (HAT.out.below B.out B.out.size) HL15.out).mono ?_; rintro e w5 ⟨A4, c4, rfl, hat, hb⟩; replace B := Lib.hid (B.out.trans (hb.mono B.out.size)); replace L := Lib.hid (L.out.call hb); replace T3 := Lib.hid (T3.out.below hb hb.size); have T4 := Lib.hid hat; clear hat; clear hb; have K22 := Lib.hid True.intro; clear K21)
          | (have h := K22; clear h; go_at_call 19; refine (HHO.out A4 c4 _ T4.out).mono ?_; rintro e w6 ⟨Ah, ch, rfl, hsh, hb⟩; replace B := Lib.hid (B.out.trans (hb.mono B.out.size)); replace L := Lib.hid (L.out.call hb); replace T3 := Lib.hid (T3.out.below hb hb.size); replace T4 := Lib.hid (T4.out.below hb hb.size); have SH := Lib.hid hsh; clear hsh; clear hb; have K25 := Lib.hid True.intro; clear K22)
          | (have h := K25; clear h; refine wpList_load_row (o := ⟨some 25, _, _, _, _, _⟩) ?_ 26 (.tmp 1) ?_ w.heap.size ?_ 26 q.cells.toArray (0, 0) _ L.out Try.underlying26 rfl size_rp ?_; rfl; rfl; rfl; have K26 := Lib.hid True.intro; clear K25)
          | (have h := K26; clear h; go_at_call 20; refine (HFA.out _ (HAT.out.below B.out B.out.size)).mono ?_; rintro e w7 ⟨rfl, hb⟩; replace B := Lib.hid (B.out.trans (hb.mono B.out.size)); replace L := Lib.hid (L.out.call hb); replace T3 := Lib.hid (T3.out.below hb hb.size); replace T4 := Lib.hid (T4.out.below hb hb.size); replace SH := Lib.hid ((SH.out.below hb).more hb.size); clear hb; have K43 := Lib.hid True.intro; clear K26))
      go_wp2_with (go_at_call 16; refine (wakes_any _).mono ?_; rintro e w99 ⟨rfl, hb9⟩)
      go_ret
      exact ⟨rfl, B.out.trans (hb9.mono B.out.size)⟩
  · rw [decide_eq_false hthin] at HTH
    clear hthin HO
    go_enter Try.func3, Try.ntmps3
    go_upto_region 1 with (fail)
    change Code.wp _ _ _ _ (w.alloc (.cells q.cells.toArray 26))
    generalize w.alloc (.cells q.cells.toArray 26) = w1 at *
    go_wp2_with (first
        | (have h := K12; clear h; refine wpList_load_row (o := ⟨some 12, _, _, _, _, _⟩) ?_ 26 (.tmp 1) ?_ w.heap.size ?_ 26 q.cells.toArray (0, 0) _ L.out Try.underlying26 rfl size_rp ?_; rfl; rfl; rfl; have K13 := Lib.hid True.intro; clear K12)
        | (have h := K13; clear h; go_at_call 15; refine (HTH.out _).mono ?_; rintro e w2 ⟨rfl, hb⟩; replace B := Lib.hid (B.out.trans (hb.mono B.out.size)); replace L := Lib.hid (L.out.call hb); clear hb; have KW := Lib.hid True.intro; clear K13)
        | (have h := KW; clear h; go_at_call 16; refine (wakes_any _).mono ?_; rintro e w3 ⟨rfl, hb⟩; replace B := Lib.hid (B.out.trans (hb.mono B.out.size)); replace L := Lib.hid (L.out.call hb); clear hb; have KWW := Lib.hid True.intro; clear KW))
    go_ret
    exact ⟨rfl, B.out⟩
end Go.Proofs.Yteognijlgalahaa
