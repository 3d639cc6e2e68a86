/- The law's helpers: ints, meadow, wakes. -/
import Derived.Test.YteognijlgalahaaPU
import Derived.Deep.QuietTactic
namespace Go.Proofs.Yteognijlgalahaa
open Go.RowKit Go.Lib
attribute [local go_sem] Oper.semAt_some

set_option maxRecDepth 100000 in
set_option maxHeartbeats 1000000 in
theorem ints_yes (A1 A2 : Option Addr) (c1 c2 : Nat) (l : List Int) (w : World) (h1 : Sl w w.heap.size 1 encI A1 l) (h2 : Sl w w.heap.size 1 encI A2 l) (hl : l.length ≤ 1000000) :
    Calls Try.prog 32 #[.slice A1 l.length c1, .slice A2 l.length c2] w fun e w' => e = .returned (.bool true) ∧ Below w.heap.size w w' := by
  have H1 := Lib.hid h1
  have H2 := Lib.hid h2
  have hlz : (l.length : Int) ≤ 1000000 := by omega
  clear h1 h2
  go_enter Try.func32, Try.ntmps32
  go_wp2
  go_loopw [5] (fun i wr => ∃ k : Nat, k ≤ l.length ∧ i = .int .i64 k ∧ Aside (Below w.heap.size w wr)) (fun i _ => l.length - (intOf i).toNat)
  case atStart => exact ⟨0, by omega, rfl, Below.refl _ _⟩
  case round =>
    obtain ⟨k, hk, rfl, hb⟩ := hrel
    by_cases hlt : k < l.length
    · have hltz : (k : Int) < (l.length : Int) := by omega
      have hk0 : (0 : Int) ≤ (k : Int) := by omega
      obtain ⟨x, hx⟩ : ∃ x, l[k]? = some x := ⟨l[k], by simp [hlt]⟩
      obtain ⟨b1, o1, rfl, hb1, p1⟩ := H1.out.cell1 hx
      obtain ⟨b2, o2, rfl, hb2, p2⟩ := H2.out.cell1 hx
      have r1 := cell_regrown ((hb.out.cell (p := ⟨b1, o1 + k, none⟩) hb1).trans p1)
      have r2 := cell_regrown ((hb.out.cell (p := ⟨b2, o2 + k, none⟩) hb2).trans p2)
      have HB := Lib.hid hb.out
      clear p1 p2 hx hb
      go_wp2
      refine wp_region_quiet_below (by kernel_rfl) (by kernel_rfl) ?_; (repeat (first | go_big_quiet_step ((fail)) | quiet_step ((fail)))); refine wpQuiet_nil ?_; intro wq hwq; have hbq : Below _ _ wq := (by obtain ⟨p, rfl⟩ := hwq; exact below_regrown _ _ _); clear hwq
      clear r1 r2
      go_wp2
      go_roundw
      case rel => exact ⟨k + 1, by omega, by go_num, HB.out.trans (hbq.mono HB.out.size)⟩
      case measure => simp [intOf]; omega
    · obtain rfl : k = l.length := by omega
      go_wp2
      go_ret
      exact ⟨rfl, hb.out⟩
def meadM (g : Nat) : PoM := ⟨10, 20, 14, 16, 6, 2, ⟨some ⟨g + 1, 0, none⟩, [md1, md2, md3], 3⟩⟩
theorem meadM_d (g : Nat) : (meadM g).d = meadD := rfl
theorem mead_at {g : Nat} {V : World} (h : Lies V (g + 1) 72 ([md1, md2, md3].flatMap encD).toArray) : (meadM g).At V V.heap.size :=
  ⟨sl_of_lies (t := 72) (enc := encD) (fun _ => rfl) h, (show (3 : Nat) ≤ 1000000 by decide)⟩
set_option maxRecDepth 100000 in
set_option maxHeartbeats 4000000 in
theorem meadow_any (w : World) : Calls Try.prog 41 #[] w fun e w' => e = .returned (.agg (meadM w.heap.size).cells.toArray) ∧ (meadM w.heap.size).At w' w'.heap.size ∧ Below w.heap.size w w' := by
  go_enter Try.func41, Try.ntmps41
  go_wp2
  refine bodyPost_ret (results_cell_row rfl _ _ w.heap.size 34 #[.int .i64 10, .int .i64 20, .int .i64 14, .int .i64 16, .int .i64 6, .int .i64 2, .slice (some ⟨w.heap.size + 1, 0, none⟩) 3 3] (0, 0) _ rfl (by repeat (first | (exact Lies.fresh' (by simp)) | (refine Lies.alloc ?_ _))) Try.underlying34 rfl size_po) rfl ?_
  exact ⟨rfl, mead_at (by repeat (first | (exact Lies.fresh' (by simp)) | (refine Lies.alloc ?_ _))), (by repeat (first | (with_reducible assumption) | (with_reducible exact Below.refl _ _) | (with_reducible refine Below.drew ?_) | (with_reducible refine below_drewN ?_ _) | ((with_reducible refine Below.setCell ?_ ?_ _); rotate_left; focus (first | (simp; done) | (simp; omega) | omega)) | ((with_reducible refine Below.alloc ?_ ?_ _); rotate_left; focus (first | (simp; done) | (simp; omega) | omega))))⟩
theorem mw_least {g : Nat} {w : World} (h : (meadM g).At w w.heap.size) : Calls Try.prog 22 #[.agg (meadM g).cells.toArray] w fun e w' => e = .returned (.tuple #[.int .i64 27, .int .i64 0]) ∧ Below w.heap.size w w' := by
  have := Least_any (meadM g) w h
  rw [show (meadM g).d.leastR = (27, 0) from m_least] at this
  exact this
theorem mw_best {g : Nat} {w : World} (h : (meadM g).At w w.heap.size) : Calls Try.prog 23 #[.agg (meadM g).cells.toArray, .int .i64 0, .int .i64 14] w fun e w' => e = .returned (.tuple #[.int .i64 2, .int .i64 21, .int .i64 0]) ∧ Below w.heap.size w w' := by
  have := Best_any (meadM g) 0 14 w h
  rw [show (meadM g).d.bestR 0 14 = (2, 21, 0) from m_best] at this
  exact this
theorem mw_play {g : Nat} {w : World} (h : (meadM g).At w w.heap.size) (A : Option Addr) (c : Nat) (hs : Sl w w.heap.size 1 encI A [0, 6, 4]) : Calls Try.prog 27 #[.agg (meadM g).cells.toArray, .int .i64 16, .slice A 3 c] w (PlayE ([10, 17, 17], [4, -2, 0], 14, 0) w) := by
  have := Play_any (meadM g) 16 A c [0, 6, 4] w h hs (by decide)
  rw [show (meadM g).d.playR 16 [0, 6, 4] = ([10, 17, 17], [4, -2, 0], 14, 0) from m_playR] at this
  exact this
theorem mw_table {g : Nat} {w : World} (h : (meadM g).At w w.heap.size) : Calls Try.prog 33 #[.agg (meadM g).cells.toArray] w (TabE ([mL1, mL2, mL3, List.replicate 11 0], 0) w) := by
  have := Table_any (meadM g) w h
  rw [show (meadM g).d.tabR = ([mL1, mL2, mL3, List.replicate 11 0], 0) from m_tab] at this
  exact this
set_option maxRecDepth 100000 in
set_option maxHeartbeats 8000000 in
theorem wakes_any (w : World) : Calls Try.prog 16 #[] w fun e w' => e = .returned (.bool true) ∧ Below w.heap.size w w' := by
  go_enter Try.func16, Try.ntmps16
  go_upto_region 2 with (first
    | (go_at_call 41; refine (meadow_any _).mono ?_; rintro e w1 ⟨rfl, ha1, hb1⟩)
    | (go_at_call 22; refine (mw_least ha1).mono ?_; rintro e w2 ⟨rfl, hb2⟩))
  have B2 := Lib.hid (hb1.trans (hb2.mono hb1.size))
  clear ha1 hb1 hb2
  go_upto_region 3 with (first
    | (go_at_call 41; refine (meadow_any _).mono ?_; rintro e w3 ⟨rfl, ha3, hb3⟩)
    | (go_at_call 23; refine (mw_best ha3).mono ?_; rintro e w4 ⟨rfl, hb4⟩))
  have B4 := Lib.hid (B2.out.trans ((hb3.trans (hb4.mono hb3.size)).mono B2.out.size))
  clear ha3 hb3 hb4 B2
  go_upto_region 4 with (first
    | (go_at_call 41; refine (meadow_any _).mono ?_; rintro e w5 ⟨rfl, ha5, hb5⟩; have HA5 := Lib.hid ha5; have HB5 := Lib.hid hb5; clear ha5 hb5)
    | (go_at_call 27; have hal := (Below.refl w5.heap.size w5).alloc (Nat.le_refl _) (.cells #[.int .i64 0, .int .i64 6, .int .i64 4] 3); refine (mw_play ((HA5.out.below hal hal.size)) (some ⟨w5.heap.size, 0, none⟩) 3 (lies_q (q := [0, 6, 4]) (Lies.fresh _ _ _))).mono ?_; rintro e w6 ⟨A1, c1, A2, c2, rfl, hs1, hs2, hb6⟩))
  have B6 := Lib.hid (B4.out.trans ((HB5.out.trans ((hal.trans (hb6.mono hal.size)).mono HB5.out.size)).mono B4.out.size))
  have S1 := Lib.hid hs1
  have S2 := Lib.hid hs2
  clear hs1 hs2 hb6 hal HA5 HB5 B4
  try dsimp only
  go_upto_region 5 with (first
    | (go_at_call 41; refine (meadow_any _).mono ?_; rintro e w7 ⟨rfl, ha7, hb7⟩; have HA7 := Lib.hid ha7; have HB7 := Lib.hid hb7; clear ha7 hb7)
    | (go_at_call 33; refine (mw_table HA7.out).mono ?_; rintro e w8 ⟨out, A3, c3, rfl, ho, hm8, hb8⟩))
  have hb68 := HB7.out.trans (hb8.mono HB7.out.size)
  have B8 := Lib.hid (B6.out.trans (hb68.mono B6.out.size))
  have S1 := Lib.hid ((S1.out.below hb68).more hb68.size)
  have S2 := Lib.hid ((S2.out.below hb68).more hb68.size)
  have hol : out.length = 4 := by have := congrArg List.length ho; simpa using this
  obtain ⟨A', c', e', _, hso⟩ := Sl.of_own (enc := encV) (l := out) (fun _ => rfl) hm8.o rfl
  cases e'
  obtain ⟨s, hs⟩ : ∃ s, out[1]? = some s := ⟨out[1]'(by omega), by simp⟩
  have hsl : s.l = mL2 := by
    have h1 : (out.map Sv.l)[1]? = some s.l := by rw [List.getElem?_map, hs]; rfl
    rw [ho] at h1
    exact (Option.some.inj h1).symm
  obtain ⟨bo, oo, rfl, hbo, hco⟩ := hso.cell1 hs
  obtain ⟨_, _, e2, _, hsi⟩ := Sl.of_own (enc := encI) (l := s.l) (fun _ => rfl) (hm8.i s (List.mem_of_getElem? hs)) rfl
  cases e2
  obtain ⟨A5, l5, c5⟩ := s
  dsimp only at hsl hsi hco
  subst hsl
  have HSI := Lib.hid hsi
  have HCO := Lib.hid (show w8.cell? ⟨bo, oo + 1, none⟩ = some (.slice A5 11 c5) from hco)
  have HBO := Lib.hid hbo
  rw [hol]
  clear ho hm8 hb8 hb68 hol hso hs hsi hco hbo HA7 HB7 B6
  have K61 := Lib.hid True.intro
  try dsimp only
  go_wp2_with (first
    | (have h := K61; clear h; go_at_call 32; have hal1 := (Below.refl w8.heap.size w8).alloc (Nat.le_refl _) (.cells (vals [10, 17, 17]) 3); refine (ints_yes A1 _ c1 3 [10, 17, 17] _ ((S1.out.below hal1).more hal1.size) (lies_q (q := [10, 17, 17]) (Lies.fresh _ _ _)) (by decide)).mono ?_; rintro e w9 ⟨rfl, hb9⟩; have B9' := hal1.trans (hb9.mono hal1.size); have B9 := Lib.hid B9'; have S2b := Lib.hid ((S2.out.below B9').more B9'.size); clear hal1 hb9 B9'; have K66 := Lib.hid True.intro; clear K61)
    | (have h := K66; clear h; go_at_call 32; have hal2 := (Below.refl w9.heap.size w9).alloc (Nat.le_refl _) (.cells (vals [4, -2, 0]) 3); refine (ints_yes A2 _ c2 3 [4, -2, 0] _ ((S2b.out.below hal2).more hal2.size) (lies_q (q := [4, -2, 0]) (Lies.fresh _ _ _)) (by decide)).mono ?_; rintro e w10 ⟨rfl, hb10⟩; have B10' := B9.out.trans ((hal2.trans (hb10.mono hal2.size)).mono B9.out.size); have B10 := Lib.hid B10'; have SI := Lib.hid ((HSI.out.below B10').more B10'.size); have c84 : w10.cell? ⟨bo, oo + 1, none⟩ = some (.slice A5 11 c5) := (B10'.cell (p := ⟨bo, oo + 1, none⟩) HBO.out).trans HCO.out; clear hal2 hb10 B10'; have K86 := Lib.hid True.intro; clear K66)
    | (have h := K86; clear h; go_at_call 32; have hal3 := (Below.refl w10.heap.size w10).alloc (Nat.le_refl _) (.cells (vals mL2) 3); refine (ints_yes A5 _ c5 11 mL2 _ ((SI.out.below hal3).more hal3.size) (lies_q (q := mL2) (Lies.fresh _ _ _)) (by decide)).mono ?_; rintro e w11 ⟨rfl, hb11⟩; clear K86))
  go_ret
  exact ⟨rfl, B8.out.trans ((B10.out.trans ((hal3.trans (hb11.mono hal3.size)).mono B10.out.size)).mono B8.out.size)⟩
end Go.Proofs.Yteognijlgalahaa
