/- The texts D E WD, joined. -/
import Derived.Test.YtkjhofbjjogmlaaXA
/- latest, earliest, kinds. -/
namespace Go.Proofs.Ytkjhofbjjogmlaa
open Go.RowKit Go.Lib

section
set_option maxHeartbeats 1000000
theorem latest_any (a x : Int) (g : Nat) (w : World) (hc : w.cell? ⟨g, 0, none⟩ = some (.int .i64 x)) :
    Calls Try.prog 103 #[.int .i64 a, .slice (some ⟨g, 0, none⟩) 1 1] w fun e w' => e = .returned (.int .i64 (max a x)) ∧ w = w' := by
  go_enter Try.func103, Try.ntmps103
  go_wp2
  go_loop [0, 6, 9] (fun s _ i => ∃ k : Nat, k ≤ 1 ∧ i = .int .i64 k ∧ s = .int .i64 (if k = 0 then a else max a x)) (fun _ _ i => 1 - (intOf i).toNat)
  case atStart => exact ⟨0, by omega, rfl, rfl⟩
  case round =>
    obtain ⟨k, hk, rfl, rfl⟩ := hrel
    by_cases h0 : k = 0
    · subst h0
      go_wp2
      go_round
      case rel => exact ⟨1, by omega, rfl, by simp⟩
      case measure => simp [intOf]
    · obtain rfl : k = 1 := by omega
      go_wp2
      go_ret
      exact ⟨by simp, rfl⟩
theorem earliest_any (a x : Int) (g : Nat) (w : World) (hc : w.cell? ⟨g, 0, none⟩ = some (.int .i64 x)) :
    Calls Try.prog 104 #[.int .i64 a, .slice (some ⟨g, 0, none⟩) 1 1] w fun e w' => e = .returned (.int .i64 (min a x)) ∧ w = w' := by
  go_enter Try.func104, Try.ntmps104
  go_wp2
  go_loop [0, 6, 9] (fun s _ i => ∃ k : Nat, k ≤ 1 ∧ i = .int .i64 k ∧ s = .int .i64 (if k = 0 then a else min a x)) (fun _ _ i => 1 - (intOf i).toNat)
  case atStart => exact ⟨0, by omega, rfl, rfl⟩
  case round =>
    obtain ⟨k, hk, rfl, rfl⟩ := hrel
    by_cases h0 : k = 0
    · subst h0
      go_wp2
      go_round
      case rel => exact ⟨1, by omega, rfl, by simp⟩
      case measure => simp [intOf]
    · obtain rfl : k = 1 := by omega
      go_wp2
      go_ret
      exact ⟨by simp, rfl⟩
end
theorem size_row : (Try.prog.info? 34).map (·.size) = some 8 := by kernel_rfl
theorem size_win : (Try.prog.info? 81).map (·.size) = some 2 := by kernel_rfl
theorem size_k2 : (Try.prog.info? 133).map (·.size) = some 4 := by kernel_rfl
theorem size_kind : (Try.prog.info? 132).map (·.size) = some 2 := by kernel_rfl
set_option maxHeartbeats 1000000 in
theorem kinds_any (r : RwM) (w : World) : Calls Try.prog 92 #[.agg r.cells.toArray] w fun e w' => e = .returned (.agg #[.func (.func 100) #[] #[.pointer (some ⟨w.heap.size, 0, none⟩)], .func (.func 100) #[] #[.pointer (some ⟨w.heap.size, 0, none⟩)], .func (.func 101) #[] #[], .func (.func 102) #[] #[.pointer (some ⟨w.heap.size, 0, none⟩)]]) ∧ Lies w' w.heap.size 34 r.cells.toArray ∧ Below w.heap.size w w' := by
  unfold RwM.cells
  go_enter Try.func92, Try.ntmps92
  go_wp2
  exact bodyPost_ret (results_cell_row rfl _ _ (w.heap.size + 1) 133 _ (0, 0) _ rfl (Lies.fresh' (by simp)) Try.underlying133 rfl size_k2) rfl ⟨rfl, (Lies.fresh' rfl).alloc _, (by repeat (first | (with_reducible assumption) | (with_reducible exact Below.refl _ _) | (with_reducible refine Below.drew ?_) | (with_reducible refine below_drewN ?_ _) | ((with_reducible refine Below.setCell ?_ ?_ _); rotate_left; focus (first | (simp; done) | (simp; omega) | omega)) | ((with_reducible refine Below.alloc ?_ ?_ _); rotate_left; focus (first | (simp; done) | (simp; omega) | omega))))⟩
theorem k1_any (r : RwM) (g : Nat) (n : Int) (w : World) (h : Lies w g 34 r.cells.toArray) (h0 : 0 ≤ n) (h1 : n ≤ 1000) (h2 : 0 ≤ r.sh) (h3 : r.sh ≤ 1000) :
    Calls Try.prog 100 #[.int .i64 n, .pointer (some ⟨g, 0, none⟩)] w fun e w' => e = .returned (.int .i64 (n - r.sh)) ∧ w = w' := by
  have hc : w.cell? ⟨g, 3, none⟩ = some (.int .i64 r.sh) := h.at_ 3
  clear h
  go_enter Try.func100, Try.ntmps100
  go_wp2
  go_ret
  exact ⟨rfl, rfl⟩
theorem k2_any (n : Int) (w : World) :
    Calls Try.prog 101 #[.int .i64 n] w fun e w' => e = .returned (.int .i64 n) ∧ w = w' := by
  go_enter Try.func101, Try.ntmps101
  go_wp2
  go_ret
  exact ⟨rfl, rfl⟩
theorem k3_any (r : RwM) (g : Nat) (n : Int) (w : World) (h : Lies w g 34 r.cells.toArray) (h0 : 0 ≤ n) (h1 : n ≤ 1000) (h2 : 0 ≤ r.old) (h3 : r.old ≤ 1000) :
    Calls Try.prog 102 #[.int .i64 n, .pointer (some ⟨g, 0, none⟩)] w fun e w' => e = .returned (.int .i64 (n - r.old)) ∧ w = w' := by
  have hc : w.cell? ⟨g, 4, none⟩ = some (.int .i64 r.old) := h.at_ 4
  clear h
  go_enter Try.func102, Try.ntmps102
  go_wp2
  go_ret
  exact ⟨rfl, rfl⟩
abbrev encWin (x : Int × Int) : List Value := [.int .i64 x.1, .int .i64 x.2]
/-- The window of both. -/
def andD (a b : Int × Int) : Int × Int := (max a.1 b.1, min a.2 b.2)
set_option maxRecDepth 100000 in
set_option maxHeartbeats 4000000 in
theorem and_any (a b : Int × Int) (w : World) : Calls Try.prog 93 #[.agg (encWin a).toArray, .agg (encWin b).toArray] w fun e w' => e = .returned (.agg (encWin (andD a b)).toArray) ∧ Below w.heap.size w w' := by
  obtain ⟨a1, a2⟩ := a
  obtain ⟨b1, b2⟩ := b
  have l0 : Lies (((w.alloc (.cells (encWin (a1, a2)).toArray 81)).alloc (.cells (encWin (b1, b2)).toArray 81)).alloc (.cells #[.int .i64 0, .int .i64 0] 81)) w.heap.size 81 (encWin (a1, a2)).toArray := ((Lies.fresh _ _ _).alloc _).alloc _
  have l1 : Lies (((w.alloc (.cells (encWin (a1, a2)).toArray 81)).alloc (.cells (encWin (b1, b2)).toArray 81)).alloc (.cells #[.int .i64 0, .int .i64 0] 81)) (w.heap.size + 1) 81 (encWin (b1, b2)).toArray := (Lies.fresh' (by simp)).alloc _
  have l2 : Lies (((w.alloc (.cells (encWin (a1, a2)).toArray 81)).alloc (.cells (encWin (b1, b2)).toArray 81)).alloc (.cells #[.int .i64 0, .int .i64 0] 81)) (w.heap.size + 1 + 1) 81 #[.int .i64 0, .int .i64 0] := Lies.fresh' (by simp)
  have b0 : Below w.heap.size w (((w.alloc (.cells (encWin (a1, a2)).toArray 81)).alloc (.cells (encWin (b1, b2)).toArray 81)).alloc (.cells #[.int .i64 0, .int .i64 0] 81)) := (by repeat (first | (with_reducible assumption) | (with_reducible exact Below.refl _ _) | (with_reducible refine Below.drew ?_) | (with_reducible refine below_drewN ?_ _) | ((with_reducible refine Below.setCell ?_ ?_ _); rotate_left; focus (first | (simp; done) | (simp; omega) | omega)) | ((with_reducible refine Below.alloc ?_ ?_ _); rotate_left; focus (first | (simp; done) | (simp; omega) | omega))))
  have L0 := Lib.hid l0
  have L1 := Lib.hid l1
  have L2 := Lib.hid l2
  have B0 := Lib.hid b0
  clear l0 l1 l2 b0
  go_enter Try.func93, Try.ntmps93
  go_upto_region 1 with (fail)
  have hsz1 : (((w.alloc (.cells (encWin (a1, a2)).toArray 81)).alloc (.cells (encWin (b1, b2)).toArray 81)).alloc (.cells #[.int .i64 0, .int .i64 0] 81)).heap.size = w.heap.size + 3 := by simp
  change Code.wp _ _ _ _ (((w.alloc (.cells (encWin (a1, a2)).toArray 81)).alloc (.cells (encWin (b1, b2)).toArray 81)).alloc (.cells #[.int .i64 0, .int .i64 0] 81))
  generalize ((w.alloc (.cells (encWin (a1, a2)).toArray 81)).alloc (.cells (encWin (b1, b2)).toArray 81)).alloc (.cells #[.int .i64 0, .int .i64 0] 81) = w1 at *
  haveI hne : Nonempty (Cls (fun W => Below w1.heap.size w1 W)) := ⟨⟨w1, Below.refl _ _⟩⟩
  have c0 : ∀ c : Cls (fun W => Below w1.heap.size w1 W), c.val.cell? ⟨w.heap.size, 0, none⟩ = some (.int .i64 a1) := fun c => (L0.out.call c.h).at_ 0
  have c1 : ∀ c : Cls (fun W => Below w1.heap.size w1 W), c.val.cell? ⟨w.heap.size, 1, none⟩ = some (.int .i64 a2) := fun c => (L0.out.call c.h).at_ 1
  have c2 : ∀ c : Cls (fun W => Below w1.heap.size w1 W), c.val.cell? ⟨w.heap.size + 1, 0, none⟩ = some (.int .i64 b1) := fun c => (L1.out.call c.h).at_ 0
  have c3 : ∀ c : Cls (fun W => Below w1.heap.size w1 W), c.val.cell? ⟨w.heap.size + 1, 1, none⟩ = some (.int .i64 b2) := fun c => (L1.out.call c.h).at_ 1
  refine wp_region_ways3 13 [0, 1, 2, 3, 6, 7, 8, 9] (.way 4 (.way 5 (.way 10 (.way 11 (.take 12 .fin) .fin) .fin) (.way 10 (.way 5 (.way 11 (.take 12 .fin) .fin) .fin) .fin)) (.way 10 (.way 4 (.way 5 (.way 11 (.take 12 .fin) .fin) .fin) .fin) .fin)) (fun W => ∃ cc : Cls (fun W => Below w1.heap.size w1 W), W = cc.val) (by kernel_rfl) (by kernel_rfl) (Cls.here (Below.refl _ _).drew) ?_
  simp only [List.filterMap_cons, List.filterMap_nil, List.take_succ_cons, List.take_zero, List.getElem?_toArray, List.getElem?_cons_zero, List.getElem?_cons_succ, List.drop_succ_cons, List.drop_zero]
  repeat (first | go_big_quiet_step (rfl) | quiet_step (rfl))
  refine wpQuiet_nil ?_
  clear c0 c1 c2 c3
  have D0 := Lib.hid (show Below w1.heap.size w1 w1.drew from (Below.refl _ _).drew)
  generalize w1.drew = d0 at *
  rw [wpWy_way]
  refine ⟨?_, ?_⟩
  · simp only [List.getElem?_toArray, List.getElem?_cons_succ, List.getElem?_cons_zero]
    go_wp2_with (fail)
    have E4 := Lib.hid (show Lies (d0.alloc (.cells #[.int .i64 b1] 3)) d0.heap.size 3 #[.int .i64 b1] from Lies.fresh' rfl)
    have D1 := Lib.hid (D0.out.alloc D0.out.size (.cells #[.int .i64 b1] 3))
    generalize d0.alloc (.cells #[.int .i64 b1] 3) = d1 at *
    generalize hgg4 : d0.heap.size = g4 at *
    have G4 := Lib.hid hgg4
    clear hgg4
    have GE4 := Lib.hid (show w1.heap.size ≤ g4 by have := D0.out.size; have := G4.out; omega)
    refine Ends.intro ⟨Cls.here D1.out, ?_⟩
    rw [wpWy_way]
    refine ⟨?_, ?_⟩
    · simp only [List.getElem?_toArray, List.getElem?_cons_succ, List.getElem?_cons_zero]
      go_wp2_with (go_at_call 103; refine (latest_any _ b1 g4 _ (E4.out.at_ 0)).mono ?_; rintro e w' ⟨rfl, rfl⟩)
      refine Ends.intro ⟨Cls.here D1.out, ?_⟩
      rw [wpWy_way]
      refine ⟨?_, by exact trivial⟩
      simp only [List.getElem?_toArray, List.getElem?_cons_succ, List.getElem?_cons_zero]
      go_wp2_with (fail)
      have E10 := Lib.hid (show Lies (d1.alloc (.cells #[.int .i64 b2] 3)) d1.heap.size 3 #[.int .i64 b2] from Lies.fresh' rfl)
      have E4 := Lib.hid (E4.out.alloc (.cells #[.int .i64 b2] 3))
      have D2 := Lib.hid (D1.out.alloc D1.out.size (.cells #[.int .i64 b2] 3))
      generalize d1.alloc (.cells #[.int .i64 b2] 3) = d2 at *
      generalize hgg10 : d1.heap.size = g10 at *
      have G10 := Lib.hid hgg10
      clear hgg10
      have GE10 := Lib.hid (show w1.heap.size ≤ g10 by have := D1.out.size; have := G10.out; omega)
      refine Ends.intro ⟨Cls.here D2.out, ?_⟩
      rw [wpWy_way]
      refine ⟨?_, by exact trivial⟩
      simp only [List.getElem?_toArray, List.getElem?_cons_succ, List.getElem?_cons_zero]
      go_wp2_with (go_at_call 104; refine (earliest_any _ b2 g10 _ (E10.out.at_ 0)).mono ?_; rintro e w' ⟨rfl, rfl⟩)
      refine Ends.intro ⟨Cls.here D2.out, ?_⟩
      rw [wpWy_take]
      simp only [List.getElem?_toArray, List.getElem?_cons_succ, List.getElem?_cons_zero]
      first | go_big_quiet_step (rfl) | quiet_step (rfl)
      refine wpQuiet_nil ?_
      rw [wpWy_fin]
      have Z := Lib.hid (L2.out.call D2.out)
      have BB := Lib.hid (B0.out.trans (D2.out.mono B0.out.size))
      refine wpList_store_cells (o := ⟨none, .store 81 (.tmp 4) _, _, _, _, _⟩) ?_ 81 (.tmp 4) (.tmp 17) ?_ (w.heap.size + 1 + 1) 0 ?_ 81 [.int .i64 0, .int .i64 0] (encWin (andD (a1, a2) (b1, b2))) ?_ Z.out (by simp) size_win (by simp [Value.oneCell']) ?_
      rfl; rfl; rfl; rfl
      intro w9 HS9 HO9
      refine wpList_nil ?_
      have hs9 := HS9.out
      rw [splice_whole (by simp)] at hs9
      go_wp2_with (fail)
      exact bodyPost_ret (results_cell_row rfl _ _ (w.heap.size + 1 + 1) 81 (encWin (andD (a1, a2) (b1, b2))).toArray (0, 0) _ rfl hs9 Try.underlying81 rfl size_win) rfl ⟨rfl, HO9.out.below BB.out (by omega)⟩
    · rw [wpWy_way]
      refine ⟨?_, by exact trivial⟩
      simp only [List.getElem?_toArray, List.getElem?_cons_succ, List.getElem?_cons_zero]
      go_wp2_with (fail)
      have E10 := Lib.hid (show Lies (d1.alloc (.cells #[.int .i64 b2] 3)) d1.heap.size 3 #[.int .i64 b2] from Lies.fresh' rfl)
      have E4 := Lib.hid (E4.out.alloc (.cells #[.int .i64 b2] 3))
      have D2 := Lib.hid (D1.out.alloc D1.out.size (.cells #[.int .i64 b2] 3))
      generalize d1.alloc (.cells #[.int .i64 b2] 3) = d2 at *
      generalize hgg10 : d1.heap.size = g10 at *
      have G10 := Lib.hid hgg10
      clear hgg10
      have GE10 := Lib.hid (show w1.heap.size ≤ g10 by have := D1.out.size; have := G10.out; omega)
      refine Ends.intro ⟨Cls.here D2.out, ?_⟩
      rw [wpWy_way]
      refine ⟨?_, by exact trivial⟩
      simp only [List.getElem?_toArray, List.getElem?_cons_succ, List.getElem?_cons_zero]
      go_wp2_with (go_at_call 103; refine (latest_any _ b1 g4 _ (E4.out.at_ 0)).mono ?_; rintro e w' ⟨rfl, rfl⟩)
      refine Ends.intro ⟨Cls.here D2.out, ?_⟩
      rw [wpWy_way]
      refine ⟨?_, by exact trivial⟩
      simp only [List.getElem?_toArray, List.getElem?_cons_succ, List.getElem?_cons_zero]
      go_wp2_with (go_at_call 104; refine (earliest_any _ b2 g10 _ (E10.out.at_ 0)).mono ?_; rintro e w' ⟨rfl, rfl⟩)
      refine Ends.intro ⟨Cls.here D2.out, ?_⟩
      rw [wpWy_take]
      simp only [List.getElem?_toArray, List.getElem?_cons_succ, List.getElem?_cons_zero]
      first | go_big_quiet_step (rfl) | quiet_step (rfl)
      refine wpQuiet_nil ?_
      rw [wpWy_fin]
      have Z := Lib.hid (L2.out.call D2.out)
      have BB := Lib.hid (B0.out.trans (D2.out.mono B0.out.size))
      refine wpList_store_cells (o := ⟨none, .store 81 (.tmp 4) _, _, _, _, _⟩) ?_ 81 (.tmp 4) (.tmp 17) ?_ (w.heap.size + 1 + 1) 0 ?_ 81 [.int .i64 0, .int .i64 0] (encWin (andD (a1, a2) (b1, b2))) ?_ Z.out (by simp) size_win (by simp [Value.oneCell']) ?_
      rfl; rfl; rfl; rfl
      intro w9 HS9 HO9
      refine wpList_nil ?_
      have hs9 := HS9.out
      rw [splice_whole (by simp)] at hs9
      go_wp2_with (fail)
      exact bodyPost_ret (results_cell_row rfl _ _ (w.heap.size + 1 + 1) 81 (encWin (andD (a1, a2) (b1, b2))).toArray (0, 0) _ rfl hs9 Try.underlying81 rfl size_win) rfl ⟨rfl, HO9.out.below BB.out (by omega)⟩
  · rw [wpWy_way]
    refine ⟨?_, by exact trivial⟩
    simp only [List.getElem?_toArray, List.getElem?_cons_succ, List.getElem?_cons_zero]
    go_wp2_with (fail)
    have E10 := Lib.hid (show Lies (d0.alloc (.cells #[.int .i64 b2] 3)) d0.heap.size 3 #[.int .i64 b2] from Lies.fresh' rfl)
    have D1 := Lib.hid (D0.out.alloc D0.out.size (.cells #[.int .i64 b2] 3))
    generalize d0.alloc (.cells #[.int .i64 b2] 3) = d1 at *
    generalize hgg10 : d0.heap.size = g10 at *
    have G10 := Lib.hid hgg10
    clear hgg10
    have GE10 := Lib.hid (show w1.heap.size ≤ g10 by have := D0.out.size; have := G10.out; omega)
    refine Ends.intro ⟨Cls.here D1.out, ?_⟩
    rw [wpWy_way]
    refine ⟨?_, by exact trivial⟩
    simp only [List.getElem?_toArray, List.getElem?_cons_succ, List.getElem?_cons_zero]
    go_wp2_with (fail)
    have E4 := Lib.hid (show Lies (d1.alloc (.cells #[.int .i64 b1] 3)) d1.heap.size 3 #[.int .i64 b1] from Lies.fresh' rfl)
    have E10 := Lib.hid (E10.out.alloc (.cells #[.int .i64 b1] 3))
    have D2 := Lib.hid (D1.out.alloc D1.out.size (.cells #[.int .i64 b1] 3))
    generalize d1.alloc (.cells #[.int .i64 b1] 3) = d2 at *
    generalize hgg4 : d1.heap.size = g4 at *
    have G4 := Lib.hid hgg4
    clear hgg4
    have GE4 := Lib.hid (show w1.heap.size ≤ g4 by have := D1.out.size; have := G4.out; omega)
    refine Ends.intro ⟨Cls.here D2.out, ?_⟩
    rw [wpWy_way]
    refine ⟨?_, by exact trivial⟩
    simp only [List.getElem?_toArray, List.getElem?_cons_succ, List.getElem?_cons_zero]
    go_wp2_with (go_at_call 103; refine (latest_any _ b1 g4 _ (E4.out.at_ 0)).mono ?_; rintro e w' ⟨rfl, rfl⟩)
    refine Ends.intro ⟨Cls.here D2.out, ?_⟩
    rw [wpWy_way]
    refine ⟨?_, by exact trivial⟩
    simp only [List.getElem?_toArray, List.getElem?_cons_succ, List.getElem?_cons_zero]
    go_wp2_with (go_at_call 104; refine (earliest_any _ b2 g10 _ (E10.out.at_ 0)).mono ?_; rintro e w' ⟨rfl, rfl⟩)
    refine Ends.intro ⟨Cls.here D2.out, ?_⟩
    rw [wpWy_take]
    simp only [List.getElem?_toArray, List.getElem?_cons_succ, List.getElem?_cons_zero]
    first | go_big_quiet_step (rfl) | quiet_step (rfl)
    refine wpQuiet_nil ?_
    rw [wpWy_fin]
    have Z := Lib.hid (L2.out.call D2.out)
    have BB := Lib.hid (B0.out.trans (D2.out.mono B0.out.size))
    refine wpList_store_cells (o := ⟨none, .store 81 (.tmp 4) _, _, _, _, _⟩) ?_ 81 (.tmp 4) (.tmp 17) ?_ (w.heap.size + 1 + 1) 0 ?_ 81 [.int .i64 0, .int .i64 0] (encWin (andD (a1, a2) (b1, b2))) ?_ Z.out (by simp) size_win (by simp [Value.oneCell']) ?_
    rfl; rfl; rfl; rfl
    intro w9 HS9 HO9
    refine wpList_nil ?_
    have hs9 := HS9.out
    rw [splice_whole (by simp)] at hs9
    go_wp2_with (fail)
    exact bodyPost_ret (results_cell_row rfl _ _ (w.heap.size + 1 + 1) 81 (encWin (andD (a1, a2) (b1, b2))).toArray (0, 0) _ rfl hs9 Try.underlying81 rfl size_win) rfl ⟨rfl, HO9.out.below BB.out (by omega)⟩
/-- The last week for yes, the one that a no is behind. -/
def yesD (sh k w : Int) : Int := if k = 0 then w - sh else w
def noD (sh old k w : Int) : Int := if k = 0 then w - sh else w - old
/-- The window that a note allows. -/
def alwD (sh old : Int) (x : Nt) : Int × Int := if x.y then (0, yesD sh x.k x.w) else (noD sh old x.k x.w + 1, 31)
theorem run_isAgg_row {P : Program} {t : TypeId} {d : TypeDesc} (h : P.underlying t = some d) (hd : d.isRow = true) (w : World) : (isAgg t).run P w = .ok true w := by
  unfold isAgg
  rw [Sem.run_bind, run_underlying h w]
  cases d <;> simp_all [TypeDesc.isRow]
theorem run_sizeOf_k {P : Program} {t : TypeId} {n : Nat} (h : (P.info? t).map (·.size) = some n) (w : World) : (sizeOf t).run P w = .ok n w := by
  obtain ⟨i, hi, rfl⟩ := Option.map_eq_some_iff.1 h
  unfold sizeOf
  simp [Sem.run_bind, typeInfo, hi, go_sem]
theorem idx_k0 (a b c d : Value) (w : World) : (Instr.index 133 (.agg #[a, b, c, d]) (.int .u8 0)).run Try.prog w = .ok (.agg #[a, b]) w := by
  simp [Instr.index, run_underlying Try.underlying133, asIntOf, part, run_isAgg_row Try.underlying132 rfl, run_sizeOf_k size_kind, Sem.run_bind, go_sem]
theorem idx_k1 (a b c d : Value) (w : World) : (Instr.index 133 (.agg #[a, b, c, d]) (.int .u8 1)).run Try.prog w = .ok (.agg #[c, d]) w := by
  simp [Instr.index, run_underlying Try.underlying133, asIntOf, part, run_isAgg_row Try.underlying132 rfl, run_sizeOf_k size_kind, Sem.run_bind, go_sem]
set_option maxRecDepth 100000 in
set_option maxHeartbeats 4000000 in
theorem allowed_0false (r : RwM) (xp xw : Int) (w : World) (h0 : 0 ≤ xw) (h1 : xw ≤ 1000) (h2 : 0 ≤ r.sh) (h3 : r.sh ≤ 1000) (_h4 : 0 ≤ r.old) (_h5 : r.old ≤ 1000) :
    Calls Try.prog 94 #[.agg r.cells.toArray, .agg (encN (⟨xp, xw, 0, false⟩ : Nt)).toArray] w fun e w' => e = .returned (.agg (encWin (alwD r.sh r.old ⟨xp, xw, 0, false⟩)).toArray) ∧ Below w.heap.size w w' := by
  have l0 : Lies (((w.alloc (.cells r.cells.toArray 34)).alloc (.cells (encN (⟨xp, xw, 0, false⟩ : Nt)).toArray 61)).alloc (.cells #[.int .i64 0, .int .i64 0] 81)) w.heap.size 34 r.cells.toArray := ((Lies.fresh _ _ _).alloc _).alloc _
  have l1 : Lies (((w.alloc (.cells r.cells.toArray 34)).alloc (.cells (encN (⟨xp, xw, 0, false⟩ : Nt)).toArray 61)).alloc (.cells #[.int .i64 0, .int .i64 0] 81)) (w.heap.size + 1) 61 (encN (⟨xp, xw, 0, false⟩ : Nt)).toArray := (Lies.fresh' (by simp)).alloc _
  have l2 : Lies (((w.alloc (.cells r.cells.toArray 34)).alloc (.cells (encN (⟨xp, xw, 0, false⟩ : Nt)).toArray 61)).alloc (.cells #[.int .i64 0, .int .i64 0] 81)) (w.heap.size + 1 + 1) 81 #[.int .i64 0, .int .i64 0] := Lies.fresh' (by simp)
  have b0 : Below w.heap.size w (((w.alloc (.cells r.cells.toArray 34)).alloc (.cells (encN (⟨xp, xw, 0, false⟩ : Nt)).toArray 61)).alloc (.cells #[.int .i64 0, .int .i64 0] 81)) := (by repeat (first | (with_reducible assumption) | (with_reducible exact Below.refl _ _) | (with_reducible refine Below.drew ?_) | (with_reducible refine below_drewN ?_ _) | ((with_reducible refine Below.setCell ?_ ?_ _); rotate_left; focus (first | (simp; done) | (simp; omega) | omega)) | ((with_reducible refine Below.alloc ?_ ?_ _); rotate_left; focus (first | (simp; done) | (simp; omega) | omega))))
  have hsz1 : (((w.alloc (.cells r.cells.toArray 34)).alloc (.cells (encN (⟨xp, xw, 0, false⟩ : Nt)).toArray 61)).alloc (.cells #[.int .i64 0, .int .i64 0] 81)).heap.size = w.heap.size + 3 := by simp
  have L0 := Lib.hid l0
  have L1 := Lib.hid l1
  have L2 := Lib.hid l2
  have B0 := Lib.hid b0
  clear l0 l1 l2 b0
  have HK := Lib.hid (fun w => kinds_any r w)
  go_enter Try.func94, Try.ntmps94
  go_upto_region 1 with (fail)
  change Code.wp _ _ _ _ (((w.alloc (.cells r.cells.toArray 34)).alloc (.cells (encN (⟨xp, xw, 0, false⟩ : Nt)).toArray 61)).alloc (.cells #[.int .i64 0, .int .i64 0] 81))
  generalize (((w.alloc (.cells r.cells.toArray 34)).alloc (.cells (encN (⟨xp, xw, 0, false⟩ : Nt)).toArray 61)).alloc (.cells #[.int .i64 0, .int .i64 0] 81)) = w1 at *
  haveI hne : Nonempty (Cls (fun W => Below w1.heap.size w1 W)) := ⟨⟨w1, Below.refl _ _⟩⟩
  have c0 : ∀ c : Cls (fun W => Below w1.heap.size w1 W), c.val.cell? ⟨w.heap.size + 1, 2, none⟩ = some (.int .u8 0) := fun c => (L1.out.call c.h).at_ 2
  have hrg : ∀ W, (∃ cc : Cls (fun W => Below w1.heap.size w1 W), W = cc.val) → W.rangeAt w.heap.size 0 r.cells := by
    rintro W ⟨cc, rfl⟩
    exact Lies.range (cs := r.cells) (L0.out.call cc.h) (fun j v hj => by simpa using hj)
  have HRG := Lib.hid hrg
  clear hrg
  refine wp_region_ways3 6 [0, 2, 3] (.way 1 (.take 4 (.way 5 .fin .fin)) (.way 5 (.way 1 (.take 4 .fin) .fin) .fin)) (fun W => ∃ cc : Cls (fun W => Below w1.heap.size w1 W), W = cc.val) (by kernel_rfl) (by kernel_rfl) (Cls.here (Below.refl _ _).drew) ?_
  simp only [List.filterMap_cons, List.filterMap_nil, List.take_succ_cons, List.take_zero, List.getElem?_toArray, List.getElem?_cons_zero, List.getElem?_cons_succ, List.drop_succ_cons, List.drop_zero]
  repeat (first
    | (refine wpQuiet_load_whole (o := ⟨some 6, _, _, _, _, _⟩) ?_ 34 (.tmp 2) ?_ w.heap.size 0 ?_ r.cells _ HRG.out Try.underlying34 rfl size_row ?_; rfl; rfl; rfl; simp only [Act.put, List.setIfInBounds_toArray, List.set_cons_zero, List.set_cons_succ])
    | go_big_quiet_step (rfl) | quiet_step (rfl))
  refine wpQuiet_nil ?_
  clear c0 HRG
  have D0 := Lib.hid (show Below w1.heap.size w1 w1.drew from (Below.refl _ _).drew)
  generalize w1.drew = d0 at *
  rw [wpWy_way]
  refine ⟨?_, ?_⟩
  · simp only [List.getElem?_toArray, List.getElem?_cons_succ, List.getElem?_cons_zero]
    go_wp2_with (go_at_call 92; refine (HK.out _).mono ?_; rintro e d1 ⟨rfl, hl1, hb1⟩)
    have D1 := Lib.hid (D0.out.trans (hb1.mono D0.out.size))
    have EK := Lib.hid hl1
    generalize hgk : d0.heap.size = gk at *
    have EG := Lib.hid hgk
    clear hgk hl1
    clear hb1
    refine Ends.intro ⟨Cls.here D1.out, ?_⟩
    rw [wpWy_take]
    simp only [List.getElem?_toArray, List.getElem?_cons_succ, List.getElem?_cons_zero]
    have hix := idx_k0
    first | go_big_quiet_step (rfl) | quiet_step (rfl)
    clear hix
    refine wpQuiet_nil ?_
    rw [wpWy_way]
    refine ⟨?_, by exact trivial⟩
    simp only [List.getElem?_toArray, List.getElem?_cons_succ, List.getElem?_cons_zero]
    go_wp2_with (fail)
    have E5 := Lib.hid (show Lies (d1.alloc (.cells #[Value.nilFunc, Value.nilFunc] 132)) d1.heap.size 132 #[Value.nilFunc, Value.nilFunc] from Lies.fresh' rfl)
    have EK := Lib.hid (EK.out.alloc (.cells #[Value.nilFunc, Value.nilFunc] 132))
    have D2 := Lib.hid (D1.out.alloc D1.out.size (.cells #[Value.nilFunc, Value.nilFunc] 132))
    generalize d1.alloc (.cells #[Value.nilFunc, Value.nilFunc] 132) = d2 at *
    generalize hgg5 : d1.heap.size = g5 at *
    have G5 := Lib.hid hgg5
    clear hgg5
    have GE5 := Lib.hid (show w1.heap.size ≤ g5 by have := D1.out.size; have := G5.out; omega)
    refine Ends.intro ⟨Cls.here D2.out, ?_⟩
    rw [wpWy_fin]
    have Z := Lib.hid (L2.out.call D2.out)
    have N1 := Lib.hid (L1.out.call D2.out)
    have BB := Lib.hid (B0.out.trans (D2.out.mono B0.out.size))
    refine wpList_store_cells (o := ⟨none, .store 132 (.tmp 5) _, _, _, _, _⟩) ?_ 132 (.tmp 5) (.tmp 10) ?_ g5 0 ?_ 132 [Value.nilFunc, Value.nilFunc] [.func (.func 100) #[] #[.pointer (some ⟨gk, 0, none⟩)], .func (.func 100) #[] #[.pointer (some ⟨gk, 0, none⟩)]] ?_ E5.out (by simp) size_kind (by simp [Value.oneCell']) ?_
    rfl; rfl; rfl; rfl
    intro w9 HS9 HO9
    refine wpList_nil ?_
    have hs9 := HS9.out
    rw [splice_whole (by simp)] at hs9
    skip
    have EK9 := Lib.hid (HO9.out.lies EK.out (lies_ne EK.out E5.out (by decide)))
    have N9 := Lib.hid (HO9.out.lies N1.out (lies_ne N1.out E5.out (by decide)))
    have Z9 := Lib.hid (HO9.out.lies Z.out (lies_ne Z.out E5.out (by decide)))
    have hx3 : w9.cell? ⟨w.heap.size + 1, 3, none⟩ = some (.bool false) := N9.out.at_ 3
    have hx1 : w9.cell? ⟨w.heap.size + 1, 1, none⟩ = some (.int .i64 xw) := N9.out.at_ 1
    have hk0 : w9.cell? ⟨g5, 0, none⟩ = some (.func (.func 100) #[] #[.pointer (some ⟨gk, 0, none⟩)]) := hs9.at_ 0
    have hk1 : w9.cell? ⟨g5, 1, none⟩ = some (.func (.func 100) #[] #[.pointer (some ⟨gk, 0, none⟩)]) := hs9.at_ 1
    have HS := Lib.hid hs9
    clear hs9
    go_wp2_with (first
      | (go_at_call 100; refine (k1_any r gk xw _ EK9.out h0 h1 h2 h3).mono ?_; rintro e w' ⟨rfl, rfl⟩)
      | (refine wpList_store_cells (o := ⟨none, .store 81 (.tmp 4) _, _, _, _, _⟩) ?_ 81 (.tmp 4) (.tmp 25) ?_ (w.heap.size + 1 + 1) 0 ?_ 81 [.int .i64 0, .int .i64 0] (encWin (alwD r.sh r.old (⟨xp, xw, 0, false⟩ : Nt))) ?_ Z9.out (by simp) size_win (by simp [Value.oneCell']) ?_; rfl; rfl; rfl; rfl; intro w8 HS8 HO8))
    have hs8 := HS8.out
    rw [splice_whole (by simp)] at hs8
    exact bodyPost_ret (results_cell_row rfl _ _ (w.heap.size + 1 + 1) 81 (encWin (alwD r.sh r.old (⟨xp, xw, 0, false⟩ : Nt))).toArray (0, 0) _ rfl hs8 Try.underlying81 rfl size_win) rfl ⟨rfl, HO8.out.below (HO9.out.below BB.out (by have := GE5.out; omega)) (by omega)⟩
  · rw [wpWy_way]
    refine ⟨?_, by exact trivial⟩
    simp only [List.getElem?_toArray, List.getElem?_cons_succ, List.getElem?_cons_zero]
    go_wp2_with (fail)
    have E5 := Lib.hid (show Lies (d0.alloc (.cells #[Value.nilFunc, Value.nilFunc] 132)) d0.heap.size 132 #[Value.nilFunc, Value.nilFunc] from Lies.fresh' rfl)
    have D1 := Lib.hid (D0.out.alloc D0.out.size (.cells #[Value.nilFunc, Value.nilFunc] 132))
    generalize d0.alloc (.cells #[Value.nilFunc, Value.nilFunc] 132) = d1 at *
    generalize hgg5 : d0.heap.size = g5 at *
    have G5 := Lib.hid hgg5
    clear hgg5
    have GE5 := Lib.hid (show w1.heap.size ≤ g5 by have := D0.out.size; have := G5.out; omega)
    refine Ends.intro ⟨Cls.here D1.out, ?_⟩
    rw [wpWy_way]
    refine ⟨?_, by exact trivial⟩
    simp only [List.getElem?_toArray, List.getElem?_cons_succ, List.getElem?_cons_zero]
    go_wp2_with (go_at_call 92; refine (HK.out _).mono ?_; rintro e d2 ⟨rfl, hl2, hb2⟩)
    have E5 := Lib.hid (E5.out.call hb2)
    have D2 := Lib.hid (D1.out.trans (hb2.mono D1.out.size))
    have EK := Lib.hid hl2
    generalize hgk : d1.heap.size = gk at *
    have EG := Lib.hid hgk
    clear hgk hl2
    clear hb2
    refine Ends.intro ⟨Cls.here D2.out, ?_⟩
    rw [wpWy_take]
    simp only [List.getElem?_toArray, List.getElem?_cons_succ, List.getElem?_cons_zero]
    have hix := idx_k0
    first | go_big_quiet_step (rfl) | quiet_step (rfl)
    clear hix
    refine wpQuiet_nil ?_
    rw [wpWy_fin]
    have Z := Lib.hid (L2.out.call D2.out)
    have N1 := Lib.hid (L1.out.call D2.out)
    have BB := Lib.hid (B0.out.trans (D2.out.mono B0.out.size))
    refine wpList_store_cells (o := ⟨none, .store 132 (.tmp 5) _, _, _, _, _⟩) ?_ 132 (.tmp 5) (.tmp 10) ?_ g5 0 ?_ 132 [Value.nilFunc, Value.nilFunc] [.func (.func 100) #[] #[.pointer (some ⟨gk, 0, none⟩)], .func (.func 100) #[] #[.pointer (some ⟨gk, 0, none⟩)]] ?_ E5.out (by simp) size_kind (by simp [Value.oneCell']) ?_
    rfl; rfl; rfl; rfl
    intro w9 HS9 HO9
    refine wpList_nil ?_
    have hs9 := HS9.out
    rw [splice_whole (by simp)] at hs9
    skip
    have EK9 := Lib.hid (HO9.out.lies EK.out (lies_ne EK.out E5.out (by decide)))
    have N9 := Lib.hid (HO9.out.lies N1.out (lies_ne N1.out E5.out (by decide)))
    have Z9 := Lib.hid (HO9.out.lies Z.out (lies_ne Z.out E5.out (by decide)))
    have hx3 : w9.cell? ⟨w.heap.size + 1, 3, none⟩ = some (.bool false) := N9.out.at_ 3
    have hx1 : w9.cell? ⟨w.heap.size + 1, 1, none⟩ = some (.int .i64 xw) := N9.out.at_ 1
    have hk0 : w9.cell? ⟨g5, 0, none⟩ = some (.func (.func 100) #[] #[.pointer (some ⟨gk, 0, none⟩)]) := hs9.at_ 0
    have hk1 : w9.cell? ⟨g5, 1, none⟩ = some (.func (.func 100) #[] #[.pointer (some ⟨gk, 0, none⟩)]) := hs9.at_ 1
    have HS := Lib.hid hs9
    clear hs9
    go_wp2_with (first
      | (go_at_call 100; refine (k1_any r gk xw _ EK9.out h0 h1 h2 h3).mono ?_; rintro e w' ⟨rfl, rfl⟩)
      | (refine wpList_store_cells (o := ⟨none, .store 81 (.tmp 4) _, _, _, _, _⟩) ?_ 81 (.tmp 4) (.tmp 25) ?_ (w.heap.size + 1 + 1) 0 ?_ 81 [.int .i64 0, .int .i64 0] (encWin (alwD r.sh r.old (⟨xp, xw, 0, false⟩ : Nt))) ?_ Z9.out (by simp) size_win (by simp [Value.oneCell']) ?_; rfl; rfl; rfl; rfl; intro w8 HS8 HO8))
    have hs8 := HS8.out
    rw [splice_whole (by simp)] at hs8
    exact bodyPost_ret (results_cell_row rfl _ _ (w.heap.size + 1 + 1) 81 (encWin (alwD r.sh r.old (⟨xp, xw, 0, false⟩ : Nt))).toArray (0, 0) _ rfl hs8 Try.underlying81 rfl size_win) rfl ⟨rfl, HO8.out.below (HO9.out.below BB.out (by have := GE5.out; omega)) (by omega)⟩

set_option maxRecDepth 100000 in
set_option maxHeartbeats 4000000 in
theorem allowed_0true (r : RwM) (xp xw : Int) (w : World) (h0 : 0 ≤ xw) (h1 : xw ≤ 1000) (h2 : 0 ≤ r.sh) (h3 : r.sh ≤ 1000) (_h4 : 0 ≤ r.old) (_h5 : r.old ≤ 1000) :
    Calls Try.prog 94 #[.agg r.cells.toArray, .agg (encN (⟨xp, xw, 0, true⟩ : Nt)).toArray] w fun e w' => e = .returned (.agg (encWin (alwD r.sh r.old ⟨xp, xw, 0, true⟩)).toArray) ∧ Below w.heap.size w w' := by
  have l0 : Lies (((w.alloc (.cells r.cells.toArray 34)).alloc (.cells (encN (⟨xp, xw, 0, true⟩ : Nt)).toArray 61)).alloc (.cells #[.int .i64 0, .int .i64 0] 81)) w.heap.size 34 r.cells.toArray := ((Lies.fresh _ _ _).alloc _).alloc _
  have l1 : Lies (((w.alloc (.cells r.cells.toArray 34)).alloc (.cells (encN (⟨xp, xw, 0, true⟩ : Nt)).toArray 61)).alloc (.cells #[.int .i64 0, .int .i64 0] 81)) (w.heap.size + 1) 61 (encN (⟨xp, xw, 0, true⟩ : Nt)).toArray := (Lies.fresh' (by simp)).alloc _
  have l2 : Lies (((w.alloc (.cells r.cells.toArray 34)).alloc (.cells (encN (⟨xp, xw, 0, true⟩ : Nt)).toArray 61)).alloc (.cells #[.int .i64 0, .int .i64 0] 81)) (w.heap.size + 1 + 1) 81 #[.int .i64 0, .int .i64 0] := Lies.fresh' (by simp)
  have b0 : Below w.heap.size w (((w.alloc (.cells r.cells.toArray 34)).alloc (.cells (encN (⟨xp, xw, 0, true⟩ : Nt)).toArray 61)).alloc (.cells #[.int .i64 0, .int .i64 0] 81)) := (by repeat (first | (with_reducible assumption) | (with_reducible exact Below.refl _ _) | (with_reducible refine Below.drew ?_) | (with_reducible refine below_drewN ?_ _) | ((with_reducible refine Below.setCell ?_ ?_ _); rotate_left; focus (first | (simp; done) | (simp; omega) | omega)) | ((with_reducible refine Below.alloc ?_ ?_ _); rotate_left; focus (first | (simp; done) | (simp; omega) | omega))))
  have hsz1 : (((w.alloc (.cells r.cells.toArray 34)).alloc (.cells (encN (⟨xp, xw, 0, true⟩ : Nt)).toArray 61)).alloc (.cells #[.int .i64 0, .int .i64 0] 81)).heap.size = w.heap.size + 3 := by simp
  have L0 := Lib.hid l0
  have L1 := Lib.hid l1
  have L2 := Lib.hid l2
  have B0 := Lib.hid b0
  clear l0 l1 l2 b0
  have HK := Lib.hid (fun w => kinds_any r w)
  go_enter Try.func94, Try.ntmps94
  go_upto_region 1 with (fail)
  change Code.wp _ _ _ _ (((w.alloc (.cells r.cells.toArray 34)).alloc (.cells (encN (⟨xp, xw, 0, true⟩ : Nt)).toArray 61)).alloc (.cells #[.int .i64 0, .int .i64 0] 81))
  generalize (((w.alloc (.cells r.cells.toArray 34)).alloc (.cells (encN (⟨xp, xw, 0, true⟩ : Nt)).toArray 61)).alloc (.cells #[.int .i64 0, .int .i64 0] 81)) = w1 at *
  haveI hne : Nonempty (Cls (fun W => Below w1.heap.size w1 W)) := ⟨⟨w1, Below.refl _ _⟩⟩
  have c0 : ∀ c : Cls (fun W => Below w1.heap.size w1 W), c.val.cell? ⟨w.heap.size + 1, 2, none⟩ = some (.int .u8 0) := fun c => (L1.out.call c.h).at_ 2
  have hrg : ∀ W, (∃ cc : Cls (fun W => Below w1.heap.size w1 W), W = cc.val) → W.rangeAt w.heap.size 0 r.cells := by
    rintro W ⟨cc, rfl⟩
    exact Lies.range (cs := r.cells) (L0.out.call cc.h) (fun j v hj => by simpa using hj)
  have HRG := Lib.hid hrg
  clear hrg
  refine wp_region_ways3 6 [0, 2, 3] (.way 1 (.take 4 (.way 5 .fin .fin)) (.way 5 (.way 1 (.take 4 .fin) .fin) .fin)) (fun W => ∃ cc : Cls (fun W => Below w1.heap.size w1 W), W = cc.val) (by kernel_rfl) (by kernel_rfl) (Cls.here (Below.refl _ _).drew) ?_
  simp only [List.filterMap_cons, List.filterMap_nil, List.take_succ_cons, List.take_zero, List.getElem?_toArray, List.getElem?_cons_zero, List.getElem?_cons_succ, List.drop_succ_cons, List.drop_zero]
  repeat (first
    | (refine wpQuiet_load_whole (o := ⟨some 6, _, _, _, _, _⟩) ?_ 34 (.tmp 2) ?_ w.heap.size 0 ?_ r.cells _ HRG.out Try.underlying34 rfl size_row ?_; rfl; rfl; rfl; simp only [Act.put, List.setIfInBounds_toArray, List.set_cons_zero, List.set_cons_succ])
    | go_big_quiet_step (rfl) | quiet_step (rfl))
  refine wpQuiet_nil ?_
  clear c0 HRG
  have D0 := Lib.hid (show Below w1.heap.size w1 w1.drew from (Below.refl _ _).drew)
  generalize w1.drew = d0 at *
  rw [wpWy_way]
  refine ⟨?_, ?_⟩
  · simp only [List.getElem?_toArray, List.getElem?_cons_succ, List.getElem?_cons_zero]
    go_wp2_with (go_at_call 92; refine (HK.out _).mono ?_; rintro e d1 ⟨rfl, hl1, hb1⟩)
    have D1 := Lib.hid (D0.out.trans (hb1.mono D0.out.size))
    have EK := Lib.hid hl1
    generalize hgk : d0.heap.size = gk at *
    have EG := Lib.hid hgk
    clear hgk hl1
    clear hb1
    refine Ends.intro ⟨Cls.here D1.out, ?_⟩
    rw [wpWy_take]
    simp only [List.getElem?_toArray, List.getElem?_cons_succ, List.getElem?_cons_zero]
    have hix := idx_k0
    first | go_big_quiet_step (rfl) | quiet_step (rfl)
    clear hix
    refine wpQuiet_nil ?_
    rw [wpWy_way]
    refine ⟨?_, by exact trivial⟩
    simp only [List.getElem?_toArray, List.getElem?_cons_succ, List.getElem?_cons_zero]
    go_wp2_with (fail)
    have E5 := Lib.hid (show Lies (d1.alloc (.cells #[Value.nilFunc, Value.nilFunc] 132)) d1.heap.size 132 #[Value.nilFunc, Value.nilFunc] from Lies.fresh' rfl)
    have EK := Lib.hid (EK.out.alloc (.cells #[Value.nilFunc, Value.nilFunc] 132))
    have D2 := Lib.hid (D1.out.alloc D1.out.size (.cells #[Value.nilFunc, Value.nilFunc] 132))
    generalize d1.alloc (.cells #[Value.nilFunc, Value.nilFunc] 132) = d2 at *
    generalize hgg5 : d1.heap.size = g5 at *
    have G5 := Lib.hid hgg5
    clear hgg5
    have GE5 := Lib.hid (show w1.heap.size ≤ g5 by have := D1.out.size; have := G5.out; omega)
    refine Ends.intro ⟨Cls.here D2.out, ?_⟩
    rw [wpWy_fin]
    have Z := Lib.hid (L2.out.call D2.out)
    have N1 := Lib.hid (L1.out.call D2.out)
    have BB := Lib.hid (B0.out.trans (D2.out.mono B0.out.size))
    refine wpList_store_cells (o := ⟨none, .store 132 (.tmp 5) _, _, _, _, _⟩) ?_ 132 (.tmp 5) (.tmp 10) ?_ g5 0 ?_ 132 [Value.nilFunc, Value.nilFunc] [.func (.func 100) #[] #[.pointer (some ⟨gk, 0, none⟩)], .func (.func 100) #[] #[.pointer (some ⟨gk, 0, none⟩)]] ?_ E5.out (by simp) size_kind (by simp [Value.oneCell']) ?_
    rfl; rfl; rfl; rfl
    intro w9 HS9 HO9
    refine wpList_nil ?_
    have hs9 := HS9.out
    rw [splice_whole (by simp)] at hs9
    skip
    have EK9 := Lib.hid (HO9.out.lies EK.out (lies_ne EK.out E5.out (by decide)))
    have N9 := Lib.hid (HO9.out.lies N1.out (lies_ne N1.out E5.out (by decide)))
    have Z9 := Lib.hid (HO9.out.lies Z.out (lies_ne Z.out E5.out (by decide)))
    have hx3 : w9.cell? ⟨w.heap.size + 1, 3, none⟩ = some (.bool true) := N9.out.at_ 3
    have hx1 : w9.cell? ⟨w.heap.size + 1, 1, none⟩ = some (.int .i64 xw) := N9.out.at_ 1
    have hk0 : w9.cell? ⟨g5, 0, none⟩ = some (.func (.func 100) #[] #[.pointer (some ⟨gk, 0, none⟩)]) := hs9.at_ 0
    have hk1 : w9.cell? ⟨g5, 1, none⟩ = some (.func (.func 100) #[] #[.pointer (some ⟨gk, 0, none⟩)]) := hs9.at_ 1
    have HS := Lib.hid hs9
    clear hs9
    go_wp2_with (first
      | (go_at_call 100; refine (k1_any r gk xw _ EK9.out h0 h1 h2 h3).mono ?_; rintro e w' ⟨rfl, rfl⟩)
      | (refine wpList_store_cells (o := ⟨none, .store 81 (.tmp 4) _, _, _, _, _⟩) ?_ 81 (.tmp 4) (.tmp 18) ?_ (w.heap.size + 1 + 1) 0 ?_ 81 [.int .i64 0, .int .i64 0] (encWin (alwD r.sh r.old (⟨xp, xw, 0, true⟩ : Nt))) ?_ Z9.out (by simp) size_win (by simp [Value.oneCell']) ?_; rfl; rfl; rfl; rfl; intro w8 HS8 HO8))
    have hs8 := HS8.out
    rw [splice_whole (by simp)] at hs8
    exact bodyPost_ret (results_cell_row rfl _ _ (w.heap.size + 1 + 1) 81 (encWin (alwD r.sh r.old (⟨xp, xw, 0, true⟩ : Nt))).toArray (0, 0) _ rfl hs8 Try.underlying81 rfl size_win) rfl ⟨rfl, HO8.out.below (HO9.out.below BB.out (by have := GE5.out; omega)) (by omega)⟩
  · rw [wpWy_way]
    refine ⟨?_, by exact trivial⟩
    simp only [List.getElem?_toArray, List.getElem?_cons_succ, List.getElem?_cons_zero]
    go_wp2_with (fail)
    have E5 := Lib.hid (show Lies (d0.alloc (.cells #[Value.nilFunc, Value.nilFunc] 132)) d0.heap.size 132 #[Value.nilFunc, Value.nilFunc] from Lies.fresh' rfl)
    have D1 := Lib.hid (D0.out.alloc D0.out.size (.cells #[Value.nilFunc, Value.nilFunc] 132))
    generalize d0.alloc (.cells #[Value.nilFunc, Value.nilFunc] 132) = d1 at *
    generalize hgg5 : d0.heap.size = g5 at *
    have G5 := Lib.hid hgg5
    clear hgg5
    have GE5 := Lib.hid (show w1.heap.size ≤ g5 by have := D0.out.size; have := G5.out; omega)
    refine Ends.intro ⟨Cls.here D1.out, ?_⟩
    rw [wpWy_way]
    refine ⟨?_, by exact trivial⟩
    simp only [List.getElem?_toArray, List.getElem?_cons_succ, List.getElem?_cons_zero]
    go_wp2_with (go_at_call 92; refine (HK.out _).mono ?_; rintro e d2 ⟨rfl, hl2, hb2⟩)
    have E5 := Lib.hid (E5.out.call hb2)
    have D2 := Lib.hid (D1.out.trans (hb2.mono D1.out.size))
    have EK := Lib.hid hl2
    generalize hgk : d1.heap.size = gk at *
    have EG := Lib.hid hgk
    clear hgk hl2
    clear hb2
    refine Ends.intro ⟨Cls.here D2.out, ?_⟩
    rw [wpWy_take]
    simp only [List.getElem?_toArray, List.getElem?_cons_succ, List.getElem?_cons_zero]
    have hix := idx_k0
    first | go_big_quiet_step (rfl) | quiet_step (rfl)
    clear hix
    refine wpQuiet_nil ?_
    rw [wpWy_fin]
    have Z := Lib.hid (L2.out.call D2.out)
    have N1 := Lib.hid (L1.out.call D2.out)
    have BB := Lib.hid (B0.out.trans (D2.out.mono B0.out.size))
    refine wpList_store_cells (o := ⟨none, .store 132 (.tmp 5) _, _, _, _, _⟩) ?_ 132 (.tmp 5) (.tmp 10) ?_ g5 0 ?_ 132 [Value.nilFunc, Value.nilFunc] [.func (.func 100) #[] #[.pointer (some ⟨gk, 0, none⟩)], .func (.func 100) #[] #[.pointer (some ⟨gk, 0, none⟩)]] ?_ E5.out (by simp) size_kind (by simp [Value.oneCell']) ?_
    rfl; rfl; rfl; rfl
    intro w9 HS9 HO9
    refine wpList_nil ?_
    have hs9 := HS9.out
    rw [splice_whole (by simp)] at hs9
    skip
    have EK9 := Lib.hid (HO9.out.lies EK.out (lies_ne EK.out E5.out (by decide)))
    have N9 := Lib.hid (HO9.out.lies N1.out (lies_ne N1.out E5.out (by decide)))
    have Z9 := Lib.hid (HO9.out.lies Z.out (lies_ne Z.out E5.out (by decide)))
    have hx3 : w9.cell? ⟨w.heap.size + 1, 3, none⟩ = some (.bool true) := N9.out.at_ 3
    have hx1 : w9.cell? ⟨w.heap.size + 1, 1, none⟩ = some (.int .i64 xw) := N9.out.at_ 1
    have hk0 : w9.cell? ⟨g5, 0, none⟩ = some (.func (.func 100) #[] #[.pointer (some ⟨gk, 0, none⟩)]) := hs9.at_ 0
    have hk1 : w9.cell? ⟨g5, 1, none⟩ = some (.func (.func 100) #[] #[.pointer (some ⟨gk, 0, none⟩)]) := hs9.at_ 1
    have HS := Lib.hid hs9
    clear hs9
    go_wp2_with (first
      | (go_at_call 100; refine (k1_any r gk xw _ EK9.out h0 h1 h2 h3).mono ?_; rintro e w' ⟨rfl, rfl⟩)
      | (refine wpList_store_cells (o := ⟨none, .store 81 (.tmp 4) _, _, _, _, _⟩) ?_ 81 (.tmp 4) (.tmp 18) ?_ (w.heap.size + 1 + 1) 0 ?_ 81 [.int .i64 0, .int .i64 0] (encWin (alwD r.sh r.old (⟨xp, xw, 0, true⟩ : Nt))) ?_ Z9.out (by simp) size_win (by simp [Value.oneCell']) ?_; rfl; rfl; rfl; rfl; intro w8 HS8 HO8))
    have hs8 := HS8.out
    rw [splice_whole (by simp)] at hs8
    exact bodyPost_ret (results_cell_row rfl _ _ (w.heap.size + 1 + 1) 81 (encWin (alwD r.sh r.old (⟨xp, xw, 0, true⟩ : Nt))).toArray (0, 0) _ rfl hs8 Try.underlying81 rfl size_win) rfl ⟨rfl, HO8.out.below (HO9.out.below BB.out (by have := GE5.out; omega)) (by omega)⟩

set_option maxRecDepth 100000 in
set_option maxHeartbeats 4000000 in
theorem allowed_1false (r : RwM) (xp xw : Int) (w : World) (h0 : 0 ≤ xw) (h1 : xw ≤ 1000) (_h2 : 0 ≤ r.sh) (_h3 : r.sh ≤ 1000) (h4 : 0 ≤ r.old) (h5 : r.old ≤ 1000) :
    Calls Try.prog 94 #[.agg r.cells.toArray, .agg (encN (⟨xp, xw, 1, false⟩ : Nt)).toArray] w fun e w' => e = .returned (.agg (encWin (alwD r.sh r.old ⟨xp, xw, 1, false⟩)).toArray) ∧ Below w.heap.size w w' := by
  have l0 : Lies (((w.alloc (.cells r.cells.toArray 34)).alloc (.cells (encN (⟨xp, xw, 1, false⟩ : Nt)).toArray 61)).alloc (.cells #[.int .i64 0, .int .i64 0] 81)) w.heap.size 34 r.cells.toArray := ((Lies.fresh _ _ _).alloc _).alloc _
  have l1 : Lies (((w.alloc (.cells r.cells.toArray 34)).alloc (.cells (encN (⟨xp, xw, 1, false⟩ : Nt)).toArray 61)).alloc (.cells #[.int .i64 0, .int .i64 0] 81)) (w.heap.size + 1) 61 (encN (⟨xp, xw, 1, false⟩ : Nt)).toArray := (Lies.fresh' (by simp)).alloc _
  have l2 : Lies (((w.alloc (.cells r.cells.toArray 34)).alloc (.cells (encN (⟨xp, xw, 1, false⟩ : Nt)).toArray 61)).alloc (.cells #[.int .i64 0, .int .i64 0] 81)) (w.heap.size + 1 + 1) 81 #[.int .i64 0, .int .i64 0] := Lies.fresh' (by simp)
  have b0 : Below w.heap.size w (((w.alloc (.cells r.cells.toArray 34)).alloc (.cells (encN (⟨xp, xw, 1, false⟩ : Nt)).toArray 61)).alloc (.cells #[.int .i64 0, .int .i64 0] 81)) := (by repeat (first | (with_reducible assumption) | (with_reducible exact Below.refl _ _) | (with_reducible refine Below.drew ?_) | (with_reducible refine below_drewN ?_ _) | ((with_reducible refine Below.setCell ?_ ?_ _); rotate_left; focus (first | (simp; done) | (simp; omega) | omega)) | ((with_reducible refine Below.alloc ?_ ?_ _); rotate_left; focus (first | (simp; done) | (simp; omega) | omega))))
  have hsz1 : (((w.alloc (.cells r.cells.toArray 34)).alloc (.cells (encN (⟨xp, xw, 1, false⟩ : Nt)).toArray 61)).alloc (.cells #[.int .i64 0, .int .i64 0] 81)).heap.size = w.heap.size + 3 := by simp
  have L0 := Lib.hid l0
  have L1 := Lib.hid l1
  have L2 := Lib.hid l2
  have B0 := Lib.hid b0
  clear l0 l1 l2 b0
  have HK := Lib.hid (fun w => kinds_any r w)
  go_enter Try.func94, Try.ntmps94
  go_upto_region 1 with (fail)
  change Code.wp _ _ _ _ (((w.alloc (.cells r.cells.toArray 34)).alloc (.cells (encN (⟨xp, xw, 1, false⟩ : Nt)).toArray 61)).alloc (.cells #[.int .i64 0, .int .i64 0] 81))
  generalize (((w.alloc (.cells r.cells.toArray 34)).alloc (.cells (encN (⟨xp, xw, 1, false⟩ : Nt)).toArray 61)).alloc (.cells #[.int .i64 0, .int .i64 0] 81)) = w1 at *
  haveI hne : Nonempty (Cls (fun W => Below w1.heap.size w1 W)) := ⟨⟨w1, Below.refl _ _⟩⟩
  have c0 : ∀ c : Cls (fun W => Below w1.heap.size w1 W), c.val.cell? ⟨w.heap.size + 1, 2, none⟩ = some (.int .u8 1) := fun c => (L1.out.call c.h).at_ 2
  have hrg : ∀ W, (∃ cc : Cls (fun W => Below w1.heap.size w1 W), W = cc.val) → W.rangeAt w.heap.size 0 r.cells := by
    rintro W ⟨cc, rfl⟩
    exact Lies.range (cs := r.cells) (L0.out.call cc.h) (fun j v hj => by simpa using hj)
  have HRG := Lib.hid hrg
  clear hrg
  refine wp_region_ways3 6 [0, 2, 3] (.way 1 (.take 4 (.way 5 .fin .fin)) (.way 5 (.way 1 (.take 4 .fin) .fin) .fin)) (fun W => ∃ cc : Cls (fun W => Below w1.heap.size w1 W), W = cc.val) (by kernel_rfl) (by kernel_rfl) (Cls.here (Below.refl _ _).drew) ?_
  simp only [List.filterMap_cons, List.filterMap_nil, List.take_succ_cons, List.take_zero, List.getElem?_toArray, List.getElem?_cons_zero, List.getElem?_cons_succ, List.drop_succ_cons, List.drop_zero]
  repeat (first
    | (refine wpQuiet_load_whole (o := ⟨some 6, _, _, _, _, _⟩) ?_ 34 (.tmp 2) ?_ w.heap.size 0 ?_ r.cells _ HRG.out Try.underlying34 rfl size_row ?_; rfl; rfl; rfl; simp only [Act.put, List.setIfInBounds_toArray, List.set_cons_zero, List.set_cons_succ])
    | go_big_quiet_step (rfl) | quiet_step (rfl))
  refine wpQuiet_nil ?_
  clear c0 HRG
  have D0 := Lib.hid (show Below w1.heap.size w1 w1.drew from (Below.refl _ _).drew)
  generalize w1.drew = d0 at *
  rw [wpWy_way]
  refine ⟨?_, ?_⟩
  · simp only [List.getElem?_toArray, List.getElem?_cons_succ, List.getElem?_cons_zero]
    go_wp2_with (go_at_call 92; refine (HK.out _).mono ?_; rintro e d1 ⟨rfl, hl1, hb1⟩)
    have D1 := Lib.hid (D0.out.trans (hb1.mono D0.out.size))
    have EK := Lib.hid hl1
    generalize hgk : d0.heap.size = gk at *
    have EG := Lib.hid hgk
    clear hgk hl1
    clear hb1
    refine Ends.intro ⟨Cls.here D1.out, ?_⟩
    rw [wpWy_take]
    simp only [List.getElem?_toArray, List.getElem?_cons_succ, List.getElem?_cons_zero]
    have hix := idx_k1
    first | go_big_quiet_step (rfl) | quiet_step (rfl)
    clear hix
    refine wpQuiet_nil ?_
    rw [wpWy_way]
    refine ⟨?_, by exact trivial⟩
    simp only [List.getElem?_toArray, List.getElem?_cons_succ, List.getElem?_cons_zero]
    go_wp2_with (fail)
    have E5 := Lib.hid (show Lies (d1.alloc (.cells #[Value.nilFunc, Value.nilFunc] 132)) d1.heap.size 132 #[Value.nilFunc, Value.nilFunc] from Lies.fresh' rfl)
    have EK := Lib.hid (EK.out.alloc (.cells #[Value.nilFunc, Value.nilFunc] 132))
    have D2 := Lib.hid (D1.out.alloc D1.out.size (.cells #[Value.nilFunc, Value.nilFunc] 132))
    generalize d1.alloc (.cells #[Value.nilFunc, Value.nilFunc] 132) = d2 at *
    generalize hgg5 : d1.heap.size = g5 at *
    have G5 := Lib.hid hgg5
    clear hgg5
    have GE5 := Lib.hid (show w1.heap.size ≤ g5 by have := D1.out.size; have := G5.out; omega)
    refine Ends.intro ⟨Cls.here D2.out, ?_⟩
    rw [wpWy_fin]
    have Z := Lib.hid (L2.out.call D2.out)
    have N1 := Lib.hid (L1.out.call D2.out)
    have BB := Lib.hid (B0.out.trans (D2.out.mono B0.out.size))
    refine wpList_store_cells (o := ⟨none, .store 132 (.tmp 5) _, _, _, _, _⟩) ?_ 132 (.tmp 5) (.tmp 10) ?_ g5 0 ?_ 132 [Value.nilFunc, Value.nilFunc] [.func (.func 101) #[] #[], .func (.func 102) #[] #[.pointer (some ⟨gk, 0, none⟩)]] ?_ E5.out (by simp) size_kind (by simp [Value.oneCell']) ?_
    rfl; rfl; rfl; rfl
    intro w9 HS9 HO9
    refine wpList_nil ?_
    have hs9 := HS9.out
    rw [splice_whole (by simp)] at hs9
    skip
    have EK9 := Lib.hid (HO9.out.lies EK.out (lies_ne EK.out E5.out (by decide)))
    have N9 := Lib.hid (HO9.out.lies N1.out (lies_ne N1.out E5.out (by decide)))
    have Z9 := Lib.hid (HO9.out.lies Z.out (lies_ne Z.out E5.out (by decide)))
    have hx3 : w9.cell? ⟨w.heap.size + 1, 3, none⟩ = some (.bool false) := N9.out.at_ 3
    have hx1 : w9.cell? ⟨w.heap.size + 1, 1, none⟩ = some (.int .i64 xw) := N9.out.at_ 1
    have hk0 : w9.cell? ⟨g5, 0, none⟩ = some (.func (.func 101) #[] #[]) := hs9.at_ 0
    have hk1 : w9.cell? ⟨g5, 1, none⟩ = some (.func (.func 102) #[] #[.pointer (some ⟨gk, 0, none⟩)]) := hs9.at_ 1
    have HS := Lib.hid hs9
    clear hs9
    go_wp2_with (first
      | (go_at_call 102; refine (k3_any r gk xw _ EK9.out h0 h1 h4 h5).mono ?_; rintro e w' ⟨rfl, rfl⟩)
      | (refine wpList_store_cells (o := ⟨none, .store 81 (.tmp 4) _, _, _, _, _⟩) ?_ 81 (.tmp 4) (.tmp 25) ?_ (w.heap.size + 1 + 1) 0 ?_ 81 [.int .i64 0, .int .i64 0] (encWin (alwD r.sh r.old (⟨xp, xw, 1, false⟩ : Nt))) ?_ Z9.out (by simp) size_win (by simp [Value.oneCell']) ?_; rfl; rfl; rfl; rfl; intro w8 HS8 HO8))
    have hs8 := HS8.out
    rw [splice_whole (by simp)] at hs8
    exact bodyPost_ret (results_cell_row rfl _ _ (w.heap.size + 1 + 1) 81 (encWin (alwD r.sh r.old (⟨xp, xw, 1, false⟩ : Nt))).toArray (0, 0) _ rfl hs8 Try.underlying81 rfl size_win) rfl ⟨rfl, HO8.out.below (HO9.out.below BB.out (by have := GE5.out; omega)) (by omega)⟩
  · rw [wpWy_way]
    refine ⟨?_, by exact trivial⟩
    simp only [List.getElem?_toArray, List.getElem?_cons_succ, List.getElem?_cons_zero]
    go_wp2_with (fail)
    have E5 := Lib.hid (show Lies (d0.alloc (.cells #[Value.nilFunc, Value.nilFunc] 132)) d0.heap.size 132 #[Value.nilFunc, Value.nilFunc] from Lies.fresh' rfl)
    have D1 := Lib.hid (D0.out.alloc D0.out.size (.cells #[Value.nilFunc, Value.nilFunc] 132))
    generalize d0.alloc (.cells #[Value.nilFunc, Value.nilFunc] 132) = d1 at *
    generalize hgg5 : d0.heap.size = g5 at *
    have G5 := Lib.hid hgg5
    clear hgg5
    have GE5 := Lib.hid (show w1.heap.size ≤ g5 by have := D0.out.size; have := G5.out; omega)
    refine Ends.intro ⟨Cls.here D1.out, ?_⟩
    rw [wpWy_way]
    refine ⟨?_, by exact trivial⟩
    simp only [List.getElem?_toArray, List.getElem?_cons_succ, List.getElem?_cons_zero]
    go_wp2_with (go_at_call 92; refine (HK.out _).mono ?_; rintro e d2 ⟨rfl, hl2, hb2⟩)
    have E5 := Lib.hid (E5.out.call hb2)
    have D2 := Lib.hid (D1.out.trans (hb2.mono D1.out.size))
    have EK := Lib.hid hl2
    generalize hgk : d1.heap.size = gk at *
    have EG := Lib.hid hgk
    clear hgk hl2
    clear hb2
    refine Ends.intro ⟨Cls.here D2.out, ?_⟩
    rw [wpWy_take]
    simp only [List.getElem?_toArray, List.getElem?_cons_succ, List.getElem?_cons_zero]
    have hix := idx_k1
    first | go_big_quiet_step (rfl) | quiet_step (rfl)
    clear hix
    refine wpQuiet_nil ?_
    rw [wpWy_fin]
    have Z := Lib.hid (L2.out.call D2.out)
    have N1 := Lib.hid (L1.out.call D2.out)
    have BB := Lib.hid (B0.out.trans (D2.out.mono B0.out.size))
    refine wpList_store_cells (o := ⟨none, .store 132 (.tmp 5) _, _, _, _, _⟩) ?_ 132 (.tmp 5) (.tmp 10) ?_ g5 0 ?_ 132 [Value.nilFunc, Value.nilFunc] [.func (.func 101) #[] #[], .func (.func 102) #[] #[.pointer (some ⟨gk, 0, none⟩)]] ?_ E5.out (by simp) size_kind (by simp [Value.oneCell']) ?_
    rfl; rfl; rfl; rfl
    intro w9 HS9 HO9
    refine wpList_nil ?_
    have hs9 := HS9.out
    rw [splice_whole (by simp)] at hs9
    skip
    have EK9 := Lib.hid (HO9.out.lies EK.out (lies_ne EK.out E5.out (by decide)))
    have N9 := Lib.hid (HO9.out.lies N1.out (lies_ne N1.out E5.out (by decide)))
    have Z9 := Lib.hid (HO9.out.lies Z.out (lies_ne Z.out E5.out (by decide)))
    have hx3 : w9.cell? ⟨w.heap.size + 1, 3, none⟩ = some (.bool false) := N9.out.at_ 3
    have hx1 : w9.cell? ⟨w.heap.size + 1, 1, none⟩ = some (.int .i64 xw) := N9.out.at_ 1
    have hk0 : w9.cell? ⟨g5, 0, none⟩ = some (.func (.func 101) #[] #[]) := hs9.at_ 0
    have hk1 : w9.cell? ⟨g5, 1, none⟩ = some (.func (.func 102) #[] #[.pointer (some ⟨gk, 0, none⟩)]) := hs9.at_ 1
    have HS := Lib.hid hs9
    clear hs9
    go_wp2_with (first
      | (go_at_call 102; refine (k3_any r gk xw _ EK9.out h0 h1 h4 h5).mono ?_; rintro e w' ⟨rfl, rfl⟩)
      | (refine wpList_store_cells (o := ⟨none, .store 81 (.tmp 4) _, _, _, _, _⟩) ?_ 81 (.tmp 4) (.tmp 25) ?_ (w.heap.size + 1 + 1) 0 ?_ 81 [.int .i64 0, .int .i64 0] (encWin (alwD r.sh r.old (⟨xp, xw, 1, false⟩ : Nt))) ?_ Z9.out (by simp) size_win (by simp [Value.oneCell']) ?_; rfl; rfl; rfl; rfl; intro w8 HS8 HO8))
    have hs8 := HS8.out
    rw [splice_whole (by simp)] at hs8
    exact bodyPost_ret (results_cell_row rfl _ _ (w.heap.size + 1 + 1) 81 (encWin (alwD r.sh r.old (⟨xp, xw, 1, false⟩ : Nt))).toArray (0, 0) _ rfl hs8 Try.underlying81 rfl size_win) rfl ⟨rfl, HO8.out.below (HO9.out.below BB.out (by have := GE5.out; omega)) (by omega)⟩

set_option maxRecDepth 100000 in
set_option maxHeartbeats 4000000 in
theorem allowed_1true (r : RwM) (xp xw : Int) (w : World) (_h0 : 0 ≤ xw) (_h1 : xw ≤ 1000) (_h2 : 0 ≤ r.sh) (_h3 : r.sh ≤ 1000) (_h4 : 0 ≤ r.old) (_h5 : r.old ≤ 1000) :
    Calls Try.prog 94 #[.agg r.cells.toArray, .agg (encN (⟨xp, xw, 1, true⟩ : Nt)).toArray] w fun e w' => e = .returned (.agg (encWin (alwD r.sh r.old ⟨xp, xw, 1, true⟩)).toArray) ∧ Below w.heap.size w w' := by
  have l0 : Lies (((w.alloc (.cells r.cells.toArray 34)).alloc (.cells (encN (⟨xp, xw, 1, true⟩ : Nt)).toArray 61)).alloc (.cells #[.int .i64 0, .int .i64 0] 81)) w.heap.size 34 r.cells.toArray := ((Lies.fresh _ _ _).alloc _).alloc _
  have l1 : Lies (((w.alloc (.cells r.cells.toArray 34)).alloc (.cells (encN (⟨xp, xw, 1, true⟩ : Nt)).toArray 61)).alloc (.cells #[.int .i64 0, .int .i64 0] 81)) (w.heap.size + 1) 61 (encN (⟨xp, xw, 1, true⟩ : Nt)).toArray := (Lies.fresh' (by simp)).alloc _
  have l2 : Lies (((w.alloc (.cells r.cells.toArray 34)).alloc (.cells (encN (⟨xp, xw, 1, true⟩ : Nt)).toArray 61)).alloc (.cells #[.int .i64 0, .int .i64 0] 81)) (w.heap.size + 1 + 1) 81 #[.int .i64 0, .int .i64 0] := Lies.fresh' (by simp)
  have b0 : Below w.heap.size w (((w.alloc (.cells r.cells.toArray 34)).alloc (.cells (encN (⟨xp, xw, 1, true⟩ : Nt)).toArray 61)).alloc (.cells #[.int .i64 0, .int .i64 0] 81)) := (by repeat (first | (with_reducible assumption) | (with_reducible exact Below.refl _ _) | (with_reducible refine Below.drew ?_) | (with_reducible refine below_drewN ?_ _) | ((with_reducible refine Below.setCell ?_ ?_ _); rotate_left; focus (first | (simp; done) | (simp; omega) | omega)) | ((with_reducible refine Below.alloc ?_ ?_ _); rotate_left; focus (first | (simp; done) | (simp; omega) | omega))))
  have hsz1 : (((w.alloc (.cells r.cells.toArray 34)).alloc (.cells (encN (⟨xp, xw, 1, true⟩ : Nt)).toArray 61)).alloc (.cells #[.int .i64 0, .int .i64 0] 81)).heap.size = w.heap.size + 3 := by simp
  have L0 := Lib.hid l0
  have L1 := Lib.hid l1
  have L2 := Lib.hid l2
  have B0 := Lib.hid b0
  clear l0 l1 l2 b0
  have HK := Lib.hid (fun w => kinds_any r w)
  go_enter Try.func94, Try.ntmps94
  go_upto_region 1 with (fail)
  change Code.wp _ _ _ _ (((w.alloc (.cells r.cells.toArray 34)).alloc (.cells (encN (⟨xp, xw, 1, true⟩ : Nt)).toArray 61)).alloc (.cells #[.int .i64 0, .int .i64 0] 81))
  generalize (((w.alloc (.cells r.cells.toArray 34)).alloc (.cells (encN (⟨xp, xw, 1, true⟩ : Nt)).toArray 61)).alloc (.cells #[.int .i64 0, .int .i64 0] 81)) = w1 at *
  haveI hne : Nonempty (Cls (fun W => Below w1.heap.size w1 W)) := ⟨⟨w1, Below.refl _ _⟩⟩
  have c0 : ∀ c : Cls (fun W => Below w1.heap.size w1 W), c.val.cell? ⟨w.heap.size + 1, 2, none⟩ = some (.int .u8 1) := fun c => (L1.out.call c.h).at_ 2
  have hrg : ∀ W, (∃ cc : Cls (fun W => Below w1.heap.size w1 W), W = cc.val) → W.rangeAt w.heap.size 0 r.cells := by
    rintro W ⟨cc, rfl⟩
    exact Lies.range (cs := r.cells) (L0.out.call cc.h) (fun j v hj => by simpa using hj)
  have HRG := Lib.hid hrg
  clear hrg
  refine wp_region_ways3 6 [0, 2, 3] (.way 1 (.take 4 (.way 5 .fin .fin)) (.way 5 (.way 1 (.take 4 .fin) .fin) .fin)) (fun W => ∃ cc : Cls (fun W => Below w1.heap.size w1 W), W = cc.val) (by kernel_rfl) (by kernel_rfl) (Cls.here (Below.refl _ _).drew) ?_
  simp only [List.filterMap_cons, List.filterMap_nil, List.take_succ_cons, List.take_zero, List.getElem?_toArray, List.getElem?_cons_zero, List.getElem?_cons_succ, List.drop_succ_cons, List.drop_zero]
  repeat (first
    | (refine wpQuiet_load_whole (o := ⟨some 6, _, _, _, _, _⟩) ?_ 34 (.tmp 2) ?_ w.heap.size 0 ?_ r.cells _ HRG.out Try.underlying34 rfl size_row ?_; rfl; rfl; rfl; simp only [Act.put, List.setIfInBounds_toArray, List.set_cons_zero, List.set_cons_succ])
    | go_big_quiet_step (rfl) | quiet_step (rfl))
  refine wpQuiet_nil ?_
  clear c0 HRG
  have D0 := Lib.hid (show Below w1.heap.size w1 w1.drew from (Below.refl _ _).drew)
  generalize w1.drew = d0 at *
  rw [wpWy_way]
  refine ⟨?_, ?_⟩
  · simp only [List.getElem?_toArray, List.getElem?_cons_succ, List.getElem?_cons_zero]
    go_wp2_with (go_at_call 92; refine (HK.out _).mono ?_; rintro e d1 ⟨rfl, hl1, hb1⟩)
    have D1 := Lib.hid (D0.out.trans (hb1.mono D0.out.size))
    have EK := Lib.hid hl1
    generalize hgk : d0.heap.size = gk at *
    have EG := Lib.hid hgk
    clear hgk hl1
    clear hb1
    refine Ends.intro ⟨Cls.here D1.out, ?_⟩
    rw [wpWy_take]
    simp only [List.getElem?_toArray, List.getElem?_cons_succ, List.getElem?_cons_zero]
    have hix := idx_k1
    first | go_big_quiet_step (rfl) | quiet_step (rfl)
    clear hix
    refine wpQuiet_nil ?_
    rw [wpWy_way]
    refine ⟨?_, by exact trivial⟩
    simp only [List.getElem?_toArray, List.getElem?_cons_succ, List.getElem?_cons_zero]
    go_wp2_with (fail)
    have E5 := Lib.hid (show Lies (d1.alloc (.cells #[Value.nilFunc, Value.nilFunc] 132)) d1.heap.size 132 #[Value.nilFunc, Value.nilFunc] from Lies.fresh' rfl)
    have EK := Lib.hid (EK.out.alloc (.cells #[Value.nilFunc, Value.nilFunc] 132))
    have D2 := Lib.hid (D1.out.alloc D1.out.size (.cells #[Value.nilFunc, Value.nilFunc] 132))
    generalize d1.alloc (.cells #[Value.nilFunc, Value.nilFunc] 132) = d2 at *
    generalize hgg5 : d1.heap.size = g5 at *
    have G5 := Lib.hid hgg5
    clear hgg5
    have GE5 := Lib.hid (show w1.heap.size ≤ g5 by have := D1.out.size; have := G5.out; omega)
    refine Ends.intro ⟨Cls.here D2.out, ?_⟩
    rw [wpWy_fin]
    have Z := Lib.hid (L2.out.call D2.out)
    have N1 := Lib.hid (L1.out.call D2.out)
    have BB := Lib.hid (B0.out.trans (D2.out.mono B0.out.size))
    refine wpList_store_cells (o := ⟨none, .store 132 (.tmp 5) _, _, _, _, _⟩) ?_ 132 (.tmp 5) (.tmp 10) ?_ g5 0 ?_ 132 [Value.nilFunc, Value.nilFunc] [.func (.func 101) #[] #[], .func (.func 102) #[] #[.pointer (some ⟨gk, 0, none⟩)]] ?_ E5.out (by simp) size_kind (by simp [Value.oneCell']) ?_
    rfl; rfl; rfl; rfl
    intro w9 HS9 HO9
    refine wpList_nil ?_
    have hs9 := HS9.out
    rw [splice_whole (by simp)] at hs9
    skip
    have EK9 := Lib.hid (HO9.out.lies EK.out (lies_ne EK.out E5.out (by decide)))
    have N9 := Lib.hid (HO9.out.lies N1.out (lies_ne N1.out E5.out (by decide)))
    have Z9 := Lib.hid (HO9.out.lies Z.out (lies_ne Z.out E5.out (by decide)))
    have hx3 : w9.cell? ⟨w.heap.size + 1, 3, none⟩ = some (.bool true) := N9.out.at_ 3
    have hx1 : w9.cell? ⟨w.heap.size + 1, 1, none⟩ = some (.int .i64 xw) := N9.out.at_ 1
    have hk0 : w9.cell? ⟨g5, 0, none⟩ = some (.func (.func 101) #[] #[]) := hs9.at_ 0
    have hk1 : w9.cell? ⟨g5, 1, none⟩ = some (.func (.func 102) #[] #[.pointer (some ⟨gk, 0, none⟩)]) := hs9.at_ 1
    have HS := Lib.hid hs9
    clear hs9
    go_wp2_with (first
      | (go_at_call 101; refine (k2_any _ _).mono ?_; rintro e w' ⟨rfl, rfl⟩)
      | (refine wpList_store_cells (o := ⟨none, .store 81 (.tmp 4) _, _, _, _, _⟩) ?_ 81 (.tmp 4) (.tmp 18) ?_ (w.heap.size + 1 + 1) 0 ?_ 81 [.int .i64 0, .int .i64 0] (encWin (alwD r.sh r.old (⟨xp, xw, 1, true⟩ : Nt))) ?_ Z9.out (by simp) size_win (by simp [Value.oneCell']) ?_; rfl; rfl; rfl; rfl; intro w8 HS8 HO8))
    have hs8 := HS8.out
    rw [splice_whole (by simp)] at hs8
    exact bodyPost_ret (results_cell_row rfl _ _ (w.heap.size + 1 + 1) 81 (encWin (alwD r.sh r.old (⟨xp, xw, 1, true⟩ : Nt))).toArray (0, 0) _ rfl hs8 Try.underlying81 rfl size_win) rfl ⟨rfl, HO8.out.below (HO9.out.below BB.out (by have := GE5.out; omega)) (by omega)⟩
  · rw [wpWy_way]
    refine ⟨?_, by exact trivial⟩
    simp only [List.getElem?_toArray, List.getElem?_cons_succ, List.getElem?_cons_zero]
    go_wp2_with (fail)
    have E5 := Lib.hid (show Lies (d0.alloc (.cells #[Value.nilFunc, Value.nilFunc] 132)) d0.heap.size 132 #[Value.nilFunc, Value.nilFunc] from Lies.fresh' rfl)
    have D1 := Lib.hid (D0.out.alloc D0.out.size (.cells #[Value.nilFunc, Value.nilFunc] 132))
    generalize d0.alloc (.cells #[Value.nilFunc, Value.nilFunc] 132) = d1 at *
    generalize hgg5 : d0.heap.size = g5 at *
    have G5 := Lib.hid hgg5
    clear hgg5
    have GE5 := Lib.hid (show w1.heap.size ≤ g5 by have := D0.out.size; have := G5.out; omega)
    refine Ends.intro ⟨Cls.here D1.out, ?_⟩
    rw [wpWy_way]
    refine ⟨?_, by exact trivial⟩
    simp only [List.getElem?_toArray, List.getElem?_cons_succ, List.getElem?_cons_zero]
    go_wp2_with (go_at_call 92; refine (HK.out _).mono ?_; rintro e d2 ⟨rfl, hl2, hb2⟩)
    have E5 := Lib.hid (E5.out.call hb2)
    have D2 := Lib.hid (D1.out.trans (hb2.mono D1.out.size))
    have EK := Lib.hid hl2
    generalize hgk : d1.heap.size = gk at *
    have EG := Lib.hid hgk
    clear hgk hl2
    clear hb2
    refine Ends.intro ⟨Cls.here D2.out, ?_⟩
    rw [wpWy_take]
    simp only [List.getElem?_toArray, List.getElem?_cons_succ, List.getElem?_cons_zero]
    have hix := idx_k1
    first | go_big_quiet_step (rfl) | quiet_step (rfl)
    clear hix
    refine wpQuiet_nil ?_
    rw [wpWy_fin]
    have Z := Lib.hid (L2.out.call D2.out)
    have N1 := Lib.hid (L1.out.call D2.out)
    have BB := Lib.hid (B0.out.trans (D2.out.mono B0.out.size))
    refine wpList_store_cells (o := ⟨none, .store 132 (.tmp 5) _, _, _, _, _⟩) ?_ 132 (.tmp 5) (.tmp 10) ?_ g5 0 ?_ 132 [Value.nilFunc, Value.nilFunc] [.func (.func 101) #[] #[], .func (.func 102) #[] #[.pointer (some ⟨gk, 0, none⟩)]] ?_ E5.out (by simp) size_kind (by simp [Value.oneCell']) ?_
    rfl; rfl; rfl; rfl
    intro w9 HS9 HO9
    refine wpList_nil ?_
    have hs9 := HS9.out
    rw [splice_whole (by simp)] at hs9
    skip
    have EK9 := Lib.hid (HO9.out.lies EK.out (lies_ne EK.out E5.out (by decide)))
    have N9 := Lib.hid (HO9.out.lies N1.out (lies_ne N1.out E5.out (by decide)))
    have Z9 := Lib.hid (HO9.out.lies Z.out (lies_ne Z.out E5.out (by decide)))
    have hx3 : w9.cell? ⟨w.heap.size + 1, 3, none⟩ = some (.bool true) := N9.out.at_ 3
    have hx1 : w9.cell? ⟨w.heap.size + 1, 1, none⟩ = some (.int .i64 xw) := N9.out.at_ 1
    have hk0 : w9.cell? ⟨g5, 0, none⟩ = some (.func (.func 101) #[] #[]) := hs9.at_ 0
    have hk1 : w9.cell? ⟨g5, 1, none⟩ = some (.func (.func 102) #[] #[.pointer (some ⟨gk, 0, none⟩)]) := hs9.at_ 1
    have HS := Lib.hid hs9
    clear hs9
    go_wp2_with (first
      | (go_at_call 101; refine (k2_any _ _).mono ?_; rintro e w' ⟨rfl, rfl⟩)
      | (refine wpList_store_cells (o := ⟨none, .store 81 (.tmp 4) _, _, _, _, _⟩) ?_ 81 (.tmp 4) (.tmp 18) ?_ (w.heap.size + 1 + 1) 0 ?_ 81 [.int .i64 0, .int .i64 0] (encWin (alwD r.sh r.old (⟨xp, xw, 1, true⟩ : Nt))) ?_ Z9.out (by simp) size_win (by simp [Value.oneCell']) ?_; rfl; rfl; rfl; rfl; intro w8 HS8 HO8))
    have hs8 := HS8.out
    rw [splice_whole (by simp)] at hs8
    exact bodyPost_ret (results_cell_row rfl _ _ (w.heap.size + 1 + 1) 81 (encWin (alwD r.sh r.old (⟨xp, xw, 1, true⟩ : Nt))).toArray (0, 0) _ rfl hs8 Try.underlying81 rfl size_win) rfl ⟨rfl, HO8.out.below (HO9.out.below BB.out (by have := GE5.out; omega)) (by omega)⟩

end Go.Proofs.Ytkjhofbjjogmlaa

/- every at its types; canHave; isValid; CheckRow. -/
namespace Go.Proofs.Ytkjhofbjjogmlaa
open Go.RowKit Go.Lib
theorem wpList_load_rowG {P : Program} {ops : Array Oper} {rest : List Oper} {o : Oper} {a : Act} {w : World} {Q : Exit → Act → World → Prop} (hw : Region.wanted o (yielded ops a.tmps) = true) (ty : TypeId) (x : Operand) (ho : o.op = .load ty x)
    (g : Nat) (hx : a.eval x = .pointer (some ⟨g, 0, none⟩)) (t : TypeId) (cs : Array Value) (fr : Nat × Nat) (d : TypeDesc) (hg : w.heap[g]? = some (.cells cs t fr))
    (hu : P.underlying ty = some d) (hd : (match d with | .struct _ | .array _ _ => true | _ => false) = true) (hi : (P.info? ty).map (·.size) = some cs.size)
    (h : wpList P ops Q rest (a.put o.dst (.agg cs)) w) : wpList P ops Q (o :: rest) a w :=
  wpList_step fun K hK => by
    rw [if_pos hw]
    exact wp_load_row ty x ho g hx t cs fr d hg hu hd hi (hK _ _ h)
section
set_option maxHeartbeats 1000000
theorem everyInt_any (g : Nat) (ft lb : Array Value) (p : Int → Bool) (A : Option Addr) (c : Nat) (zs : List Int) (w : World) (hA : Sl w w.heap.size 1 (fun x => [Value.int .i64 x]) A zs)
    (hp : Ask Try.prog (Value.int .i64) g ft lb p (· ∈ zs) w) (hl : zs.length ≤ 1000000) :
    Calls Try.prog 68 #[.slice A zs.length c, .func (.func g) ft lb] w fun e w' => e = .returned (.bool (zs.all p)) ∧ Below w.heap.size w w' := by
  have eg := hp.eg
  have HP := Lib.hid hp
  have HA := Lib.hid hA
  clear hp hA
  go_enter Try.func68, Try.ntmps68
  go_wp2
  go_loopg [6, 9] zs.length (fun gg _ s9 wr => ∃ kk : Nat, kk ≤ zs.length ∧ zs.length - kk ≤ gg ∧ s9 = .int .i64 kk ∧ Aside (Below w.heap.size w wr) ∧ Aside (∀ j x, j < kk → zs[j]? = some x → p x = true))
  case atStart => exact ⟨0, Nat.zero_le _, by omega, rfl, Below.refl _ w, fun j x hj => absurd hj (Nat.not_lt_zero _)⟩
  case round =>
    obtain ⟨kk, hkk, hg, rfl, BW, HH⟩ := hrel
    by_cases hlt : kk < zs.length
    · have hltz : (kk : Int) < (zs.length : Int) := by omega
      obtain ⟨x, hx⟩ : ∃ x, zs[kk]? = some x := ⟨zs[kk], by simp [hlt]⟩
      obtain ⟨b, off, rfl, hb, hc⟩ := HA.out.cell1 hx
      have l2 : wr.cell? ⟨b, off + kk, none⟩ = some (.int .i64 x) := by rw [BW.out.cell (p := ⟨b, off + kk, none⟩) hb]; exact hc
      have hcall := HP.out.call wr x (List.mem_of_getElem? hx) BW.out
      clear hc
      have HX := Lib.hid hx
      clear hx
      cases hq : p x with
      | false =>
        rw [hq] at hcall
        have HQ := Lib.hid hq
        clear hq
        go_wp2_with (go_at_fn g; refine hcall.mono ?_; rintro e w' ⟨rfl, hb'⟩)
        go_ret
        exact ⟨ret_bool (all_hit HX.out HQ.out).symm, BW.out.trans (hb'.mono BW.out.size)⟩
      | true =>
        rw [hq] at hcall
        have HQ := Lib.hid hq
        clear hq
        go_wp2_with (go_at_fn g; refine hcall.mono ?_; rintro e w' ⟨rfl, hb'⟩)
        go_roundg (zs.length - (kk + 1))
        case measure => omega
        case rel =>
          refine ⟨kk + 1, by omega, by omega, by go_num, BW.out.trans (hb'.mono BW.out.size), (show Aside _ from fun j y hj hy => ?_)⟩
          by_cases e : j = kk
          · subst e
            rw [HX.out] at hy; cases hy; exact HQ.out
          · exact HH.out j y (by omega) hy
    · have hltz : ¬ (kk : Int) < (zs.length : Int) := by omega
      have he : kk = zs.length := by omega
      have HE := Lib.hid he
      clear he
      go_wp2
      go_ret
      exact ⟨ret_bool (all_miss (by rw [← HE.out]; exact HH.out)).symm, BW.out⟩
theorem everyWk_any (g : Nat) (ft lb : Array Value) (p : Wk → Bool) (A : Option Addr) (c : Nat) (zs : List (Wk)) (w : World) (hA : Sl w w.heap.size 2 encW A zs)
    (hp : Ask Try.prog (fun x => .agg (encW x).toArray) g ft lb p (· ∈ zs) w) (hl : zs.length ≤ 1000000) :
    Calls Try.prog 66 #[.slice A zs.length c, .func (.func g) ft lb] w fun e w' => e = .returned (.bool (zs.all p)) ∧ Below w.heap.size w w' := by
  have eg := hp.eg
  have HP := Lib.hid hp
  have HA := Lib.hid hA
  clear hp hA
  go_enter Try.func66, Try.ntmps66
  go_wp2
  go_loopg [6, 9] zs.length (fun gg _ s9 wr => ∃ kk : Nat, kk ≤ zs.length ∧ zs.length - kk ≤ gg ∧ s9 = .int .i64 kk ∧ Aside (Below w.heap.size w wr) ∧ Aside (∀ j x, j < kk → zs[j]? = some x → p x = true))
  case atStart => exact ⟨0, Nat.zero_le _, by omega, rfl, Below.refl _ w, fun j x hj => absurd hj (Nat.not_lt_zero _)⟩
  case round =>
    obtain ⟨kk, hkk, hg, rfl, BW, HH⟩ := hrel
    by_cases hlt : kk < zs.length
    · have hltz : (kk : Int) < (zs.length : Int) := by omega
      obtain ⟨x, hx⟩ : ∃ x, zs[kk]? = some x := ⟨zs[kk], by simp [hlt]⟩
      obtain ⟨b, off, rfl, hb, c0, c1⟩ := HA.out.cellW hx
      have l2 : wr.cell? ⟨b, off + kk * 2, none⟩ = some (.int .i64 x.f) := by rw [BW.out.cell (p := ⟨b, off + kk * 2, none⟩) hb]; exact c0
      have l3 : wr.cell? ⟨b, off + kk * 2 + 1, none⟩ = some (.bool x.o) := by rw [BW.out.cell (p := ⟨b, off + kk * 2 + 1, none⟩) hb]; exact c1
      have hcall := HP.out.call (wr.alloc (.cells (encW x).toArray 79)) x (List.mem_of_getElem? hx) (BW.out.alloc BW.out.size _)
      dsimp only [encW] at hcall
      clear c0 c1
      have HX := Lib.hid hx
      clear hx
      cases hq : p x with
      | false =>
        rw [hq] at hcall
        have HQ := Lib.hid hq
        clear hq
        go_wp2_with (go_at_fn g; refine hcall.mono ?_; rintro e w' ⟨rfl, hb'⟩)
        go_ret
        exact ⟨ret_bool (all_hit HX.out HQ.out).symm, (BW.out.alloc BW.out.size _).trans (hb'.mono (BW.out.alloc BW.out.size _).size)⟩
      | true =>
        rw [hq] at hcall
        have HQ := Lib.hid hq
        clear hq
        go_wp2_with (go_at_fn g; refine hcall.mono ?_; rintro e w' ⟨rfl, hb'⟩)
        go_roundg (zs.length - (kk + 1))
        case measure => omega
        case rel =>
          refine ⟨kk + 1, by omega, by omega, by go_num, (BW.out.alloc BW.out.size _).trans (hb'.mono (BW.out.alloc BW.out.size _).size), (show Aside _ from fun j y hj hy => ?_)⟩
          by_cases e : j = kk
          · subst e
            rw [HX.out] at hy; cases hy; exact HQ.out
          · exact HH.out j y (by omega) hy
    · have hltz : ¬ (kk : Int) < (zs.length : Int) := by omega
      have he : kk = zs.length := by omega
      have HE := Lib.hid he
      clear he
      go_wp2
      go_ret
      exact ⟨ret_bool (all_miss (by rw [← HE.out]; exact HH.out)).symm, BW.out⟩
theorem everyNt_any (g : Nat) (ft lb : Array Value) (p : Nt → Bool) (A : Option Addr) (c : Nat) (zs : List (Nt)) (w : World) (hA : Sl w w.heap.size 4 encN A zs)
    (hp : Ask Try.prog (fun x => .agg (encN x).toArray) g ft lb p (· ∈ zs) w) (hl : zs.length ≤ 1000000) :
    Calls Try.prog 70 #[.slice A zs.length c, .func (.func g) ft lb] w fun e w' => e = .returned (.bool (zs.all p)) ∧ Below w.heap.size w w' := by
  have eg := hp.eg
  have HP := Lib.hid hp
  have HA := Lib.hid hA
  clear hp hA
  go_enter Try.func70, Try.ntmps70
  go_wp2
  go_loopg [6, 9] zs.length (fun gg _ s9 wr => ∃ kk : Nat, kk ≤ zs.length ∧ zs.length - kk ≤ gg ∧ s9 = .int .i64 kk ∧ Aside (Below w.heap.size w wr) ∧ Aside (∀ j x, j < kk → zs[j]? = some x → p x = true))
  case atStart => exact ⟨0, Nat.zero_le _, by omega, rfl, Below.refl _ w, fun j x hj => absurd hj (Nat.not_lt_zero _)⟩
  case round =>
    obtain ⟨kk, hkk, hg, rfl, BW, HH⟩ := hrel
    by_cases hlt : kk < zs.length
    · have hltz : (kk : Int) < (zs.length : Int) := by omega
      obtain ⟨x, hx⟩ : ∃ x, zs[kk]? = some x := ⟨zs[kk], by simp [hlt]⟩
      obtain ⟨b, off, rfl, hb, c0, c1, c2, c3⟩ := HA.out.cellN hx
      have l2 : wr.cell? ⟨b, off + kk * 4, none⟩ = some (.int .i64 x.p) := by rw [BW.out.cell (p := ⟨b, off + kk * 4, none⟩) hb]; exact c0
      have l3 : wr.cell? ⟨b, off + kk * 4 + 1, none⟩ = some (.int .i64 x.w) := by rw [BW.out.cell (p := ⟨b, off + kk * 4 + 1, none⟩) hb]; exact c1
      have l4 : wr.cell? ⟨b, off + kk * 4 + 2, none⟩ = some (.int .u8 x.k) := by rw [BW.out.cell (p := ⟨b, off + kk * 4 + 2, none⟩) hb]; exact c2
      have l5 : wr.cell? ⟨b, off + kk * 4 + 3, none⟩ = some (.bool x.y) := by rw [BW.out.cell (p := ⟨b, off + kk * 4 + 3, none⟩) hb]; exact c3
      have hcall := HP.out.call (wr.alloc (.cells (encN x).toArray 61)) x (List.mem_of_getElem? hx) (BW.out.alloc BW.out.size _)
      dsimp only [encN] at hcall
      clear c0 c1 c2 c3
      have HX := Lib.hid hx
      clear hx
      cases hq : p x with
      | false =>
        rw [hq] at hcall
        have HQ := Lib.hid hq
        clear hq
        go_wp2_with (go_at_fn g; refine hcall.mono ?_; rintro e w' ⟨rfl, hb'⟩)
        go_ret
        exact ⟨ret_bool (all_hit HX.out HQ.out).symm, (BW.out.alloc BW.out.size _).trans (hb'.mono (BW.out.alloc BW.out.size _).size)⟩
      | true =>
        rw [hq] at hcall
        have HQ := Lib.hid hq
        clear hq
        go_wp2_with (go_at_fn g; refine hcall.mono ?_; rintro e w' ⟨rfl, hb'⟩)
        go_roundg (zs.length - (kk + 1))
        case measure => omega
        case rel =>
          refine ⟨kk + 1, by omega, by omega, by go_num, (BW.out.alloc BW.out.size _).trans (hb'.mono (BW.out.alloc BW.out.size _).size), (show Aside _ from fun j y hj hy => ?_)⟩
          by_cases e : j = kk
          · subst e
            rw [HX.out] at hy; cases hy; exact HQ.out
          · exact HH.out j y (by omega) hy
    · have hltz : ¬ (kk : Int) < (zs.length : Int) := by omega
      have he : kk = zs.length := by omega
      have HE := Lib.hid he
      clear he
      go_wp2
      go_ret
      exact ⟨ret_bool (all_miss (by rw [← HE.out]; exact HH.out)).symm, BW.out⟩
end
theorem enc_wk (x : Wk) : (fun x : Wk => Value.agg (encW x).toArray) x = .agg (encW x).toArray := rfl
theorem ask_wk (w : World) (D : Wk → Prop) : Ask Try.prog (fun x : Wk => .agg (encW x).toArray) 67 #[] #[] (fun x => inB x.f 0 10) D w :=
  ⟨enters_of Try.func67 (by kernel_rfl) rfl, fun W x _ _ => wkValid_any x W⟩
theorem ask_dug (r : RwM) (hl : r.ws.l.length ≤ 1000000) (w : World) (D : Int → Prop) : Ask Try.prog (Value.int .i64) 69 #[.agg r.cells.toArray] #[] (fun n => inB n 0 r.ws.l.length) D w :=
  ⟨enters_of Try.func69 (by kernel_rfl) rfl, fun W x _ _ => canBeDug_any r x W hl⟩
theorem ask_plant (r : RwM) (h0 : -1000000 ≤ r.n) (h1 : r.n ≤ 1000000) (w : World) (D : Int → Prop) : Ask Try.prog (Value.int .i64) 86 #[.agg r.cells.toArray] #[] (fun n => inB n 0 (r.n - 1)) D w :=
  ⟨enters_of Try.func86 (by kernel_rfl) rfl, fun W x _ _ => hasPlant_any r x W h0 h1⟩

/-- A row as plain data. -/
structure RwD where
  n : Int
  ws : List Wk
  lag : Int
  sh : Int
  old : Int
  cl : Bool
  dug : List Int
  ns : List Nt
  deriving DecidableEq, Inhabited
def RwM.d (r : RwM) : RwD := ⟨r.n, r.ws.l, r.lag, r.sh, r.old, r.cl, r.dug.l, r.ns.l⟩
def RwD.dg (r : RwD) (p : Int) : Int := r.dug.getD p.toNat 0
/-- Can the row have the note? -/
def RwD.haveB (r : RwD) (x : Nt) : Bool := inB x.p 0 (r.n - 1) && inB x.w 1 r.ws.length && stB (r.dg x.p) x.w && decide (x.k < 2)
set_option maxRecDepth 100000 in
set_option maxHeartbeats 1000000 in
theorem canHave_any (r : RwM) (x : Nt) (w : World) (hr : r.At w w.heap.size) (hn : r.n = r.dug.l.length) (hk0 : 0 ≤ x.k) (hk1 : x.k ≤ 255) :
    Calls Try.prog 71 #[.agg r.cells.toArray, .agg (encN x).toArray] w fun e w' => e = .returned (.bool (r.d.haveB x)) ∧ Below w.heap.size w w' := by
  obtain ⟨xp, xw, xk, xy⟩ := x
  dsimp only at hk0 hk1
  have l0 : Lies ((w.alloc (.cells r.cells.toArray 34)).alloc (.cells (encN ⟨xp, xw, xk, xy⟩).toArray 61)) w.heap.size 34 r.cells.toArray := (Lies.fresh _ _ _).alloc _
  have l1 : Lies ((w.alloc (.cells r.cells.toArray 34)).alloc (.cells (encN ⟨xp, xw, xk, xy⟩).toArray 61)) (w.heap.size + 1) 61 (encN ⟨xp, xw, xk, xy⟩).toArray := Lies.fresh' (by simp)
  have b0 : Below w.heap.size w ((w.alloc (.cells r.cells.toArray 34)).alloc (.cells (encN ⟨xp, xw, xk, xy⟩).toArray 61)) := (by repeat (first | (with_reducible assumption) | (with_reducible exact Below.refl _ _) | (with_reducible refine Below.drew ?_) | (with_reducible refine below_drewN ?_ _) | ((with_reducible refine Below.setCell ?_ ?_ _); rotate_left; focus (first | (simp; done) | (simp; omega) | omega)) | ((with_reducible refine Below.alloc ?_ ?_ _); rotate_left; focus (first | (simp; done) | (simp; omega) | omega))))
  have hld := hr.ld
  have hlw := hr.lw
  have q0 : ∀ W, Calls Try.prog 86 #[.agg r.cells.toArray, .int .i64 xp] W fun e w' => e = .returned (.bool (inB xp 0 (r.n - 1))) ∧ Below W.heap.size W w' := fun W => hasPlant_any r xp W (by omega) (by omega)
  have q1 : ∀ W, Calls Try.prog 65 #[.int .i64 xw, .int .i64 1, .int .i64 r.ws.l.length] W fun e w' => e = .returned (.bool (inB xw 1 r.ws.l.length)) ∧ W = w' := fun W => within_any _ _ _ W
  have q2 : inB xp 0 (r.n - 1) = true → ∀ W, Below w.heap.size w W → Calls Try.prog 91 #[.agg r.cells.toArray, .int .i64 xp, .int .i64 xw] W fun e w' => e = .returned (.bool (stB (r.d.dg xp) xw)) ∧ Below W.heap.size W w' := fun h W hb => by
    rw [inB_iff] at h
    obtain ⟨p, rfl⟩ : ∃ p : Nat, xp = (p : Int) := ⟨xp.toNat, by omega⟩
    have hp : p < r.dug.l.length := by omega
    have he : r.d.dg p = r.dug.l[p] := by show r.dug.l.getD _ _ = _; simp [hp]
    exact stands_any r p _ xw W ((hr.below hb hb.size).dug) (by rw [he]; simp [hp]) hld
  have hq : r.d.haveB ⟨xp, xw, xk, xy⟩ = (inB xp 0 (r.n - 1) && inB xw 1 r.ws.l.length && stB (r.d.dg xp) xw && decide (xk < 2)) := rfl
  have q3 : ∀ W, Calls Try.prog 92 #[.agg r.cells.toArray] W fun e w' => (∃ x, e = .returned x) ∧ Below W.heap.size W w' := fun W => (kinds_any r W).mono fun e w' h => ⟨⟨_, h.1⟩, h.2.2⟩
  have hw3 : IntKind.i64.wrap xk = xk := IntWalk.i64_in (by omega) (by omega)
  generalize inB xp 0 (r.n - 1) = y0 at *
  generalize inB xw 1 r.ws.l.length = y1 at *
  generalize stB (r.d.dg xp) xw = y2 at *
  generalize r.d.haveB ⟨xp, xw, xk, xy⟩ = rr at *
  have HR := Lib.hid hq
  have L0 := Lib.hid l0
  have L1 := Lib.hid l1
  have B0 := Lib.hid b0
  have Q0 := Lib.hid q0
  have Q1 := Lib.hid q1
  have Q2 := Lib.hid q2
  have Q3 := Lib.hid q3
  have HA := Lib.hid hr
  clear l0 l1 b0 q0 q1 q2 q3 hq hr hn
  go_enter Try.func71, Try.ntmps71
  go_upto_region 1 with (fail)
  change Code.wp _ _ _ _ ((w.alloc (.cells r.cells.toArray 34)).alloc (.cells (encN ⟨xp, xw, xk, xy⟩).toArray 61))
  generalize (w.alloc (.cells r.cells.toArray 34)).alloc (.cells (encN ⟨xp, xw, xk, xy⟩).toArray 61) = w1 at *
  have c0 : ∀ c : Cls (fun W => Below w1.heap.size w1 W), c.val.cell? ⟨w.heap.size + 1, 0, none⟩ = some (.int .i64 xp) := fun c => (L1.out.call c.h).at_ 0
  have c1 : ∀ c : Cls (fun W => Below w1.heap.size w1 W), c.val.cell? ⟨w.heap.size + 1, 1, none⟩ = some (.int .i64 xw) := fun c => (L1.out.call c.h).at_ 1
  have c2 : ∀ c : Cls (fun W => Below w1.heap.size w1 W), c.val.cell? ⟨w.heap.size + 1, 2, none⟩ = some (.int .u8 xk) := fun c => (L1.out.call c.h).at_ 2
  have c3 : ∀ c : Cls (fun W => Below w1.heap.size w1 W), c.val.cell? ⟨w.heap.size, 1, none⟩ = some (.slice r.ws.A r.ws.l.length r.ws.c) := fun c => (L0.out.call c.h).at_ 1
  have hrg : ∀ W, (∃ cc : Cls (fun W => Below w1.heap.size w1 W), W = cc.val) → W.rangeAt w.heap.size 0 r.cells := by
    rintro W ⟨cc, rfl⟩
    exact Lies.range (cs := r.cells) (L0.out.call cc.h) (fun j v hj => by simpa using hj)
  have HRG := Lib.hid hrg
  have C3 := Lib.hid c3
  clear hrg c3
  haveI hne : Nonempty (Cls (fun W => Below w1.heap.size w1 W)) := ⟨⟨w1, Below.refl _ _⟩⟩
  have D0 := Lib.hid (show Below w1.heap.size w1 w1.drew from (Below.refl _ _).drew)
  cases y0 with
  | false =>
    refine wp_region_wayw [0, 1, 2] (.way 3 (.take 4 (.take 5 (.take 6 (.take 7 (.take 8 (.take 9 (.way 10 (.take 11 (.take 12 (.take 13 (.take 14 (.take 15 (.take 16 (.take 17 (.way 18 (.take 19 (.take 20 (.take 21 (.take 22 (.take 23 (.take 24 (.way 25 (.take 26 (.take 27 (.take 28 (.take 29 .fin)))) .fin))))))) .fin)))))))) .fin))))))) .fin) (fun W => ∃ cc : Cls (fun W => Below w1.heap.size w1 W), W = cc.val) (by kernel_rfl) (by kernel_rfl) (Cls.here (Below.refl _ _).drew) ?_
    simp only [List.filterMap_cons, List.filterMap_nil, List.getElem?_toArray, List.getElem?_cons_zero, List.getElem?_cons_succ]
    repeat (first
      | (refine wpQuiet_load_wholeG (o := ⟨some 5, _, _, _, _, _⟩) ?_ 34 (.tmp 2) ?_ w.heap.size 0 ?_ r.cells _ HRG.out Try.underlying34 rfl size_row ?_; rfl; rfl; rfl; simp only [Act.put, List.setIfInBounds_toArray, List.set_cons_zero, List.set_cons_succ])
      | go_big_quiet_step (rfl) | quiet_step (rfl))
    refine wpQuiet_nil ?_
    generalize w1.drew = d0 at *
    rw [wpWy_way]
    refine ⟨?_, by exact trivial⟩
    simp only [List.getElem?_toArray, List.getElem?_cons_succ, List.getElem?_cons_zero]
    go_wp2_with (go_at_call 86; refine (Q0.out _).mono ?_; rintro e d1 ⟨rfl, hb1⟩)
    have D1 := Lib.hid (D0.out.trans (hb1.mono D0.out.size))
    refine Ends.intro ⟨Cls.here D1.out, ?_⟩
    rw [wpWy_take]
    simp only [List.getElem?_toArray, List.getElem?_cons_succ, List.getElem?_cons_zero]
    first | go_big_quiet_step (rfl) | quiet_step (rfl)
    refine wpQuiet_nil ?_
    rw [wpWy_take]
    simp only [List.getElem?_toArray, List.getElem?_cons_succ, List.getElem?_cons_zero]
    first | go_big_quiet_step (rfl) | quiet_step (rfl)
    refine wpQuiet_nil ?_
    rw [wpWy_take]
    simp only [List.getElem?_toArray, List.getElem?_cons_succ, List.getElem?_cons_zero]
    first | go_big_quiet_step (rfl) | quiet_step (rfl)
    refine wpQuiet_nil ?_
    rw [wpWy_take]
    simp only [List.getElem?_toArray, List.getElem?_cons_succ, List.getElem?_cons_zero]
    first | go_big_quiet_step (rfl) | quiet_step (rfl)
    refine wpQuiet_nil ?_
    rw [wpWy_take]
    simp only [List.getElem?_toArray, List.getElem?_cons_succ, List.getElem?_cons_zero]
    first | go_big_quiet_step (rfl) | quiet_step (rfl)
    refine wpQuiet_nil ?_
    rw [wpWy_take]
    simp only [List.getElem?_toArray, List.getElem?_cons_succ, List.getElem?_cons_zero]
    first | go_big_quiet_step (rfl) | quiet_step (rfl)
    refine wpQuiet_nil ?_
    rw [wpWy_way]
    refine ⟨?_, by exact trivial⟩
    simp only [List.getElem?_toArray, List.getElem?_cons_succ, List.getElem?_cons_zero]
    go_wp2_with (fail)
    refine Ends.intro ⟨Cls.here D1.out, ?_⟩
    rw [wpWy_take]
    simp only [List.getElem?_toArray, List.getElem?_cons_succ, List.getElem?_cons_zero]
    first | go_big_quiet_step (rfl) | quiet_step (rfl)
    refine wpQuiet_nil ?_
    rw [wpWy_take]
    simp only [List.getElem?_toArray, List.getElem?_cons_succ, List.getElem?_cons_zero]
    first | go_big_quiet_step (rfl) | quiet_step (rfl)
    refine wpQuiet_nil ?_
    rw [wpWy_take]
    simp only [List.getElem?_toArray, List.getElem?_cons_succ, List.getElem?_cons_zero]
    first | go_big_quiet_step (rfl) | quiet_step (rfl)
    refine wpQuiet_nil ?_
    rw [wpWy_take]
    simp only [List.getElem?_toArray, List.getElem?_cons_succ, List.getElem?_cons_zero]
    first | go_big_quiet_step (rfl) | quiet_step (rfl)
    refine wpQuiet_nil ?_
    rw [wpWy_take]
    simp only [List.getElem?_toArray, List.getElem?_cons_succ, List.getElem?_cons_zero]
    first | go_big_quiet_step (rfl) | quiet_step (rfl)
    refine wpQuiet_nil ?_
    rw [wpWy_take]
    simp only [List.getElem?_toArray, List.getElem?_cons_succ, List.getElem?_cons_zero]
    first | go_big_quiet_step (rfl) | quiet_step (rfl)
    refine wpQuiet_nil ?_
    rw [wpWy_take]
    simp only [List.getElem?_toArray, List.getElem?_cons_succ, List.getElem?_cons_zero]
    first | go_big_quiet_step (rfl) | quiet_step (rfl)
    refine wpQuiet_nil ?_
    rw [wpWy_way]
    refine ⟨?_, by exact trivial⟩
    simp only [List.getElem?_toArray, List.getElem?_cons_succ, List.getElem?_cons_zero]
    go_wp2_with (fail)
    refine Ends.intro ⟨Cls.here D1.out, ?_⟩
    rw [wpWy_take]
    simp only [List.getElem?_toArray, List.getElem?_cons_succ, List.getElem?_cons_zero]
    first | go_big_quiet_step (rfl) | quiet_step (rfl)
    refine wpQuiet_nil ?_
    rw [wpWy_take]
    simp only [List.getElem?_toArray, List.getElem?_cons_succ, List.getElem?_cons_zero]
    first | go_big_quiet_step (rfl) | quiet_step (rfl)
    refine wpQuiet_nil ?_
    rw [wpWy_take]
    simp only [List.getElem?_toArray, List.getElem?_cons_succ, List.getElem?_cons_zero]
    first | go_big_quiet_step (rfl) | quiet_step (rfl)
    refine wpQuiet_nil ?_
    rw [wpWy_take]
    simp only [List.getElem?_toArray, List.getElem?_cons_succ, List.getElem?_cons_zero]
    first | go_big_quiet_step (rfl) | quiet_step (rfl)
    refine wpQuiet_nil ?_
    rw [wpWy_take]
    simp only [List.getElem?_toArray, List.getElem?_cons_succ, List.getElem?_cons_zero]
    first | go_big_quiet_step (rfl) | quiet_step (rfl)
    refine wpQuiet_nil ?_
    rw [wpWy_take]
    simp only [List.getElem?_toArray, List.getElem?_cons_succ, List.getElem?_cons_zero]
    first | go_big_quiet_step (rfl) | quiet_step (rfl)
    refine wpQuiet_nil ?_
    rw [wpWy_way]
    refine ⟨?_, by exact trivial⟩
    simp only [List.getElem?_toArray, List.getElem?_cons_succ, List.getElem?_cons_zero]
    go_wp2_with (fail)
    refine Ends.intro ⟨Cls.here D1.out, ?_⟩
    rw [wpWy_take]
    simp only [List.getElem?_toArray, List.getElem?_cons_succ, List.getElem?_cons_zero]
    first | go_big_quiet_step (rfl) | quiet_step (rfl)
    refine wpQuiet_nil ?_
    rw [wpWy_take]
    simp only [List.getElem?_toArray, List.getElem?_cons_succ, List.getElem?_cons_zero]
    first | go_big_quiet_step (rfl) | quiet_step (rfl)
    refine wpQuiet_nil ?_
    rw [wpWy_take]
    simp only [List.getElem?_toArray, List.getElem?_cons_succ, List.getElem?_cons_zero]
    first | go_big_quiet_step (rfl) | quiet_step (rfl)
    refine wpQuiet_nil ?_
    rw [wpWy_take]
    simp only [List.getElem?_toArray, List.getElem?_cons_succ, List.getElem?_cons_zero]
    first | go_big_quiet_step (rfl) | quiet_step (rfl)
    refine wpQuiet_nil ?_
    rw [wpWy_fin]
    clear c0 c1 c2
    go_wp2_with (fail)
    go_ret
    exact ⟨ret_bool (by rw [HR.out]; simp), B0.out.trans (D1.out.mono B0.out.size)⟩
  | true =>
  cases y1 with
  | false =>
    refine wp_region_wayw [0, 1, 2] (.way 3 (.take 4 (.take 5 (.take 6 (.take 7 (.take 8 (.take 9 (.way 10 (.take 11 (.take 12 (.take 13 (.take 14 (.take 15 (.take 16 (.take 17 (.way 18 (.take 19 (.take 20 (.take 21 (.take 22 (.take 23 (.take 24 (.way 25 (.take 26 (.take 27 (.take 28 (.take 29 .fin)))) .fin))))))) .fin)))))))) .fin))))))) .fin) (fun W => ∃ cc : Cls (fun W => Below w1.heap.size w1 W), W = cc.val) (by kernel_rfl) (by kernel_rfl) (Cls.here (Below.refl _ _).drew) ?_
    simp only [List.filterMap_cons, List.filterMap_nil, List.getElem?_toArray, List.getElem?_cons_zero, List.getElem?_cons_succ]
    repeat (first
      | (refine wpQuiet_load_wholeG (o := ⟨some 5, _, _, _, _, _⟩) ?_ 34 (.tmp 2) ?_ w.heap.size 0 ?_ r.cells _ HRG.out Try.underlying34 rfl size_row ?_; rfl; rfl; rfl; simp only [Act.put, List.setIfInBounds_toArray, List.set_cons_zero, List.set_cons_succ])
      | go_big_quiet_step (rfl) | quiet_step (rfl))
    refine wpQuiet_nil ?_
    generalize w1.drew = d0 at *
    rw [wpWy_way]
    refine ⟨?_, by exact trivial⟩
    simp only [List.getElem?_toArray, List.getElem?_cons_succ, List.getElem?_cons_zero]
    go_wp2_with (go_at_call 86; refine (Q0.out _).mono ?_; rintro e d1 ⟨rfl, hb1⟩)
    have D1 := Lib.hid (D0.out.trans (hb1.mono D0.out.size))
    refine Ends.intro ⟨Cls.here D1.out, ?_⟩
    rw [wpWy_take]
    simp only [List.getElem?_toArray, List.getElem?_cons_succ, List.getElem?_cons_zero]
    first | go_big_quiet_step (rfl) | quiet_step (rfl)
    refine wpQuiet_nil ?_
    rw [wpWy_take]
    simp only [List.getElem?_toArray, List.getElem?_cons_succ, List.getElem?_cons_zero]
    first | go_big_quiet_step (rfl) | quiet_step (rfl)
    refine wpQuiet_nil ?_
    rw [wpWy_take]
    simp only [List.getElem?_toArray, List.getElem?_cons_succ, List.getElem?_cons_zero]
    first | go_big_quiet_step (rfl) | quiet_step (rfl)
    refine wpQuiet_nil ?_
    rw [wpWy_take]
    simp only [List.getElem?_toArray, List.getElem?_cons_succ, List.getElem?_cons_zero]
    first | go_big_quiet_step (rfl) | quiet_step (rfl)
    refine wpQuiet_nil ?_
    rw [wpWy_take]
    simp only [List.getElem?_toArray, List.getElem?_cons_succ, List.getElem?_cons_zero]
    have c3 := C3.out
    first | go_big_quiet_step (rfl) | quiet_step (rfl)
    clear c3
    refine wpQuiet_nil ?_
    rw [wpWy_take]
    simp only [List.getElem?_toArray, List.getElem?_cons_succ, List.getElem?_cons_zero]
    first | go_big_quiet_step (rfl) | quiet_step (rfl)
    refine wpQuiet_nil ?_
    rw [wpWy_way]
    refine ⟨?_, by exact trivial⟩
    simp only [List.getElem?_toArray, List.getElem?_cons_succ, List.getElem?_cons_zero]
    go_wp2_with (go_at_call 65; refine (Q1.out _).mono ?_; rintro e w' ⟨rfl, rfl⟩)
    refine Ends.intro ⟨Cls.here D1.out, ?_⟩
    rw [wpWy_take]
    simp only [List.getElem?_toArray, List.getElem?_cons_succ, List.getElem?_cons_zero]
    first | go_big_quiet_step (rfl) | quiet_step (rfl)
    refine wpQuiet_nil ?_
    rw [wpWy_take]
    simp only [List.getElem?_toArray, List.getElem?_cons_succ, List.getElem?_cons_zero]
    first | go_big_quiet_step (rfl) | quiet_step (rfl)
    refine wpQuiet_nil ?_
    rw [wpWy_take]
    simp only [List.getElem?_toArray, List.getElem?_cons_succ, List.getElem?_cons_zero]
    first | go_big_quiet_step (rfl) | quiet_step (rfl)
    refine wpQuiet_nil ?_
    rw [wpWy_take]
    simp only [List.getElem?_toArray, List.getElem?_cons_succ, List.getElem?_cons_zero]
    first | go_big_quiet_step (rfl) | quiet_step (rfl)
    refine wpQuiet_nil ?_
    rw [wpWy_take]
    simp only [List.getElem?_toArray, List.getElem?_cons_succ, List.getElem?_cons_zero]
    first | go_big_quiet_step (rfl) | quiet_step (rfl)
    refine wpQuiet_nil ?_
    rw [wpWy_take]
    simp only [List.getElem?_toArray, List.getElem?_cons_succ, List.getElem?_cons_zero]
    first | go_big_quiet_step (rfl) | quiet_step (rfl)
    refine wpQuiet_nil ?_
    rw [wpWy_take]
    simp only [List.getElem?_toArray, List.getElem?_cons_succ, List.getElem?_cons_zero]
    first | go_big_quiet_step (rfl) | quiet_step (rfl)
    refine wpQuiet_nil ?_
    rw [wpWy_way]
    refine ⟨?_, by exact trivial⟩
    simp only [List.getElem?_toArray, List.getElem?_cons_succ, List.getElem?_cons_zero]
    go_wp2_with (fail)
    refine Ends.intro ⟨Cls.here D1.out, ?_⟩
    rw [wpWy_take]
    simp only [List.getElem?_toArray, List.getElem?_cons_succ, List.getElem?_cons_zero]
    first | go_big_quiet_step (rfl) | quiet_step (rfl)
    refine wpQuiet_nil ?_
    rw [wpWy_take]
    simp only [List.getElem?_toArray, List.getElem?_cons_succ, List.getElem?_cons_zero]
    first | go_big_quiet_step (rfl) | quiet_step (rfl)
    refine wpQuiet_nil ?_
    rw [wpWy_take]
    simp only [List.getElem?_toArray, List.getElem?_cons_succ, List.getElem?_cons_zero]
    first | go_big_quiet_step (rfl) | quiet_step (rfl)
    refine wpQuiet_nil ?_
    rw [wpWy_take]
    simp only [List.getElem?_toArray, List.getElem?_cons_succ, List.getElem?_cons_zero]
    first | go_big_quiet_step (rfl) | quiet_step (rfl)
    refine wpQuiet_nil ?_
    rw [wpWy_take]
    simp only [List.getElem?_toArray, List.getElem?_cons_succ, List.getElem?_cons_zero]
    first | go_big_quiet_step (rfl) | quiet_step (rfl)
    refine wpQuiet_nil ?_
    rw [wpWy_take]
    simp only [List.getElem?_toArray, List.getElem?_cons_succ, List.getElem?_cons_zero]
    first | go_big_quiet_step (rfl) | quiet_step (rfl)
    refine wpQuiet_nil ?_
    rw [wpWy_way]
    refine ⟨?_, by exact trivial⟩
    simp only [List.getElem?_toArray, List.getElem?_cons_succ, List.getElem?_cons_zero]
    go_wp2_with (fail)
    refine Ends.intro ⟨Cls.here D1.out, ?_⟩
    rw [wpWy_take]
    simp only [List.getElem?_toArray, List.getElem?_cons_succ, List.getElem?_cons_zero]
    first | go_big_quiet_step (rfl) | quiet_step (rfl)
    refine wpQuiet_nil ?_
    rw [wpWy_take]
    simp only [List.getElem?_toArray, List.getElem?_cons_succ, List.getElem?_cons_zero]
    first | go_big_quiet_step (rfl) | quiet_step (rfl)
    refine wpQuiet_nil ?_
    rw [wpWy_take]
    simp only [List.getElem?_toArray, List.getElem?_cons_succ, List.getElem?_cons_zero]
    first | go_big_quiet_step (rfl) | quiet_step (rfl)
    refine wpQuiet_nil ?_
    rw [wpWy_take]
    simp only [List.getElem?_toArray, List.getElem?_cons_succ, List.getElem?_cons_zero]
    first | go_big_quiet_step (rfl) | quiet_step (rfl)
    refine wpQuiet_nil ?_
    rw [wpWy_fin]
    clear c0 c1 c2
    go_wp2_with (fail)
    go_ret
    exact ⟨ret_bool (by rw [HR.out]; simp), B0.out.trans (D1.out.mono B0.out.size)⟩
  | true =>
  cases y2 with
  | false =>
    refine wp_region_wayw [0, 1, 2] (.way 3 (.take 4 (.take 5 (.take 6 (.take 7 (.take 8 (.take 9 (.way 10 (.take 11 (.take 12 (.take 13 (.take 14 (.take 15 (.take 16 (.take 17 (.way 18 (.take 19 (.take 20 (.take 21 (.take 22 (.take 23 (.take 24 (.way 25 (.take 26 (.take 27 (.take 28 (.take 29 .fin)))) .fin))))))) .fin)))))))) .fin))))))) .fin) (fun W => ∃ cc : Cls (fun W => Below w1.heap.size w1 W), W = cc.val) (by kernel_rfl) (by kernel_rfl) (Cls.here (Below.refl _ _).drew) ?_
    simp only [List.filterMap_cons, List.filterMap_nil, List.getElem?_toArray, List.getElem?_cons_zero, List.getElem?_cons_succ]
    repeat (first
      | (refine wpQuiet_load_wholeG (o := ⟨some 5, _, _, _, _, _⟩) ?_ 34 (.tmp 2) ?_ w.heap.size 0 ?_ r.cells _ HRG.out Try.underlying34 rfl size_row ?_; rfl; rfl; rfl; simp only [Act.put, List.setIfInBounds_toArray, List.set_cons_zero, List.set_cons_succ])
      | go_big_quiet_step (rfl) | quiet_step (rfl))
    refine wpQuiet_nil ?_
    generalize w1.drew = d0 at *
    rw [wpWy_way]
    refine ⟨?_, by exact trivial⟩
    simp only [List.getElem?_toArray, List.getElem?_cons_succ, List.getElem?_cons_zero]
    go_wp2_with (go_at_call 86; refine (Q0.out _).mono ?_; rintro e d1 ⟨rfl, hb1⟩)
    have D1 := Lib.hid (D0.out.trans (hb1.mono D0.out.size))
    refine Ends.intro ⟨Cls.here D1.out, ?_⟩
    rw [wpWy_take]
    simp only [List.getElem?_toArray, List.getElem?_cons_succ, List.getElem?_cons_zero]
    first | go_big_quiet_step (rfl) | quiet_step (rfl)
    refine wpQuiet_nil ?_
    rw [wpWy_take]
    simp only [List.getElem?_toArray, List.getElem?_cons_succ, List.getElem?_cons_zero]
    first | go_big_quiet_step (rfl) | quiet_step (rfl)
    refine wpQuiet_nil ?_
    rw [wpWy_take]
    simp only [List.getElem?_toArray, List.getElem?_cons_succ, List.getElem?_cons_zero]
    first | go_big_quiet_step (rfl) | quiet_step (rfl)
    refine wpQuiet_nil ?_
    rw [wpWy_take]
    simp only [List.getElem?_toArray, List.getElem?_cons_succ, List.getElem?_cons_zero]
    first | go_big_quiet_step (rfl) | quiet_step (rfl)
    refine wpQuiet_nil ?_
    rw [wpWy_take]
    simp only [List.getElem?_toArray, List.getElem?_cons_succ, List.getElem?_cons_zero]
    have c3 := C3.out
    first | go_big_quiet_step (rfl) | quiet_step (rfl)
    clear c3
    refine wpQuiet_nil ?_
    rw [wpWy_take]
    simp only [List.getElem?_toArray, List.getElem?_cons_succ, List.getElem?_cons_zero]
    first | go_big_quiet_step (rfl) | quiet_step (rfl)
    refine wpQuiet_nil ?_
    rw [wpWy_way]
    refine ⟨?_, by exact trivial⟩
    simp only [List.getElem?_toArray, List.getElem?_cons_succ, List.getElem?_cons_zero]
    go_wp2_with (go_at_call 65; refine (Q1.out _).mono ?_; rintro e w' ⟨rfl, rfl⟩)
    refine Ends.intro ⟨Cls.here D1.out, ?_⟩
    rw [wpWy_take]
    simp only [List.getElem?_toArray, List.getElem?_cons_succ, List.getElem?_cons_zero]
    first | go_big_quiet_step (rfl) | quiet_step (rfl)
    refine wpQuiet_nil ?_
    rw [wpWy_take]
    simp only [List.getElem?_toArray, List.getElem?_cons_succ, List.getElem?_cons_zero]
    first | go_big_quiet_step (rfl) | quiet_step (rfl)
    refine wpQuiet_nil ?_
    rw [wpWy_take]
    simp only [List.getElem?_toArray, List.getElem?_cons_succ, List.getElem?_cons_zero]
    first | (refine wpQuiet_load_wholeG (o := ⟨some 18, _, _, _, _, _⟩) ?_ 34 (.tmp 2) ?_ w.heap.size 0 ?_ r.cells _ HRG.out Try.underlying34 rfl size_row ?_; rfl; rfl; rfl; simp only [Act.put, List.setIfInBounds_toArray, List.set_cons_zero, List.set_cons_succ])
    refine wpQuiet_nil ?_
    rw [wpWy_take]
    simp only [List.getElem?_toArray, List.getElem?_cons_succ, List.getElem?_cons_zero]
    first | go_big_quiet_step (rfl) | quiet_step (rfl)
    refine wpQuiet_nil ?_
    rw [wpWy_take]
    simp only [List.getElem?_toArray, List.getElem?_cons_succ, List.getElem?_cons_zero]
    first | go_big_quiet_step (rfl) | quiet_step (rfl)
    refine wpQuiet_nil ?_
    rw [wpWy_take]
    simp only [List.getElem?_toArray, List.getElem?_cons_succ, List.getElem?_cons_zero]
    first | go_big_quiet_step (rfl) | quiet_step (rfl)
    refine wpQuiet_nil ?_
    rw [wpWy_take]
    simp only [List.getElem?_toArray, List.getElem?_cons_succ, List.getElem?_cons_zero]
    first | go_big_quiet_step (rfl) | quiet_step (rfl)
    refine wpQuiet_nil ?_
    rw [wpWy_way]
    refine ⟨?_, by exact trivial⟩
    simp only [List.getElem?_toArray, List.getElem?_cons_succ, List.getElem?_cons_zero]
    go_wp2_with (go_at_call 91; refine (Q2.out (by simp) _ (B0.out.trans (D1.out.mono B0.out.size))).mono ?_; rintro e d2 ⟨rfl, hb2⟩)
    have D2 := Lib.hid (D1.out.trans (hb2.mono D1.out.size))
    refine Ends.intro ⟨Cls.here D2.out, ?_⟩
    rw [wpWy_take]
    simp only [List.getElem?_toArray, List.getElem?_cons_succ, List.getElem?_cons_zero]
    first | go_big_quiet_step (rfl) | quiet_step (rfl)
    refine wpQuiet_nil ?_
    rw [wpWy_take]
    simp only [List.getElem?_toArray, List.getElem?_cons_succ, List.getElem?_cons_zero]
    first | go_big_quiet_step (rfl) | quiet_step (rfl)
    refine wpQuiet_nil ?_
    rw [wpWy_take]
    simp only [List.getElem?_toArray, List.getElem?_cons_succ, List.getElem?_cons_zero]
    first | go_big_quiet_step (rfl) | quiet_step (rfl)
    refine wpQuiet_nil ?_
    rw [wpWy_take]
    simp only [List.getElem?_toArray, List.getElem?_cons_succ, List.getElem?_cons_zero]
    first | go_big_quiet_step (rfl) | quiet_step (rfl)
    refine wpQuiet_nil ?_
    rw [wpWy_take]
    simp only [List.getElem?_toArray, List.getElem?_cons_succ, List.getElem?_cons_zero]
    first | go_big_quiet_step (rfl) | quiet_step (rfl)
    refine wpQuiet_nil ?_
    rw [wpWy_take]
    simp only [List.getElem?_toArray, List.getElem?_cons_succ, List.getElem?_cons_zero]
    first | go_big_quiet_step (rfl) | quiet_step (rfl)
    refine wpQuiet_nil ?_
    rw [wpWy_way]
    refine ⟨?_, by exact trivial⟩
    simp only [List.getElem?_toArray, List.getElem?_cons_succ, List.getElem?_cons_zero]
    go_wp2_with (fail)
    refine Ends.intro ⟨Cls.here D2.out, ?_⟩
    rw [wpWy_take]
    simp only [List.getElem?_toArray, List.getElem?_cons_succ, List.getElem?_cons_zero]
    first | go_big_quiet_step (rfl) | quiet_step (rfl)
    refine wpQuiet_nil ?_
    rw [wpWy_take]
    simp only [List.getElem?_toArray, List.getElem?_cons_succ, List.getElem?_cons_zero]
    first | go_big_quiet_step (rfl) | quiet_step (rfl)
    refine wpQuiet_nil ?_
    rw [wpWy_take]
    simp only [List.getElem?_toArray, List.getElem?_cons_succ, List.getElem?_cons_zero]
    first | go_big_quiet_step (rfl) | quiet_step (rfl)
    refine wpQuiet_nil ?_
    rw [wpWy_take]
    simp only [List.getElem?_toArray, List.getElem?_cons_succ, List.getElem?_cons_zero]
    first | go_big_quiet_step (rfl) | quiet_step (rfl)
    refine wpQuiet_nil ?_
    rw [wpWy_fin]
    clear c0 c1 c2
    go_wp2_with (fail)
    go_ret
    exact ⟨ret_bool (by rw [HR.out]; simp), B0.out.trans (D2.out.mono B0.out.size)⟩
  | true =>
    refine wp_region_wayw [0, 1, 2] (.way 3 (.take 4 (.take 5 (.take 6 (.take 7 (.take 8 (.take 9 (.way 10 (.take 11 (.take 12 (.take 13 (.take 14 (.take 15 (.take 16 (.take 17 (.way 18 (.take 19 (.take 20 (.take 21 (.take 22 (.take 23 (.take 24 (.way 25 (.take 26 (.take 27 (.take 28 (.take 29 .fin)))) .fin))))))) .fin)))))))) .fin))))))) .fin) (fun W => ∃ cc : Cls (fun W => Below w1.heap.size w1 W), W = cc.val) (by kernel_rfl) (by kernel_rfl) (Cls.here (Below.refl _ _).drew) ?_
    simp only [List.filterMap_cons, List.filterMap_nil, List.getElem?_toArray, List.getElem?_cons_zero, List.getElem?_cons_succ]
    repeat (first
      | (refine wpQuiet_load_wholeG (o := ⟨some 5, _, _, _, _, _⟩) ?_ 34 (.tmp 2) ?_ w.heap.size 0 ?_ r.cells _ HRG.out Try.underlying34 rfl size_row ?_; rfl; rfl; rfl; simp only [Act.put, List.setIfInBounds_toArray, List.set_cons_zero, List.set_cons_succ])
      | go_big_quiet_step (rfl) | quiet_step (rfl))
    refine wpQuiet_nil ?_
    generalize w1.drew = d0 at *
    rw [wpWy_way]
    refine ⟨?_, by exact trivial⟩
    simp only [List.getElem?_toArray, List.getElem?_cons_succ, List.getElem?_cons_zero]
    go_wp2_with (go_at_call 86; refine (Q0.out _).mono ?_; rintro e d1 ⟨rfl, hb1⟩)
    have D1 := Lib.hid (D0.out.trans (hb1.mono D0.out.size))
    refine Ends.intro ⟨Cls.here D1.out, ?_⟩
    rw [wpWy_take]
    simp only [List.getElem?_toArray, List.getElem?_cons_succ, List.getElem?_cons_zero]
    first | go_big_quiet_step (rfl) | quiet_step (rfl)
    refine wpQuiet_nil ?_
    rw [wpWy_take]
    simp only [List.getElem?_toArray, List.getElem?_cons_succ, List.getElem?_cons_zero]
    first | go_big_quiet_step (rfl) | quiet_step (rfl)
    refine wpQuiet_nil ?_
    rw [wpWy_take]
    simp only [List.getElem?_toArray, List.getElem?_cons_succ, List.getElem?_cons_zero]
    first | go_big_quiet_step (rfl) | quiet_step (rfl)
    refine wpQuiet_nil ?_
    rw [wpWy_take]
    simp only [List.getElem?_toArray, List.getElem?_cons_succ, List.getElem?_cons_zero]
    first | go_big_quiet_step (rfl) | quiet_step (rfl)
    refine wpQuiet_nil ?_
    rw [wpWy_take]
    simp only [List.getElem?_toArray, List.getElem?_cons_succ, List.getElem?_cons_zero]
    have c3 := C3.out
    first | go_big_quiet_step (rfl) | quiet_step (rfl)
    clear c3
    refine wpQuiet_nil ?_
    rw [wpWy_take]
    simp only [List.getElem?_toArray, List.getElem?_cons_succ, List.getElem?_cons_zero]
    first | go_big_quiet_step (rfl) | quiet_step (rfl)
    refine wpQuiet_nil ?_
    rw [wpWy_way]
    refine ⟨?_, by exact trivial⟩
    simp only [List.getElem?_toArray, List.getElem?_cons_succ, List.getElem?_cons_zero]
    go_wp2_with (go_at_call 65; refine (Q1.out _).mono ?_; rintro e w' ⟨rfl, rfl⟩)
    refine Ends.intro ⟨Cls.here D1.out, ?_⟩
    rw [wpWy_take]
    simp only [List.getElem?_toArray, List.getElem?_cons_succ, List.getElem?_cons_zero]
    first | go_big_quiet_step (rfl) | quiet_step (rfl)
    refine wpQuiet_nil ?_
    rw [wpWy_take]
    simp only [List.getElem?_toArray, List.getElem?_cons_succ, List.getElem?_cons_zero]
    first | go_big_quiet_step (rfl) | quiet_step (rfl)
    refine wpQuiet_nil ?_
    rw [wpWy_take]
    simp only [List.getElem?_toArray, List.getElem?_cons_succ, List.getElem?_cons_zero]
    first | (refine wpQuiet_load_wholeG (o := ⟨some 18, _, _, _, _, _⟩) ?_ 34 (.tmp 2) ?_ w.heap.size 0 ?_ r.cells _ HRG.out Try.underlying34 rfl size_row ?_; rfl; rfl; rfl; simp only [Act.put, List.setIfInBounds_toArray, List.set_cons_zero, List.set_cons_succ])
    refine wpQuiet_nil ?_
    rw [wpWy_take]
    simp only [List.getElem?_toArray, List.getElem?_cons_succ, List.getElem?_cons_zero]
    first | go_big_quiet_step (rfl) | quiet_step (rfl)
    refine wpQuiet_nil ?_
    rw [wpWy_take]
    simp only [List.getElem?_toArray, List.getElem?_cons_succ, List.getElem?_cons_zero]
    first | go_big_quiet_step (rfl) | quiet_step (rfl)
    refine wpQuiet_nil ?_
    rw [wpWy_take]
    simp only [List.getElem?_toArray, List.getElem?_cons_succ, List.getElem?_cons_zero]
    first | go_big_quiet_step (rfl) | quiet_step (rfl)
    refine wpQuiet_nil ?_
    rw [wpWy_take]
    simp only [List.getElem?_toArray, List.getElem?_cons_succ, List.getElem?_cons_zero]
    first | go_big_quiet_step (rfl) | quiet_step (rfl)
    refine wpQuiet_nil ?_
    rw [wpWy_way]
    refine ⟨?_, by exact trivial⟩
    simp only [List.getElem?_toArray, List.getElem?_cons_succ, List.getElem?_cons_zero]
    go_wp2_with (go_at_call 91; refine (Q2.out (by simp) _ (B0.out.trans (D1.out.mono B0.out.size))).mono ?_; rintro e d2 ⟨rfl, hb2⟩)
    have D2 := Lib.hid (D1.out.trans (hb2.mono D1.out.size))
    refine Ends.intro ⟨Cls.here D2.out, ?_⟩
    rw [wpWy_take]
    simp only [List.getElem?_toArray, List.getElem?_cons_succ, List.getElem?_cons_zero]
    first | go_big_quiet_step (rfl) | quiet_step (rfl)
    refine wpQuiet_nil ?_
    rw [wpWy_take]
    simp only [List.getElem?_toArray, List.getElem?_cons_succ, List.getElem?_cons_zero]
    first | go_big_quiet_step (rfl) | quiet_step (rfl)
    refine wpQuiet_nil ?_
    rw [wpWy_take]
    simp only [List.getElem?_toArray, List.getElem?_cons_succ, List.getElem?_cons_zero]
    first | go_big_quiet_step (rfl) | quiet_step (rfl)
    refine wpQuiet_nil ?_
    rw [wpWy_take]
    simp only [List.getElem?_toArray, List.getElem?_cons_succ, List.getElem?_cons_zero]
    first | go_big_quiet_step (rfl) | quiet_step (rfl)
    refine wpQuiet_nil ?_
    rw [wpWy_take]
    simp only [List.getElem?_toArray, List.getElem?_cons_succ, List.getElem?_cons_zero]
    first | go_big_quiet_step (rfl) | quiet_step (rfl)
    refine wpQuiet_nil ?_
    rw [wpWy_take]
    simp only [List.getElem?_toArray, List.getElem?_cons_succ, List.getElem?_cons_zero]
    first | (refine wpQuiet_load_wholeG (o := ⟨some 29, _, _, _, _, _⟩) ?_ 34 (.tmp 2) ?_ w.heap.size 0 ?_ r.cells _ HRG.out Try.underlying34 rfl size_row ?_; rfl; rfl; rfl; simp only [Act.put, List.setIfInBounds_toArray, List.set_cons_zero, List.set_cons_succ])
    refine wpQuiet_nil ?_
    rw [wpWy_way]
    refine ⟨?_, by exact trivial⟩
    simp only [List.getElem?_toArray, List.getElem?_cons_succ, List.getElem?_cons_zero]
    go_wp2_with (go_at_call 92; refine (Q3.out _).mono ?_; rintro e d3 ⟨⟨kv, rfl⟩, hb3⟩)
    have D3 := Lib.hid (D2.out.trans (hb3.mono D2.out.size))
    refine Ends.intro ⟨Cls.here D3.out, ?_⟩
    rw [wpWy_take]
    simp only [List.getElem?_toArray, List.getElem?_cons_succ, List.getElem?_cons_zero]
    first | go_big_quiet_step (rfl) | quiet_step (rfl)
    refine wpQuiet_nil ?_
    rw [wpWy_take]
    simp only [List.getElem?_toArray, List.getElem?_cons_succ, List.getElem?_cons_zero]
    first | go_big_quiet_step (rfl) | quiet_step (rfl)
    refine wpQuiet_nil ?_
    rw [wpWy_take]
    simp only [List.getElem?_toArray, List.getElem?_cons_succ, List.getElem?_cons_zero]
    first | go_big_quiet_step (rfl) | quiet_step (rfl)
    refine wpQuiet_nil ?_
    rw [wpWy_take]
    simp only [List.getElem?_toArray, List.getElem?_cons_succ, List.getElem?_cons_zero]
    first | go_big_quiet_step (rfl) | quiet_step (rfl)
    refine wpQuiet_nil ?_
    rw [wpWy_fin]
    clear c0 c1 c2
    go_wp2_with (fail)
    go_ret
    exact ⟨ret_bool (by rw [HR.out]; simp), B0.out.trans (D3.out.mono B0.out.size)⟩
end Go.Proofs.Ytkjhofbjjogmlaa

/- Small words: rows of one's own of integers. -/
namespace Go.Proofs.Ytkjhofbjjogmlaa
open Go.RowKit Go.Lib

theorem splice_all {cur l : List Int} (h : l.length = cur.length) : splice cur 0 l = l := by unfold splice; simp [h]
theorem info_int : (Try.prog.info? 3).map (fun i => (i.zero, i.size, i.bytes)) = some (some (.int .i64 0), 1, 8) := by kernel_rfl
theorem own_nil {w : World} {base k : Nat} {e : TypeId} {A : Option Addr} {n c : Nat} {xs : List Value} (h : w.ownsRow base e k (.slice A n c) n xs) : A = none → n = 0 ∧ c = 0 := by
  rintro rfl
  obtain ⟨_, h1⟩ := h
  rcases h1 with ⟨e1, h0⟩ | ⟨g, cap, cur, e1, _⟩
  · injection e1 with _ _ e3
    exact ⟨h0, e3⟩
  · injection e1 with e2; cases e2
theorem lies_q {V : World} {b : Nat} {q : List Int} (h : Lies V b 3 (vals q)) : Sl V V.heap.size 1 encI (some ⟨b, 0, none⟩) q := fun _ =>
  ⟨b, 0, rfl, h.in_, fun i x hx j u hu => by
    obtain rfl : j = 0 := by
      have := (List.getElem?_eq_some_iff.1 hu).1
      simp [encI] at this; exact this
    have hu' : u = .int .i64 x := by simpa [encI] using hu.symm
    subst hu'
    rw [Nat.zero_add, Nat.mul_one, Nat.add_zero, h.at_]
    simp [vals, hx]⟩
theorem sl_of_lies {α : Type} {w : World} {g k : Nat} {t : TypeId} {enc : α → List Value} {l : List α} (hk : ∀ x, (enc x).length = k) (h : Lies w g t (l.flatMap enc).toArray) : Sl w w.heap.size k enc (some ⟨g, 0, none⟩) l := fun _ =>
  ⟨g, 0, rfl, h.in_, fun i x hx j u hu => by
    have hj : j < k := by rw [← hk x]; exact (List.getElem?_eq_some_iff.1 hu).1
    rw [h.at_]
    rw [Nat.zero_add, List.getElem?_toArray, flat_at hk hx hj]
    exact hu⟩
/-- append of numbers to a row of one's own. -/
theorem wpList_app_ints {ops : Array Oper} {rest : List Oper} {o : Oper} {a : Act} {w : World} {Q : Exit → Act → World → Prop} (hgd : o.guard = none) (s x : Operand) (ho : o.op = .call { callee := .builtin .append, args := #[s, x], argTypes := #[23, 23] })
    (base : Nat) (v : Value) (xs : List Int) (hs : a.eval s = v) (hown : w.ownsRow base 3 1 v xs.length (xs.flatMap encI)) (A : Option Addr) (c : Nat) (ys : List Int) (hx : a.eval x = .slice A ys.length c) (hA : A = none → ys.length = 0 ∧ c = 0) (hy : Sl w w.heap.size 1 encI A ys) (hl : xs.length + ys.length ≤ 1000) (hb : base ≤ w.heap.size)
    (h : ∀ v' w', w'.ownsRow base 3 1 v' (xs ++ ys).length ((xs ++ ys).flatMap encI) → Below base w w' → w.grownBy w' v.ownBlock → wpList Try.prog ops Q rest (a.put o.dst v') w') : wpList Try.prog ops Q (o :: rest) a w := by
  obtain ⟨i0, hi, hz0, hz1, hz2⟩ := info_parts info_int
  have hln : (ys.flatMap encI).length = ys.length * 1 := flat_len (enc := encI) (fun _ => rfl) _
  have h1c : ∀ u ∈ ys.flatMap encI, u.oneCell' = true := fun u hu => by
    obtain ⟨z, _, hz⟩ := List.mem_flatMap.1 hu
    simp [encI] at hz; subst hz; rfl
  refine wpList_append_sl hgd s x 23 ho base 3 i0 _ 1 8 Try.underlying23 hi hz0 hz1 hz2 rfl (by decide) v xs.length _ hs hown A ys.length c (ys.flatMap encI) hx hln hA (hy.news (enc := encI) (fun _ => rfl)) h1c (by unfold maxLen; omega) (by omega) hb ?_
  intro v' w' hown' hg _
  refine h v' w' (by rw [List.length_append, List.flatMap_append]; exact hown') ((Below.refl base w).grown hg hb (fun k e => (hown.lt k e).1)) hg
/-- A struct or an array is built: by what the program's tables say of its parts. -/
theorem wpList_build {P : Program} {w : World} {ops : Array Oper} {rest : List Oper} {o : Oper} {a : Act} {Q : Exit → Act → World → Prop} (hgd : o.guard = none) (t : TypeId) (parts : Array (Nat × Operand)) (ho : o.op = .build t parts)
    (vs : Array (Nat × Value)) (hv : parts.map (fun p => (p.1, a.eval p.2)) = vs) (cells : Array Value) (h : P.built t vs.toList = some cells) (hk : wpList P ops Q rest (a.put o.dst (.agg cells)) w) : wpList P ops Q (o :: rest) a w := by
  refine wpList_plain hgd fun K hK => ?_
  subst hv
  have hrun := run_build (P := P) w t _ cells h
  unfold Oper.wp
  simp [execOp, ho, hrun, Result.andThen]
  exact hK _ _ hk
end Go.Proofs.Ytkjhofbjjogmlaa
