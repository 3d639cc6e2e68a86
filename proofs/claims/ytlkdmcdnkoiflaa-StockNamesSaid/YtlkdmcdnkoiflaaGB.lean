/- The texts F1, joined. -/
import Derived.Test.YtlkdmcdnkoiflaaGA
/- isValid: where one of the first conditions fails. -/
namespace Go.Proofs.Ytlkdmcdnkoiflaa
open Go.RowKit Go.Lib

set_option maxHeartbeats 4000000 in
theorem isValid_no0 (p : PlM) (w : World) (hp : p.At w w.heap.size) (h0 : p.b 0 = false) :
    Calls Try.prog 57 #[.agg p.cells.toArray] w fun e w' => e = .returned (.bool false) ∧ Below w.heap.size w w' := by
  have hn : decide (1 ≤ (p.s.l.length : Int)) = false := h0
  have HP := Lib.hid hp
  clear hp h0
  unfold PlM.cells
  go_enter Try.func57, Try.ntmps57
  go_upto_region 4 with (first
    | (go_at_call 86; refine (upTo_any _ _).mono ?_; rintro e w' ⟨rfl, rfl⟩)
    | (go_at_call 87; refine (rangeUpTo_any _ _).mono ?_; rintro e w' ⟨rfl, rfl⟩))
  go_cut [1, 3, 4, 6, 7] (fun s1 s3 s4 s6 s7 W => s1 = .pointer (some ⟨w.heap.size, 0, none⟩) ∧ s3 = .pointer (some ⟨w.heap.size + 1, 0, none⟩) ∧ s4 = .func (.func 117) #[] #[.pointer (some ⟨w.heap.size + 1 + 1, 0, none⟩)] ∧
    s6 = .func (.func 88) #[] #[.pointer (some ⟨w.heap.size + 1, 0, none⟩), .pointer (some ⟨w.heap.size + 1 + 1 + 1 + 1, 0, none⟩)] ∧ s7 = .func (.func 118) #[] #[.pointer (some ⟨w.heap.size + 1 + 1 + 1 + 1 + 1, 0, none⟩)] ∧ Aside (VAt p w W))
  case first =>
    go_wp2_with (first
      | (go_at_call 87; refine (rangeUpTo_any _ _).mono ?_; rintro e w' ⟨rfl, rfl⟩))
    go_meet
    exact ⟨rfl, rfl, rfl, rfl, rfl, VAt.made p w⟩
  case rest =>
    obtain ⟨rfl, rfl, rfl, rfl, rfl, HV⟩ := hcut
    go_wp2_with fail
    have HV0 := HV.out.below (W' := wc) (Below.refl _ _)
    have x0 := cell_regrown HV.out.two.1
    have HV1 := Lib.hid HV0
    clear HV0
    refine wp_region_quiet_below (by kernel_rfl) (by kernel_rfl) ?_; (repeat (first | go_big_quiet_step ((fail)) | quiet_step ((fail)))); refine wpQuiet_nil ?_; intro wq hwq; have hbq : Below _ _ wq := (by obtain ⟨p, rfl⟩ := hwq; exact below_regrown _ _ _); clear hwq
    clear x0
    go_wp2
    go_ret
    exact ⟨rfl, HV.out.b.trans (hbq.mono HV.out.b.size)⟩
set_option maxHeartbeats 4000000 in
theorem isValid_no1 (p : PlM) (w : World) (hp : p.At w w.heap.size) (h0 : p.b 0 = true) (h1 : p.b 1 = false) :
    Calls Try.prog 57 #[.agg p.cells.toArray] w fun e w' => e = .returned (.bool false) ∧ Below w.heap.size w w' := by
  have q1 := fun W (h : VAt p w W) g hc => v1 (W := W) hp h g hc
  rw [h1] at q1
  have Q1 := Lib.hid q1; clear q1
  have hn : decide (1 ≤ (p.s.l.length : Int)) = true := h0
  have HP := Lib.hid hp
  clear hp h0 h1
  unfold PlM.cells
  go_enter Try.func57, Try.ntmps57
  go_upto_region 4 with (first
    | (go_at_call 86; refine (upTo_any _ _).mono ?_; rintro e w' ⟨rfl, rfl⟩)
    | (go_at_call 87; refine (rangeUpTo_any _ _).mono ?_; rintro e w' ⟨rfl, rfl⟩))
  go_cut [1, 3, 4, 6, 7] (fun s1 s3 s4 s6 s7 W => s1 = .pointer (some ⟨w.heap.size, 0, none⟩) ∧ s3 = .pointer (some ⟨w.heap.size + 1, 0, none⟩) ∧ s4 = .func (.func 117) #[] #[.pointer (some ⟨w.heap.size + 1 + 1, 0, none⟩)] ∧
    s6 = .func (.func 88) #[] #[.pointer (some ⟨w.heap.size + 1, 0, none⟩), .pointer (some ⟨w.heap.size + 1 + 1 + 1 + 1, 0, none⟩)] ∧ s7 = .func (.func 118) #[] #[.pointer (some ⟨w.heap.size + 1 + 1 + 1 + 1 + 1, 0, none⟩)] ∧ Aside (VAt p w W))
  case first =>
    go_wp2_with (first
      | (go_at_call 87; refine (rangeUpTo_any _ _).mono ?_; rintro e w' ⟨rfl, rfl⟩))
    go_meet
    exact ⟨rfl, rfl, rfl, rfl, rfl, VAt.made p w⟩
  case rest =>
    obtain ⟨rfl, rfl, rfl, rfl, rfl, HV⟩ := hcut
    go_wp2_with fail
    have HD : VAt p w wc.drew := HV.out.below (Below.refl _ _).drew
    have HD1 : VAt p w (wc.drew.alloc (.cells #[.int .i64 1000000] 3)) := HD.below ((Below.refl _ _).alloc (Nat.le_refl _) _)
    have hz : (wc.drew.alloc (.cells #[.int .i64 1000000] 3)).cell? ⟨wc.heap.size, 0, none⟩ = some (.int .i64 1000000) := (Lies.fresh' rfl).one
    have HZ := Lib.hid hz
    have HS := HD.two
    have HV1 := Lib.hid HD1
    clear HD1 HD hz
    refine wp_region_held_drew (S := fun W => W.cell? ⟨w.heap.size + 1, 0, none⟩ = some (.int .i64 p.s.l.length) ∧ W.cell? ⟨w.heap.size, 0, none⟩ = some (.slice p.s.A p.s.l.length p.s.c)) (by kernel_rfl) HS ?_
    intro HS
    refine wpAnyH_take (i := 0) (v := ?_) rfl (by kernel_rfl) (by kernel_rfl) (by kernel_rfl) (fun _ _ _ h => h) (Or.inl ⟨by rfl, ?_⟩) HS ?_
    rotate_left
    · (intro W hSw; (try dsimp only at hSw); go_simp; try (with_reducible rfl))
    simp only [Act.put, List.setIfInBounds_toArray]
    refine wpAnyH_take (i := 1) (v := ?_) rfl (by kernel_rfl) (by kernel_rfl) (by kernel_rfl) (fun _ _ _ h => h) (Or.inl ⟨by rfl, ?_⟩) HS ?_
    rotate_left
    · (intro W hSw; (try dsimp only at hSw); go_simp; try (with_reducible rfl))
    simp only [Act.put]
    refine wpAnyH_take (i := 2) (v := ?_) rfl (by kernel_rfl) (by kernel_rfl) (by kernel_rfl) (fun _ _ _ h => h) (Or.inl ⟨by rfl, ?_⟩) HS ?_
    rotate_left
    · (intro W hSw; (try dsimp only at hSw); go_simp; try (with_reducible rfl))
    simp only [Act.put]
    refine wpAnyH_take (i := 3) (v := ?_) rfl (by kernel_rfl) (by kernel_rfl) (by kernel_rfl) (fun _ _ _ h => h) (Or.inl ⟨by rfl, ?_⟩) HS ?_
    rotate_left
    · (intro W hSw; (try dsimp only at hSw); go_simp; try (with_reducible rfl))
    simp only [Act.put]
    refine wpAnyH_take (i := 4) (v := ?_) rfl (by kernel_rfl) (by kernel_rfl) (by kernel_rfl) (fun _ _ _ h => h) (Or.inl ⟨by rfl, ?_⟩) HS ?_
    rotate_left
    · (intro W hSw; (try dsimp only at hSw); go_simp; try (with_reducible rfl))
    simp only [Act.put]
    refine wpAnyH_take (i := 5) (v := ?_) rfl (by kernel_rfl) (by kernel_rfl) (by kernel_rfl) (fun _ _ _ h => h) (Or.inl ⟨by rfl, ?_⟩) HS ?_
    rotate_left
    · (intro W hSw; (try dsimp only at hSw); go_simp; try (with_reducible rfl))
    simp only [Act.put]
    refine wpAnyH_ready (rs := [6]) (by kernel_rfl) (by simp) ?_
    refine AllReadyH.cons rfl (fun K hK => ?_) AllReadyH.nil
    go_simp
    refine (rangeUpTo_any _ _).mono ?_
    rintro e w1 ⟨rfl, rfl⟩
    refine hK.out _ _ HV1.out.two (fun _ => ?_)
    clear hK K
    try simp only [Act.put, List.setIfInBounds_toArray, List.set_cons_zero, List.set_cons_succ]
    generalize wc.drew.alloc (.cells #[.int .i64 1000000] 3) = w1 at HV1 HZ ⊢
    refine wpAnyH_below_from 7 _ (by kernel_rfl) (by kernel_rfl) (by kernel_rfl) (fun q => (HV1.out.below (below_regrown _ q.d q.os)).two) ?_
    simp only [List.drop_succ_cons, List.drop_zero]
    obtain ⟨c0, c1, c2, c3, c4, c5, c6, c7, c8⟩ := HV1.out.cells
    have c0' := cell_regrown c0
    have c1' := cell_regrown c1
    have c2' := cell_regrown c2
    have c3' := cell_regrown c3
    have c4' := cell_regrown c4
    have c5' := cell_regrown c5
    have c6' := cell_regrown c6
    have c7' := cell_regrown c7
    have c8' := cell_regrown c8
    clear c0 c1 c2 c3 c4 c5 c6 c7 c8 HS
    repeat (first | go_big_quiet_step (((first | (go_at_call 89; refine Calls.regrown_of (Q1.out _ (HV1.out.below (below_regrown _ _ _)) _ (cell_regrown HZ.out _ _)))))) | quiet_step (((first | (go_at_call 89; refine Calls.regrown_of (Q1.out _ (HV1.out.below (below_regrown _ _ _)) _ (cell_regrown HZ.out _ _)))))))
    refine wpQuiet_nil ?_
    intro wq hwq
    have hbq : Below _ _ wq := (by obtain ⟨q, rfl⟩ := hwq; exact below_regrown _ _ _)
    clear hwq c0' c1' c2' c3' c4' c5' c6' c7' c8'
    go_wp2
    go_ret
    exact ⟨rfl, (HV1.out.below hbq).b⟩
set_option maxHeartbeats 4000000 in
theorem isValid_no2 (p : PlM) (w : World) (hp : p.At w w.heap.size) (h0 : p.b 0 = true) (h1 : p.b 1 = true) (h2 : p.b 2 = false) :
    Calls Try.prog 57 #[.agg p.cells.toArray] w fun e w' => e = .returned (.bool false) ∧ Below w.heap.size w w' := by
  have q1 := fun W (h : VAt p w W) g hc => v1 (W := W) hp h g hc
  have q2 := fun W (h : VAt p w W) => v2 (W := W) hp h
  rw [h1] at q1; rw [h2] at q2
  have Q1 := Lib.hid q1; clear q1; have Q2 := Lib.hid q2; clear q2
  have hn : decide (1 ≤ (p.s.l.length : Int)) = true := h0
  have HP := Lib.hid hp
  clear hp h0 h1 h2
  unfold PlM.cells
  go_enter Try.func57, Try.ntmps57
  go_upto_region 4 with (first
    | (go_at_call 86; refine (upTo_any _ _).mono ?_; rintro e w' ⟨rfl, rfl⟩)
    | (go_at_call 87; refine (rangeUpTo_any _ _).mono ?_; rintro e w' ⟨rfl, rfl⟩))
  go_cut [1, 3, 4, 6, 7] (fun s1 s3 s4 s6 s7 W => s1 = .pointer (some ⟨w.heap.size, 0, none⟩) ∧ s3 = .pointer (some ⟨w.heap.size + 1, 0, none⟩) ∧ s4 = .func (.func 117) #[] #[.pointer (some ⟨w.heap.size + 1 + 1, 0, none⟩)] ∧
    s6 = .func (.func 88) #[] #[.pointer (some ⟨w.heap.size + 1, 0, none⟩), .pointer (some ⟨w.heap.size + 1 + 1 + 1 + 1, 0, none⟩)] ∧ s7 = .func (.func 118) #[] #[.pointer (some ⟨w.heap.size + 1 + 1 + 1 + 1 + 1, 0, none⟩)] ∧ Aside (VAt p w W))
  case first =>
    go_wp2_with (first
      | (go_at_call 87; refine (rangeUpTo_any _ _).mono ?_; rintro e w' ⟨rfl, rfl⟩))
    go_meet
    exact ⟨rfl, rfl, rfl, rfl, rfl, VAt.made p w⟩
  case rest =>
    obtain ⟨rfl, rfl, rfl, rfl, rfl, HV⟩ := hcut
    go_wp2_with fail
    have HD : VAt p w wc.drew := HV.out.below (Below.refl _ _).drew
    have HD1 : VAt p w (wc.drew.alloc (.cells #[.int .i64 1000000] 3)) := HD.below ((Below.refl _ _).alloc (Nat.le_refl _) _)
    have hz : (wc.drew.alloc (.cells #[.int .i64 1000000] 3)).cell? ⟨wc.heap.size, 0, none⟩ = some (.int .i64 1000000) := (Lies.fresh' rfl).one
    have HZ := Lib.hid hz
    have HS := HD.two
    have HV1 := Lib.hid HD1
    clear HD1 HD hz
    refine wp_region_held_drew (S := fun W => W.cell? ⟨w.heap.size + 1, 0, none⟩ = some (.int .i64 p.s.l.length) ∧ W.cell? ⟨w.heap.size, 0, none⟩ = some (.slice p.s.A p.s.l.length p.s.c)) (by kernel_rfl) HS ?_
    intro HS
    refine wpAnyH_take (i := 0) (v := ?_) rfl (by kernel_rfl) (by kernel_rfl) (by kernel_rfl) (fun _ _ _ h => h) (Or.inl ⟨by rfl, ?_⟩) HS ?_
    rotate_left
    · (intro W hSw; (try dsimp only at hSw); go_simp; try (with_reducible rfl))
    simp only [Act.put, List.setIfInBounds_toArray]
    refine wpAnyH_take (i := 1) (v := ?_) rfl (by kernel_rfl) (by kernel_rfl) (by kernel_rfl) (fun _ _ _ h => h) (Or.inl ⟨by rfl, ?_⟩) HS ?_
    rotate_left
    · (intro W hSw; (try dsimp only at hSw); go_simp; try (with_reducible rfl))
    simp only [Act.put]
    refine wpAnyH_take (i := 2) (v := ?_) rfl (by kernel_rfl) (by kernel_rfl) (by kernel_rfl) (fun _ _ _ h => h) (Or.inl ⟨by rfl, ?_⟩) HS ?_
    rotate_left
    · (intro W hSw; (try dsimp only at hSw); go_simp; try (with_reducible rfl))
    simp only [Act.put]
    refine wpAnyH_take (i := 3) (v := ?_) rfl (by kernel_rfl) (by kernel_rfl) (by kernel_rfl) (fun _ _ _ h => h) (Or.inl ⟨by rfl, ?_⟩) HS ?_
    rotate_left
    · (intro W hSw; (try dsimp only at hSw); go_simp; try (with_reducible rfl))
    simp only [Act.put]
    refine wpAnyH_take (i := 4) (v := ?_) rfl (by kernel_rfl) (by kernel_rfl) (by kernel_rfl) (fun _ _ _ h => h) (Or.inl ⟨by rfl, ?_⟩) HS ?_
    rotate_left
    · (intro W hSw; (try dsimp only at hSw); go_simp; try (with_reducible rfl))
    simp only [Act.put]
    refine wpAnyH_take (i := 5) (v := ?_) rfl (by kernel_rfl) (by kernel_rfl) (by kernel_rfl) (fun _ _ _ h => h) (Or.inl ⟨by rfl, ?_⟩) HS ?_
    rotate_left
    · (intro W hSw; (try dsimp only at hSw); go_simp; try (with_reducible rfl))
    simp only [Act.put]
    refine wpAnyH_ready (rs := [6]) (by kernel_rfl) (by simp) ?_
    refine AllReadyH.cons rfl (fun K hK => ?_) AllReadyH.nil
    go_simp
    refine (rangeUpTo_any _ _).mono ?_
    rintro e w1 ⟨rfl, rfl⟩
    refine hK.out _ _ HV1.out.two (fun _ => ?_)
    clear hK K
    try simp only [Act.put, List.setIfInBounds_toArray, List.set_cons_zero, List.set_cons_succ]
    generalize wc.drew.alloc (.cells #[.int .i64 1000000] 3) = w1 at HV1 HZ ⊢
    refine wpAnyH_below_from 7 _ (by kernel_rfl) (by kernel_rfl) (by kernel_rfl) (fun q => (HV1.out.below (below_regrown _ q.d q.os)).two) ?_
    simp only [List.drop_succ_cons, List.drop_zero]
    obtain ⟨c0, c1, c2, c3, c4, c5, c6, c7, c8⟩ := HV1.out.cells
    have c0' := cell_regrown c0
    have c1' := cell_regrown c1
    have c2' := cell_regrown c2
    have c3' := cell_regrown c3
    have c4' := cell_regrown c4
    have c5' := cell_regrown c5
    have c6' := cell_regrown c6
    have c7' := cell_regrown c7
    have c8' := cell_regrown c8
    clear c0 c1 c2 c3 c4 c5 c6 c7 c8 HS
    repeat (first | go_big_quiet_step (((first | (go_at_call 89; refine Calls.regrown_of (Q1.out _ (HV1.out.below (below_regrown _ _ _)) _ (cell_regrown HZ.out _ _))) | (go_at_call_of 90 (Value.slice p.r.A p.r.l.length p.r.c); refine Calls.regrown_of (Q2.out _ (HV1.out.below (below_regrown _ _ _))))))) | quiet_step (((first | (go_at_call 89; refine Calls.regrown_of (Q1.out _ (HV1.out.below (below_regrown _ _ _)) _ (cell_regrown HZ.out _ _))) | (go_at_call_of 90 (Value.slice p.r.A p.r.l.length p.r.c); refine Calls.regrown_of (Q2.out _ (HV1.out.below (below_regrown _ _ _))))))))
    refine wpQuiet_nil ?_
    intro wq hwq
    have hbq : Below _ _ wq := (by obtain ⟨q, rfl⟩ := hwq; exact below_regrown _ _ _)
    clear hwq c0' c1' c2' c3' c4' c5' c6' c7' c8'
    go_wp2
    go_ret
    exact ⟨rfl, (HV1.out.below hbq).b⟩
set_option maxHeartbeats 4000000 in
theorem isValid_no3 (p : PlM) (w : World) (hp : p.At w w.heap.size) (h0 : p.b 0 = true) (h1 : p.b 1 = true) (h2 : p.b 2 = true) (h3 : p.b 3 = false) :
    Calls Try.prog 57 #[.agg p.cells.toArray] w fun e w' => e = .returned (.bool false) ∧ Below w.heap.size w w' := by
  have q1 := fun W (h : VAt p w W) g hc => v1 (W := W) hp h g hc
  have q2 := fun W (h : VAt p w W) => v2 (W := W) hp h
  have q3 := fun W (h : VAt p w W) => v3 (W := W) hp h
  rw [h1] at q1; rw [h2] at q2; rw [h3] at q3
  have Q1 := Lib.hid q1; clear q1; have Q2 := Lib.hid q2; clear q2; have Q3 := Lib.hid q3; clear q3
  have hn : decide (1 ≤ (p.s.l.length : Int)) = true := h0
  have HP := Lib.hid hp
  clear hp h0 h1 h2 h3
  unfold PlM.cells
  go_enter Try.func57, Try.ntmps57
  go_upto_region 4 with (first
    | (go_at_call 86; refine (upTo_any _ _).mono ?_; rintro e w' ⟨rfl, rfl⟩)
    | (go_at_call 87; refine (rangeUpTo_any _ _).mono ?_; rintro e w' ⟨rfl, rfl⟩))
  go_cut [1, 3, 4, 6, 7] (fun s1 s3 s4 s6 s7 W => s1 = .pointer (some ⟨w.heap.size, 0, none⟩) ∧ s3 = .pointer (some ⟨w.heap.size + 1, 0, none⟩) ∧ s4 = .func (.func 117) #[] #[.pointer (some ⟨w.heap.size + 1 + 1, 0, none⟩)] ∧
    s6 = .func (.func 88) #[] #[.pointer (some ⟨w.heap.size + 1, 0, none⟩), .pointer (some ⟨w.heap.size + 1 + 1 + 1 + 1, 0, none⟩)] ∧ s7 = .func (.func 118) #[] #[.pointer (some ⟨w.heap.size + 1 + 1 + 1 + 1 + 1, 0, none⟩)] ∧ Aside (VAt p w W))
  case first =>
    go_wp2_with (first
      | (go_at_call 87; refine (rangeUpTo_any _ _).mono ?_; rintro e w' ⟨rfl, rfl⟩))
    go_meet
    exact ⟨rfl, rfl, rfl, rfl, rfl, VAt.made p w⟩
  case rest =>
    obtain ⟨rfl, rfl, rfl, rfl, rfl, HV⟩ := hcut
    go_wp2_with fail
    have HD : VAt p w wc.drew := HV.out.below (Below.refl _ _).drew
    have HD1 : VAt p w (wc.drew.alloc (.cells #[.int .i64 1000000] 3)) := HD.below ((Below.refl _ _).alloc (Nat.le_refl _) _)
    have hz : (wc.drew.alloc (.cells #[.int .i64 1000000] 3)).cell? ⟨wc.heap.size, 0, none⟩ = some (.int .i64 1000000) := (Lies.fresh' rfl).one
    have HZ := Lib.hid hz
    have HS := HD.two
    have HV1 := Lib.hid HD1
    clear HD1 HD hz
    refine wp_region_held_drew (S := fun W => W.cell? ⟨w.heap.size + 1, 0, none⟩ = some (.int .i64 p.s.l.length) ∧ W.cell? ⟨w.heap.size, 0, none⟩ = some (.slice p.s.A p.s.l.length p.s.c)) (by kernel_rfl) HS ?_
    intro HS
    refine wpAnyH_take (i := 0) (v := ?_) rfl (by kernel_rfl) (by kernel_rfl) (by kernel_rfl) (fun _ _ _ h => h) (Or.inl ⟨by rfl, ?_⟩) HS ?_
    rotate_left
    · (intro W hSw; (try dsimp only at hSw); go_simp; try (with_reducible rfl))
    simp only [Act.put, List.setIfInBounds_toArray]
    refine wpAnyH_take (i := 1) (v := ?_) rfl (by kernel_rfl) (by kernel_rfl) (by kernel_rfl) (fun _ _ _ h => h) (Or.inl ⟨by rfl, ?_⟩) HS ?_
    rotate_left
    · (intro W hSw; (try dsimp only at hSw); go_simp; try (with_reducible rfl))
    simp only [Act.put]
    refine wpAnyH_take (i := 2) (v := ?_) rfl (by kernel_rfl) (by kernel_rfl) (by kernel_rfl) (fun _ _ _ h => h) (Or.inl ⟨by rfl, ?_⟩) HS ?_
    rotate_left
    · (intro W hSw; (try dsimp only at hSw); go_simp; try (with_reducible rfl))
    simp only [Act.put]
    refine wpAnyH_take (i := 3) (v := ?_) rfl (by kernel_rfl) (by kernel_rfl) (by kernel_rfl) (fun _ _ _ h => h) (Or.inl ⟨by rfl, ?_⟩) HS ?_
    rotate_left
    · (intro W hSw; (try dsimp only at hSw); go_simp; try (with_reducible rfl))
    simp only [Act.put]
    refine wpAnyH_take (i := 4) (v := ?_) rfl (by kernel_rfl) (by kernel_rfl) (by kernel_rfl) (fun _ _ _ h => h) (Or.inl ⟨by rfl, ?_⟩) HS ?_
    rotate_left
    · (intro W hSw; (try dsimp only at hSw); go_simp; try (with_reducible rfl))
    simp only [Act.put]
    refine wpAnyH_take (i := 5) (v := ?_) rfl (by kernel_rfl) (by kernel_rfl) (by kernel_rfl) (fun _ _ _ h => h) (Or.inl ⟨by rfl, ?_⟩) HS ?_
    rotate_left
    · (intro W hSw; (try dsimp only at hSw); go_simp; try (with_reducible rfl))
    simp only [Act.put]
    refine wpAnyH_ready (rs := [6]) (by kernel_rfl) (by simp) ?_
    refine AllReadyH.cons rfl (fun K hK => ?_) AllReadyH.nil
    go_simp
    refine (rangeUpTo_any _ _).mono ?_
    rintro e w1 ⟨rfl, rfl⟩
    refine hK.out _ _ HV1.out.two (fun _ => ?_)
    clear hK K
    try simp only [Act.put, List.setIfInBounds_toArray, List.set_cons_zero, List.set_cons_succ]
    generalize wc.drew.alloc (.cells #[.int .i64 1000000] 3) = w1 at HV1 HZ ⊢
    refine wpAnyH_below_from 7 _ (by kernel_rfl) (by kernel_rfl) (by kernel_rfl) (fun q => (HV1.out.below (below_regrown _ q.d q.os)).two) ?_
    simp only [List.drop_succ_cons, List.drop_zero]
    obtain ⟨c0, c1, c2, c3, c4, c5, c6, c7, c8⟩ := HV1.out.cells
    have c0' := cell_regrown c0
    have c1' := cell_regrown c1
    have c2' := cell_regrown c2
    have c3' := cell_regrown c3
    have c4' := cell_regrown c4
    have c5' := cell_regrown c5
    have c6' := cell_regrown c6
    have c7' := cell_regrown c7
    have c8' := cell_regrown c8
    clear c0 c1 c2 c3 c4 c5 c6 c7 c8 HS
    repeat (first | go_big_quiet_step (((first | (go_at_call 89; refine Calls.regrown_of (Q1.out _ (HV1.out.below (below_regrown _ _ _)) _ (cell_regrown HZ.out _ _))) | (go_at_call_of 90 (Value.slice p.r.A p.r.l.length p.r.c); refine Calls.regrown_of (Q2.out _ (HV1.out.below (below_regrown _ _ _)))) | (go_at_call 91; refine Calls.regrown_of (Q3.out _ (HV1.out.below (below_regrown _ _ _))))))) | quiet_step (((first | (go_at_call 89; refine Calls.regrown_of (Q1.out _ (HV1.out.below (below_regrown _ _ _)) _ (cell_regrown HZ.out _ _))) | (go_at_call_of 90 (Value.slice p.r.A p.r.l.length p.r.c); refine Calls.regrown_of (Q2.out _ (HV1.out.below (below_regrown _ _ _)))) | (go_at_call 91; refine Calls.regrown_of (Q3.out _ (HV1.out.below (below_regrown _ _ _))))))))
    refine wpQuiet_nil ?_
    intro wq hwq
    have hbq : Below _ _ wq := (by obtain ⟨q, rfl⟩ := hwq; exact below_regrown _ _ _)
    clear hwq c0' c1' c2' c3' c4' c5' c6' c7' c8'
    go_wp2
    go_ret
    exact ⟨rfl, (HV1.out.below hbq).b⟩
set_option maxHeartbeats 4000000 in
theorem isValid_no4 (p : PlM) (w : World) (hp : p.At w w.heap.size) (h0 : p.b 0 = true) (h1 : p.b 1 = true) (h2 : p.b 2 = true) (h3 : p.b 3 = true) (h4 : p.b 4 = false) :
    Calls Try.prog 57 #[.agg p.cells.toArray] w fun e w' => e = .returned (.bool false) ∧ Below w.heap.size w w' := by
  have q1 := fun W (h : VAt p w W) g hc => v1 (W := W) hp h g hc
  have q2 := fun W (h : VAt p w W) => v2 (W := W) hp h
  have q3 := fun W (h : VAt p w W) => v3 (W := W) hp h
  have q4 := fun W (h : VAt p w W) => v4 (W := W) hp h
  rw [h1] at q1; rw [h2] at q2; rw [h3] at q3; rw [h4] at q4
  have Q1 := Lib.hid q1; clear q1; have Q2 := Lib.hid q2; clear q2; have Q3 := Lib.hid q3; clear q3; have Q4 := Lib.hid q4; clear q4
  have hn : decide (1 ≤ (p.s.l.length : Int)) = true := h0
  have HP := Lib.hid hp
  clear hp h0 h1 h2 h3 h4
  unfold PlM.cells
  go_enter Try.func57, Try.ntmps57
  go_upto_region 4 with (first
    | (go_at_call 86; refine (upTo_any _ _).mono ?_; rintro e w' ⟨rfl, rfl⟩)
    | (go_at_call 87; refine (rangeUpTo_any _ _).mono ?_; rintro e w' ⟨rfl, rfl⟩))
  go_cut [1, 3, 4, 6, 7] (fun s1 s3 s4 s6 s7 W => s1 = .pointer (some ⟨w.heap.size, 0, none⟩) ∧ s3 = .pointer (some ⟨w.heap.size + 1, 0, none⟩) ∧ s4 = .func (.func 117) #[] #[.pointer (some ⟨w.heap.size + 1 + 1, 0, none⟩)] ∧
    s6 = .func (.func 88) #[] #[.pointer (some ⟨w.heap.size + 1, 0, none⟩), .pointer (some ⟨w.heap.size + 1 + 1 + 1 + 1, 0, none⟩)] ∧ s7 = .func (.func 118) #[] #[.pointer (some ⟨w.heap.size + 1 + 1 + 1 + 1 + 1, 0, none⟩)] ∧ Aside (VAt p w W))
  case first =>
    go_wp2_with (first
      | (go_at_call 87; refine (rangeUpTo_any _ _).mono ?_; rintro e w' ⟨rfl, rfl⟩))
    go_meet
    exact ⟨rfl, rfl, rfl, rfl, rfl, VAt.made p w⟩
  case rest =>
    obtain ⟨rfl, rfl, rfl, rfl, rfl, HV⟩ := hcut
    go_wp2_with fail
    have HD : VAt p w wc.drew := HV.out.below (Below.refl _ _).drew
    have HD1 : VAt p w (wc.drew.alloc (.cells #[.int .i64 1000000] 3)) := HD.below ((Below.refl _ _).alloc (Nat.le_refl _) _)
    have hz : (wc.drew.alloc (.cells #[.int .i64 1000000] 3)).cell? ⟨wc.heap.size, 0, none⟩ = some (.int .i64 1000000) := (Lies.fresh' rfl).one
    have HZ := Lib.hid hz
    have HS := HD.two
    have HV1 := Lib.hid HD1
    clear HD1 HD hz
    refine wp_region_held_drew (S := fun W => W.cell? ⟨w.heap.size + 1, 0, none⟩ = some (.int .i64 p.s.l.length) ∧ W.cell? ⟨w.heap.size, 0, none⟩ = some (.slice p.s.A p.s.l.length p.s.c)) (by kernel_rfl) HS ?_
    intro HS
    refine wpAnyH_take (i := 0) (v := ?_) rfl (by kernel_rfl) (by kernel_rfl) (by kernel_rfl) (fun _ _ _ h => h) (Or.inl ⟨by rfl, ?_⟩) HS ?_
    rotate_left
    · (intro W hSw; (try dsimp only at hSw); go_simp; try (with_reducible rfl))
    simp only [Act.put, List.setIfInBounds_toArray]
    refine wpAnyH_take (i := 1) (v := ?_) rfl (by kernel_rfl) (by kernel_rfl) (by kernel_rfl) (fun _ _ _ h => h) (Or.inl ⟨by rfl, ?_⟩) HS ?_
    rotate_left
    · (intro W hSw; (try dsimp only at hSw); go_simp; try (with_reducible rfl))
    simp only [Act.put]
    refine wpAnyH_take (i := 2) (v := ?_) rfl (by kernel_rfl) (by kernel_rfl) (by kernel_rfl) (fun _ _ _ h => h) (Or.inl ⟨by rfl, ?_⟩) HS ?_
    rotate_left
    · (intro W hSw; (try dsimp only at hSw); go_simp; try (with_reducible rfl))
    simp only [Act.put]
    refine wpAnyH_take (i := 3) (v := ?_) rfl (by kernel_rfl) (by kernel_rfl) (by kernel_rfl) (fun _ _ _ h => h) (Or.inl ⟨by rfl, ?_⟩) HS ?_
    rotate_left
    · (intro W hSw; (try dsimp only at hSw); go_simp; try (with_reducible rfl))
    simp only [Act.put]
    refine wpAnyH_take (i := 4) (v := ?_) rfl (by kernel_rfl) (by kernel_rfl) (by kernel_rfl) (fun _ _ _ h => h) (Or.inl ⟨by rfl, ?_⟩) HS ?_
    rotate_left
    · (intro W hSw; (try dsimp only at hSw); go_simp; try (with_reducible rfl))
    simp only [Act.put]
    refine wpAnyH_take (i := 5) (v := ?_) rfl (by kernel_rfl) (by kernel_rfl) (by kernel_rfl) (fun _ _ _ h => h) (Or.inl ⟨by rfl, ?_⟩) HS ?_
    rotate_left
    · (intro W hSw; (try dsimp only at hSw); go_simp; try (with_reducible rfl))
    simp only [Act.put]
    refine wpAnyH_ready (rs := [6]) (by kernel_rfl) (by simp) ?_
    refine AllReadyH.cons rfl (fun K hK => ?_) AllReadyH.nil
    go_simp
    refine (rangeUpTo_any _ _).mono ?_
    rintro e w1 ⟨rfl, rfl⟩
    refine hK.out _ _ HV1.out.two (fun _ => ?_)
    clear hK K
    try simp only [Act.put, List.setIfInBounds_toArray, List.set_cons_zero, List.set_cons_succ]
    generalize wc.drew.alloc (.cells #[.int .i64 1000000] 3) = w1 at HV1 HZ ⊢
    refine wpAnyH_below_from 7 _ (by kernel_rfl) (by kernel_rfl) (by kernel_rfl) (fun q => (HV1.out.below (below_regrown _ q.d q.os)).two) ?_
    simp only [List.drop_succ_cons, List.drop_zero]
    obtain ⟨c0, c1, c2, c3, c4, c5, c6, c7, c8⟩ := HV1.out.cells
    have c0' := cell_regrown c0
    have c1' := cell_regrown c1
    have c2' := cell_regrown c2
    have c3' := cell_regrown c3
    have c4' := cell_regrown c4
    have c5' := cell_regrown c5
    have c6' := cell_regrown c6
    have c7' := cell_regrown c7
    have c8' := cell_regrown c8
    clear c0 c1 c2 c3 c4 c5 c6 c7 c8 HS
    repeat (first | go_big_quiet_step (((first | (go_at_call 89; refine Calls.regrown_of (Q1.out _ (HV1.out.below (below_regrown _ _ _)) _ (cell_regrown HZ.out _ _))) | (go_at_call_of 90 (Value.slice p.r.A p.r.l.length p.r.c); refine Calls.regrown_of (Q2.out _ (HV1.out.below (below_regrown _ _ _)))) | (go_at_call 91; refine Calls.regrown_of (Q3.out _ (HV1.out.below (below_regrown _ _ _)))) | (go_at_call 93; refine Calls.regrown_of (Q4.out _ (HV1.out.below (below_regrown _ _ _))))))) | quiet_step (((first | (go_at_call 89; refine Calls.regrown_of (Q1.out _ (HV1.out.below (below_regrown _ _ _)) _ (cell_regrown HZ.out _ _))) | (go_at_call_of 90 (Value.slice p.r.A p.r.l.length p.r.c); refine Calls.regrown_of (Q2.out _ (HV1.out.below (below_regrown _ _ _)))) | (go_at_call 91; refine Calls.regrown_of (Q3.out _ (HV1.out.below (below_regrown _ _ _)))) | (go_at_call 93; refine Calls.regrown_of (Q4.out _ (HV1.out.below (below_regrown _ _ _))))))))
    refine wpQuiet_nil ?_
    intro wq hwq
    have hbq : Below _ _ wq := (by obtain ⟨q, rfl⟩ := hwq; exact below_regrown _ _ _)
    clear hwq c0' c1' c2' c3' c4' c5' c6' c7' c8'
    go_wp2
    go_ret
    exact ⟨rfl, (HV1.out.below hbq).b⟩
set_option maxHeartbeats 4000000 in
theorem isValid_no5 (p : PlM) (w : World) (hp : p.At w w.heap.size) (h0 : p.b 0 = true) (h1 : p.b 1 = true) (h2 : p.b 2 = true) (h3 : p.b 3 = true) (h4 : p.b 4 = true) (h5 : p.b 5 = false) :
    Calls Try.prog 57 #[.agg p.cells.toArray] w fun e w' => e = .returned (.bool false) ∧ Below w.heap.size w w' := by
  have q1 := fun W (h : VAt p w W) g hc => v1 (W := W) hp h g hc
  have q2 := fun W (h : VAt p w W) => v2 (W := W) hp h
  have q3 := fun W (h : VAt p w W) => v3 (W := W) hp h
  have q4 := fun W (h : VAt p w W) => v4 (W := W) hp h
  have q5 := fun W (h : VAt p w W) => v5 (W := W) hp h
  rw [h1] at q1; rw [h2] at q2; rw [h3] at q3; rw [h4] at q4; rw [h5] at q5
  have Q1 := Lib.hid q1; clear q1; have Q2 := Lib.hid q2; clear q2; have Q3 := Lib.hid q3; clear q3; have Q4 := Lib.hid q4; clear q4; have Q5 := Lib.hid q5; clear q5
  have hn : decide (1 ≤ (p.s.l.length : Int)) = true := h0
  have HP := Lib.hid hp
  clear hp h0 h1 h2 h3 h4 h5
  unfold PlM.cells
  go_enter Try.func57, Try.ntmps57
  go_upto_region 4 with (first
    | (go_at_call 86; refine (upTo_any _ _).mono ?_; rintro e w' ⟨rfl, rfl⟩)
    | (go_at_call 87; refine (rangeUpTo_any _ _).mono ?_; rintro e w' ⟨rfl, rfl⟩))
  go_cut [1, 3, 4, 6, 7] (fun s1 s3 s4 s6 s7 W => s1 = .pointer (some ⟨w.heap.size, 0, none⟩) ∧ s3 = .pointer (some ⟨w.heap.size + 1, 0, none⟩) ∧ s4 = .func (.func 117) #[] #[.pointer (some ⟨w.heap.size + 1 + 1, 0, none⟩)] ∧
    s6 = .func (.func 88) #[] #[.pointer (some ⟨w.heap.size + 1, 0, none⟩), .pointer (some ⟨w.heap.size + 1 + 1 + 1 + 1, 0, none⟩)] ∧ s7 = .func (.func 118) #[] #[.pointer (some ⟨w.heap.size + 1 + 1 + 1 + 1 + 1, 0, none⟩)] ∧ Aside (VAt p w W))
  case first =>
    go_wp2_with (first
      | (go_at_call 87; refine (rangeUpTo_any _ _).mono ?_; rintro e w' ⟨rfl, rfl⟩))
    go_meet
    exact ⟨rfl, rfl, rfl, rfl, rfl, VAt.made p w⟩
  case rest =>
    obtain ⟨rfl, rfl, rfl, rfl, rfl, HV⟩ := hcut
    go_wp2_with fail
    have HD : VAt p w wc.drew := HV.out.below (Below.refl _ _).drew
    have HD1 : VAt p w (wc.drew.alloc (.cells #[.int .i64 1000000] 3)) := HD.below ((Below.refl _ _).alloc (Nat.le_refl _) _)
    have hz : (wc.drew.alloc (.cells #[.int .i64 1000000] 3)).cell? ⟨wc.heap.size, 0, none⟩ = some (.int .i64 1000000) := (Lies.fresh' rfl).one
    have HZ := Lib.hid hz
    have HS := HD.two
    have HV1 := Lib.hid HD1
    clear HD1 HD hz
    refine wp_region_held_drew (S := fun W => W.cell? ⟨w.heap.size + 1, 0, none⟩ = some (.int .i64 p.s.l.length) ∧ W.cell? ⟨w.heap.size, 0, none⟩ = some (.slice p.s.A p.s.l.length p.s.c)) (by kernel_rfl) HS ?_
    intro HS
    refine wpAnyH_take (i := 0) (v := ?_) rfl (by kernel_rfl) (by kernel_rfl) (by kernel_rfl) (fun _ _ _ h => h) (Or.inl ⟨by rfl, ?_⟩) HS ?_
    rotate_left
    · (intro W hSw; (try dsimp only at hSw); go_simp; try (with_reducible rfl))
    simp only [Act.put, List.setIfInBounds_toArray]
    refine wpAnyH_take (i := 1) (v := ?_) rfl (by kernel_rfl) (by kernel_rfl) (by kernel_rfl) (fun _ _ _ h => h) (Or.inl ⟨by rfl, ?_⟩) HS ?_
    rotate_left
    · (intro W hSw; (try dsimp only at hSw); go_simp; try (with_reducible rfl))
    simp only [Act.put]
    refine wpAnyH_take (i := 2) (v := ?_) rfl (by kernel_rfl) (by kernel_rfl) (by kernel_rfl) (fun _ _ _ h => h) (Or.inl ⟨by rfl, ?_⟩) HS ?_
    rotate_left
    · (intro W hSw; (try dsimp only at hSw); go_simp; try (with_reducible rfl))
    simp only [Act.put]
    refine wpAnyH_take (i := 3) (v := ?_) rfl (by kernel_rfl) (by kernel_rfl) (by kernel_rfl) (fun _ _ _ h => h) (Or.inl ⟨by rfl, ?_⟩) HS ?_
    rotate_left
    · (intro W hSw; (try dsimp only at hSw); go_simp; try (with_reducible rfl))
    simp only [Act.put]
    refine wpAnyH_take (i := 4) (v := ?_) rfl (by kernel_rfl) (by kernel_rfl) (by kernel_rfl) (fun _ _ _ h => h) (Or.inl ⟨by rfl, ?_⟩) HS ?_
    rotate_left
    · (intro W hSw; (try dsimp only at hSw); go_simp; try (with_reducible rfl))
    simp only [Act.put]
    refine wpAnyH_take (i := 5) (v := ?_) rfl (by kernel_rfl) (by kernel_rfl) (by kernel_rfl) (fun _ _ _ h => h) (Or.inl ⟨by rfl, ?_⟩) HS ?_
    rotate_left
    · (intro W hSw; (try dsimp only at hSw); go_simp; try (with_reducible rfl))
    simp only [Act.put]
    refine wpAnyH_ready (rs := [6]) (by kernel_rfl) (by simp) ?_
    refine AllReadyH.cons rfl (fun K hK => ?_) AllReadyH.nil
    go_simp
    refine (rangeUpTo_any _ _).mono ?_
    rintro e w1 ⟨rfl, rfl⟩
    refine hK.out _ _ HV1.out.two (fun _ => ?_)
    clear hK K
    try simp only [Act.put, List.setIfInBounds_toArray, List.set_cons_zero, List.set_cons_succ]
    generalize wc.drew.alloc (.cells #[.int .i64 1000000] 3) = w1 at HV1 HZ ⊢
    refine wpAnyH_below_from 7 _ (by kernel_rfl) (by kernel_rfl) (by kernel_rfl) (fun q => (HV1.out.below (below_regrown _ q.d q.os)).two) ?_
    simp only [List.drop_succ_cons, List.drop_zero]
    obtain ⟨c0, c1, c2, c3, c4, c5, c6, c7, c8⟩ := HV1.out.cells
    have c0' := cell_regrown c0
    have c1' := cell_regrown c1
    have c2' := cell_regrown c2
    have c3' := cell_regrown c3
    have c4' := cell_regrown c4
    have c5' := cell_regrown c5
    have c6' := cell_regrown c6
    have c7' := cell_regrown c7
    have c8' := cell_regrown c8
    clear c0 c1 c2 c3 c4 c5 c6 c7 c8 HS
    repeat (first | go_big_quiet_step (((first | (go_at_call 89; refine Calls.regrown_of (Q1.out _ (HV1.out.below (below_regrown _ _ _)) _ (cell_regrown HZ.out _ _))) | (go_at_call_of 90 (Value.slice p.r.A p.r.l.length p.r.c); refine Calls.regrown_of (Q2.out _ (HV1.out.below (below_regrown _ _ _)))) | (go_at_call 91; refine Calls.regrown_of (Q3.out _ (HV1.out.below (below_regrown _ _ _)))) | (go_at_call 93; refine Calls.regrown_of (Q4.out _ (HV1.out.below (below_regrown _ _ _)))) | (go_at_call_of 90 (Value.slice p.e.A p.e.l.length p.e.c); refine Calls.regrown_of (Q5.out _ (HV1.out.below (below_regrown _ _ _))))))) | quiet_step (((first | (go_at_call 89; refine Calls.regrown_of (Q1.out _ (HV1.out.below (below_regrown _ _ _)) _ (cell_regrown HZ.out _ _))) | (go_at_call_of 90 (Value.slice p.r.A p.r.l.length p.r.c); refine Calls.regrown_of (Q2.out _ (HV1.out.below (below_regrown _ _ _)))) | (go_at_call 91; refine Calls.regrown_of (Q3.out _ (HV1.out.below (below_regrown _ _ _)))) | (go_at_call 93; refine Calls.regrown_of (Q4.out _ (HV1.out.below (below_regrown _ _ _)))) | (go_at_call_of 90 (Value.slice p.e.A p.e.l.length p.e.c); refine Calls.regrown_of (Q5.out _ (HV1.out.below (below_regrown _ _ _))))))))
    refine wpQuiet_nil ?_
    intro wq hwq
    have hbq : Below _ _ wq := (by obtain ⟨q, rfl⟩ := hwq; exact below_regrown _ _ _)
    clear hwq c0' c1' c2' c3' c4' c5' c6' c7' c8'
    go_wp2
    go_ret
    exact ⟨rfl, (HV1.out.below hbq).b⟩
end Go.Proofs.Ytlkdmcdnkoiflaa
