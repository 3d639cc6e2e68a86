/- The texts F2 F3, joined. -/
import Derived.Test.YtlkdmcdnkoiflaaGA
import Derived.Test.YtlkdmcdnkoiflaaGB
/- isValid: where only one of the last conditions fails, or none. -/
namespace Go.Proofs.Ytlkdmcdnkoiflaa
open Go.RowKit Go.Lib

set_option maxHeartbeats 4000000 in
theorem isValid_no6 (p : PlM) (w : World) (hp : p.At w w.heap.size) (h0 : p.b 0 = true) (h1 : p.b 1 = true) (h2 : p.b 2 = true) (h3 : p.b 3 = true) (h4 : p.b 4 = true) (h5 : p.b 5 = true) (h6 : p.b 6 = false) :
    Calls Try.prog 57 #[.agg p.cells.toArray] w fun e w' => e = .returned (.bool false) ∧ Below w.heap.size w w' := by
  have q1 := fun W (h : VAt p w W) g hc => v1 (W := W) hp h g hc
  have q2 := fun W (h : VAt p w W) => v2 (W := W) hp h
  have q3 := fun W (h : VAt p w W) => v3 (W := W) hp h
  have q4 := fun W (h : VAt p w W) => v4 (W := W) hp h
  have q5 := fun W (h : VAt p w W) => v5 (W := W) hp h
  have q6 := fun W (h : VAt p w W) => v6 (W := W) hp h
  rw [h1] at q1; rw [h2] at q2; rw [h3] at q3; rw [h4] at q4; rw [h5] at q5; rw [h6] at q6
  have Q1 := Lib.hid q1; clear q1; have Q2 := Lib.hid q2; clear q2; have Q3 := Lib.hid q3; clear q3; have Q4 := Lib.hid q4; clear q4; have Q5 := Lib.hid q5; clear q5; have Q6 := Lib.hid q6; clear q6
  have hn : decide (1 ≤ (p.s.l.length : Int)) = true := h0
  have HP := Lib.hid hp
  clear hp h0 h1 h2 h3 h4 h5 h6
  unfold PlM.cells
  go_enter Try.func57, Try.ntmps57
  go_upto_region 4 with (first
    | (go_at_call 86; refine (upTo_any _ _).mono ?_; rintro e w' ⟨rfl, rfl⟩)
    | (go_at_call 87; refine (rangeUpTo_any _ _).mono ?_; rintro e w' ⟨rfl, rfl⟩))
  go_cut [1, 3, 4, 6, 7] (fun s1 s3 s4 s6 s7 W => s1 = .pointer (some ⟨w.heap.size, 0, none⟩) ∧ s3 = .pointer (some ⟨w.heap.size + 1, 0, none⟩) ∧ s4 = .func (.func 117) #[] #[.pointer (some ⟨w.heap.size + 1 + 1, 0, none⟩)] ∧
    s6 = .func (.func 88) #[] #[.pointer (some ⟨w.heap.size + 1, 0, none⟩), .pointer (some ⟨w.heap.size + 1 + 1 + 1 + 1, 0, none⟩)] ∧ s7 = .func (.func 118) #[] #[.pointer (some ⟨w.heap.size + 1 + 1 + 1 + 1 + 1, 0, none⟩)] ∧ Aside (VAt p w W))
  case first =>
    go_wp2_with (first
      | (go_at_call 87; refine (rangeUpTo_any _ _).mono ?_; rintro e w' ⟨rfl, rfl⟩))
    go_meet
    exact ⟨rfl, rfl, rfl, rfl, rfl, VAt.made p w⟩
  case rest =>
    obtain ⟨rfl, rfl, rfl, rfl, rfl, HV⟩ := hcut
    go_wp2_with fail
    have HD : VAt p w wc.drew := HV.out.below (Below.refl _ _).drew
    have HD1 : VAt p w (wc.drew.alloc (.cells #[.int .i64 1000000] 3)) := HD.below ((Below.refl _ _).alloc (Nat.le_refl _) _)
    have hz : (wc.drew.alloc (.cells #[.int .i64 1000000] 3)).cell? ⟨wc.heap.size, 0, none⟩ = some (.int .i64 1000000) := (Lies.fresh' rfl).one
    have HZ := Lib.hid hz
    have HS := HD.two
    have HV1 := Lib.hid HD1
    clear HD1 HD hz
    refine wp_region_held_drew (S := fun W => W.cell? ⟨w.heap.size + 1, 0, none⟩ = some (.int .i64 p.s.l.length) ∧ W.cell? ⟨w.heap.size, 0, none⟩ = some (.slice p.s.A p.s.l.length p.s.c)) (by kernel_rfl) HS ?_
    intro HS
    refine wpAnyH_take (i := 0) (v := ?_) rfl (by kernel_rfl) (by kernel_rfl) (by kernel_rfl) (fun _ _ _ h => h) (Or.inl ⟨by rfl, ?_⟩) HS ?_
    rotate_left
    · (intro W hSw; (try dsimp only at hSw); go_simp; try (with_reducible rfl))
    simp only [Act.put, List.setIfInBounds_toArray]
    refine wpAnyH_take (i := 1) (v := ?_) rfl (by kernel_rfl) (by kernel_rfl) (by kernel_rfl) (fun _ _ _ h => h) (Or.inl ⟨by rfl, ?_⟩) HS ?_
    rotate_left
    · (intro W hSw; (try dsimp only at hSw); go_simp; try (with_reducible rfl))
    simp only [Act.put]
    refine wpAnyH_take (i := 2) (v := ?_) rfl (by kernel_rfl) (by kernel_rfl) (by kernel_rfl) (fun _ _ _ h => h) (Or.inl ⟨by rfl, ?_⟩) HS ?_
    rotate_left
    · (intro W hSw; (try dsimp only at hSw); go_simp; try (with_reducible rfl))
    simp only [Act.put]
    refine wpAnyH_take (i := 3) (v := ?_) rfl (by kernel_rfl) (by kernel_rfl) (by kernel_rfl) (fun _ _ _ h => h) (Or.inl ⟨by rfl, ?_⟩) HS ?_
    rotate_left
    · (intro W hSw; (try dsimp only at hSw); go_simp; try (with_reducible rfl))
    simp only [Act.put]
    refine wpAnyH_take (i := 4) (v := ?_) rfl (by kernel_rfl) (by kernel_rfl) (by kernel_rfl) (fun _ _ _ h => h) (Or.inl ⟨by rfl, ?_⟩) HS ?_
    rotate_left
    · (intro W hSw; (try dsimp only at hSw); go_simp; try (with_reducible rfl))
    simp only [Act.put]
    refine wpAnyH_take (i := 5) (v := ?_) rfl (by kernel_rfl) (by kernel_rfl) (by kernel_rfl) (fun _ _ _ h => h) (Or.inl ⟨by rfl, ?_⟩) HS ?_
    rotate_left
    · (intro W hSw; (try dsimp only at hSw); go_simp; try (with_reducible rfl))
    simp only [Act.put]
    refine wpAnyH_ready (rs := [6]) (by kernel_rfl) (by simp) ?_
    refine AllReadyH.cons rfl (fun K hK => ?_) AllReadyH.nil
    go_simp
    refine (rangeUpTo_any _ _).mono ?_
    rintro e w1 ⟨rfl, rfl⟩
    refine hK.out _ _ HV1.out.two (fun _ => ?_)
    clear hK K
    try simp only [Act.put, List.setIfInBounds_toArray, List.set_cons_zero, List.set_cons_succ]
    generalize wc.drew.alloc (.cells #[.int .i64 1000000] 3) = w1 at HV1 HZ ⊢
    refine wpAnyH_below_from 7 _ (by kernel_rfl) (by kernel_rfl) (by kernel_rfl) (fun q => (HV1.out.below (below_regrown _ q.d q.os)).two) ?_
    simp only [List.drop_succ_cons, List.drop_zero]
    obtain ⟨c0, c1, c2, c3, c4, c5, c6, c7, c8⟩ := HV1.out.cells
    have c0' := cell_regrown c0
    have c1' := cell_regrown c1
    have c2' := cell_regrown c2
    have c3' := cell_regrown c3
    have c4' := cell_regrown c4
    have c5' := cell_regrown c5
    have c6' := cell_regrown c6
    have c7' := cell_regrown c7
    have c8' := cell_regrown c8
    clear c0 c1 c2 c3 c4 c5 c6 c7 c8 HS
    repeat (first | go_big_quiet_step (((first | (go_at_call 89; refine Calls.regrown_of (Q1.out _ (HV1.out.below (below_regrown _ _ _)) _ (cell_regrown HZ.out _ _))) | (go_at_call_of 90 (Value.slice p.r.A p.r.l.length p.r.c); refine Calls.regrown_of (Q2.out _ (HV1.out.below (below_regrown _ _ _)))) | (go_at_call 91; refine Calls.regrown_of (Q3.out _ (HV1.out.below (below_regrown _ _ _)))) | (go_at_call 93; refine Calls.regrown_of (Q4.out _ (HV1.out.below (below_regrown _ _ _)))) | (go_at_call_of 90 (Value.slice p.e.A p.e.l.length p.e.c); refine Calls.regrown_of (Q5.out _ (HV1.out.below (below_regrown _ _ _)))) | (go_at_call_of 90 (Value.slice p.k.A p.k.l.length p.k.c); refine Calls.regrown_of (Q6.out _ (HV1.out.below (below_regrown _ _ _))))))) | quiet_step (((first | (go_at_call 89; refine Calls.regrown_of (Q1.out _ (HV1.out.below (below_regrown _ _ _)) _ (cell_regrown HZ.out _ _))) | (go_at_call_of 90 (Value.slice p.r.A p.r.l.length p.r.c); refine Calls.regrown_of (Q2.out _ (HV1.out.below (below_regrown _ _ _)))) | (go_at_call 91; refine Calls.regrown_of (Q3.out _ (HV1.out.below (below_regrown _ _ _)))) | (go_at_call 93; refine Calls.regrown_of (Q4.out _ (HV1.out.below (below_regrown _ _ _)))) | (go_at_call_of 90 (Value.slice p.e.A p.e.l.length p.e.c); refine Calls.regrown_of (Q5.out _ (HV1.out.below (below_regrown _ _ _)))) | (go_at_call_of 90 (Value.slice p.k.A p.k.l.length p.k.c); refine Calls.regrown_of (Q6.out _ (HV1.out.below (below_regrown _ _ _))))))))
    refine wpQuiet_nil ?_
    intro wq hwq
    have hbq : Below _ _ wq := (by obtain ⟨q, rfl⟩ := hwq; exact below_regrown _ _ _)
    clear hwq c0' c1' c2' c3' c4' c5' c6' c7' c8'
    go_wp2
    go_ret
    exact ⟨rfl, (HV1.out.below hbq).b⟩
set_option maxHeartbeats 4000000 in
theorem isValid_no7 (p : PlM) (w : World) (hp : p.At w w.heap.size) (h0 : p.b 0 = true) (h1 : p.b 1 = true) (h2 : p.b 2 = true) (h3 : p.b 3 = true) (h4 : p.b 4 = true) (h5 : p.b 5 = true) (h6 : p.b 6 = true) (h7 : p.b 7 = false) :
    Calls Try.prog 57 #[.agg p.cells.toArray] w fun e w' => e = .returned (.bool false) ∧ Below w.heap.size w w' := by
  have q1 := fun W (h : VAt p w W) g hc => v1 (W := W) hp h g hc
  have q2 := fun W (h : VAt p w W) => v2 (W := W) hp h
  have q3 := fun W (h : VAt p w W) => v3 (W := W) hp h
  have q4 := fun W (h : VAt p w W) => v4 (W := W) hp h
  have q5 := fun W (h : VAt p w W) => v5 (W := W) hp h
  have q6 := fun W (h : VAt p w W) => v6 (W := W) hp h
  have q7 := fun W (h : VAt p w W) => v7 (W := W) h
  rw [h1] at q1; rw [h2] at q2; rw [h3] at q3; rw [h4] at q4; rw [h5] at q5; rw [h6] at q6; rw [h7] at q7
  have Q1 := Lib.hid q1; clear q1; have Q2 := Lib.hid q2; clear q2; have Q3 := Lib.hid q3; clear q3; have Q4 := Lib.hid q4; clear q4; have Q5 := Lib.hid q5; clear q5; have Q6 := Lib.hid q6; clear q6; have Q7 := Lib.hid q7; clear q7
  have hn : decide (1 ≤ (p.s.l.length : Int)) = true := h0
  have HP := Lib.hid hp
  clear hp h0 h1 h2 h3 h4 h5 h6 h7
  unfold PlM.cells
  go_enter Try.func57, Try.ntmps57
  go_upto_region 4 with (first
    | (go_at_call 86; refine (upTo_any _ _).mono ?_; rintro e w' ⟨rfl, rfl⟩)
    | (go_at_call 87; refine (rangeUpTo_any _ _).mono ?_; rintro e w' ⟨rfl, rfl⟩))
  go_cut [1, 3, 4, 6, 7] (fun s1 s3 s4 s6 s7 W => s1 = .pointer (some ⟨w.heap.size, 0, none⟩) ∧ s3 = .pointer (some ⟨w.heap.size + 1, 0, none⟩) ∧ s4 = .func (.func 117) #[] #[.pointer (some ⟨w.heap.size + 1 + 1, 0, none⟩)] ∧
    s6 = .func (.func 88) #[] #[.pointer (some ⟨w.heap.size + 1, 0, none⟩), .pointer (some ⟨w.heap.size + 1 + 1 + 1 + 1, 0, none⟩)] ∧ s7 = .func (.func 118) #[] #[.pointer (some ⟨w.heap.size + 1 + 1 + 1 + 1 + 1, 0, none⟩)] ∧ Aside (VAt p w W))
  case first =>
    go_wp2_with (first
      | (go_at_call 87; refine (rangeUpTo_any _ _).mono ?_; rintro e w' ⟨rfl, rfl⟩))
    go_meet
    exact ⟨rfl, rfl, rfl, rfl, rfl, VAt.made p w⟩
  case rest =>
    obtain ⟨rfl, rfl, rfl, rfl, rfl, HV⟩ := hcut
    go_wp2_with fail
    have HD : VAt p w wc.drew := HV.out.below (Below.refl _ _).drew
    have HD1 : VAt p w (wc.drew.alloc (.cells #[.int .i64 1000000] 3)) := HD.below ((Below.refl _ _).alloc (Nat.le_refl _) _)
    have hz : (wc.drew.alloc (.cells #[.int .i64 1000000] 3)).cell? ⟨wc.heap.size, 0, none⟩ = some (.int .i64 1000000) := (Lies.fresh' rfl).one
    have HZ := Lib.hid hz
    have HS := HD.two
    have HV1 := Lib.hid HD1
    clear HD1 HD hz
    refine wp_region_held_drew (S := fun W => W.cell? ⟨w.heap.size + 1, 0, none⟩ = some (.int .i64 p.s.l.length) ∧ W.cell? ⟨w.heap.size, 0, none⟩ = some (.slice p.s.A p.s.l.length p.s.c)) (by kernel_rfl) HS ?_
    intro HS
    refine wpAnyH_take (i := 0) (v := ?_) rfl (by kernel_rfl) (by kernel_rfl) (by kernel_rfl) (fun _ _ _ h => h) (Or.inl ⟨by rfl, ?_⟩) HS ?_
    rotate_left
    · (intro W hSw; (try dsimp only at hSw); go_simp; try (with_reducible rfl))
    simp only [Act.put, List.setIfInBounds_toArray]
    refine wpAnyH_take (i := 1) (v := ?_) rfl (by kernel_rfl) (by kernel_rfl) (by kernel_rfl) (fun _ _ _ h => h) (Or.inl ⟨by rfl, ?_⟩) HS ?_
    rotate_left
    · (intro W hSw; (try dsimp only at hSw); go_simp; try (with_reducible rfl))
    simp only [Act.put]
    refine wpAnyH_take (i := 2) (v := ?_) rfl (by kernel_rfl) (by kernel_rfl) (by kernel_rfl) (fun _ _ _ h => h) (Or.inl ⟨by rfl, ?_⟩) HS ?_
    rotate_left
    · (intro W hSw; (try dsimp only at hSw); go_simp; try (with_reducible rfl))
    simp only [Act.put]
    refine wpAnyH_take (i := 3) (v := ?_) rfl (by kernel_rfl) (by kernel_rfl) (by kernel_rfl) (fun _ _ _ h => h) (Or.inl ⟨by rfl, ?_⟩) HS ?_
    rotate_left
    · (intro W hSw; (try dsimp only at hSw); go_simp; try (with_reducible rfl))
    simp only [Act.put]
    refine wpAnyH_take (i := 4) (v := ?_) rfl (by kernel_rfl) (by kernel_rfl) (by kernel_rfl) (fun _ _ _ h => h) (Or.inl ⟨by rfl, ?_⟩) HS ?_
    rotate_left
    · (intro W hSw; (try dsimp only at hSw); go_simp; try (with_reducible rfl))
    simp only [Act.put]
    refine wpAnyH_take (i := 5) (v := ?_) rfl (by kernel_rfl) (by kernel_rfl) (by kernel_rfl) (fun _ _ _ h => h) (Or.inl ⟨by rfl, ?_⟩) HS ?_
    rotate_left
    · (intro W hSw; (try dsimp only at hSw); go_simp; try (with_reducible rfl))
    simp only [Act.put]
    refine wpAnyH_ready (rs := [6]) (by kernel_rfl) (by simp) ?_
    refine AllReadyH.cons rfl (fun K hK => ?_) AllReadyH.nil
    go_simp
    refine (rangeUpTo_any _ _).mono ?_
    rintro e w1 ⟨rfl, rfl⟩
    refine hK.out _ _ HV1.out.two (fun _ => ?_)
    clear hK K
    try simp only [Act.put, List.setIfInBounds_toArray, List.set_cons_zero, List.set_cons_succ]
    generalize wc.drew.alloc (.cells #[.int .i64 1000000] 3) = w1 at HV1 HZ ⊢
    refine wpAnyH_below_from 7 _ (by kernel_rfl) (by kernel_rfl) (by kernel_rfl) (fun q => (HV1.out.below (below_regrown _ q.d q.os)).two) ?_
    simp only [List.drop_succ_cons, List.drop_zero]
    obtain ⟨c0, c1, c2, c3, c4, c5, c6, c7, c8⟩ := HV1.out.cells
    have c0' := cell_regrown c0
    have c1' := cell_regrown c1
    have c2' := cell_regrown c2
    have c3' := cell_regrown c3
    have c4' := cell_regrown c4
    have c5' := cell_regrown c5
    have c6' := cell_regrown c6
    have c7' := cell_regrown c7
    have c8' := cell_regrown c8
    clear c0 c1 c2 c3 c4 c5 c6 c7 c8 HS
    repeat (first | go_big_quiet_step (((first | (go_at_call 89; refine Calls.regrown_of (Q1.out _ (HV1.out.below (below_regrown _ _ _)) _ (cell_regrown HZ.out _ _))) | (go_at_call_of 90 (Value.slice p.r.A p.r.l.length p.r.c); refine Calls.regrown_of (Q2.out _ (HV1.out.below (below_regrown _ _ _)))) | (go_at_call 91; refine Calls.regrown_of (Q3.out _ (HV1.out.below (below_regrown _ _ _)))) | (go_at_call 93; refine Calls.regrown_of (Q4.out _ (HV1.out.below (below_regrown _ _ _)))) | (go_at_call_of 90 (Value.slice p.e.A p.e.l.length p.e.c); refine Calls.regrown_of (Q5.out _ (HV1.out.below (below_regrown _ _ _)))) | (go_at_call_of 90 (Value.slice p.k.A p.k.l.length p.k.c); refine Calls.regrown_of (Q6.out _ (HV1.out.below (below_regrown _ _ _)))) | (go_at_call 118; refine Calls.regrown_of (Q7.out _ (HV1.out.below (below_regrown _ _ _))))))) | quiet_step (((first | (go_at_call 89; refine Calls.regrown_of (Q1.out _ (HV1.out.below (below_regrown _ _ _)) _ (cell_regrown HZ.out _ _))) | (go_at_call_of 90 (Value.slice p.r.A p.r.l.length p.r.c); refine Calls.regrown_of (Q2.out _ (HV1.out.below (below_regrown _ _ _)))) | (go_at_call 91; refine Calls.regrown_of (Q3.out _ (HV1.out.below (below_regrown _ _ _)))) | (go_at_call 93; refine Calls.regrown_of (Q4.out _ (HV1.out.below (below_regrown _ _ _)))) | (go_at_call_of 90 (Value.slice p.e.A p.e.l.length p.e.c); refine Calls.regrown_of (Q5.out _ (HV1.out.below (below_regrown _ _ _)))) | (go_at_call_of 90 (Value.slice p.k.A p.k.l.length p.k.c); refine Calls.regrown_of (Q6.out _ (HV1.out.below (below_regrown _ _ _)))) | (go_at_call 118; refine Calls.regrown_of (Q7.out _ (HV1.out.below (below_regrown _ _ _))))))))
    refine wpQuiet_nil ?_
    intro wq hwq
    have hbq : Below _ _ wq := (by obtain ⟨q, rfl⟩ := hwq; exact below_regrown _ _ _)
    clear hwq c0' c1' c2' c3' c4' c5' c6' c7' c8'
    go_wp2
    go_ret
    exact ⟨rfl, (HV1.out.below hbq).b⟩
set_option maxHeartbeats 4000000 in
theorem isValid_all (p : PlM) (w : World) (hp : p.At w w.heap.size) (h0 : p.b 0 = true) (h1 : p.b 1 = true) (h2 : p.b 2 = true) (h3 : p.b 3 = true) (h4 : p.b 4 = true) (h5 : p.b 5 = true) (h6 : p.b 6 = true) (h7 : p.b 7 = true) (b8 : Bool) (h8 : p.b 8 = b8) :
    Calls Try.prog 57 #[.agg p.cells.toArray] w fun e w' => e = .returned (.bool b8) ∧ Below w.heap.size w w' := by
  have q1 := fun W (h : VAt p w W) g hc => v1 (W := W) hp h g hc
  have q2 := fun W (h : VAt p w W) => v2 (W := W) hp h
  have q3 := fun W (h : VAt p w W) => v3 (W := W) hp h
  have q4 := fun W (h : VAt p w W) => v4 (W := W) hp h
  have q5 := fun W (h : VAt p w W) => v5 (W := W) hp h
  have q6 := fun W (h : VAt p w W) => v6 (W := W) hp h
  have q7 := fun W (h : VAt p w W) => v7 (W := W) h
  have q8 := fun W => v8 (p := p) (W := W)
  rw [h1] at q1; rw [h2] at q2; rw [h3] at q3; rw [h4] at q4; rw [h5] at q5; rw [h6] at q6; rw [h7] at q7; rw [h8] at q8
  have Q1 := Lib.hid q1; clear q1; have Q2 := Lib.hid q2; clear q2; have Q3 := Lib.hid q3; clear q3; have Q4 := Lib.hid q4; clear q4; have Q5 := Lib.hid q5; clear q5; have Q6 := Lib.hid q6; clear q6; have Q7 := Lib.hid q7; clear q7; have Q8 := Lib.hid q8; clear q8
  have hn : decide (1 ≤ (p.s.l.length : Int)) = true := h0
  have HP := Lib.hid hp
  clear hp h0 h1 h2 h3 h4 h5 h6 h7 h8
  unfold PlM.cells
  go_enter Try.func57, Try.ntmps57
  go_upto_region 4 with (first
    | (go_at_call 86; refine (upTo_any _ _).mono ?_; rintro e w' ⟨rfl, rfl⟩)
    | (go_at_call 87; refine (rangeUpTo_any _ _).mono ?_; rintro e w' ⟨rfl, rfl⟩))
  go_cut [1, 3, 4, 6, 7] (fun s1 s3 s4 s6 s7 W => s1 = .pointer (some ⟨w.heap.size, 0, none⟩) ∧ s3 = .pointer (some ⟨w.heap.size + 1, 0, none⟩) ∧ s4 = .func (.func 117) #[] #[.pointer (some ⟨w.heap.size + 1 + 1, 0, none⟩)] ∧
    s6 = .func (.func 88) #[] #[.pointer (some ⟨w.heap.size + 1, 0, none⟩), .pointer (some ⟨w.heap.size + 1 + 1 + 1 + 1, 0, none⟩)] ∧ s7 = .func (.func 118) #[] #[.pointer (some ⟨w.heap.size + 1 + 1 + 1 + 1 + 1, 0, none⟩)] ∧ Aside (VAt p w W))
  case first =>
    go_wp2_with (first
      | (go_at_call 87; refine (rangeUpTo_any _ _).mono ?_; rintro e w' ⟨rfl, rfl⟩))
    go_meet
    exact ⟨rfl, rfl, rfl, rfl, rfl, VAt.made p w⟩
  case rest =>
    obtain ⟨rfl, rfl, rfl, rfl, rfl, HV⟩ := hcut
    go_wp2_with fail
    have HD : VAt p w wc.drew := HV.out.below (Below.refl _ _).drew
    have HD1 : VAt p w (wc.drew.alloc (.cells #[.int .i64 1000000] 3)) := HD.below ((Below.refl _ _).alloc (Nat.le_refl _) _)
    have hz : (wc.drew.alloc (.cells #[.int .i64 1000000] 3)).cell? ⟨wc.heap.size, 0, none⟩ = some (.int .i64 1000000) := (Lies.fresh' rfl).one
    have HZ := Lib.hid hz
    have HS := HD.two
    have HV1 := Lib.hid HD1
    clear HD1 HD hz
    refine wp_region_held_drew (S := fun W => W.cell? ⟨w.heap.size + 1, 0, none⟩ = some (.int .i64 p.s.l.length) ∧ W.cell? ⟨w.heap.size, 0, none⟩ = some (.slice p.s.A p.s.l.length p.s.c)) (by kernel_rfl) HS ?_
    intro HS
    refine wpAnyH_take (i := 0) (v := ?_) rfl (by kernel_rfl) (by kernel_rfl) (by kernel_rfl) (fun _ _ _ h => h) (Or.inl ⟨by rfl, ?_⟩) HS ?_
    rotate_left
    · (intro W hSw; (try dsimp only at hSw); go_simp; try (with_reducible rfl))
    simp only [Act.put, List.setIfInBounds_toArray]
    refine wpAnyH_take (i := 1) (v := ?_) rfl (by kernel_rfl) (by kernel_rfl) (by kernel_rfl) (fun _ _ _ h => h) (Or.inl ⟨by rfl, ?_⟩) HS ?_
    rotate_left
    · (intro W hSw; (try dsimp only at hSw); go_simp; try (with_reducible rfl))
    simp only [Act.put]
    refine wpAnyH_take (i := 2) (v := ?_) rfl (by kernel_rfl) (by kernel_rfl) (by kernel_rfl) (fun _ _ _ h => h) (Or.inl ⟨by rfl, ?_⟩) HS ?_
    rotate_left
    · (intro W hSw; (try dsimp only at hSw); go_simp; try (with_reducible rfl))
    simp only [Act.put]
    refine wpAnyH_take (i := 3) (v := ?_) rfl (by kernel_rfl) (by kernel_rfl) (by kernel_rfl) (fun _ _ _ h => h) (Or.inl ⟨by rfl, ?_⟩) HS ?_
    rotate_left
    · (intro W hSw; (try dsimp only at hSw); go_simp; try (with_reducible rfl))
    simp only [Act.put]
    refine wpAnyH_take (i := 4) (v := ?_) rfl (by kernel_rfl) (by kernel_rfl) (by kernel_rfl) (fun _ _ _ h => h) (Or.inl ⟨by rfl, ?_⟩) HS ?_
    rotate_left
    · (intro W hSw; (try dsimp only at hSw); go_simp; try (with_reducible rfl))
    simp only [Act.put]
    refine wpAnyH_take (i := 5) (v := ?_) rfl (by kernel_rfl) (by kernel_rfl) (by kernel_rfl) (fun _ _ _ h => h) (Or.inl ⟨by rfl, ?_⟩) HS ?_
    rotate_left
    · (intro W hSw; (try dsimp only at hSw); go_simp; try (with_reducible rfl))
    simp only [Act.put]
    refine wpAnyH_ready (rs := [6]) (by kernel_rfl) (by simp) ?_
    refine AllReadyH.cons rfl (fun K hK => ?_) AllReadyH.nil
    go_simp
    refine (rangeUpTo_any _ _).mono ?_
    rintro e w1 ⟨rfl, rfl⟩
    refine hK.out _ _ HV1.out.two (fun _ => ?_)
    clear hK K
    try simp only [Act.put, List.setIfInBounds_toArray, List.set_cons_zero, List.set_cons_succ]
    generalize wc.drew.alloc (.cells #[.int .i64 1000000] 3) = w1 at HV1 HZ ⊢
    refine wpAnyH_below_from 7 _ (by kernel_rfl) (by kernel_rfl) (by kernel_rfl) (fun q => (HV1.out.below (below_regrown _ q.d q.os)).two) ?_
    simp only [List.drop_succ_cons, List.drop_zero]
    obtain ⟨c0, c1, c2, c3, c4, c5, c6, c7, c8⟩ := HV1.out.cells
    have c0' := cell_regrown c0
    have c1' := cell_regrown c1
    have c2' := cell_regrown c2
    have c3' := cell_regrown c3
    have c4' := cell_regrown c4
    have c5' := cell_regrown c5
    have c6' := cell_regrown c6
    have c7' := cell_regrown c7
    have c8' := cell_regrown c8
    clear c0 c1 c2 c3 c4 c5 c6 c7 c8 HS
    repeat (first | go_big_quiet_step (((first | (go_at_call 89; refine Calls.regrown_of (Q1.out _ (HV1.out.below (below_regrown _ _ _)) _ (cell_regrown HZ.out _ _))) | (go_at_call_of 90 (Value.slice p.r.A p.r.l.length p.r.c); refine Calls.regrown_of (Q2.out _ (HV1.out.below (below_regrown _ _ _)))) | (go_at_call 91; refine Calls.regrown_of (Q3.out _ (HV1.out.below (below_regrown _ _ _)))) | (go_at_call 93; refine Calls.regrown_of (Q4.out _ (HV1.out.below (below_regrown _ _ _)))) | (go_at_call_of 90 (Value.slice p.e.A p.e.l.length p.e.c); refine Calls.regrown_of (Q5.out _ (HV1.out.below (below_regrown _ _ _)))) | (go_at_call_of 90 (Value.slice p.k.A p.k.l.length p.k.c); refine Calls.regrown_of (Q6.out _ (HV1.out.below (below_regrown _ _ _)))) | (go_at_call 118; refine Calls.regrown_of (Q7.out _ (HV1.out.below (below_regrown _ _ _)))) | (go_at_call 94; refine Calls.regrown_of ((Q8.out _).mono fun e w' ⟨h1, h2⟩ => ⟨h1, h2 ▸ Below.refl _ _⟩))))) | quiet_step (((first | (go_at_call 89; refine Calls.regrown_of (Q1.out _ (HV1.out.below (below_regrown _ _ _)) _ (cell_regrown HZ.out _ _))) | (go_at_call_of 90 (Value.slice p.r.A p.r.l.length p.r.c); refine Calls.regrown_of (Q2.out _ (HV1.out.below (below_regrown _ _ _)))) | (go_at_call 91; refine Calls.regrown_of (Q3.out _ (HV1.out.below (below_regrown _ _ _)))) | (go_at_call 93; refine Calls.regrown_of (Q4.out _ (HV1.out.below (below_regrown _ _ _)))) | (go_at_call_of 90 (Value.slice p.e.A p.e.l.length p.e.c); refine Calls.regrown_of (Q5.out _ (HV1.out.below (below_regrown _ _ _)))) | (go_at_call_of 90 (Value.slice p.k.A p.k.l.length p.k.c); refine Calls.regrown_of (Q6.out _ (HV1.out.below (below_regrown _ _ _)))) | (go_at_call 118; refine Calls.regrown_of (Q7.out _ (HV1.out.below (below_regrown _ _ _)))) | (go_at_call 94; refine Calls.regrown_of ((Q8.out _).mono fun e w' ⟨h1, h2⟩ => ⟨h1, h2 ▸ Below.refl _ _⟩))))))
    refine wpQuiet_nil ?_
    intro wq hwq
    have hbq : Below _ _ wq := (by obtain ⟨q, rfl⟩ := hwq; exact below_regrown _ _ _)
    clear hwq c0' c1' c2' c3' c4' c5' c6' c7' c8'
    go_wp2
    go_ret
    exact ⟨rfl, (HV1.out.below hbq).b⟩
end Go.Proofs.Ytlkdmcdnkoiflaa

/- isValid, CheckPlan. -/
namespace Go.Proofs.Ytlkdmcdnkoiflaa
open Go.RowKit Go.Lib

theorem isValid_any (p : PlM) (w : World) (hp : p.At w w.heap.size) :
    Calls Try.prog 57 #[.agg p.cells.toArray] w fun e w' => e = .returned (.bool p.validB) ∧ Below w.heap.size w w' := by
  unfold PlM.validB
  cases h0 : p.b 0 with
  | false => exact isValid_no0 p w hp h0
  | true => cases h1 : p.b 1 with
  | false => exact isValid_no1 p w hp h0 h1
  | true => cases h2 : p.b 2 with
  | false => exact isValid_no2 p w hp h0 h1 h2
  | true => cases h3 : p.b 3 with
  | false => exact isValid_no3 p w hp h0 h1 h2 h3
  | true => cases h4 : p.b 4 with
  | false => exact isValid_no4 p w hp h0 h1 h2 h3 h4
  | true => cases h5 : p.b 5 with
  | false => exact isValid_no5 p w hp h0 h1 h2 h3 h4 h5
  | true => cases h6 : p.b 6 with
  | false => exact isValid_no6 p w hp h0 h1 h2 h3 h4 h5 h6
  | true => cases h7 : p.b 7 with
  | false => exact isValid_no7 p w hp h0 h1 h2 h3 h4 h5 h6 h7
  | true => exact isValid_all p w hp h0 h1 h2 h3 h4 h5 h6 h7 _ rfl
/-- The error of a plan: its number. -/
def PlM.fault (p : PlM) : Int := if 5 < p.s.l.length then 3 else if p.validB then 0 else 1
theorem CheckPlan_any (p : PlM) (w : World) (hp : p.At w w.heap.size) :
    Calls Try.prog 20 #[.agg p.cells.toArray] w fun e w' => e = .returned (.int .i64 p.fault) ∧ Below w.heap.size w w' := by
  have hb0 : Below w.heap.size w (w.alloc (.cells p.cells.toArray 41)) := (Below.refl _ _).alloc (Nat.le_refl _) _
  have V := isValid_any p (w.alloc (.cells p.cells.toArray 41)) (hp.below hb0 hb0.size)
  have hl := hp.ls
  by_cases h : (5 : Int) < (p.s.l.length : Int)
  · have hf : p.fault = 3 := by unfold PlM.fault; rw [if_pos (by omega)]
    have HF := Lib.hid hf
    clear hf V hp hb0
    unfold PlM.cells
    go_enter Try.func20, Try.ntmps20
    go_wp2
    go_ret
    exact ⟨ret_int HF.out.symm, (by repeat (first | (with_reducible assumption) | (with_reducible exact Below.refl _ _) | (with_reducible refine Below.drew ?_) | (with_reducible refine below_drewN ?_ _) | ((with_reducible refine Below.setCell ?_ ?_ _); rotate_left; focus (first | (simp; done) | (simp; omega) | omega)) | ((with_reducible refine Below.alloc ?_ ?_ _); rotate_left; focus (first | (simp; done) | (simp; omega) | omega))))⟩
  · have hf : p.fault = if p.validB then 0 else 1 := by unfold PlM.fault; rw [if_neg (by omega)]
    have HF := Lib.hid hf
    clear hf hp
    cases hv : p.validB <;> rw [hv] at V HF <;> clear hv
    all_goals
      unfold PlM.cells at V ⊢
      have HV := Lib.hid V
      have HB := Lib.hid hb0
      clear V hb0
      go_enter Try.func20, Try.ntmps20
      go_wp2_with (go_at_call 57; refine HV.out.mono ?_; rintro e w' ⟨rfl, hb⟩)
      go_ret
      exact ⟨ret_int (by rw [HF.out]; rfl), HB.out.trans (hb.mono HB.out.size)⟩
end Go.Proofs.Ytlkdmcdnkoiflaa
