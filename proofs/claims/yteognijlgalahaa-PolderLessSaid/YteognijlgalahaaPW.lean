/- The law's copy of a polder. -/
import Derived.Test.YteognijlgalahaaPV
namespace Go.Proofs.Yteognijlgalahaa
open Go.RowKit Go.Lib
attribute [local go_sem] Oper.semAt_some

theorem info_dz : (Try.prog.info? 72).map (fun i => (i.zero, i.size, i.bytes)) = some (some (.agg #[.int .i64 0, .int .i64 0, .int .i64 0, .int .i64 0, .int .i64 0]), 5, 40) := by kernel_rfl
theorem zero_dy : ∃ i z, Try.prog.info? 72 = some i ∧ i.zero = some z ∧ i.size = 5 ∧ i.bytes = 40 ∧ z.cells.size = 5 := by
  obtain ⟨i, hi, hp⟩ := Option.map_eq_some_iff.1 info_dz
  exact ⟨i, _, hi, congrArg (·.1) hp, congrArg (·.2.1) hp, congrArg (·.2.2) hp, rfl⟩
theorem flat_one {l : List Dy} : ∀ u ∈ l.flatMap encD, u.oneCell' = true := fun u hu => by
  obtain ⟨z, _, hz⟩ := List.mem_flatMap.1 hu
  exact encD_one z u hz
/-- append of days to a row of one's own. -/
theorem wpList_app_days {ops : Array Oper} {rest : List Oper} {o : Oper} {a : Act} {w : World} {Q : Exit → Act → World → Prop} (hgd : o.guard = none) (s x : Operand) (ho : o.op = .call { callee := .builtin .append, args := #[s, x], argTypes := #[32, 32] })
    (base : Nat) (v : Value) (xs : List Dy) (hs : a.eval s = v) (hown : w.ownsRow base 72 5 v xs.length (xs.flatMap encD)) (A : Option Addr) (c : Nat) (ys : List Dy) (hx : a.eval x = .slice A ys.length c) (hA : A = none → ys.length = 0 ∧ c = 0) (hy : Sl w w.heap.size 5 encD A ys) (hl : xs.length + ys.length ≤ 1000) (hb : base ≤ w.heap.size)
    (h : ∀ v' w', w'.ownsRow base 72 5 v' (xs ++ ys).length ((xs ++ ys).flatMap encD) → Below base w w' → w.grownBy w' v.ownBlock → wpList Try.prog ops Q rest (a.put o.dst v') w') : wpList Try.prog ops Q (o :: rest) a w := by
  obtain ⟨i0, z0, hi, hz0, hz1, hz2, hz3⟩ := zero_dy
  have hln : (ys.flatMap encD).length = ys.length * 5 := flat_len (enc := encD) (fun _ => rfl) _
  refine wpList_append_sl hgd s x 32 ho base 72 i0 _ 5 40 Try.underlying32 hi hz0 hz1 hz2 hz3 (by decide) v xs.length _ hs hown A ys.length c (ys.flatMap encD) hx hln hA (hy.news (enc := encD) (fun _ => rfl)) flat_one (by unfold maxLen; omega) (by omega) hb ?_
  intro v' w' hown' hg _
  refine h v' w' (by rw [List.length_append, List.flatMap_append]; exact hown') ((Below.refl base w).grown hg hb (fun k e => (hown.lt k e).1)) hg
def PoM.part (q : PoM) (v : Value) : List Value := [.int .i64 q.low, .int .i64 q.high, .int .i64 q.slo, .int .i64 q.shi, .int .i64 q.pump, .int .i64 q.inl, v]
def zpo : List Value := [.int .i64 0, .int .i64 0, .int .i64 0, .int .i64 0, .int .i64 0, .int .i64 0, .slice none 0 0]
def zdy : List Value := [.int .i64 0, .int .i64 0, .int .i64 0, .int .i64 0, .int .i64 0]
theorem size_rd : (Try.prog.info? 76).map (·.size) = some 5 := by kernel_rfl
/-- What the copy has. -/
structure CpM (q : PoM) (w : World) (v : Value) (k : Nat) (V : World) : Prop where
  b : Lies V w.heap.size 26 q.cells.toArray
  z : Lies V (w.heap.size + 1) 34 zpo.toArray
  o : Lies V (w.heap.size + 2) 34 (q.part v).toArray
  r : V.ownsRow (w.heap.size + 3) 72 5 v (q.ds.l.take k).length ((q.ds.l.take k).flatMap encD)
  w : Below w.heap.size w V
theorem CpM.call {q : PoM} {w : World} {v : Value} {k : Nat} {V V' : World} (h : CpM q w v k V) (hb : Below V.heap.size V V') : CpM q w v k V' := ⟨h.b.call hb, h.z.call hb, h.o.call hb, ownsRow_call h.r hb, h.w.trans (hb.mono h.w.size)⟩
theorem CpM.app {q : PoM} {w : World} {v v' : Value} {k : Nat} {d : Dy} {V V' : World} (h : CpM q w v k V) (hd : q.ds.l[k]? = some d) (ho : V'.ownsRow (w.heap.size + 3) 72 5 v' ((q.ds.l.take k) ++ [d]).length (((q.ds.l.take k) ++ [d]).flatMap encD)) (hb : Below (w.heap.size + 3) V V') :
    CpM q w v' (k + 1) (V'.setCell ⟨w.heap.size + 2, 6, none⟩ v') := by
  have hon := Only.set (w.heap.size + 2) 6 V' v'
  have e : q.ds.l.take (k + 1) = q.ds.l.take k ++ [d] := by rw [List.take_add_one, hd]; rfl
  have h1 : Lies V' (w.heap.size + 2) 34 (q.part v).toArray := h.o.to_ (hb.block _ (by omega))
  refine ⟨hon.lies (h.b.to_ (hb.block _ (by omega))) (by omega), hon.lies (h.z.to_ (hb.block _ (by omega))) (by omega), h1.set 6 v', ?_, hon.below (h.w.trans (hb.mono (by omega))) (by omega)⟩
  rw [e]
  exact own_keep ho fun g hv => hon.block g (by have := (own_at ho hv).1; omega)
theorem part_one (q : PoM) {W : World} {base n : Nat} {e : TypeId} {size : Nat} {v : Value} {xs : List Value} (h : W.ownsRow base e size v n xs) : ∀ u ∈ q.part v, u.oneCell' = true := by
  intro u hu
  simp only [PoM.part, List.mem_cons, List.not_mem_nil, or_false] at hu
  rcases hu with rfl | rfl | rfl | rfl | rfl | rfl | rfl
  iterate 6 rfl
  rcases h.2 with ⟨rfl, _⟩ | ⟨g, cap, cur, rfl, _⟩ <;> rfl
def PoM.withA (q : PoM) (A : Option Addr) (c : Nat) : PoM := { q with ds := ⟨A, q.ds.l, c⟩ }
set_option maxRecDepth 100000 in
set_option maxHeartbeats 8000000 in
theorem Copy_any (q : PoM) (w : World) (hq : q.At w w.heap.size) (hl : q.ds.l.length ≤ 15) : Calls Try.prog 18 #[.agg q.cells.toArray] w fun e w' => ∃ A c, e = .returned (.agg (q.withA A c).cells.toArray) ∧ (q.withA A c).At w' w'.heap.size ∧ Below w.heap.size w w' := by
  obtain ⟨N, hN⟩ : ∃ N, N = q.ds.l.length := ⟨_, rfl⟩
  have b0 : Below w.heap.size w ((w.alloc (.cells q.cells.toArray 26)).alloc (.cells zpo.toArray 34)) := (by repeat (first | (with_reducible assumption) | (with_reducible exact Below.refl _ _) | (with_reducible refine Below.drew ?_) | (with_reducible refine below_drewN ?_ _) | ((with_reducible refine Below.setCell ?_ ?_ _); rotate_left; focus (first | (simp; done) | (simp; omega) | omega)) | ((with_reducible refine Below.alloc ?_ ?_ _); rotate_left; focus (first | (simp; done) | (simp; omega) | omega))))
  have l0 : Lies ((w.alloc (.cells q.cells.toArray 26)).alloc (.cells zpo.toArray 34)) w.heap.size 26 q.cells.toArray := (Lies.fresh _ _ _).alloc _
  have l1 : Lies ((w.alloc (.cells q.cells.toArray 26)).alloc (.cells zpo.toArray 34)) (w.heap.size + 1) 34 zpo.toArray := Lies.fresh' (by simp)
  have hz0 : ((w.alloc (.cells q.cells.toArray 26)).alloc (.cells zpo.toArray 34)).heap.size = w.heap.size + 2 := by simp
  have HQ := Lib.hid hq
  have HN := Lib.hid hN
  have hNz : N ≤ 15 := by omega
  have B0 := Lib.hid b0
  have L0 := Lib.hid l0
  have L1 := Lib.hid l1
  have HZ := Lib.hid hz0
  clear hq hN hl b0 l0 l1 hz0
  go_enter Try.func18, Try.ntmps18
  go_upto_region 1 with (fail)
  change Code.wp _ _ _ _ ((w.alloc (.cells q.cells.toArray 26)).alloc (.cells zpo.toArray 34))
  generalize (w.alloc (.cells q.cells.toArray 26)).alloc (.cells zpo.toArray 34) = w1 at *
  have a0 : w1.cell? ⟨w.heap.size, 0, none⟩ = some (.int .i64 q.low) := L0.out.at_ 0
  have a1 : w1.cell? ⟨w.heap.size, 1, none⟩ = some (.int .i64 q.high) := L0.out.at_ 1
  have a2 : w1.cell? ⟨w.heap.size, 2, none⟩ = some (.int .i64 q.slo) := L0.out.at_ 2
  have a3 : w1.cell? ⟨w.heap.size, 3, none⟩ = some (.int .i64 q.shi) := L0.out.at_ 3
  have a4 : w1.cell? ⟨w.heap.size, 4, none⟩ = some (.int .i64 q.pump) := L0.out.at_ 4
  have a5 : w1.cell? ⟨w.heap.size, 5, none⟩ = some (.int .i64 q.inl) := L0.out.at_ 5
  go_upto_region 2 with (fail)
  have hM : CpM q w (.slice none 0 0) 0 (w1.alloc (.cells (q.part (.slice none 0 0)).toArray 34)) :=
    ⟨L0.out.alloc _, L1.out.alloc _, Lies.fresh' HZ.out, by simpa using World.ownsRow_nil _ _ _ _, B0.out.alloc B0.out.size _⟩
  have HM := Lib.hid hM
  rw [HZ.out]
  clear hM a0 a1 a2 a3 a4 a5 B0 L0 L1 HZ
  change Code.wp _ _ _ _ (w1.alloc (.cells (q.part (.slice none 0 0)).toArray 34))
  generalize w1.alloc (.cells (q.part (.slice none 0 0)).toArray 34) = w2 at *
  go_wp2
  go_loopw [4, 5] (fun s4 _ wr => ∃ (k : Nat) (v : Value), k ≤ N ∧ s4 = .int .i64 k ∧ Aside (CpM q w v k wr)) (fun i _ _ => N - (intOf i).toNat)
  case atStart => exact ⟨0, .slice none 0 0, by omega, rfl, HM.out⟩
  case round =>
    obtain ⟨k, v, hkN, rfl, HW⟩ := hrel
    have a24 : wr.cell? ⟨w.heap.size, 6, none⟩ = some (.slice q.ds.A N q.ds.c) := by rw [HN.out]; exact HW.out.b.at_ 6
    by_cases hlt : k < N
    · have hltz : (k : Int) < (N : Int) := by omega
      have hk0 : (0 : Int) ≤ (k : Int) := by omega
      have hNz2 : (N : Int) ≤ 15 := by omega
      have hdl : k < q.ds.l.length := by have := HN.out; omega
      obtain ⟨d, hd⟩ : ∃ d, q.ds.l[k]? = some d := ⟨q.ds.l[k]'hdl, by simp⟩
      obtain ⟨bd, od, hA, hbd, hrg⟩ := Sl.cellD (HQ.out.s.below HW.out.w) hd
      rw [hA] at a24
      have HRG := Lib.hid hrg
      have HD := Lib.hid hd
      have HW0 := Lib.hid HW.out
      clear hA hbd hrg hd HW hdl
      have K33 := Lib.hid True.intro
      go_upto_region 6 with (first
        | (have h := K33; clear h; refine wpList_load_mid (op := ⟨some 33, _, _, _, _, _⟩) ?_ 76 (.tmp 32) ?_ bd (od + k * 5) ?_ (encD d) _ HRG.out Try.underlying76 rfl size_rd ?_; rfl; rfl; rfl; clear K33))
      have M3 := Lib.hid (HW0.out.call ((Below.refl wr.heap.size wr).alloc (Nat.le_refl _) (.cells (encD d).toArray 76)))
      have R3 := Lib.hid (Lies.fresh wr 76 (encD d).toArray)
      change Code.wp _ _ _ _ (wr.alloc (.cells (encD d).toArray 76))
      clear HW0 a24 HRG
      generalize wr.alloc (.cells (encD d).toArray 76) = w3 at *
      generalize wr.heap.size = g5 at *
      have b0 : w3.cell? ⟨g5, 0, none⟩ = some (.int .i64 d.lo) := R3.out.at_ 0
      have b1 : w3.cell? ⟨g5, 1, none⟩ = some (.int .i64 d.hi) := R3.out.at_ 1
      have b2 : w3.cell? ⟨g5, 2, none⟩ = some (.int .i64 d.sp) := R3.out.at_ 2
      have b3 : w3.cell? ⟨g5, 3, none⟩ = some (.int .i64 d.ou) := R3.out.at_ 3
      have b4 : w3.cell? ⟨g5, 4, none⟩ = some (.int .i64 d.inn) := R3.out.at_ 4
      have b5 : w3.cell? ⟨w.heap.size + 2, 6, none⟩ = some v := M3.out.o.at_ 6
      have M4 := Lib.hid (M3.out.call ((Below.refl w3.heap.size w3).alloc (Nat.le_refl _) (.cells (encD d).toArray 72)))
      have S4 := Lib.hid (show Sl (w3.alloc (.cells (encD d).toArray 72)) (w3.alloc (.cells (encD d).toArray 72)).heap.size 5 encD (some ⟨w3.heap.size, 0, none⟩) [d] from sl_of_lies (t := 72) (enc := encD) (l := [d]) (fun _ => rfl) (Lies.fresh w3 72 (encD d).toArray))
      have hkl : (q.ds.l.take k).length + [d].length ≤ 1000 := by rw [List.length_take]; simp; omega
      have hz4 : w.heap.size + 3 ≤ (w3.alloc (.cells (encD d).toArray 72)).heap.size := by have := M4.out.o.in_; omega
      have HKL := Lib.hid hkl
      have HZ4 := Lib.hid hz4
      clear hkl hz4
      have K51 := Lib.hid True.intro
      go_wp2_with (first
        | (have h := K51; clear h; refine wpList_app_days (o := ⟨some 51, _, _, _, _, _⟩) ?_ (.tmp 35) (.tmp 50) ?_ (w.heap.size + 3) v (q.ds.l.take k) ?_ M4.out.r (some ⟨w3.heap.size, 0, none⟩) 1 [d] ?_ (fun e => by cases e) S4.out HKL.out HZ4.out ?_; rfl; rfl; rfl; rfl; intro v' w4 ho4 hb4 hg4; obtain ⟨A6, c6, hv6, -, -⟩ := Sl.of_own (enc := encD) (fun _ => rfl) ho4 rfl; generalize (q.ds.l.take k ++ [d]).length = n6 at hv6; subst hv6; have HO4 := Lib.hid ho4; have HB4 := Lib.hid hb4; have lo4 := M4.out.o.to_ (hb4.block (w.heap.size + 2) (by omega)); have c52 : w4.cell? ⟨w.heap.size + 2, 6, none⟩ = some v := lo4.at_ 6; have f52 : w4.frozen? ⟨w.heap.size + 2, 6, none⟩ = false := lo4.free 6; clear ho4 hb4 hg4 lo4 K51))
      go_roundw
      case rel => exact ⟨k + 1, .slice A6 n6 c6, by omega, by go_num, M4.out.app HD.out HO4.out HB4.out⟩
      case measure => simp [intOf]; omega
    · obtain rfl : k = N := by omega
      have HW0 := Lib.hid HW.out
      clear HW
      go_wp2_with (first
        | (refine wpList_load_row (o := ⟨some 53, _, _, _, _, _⟩) ?_ 34 (.tmp 3) ?_ (w.heap.size + 2) ?_ 34 (q.part v).toArray (0, 0) _ HW0.out.o Try.underlying34 rfl size_po ?_; rfl; rfl; rfl)
        | (refine wpList_store_cells (o := ⟨none, .store 34 (.tmp 2) _, _, _, _, _⟩) ?_ 34 (.tmp 2) (.tmp 53) ?_ (w.heap.size + 1) 0 ?_ 34 zpo (q.part v) ?_ HW0.out.z (by simp [zpo, PoM.part]) size_po (part_one q HW0.out.r) ?_; rfl; rfl; rfl; rfl; intro w5 HS5 HO5))
      have hs5 := HS5.out
      rw [splice_whole (by simp [zpo, PoM.part])] at hs5
      have htk : q.ds.l.take k = q.ds.l := List.take_of_length_le (by rw [← HN.out]; exact Nat.le_refl _)
      have hr5 : w5.ownsRow (w.heap.size + 3) 72 5 v (q.ds.l.take k).length ((q.ds.l.take k).flatMap encD) := own_keep HW0.out.r fun g hv => HO5.out.block g (by have := (own_at HW0.out.r hv).1; omega)
      rw [htk] at hr5
      obtain ⟨A', c', rfl, _, hs⟩ := Sl.of_own (enc := encD) (l := q.ds.l) (fun _ => rfl) hr5 rfl
      refine bodyPost_ret (results_cell_row rfl _ _ (w.heap.size + 1) 34 (q.part (.slice A' q.ds.l.length c')).toArray (0, 0) _ rfl hs5 Try.underlying34 rfl size_po) rfl ?_
      exact ⟨A', c', rfl, ⟨hs, HQ.out.l⟩, HO5.out.below HW0.out.w (by omega)⟩
end Go.Proofs.Yteognijlgalahaa
