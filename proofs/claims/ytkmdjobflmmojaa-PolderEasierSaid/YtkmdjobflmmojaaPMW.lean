/- PolderMirrored. -/
import Derived.Test.YtkmdjobflmmojaaPY
import Derived.Test.YtkmdjobflmmojaaMC
namespace Go.Proofs.Ytkmdjobflmmojaa
open Go.RowKit Go.Lib
attribute [local go_sem] Oper.semAt_some

theorem info_rz : (Try.prog.info? 76).map (fun i => (i.zero, i.size, i.bytes)) = some (some (.agg #[.int .i64 0, .int .i64 0, .int .i64 0, .int .i64 0, .int .i64 0]), 5, 40) := by kernel_rfl
theorem zero_rd : ∃ i z, Try.prog.info? 76 = some i ∧ i.zero = some z ∧ i.size = 5 ∧ i.bytes = 40 ∧ z.cells.size = 5 := by
  obtain ⟨i, hi, hp⟩ := Option.map_eq_some_iff.1 info_rz
  exact ⟨i, _, hi, congrArg (·.1) hp, congrArg (·.2.1) hp, congrArg (·.2.2) hp, rfl⟩
/-- append of the reference's days to a row of one's own. -/
theorem wpList_app_rdays {ops : Array Oper} {rest : List Oper} {o : Oper} {a : Act} {w : World} {Q : Exit → Act → World → Prop} (hgd : o.guard = none) (s x : Operand) (ho : o.op = .call { callee := .builtin .append, args := #[s, x], argTypes := #[24, 24] })
    (base : Nat) (v : Value) (xs : List Dy) (hs : a.eval s = v) (hown : w.ownsRow base 76 5 v xs.length (xs.flatMap encD)) (A : Option Addr) (c : Nat) (ys : List Dy) (hx : a.eval x = .slice A ys.length c) (hA : A = none → ys.length = 0 ∧ c = 0) (hy : Sl w w.heap.size 5 encD A ys) (hl : xs.length + ys.length ≤ 1000) (hb : base ≤ w.heap.size)
    (h : ∀ v' w', w'.ownsRow base 76 5 v' (xs ++ ys).length ((xs ++ ys).flatMap encD) → Below base w w' → w.grownBy w' v.ownBlock → wpList Try.prog ops Q rest (a.put o.dst v') w') : wpList Try.prog ops Q (o :: rest) a w := by
  obtain ⟨i0, z0, hi, hz0, hz1, hz2, hz3⟩ := zero_rd
  have hln : (ys.flatMap encD).length = ys.length * 5 := flat_len (enc := encD) (fun _ => rfl) _
  refine wpList_append_sl hgd s x 24 ho base 76 i0 _ 5 40 Try.underlying24 hi hz0 hz1 hz2 hz3 (by decide) v xs.length _ hs hown A ys.length c (ys.flatMap encD) hx hln hA (hy.news (enc := encD) (fun _ => rfl)) flat_one (by unfold maxLen; omega) (by omega) hb ?_
  intro v' w' hown' hg _
  refine h v' w' (by rw [List.length_append, List.flatMap_append]; exact hown') ((Below.refl base w).grown hg hb (fun k e => (hown.lt k e).1)) hg
def PoM.mpart (q : PoM) (v : Value) : List Value := [.int .i64 (60 - q.high), .int .i64 (60 - q.low), .int .i64 (60 - q.shi), .int .i64 (60 - q.slo), .int .i64 q.inl, .int .i64 q.pump, v]
def PoM.mirM (q : PoM) (A : Option Addr) (c : Nat) : PoM := ⟨60 - q.high, 60 - q.low, 60 - q.shi, 60 - q.slo, q.inl, q.pump, ⟨A, q.ds.l.map Dy.mir, c⟩⟩
/-- What the mirrored polder has. -/
structure MiM (q : PoM) (w : World) (g3 : Nat) (v : Value) (k : Nat) (V : World) : Prop where
  b : Lies V w.heap.size 26 q.cells.toArray
  o : Lies V g3 26 (q.mpart v).toArray
  r : V.ownsRow (g3 + 1) 76 5 v ((q.ds.l.take k).map Dy.mir).length (((q.ds.l.take k).map Dy.mir).flatMap encD)
  w : Below w.heap.size w V
theorem MiM.call {q : PoM} {w : World} {g3 : Nat} {v : Value} {k : Nat} {V V' : World} (h : MiM q w g3 v k V) (hb : Below V.heap.size V V') : MiM q w g3 v k V' := ⟨h.b.call hb, h.o.call hb, ownsRow_call h.r hb, h.w.trans (hb.mono h.w.size)⟩
theorem MiM.app {q : PoM} {w : World} {g3 : Nat} {v v' : Value} {k : Nat} {d : Dy} {V V' : World} (h : MiM q w g3 v k V) (hg : w.heap.size < g3) (hd : q.ds.l[k]? = some d) (ho : V'.ownsRow (g3 + 1) 76 5 v' (((q.ds.l.take k).map Dy.mir) ++ [d.mir]).length ((((q.ds.l.take k).map Dy.mir) ++ [d.mir]).flatMap encD)) (hb : Below (g3 + 1) V V') :
    MiM q w g3 v' (k + 1) (V'.setCell ⟨g3, 6, none⟩ v') := by
  have hon := Only.set g3 6 V' v'
  have e : (q.ds.l.take (k + 1)).map Dy.mir = (q.ds.l.take k).map Dy.mir ++ [d.mir] := by rw [List.take_add_one, hd, List.map_append]; rfl
  have h1 : Lies V' g3 26 (q.mpart v).toArray := h.o.to_ (hb.block _ (by omega))
  refine ⟨hon.lies (h.b.to_ (hb.block _ (by omega))) (by omega), h1.set 6 v', ?_, hon.below (h.w.trans (hb.mono (by omega))) (by omega)⟩
  rw [e]
  exact own_keep ho fun g hv => hon.block g (by have := (own_at ho hv).1; omega)
theorem least_cases {p : PoD} (h : p.Ok) : (∃ n, p.leastR = (n, 0)) ∨ p.leastR = (0, 9) := by
  unfold PoD.leastR
  rw [PoD.fault_iff.2 h, if_neg (by simp)]
  by_cases hc : p.costD = -1
  · right; rw [if_pos hc]
  · left; exact ⟨_, by rw [if_neg hc]⟩
set_option maxRecDepth 100000 in
set_option maxHeartbeats 16000000 in
theorem PolderMirrored_walk (q : PoM) (w : World) (h : OpenPo q w) : Calls Try.prog 14 #[.agg q.cells.toArray] w fun e w' => e = .returned (.bool true) ∧ Below w.heap.size w w' := by
  have l0 : Lies (w.alloc (.cells q.cells.toArray 26)) w.heap.size 26 q.cells.toArray := Lies.fresh _ _ _
  have b0 : Below w.heap.size w (w.alloc (.cells q.cells.toArray 26)) := (by repeat (first | (with_reducible assumption) | (with_reducible exact Below.refl _ _) | (with_reducible refine Below.drew ?_) | (with_reducible refine below_drewN ?_ _) | ((with_reducible refine Below.setCell ?_ ?_ _); rotate_left; focus (first | (simp; done) | (simp; omega) | omega)) | ((with_reducible refine Below.alloc ?_ ?_ _); rotate_left; focus (first | (simp; done) | (simp; omega) | omega))))
  have hz0 : (w.alloc (.cells q.cells.toArray 26)).heap.size = w.heap.size + 1 := by simp
  have hre := ready_any q (w.alloc (.cells q.cells.toArray 26)) ⟨(h.s.below b0).more b0.size, h.m, h.c⟩
  have hrr : q.d.readyB = true → q.d.Ok ∧ q.ds.l.length ≤ 12 := fun h => by
    unfold PoD.readyB at h
    rw [Bool.and_eq_true, decide_eq_true_eq, decide_eq_true_eq] at h
    have := PoD.fault_iff.1 h.2
    exact ⟨this, this.n2⟩
  have HR := Lib.hid hre
  have HRR := Lib.hid hrr
  have HO := Lib.hid h
  have L0 := Lib.hid l0
  have B0 := Lib.hid b0
  have HZ0 := Lib.hid hz0
  have K10 := Lib.hid True.intro
  clear l0 b0 hre hrr h hz0
  cases hyy : q.d.readyB with
  | false =>
    rw [hyy] at HR
    clear hyy HRR
    go_enter Try.func14, Try.ntmps14
    go_upto_region 1 with (fail)
    change Code.wp _ _ _ _ (w.alloc (.cells q.cells.toArray 26))
    generalize w.alloc (.cells q.cells.toArray 26) = w1 at *
    go_wp2_with (first
      | (have h := K10; clear h; refine wpList_load_row (o := ⟨some 10, _, _, _, _, _⟩) ?_ 26 (.tmp 1) ?_ w.heap.size ?_ 26 q.cells.toArray (0, 0) _ L0.out Try.underlying26 rfl size_rp ?_; rfl; rfl; rfl; clear K10)
      | (go_at_call 42; refine HR.out.mono ?_; rintro e w2 ⟨rfl, hb2⟩)
      | (go_at_call 16; refine (wakes_any _).mono ?_; rintro e w3 ⟨rfl, hb3⟩))
    go_ret
    exact ⟨rfl, B0.out.trans ((hb2.trans (hb3.mono hb2.size)).mono B0.out.size)⟩
  | true =>
    rw [hyy] at HR
    obtain ⟨hok, hl12⟩ := HRR.out hyy
    have hl0 : 0 ≤ q.low := hok.l0
    have hl1 : q.low ≤ q.high := hok.l1
    have hl2 : q.high ≤ 60 := hok.l2
    have hs0 : q.low ≤ q.slo := hok.s0
    have hs1 : q.slo ≤ q.shi := hok.s1
    have hs2 : q.shi ≤ q.high := hok.s2
    obtain ⟨N, hN⟩ : ∃ N, N = q.ds.l.length := ⟨_, rfl⟩
    have hNz : N ≤ 12 := by omega
    have hat : q.At w w.heap.size := HO.out.at_ (by omega)
    have HAT := Lib.hid hat
    have HN := Lib.hid hN
    have HOK := Lib.hid hok
    have HL15 := Lib.hid (show q.ds.l.length ≤ 15 by omega)
    have hw1 : IntKind.i64.wrap (60 - q.high) = 60 - q.high := IntWalk.i64_in _ (by omega)
    have hw2 : IntKind.i64.wrap (60 - q.low) = 60 - q.low := IntWalk.i64_in _ (by omega)
    have hw3 : IntKind.i64.wrap (60 - q.shi) = 60 - q.shi := IntWalk.i64_in _ (by omega)
    have hw4 : IntKind.i64.wrap (60 - q.slo) = 60 - q.slo := IntWalk.i64_in _ (by omega)
    clear hyy HRR hok hat hN hl12 HO hl0 hl1 hl2 hs0 hs1 hs2
    go_enter Try.func14, Try.ntmps14
    go_upto_region 1 with (fail)
    change Code.wp _ _ _ _ (w.alloc (.cells q.cells.toArray 26))
    generalize w.alloc (.cells q.cells.toArray 26) = w1 at *
    go_upto_region 3 with (first
      | (have h := K10; clear h; refine wpList_load_row (o := ⟨some 10, _, _, _, _, _⟩) ?_ 26 (.tmp 1) ?_ w.heap.size ?_ 26 q.cells.toArray (0, 0) _ L0.out Try.underlying26 rfl size_rp ?_; rfl; rfl; rfl; clear K10)
      | (go_at_call 42; refine HR.out.mono ?_; rintro e w2 ⟨rfl, hb2⟩; have B2 := Lib.hid (B0.out.trans (hb2.mono B0.out.size)); have L2 := Lib.hid (L0.out.call hb2); have hg3 : w.heap.size < w2.heap.size := (by have := HZ0.out; have := hb2.size; omega); clear hb2))
    have a0 : w2.cell? ⟨w.heap.size, 0, none⟩ = some (.int .i64 q.low) := L2.out.at_ 0
    have a1 : w2.cell? ⟨w.heap.size, 1, none⟩ = some (.int .i64 q.high) := L2.out.at_ 1
    have a2 : w2.cell? ⟨w.heap.size, 2, none⟩ = some (.int .i64 q.slo) := L2.out.at_ 2
    have a3 : w2.cell? ⟨w.heap.size, 3, none⟩ = some (.int .i64 q.shi) := L2.out.at_ 3
    have a4 : w2.cell? ⟨w.heap.size, 4, none⟩ = some (.int .i64 q.pump) := L2.out.at_ 4
    have a5 : w2.cell? ⟨w.heap.size, 5, none⟩ = some (.int .i64 q.inl) := L2.out.at_ 5
    clear HR B0 L0 HZ0
    go_upto_region 4 with (fail)
    have hM : MiM q w w2.heap.size (.slice none 0 0) 0 (w2.alloc (.cells (q.mpart (.slice none 0 0)).toArray 26)) :=
      ⟨L2.out.alloc _, Lies.fresh _ _ _, by simpa using World.ownsRow_nil _ _ _ _, B2.out.alloc B2.out.size _⟩
    have HM := Lib.hid hM
    change Code.wp _ _ _ _ (w2.alloc (.cells (q.mpart (.slice none 0 0)).toArray 26))
    clear hM a0 a1 a2 a3 a4 a5 B2 L2 hw1 hw2 hw3 hw4
    generalize w2.alloc (.cells (q.mpart (.slice none 0 0)).toArray 26) = w3 at *
    generalize w2.heap.size = g3 at *
    go_wp2
    go_loopw [4, 5] (fun s4 _ wr => ∃ (k : Nat) (v : Value), k ≤ N ∧ s4 = .int .i64 k ∧ Aside (MiM q w g3 v k wr)) (fun i _ _ => N - (intOf i).toNat)
    case atStart => exact ⟨0, .slice none 0 0, by omega, rfl, HM.out⟩
    case round =>
      obtain ⟨k, v, hkN, rfl, HW⟩ := hrel
      have a24 : wr.cell? ⟨w.heap.size, 6, none⟩ = some (.slice q.ds.A N q.ds.c) := by rw [HN.out]; exact HW.out.b.at_ 6
      by_cases hlt : k < N
      · have hltz : (k : Int) < (N : Int) := by omega
        have hk0 : (0 : Int) ≤ (k : Int) := by omega
        have hNz2 : (N : Int) ≤ 15 := by omega
        have hdl : k < q.ds.l.length := by have := HN.out; omega
        obtain ⟨d, hd⟩ : ∃ d, q.ds.l[k]? = some d := ⟨q.ds.l[k]'hdl, by simp⟩
        obtain ⟨d0, d1, d2, d3, d4, -, -, -, -⟩ := HOK.out.d d (List.mem_of_getElem? hd)
        obtain ⟨bd, od, hA, hbd, hrg⟩ := Sl.cellD (HAT.out.s.below HW.out.w) hd
        rw [hA] at a24
        have hw5 : IntKind.i64.wrap (d.sp + d.hi) = d.sp + d.hi := IntWalk.i64_in _ (by omega)
        have hw6 : IntKind.i64.wrap (d.sp + d.hi - d.lo) = d.sp + d.hi - d.lo := IntWalk.i64_in _ (by omega)
        have HRG := Lib.hid hrg
        have HD := Lib.hid hd
        have HW0 := Lib.hid HW.out
        clear hA hbd hrg hd HW hdl d0 d1 d2 d3 d4
        have K33 := Lib.hid True.intro
        go_upto_region 8 with (first
          | (have h := K33; clear h; refine wpList_load_mid (op := ⟨some 45, _, _, _, _, _⟩) ?_ 76 (.tmp 44) ?_ bd (od + k * 5) ?_ (encD d) _ HRG.out Try.underlying76 rfl size_rd ?_; rfl; rfl; rfl; clear K33))
        have M3 := Lib.hid (HW0.out.call ((Below.refl wr.heap.size wr).alloc (Nat.le_refl _) (.cells (encD d).toArray 76)))
        have R3 := Lib.hid (Lies.fresh wr 76 (encD d).toArray)
        change Code.wp _ _ _ _ (wr.alloc (.cells (encD d).toArray 76))
        clear HW0 a24 HRG
        generalize wr.alloc (.cells (encD d).toArray 76) = w4 at *
        generalize wr.heap.size = g5 at *
        have b0 : w4.cell? ⟨g5, 0, none⟩ = some (.int .i64 d.lo) := R3.out.at_ 0
        have b1 : w4.cell? ⟨g5, 1, none⟩ = some (.int .i64 d.hi) := R3.out.at_ 1
        have b2 : w4.cell? ⟨g5, 2, none⟩ = some (.int .i64 d.sp) := R3.out.at_ 2
        have b3 : w4.cell? ⟨g5, 3, none⟩ = some (.int .i64 d.ou) := R3.out.at_ 3
        have b4 : w4.cell? ⟨g5, 4, none⟩ = some (.int .i64 d.inn) := R3.out.at_ 4
        have b5 : w4.cell? ⟨g3, 6, none⟩ = some v := M3.out.o.at_ 6
        have M4 := Lib.hid (M3.out.call ((Below.refl w4.heap.size w4).alloc (Nat.le_refl _) (.cells (encD d.mir).toArray 76)))
        have S4 := Lib.hid (show Sl (w4.alloc (.cells (encD d.mir).toArray 76)) (w4.alloc (.cells (encD d.mir).toArray 76)).heap.size 5 encD (some ⟨w4.heap.size, 0, none⟩) [d.mir] from sl_of_lies (t := 76) (enc := encD) (l := [d.mir]) (fun _ => rfl) (Lies.fresh w4 76 (encD d.mir).toArray))
        have hkl : ((q.ds.l.take k).map Dy.mir).length + [d.mir].length ≤ 1000 := by rw [List.length_map, List.length_take]; simp; omega
        have hz4 : g3 + 1 ≤ (w4.alloc (.cells (encD d.mir).toArray 76)).heap.size := by have := M4.out.o.in_; omega
        have HKL := Lib.hid hkl
        have HZ4 := Lib.hid hz4
        clear hkl hz4
        have K51 := Lib.hid True.intro
        go_wp2_with (first
          | (have h := K51; clear h; refine wpList_app_rdays (o := ⟨some 70, _, _, _, _, _⟩) ?_ (.tmp 47) (.tmp 69) ?_ (g3 + 1) v ((q.ds.l.take k).map Dy.mir) ?_ M4.out.r (some ⟨w4.heap.size, 0, none⟩) 1 [d.mir] ?_ (fun e => by cases e) S4.out HKL.out HZ4.out ?_; rfl; rfl; rfl; rfl; intro v' w5 ho5 hb5 hg5; obtain ⟨A6, c6, hv6, -, -⟩ := Sl.of_own (enc := encD) (fun _ => rfl) ho5 rfl; generalize ((q.ds.l.take k).map Dy.mir ++ [d.mir]).length = n6 at hv6; subst hv6; have HO5 := Lib.hid ho5; have HB5 := Lib.hid hb5; have lo5 := M4.out.o.to_ (hb5.block g3 (by omega)); have c52 : w5.cell? ⟨g3, 6, none⟩ = some v := lo5.at_ 6; have f52 : w5.frozen? ⟨g3, 6, none⟩ = false := lo5.free 6; clear ho5 hb5 hg5 lo5 K51))
        go_roundw
        case rel => exact ⟨k + 1, .slice A6 n6 c6, by omega, by go_num, M4.out.app hg3 HD.out HO5.out HB5.out⟩
        case measure => simp [intOf]; omega
      · obtain rfl : k = N := by omega
        have htk : q.ds.l.take k = q.ds.l := List.take_of_length_le (by rw [← HN.out]; exact Nat.le_refl _)
        have hr5 := HW.out.r
        rw [htk] at hr5
        obtain ⟨A', c', rfl, -, hsl⟩ := Sl.of_own (enc := encD) (l := q.ds.l.map Dy.mir) (fun _ => rfl) hr5 rfl
        have W0 := Lib.hid HW.out.w
        have X0 := Lib.hid HW.out.b
        have O0 := Lib.hid (show Lies wr g3 26 (q.mirM A' c').cells.toArray from HW.out.o)
        have MA := Lib.hid (show (q.mirM A' c').At wr wr.heap.size from ⟨hsl, by show (q.ds.l.map Dy.mir).length ≤ _; rw [List.length_map]; have := HL15.out; omega⟩)
        have HFA := Lib.hid (Fault_any (q.mirM A' c') wr MA.out)
        have hmd : (q.mirM A' c').d = q.d.mir := rfl
        rw [hmd] at HFA
        have HML := Lib.hid (show (q.mirM A' c').ds.l.length ≤ 15 by show (q.ds.l.map Dy.mir).length ≤ 15; rw [List.length_map]; exact HL15.out)
        clear htk hr5 hsl HW HM hmd
        by_cases hf : q.d.mir.fault = 0
        · have HMK := Lib.hid (PoD.fault_iff.1 hf)
          rw [hf] at HFA
          clear hf
          have hle := PoD.mir_least HOK.out HMK.out
          obtain ⟨n, f, hnf, hff⟩ : ∃ n f, q.d.leastR = (n, f) ∧ (f = 0 ∨ f = 9) := by
            rcases least_cases HOK.out with ⟨n, h⟩ | h
            · exact ⟨n, 0, h, .inl rfl⟩
            · exact ⟨0, 9, h, .inr rfl⟩
          rw [hnf] at hle
          have HL1 := Lib.hid (fun A c W (hat : (q.withA A c).At W W.heap.size) => (show Calls Try.prog 22 #[.agg (q.withA A c).cells.toArray] W fun e w' => e = .returned (.tuple #[.int .i64 n, .int .i64 f]) ∧ Below W.heap.size W w' by
            have := Least_any (q.withA A c) W hat
            rw [show (q.withA A c).d.leastR = (n, f) from hnf] at this
            exact this))
          have HL2 := Lib.hid (fun A c W (hat : ((q.mirM A' c').withA A c).At W W.heap.size) => (show Calls Try.prog 22 #[.agg ((q.mirM A' c').withA A c).cells.toArray] W fun e w' => e = .returned (.tuple #[.int .i64 n, .int .i64 f]) ∧ Below W.heap.size W w' by
            have := Least_any ((q.mirM A' c').withA A c) W hat
            rw [show ((q.mirM A' c').withA A c).d.leastR = (n, f) from hle] at this
            exact this))
          clear hle hnf HMK
          rcases hff with rfl | rfl
          · have K72 := Lib.hid True.intro
            go_wp2_with (first
              | (have h := K72; clear h; refine wpList_load_row (o := ⟨some 72, _, _, _, _, _⟩) ?_ 26 (.tmp 3) ?_ g3 ?_ 26 (q.mirM A' c').cells.toArray (0, 0) _ O0.out Try.underlying26 rfl size_rp ?_; rfl; rfl; rfl; have K73 := Lib.hid True.intro; clear K72)
              | (have h := K73; clear h; go_at_call 46; refine HFA.out.mono ?_; rintro e w5 ⟨rfl, hb5⟩; have W5 := Lib.hid (W0.out.trans (hb5.mono W0.out.size)); have X5 := Lib.hid (X0.out.call hb5); have O5 := Lib.hid (O0.out.call hb5); have MA5 := Lib.hid (MA.out.below hb5 hb5.size); clear hb5; have KW := Lib.hid True.intro; have K77 := Lib.hid True.intro; clear K73)
              | (have h := K77; clear h; refine wpList_load_row (o := ⟨some 77, _, _, _, _, _⟩) ?_ 26 (.tmp 1) ?_ w.heap.size ?_ 26 q.cells.toArray (0, 0) _ X5.out Try.underlying26 rfl size_rp ?_; rfl; rfl; rfl; have K78 := Lib.hid True.intro; clear K77)
              | (have h := K78; clear h; go_at_call 18; refine (Copy_any q _ (HAT.out.below W5.out W5.out.size) HL15.out).mono ?_; rintro e w6 ⟨A3, c3, rfl, hat6, hb6⟩; have T6 := Lib.hid hat6; have W6 := Lib.hid (W5.out.trans (hb6.mono W5.out.size)); have O6 := Lib.hid (O5.out.call hb6); have MA6 := Lib.hid (MA5.out.below hb6 hb6.size); clear hat6 hb6; have K79 := Lib.hid True.intro; clear K78)
              | (have h := K79; clear h; go_at_call 22; refine (HL1.out A3 c3 _ T6.out).mono ?_; rintro e w7 ⟨rfl, hb7⟩; have W7 := Lib.hid (W6.out.trans (hb7.mono W6.out.size)); have O7 := Lib.hid (O6.out.call hb7); have MA7 := Lib.hid (MA6.out.below hb7 hb7.size); clear hb7; have K83 := Lib.hid True.intro; clear K79)
              | (have h := K83; clear h; refine wpList_load_row (o := ⟨some 83, _, _, _, _, _⟩) ?_ 26 (.tmp 3) ?_ g3 ?_ 26 (q.mirM A' c').cells.toArray (0, 0) _ O7.out Try.underlying26 rfl size_rp ?_; rfl; rfl; rfl; have K84 := Lib.hid True.intro; clear K83)
              | (have h := K84; clear h; go_at_call 18; refine (Copy_any (q.mirM A' c') _ MA7.out HML.out).mono ?_; rintro e w8 ⟨A4, c4, rfl, hat8, hb8⟩; have T8 := Lib.hid hat8; have W8 := Lib.hid (W7.out.trans (hb8.mono W7.out.size)); clear hat8 hb8; have K85 := Lib.hid True.intro; clear K84)
              | (have h := K85; clear h; go_at_call 22; refine (HL2.out A4 c4 _ T8.out).mono ?_; rintro e w9 ⟨rfl, hb9⟩; have W9 := Lib.hid (W8.out.trans (hb9.mono W8.out.size)); clear hb9; have KWW := Lib.hid True.intro; clear K85)
              | (have h := KWW; clear h; go_at_call 16; refine (wakes_any _).mono ?_; rintro e w11 ⟨rfl, hb11⟩; clear KWW))
            go_ret
            exact ⟨rfl, W9.out.trans (hb11.mono W9.out.size)⟩
          · have K72 := Lib.hid True.intro
            go_wp2_with (first
              | (have h := K72; clear h; refine wpList_load_row (o := ⟨some 72, _, _, _, _, _⟩) ?_ 26 (.tmp 3) ?_ g3 ?_ 26 (q.mirM A' c').cells.toArray (0, 0) _ O0.out Try.underlying26 rfl size_rp ?_; rfl; rfl; rfl; have K73 := Lib.hid True.intro; clear K72)
              | (have h := K73; clear h; go_at_call 46; refine HFA.out.mono ?_; rintro e w5 ⟨rfl, hb5⟩; have W5 := Lib.hid (W0.out.trans (hb5.mono W0.out.size)); have X5 := Lib.hid (X0.out.call hb5); have O5 := Lib.hid (O0.out.call hb5); have MA5 := Lib.hid (MA.out.below hb5 hb5.size); clear hb5; have KW := Lib.hid True.intro; have K77 := Lib.hid True.intro; clear K73)
              | (have h := K77; clear h; refine wpList_load_row (o := ⟨some 77, _, _, _, _, _⟩) ?_ 26 (.tmp 1) ?_ w.heap.size ?_ 26 q.cells.toArray (0, 0) _ X5.out Try.underlying26 rfl size_rp ?_; rfl; rfl; rfl; have K78 := Lib.hid True.intro; clear K77)
              | (have h := K78; clear h; go_at_call 18; refine (Copy_any q _ (HAT.out.below W5.out W5.out.size) HL15.out).mono ?_; rintro e w6 ⟨A3, c3, rfl, hat6, hb6⟩; have T6 := Lib.hid hat6; have W6 := Lib.hid (W5.out.trans (hb6.mono W5.out.size)); have O6 := Lib.hid (O5.out.call hb6); have MA6 := Lib.hid (MA5.out.below hb6 hb6.size); clear hat6 hb6; have K79 := Lib.hid True.intro; clear K78)
              | (have h := K79; clear h; go_at_call 22; refine (HL1.out A3 c3 _ T6.out).mono ?_; rintro e w7 ⟨rfl, hb7⟩; have W7 := Lib.hid (W6.out.trans (hb7.mono W6.out.size)); have O7 := Lib.hid (O6.out.call hb7); have MA7 := Lib.hid (MA6.out.below hb7 hb7.size); clear hb7; have K83 := Lib.hid True.intro; clear K79)
              | (have h := K83; clear h; refine wpList_load_row (o := ⟨some 83, _, _, _, _, _⟩) ?_ 26 (.tmp 3) ?_ g3 ?_ 26 (q.mirM A' c').cells.toArray (0, 0) _ O7.out Try.underlying26 rfl size_rp ?_; rfl; rfl; rfl; have K84 := Lib.hid True.intro; clear K83)
              | (have h := K84; clear h; go_at_call 18; refine (Copy_any (q.mirM A' c') _ MA7.out HML.out).mono ?_; rintro e w8 ⟨A4, c4, rfl, hat8, hb8⟩; have T8 := Lib.hid hat8; have W8 := Lib.hid (W7.out.trans (hb8.mono W7.out.size)); clear hat8 hb8; have K85 := Lib.hid True.intro; clear K84)
              | (have h := K85; clear h; go_at_call 22; refine (HL2.out A4 c4 _ T8.out).mono ?_; rintro e w9 ⟨rfl, hb9⟩; have W9 := Lib.hid (W8.out.trans (hb9.mono W8.out.size)); clear hb9; have KWW := Lib.hid True.intro; clear K85)
              | (have h := KWW; clear h; go_at_call 16; refine (wakes_any _).mono ?_; rintro e w11 ⟨rfl, hb11⟩; clear KWW))
            go_ret
            exact ⟨rfl, W9.out.trans (hb11.mono W9.out.size)⟩
        · have hne : ((q.d.mir.fault : Int) == 0) = false := by simpa using hf
          have hne2 : ((q.d.mir.fault : Int) != 0) = true := by simpa using hf
          generalize q.d.mir.fault = ff at *
          clear hf
          have K72 := Lib.hid True.intro
          go_wp2_with (first
            | (have h := K72; clear h; refine wpList_load_row (o := ⟨some 72, _, _, _, _, _⟩) ?_ 26 (.tmp 3) ?_ g3 ?_ 26 (q.mirM A' c').cells.toArray (0, 0) _ O0.out Try.underlying26 rfl size_rp ?_; rfl; rfl; rfl; have K73 := Lib.hid True.intro; clear K72)
            | (have h := K73; clear h; go_at_call 46; refine HFA.out.mono ?_; rintro e w5 ⟨rfl, hb5⟩; have W5 := Lib.hid (W0.out.trans (hb5.mono W0.out.size)); have X5 := Lib.hid (X0.out.call hb5); have O5 := Lib.hid (O0.out.call hb5); have MA5 := Lib.hid (MA.out.below hb5 hb5.size); clear hb5; have KW := Lib.hid True.intro; have K77 := Lib.hid True.intro; clear K73)
            | (have h := KW; clear h; go_at_call 16; refine (wakes_any _).mono ?_; rintro e w11 ⟨rfl, hb11⟩; clear KW))
          go_ret
          exact ⟨rfl, W5.out.trans (hb11.mono W5.out.size)⟩
end Go.Proofs.Ytkmdjobflmmojaa
