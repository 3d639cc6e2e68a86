/- The law's list, the price of an amount, and rain by words. -/
import Derived.Test.YteognijlgalahaaPY
import Derived.Test.YteognijlgalahaaRA
namespace Go.Proofs.Yteognijlgalahaa
open Go.RowKit Go.Lib
attribute [local go_sem] Oper.semAt_some

set_option maxHeartbeats 1000000 in
theorem lawList_own (A : Option Addr) (c : Nat) (l : List Int) (w : World) (hA : Sl w w.heap.size 1 encI A l) (hl : l.length ≤ 1000) (hn : A = none → l.length = 0 ∧ c = 0) :
    Calls Try.prog 28 #[.slice A l.length c] w fun e w' => ∃ A' c', e = .returned (.slice A' l.length c') ∧ w'.ownsRow w.heap.size 3 1 (.slice A' l.length c') l.length (l.flatMap encI) ∧ Below w.heap.size w w' := by
  have b0 : Below w.heap.size w (w.alloc (.cells #[] 3)) := (Below.refl _ _).alloc (Nat.le_refl _) _
  have hown : (w.alloc (.cells #[] 3)).ownsRow w.heap.size 3 1 (.slice (some ⟨w.heap.size, 0, none⟩) 0 0) ([] : List Int).length (([] : List Int).flatMap encI) :=
    ⟨rfl, .inr ⟨w.heap.size, 0, #[], rfl, Nat.le_refl _, heap_alloc_new _ _, Nat.le_refl _, by unfold maxLen; simp, rfl, rfl⟩⟩
  have HN := Lib.hid hn
  have HA := Lib.hid (hA.below b0)
  have HO := Lib.hid hown
  have B0 := Lib.hid b0
  clear hA hn b0 hown
  go_enter Try.func28, Try.ntmps28
  go_wp2_with (refine wpList_app_ints (o := ⟨some 5, _, _, _, _, _⟩) ?_ (.tmp 3) (.tmp 4) ?_ w.heap.size (.slice (some ⟨w.heap.size, 0, none⟩) 0 0) [] ?_ HO.out A c l ?_ HN.out (HA.out.more (by simp)) (by simp; omega) (by simp) ?_; rfl; rfl; rfl; rfl; intro v' w1 hown1 hb1 hg1)
  rw [List.nil_append] at hown1
  obtain ⟨A', c', e1, e2, e3⟩ := Sl.of_own (enc := encI) (l := l) (fun _ => rfl) hown1 rfl
  subst e1
  go_ret
  exact ⟨A', c', rfl, hown1, B0.out.trans hb1⟩
theorem refPrice_any (d : Dy) (n : Int) (w : World) (hd : d.Ok) (h0 : -1000 ≤ n) (h1 : n ≤ 1000) : Calls Try.prog 44 #[.agg (encD d).toArray, .int .i64 n] w fun e w' => e = .returned (.int .i64 (d.price n)) ∧ Below w.heap.size w w' := by
  obtain ⟨lo, hi, sp, ou, inn⟩ := d
  obtain ⟨-, -, -, -, -, o0, o1, i0, i1⟩ := hd
  dsimp only at o0 o1 i0 i1
  have hp : (⟨lo, hi, sp, ou, inn⟩ : Dy).price n = if n < 0 then -n * inn else n * ou := rfl
  rw [hp]
  unfold encD
  dsimp only
  have hw1 : IntKind.i64.wrap (-n) = -n := IntWalk.i64_in _ (by omega)
  by_cases h : n < 0
  · have hm := Int.mul_nonneg (show 0 ≤ -n by omega) i0
    have hm2 := Int.mul_le_mul (show -n ≤ 1000 by omega) i1 i0 (by omega)
    have hw2 : IntKind.i64.wrap (-n * inn) = -n * inn := IntWalk.i64_in _ (by omega)
    rw [if_pos h]
    clear hm hm2
    go_enter Try.func44, Try.ntmps44
    go_wp2
    all_goals (go_ret; exact ⟨ret_int rfl, (by repeat (first | (with_reducible assumption) | (with_reducible exact Below.refl _ _) | (with_reducible refine Below.drew ?_) | (with_reducible refine below_drewN ?_ _) | ((with_reducible refine Below.setCell ?_ ?_ _); rotate_left; focus (first | (simp; done) | (simp; omega) | omega)) | ((with_reducible refine Below.alloc ?_ ?_ _); rotate_left; focus (first | (simp; done) | (simp; omega) | omega))))⟩)
  · have hm := Int.mul_nonneg (show 0 ≤ n by omega) o0
    have hm2 := Int.mul_le_mul (show n ≤ 1000 by omega) o1 o0 (by omega)
    have hw2 : IntKind.i64.wrap (n * ou) = n * ou := IntWalk.i64_in _ (by omega)
    rw [if_neg h]
    clear hm hm2
    go_enter Try.func44, Try.ntmps44
    go_wp2
    all_goals (go_ret; exact ⟨ret_int rfl, (by repeat (first | (with_reducible assumption) | (with_reducible exact Below.refl _ _) | (with_reducible refine Below.drew ?_) | (with_reducible refine below_drewN ?_ _) | ((with_reducible refine Below.setCell ?_ ?_ _); rotate_left; focus (first | (simp; done) | (simp; omega) | omega)) | ((with_reducible refine Below.alloc ?_ ?_ _); rotate_left; focus (first | (simp; done) | (simp; omega) | omega))))⟩)
abbrev enc8 (x : Nat) : List Value := [.int .u8 x]
theorem size_rgr : (Try.prog.info? 23).map (·.size) = some 2 := by kernel_rfl
/-- While rain falls. -/
structure FaM (q : PoM) (A : Option Addr) (ws : List Nat) (w : World) (v : Value) (xs : List Int) (V : World) : Prop where
  l : Lies V w.heap.size 26 q.cells.toArray
  q : q.At V w.heap.size
  s : Sl V w.heap.size 1 enc8 A ws
  o : V.ownsRow (w.heap.size + 1) 3 1 v xs.length (xs.flatMap encI)
  b : Below w.heap.size w V
section
variable {q : PoM} {A : Option Addr} {ws : List Nat} {w : World} {v : Value} {xs : List Int} {V V' : World}
theorem FaM.size (h : FaM q A ws w v xs V) : w.heap.size + 1 ≤ V.heap.size := h.l.in_
theorem FaM.call (h : FaM q A ws w v xs V) (hb : Below V.heap.size V V') : FaM q A ws w v xs V' :=
  ⟨h.l.call hb, h.q.below (hb.mono (by have := h.size; omega)) (Nat.le_refl _), h.s.below (hb.mono (by have := h.size; omega)), own_keep h.o fun g hv => hb.block g (own_at h.o hv).2.1, h.b.trans (hb.mono (by have := h.size; omega))⟩
theorem FaM.app (h : FaM q A ws w v xs V) {g c : Nat} {x : Int} (ho : V'.ownsRow (w.heap.size + 1) 3 1 (.slice (some ⟨g, 0, none⟩) (xs ++ [x]).length c) (xs ++ [x]).length ((xs ++ [x]).flatMap encI)) (hg : V.grownBy V' v.ownBlock) : FaM q A ws w (.slice (some ⟨g, 0, none⟩) (xs ++ [x]).length c) (xs ++ [x]) V' := by
  have hb : Below (w.heap.size + 1) V V' := below_of_grown hg (fun k hk => (own_at h.o hk).1) h.size
  exact ⟨h.l.to_ (hb.block _ (by omega)), h.q.below (hb.mono (by omega)) (Nat.le_refl _), h.s.below (hb.mono (by omega)), ho, h.b.trans (hb.mono (by omega))⟩
end
set_option maxRecDepth 100000 in
set_option maxHeartbeats 8000000 in
theorem Fallen_any (q : PoM) (A : Option Addr) (c : Nat) (ws : List Nat) (w : World) (hq : q.At w w.heap.size) (hok : q.d.Ok) (hs : Sl w w.heap.size 1 enc8 A ws) (hl : ws.length ≤ maxLen) (hx8 : ∀ x, x ∈ ws → x < 256) :
    Calls Try.prog 43 #[.agg q.cells.toArray, .slice A ws.length c] w fun e w' => ∃ rs A' c', e = .returned (.slice A' rs.length c') ∧ q.d.rainy rs ∧ Sl w' w'.heap.size 1 encI A' rs ∧ Below w.heap.size w w' := by
  have b0 : Below w.heap.size w (w.alloc (.cells q.cells.toArray 26)) := (by repeat (first | (with_reducible assumption) | (with_reducible exact Below.refl _ _) | (with_reducible refine Below.drew ?_) | (with_reducible refine below_drewN ?_ _) | ((with_reducible refine Below.setCell ?_ ?_ _); rotate_left; focus (first | (simp; done) | (simp; omega) | omega)) | ((with_reducible refine Below.alloc ?_ ?_ _); rotate_left; focus (first | (simp; done) | (simp; omega) | omega))))
  have hm : FaM q A ws w (.slice none 0 0) [] (w.alloc (.cells q.cells.toArray 26)) :=
    ⟨Lies.fresh _ _ _, hq.below b0 (Nat.le_refl _), hs.below b0, World.ownsRow_nil _ _ _ _, b0⟩
  obtain ⟨N, hN⟩ : ∃ N, N = q.ds.l.length := ⟨_, rfl⟩
  obtain ⟨M, hM⟩ : ∃ M, M = ws.length := ⟨_, rfl⟩
  have hNz : N ≤ 12 := by have : q.ds.l.length ≤ 12 := hok.n2; omega
  have hMz : (M : Int) ≤ 9223372036854775807 := by unfold maxLen at hl; omega
  have HM := Lib.hid hm
  have HN := Lib.hid hN
  have HMM := Lib.hid hM
  have HOK := Lib.hid hok
  have HX := Lib.hid hx8
  rw [← hM]
  clear hq hok hs b0 hm hN hM hl hx8
  go_enter Try.func43, Try.ntmps43
  go_wp2
  change Code.wp _ _ _ _ (w.alloc (.cells q.cells.toArray 26))
  generalize w.alloc (.cells q.cells.toArray 26) = w1 at *
  go_loopw [5, 6] (fun s5 s6 wr => ∃ (k : Nat) (A1 : Option Addr) (c1 : Nat) (xs : List Int), k ≤ N ∧ xs.length = k ∧ s5 = .slice A1 xs.length c1 ∧ s6 = .int .i64 k ∧ Aside (FaM q A ws w (.slice A1 xs.length c1) xs wr ∧ ∀ (i : Nat) d r, q.ds.l[i]? = some d → xs[i]? = some r → d.lo ≤ r ∧ r ≤ d.hi)) (fun _ i _ => N - (intOf i).toNat)
  case atStart => exact ⟨0, none, 0, [], by omega, rfl, rfl, rfl, HM.out, fun i d r _ h => by simp at h⟩
  case round =>
    obtain ⟨k, A1, c1, xs, hkN, hxl, rfl, rfl, HW⟩ := hrel
    have hkz0 : (0 : Int) ≤ (k : Int) := by omega
    have c12 : wr.cell? ⟨w.heap.size, 6, none⟩ = some (.slice q.ds.A N q.ds.c) := by rw [HN.out]; exact HW.out.1.l.at_ 6
    by_cases hlt : k < N
    · have hltz : (k : Int) < (N : Int) := by omega
      have hkl : k < q.ds.l.length := by have := HN.out; omega
      obtain ⟨d, hd⟩ : ∃ d, q.ds.l[k]? = some d := ⟨q.ds.l[k]'hkl, by simp⟩
      obtain ⟨bd, od, hA, hbd, hrg⟩ := HW.out.1.q.s.cellD hd
      have hdk := HOK.out.d d (List.mem_of_getElem? hd)
      obtain ⟨d0, d1, d2, -, -, -, -, -, -⟩ := hdk
      rw [hA] at c12
      have HRG := Lib.hid (show wr.rangeAt bd (od + k * 5) [.int .i64 d.lo, .int .i64 d.hi] from fun i v hv => by
        match i, hv with
        | 0, hv => exact hrg 0 v hv
        | 1, hv => exact hrg 1 v hv)
      obtain ⟨x, hx, hxk⟩ : ∃ x : Nat, x < 256 ∧ ((M = 0 ∧ x = 1) ∨ (0 < M ∧ ws[k % M]? = some x)) := by
        by_cases h0 : M = 0
        · exact ⟨1, by omega, .inl ⟨h0, rfl⟩⟩
        · have hlt2 : k % M < ws.length := by rw [← HMM.out]; exact Nat.mod_lt _ (by omega)
          exact ⟨ws[k % M]'hlt2, HX.out _ (List.getElem_mem _), .inr ⟨by omega, by simp⟩⟩
      obtain ⟨n, hn⟩ : ∃ n, n = d.fall x := ⟨_, rfl⟩
      have hnr : d.lo ≤ n ∧ n ≤ d.hi := by rw [hn]; exact Dy.fall_in d1 x
      have hfa : d.fall x = if x % 3 = 0 then d.lo else if x % 3 = 1 then d.hi else d.lo + ((x / 3 : Nat) : Int) % (d.hi - d.lo + 1) := rfl
      rw [← hn] at hfa
      have hend : ∀ V g3 cap3, FaM q A ws w (.slice (some ⟨g3, 0, none⟩) (xs ++ [n]).length cap3) (xs ++ [n]) V → (FaM q A ws w (.slice (some ⟨g3, 0, none⟩) (xs ++ [n]).length cap3) (xs ++ [n]) V ∧ ∀ (i : Nat) d' r, q.ds.l[i]? = some d' → (xs ++ [n])[i]? = some r → d'.lo ≤ r ∧ r ≤ d'.hi) := fun V g3 cap3 h => ⟨h, fun i d' r h1 h2 => by
        by_cases hi : i < xs.length
        · rw [List.getElem?_append_left hi] at h2
          exact HW.out.2 i d' r h1 h2
        · have hik : i = k := by
            have := (List.getElem?_eq_some_iff.1 h2).1
            simp at this; omega
          subst hik
          rw [hd] at h1
          cases h1
          rw [List.getElem?_append_right (by omega)] at h2
          have e : i - xs.length = 0 := by omega
          rw [e] at h2
          cases h2
          exact hnr⟩
      have HE := Lib.hid hend
      have HFA := Lib.hid hfa
      have M1 := Lib.hid (HW.out.1.call ((Below.refl _ _).alloc (Nat.le_refl _) (.cells #[.int .i64 d.lo, .int .i64 d.hi] 23)))
      have R1 := Lib.hid (Lies.fresh wr 23 #[.int .i64 d.lo, .int .i64 d.hi])
      clear hA hbd hrg hd hn hnr hfa hend HW
      have K22 := Lib.hid True.intro
      have HXL := Lib.hid hxl
      clear hxl
      have hxz : (x : Int) < 256 := by omega
      have hwx : IntKind.i64.wrap (x : Int) = x := IntWalk.i64_in _ (by omega)
      have hws : IntKind.i64.wrap (d.hi - d.lo) = d.hi - d.lo := IntWalk.i64_in _ (by omega)
      have hws1 : IntKind.i64.wrap (d.hi - d.lo + 1) = d.hi - d.lo + 1 := IntWalk.i64_in _ (by omega)
      have hne : ¬ d.hi - d.lo + 1 = 0 := by omega
      have hq0 : (0 : Int) ≤ (x : Int) / 3 % (d.hi - d.lo + 1) := Int.emod_nonneg _ (by omega)
      have hq1 : (x : Int) / 3 % (d.hi - d.lo + 1) < d.hi - d.lo + 1 := Int.emod_lt_of_pos _ (by omega)
      have hwn : IntKind.i64.wrap (d.lo + (x : Int) / 3 % (d.hi - d.lo + 1)) = d.lo + (x : Int) / 3 % (d.hi - d.lo + 1) := IntWalk.i64_in _ (by omega)
      rcases hxk with ⟨hM0, hx1⟩ | ⟨hM0, hxk⟩
      · subst hx1
        subst hM0
        go_upto_region 9 with (have h := K22; clear h; refine wpList_load_mid (op := ⟨some 22, _, _, _, _, _⟩) ?_ 23 (.tmp 21) ?_ bd (od + k * 5) ?_ [.int .i64 d.lo, .int .i64 d.hi] _ HRG.out Try.underlying23 rfl size_rgr ?_; rfl; rfl; rfl; clear K22)
        generalize wr.alloc (.cells #[.int .i64 d.lo, .int .i64 d.hi] 23) = w2 at *
        have c35 : w2.cell? ⟨wr.heap.size, 0, none⟩ = some (.int .i64 d.lo) := R1.out.at_ 0
        have c39 : w2.cell? ⟨wr.heap.size, 1, none⟩ = some (.int .i64 d.hi) := R1.out.at_ 1
        go_quiet (fail)
        have hbd : Below w2.heap.size w2 (w2.drewN nq) := below_drewN (Below.refl _ _) nq
        have M2 := Lib.hid (M1.out.call hbd)
        have R2 := Lib.hid (R1.out.call hbd)
        clear hbd M1 R1 c35 c39
        generalize w2.drewN nq = w3 at *
        have c51 : w3.cell? ⟨wr.heap.size, 0, none⟩ = some (.int .i64 d.lo) := R2.out.at_ 0
        have c55 : w3.cell? ⟨wr.heap.size, 1, none⟩ = some (.int .i64 d.hi) := R2.out.at_ 1
        have M3 := Lib.hid (M2.out.call ((Below.refl _ _).alloc (Nat.le_refl _) (.cells #[.int .i64 n] 3)))
        have N3 := Lib.hid ((Lies.fresh w3 3 #[.int .i64 n]).at_ 0)
        have K59 := Lib.hid True.intro
        have en : d.hi = n := by rw [HFA.out]; rfl
        subst en
        go_wp2_with (have h := K59; clear h; refine wpList_app_one (o := ⟨some 59, _, _, _, _, _⟩) ?_ (.tmp 56) (.tmp 58) ?_ (w.heap.size + 1) _ xs ?_ M3.out.o w3.heap.size 1 d.hi ?_ N3.out (by have := HXL.out; omega) M3.out.size ?_; rfl; rfl; rfl; rfl; intro g3 cap3 u3 ho3 hg3 hat3; have M4 := Lib.hid (M3.out.app ho3 hg3); clear ho3 hg3 hat3; clear K59)
        go_roundw
        case rel => exact ⟨k + 1, some ⟨g3, 0, none⟩, cap3, xs ++ [d.hi], by omega, by simp [HXL.out], by first | rfl | go_num | simp, by go_num, HE.out _ _ _ M4.out⟩
        case measure => simp [intOf]; omega
      · obtain ⟨m, hm⟩ : ∃ m, m = k % M := ⟨_, rfl⟩
        have hmM : m < M := by rw [hm]; exact Nat.mod_lt _ (by omega)
        have hkm : (k : Int) % (M : Int) = (m : Int) := by rw [hm]; omega
        have hm0 : (0 : Int) ≤ (m : Int) := by omega
        have hmz : (m : Int) < (M : Int) := by omega
        have hMn : (M : Int) ≠ 0 := by omega
        have hMp : (0 : Int) < (M : Int) := by omega
        rw [← hm] at hxk
        obtain ⟨bw, ow, eA, hbw, hcw⟩ := M1.out.s.at_ hxk
        have c32 : (wr.alloc (.cells #[.int .i64 d.lo, .int .i64 d.hi] 23)).cell? ⟨bw, ow + m, none⟩ = some (.int .u8 x) := by
          have := hcw 0 _ rfl
          rwa [Nat.mul_one, Nat.add_zero] at this
        subst eA
        clear hm hxk hbw hcw
        go_upto_region 9 with (have h := K22; clear h; refine wpList_load_mid (op := ⟨some 22, _, _, _, _, _⟩) ?_ 23 (.tmp 21) ?_ bd (od + k * 5) ?_ [.int .i64 d.lo, .int .i64 d.hi] _ HRG.out Try.underlying23 rfl size_rgr ?_; rfl; rfl; rfl; clear K22)
        clear c32
        generalize wr.alloc (.cells #[.int .i64 d.lo, .int .i64 d.hi] 23) = w2 at *
        have c35 : w2.cell? ⟨wr.heap.size, 0, none⟩ = some (.int .i64 d.lo) := R1.out.at_ 0
        have c39 : w2.cell? ⟨wr.heap.size, 1, none⟩ = some (.int .i64 d.hi) := R1.out.at_ 1
        go_quiet (fail)
        have hbd : Below w2.heap.size w2 (w2.drewN nq) := below_drewN (Below.refl _ _) nq
        have M2 := Lib.hid (M1.out.call hbd)
        have R2 := Lib.hid (R1.out.call hbd)
        clear hbd M1 R1 c35 c39
        generalize w2.drewN nq = w3 at *
        have c51 : w3.cell? ⟨wr.heap.size, 0, none⟩ = some (.int .i64 d.lo) := R2.out.at_ 0
        have c55 : w3.cell? ⟨wr.heap.size, 1, none⟩ = some (.int .i64 d.hi) := R2.out.at_ 1
        have M3 := Lib.hid (M2.out.call ((Below.refl _ _).alloc (Nat.le_refl _) (.cells #[.int .i64 n] 3)))
        have N3 := Lib.hid ((Lies.fresh w3 3 #[.int .i64 n]).at_ 0)
        have K59 := Lib.hid True.intro
        by_cases h0 : x % 3 = 0
        · have e0 : (((x : Int) % 3) == 0) = true := by simp; omega
          have en : d.lo = n := by rw [HFA.out, if_pos h0]
          subst en
          go_wp2_with (have h := K59; clear h; refine wpList_app_one (o := ⟨some 59, _, _, _, _, _⟩) ?_ (.tmp 56) (.tmp 58) ?_ (w.heap.size + 1) _ xs ?_ M3.out.o w3.heap.size 1 d.lo ?_ N3.out (by have := HXL.out; omega) M3.out.size ?_; rfl; rfl; rfl; rfl; intro g3 cap3 u3 ho3 hg3 hat3; have M4 := Lib.hid (M3.out.app ho3 hg3); clear ho3 hg3 hat3; clear K59)
          go_roundw
          case rel => exact ⟨k + 1, some ⟨g3, 0, none⟩, cap3, xs ++ [d.lo], by omega, by simp [HXL.out], by first | rfl | go_num | simp, by go_num, HE.out _ _ _ M4.out⟩
          case measure => simp [intOf]; omega
        · have e0 : (((x : Int) % 3) == 0) = false := by simp; omega
          by_cases h1 : x % 3 = 1
          · have e1 : (((x : Int) % 3) == 1) = true := by simp; omega
            have en : d.hi = n := by rw [HFA.out, if_neg h0, if_pos h1]
            subst en
            go_wp2_with (have h := K59; clear h; refine wpList_app_one (o := ⟨some 59, _, _, _, _, _⟩) ?_ (.tmp 56) (.tmp 58) ?_ (w.heap.size + 1) _ xs ?_ M3.out.o w3.heap.size 1 d.hi ?_ N3.out (by have := HXL.out; omega) M3.out.size ?_; rfl; rfl; rfl; rfl; intro g3 cap3 u3 ho3 hg3 hat3; have M4 := Lib.hid (M3.out.app ho3 hg3); clear ho3 hg3 hat3; clear K59)
            go_roundw
            case rel => exact ⟨k + 1, some ⟨g3, 0, none⟩, cap3, xs ++ [d.hi], by omega, by simp [HXL.out], by first | rfl | go_num | simp, by go_num, HE.out _ _ _ M4.out⟩
            case measure => simp [intOf]; omega
          · have e1 : (((x : Int) % 3) == 1) = false := by simp; omega
            have en : d.lo + (x : Int) / 3 % (d.hi - d.lo + 1) = n := by rw [HFA.out, if_neg h0, if_neg h1]; rfl
            rw [en]
            go_wp2_with (have h := K59; clear h; refine wpList_app_one (o := ⟨some 59, _, _, _, _, _⟩) ?_ (.tmp 56) (.tmp 58) ?_ (w.heap.size + 1) _ xs ?_ M3.out.o w3.heap.size 1 n ?_ N3.out (by have := HXL.out; omega) M3.out.size ?_; rfl; rfl; rfl; rfl; intro g3 cap3 u3 ho3 hg3 hat3; have M4 := Lib.hid (M3.out.app ho3 hg3); clear ho3 hg3 hat3; clear K59)
            go_roundw
            case rel => exact ⟨k + 1, some ⟨g3, 0, none⟩, cap3, xs ++ [n], by omega, by simp [HXL.out], by first | rfl | go_num | simp, by go_num, HE.out _ _ _ M4.out⟩
            case measure => simp [intOf]; omega
    · obtain rfl : k = N := by omega
      have HWW := Lib.hid HW.out
      clear HW
      go_wp2
      go_ret
      obtain ⟨h1, h2⟩ := HWW.out
      obtain ⟨A', c', e', _, hs1⟩ := Sl.of_own (enc := encI) (l := xs) (fun _ => rfl) h1.o rfl
      cases e'
      exact ⟨xs, A1, c1, rfl, ⟨by show xs.length = q.ds.l.length; rw [hxl, HN.out], h2⟩, hs1, h1.b⟩
end Go.Proofs.Yteognijlgalahaa
