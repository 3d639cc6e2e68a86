/- The iterators: a range's numbers; what may come after an amount. -/
import Derived.Test.YteognijlgalahaaPA
namespace Go.Proofs.Yteognijlgalahaa
open Go.RowKit Go.Lib
attribute [local go_sem] Oper.semAt_some

/-- All numbers of a range. -/
def rngL (lo hi : Int) : List Int := (List.range (hi + 1 - lo).toNat).map fun i : Nat => lo + i
theorem rngL_length (lo hi : Int) : (rngL lo hi).length = (hi + 1 - lo).toNat := by simp [rngL]
theorem rngL_at {lo hi : Int} {k : Nat} (h : k < (hi + 1 - lo).toNat) : (rngL lo hi)[k]? = some (lo + k) := by
  unfold rngL
  rw [List.getElem?_map, List.getElem?_range h]; rfl
theorem rngL_some {lo hi : Int} {k : Nat} {x : Int} (h : (rngL lo hi)[k]? = some x) : k < (hi + 1 - lo).toNat ∧ x = lo + k := by
  have h1 := (List.getElem?_eq_some_iff.1 h).1
  rw [rngL_length] at h1
  rw [rngL_at h1] at h
  exact ⟨h1, (Option.some.inj h).symm⟩
abbrev encY (x : Int) : Array Value := #[.int .i64 x]
theorem all_any (lo hi : Int) (w : World) : Calls Try.prog 72 #[.agg #[.int .i64 lo, .int .i64 hi]] w fun e w' => e = .returned (.func (.func 86) #[] #[.pointer (some ⟨w.heap.size, 0, none⟩)]) ∧ w.alloc (.cells #[.int .i64 lo, .int .i64 hi] 31) = w' := by
  go_enter Try.func72, Try.ntmps72
  go_wp2
  go_ret
  exact ⟨rfl, rfl⟩
theorem enters_all1 : ∀ args w, (callFunc 86 args).run Try.prog w = .ok (.enter 86 args) w := enters_of Try.func86 (by kernel_rfl) rfl
set_option maxRecDepth 100000 in
set_option maxHeartbeats 4000000 in
theorem all1_gives (n : Nat) (hn : 1 ≤ n) (gr : Nat) (lo hi : Int) (w : World) (h0 : -1000 ≤ lo) (h1 : hi ≤ 1000) (St : World → Prop) (hSt : ∀ W, St W → Lies W gr 31 #[.int .i64 lo, .int .i64 hi]) :
    GivesK n Try.prog 86 #[.pointer (some ⟨gr, 0, none⟩)] encY (rngL lo hi) w St := by
  intro l' J Jx W hbW hJS hJ hJx hY hJ0
  obtain ⟨N, hN⟩ : ∃ N, N = (hi + 1 - lo).toNat := ⟨_, rfl⟩
  have hlen : (rngL lo hi).length = N := by rw [rngL_length, hN]
  have hat : ∀ k, k < N → (rngL lo hi)[k]? = some (lo + k) := fun k hk => rngL_at (by omega)
  have HPT := Lib.hid (fun k A (h : J k A) => hSt A (hJS k A h))
  have HY := Lib.hid hY
  have HJ := Lib.hid (fun k A A' (h : J k A) (hb : Below A.heap.size A A') => hJ k A A' h (Recs.of_below hb))
  have H0 := Lib.hid hJ0
  have HAT := Lib.hid hat
  have HNN := Lib.hid hN
  have c0 : W.cell? ⟨gr, 0, none⟩ = some (.int .i64 lo) := (HPT.out _ _ H0.out).at_ 0
  rw [hlen]
  clear hJS hY hJ hJx hJ0 hSt hbW hlen hat hN
  refine callsIn_of_wp Try.func86 rfl trivial ?_ rfl
  refine wpIn_wide.2 ?_
  simp only [Try.ntmps86, List.size_toArray, List.length_cons, List.length_nil, Nat.reduceAdd, Nat.reduceSub, Array.replicate_succ, Array.replicate_zero, List.push_toArray, List.append_toArray, List.nil_append, List.cons_append]
  go_wp2
  clear c0
  go_loopw [3] (fun s3 wr => ∃ k : Nat, k ≤ N ∧ s3 = .int .i64 (lo + k) ∧ Aside (J k wr)) (fun i _ => (hi + 1 - intOf i).toNat)
  case atStart => exact ⟨0, by omega, by simp, H0.out⟩
  case round =>
    obtain ⟨k, hk, rfl, NN⟩ := hrel
    have hs := HPT.out _ _ NN.out
    have c8 : wr.cell? ⟨gr, 1, none⟩ = some (.int .i64 hi) := hs.at_ 1
    clear hs
    have hnn := HNN.out
    by_cases hlt : k < N
    · have hle : lo + (k : Int) ≤ hi := by omega
      have hw1 : IntKind.i64.wrap (lo + (k : Int) + 1) = lo + (k : Int) + 1 := IntWalk.i64_in _ (by omega)
      have HYY := Lib.hid (fun A hA => HY.out k (lo + k) A (HAT.out k hlt) hA)
      have hn1 : 1 ≤ n := hn
      refine (wpIn_wide (n := n)).1 ?_
      obtain ⟨fn, tmps, assign, body, hy, hR⟩ := HYY.out wr NN.out
      dsimp only [encY] at hy
      gi_wp2_with (fail)
      refine hR.mono ?_
      clear hR hy
      rintro e W5 ⟨⟨rfl, hJ5⟩ | ⟨rfl, hx5⟩, hk5⟩
      · gi_wp2_with (fail)
        go_wp2_with (fail)
        go_roundw
        case rel => exact ⟨k + 1, by omega, by go_num, hJ5⟩
        case measure => simp [intOf]; omega
      · gi_wp2_with (fail)
        go_wp2
        refine bodyPost_ret (results_none rfl _ _ _) rfl ?_
        exact ⟨⟨_, rfl⟩, .inr ⟨_, by omega, hx5⟩⟩
    · have hle : ¬ lo + (k : Int) ≤ hi := by omega
      have hkn : k = N := by omega
      clear hnn HNN
      subst hkn
      go_wp2
      go_end0
      exact ⟨⟨_, rfl⟩, .inl NN.out⟩
/-- What the amount leaves, and the day: as a key. -/
def encM (day left : Int) : List Value := [.int .i64 day, .int .i64 left]
theorem after_any (p : PoM) (day left : Int) (w : World) : Calls Try.prog 82 #[.agg p.cells.toArray, .agg (encM day left).toArray] w fun e w' => e = .returned (.func (.func 87) #[] #[.pointer (some ⟨w.heap.size, 0, none⟩), .pointer (some ⟨w.heap.size + 1, 0, none⟩)]) ∧ (w.alloc (.cells p.cells.toArray 34)).alloc (.cells (encM day left).toArray 122) = w' := by
  go_enter Try.func82, Try.ntmps82
  go_wp2
  go_ret
  exact ⟨rfl, rfl⟩
theorem enters_after1 : ∀ args w, (callFunc 87 args).run Try.prog w = .ok (.enter 87 args) w := enters_of Try.func87 (by kernel_rfl) rfl
/-- The rain, and the level after it. -/
abbrev encR (left sp : Int) (r : Int) : Array Value := #[.int .i64 r, .int .i64 (left + r - sp)]
theorem size_dy : (Try.prog.info? 72).map (·.size) = some 5 := by kernel_rfl
theorem size_rg : (Try.prog.info? 31).map (·.size) = some 2 := by kernel_rfl
theorem encD_one (d : Dy) : ∀ v ∈ encD d, v.oneCell' = true := by
  intro v hv
  simp [encD] at hv
  rcases hv with rfl | rfl | rfl | rfl | rfl <;> rfl
def zday : List Value := [.int .i64 0, .int .i64 0, .int .i64 0, .int .i64 0, .int .i64 0]
set_option maxRecDepth 100000 in
set_option maxHeartbeats 4000000 in
theorem after1_gives (n : Nat) (hn : 1 ≤ n) (p : PoM) (day : Nat) (d : Dy) (left : Int) (g1 g2 : Nat) (w : World) (hd : p.ds.l[day]? = some d) (hok : d.Ok) (h0 : -1000 ≤ left) (h1 : left ≤ 1000) (St : World → Prop)
    (hSt : ∀ W, St W → Lies W g1 34 p.cells.toArray ∧ Lies W g2 122 (encM day left).toArray ∧ p.At W W.heap.size) :
    GivesK n Try.prog 87 #[.pointer (some ⟨g1, 0, none⟩), .pointer (some ⟨g2, 0, none⟩)] (encR left d.sp) (rngL d.lo d.hi) w St := by
  intro l' J Jx W hbW hJS hJ hJx hY hJ0
  have HPT := Lib.hid (fun k A (h : J k A) => hSt A (hJS k A h))
  have HY := Lib.hid hY
  have HJ := Lib.hid hJ
  have HJX := Lib.hid hJx
  have H0 := Lib.hid hJ0
  have HOK := Lib.hid hok
  have HD := Lib.hid hd
  clear hJS hY hJ hJx hJ0 hSt hbW hd hok
  obtain ⟨r0, r1, r2, s0, s1, -, -, -, -⟩ := HOK.out
  refine callsIn_wide.2 ?_
  refine calls_of_wp_marks (n + 2) Try.func87 rfl ?_
  simp only [Try.ntmps87, List.size_toArray, List.length_cons, List.length_nil, Nat.reduceAdd, Nat.reduceSub, Array.replicate_succ, Array.replicate_zero, List.push_toArray, List.append_toArray, List.nil_append, List.cons_append]
  obtain ⟨hl1, hl2, hpa⟩ := HPT.out _ _ H0.out
  obtain ⟨b, off, hA, hb, hrg⟩ := hpa.s.cellD HD.out
  have hlen := hpa.l
  have hdl : day < p.ds.l.length := (List.getElem?_eq_some_iff.1 HD.out).1
  have hdz : (day : Int) < (p.ds.l.length : Int) := by omega
  have hd0 : (0 : Int) ≤ (day : Int) := by omega
  have hlz : (p.ds.l.length : Int) ≤ 1000000 := by omega
  have c0 : W.cell? ⟨g1, 6, none⟩ = some (.slice (some ⟨b, off, none⟩) p.ds.l.length p.ds.c) := by rw [← hA]; exact hl1.at_ 6
  have c1 : W.cell? ⟨g2, 0, none⟩ = some (.int .i64 day) := hl2.at_ 0
  have hg1 : g1 < W.heap.size := hl1.in_
  have hg2 : g2 < W.heap.size := hl2.in_
  clear hl1 hl2 hpa hlen hdl
  have HJ0 := Lib.hid (HJ.out)
  go_upto_region 1 with (fail)
  have lf : Lies (W.alloc (.cells #[.func (.yield l') #[] #[]] 101)) W.heap.size 101 #[.func (.yield l') #[] #[]] := Lies.fresh _ _ _
  have bf : Below W.heap.size W (W.alloc (.cells #[.func (.yield l') #[] #[]] 101)) := (by repeat (first | (with_reducible assumption) | (with_reducible exact Below.refl _ _) | (with_reducible refine Below.drew ?_) | (with_reducible refine below_drewN ?_ _) | ((with_reducible refine Below.setCell ?_ ?_ _); rotate_left; focus (first | (simp; done) | (simp; omega) | omega)) | ((with_reducible refine Below.alloc ?_ ?_ _); rotate_left; focus (first | (simp; done) | (simp; omega) | omega))))
  have hrg2 : (W.alloc (.cells #[.func (.yield l') #[] #[]] 101)).rangeAt b (off + day * 5) (encD d) := fun j v hj => (World.cell?_alloc_lt W _ ⟨b, _, none⟩ hb).trans (hrg j v hj)
  have hz1 : (W.alloc (.cells #[.func (.yield l') #[] #[]] 101)).heap.size = W.heap.size + 1 := by simp
  have cf0 : (W.alloc (.cells #[.func (.yield l') #[] #[]] 101)).cell? ⟨g1, 6, none⟩ = some (.slice (some ⟨b, off, none⟩) p.ds.l.length p.ds.c) := (World.cell?_alloc_lt W _ ⟨g1, 6, none⟩ hg1).trans c0
  have cf1 : (W.alloc (.cells #[.func (.yield l') #[] #[]] 101)).cell? ⟨g2, 0, none⟩ = some (.int .i64 day) := (World.cell?_alloc_lt W _ ⟨g2, 0, none⟩ hg2).trans c1
  clear c0 c1 hrg
  change Code.wp _ _ _ _ (W.alloc (.cells #[.func (.yield l') #[] #[]] 101))
  generalize W.alloc (.cells #[.func (.yield l') #[] #[]] 101) = w1 at *
  have HRG := Lib.hid hrg2
  clear hrg2
  go_upto_region 2 with (first
    | (refine wpList_load_mid (op := ⟨some 11, _, _, _, _, _⟩) ?_ 72 (.tmp 10) ?_ b (off + day * 5) ?_ (encD d) _ HRG.out Try.underlying72 rfl size_dy ?_; rfl; rfl; rfl))
  have hs4 : Lies (w1.alloc (.cells (encD d).toArray 72)) w1.heap.size 72 (encD d).toArray := Lies.fresh _ _ _
  have hb4 : Below W.heap.size W (w1.alloc (.cells (encD d).toArray 72)) := bf.alloc bf.size _
  have hz4 : (w1.alloc (.cells (encD d).toArray 72)).heap.size = W.heap.size + 2 := by simp; omega
  have lf4 : Lies (w1.alloc (.cells (encD d).toArray 72)) W.heap.size 101 #[.func (.yield l') #[] #[]] := lf.alloc _
  have hj4 : J 0 (w1.alloc (.cells (encD d).toArray 72)) := HJ.out _ _ _ H0.out (Recs.of_below hb4)
  rw [hz1] at hs4
  change Code.wp _ _ _ _ (w1.alloc (.cells (encD d).toArray 72))
  generalize w1.alloc (.cells (encD d).toArray 72) = w4 at *
  clear HRG lf bf cf0 cf1
  have HS4 := Lib.hid hs4
  have HF4 := Lib.hid lf4
  have HB4 := Lib.hid hb4
  have HJ4 := Lib.hid hj4
  have hrg4 : w4.rangeAt (W.heap.size + 1) 0 [.int .i64 d.lo, .int .i64 d.hi] := Lies.range hs4 (fun j v hj => by
    match j, hj with
    | 0, hj => exact hj
    | 1, hj => exact hj)
  have HRG4 := Lib.hid hrg4
  clear hs4 lf4 hb4 hj4 hrg4 H0
  go_wp2_with (first
    | (refine wpList_load_mid (op := ⟨some 13, _, _, _, _, _⟩) ?_ 31 (.tmp 12) ?_ (W.heap.size + 1) 0 ?_ [.int .i64 d.lo, .int .i64 d.hi] _ HRG4.out Try.underlying31 rfl size_rg ?_; rfl; rfl; rfl)
    | (go_at_call 72; refine (all_any d.lo d.hi _).mono ?_; rintro e w5 ⟨rfl, rfl⟩))
  have hz5 : (w4.alloc (.cells #[.int .i64 d.lo, .int .i64 d.hi] 31)).heap.size = W.heap.size + 3 := by simp; omega
  have lr5 : Lies (w4.alloc (.cells #[.int .i64 d.lo, .int .i64 d.hi] 31)) w4.heap.size 31 #[.int .i64 d.lo, .int .i64 d.hi] := Lies.fresh _ _ _
  have hi5 : J 0 (w4.alloc (.cells #[.int .i64 d.lo, .int .i64 d.hi] 31)) := HJ.out _ _ _ HJ4.out (Recs.alloc _ _ _)
  have ls5 := HS4.out.alloc (.cells #[.int .i64 d.lo, .int .i64 d.hi] 31)
  have lf5 := HF4.out.alloc (.cells #[.int .i64 d.lo, .int .i64 d.hi] 31)
  rw [hz4] at lr5
  clear HRG4 HB4 HJ4 HS4 HF4
  generalize w4.alloc (.cells #[.int .i64 d.lo, .int .i64 d.hi] 31) = w5 at *
  have HZ5 := Lib.hid hz5
  refine range_givesK (n := n + 2) (gf := 86) rfl enters_all1 (all1_gives (n + 1) (by omega) (W.heap.size + 2) d.lo d.hi w5 (by omega) (by omega) (fun V => Lies V (W.heap.size + 2) 31 #[.int .i64 d.lo, .int .i64 d.hi]) (fun V h => h)) (Below.refl _ _) (fun _ => rfl)
    (fun k V => J k V ∧ Lies V W.heap.size 101 #[.func (.yield l') #[] #[]] ∧ Lies V (W.heap.size + 1) 72 (encD d).toArray ∧ Lies V (W.heap.size + 2) 31 #[.int .i64 d.lo, .int .i64 d.hi])
    (fun c k V => c = .ret ∧ Jx k V) ?hI ?hIx ⟨hi5, lf5, ls5, lr5⟩ ?hSt
    (fun x a' V => a' = { tmps := #[.func (.yield l') #[] #[], .pointer (some ⟨g1, 0, none⟩), .pointer (some ⟨g2, 0, none⟩), .pointer (some ⟨W.heap.size, 0, none⟩), .pointer (some ⟨W.heap.size + 1, 0, none⟩), .int .i64 x, .pointer (some ⟨g1, 6, none⟩), .slice (some ⟨b, off, none⟩) p.ds.l.length p.ds.c, .pointer (some ⟨g2, 0, none⟩), .int .i64 day, .pointer (some ⟨b, off + day * 5, none⟩), .agg (encD d).toArray, .pointer (some ⟨W.heap.size + 1, 0, none⟩), .agg #[.int .i64 d.lo, .int .i64 d.hi], .func (.func 86) #[] #[.pointer (some ⟨W.heap.size + 2, 0, none⟩)], .int .i64 x, undef, undef, undef, undef, undef, undef, undef, undef, undef, undef, undef], defers := [] }) ?hAx ?assign ?body ?done ?stop
  case hI =>
    rintro k V V' ⟨h1, h2, h3, h4⟩ ht
    exact ⟨HJ.out _ _ _ h1 (ht.mono (by have := HZ5.out; omega)), ht.lies h2, ht.lies h3, ht.lies h4⟩
  case hIx =>
    rintro c k V V' ⟨h1, h2⟩ ht
    exact ⟨h1, HJX.out _ _ _ h2 (ht.mono (by have := HZ5.out; omega))⟩
  case hSt =>
    rintro k V ⟨-, -, -, h4⟩
    exact h4
  case hAx =>
    rintro x a' V V' rfl ht
    rfl
  case stop =>
    rintro D cd j V hD hk' ⟨rfl, hx⟩ hd
    refine wpIn_ret ?_
    refine leave_mark hd ⟨_, results_none rfl _ _ _, ⟨_, rfl⟩, .inr ⟨j, hk', HJX.out _ _ _ hx (Recs.put _ (by have := HZ5.out; omega) hd rfl)⟩⟩
  case assign =>
    intro l2 j x V K hx hi hK
    have HIN := Lib.hid hi
    clear hx hi
    simp only [encY]
    gi_wp2_with (fail)
    exact hK _ _ (Keep.refl _ _) HIN.out rfl
  case body =>
    rintro l2 j x a' V hl2 hx ⟨hj, hf, hs, hr⟩ rfl
    obtain ⟨hjn, rfl⟩ := rngL_some hx
    obtain ⟨-, hm, -⟩ := HPT.out _ _ hj
    have c16 : V.cell? ⟨W.heap.size, 0, none⟩ = some (.func (.yield l') #[] #[]) := hf.at_ 0
    have c19 : V.cell? ⟨g2, 1, none⟩ = some (.int .i64 left) := hm.at_ 1
    have c23 : V.cell? ⟨W.heap.size + 1, 2, none⟩ = some (.int .i64 d.sp) := hs.at_ 2
    have hx0 : 0 ≤ d.lo + (j : Int) := by omega
    have hx1 : d.lo + (j : Int) ≤ 30 := by omega
    have hw1 : IntKind.i64.wrap (left + (d.lo + (j : Int))) = left + (d.lo + (j : Int)) := IntWalk.i64_in _ (by omega)
    have hw2 : IntKind.i64.wrap (left + (d.lo + (j : Int)) - d.sp) = left + (d.lo + (j : Int)) - d.sp := IntWalk.i64_in _ (by omega)
    obtain ⟨fn, tmps, assign, body, hy, hR⟩ := HY.out j _ V hx hj
    dsimp only [encR] at hy
    clear hx hm
    gi_wp2_with (fail)
    refine hR.mono ?_
    clear hR hy
    rintro e V5 ⟨⟨rfl, hJ5⟩ | ⟨rfl, hx5⟩, hk5⟩
    · gi_wp2_with (fail)
      exact ⟨hk5.mono (by have := HZ5.out; omega), hJ5, hk5.lies (Nat.le_refl _) hf, hk5.lies (by omega) hs, hk5.lies (by omega) hr⟩
    · gi_wp2_with (fail)
      exact ⟨hk5.mono (by have := HZ5.out; omega), rfl, hx5⟩
  case done =>
    rintro D V hD ⟨hj, -, -, -⟩ hd
    have HDD := Lib.hid hd
    have HJD := Lib.hid hj
    clear hd hj
    go_wp2
    exact leave_mark HDD.out ⟨_, results_none rfl _ _ _, ⟨_, rfl⟩, .inl (HJ.out _ _ _ HJD.out (Recs.put _ (by have := HZ5.out; omega) HDD.out rfl))⟩
end Go.Proofs.Yteognijlgalahaa
