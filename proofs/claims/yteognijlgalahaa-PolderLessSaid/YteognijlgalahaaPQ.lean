/- play. -/
import Derived.Test.YteognijlgalahaaPP
namespace Go.Proofs.Yteognijlgalahaa
open Go.RowKit Go.Lib
attribute [local go_sem] Oper.semAt_some

/-- Rain that may fall. -/
def PoD.rainy (p : PoD) (rs : List Int) : Prop := rs.length = p.ds.length ∧ ∀ (i : Nat) d r, p.ds[i]? = some d → rs[i]? = some r → d.lo ≤ r ∧ r ≤ d.hi
set_option maxRecDepth 100000 in
set_option maxHeartbeats 8000000 in
theorem play_any (p : PoM) (D mb : Nat) (start : Int) (A : Option Addr) (c : Nat) (rs : List Int) (w : World) (hk : KeM p p.T 0 D mb w) (hok : p.d.Ok) (hs : Sl w w.heap.size 1 encI A rs) (hr : p.d.rainy rs) (hkept : p.d.kept start) (hv : p.d.vals p.ds.l start ≠ -1) :
    Calls Try.prog 55 #[.agg (keC p D mb).toArray, .int .i64 start, .slice A rs.length c] w fun e w' => ∃ A1 c1 A2 c2, e = .returned (.tuple #[.slice A1 (p.d.play p.ds.l start rs).1.length c1, .slice A2 (p.d.play p.ds.l start rs).2.1.length c2, .int .i64 (p.d.play p.ds.l start rs).2.2]) ∧
      Sl w' w'.heap.size 1 encI A1 (p.d.play p.ds.l start rs).1 ∧ Sl w' w'.heap.size 1 encI A2 (p.d.play p.ds.l start rs).2.1 ∧ StepB mb w w' := by
  obtain ⟨hrl, hrr⟩ := hr
  have hrl' : rs.length = p.ds.l.length := hrl
  have hln : p.ds.l.length ≤ 12 := hok.n2
  have hl0 : 0 ≤ p.low := hok.l0
  have hl2 : p.high ≤ 60 := hok.l2
  have hi1 : p.inl ≤ 20 := hok.i1
  have hp1 : p.pump ≤ 20 := hok.p1
  have hDw : D < w.heap.size := hk.c.in_
  have hmb : mb < w.heap.size := hk.size
  have hAw : ∀ a, p.ds.A = some a → p.ds.l ≠ [] → a.block < w.heap.size := fun a e hne => by
    obtain ⟨b, off, e2, hb, -⟩ := hk.q.s hne
    rw [e] at e2; cases e2; exact hb
  have b0 : Below w.heap.size w (w.alloc (.cells (keC p D mb).toArray 89)) := (by repeat (first | (with_reducible assumption) | (with_reducible exact Below.refl _ _) | (with_reducible refine Below.drew ?_) | (with_reducible refine below_drewN ?_ _) | ((with_reducible refine Below.setCell ?_ ?_ _); rotate_left; focus (first | (simp; done) | (simp; omega) | omega)) | ((with_reducible refine Below.alloc ?_ ?_ _); rotate_left; focus (first | (simp; done) | (simp; omega) | omega))))
  have hM : PyM p D mb A rs w (.slice none 0 0) (.slice none 0 0) [] [] (w.alloc (.cells (keC p D mb).toArray 89)) :=
    ⟨Lies.fresh _ _ _, hk.call b0, hs.below b0, World.ownsRow_nil _ _ _ _, World.ownsRow_nil _ _ _ _, fun g hg => by simp [Value.ownBlock] at hg, .of_below b0⟩
  obtain ⟨N, hN⟩ : ∃ N, N = rs.length := ⟨_, rfl⟩
  have HAW := Lib.hid hAw
  have HOK := Lib.hid hok
  have HRR := Lib.hid hrr
  have HM := Lib.hid hM
  have HN := Lib.hid hN
  have hNz : N ≤ 12 := by omega
  have hNl : N = p.ds.l.length := by omega
  have HNL := Lib.hid hNl
  have H0 := Lib.hid (show p.d.kept start ∧ p.d.vals (p.d.ds.drop 0) start ≠ -1 from ⟨hkept, hv⟩)
  rw [← hN]
  clear hk hok hs hrl hrl' hrr hkept hv hAw b0 hM hN hNl
  go_enter Try.func55, Try.ntmps55
  go_wp2
  change Code.wp _ _ _ _ (w.alloc (.cells (keC p D mb).toArray 89))
  generalize w.alloc (.cells (keC p D mb).toArray 89) = w1 at *
  go_loopw [6, 7, 8, 9, 10, 11, 12, 13, 17] (fun s6 s7 s8 s9 _ _ _ _ s17 wr => ∃ (k : Nat) (A1 : Option Addr) (c1 : Nat) (A2 : Option Addr) (c2 : Nat) (ls us : List Int) (cost lv : Int), k ≤ N ∧ ls.length = k ∧ us.length = k ∧ s6 = .slice A1 ls.length c1 ∧ s7 = .slice A2 us.length c2 ∧ s8 = .int .i64 cost ∧ s9 = .int .i64 lv ∧ s17 = .int .i64 k ∧ 0 ≤ cost ∧ cost ≤ 2000 * k ∧
      Aside (p.d.kept lv ∧ p.d.vals (p.d.ds.drop k) lv ≠ -1) ∧ Aside (p.d.play p.ds.l start rs = (ls ++ (p.d.play (p.d.ds.drop k) lv (rs.drop k)).1, us ++ (p.d.play (p.d.ds.drop k) lv (rs.drop k)).2.1, cost + (p.d.play (p.d.ds.drop k) lv (rs.drop k)).2.2)) ∧
      Aside (PyM p D mb A rs w (.slice A1 ls.length c1) (.slice A2 us.length c2) ls us wr)) (fun _ _ _ _ _ _ _ _ i _ => N - (intOf i).toNat)
  case atStart => exact ⟨0, none, 0, none, 0, [], [], 0, start, by omega, rfl, rfl, rfl, rfl, rfl, rfl, rfl, by omega, by omega, H0.out, by show _ = ([] ++ _, [] ++ _, 0 + _); rw [List.nil_append, List.nil_append, Int.zero_add]; rfl, HM.out⟩
  case round =>
    obtain ⟨k, A1, c1, A2, c2, ls, us, cost, lv, hkN, hll, hul, rfl, rfl, rfl, rfl, rfl, hc0, hc1, HV, HP, HW⟩ := hrel
    by_cases hlt : k < N
    · have hltz : (k : Int) < (N : Int) := by omega
      have hk0 : (0 : Int) ≤ (k : Int) := by omega
      have hkl : k < p.ds.l.length := by have := HNL.out; omega
      obtain ⟨d, hd⟩ : ∃ d, p.ds.l[k]? = some d := ⟨p.ds.l[k]'hkl, by simp⟩
      have hrk : k < rs.length := by have := HN.out; omega
      obtain ⟨r, hr⟩ : ∃ r, rs[k]? = some r := ⟨rs[k]'hrk, by simp⟩
      obtain ⟨br, offr, hAr, hbr, hcr⟩ := HW.out.r.cell1 hr
      have l21 : wr.cell? ⟨br, offr + k, none⟩ = some (.int .i64 r) := hcr
      obtain ⟨hr0, hr1⟩ := HRR.out k d r hd hr
      have hdk := HOK.out.d d (List.mem_of_getElem? hd)
      obtain ⟨d0, d1, d2, d3, d4, -, -, -, -⟩ := hdk
      obtain ⟨hkp, hvv⟩ := HV.out
      have hkp0 : p.low ≤ lv := hkp.1
      have hkp1 : lv ≤ p.high := hkp.2
      obtain ⟨n1, n2, n3, n4⟩ := PoD.next HOK.out hd hr0 hr1 hvv
      have hst := PoD.play_drop (p := p.d) (lv := lv) hd hr
      have hbe := best_any p p.T 0 D mb k d lv wr HW.out.e HOK.out hd (by omega) (p.tok HOK.out) (by omega) (by omega)
      have e1 : p.T (k + 1) = p.d.vals (p.d.ds.drop (k + 1)) := rfl
      rw [e1] at hbe
      obtain ⟨⟨a, b⟩, hab⟩ : ∃ ab, ab = p.d.bestD (p.d.vals (p.d.ds.drop (k + 1))) d lv := ⟨_, rfl⟩
      rw [← hab] at hbe n1 n2 n3 n4 hst
      dsimp only at hbe n1 n2 n3 n4 hst
      have n1' : -p.inl ≤ a := n1
      have n2' : a ≤ p.pump := n2
      have hpr0 := d.price_nonneg (HOK.out.d d (List.mem_of_getElem? hd)) a
      have hpr1 := Dy.price_le (HOK.out.d d (List.mem_of_getElem? hd)) (a := a) (by omega) (by omega)
      have HPR := Lib.hid (fun W => price_any d a W (HOK.out.d d (List.mem_of_getElem? hd)) (by omega) (by omega))
      obtain ⟨pr, hpr⟩ : ∃ pr, pr = d.price a := ⟨_, rfl⟩
      rw [← hpr] at hpr0 hpr1 HPR hst
      obtain ⟨lv', hlv'⟩ : ∃ lv', lv' = lv + (r - d.sp - a) := ⟨_, rfl⟩
      rw [← hlv'] at n3 n4 hst
      have n30 : p.low ≤ lv' := n3.1
      have n31 : lv' ≤ p.high := n3.2
      have hw1 : IntKind.i64.wrap (r - d.sp) = r - d.sp := IntWalk.i64_in _ (by omega)
      have hw2 : IntKind.i64.wrap (r - d.sp - a) = r - d.sp - a := IntWalk.i64_in _ (by omega)
      have hw3 : IntKind.i64.wrap (lv + (r - d.sp - a)) = lv' := by rw [IntWalk.i64_in _ (by omega), hlv']
      have hw4 : IntKind.i64.wrap (cost + pr) = cost + pr := IntWalk.i64_in _ (by omega)
      have HST := Lib.hid hst
      have HBE := Lib.hid hbe
      have HD := Lib.hid hd
      have HNX := Lib.hid (show p.d.kept lv' ∧ p.d.vals (p.d.ds.drop (k + 1)) lv' ≠ -1 from ⟨n3, n4⟩)
      have HW0 := Lib.hid HW.out
      have HPL := Lib.hid HP.out
      have HLL := Lib.hid hll
      have HUL := Lib.hid hul
      subst hAr
      clear hd hr hcr hst hbe hab e1 n3 n4 n1 n2 hkp hvv hpr hlv' HW HV HP hbr hll hul
      have K23 := Lib.hid True.intro
      go_wp2_with (first
        | (have h := K23; clear h; refine wpList_load_row (o := ⟨some 23, _, _, _, _, _⟩) ?_ 89 (.tmp 3) ?_ w.heap.size ?_ 89 (keC p D mb).toArray (0, 0) _ HW0.out.k Try.underlying89 rfl size_ke ?_; rfl; rfl; rfl; have K26 := Lib.hid True.intro; clear K23)
        | (have h := K26; clear h; go_at_call 52; refine HBE.out.mono ?_; rintro e u1 ⟨rfl, hke, hg⟩; have M1 := Lib.hid (HW0.out.step hke hg); clear hke hg; obtain ⟨bd, od, hA, hbd, hrg⟩ := M1.out.e.q.s.cellD HD.out; have c33 : u1.cell? ⟨w.heap.size, 6, none⟩ = some (.slice (some ⟨bd, od, none⟩) p.ds.l.length p.ds.c) := (by rw [← hA]; exact M1.out.k.at_ 6); have c37 : u1.cell? ⟨bd, od + k * 5 + 2, none⟩ = some (.int .i64 d.sp) := hrg 2 _ rfl; have HRG := Lib.hid hrg; have hdz : (k : Int) < (p.ds.l.length : Int) := (by omega); have hlz : (p.ds.l.length : Int) ≤ 12 := (by omega); clear hA hbd hrg l21; have K48 := Lib.hid True.intro; clear K26)
        | (have h := K48; clear h; refine wpList_load_mid (op := ⟨some 48, _, _, _, _, _⟩) ?_ 72 (.tmp 47) ?_ bd (od + k * 5) ?_ (encD d) _ HRG.out Try.underlying72 rfl size_dy ?_; rfl; rfl; rfl; have K50 := Lib.hid True.intro; clear K48)
        | (have h := K50; clear h; go_at_call 78; refine (HPR.out u1).mono ?_; rintro e u2 ⟨rfl, hb2⟩; have M2 := Lib.hid (M1.out.call hb2); have hsz2 := M2.out.size; have M3 := Lib.hid (M2.out.call ((Below.refl _ _).alloc (Nat.le_refl _) (.cells #[.int .i64 lv'] 3))); have N3 := Lib.hid ((Lies.fresh u2 3 #[.int .i64 lv']).at_ 0); clear hb2 c33 c37; have K55 := Lib.hid True.intro; clear K50)
        | (have h := K55; clear h; refine wpList_app_one (o := ⟨some 55, _, _, _, _, _⟩) ?_ (.tmp 52) (.tmp 54) ?_ (w.heap.size + 1) _ ls ?_ M3.out.l u2.heap.size 1 lv' ?_ N3.out (by have := HLL.out; omega) M3.out.size ?_; rfl; rfl; rfl; rfl; intro g3 cap3 u3 ho3 hg3 hat3; have M4 := Lib.hid (M3.out.appL hDw hmb HAW.out ho3 hg3 hat3); clear ho3 hg3 hat3; have M5 := Lib.hid (M4.out.call ((Below.refl _ _).alloc (Nat.le_refl _) (.cells #[.int .i64 a] 3))); have N5 := Lib.hid ((Lies.fresh u3 3 #[.int .i64 a]).at_ 0); have K59 := Lib.hid True.intro; clear K55)
        | (have h := K59; clear h; refine wpList_app_one (o := ⟨some 59, _, _, _, _, _⟩) ?_ (.tmp 56) (.tmp 58) ?_ (w.heap.size + 1) _ us ?_ M5.out.a u3.heap.size 1 a ?_ N5.out (by have := HUL.out; omega) M5.out.size ?_; rfl; rfl; rfl; rfl; intro g4 cap4 u4 ho4 hg4 hat4; have M6 := Lib.hid (M5.out.appA hDw hmb HAW.out ho4 hg4 hat4); clear ho4 hg4 hat4; clear K59))
      go_roundw
      case rel =>
        refine ⟨k + 1, some ⟨g3, 0, none⟩, cap3, some ⟨g4, 0, none⟩, cap4, ls ++ [lv'], us ++ [a], cost + pr, lv', by omega, by simp [HLL.out], by simp [HUL.out], (by first | rfl | go_num | simp), (by first | rfl | go_num | simp), by go_num, by go_num, by go_num, by omega, by omega, HNX.out, ?_, M6.out⟩
        show _ = _
        rw [HPL.out, HST.out]
        simp [List.append_assoc, Int.add_assoc]
      case measure => simp [intOf]; omega
    · obtain rfl : k = N := by omega
      have hend : p.d.play p.ds.l start rs = (ls, us, cost) := by
        have h := HP.out
        have e1 : p.d.ds.drop k = [] := List.drop_eq_nil_of_le (by show p.ds.l.length ≤ k; have := HNL.out; omega)
        rw [e1] at h
        rw [h]
        simp [PoD.play]
      have HE := Lib.hid hend
      have HWW := Lib.hid HW.out
      clear hend HV HP HW
      go_wp2
      go_ret3
      rw [HE.out]
      obtain ⟨A', c', e', _, hs1⟩ := Sl.of_own (enc := encI) (l := ls) (fun _ => rfl) HWW.out.l rfl
      obtain ⟨A'', c'', e'', _, hs2⟩ := Sl.of_own (enc := encI) (l := us) (fun _ => rfl) HWW.out.a rfl
      cases e'
      cases e''
      exact ⟨A1, c1, A2, c2, rfl, hs1, hs2, HWW.out.w⟩
end Go.Proofs.Yteognijlgalahaa
