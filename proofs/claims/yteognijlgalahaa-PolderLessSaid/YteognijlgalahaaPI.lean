/- starts, cost. -/
import Derived.Test.YteognijlgalahaaPH
namespace Go.Proofs.Yteognijlgalahaa
open Go.RowKit Go.Lib
attribute [local go_sem] Oper.semAt_some

/-- The costs of the levels of Start. -/
def PoM.startL (p : PoM) : List Int := (List.range p.d.starts).map fun (i : Nat) => p.T 0 (p.slo + (i : Int))
theorem PoM.startL_length (p : PoM) : p.startL.length = p.d.starts := by simp [PoM.startL]
theorem PoM.startL_at (p : PoM) {i : Nat} (h : i < p.d.starts) : p.startL[i]? = some (p.T 0 (p.slo + (i : Int))) := by
  unfold PoM.startL
  rw [List.getElem?_map, List.getElem?_range h]; rfl
theorem PoM.cost_eq (p : PoM) : greL p.startL p.startL.length = p.d.costD := by
  unfold greL PoD.costD
  rw [p.startL_length]
  refine greTo_congr fun k hk => ?_
  rw [List.getD, p.startL_at hk]; rfl
set_option maxRecDepth 100000 in
set_option maxHeartbeats 4000000 in
theorem starts_any (p : PoM) (D mb : Nat) (w : World) (hok : p.d.Ok) (hk : KeM p p.T 0 D mb w) : Calls Try.prog 74 #[.agg (keC p D mb).toArray] w fun e w' => ∃ c, e = .returned (.slice (some ⟨D, p.slo.toNat, none⟩) p.startL.length c) ∧ Sl w' w'.heap.size 1 encI (some ⟨D, p.slo.toNat, none⟩) p.startL ∧ Below w.heap.size w w' := by
  have hl0 : 0 ≤ p.low := hok.l0
  have hl2 : p.high ≤ 60 := hok.l2
  have hs0 : p.low ≤ p.slo := hok.s0
  have hs1 : p.slo ≤ p.shi := hok.s1
  have hs2 : p.shi ≤ p.high := hok.s2
  have hln : p.ds.l.length ≤ 12 := hok.n2
  obtain ⟨a, ha⟩ : ∃ a : Nat, a = p.slo.toNat := ⟨_, rfl⟩
  obtain ⟨b, hb⟩ : ∃ b : Nat, b = p.shi.toNat := ⟨_, rfl⟩
  have hsl : p.slo = (a : Int) := by omega
  have hsh : p.shi = (b : Int) := by omega
  have hn : p.startL.length = b + 1 - a := by rw [p.startL_length]; unfold PoD.starts; show (p.shi + 1 - p.slo).toNat = _; omega
  have hn' : p.d.starts = b + 1 - a := by unfold PoD.starts; show (p.shi + 1 - p.slo).toNat = _; omega
  rw [← ha, hn]
  have l0 : Lies (w.alloc (.cells (keC p D mb).toArray 89)) w.heap.size 89 (keC p D mb).toArray := Lies.fresh _ _ _
  have b0 : Below w.heap.size w (w.alloc (.cells (keC p D mb).toArray 89)) := (by repeat (first | (with_reducible assumption) | (with_reducible exact Below.refl _ _) | (with_reducible refine Below.drew ?_) | (with_reducible refine below_drewN ?_ _) | ((with_reducible refine Below.setCell ?_ ?_ _); rotate_left; focus (first | (simp; done) | (simp; omega) | omega)) | ((with_reducible refine Below.alloc ?_ ?_ _); rotate_left; focus (first | (simp; done) | (simp; omega) | omega))))
  have k0 := hk.call b0
  go_enter Try.func74, Try.ntmps74
  have HN := Lib.hid hn
  have HN' := Lib.hid hn'
  have HB := Lib.hid b0
  have HK := Lib.hid k0
  have HA := Lib.hid hsl
  have hab : a ≤ b + 1 := by omega
  have hb60 : b ≤ 60 := by omega
  have ha60 : a ≤ 60 := by omega
  have haz : (0 : Int) ≤ (a : Int) := by omega
  have habz : (a : Int) ≤ (b : Int) + 1 := by omega
  have hbz : (b : Int) + 1 ≤ 61 := by omega
  have h01 : (0 : Int) < (p.ds.l.length : Int) + 1 := by omega
  have hlnz : (p.ds.l.length : Int) ≤ 12 := by omega
  have c4 : (w.alloc (.cells (keC p D mb).toArray 89)).cell? ⟨w.heap.size, 7, none⟩ = some (.slice (some ⟨D, 0, none⟩) (p.ds.l.length + 1) (p.ds.l.length + 1)) := l0.at_ 7
  have c9 : (w.alloc (.cells (keC p D mb).toArray 89)).cell? ⟨w.heap.size, 2, none⟩ = some (.int .i64 a) := by rw [← hsl]; exact l0.at_ 2
  have c13 : (w.alloc (.cells (keC p D mb).toArray 89)).cell? ⟨w.heap.size, 3, none⟩ = some (.int .i64 b) := by rw [← hsh]; exact l0.at_ 3
  have HOKK := Lib.hid (show p.low ≤ p.slo ∧ p.shi ≤ p.high ∧ p.shi = (b : Int) from ⟨hs0, hs2, hsh⟩)
  clear hn hn' hl0 hl2 hs0 hs1 hs2 hok hk ha hb hsl hsh l0 b0 k0
  go_upto_region 1 with (fail)
  change Code.wp _ _ _ _ (w.alloc (.cells (keC p D mb).toArray 89))
  generalize w.alloc (.cells (keC p D mb).toArray 89) = w1 at *
  have r4 := cell_regrown c4
  have r9 := cell_regrown c9
  have r13 := cell_regrown c13
  go_quiet (fail)
  go_wp2
  refine bodyPost_ret (results_tmp (t := 2) rfl _ _ _) rfl ?_
  have hbd : Below w1.heap.size w1 (w1.drewN nq) := below_drewN (Below.refl _ _) nq
  have K9 := HK.out.call hbd
  refine ⟨61 - a, rfl, fun _ => ⟨D, a, rfl, K9.c.in_, fun i x hx k u hu => ?_⟩, HB.out.trans (hbd.mono HB.out.size)⟩
  have hi : i < p.d.starts := by have := (List.getElem?_eq_some_iff.1 hx).1; rw [p.startL_length] at this; exact this
  rw [p.startL_at hi] at hx
  obtain rfl := Option.some.inj hx
  have hk0 : k = 0 := by have := (List.getElem?_eq_some_iff.1 hu).1; simp at this; omega
  subst hk0
  obtain rfl : _ = u := Option.some.inj hu
  have hcc := HOKK.out
  obtain ⟨h1, h2, h3⟩ := hcc
  have := K9.c.at_ (day := 0) (lv := a + i) (Nat.le_refl _) (by omega) (by have := HA.out; omega) (by have := HN'.out; have := HA.out; omega)
  have e1 : 0 * 61 + (a + i) = a + i * 1 + 0 := by omega
  have e2 : ((a + i : Nat) : Int) = p.slo + (i : Int) := by have := HA.out; omega
  rw [e1, e2] at this
  exact this
set_option maxRecDepth 100000 in
set_option maxHeartbeats 4000000 in
theorem cost_any (p : PoM) (D mb : Nat) (w : World) (hok : p.d.Ok) (hk : KeM p p.T 0 D mb w) : Calls Try.prog 50 #[.agg (keC p D mb).toArray] w fun e w' => e = .returned (.int .i64 p.d.costD) ∧ Below w.heap.size w w' := by
  have l0 : Lies (w.alloc (.cells (keC p D mb).toArray 89)) w.heap.size 89 (keC p D mb).toArray := Lies.fresh _ _ _
  have b0 : Below w.heap.size w (w.alloc (.cells (keC p D mb).toArray 89)) := (by repeat (first | (with_reducible assumption) | (with_reducible exact Below.refl _ _) | (with_reducible refine Below.drew ?_) | (with_reducible refine below_drewN ?_ _) | ((with_reducible refine Below.setCell ?_ ?_ _); rotate_left; focus (first | (simp; done) | (simp; omega) | omega)) | ((with_reducible refine Below.alloc ?_ ?_ _); rotate_left; focus (first | (simp; done) | (simp; omega) | omega))))
  have k0 := hk.call b0
  have hsz : p.startL.length ≤ 61 := by
    rw [p.startL_length]; unfold PoD.starts
    show (p.shi + 1 - p.slo).toNat ≤ 61
    have : 0 ≤ p.low := hok.l0
    have : p.high ≤ 60 := hok.l2
    have : p.low ≤ p.slo := hok.s0
    have : p.shi ≤ p.high := hok.s2
    omega
  have HB := Lib.hid b0
  have HK := Lib.hid k0
  have HL := Lib.hid l0
  have HOK := Lib.hid hok
  have HSZ := Lib.hid hsz
  clear b0 k0 l0 hok hsz hk
  go_enter Try.func50, Try.ntmps50
  go_upto_region 1 with (fail)
  change Code.wp _ _ _ _ (w.alloc (.cells (keC p D mb).toArray 89))
  generalize w.alloc (.cells (keC p D mb).toArray 89) = w1 at *
  go_wp2_with (first
    | (refine wpList_load_row (o := ⟨some 3, _, _, _, _, _⟩) ?_ 89 (.tmp 1) ?_ w.heap.size ?_ 89 (keC p D mb).toArray (0, 0) _ HL.out Try.underlying89 rfl size_ke ?_; rfl; rfl; rfl)
    | (go_at_call 74; refine (starts_any p D mb _ HOK.out HK.out).mono ?_; rintro e w2 ⟨c, rfl, hs2, hb2⟩)
    | (go_at_call 73; refine (greatest_any _ c p.startL _ hs2 (by have := HSZ.out; omega) (fun x hx => by obtain ⟨i, _, rfl⟩ := List.mem_map.1 hx; exact p.tok HOK.out 0 _)).mono ?_; rintro e w3 ⟨rfl, hb3⟩))
  rw [p.cost_eq]
  go_ret
  exact ⟨rfl, HB.out.trans ((hb2.trans (hb3.mono hb2.size)).mono HB.out.size)⟩
end Go.Proofs.Yteognijlgalahaa
