/- StockKept. -/
import Derived.Test.YtlkdmcdnkoiflaaGH
import Derived.Test.YtlkdmcdnkoiflaaGF
namespace Go.Proofs.Ytlkdmcdnkoiflaa
open Go.RowKit Go.Lib

end Go.Proofs.Ytlkdmcdnkoiflaa

namespace Go.Proofs.Ytlkdmcdnkoiflaa
open Go.RowKit Go.Lib

/-- An end of a range. -/
def endF (b : Bool) (r : Int × Int) : Int := if b then r.2 else r.1
/-- The truth at the ends. -/
def endsD (d : PD) (Y : Nat) (hg : Bool) (year : Int) : TD :=
  mkT d.s.length Y (fun s => endF hg (d.s.getD s (0, 0))) (fun _ s k => endF hg ((d.g.getD s []).getD k (0, 0))) (fun y => endF (hg != decide ((y : Int) < year)) (d.lo, d.hi))
theorem end_any (lo hi : Int) (b : Bool) (w : World) : Calls Try.prog 68 #[.agg #[.int .i64 lo, .int .i64 hi], .bool b] w fun e w' => e = .returned (.int .i64 (endF b (lo, hi))) ∧ Below w.heap.size w w' := by
  unfold endF
  cases b
  all_goals
    go_enter Try.func68, Try.ntmps68
    go_wp2
    go_ret
    exact ⟨rfl, (by repeat (first | (with_reducible assumption) | (with_reducible exact Below.refl _ _) | (with_reducible refine Below.drew ?_) | (with_reducible refine below_drewN ?_ _) | ((with_reducible refine Below.setCell ?_ ?_ _); rotate_left; focus (first | (simp; done) | (simp; omega) | omega)) | ((with_reducible refine Below.alloc ?_ ?_ _); rotate_left; focus (first | (simp; done) | (simp; omega) | omega))))⟩
set_option maxRecDepth 100000 in
set_option maxHeartbeats 4000000 in
theorem Ends_any (p : PlM) (Y : Nat) (hg : Bool) (year : Int) (w : World) (hp : p.At w w.heap.size) (hv : p.Valid) (hY : p.years = (Y : Int)) :
    Calls Try.prog 29 #[.agg p.cells.toArray, .bool hg, .int .i64 year] w (RetT (endsD p.d Y hg year) w) := by
  obtain ⟨i0, hi, hz0, hz1, hz2⟩ := info_parts infoInt
  obtain ⟨i1, hi1, hz10, hz11, hz12⟩ := info_parts infoInts
  obtain ⟨i2, hi2, hz20, hz21, hz22⟩ := info_parts infoRows
  have hn5 := hv.ok.n
  have hn1 := hv.ok.one
  have hY6 : Y ≤ 6 := by have := hv.y; omega
  have hPI : ∀ (W : World) (lo hi : Int) (b : Bool), Calls Try.prog 68 #[.agg #[.int .i64 lo, .int .i64 hi], .bool b] W fun e w' => e = .returned (.int .i64 (endF b (lo, hi))) ∧ Below W.heap.size W w' := fun W lo hi b => end_any lo hi b W
  have l0 : Lies (((w.alloc (.cells p.cells.toArray 28)).alloc (.cells #[.slice none 0 0, .slice none 0 0, .slice none 0 0] 31)).alloc (.cells #[.slice none 0 0, .slice none 0 0, .slice none 0 0] 31)) w.heap.size 28 p.cells.toArray := ((Lies.fresh _ _ _).alloc _).alloc _
  have l1 : Lies (((w.alloc (.cells p.cells.toArray 28)).alloc (.cells #[.slice none 0 0, .slice none 0 0, .slice none 0 0] 31)).alloc (.cells #[.slice none 0 0, .slice none 0 0, .slice none 0 0] 31)) (w.heap.size + 1) 31 #[.slice none 0 0, .slice none 0 0, .slice none 0 0] := (Lies.fresh' (by simp)).alloc _
  have l2 : Lies (((w.alloc (.cells p.cells.toArray 28)).alloc (.cells #[.slice none 0 0, .slice none 0 0, .slice none 0 0] 31)).alloc (.cells #[.slice none 0 0, .slice none 0 0, .slice none 0 0] 31)) (w.heap.size + 1 + 1) 31 #[.slice none 0 0, .slice none 0 0, .slice none 0 0] := Lies.fresh' (by simp)
  have b0 : Below w.heap.size w (((w.alloc (.cells p.cells.toArray 28)).alloc (.cells #[.slice none 0 0, .slice none 0 0, .slice none 0 0] 31)).alloc (.cells #[.slice none 0 0, .slice none 0 0, .slice none 0 0] 31)) := (by repeat (first | (with_reducible assumption) | (with_reducible exact Below.refl _ _) | (with_reducible refine Below.drew ?_) | (with_reducible refine below_drewN ?_ _) | ((with_reducible refine Below.setCell ?_ ?_ _); rotate_left; focus (first | (simp; done) | (simp; omega) | omega)) | ((with_reducible refine Below.alloc ?_ ?_ _); rotate_left; focus (first | (simp; done) | (simp; omega) | omega))))
  have hM : PK1 p w (fun s => endF hg (p.d.s.getD s (0, 0))) (.slice none 0 0) 0 (((w.alloc (.cells p.cells.toArray 28)).alloc (.cells #[.slice none 0 0, .slice none 0 0, .slice none 0 0] 31)).alloc (.cells #[.slice none 0 0, .slice none 0 0, .slice none 0 0] 31)) := ⟨l0, l1, l2, by simpa using World.ownsRow_nil _ _ _ _, b0⟩
  have HM := Lib.hid hM
  have HP := Lib.hid hp
  have HV := Lib.hid hv
  have HYE := Lib.hid hY
  have HPI := Lib.hid hPI
  have L0 := Lib.hid l0
  have HI := Lib.hid hi
  have Hz0 := Lib.hid hz0
  have Hz1 := Lib.hid hz1
  have Hz2 := Lib.hid hz2
  have HI1 := Lib.hid hi1
  have Hz10 := Lib.hid hz10
  have Hz11 := Lib.hid hz11
  have Hz12 := Lib.hid hz12
  have HI2 := Lib.hid hi2
  have Hz20 := Lib.hid hz20
  have Hz21 := Lib.hid hz21
  have Hz22 := Lib.hid hz22
  have r0 : (((w.alloc (.cells p.cells.toArray 28)).alloc (.cells #[.slice none 0 0, .slice none 0 0, .slice none 0 0] 31)).alloc (.cells #[.slice none 0 0, .slice none 0 0, .slice none 0 0] 31)).cell? ⟨w.heap.size, 0, none⟩ = some (.slice p.s.A p.s.l.length p.s.c) := l0.at_ 0
  clear hM hp hv hY hPI l0 l1 l2 b0 hi hz0 hz1 hz2 hi1 hz10 hz11 hz12 hi2 hz20 hz21 hz22
  unfold PlM.cells at r0 ⊢
  go_enter Try.func29, Try.ntmps29
  go_wp2
  clear r0
  go_loopw [8] (fun i wr => ∃ (k : Nat) (v : Value), k ≤ p.s.l.length ∧ i = .int .i64 k ∧ Aside (PK1 p w (fun s => endF hg (p.d.s.getD s (0, 0))) v k wr)) (fun i _ => p.s.l.length - (intOf i).toNat)
  case atStart => exact ⟨0, _, by omega, rfl, HM.out⟩
  case round =>
    obtain ⟨k, v, hk, rfl, M⟩ := hrel
    have d0 : wr.cell? ⟨w.heap.size, 0, none⟩ = some (.slice p.s.A p.s.l.length p.s.c) := M.out.pb.at_ 0
    by_cases hlt : k < p.s.l.length
    · have hltz : (k : Int) < (p.s.l.length : Int) := by omega
      have hk0 : (0 : Int) ≤ (k : Int) := by omega
      obtain ⟨r, hr⟩ : ∃ r, p.s.l[k]? = some r := ⟨p.s.l[k], by simp [hlt]⟩
      obtain ⟨b, o, eA, hb, c0, c1⟩ := HP.out.s.cellR hr
      have hrb := HV.out.sb r (List.mem_of_getElem? hr)
      have hfk : endF hg (p.d.s.getD k (0, 0)) = endF hg (r.1, r.2) := by
        show endF hg (p.s.l.getD k (0, 0)) = _
        rw [List.getD, hr]; rfl
      go_wp2
      clear d0
      have q0 := cell_regrown (show wr.cell? ⟨w.heap.size + 1 + 1, 0, none⟩ = some v from M.out.tb.at_ 0)
      have q1 := cell_regrown (show wr.cell? ⟨w.heap.size, 0, none⟩ = some (.slice (some ⟨b, o, none⟩) p.s.l.length p.s.c) by rw [← eA]; exact M.out.pb.at_ 0)
      have q2 := cell_regrown (show wr.cell? ⟨b, o + k * 2, none⟩ = some (.int .i64 r.1) by rw [M.out.b.cell (p := ⟨b, o + k * 2, none⟩) hb]; exact c0)
      have q3 := cell_regrown (show wr.cell? ⟨b, o + k * 2 + 1, none⟩ = some (.int .i64 r.2) by rw [M.out.b.cell (p := ⟨b, o + k * 2 + 1, none⟩) hb]; exact c1)
      have HFK := Lib.hid hfk
      have HRB := Lib.hid hrb
      have HE := Lib.hid eA
      clear hfk hrb c0 c1 hr eA
      refine wp_region_reads 10 [0, 1, 2, 3, 4, 5, 6, 7] [8, 9] (by kernel_rfl) (by kernel_rfl) ?_
      simp only [List.filterMap_cons, List.filterMap_nil, List.take_succ_cons, List.take_zero, List.getElem?_toArray, List.getElem?_cons_zero, List.getElem?_cons_succ, List.drop_succ_cons, List.drop_zero]
      repeat (first | go_big_quiet_step (fail) | quiet_step (fail))
      refine wpQuiet_nil ?_
      intro w0 hb0 hz0
      clear q0 q1 q2 q3 hz0
      simp only [wpForce]
      have M1 := Lib.hid (M.out.call hb0)
      go_wp2_with (go_at_call 68; refine (HPI.out _ r.1 r.2 hg).mono ?_; rintro e w4 ⟨rfl, hb4⟩)
      have M4 := Lib.hid (M1.out.call hb4)
      have hb04 := hb0.trans (hb4.mono hb0.size)
      refine Ends.intro ⟨hb04, ?_⟩
      clear hb4 M1 hb0
      go_wp2
      have M5 := Lib.hid (M4.out.call ((Below.refl _ _).alloc (Nat.le_refl _) (.cells #[.int .i64 (endF hg (r.1, r.2))] 3)))
      have HN5 := Lib.hid (news_alloc w4 [.int .i64 (endF hg (r.1, r.2))] 3)
      refine Ends.intro ⟨hb04.alloc hb04.size _, ?_⟩
      have hz5 : w.heap.size + 3 ≤ (w4.alloc (.cells #[.int .i64 (endF hg (r.1, r.2))] 3)).heap.size := by have := M5.out.tb.in_; omega
      clear hb04
      go_wp2_with (at_builtin; refine wpList_append_lies _ rfl (.tmp 22) (.tmp 30) 23 rfl (w.heap.size + 3) 3 i0 _ 1 8 Try.underlying23 HI.out Hz0.out Hz1.out Hz2.out rfl (by decide) v k (((List.range k).map (fun s => endF hg (p.d.s.getD s (0, 0)))).map (Value.int .i64)) rfl M5.out.own ⟨w4.heap.size, 0, none⟩ 1 1 [.int .i64 (endF hg (r.1, r.2))] rfl rfl HN5.out (by intro u hu; simp at hu; subst hu; rfl) Nat.one_pos (by unfold maxLen; omega) (by omega) hz5 _ rfl ?_; intro g6 cap6 w6 hown6 hg6 hat6 hlt6; have hN := M5.out.next hg6 (by rw [HFK.out]; exact hown6); have c6 : w6.cell? ⟨w.heap.size + 1 + 1, 0, none⟩ = some v := hN.2.2.1.at_ 0; have f6 := hN.2.2.1.free 0; have HN := Lib.hid hN; clear hN hown6 hg6 hat6 hlt6)
      clear hz5 M4 M5 HN5 HFK
      exact ⟨⟨k + 1, _, by omega, by go_num, HN.out.1⟩, by simp [intOf]; omega⟩
    · obtain rfl : k = p.s.l.length := by omega
      have hM2 : PK2 w wr wr.heap.size v (.slice none 0 0) (.slice none 0 0) (fun y => (List.range p.s.l.length).map fun s => (List.range p.s.l.length).map fun k => endF hg ((p.d.g.getD s []).getD k (0, 0))) (fun y : Nat => endF (hg != decide ((y : Int) < year)) (p.d.lo, p.d.hi)) 0 0 wr :=
        ⟨M.out.tb, ⟨[], by simpa using World.ownsRow_nil _ _ _ _, rfl, fun g hg => by cases hg⟩, by simpa using World.ownsRow_nil _ _ _ _, fun _ _ _ => rfl, M.out.b, Nat.le_refl _⟩
      have HM2 := Lib.hid hM2
      have hB2 : w.heap.size + 1 + 1 < wr.heap.size := M.out.tb.in_
      have hYz : (Y : Int) ≤ 6 := by omega
      clear hM2
      obtain ⟨w2, rfl⟩ : ∃ w2 : World, w2 = wr := ⟨_, rfl⟩
      go_wp2
      clear d0
      go_loopw [9, 10, 11, 12, 13] (fun i _ _ _ _ wr => ∃ (y : Nat) (vg vl : Value), y ≤ Y ∧ i = .int .i64 y ∧ Aside (PK2 w w2 w2.heap.size v vg vl (fun y => (List.range p.s.l.length).map fun s => (List.range p.s.l.length).map fun k => endF hg ((p.d.g.getD s []).getD k (0, 0))) (fun y : Nat => endF (hg != decide ((y : Int) < year)) (p.d.lo, p.d.hi)) y y wr)) (fun i _ _ _ _ _ => Y - (intOf i).toNat)
      case atStart => exact ⟨0, _, _, by omega, rfl, HM2.out⟩
      case round =>
        obtain ⟨y, vg, vl, hy, rfl, N⟩ := hrel
        have hPB : ∀ W, (∀ j, j < w2.heap.size → j ≠ w.heap.size + 1 + 1 → W.heap[j]? = w2.heap[j]?) → Lies W w.heap.size 28 p.cells.toArray := fun W h => M.out.pb.to_ (h _ (by omega) (by omega))
        have d7 : wr.cell? ⟨w.heap.size, 7, none⟩ = some (.int .i64 (Y : Int)) := by rw [← HYE.out]; exact (hPB wr N.out.old).at_ 7
        have HPB := Lib.hid hPB
        clear hPB
        obtain ⟨wo, rfl⟩ : ∃ wo : World, wo = wr := ⟨_, rfl⟩
        by_cases hyl : y < Y
        · have hyz : (y : Int) < (Y : Int) := by omega
          have hy0 : (0 : Int) ≤ (y : Int) := by omega
          go_wp2
          clear d7
          go_loopw [10, 11, 12, 13] (fun vr s _ _ wr => ∃ j : Nat, j ≤ p.s.l.length ∧ s = .int .i64 j ∧ Aside (PK3 wo (fun s => (List.range p.s.l.length).map fun k => endF hg ((p.d.g.getD s []).getD k (0, 0))) vr j wr)) (fun _ s _ _ _ => p.s.l.length - (intOf s).toNat)
          case atStart => exact ⟨0, by omega, rfl, PK3.start _ _⟩
          case round =>
            obtain ⟨j, hj, rfl, R⟩ := hrel
            have d0 : wr.cell? ⟨w.heap.size, 0, none⟩ = some (.slice p.s.A p.s.l.length p.s.c) := (HPB.out wr (fun i h1 h2 => by
              have z1 := N.out.z
              rw [R.out.b.block i (by omega), N.out.old i h1 h2])).at_ 0
            obtain ⟨w3, rfl⟩ : ∃ w3 : World, w3 = wr := ⟨_, rfl⟩
            by_cases hjl : j < p.s.l.length
            · have hjz : (j : Int) < (p.s.l.length : Int) := by omega
              have hj0 : (0 : Int) ≤ (j : Int) := by omega
              go_wp2
              clear d0
              go_loopw [12, 13] (fun v4 i wr => ∃ q : Nat, q ≤ p.s.l.length ∧ i = .int .i64 q ∧ Aside (Below w3.heap.size w3 wr ∧ wr.ownsRow w3.heap.size 3 1 v4 q (((List.range q).map fun k => endF hg ((p.d.g.getD j []).getD k (0, 0))).map (Value.int .i64)))) (fun _ i _ => p.s.l.length - (intOf i).toNat)
              case atStart => exact ⟨0, by omega, rfl, Below.refl _ _, by simpa using World.ownsRow_nil _ _ _ _⟩
              case round =>
                obtain ⟨q, hq, rfl, HQ⟩ := hrel
                have hb3 : Below w.heap.size w wr := (N.out.b.trans (R.out.b.mono N.out.b.size)).trans (HQ.out.1.mono (Nat.le_trans N.out.b.size R.out.b.size))
                have hold : ∀ j, j < w2.heap.size → j ≠ w.heap.size + 1 + 1 → wr.heap[j]? = w2.heap[j]? := fun j h1 h2 => by
                  have z1 := N.out.z
                  have z2 := R.out.b.size
                  rw [HQ.out.1.block j (by omega), R.out.b.block j (by omega), N.out.old j h1 h2]
                have d0 : wr.cell? ⟨w.heap.size, 0, none⟩ = some (.slice p.s.A p.s.l.length p.s.c) := (HPB.out wr hold).at_ 0
                by_cases hql : q < p.s.l.length
                · have hqz : (q : Int) < (p.s.l.length : Int) := by omega
                  have hq0 : (0 : Int) ≤ (q : Int) := by omega
                  obtain ⟨x, hx⟩ : ∃ x, p.g.l[j]? = some x := ⟨p.g.l[j]'(by rw [HV.out.g]; exact hjl), by simp⟩
                  have hxm := List.mem_of_getElem? hx
                  have hxl := HV.out.gl x hxm
                  obtain ⟨r, hr⟩ : ∃ r, x.l[q]? = some r := ⟨x.l[q]'(by rw [hxl]; exact hql), by simp⟩
                  have hrb := HV.out.gb x hxm r (List.mem_of_getElem? hr)
                  obtain ⟨bg, og, eg, hbg, cg⟩ := HP.out.g.cell1 hx
                  obtain ⟨br, orr, er, hbr, cr0, cr1⟩ := (HP.out.rows x hxm).cellR hr
                  have d2 : wr.cell? ⟨w.heap.size, 2, none⟩ = some (.slice (some ⟨bg, og, none⟩) p.g.l.length p.g.c) := by rw [← eg]; exact (HPB.out wr hold).at_ 2
                  have d3 : wr.cell? ⟨bg, og + j, none⟩ = some (.slice (some ⟨br, orr, none⟩) p.s.l.length x.c) := by rw [hb3.cell (p := ⟨bg, og + j, none⟩) hbg, cg, ← er, ← hxl]; rfl
                  have d4 : wr.cell? ⟨br, orr + q * 2, none⟩ = some (.int .i64 r.1) := by rw [hb3.cell (p := ⟨br, orr + q * 2, none⟩) hbr]; exact cr0
                  have d5 : wr.cell? ⟨br, orr + q * 2 + 1, none⟩ = some (.int .i64 r.2) := by rw [hb3.cell (p := ⟨br, orr + q * 2 + 1, none⟩) hbr]; exact cr1
                  have hgz : (j : Int) < (p.g.l.length : Int) := by have := HV.out.g; omega
                  have hfk : endF hg ((p.d.g.getD j []).getD q (0, 0)) = endF hg (r.1, r.2) := by
                    have e1 : (p.d.g.getD j []).getD q (0, 0) = r := by
                      show ((p.g.l.map (·.l)).getD j []).getD q (0, 0) = r
                      simp [List.getD, hx, hr]
                    rw [e1]
                  have hy5 : (y : Int) ≤ 5 := by omega
                  have hj5 : (j : Int) ≤ 4 := by omega
                  have hq5 : (q : Int) ≤ 4 := by omega
                  have HFK := Lib.hid hfk
                  have HRB := Lib.hid hrb
                  have HB3 := Lib.hid hb3
                  have HOW := Lib.hid HQ.out.2
                  have HBW := Lib.hid HQ.out.1
                  have hz3 := HQ.out.1.size
                  clear hfk hrb hb3 hold eg er cg cr0 cr1 hx hxm hxl hr HQ
                  go_wp2_with (first
                    | (go_at_call 68; refine (HPI.out _ r.1 r.2 hg).mono ?_; rintro e w4 ⟨rfl, hb4⟩; have HN5 := Lib.hid (news_alloc w4 [.int .i64 (endF hg (r.1, r.2))] 3); have HO5 := Lib.hid ((ownsRow_call HOW.out hb4).alloc (.cells #[.int .i64 (endF hg (r.1, r.2))] 3)); have hz5 : w3.heap.size ≤ (w4.alloc (.cells #[.int .i64 (endF hg (r.1, r.2))] 3)).heap.size := (by have := hb4.size; simp; omega); have HB4 := Lib.hid hb4; clear hb4)
                    | (at_builtin; refine wpList_append_lies _ rfl (.tmp 53) (.tmp 64) 23 rfl w3.heap.size 3 i0 _ 1 8 Try.underlying23 HI.out Hz0.out Hz1.out Hz2.out rfl (by decide) u12 q _ rfl HO5.out ⟨w4.heap.size, 0, none⟩ 1 1 [.int .i64 (endF hg (r.1, r.2))] rfl rfl HN5.out (by intro u hu; simp at hu; subst hu; rfl) Nat.one_pos (by unfold maxLen; omega) (by omega) hz5 _ rfl ?_; intro g6 cap6 w6 hown6 hg6 hat6 hlt6; clear hat6 hlt6))
                  have hb6 : Below w3.heap.size w3 w6 := ((HBW.out.trans (HB4.out.mono hz3)).alloc (by have := HB4.out.size; omega) _).grown hg6 hz5 (fun i e => (own_at HO5.out e).1)
                  have ho6 : w6.ownsRow w3.heap.size 3 1 (.slice (some ⟨g6, 0, none⟩) (q + 1) cap6) (q + 1) (((List.range (q + 1)).map fun k => endF hg ((p.d.g.getD j []).getD k (0, 0))).map (Value.int .i64)) := by
                    rw [List.range_succ, List.map_append, List.map_append]
                    simp only [List.map_cons, List.map_nil]
                    rw [HFK.out]
                    exact hown6
                  have H6 := Lib.hid (And.intro hb6 ho6)
                  clear hb6 ho6 hown6 hg6 d0 d2 d3 d4 d5
                  go_roundw
                  case rel => exact ⟨q + 1, by omega, by go_num, H6.out⟩
                  case measure => simp [intOf]; omega
                · obtain rfl : q = p.s.l.length := by omega
                  obtain ⟨x, e1, hxl, hxs, hxb⟩ := own_done (enc := encI) (l := (List.range p.s.l.length).map fun k => endF hg ((p.d.g.getD j []).getD k (0, 0))) (fun _ => rfl) (by rw [List.length_map, List.length_range, flat_ints]; exact HQ.out.2)
                  rw [List.length_map, List.length_range] at e1
                  subst e1
                  have hR5 := (R.out.call HQ.out.1).call ((Below.refl _ _).alloc (Nat.le_refl _) (.cells #[.slice x.A p.s.l.length x.c] 23))
                  have hxs5 := hxs.call ((Below.refl _ _).alloc (Nat.le_refl _) (.cells #[.slice x.A p.s.l.length x.c] 23))
                  obtain ⟨rs, hown, hrs, hro⟩ := hR5.own
                  have hN5 := news_alloc wr [.slice x.A p.s.l.length x.c] 23
                  have hxlen : x.l.length = p.s.l.length := by rw [hxl]; simp
                  have hz3 := R.out.b.size
                  have hz4 := HQ.out.1.size
                  have hz5 : wo.heap.size ≤ (wr.alloc (.cells #[.slice x.A p.s.l.length x.c] 23)).heap.size := by simp; omega
                  have HR5 := Lib.hid hR5
                  have HXS := Lib.hid (And.intro hxs5 (hxb.more hz3 (by simp : wr.heap.size ≤ (wr.alloc (.cells #[.slice x.A p.s.l.length x.c] 23)).heap.size)))
                  have HXL := Lib.hid hxl
                  have HXN := Lib.hid hxlen
                  have HOW := Lib.hid hown
                  have HRS := Lib.hid hrs
                  have HRO := Lib.hid hro
                  have HN5 := Lib.hid hN5
                  clear hR5 hxs hxs5 hxb hxl hxlen hown hrs hro hN5 HQ hb3 hold
                  go_wp2_with (at_builtin; refine wpList_append_lies _ rfl (.tmp 66) (.tmp 68) 100 rfl wo.heap.size 23 i1 _ 1 24 Try.underlying100 HI1.out Hz10.out Hz11.out Hz12.out rfl (by decide) u10 j _ rfl HOW.out ⟨wr.heap.size, 0, none⟩ 1 1 [.slice x.A p.s.l.length x.c] rfl rfl HN5.out (by intro u hu; simp at hu; subst hu; rfl) Nat.one_pos (by unfold maxLen; omega) (by omega) hz5 _ rfl ?_; intro g7 cap7 w7 hown7 hg7 hat7 hlt7; clear hat7 hlt7)
                  have hR7 := HR5.out.next (r := x) HOW.out HRS.out HRO.out HXS.out HXL.out hg7 (by have h := hown7; rw [← HXN.out] at h; exact h)
                  have HR7 := Lib.hid hR7
                  clear hR7 hown7 hg7
                  go_roundw
                  case rel => exact ⟨j + 1, by omega, by go_num, HR7.out⟩
                  case measure => simp [intOf]; omega
            · obtain rfl : j = p.s.l.length := by omega
              obtain ⟨rs, hown, hrs, hro⟩ := R.out.own
              have hrl : rs.length = p.s.l.length := by have := congrArg List.length hrs; simpa using this
              obtain ⟨G, e1, hgl, hgs, hgb⟩ := own_done (enc := encV) (l := rs) (fun _ => rfl) (by rw [hrl]; exact hown)
              rw [hrl] at e1
              subst e1
              have hAl : (Below w3.heap.size w3 (w3.alloc (.cells #[.slice G.A p.s.l.length G.c] 100))) := (Below.refl _ _).alloc (Nat.le_refl _) _
              have hN5 := (N.out.call R.out.b).call hAl
              obtain ⟨gs, hgo, hgm, hga⟩ := hN5.og
              have hnw := news_alloc w3 [.slice G.A p.s.l.length G.c] 100
              have hG1 := hgs.call hAl
              have hvl : ∀ b, vl.ownBlock = some b → b < wo.heap.size := fun b e => (own_at N.out.ol e).2.1
              have hG2 : ∀ r, r ∈ G.l → SlT (w3.alloc (.cells #[.slice G.A p.s.l.length G.c] 100)) (w3.alloc (.cells #[.slice G.A p.s.l.length G.c] 100)).heap.size 1 3 encI r.A r.l ∧ Ap r.A vl ∧ Bt r 0 (w3.alloc (.cells #[.slice G.A p.s.l.length G.c] 100)).heap.size := fun r hr => by
                rw [hgl] at hr
                refine ⟨(hro r hr).1.call hAl, fun a e h => ?_, (hro r hr).2.more (Nat.zero_le _) hAl.size⟩
                have := hvl _ h
                have := ((hro r hr).2.1 a e).1
                omega
              have hG3 : G.l.map (·.l) = (List.range p.s.l.length).map fun s => (List.range p.s.l.length).map fun k => endF hg ((p.d.g.getD s []).getD k (0, 0)) := by rw [hgl, hrs]
              have hGn : G.l.length = p.s.l.length := by rw [hgl, hrl]
              have t1 : w3.cell? ⟨w.heap.size + 1 + 1, 1, none⟩ = some vg := (N.out.call R.out.b).tb.at_ 1
              have hz5 := hN5.z
              have HN5 := Lib.hid hN5
              have HGO := Lib.hid hgo
              have HGM := Lib.hid hgm
              have HGA := Lib.hid hga
              have HNW := Lib.hid hnw
              have HG1 := Lib.hid hG1
              have HG2 := Lib.hid hG2
              have HG3 := Lib.hid hG3
              have HGN := Lib.hid hGn
              clear hN5 hgo hgm hga hnw hG1 hG2 hG3 hGn hown hrs hro hrl hgl hgs hgb hAl hvl R
              go_upto_region 20 with (at_builtin; refine wpList_append_lies _ rfl (.tmp 71) (.tmp 73) 29 rfl w2.heap.size 100 i2 _ 1 24 Try.underlying29 HI2.out Hz20.out Hz21.out Hz22.out rfl (by decide) vg y _ rfl HGO.out ⟨w3.heap.size, 0, none⟩ 1 1 [.slice G.A p.s.l.length G.c] rfl rfl HNW.out (by intro u hu; simp at hu; subst hu; rfl) Nat.one_pos (by unfold maxLen; omega) (by omega) hz5 _ rfl ?_; intro g7 cap7 w7 hown7 hg7 hat7 hlt7; clear hat7 hlt7; have e7 := HN5.out.grow (g := G) HGO.out HGM.out HGA.out HG1.out HG2.out HG3.out hB2 hg7 (by have h := hown7; rw [← HGN.out] at h; exact h); have c7 : w7.cell? ⟨w.heap.size + 1 + 1, 1, none⟩ = some vg := e7.2.at_ 1; have f7 := e7.2.free 1; have E7 := Lib.hid e7.1; clear e7 hown7 hg7)
              clear t1 c7 f7 d0 HN5 HGO HGM HGA HNW HG1 HG2 HG3 HGN
              generalize w7.setCell ⟨w.heap.size + 1 + 1, 1, none⟩ (.slice (some ⟨g7, 0, none⟩) (y + 1) cap7) = w8 at *
              have q0 := cell_regrown (show w8.cell? ⟨w.heap.size + 1 + 1, 2, none⟩ = some vl from E7.out.tb.at_ 2)
              have q1 := cell_regrown (show w8.cell? ⟨w.heap.size, 5, none⟩ = some (.int .i64 p.lo) from (HPB.out _ E7.out.old).at_ 5)
              have q2 := cell_regrown (show w8.cell? ⟨w.heap.size, 6, none⟩ = some (.int .i64 p.hi) from (HPB.out _ E7.out.old).at_ 6)
              have hlo := HV.out.l
              have HLO := Lib.hid hlo
              clear hlo
              have hend : ∀ W, Calls Try.prog 68 #[.agg #[.int .i64 p.lo, .int .i64 p.hi], .bool (hg != decide ((y : Int) < year))] W fun e w' => e = .returned (.int .i64 (endF (hg != decide ((y : Int) < year)) (p.lo, p.hi))) ∧ Below W.heap.size W w' := fun W => HPI.out W p.lo p.hi _
              generalize hZ : endF (hg != decide ((y : Int) < year)) (p.lo, p.hi) = Z at hend
              have HZ := Lib.hid hZ
              clear hZ
              have HEND := Lib.hid hend
              clear hend
              obtain ⟨b1, hb1⟩ : ∃ b1 : Bool, decide ((y : Int) < year) = b1 := ⟨_, rfl⟩
              rw [hb1] at HEND
              cases b1 <;> cases hg
              all_goals simp only [bne_self_eq_false, Bool.bne_false, Bool.bne_true, Bool.not_false] at HEND
              all_goals
                refine wp_region_reads 11 [0, 1, 2, 3, 4, 5, 6, 7, 8] [9, 10] (by kernel_rfl) (by kernel_rfl) ?_
                simp only [List.filterMap_cons, List.filterMap_nil, List.take_succ_cons, List.take_zero, List.getElem?_toArray, List.getElem?_cons_zero, List.getElem?_cons_succ, List.drop_succ_cons, List.drop_zero]
                repeat (first | go_big_quiet_step (fail) | quiet_step (fail))
                refine wpQuiet_nil ?_
                intro w0 hb0 hz0
                clear q0 q1 q2 hz0 hb1
                simp only [wpForce]
                have M1 := Lib.hid (E7.out.call hb0)
                go_wp2_with (go_at_call 68; refine (HEND.out _).mono ?_; rintro e w9 ⟨rfl, hb9⟩)
                have M4 := Lib.hid (M1.out.call hb9)
                have hb09 := hb0.trans (hb9.mono hb0.size)
                refine Ends.intro ⟨hb09, ?_⟩
                clear hb9 M1 hb0
                go_wp2
                have M5 := Lib.hid (M4.out.call ((Below.refl _ _).alloc (Nat.le_refl _) (.cells #[.int .i64 (Z)] 3)))
                have HN5 := Lib.hid (news_alloc w9 [.int .i64 (Z)] 3)
                refine Ends.intro ⟨hb09.alloc hb09.size _, ?_⟩
                have hz6 := M5.out.z
                clear hb09
                go_wp2_with (at_builtin; refine wpList_append_lies _ rfl (.tmp 77) (.tmp 86) 23 rfl w2.heap.size 3 i0 _ 1 8 Try.underlying23 HI.out Hz0.out Hz1.out Hz2.out rfl (by decide) vl y _ rfl M5.out.ol ⟨w9.heap.size, 0, none⟩ 1 1 [.int .i64 (Z)] rfl rfl HN5.out (by intro u hu; simp at hu; subst hu; rfl) Nat.one_pos (by unfold maxLen; omega) (by omega) hz6 _ rfl ?_; intro g6 cap6 w6 hown6 hg6 hat6 hlt6; have hN := M5.out.loss hB2 hg6 hat6 (by have h := hown6; rw [← HZ.out] at h; exact h); have c6 : w6.cell? ⟨w.heap.size + 1 + 1, 2, none⟩ = some vl := hN.2.at_ 2; have f6 := hN.2.free 2; have HN := Lib.hid hN.1; clear hN hown6 hg6 hat6 hlt6)
                clear hz6 M4 M5 HN5
                exact ⟨⟨y + 1, _, _, by omega, by go_num, HN.out⟩, by simp [intOf]; omega⟩
        · obtain rfl : y = Y := by omega
          obtain ⟨gs, hgo, hgm, hga⟩ := N.out.og
          have hgl : gs.length = y := by have := congrArg List.length hgm; simpa using this
          have hso : wo.ownsRow (w.heap.size + 3) 3 1 v p.s.l.length (((List.range p.s.l.length).map fun s => endF hg (p.d.s.getD s (0, 0))).map (Value.int .i64)) := own_keep M.out.own fun g hg => N.out.old g (own_at M.out.own hg).2.1 (by have := (own_at M.out.own hg).1; omega)
          obtain ⟨xs, es, hsl, hss, hsn⟩ := own_done (enc := encI) (l := (List.range p.s.l.length).map fun s => endF hg (p.d.s.getD s (0, 0))) (fun _ => rfl) (by rw [List.length_map, List.length_range, flat_ints]; exact hso)
          obtain ⟨xg, eg, hgl', hgs, _⟩ := own_done (enc := encV) (l := gs) (fun _ => rfl) (by rw [hgl]; exact hgo)
          obtain ⟨xl, el, hll, hls, hln⟩ := own_done (enc := encI) (l := (List.range y).map fun y : Nat => endF (hg != decide ((y : Int) < year)) (p.d.lo, p.d.hi)) (fun _ => rfl) (by rw [List.length_map, List.length_range, flat_ints]; exact N.out.ol)
          rw [List.length_map, List.length_range] at es el
          rw [hgl] at eg
          subst es eg el
          have hzb : Lies wo (w.heap.size + 1) 31 #[.slice none 0 0, .slice none 0 0, .slice none 0 0] := M.out.zb.to_ (N.out.old _ (by omega) (by omega))
          have htd : (⟨xs, xg, xl⟩ : TrM).d = endsD p.d y hg year := by
            unfold TrM.d endsD mkT
            simp only [hsl, hgl', hll, hgm]
            rfl
          have hcs : (⟨xs, xg, xl⟩ : TrM).cells = [.slice xs.A p.s.l.length xs.c, .slice xg.A y xg.c, .slice xl.A y xl.c] := by
            unfold TrM.cells
            rw [show xs.l.length = p.s.l.length by rw [hsl]; simp, show xg.l.length = y by rw [hgl', hgl], show xl.l.length = y by rw [hll]; simp]
          have ZB := Lib.hid hzb
          have TB := Lib.hid N.out.tb
          have HB := Lib.hid N.out.b
          have HTD := Lib.hid htd
          have HCS := Lib.hid hcs
          have hnil : (⟨xs, xg, xl⟩ : TrM).Nil := ⟨hsn.2, fun g hg r hr => ((hga g (by rw [← hgl']; exact hg)).2 r hr).2.2.2, hln.2⟩
          have HNIL := Lib.hid hnil
          have HAT := Lib.hid (And.intro hss (And.intro hgs (And.intro hls (hgl' ▸ hga))))
          clear hnil hsn hln hgo hgm hga hgl hso hsl hss hgl' hgs hll hls hzb htd hcs
          go_upto_region 21 with (fail)
          apply wp_region_lit
          refine wpList_load_row (o := ⟨some 89, _, _, _, _, _⟩) ?_ 31 (.tmp 7) ?_ (w.heap.size + 1 + 1) ?_ 31 #[.slice xs.A p.s.l.length xs.c, .slice xg.A y xg.c, .slice xl.A y xl.c] (0, 0) _ TB.out Try.underlying31 rfl size31 ?_
          rfl; rfl; rfl
          simp only [Act.put, List.setIfInBounds_toArray, List.set_cons_zero, List.set_cons_succ]
          refine wpList_store_cells (o := ⟨none, .store 31 (.tmp 6) _, _, _, _, _⟩) ?_ 31 (.tmp 6) (.tmp 89) ?_ (w.heap.size + 1) 0 ?_ 31 [.slice none 0 0, .slice none 0 0, .slice none 0 0] [.slice xs.A p.s.l.length xs.c, .slice xg.A y xg.c, .slice xl.A y xl.c] ?_ ZB.out (Nat.le_refl 3) size31 (by simp [Value.oneCell']) ?_
          rfl; rfl; rfl; rfl
          intro w9 HS9 HO9
          refine wpList_nil ?_
          have hs9 : Lies w9 (w.heap.size + 1) 31 #[.slice xs.A p.s.l.length xs.c, .slice xg.A y xg.c, .slice xl.A y xl.c] := HS9.out
          have hk9 : ∀ {α : Type} {k : Nat} {T : TypeId} {enc : α → List Value} {A : Option Addr} {l : List α}, T ≠ 31 → SlT wo wo.heap.size k T enc A l → Sl w9 w9.heap.size k enc A l := fun hT h => by
            rw [HO9.out.size]
            exact (h.only HO9.out ZB.out hT).sl
          have hres : RetT (endsD p.d y hg year) w (.returned (.agg #[.slice xs.A p.s.l.length xs.c, .slice xg.A y xg.c, .slice xl.A y xl.c])) w9 :=
            ⟨⟨xs, xg, xl⟩, by rw [HCS.out], HTD.out, ⟨hk9 (by decide) HAT.out.1, hk9 (by decide) HAT.out.2.1, fun g hg => hk9 (by decide) (HAT.out.2.2.2 g hg).1, fun g hg r hr => hk9 (by decide) ((HAT.out.2.2.2 g hg).2 r hr).1, hk9 (by decide) HAT.out.2.2.1⟩, HNIL.out, HO9.out.below HB.out (by omega)⟩
          have HRES := Lib.hid hres
          have HS := Lib.hid hs9
          clear hres hs9 HS9 HO9 hk9
          go_wp2
          exact bodyPost_ret (results_cell_row rfl _ _ (w.heap.size + 1) 31 #[.slice xs.A p.s.l.length xs.c, .slice xg.A y xg.c, .slice xl.A y xl.c] (0, 0) _ rfl HS.out Try.underlying31 rfl size31) rfl HRES.out
end Go.Proofs.Ytlkdmcdnkoiflaa

namespace Go.Proofs.Ytlkdmcdnkoiflaa
open Go.RowKit Go.Lib

/-- A variable: the operation that makes it, its slot, its type, its first cells. -/
structure Fl where
  fi : Nat
  f : Nat
  t : TypeId
  z : Array Value
/-- All the slots, set. -/
def putF (a : Act) (fs : List Nat) (val : Nat → Value) : Act := fs.foldl (fun a f => a.put (some f) (val f)) a
theorem putF_cons (a : Act) (f : Nat) (fs : List Nat) (val : Nat → Value) : putF a (f :: fs) val = putF (a.put (some f) (val f)) fs val := rfl
theorem putF_self (a : Act) : ∀ fs : List Nat, putF a fs (fun f => a.tmps.getD f undef) = a
  | [] => rfl
  | f :: fs => by rw [putF_cons, put_self]; exact putF_self a fs
theorem put_put {a : Act} {f : Nat} {u v : Value} : (a.put (some f) u).put (some f) v = a.put (some f) v := by simp [Act.put]
theorem put_comm {a : Act} {f g : Nat} {u v : Value} (h : f ≠ g) : (a.put (some f) u).put (some g) v = (a.put (some g) v).put (some f) u := by
  simp only [Act.put]
  congr 1
  apply Array.ext_getElem?
  intro i
  simp only [Array.getElem?_setIfInBounds, Array.size_setIfInBounds]
  by_cases h1 : g = i <;> by_cases h2 : f = i <;> simp_all
theorem putF_put {f : Nat} {u : Value} (val : Nat → Value) : ∀ (fs : List Nat) (a : Act), f ∈ fs → putF (a.put (some f) u) fs val = putF a fs val
  | g :: fs, a, h => by
    rw [putF_cons, putF_cons]
    by_cases e : f = g
    · subst e; rw [put_put]
    · rw [put_comm e]
      exact putF_put val fs _ (by rcases List.mem_cons.1 h with h | h; exact absurd h e; exact h)
section
variable {P : Program} {ops : Array Oper} {md : Region.Mode} {S : World → Prop} {Q : Exit → Act → World → Prop} {T : Act → World → Prop} {r : Nat}
/-- A chain of operations, between any two of which the slots fs may turn, and memory may grow. -/
def wpFloats (P : Program) (ops : Array Oper) (fs : List Nat) (T : Act → World → Prop) : List Oper → Act → World → Prop
  | [], a, w => T a w
  | o :: cs, a, w => wpList P ops (Ends fun a' w' => Below w.heap.size w w' ∧ ∀ val w'', Below w'.heap.size w' w'' → wpFloats P ops fs T cs (putF a' fs val) w'') [o] a w
/-- What is asked at the end: the variables lie in blocks of their own. -/
def AtGs (fls : List Fl) (B : Nat) (T : Act → World → Prop) (a : Act) (w : World) : Prop :=
  ∀ (G : Nat → Nat) (w'' : World), Below w.heap.size w w'' → (∀ fl, fl ∈ fls → B ≤ G fl.f ∧ Lies w'' (G fl.f) fl.t fl.z) → (∀ fl fl', fl ∈ fls → fl' ∈ fls → fl.f ≠ fl'.f → G fl.f ≠ G fl'.f) →
    T (putF a (fls.map (·.f)) fun f => .pointer (some ⟨G f, 0, none⟩)) w''
def floatsB (md : Region.Mode) (ops : Array Oper) : Nat → Array Bool → List Nat → List Fl → Bool
  | 0, L, cs, pend => cs.isEmpty && pend.isEmpty && (Region.ready md ops L).isEmpty
  | n + 1, L, cs, pend => !(Region.ready md ops L).isEmpty && (Region.ready md ops L).all (fun j => cs.head? == some j || pend.any fun fl => fl.fi == j) &&
      (match cs with | [] => true | i :: cs => floatsB md ops n (L.setIfInBounds i true) cs pend) && pend.all fun fl => floatsB md ops n (L.setIfInBounds fl.fi true) cs (pend.filter fun q => q.fi != fl.fi)
/-- The variable is made. -/
def MadeF (a : Act) (w : World) (B : Nat) (G : Nat → Nat) (fl : Fl) : Prop := a.tmps.getD fl.f undef = .pointer (some ⟨G fl.f, 0, none⟩) ∧ B ≤ G fl.f ∧ Lies w (G fl.f) fl.t fl.z
theorem wpAnyH_floats {fls : List Fl} {B : Nat} (hS : ∀ w w', S w → Below w.heap.size w w' → S w') (hSB : ∀ w, S w → B ≤ w.heap.size)
    (hop : ∀ fl, fl ∈ fls → ∃ og, ops[fl.fi]? = some og ∧ og.dst = some fl.f ∧ og.guard = none ∧ og.op = .alloc fl.t) (hal : ∀ fl, fl ∈ fls → ∀ w, (Instr.alloc fl.t true (.tuple #[])).run P w = .ok (.pointer (some ⟨w.heap.size, 0, none⟩)) (w.alloc (.cells fl.z fl.t)))
    (hnd : ∀ fl fl', fl ∈ fls → fl' ∈ fls → fl.f = fl'.f → fl = fl') :
    ∀ (n : Nat) (cs : List Nat) (pend done : List Fl) (L : Array Bool) (a : Act) (w : World) (G : Nat → Nat), floatsB md ops n L cs pend = true → S w → (∀ i o fl, i ∈ cs → ops[i]? = some o → fl ∈ fls → o.dst ≠ some fl.f) → (∀ fl, fl ∈ fls → fl.f < a.tmps.size) →
      (∀ fl, fl ∈ pend → fl ∈ fls) → (∀ fl, fl ∈ done → fl ∈ fls ∧ MadeF a w B G fl) → (∀ fl, fl ∈ fls → fl ∈ pend ∨ fl ∈ done) → (∀ fl fl', fl ∈ done → fl' ∈ done → fl.f ≠ fl'.f → G fl.f ≠ G fl'.f) →
      (∀ val w'', Below w.heap.size w w'' → wpFloats P ops (fls.map (·.f)) (AtGs fls B T) (cs.filterMap (ops[·]?)) (putF a (fls.map (·.f)) val) w'') → wpAnyH P md ops (Ends T) S n L a w := by
  intro n
  induction n with
  | zero =>
    intro cs pend done L a w G hb hs hd hsz hp hdn hm hdis h
    simp only [floatsB, Bool.and_eq_true, List.isEmpty_iff] at hb
    obtain ⟨⟨h1, h2⟩, h3⟩ := hb
    subst h1 h2
    refine ⟨h3, ?_⟩
    have h4 := h (fun f => a.tmps.getD f undef) w (Below.refl _ _)
    rw [putF_self] at h4
    have hin : ∀ fl, fl ∈ fls → fl ∈ done := fun fl hfl => by
      rcases hm fl hfl with h | h
      · cases h
      · exact h
    have h5 := h4 G w (Below.refl _ _) (fun fl hfl => (hdn fl (hin fl hfl)).2.2) (fun fl fl' h1 h2 => hdis fl fl' (hin fl h1) (hin fl' h2))
    have e : putF a (fls.map (·.f)) (fun f => .pointer (some ⟨G f, 0, none⟩)) = a := by
      have key : ∀ l : List Fl, (∀ fl, fl ∈ l → fl ∈ fls) → putF a (l.map (·.f)) (fun f => .pointer (some ⟨G f, 0, none⟩)) = a := by
        intro l
        induction l with
        | nil => intro _; rfl
        | cons fl l ih =>
          intro hl
          rw [List.map_cons, putF_cons, ← (hdn fl (hin fl (hl fl (by simp)))).2.1, put_self]
          exact ih fun q hq => hl q (List.mem_cons_of_mem _ hq)
      exact key fls fun _ h => h
    rw [e] at h5
    exact h5
  | succ n ih =>
    intro cs pend done L a w G hb hs hd hsz hp hdn hm hdis h
    simp only [floatsB, Bool.and_eq_true] at hb
    obtain ⟨⟨⟨h0, h1⟩, h2⟩, h3⟩ := hb
    refine ⟨fun e => (by rw [e] at h0; cases h0), fun j hj => ?_⟩
    have hj2 := List.all_eq_true.1 h1 j hj
    simp only [Bool.or_eq_true, beq_iff_eq] at hj2
    rcases hj2 with hj2 | hj2
    · cases cs with
      | nil => cases hj2
      | cons i cs =>
        obtain rfl : i = j := by simpa using hj2
        obtain ⟨_, o, ho, _⟩ := mem_ready.1 hj
        have h' := h (fun f => a.tmps.getD f undef) w (Below.refl _ _)
        rw [putF_self, List.filterMap_cons, ho] at h'
        have h4 := wpList_one (show wpList P ops (Ends fun a' w' => Below w.heap.size w w' ∧ ∀ val w'', Below w'.heap.size w' w'' → wpFloats P ops (fls.map (·.f)) (AtGs fls B T) (cs.filterMap (ops[·]?)) (putF a' (fls.map (·.f)) val) w'') [o] a w from h')
        have step : ∀ (a' : Act) (w' : World) (v : Value), a'.tmps = (a.put o.dst v).tmps → (Below w.heap.size w w' ∧ ∀ val w'', Below w'.heap.size w' w'' → wpFloats P ops (fls.map (·.f)) (AtGs fls B T) (cs.filterMap (ops[·]?)) (putF a' (fls.map (·.f)) val) w'') →
            S w' ∧ wpAnyH P md ops (Ends T) S n (L.setIfInBounds i true) a' w' := by
          intro a' w' v he ⟨hbw, hk⟩
          have hget : ∀ fl, fl ∈ fls → a'.tmps.getD fl.f undef = a.tmps.getD fl.f undef := fun fl hfl => by
            rw [he]
            cases hd2 : o.dst with
            | none => rfl
            | some d =>
              have : d ≠ fl.f := fun e => hd i o fl (by simp) ho hfl (by rw [hd2, e])
              simp [Act.put, this]
          refine ⟨hS _ _ hs hbw, ih cs pend done _ a' w' G h2 (hS _ _ hs hbw) (fun i o fl hi ho hfl => hd i o fl (List.mem_cons_of_mem _ hi) ho hfl) (fun fl hfl => ?_) hp (fun fl hfl => ?_) hm hdis hk⟩
          · rw [he]
            cases o.dst <;> simpa [Act.put] using hsz fl hfl
          · obtain ⟨e1, e2⟩ := hdn fl hfl
            exact ⟨e1, by rw [hget fl e1]; exact e2.1, e2.2.1, e2.2.2.call hbw⟩
        unfold wpOp
        simp only [ho]
        split
        · rename_i hw
          rw [if_pos hw] at h4
          exact .inl (Oper.wp_ends (fun a' w' h' => step a' w' _ h'.2.choose_spec h'.1) (Oper.wp_put h4))
        · rename_i hw
          rw [if_neg hw] at h4
          exact step _ _ undef rfl h4
    · obtain ⟨fl, hfl, hfj⟩ := List.any_eq_true.1 hj2
      have hfj : fl.fi = j := by simpa using hfj
      have hflm := hp fl hfl
      obtain ⟨og, g1, g2, g3, g4⟩ := hop fl hflm
      have hbw : Below w.heap.size w (w.alloc (.cells fl.z fl.t)) := (Below.refl _ _).alloc (Nat.le_refl _) _
      have h3' := List.all_eq_true.1 h3 fl hfl
      subst hfj
      unfold wpOp
      simp only [g1]
      rw [if_pos (by simp [Region.wanted, g3])]
      refine .inl ?_
      unfold Oper.wp execOp
      simp only [g4, Sem.run_bind, hal fl hflm w, Result.andThen, Sem.run_pure, Oper.upon, g2]
      have hsf := hsz fl hflm
      refine ⟨hS _ _ hs hbw, ih cs _ (fl :: done) _ _ _ (fun f => if f = fl.f then w.heap.size else G f) h3' (hS _ _ hs hbw) hd (fun q hq => by simpa [Act.put] using hsz q hq) (fun q hq => hp q (List.mem_filter.1 hq).1) (fun q hq => ?_) (fun q hq => ?_) (fun q q' hq hq' hne => ?_) (fun val w'' hb'' => ?_)⟩
      · by_cases e : q.f = fl.f
        · have hqm : q ∈ fls := by
            rcases List.mem_cons.1 hq with rfl | hq
            · exact hflm
            · exact (hdn q hq).1
          obtain rfl := hnd q fl hqm hflm e
          exact ⟨hqm, by simp [Act.put, hsf], by simp; exact hSB w hs, by simp; exact Lies.fresh w q.t q.z⟩
        · rcases List.mem_cons.1 hq with rfl | hq
          · exact absurd rfl e
          · obtain ⟨e1, e2⟩ := hdn q hq
            have e' : fl.f ≠ q.f := fun h => e h.symm
            refine ⟨e1, ?_, by simp only [if_neg e]; exact e2.2.1, by simp only [if_neg e]; exact e2.2.2.call hbw⟩
            simp only [if_neg e]
            rw [← e2.1]
            simp [Act.put, e']
      · rcases hm q hq with h | h
        · by_cases e : q.fi = fl.fi
          · right
            obtain ⟨og', k1, k2, _, _⟩ := hop q hq
            rw [e, g1] at k1
            cases k1
            have : q.f = fl.f := by rw [g2] at k2; exact (Option.some.inj k2).symm
            rw [hnd q fl hq hflm this]
            simp
          · left
            exact List.mem_filter.2 ⟨h, by simpa using e⟩
        · exact .inr (List.mem_cons_of_mem _ h)
      · have hlt : ∀ q, q ∈ done → q.f ≠ fl.f → G q.f < w.heap.size := fun q hq _ => (hdn q hq).2.2.2.in_
        by_cases e : q.f = fl.f
        · have e' : q'.f ≠ fl.f := fun h => hne (e.trans h.symm)
          rw [if_pos e, if_neg e']
          rcases List.mem_cons.1 hq' with rfl | hq'
          · exact absurd rfl e'
          · have := hlt q' hq' e'; omega
        · rw [if_neg e]
          by_cases e' : q'.f = fl.f
          · rw [if_pos e']
            rcases List.mem_cons.1 hq with rfl | hq
            · exact absurd rfl e
            · have := hlt q hq e; omega
          · rw [if_neg e']
            rcases List.mem_cons.1 hq with rfl | hq
            · exact absurd rfl e
            · rcases List.mem_cons.1 hq' with rfl | hq'
              · exact absurd rfl e'
              · exact hdis q q' hq hq' hne
      · rw [putF_put val _ a (List.mem_map.2 ⟨fl, hflm, rfl⟩)]
        exact h val w'' (hbw.trans (hb''.mono hbw.size))
def manyB (l : List Oper) (n : Nat) (rs cs : List Nat) (fls : List Fl) : Bool :=
  Region.sinkB .any l.toArray n && Region.chainB .any l.toArray n && headOk l.toArray n && Region.seqB .any l.toArray (l.drop n).length n ((Array.replicate l.length false).mapIdx fun i _ => decide (i < n)) && decide (n < l.length) &&
    Region.noSelect (l.take n).toArray && takesB .any (l.take n).toArray (Array.replicate n false) rs && floatsB .any (l.take n).toArray (n - rs.length) (takenB (Array.replicate n false) rs) cs fls && decide (rs.length ≤ n) &&
    cs.all (fun i => match (l.take n)[i]? with | some o => fls.all fun fl => o.dst != some fl.f | none => true) && fls.all fun fl => match (l.take n)[fl.fi]? with | some o => decide (o.dst = some fl.f) && o.guard.isNone && (match o.op with | .alloc t' => t' == fl.t | _ => false) | none => false
/-- THE LAW. -/
theorem wp_region_many {id : Nat} {l : List Oper} {a : Act} {w : World} (n : Nat) (rs cs : List Nat) (fls : List Fl) (hm : P.follows .mixedOrders = true) (hB : manyB l n rs cs fls = true)
    (hal : ∀ fl, fl ∈ fls → ∀ w, (Instr.alloc fl.t true (.tuple #[])).run P w = .ok (.pointer (some ⟨w.heap.size, 0, none⟩)) (w.alloc (.cells fl.z fl.t))) (hnd : ∀ fl fl', fl ∈ fls → fl' ∈ fls → fl.f = fl'.f → fl = fl')
    (h : wpQuiet P (l.take n).toArray (fun w' => ∃ p : Regrown, w' = Go.Sort.grow (redrawn w p.d) p.os) (fun a' => (∀ fl, fl ∈ fls → fl.f < a'.tmps.size) ∧ ∀ val w', Below w.heap.size w w' → wpFloats P (l.take n).toArray (fls.map (·.f)) (AtGs fls w.heap.size fun a w => wpList P l.toArray Q (l.drop n) a w) (cs.filterMap ((l.take n).toArray[·]?)) (putF a' (fls.map (·.f)) val) w') (rs.filterMap ((l.take n).toArray[·]?)) a) :
    (Code.region id l.toArray true).wp P Q a w := by
  simp only [manyB, Bool.and_eq_true, decide_eq_true_eq] at hB
  obtain ⟨⟨⟨⟨⟨⟨⟨⟨⟨⟨b1, b2⟩, b3⟩, b4⟩, b5⟩, b6⟩, b7⟩, b8⟩, b9⟩, b10⟩, b11⟩ := hB
  have hn : n < l.toArray.size := by simpa using b5
  have e : l.toArray.extract 0 n = (l.take n).toArray := by simp
  have hsz : (l.take n).toArray.size = n := by simp; omega
  refine wp_region_any hm ?_
  have inv : HeadInv .any l.toArray n (Array.replicate l.toArray.size false) := ⟨by simp, (fun j oj _ hl => by rw [getD_replicate_false] at hl; cases hl), fun t _ ht => by simp at ht; simp [ht]⟩
  have hu : unl n (Array.replicate l.toArray.size false) = n := by
    unfold unl
    rw [List.countP_eq_length.2 (fun i hi => by
      have h1 := List.mem_range.1 hi
      have h2 : i < l.length := by omega
      simp [h2]), List.length_range]
  have e1 : (Array.replicate l.toArray.size false).extract 0 n = Array.replicate n false := by
    apply Array.ext_getElem?
    intro j
    by_cases hj : j < n
    · rw [ext0 _ hj, Array.getElem?_replicate, Array.getElem?_replicate, if_pos hj, if_pos (by omega)]
    · rw [Array.getElem?_eq_none (by simp; omega), Array.getElem?_eq_none (by simp; omega)]
  have hbd : Below w.heap.size w { w with drawn := w.drawn + 1 } := (Below.refl w.heap.size w).drew
  have hlen : n + (l.drop n).length = l.toArray.size := by simp; omega
  suffices hg : wpAny P .any l.toArray Q (n + (l.drop n).length) (Array.replicate l.toArray.size false) a { w with drawn := w.drawn + 1 } by rw [hlen] at hg; exact hg
  refine wpAny_of_truncE (T := fun a w => wpList P l.toArray Q (l.drop n) a w) b1 b2 b3 hn (fun L a' w' inv' hu' hT => ?_) n _ a _ inv hu ?_
  · have eL : L = (Array.replicate l.length false).mapIdx fun i _ => decide (i < n) := by
      apply Array.ext (by simp [inv'.size])
      intro i h1 h2
      simp only [Array.getElem_mapIdx]
      by_cases hi : i < n
      · have := unl_zero hu' i hi; simp [h1] at this; simp [hi, this]
      · have := inv'.tail i (by omega) (by rw [← inv'.size]; exact h1); simp [h1] at this; simp [hi, this]
    subst eL
    exact wpAny_of_seq (l.drop n) n _ a' w' (fun j => by simp [List.getElem?_drop]) b4 hT
  · rw [e1, e]
    refine wpAny_of_held (S := fun w' => ∃ p : Regrown, w' = Go.Sort.grow (redrawn w p.d) p.os) _ _ _ _ ?_
    suffices hg : wpAnyH P .any (l.take n).toArray (Ends fun a w => wpList P l.toArray Q (l.drop n) a w) (fun w' => ∃ p : Regrown, w' = Go.Sort.grow (redrawn w p.d) p.os) ((n - rs.length) + rs.length) (Array.replicate n false) a { w with drawn := w.drawn + 1 } by rw [Nat.sub_add_cancel b9] at hg; exact hg
    refine wpAnyH_takes b6 rs _ a _ (n - rs.length) ⟨⟨w.drawn + 1, #[]⟩, by rw [Go.Sort.grow_empty]; rfl⟩ b7 ?_
    refine wpQuiet_mono (fun a' ha => ?_) _ _ h
    refine wpAnyH_floats (B := w.heap.size) (fls := fls) (fun w1 w2 h1 h2 => ?_) (fun w1 h1 => ?_) (fun fl hfl => ?_) hal hnd _ cs fls [] _ a' _ (fun _ => 0) b8 ⟨⟨w.drawn + 1, #[]⟩, by rw [Go.Sort.grow_empty]; rfl⟩ (fun i o fl hi ho2 hfl => ?_) ha.1 (fun _ h => h) (fun fl h => by cases h) (fun _ h => .inl h) (fun fl fl' h => by cases h) (fun val w'' hb => ha.2 val w'' (hbd.trans (hb.mono (Nat.le_refl _))))
    · obtain ⟨p, rfl⟩ := h1
      have hb1 := below_regrown w p.d p.os
      exact regrown_of_below (hb1.trans (h2.mono hb1.size))
    · obtain ⟨p, rfl⟩ := h1
      exact (below_regrown w p.d p.os).size
    · have h1 := List.all_eq_true.1 b11 fl hfl
      cases ho : (l.take n)[fl.fi]? with
      | none => rw [ho] at h1; cases h1
      | some og =>
        rw [ho] at h1
        simp only [Bool.and_eq_true, decide_eq_true_eq] at h1
        refine ⟨og, by simpa using ho, h1.1.1, by simpa using h1.1.2, ?_⟩
        have h3 := h1.2
        split at h3
        · rename_i t' hq; rw [hq]; congr 1; simpa using h3
        · cases h3
    · have h1 := List.all_eq_true.1 b10 i hi
      rw [show (l.take n)[i]? = some o by simpa using ho2] at h1
      have h2 := List.all_eq_true.1 h1 fl hfl
      simpa using h2
end
end Go.Proofs.Ytlkdmcdnkoiflaa

namespace Go.Proofs.Ytlkdmcdnkoiflaa
open Go.RowKit Go.Lib

/-- What is sold of a size up to each year, at one end. -/
def soldE (d : PD) (hi : Bool) (size k : Nat) : Int :=
  match hi with
  | true => soldUpD d (fun _ => growF d (·.2)) (fun _ => d.lo) (pad5 (d.s.map (·.2))) size k
  | false => soldUpD d (fun _ => growF d (·.1)) (fun _ => d.hi) (pad5 (d.s.map (·.1))) size k
/-- The first of Y years up to which so many are sold, or -1. -/
def ReachP (f : Nat → Int) (Y : Nat) (number r : Int) : Prop := (r = -1 ∧ ∀ j, j < Y → f (j + 1) < number) ∨ ∃ k : Nat, k < Y ∧ r = k ∧ number ≤ f (k + 1) ∧ ∀ j, j < k → f (j + 1) < number
end Go.Proofs.Ytlkdmcdnkoiflaa

namespace Go.Proofs.Ytlkdmcdnkoiflaa
open Go.RowKit Go.Lib

/-- The first of Y years up to which so many are sold; Y: there is none. -/
def FirstP (f : Nat → Int) (Y : Nat) (number : Int) (r : Nat) : Prop := r ≤ Y ∧ (∀ j, j < r → f (j + 1) < number) ∧ (r < Y → number ≤ f (r + 1))
theorem FirstP.le {f g : Nat → Int} {Y r s : Nat} {n m : Int} (h1 : FirstP f Y n r) (h2 : FirstP g Y m s) (hn : n ≤ m) (h : ∀ k, k ≤ Y → g k ≤ f k) : r ≤ s := by
  by_cases hlt : s < r
  · have a := h1.1
    have b := h1.2.1 s hlt
    have c := h2.2.2 (by omega)
    have d := h (s + 1) (by omega)
    omega
  · omega
theorem ReachP.first {f : Nat → Int} {Y : Nat} {number r : Int} (h : ReachP f Y number r) : ∃ k : Nat, FirstP f Y number k ∧ ((r = -1 ∧ k = Y) ∨ (r = (k : Int) ∧ k < Y)) := by
  rcases h with ⟨h1, h2⟩ | ⟨k, h1, h2, h3, h4⟩
  · exact ⟨Y, ⟨Nat.le_refl _, h2, fun h => by omega⟩, .inl ⟨h1, rfl⟩⟩
  · exact ⟨k, ⟨by omega, h4, fun _ => h3⟩, .inr ⟨h2, h1⟩⟩
/-- What is sold of a size in a truth up to each year. -/
def soldT (d : PD) (t : TD) (size k : Nat) : Int := soldUpD d (fun k => t.g.getD k []) (fun k => t.l.getD k 0) (pad5 t.s) size k
theorem soldT_step {d : PD} {t : TD} {size k : Nat} (hs : size < d.s.length) (hn : d.s.length ≤ 5) : ∃ b : Int, (toldL d.s.length (yrT d t k)).2.1[size]? = some b ∧ soldT d t size (k + 1) = soldT d t size k + b :=
  ⟨_, (told_at hs hn).2.1, by unfold soldT; rw [soldUpD, yrD_sold hn _ _ _ _ hs]⟩
end Go.Proofs.Ytlkdmcdnkoiflaa

namespace Go.Proofs.Ytlkdmcdnkoiflaa
open Go.RowKit Go.Lib
attribute [local go_sem] Oper.semAt_some

/-- The lists of a truth, as a truth that lies nowhere. -/
def TD.m (T : TD) : TrM := ⟨⟨none, T.s, 0⟩, ⟨none, T.g.map fun y => ⟨none, y.map fun r => ⟨none, r, 0⟩, 0⟩, 0⟩, ⟨none, T.l, 0⟩⟩
theorem TD.m_d (T : TD) : T.m.d = T := by
  unfold TD.m TrM.d
  simp [List.map_map, Function.comp_def]
theorem law_kept {p : PlM} {T : TD} (hv : p.Valid) {Y : Nat} (hY : p.years = (Y : Int)) (hf : fitD p.d T = true) {k i : Nat} (hk : k < Y) (hi : i < p.s.l.length) :
    ∃ a b c d : Int, (toldL p.d.s.length (yrT p.d T k)).1[i]? = some a ∧ (toldL p.d.s.length (yrT p.d T k)).2.1[i]? = some b ∧ (toldL p.d.s.length (yrT p.d T k)).2.2.1[i]? = some c ∧ (toldL p.d.s.length (yrT p.d T k)).2.2.2[i]? = some d ∧
      Kept (p.e.l.getD i 0) (p.r.l.getD i 0) (p.k.l.getD i 0) a b c d := by
  have hpt := pt_of_fit (t := T.m) hv (by rw [fit_d, T.m_d]; exact hf)
  have h := kept_at hv hpt (k := k) (i := i) (by have := hpt.years; omega) hi
  rw [T.m_d] at h
  exact h
end Go.Proofs.Ytlkdmcdnkoiflaa
