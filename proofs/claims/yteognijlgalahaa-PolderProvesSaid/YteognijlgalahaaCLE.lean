/- PolderProves: the walk. -/
import Derived.Test.YteognijlgalahaaGC
namespace Go.Proofs.Yteognijlgalahaa
open Go.RowKit Go.Lib
attribute [local go_sem] Oper.semAt_some

/-- What rows hands back, as something that reads as a table. -/
def RowsT (T : List (List Int)) (w : World) (e : Ending) (w' : World) : Prop := ∃ (out : List (Sv Int)) (A : Option Addr) (c : Nat), e = .returned (.slice A out.length c) ∧ out.map Sv.l = T ∧ TabM A out w' w'.heap.size ∧ Below w.heap.size w w'
theorem rows_tab (A : Option Addr) (c : Nat) (ts : List (Sv Int)) (w : World) (hA : TabM A ts w w.heap.size) (hnn : ∀ s, s ∈ ts → s.A = none → s.l.length = 0 ∧ s.c = 0) (hl : ts.length ≤ 100) (hm : ∀ s, s ∈ ts → s.l.length ≤ 1000) :
    Calls Try.prog 36 #[.slice A ts.length c] w (RowsT (ts.map Sv.l) w) := (rows_any A c ts w hA hnn hl hm).mono fun e w' ⟨out, A', c', he, ho, hm', hb, _⟩ => by
  refine ⟨out, A', c', he, ho, hm'.tab ?_ (fun s hs => ?_), hb⟩
  · have := congrArg List.length ho
    simp only [List.length_map] at this
    omega
  · have h1 : s.l ∈ ts.map Sv.l := by rw [← ho]; exact List.mem_map_of_mem hs
    obtain ⟨s2, hs2, e2⟩ := List.mem_map.1 h1
    rw [← e2]
    have := hm s2 hs2
    omega
theorem tab_lens {ts : List (Sv Int)} (h : tabularB ts = true) : ts.length ≤ 20 ∧ ∀ s, s ∈ ts → s.l.length ≤ 70 := by
  unfold tabularB at h
  rw [Bool.and_eq_true, decide_eq_true_eq, List.all_eq_true] at h
  exact ⟨h.1, fun s hs => of_decide_eq_true (h.2 s hs)⟩
theorem PoD.isOfB_not {p : PoD} {F : (Nat → Int → Int) → Nat → Dy → Int → Bool} {T : List (List Int)} (h : p.fault ≠ 0 ∨ p.tabB T = false) : p.isOfB F T = false := by
  unfold PoD.isOfB
  rcases h with h | h
  · rw [decide_eq_false h, Bool.false_and, Bool.false_and]
  · rw [h, Bool.and_false, Bool.false_and]
theorem PoD.isOfB_yes {p : PoD} {F : (Nat → Int → Int) → Nat → Dy → Int → Bool} {T : List (List Int)} (h : p.fault = 0) (h2 : p.tabB T = true) : p.isOfB F T = (List.range p.ds.length).all (p.dayB F T) := by
  unfold PoD.isOfB
  rw [decide_eq_true h, h2, Bool.true_and, Bool.true_and]
theorem tmod4 (x : Int) : -3 ≤ x.tmod 4 ∧ x.tmod 4 ≤ 3 := by
  have h1 := Int.tmod_lt_of_pos x (show (0 : Int) < 4 by omega)
  have h2 := Int.lt_tmod_of_pos x (show (0 : Int) < 4 by omega)
  omega
set_option maxRecDepth 100000 in
set_option maxHeartbeats 16000000 in
theorem PolderProves_walk (q : PoM) (t : Sv (Sv Int)) (own : Bool) (day at_ : Nat) (by_ : Int) (w : World) (h : OpenPo q w) (ht : OpenT t w) (hd : day < 256) (ha : at_ < 256) (hby0 : -128 ≤ by_) (hby1 : by_ ≤ 127) : Calls Try.prog 7 #[.agg q.cells.toArray, .slice t.A t.l.length t.c, .bool own, .int .u8 day, .int .u8 at_, .int .i8 by_] w fun e w' => e = .returned (.bool true) ∧ Below w.heap.size w w' := by
  have l0 : Lies (w.alloc (.cells q.cells.toArray 26)) w.heap.size 26 q.cells.toArray := Lies.fresh _ _ _
  have b0 : Below w.heap.size w (w.alloc (.cells q.cells.toArray 26)) := (by repeat (first | (with_reducible assumption) | (with_reducible exact Below.refl _ _) | (with_reducible refine Below.drew ?_) | (with_reducible refine below_drewN ?_ _) | ((with_reducible refine Below.setCell ?_ ?_ _); rotate_left; focus (first | (simp; done) | (simp; omega) | omega)) | ((with_reducible refine Below.alloc ?_ ?_ _); rotate_left; focus (first | (simp; done) | (simp; omega) | omega))))
  have HTH := Lib.hid (fun W => Thin_any q W)
  have HO := Lib.hid h
  have L := Lib.hid l0
  have B := Lib.hid b0
  have K16 := Lib.hid True.intro
  clear l0 b0 h
  by_cases hthin : q.ds.l.length ≤ 15
  · rw [decide_eq_true hthin] at HTH
    have HL15 := Lib.hid hthin
    have HAT := Lib.hid (HO.out.at_ hthin)
    clear hthin HO
    have htab0 := fun W (hb : Below w.heap.size w W) => tabular_any t.A t.c t.l W ((ht.o.below hb).more hb.size) ht.n (fun s hs => (ht.i s hs).2.2)
    by_cases htb : tabularB t.l = true
    · rw [htb] at htab0
      have HTB := Lib.hid htab0
      have HLL := Lib.hid (tab_lens htb).1
      have HLM := Lib.hid (tab_lens htb).2
      have HNN := Lib.hid (fun s (hs : s ∈ t.l) => (ht.i s hs).1)
      have HTM := Lib.hid (show TabM t.A t.l w w.heap.size from ⟨ht.o, fun s hs => (ht.i s hs).2.1, by have := HLL.out; omega, fun s hs => by have := HLM.out s hs; omega⟩)
      clear htab0 htb ht
      by_cases hf0 : q.d.fault = 0
      · have HOK := Lib.hid (fault_ok hf0)
        have HFA := Lib.hid (fun W (hq : q.At W W.heap.size) => (show Calls Try.prog 20 #[.agg q.cells.toArray] W fun e w' => e = .returned (.int .i64 0) ∧ Below W.heap.size W w' by
          have := lawFault_any q W hq
          rw [hf0] at this
          exact this))
        cases own
        · obtain ⟨tA, htA⟩ : ∃ tA, tA = t.A := ⟨_, rfl⟩
          obtain ⟨tc, htc⟩ : ∃ tc, tc = t.c := ⟨_, rfl⟩
          obtain ⟨ts, hts⟩ : ∃ ts, ts = t.l := ⟨_, rfl⟩
          rw [← htA, ← htc, ← hts]
          rw [← hts] at HTM HTB HNN HLM HLL
          rw [← htA] at HTM HTB
          rw [← htc] at HTB
          clear htA htc hts
          obtain ⟨tl, htl⟩ : ∃ tl, tl = ts.length := ⟨_, rfl⟩
          obtain ⟨T, hT⟩ : ∃ T, ts.map Sv.l = T := ⟨_, rfl⟩
          rw [← htl]
          rw [← htl] at HTB
          have hnn := HNN.out
          have hll : ts.length ≤ 100 := by have := HLL.out; omega
          have hml : ∀ s, s ∈ ts → s.l.length ≤ 1000 := fun s hs => by have := HLM.out s hs; omega
          by_cases htb2 : q.d.tabB T = true
          · have HRO := Lib.hid (fun W (htm : TabM tA ts W W.heap.size) => (show Calls Try.prog 36 #[.slice tA tl tc] W (RowsT T W) by
              have := rows_tab tA tc ts W htm hnn hll hml
              rw [← htl, hT] at this
              exact this))
            obtain ⟨ka, hka⟩ : ∃ ka, q.d.keepsR T = ka := ⟨_, rfl⟩
            obtain ⟨nb, hnb⟩ : ∃ nb, q.d.needsR T = nb := ⟨_, rfl⟩
            have HPK := Lib.hid (fun A c (Ao : Option Addr) out co W (hat : (q.withA A c).At W W.heap.size) (hto : TabM Ao out W W.heap.size) (hoT : out.map Sv.l = T) => (show Calls Try.prog 35 #[.agg (q.withA A c).cells.toArray, .slice Ao out.length co] W fun e w' => e = .returned (.bool ka) ∧ Below W.heap.size W w' by
              have := ProveKeeps_any (q.withA A c) Ao co out W hat hto
              rw [hoT, show (q.withA A c).d.keepsR T = ka from hka] at this
              exact this))
            have HPN := Lib.hid (fun A c (Ao : Option Addr) out co W (hat : (q.withA A c).At W W.heap.size) (hto : TabM Ao out W W.heap.size) (hoT : out.map Sv.l = T) => (show Calls Try.prog 37 #[.agg (q.withA A c).cells.toArray, .slice Ao out.length co] W fun e w' => e = .returned (.bool nb) ∧ Below W.heap.size W w' by
              have := ProveNeeds_any (q.withA A c) Ao co out W hat hto
              rw [hoT, show (q.withA A c).d.needsR T = nb from hnb] at this
              exact this))
            have HIT := Lib.hid (fun W (htm : TabM tA ts W W.heap.size) => (show Calls Try.prog 38 #[.agg q.cells.toArray, .slice tA tl tc] W fun e w' => e = .returned (.bool true) ∧ Below W.heap.size W w' by
              have := IsTable_any q tA tc ts W htm HOK.out
              rw [← htl, hT, htb2] at this
              exact this))
            have HRK := Lib.hid (fun W (hat : q.At W W.heap.size) (htm : TabM tA ts W W.heap.size) => (show Calls Try.prog 39 #[.agg q.cells.toArray, .slice tA tl tc] W fun e w' => e = .returned (.bool ka) ∧ Below W.heap.size W w' by
              have := refKeeps_any q tA tc ts W hat htm HOK.out (by rw [hT]; exact htb2)
              rw [← PoD.isOfB_yes hf0 (by rw [hT]; exact htb2), ← htl, hT] at this
              rw [show q.d.isOfB _ T = ka from hka] at this
              exact this))
            have HRN := Lib.hid (fun W (hat : q.At W W.heap.size) (htm : TabM tA ts W W.heap.size) => (show Calls Try.prog 40 #[.agg q.cells.toArray, .slice tA tl tc] W fun e w' => e = .returned (.bool nb) ∧ Below W.heap.size W w' by
              have := refNeeds_any q tA tc ts W hat htm HOK.out (by rw [hT]; exact htb2)
              rw [← PoD.isOfB_yes hf0 (by rw [hT]; exact htb2), ← htl, hT] at this
              rw [show q.d.isOfB _ T = nb from hnb] at this
              exact this))
            clear hka hnb htb2
            have hkk : (ka == ka) = true := by simp
            have hnn2 : (nb == nb) = true := by simp
            clear hnn hll hml hT htl hf0 HNN HLM HLL
            go_enter Try.func7, Try.ntmps7
            go_upto_region 1 with (fail)
            change Code.wp _ _ _ _ (w.alloc (.cells q.cells.toArray 26))
            generalize w.alloc (.cells q.cells.toArray 26) = w1 at *
            go_upto_region 7 with (first
                  | (have h := K16; clear h; refine wpList_load_row (o := ⟨some 16, _, _, _, _, _⟩) ?_ 26 (.tmp 6) ?_ w.heap.size ?_ 26 q.cells.toArray (0, 0) _ L.out Try.underlying26 rfl size_rp ?_; rfl; rfl; rfl; have K17 := Lib.hid True.intro; clear K16)
                  | (have h := K17; clear h; go_at_call 15; refine (HTH.out _).mono ?_; rintro e w2 ⟨rfl, hb⟩; replace B := Lib.hid (B.out.trans (hb.mono B.out.size)); replace L := Lib.hid (L.out.call hb); clear hb; have K21 := Lib.hid True.intro; clear K17)
                  | (have h := K21; clear h; go_at_call 34; refine (HTB.out _ B.out).mono ?_; rintro e w3 ⟨rfl, hb⟩; replace B := Lib.hid (B.out.trans (hb.mono B.out.size)); replace L := Lib.hid (L.out.call hb); clear hb; have K27 := Lib.hid True.intro; clear K21))
            have TM := Lib.hid (HTM.out.below B.out B.out.size)
            clear HTM HTB HTH
            go_upto_region 7 with (fail)
            have LG := Lib.hid (show ∀ V, (∃ cc : Cls (fun W => Below w3.heap.size w3 W), V = cc.val) → V.rangeAt w.heap.size 0 q.cells by
              rintro V ⟨cc, rfl⟩
              exact Lies.range (cs := q.cells) (L.out.call cc.h) (fun j v hj => by simpa using hj))
            haveI hne : Nonempty (Cls (fun W => Below w3.heap.size w3 W)) := ⟨⟨w3, Below.refl _ _⟩⟩
            refine wp_region_wayw [0, 2, 5, 7] (.way 1 (.way 3 (.way 4 (.way 6 (.way 8 (.way 9 (.take 10 (.take 11 .fin)) .fin) .fin) .fin) .fin) .fin) .fin) (fun W => ∃ cc : Cls (fun W => Below w3.heap.size w3 W), W = cc.val) (by kernel_rfl) (by kernel_rfl) (Cls.here (Below.refl _ _).drew) ?_
            simp only [List.filterMap_cons, List.filterMap_nil, List.getElem?_toArray, List.getElem?_cons_zero, List.getElem?_cons_succ]
            repeat (first
              | (refine wpQuiet_load_wholeG (o := ⟨some 54, _, _, _, _, _⟩) ?_ 26 (.tmp 6) ?_ w.heap.size 0 ?_ q.cells _ LG.out Try.underlying26 rfl size_rp ?_; rfl; rfl; rfl; simp only [Act.put, List.setIfInBounds_toArray, List.set_cons_zero, List.set_cons_succ])
              | (refine wpQuiet_load_wholeG (o := ⟨some 59, _, _, _, _, _⟩) ?_ 26 (.tmp 6) ?_ w.heap.size 0 ?_ q.cells _ LG.out Try.underlying26 rfl size_rp ?_; rfl; rfl; rfl; simp only [Act.put, List.setIfInBounds_toArray, List.set_cons_zero, List.set_cons_succ])
              | go_big_quiet_step (rfl) | quiet_step (rfl))
            refine wpQuiet_nil ?_
            clear LG
            have D := Lib.hid (show Below w3.heap.size w3 w3.drew from (Below.refl _ _).drew)
            replace B := Lib.hid (B.out.trans (D.out.mono B.out.size))
            replace TM := Lib.hid (TM.out.below D.out D.out.size)
            replace L := Lib.hid (L.out.call D.out)
            generalize w3.drew = d0 at *
            rw [wpWy_way]
            refine ⟨?_, by exact trivial⟩
            simp only [List.getElem?_toArray, List.getElem?_cons_succ, List.getElem?_cons_zero]
            go_wp2_with (go_at_call 18; refine (Copy_any q _ (HAT.out.below B.out B.out.size) HL15.out).mono ?_; rintro e d' ⟨A81, c81, rfl, hat, hb⟩)
            replace D := Lib.hid (D.out.trans (hb.mono D.out.size))
            replace B := Lib.hid (B.out.trans (hb.mono B.out.size))
            replace TM := Lib.hid (TM.out.below hb hb.size)
            replace L := Lib.hid (L.out.call hb)
            have TC81 := Lib.hid hat
            clear hat
            clear hb
            refine Ends.intro ⟨Cls.here D.out, ?_⟩
            rw [wpWy_way]
            refine ⟨?_, by exact trivial⟩
            simp only [List.getElem?_toArray, List.getElem?_cons_succ, List.getElem?_cons_zero]
            go_wp2_with (go_at_call 36; refine (HRO.out _ TM.out).mono ?_; rintro e d' ⟨out82, A82, c82, rfl, hol, hot, hb⟩)
            replace D := Lib.hid (D.out.trans (hb.mono D.out.size))
            replace B := Lib.hid (B.out.trans (hb.mono B.out.size))
            replace TM := Lib.hid (TM.out.below hb hb.size)
            replace L := Lib.hid (L.out.call hb)
            replace TC81 := Lib.hid (TC81.out.below hb hb.size)
            have HO82 := Lib.hid hol
            have HT82 := Lib.hid hot
            clear hol hot
            clear hb
            refine Ends.intro ⟨Cls.here D.out, ?_⟩
            rw [wpWy_way]
            refine ⟨?_, by exact trivial⟩
            simp only [List.getElem?_toArray, List.getElem?_cons_succ, List.getElem?_cons_zero]
            go_wp2_with (go_at_call 35; refine (HPK.out A81 c81 A82 out82 c82 _ TC81.out HT82.out HO82.out).mono ?_; rintro e d' ⟨rfl, hb⟩)
            replace D := Lib.hid (D.out.trans (hb.mono D.out.size))
            replace B := Lib.hid (B.out.trans (hb.mono B.out.size))
            replace TM := Lib.hid (TM.out.below hb hb.size)
            replace L := Lib.hid (L.out.call hb)
            clear hb
            refine Ends.intro ⟨Cls.here D.out, ?_⟩
            rw [wpWy_way]
            refine ⟨?_, by exact trivial⟩
            simp only [List.getElem?_toArray, List.getElem?_cons_succ, List.getElem?_cons_zero]
            go_wp2_with (go_at_call 18; refine (Copy_any q _ (HAT.out.below B.out B.out.size) HL15.out).mono ?_; rintro e d' ⟨A83, c83, rfl, hat, hb⟩)
            replace D := Lib.hid (D.out.trans (hb.mono D.out.size))
            replace B := Lib.hid (B.out.trans (hb.mono B.out.size))
            replace TM := Lib.hid (TM.out.below hb hb.size)
            replace L := Lib.hid (L.out.call hb)
            have TC83 := Lib.hid hat
            clear hat
            clear hb
            refine Ends.intro ⟨Cls.here D.out, ?_⟩
            rw [wpWy_way]
            refine ⟨?_, by exact trivial⟩
            simp only [List.getElem?_toArray, List.getElem?_cons_succ, List.getElem?_cons_zero]
            go_wp2_with (go_at_call 36; refine (HRO.out _ TM.out).mono ?_; rintro e d' ⟨out84, A84, c84, rfl, hol, hot, hb⟩)
            replace D := Lib.hid (D.out.trans (hb.mono D.out.size))
            replace B := Lib.hid (B.out.trans (hb.mono B.out.size))
            replace TM := Lib.hid (TM.out.below hb hb.size)
            replace L := Lib.hid (L.out.call hb)
            replace TC83 := Lib.hid (TC83.out.below hb hb.size)
            have HO84 := Lib.hid hol
            have HT84 := Lib.hid hot
            clear hol hot
            clear hb
            refine Ends.intro ⟨Cls.here D.out, ?_⟩
            rw [wpWy_way]
            refine ⟨?_, by exact trivial⟩
            simp only [List.getElem?_toArray, List.getElem?_cons_succ, List.getElem?_cons_zero]
            go_wp2_with (go_at_call 37; refine (HPN.out A83 c83 A84 out84 c84 _ TC83.out HT84.out HO84.out).mono ?_; rintro e d' ⟨rfl, hb⟩)
            replace D := Lib.hid (D.out.trans (hb.mono D.out.size))
            replace B := Lib.hid (B.out.trans (hb.mono B.out.size))
            replace TM := Lib.hid (TM.out.below hb hb.size)
            replace L := Lib.hid (L.out.call hb)
            clear hb
            refine Ends.intro ⟨Cls.here D.out, ?_⟩
            rw [wpWy_take]
            simp only [List.getElem?_toArray, List.getElem?_cons_succ, List.getElem?_cons_zero]
            first | go_big_quiet_step (rfl) | quiet_step (rfl)
            refine wpQuiet_nil ?_
            rw [wpWy_take]
            simp only [List.getElem?_toArray, List.getElem?_cons_succ, List.getElem?_cons_zero]
            first | go_big_quiet_step (rfl) | quiet_step (rfl)
            refine wpQuiet_nil ?_
            rw [wpWy_fin]
            clear D
            have K0 := Lib.hid True.intro
            go_wp2_with (first
                | (have h := K0; clear h; refine wpList_load_row (o := ⟨some 64, _, _, _, _, _⟩) ?_ 26 (.tmp 6) ?_ w.heap.size ?_ 26 q.cells.toArray (0, 0) _ L.out Try.underlying26 rfl size_rp ?_; rfl; rfl; rfl; have K1 := Lib.hid True.intro; clear K0)
                | (have h := K1; clear h; go_at_call 20; refine (HFA.out _ (HAT.out.below B.out B.out.size)).mono ?_; rintro e w' ⟨rfl, hb⟩; replace B := Lib.hid (B.out.trans (hb.mono B.out.size)); replace L := Lib.hid (L.out.call hb); replace TM := Lib.hid (TM.out.below hb hb.size); clear hb; have K2 := Lib.hid True.intro; clear K1)
                | (have h := K2; clear h; refine wpList_load_rowG (o := ⟨some 68, _, _, _, _, _⟩) ?_ 26 (.tmp 6) ?_ w.heap.size ?_ 26 q.cells.toArray (0, 0) _ L.out Try.underlying26 rfl size_rp ?_; kernel_rfl; rfl; rfl; have K3 := Lib.hid True.intro; clear K2)
                | (have h := K3; clear h; go_at_call 38; refine (HIT.out _ TM.out).mono ?_; rintro e w' ⟨rfl, hb⟩; replace B := Lib.hid (B.out.trans (hb.mono B.out.size)); replace L := Lib.hid (L.out.call hb); replace TM := Lib.hid (TM.out.below hb hb.size); clear hb; have K4 := Lib.hid True.intro; clear K3)
                | (have h := K4; clear h; refine wpList_load_row (o := ⟨some 83, _, _, _, _, _⟩) ?_ 26 (.tmp 6) ?_ w.heap.size ?_ 26 q.cells.toArray (0, 0) _ L.out Try.underlying26 rfl size_rp ?_; rfl; rfl; rfl; have K5 := Lib.hid True.intro; clear K4)
                | (have h := K5; clear h; go_at_call 39; refine (HRK.out _ (HAT.out.below B.out B.out.size) TM.out).mono ?_; rintro e w' ⟨rfl, hb⟩; replace B := Lib.hid (B.out.trans (hb.mono B.out.size)); replace L := Lib.hid (L.out.call hb); replace TM := Lib.hid (TM.out.below hb hb.size); clear hb; have K6 := Lib.hid True.intro; clear K5)
                | (have h := K6; clear h; refine wpList_load_rowG (o := ⟨some 89, _, _, _, _, _⟩) ?_ 26 (.tmp 6) ?_ w.heap.size ?_ 26 q.cells.toArray (0, 0) _ L.out Try.underlying26 rfl size_rp ?_; kernel_rfl; rfl; rfl; have K7 := Lib.hid True.intro; clear K6)
                | (have h := K7; clear h; go_at_call 40; refine (HRN.out _ (HAT.out.below B.out B.out.size) TM.out).mono ?_; rintro e w' ⟨rfl, hb⟩; replace B := Lib.hid (B.out.trans (hb.mono B.out.size)); replace L := Lib.hid (L.out.call hb); replace TM := Lib.hid (TM.out.below hb hb.size); clear hb; have K8 := Lib.hid True.intro; clear K7)
                | (have h := K8; clear h; go_at_call 16; refine (wakes_any _).mono ?_; rintro e w' ⟨rfl, hb⟩; replace B := Lib.hid (B.out.trans (hb.mono B.out.size)); replace L := Lib.hid (L.out.call hb); replace TM := Lib.hid (TM.out.below hb hb.size); clear hb; have K9 := Lib.hid True.intro; clear K8))
            go_ret
            exact ⟨rfl, B.out⟩
          · have htb2 : q.d.tabB T = false := by simpa using htb2
            have HRO := Lib.hid (fun W (htm : TabM tA ts W W.heap.size) => (show Calls Try.prog 36 #[.slice tA tl tc] W (RowsT T W) by
              have := rows_tab tA tc ts W htm hnn hll hml
              rw [← htl, hT] at this
              exact this))
            have hka : q.d.keepsR T = false := PoD.isOfB_not (.inr htb2)
            have hnb : q.d.needsR T = false := PoD.isOfB_not (.inr htb2)
            have HPK := Lib.hid (fun A c (Ao : Option Addr) out co W (hat : (q.withA A c).At W W.heap.size) (hto : TabM Ao out W W.heap.size) (hoT : out.map Sv.l = T) => (show Calls Try.prog 35 #[.agg (q.withA A c).cells.toArray, .slice Ao out.length co] W fun e w' => e = .returned (.bool false) ∧ Below W.heap.size W w' by
              have := ProveKeeps_any (q.withA A c) Ao co out W hat hto
              rw [hoT, show (q.withA A c).d.keepsR T = false from hka] at this
              exact this))
            have HPN := Lib.hid (fun A c (Ao : Option Addr) out co W (hat : (q.withA A c).At W W.heap.size) (hto : TabM Ao out W W.heap.size) (hoT : out.map Sv.l = T) => (show Calls Try.prog 37 #[.agg (q.withA A c).cells.toArray, .slice Ao out.length co] W fun e w' => e = .returned (.bool false) ∧ Below W.heap.size W w' by
              have := ProveNeeds_any (q.withA A c) Ao co out W hat hto
              rw [hoT, show (q.withA A c).d.needsR T = false from hnb] at this
              exact this))
            have HIT := Lib.hid (fun W (htm : TabM tA ts W W.heap.size) => (show Calls Try.prog 38 #[.agg q.cells.toArray, .slice tA tl tc] W fun e w' => e = .returned (.bool false) ∧ Below W.heap.size W w' by
              have := IsTable_any q tA tc ts W htm HOK.out
              rw [← htl, hT, htb2] at this
              exact this))
            clear hka hnb htb2
            clear hnn hll hml hT htl hf0 HNN HLM HLL
            go_enter Try.func7, Try.ntmps7
            go_upto_region 1 with (fail)
            change Code.wp _ _ _ _ (w.alloc (.cells q.cells.toArray 26))
            generalize w.alloc (.cells q.cells.toArray 26) = w1 at *
            go_upto_region 7 with (first
                  | (have h := K16; clear h; refine wpList_load_row (o := ⟨some 16, _, _, _, _, _⟩) ?_ 26 (.tmp 6) ?_ w.heap.size ?_ 26 q.cells.toArray (0, 0) _ L.out Try.underlying26 rfl size_rp ?_; rfl; rfl; rfl; have K17 := Lib.hid True.intro; clear K16)
                  | (have h := K17; clear h; go_at_call 15; refine (HTH.out _).mono ?_; rintro e w2 ⟨rfl, hb⟩; replace B := Lib.hid (B.out.trans (hb.mono B.out.size)); replace L := Lib.hid (L.out.call hb); clear hb; have K21 := Lib.hid True.intro; clear K17)
                  | (have h := K21; clear h; go_at_call 34; refine (HTB.out _ B.out).mono ?_; rintro e w3 ⟨rfl, hb⟩; replace B := Lib.hid (B.out.trans (hb.mono B.out.size)); replace L := Lib.hid (L.out.call hb); clear hb; have K27 := Lib.hid True.intro; clear K21))
            have TM := Lib.hid (HTM.out.below B.out B.out.size)
            clear HTM HTB HTH
            go_upto_region 7 with (fail)
            have LG := Lib.hid (show ∀ V, (∃ cc : Cls (fun W => Below w3.heap.size w3 W), V = cc.val) → V.rangeAt w.heap.size 0 q.cells by
              rintro V ⟨cc, rfl⟩
              exact Lies.range (cs := q.cells) (L.out.call cc.h) (fun j v hj => by simpa using hj))
            haveI hne : Nonempty (Cls (fun W => Below w3.heap.size w3 W)) := ⟨⟨w3, Below.refl _ _⟩⟩
            refine wp_region_wayw [0, 2, 5, 7] (.way 1 (.way 3 (.way 4 (.way 6 (.way 8 (.way 9 (.take 10 (.take 11 .fin)) .fin) .fin) .fin) .fin) .fin) .fin) (fun W => ∃ cc : Cls (fun W => Below w3.heap.size w3 W), W = cc.val) (by kernel_rfl) (by kernel_rfl) (Cls.here (Below.refl _ _).drew) ?_
            simp only [List.filterMap_cons, List.filterMap_nil, List.getElem?_toArray, List.getElem?_cons_zero, List.getElem?_cons_succ]
            repeat (first
              | (refine wpQuiet_load_wholeG (o := ⟨some 54, _, _, _, _, _⟩) ?_ 26 (.tmp 6) ?_ w.heap.size 0 ?_ q.cells _ LG.out Try.underlying26 rfl size_rp ?_; rfl; rfl; rfl; simp only [Act.put, List.setIfInBounds_toArray, List.set_cons_zero, List.set_cons_succ])
              | (refine wpQuiet_load_wholeG (o := ⟨some 59, _, _, _, _, _⟩) ?_ 26 (.tmp 6) ?_ w.heap.size 0 ?_ q.cells _ LG.out Try.underlying26 rfl size_rp ?_; rfl; rfl; rfl; simp only [Act.put, List.setIfInBounds_toArray, List.set_cons_zero, List.set_cons_succ])
              | go_big_quiet_step (rfl) | quiet_step (rfl))
            refine wpQuiet_nil ?_
            clear LG
            have D := Lib.hid (show Below w3.heap.size w3 w3.drew from (Below.refl _ _).drew)
            replace B := Lib.hid (B.out.trans (D.out.mono B.out.size))
            replace TM := Lib.hid (TM.out.below D.out D.out.size)
            replace L := Lib.hid (L.out.call D.out)
            generalize w3.drew = d0 at *
            rw [wpWy_way]
            refine ⟨?_, by exact trivial⟩
            simp only [List.getElem?_toArray, List.getElem?_cons_succ, List.getElem?_cons_zero]
            go_wp2_with (go_at_call 18; refine (Copy_any q _ (HAT.out.below B.out B.out.size) HL15.out).mono ?_; rintro e d' ⟨A81, c81, rfl, hat, hb⟩)
            replace D := Lib.hid (D.out.trans (hb.mono D.out.size))
            replace B := Lib.hid (B.out.trans (hb.mono B.out.size))
            replace TM := Lib.hid (TM.out.below hb hb.size)
            replace L := Lib.hid (L.out.call hb)
            have TC81 := Lib.hid hat
            clear hat
            clear hb
            refine Ends.intro ⟨Cls.here D.out, ?_⟩
            rw [wpWy_way]
            refine ⟨?_, by exact trivial⟩
            simp only [List.getElem?_toArray, List.getElem?_cons_succ, List.getElem?_cons_zero]
            go_wp2_with (go_at_call 36; refine (HRO.out _ TM.out).mono ?_; rintro e d' ⟨out82, A82, c82, rfl, hol, hot, hb⟩)
            replace D := Lib.hid (D.out.trans (hb.mono D.out.size))
            replace B := Lib.hid (B.out.trans (hb.mono B.out.size))
            replace TM := Lib.hid (TM.out.below hb hb.size)
            replace L := Lib.hid (L.out.call hb)
            replace TC81 := Lib.hid (TC81.out.below hb hb.size)
            have HO82 := Lib.hid hol
            have HT82 := Lib.hid hot
            clear hol hot
            clear hb
            refine Ends.intro ⟨Cls.here D.out, ?_⟩
            rw [wpWy_way]
            refine ⟨?_, by exact trivial⟩
            simp only [List.getElem?_toArray, List.getElem?_cons_succ, List.getElem?_cons_zero]
            go_wp2_with (go_at_call 35; refine (HPK.out A81 c81 A82 out82 c82 _ TC81.out HT82.out HO82.out).mono ?_; rintro e d' ⟨rfl, hb⟩)
            replace D := Lib.hid (D.out.trans (hb.mono D.out.size))
            replace B := Lib.hid (B.out.trans (hb.mono B.out.size))
            replace TM := Lib.hid (TM.out.below hb hb.size)
            replace L := Lib.hid (L.out.call hb)
            clear hb
            refine Ends.intro ⟨Cls.here D.out, ?_⟩
            rw [wpWy_way]
            refine ⟨?_, by exact trivial⟩
            simp only [List.getElem?_toArray, List.getElem?_cons_succ, List.getElem?_cons_zero]
            go_wp2_with (go_at_call 18; refine (Copy_any q _ (HAT.out.below B.out B.out.size) HL15.out).mono ?_; rintro e d' ⟨A83, c83, rfl, hat, hb⟩)
            replace D := Lib.hid (D.out.trans (hb.mono D.out.size))
            replace B := Lib.hid (B.out.trans (hb.mono B.out.size))
            replace TM := Lib.hid (TM.out.below hb hb.size)
            replace L := Lib.hid (L.out.call hb)
            have TC83 := Lib.hid hat
            clear hat
            clear hb
            refine Ends.intro ⟨Cls.here D.out, ?_⟩
            rw [wpWy_way]
            refine ⟨?_, by exact trivial⟩
            simp only [List.getElem?_toArray, List.getElem?_cons_succ, List.getElem?_cons_zero]
            go_wp2_with (go_at_call 36; refine (HRO.out _ TM.out).mono ?_; rintro e d' ⟨out84, A84, c84, rfl, hol, hot, hb⟩)
            replace D := Lib.hid (D.out.trans (hb.mono D.out.size))
            replace B := Lib.hid (B.out.trans (hb.mono B.out.size))
            replace TM := Lib.hid (TM.out.below hb hb.size)
            replace L := Lib.hid (L.out.call hb)
            replace TC83 := Lib.hid (TC83.out.below hb hb.size)
            have HO84 := Lib.hid hol
            have HT84 := Lib.hid hot
            clear hol hot
            clear hb
            refine Ends.intro ⟨Cls.here D.out, ?_⟩
            rw [wpWy_way]
            refine ⟨?_, by exact trivial⟩
            simp only [List.getElem?_toArray, List.getElem?_cons_succ, List.getElem?_cons_zero]
            go_wp2_with (go_at_call 37; refine (HPN.out A83 c83 A84 out84 c84 _ TC83.out HT84.out HO84.out).mono ?_; rintro e d' ⟨rfl, hb⟩)
            replace D := Lib.hid (D.out.trans (hb.mono D.out.size))
            replace B := Lib.hid (B.out.trans (hb.mono B.out.size))
            replace TM := Lib.hid (TM.out.below hb hb.size)
            replace L := Lib.hid (L.out.call hb)
            clear hb
            refine Ends.intro ⟨Cls.here D.out, ?_⟩
            rw [wpWy_take]
            simp only [List.getElem?_toArray, List.getElem?_cons_succ, List.getElem?_cons_zero]
            first | go_big_quiet_step (rfl) | quiet_step (rfl)
            refine wpQuiet_nil ?_
            rw [wpWy_take]
            simp only [List.getElem?_toArray, List.getElem?_cons_succ, List.getElem?_cons_zero]
            first | go_big_quiet_step (rfl) | quiet_step (rfl)
            refine wpQuiet_nil ?_
            rw [wpWy_fin]
            clear D
            have K0 := Lib.hid True.intro
            go_wp2_with (first
                | (have h := K0; clear h; refine wpList_load_row (o := ⟨some 64, _, _, _, _, _⟩) ?_ 26 (.tmp 6) ?_ w.heap.size ?_ 26 q.cells.toArray (0, 0) _ L.out Try.underlying26 rfl size_rp ?_; rfl; rfl; rfl; have K1 := Lib.hid True.intro; clear K0)
                | (have h := K1; clear h; go_at_call 20; refine (HFA.out _ (HAT.out.below B.out B.out.size)).mono ?_; rintro e w' ⟨rfl, hb⟩; replace B := Lib.hid (B.out.trans (hb.mono B.out.size)); replace L := Lib.hid (L.out.call hb); replace TM := Lib.hid (TM.out.below hb hb.size); clear hb; have K2 := Lib.hid True.intro; clear K1)
                | (have h := K2; clear h; refine wpList_load_rowG (o := ⟨some 68, _, _, _, _, _⟩) ?_ 26 (.tmp 6) ?_ w.heap.size ?_ 26 q.cells.toArray (0, 0) _ L.out Try.underlying26 rfl size_rp ?_; kernel_rfl; rfl; rfl; have K3 := Lib.hid True.intro; clear K2)
                | (have h := K3; clear h; go_at_call 38; refine (HIT.out _ TM.out).mono ?_; rintro e w' ⟨rfl, hb⟩; replace B := Lib.hid (B.out.trans (hb.mono B.out.size)); replace L := Lib.hid (L.out.call hb); replace TM := Lib.hid (TM.out.below hb hb.size); clear hb; have K4 := Lib.hid True.intro; clear K3)
                | (have h := K4; clear h; go_at_call 16; refine (wakes_any _).mono ?_; rintro e w' ⟨rfl, hb⟩; replace B := Lib.hid (B.out.trans (hb.mono B.out.size)); replace L := Lib.hid (L.out.call hb); replace TM := Lib.hid (TM.out.below hb hb.size); clear hb; have K5 := Lib.hid True.intro; clear K4))
            go_ret
            exact ⟨rfl, B.out⟩
        · obtain ⟨tA0, htA0⟩ : ∃ tA0, tA0 = t.A := ⟨_, rfl⟩
          obtain ⟨tc0, htc0⟩ : ∃ tc0, tc0 = t.c := ⟨_, rfl⟩
          obtain ⟨tl0, htl0⟩ : ∃ tl0, tl0 = t.l.length := ⟨_, rfl⟩
          rw [← htA0, ← htc0, ← htl0]
          rw [← htA0, ← htc0, ← htl0] at HTB
          have hn12 : q.d.ds.length ≤ 12 := HOK.out.n2
          have hlv : q.d.levels ≤ 61 ∧ 0 < q.d.levels := by
            have h1 := HOK.out.l2
            have h2 := HOK.out.l0
            have h3 := HOK.out.l1
            unfold PoD.levels
            omega
          obtain ⟨N, hN⟩ : ∃ N, N = q.d.ds.length + 1 := ⟨_, rfl⟩
          obtain ⟨M, hM⟩ : ∃ M, M = q.d.levels := ⟨_, rfl⟩
          have hN1 : (0 : Int) < (N : Int) := by omega
          have hN13 : (N : Int) ≤ 13 := by omega
          have hM1 : (0 : Int) < (M : Int) := by omega
          have hM61 : (M : Int) ≤ 61 := by omega
          have hd256 : (day : Int) < 256 := by omega
          have ha256 : (at_ : Int) < 256 := by omega
          obtain ⟨d, hdm⟩ : ∃ d : Nat, (day : Int) % (N : Int) = (d : Int) := ⟨day % N, by omega⟩
          obtain ⟨m, hmm⟩ : ∃ m : Nat, (at_ : Int) % (M : Int) = (m : Int) := ⟨at_ % M, by omega⟩
          have hdN : (d : Int) < (N : Int) := by rw [← hdm]; exact Int.emod_lt_of_pos _ hN1
          have hmM : (m : Int) < (M : Int) := by rw [← hmm]; exact Int.emod_lt_of_pos _ hM1
          obtain ⟨e4, he4⟩ : ∃ e4, by_.tmod 4 = e4 := ⟨_, rfl⟩
          have he40 : -3 ≤ e4 := by rw [← he4]; exact (tmod4 by_).1
          have he41 : e4 ≤ 3 := by rw [← he4]; exact (tmod4 by_).2
          have HN := Lib.hid hN
          have HM := Lib.hid hM
          have HN12 := Lib.hid hn12
          have HLV := Lib.hid hlv
          have HF0 := Lib.hid hf0
          clear hN hM hn12 hlv htA0 htc0 htl0 hf0
          go_enter Try.func7, Try.ntmps7
          go_upto_region 1 with (fail)
          change Code.wp _ _ _ _ (w.alloc (.cells q.cells.toArray 26))
          generalize w.alloc (.cells q.cells.toArray 26) = w1 at *
          go_upto_region 5 with (first
                | (have h := K16; clear h; refine wpList_load_row (o := ⟨some 16, _, _, _, _, _⟩) ?_ 26 (.tmp 6) ?_ w.heap.size ?_ 26 q.cells.toArray (0, 0) _ L.out Try.underlying26 rfl size_rp ?_; rfl; rfl; rfl; have K17 := Lib.hid True.intro; clear K16)
                | (have h := K17; clear h; go_at_call 15; refine (HTH.out _).mono ?_; rintro e w2 ⟨rfl, hb⟩; replace B := Lib.hid (B.out.trans (hb.mono B.out.size)); replace L := Lib.hid (L.out.call hb); clear hb; have K21 := Lib.hid True.intro; clear K17)
                | (have h := K21; clear h; go_at_call 34; refine (HTB.out _ B.out).mono ?_; rintro e w3 ⟨rfl, hb⟩; replace B := Lib.hid (B.out.trans (hb.mono B.out.size)); replace L := Lib.hid (L.out.call hb); clear hb; have K27 := Lib.hid True.intro; clear K21)
                | (have h := K27; clear h; refine wpList_load_rowG (o := ⟨some 27, _, _, _, _, _⟩) ?_ 26 (.tmp 6) ?_ w.heap.size ?_ 26 q.cells.toArray (0, 0) _ L.out Try.underlying26 rfl size_rp ?_; kernel_rfl; rfl; rfl; have K28 := Lib.hid True.intro; clear K27)
                | (have h := K28; clear h; go_at_call 20; refine (HFA.out _ (HAT.out.below B.out B.out.size)).mono ?_; rintro e w4 ⟨rfl, hb⟩; replace B := Lib.hid (B.out.trans (hb.mono B.out.size)); replace L := Lib.hid (L.out.call hb); clear hb; have K31 := Lib.hid True.intro; clear K28)
                | (have h := K31; clear h; refine wpList_load_row (o := ⟨some 31, _, _, _, _, _⟩) ?_ 26 (.tmp 6) ?_ w.heap.size ?_ 26 q.cells.toArray (0, 0) _ L.out Try.underlying26 rfl size_rp ?_; rfl; rfl; rfl; have K32 := Lib.hid True.intro; clear K31)
                | (have h := K32; clear h; go_at_call 21; refine (Values_any q _ (HAT.out.below B.out B.out.size) HOK.out).mono ?_; rintro e w5 ⟨gv, row, rfl, hgv, hvl, hb⟩; have HGV := Lib.hid (Nat.le_trans (Nat.succ_le_of_lt L.out.in_) hgv); clear hgv; replace B := Lib.hid (B.out.trans (hb.mono B.out.size)); replace L := Lib.hid (L.out.call hb); have VL := Lib.hid hvl; clear hvl; clear hb; have KX := Lib.hid True.intro; clear K32))
          rw [← HN.out]
          have SM := Lib.hid (VL.out.sep HGV.out HN12.out (by have := HLV.out.1; omega))
          have hd0 : d ≤ q.d.ds.length := by have := HN.out; omega
          have hrl : (row d).l.length = M := by rw [VL.out.len hd0, HM.out]
          have hsd : ((List.range (q.d.ds.length + 1)).map row)[d]? = some (row d) := by rw [List.getElem?_map, List.getElem?_range (by omega)]; rfl
          obtain ⟨g, hgA, hgB, ⟨x, hx, hcx⟩, hfz, hset⟩ := SM.out.set hsd (m := m) (by omega)
          have hxb := rowT_b HOK.out d x (by rw [← (VL.out.r d hd0).1]; exact List.mem_of_getElem? hx)
          have hx0 : -1 ≤ x := hxb.1
          have hx1 : x ≤ 1000000 := hxb.2
          have c40 : w5.cell? ⟨gv, d, none⟩ = some (.slice (some ⟨g, 0, none⟩) M (row d).c) := by
            have := VL.out.cell hd0
            rw [hgA, hrl] at this
            exact this
          have hO := Only.set g m w5 (.int .i64 (x + e4))
          have hgw : w.heap.size ≤ g := by omega
          have BS := Lib.hid (hO.below B.out hgw)
          have LS := Lib.hid (hO.lies L.out (by omega))
          have hTS := (hset (x + e4)).1
          have hNS := (hset (x + e4)).2
          have hszS : (w5.setCell ⟨g, m, none⟩ (.int .i64 (x + e4))).heap.size = w5.heap.size := by simp
          rw [← hszS] at hTS
          obtain ⟨ts, hts⟩ : ∃ ts, ts = setT ((List.range (q.d.ds.length + 1)).map row) d m (row d) (x + e4) := ⟨_, rfl⟩
          rw [← hts] at hTS hNS
          have htl0 : ts.length = N := by rw [hts, setT_length, HN.out]; simp
          have hml0 : ∀ z, z ∈ ts → z.l.length = M := by
            rw [hts]
            refine setT_rows (fun z hz => ?_) hrl
            obtain ⟨k, hk, rfl⟩ := List.mem_map.1 hz
            rw [VL.out.len (by have := List.mem_range.1 hk; omega), HM.out]
          have HTS := Lib.hid hTS
          have HNS := Lib.hid hNS
          have HTL := Lib.hid htl0
          have HML := Lib.hid hml0
          clear hTS hNS htl0 hml0 hts hset SM hsd hrl hgA hx hxb hO hszS hgB hgw B L VL
          go_upto_region 7 with (fail)
          generalize w5.setCell ⟨g, m, none⟩ (.int .i64 (x + e4)) = wS at *
          have B := Lib.hid BS.out
          have L := Lib.hid LS.out
          have TM := Lib.hid HTS.out
          have htl : N = ts.length := HTL.out.symm
          have hnn := HNS.out
          have hll : ts.length ≤ 100 := by rw [← htl]; omega
          have hml : ∀ s, s ∈ ts → s.l.length ≤ 1000 := fun s hs => by rw [HML.out s hs]; omega
          obtain ⟨T, hT⟩ : ∃ T, ts.map Sv.l = T := ⟨_, rfl⟩
          have hf0 := HF0.out
          by_cases htb2 : q.d.tabB T = true
          · have HRO := Lib.hid (fun W (htm : TabM (some ⟨gv, 0, none⟩) ts W W.heap.size) => (show Calls Try.prog 36 #[.slice (some ⟨gv, 0, none⟩) N N] W (RowsT T W) by
              have := rows_tab (some ⟨gv, 0, none⟩) N ts W htm hnn hll hml
              rw [← htl, hT] at this
              exact this))
            obtain ⟨ka, hka⟩ : ∃ ka, q.d.keepsR T = ka := ⟨_, rfl⟩
            obtain ⟨nb, hnb⟩ : ∃ nb, q.d.needsR T = nb := ⟨_, rfl⟩
            have HPK := Lib.hid (fun A c (Ao : Option Addr) out co W (hat : (q.withA A c).At W W.heap.size) (hto : TabM Ao out W W.heap.size) (hoT : out.map Sv.l = T) => (show Calls Try.prog 35 #[.agg (q.withA A c).cells.toArray, .slice Ao out.length co] W fun e w' => e = .returned (.bool ka) ∧ Below W.heap.size W w' by
              have := ProveKeeps_any (q.withA A c) Ao co out W hat hto
              rw [hoT, show (q.withA A c).d.keepsR T = ka from hka] at this
              exact this))
            have HPN := Lib.hid (fun A c (Ao : Option Addr) out co W (hat : (q.withA A c).At W W.heap.size) (hto : TabM Ao out W W.heap.size) (hoT : out.map Sv.l = T) => (show Calls Try.prog 37 #[.agg (q.withA A c).cells.toArray, .slice Ao out.length co] W fun e w' => e = .returned (.bool nb) ∧ Below W.heap.size W w' by
              have := ProveNeeds_any (q.withA A c) Ao co out W hat hto
              rw [hoT, show (q.withA A c).d.needsR T = nb from hnb] at this
              exact this))
            have HIT := Lib.hid (fun W (htm : TabM (some ⟨gv, 0, none⟩) ts W W.heap.size) => (show Calls Try.prog 38 #[.agg q.cells.toArray, .slice (some ⟨gv, 0, none⟩) N N] W fun e w' => e = .returned (.bool true) ∧ Below W.heap.size W w' by
              have := IsTable_any q (some ⟨gv, 0, none⟩) N ts W htm HOK.out
              rw [← htl, hT, htb2] at this
              exact this))
            have HRK := Lib.hid (fun W (hat : q.At W W.heap.size) (htm : TabM (some ⟨gv, 0, none⟩) ts W W.heap.size) => (show Calls Try.prog 39 #[.agg q.cells.toArray, .slice (some ⟨gv, 0, none⟩) N N] W fun e w' => e = .returned (.bool ka) ∧ Below W.heap.size W w' by
              have := refKeeps_any q (some ⟨gv, 0, none⟩) N ts W hat htm HOK.out (by rw [hT]; exact htb2)
              rw [← PoD.isOfB_yes hf0 (by rw [hT]; exact htb2), ← htl, hT] at this
              rw [show q.d.isOfB _ T = ka from hka] at this
              exact this))
            have HRN := Lib.hid (fun W (hat : q.At W W.heap.size) (htm : TabM (some ⟨gv, 0, none⟩) ts W W.heap.size) => (show Calls Try.prog 40 #[.agg q.cells.toArray, .slice (some ⟨gv, 0, none⟩) N N] W fun e w' => e = .returned (.bool nb) ∧ Below W.heap.size W w' by
              have := refNeeds_any q (some ⟨gv, 0, none⟩) N ts W hat htm HOK.out (by rw [hT]; exact htb2)
              rw [← PoD.isOfB_yes hf0 (by rw [hT]; exact htb2), ← htl, hT] at this
              rw [show q.d.isOfB _ T = nb from hnb] at this
              exact this))
            clear hka hnb htb2
            have hkk : (ka == ka) = true := by simp
            have hnn2 : (nb == nb) = true := by simp
            clear hnn hll hml hT htl hf0 HTS HNS HTL HML BS LS c40 hcx hfz hd0
            go_upto_region 7 with (fail)
            have LG := Lib.hid (show ∀ V, (∃ cc : Cls (fun W => Below wS.heap.size wS W), V = cc.val) → V.rangeAt w.heap.size 0 q.cells by
              rintro V ⟨cc, rfl⟩
              exact Lies.range (cs := q.cells) (L.out.call cc.h) (fun j v hj => by simpa using hj))
            haveI hne : Nonempty (Cls (fun W => Below wS.heap.size wS W)) := ⟨⟨wS, Below.refl _ _⟩⟩
            refine wp_region_wayw [0, 2, 5, 7] (.way 1 (.way 3 (.way 4 (.way 6 (.way 8 (.way 9 (.take 10 (.take 11 .fin)) .fin) .fin) .fin) .fin) .fin) .fin) (fun W => ∃ cc : Cls (fun W => Below wS.heap.size wS W), W = cc.val) (by kernel_rfl) (by kernel_rfl) (Cls.here (Below.refl _ _).drew) ?_
            simp only [List.filterMap_cons, List.filterMap_nil, List.getElem?_toArray, List.getElem?_cons_zero, List.getElem?_cons_succ]
            repeat (first
              | (refine wpQuiet_load_wholeG (o := ⟨some 54, _, _, _, _, _⟩) ?_ 26 (.tmp 6) ?_ w.heap.size 0 ?_ q.cells _ LG.out Try.underlying26 rfl size_rp ?_; rfl; rfl; rfl; simp only [Act.put, List.setIfInBounds_toArray, List.set_cons_zero, List.set_cons_succ])
              | (refine wpQuiet_load_wholeG (o := ⟨some 59, _, _, _, _, _⟩) ?_ 26 (.tmp 6) ?_ w.heap.size 0 ?_ q.cells _ LG.out Try.underlying26 rfl size_rp ?_; rfl; rfl; rfl; simp only [Act.put, List.setIfInBounds_toArray, List.set_cons_zero, List.set_cons_succ])
              | go_big_quiet_step (rfl) | quiet_step (rfl))
            refine wpQuiet_nil ?_
            clear LG
            have D := Lib.hid (show Below wS.heap.size wS wS.drew from (Below.refl _ _).drew)
            replace B := Lib.hid (B.out.trans (D.out.mono B.out.size))
            replace TM := Lib.hid (TM.out.below D.out D.out.size)
            replace L := Lib.hid (L.out.call D.out)
            generalize wS.drew = d0 at *
            rw [wpWy_way]
            refine ⟨?_, by exact trivial⟩
            simp only [List.getElem?_toArray, List.getElem?_cons_succ, List.getElem?_cons_zero]
            go_wp2_with (go_at_call 18; refine (Copy_any q _ (HAT.out.below B.out B.out.size) HL15.out).mono ?_; rintro e d' ⟨A81, c81, rfl, hat, hb⟩)
            replace D := Lib.hid (D.out.trans (hb.mono D.out.size))
            replace B := Lib.hid (B.out.trans (hb.mono B.out.size))
            replace TM := Lib.hid (TM.out.below hb hb.size)
            replace L := Lib.hid (L.out.call hb)
            have TC81 := Lib.hid hat
            clear hat
            clear hb
            refine Ends.intro ⟨Cls.here D.out, ?_⟩
            rw [wpWy_way]
            refine ⟨?_, by exact trivial⟩
            simp only [List.getElem?_toArray, List.getElem?_cons_succ, List.getElem?_cons_zero]
            go_wp2_with (go_at_call 36; refine (HRO.out _ TM.out).mono ?_; rintro e d' ⟨out82, A82, c82, rfl, hol, hot, hb⟩)
            replace D := Lib.hid (D.out.trans (hb.mono D.out.size))
            replace B := Lib.hid (B.out.trans (hb.mono B.out.size))
            replace TM := Lib.hid (TM.out.below hb hb.size)
            replace L := Lib.hid (L.out.call hb)
            replace TC81 := Lib.hid (TC81.out.below hb hb.size)
            have HO82 := Lib.hid hol
            have HT82 := Lib.hid hot
            clear hol hot
            clear hb
            refine Ends.intro ⟨Cls.here D.out, ?_⟩
            rw [wpWy_way]
            refine ⟨?_, by exact trivial⟩
            simp only [List.getElem?_toArray, List.getElem?_cons_succ, List.getElem?_cons_zero]
            go_wp2_with (go_at_call 35; refine (HPK.out A81 c81 A82 out82 c82 _ TC81.out HT82.out HO82.out).mono ?_; rintro e d' ⟨rfl, hb⟩)
            replace D := Lib.hid (D.out.trans (hb.mono D.out.size))
            replace B := Lib.hid (B.out.trans (hb.mono B.out.size))
            replace TM := Lib.hid (TM.out.below hb hb.size)
            replace L := Lib.hid (L.out.call hb)
            clear hb
            refine Ends.intro ⟨Cls.here D.out, ?_⟩
            rw [wpWy_way]
            refine ⟨?_, by exact trivial⟩
            simp only [List.getElem?_toArray, List.getElem?_cons_succ, List.getElem?_cons_zero]
            go_wp2_with (go_at_call 18; refine (Copy_any q _ (HAT.out.below B.out B.out.size) HL15.out).mono ?_; rintro e d' ⟨A83, c83, rfl, hat, hb⟩)
            replace D := Lib.hid (D.out.trans (hb.mono D.out.size))
            replace B := Lib.hid (B.out.trans (hb.mono B.out.size))
            replace TM := Lib.hid (TM.out.below hb hb.size)
            replace L := Lib.hid (L.out.call hb)
            have TC83 := Lib.hid hat
            clear hat
            clear hb
            refine Ends.intro ⟨Cls.here D.out, ?_⟩
            rw [wpWy_way]
            refine ⟨?_, by exact trivial⟩
            simp only [List.getElem?_toArray, List.getElem?_cons_succ, List.getElem?_cons_zero]
            go_wp2_with (go_at_call 36; refine (HRO.out _ TM.out).mono ?_; rintro e d' ⟨out84, A84, c84, rfl, hol, hot, hb⟩)
            replace D := Lib.hid (D.out.trans (hb.mono D.out.size))
            replace B := Lib.hid (B.out.trans (hb.mono B.out.size))
            replace TM := Lib.hid (TM.out.below hb hb.size)
            replace L := Lib.hid (L.out.call hb)
            replace TC83 := Lib.hid (TC83.out.below hb hb.size)
            have HO84 := Lib.hid hol
            have HT84 := Lib.hid hot
            clear hol hot
            clear hb
            refine Ends.intro ⟨Cls.here D.out, ?_⟩
            rw [wpWy_way]
            refine ⟨?_, by exact trivial⟩
            simp only [List.getElem?_toArray, List.getElem?_cons_succ, List.getElem?_cons_zero]
            go_wp2_with (go_at_call 37; refine (HPN.out A83 c83 A84 out84 c84 _ TC83.out HT84.out HO84.out).mono ?_; rintro e d' ⟨rfl, hb⟩)
            replace D := Lib.hid (D.out.trans (hb.mono D.out.size))
            replace B := Lib.hid (B.out.trans (hb.mono B.out.size))
            replace TM := Lib.hid (TM.out.below hb hb.size)
            replace L := Lib.hid (L.out.call hb)
            clear hb
            refine Ends.intro ⟨Cls.here D.out, ?_⟩
            rw [wpWy_take]
            simp only [List.getElem?_toArray, List.getElem?_cons_succ, List.getElem?_cons_zero]
            first | go_big_quiet_step (rfl) | quiet_step (rfl)
            refine wpQuiet_nil ?_
            rw [wpWy_take]
            simp only [List.getElem?_toArray, List.getElem?_cons_succ, List.getElem?_cons_zero]
            first | go_big_quiet_step (rfl) | quiet_step (rfl)
            refine wpQuiet_nil ?_
            rw [wpWy_fin]
            clear D
            have K0 := Lib.hid True.intro
            go_wp2_with (first
                | (have h := K0; clear h; refine wpList_load_row (o := ⟨some 64, _, _, _, _, _⟩) ?_ 26 (.tmp 6) ?_ w.heap.size ?_ 26 q.cells.toArray (0, 0) _ L.out Try.underlying26 rfl size_rp ?_; rfl; rfl; rfl; have K1 := Lib.hid True.intro; clear K0)
                | (have h := K1; clear h; go_at_call 20; refine (HFA.out _ (HAT.out.below B.out B.out.size)).mono ?_; rintro e w' ⟨rfl, hb⟩; replace B := Lib.hid (B.out.trans (hb.mono B.out.size)); replace L := Lib.hid (L.out.call hb); replace TM := Lib.hid (TM.out.below hb hb.size); clear hb; have K2 := Lib.hid True.intro; clear K1)
                | (have h := K2; clear h; refine wpList_load_rowG (o := ⟨some 68, _, _, _, _, _⟩) ?_ 26 (.tmp 6) ?_ w.heap.size ?_ 26 q.cells.toArray (0, 0) _ L.out Try.underlying26 rfl size_rp ?_; kernel_rfl; rfl; rfl; have K3 := Lib.hid True.intro; clear K2)
                | (have h := K3; clear h; go_at_call 38; refine (HIT.out _ TM.out).mono ?_; rintro e w' ⟨rfl, hb⟩; replace B := Lib.hid (B.out.trans (hb.mono B.out.size)); replace L := Lib.hid (L.out.call hb); replace TM := Lib.hid (TM.out.below hb hb.size); clear hb; have K4 := Lib.hid True.intro; clear K3)
                | (have h := K4; clear h; refine wpList_load_row (o := ⟨some 83, _, _, _, _, _⟩) ?_ 26 (.tmp 6) ?_ w.heap.size ?_ 26 q.cells.toArray (0, 0) _ L.out Try.underlying26 rfl size_rp ?_; rfl; rfl; rfl; have K5 := Lib.hid True.intro; clear K4)
                | (have h := K5; clear h; go_at_call 39; refine (HRK.out _ (HAT.out.below B.out B.out.size) TM.out).mono ?_; rintro e w' ⟨rfl, hb⟩; replace B := Lib.hid (B.out.trans (hb.mono B.out.size)); replace L := Lib.hid (L.out.call hb); replace TM := Lib.hid (TM.out.below hb hb.size); clear hb; have K6 := Lib.hid True.intro; clear K5)
                | (have h := K6; clear h; refine wpList_load_rowG (o := ⟨some 89, _, _, _, _, _⟩) ?_ 26 (.tmp 6) ?_ w.heap.size ?_ 26 q.cells.toArray (0, 0) _ L.out Try.underlying26 rfl size_rp ?_; kernel_rfl; rfl; rfl; have K7 := Lib.hid True.intro; clear K6)
                | (have h := K7; clear h; go_at_call 40; refine (HRN.out _ (HAT.out.below B.out B.out.size) TM.out).mono ?_; rintro e w' ⟨rfl, hb⟩; replace B := Lib.hid (B.out.trans (hb.mono B.out.size)); replace L := Lib.hid (L.out.call hb); replace TM := Lib.hid (TM.out.below hb hb.size); clear hb; have K8 := Lib.hid True.intro; clear K7)
                | (have h := K8; clear h; go_at_call 16; refine (wakes_any _).mono ?_; rintro e w' ⟨rfl, hb⟩; replace B := Lib.hid (B.out.trans (hb.mono B.out.size)); replace L := Lib.hid (L.out.call hb); replace TM := Lib.hid (TM.out.below hb hb.size); clear hb; have K9 := Lib.hid True.intro; clear K8))
            go_ret
            exact ⟨rfl, B.out⟩
          · have htb2 : q.d.tabB T = false := by simpa using htb2
            have HRO := Lib.hid (fun W (htm : TabM (some ⟨gv, 0, none⟩) ts W W.heap.size) => (show Calls Try.prog 36 #[.slice (some ⟨gv, 0, none⟩) N N] W (RowsT T W) by
              have := rows_tab (some ⟨gv, 0, none⟩) N ts W htm hnn hll hml
              rw [← htl, hT] at this
              exact this))
            have hka : q.d.keepsR T = false := PoD.isOfB_not (.inr htb2)
            have hnb : q.d.needsR T = false := PoD.isOfB_not (.inr htb2)
            have HPK := Lib.hid (fun A c (Ao : Option Addr) out co W (hat : (q.withA A c).At W W.heap.size) (hto : TabM Ao out W W.heap.size) (hoT : out.map Sv.l = T) => (show Calls Try.prog 35 #[.agg (q.withA A c).cells.toArray, .slice Ao out.length co] W fun e w' => e = .returned (.bool false) ∧ Below W.heap.size W w' by
              have := ProveKeeps_any (q.withA A c) Ao co out W hat hto
              rw [hoT, show (q.withA A c).d.keepsR T = false from hka] at this
              exact this))
            have HPN := Lib.hid (fun A c (Ao : Option Addr) out co W (hat : (q.withA A c).At W W.heap.size) (hto : TabM Ao out W W.heap.size) (hoT : out.map Sv.l = T) => (show Calls Try.prog 37 #[.agg (q.withA A c).cells.toArray, .slice Ao out.length co] W fun e w' => e = .returned (.bool false) ∧ Below W.heap.size W w' by
              have := ProveNeeds_any (q.withA A c) Ao co out W hat hto
              rw [hoT, show (q.withA A c).d.needsR T = false from hnb] at this
              exact this))
            have HIT := Lib.hid (fun W (htm : TabM (some ⟨gv, 0, none⟩) ts W W.heap.size) => (show Calls Try.prog 38 #[.agg q.cells.toArray, .slice (some ⟨gv, 0, none⟩) N N] W fun e w' => e = .returned (.bool false) ∧ Below W.heap.size W w' by
              have := IsTable_any q (some ⟨gv, 0, none⟩) N ts W htm HOK.out
              rw [← htl, hT, htb2] at this
              exact this))
            clear hka hnb htb2
            clear hnn hll hml hT htl hf0 HTS HNS HTL HML BS LS c40 hcx hfz hd0
            go_upto_region 7 with (fail)
            have LG := Lib.hid (show ∀ V, (∃ cc : Cls (fun W => Below wS.heap.size wS W), V = cc.val) → V.rangeAt w.heap.size 0 q.cells by
              rintro V ⟨cc, rfl⟩
              exact Lies.range (cs := q.cells) (L.out.call cc.h) (fun j v hj => by simpa using hj))
            haveI hne : Nonempty (Cls (fun W => Below wS.heap.size wS W)) := ⟨⟨wS, Below.refl _ _⟩⟩
            refine wp_region_wayw [0, 2, 5, 7] (.way 1 (.way 3 (.way 4 (.way 6 (.way 8 (.way 9 (.take 10 (.take 11 .fin)) .fin) .fin) .fin) .fin) .fin) .fin) (fun W => ∃ cc : Cls (fun W => Below wS.heap.size wS W), W = cc.val) (by kernel_rfl) (by kernel_rfl) (Cls.here (Below.refl _ _).drew) ?_
            simp only [List.filterMap_cons, List.filterMap_nil, List.getElem?_toArray, List.getElem?_cons_zero, List.getElem?_cons_succ]
            repeat (first
              | (refine wpQuiet_load_wholeG (o := ⟨some 54, _, _, _, _, _⟩) ?_ 26 (.tmp 6) ?_ w.heap.size 0 ?_ q.cells _ LG.out Try.underlying26 rfl size_rp ?_; rfl; rfl; rfl; simp only [Act.put, List.setIfInBounds_toArray, List.set_cons_zero, List.set_cons_succ])
              | (refine wpQuiet_load_wholeG (o := ⟨some 59, _, _, _, _, _⟩) ?_ 26 (.tmp 6) ?_ w.heap.size 0 ?_ q.cells _ LG.out Try.underlying26 rfl size_rp ?_; rfl; rfl; rfl; simp only [Act.put, List.setIfInBounds_toArray, List.set_cons_zero, List.set_cons_succ])
              | go_big_quiet_step (rfl) | quiet_step (rfl))
            refine wpQuiet_nil ?_
            clear LG
            have D := Lib.hid (show Below wS.heap.size wS wS.drew from (Below.refl _ _).drew)
            replace B := Lib.hid (B.out.trans (D.out.mono B.out.size))
            replace TM := Lib.hid (TM.out.below D.out D.out.size)
            replace L := Lib.hid (L.out.call D.out)
            generalize wS.drew = d0 at *
            rw [wpWy_way]
            refine ⟨?_, by exact trivial⟩
            simp only [List.getElem?_toArray, List.getElem?_cons_succ, List.getElem?_cons_zero]
            go_wp2_with (go_at_call 18; refine (Copy_any q _ (HAT.out.below B.out B.out.size) HL15.out).mono ?_; rintro e d' ⟨A81, c81, rfl, hat, hb⟩)
            replace D := Lib.hid (D.out.trans (hb.mono D.out.size))
            replace B := Lib.hid (B.out.trans (hb.mono B.out.size))
            replace TM := Lib.hid (TM.out.below hb hb.size)
            replace L := Lib.hid (L.out.call hb)
            have TC81 := Lib.hid hat
            clear hat
            clear hb
            refine Ends.intro ⟨Cls.here D.out, ?_⟩
            rw [wpWy_way]
            refine ⟨?_, by exact trivial⟩
            simp only [List.getElem?_toArray, List.getElem?_cons_succ, List.getElem?_cons_zero]
            go_wp2_with (go_at_call 36; refine (HRO.out _ TM.out).mono ?_; rintro e d' ⟨out82, A82, c82, rfl, hol, hot, hb⟩)
            replace D := Lib.hid (D.out.trans (hb.mono D.out.size))
            replace B := Lib.hid (B.out.trans (hb.mono B.out.size))
            replace TM := Lib.hid (TM.out.below hb hb.size)
            replace L := Lib.hid (L.out.call hb)
            replace TC81 := Lib.hid (TC81.out.below hb hb.size)
            have HO82 := Lib.hid hol
            have HT82 := Lib.hid hot
            clear hol hot
            clear hb
            refine Ends.intro ⟨Cls.here D.out, ?_⟩
            rw [wpWy_way]
            refine ⟨?_, by exact trivial⟩
            simp only [List.getElem?_toArray, List.getElem?_cons_succ, List.getElem?_cons_zero]
            go_wp2_with (go_at_call 35; refine (HPK.out A81 c81 A82 out82 c82 _ TC81.out HT82.out HO82.out).mono ?_; rintro e d' ⟨rfl, hb⟩)
            replace D := Lib.hid (D.out.trans (hb.mono D.out.size))
            replace B := Lib.hid (B.out.trans (hb.mono B.out.size))
            replace TM := Lib.hid (TM.out.below hb hb.size)
            replace L := Lib.hid (L.out.call hb)
            clear hb
            refine Ends.intro ⟨Cls.here D.out, ?_⟩
            rw [wpWy_way]
            refine ⟨?_, by exact trivial⟩
            simp only [List.getElem?_toArray, List.getElem?_cons_succ, List.getElem?_cons_zero]
            go_wp2_with (go_at_call 18; refine (Copy_any q _ (HAT.out.below B.out B.out.size) HL15.out).mono ?_; rintro e d' ⟨A83, c83, rfl, hat, hb⟩)
            replace D := Lib.hid (D.out.trans (hb.mono D.out.size))
            replace B := Lib.hid (B.out.trans (hb.mono B.out.size))
            replace TM := Lib.hid (TM.out.below hb hb.size)
            replace L := Lib.hid (L.out.call hb)
            have TC83 := Lib.hid hat
            clear hat
            clear hb
            refine Ends.intro ⟨Cls.here D.out, ?_⟩
            rw [wpWy_way]
            refine ⟨?_, by exact trivial⟩
            simp only [List.getElem?_toArray, List.getElem?_cons_succ, List.getElem?_cons_zero]
            go_wp2_with (go_at_call 36; refine (HRO.out _ TM.out).mono ?_; rintro e d' ⟨out84, A84, c84, rfl, hol, hot, hb⟩)
            replace D := Lib.hid (D.out.trans (hb.mono D.out.size))
            replace B := Lib.hid (B.out.trans (hb.mono B.out.size))
            replace TM := Lib.hid (TM.out.below hb hb.size)
            replace L := Lib.hid (L.out.call hb)
            replace TC83 := Lib.hid (TC83.out.below hb hb.size)
            have HO84 := Lib.hid hol
            have HT84 := Lib.hid hot
            clear hol hot
            clear hb
            refine Ends.intro ⟨Cls.here D.out, ?_⟩
            rw [wpWy_way]
            refine ⟨?_, by exact trivial⟩
            simp only [List.getElem?_toArray, List.getElem?_cons_succ, List.getElem?_cons_zero]
            go_wp2_with (go_at_call 37; refine (HPN.out A83 c83 A84 out84 c84 _ TC83.out HT84.out HO84.out).mono ?_; rintro e d' ⟨rfl, hb⟩)
            replace D := Lib.hid (D.out.trans (hb.mono D.out.size))
            replace B := Lib.hid (B.out.trans (hb.mono B.out.size))
            replace TM := Lib.hid (TM.out.below hb hb.size)
            replace L := Lib.hid (L.out.call hb)
            clear hb
            refine Ends.intro ⟨Cls.here D.out, ?_⟩
            rw [wpWy_take]
            simp only [List.getElem?_toArray, List.getElem?_cons_succ, List.getElem?_cons_zero]
            first | go_big_quiet_step (rfl) | quiet_step (rfl)
            refine wpQuiet_nil ?_
            rw [wpWy_take]
            simp only [List.getElem?_toArray, List.getElem?_cons_succ, List.getElem?_cons_zero]
            first | go_big_quiet_step (rfl) | quiet_step (rfl)
            refine wpQuiet_nil ?_
            rw [wpWy_fin]
            clear D
            have K0 := Lib.hid True.intro
            go_wp2_with (first
                | (have h := K0; clear h; refine wpList_load_row (o := ⟨some 64, _, _, _, _, _⟩) ?_ 26 (.tmp 6) ?_ w.heap.size ?_ 26 q.cells.toArray (0, 0) _ L.out Try.underlying26 rfl size_rp ?_; rfl; rfl; rfl; have K1 := Lib.hid True.intro; clear K0)
                | (have h := K1; clear h; go_at_call 20; refine (HFA.out _ (HAT.out.below B.out B.out.size)).mono ?_; rintro e w' ⟨rfl, hb⟩; replace B := Lib.hid (B.out.trans (hb.mono B.out.size)); replace L := Lib.hid (L.out.call hb); replace TM := Lib.hid (TM.out.below hb hb.size); clear hb; have K2 := Lib.hid True.intro; clear K1)
                | (have h := K2; clear h; refine wpList_load_rowG (o := ⟨some 68, _, _, _, _, _⟩) ?_ 26 (.tmp 6) ?_ w.heap.size ?_ 26 q.cells.toArray (0, 0) _ L.out Try.underlying26 rfl size_rp ?_; kernel_rfl; rfl; rfl; have K3 := Lib.hid True.intro; clear K2)
                | (have h := K3; clear h; go_at_call 38; refine (HIT.out _ TM.out).mono ?_; rintro e w' ⟨rfl, hb⟩; replace B := Lib.hid (B.out.trans (hb.mono B.out.size)); replace L := Lib.hid (L.out.call hb); replace TM := Lib.hid (TM.out.below hb hb.size); clear hb; have K4 := Lib.hid True.intro; clear K3)
                | (have h := K4; clear h; go_at_call 16; refine (wakes_any _).mono ?_; rintro e w' ⟨rfl, hb⟩; replace B := Lib.hid (B.out.trans (hb.mono B.out.size)); replace L := Lib.hid (L.out.call hb); replace TM := Lib.hid (TM.out.below hb hb.size); clear hb; have K5 := Lib.hid True.intro; clear K4))
            go_ret
            exact ⟨rfl, B.out⟩
      · obtain ⟨ff, hff⟩ : ∃ ff, q.d.fault = ff := ⟨_, rfl⟩
        have HFA := Lib.hid (fun W (hq : q.At W W.heap.size) => (show Calls Try.prog 20 #[.agg q.cells.toArray] W fun e w' => e = .returned (.int .i64 ff) ∧ Below W.heap.size W w' by
          have := lawFault_any q W hq
          rw [hff] at this
          exact this))
        have hne : ((ff : Int) == 0) = false := by rw [← hff]; simpa using hf0
        have hne2 : ((ff : Int) != 0) = true := by rw [← hff]; simpa using hf0
        cases own
        · obtain ⟨tA, htA⟩ : ∃ tA, tA = t.A := ⟨_, rfl⟩
          obtain ⟨tc, htc⟩ : ∃ tc, tc = t.c := ⟨_, rfl⟩
          obtain ⟨ts, hts⟩ : ∃ ts, ts = t.l := ⟨_, rfl⟩
          rw [← htA, ← htc, ← hts]
          rw [← hts] at HTM HTB HNN HLM HLL
          rw [← htA] at HTM HTB
          rw [← htc] at HTB
          clear htA htc hts
          obtain ⟨tl, htl⟩ : ∃ tl, tl = ts.length := ⟨_, rfl⟩
          obtain ⟨T, hT⟩ : ∃ T, ts.map Sv.l = T := ⟨_, rfl⟩
          rw [← htl]
          rw [← htl] at HTB
          have hnn := HNN.out
          have hll : ts.length ≤ 100 := by have := HLL.out; omega
          have hml : ∀ s, s ∈ ts → s.l.length ≤ 1000 := fun s hs => by have := HLM.out s hs; omega
          have HRO := Lib.hid (fun W (htm : TabM tA ts W W.heap.size) => (show Calls Try.prog 36 #[.slice tA tl tc] W (RowsT T W) by
            have := rows_tab tA tc ts W htm hnn hll hml
            rw [← htl, hT] at this
            exact this))
          have hka : q.d.keepsR T = false := PoD.isOfB_not (.inl hf0)
          have hnb : q.d.needsR T = false := PoD.isOfB_not (.inl hf0)
          have HPK := Lib.hid (fun A c (Ao : Option Addr) out co W (hat : (q.withA A c).At W W.heap.size) (hto : TabM Ao out W W.heap.size) (hoT : out.map Sv.l = T) => (show Calls Try.prog 35 #[.agg (q.withA A c).cells.toArray, .slice Ao out.length co] W fun e w' => e = .returned (.bool false) ∧ Below W.heap.size W w' by
            have := ProveKeeps_any (q.withA A c) Ao co out W hat hto
            rw [hoT, show (q.withA A c).d.keepsR T = false from hka] at this
            exact this))
          have HPN := Lib.hid (fun A c (Ao : Option Addr) out co W (hat : (q.withA A c).At W W.heap.size) (hto : TabM Ao out W W.heap.size) (hoT : out.map Sv.l = T) => (show Calls Try.prog 37 #[.agg (q.withA A c).cells.toArray, .slice Ao out.length co] W fun e w' => e = .returned (.bool false) ∧ Below W.heap.size W w' by
            have := ProveNeeds_any (q.withA A c) Ao co out W hat hto
            rw [hoT, show (q.withA A c).d.needsR T = false from hnb] at this
            exact this))
          clear hka hnb
          clear hnn hll hml hT htl HNN HLM HLL
          go_enter Try.func7, Try.ntmps7
          go_upto_region 1 with (fail)
          change Code.wp _ _ _ _ (w.alloc (.cells q.cells.toArray 26))
          generalize w.alloc (.cells q.cells.toArray 26) = w1 at *
          go_upto_region 7 with (first
                | (have h := K16; clear h; refine wpList_load_row (o := ⟨some 16, _, _, _, _, _⟩) ?_ 26 (.tmp 6) ?_ w.heap.size ?_ 26 q.cells.toArray (0, 0) _ L.out Try.underlying26 rfl size_rp ?_; rfl; rfl; rfl; have K17 := Lib.hid True.intro; clear K16)
                | (have h := K17; clear h; go_at_call 15; refine (HTH.out _).mono ?_; rintro e w2 ⟨rfl, hb⟩; replace B := Lib.hid (B.out.trans (hb.mono B.out.size)); replace L := Lib.hid (L.out.call hb); clear hb; have K21 := Lib.hid True.intro; clear K17)
                | (have h := K21; clear h; go_at_call 34; refine (HTB.out _ B.out).mono ?_; rintro e w3 ⟨rfl, hb⟩; replace B := Lib.hid (B.out.trans (hb.mono B.out.size)); replace L := Lib.hid (L.out.call hb); clear hb; have K27 := Lib.hid True.intro; clear K21))
          have TM := Lib.hid (HTM.out.below B.out B.out.size)
          clear HTM HTB HTH
          go_upto_region 7 with (fail)
          have LG := Lib.hid (show ∀ V, (∃ cc : Cls (fun W => Below w3.heap.size w3 W), V = cc.val) → V.rangeAt w.heap.size 0 q.cells by
            rintro V ⟨cc, rfl⟩
            exact Lies.range (cs := q.cells) (L.out.call cc.h) (fun j v hj => by simpa using hj))
          haveI hne : Nonempty (Cls (fun W => Below w3.heap.size w3 W)) := ⟨⟨w3, Below.refl _ _⟩⟩
          refine wp_region_wayw [0, 2, 5, 7] (.way 1 (.way 3 (.way 4 (.way 6 (.way 8 (.way 9 (.take 10 (.take 11 .fin)) .fin) .fin) .fin) .fin) .fin) .fin) (fun W => ∃ cc : Cls (fun W => Below w3.heap.size w3 W), W = cc.val) (by kernel_rfl) (by kernel_rfl) (Cls.here (Below.refl _ _).drew) ?_
          simp only [List.filterMap_cons, List.filterMap_nil, List.getElem?_toArray, List.getElem?_cons_zero, List.getElem?_cons_succ]
          repeat (first
            | (refine wpQuiet_load_wholeG (o := ⟨some 54, _, _, _, _, _⟩) ?_ 26 (.tmp 6) ?_ w.heap.size 0 ?_ q.cells _ LG.out Try.underlying26 rfl size_rp ?_; rfl; rfl; rfl; simp only [Act.put, List.setIfInBounds_toArray, List.set_cons_zero, List.set_cons_succ])
            | (refine wpQuiet_load_wholeG (o := ⟨some 59, _, _, _, _, _⟩) ?_ 26 (.tmp 6) ?_ w.heap.size 0 ?_ q.cells _ LG.out Try.underlying26 rfl size_rp ?_; rfl; rfl; rfl; simp only [Act.put, List.setIfInBounds_toArray, List.set_cons_zero, List.set_cons_succ])
            | go_big_quiet_step (rfl) | quiet_step (rfl))
          refine wpQuiet_nil ?_
          clear LG
          have D := Lib.hid (show Below w3.heap.size w3 w3.drew from (Below.refl _ _).drew)
          replace B := Lib.hid (B.out.trans (D.out.mono B.out.size))
          replace TM := Lib.hid (TM.out.below D.out D.out.size)
          replace L := Lib.hid (L.out.call D.out)
          generalize w3.drew = d0 at *
          rw [wpWy_way]
          refine ⟨?_, by exact trivial⟩
          simp only [List.getElem?_toArray, List.getElem?_cons_succ, List.getElem?_cons_zero]
          go_wp2_with (go_at_call 18; refine (Copy_any q _ (HAT.out.below B.out B.out.size) HL15.out).mono ?_; rintro e d' ⟨A81, c81, rfl, hat, hb⟩)
          replace D := Lib.hid (D.out.trans (hb.mono D.out.size))
          replace B := Lib.hid (B.out.trans (hb.mono B.out.size))
          replace TM := Lib.hid (TM.out.below hb hb.size)
          replace L := Lib.hid (L.out.call hb)
          have TC81 := Lib.hid hat
          clear hat
          clear hb
          refine Ends.intro ⟨Cls.here D.out, ?_⟩
          rw [wpWy_way]
          refine ⟨?_, by exact trivial⟩
          simp only [List.getElem?_toArray, List.getElem?_cons_succ, List.getElem?_cons_zero]
          go_wp2_with (go_at_call 36; refine (HRO.out _ TM.out).mono ?_; rintro e d' ⟨out82, A82, c82, rfl, hol, hot, hb⟩)
          replace D := Lib.hid (D.out.trans (hb.mono D.out.size))
          replace B := Lib.hid (B.out.trans (hb.mono B.out.size))
          replace TM := Lib.hid (TM.out.below hb hb.size)
          replace L := Lib.hid (L.out.call hb)
          replace TC81 := Lib.hid (TC81.out.below hb hb.size)
          have HO82 := Lib.hid hol
          have HT82 := Lib.hid hot
          clear hol hot
          clear hb
          refine Ends.intro ⟨Cls.here D.out, ?_⟩
          rw [wpWy_way]
          refine ⟨?_, by exact trivial⟩
          simp only [List.getElem?_toArray, List.getElem?_cons_succ, List.getElem?_cons_zero]
          go_wp2_with (go_at_call 35; refine (HPK.out A81 c81 A82 out82 c82 _ TC81.out HT82.out HO82.out).mono ?_; rintro e d' ⟨rfl, hb⟩)
          replace D := Lib.hid (D.out.trans (hb.mono D.out.size))
          replace B := Lib.hid (B.out.trans (hb.mono B.out.size))
          replace TM := Lib.hid (TM.out.below hb hb.size)
          replace L := Lib.hid (L.out.call hb)
          clear hb
          refine Ends.intro ⟨Cls.here D.out, ?_⟩
          rw [wpWy_way]
          refine ⟨?_, by exact trivial⟩
          simp only [List.getElem?_toArray, List.getElem?_cons_succ, List.getElem?_cons_zero]
          go_wp2_with (go_at_call 18; refine (Copy_any q _ (HAT.out.below B.out B.out.size) HL15.out).mono ?_; rintro e d' ⟨A83, c83, rfl, hat, hb⟩)
          replace D := Lib.hid (D.out.trans (hb.mono D.out.size))
          replace B := Lib.hid (B.out.trans (hb.mono B.out.size))
          replace TM := Lib.hid (TM.out.below hb hb.size)
          replace L := Lib.hid (L.out.call hb)
          have TC83 := Lib.hid hat
          clear hat
          clear hb
          refine Ends.intro ⟨Cls.here D.out, ?_⟩
          rw [wpWy_way]
          refine ⟨?_, by exact trivial⟩
          simp only [List.getElem?_toArray, List.getElem?_cons_succ, List.getElem?_cons_zero]
          go_wp2_with (go_at_call 36; refine (HRO.out _ TM.out).mono ?_; rintro e d' ⟨out84, A84, c84, rfl, hol, hot, hb⟩)
          replace D := Lib.hid (D.out.trans (hb.mono D.out.size))
          replace B := Lib.hid (B.out.trans (hb.mono B.out.size))
          replace TM := Lib.hid (TM.out.below hb hb.size)
          replace L := Lib.hid (L.out.call hb)
          replace TC83 := Lib.hid (TC83.out.below hb hb.size)
          have HO84 := Lib.hid hol
          have HT84 := Lib.hid hot
          clear hol hot
          clear hb
          refine Ends.intro ⟨Cls.here D.out, ?_⟩
          rw [wpWy_way]
          refine ⟨?_, by exact trivial⟩
          simp only [List.getElem?_toArray, List.getElem?_cons_succ, List.getElem?_cons_zero]
          go_wp2_with (go_at_call 37; refine (HPN.out A83 c83 A84 out84 c84 _ TC83.out HT84.out HO84.out).mono ?_; rintro e d' ⟨rfl, hb⟩)
          replace D := Lib.hid (D.out.trans (hb.mono D.out.size))
          replace B := Lib.hid (B.out.trans (hb.mono B.out.size))
          replace TM := Lib.hid (TM.out.below hb hb.size)
          replace L := Lib.hid (L.out.call hb)
          clear hb
          refine Ends.intro ⟨Cls.here D.out, ?_⟩
          rw [wpWy_take]
          simp only [List.getElem?_toArray, List.getElem?_cons_succ, List.getElem?_cons_zero]
          first | go_big_quiet_step (rfl) | quiet_step (rfl)
          refine wpQuiet_nil ?_
          rw [wpWy_take]
          simp only [List.getElem?_toArray, List.getElem?_cons_succ, List.getElem?_cons_zero]
          first | go_big_quiet_step (rfl) | quiet_step (rfl)
          refine wpQuiet_nil ?_
          rw [wpWy_fin]
          clear D
          have K0 := Lib.hid True.intro
          go_wp2_with (first
              | (have h := K0; clear h; refine wpList_load_row (o := ⟨some 64, _, _, _, _, _⟩) ?_ 26 (.tmp 6) ?_ w.heap.size ?_ 26 q.cells.toArray (0, 0) _ L.out Try.underlying26 rfl size_rp ?_; rfl; rfl; rfl; have K1 := Lib.hid True.intro; clear K0)
              | (have h := K1; clear h; go_at_call 20; refine (HFA.out _ (HAT.out.below B.out B.out.size)).mono ?_; rintro e w' ⟨rfl, hb⟩; replace B := Lib.hid (B.out.trans (hb.mono B.out.size)); replace L := Lib.hid (L.out.call hb); replace TM := Lib.hid (TM.out.below hb hb.size); clear hb; have K2 := Lib.hid True.intro; clear K1)
              | (have h := K2; clear h; go_at_call 16; refine (wakes_any _).mono ?_; rintro e w' ⟨rfl, hb⟩; replace B := Lib.hid (B.out.trans (hb.mono B.out.size)); replace L := Lib.hid (L.out.call hb); replace TM := Lib.hid (TM.out.below hb hb.size); clear hb; have K3 := Lib.hid True.intro; clear K2))
          go_ret
          exact ⟨rfl, B.out⟩
        · obtain ⟨tA, htA⟩ : ∃ tA, tA = t.A := ⟨_, rfl⟩
          obtain ⟨tc, htc⟩ : ∃ tc, tc = t.c := ⟨_, rfl⟩
          obtain ⟨ts, hts⟩ : ∃ ts, ts = t.l := ⟨_, rfl⟩
          rw [← htA, ← htc, ← hts]
          rw [← hts] at HTM HTB HNN HLM HLL
          rw [← htA] at HTM HTB
          rw [← htc] at HTB
          clear htA htc hts
          obtain ⟨tl, htl⟩ : ∃ tl, tl = ts.length := ⟨_, rfl⟩
          obtain ⟨T, hT⟩ : ∃ T, ts.map Sv.l = T := ⟨_, rfl⟩
          rw [← htl]
          rw [← htl] at HTB
          have hnn := HNN.out
          have hll : ts.length ≤ 100 := by have := HLL.out; omega
          have hml : ∀ s, s ∈ ts → s.l.length ≤ 1000 := fun s hs => by have := HLM.out s hs; omega
          have HRO := Lib.hid (fun W (htm : TabM tA ts W W.heap.size) => (show Calls Try.prog 36 #[.slice tA tl tc] W (RowsT T W) by
            have := rows_tab tA tc ts W htm hnn hll hml
            rw [← htl, hT] at this
            exact this))
          have hka : q.d.keepsR T = false := PoD.isOfB_not (.inl hf0)
          have hnb : q.d.needsR T = false := PoD.isOfB_not (.inl hf0)
          have HPK := Lib.hid (fun A c (Ao : Option Addr) out co W (hat : (q.withA A c).At W W.heap.size) (hto : TabM Ao out W W.heap.size) (hoT : out.map Sv.l = T) => (show Calls Try.prog 35 #[.agg (q.withA A c).cells.toArray, .slice Ao out.length co] W fun e w' => e = .returned (.bool false) ∧ Below W.heap.size W w' by
            have := ProveKeeps_any (q.withA A c) Ao co out W hat hto
            rw [hoT, show (q.withA A c).d.keepsR T = false from hka] at this
            exact this))
          have HPN := Lib.hid (fun A c (Ao : Option Addr) out co W (hat : (q.withA A c).At W W.heap.size) (hto : TabM Ao out W W.heap.size) (hoT : out.map Sv.l = T) => (show Calls Try.prog 37 #[.agg (q.withA A c).cells.toArray, .slice Ao out.length co] W fun e w' => e = .returned (.bool false) ∧ Below W.heap.size W w' by
            have := ProveNeeds_any (q.withA A c) Ao co out W hat hto
            rw [hoT, show (q.withA A c).d.needsR T = false from hnb] at this
            exact this))
          clear hka hnb
          clear hnn hll hml hT htl HNN HLM HLL
          go_enter Try.func7, Try.ntmps7
          go_upto_region 1 with (fail)
          change Code.wp _ _ _ _ (w.alloc (.cells q.cells.toArray 26))
          generalize w.alloc (.cells q.cells.toArray 26) = w1 at *
          go_upto_region 7 with (first
                | (have h := K16; clear h; refine wpList_load_row (o := ⟨some 16, _, _, _, _, _⟩) ?_ 26 (.tmp 6) ?_ w.heap.size ?_ 26 q.cells.toArray (0, 0) _ L.out Try.underlying26 rfl size_rp ?_; rfl; rfl; rfl; have K17 := Lib.hid True.intro; clear K16)
                | (have h := K17; clear h; go_at_call 15; refine (HTH.out _).mono ?_; rintro e w2 ⟨rfl, hb⟩; replace B := Lib.hid (B.out.trans (hb.mono B.out.size)); replace L := Lib.hid (L.out.call hb); clear hb; have K21 := Lib.hid True.intro; clear K17)
                | (have h := K21; clear h; go_at_call 34; refine (HTB.out _ B.out).mono ?_; rintro e w3 ⟨rfl, hb⟩; replace B := Lib.hid (B.out.trans (hb.mono B.out.size)); replace L := Lib.hid (L.out.call hb); clear hb; have K27 := Lib.hid True.intro; clear K21)
                | (have h := K27; clear h; refine wpList_load_rowG (o := ⟨some 27, _, _, _, _, _⟩) ?_ 26 (.tmp 6) ?_ w.heap.size ?_ 26 q.cells.toArray (0, 0) _ L.out Try.underlying26 rfl size_rp ?_; kernel_rfl; rfl; rfl; have K28 := Lib.hid True.intro; clear K27)
                | (have h := K28; clear h; go_at_call 20; refine (HFA.out _ (HAT.out.below B.out B.out.size)).mono ?_; rintro e w4 ⟨rfl, hb⟩; replace B := Lib.hid (B.out.trans (hb.mono B.out.size)); replace L := Lib.hid (L.out.call hb); clear hb; have KR := Lib.hid True.intro; clear K28))
          have TM := Lib.hid (HTM.out.below B.out B.out.size)
          clear HTM HTB HTH
          go_upto_region 7 with (fail)
          have LG := Lib.hid (show ∀ V, (∃ cc : Cls (fun W => Below w4.heap.size w4 W), V = cc.val) → V.rangeAt w.heap.size 0 q.cells by
            rintro V ⟨cc, rfl⟩
            exact Lies.range (cs := q.cells) (L.out.call cc.h) (fun j v hj => by simpa using hj))
          haveI hne : Nonempty (Cls (fun W => Below w4.heap.size w4 W)) := ⟨⟨w4, Below.refl _ _⟩⟩
          refine wp_region_wayw [0, 2, 5, 7] (.way 1 (.way 3 (.way 4 (.way 6 (.way 8 (.way 9 (.take 10 (.take 11 .fin)) .fin) .fin) .fin) .fin) .fin) .fin) (fun W => ∃ cc : Cls (fun W => Below w4.heap.size w4 W), W = cc.val) (by kernel_rfl) (by kernel_rfl) (Cls.here (Below.refl _ _).drew) ?_
          simp only [List.filterMap_cons, List.filterMap_nil, List.getElem?_toArray, List.getElem?_cons_zero, List.getElem?_cons_succ]
          repeat (first
            | (refine wpQuiet_load_wholeG (o := ⟨some 54, _, _, _, _, _⟩) ?_ 26 (.tmp 6) ?_ w.heap.size 0 ?_ q.cells _ LG.out Try.underlying26 rfl size_rp ?_; rfl; rfl; rfl; simp only [Act.put, List.setIfInBounds_toArray, List.set_cons_zero, List.set_cons_succ])
            | (refine wpQuiet_load_wholeG (o := ⟨some 59, _, _, _, _, _⟩) ?_ 26 (.tmp 6) ?_ w.heap.size 0 ?_ q.cells _ LG.out Try.underlying26 rfl size_rp ?_; rfl; rfl; rfl; simp only [Act.put, List.setIfInBounds_toArray, List.set_cons_zero, List.set_cons_succ])
            | go_big_quiet_step (rfl) | quiet_step (rfl))
          refine wpQuiet_nil ?_
          clear LG
          have D := Lib.hid (show Below w4.heap.size w4 w4.drew from (Below.refl _ _).drew)
          replace B := Lib.hid (B.out.trans (D.out.mono B.out.size))
          replace TM := Lib.hid (TM.out.below D.out D.out.size)
          replace L := Lib.hid (L.out.call D.out)
          generalize w4.drew = d0 at *
          rw [wpWy_way]
          refine ⟨?_, by exact trivial⟩
          simp only [List.getElem?_toArray, List.getElem?_cons_succ, List.getElem?_cons_zero]
          go_wp2_with (go_at_call 18; refine (Copy_any q _ (HAT.out.below B.out B.out.size) HL15.out).mono ?_; rintro e d' ⟨A81, c81, rfl, hat, hb⟩)
          replace D := Lib.hid (D.out.trans (hb.mono D.out.size))
          replace B := Lib.hid (B.out.trans (hb.mono B.out.size))
          replace TM := Lib.hid (TM.out.below hb hb.size)
          replace L := Lib.hid (L.out.call hb)
          have TC81 := Lib.hid hat
          clear hat
          clear hb
          refine Ends.intro ⟨Cls.here D.out, ?_⟩
          rw [wpWy_way]
          refine ⟨?_, by exact trivial⟩
          simp only [List.getElem?_toArray, List.getElem?_cons_succ, List.getElem?_cons_zero]
          go_wp2_with (go_at_call 36; refine (HRO.out _ TM.out).mono ?_; rintro e d' ⟨out82, A82, c82, rfl, hol, hot, hb⟩)
          replace D := Lib.hid (D.out.trans (hb.mono D.out.size))
          replace B := Lib.hid (B.out.trans (hb.mono B.out.size))
          replace TM := Lib.hid (TM.out.below hb hb.size)
          replace L := Lib.hid (L.out.call hb)
          replace TC81 := Lib.hid (TC81.out.below hb hb.size)
          have HO82 := Lib.hid hol
          have HT82 := Lib.hid hot
          clear hol hot
          clear hb
          refine Ends.intro ⟨Cls.here D.out, ?_⟩
          rw [wpWy_way]
          refine ⟨?_, by exact trivial⟩
          simp only [List.getElem?_toArray, List.getElem?_cons_succ, List.getElem?_cons_zero]
          go_wp2_with (go_at_call 35; refine (HPK.out A81 c81 A82 out82 c82 _ TC81.out HT82.out HO82.out).mono ?_; rintro e d' ⟨rfl, hb⟩)
          replace D := Lib.hid (D.out.trans (hb.mono D.out.size))
          replace B := Lib.hid (B.out.trans (hb.mono B.out.size))
          replace TM := Lib.hid (TM.out.below hb hb.size)
          replace L := Lib.hid (L.out.call hb)
          clear hb
          refine Ends.intro ⟨Cls.here D.out, ?_⟩
          rw [wpWy_way]
          refine ⟨?_, by exact trivial⟩
          simp only [List.getElem?_toArray, List.getElem?_cons_succ, List.getElem?_cons_zero]
          go_wp2_with (go_at_call 18; refine (Copy_any q _ (HAT.out.below B.out B.out.size) HL15.out).mono ?_; rintro e d' ⟨A83, c83, rfl, hat, hb⟩)
          replace D := Lib.hid (D.out.trans (hb.mono D.out.size))
          replace B := Lib.hid (B.out.trans (hb.mono B.out.size))
          replace TM := Lib.hid (TM.out.below hb hb.size)
          replace L := Lib.hid (L.out.call hb)
          have TC83 := Lib.hid hat
          clear hat
          clear hb
          refine Ends.intro ⟨Cls.here D.out, ?_⟩
          rw [wpWy_way]
          refine ⟨?_, by exact trivial⟩
          simp only [List.getElem?_toArray, List.getElem?_cons_succ, List.getElem?_cons_zero]
          go_wp2_with (go_at_call 36; refine (HRO.out _ TM.out).mono ?_; rintro e d' ⟨out84, A84, c84, rfl, hol, hot, hb⟩)
          replace D := Lib.hid (D.out.trans (hb.mono D.out.size))
          replace B := Lib.hid (B.out.trans (hb.mono B.out.size))
          replace TM := Lib.hid (TM.out.below hb hb.size)
          replace L := Lib.hid (L.out.call hb)
          replace TC83 := Lib.hid (TC83.out.below hb hb.size)
          have HO84 := Lib.hid hol
          have HT84 := Lib.hid hot
          clear hol hot
          clear hb
          refine Ends.intro ⟨Cls.here D.out, ?_⟩
          rw [wpWy_way]
          refine ⟨?_, by exact trivial⟩
          simp only [List.getElem?_toArray, List.getElem?_cons_succ, List.getElem?_cons_zero]
          go_wp2_with (go_at_call 37; refine (HPN.out A83 c83 A84 out84 c84 _ TC83.out HT84.out HO84.out).mono ?_; rintro e d' ⟨rfl, hb⟩)
          replace D := Lib.hid (D.out.trans (hb.mono D.out.size))
          replace B := Lib.hid (B.out.trans (hb.mono B.out.size))
          replace TM := Lib.hid (TM.out.below hb hb.size)
          replace L := Lib.hid (L.out.call hb)
          clear hb
          refine Ends.intro ⟨Cls.here D.out, ?_⟩
          rw [wpWy_take]
          simp only [List.getElem?_toArray, List.getElem?_cons_succ, List.getElem?_cons_zero]
          first | go_big_quiet_step (rfl) | quiet_step (rfl)
          refine wpQuiet_nil ?_
          rw [wpWy_take]
          simp only [List.getElem?_toArray, List.getElem?_cons_succ, List.getElem?_cons_zero]
          first | go_big_quiet_step (rfl) | quiet_step (rfl)
          refine wpQuiet_nil ?_
          rw [wpWy_fin]
          clear D
          have K0 := Lib.hid True.intro
          go_wp2_with (first
              | (have h := K0; clear h; refine wpList_load_row (o := ⟨some 64, _, _, _, _, _⟩) ?_ 26 (.tmp 6) ?_ w.heap.size ?_ 26 q.cells.toArray (0, 0) _ L.out Try.underlying26 rfl size_rp ?_; rfl; rfl; rfl; have K1 := Lib.hid True.intro; clear K0)
              | (have h := K1; clear h; go_at_call 20; refine (HFA.out _ (HAT.out.below B.out B.out.size)).mono ?_; rintro e w' ⟨rfl, hb⟩; replace B := Lib.hid (B.out.trans (hb.mono B.out.size)); replace L := Lib.hid (L.out.call hb); replace TM := Lib.hid (TM.out.below hb hb.size); clear hb; have K2 := Lib.hid True.intro; clear K1)
              | (have h := K2; clear h; go_at_call 16; refine (wakes_any _).mono ?_; rintro e w' ⟨rfl, hb⟩; replace B := Lib.hid (B.out.trans (hb.mono B.out.size)); replace L := Lib.hid (L.out.call hb); replace TM := Lib.hid (TM.out.below hb hb.size); clear hb; have K3 := Lib.hid True.intro; clear K2))
          go_ret
          exact ⟨rfl, B.out⟩
    · have htb2 : tabularB t.l = false := by simpa using htb
      rw [htb2] at htab0
      have HTB := Lib.hid htab0
      clear htab0 htb ht
      go_enter Try.func7, Try.ntmps7
      go_upto_region 1 with (fail)
      change Code.wp _ _ _ _ (w.alloc (.cells q.cells.toArray 26))
      generalize w.alloc (.cells q.cells.toArray 26) = w1 at *
      go_wp2_with (first
          | (have h := K16; clear h; refine wpList_load_row (o := ⟨some 16, _, _, _, _, _⟩) ?_ 26 (.tmp 6) ?_ w.heap.size ?_ 26 q.cells.toArray (0, 0) _ L.out Try.underlying26 rfl size_rp ?_; rfl; rfl; rfl; have K17 := Lib.hid True.intro; clear K16)
          | (have h := K17; clear h; go_at_call 15; refine (HTH.out _).mono ?_; rintro e w2 ⟨rfl, hb⟩; replace B := Lib.hid (B.out.trans (hb.mono B.out.size)); replace L := Lib.hid (L.out.call hb); clear hb; have K21 := Lib.hid True.intro; clear K17)
          | (have h := K21; clear h; go_at_call 34; refine (HTB.out _ B.out).mono ?_; rintro e w3 ⟨rfl, hb⟩; replace B := Lib.hid (B.out.trans (hb.mono B.out.size)); replace L := Lib.hid (L.out.call hb); clear hb; have KW := Lib.hid True.intro; clear K21)
          | (have h := KW; clear h; go_at_call 16; refine (wakes_any _).mono ?_; rintro e w4 ⟨rfl, hb⟩; replace B := Lib.hid (B.out.trans (hb.mono B.out.size)); replace L := Lib.hid (L.out.call hb); clear hb; have KWW := Lib.hid True.intro; clear KW))
      go_ret
      exact ⟨rfl, B.out⟩
  · rw [decide_eq_false hthin] at HTH
    clear hthin HO ht
    go_enter Try.func7, Try.ntmps7
    go_upto_region 1 with (fail)
    change Code.wp _ _ _ _ (w.alloc (.cells q.cells.toArray 26))
    generalize w.alloc (.cells q.cells.toArray 26) = w1 at *
    go_wp2_with (first
        | (have h := K16; clear h; refine wpList_load_row (o := ⟨some 16, _, _, _, _, _⟩) ?_ 26 (.tmp 6) ?_ w.heap.size ?_ 26 q.cells.toArray (0, 0) _ L.out Try.underlying26 rfl size_rp ?_; rfl; rfl; rfl; have K17 := Lib.hid True.intro; clear K16)
        | (have h := K17; clear h; go_at_call 15; refine (HTH.out _).mono ?_; rintro e w2 ⟨rfl, hb⟩; replace B := Lib.hid (B.out.trans (hb.mono B.out.size)); replace L := Lib.hid (L.out.call hb); clear hb; have KW := Lib.hid True.intro; clear K17)
        | (have h := KW; clear h; go_at_call 16; refine (wakes_any _).mono ?_; rintro e w3 ⟨rfl, hb⟩; replace B := Lib.hid (B.out.trans (hb.mono B.out.size)); replace L := Lib.hid (L.out.call hb); clear hb; have KWW := Lib.hid True.intro; clear KW))
    go_ret
    exact ⟨rfl, B.out⟩
end Go.Proofs.Yteognijlgalahaa
