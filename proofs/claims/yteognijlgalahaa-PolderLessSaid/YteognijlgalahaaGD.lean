/- The texts LE LF LG, joined. -/
import Derived.Test.YteognijlgalahaaGC
/- PolderProves: the walk. -/
namespace Go.Proofs.Yteognijlgalahaa
open Go.RowKit Go.Lib
attribute [local go_sem] Oper.semAt_some

/-- What rows hands back, as something that reads as a table. -/
def RowsT (T : List (List Int)) (w : World) (e : Ending) (w' : World) : Prop := ∃ (out : List (Sv Int)) (A : Option Addr) (c : Nat), e = .returned (.slice A out.length c) ∧ out.map Sv.l = T ∧ TabM A out w' w'.heap.size ∧ Below w.heap.size w w'
theorem rows_tab (A : Option Addr) (c : Nat) (ts : List (Sv Int)) (w : World) (hA : TabM A ts w w.heap.size) (hnn : ∀ s, s ∈ ts → s.A = none → s.l.length = 0 ∧ s.c = 0) (hl : ts.length ≤ 100) (hm : ∀ s, s ∈ ts → s.l.length ≤ 1000) :
    Calls Try.prog 36 #[.slice A ts.length c] w (RowsT (ts.map Sv.l) w) := (rows_any A c ts w hA hnn hl hm).mono fun e w' ⟨out, A', c', he, ho, hm', hb, _⟩ => by
  refine ⟨out, A', c', he, ho, hm'.tab ?_ (fun s hs => ?_), hb⟩
  · have := congrArg List.length ho
    simp only [List.length_map] at this
    omega
  · have h1 : s.l ∈ ts.map Sv.l := by rw [← ho]; exact List.mem_map_of_mem hs
    obtain ⟨s2, hs2, e2⟩ := List.mem_map.1 h1
    rw [← e2]
    have := hm s2 hs2
    omega
theorem tab_lens {ts : List (Sv Int)} (h : tabularB ts = true) : ts.length ≤ 20 ∧ ∀ s, s ∈ ts → s.l.length ≤ 70 := by
  unfold tabularB at h
  rw [Bool.and_eq_true, decide_eq_true_eq, List.all_eq_true] at h
  exact ⟨h.1, fun s hs => of_decide_eq_true (h.2 s hs)⟩
theorem PoD.isOfB_not {p : PoD} {F : (Nat → Int → Int) → Nat → Dy → Int → Bool} {T : List (List Int)} (h : p.fault ≠ 0 ∨ p.tabB T = false) : p.isOfB F T = false := by
  unfold PoD.isOfB
  rcases h with h | h
  · rw [decide_eq_false h, Bool.false_and, Bool.false_and]
  · rw [h, Bool.and_false, Bool.false_and]
theorem PoD.isOfB_yes {p : PoD} {F : (Nat → Int → Int) → Nat → Dy → Int → Bool} {T : List (List Int)} (h : p.fault = 0) (h2 : p.tabB T = true) : p.isOfB F T = (List.range p.ds.length).all (p.dayB F T) := by
  unfold PoD.isOfB
  rw [decide_eq_true h, h2, Bool.true_and, Bool.true_and]
theorem tmod4 (x : Int) : -3 ≤ x.tmod 4 ∧ x.tmod 4 ≤ 3 := by
  have h1 := Int.tmod_lt_of_pos x (show (0 : Int) < 4 by omega)
  have h2 := Int.lt_tmod_of_pos x (show (0 : Int) < 4 by omega)
  omega
set_option maxRecDepth 100000 in
set_option maxHeartbeats 16000000 in
theorem PolderProves_walk (q : PoM) (t : Sv (Sv Int)) (own : Bool) (day at_ : Nat) (by_ : Int) (w : World) (h : OpenPo q w) (ht : OpenT t w) (hd : day < 256) (ha : at_ < 256) (hby0 : -128 ≤ by_) (hby1 : by_ ≤ 127) : Calls Try.prog 7 #[.agg q.cells.toArray, .slice t.A t.l.length t.c, .bool own, .int .u8 day, .int .u8 at_, .int .i8 by_] w fun e w' => e = .returned (.bool true) ∧ Below w.heap.size w w' := by
  have l0 : Lies (w.alloc (.cells q.cells.toArray 26)) w.heap.size 26 q.cells.toArray := Lies.fresh _ _ _
  have b0 : Below w.heap.size w (w.alloc (.cells q.cells.toArray 26)) := (by repeat (first | (with_reducible assumption) | (with_reducible exact Below.refl _ _) | (with_reducible refine Below.drew ?_) | (with_reducible refine below_drewN ?_ _) | ((with_reducible refine Below.setCell ?_ ?_ _); rotate_left; focus (first | (simp; done) | (simp; omega) | omega)) | ((with_reducible refine Below.alloc ?_ ?_ _); rotate_left; focus (first | (simp; done) | (simp; omega) | omega))))
  have HTH := Lib.hid (fun W => Thin_any q W)
  have HO := Lib.hid h
  have L := Lib.hid l0
  have B := Lib.hid b0
  have K16 := Lib.hid True.intro
  clear l0 b0 h
  by_cases hthin : q.ds.l.length ≤ 15
  · rw [decide_eq_true hthin] at HTH
    have HL15 := Lib.hid hthin
    have HAT := Lib.hid (HO.out.at_ hthin)
    clear hthin HO
    have htab0 := fun W (hb : Below w.heap.size w W) => tabular_any t.A t.c t.l W ((ht.o.below hb).more hb.size) ht.n (fun s hs => (ht.i s hs).2.2)
    by_cases htb : tabularB t.l = true
    · rw [htb] at htab0
      have HTB := Lib.hid htab0
      have HLL := Lib.hid (tab_lens htb).1
      have HLM := Lib.hid (tab_lens htb).2
      have HNN := Lib.hid (fun s (hs : s ∈ t.l) => (ht.i s hs).1)
      have HTM := Lib.hid (show TabM t.A t.l w w.heap.size from ⟨ht.o, fun s hs => (ht.i s hs).2.1, by have := HLL.out; omega, fun s hs => by have := HLM.out s hs; omega⟩)
      clear htab0 htb ht
      by_cases hf0 : q.d.fault = 0
      · have HOK := Lib.hid (fault_ok hf0)
        have HFA := Lib.hid (fun W (hq : q.At W W.heap.size) => (show Calls Try.prog 20 #[.agg q.cells.toArray] W fun e w' => e = .returned (.int .i64 0) ∧ Below W.heap.size W w' by
          have := lawFault_any q W hq
          rw [hf0] at this
          exact this))
        cases own
        · obtain ⟨tA, htA⟩ : ∃ tA, tA = t.A := ⟨_, rfl⟩
          obtain ⟨tc, htc⟩ : ∃ tc, tc = t.c := ⟨_, rfl⟩
          obtain ⟨ts, hts⟩ : ∃ ts, ts = t.l := ⟨_, rfl⟩
          rw [← htA, ← htc, ← hts]
          rw [← hts] at HTM HTB HNN HLM HLL
          rw [← htA] at HTM HTB
          rw [← htc] at HTB
          clear htA htc hts
          obtain ⟨tl, htl⟩ : ∃ tl, tl = ts.length := ⟨_, rfl⟩
          obtain ⟨T, hT⟩ : ∃ T, ts.map Sv.l = T := ⟨_, rfl⟩
          rw [← htl]
          rw [← htl] at HTB
          have hnn := HNN.out
          have hll : ts.length ≤ 100 := by have := HLL.out; omega
          have hml : ∀ s, s ∈ ts → s.l.length ≤ 1000 := fun s hs => by have := HLM.out s hs; omega
          by_cases htb2 : q.d.tabB T = true
          · have HRO := Lib.hid (fun W (htm : TabM tA ts W W.heap.size) => (show Calls Try.prog 36 #[.slice tA tl tc] W (RowsT T W) by
              have := rows_tab tA tc ts W htm hnn hll hml
              rw [← htl, hT] at this
              exact this))
            obtain ⟨ka, hka⟩ : ∃ ka, q.d.keepsR T = ka := ⟨_, rfl⟩
            obtain ⟨nb, hnb⟩ : ∃ nb, q.d.needsR T = nb := ⟨_, rfl⟩
            have HPK := Lib.hid (fun A c (Ao : Option Addr) out co W (hat : (q.withA A c).At W W.heap.size) (hto : TabM Ao out W W.heap.size) (hoT : out.map Sv.l = T) => (show Calls Try.prog 35 #[.agg (q.withA A c).cells.toArray, .slice Ao out.length co] W fun e w' => e = .returned (.bool ka) ∧ Below W.heap.size W w' by
              have := ProveKeeps_any (q.withA A c) Ao co out W hat hto
              rw [hoT, show (q.withA A c).d.keepsR T = ka from hka] at this
              exact this))
            have HPN := Lib.hid (fun A c (Ao : Option Addr) out co W (hat : (q.withA A c).At W W.heap.size) (hto : TabM Ao out W W.heap.size) (hoT : out.map Sv.l = T) => (show Calls Try.prog 37 #[.agg (q.withA A c).cells.toArray, .slice Ao out.length co] W fun e w' => e = .returned (.bool nb) ∧ Below W.heap.size W w' by
              have := ProveNeeds_any (q.withA A c) Ao co out W hat hto
              rw [hoT, show (q.withA A c).d.needsR T = nb from hnb] at this
              exact this))
            have HIT := Lib.hid (fun W (htm : TabM tA ts W W.heap.size) => (show Calls Try.prog 38 #[.agg q.cells.toArray, .slice tA tl tc] W fun e w' => e = .returned (.bool true) ∧ Below W.heap.size W w' by
              have := IsTable_any q tA tc ts W htm HOK.out
              rw [← htl, hT, htb2] at this
              exact this))
            have HRK := Lib.hid (fun W (hat : q.At W W.heap.size) (htm : TabM tA ts W W.heap.size) => (show Calls Try.prog 39 #[.agg q.cells.toArray, .slice tA tl tc] W fun e w' => e = .returned (.bool ka) ∧ Below W.heap.size W w' by
              have := refKeeps_any q tA tc ts W hat htm HOK.out (by rw [hT]; exact htb2)
              rw [← PoD.isOfB_yes hf0 (by rw [hT]; exact htb2), ← htl, hT] at this
              rw [show q.d.isOfB _ T = ka from hka] at this
              exact this))
            have HRN := Lib.hid (fun W (hat : q.At W W.heap.size) (htm : TabM tA ts W W.heap.size) => (show Calls Try.prog 40 #[.agg q.cells.toArray, .slice tA tl tc] W fun e w' => e = .returned (.bool nb) ∧ Below W.heap.size W w' by
              have := refNeeds_any q tA tc ts W hat htm HOK.out (by rw [hT]; exact htb2)
              rw [← PoD.isOfB_yes hf0 (by rw [hT]; exact htb2), ← htl, hT] at this
              rw [show q.d.isOfB _ T = nb from hnb] at this
              exact this))
            clear hka hnb htb2
            have hkk : (ka == ka) = true := by simp
            have hnn2 : (nb == nb) = true := by simp
            clear hnn hll hml hT htl hf0 HNN HLM HLL
            go_enter Try.func7, Try.ntmps7
            go_upto_region 1 with (fail)
            change Code.wp _ _ _ _ (w.alloc (.cells q.cells.toArray 26))
            generalize w.alloc (.cells q.cells.toArray 26) = w1 at *
            go_upto_region 7 with (first
                  | (have h := K16; clear h; refine wpList_load_row (o := ⟨some 16, _, _, _, _, _⟩) ?_ 26 (.tmp 6) ?_ w.heap.size ?_ 26 q.cells.toArray (0, 0) _ L.out Try.underlying26 rfl size_rp ?_; rfl; rfl; rfl; have K17 := Lib.hid True.intro; clear K16)
                  | (have h := K17; clear h; go_at_call 15; refine (HTH.out _).mono ?_; rintro e w2 ⟨rfl, hb⟩; replace B := Lib.hid (B.out.trans (hb.mono B.out.size)); replace L := Lib.hid (L.out.call hb); clear hb; have K21 := Lib.hid True.intro; clear K17)
                  | (have h := K21; clear h; go_at_call 34; refine (HTB.out _ B.out).mono ?_; rintro e w3 ⟨rfl, hb⟩; replace B := Lib.hid (B.out.trans (hb.mono B.out.size)); replace L := Lib.hid (L.out.call hb); clear hb; have K27 := Lib.hid True.intro; clear K21))
            have TM := Lib.hid (HTM.out.below B.out B.out.size)
            clear HTM HTB HTH
            go_upto_region 7 with (fail)
            have LG := Lib.hid (show ∀ V, (∃ cc : Cls (fun W => Below w3.heap.size w3 W), V = cc.val) → V.rangeAt w.heap.size 0 q.cells by
              rintro V ⟨cc, rfl⟩
              exact Lies.range (cs := q.cells) (L.out.call cc.h) (fun j v hj => by simpa using hj))
            haveI hne : Nonempty (Cls (fun W => Below w3.heap.size w3 W)) := ⟨⟨w3, Below.refl _ _⟩⟩
            refine wp_region_wayw [0, 2, 5, 7] (.way 1 (.way 3 (.way 4 (.way 6 (.way 8 (.way 9 (.take 10 (.take 11 .fin)) .fin) .fin) .fin) .fin) .fin) .fin) (fun W => ∃ cc : Cls (fun W => Below w3.heap.size w3 W), W = cc.val) (by kernel_rfl) (by kernel_rfl) (Cls.here (Below.refl _ _).drew) ?_
            simp only [List.filterMap_cons, List.filterMap_nil, List.getElem?_toArray, List.getElem?_cons_zero, List.getElem?_cons_succ]
            repeat (first
              | (refine wpQuiet_load_wholeG (o := ⟨some 54, _, _, _, _, _⟩) ?_ 26 (.tmp 6) ?_ w.heap.size 0 ?_ q.cells _ LG.out Try.underlying26 rfl size_rp ?_; rfl; rfl; rfl; simp only [Act.put, List.setIfInBounds_toArray, List.set_cons_zero, List.set_cons_succ])
              | (refine wpQuiet_load_wholeG (o := ⟨some 59, _, _, _, _, _⟩) ?_ 26 (.tmp 6) ?_ w.heap.size 0 ?_ q.cells _ LG.out Try.underlying26 rfl size_rp ?_; rfl; rfl; rfl; simp only [Act.put, List.setIfInBounds_toArray, List.set_cons_zero, List.set_cons_succ])
              | go_big_quiet_step (rfl) | quiet_step (rfl))
            refine wpQuiet_nil ?_
            clear LG
            have D := Lib.hid (show Below w3.heap.size w3 w3.drew from (Below.refl _ _).drew)
            replace B := Lib.hid (B.out.trans (D.out.mono B.out.size))
            replace TM := Lib.hid (TM.out.below D.out D.out.size)
            replace L := Lib.hid (L.out.call D.out)
            generalize w3.drew = d0 at *
            rw [wpWy_way]
            refine ⟨?_, by exact trivial⟩
            simp only [List.getElem?_toArray, List.getElem?_cons_succ, List.getElem?_cons_zero]
            go_wp2_with (go_at_call 18; refine (Copy_any q _ (HAT.out.below B.out B.out.size) HL15.out).mono ?_; rintro e d' ⟨A81, c81, rfl, hat, hb⟩)
            replace D := Lib.hid (D.out.trans (hb.mono D.out.size))
            replace B := Lib.hid (B.out.trans (hb.mono B.out.size))
            replace TM := Lib.hid (TM.out.below hb hb.size)
            replace L := Lib.hid (L.out.call hb)
            have TC81 := Lib.hid hat
            clear hat
            clear hb
            refine Ends.intro ⟨Cls.here D.out, ?_⟩
            rw [wpWy_way]
            refine ⟨?_, by exact trivial⟩
            simp only [List.getElem?_toArray, List.getElem?_cons_succ, List.getElem?_cons_zero]
            go_wp2_with (go_at_call 36; refine (HRO.out _ TM.out).mono ?_; rintro e d' ⟨out82, A82, c82, rfl, hol, hot, hb⟩)
            replace D := Lib.hid (D.out.trans (hb.mono D.out.size))
            replace B := Lib.hid (B.out.trans (hb.mono B.out.size))
            replace TM := Lib.hid (TM.out.below hb hb.size)
            replace L := Lib.hid (L.out.call hb)
            replace TC81 := Lib.hid (TC81.out.below hb hb.size)
            have HO82 := Lib.hid hol
            have HT82 := Lib.hid hot
            clear hol hot
            clear hb
            refine Ends.intro ⟨Cls.here D.out, ?_⟩
            rw [wpWy_way]
            refine ⟨?_, by exact trivial⟩
            simp only [List.getElem?_toArray, List.getElem?_cons_succ, List.getElem?_cons_zero]
            go_wp2_with (go_at_call 35; refine (HPK.out A81 c81 A82 out82 c82 _ TC81.out HT82.out HO82.out).mono ?_; rintro e d' ⟨rfl, hb⟩)
            replace D := Lib.hid (D.out.trans (hb.mono D.out.size))
            replace B := Lib.hid (B.out.trans (hb.mono B.out.size))
            replace TM := Lib.hid (TM.out.below hb hb.size)
            replace L := Lib.hid (L.out.call hb)
            clear hb
            refine Ends.intro ⟨Cls.here D.out, ?_⟩
            rw [wpWy_way]
            refine ⟨?_, by exact trivial⟩
            simp only [List.getElem?_toArray, List.getElem?_cons_succ, List.getElem?_cons_zero]
            go_wp2_with (go_at_call 18; refine (Copy_any q _ (HAT.out.below B.out B.out.size) HL15.out).mono ?_; rintro e d' ⟨A83, c83, rfl, hat, hb⟩)
            replace D := Lib.hid (D.out.trans (hb.mono D.out.size))
            replace B := Lib.hid (B.out.trans (hb.mono B.out.size))
            replace TM := Lib.hid (TM.out.below hb hb.size)
            replace L := Lib.hid (L.out.call hb)
            have TC83 := Lib.hid hat
            clear hat
            clear hb
            refine Ends.intro ⟨Cls.here D.out, ?_⟩
            rw [wpWy_way]
            refine ⟨?_, by exact trivial⟩
            simp only [List.getElem?_toArray, List.getElem?_cons_succ, List.getElem?_cons_zero]
            go_wp2_with (go_at_call 36; refine (HRO.out _ TM.out).mono ?_; rintro e d' ⟨out84, A84, c84, rfl, hol, hot, hb⟩)
            replace D := Lib.hid (D.out.trans (hb.mono D.out.size))
            replace B := Lib.hid (B.out.trans (hb.mono B.out.size))
            replace TM := Lib.hid (TM.out.below hb hb.size)
            replace L := Lib.hid (L.out.call hb)
            replace TC83 := Lib.hid (TC83.out.below hb hb.size)
            have HO84 := Lib.hid hol
            have HT84 := Lib.hid hot
            clear hol hot
            clear hb
            refine Ends.intro ⟨Cls.here D.out, ?_⟩
            rw [wpWy_way]
            refine ⟨?_, by exact trivial⟩
            simp only [List.getElem?_toArray, List.getElem?_cons_succ, List.getElem?_cons_zero]
            go_wp2_with (go_at_call 37; refine (HPN.out A83 c83 A84 out84 c84 _ TC83.out HT84.out HO84.out).mono ?_; rintro e d' ⟨rfl, hb⟩)
            replace D := Lib.hid (D.out.trans (hb.mono D.out.size))
            replace B := Lib.hid (B.out.trans (hb.mono B.out.size))
            replace TM := Lib.hid (TM.out.below hb hb.size)
            replace L := Lib.hid (L.out.call hb)
            clear hb
            refine Ends.intro ⟨Cls.here D.out, ?_⟩
            rw [wpWy_take]
            simp only [List.getElem?_toArray, List.getElem?_cons_succ, List.getElem?_cons_zero]
            first | go_big_quiet_step (rfl) | quiet_step (rfl)
            refine wpQuiet_nil ?_
            rw [wpWy_take]
            simp only [List.getElem?_toArray, List.getElem?_cons_succ, List.getElem?_cons_zero]
            first | go_big_quiet_step (rfl) | quiet_step (rfl)
            refine wpQuiet_nil ?_
            rw [wpWy_fin]
            clear D
            have K0 := Lib.hid True.intro
            go_wp2_with (first
                | (have h := K0; clear h; refine wpList_load_row (o := ⟨some 64, _, _, _, _, _⟩) ?_ 26 (.tmp 6) ?_ w.heap.size ?_ 26 q.cells.toArray (0, 0) _ L.out Try.underlying26 rfl size_rp ?_; rfl; rfl; rfl; have K1 := Lib.hid True.intro; clear K0)
                | (have h := K1; clear h; go_at_call 20; refine (HFA.out _ (HAT.out.below B.out B.out.size)).mono ?_; rintro e w' ⟨rfl, hb⟩; replace B := Lib.hid (B.out.trans (hb.mono B.out.size)); replace L := Lib.hid (L.out.call hb); replace TM := Lib.hid (TM.out.below hb hb.size); clear hb; have K2 := Lib.hid True.intro; clear K1)
                | (have h := K2; clear h; refine wpList_load_rowG (o := ⟨some 68, _, _, _, _, _⟩) ?_ 26 (.tmp 6) ?_ w.heap.size ?_ 26 q.cells.toArray (0, 0) _ L.out Try.underlying26 rfl size_rp ?_; kernel_rfl; rfl; rfl; have K3 := Lib.hid True.intro; clear K2)
                | (have h := K3; clear h; go_at_call 38; refine (HIT.out _ TM.out).mono ?_; rintro e w' ⟨rfl, hb⟩; replace B := Lib.hid (B.out.trans (hb.mono B.out.size)); replace L := Lib.hid (L.out.call hb); replace TM := Lib.hid (TM.out.below hb hb.size); clear hb; have K4 := Lib.hid True.intro; clear K3)
                | (have h := K4; clear h; refine wpList_load_row (o := ⟨some 83, _, _, _, _, _⟩) ?_ 26 (.tmp 6) ?_ w.heap.size ?_ 26 q.cells.toArray (0, 0) _ L.out Try.underlying26 rfl size_rp ?_; rfl; rfl; rfl; have K5 := Lib.hid True.intro; clear K4)
                | (have h := K5; clear h; go_at_call 39; refine (HRK.out _ (HAT.out.below B.out B.out.size) TM.out).mono ?_; rintro e w' ⟨rfl, hb⟩; replace B := Lib.hid (B.out.trans (hb.mono B.out.size)); replace L := Lib.hid (L.out.call hb); replace TM := Lib.hid (TM.out.below hb hb.size); clear hb; have K6 := Lib.hid True.intro; clear K5)
                | (have h := K6; clear h; refine wpList_load_rowG (o := ⟨some 89, _, _, _, _, _⟩) ?_ 26 (.tmp 6) ?_ w.heap.size ?_ 26 q.cells.toArray (0, 0) _ L.out Try.underlying26 rfl size_rp ?_; kernel_rfl; rfl; rfl; have K7 := Lib.hid True.intro; clear K6)
                | (have h := K7; clear h; go_at_call 40; refine (HRN.out _ (HAT.out.below B.out B.out.size) TM.out).mono ?_; rintro e w' ⟨rfl, hb⟩; replace B := Lib.hid (B.out.trans (hb.mono B.out.size)); replace L := Lib.hid (L.out.call hb); replace TM := Lib.hid (TM.out.below hb hb.size); clear hb; have K8 := Lib.hid True.intro; clear K7)
                | (have h := K8; clear h; go_at_call 16; refine (wakes_any _).mono ?_; rintro e w' ⟨rfl, hb⟩; replace B := Lib.hid (B.out.trans (hb.mono B.out.size)); replace L := Lib.hid (L.out.call hb); replace TM := Lib.hid (TM.out.below hb hb.size); clear hb; have K9 := Lib.hid True.intro; clear K8))
            go_ret
            exact ⟨rfl, B.out⟩
          · have htb2 : q.d.tabB T = false := by simpa using htb2
            have HRO := Lib.hid (fun W (htm : TabM tA ts W W.heap.size) => (show Calls Try.prog 36 #[.slice tA tl tc] W (RowsT T W) by
              have := rows_tab tA tc ts W htm hnn hll hml
              rw [← htl, hT] at this
              exact this))
            have hka : q.d.keepsR T = false := PoD.isOfB_not (.inr htb2)
            have hnb : q.d.needsR T = false := PoD.isOfB_not (.inr htb2)
            have HPK := Lib.hid (fun A c (Ao : Option Addr) out co W (hat : (q.withA A c).At W W.heap.size) (hto : TabM Ao out W W.heap.size) (hoT : out.map Sv.l = T) => (show Calls Try.prog 35 #[.agg (q.withA A c).cells.toArray, .slice Ao out.length co] W fun e w' => e = .returned (.bool false) ∧ Below W.heap.size W w' by
              have := ProveKeeps_any (q.withA A c) Ao co out W hat hto
              rw [hoT, show (q.withA A c).d.keepsR T = false from hka] at this
              exact this))
            have HPN := Lib.hid (fun A c (Ao : Option Addr) out co W (hat : (q.withA A c).At W W.heap.size) (hto : TabM Ao out W W.heap.size) (hoT : out.map Sv.l = T) => (show Calls Try.prog 37 #[.agg (q.withA A c).cells.toArray, .slice Ao out.length co] W fun e w' => e = .returned (.bool false) ∧ Below W.heap.size W w' by
              have := ProveNeeds_any (q.withA A c) Ao co out W hat hto
              rw [hoT, show (q.withA A c).d.needsR T = false from hnb] at this
              exact this))
            have HIT := Lib.hid (fun W (htm : TabM tA ts W W.heap.size) => (show Calls Try.prog 38 #[.agg q.cells.toArray, .slice tA tl tc] W fun e w' => e = .returned (.bool false) ∧ Below W.heap.size W w' by
              have := IsTable_any q tA tc ts W htm HOK.out
              rw [← htl, hT, htb2] at this
              exact this))
            clear hka hnb htb2
            clear hnn hll hml hT htl hf0 HNN HLM HLL
            go_enter Try.func7, Try.ntmps7
            go_upto_region 1 with (fail)
            change Code.wp _ _ _ _ (w.alloc (.cells q.cells.toArray 26))
            generalize w.alloc (.cells q.cells.toArray 26) = w1 at *
            go_upto_region 7 with (first
                  | (have h := K16; clear h; refine wpList_load_row (o := ⟨some 16, _, _, _, _, _⟩) ?_ 26 (.tmp 6) ?_ w.heap.size ?_ 26 q.cells.toArray (0, 0) _ L.out Try.underlying26 rfl size_rp ?_; rfl; rfl; rfl; have K17 := Lib.hid True.intro; clear K16)
                  | (have h := K17; clear h; go_at_call 15; refine (HTH.out _).mono ?_; rintro e w2 ⟨rfl, hb⟩; replace B := Lib.hid (B.out.trans (hb.mono B.out.size)); replace L := Lib.hid (L.out.call hb); clear hb; have K21 := Lib.hid True.intro; clear K17)
                  | (have h := K21; clear h; go_at_call 34; refine (HTB.out _ B.out).mono ?_; rintro e w3 ⟨rfl, hb⟩; replace B := Lib.hid (B.out.trans (hb.mono B.out.size)); replace L := Lib.hid (L.out.call hb); clear hb; have K27 := Lib.hid True.intro; clear K21))
            have TM := Lib.hid (HTM.out.below B.out B.out.size)
            clear HTM HTB HTH
            go_upto_region 7 with (fail)
            have LG := Lib.hid (show ∀ V, (∃ cc : Cls (fun W => Below w3.heap.size w3 W), V = cc.val) → V.rangeAt w.heap.size 0 q.cells by
              rintro V ⟨cc, rfl⟩
              exact Lies.range (cs := q.cells) (L.out.call cc.h) (fun j v hj => by simpa using hj))
            haveI hne : Nonempty (Cls (fun W => Below w3.heap.size w3 W)) := ⟨⟨w3, Below.refl _ _⟩⟩
            refine wp_region_wayw [0, 2, 5, 7] (.way 1 (.way 3 (.way 4 (.way 6 (.way 8 (.way 9 (.take 10 (.take 11 .fin)) .fin) .fin) .fin) .fin) .fin) .fin) (fun W => ∃ cc : Cls (fun W => Below w3.heap.size w3 W), W = cc.val) (by kernel_rfl) (by kernel_rfl) (Cls.here (Below.refl _ _).drew) ?_
            simp only [List.filterMap_cons, List.filterMap_nil, List.getElem?_toArray, List.getElem?_cons_zero, List.getElem?_cons_succ]
            repeat (first
              | (refine wpQuiet_load_wholeG (o := ⟨some 54, _, _, _, _, _⟩) ?_ 26 (.tmp 6) ?_ w.heap.size 0 ?_ q.cells _ LG.out Try.underlying26 rfl size_rp ?_; rfl; rfl; rfl; simp only [Act.put, List.setIfInBounds_toArray, List.set_cons_zero, List.set_cons_succ])
              | (refine wpQuiet_load_wholeG (o := ⟨some 59, _, _, _, _, _⟩) ?_ 26 (.tmp 6) ?_ w.heap.size 0 ?_ q.cells _ LG.out Try.underlying26 rfl size_rp ?_; rfl; rfl; rfl; simp only [Act.put, List.setIfInBounds_toArray, List.set_cons_zero, List.set_cons_succ])
              | go_big_quiet_step (rfl) | quiet_step (rfl))
            refine wpQuiet_nil ?_
            clear LG
            have D := Lib.hid (show Below w3.heap.size w3 w3.drew from (Below.refl _ _).drew)
            replace B := Lib.hid (B.out.trans (D.out.mono B.out.size))
            replace TM := Lib.hid (TM.out.below D.out D.out.size)
            replace L := Lib.hid (L.out.call D.out)
            generalize w3.drew = d0 at *
            rw [wpWy_way]
            refine ⟨?_, by exact trivial⟩
            simp only [List.getElem?_toArray, List.getElem?_cons_succ, List.getElem?_cons_zero]
            go_wp2_with (go_at_call 18; refine (Copy_any q _ (HAT.out.below B.out B.out.size) HL15.out).mono ?_; rintro e d' ⟨A81, c81, rfl, hat, hb⟩)
            replace D := Lib.hid (D.out.trans (hb.mono D.out.size))
            replace B := Lib.hid (B.out.trans (hb.mono B.out.size))
            replace TM := Lib.hid (TM.out.below hb hb.size)
            replace L := Lib.hid (L.out.call hb)
            have TC81 := Lib.hid hat
            clear hat
            clear hb
            refine Ends.intro ⟨Cls.here D.out, ?_⟩
            rw [wpWy_way]
            refine ⟨?_, by exact trivial⟩
            simp only [List.getElem?_toArray, List.getElem?_cons_succ, List.getElem?_cons_zero]
            go_wp2_with (go_at_call 36; refine (HRO.out _ TM.out).mono ?_; rintro e d' ⟨out82, A82, c82, rfl, hol, hot, hb⟩)
            replace D := Lib.hid (D.out.trans (hb.mono D.out.size))
            replace B := Lib.hid (B.out.trans (hb.mono B.out.size))
            replace TM := Lib.hid (TM.out.below hb hb.size)
            replace L := Lib.hid (L.out.call hb)
            replace TC81 := Lib.hid (TC81.out.below hb hb.size)
            have HO82 := Lib.hid hol
            have HT82 := Lib.hid hot
            clear hol hot
            clear hb
            refine Ends.intro ⟨Cls.here D.out, ?_⟩
            rw [wpWy_way]
            refine ⟨?_, by exact trivial⟩
            simp only [List.getElem?_toArray, List.getElem?_cons_succ, List.getElem?_cons_zero]
            go_wp2_with (go_at_call 35; refine (HPK.out A81 c81 A82 out82 c82 _ TC81.out HT82.out HO82.out).mono ?_; rintro e d' ⟨rfl, hb⟩)
            replace D := Lib.hid (D.out.trans (hb.mono D.out.size))
            replace B := Lib.hid (B.out.trans (hb.mono B.out.size))
            replace TM := Lib.hid (TM.out.below hb hb.size)
            replace L := Lib.hid (L.out.call hb)
            clear hb
            refine Ends.intro ⟨Cls.here D.out, ?_⟩
            rw [wpWy_way]
            refine ⟨?_, by exact trivial⟩
            simp only [List.getElem?_toArray, List.getElem?_cons_succ, List.getElem?_cons_zero]
            go_wp2_with (go_at_call 18; refine (Copy_any q _ (HAT.out.below B.out B.out.size) HL15.out).mono ?_; rintro e d' ⟨A83, c83, rfl, hat, hb⟩)
            replace D := Lib.hid (D.out.trans (hb.mono D.out.size))
            replace B := Lib.hid (B.out.trans (hb.mono B.out.size))
            replace TM := Lib.hid (TM.out.below hb hb.size)
            replace L := Lib.hid (L.out.call hb)
            have TC83 := Lib.hid hat
            clear hat
            clear hb
            refine Ends.intro ⟨Cls.here D.out, ?_⟩
            rw [wpWy_way]
            refine ⟨?_, by exact trivial⟩
            simp only [List.getElem?_toArray, List.getElem?_cons_succ, List.getElem?_cons_zero]
            go_wp2_with (go_at_call 36; refine (HRO.out _ TM.out).mono ?_; rintro e d' ⟨out84, A84, c84, rfl, hol, hot, hb⟩)
            replace D := Lib.hid (D.out.trans (hb.mono D.out.size))
            replace B := Lib.hid (B.out.trans (hb.mono B.out.size))
            replace TM := Lib.hid (TM.out.below hb hb.size)
            replace L := Lib.hid (L.out.call hb)
            replace TC83 := Lib.hid (TC83.out.below hb hb.size)
            have HO84 := Lib.hid hol
            have HT84 := Lib.hid hot
            clear hol hot
            clear hb
            refine Ends.intro ⟨Cls.here D.out, ?_⟩
            rw [wpWy_way]
            refine ⟨?_, by exact trivial⟩
            simp only [List.getElem?_toArray, List.getElem?_cons_succ, List.getElem?_cons_zero]
            go_wp2_with (go_at_call 37; refine (HPN.out A83 c83 A84 out84 c84 _ TC83.out HT84.out HO84.out).mono ?_; rintro e d' ⟨rfl, hb⟩)
            replace D := Lib.hid (D.out.trans (hb.mono D.out.size))
            replace B := Lib.hid (B.out.trans (hb.mono B.out.size))
            replace TM := Lib.hid (TM.out.below hb hb.size)
            replace L := Lib.hid (L.out.call hb)
            clear hb
            refine Ends.intro ⟨Cls.here D.out, ?_⟩
            rw [wpWy_take]
            simp only [List.getElem?_toArray, List.getElem?_cons_succ, List.getElem?_cons_zero]
            first | go_big_quiet_step (rfl) | quiet_step (rfl)
            refine wpQuiet_nil ?_
            rw [wpWy_take]
            simp only [List.getElem?_toArray, List.getElem?_cons_succ, List.getElem?_cons_zero]
            first | go_big_quiet_step (rfl) | quiet_step (rfl)
            refine wpQuiet_nil ?_
            rw [wpWy_fin]
            clear D
            have K0 := Lib.hid True.intro
            go_wp2_with (first
                | (have h := K0; clear h; refine wpList_load_row (o := ⟨some 64, _, _, _, _, _⟩) ?_ 26 (.tmp 6) ?_ w.heap.size ?_ 26 q.cells.toArray (0, 0) _ L.out Try.underlying26 rfl size_rp ?_; rfl; rfl; rfl; have K1 := Lib.hid True.intro; clear K0)
                | (have h := K1; clear h; go_at_call 20; refine (HFA.out _ (HAT.out.below B.out B.out.size)).mono ?_; rintro e w' ⟨rfl, hb⟩; replace B := Lib.hid (B.out.trans (hb.mono B.out.size)); replace L := Lib.hid (L.out.call hb); replace TM := Lib.hid (TM.out.below hb hb.size); clear hb; have K2 := Lib.hid True.intro; clear K1)
                | (have h := K2; clear h; refine wpList_load_rowG (o := ⟨some 68, _, _, _, _, _⟩) ?_ 26 (.tmp 6) ?_ w.heap.size ?_ 26 q.cells.toArray (0, 0) _ L.out Try.underlying26 rfl size_rp ?_; kernel_rfl; rfl; rfl; have K3 := Lib.hid True.intro; clear K2)
                | (have h := K3; clear h; go_at_call 38; refine (HIT.out _ TM.out).mono ?_; rintro e w' ⟨rfl, hb⟩; replace B := Lib.hid (B.out.trans (hb.mono B.out.size)); replace L := Lib.hid (L.out.call hb); replace TM := Lib.hid (TM.out.below hb hb.size); clear hb; have K4 := Lib.hid True.intro; clear K3)
                | (have h := K4; clear h; go_at_call 16; refine (wakes_any _).mono ?_; rintro e w' ⟨rfl, hb⟩; replace B := Lib.hid (B.out.trans (hb.mono B.out.size)); replace L := Lib.hid (L.out.call hb); replace TM := Lib.hid (TM.out.below hb hb.size); clear hb; have K5 := Lib.hid True.intro; clear K4))
            go_ret
            exact ⟨rfl, B.out⟩
        · obtain ⟨tA0, htA0⟩ : ∃ tA0, tA0 = t.A := ⟨_, rfl⟩
          obtain ⟨tc0, htc0⟩ : ∃ tc0, tc0 = t.c := ⟨_, rfl⟩
          obtain ⟨tl0, htl0⟩ : ∃ tl0, tl0 = t.l.length := ⟨_, rfl⟩
          rw [← htA0, ← htc0, ← htl0]
          rw [← htA0, ← htc0, ← htl0] at HTB
          have hn12 : q.d.ds.length ≤ 12 := HOK.out.n2
          have hlv : q.d.levels ≤ 61 ∧ 0 < q.d.levels := by
            have h1 := HOK.out.l2
            have h2 := HOK.out.l0
            have h3 := HOK.out.l1
            unfold PoD.levels
            omega
          obtain ⟨N, hN⟩ : ∃ N, N = q.d.ds.length + 1 := ⟨_, rfl⟩
          obtain ⟨M, hM⟩ : ∃ M, M = q.d.levels := ⟨_, rfl⟩
          have hN1 : (0 : Int) < (N : Int) := by omega
          have hN13 : (N : Int) ≤ 13 := by omega
          have hM1 : (0 : Int) < (M : Int) := by omega
          have hM61 : (M : Int) ≤ 61 := by omega
          have hd256 : (day : Int) < 256 := by omega
          have ha256 : (at_ : Int) < 256 := by omega
          obtain ⟨d, hdm⟩ : ∃ d : Nat, (day : Int) % (N : Int) = (d : Int) := ⟨day % N, by omega⟩
          obtain ⟨m, hmm⟩ : ∃ m : Nat, (at_ : Int) % (M : Int) = (m : Int) := ⟨at_ % M, by omega⟩
          have hdN : (d : Int) < (N : Int) := by rw [← hdm]; exact Int.emod_lt_of_pos _ hN1
          have hmM : (m : Int) < (M : Int) := by rw [← hmm]; exact Int.emod_lt_of_pos _ hM1
          obtain ⟨e4, he4⟩ : ∃ e4, by_.tmod 4 = e4 := ⟨_, rfl⟩
          have he40 : -3 ≤ e4 := by rw [← he4]; exact (tmod4 by_).1
          have he41 : e4 ≤ 3 := by rw [← he4]; exact (tmod4 by_).2
          have HN := Lib.hid hN
          have HM := Lib.hid hM
          have HN12 := Lib.hid hn12
          have HLV := Lib.hid hlv
          have HF0 := Lib.hid hf0
          clear hN hM hn12 hlv htA0 htc0 htl0 hf0
          go_enter Try.func7, Try.ntmps7
          go_upto_region 1 with (fail)
          change Code.wp _ _ _ _ (w.alloc (.cells q.cells.toArray 26))
          generalize w.alloc (.cells q.cells.toArray 26) = w1 at *
          go_upto_region 5 with (first
                | (have h := K16; clear h; refine wpList_load_row (o := ⟨some 16, _, _, _, _, _⟩) ?_ 26 (.tmp 6) ?_ w.heap.size ?_ 26 q.cells.toArray (0, 0) _ L.out Try.underlying26 rfl size_rp ?_; rfl; rfl; rfl; have K17 := Lib.hid True.intro; clear K16)
                | (have h := K17; clear h; go_at_call 15; refine (HTH.out _).mono ?_; rintro e w2 ⟨rfl, hb⟩; replace B := Lib.hid (B.out.trans (hb.mono B.out.size)); replace L := Lib.hid (L.out.call hb); clear hb; have K21 := Lib.hid True.intro; clear K17)
                | (have h := K21; clear h; go_at_call 34; refine (HTB.out _ B.out).mono ?_; rintro e w3 ⟨rfl, hb⟩; replace B := Lib.hid (B.out.trans (hb.mono B.out.size)); replace L := Lib.hid (L.out.call hb); clear hb; have K27 := Lib.hid True.intro; clear K21)
                | (have h := K27; clear h; refine wpList_load_rowG (o := ⟨some 27, _, _, _, _, _⟩) ?_ 26 (.tmp 6) ?_ w.heap.size ?_ 26 q.cells.toArray (0, 0) _ L.out Try.underlying26 rfl size_rp ?_; kernel_rfl; rfl; rfl; have K28 := Lib.hid True.intro; clear K27)
                | (have h := K28; clear h; go_at_call 20; refine (HFA.out _ (HAT.out.below B.out B.out.size)).mono ?_; rintro e w4 ⟨rfl, hb⟩; replace B := Lib.hid (B.out.trans (hb.mono B.out.size)); replace L := Lib.hid (L.out.call hb); clear hb; have K31 := Lib.hid True.intro; clear K28)
                | (have h := K31; clear h; refine wpList_load_row (o := ⟨some 31, _, _, _, _, _⟩) ?_ 26 (.tmp 6) ?_ w.heap.size ?_ 26 q.cells.toArray (0, 0) _ L.out Try.underlying26 rfl size_rp ?_; rfl; rfl; rfl; have K32 := Lib.hid True.intro; clear K31)
                | (have h := K32; clear h; go_at_call 21; refine (Values_any q _ (HAT.out.below B.out B.out.size) HOK.out).mono ?_; rintro e w5 ⟨gv, row, rfl, hgv, hvl, hb⟩; have HGV := Lib.hid (Nat.le_trans (Nat.succ_le_of_lt L.out.in_) hgv); clear hgv; replace B := Lib.hid (B.out.trans (hb.mono B.out.size)); replace L := Lib.hid (L.out.call hb); have VL := Lib.hid hvl; clear hvl; clear hb; have KX := Lib.hid True.intro; clear K32))
          rw [← HN.out]
          have SM := Lib.hid (VL.out.sep HGV.out HN12.out (by have := HLV.out.1; omega))
          have hd0 : d ≤ q.d.ds.length := by have := HN.out; omega
          have hrl : (row d).l.length = M := by rw [VL.out.len hd0, HM.out]
          have hsd : ((List.range (q.d.ds.length + 1)).map row)[d]? = some (row d) := by rw [List.getElem?_map, List.getElem?_range (by omega)]; rfl
          obtain ⟨g, hgA, hgB, ⟨x, hx, hcx⟩, hfz, hset⟩ := SM.out.set hsd (m := m) (by omega)
          have hxb := rowT_b HOK.out d x (by rw [← (VL.out.r d hd0).1]; exact List.mem_of_getElem? hx)
          have hx0 : -1 ≤ x := hxb.1
          have hx1 : x ≤ 1000000 := hxb.2
          have c40 : w5.cell? ⟨gv, d, none⟩ = some (.slice (some ⟨g, 0, none⟩) M (row d).c) := by
            have := VL.out.cell hd0
            rw [hgA, hrl] at this
            exact this
          have hO := Only.set g m w5 (.int .i64 (x + e4))
          have hgw : w.heap.size ≤ g := by omega
          have BS := Lib.hid (hO.below B.out hgw)
          have LS := Lib.hid (hO.lies L.out (by omega))
          have hTS := (hset (x + e4)).1
          have hNS := (hset (x + e4)).2
          have hszS : (w5.setCell ⟨g, m, none⟩ (.int .i64 (x + e4))).heap.size = w5.heap.size := by simp
          rw [← hszS] at hTS
          obtain ⟨ts, hts⟩ : ∃ ts, ts = setT ((List.range (q.d.ds.length + 1)).map row) d m (row d) (x + e4) := ⟨_, rfl⟩
          rw [← hts] at hTS hNS
          have htl0 : ts.length = N := by rw [hts, setT_length, HN.out]; simp
          have hml0 : ∀ z, z ∈ ts → z.l.length = M := by
            rw [hts]
            refine setT_rows (fun z hz => ?_) hrl
            obtain ⟨k, hk, rfl⟩ := List.mem_map.1 hz
            rw [VL.out.len (by have := List.mem_range.1 hk; omega), HM.out]
          have HTS := Lib.hid hTS
          have HNS := Lib.hid hNS
          have HTL := Lib.hid htl0
          have HML := Lib.hid hml0
          clear hTS hNS htl0 hml0 hts hset SM hsd hrl hgA hx hxb hO hszS hgB hgw B L VL
          go_upto_region 7 with (fail)
          generalize w5.setCell ⟨g, m, none⟩ (.int .i64 (x + e4)) = wS at *
          have B := Lib.hid BS.out
          have L := Lib.hid LS.out
          have TM := Lib.hid HTS.out
          have htl : N = ts.length := HTL.out.symm
          have hnn := HNS.out
          have hll : ts.length ≤ 100 := by rw [← htl]; omega
          have hml : ∀ s, s ∈ ts → s.l.length ≤ 1000 := fun s hs => by rw [HML.out s hs]; omega
          obtain ⟨T, hT⟩ : ∃ T, ts.map Sv.l = T := ⟨_, rfl⟩
          have hf0 := HF0.out
          by_cases htb2 : q.d.tabB T = true
          · have HRO := Lib.hid (fun W (htm : TabM (some ⟨gv, 0, none⟩) ts W W.heap.size) => (show Calls Try.prog 36 #[.slice (some ⟨gv, 0, none⟩) N N] W (RowsT T W) by
              have := rows_tab (some ⟨gv, 0, none⟩) N ts W htm hnn hll hml
              rw [← htl, hT] at this
              exact this))
            obtain ⟨ka, hka⟩ : ∃ ka, q.d.keepsR T = ka := ⟨_, rfl⟩
            obtain ⟨nb, hnb⟩ : ∃ nb, q.d.needsR T = nb := ⟨_, rfl⟩
            have HPK := Lib.hid (fun A c (Ao : Option Addr) out co W (hat : (q.withA A c).At W W.heap.size) (hto : TabM Ao out W W.heap.size) (hoT : out.map Sv.l = T) => (show Calls Try.prog 35 #[.agg (q.withA A c).cells.toArray, .slice Ao out.length co] W fun e w' => e = .returned (.bool ka) ∧ Below W.heap.size W w' by
              have := ProveKeeps_any (q.withA A c) Ao co out W hat hto
              rw [hoT, show (q.withA A c).d.keepsR T = ka from hka] at this
              exact this))
            have HPN := Lib.hid (fun A c (Ao : Option Addr) out co W (hat : (q.withA A c).At W W.heap.size) (hto : TabM Ao out W W.heap.size) (hoT : out.map Sv.l = T) => (show Calls Try.prog 37 #[.agg (q.withA A c).cells.toArray, .slice Ao out.length co] W fun e w' => e = .returned (.bool nb) ∧ Below W.heap.size W w' by
              have := ProveNeeds_any (q.withA A c) Ao co out W hat hto
              rw [hoT, show (q.withA A c).d.needsR T = nb from hnb] at this
              exact this))
            have HIT := Lib.hid (fun W (htm : TabM (some ⟨gv, 0, none⟩) ts W W.heap.size) => (show Calls Try.prog 38 #[.agg q.cells.toArray, .slice (some ⟨gv, 0, none⟩) N N] W fun e w' => e = .returned (.bool true) ∧ Below W.heap.size W w' by
              have := IsTable_any q (some ⟨gv, 0, none⟩) N ts W htm HOK.out
              rw [← htl, hT, htb2] at this
              exact this))
            have HRK := Lib.hid (fun W (hat : q.At W W.heap.size) (htm : TabM (some ⟨gv, 0, none⟩) ts W W.heap.size) => (show Calls Try.prog 39 #[.agg q.cells.toArray, .slice (some ⟨gv, 0, none⟩) N N] W fun e w' => e = .returned (.bool ka) ∧ Below W.heap.size W w' by
              have := refKeeps_any q (some ⟨gv, 0, none⟩) N ts W hat htm HOK.out (by rw [hT]; exact htb2)
              rw [← PoD.isOfB_yes hf0 (by rw [hT]; exact htb2), ← htl, hT] at this
              rw [show q.d.isOfB _ T = ka from hka] at this
              exact this))
            have HRN := Lib.hid (fun W (hat : q.At W W.heap.size) (htm : TabM (some ⟨gv, 0, none⟩) ts W W.heap.size) => (show Calls Try.prog 40 #[.agg q.cells.toArray, .slice (some ⟨gv, 0, none⟩) N N] W fun e w' => e = .returned (.bool nb) ∧ Below W.heap.size W w' by
              have := refNeeds_any q (some ⟨gv, 0, none⟩) N ts W hat htm HOK.out (by rw [hT]; exact htb2)
              rw [← PoD.isOfB_yes hf0 (by rw [hT]; exact htb2), ← htl, hT] at this
              rw [show q.d.isOfB _ T = nb from hnb] at this
              exact this))
            clear hka hnb htb2
            have hkk : (ka == ka) = true := by simp
            have hnn2 : (nb == nb) = true := by simp
            clear hnn hll hml hT htl hf0 HTS HNS HTL HML BS LS c40 hcx hfz hd0
            go_upto_region 7 with (fail)
            have LG := Lib.hid (show ∀ V, (∃ cc : Cls (fun W => Below wS.heap.size wS W), V = cc.val) → V.rangeAt w.heap.size 0 q.cells by
              rintro V ⟨cc, rfl⟩
              exact Lies.range (cs := q.cells) (L.out.call cc.h) (fun j v hj => by simpa using hj))
            haveI hne : Nonempty (Cls (fun W => Below wS.heap.size wS W)) := ⟨⟨wS, Below.refl _ _⟩⟩
            refine wp_region_wayw [0, 2, 5, 7] (.way 1 (.way 3 (.way 4 (.way 6 (.way 8 (.way 9 (.take 10 (.take 11 .fin)) .fin) .fin) .fin) .fin) .fin) .fin) (fun W => ∃ cc : Cls (fun W => Below wS.heap.size wS W), W = cc.val) (by kernel_rfl) (by kernel_rfl) (Cls.here (Below.refl _ _).drew) ?_
            simp only [List.filterMap_cons, List.filterMap_nil, List.getElem?_toArray, List.getElem?_cons_zero, List.getElem?_cons_succ]
            repeat (first
              | (refine wpQuiet_load_wholeG (o := ⟨some 54, _, _, _, _, _⟩) ?_ 26 (.tmp 6) ?_ w.heap.size 0 ?_ q.cells _ LG.out Try.underlying26 rfl size_rp ?_; rfl; rfl; rfl; simp only [Act.put, List.setIfInBounds_toArray, List.set_cons_zero, List.set_cons_succ])
              | (refine wpQuiet_load_wholeG (o := ⟨some 59, _, _, _, _, _⟩) ?_ 26 (.tmp 6) ?_ w.heap.size 0 ?_ q.cells _ LG.out Try.underlying26 rfl size_rp ?_; rfl; rfl; rfl; simp only [Act.put, List.setIfInBounds_toArray, List.set_cons_zero, List.set_cons_succ])
              | go_big_quiet_step (rfl) | quiet_step (rfl))
            refine wpQuiet_nil ?_
            clear LG
            have D := Lib.hid (show Below wS.heap.size wS wS.drew from (Below.refl _ _).drew)
            replace B := Lib.hid (B.out.trans (D.out.mono B.out.size))
            replace TM := Lib.hid (TM.out.below D.out D.out.size)
            replace L := Lib.hid (L.out.call D.out)
            generalize wS.drew = d0 at *
            rw [wpWy_way]
            refine ⟨?_, by exact trivial⟩
            simp only [List.getElem?_toArray, List.getElem?_cons_succ, List.getElem?_cons_zero]
            go_wp2_with (go_at_call 18; refine (Copy_any q _ (HAT.out.below B.out B.out.size) HL15.out).mono ?_; rintro e d' ⟨A81, c81, rfl, hat, hb⟩)
            replace D := Lib.hid (D.out.trans (hb.mono D.out.size))
            replace B := Lib.hid (B.out.trans (hb.mono B.out.size))
            replace TM := Lib.hid (TM.out.below hb hb.size)
            replace L := Lib.hid (L.out.call hb)
            have TC81 := Lib.hid hat
            clear hat
            clear hb
            refine Ends.intro ⟨Cls.here D.out, ?_⟩
            rw [wpWy_way]
            refine ⟨?_, by exact trivial⟩
            simp only [List.getElem?_toArray, List.getElem?_cons_succ, List.getElem?_cons_zero]
            go_wp2_with (go_at_call 36; refine (HRO.out _ TM.out).mono ?_; rintro e d' ⟨out82, A82, c82, rfl, hol, hot, hb⟩)
            replace D := Lib.hid (D.out.trans (hb.mono D.out.size))
            replace B := Lib.hid (B.out.trans (hb.mono B.out.size))
            replace TM := Lib.hid (TM.out.below hb hb.size)
            replace L := Lib.hid (L.out.call hb)
            replace TC81 := Lib.hid (TC81.out.below hb hb.size)
            have HO82 := Lib.hid hol
            have HT82 := Lib.hid hot
            clear hol hot
            clear hb
            refine Ends.intro ⟨Cls.here D.out, ?_⟩
            rw [wpWy_way]
            refine ⟨?_, by exact trivial⟩
            simp only [List.getElem?_toArray, List.getElem?_cons_succ, List.getElem?_cons_zero]
            go_wp2_with (go_at_call 35; refine (HPK.out A81 c81 A82 out82 c82 _ TC81.out HT82.out HO82.out).mono ?_; rintro e d' ⟨rfl, hb⟩)
            replace D := Lib.hid (D.out.trans (hb.mono D.out.size))
            replace B := Lib.hid (B.out.trans (hb.mono B.out.size))
            replace TM := Lib.hid (TM.out.below hb hb.size)
            replace L := Lib.hid (L.out.call hb)
            clear hb
            refine Ends.intro ⟨Cls.here D.out, ?_⟩
            rw [wpWy_way]
            refine ⟨?_, by exact trivial⟩
            simp only [List.getElem?_toArray, List.getElem?_cons_succ, List.getElem?_cons_zero]
            go_wp2_with (go_at_call 18; refine (Copy_any q _ (HAT.out.below B.out B.out.size) HL15.out).mono ?_; rintro e d' ⟨A83, c83, rfl, hat, hb⟩)
            replace D := Lib.hid (D.out.trans (hb.mono D.out.size))
            replace B := Lib.hid (B.out.trans (hb.mono B.out.size))
            replace TM := Lib.hid (TM.out.below hb hb.size)
            replace L := Lib.hid (L.out.call hb)
            have TC83 := Lib.hid hat
            clear hat
            clear hb
            refine Ends.intro ⟨Cls.here D.out, ?_⟩
            rw [wpWy_way]
            refine ⟨?_, by exact trivial⟩
            simp only [List.getElem?_toArray, List.getElem?_cons_succ, List.getElem?_cons_zero]
            go_wp2_with (go_at_call 36; refine (HRO.out _ TM.out).mono ?_; rintro e d' ⟨out84, A84, c84, rfl, hol, hot, hb⟩)
            replace D := Lib.hid (D.out.trans (hb.mono D.out.size))
            replace B := Lib.hid (B.out.trans (hb.mono B.out.size))
            replace TM := Lib.hid (TM.out.below hb hb.size)
            replace L := Lib.hid (L.out.call hb)
            replace TC83 := Lib.hid (TC83.out.below hb hb.size)
            have HO84 := Lib.hid hol
            have HT84 := Lib.hid hot
            clear hol hot
            clear hb
            refine Ends.intro ⟨Cls.here D.out, ?_⟩
            rw [wpWy_way]
            refine ⟨?_, by exact trivial⟩
            simp only [List.getElem?_toArray, List.getElem?_cons_succ, List.getElem?_cons_zero]
            go_wp2_with (go_at_call 37; refine (HPN.out A83 c83 A84 out84 c84 _ TC83.out HT84.out HO84.out).mono ?_; rintro e d' ⟨rfl, hb⟩)
            replace D := Lib.hid (D.out.trans (hb.mono D.out.size))
            replace B := Lib.hid (B.out.trans (hb.mono B.out.size))
            replace TM := Lib.hid (TM.out.below hb hb.size)
            replace L := Lib.hid (L.out.call hb)
            clear hb
            refine Ends.intro ⟨Cls.here D.out, ?_⟩
            rw [wpWy_take]
            simp only [List.getElem?_toArray, List.getElem?_cons_succ, List.getElem?_cons_zero]
            first | go_big_quiet_step (rfl) | quiet_step (rfl)
            refine wpQuiet_nil ?_
            rw [wpWy_take]
            simp only [List.getElem?_toArray, List.getElem?_cons_succ, List.getElem?_cons_zero]
            first | go_big_quiet_step (rfl) | quiet_step (rfl)
            refine wpQuiet_nil ?_
            rw [wpWy_fin]
            clear D
            have K0 := Lib.hid True.intro
            go_wp2_with (first
                | (have h := K0; clear h; refine wpList_load_row (o := ⟨some 64, _, _, _, _, _⟩) ?_ 26 (.tmp 6) ?_ w.heap.size ?_ 26 q.cells.toArray (0, 0) _ L.out Try.underlying26 rfl size_rp ?_; rfl; rfl; rfl; have K1 := Lib.hid True.intro; clear K0)
                | (have h := K1; clear h; go_at_call 20; refine (HFA.out _ (HAT.out.below B.out B.out.size)).mono ?_; rintro e w' ⟨rfl, hb⟩; replace B := Lib.hid (B.out.trans (hb.mono B.out.size)); replace L := Lib.hid (L.out.call hb); replace TM := Lib.hid (TM.out.below hb hb.size); clear hb; have K2 := Lib.hid True.intro; clear K1)
                | (have h := K2; clear h; refine wpList_load_rowG (o := ⟨some 68, _, _, _, _, _⟩) ?_ 26 (.tmp 6) ?_ w.heap.size ?_ 26 q.cells.toArray (0, 0) _ L.out Try.underlying26 rfl size_rp ?_; kernel_rfl; rfl; rfl; have K3 := Lib.hid True.intro; clear K2)
                | (have h := K3; clear h; go_at_call 38; refine (HIT.out _ TM.out).mono ?_; rintro e w' ⟨rfl, hb⟩; replace B := Lib.hid (B.out.trans (hb.mono B.out.size)); replace L := Lib.hid (L.out.call hb); replace TM := Lib.hid (TM.out.below hb hb.size); clear hb; have K4 := Lib.hid True.intro; clear K3)
                | (have h := K4; clear h; refine wpList_load_row (o := ⟨some 83, _, _, _, _, _⟩) ?_ 26 (.tmp 6) ?_ w.heap.size ?_ 26 q.cells.toArray (0, 0) _ L.out Try.underlying26 rfl size_rp ?_; rfl; rfl; rfl; have K5 := Lib.hid True.intro; clear K4)
                | (have h := K5; clear h; go_at_call 39; refine (HRK.out _ (HAT.out.below B.out B.out.size) TM.out).mono ?_; rintro e w' ⟨rfl, hb⟩; replace B := Lib.hid (B.out.trans (hb.mono B.out.size)); replace L := Lib.hid (L.out.call hb); replace TM := Lib.hid (TM.out.below hb hb.size); clear hb; have K6 := Lib.hid True.intro; clear K5)
                | (have h := K6; clear h; refine wpList_load_rowG (o := ⟨some 89, _, _, _, _, _⟩) ?_ 26 (.tmp 6) ?_ w.heap.size ?_ 26 q.cells.toArray (0, 0) _ L.out Try.underlying26 rfl size_rp ?_; kernel_rfl; rfl; rfl; have K7 := Lib.hid True.intro; clear K6)
                | (have h := K7; clear h; go_at_call 40; refine (HRN.out _ (HAT.out.below B.out B.out.size) TM.out).mono ?_; rintro e w' ⟨rfl, hb⟩; replace B := Lib.hid (B.out.trans (hb.mono B.out.size)); replace L := Lib.hid (L.out.call hb); replace TM := Lib.hid (TM.out.below hb hb.size); clear hb; have K8 := Lib.hid True.intro; clear K7)
                | (have h := K8; clear h; go_at_call 16; refine (wakes_any _).mono ?_; rintro e w' ⟨rfl, hb⟩; replace B := Lib.hid (B.out.trans (hb.mono B.out.size)); replace L := Lib.hid (L.out.call hb); replace TM := Lib.hid (TM.out.below hb hb.size); clear hb; have K9 := Lib.hid True.intro; clear K8))
            go_ret
            exact ⟨rfl, B.out⟩
          · have htb2 : q.d.tabB T = false := by simpa using htb2
            have HRO := Lib.hid (fun W (htm : TabM (some ⟨gv, 0, none⟩) ts W W.heap.size) => (show Calls Try.prog 36 #[.slice (some ⟨gv, 0, none⟩) N N] W (RowsT T W) by
              have := rows_tab (some ⟨gv, 0, none⟩) N ts W htm hnn hll hml
              rw [← htl, hT] at this
              exact this))
            have hka : q.d.keepsR T = false := PoD.isOfB_not (.inr htb2)
            have hnb : q.d.needsR T = false := PoD.isOfB_not (.inr htb2)
            have HPK := Lib.hid (fun A c (Ao : Option Addr) out co W (hat : (q.withA A c).At W W.heap.size) (hto : TabM Ao out W W.heap.size) (hoT : out.map Sv.l = T) => (show Calls Try.prog 35 #[.agg (q.withA A c).cells.toArray, .slice Ao out.length co] W fun e w' => e = .returned (.bool false) ∧ Below W.heap.size W w' by
              have := ProveKeeps_any (q.withA A c) Ao co out W hat hto
              rw [hoT, show (q.withA A c).d.keepsR T = false from hka] at this
              exact this))
            have HPN := Lib.hid (fun A c (Ao : Option Addr) out co W (hat : (q.withA A c).At W W.heap.size) (hto : TabM Ao out W W.heap.size) (hoT : out.map Sv.l = T) => (show Calls Try.prog 37 #[.agg (q.withA A c).cells.toArray, .slice Ao out.length co] W fun e w' => e = .returned (.bool false) ∧ Below W.heap.size W w' by
              have := ProveNeeds_any (q.withA A c) Ao co out W hat hto
              rw [hoT, show (q.withA A c).d.needsR T = false from hnb] at this
              exact this))
            have HIT := Lib.hid (fun W (htm : TabM (some ⟨gv, 0, none⟩) ts W W.heap.size) => (show Calls Try.prog 38 #[.agg q.cells.toArray, .slice (some ⟨gv, 0, none⟩) N N] W fun e w' => e = .returned (.bool false) ∧ Below W.heap.size W w' by
              have := IsTable_any q (some ⟨gv, 0, none⟩) N ts W htm HOK.out
              rw [← htl, hT, htb2] at this
              exact this))
            clear hka hnb htb2
            clear hnn hll hml hT htl hf0 HTS HNS HTL HML BS LS c40 hcx hfz hd0
            go_upto_region 7 with (fail)
            have LG := Lib.hid (show ∀ V, (∃ cc : Cls (fun W => Below wS.heap.size wS W), V = cc.val) → V.rangeAt w.heap.size 0 q.cells by
              rintro V ⟨cc, rfl⟩
              exact Lies.range (cs := q.cells) (L.out.call cc.h) (fun j v hj => by simpa using hj))
            haveI hne : Nonempty (Cls (fun W => Below wS.heap.size wS W)) := ⟨⟨wS, Below.refl _ _⟩⟩
            refine wp_region_wayw [0, 2, 5, 7] (.way 1 (.way 3 (.way 4 (.way 6 (.way 8 (.way 9 (.take 10 (.take 11 .fin)) .fin) .fin) .fin) .fin) .fin) .fin) (fun W => ∃ cc : Cls (fun W => Below wS.heap.size wS W), W = cc.val) (by kernel_rfl) (by kernel_rfl) (Cls.here (Below.refl _ _).drew) ?_
            simp only [List.filterMap_cons, List.filterMap_nil, List.getElem?_toArray, List.getElem?_cons_zero, List.getElem?_cons_succ]
            repeat (first
              | (refine wpQuiet_load_wholeG (o := ⟨some 54, _, _, _, _, _⟩) ?_ 26 (.tmp 6) ?_ w.heap.size 0 ?_ q.cells _ LG.out Try.underlying26 rfl size_rp ?_; rfl; rfl; rfl; simp only [Act.put, List.setIfInBounds_toArray, List.set_cons_zero, List.set_cons_succ])
              | (refine wpQuiet_load_wholeG (o := ⟨some 59, _, _, _, _, _⟩) ?_ 26 (.tmp 6) ?_ w.heap.size 0 ?_ q.cells _ LG.out Try.underlying26 rfl size_rp ?_; rfl; rfl; rfl; simp only [Act.put, List.setIfInBounds_toArray, List.set_cons_zero, List.set_cons_succ])
              | go_big_quiet_step (rfl) | quiet_step (rfl))
            refine wpQuiet_nil ?_
            clear LG
            have D := Lib.hid (show Below wS.heap.size wS wS.drew from (Below.refl _ _).drew)
            replace B := Lib.hid (B.out.trans (D.out.mono B.out.size))
            replace TM := Lib.hid (TM.out.below D.out D.out.size)
            replace L := Lib.hid (L.out.call D.out)
            generalize wS.drew = d0 at *
            rw [wpWy_way]
            refine ⟨?_, by exact trivial⟩
            simp only [List.getElem?_toArray, List.getElem?_cons_succ, List.getElem?_cons_zero]
            go_wp2_with (go_at_call 18; refine (Copy_any q _ (HAT.out.below B.out B.out.size) HL15.out).mono ?_; rintro e d' ⟨A81, c81, rfl, hat, hb⟩)
            replace D := Lib.hid (D.out.trans (hb.mono D.out.size))
            replace B := Lib.hid (B.out.trans (hb.mono B.out.size))
            replace TM := Lib.hid (TM.out.below hb hb.size)
            replace L := Lib.hid (L.out.call hb)
            have TC81 := Lib.hid hat
            clear hat
            clear hb
            refine Ends.intro ⟨Cls.here D.out, ?_⟩
            rw [wpWy_way]
            refine ⟨?_, by exact trivial⟩
            simp only [List.getElem?_toArray, List.getElem?_cons_succ, List.getElem?_cons_zero]
            go_wp2_with (go_at_call 36; refine (HRO.out _ TM.out).mono ?_; rintro e d' ⟨out82, A82, c82, rfl, hol, hot, hb⟩)
            replace D := Lib.hid (D.out.trans (hb.mono D.out.size))
            replace B := Lib.hid (B.out.trans (hb.mono B.out.size))
            replace TM := Lib.hid (TM.out.below hb hb.size)
            replace L := Lib.hid (L.out.call hb)
            replace TC81 := Lib.hid (TC81.out.below hb hb.size)
            have HO82 := Lib.hid hol
            have HT82 := Lib.hid hot
            clear hol hot
            clear hb
            refine Ends.intro ⟨Cls.here D.out, ?_⟩
            rw [wpWy_way]
            refine ⟨?_, by exact trivial⟩
            simp only [List.getElem?_toArray, List.getElem?_cons_succ, List.getElem?_cons_zero]
            go_wp2_with (go_at_call 35; refine (HPK.out A81 c81 A82 out82 c82 _ TC81.out HT82.out HO82.out).mono ?_; rintro e d' ⟨rfl, hb⟩)
            replace D := Lib.hid (D.out.trans (hb.mono D.out.size))
            replace B := Lib.hid (B.out.trans (hb.mono B.out.size))
            replace TM := Lib.hid (TM.out.below hb hb.size)
            replace L := Lib.hid (L.out.call hb)
            clear hb
            refine Ends.intro ⟨Cls.here D.out, ?_⟩
            rw [wpWy_way]
            refine ⟨?_, by exact trivial⟩
            simp only [List.getElem?_toArray, List.getElem?_cons_succ, List.getElem?_cons_zero]
            go_wp2_with (go_at_call 18; refine (Copy_any q _ (HAT.out.below B.out B.out.size) HL15.out).mono ?_; rintro e d' ⟨A83, c83, rfl, hat, hb⟩)
            replace D := Lib.hid (D.out.trans (hb.mono D.out.size))
            replace B := Lib.hid (B.out.trans (hb.mono B.out.size))
            replace TM := Lib.hid (TM.out.below hb hb.size)
            replace L := Lib.hid (L.out.call hb)
            have TC83 := Lib.hid hat
            clear hat
            clear hb
            refine Ends.intro ⟨Cls.here D.out, ?_⟩
            rw [wpWy_way]
            refine ⟨?_, by exact trivial⟩
            simp only [List.getElem?_toArray, List.getElem?_cons_succ, List.getElem?_cons_zero]
            go_wp2_with (go_at_call 36; refine (HRO.out _ TM.out).mono ?_; rintro e d' ⟨out84, A84, c84, rfl, hol, hot, hb⟩)
            replace D := Lib.hid (D.out.trans (hb.mono D.out.size))
            replace B := Lib.hid (B.out.trans (hb.mono B.out.size))
            replace TM := Lib.hid (TM.out.below hb hb.size)
            replace L := Lib.hid (L.out.call hb)
            replace TC83 := Lib.hid (TC83.out.below hb hb.size)
            have HO84 := Lib.hid hol
            have HT84 := Lib.hid hot
            clear hol hot
            clear hb
            refine Ends.intro ⟨Cls.here D.out, ?_⟩
            rw [wpWy_way]
            refine ⟨?_, by exact trivial⟩
            simp only [List.getElem?_toArray, List.getElem?_cons_succ, List.getElem?_cons_zero]
            go_wp2_with (go_at_call 37; refine (HPN.out A83 c83 A84 out84 c84 _ TC83.out HT84.out HO84.out).mono ?_; rintro e d' ⟨rfl, hb⟩)
            replace D := Lib.hid (D.out.trans (hb.mono D.out.size))
            replace B := Lib.hid (B.out.trans (hb.mono B.out.size))
            replace TM := Lib.hid (TM.out.below hb hb.size)
            replace L := Lib.hid (L.out.call hb)
            clear hb
            refine Ends.intro ⟨Cls.here D.out, ?_⟩
            rw [wpWy_take]
            simp only [List.getElem?_toArray, List.getElem?_cons_succ, List.getElem?_cons_zero]
            first | go_big_quiet_step (rfl) | quiet_step (rfl)
            refine wpQuiet_nil ?_
            rw [wpWy_take]
            simp only [List.getElem?_toArray, List.getElem?_cons_succ, List.getElem?_cons_zero]
            first | go_big_quiet_step (rfl) | quiet_step (rfl)
            refine wpQuiet_nil ?_
            rw [wpWy_fin]
            clear D
            have K0 := Lib.hid True.intro
            go_wp2_with (first
                | (have h := K0; clear h; refine wpList_load_row (o := ⟨some 64, _, _, _, _, _⟩) ?_ 26 (.tmp 6) ?_ w.heap.size ?_ 26 q.cells.toArray (0, 0) _ L.out Try.underlying26 rfl size_rp ?_; rfl; rfl; rfl; have K1 := Lib.hid True.intro; clear K0)
                | (have h := K1; clear h; go_at_call 20; refine (HFA.out _ (HAT.out.below B.out B.out.size)).mono ?_; rintro e w' ⟨rfl, hb⟩; replace B := Lib.hid (B.out.trans (hb.mono B.out.size)); replace L := Lib.hid (L.out.call hb); replace TM := Lib.hid (TM.out.below hb hb.size); clear hb; have K2 := Lib.hid True.intro; clear K1)
                | (have h := K2; clear h; refine wpList_load_rowG (o := ⟨some 68, _, _, _, _, _⟩) ?_ 26 (.tmp 6) ?_ w.heap.size ?_ 26 q.cells.toArray (0, 0) _ L.out Try.underlying26 rfl size_rp ?_; kernel_rfl; rfl; rfl; have K3 := Lib.hid True.intro; clear K2)
                | (have h := K3; clear h; go_at_call 38; refine (HIT.out _ TM.out).mono ?_; rintro e w' ⟨rfl, hb⟩; replace B := Lib.hid (B.out.trans (hb.mono B.out.size)); replace L := Lib.hid (L.out.call hb); replace TM := Lib.hid (TM.out.below hb hb.size); clear hb; have K4 := Lib.hid True.intro; clear K3)
                | (have h := K4; clear h; go_at_call 16; refine (wakes_any _).mono ?_; rintro e w' ⟨rfl, hb⟩; replace B := Lib.hid (B.out.trans (hb.mono B.out.size)); replace L := Lib.hid (L.out.call hb); replace TM := Lib.hid (TM.out.below hb hb.size); clear hb; have K5 := Lib.hid True.intro; clear K4))
            go_ret
            exact ⟨rfl, B.out⟩
      · obtain ⟨ff, hff⟩ : ∃ ff, q.d.fault = ff := ⟨_, rfl⟩
        have HFA := Lib.hid (fun W (hq : q.At W W.heap.size) => (show Calls Try.prog 20 #[.agg q.cells.toArray] W fun e w' => e = .returned (.int .i64 ff) ∧ Below W.heap.size W w' by
          have := lawFault_any q W hq
          rw [hff] at this
          exact this))
        have hne : ((ff : Int) == 0) = false := by rw [← hff]; simpa using hf0
        have hne2 : ((ff : Int) != 0) = true := by rw [← hff]; simpa using hf0
        cases own
        · obtain ⟨tA, htA⟩ : ∃ tA, tA = t.A := ⟨_, rfl⟩
          obtain ⟨tc, htc⟩ : ∃ tc, tc = t.c := ⟨_, rfl⟩
          obtain ⟨ts, hts⟩ : ∃ ts, ts = t.l := ⟨_, rfl⟩
          rw [← htA, ← htc, ← hts]
          rw [← hts] at HTM HTB HNN HLM HLL
          rw [← htA] at HTM HTB
          rw [← htc] at HTB
          clear htA htc hts
          obtain ⟨tl, htl⟩ : ∃ tl, tl = ts.length := ⟨_, rfl⟩
          obtain ⟨T, hT⟩ : ∃ T, ts.map Sv.l = T := ⟨_, rfl⟩
          rw [← htl]
          rw [← htl] at HTB
          have hnn := HNN.out
          have hll : ts.length ≤ 100 := by have := HLL.out; omega
          have hml : ∀ s, s ∈ ts → s.l.length ≤ 1000 := fun s hs => by have := HLM.out s hs; omega
          have HRO := Lib.hid (fun W (htm : TabM tA ts W W.heap.size) => (show Calls Try.prog 36 #[.slice tA tl tc] W (RowsT T W) by
            have := rows_tab tA tc ts W htm hnn hll hml
            rw [← htl, hT] at this
            exact this))
          have hka : q.d.keepsR T = false := PoD.isOfB_not (.inl hf0)
          have hnb : q.d.needsR T = false := PoD.isOfB_not (.inl hf0)
          have HPK := Lib.hid (fun A c (Ao : Option Addr) out co W (hat : (q.withA A c).At W W.heap.size) (hto : TabM Ao out W W.heap.size) (hoT : out.map Sv.l = T) => (show Calls Try.prog 35 #[.agg (q.withA A c).cells.toArray, .slice Ao out.length co] W fun e w' => e = .returned (.bool false) ∧ Below W.heap.size W w' by
            have := ProveKeeps_any (q.withA A c) Ao co out W hat hto
            rw [hoT, show (q.withA A c).d.keepsR T = false from hka] at this
            exact this))
          have HPN := Lib.hid (fun A c (Ao : Option Addr) out co W (hat : (q.withA A c).At W W.heap.size) (hto : TabM Ao out W W.heap.size) (hoT : out.map Sv.l = T) => (show Calls Try.prog 37 #[.agg (q.withA A c).cells.toArray, .slice Ao out.length co] W fun e w' => e = .returned (.bool false) ∧ Below W.heap.size W w' by
            have := ProveNeeds_any (q.withA A c) Ao co out W hat hto
            rw [hoT, show (q.withA A c).d.needsR T = false from hnb] at this
            exact this))
          clear hka hnb
          clear hnn hll hml hT htl HNN HLM HLL
          go_enter Try.func7, Try.ntmps7
          go_upto_region 1 with (fail)
          change Code.wp _ _ _ _ (w.alloc (.cells q.cells.toArray 26))
          generalize w.alloc (.cells q.cells.toArray 26) = w1 at *
          go_upto_region 7 with (first
                | (have h := K16; clear h; refine wpList_load_row (o := ⟨some 16, _, _, _, _, _⟩) ?_ 26 (.tmp 6) ?_ w.heap.size ?_ 26 q.cells.toArray (0, 0) _ L.out Try.underlying26 rfl size_rp ?_; rfl; rfl; rfl; have K17 := Lib.hid True.intro; clear K16)
                | (have h := K17; clear h; go_at_call 15; refine (HTH.out _).mono ?_; rintro e w2 ⟨rfl, hb⟩; replace B := Lib.hid (B.out.trans (hb.mono B.out.size)); replace L := Lib.hid (L.out.call hb); clear hb; have K21 := Lib.hid True.intro; clear K17)
                | (have h := K21; clear h; go_at_call 34; refine (HTB.out _ B.out).mono ?_; rintro e w3 ⟨rfl, hb⟩; replace B := Lib.hid (B.out.trans (hb.mono B.out.size)); replace L := Lib.hid (L.out.call hb); clear hb; have K27 := Lib.hid True.intro; clear K21))
          have TM := Lib.hid (HTM.out.below B.out B.out.size)
          clear HTM HTB HTH
          go_upto_region 7 with (fail)
          have LG := Lib.hid (show ∀ V, (∃ cc : Cls (fun W => Below w3.heap.size w3 W), V = cc.val) → V.rangeAt w.heap.size 0 q.cells by
            rintro V ⟨cc, rfl⟩
            exact Lies.range (cs := q.cells) (L.out.call cc.h) (fun j v hj => by simpa using hj))
          haveI hne : Nonempty (Cls (fun W => Below w3.heap.size w3 W)) := ⟨⟨w3, Below.refl _ _⟩⟩
          refine wp_region_wayw [0, 2, 5, 7] (.way 1 (.way 3 (.way 4 (.way 6 (.way 8 (.way 9 (.take 10 (.take 11 .fin)) .fin) .fin) .fin) .fin) .fin) .fin) (fun W => ∃ cc : Cls (fun W => Below w3.heap.size w3 W), W = cc.val) (by kernel_rfl) (by kernel_rfl) (Cls.here (Below.refl _ _).drew) ?_
          simp only [List.filterMap_cons, List.filterMap_nil, List.getElem?_toArray, List.getElem?_cons_zero, List.getElem?_cons_succ]
          repeat (first
            | (refine wpQuiet_load_wholeG (o := ⟨some 54, _, _, _, _, _⟩) ?_ 26 (.tmp 6) ?_ w.heap.size 0 ?_ q.cells _ LG.out Try.underlying26 rfl size_rp ?_; rfl; rfl; rfl; simp only [Act.put, List.setIfInBounds_toArray, List.set_cons_zero, List.set_cons_succ])
            | (refine wpQuiet_load_wholeG (o := ⟨some 59, _, _, _, _, _⟩) ?_ 26 (.tmp 6) ?_ w.heap.size 0 ?_ q.cells _ LG.out Try.underlying26 rfl size_rp ?_; rfl; rfl; rfl; simp only [Act.put, List.setIfInBounds_toArray, List.set_cons_zero, List.set_cons_succ])
            | go_big_quiet_step (rfl) | quiet_step (rfl))
          refine wpQuiet_nil ?_
          clear LG
          have D := Lib.hid (show Below w3.heap.size w3 w3.drew from (Below.refl _ _).drew)
          replace B := Lib.hid (B.out.trans (D.out.mono B.out.size))
          replace TM := Lib.hid (TM.out.below D.out D.out.size)
          replace L := Lib.hid (L.out.call D.out)
          generalize w3.drew = d0 at *
          rw [wpWy_way]
          refine ⟨?_, by exact trivial⟩
          simp only [List.getElem?_toArray, List.getElem?_cons_succ, List.getElem?_cons_zero]
          go_wp2_with (go_at_call 18; refine (Copy_any q _ (HAT.out.below B.out B.out.size) HL15.out).mono ?_; rintro e d' ⟨A81, c81, rfl, hat, hb⟩)
          replace D := Lib.hid (D.out.trans (hb.mono D.out.size))
          replace B := Lib.hid (B.out.trans (hb.mono B.out.size))
          replace TM := Lib.hid (TM.out.below hb hb.size)
          replace L := Lib.hid (L.out.call hb)
          have TC81 := Lib.hid hat
          clear hat
          clear hb
          refine Ends.intro ⟨Cls.here D.out, ?_⟩
          rw [wpWy_way]
          refine ⟨?_, by exact trivial⟩
          simp only [List.getElem?_toArray, List.getElem?_cons_succ, List.getElem?_cons_zero]
          go_wp2_with (go_at_call 36; refine (HRO.out _ TM.out).mono ?_; rintro e d' ⟨out82, A82, c82, rfl, hol, hot, hb⟩)
          replace D := Lib.hid (D.out.trans (hb.mono D.out.size))
          replace B := Lib.hid (B.out.trans (hb.mono B.out.size))
          replace TM := Lib.hid (TM.out.below hb hb.size)
          replace L := Lib.hid (L.out.call hb)
          replace TC81 := Lib.hid (TC81.out.below hb hb.size)
          have HO82 := Lib.hid hol
          have HT82 := Lib.hid hot
          clear hol hot
          clear hb
          refine Ends.intro ⟨Cls.here D.out, ?_⟩
          rw [wpWy_way]
          refine ⟨?_, by exact trivial⟩
          simp only [List.getElem?_toArray, List.getElem?_cons_succ, List.getElem?_cons_zero]
          go_wp2_with (go_at_call 35; refine (HPK.out A81 c81 A82 out82 c82 _ TC81.out HT82.out HO82.out).mono ?_; rintro e d' ⟨rfl, hb⟩)
          replace D := Lib.hid (D.out.trans (hb.mono D.out.size))
          replace B := Lib.hid (B.out.trans (hb.mono B.out.size))
          replace TM := Lib.hid (TM.out.below hb hb.size)
          replace L := Lib.hid (L.out.call hb)
          clear hb
          refine Ends.intro ⟨Cls.here D.out, ?_⟩
          rw [wpWy_way]
          refine ⟨?_, by exact trivial⟩
          simp only [List.getElem?_toArray, List.getElem?_cons_succ, List.getElem?_cons_zero]
          go_wp2_with (go_at_call 18; refine (Copy_any q _ (HAT.out.below B.out B.out.size) HL15.out).mono ?_; rintro e d' ⟨A83, c83, rfl, hat, hb⟩)
          replace D := Lib.hid (D.out.trans (hb.mono D.out.size))
          replace B := Lib.hid (B.out.trans (hb.mono B.out.size))
          replace TM := Lib.hid (TM.out.below hb hb.size)
          replace L := Lib.hid (L.out.call hb)
          have TC83 := Lib.hid hat
          clear hat
          clear hb
          refine Ends.intro ⟨Cls.here D.out, ?_⟩
          rw [wpWy_way]
          refine ⟨?_, by exact trivial⟩
          simp only [List.getElem?_toArray, List.getElem?_cons_succ, List.getElem?_cons_zero]
          go_wp2_with (go_at_call 36; refine (HRO.out _ TM.out).mono ?_; rintro e d' ⟨out84, A84, c84, rfl, hol, hot, hb⟩)
          replace D := Lib.hid (D.out.trans (hb.mono D.out.size))
          replace B := Lib.hid (B.out.trans (hb.mono B.out.size))
          replace TM := Lib.hid (TM.out.below hb hb.size)
          replace L := Lib.hid (L.out.call hb)
          replace TC83 := Lib.hid (TC83.out.below hb hb.size)
          have HO84 := Lib.hid hol
          have HT84 := Lib.hid hot
          clear hol hot
          clear hb
          refine Ends.intro ⟨Cls.here D.out, ?_⟩
          rw [wpWy_way]
          refine ⟨?_, by exact trivial⟩
          simp only [List.getElem?_toArray, List.getElem?_cons_succ, List.getElem?_cons_zero]
          go_wp2_with (go_at_call 37; refine (HPN.out A83 c83 A84 out84 c84 _ TC83.out HT84.out HO84.out).mono ?_; rintro e d' ⟨rfl, hb⟩)
          replace D := Lib.hid (D.out.trans (hb.mono D.out.size))
          replace B := Lib.hid (B.out.trans (hb.mono B.out.size))
          replace TM := Lib.hid (TM.out.below hb hb.size)
          replace L := Lib.hid (L.out.call hb)
          clear hb
          refine Ends.intro ⟨Cls.here D.out, ?_⟩
          rw [wpWy_take]
          simp only [List.getElem?_toArray, List.getElem?_cons_succ, List.getElem?_cons_zero]
          first | go_big_quiet_step (rfl) | quiet_step (rfl)
          refine wpQuiet_nil ?_
          rw [wpWy_take]
          simp only [List.getElem?_toArray, List.getElem?_cons_succ, List.getElem?_cons_zero]
          first | go_big_quiet_step (rfl) | quiet_step (rfl)
          refine wpQuiet_nil ?_
          rw [wpWy_fin]
          clear D
          have K0 := Lib.hid True.intro
          go_wp2_with (first
              | (have h := K0; clear h; refine wpList_load_row (o := ⟨some 64, _, _, _, _, _⟩) ?_ 26 (.tmp 6) ?_ w.heap.size ?_ 26 q.cells.toArray (0, 0) _ L.out Try.underlying26 rfl size_rp ?_; rfl; rfl; rfl; have K1 := Lib.hid True.intro; clear K0)
              | (have h := K1; clear h; go_at_call 20; refine (HFA.out _ (HAT.out.below B.out B.out.size)).mono ?_; rintro e w' ⟨rfl, hb⟩; replace B := Lib.hid (B.out.trans (hb.mono B.out.size)); replace L := Lib.hid (L.out.call hb); replace TM := Lib.hid (TM.out.below hb hb.size); clear hb; have K2 := Lib.hid True.intro; clear K1)
              | (have h := K2; clear h; go_at_call 16; refine (wakes_any _).mono ?_; rintro e w' ⟨rfl, hb⟩; replace B := Lib.hid (B.out.trans (hb.mono B.out.size)); replace L := Lib.hid (L.out.call hb); replace TM := Lib.hid (TM.out.below hb hb.size); clear hb; have K3 := Lib.hid True.intro; clear K2))
          go_ret
          exact ⟨rfl, B.out⟩
        · obtain ⟨tA, htA⟩ : ∃ tA, tA = t.A := ⟨_, rfl⟩
          obtain ⟨tc, htc⟩ : ∃ tc, tc = t.c := ⟨_, rfl⟩
          obtain ⟨ts, hts⟩ : ∃ ts, ts = t.l := ⟨_, rfl⟩
          rw [← htA, ← htc, ← hts]
          rw [← hts] at HTM HTB HNN HLM HLL
          rw [← htA] at HTM HTB
          rw [← htc] at HTB
          clear htA htc hts
          obtain ⟨tl, htl⟩ : ∃ tl, tl = ts.length := ⟨_, rfl⟩
          obtain ⟨T, hT⟩ : ∃ T, ts.map Sv.l = T := ⟨_, rfl⟩
          rw [← htl]
          rw [← htl] at HTB
          have hnn := HNN.out
          have hll : ts.length ≤ 100 := by have := HLL.out; omega
          have hml : ∀ s, s ∈ ts → s.l.length ≤ 1000 := fun s hs => by have := HLM.out s hs; omega
          have HRO := Lib.hid (fun W (htm : TabM tA ts W W.heap.size) => (show Calls Try.prog 36 #[.slice tA tl tc] W (RowsT T W) by
            have := rows_tab tA tc ts W htm hnn hll hml
            rw [← htl, hT] at this
            exact this))
          have hka : q.d.keepsR T = false := PoD.isOfB_not (.inl hf0)
          have hnb : q.d.needsR T = false := PoD.isOfB_not (.inl hf0)
          have HPK := Lib.hid (fun A c (Ao : Option Addr) out co W (hat : (q.withA A c).At W W.heap.size) (hto : TabM Ao out W W.heap.size) (hoT : out.map Sv.l = T) => (show Calls Try.prog 35 #[.agg (q.withA A c).cells.toArray, .slice Ao out.length co] W fun e w' => e = .returned (.bool false) ∧ Below W.heap.size W w' by
            have := ProveKeeps_any (q.withA A c) Ao co out W hat hto
            rw [hoT, show (q.withA A c).d.keepsR T = false from hka] at this
            exact this))
          have HPN := Lib.hid (fun A c (Ao : Option Addr) out co W (hat : (q.withA A c).At W W.heap.size) (hto : TabM Ao out W W.heap.size) (hoT : out.map Sv.l = T) => (show Calls Try.prog 37 #[.agg (q.withA A c).cells.toArray, .slice Ao out.length co] W fun e w' => e = .returned (.bool false) ∧ Below W.heap.size W w' by
            have := ProveNeeds_any (q.withA A c) Ao co out W hat hto
            rw [hoT, show (q.withA A c).d.needsR T = false from hnb] at this
            exact this))
          clear hka hnb
          clear hnn hll hml hT htl HNN HLM HLL
          go_enter Try.func7, Try.ntmps7
          go_upto_region 1 with (fail)
          change Code.wp _ _ _ _ (w.alloc (.cells q.cells.toArray 26))
          generalize w.alloc (.cells q.cells.toArray 26) = w1 at *
          go_upto_region 7 with (first
                | (have h := K16; clear h; refine wpList_load_row (o := ⟨some 16, _, _, _, _, _⟩) ?_ 26 (.tmp 6) ?_ w.heap.size ?_ 26 q.cells.toArray (0, 0) _ L.out Try.underlying26 rfl size_rp ?_; rfl; rfl; rfl; have K17 := Lib.hid True.intro; clear K16)
                | (have h := K17; clear h; go_at_call 15; refine (HTH.out _).mono ?_; rintro e w2 ⟨rfl, hb⟩; replace B := Lib.hid (B.out.trans (hb.mono B.out.size)); replace L := Lib.hid (L.out.call hb); clear hb; have K21 := Lib.hid True.intro; clear K17)
                | (have h := K21; clear h; go_at_call 34; refine (HTB.out _ B.out).mono ?_; rintro e w3 ⟨rfl, hb⟩; replace B := Lib.hid (B.out.trans (hb.mono B.out.size)); replace L := Lib.hid (L.out.call hb); clear hb; have K27 := Lib.hid True.intro; clear K21)
                | (have h := K27; clear h; refine wpList_load_rowG (o := ⟨some 27, _, _, _, _, _⟩) ?_ 26 (.tmp 6) ?_ w.heap.size ?_ 26 q.cells.toArray (0, 0) _ L.out Try.underlying26 rfl size_rp ?_; kernel_rfl; rfl; rfl; have K28 := Lib.hid True.intro; clear K27)
                | (have h := K28; clear h; go_at_call 20; refine (HFA.out _ (HAT.out.below B.out B.out.size)).mono ?_; rintro e w4 ⟨rfl, hb⟩; replace B := Lib.hid (B.out.trans (hb.mono B.out.size)); replace L := Lib.hid (L.out.call hb); clear hb; have KR := Lib.hid True.intro; clear K28))
          have TM := Lib.hid (HTM.out.below B.out B.out.size)
          clear HTM HTB HTH
          go_upto_region 7 with (fail)
          have LG := Lib.hid (show ∀ V, (∃ cc : Cls (fun W => Below w4.heap.size w4 W), V = cc.val) → V.rangeAt w.heap.size 0 q.cells by
            rintro V ⟨cc, rfl⟩
            exact Lies.range (cs := q.cells) (L.out.call cc.h) (fun j v hj => by simpa using hj))
          haveI hne : Nonempty (Cls (fun W => Below w4.heap.size w4 W)) := ⟨⟨w4, Below.refl _ _⟩⟩
          refine wp_region_wayw [0, 2, 5, 7] (.way 1 (.way 3 (.way 4 (.way 6 (.way 8 (.way 9 (.take 10 (.take 11 .fin)) .fin) .fin) .fin) .fin) .fin) .fin) (fun W => ∃ cc : Cls (fun W => Below w4.heap.size w4 W), W = cc.val) (by kernel_rfl) (by kernel_rfl) (Cls.here (Below.refl _ _).drew) ?_
          simp only [List.filterMap_cons, List.filterMap_nil, List.getElem?_toArray, List.getElem?_cons_zero, List.getElem?_cons_succ]
          repeat (first
            | (refine wpQuiet_load_wholeG (o := ⟨some 54, _, _, _, _, _⟩) ?_ 26 (.tmp 6) ?_ w.heap.size 0 ?_ q.cells _ LG.out Try.underlying26 rfl size_rp ?_; rfl; rfl; rfl; simp only [Act.put, List.setIfInBounds_toArray, List.set_cons_zero, List.set_cons_succ])
            | (refine wpQuiet_load_wholeG (o := ⟨some 59, _, _, _, _, _⟩) ?_ 26 (.tmp 6) ?_ w.heap.size 0 ?_ q.cells _ LG.out Try.underlying26 rfl size_rp ?_; rfl; rfl; rfl; simp only [Act.put, List.setIfInBounds_toArray, List.set_cons_zero, List.set_cons_succ])
            | go_big_quiet_step (rfl) | quiet_step (rfl))
          refine wpQuiet_nil ?_
          clear LG
          have D := Lib.hid (show Below w4.heap.size w4 w4.drew from (Below.refl _ _).drew)
          replace B := Lib.hid (B.out.trans (D.out.mono B.out.size))
          replace TM := Lib.hid (TM.out.below D.out D.out.size)
          replace L := Lib.hid (L.out.call D.out)
          generalize w4.drew = d0 at *
          rw [wpWy_way]
          refine ⟨?_, by exact trivial⟩
          simp only [List.getElem?_toArray, List.getElem?_cons_succ, List.getElem?_cons_zero]
          go_wp2_with (go_at_call 18; refine (Copy_any q _ (HAT.out.below B.out B.out.size) HL15.out).mono ?_; rintro e d' ⟨A81, c81, rfl, hat, hb⟩)
          replace D := Lib.hid (D.out.trans (hb.mono D.out.size))
          replace B := Lib.hid (B.out.trans (hb.mono B.out.size))
          replace TM := Lib.hid (TM.out.below hb hb.size)
          replace L := Lib.hid (L.out.call hb)
          have TC81 := Lib.hid hat
          clear hat
          clear hb
          refine Ends.intro ⟨Cls.here D.out, ?_⟩
          rw [wpWy_way]
          refine ⟨?_, by exact trivial⟩
          simp only [List.getElem?_toArray, List.getElem?_cons_succ, List.getElem?_cons_zero]
          go_wp2_with (go_at_call 36; refine (HRO.out _ TM.out).mono ?_; rintro e d' ⟨out82, A82, c82, rfl, hol, hot, hb⟩)
          replace D := Lib.hid (D.out.trans (hb.mono D.out.size))
          replace B := Lib.hid (B.out.trans (hb.mono B.out.size))
          replace TM := Lib.hid (TM.out.below hb hb.size)
          replace L := Lib.hid (L.out.call hb)
          replace TC81 := Lib.hid (TC81.out.below hb hb.size)
          have HO82 := Lib.hid hol
          have HT82 := Lib.hid hot
          clear hol hot
          clear hb
          refine Ends.intro ⟨Cls.here D.out, ?_⟩
          rw [wpWy_way]
          refine ⟨?_, by exact trivial⟩
          simp only [List.getElem?_toArray, List.getElem?_cons_succ, List.getElem?_cons_zero]
          go_wp2_with (go_at_call 35; refine (HPK.out A81 c81 A82 out82 c82 _ TC81.out HT82.out HO82.out).mono ?_; rintro e d' ⟨rfl, hb⟩)
          replace D := Lib.hid (D.out.trans (hb.mono D.out.size))
          replace B := Lib.hid (B.out.trans (hb.mono B.out.size))
          replace TM := Lib.hid (TM.out.below hb hb.size)
          replace L := Lib.hid (L.out.call hb)
          clear hb
          refine Ends.intro ⟨Cls.here D.out, ?_⟩
          rw [wpWy_way]
          refine ⟨?_, by exact trivial⟩
          simp only [List.getElem?_toArray, List.getElem?_cons_succ, List.getElem?_cons_zero]
          go_wp2_with (go_at_call 18; refine (Copy_any q _ (HAT.out.below B.out B.out.size) HL15.out).mono ?_; rintro e d' ⟨A83, c83, rfl, hat, hb⟩)
          replace D := Lib.hid (D.out.trans (hb.mono D.out.size))
          replace B := Lib.hid (B.out.trans (hb.mono B.out.size))
          replace TM := Lib.hid (TM.out.below hb hb.size)
          replace L := Lib.hid (L.out.call hb)
          have TC83 := Lib.hid hat
          clear hat
          clear hb
          refine Ends.intro ⟨Cls.here D.out, ?_⟩
          rw [wpWy_way]
          refine ⟨?_, by exact trivial⟩
          simp only [List.getElem?_toArray, List.getElem?_cons_succ, List.getElem?_cons_zero]
          go_wp2_with (go_at_call 36; refine (HRO.out _ TM.out).mono ?_; rintro e d' ⟨out84, A84, c84, rfl, hol, hot, hb⟩)
          replace D := Lib.hid (D.out.trans (hb.mono D.out.size))
          replace B := Lib.hid (B.out.trans (hb.mono B.out.size))
          replace TM := Lib.hid (TM.out.below hb hb.size)
          replace L := Lib.hid (L.out.call hb)
          replace TC83 := Lib.hid (TC83.out.below hb hb.size)
          have HO84 := Lib.hid hol
          have HT84 := Lib.hid hot
          clear hol hot
          clear hb
          refine Ends.intro ⟨Cls.here D.out, ?_⟩
          rw [wpWy_way]
          refine ⟨?_, by exact trivial⟩
          simp only [List.getElem?_toArray, List.getElem?_cons_succ, List.getElem?_cons_zero]
          go_wp2_with (go_at_call 37; refine (HPN.out A83 c83 A84 out84 c84 _ TC83.out HT84.out HO84.out).mono ?_; rintro e d' ⟨rfl, hb⟩)
          replace D := Lib.hid (D.out.trans (hb.mono D.out.size))
          replace B := Lib.hid (B.out.trans (hb.mono B.out.size))
          replace TM := Lib.hid (TM.out.below hb hb.size)
          replace L := Lib.hid (L.out.call hb)
          clear hb
          refine Ends.intro ⟨Cls.here D.out, ?_⟩
          rw [wpWy_take]
          simp only [List.getElem?_toArray, List.getElem?_cons_succ, List.getElem?_cons_zero]
          first | go_big_quiet_step (rfl) | quiet_step (rfl)
          refine wpQuiet_nil ?_
          rw [wpWy_take]
          simp only [List.getElem?_toArray, List.getElem?_cons_succ, List.getElem?_cons_zero]
          first | go_big_quiet_step (rfl) | quiet_step (rfl)
          refine wpQuiet_nil ?_
          rw [wpWy_fin]
          clear D
          have K0 := Lib.hid True.intro
          go_wp2_with (first
              | (have h := K0; clear h; refine wpList_load_row (o := ⟨some 64, _, _, _, _, _⟩) ?_ 26 (.tmp 6) ?_ w.heap.size ?_ 26 q.cells.toArray (0, 0) _ L.out Try.underlying26 rfl size_rp ?_; rfl; rfl; rfl; have K1 := Lib.hid True.intro; clear K0)
              | (have h := K1; clear h; go_at_call 20; refine (HFA.out _ (HAT.out.below B.out B.out.size)).mono ?_; rintro e w' ⟨rfl, hb⟩; replace B := Lib.hid (B.out.trans (hb.mono B.out.size)); replace L := Lib.hid (L.out.call hb); replace TM := Lib.hid (TM.out.below hb hb.size); clear hb; have K2 := Lib.hid True.intro; clear K1)
              | (have h := K2; clear h; go_at_call 16; refine (wakes_any _).mono ?_; rintro e w' ⟨rfl, hb⟩; replace B := Lib.hid (B.out.trans (hb.mono B.out.size)); replace L := Lib.hid (L.out.call hb); replace TM := Lib.hid (TM.out.below hb hb.size); clear hb; have K3 := Lib.hid True.intro; clear K2))
          go_ret
          exact ⟨rfl, B.out⟩
    · have htb2 : tabularB t.l = false := by simpa using htb
      rw [htb2] at htab0
      have HTB := Lib.hid htab0
      clear htab0 htb ht
      go_enter Try.func7, Try.ntmps7
      go_upto_region 1 with (fail)
      change Code.wp _ _ _ _ (w.alloc (.cells q.cells.toArray 26))
      generalize w.alloc (.cells q.cells.toArray 26) = w1 at *
      go_wp2_with (first
          | (have h := K16; clear h; refine wpList_load_row (o := ⟨some 16, _, _, _, _, _⟩) ?_ 26 (.tmp 6) ?_ w.heap.size ?_ 26 q.cells.toArray (0, 0) _ L.out Try.underlying26 rfl size_rp ?_; rfl; rfl; rfl; have K17 := Lib.hid True.intro; clear K16)
          | (have h := K17; clear h; go_at_call 15; refine (HTH.out _).mono ?_; rintro e w2 ⟨rfl, hb⟩; replace B := Lib.hid (B.out.trans (hb.mono B.out.size)); replace L := Lib.hid (L.out.call hb); clear hb; have K21 := Lib.hid True.intro; clear K17)
          | (have h := K21; clear h; go_at_call 34; refine (HTB.out _ B.out).mono ?_; rintro e w3 ⟨rfl, hb⟩; replace B := Lib.hid (B.out.trans (hb.mono B.out.size)); replace L := Lib.hid (L.out.call hb); clear hb; have KW := Lib.hid True.intro; clear K21)
          | (have h := KW; clear h; go_at_call 16; refine (wakes_any _).mono ?_; rintro e w4 ⟨rfl, hb⟩; replace B := Lib.hid (B.out.trans (hb.mono B.out.size)); replace L := Lib.hid (L.out.call hb); clear hb; have KWW := Lib.hid True.intro; clear KW))
      go_ret
      exact ⟨rfl, B.out⟩
  · rw [decide_eq_false hthin] at HTH
    clear hthin HO ht
    go_enter Try.func7, Try.ntmps7
    go_upto_region 1 with (fail)
    change Code.wp _ _ _ _ (w.alloc (.cells q.cells.toArray 26))
    generalize w.alloc (.cells q.cells.toArray 26) = w1 at *
    go_wp2_with (first
        | (have h := K16; clear h; refine wpList_load_row (o := ⟨some 16, _, _, _, _, _⟩) ?_ 26 (.tmp 6) ?_ w.heap.size ?_ 26 q.cells.toArray (0, 0) _ L.out Try.underlying26 rfl size_rp ?_; rfl; rfl; rfl; have K17 := Lib.hid True.intro; clear K16)
        | (have h := K17; clear h; go_at_call 15; refine (HTH.out _).mono ?_; rintro e w2 ⟨rfl, hb⟩; replace B := Lib.hid (B.out.trans (hb.mono B.out.size)); replace L := Lib.hid (L.out.call hb); clear hb; have KW := Lib.hid True.intro; clear K17)
        | (have h := KW; clear h; go_at_call 16; refine (wakes_any _).mono ?_; rintro e w3 ⟨rfl, hb⟩; replace B := Lib.hid (B.out.trans (hb.mono B.out.size)); replace L := Lib.hid (L.out.call hb); clear hb; have KWW := Lib.hid True.intro; clear KW))
    go_ret
    exact ⟨rfl, B.out⟩
end Go.Proofs.Yteognijlgalahaa

/- The polder's own table keeps and needs; what that tells of other tables. -/
namespace Go.Proofs.Yteognijlgalahaa
open Go.RowKit Go.Lib

theorem PoD.table_at {p : PoD} {day : Nat} (h : day ≤ p.ds.length) : p.tableD.getD day [] = p.rowT day := by
  unfold PoD.tableD
  rw [List.getD, List.getElem?_map, List.getElem?_range (by omega)]; rfl
theorem PoD.table_at? {p : PoD} {day : Nat} (h : day ≤ p.ds.length) : p.tableD[day]? = some (p.rowT day) := by
  unfold PoD.tableD
  rw [List.getElem?_map, List.getElem?_range (by omega)]; rfl
theorem PoD.table_length (p : PoD) : p.tableD.length = p.ds.length + 1 := by simp [PoD.tableD]
theorem rowT_lim {p : PoD} (hok : p.Ok) (day : Nat) : ∀ x, x ∈ p.rowT day → -1 ≤ x ∧ x ≤ 100000 := fun x hx => by
  unfold PoD.rowT at hx
  obtain ⟨i, -, rfl⟩ := List.mem_map.1 hx
  have h2 := PoD.vals_le hok.p0 hok.i0 hok.p1 hok.i1 (ds := p.ds.drop day) (fun d hd => hok.d d (List.mem_of_mem_drop hd)) (p.low + (i : Int))
  have h3 := hok.n2
  have h4 : (p.ds.drop day).length ≤ p.ds.length := by rw [List.length_drop]; omega
  refine ⟨hok.cstDrop day _, ?_⟩
  have h5 : ((p.ds.drop day).length : Int) ≤ 12 := by omega
  omega
theorem PoD.tab_own {p : PoD} (hok : p.Ok) : p.tabB p.tableD = true := by
  refine PoD.tabB_iff.2 ⟨p.table_length, fun l hl => ?_, fun x hx => ?_⟩
  · unfold PoD.tableD at hl
    obtain ⟨i, -, rfl⟩ := List.mem_map.1 hl
    refine ⟨?_, rowT_lim hok i⟩
    rw [PoD.rowT_length]
    have := hok.l1
    unfold PoD.levels
    omega
  · rw [PoD.table_at (Nat.le_refl _), rowT_last] at hx
    exact (List.mem_replicate.1 hx).2
theorem PoD.own_step {p : PoD} {day : Nat} {d : Dy} {lv : Int} (hd : p.ds[day]? = some d) (hk : p.kept lv) : p.tN p.tableD day lv = (p.bestD (p.tN p.tableD (day + 1)) d lv).2 := by
  have hdl := (List.getElem?_eq_some_iff.1 hd).1
  unfold PoD.tN
  rw [PoD.table_at (by omega), PoD.table_at (by omega), rowT_best, look_rowT hk, List.drop_eq_getElem_cons hdl, (List.getElem?_eq_some_iff.1 hd).2]
  rfl
theorem PoD.keeps_own {p : PoD} (hok : p.Ok) : p.keepsR p.tableD = true := PoD.isOfB_iff.2 ⟨hok, PoD.tab_own hok, fun day d lv hd hk => by
  have h := PoD.own_step hd hk
  unfold PoD.keepsX
  rw [decide_eq_true_eq, ← h]
  by_cases e : p.tN p.tableD day lv = -1
  · exact .inl e
  · exact .inr ⟨e, Int.le_refl _⟩⟩
theorem PoD.needs_own {p : PoD} (hok : p.Ok) : p.needsR p.tableD = true := PoD.isOfB_iff.2 ⟨hok, PoD.tab_own hok, fun day d lv hd hk => by
  have h := PoD.own_step hd hk
  unfold PoD.needsX
  rw [decide_eq_true_eq, ← h]
  by_cases e : p.tN p.tableD day lv = -1
  · exact .inl e
  · exact .inr ⟨e, Int.le_refl _⟩⟩
theorem PoD.tN_last {p : PoD} {T : List (List Int)} (h : p.tabB T = true) (lv : Int) : p.tN T p.ds.length lv = 0 := by
  obtain ⟨-, -, h3⟩ := PoD.tabB_iff.1 h
  unfold PoD.tN PoD.look
  rw [List.getD]
  cases hx : (T.getD p.ds.length [])[(lv - p.low).toNat]? with
  | none => rfl
  | some x => exact h3 x (List.mem_of_getElem? hx)
/-- What a table that keeps, or needs, says of one level. -/
theorem PoD.less_at {p : PoD} {T : List (List Int)} (hok : p.Ok) (htab : p.tabB T = true) {day m : Nat} {l : List Int} {x y : Int} (hday : day ≤ p.ds.length) (hl : T[day]? = some l) (hx : l[m]? = some x) (hy : (p.rowT day)[m]? = some y) :
    -1 ≤ x ∧ -1 ≤ y ∧ (p.keepsR T = true → x ≠ -1 → y ≠ -1 ∧ y ≤ x) ∧ (p.needsR T = true → y ≠ -1 → x ≠ -1 ∧ x ≤ y) := by
  have hml := (List.getElem?_eq_some_iff.1 hy).1
  rw [PoD.rowT_length] at hml
  have hk : p.kept (p.low + (m : Int)) := by
    have := hok.l1
    unfold PoD.levels at hml
    exact ⟨by omega, by omega⟩
  have ex := PoD.tN_at (p := p) hl hx
  rw [PoD.rowT_at p day hml] at hy
  have ey := Option.some.inj hy
  have htok := PoD.tN_tok htab
  have hds : ∀ d, d ∈ p.ds.drop day → d.Ok := fun d hd => hok.d d (List.mem_of_mem_drop hd)
  have hlast : ∀ lv, p.kept lv → (fun i => p.tN T (day + i)) (p.ds.drop day).length lv = 0 := fun lv _ => by
    show p.tN T (day + (p.ds.drop day).length) lv = 0
    rw [List.length_drop, show day + (p.ds.length - day) = p.ds.length by omega]
    exact PoD.tN_last htab lv
  have hc : ∀ i, Cst ((fun i => p.tN T (day + i)) i) := fun i lv => (htok (day + i) lv).1
  have hdd : ∀ {i : Nat} {d : Dy}, (p.ds.drop day)[i]? = some d → p.ds[day + i]? = some d := fun {i d} h => by rw [List.getElem?_drop] at h; exact h
  refine ⟨by rw [← ex]; exact (htok day _).1, by rw [← ey]; exact hok.cstDrop day _, fun hkp hn => ?_, fun hnd hn => ?_⟩
  · obtain ⟨-, -, h3⟩ := PoD.isOfB_iff.1 hkp
    have := PoD.keeps_ge hok.p0 hok.i0 (ds := p.ds.drop day) (T := fun i => p.tN T (day + i)) hds hc (fun i d lv hd hk hne => by
      have h4 := of_decide_eq_true (h3 (day + i) d lv (hdd hd) hk)
      rcases h4 with h4 | h4
      · exact absurd h4 hne
      · exact h4) hlast (p.low + (m : Int)) hk (by show p.tN T (day + 0) _ ≠ -1; rw [Nat.add_zero, ex]; exact hn)
    rw [ey] at this
    have e2 : p.tN T (day + 0) (p.low + (m : Int)) = x := ex
    rw [e2] at this
    exact this
  · obtain ⟨-, -, h3⟩ := PoD.isOfB_iff.1 hnd
    have := PoD.needs_le hok.p0 hok.i0 (ds := p.ds.drop day) (T := fun i => p.tN T (day + i)) hds hc (fun i d lv hd hk => of_decide_eq_true (h3 (day + i) d lv (hdd hd) hk)) hlast (p.low + (m : Int)) hk (by rw [ey]; exact hn)
    have e2 : p.tN T (day + 0) (p.low + (m : Int)) = x := ex
    rw [e2, ey] at this
    exact this
end Go.Proofs.Yteognijlgalahaa

/- PolderLess: the walk. -/
namespace Go.Proofs.Yteognijlgalahaa
open Go.RowKit Go.Lib
attribute [local go_sem] Oper.semAt_some

theorem tmod6 (x : Int) : -5 ≤ x.tmod 6 ∧ x.tmod 6 ≤ 5 := by
  have h1 := Int.tmod_lt_of_pos x (show (0 : Int) < 6 by omega)
  have h2 := Int.lt_tmod_of_pos x (show (0 : Int) < 6 by omega)
  omega
theorem own_lens {p : PoD} {out : List (Sv Int)} (h : out.map Sv.l = p.tableD) : out.length = p.ds.length + 1 ∧ (∀ s, s ∈ out → s.l.length = p.levels) ∧ ∀ i, i ≤ p.ds.length → ∃ s, out[i]? = some s ∧ s.l = p.rowT i := by
  have hl : out.length = p.ds.length + 1 := by
    have := congrArg List.length h
    rw [List.length_map, p.table_length] at this
    exact this
  refine ⟨hl, fun s hs => ?_, fun i hi => ?_⟩
  · have h1 : s.l ∈ p.tableD := by rw [← h]; exact List.mem_map_of_mem hs
    unfold PoD.tableD at h1
    obtain ⟨i, -, e⟩ := List.mem_map.1 h1
    rw [← e, PoD.rowT_length]
  · obtain ⟨s, hs⟩ : ∃ s, out[i]? = some s := ⟨out[i]'(by omega), by simp⟩
    have h1 : (out.map Sv.l)[i]? = some s.l := by rw [List.getElem?_map, hs]; rfl
    rw [h, PoD.table_at? hi] at h1
    exact ⟨s, hs, (Option.some.inj h1).symm⟩
/-- What the loops read, and what it says. -/
structure ElM (ts out : List (Sv Int)) (ka nb : Bool) (d i M : Nat) (s so : Sv Int) (x y : Int) : Prop where
  es : ts[d]? = some s
  eo : out[d]? = some so
  ex : s.l[i]? = some x
  ey : so.l[i]? = some y
  ls : s.l.length = M
  lo : so.l.length = M
  x0 : -1 ≤ x
  y0 : -1 ≤ y
  k : ka = true → x ≠ -1 → y ≠ -1 ∧ y ≤ x
  n : nb = true → y ≠ -1 → x ≠ -1 ∧ x ≤ y
theorem el_of {p : PoD} {T : List (List Int)} {ts out : List (Sv Int)} {ka nb : Bool} (hok : p.Ok) (htab : p.tabB T = true) (hT : ts.map Sv.l = T) (ho : out.map Sv.l = p.tableD) (hka : p.keepsR T = ka) (hnb : p.needsR T = nb) {d i : Nat} (hd : d ≤ p.ds.length) (hi : i < p.levels) :
    ∃ s so x y, ElM ts out ka nb d i p.levels s so x y := by
  obtain ⟨t1, t2, -⟩ := PoD.tabB_iff.1 htab
  obtain ⟨-, -, h3⟩ := own_lens ho
  obtain ⟨so, hso, hsl⟩ := h3 d hd
  have htl : ts.length = p.ds.length + 1 := by rw [← t1, ← hT, List.length_map]
  obtain ⟨s, hs⟩ : ∃ s, ts[d]? = some s := ⟨ts[d]'(by omega), by simp⟩
  have hTd : T[d]? = some s.l := by rw [← hT, List.getElem?_map, hs]; rfl
  have hlen := (t2 s.l (List.mem_of_getElem? hTd)).1
  have hl1 := hok.l1
  have hls : s.l.length = p.levels := by unfold PoD.levels; omega
  have hlo : so.l.length = p.levels := by rw [hsl, PoD.rowT_length]
  obtain ⟨x, hx⟩ : ∃ x, s.l[i]? = some x := ⟨s.l[i]'(by omega), by simp⟩
  obtain ⟨y, hy⟩ : ∃ y, so.l[i]? = some y := ⟨so.l[i]'(by omega), by simp⟩
  obtain ⟨h1, h2, h4, h5⟩ := PoD.less_at hok htab hd hTd hx (by rw [← hsl]; exact hy)
  exact ⟨s, so, x, y, hs, hso, hx, hy, hls, hlo, h1, h2, fun e => h4 (hka.trans e), fun e => h5 (hnb.trans e)⟩
set_option maxRecDepth 100000 in
set_option maxHeartbeats 16000000 in
theorem PolderLess_walk (q : PoM) (t : Sv (Sv Int)) (own : Bool) (day at_ : Nat) (by_ : Int) (w : World) (h : OpenPo q w) (ht : OpenT t w) (hd : day < 256) (ha : at_ < 256) (hby0 : -128 ≤ by_) (hby1 : by_ ≤ 127) : Calls Try.prog 10 #[.agg q.cells.toArray, .slice t.A t.l.length t.c, .bool own, .int .u8 day, .int .u8 at_, .int .i8 by_] w fun e w' => e = .returned (.bool true) ∧ Below w.heap.size w w' := by
  have l0 : Lies (w.alloc (.cells q.cells.toArray 26)) w.heap.size 26 q.cells.toArray := Lies.fresh _ _ _
  have b0 : Below w.heap.size w (w.alloc (.cells q.cells.toArray 26)) := (by repeat (first | (with_reducible assumption) | (with_reducible exact Below.refl _ _) | (with_reducible refine Below.drew ?_) | (with_reducible refine below_drewN ?_ _) | ((with_reducible refine Below.setCell ?_ ?_ _); rotate_left; focus (first | (simp; done) | (simp; omega) | omega)) | ((with_reducible refine Below.alloc ?_ ?_ _); rotate_left; focus (first | (simp; done) | (simp; omega) | omega))))
  have HTH := Lib.hid (fun W => Thin_any q W)
  have HO := Lib.hid h
  have L := Lib.hid l0
  have B := Lib.hid b0
  have hre0 := fun W (hb : Below w.heap.size w W) => ready_any q W ⟨(h.s.below hb).more hb.size, h.m, h.c⟩
  have K22 := Lib.hid True.intro
  clear l0 b0 h
  clear HTH
  have htab0 := fun W (hb : Below w.heap.size w W) => tabular_any t.A t.c t.l W ((ht.o.below hb).more hb.size) ht.n (fun s hs => (ht.i s hs).2.2)
  by_cases hrd : q.d.readyB = true
  · rw [hrd] at hre0
    have HRE := Lib.hid hre0
    have hrr : q.ds.l.length ≤ 15 ∧ q.d.fault = 0 := by
      have h := hrd
      unfold PoD.readyB at h
      rw [Bool.and_eq_true, decide_eq_true_eq, decide_eq_true_eq] at h
      exact h
    obtain ⟨hthin, hf0⟩ := hrr
    have hok := fault_ok hf0
    have HOK := Lib.hid hok
    have HL15 := Lib.hid hthin
    have HAT := Lib.hid (HO.out.at_ hthin)
    clear hthin HO hre0 hrd
    by_cases htb : tabularB t.l = true
    · rw [htb] at htab0
      have HTB := Lib.hid htab0
      have HLL := Lib.hid (tab_lens htb).1
      have HLM := Lib.hid (tab_lens htb).2
      have HNN := Lib.hid (fun s (hs : s ∈ t.l) => (ht.i s hs).1)
      have HTM := Lib.hid (show TabM t.A t.l w w.heap.size from ⟨ht.o, fun s hs => (ht.i s hs).2.1, by have := HLL.out; omega, fun s hs => by have := HLM.out s hs; omega⟩)
      clear htab0 htb ht
      obtain ⟨N0, hN0⟩ : ∃ N0, N0 = q.ds.l.length := ⟨_, rfl⟩
      obtain ⟨N1, hN1⟩ : ∃ N1, N1 = q.ds.l.length + 1 := ⟨_, rfl⟩
      obtain ⟨M, hM⟩ : ∃ M, M = q.d.levels := ⟨_, rfl⟩
      have hn12 : q.d.ds.length ≤ 12 := hok.n2
      have hlv : q.d.levels ≤ 61 ∧ 0 < q.d.levels := by
        have h1 := hok.l2
        have h2 := hok.l0
        have h3 := hok.l1
        unfold PoD.levels
        omega
      have hl12 : q.ds.l.length ≤ 12 := hn12
      have hN00 : (0 : Int) ≤ (N0 : Int) := by omega
      have hN012 : (N0 : Int) ≤ 12 := by omega
      have hN01 : (N0 : Int) < (N1 : Int) := by omega
      have hN13 : (N1 : Int) ≤ 13 := by omega
      have hN10 : (0 : Int) < (N1 : Int) := by omega
      have hM1 : (0 : Int) < (M : Int) := by omega
      have hM61 : (M : Int) ≤ 61 := by omega
      have HN0 := Lib.hid hN0
      have HN1 := Lib.hid hN1
      have HM := Lib.hid hM
      have HN12 := Lib.hid hn12
      have HLV := Lib.hid hlv
      clear hl12
      have HTA := Lib.hid (fun A c W (hat : (q.withA A c).At W W.heap.size) => (show Calls Try.prog 33 #[.agg (q.withA A c).cells.toArray] W (TabE (q.d.tableD, 0) W) by
        have := Table_any (q.withA A c) W hat
        rw [show (q.withA A c).d.tabR = (q.d.tableD, 0) by unfold PoD.tabR; rw [show (q.withA A c).d.fault = 0 from hf0, if_neg (by simp)]; rfl] at this
        exact this))
      have HITo := Lib.hid (fun Bo Ao out co W (hom : OutM Bo out Ao co W) (ho : out.map Sv.l = q.d.tableD) => (show Calls Try.prog 38 #[.agg q.cells.toArray, .slice Ao out.length co] W fun e w' => e = .returned (.bool true) ∧ Below W.heap.size W w' by
        have := IsTable_any q Ao co out W (hom.tab (by rw [(own_lens ho).1]; omega) (fun s hs => by rw [(own_lens ho).2.1 s hs]; omega)) hok
        rw [ho, PoD.tab_own hok] at this
        exact this))
      have HROo := Lib.hid (fun Bo Ao out co W (hom : OutM Bo out Ao co W) (ho : out.map Sv.l = q.d.tableD) => (show Calls Try.prog 36 #[.slice Ao out.length co] W (RowsT q.d.tableD W) by
        have := rows_tab Ao co out W (hom.tab (by rw [(own_lens ho).1]; omega) (fun s hs => by rw [(own_lens ho).2.1 s hs]; omega)) hom.nil_row (by rw [(own_lens ho).1]; omega) (fun s hs => by rw [(own_lens ho).2.1 s hs]; omega)
        rw [ho] at this
        exact this))
      have HPKo := Lib.hid (fun A c (Ao : Option Addr) out co W (hat : (q.withA A c).At W W.heap.size) (hto : TabM Ao out W W.heap.size) (hoT : out.map Sv.l = q.d.tableD) => (show Calls Try.prog 35 #[.agg (q.withA A c).cells.toArray, .slice Ao out.length co] W fun e w' => e = .returned (.bool true) ∧ Below W.heap.size W w' by
        have := ProveKeeps_any (q.withA A c) Ao co out W hat hto
        rw [hoT, show (q.withA A c).d.keepsR q.d.tableD = true from PoD.keeps_own hok] at this
        exact this))
      have HPNo := Lib.hid (fun A c (Ao : Option Addr) out co W (hat : (q.withA A c).At W W.heap.size) (hto : TabM Ao out W W.heap.size) (hoT : out.map Sv.l = q.d.tableD) => (show Calls Try.prog 37 #[.agg (q.withA A c).cells.toArray, .slice Ao out.length co] W fun e w' => e = .returned (.bool true) ∧ Below W.heap.size W w' by
        have := ProveNeeds_any (q.withA A c) Ao co out W hat hto
        rw [hoT, show (q.withA A c).d.needsR q.d.tableD = true from PoD.needs_own hok] at this
        exact this))
      clear hN0 hN1 hM hn12 hlv hok hf0
      cases own
      · obtain ⟨tA, htA⟩ : ∃ tA, tA = t.A := ⟨_, rfl⟩
        obtain ⟨tc, htc⟩ : ∃ tc, tc = t.c := ⟨_, rfl⟩
        obtain ⟨ts, hts⟩ : ∃ ts, ts = t.l := ⟨_, rfl⟩
        rw [← htA, ← htc, ← hts]
        rw [← hts] at HTM HTB HNN HLM HLL
        rw [← htA] at HTM HTB
        rw [← htc] at HTB
        clear htA htc hts
        obtain ⟨tl, htl⟩ : ∃ tl, tl = ts.length := ⟨_, rfl⟩
        obtain ⟨T, hT⟩ : ∃ T, ts.map Sv.l = T := ⟨_, rfl⟩
        rw [← htl]
        rw [← htl] at HTB
        have hnn := HNN.out
        have hll : ts.length ≤ 100 := by have := HLL.out; omega
        have hml : ∀ s, s ∈ ts → s.l.length ≤ 1000 := fun s hs => by have := HLM.out s hs; omega
        by_cases htb2 : q.d.tabB T = true
        · have HRO := Lib.hid (fun W (htm : TabM tA ts W W.heap.size) => (show Calls Try.prog 36 #[.slice tA tl tc] W (RowsT T W) by
            have := rows_tab tA tc ts W htm hnn hll hml
            rw [← htl, hT] at this
            exact this))
          obtain ⟨ka, hka⟩ : ∃ ka, q.d.keepsR T = ka := ⟨_, rfl⟩
          obtain ⟨nb, hnb⟩ : ∃ nb, q.d.needsR T = nb := ⟨_, rfl⟩
          have HPK := Lib.hid (fun A c (Ao : Option Addr) out co W (hat : (q.withA A c).At W W.heap.size) (hto : TabM Ao out W W.heap.size) (hoT : out.map Sv.l = T) => (show Calls Try.prog 35 #[.agg (q.withA A c).cells.toArray, .slice Ao out.length co] W fun e w' => e = .returned (.bool ka) ∧ Below W.heap.size W w' by
            have := ProveKeeps_any (q.withA A c) Ao co out W hat hto
            rw [hoT, show (q.withA A c).d.keepsR T = ka from hka] at this
            exact this))
          have HPN := Lib.hid (fun A c (Ao : Option Addr) out co W (hat : (q.withA A c).At W W.heap.size) (hto : TabM Ao out W W.heap.size) (hoT : out.map Sv.l = T) => (show Calls Try.prog 37 #[.agg (q.withA A c).cells.toArray, .slice Ao out.length co] W fun e w' => e = .returned (.bool nb) ∧ Below W.heap.size W w' by
            have := ProveNeeds_any (q.withA A c) Ao co out W hat hto
            rw [hoT, show (q.withA A c).d.needsR T = nb from hnb] at this
            exact this))
          have HIT := Lib.hid (fun W (htm : TabM tA ts W W.heap.size) => (show Calls Try.prog 38 #[.agg q.cells.toArray, .slice tA tl tc] W fun e w' => e = .returned (.bool true) ∧ Below W.heap.size W w' by
            have := IsTable_any q tA tc ts W htm HOK.out
            rw [← htl, hT, htb2] at this
            exact this))
          have HX := Lib.hid (fun out (ho : out.map Sv.l = q.d.tableD) (dd ii : Nat) (h1 : dd < N0) (h2 : ii < M) => (show ∃ s so x y, ElM ts out ka nb dd ii M s so x y by
            rw [HM.out] at h2 ⊢
            exact el_of HOK.out htb2 hT ho hka hnb (by show dd ≤ q.ds.l.length; rw [← HN0.out]; omega) h2))
          have htz : (N0 : Int) < (tl : Int) := by
            have h1 := (PoD.tabB_iff.1 htb2).1
            rw [← hT, List.length_map, ← htl] at h1
            have h2 : q.d.ds.length = N0 := HN0.out.symm
            omega
          have htz2 : (tl : Int) ≤ 100 := by omega
          clear hka hnb htb2
          clear hnn hll hml hT htl HNN HLM HLL
          go_enter Try.func10, Try.ntmps10
          go_upto_region 1 with (fail)
          change Code.wp _ _ _ _ (w.alloc (.cells q.cells.toArray 26))
          generalize w.alloc (.cells q.cells.toArray 26) = w1 at *
          go_upto_region 10 with (first
                | (have h := K22; clear h; refine wpList_load_row (o := ⟨some 22, _, _, _, _, _⟩) ?_ 26 (.tmp 6) ?_ w.heap.size ?_ 26 q.cells.toArray (0, 0) _ L.out Try.underlying26 rfl size_rp ?_; rfl; rfl; rfl; have K23 := Lib.hid True.intro; clear K22)
                | (have h := K23; clear h; go_at_call 42; refine (HRE.out _ B.out).mono ?_; rintro e w2 ⟨rfl, hb⟩; replace B := Lib.hid (B.out.trans (hb.mono B.out.size)); replace L := Lib.hid (L.out.call hb); clear hb; have K27 := Lib.hid True.intro; clear K23)
                | (have h := K27; clear h; go_at_call 34; refine (HTB.out _ B.out).mono ?_; rintro e w3 ⟨rfl, hb⟩; replace B := Lib.hid (B.out.trans (hb.mono B.out.size)); replace L := Lib.hid (L.out.call hb); clear hb; have K32 := Lib.hid True.intro; clear K27)
                | (have h := K32; clear h; refine wpList_load_row (o := ⟨some 32, _, _, _, _, _⟩) ?_ 26 (.tmp 6) ?_ w.heap.size ?_ 26 q.cells.toArray (0, 0) _ L.out Try.underlying26 rfl size_rp ?_; rfl; rfl; rfl; have K33 := Lib.hid True.intro; clear K32)
                | (have h := K33; clear h; go_at_call 18; refine (Copy_any q _ (HAT.out.below B.out B.out.size) HL15.out).mono ?_; rintro e w4 ⟨A3, c3, rfl, hat, hb⟩; replace B := Lib.hid (B.out.trans (hb.mono B.out.size)); replace L := Lib.hid (L.out.call hb); have T3 := Lib.hid hat; clear hat; clear hb; have K34 := Lib.hid True.intro; clear K33)
                | (have h := K34; clear h; go_at_call 33; refine (HTA.out A3 c3 _ T3.out).mono ?_; rintro e w5 ⟨out, Ao, co, rfl, hol, hom, hb⟩; replace B := Lib.hid (B.out.trans (hb.mono B.out.size)); replace L := Lib.hid (L.out.call hb); replace T3 := Lib.hid (T3.out.below hb hb.size); have OM := Lib.hid hom; have HOL := Lib.hid hol; clear hom hol; clear hb; have K40 := Lib.hid True.intro; clear K34)
                | (have h := K40; clear h; refine wpList_load_rowG (o := ⟨some 40, _, _, _, _, _⟩) ?_ 26 (.tmp 6) ?_ w.heap.size ?_ 26 q.cells.toArray (0, 0) _ L.out Try.underlying26 rfl size_rp ?_; kernel_rfl; rfl; rfl; have K42 := Lib.hid True.intro; clear K40)
                | (have h := K42; clear h; go_at_call 38; refine (HITo.out _ Ao out co _ OM.out HOL.out).mono ?_; rintro e w6 ⟨rfl, hb⟩; replace B := Lib.hid (B.out.trans (hb.mono B.out.size)); replace L := Lib.hid (L.out.call hb); replace T3 := Lib.hid (T3.out.below hb hb.size); replace OM := Lib.hid (OM.out.call hb); clear hb; have K46 := Lib.hid True.intro; clear K42)
                | (have h := K46; clear h; refine wpList_load_rowG (o := ⟨some 46, _, _, _, _, _⟩) ?_ 26 (.tmp 6) ?_ w.heap.size ?_ 26 q.cells.toArray (0, 0) _ L.out Try.underlying26 rfl size_rp ?_; kernel_rfl; rfl; rfl; have K47 := Lib.hid True.intro; clear K46)
                | (have h := K47; clear h; go_at_call 18; refine (Copy_any q _ (HAT.out.below B.out B.out.size) HL15.out).mono ?_; rintro e w7 ⟨A4, c4, rfl, hat, hb⟩; replace B := Lib.hid (B.out.trans (hb.mono B.out.size)); replace L := Lib.hid (L.out.call hb); replace T3 := Lib.hid (T3.out.below hb hb.size); replace OM := Lib.hid (OM.out.call hb); have T4 := Lib.hid hat; clear hat; clear hb; have K49 := Lib.hid True.intro; clear K47)
                | (have h := K49; clear h; go_at_call 36; refine (HROo.out _ Ao out co _ OM.out HOL.out).mono ?_; rintro e w8 ⟨o5, A5, c5, rfl, hol5, hot5, hb⟩; replace B := Lib.hid (B.out.trans (hb.mono B.out.size)); replace L := Lib.hid (L.out.call hb); replace T3 := Lib.hid (T3.out.below hb hb.size); replace OM := Lib.hid (OM.out.call hb); replace T4 := Lib.hid (T4.out.below hb hb.size); have HO5 := Lib.hid hol5; have HT5 := Lib.hid hot5; clear hol5 hot5; clear hb; have K50 := Lib.hid True.intro; clear K49)
                | (have h := K50; clear h; go_at_call 35; refine (HPKo.out A4 c4 A5 o5 c5 _ T4.out HT5.out HO5.out).mono ?_; rintro e w9 ⟨rfl, hb⟩; replace B := Lib.hid (B.out.trans (hb.mono B.out.size)); replace L := Lib.hid (L.out.call hb); replace T3 := Lib.hid (T3.out.below hb hb.size); replace OM := Lib.hid (OM.out.call hb); replace T4 := Lib.hid (T4.out.below hb hb.size); clear HT5 HO5; clear hb; have K54 := Lib.hid True.intro; clear K50)
                | (have h := K54; clear h; refine wpList_load_rowG (o := ⟨some 54, _, _, _, _, _⟩) ?_ 26 (.tmp 6) ?_ w.heap.size ?_ 26 q.cells.toArray (0, 0) _ L.out Try.underlying26 rfl size_rp ?_; kernel_rfl; rfl; rfl; have K55 := Lib.hid True.intro; clear K54)
                | (have h := K55; clear h; go_at_call 18; refine (Copy_any q _ (HAT.out.below B.out B.out.size) HL15.out).mono ?_; rintro e w10 ⟨A6, c6, rfl, hat, hb⟩; replace B := Lib.hid (B.out.trans (hb.mono B.out.size)); replace L := Lib.hid (L.out.call hb); replace T3 := Lib.hid (T3.out.below hb hb.size); replace OM := Lib.hid (OM.out.call hb); replace T4 := Lib.hid (T4.out.below hb hb.size); have T6 := Lib.hid hat; clear hat; clear hb; have K57 := Lib.hid True.intro; clear K55)
                | (have h := K57; clear h; go_at_call 36; refine (HROo.out _ Ao out co _ OM.out HOL.out).mono ?_; rintro e w11 ⟨o7, A7, c7, rfl, hol7, hot7, hb⟩; replace B := Lib.hid (B.out.trans (hb.mono B.out.size)); replace L := Lib.hid (L.out.call hb); replace T3 := Lib.hid (T3.out.below hb hb.size); replace OM := Lib.hid (OM.out.call hb); replace T4 := Lib.hid (T4.out.below hb hb.size); replace T6 := Lib.hid (T6.out.below hb hb.size); have HO7 := Lib.hid hol7; have HT7 := Lib.hid hot7; clear hol7 hot7; clear hb; have K58 := Lib.hid True.intro; clear K57)
                | (have h := K58; clear h; go_at_call 37; refine (HPNo.out A6 c6 A7 o7 c7 _ T6.out HT7.out HO7.out).mono ?_; rintro e w12 ⟨rfl, hb⟩; replace B := Lib.hid (B.out.trans (hb.mono B.out.size)); replace L := Lib.hid (L.out.call hb); replace T3 := Lib.hid (T3.out.below hb hb.size); replace OM := Lib.hid (OM.out.call hb); replace T4 := Lib.hid (T4.out.below hb hb.size); replace T6 := Lib.hid (T6.out.below hb hb.size); clear HT7 HO7; clear hb; have KX := Lib.hid True.intro; clear K58))
          have TM := Lib.hid (HTM.out.below B.out B.out.size)
          have HOLN := Lib.hid (show out.length = N1 by rw [(own_lens HOL.out).1, HN1.out]; rfl)
          clear HTM HTB HRE T3 T4 T6
          go_upto_region 10 with (fail)
          have LG := Lib.hid (show ∀ V, (∃ cc : Cls (fun W => Below w12.heap.size w12 W), V = cc.val) → V.rangeAt w.heap.size 0 q.cells by
            rintro V ⟨cc, rfl⟩
            exact Lies.range (cs := q.cells) (L.out.call cc.h) (fun j v hj => by simpa using hj))
          haveI hne : Nonempty (Cls (fun W => Below w12.heap.size w12 W)) := ⟨⟨w12, Below.refl _ _⟩⟩
          refine wp_region_wayw [0, 2, 5, 7] (.way 1 (.way 3 (.way 4 (.way 6 (.way 8 (.way 9 (.take 10 (.take 11 .fin)) .fin) .fin) .fin) .fin) .fin) .fin) (fun W => ∃ cc : Cls (fun W => Below w12.heap.size w12 W), W = cc.val) (by kernel_rfl) (by kernel_rfl) (Cls.here (Below.refl _ _).drew) ?_
          simp only [List.filterMap_cons, List.filterMap_nil, List.getElem?_toArray, List.getElem?_cons_zero, List.getElem?_cons_succ]
          repeat (first
            | (refine wpQuiet_load_wholeG (o := ⟨some 85, _, _, _, _, _⟩) ?_ 26 (.tmp 6) ?_ w.heap.size 0 ?_ q.cells _ LG.out Try.underlying26 rfl size_rp ?_; rfl; rfl; rfl; simp only [Act.put, List.setIfInBounds_toArray, List.set_cons_zero, List.set_cons_succ])
            | (refine wpQuiet_load_wholeG (o := ⟨some 90, _, _, _, _, _⟩) ?_ 26 (.tmp 6) ?_ w.heap.size 0 ?_ q.cells _ LG.out Try.underlying26 rfl size_rp ?_; rfl; rfl; rfl; simp only [Act.put, List.setIfInBounds_toArray, List.set_cons_zero, List.set_cons_succ])
            | go_big_quiet_step (rfl) | quiet_step (rfl))
          refine wpQuiet_nil ?_
          clear LG
          have D := Lib.hid (show Below w12.heap.size w12 w12.drew from (Below.refl _ _).drew)
          replace B := Lib.hid (B.out.trans (D.out.mono B.out.size))
          replace TM := Lib.hid (TM.out.below D.out D.out.size)
          replace L := Lib.hid (L.out.call D.out)
          generalize w12.drew = d0 at *
          rw [wpWy_way]
          refine ⟨?_, by exact trivial⟩
          simp only [List.getElem?_toArray, List.getElem?_cons_succ, List.getElem?_cons_zero]
          go_wp2_with (go_at_call 18; refine (Copy_any q _ (HAT.out.below B.out B.out.size) HL15.out).mono ?_; rintro e d' ⟨A81, c81, rfl, hat, hb⟩)
          replace D := Lib.hid (D.out.trans (hb.mono D.out.size))
          replace B := Lib.hid (B.out.trans (hb.mono B.out.size))
          replace TM := Lib.hid (TM.out.below hb hb.size)
          replace L := Lib.hid (L.out.call hb)
          have TC81 := Lib.hid hat
          clear hat
          clear hb
          refine Ends.intro ⟨Cls.here D.out, ?_⟩
          rw [wpWy_way]
          refine ⟨?_, by exact trivial⟩
          simp only [List.getElem?_toArray, List.getElem?_cons_succ, List.getElem?_cons_zero]
          go_wp2_with (go_at_call 36; refine (HRO.out _ TM.out).mono ?_; rintro e d' ⟨out82, A82, c82, rfl, hol, hot, hb⟩)
          replace D := Lib.hid (D.out.trans (hb.mono D.out.size))
          replace B := Lib.hid (B.out.trans (hb.mono B.out.size))
          replace TM := Lib.hid (TM.out.below hb hb.size)
          replace L := Lib.hid (L.out.call hb)
          replace TC81 := Lib.hid (TC81.out.below hb hb.size)
          have HO82 := Lib.hid hol
          have HT82 := Lib.hid hot
          clear hol hot
          clear hb
          refine Ends.intro ⟨Cls.here D.out, ?_⟩
          rw [wpWy_way]
          refine ⟨?_, by exact trivial⟩
          simp only [List.getElem?_toArray, List.getElem?_cons_succ, List.getElem?_cons_zero]
          go_wp2_with (go_at_call 35; refine (HPK.out A81 c81 A82 out82 c82 _ TC81.out HT82.out HO82.out).mono ?_; rintro e d' ⟨rfl, hb⟩)
          replace D := Lib.hid (D.out.trans (hb.mono D.out.size))
          replace B := Lib.hid (B.out.trans (hb.mono B.out.size))
          replace TM := Lib.hid (TM.out.below hb hb.size)
          replace L := Lib.hid (L.out.call hb)
          clear hb
          refine Ends.intro ⟨Cls.here D.out, ?_⟩
          rw [wpWy_way]
          refine ⟨?_, by exact trivial⟩
          simp only [List.getElem?_toArray, List.getElem?_cons_succ, List.getElem?_cons_zero]
          go_wp2_with (go_at_call 18; refine (Copy_any q _ (HAT.out.below B.out B.out.size) HL15.out).mono ?_; rintro e d' ⟨A83, c83, rfl, hat, hb⟩)
          replace D := Lib.hid (D.out.trans (hb.mono D.out.size))
          replace B := Lib.hid (B.out.trans (hb.mono B.out.size))
          replace TM := Lib.hid (TM.out.below hb hb.size)
          replace L := Lib.hid (L.out.call hb)
          have TC83 := Lib.hid hat
          clear hat
          clear hb
          refine Ends.intro ⟨Cls.here D.out, ?_⟩
          rw [wpWy_way]
          refine ⟨?_, by exact trivial⟩
          simp only [List.getElem?_toArray, List.getElem?_cons_succ, List.getElem?_cons_zero]
          go_wp2_with (go_at_call 36; refine (HRO.out _ TM.out).mono ?_; rintro e d' ⟨out84, A84, c84, rfl, hol, hot, hb⟩)
          replace D := Lib.hid (D.out.trans (hb.mono D.out.size))
          replace B := Lib.hid (B.out.trans (hb.mono B.out.size))
          replace TM := Lib.hid (TM.out.below hb hb.size)
          replace L := Lib.hid (L.out.call hb)
          replace TC83 := Lib.hid (TC83.out.below hb hb.size)
          have HO84 := Lib.hid hol
          have HT84 := Lib.hid hot
          clear hol hot
          clear hb
          refine Ends.intro ⟨Cls.here D.out, ?_⟩
          rw [wpWy_way]
          refine ⟨?_, by exact trivial⟩
          simp only [List.getElem?_toArray, List.getElem?_cons_succ, List.getElem?_cons_zero]
          go_wp2_with (go_at_call 37; refine (HPN.out A83 c83 A84 out84 c84 _ TC83.out HT84.out HO84.out).mono ?_; rintro e d' ⟨rfl, hb⟩)
          replace D := Lib.hid (D.out.trans (hb.mono D.out.size))
          replace B := Lib.hid (B.out.trans (hb.mono B.out.size))
          replace TM := Lib.hid (TM.out.below hb hb.size)
          replace L := Lib.hid (L.out.call hb)
          clear hb
          refine Ends.intro ⟨Cls.here D.out, ?_⟩
          rw [wpWy_take]
          simp only [List.getElem?_toArray, List.getElem?_cons_succ, List.getElem?_cons_zero]
          first | go_big_quiet_step (rfl) | quiet_step (rfl)
          refine wpQuiet_nil ?_
          rw [wpWy_take]
          simp only [List.getElem?_toArray, List.getElem?_cons_succ, List.getElem?_cons_zero]
          first | go_big_quiet_step (rfl) | quiet_step (rfl)
          refine wpQuiet_nil ?_
          rw [wpWy_fin]
          replace OM := Lib.hid (OM.out.call D.out)
          clear D
          replace HX := Lib.hid (HX.out out HOL.out)
          have K0 := Lib.hid True.intro
          go_upto_region 13 with (first
              | (have h := K0; clear h; refine wpList_load_row (o := ⟨some 95, _, _, _, _, _⟩) ?_ 26 (.tmp 6) ?_ w.heap.size ?_ 26 q.cells.toArray (0, 0) _ L.out Try.underlying26 rfl size_rp ?_; rfl; rfl; rfl; have K1 := Lib.hid True.intro; clear K0)
              | (have h := K1; clear h; go_at_call 38; refine (HIT.out _ TM.out).mono ?_; rintro e w' ⟨rfl, hb⟩; replace B := Lib.hid (B.out.trans (hb.mono B.out.size)); replace L := Lib.hid (L.out.call hb); replace TM := Lib.hid (TM.out.below hb hb.size); replace OM := Lib.hid (OM.out.call hb); clear hb; have K2 := Lib.hid True.intro; clear K1))
          have TMO := Lib.hid (OM.out.tab (by rw [(own_lens HOL.out).1]; have := HN12.out; omega) (fun s hs => by rw [(own_lens HOL.out).2.1 s hs]; have := HLV.out; omega))
          clear OM HRO HPK HPN HIT
          rw [HOLN.out]
          go_wp2
          go_loopw [12, 18, 19, 20, 21] (fun _ s18 _ _ _ wr => ∃ k : Nat, k ≤ N0 ∧ s18 = .int .i64 k ∧ Aside (Below w'.heap.size w' wr)) (fun _ i _ _ _ _ => N0 - (intOf i).toNat)
          case atStart => exact ⟨0, by omega, rfl, Below.refl _ _⟩
          case round =>
            obtain ⟨k, hk, rfl, HH⟩ := hrel
            have WW := Lib.hid HH.out
            clear HH
            have hk0 : (0 : Int) ≤ (k : Int) := by omega
            have c110 : wr.cell? ⟨w.heap.size, 6, none⟩ = some (.slice q.ds.A N0 q.ds.c) := by rw [HN0.out]; exact (L.out.call WW.out).at_ 6
            by_cases hlt : k < N0
            · have hltz : (k : Int) < (N0 : Int) := by omega
              obtain ⟨s, so, x0, y0, hel0⟩ := HX.out k 0 (by omega) (by omega)
              obtain ⟨bo, oo, hAo, hbo, hco⟩ := TMO.out.cell hel0.eo
              obtain ⟨bs, os, hAs, hbs, hcs⟩ := TM.out.cell hel0.es
              rw [hel0.lo] at hco
              rw [hel0.ls] at hcs
              have HS := Lib.hid hel0.es
              have HSO := Lib.hid hel0.eo
              have HBO := Lib.hid hbo
              have HBS := Lib.hid hbs
              have HCO := Lib.hid hco
              have HCS := Lib.hid hcs
              subst hAo
              subst hAs
              clear hel0 hbo hbs hco hcs
              go_wp2
              go_loopw [12, 19, 20, 21] (fun _ s19 _ _ wq => ∃ j : Nat, j ≤ M ∧ s19 = .int .i64 j ∧ Aside (Below w'.heap.size w' wq)) (fun _ i _ _ _ => M - (intOf i).toNat)
              case atStart => exact ⟨0, by omega, rfl, WW.out⟩
              case round =>
                obtain ⟨j, hj, rfl, HH⟩ := hrel
                have WQ := Lib.hid HH.out
                clear HH
                have hj0 : (0 : Int) ≤ (j : Int) := by omega
                have c119 := (WQ.out.cell (p := ⟨bo, oo + k, none⟩) HBO.out).trans HCO.out
                by_cases hjt : j < M
                · have hjtz : (j : Int) < (M : Int) := by omega
                  obtain ⟨s2, so2, x, y, hel⟩ := HX.out k j (by omega) hjt
                  obtain rfl : s2 = s := Option.some.inj (hel.es.symm.trans HS.out)
                  obtain rfl : so2 = so := Option.some.inj (hel.eo.symm.trans HSO.out)
                  obtain ⟨b1, f1, hA1, hb1, hc1⟩ := ((TM.out.i s2 (List.mem_of_getElem? hel.es)).cell1 hel.ex)
                  obtain ⟨b2, f2, hA2, hb2, hc2⟩ := ((TMO.out.i so2 (List.mem_of_getElem? hel.eo)).cell1 hel.ey)
                  have HEX := Lib.hid hel.x0
                  have hx0 : -1 ≤ x := hel.x0
                  have hy0 : -1 ≤ y := hel.y0
                  have hkk : ka = true → x ≠ -1 → y ≠ -1 ∧ y ≤ x := hel.k
                  have hnn : nb = true → y ≠ -1 → x ≠ -1 ∧ x ≤ y := hel.n
                  rw [hA2] at c119
                  have r119 := cell_regrown c119
                  have c127 := (WQ.out.cell (p := ⟨bs, os + k, none⟩) HBS.out).trans HCS.out
                  rw [hA1] at c127
                  have r127 := cell_regrown c127
                  clear c127
                  have r130 := cell_regrown ((WQ.out.cell (p := ⟨b1, f1 + j, none⟩) hb1).trans hc1)
                  have r137 := cell_regrown ((WQ.out.cell (p := ⟨b2, f2 + j, none⟩) hb2).trans hc2)
                  clear hel hA1 hA2 hb1 hb2 hc1 hc2
                  go_upto_region 19 with (fail)
                  refine wp_region_quiet_below (by kernel_rfl) (by kernel_rfl) ?_; (repeat (first | go_big_quiet_step ((fail)) | quiet_step ((fail)))); refine wpQuiet_nil ?_; intro wq hwq; have hbq : Below _ _ wq := (by obtain ⟨p, rfl⟩ := hwq; exact below_regrown _ _ _); clear hwq
                  clear r119 r127 r130 r137 c119
                  have HWQ := Lib.hid (WQ.out.trans (hbq.mono WQ.out.size))
                  clear hbq
                  have hkd : ka = true → (x = -1 ∨ (y ≠ -1 ∧ y ≤ x)) := fun e => by by_cases e2 : x = -1; exact .inl e2; exact .inr (hkk e e2)
                  have hnd : nb = true → (y = -1 ∨ (x ≠ -1 ∧ x ≤ y)) := fun e => by by_cases e2 : y = -1; exact .inl e2; exact .inr (hnn e e2)
                  clear hkk hnn
                  cases ka <;> cases nb <;> (try replace hkd := hkd rfl) <;> (try replace hnd := hnd rfl) <;> by_cases h1 : y < x <;> by_cases h2 : 0 ≤ y <;> by_cases h3 : 0 ≤ x <;> by_cases h4 : x < y <;> (first
                    | (exfalso; omega)
                    | (clear hkd hnd
                       go_wp2
                       go_roundw
                       case rel => exact ⟨j + 1, by omega, by go_num, HWQ.out⟩
                       case measure => simp [intOf]; omega))
                · obtain rfl : j = M := by omega
                  go_wp2
                  go_roundw
                  case rel => exact ⟨k + 1, by omega, by go_num, WQ.out⟩
                  case measure => simp [intOf]; omega
            · obtain rfl : k = N0 := by omega
              go_wp2_with (go_at_call 16; refine (wakes_any _).mono ?_; rintro e w99 ⟨rfl, hb9⟩)
              go_ret
              exact ⟨rfl, B.out.trans ((WW.out.trans (hb9.mono WW.out.size)).mono B.out.size)⟩
        · have htb2 : q.d.tabB T = false := by simpa using htb2
          have HRO := Lib.hid (fun W (htm : TabM tA ts W W.heap.size) => (show Calls Try.prog 36 #[.slice tA tl tc] W (RowsT T W) by
            have := rows_tab tA tc ts W htm hnn hll hml
            rw [← htl, hT] at this
            exact this))
          have hka : q.d.keepsR T = false := PoD.isOfB_not (.inr htb2)
          have hnb : q.d.needsR T = false := PoD.isOfB_not (.inr htb2)
          have HPK := Lib.hid (fun A c (Ao : Option Addr) out co W (hat : (q.withA A c).At W W.heap.size) (hto : TabM Ao out W W.heap.size) (hoT : out.map Sv.l = T) => (show Calls Try.prog 35 #[.agg (q.withA A c).cells.toArray, .slice Ao out.length co] W fun e w' => e = .returned (.bool false) ∧ Below W.heap.size W w' by
            have := ProveKeeps_any (q.withA A c) Ao co out W hat hto
            rw [hoT, show (q.withA A c).d.keepsR T = false from hka] at this
            exact this))
          have HPN := Lib.hid (fun A c (Ao : Option Addr) out co W (hat : (q.withA A c).At W W.heap.size) (hto : TabM Ao out W W.heap.size) (hoT : out.map Sv.l = T) => (show Calls Try.prog 37 #[.agg (q.withA A c).cells.toArray, .slice Ao out.length co] W fun e w' => e = .returned (.bool false) ∧ Below W.heap.size W w' by
            have := ProveNeeds_any (q.withA A c) Ao co out W hat hto
            rw [hoT, show (q.withA A c).d.needsR T = false from hnb] at this
            exact this))
          have HIT := Lib.hid (fun W (htm : TabM tA ts W W.heap.size) => (show Calls Try.prog 38 #[.agg q.cells.toArray, .slice tA tl tc] W fun e w' => e = .returned (.bool false) ∧ Below W.heap.size W w' by
            have := IsTable_any q tA tc ts W htm HOK.out
            rw [← htl, hT, htb2] at this
            exact this))
          clear hka hnb htb2
          clear hnn hll hml hT htl HNN HLM HLL
          go_enter Try.func10, Try.ntmps10
          go_upto_region 1 with (fail)
          change Code.wp _ _ _ _ (w.alloc (.cells q.cells.toArray 26))
          generalize w.alloc (.cells q.cells.toArray 26) = w1 at *
          go_upto_region 10 with (first
                | (have h := K22; clear h; refine wpList_load_row (o := ⟨some 22, _, _, _, _, _⟩) ?_ 26 (.tmp 6) ?_ w.heap.size ?_ 26 q.cells.toArray (0, 0) _ L.out Try.underlying26 rfl size_rp ?_; rfl; rfl; rfl; have K23 := Lib.hid True.intro; clear K22)
                | (have h := K23; clear h; go_at_call 42; refine (HRE.out _ B.out).mono ?_; rintro e w2 ⟨rfl, hb⟩; replace B := Lib.hid (B.out.trans (hb.mono B.out.size)); replace L := Lib.hid (L.out.call hb); clear hb; have K27 := Lib.hid True.intro; clear K23)
                | (have h := K27; clear h; go_at_call 34; refine (HTB.out _ B.out).mono ?_; rintro e w3 ⟨rfl, hb⟩; replace B := Lib.hid (B.out.trans (hb.mono B.out.size)); replace L := Lib.hid (L.out.call hb); clear hb; have K32 := Lib.hid True.intro; clear K27)
                | (have h := K32; clear h; refine wpList_load_row (o := ⟨some 32, _, _, _, _, _⟩) ?_ 26 (.tmp 6) ?_ w.heap.size ?_ 26 q.cells.toArray (0, 0) _ L.out Try.underlying26 rfl size_rp ?_; rfl; rfl; rfl; have K33 := Lib.hid True.intro; clear K32)
                | (have h := K33; clear h; go_at_call 18; refine (Copy_any q _ (HAT.out.below B.out B.out.size) HL15.out).mono ?_; rintro e w4 ⟨A3, c3, rfl, hat, hb⟩; replace B := Lib.hid (B.out.trans (hb.mono B.out.size)); replace L := Lib.hid (L.out.call hb); have T3 := Lib.hid hat; clear hat; clear hb; have K34 := Lib.hid True.intro; clear K33)
                | (have h := K34; clear h; go_at_call 33; refine (HTA.out A3 c3 _ T3.out).mono ?_; rintro e w5 ⟨out, Ao, co, rfl, hol, hom, hb⟩; replace B := Lib.hid (B.out.trans (hb.mono B.out.size)); replace L := Lib.hid (L.out.call hb); replace T3 := Lib.hid (T3.out.below hb hb.size); have OM := Lib.hid hom; have HOL := Lib.hid hol; clear hom hol; clear hb; have K40 := Lib.hid True.intro; clear K34)
                | (have h := K40; clear h; refine wpList_load_rowG (o := ⟨some 40, _, _, _, _, _⟩) ?_ 26 (.tmp 6) ?_ w.heap.size ?_ 26 q.cells.toArray (0, 0) _ L.out Try.underlying26 rfl size_rp ?_; kernel_rfl; rfl; rfl; have K42 := Lib.hid True.intro; clear K40)
                | (have h := K42; clear h; go_at_call 38; refine (HITo.out _ Ao out co _ OM.out HOL.out).mono ?_; rintro e w6 ⟨rfl, hb⟩; replace B := Lib.hid (B.out.trans (hb.mono B.out.size)); replace L := Lib.hid (L.out.call hb); replace T3 := Lib.hid (T3.out.below hb hb.size); replace OM := Lib.hid (OM.out.call hb); clear hb; have K46 := Lib.hid True.intro; clear K42)
                | (have h := K46; clear h; refine wpList_load_rowG (o := ⟨some 46, _, _, _, _, _⟩) ?_ 26 (.tmp 6) ?_ w.heap.size ?_ 26 q.cells.toArray (0, 0) _ L.out Try.underlying26 rfl size_rp ?_; kernel_rfl; rfl; rfl; have K47 := Lib.hid True.intro; clear K46)
                | (have h := K47; clear h; go_at_call 18; refine (Copy_any q _ (HAT.out.below B.out B.out.size) HL15.out).mono ?_; rintro e w7 ⟨A4, c4, rfl, hat, hb⟩; replace B := Lib.hid (B.out.trans (hb.mono B.out.size)); replace L := Lib.hid (L.out.call hb); replace T3 := Lib.hid (T3.out.below hb hb.size); replace OM := Lib.hid (OM.out.call hb); have T4 := Lib.hid hat; clear hat; clear hb; have K49 := Lib.hid True.intro; clear K47)
                | (have h := K49; clear h; go_at_call 36; refine (HROo.out _ Ao out co _ OM.out HOL.out).mono ?_; rintro e w8 ⟨o5, A5, c5, rfl, hol5, hot5, hb⟩; replace B := Lib.hid (B.out.trans (hb.mono B.out.size)); replace L := Lib.hid (L.out.call hb); replace T3 := Lib.hid (T3.out.below hb hb.size); replace OM := Lib.hid (OM.out.call hb); replace T4 := Lib.hid (T4.out.below hb hb.size); have HO5 := Lib.hid hol5; have HT5 := Lib.hid hot5; clear hol5 hot5; clear hb; have K50 := Lib.hid True.intro; clear K49)
                | (have h := K50; clear h; go_at_call 35; refine (HPKo.out A4 c4 A5 o5 c5 _ T4.out HT5.out HO5.out).mono ?_; rintro e w9 ⟨rfl, hb⟩; replace B := Lib.hid (B.out.trans (hb.mono B.out.size)); replace L := Lib.hid (L.out.call hb); replace T3 := Lib.hid (T3.out.below hb hb.size); replace OM := Lib.hid (OM.out.call hb); replace T4 := Lib.hid (T4.out.below hb hb.size); clear HT5 HO5; clear hb; have K54 := Lib.hid True.intro; clear K50)
                | (have h := K54; clear h; refine wpList_load_rowG (o := ⟨some 54, _, _, _, _, _⟩) ?_ 26 (.tmp 6) ?_ w.heap.size ?_ 26 q.cells.toArray (0, 0) _ L.out Try.underlying26 rfl size_rp ?_; kernel_rfl; rfl; rfl; have K55 := Lib.hid True.intro; clear K54)
                | (have h := K55; clear h; go_at_call 18; refine (Copy_any q _ (HAT.out.below B.out B.out.size) HL15.out).mono ?_; rintro e w10 ⟨A6, c6, rfl, hat, hb⟩; replace B := Lib.hid (B.out.trans (hb.mono B.out.size)); replace L := Lib.hid (L.out.call hb); replace T3 := Lib.hid (T3.out.below hb hb.size); replace OM := Lib.hid (OM.out.call hb); replace T4 := Lib.hid (T4.out.below hb hb.size); have T6 := Lib.hid hat; clear hat; clear hb; have K57 := Lib.hid True.intro; clear K55)
                | (have h := K57; clear h; go_at_call 36; refine (HROo.out _ Ao out co _ OM.out HOL.out).mono ?_; rintro e w11 ⟨o7, A7, c7, rfl, hol7, hot7, hb⟩; replace B := Lib.hid (B.out.trans (hb.mono B.out.size)); replace L := Lib.hid (L.out.call hb); replace T3 := Lib.hid (T3.out.below hb hb.size); replace OM := Lib.hid (OM.out.call hb); replace T4 := Lib.hid (T4.out.below hb hb.size); replace T6 := Lib.hid (T6.out.below hb hb.size); have HO7 := Lib.hid hol7; have HT7 := Lib.hid hot7; clear hol7 hot7; clear hb; have K58 := Lib.hid True.intro; clear K57)
                | (have h := K58; clear h; go_at_call 37; refine (HPNo.out A6 c6 A7 o7 c7 _ T6.out HT7.out HO7.out).mono ?_; rintro e w12 ⟨rfl, hb⟩; replace B := Lib.hid (B.out.trans (hb.mono B.out.size)); replace L := Lib.hid (L.out.call hb); replace T3 := Lib.hid (T3.out.below hb hb.size); replace OM := Lib.hid (OM.out.call hb); replace T4 := Lib.hid (T4.out.below hb hb.size); replace T6 := Lib.hid (T6.out.below hb hb.size); clear HT7 HO7; clear hb; have KX := Lib.hid True.intro; clear K58))
          have TM := Lib.hid (HTM.out.below B.out B.out.size)
          have HOLN := Lib.hid (show out.length = N1 by rw [(own_lens HOL.out).1, HN1.out]; rfl)
          clear HTM HTB HRE T3 T4 T6
          go_upto_region 10 with (fail)
          have LG := Lib.hid (show ∀ V, (∃ cc : Cls (fun W => Below w12.heap.size w12 W), V = cc.val) → V.rangeAt w.heap.size 0 q.cells by
            rintro V ⟨cc, rfl⟩
            exact Lies.range (cs := q.cells) (L.out.call cc.h) (fun j v hj => by simpa using hj))
          haveI hne : Nonempty (Cls (fun W => Below w12.heap.size w12 W)) := ⟨⟨w12, Below.refl _ _⟩⟩
          refine wp_region_wayw [0, 2, 5, 7] (.way 1 (.way 3 (.way 4 (.way 6 (.way 8 (.way 9 (.take 10 (.take 11 .fin)) .fin) .fin) .fin) .fin) .fin) .fin) (fun W => ∃ cc : Cls (fun W => Below w12.heap.size w12 W), W = cc.val) (by kernel_rfl) (by kernel_rfl) (Cls.here (Below.refl _ _).drew) ?_
          simp only [List.filterMap_cons, List.filterMap_nil, List.getElem?_toArray, List.getElem?_cons_zero, List.getElem?_cons_succ]
          repeat (first
            | (refine wpQuiet_load_wholeG (o := ⟨some 85, _, _, _, _, _⟩) ?_ 26 (.tmp 6) ?_ w.heap.size 0 ?_ q.cells _ LG.out Try.underlying26 rfl size_rp ?_; rfl; rfl; rfl; simp only [Act.put, List.setIfInBounds_toArray, List.set_cons_zero, List.set_cons_succ])
            | (refine wpQuiet_load_wholeG (o := ⟨some 90, _, _, _, _, _⟩) ?_ 26 (.tmp 6) ?_ w.heap.size 0 ?_ q.cells _ LG.out Try.underlying26 rfl size_rp ?_; rfl; rfl; rfl; simp only [Act.put, List.setIfInBounds_toArray, List.set_cons_zero, List.set_cons_succ])
            | go_big_quiet_step (rfl) | quiet_step (rfl))
          refine wpQuiet_nil ?_
          clear LG
          have D := Lib.hid (show Below w12.heap.size w12 w12.drew from (Below.refl _ _).drew)
          replace B := Lib.hid (B.out.trans (D.out.mono B.out.size))
          replace TM := Lib.hid (TM.out.below D.out D.out.size)
          replace L := Lib.hid (L.out.call D.out)
          generalize w12.drew = d0 at *
          rw [wpWy_way]
          refine ⟨?_, by exact trivial⟩
          simp only [List.getElem?_toArray, List.getElem?_cons_succ, List.getElem?_cons_zero]
          go_wp2_with (go_at_call 18; refine (Copy_any q _ (HAT.out.below B.out B.out.size) HL15.out).mono ?_; rintro e d' ⟨A81, c81, rfl, hat, hb⟩)
          replace D := Lib.hid (D.out.trans (hb.mono D.out.size))
          replace B := Lib.hid (B.out.trans (hb.mono B.out.size))
          replace TM := Lib.hid (TM.out.below hb hb.size)
          replace L := Lib.hid (L.out.call hb)
          have TC81 := Lib.hid hat
          clear hat
          clear hb
          refine Ends.intro ⟨Cls.here D.out, ?_⟩
          rw [wpWy_way]
          refine ⟨?_, by exact trivial⟩
          simp only [List.getElem?_toArray, List.getElem?_cons_succ, List.getElem?_cons_zero]
          go_wp2_with (go_at_call 36; refine (HRO.out _ TM.out).mono ?_; rintro e d' ⟨out82, A82, c82, rfl, hol, hot, hb⟩)
          replace D := Lib.hid (D.out.trans (hb.mono D.out.size))
          replace B := Lib.hid (B.out.trans (hb.mono B.out.size))
          replace TM := Lib.hid (TM.out.below hb hb.size)
          replace L := Lib.hid (L.out.call hb)
          replace TC81 := Lib.hid (TC81.out.below hb hb.size)
          have HO82 := Lib.hid hol
          have HT82 := Lib.hid hot
          clear hol hot
          clear hb
          refine Ends.intro ⟨Cls.here D.out, ?_⟩
          rw [wpWy_way]
          refine ⟨?_, by exact trivial⟩
          simp only [List.getElem?_toArray, List.getElem?_cons_succ, List.getElem?_cons_zero]
          go_wp2_with (go_at_call 35; refine (HPK.out A81 c81 A82 out82 c82 _ TC81.out HT82.out HO82.out).mono ?_; rintro e d' ⟨rfl, hb⟩)
          replace D := Lib.hid (D.out.trans (hb.mono D.out.size))
          replace B := Lib.hid (B.out.trans (hb.mono B.out.size))
          replace TM := Lib.hid (TM.out.below hb hb.size)
          replace L := Lib.hid (L.out.call hb)
          clear hb
          refine Ends.intro ⟨Cls.here D.out, ?_⟩
          rw [wpWy_way]
          refine ⟨?_, by exact trivial⟩
          simp only [List.getElem?_toArray, List.getElem?_cons_succ, List.getElem?_cons_zero]
          go_wp2_with (go_at_call 18; refine (Copy_any q _ (HAT.out.below B.out B.out.size) HL15.out).mono ?_; rintro e d' ⟨A83, c83, rfl, hat, hb⟩)
          replace D := Lib.hid (D.out.trans (hb.mono D.out.size))
          replace B := Lib.hid (B.out.trans (hb.mono B.out.size))
          replace TM := Lib.hid (TM.out.below hb hb.size)
          replace L := Lib.hid (L.out.call hb)
          have TC83 := Lib.hid hat
          clear hat
          clear hb
          refine Ends.intro ⟨Cls.here D.out, ?_⟩
          rw [wpWy_way]
          refine ⟨?_, by exact trivial⟩
          simp only [List.getElem?_toArray, List.getElem?_cons_succ, List.getElem?_cons_zero]
          go_wp2_with (go_at_call 36; refine (HRO.out _ TM.out).mono ?_; rintro e d' ⟨out84, A84, c84, rfl, hol, hot, hb⟩)
          replace D := Lib.hid (D.out.trans (hb.mono D.out.size))
          replace B := Lib.hid (B.out.trans (hb.mono B.out.size))
          replace TM := Lib.hid (TM.out.below hb hb.size)
          replace L := Lib.hid (L.out.call hb)
          replace TC83 := Lib.hid (TC83.out.below hb hb.size)
          have HO84 := Lib.hid hol
          have HT84 := Lib.hid hot
          clear hol hot
          clear hb
          refine Ends.intro ⟨Cls.here D.out, ?_⟩
          rw [wpWy_way]
          refine ⟨?_, by exact trivial⟩
          simp only [List.getElem?_toArray, List.getElem?_cons_succ, List.getElem?_cons_zero]
          go_wp2_with (go_at_call 37; refine (HPN.out A83 c83 A84 out84 c84 _ TC83.out HT84.out HO84.out).mono ?_; rintro e d' ⟨rfl, hb⟩)
          replace D := Lib.hid (D.out.trans (hb.mono D.out.size))
          replace B := Lib.hid (B.out.trans (hb.mono B.out.size))
          replace TM := Lib.hid (TM.out.below hb hb.size)
          replace L := Lib.hid (L.out.call hb)
          clear hb
          refine Ends.intro ⟨Cls.here D.out, ?_⟩
          rw [wpWy_take]
          simp only [List.getElem?_toArray, List.getElem?_cons_succ, List.getElem?_cons_zero]
          first | go_big_quiet_step (rfl) | quiet_step (rfl)
          refine wpQuiet_nil ?_
          rw [wpWy_take]
          simp only [List.getElem?_toArray, List.getElem?_cons_succ, List.getElem?_cons_zero]
          first | go_big_quiet_step (rfl) | quiet_step (rfl)
          refine wpQuiet_nil ?_
          rw [wpWy_fin]
          replace OM := Lib.hid (OM.out.call D.out)
          clear D
          have K0 := Lib.hid True.intro
          go_wp2_with (first
              | (have h := K0; clear h; refine wpList_load_row (o := ⟨some 95, _, _, _, _, _⟩) ?_ 26 (.tmp 6) ?_ w.heap.size ?_ 26 q.cells.toArray (0, 0) _ L.out Try.underlying26 rfl size_rp ?_; rfl; rfl; rfl; have K1 := Lib.hid True.intro; clear K0)
              | (have h := K1; clear h; go_at_call 38; refine (HIT.out _ TM.out).mono ?_; rintro e w' ⟨rfl, hb⟩; replace B := Lib.hid (B.out.trans (hb.mono B.out.size)); replace L := Lib.hid (L.out.call hb); replace TM := Lib.hid (TM.out.below hb hb.size); clear hb; have K2 := Lib.hid True.intro; clear K1)
              | (have h := K2; clear h; go_at_call 16; refine (wakes_any _).mono ?_; rintro e w' ⟨rfl, hb⟩; replace B := Lib.hid (B.out.trans (hb.mono B.out.size)); replace L := Lib.hid (L.out.call hb); replace TM := Lib.hid (TM.out.below hb hb.size); clear hb; have K3 := Lib.hid True.intro; clear K2))
          go_ret
          exact ⟨rfl, B.out⟩
      · obtain ⟨tA0, htA0⟩ : ∃ tA0, tA0 = t.A := ⟨_, rfl⟩
        obtain ⟨tc0, htc0⟩ : ∃ tc0, tc0 = t.c := ⟨_, rfl⟩
        obtain ⟨tl0, htl0⟩ : ∃ tl0, tl0 = t.l.length := ⟨_, rfl⟩
        rw [← htA0, ← htc0, ← htl0]
        rw [← htA0, ← htc0, ← htl0] at HTB
        have hd256 : (day : Int) < 256 := by omega
        have ha256 : (at_ : Int) < 256 := by omega
        obtain ⟨d, hdm⟩ : ∃ d : Nat, (day : Int) % (N1 : Int) = (d : Int) := ⟨day % N1, by omega⟩
        obtain ⟨m, hmm⟩ : ∃ m : Nat, (at_ : Int) % (M : Int) = (m : Int) := ⟨at_ % M, by omega⟩
        have hdN : (d : Int) < (N1 : Int) := by rw [← hdm]; exact Int.emod_lt_of_pos _ hN10
        have hmM : (m : Int) < (M : Int) := by rw [← hmm]; exact Int.emod_lt_of_pos _ hM1
        obtain ⟨e6, he6⟩ : ∃ e6, by_.tmod 6 = e6 := ⟨_, rfl⟩
        have he60 : -5 ≤ e6 := by rw [← he6]; exact (tmod6 by_).1
        have he61 : e6 ≤ 5 := by rw [← he6]; exact (tmod6 by_).2
        clear htA0 htc0 htl0
        go_enter Try.func10, Try.ntmps10
        go_upto_region 1 with (fail)
        change Code.wp _ _ _ _ (w.alloc (.cells q.cells.toArray 26))
        generalize w.alloc (.cells q.cells.toArray 26) = w1 at *
        go_upto_region 7 with (first
              | (have h := K22; clear h; refine wpList_load_row (o := ⟨some 22, _, _, _, _, _⟩) ?_ 26 (.tmp 6) ?_ w.heap.size ?_ 26 q.cells.toArray (0, 0) _ L.out Try.underlying26 rfl size_rp ?_; rfl; rfl; rfl; have K23 := Lib.hid True.intro; clear K22)
              | (have h := K23; clear h; go_at_call 42; refine (HRE.out _ B.out).mono ?_; rintro e w2 ⟨rfl, hb⟩; replace B := Lib.hid (B.out.trans (hb.mono B.out.size)); replace L := Lib.hid (L.out.call hb); clear hb; have K27 := Lib.hid True.intro; clear K23)
              | (have h := K27; clear h; go_at_call 34; refine (HTB.out _ B.out).mono ?_; rintro e w3 ⟨rfl, hb⟩; replace B := Lib.hid (B.out.trans (hb.mono B.out.size)); replace L := Lib.hid (L.out.call hb); clear hb; have K32 := Lib.hid True.intro; clear K27)
              | (have h := K32; clear h; refine wpList_load_row (o := ⟨some 32, _, _, _, _, _⟩) ?_ 26 (.tmp 6) ?_ w.heap.size ?_ 26 q.cells.toArray (0, 0) _ L.out Try.underlying26 rfl size_rp ?_; rfl; rfl; rfl; have K33 := Lib.hid True.intro; clear K32)
              | (have h := K33; clear h; go_at_call 18; refine (Copy_any q _ (HAT.out.below B.out B.out.size) HL15.out).mono ?_; rintro e w4 ⟨A3, c3, rfl, hat, hb⟩; replace B := Lib.hid (B.out.trans (hb.mono B.out.size)); replace L := Lib.hid (L.out.call hb); have T3 := Lib.hid hat; clear hat; clear hb; have K34 := Lib.hid True.intro; clear K33)
              | (have h := K34; clear h; go_at_call 33; refine (HTA.out A3 c3 _ T3.out).mono ?_; rintro e w5 ⟨out, Ao, co, rfl, hol, hom, hb⟩; replace B := Lib.hid (B.out.trans (hb.mono B.out.size)); replace L := Lib.hid (L.out.call hb); replace T3 := Lib.hid (T3.out.below hb hb.size); have OM := Lib.hid hom; have HOL := Lib.hid hol; clear hom hol; clear hb; have K40 := Lib.hid True.intro; clear K34)
              | (have h := K40; clear h; refine wpList_load_rowG (o := ⟨some 40, _, _, _, _, _⟩) ?_ 26 (.tmp 6) ?_ w.heap.size ?_ 26 q.cells.toArray (0, 0) _ L.out Try.underlying26 rfl size_rp ?_; kernel_rfl; rfl; rfl; have K42 := Lib.hid True.intro; clear K40)
              | (have h := K42; clear h; go_at_call 38; refine (HITo.out _ Ao out co _ OM.out HOL.out).mono ?_; rintro e w6 ⟨rfl, hb⟩; replace B := Lib.hid (B.out.trans (hb.mono B.out.size)); replace L := Lib.hid (L.out.call hb); replace T3 := Lib.hid (T3.out.below hb hb.size); replace OM := Lib.hid (OM.out.call hb); clear hb; have K46 := Lib.hid True.intro; clear K42)
              | (have h := K46; clear h; refine wpList_load_rowG (o := ⟨some 46, _, _, _, _, _⟩) ?_ 26 (.tmp 6) ?_ w.heap.size ?_ 26 q.cells.toArray (0, 0) _ L.out Try.underlying26 rfl size_rp ?_; kernel_rfl; rfl; rfl; have K47 := Lib.hid True.intro; clear K46)
              | (have h := K47; clear h; go_at_call 18; refine (Copy_any q _ (HAT.out.below B.out B.out.size) HL15.out).mono ?_; rintro e w7 ⟨A4, c4, rfl, hat, hb⟩; replace B := Lib.hid (B.out.trans (hb.mono B.out.size)); replace L := Lib.hid (L.out.call hb); replace T3 := Lib.hid (T3.out.below hb hb.size); replace OM := Lib.hid (OM.out.call hb); have T4 := Lib.hid hat; clear hat; clear hb; have K49 := Lib.hid True.intro; clear K47)
              | (have h := K49; clear h; go_at_call 36; refine (HROo.out _ Ao out co _ OM.out HOL.out).mono ?_; rintro e w8 ⟨o5, A5, c5, rfl, hol5, hot5, hb⟩; replace B := Lib.hid (B.out.trans (hb.mono B.out.size)); replace L := Lib.hid (L.out.call hb); replace T3 := Lib.hid (T3.out.below hb hb.size); replace OM := Lib.hid (OM.out.call hb); replace T4 := Lib.hid (T4.out.below hb hb.size); have HO5 := Lib.hid hol5; have HT5 := Lib.hid hot5; clear hol5 hot5; clear hb; have K50 := Lib.hid True.intro; clear K49)
              | (have h := K50; clear h; go_at_call 35; refine (HPKo.out A4 c4 A5 o5 c5 _ T4.out HT5.out HO5.out).mono ?_; rintro e w9 ⟨rfl, hb⟩; replace B := Lib.hid (B.out.trans (hb.mono B.out.size)); replace L := Lib.hid (L.out.call hb); replace T3 := Lib.hid (T3.out.below hb hb.size); replace OM := Lib.hid (OM.out.call hb); replace T4 := Lib.hid (T4.out.below hb hb.size); clear HT5 HO5; clear hb; have K54 := Lib.hid True.intro; clear K50)
              | (have h := K54; clear h; refine wpList_load_rowG (o := ⟨some 54, _, _, _, _, _⟩) ?_ 26 (.tmp 6) ?_ w.heap.size ?_ 26 q.cells.toArray (0, 0) _ L.out Try.underlying26 rfl size_rp ?_; kernel_rfl; rfl; rfl; have K55 := Lib.hid True.intro; clear K54)
              | (have h := K55; clear h; go_at_call 18; refine (Copy_any q _ (HAT.out.below B.out B.out.size) HL15.out).mono ?_; rintro e w10 ⟨A6, c6, rfl, hat, hb⟩; replace B := Lib.hid (B.out.trans (hb.mono B.out.size)); replace L := Lib.hid (L.out.call hb); replace T3 := Lib.hid (T3.out.below hb hb.size); replace OM := Lib.hid (OM.out.call hb); replace T4 := Lib.hid (T4.out.below hb hb.size); have T6 := Lib.hid hat; clear hat; clear hb; have K57 := Lib.hid True.intro; clear K55)
              | (have h := K57; clear h; go_at_call 36; refine (HROo.out _ Ao out co _ OM.out HOL.out).mono ?_; rintro e w11 ⟨o7, A7, c7, rfl, hol7, hot7, hb⟩; replace B := Lib.hid (B.out.trans (hb.mono B.out.size)); replace L := Lib.hid (L.out.call hb); replace T3 := Lib.hid (T3.out.below hb hb.size); replace OM := Lib.hid (OM.out.call hb); replace T4 := Lib.hid (T4.out.below hb hb.size); replace T6 := Lib.hid (T6.out.below hb hb.size); have HO7 := Lib.hid hol7; have HT7 := Lib.hid hot7; clear hol7 hot7; clear hb; have K58 := Lib.hid True.intro; clear K57)
              | (have h := K58; clear h; go_at_call 37; refine (HPNo.out A6 c6 A7 o7 c7 _ T6.out HT7.out HO7.out).mono ?_; rintro e w12 ⟨rfl, hb⟩; replace B := Lib.hid (B.out.trans (hb.mono B.out.size)); replace L := Lib.hid (L.out.call hb); replace T3 := Lib.hid (T3.out.below hb hb.size); replace OM := Lib.hid (OM.out.call hb); replace T4 := Lib.hid (T4.out.below hb hb.size); replace T6 := Lib.hid (T6.out.below hb hb.size); clear HT7 HO7; clear hb; have KX := Lib.hid True.intro; clear K58))
        have HOLN := Lib.hid (show out.length = N1 by rw [(own_lens HOL.out).1, HN1.out]; rfl)
        have HB0 := Lib.hid (Nat.succ_le_of_lt L.out.in_)
        have HRWX := Lib.hid (rows_any Ao co out _ (OM.out.tab (by rw [(own_lens HOL.out).1]; have := HN12.out; omega) (fun s hs => by rw [(own_lens HOL.out).2.1 s hs]; have := HLV.out; omega)) OM.out.nil_row (by rw [(own_lens HOL.out).1]; have := HN12.out; omega) (fun s hs => by rw [(own_lens HOL.out).2.1 s hs]; have := HLV.out; omega))
        clear T3 T4 T6
        go_upto_region 8 with (go_at_call 36; refine HRWX.out.mono ?_; rintro e wp ⟨out2, A2, c2, rfl, ho2, hom2, hb, hsp2⟩; replace B := Lib.hid (B.out.trans (hb.mono B.out.size)); replace L := Lib.hid (L.out.call hb); have HB2 := Lib.hid hb; have HO2 := Lib.hid (ho2.trans HOL.out); have OM2 := Lib.hid hom2; have SP2 := Lib.hid hsp2; clear ho2 hom2 hsp2 hb)
        clear HRWX
        obtain ⟨g1, g2, g3⟩ := own_lens HO2.out
        have hl2 : out2.length = N1 := by rw [g1, HN1.out]; rfl
        have hd0 : d ≤ q.d.ds.length := by have h := HN1.out; show d ≤ q.ds.l.length; omega
        obtain ⟨s, hsd, hsl⟩ := g3 d hd0
        have hrl : s.l.length = M := by rw [hsl, PoD.rowT_length, HM.out]
        have SM := Lib.hid (OM2.out.sep (by rw [g1]; have := HN12.out; omega) (fun s hs => by rw [g2 s hs]; have := HLV.out; omega) SP2.out)
        obtain ⟨g, hgA, hgB, ⟨x, hx, hcx⟩, hfz, hset⟩ := SM.out.set hsd (m := m) (by omega)
        have hxb := rowT_lim HOK.out d x (by rw [← hsl]; exact List.mem_of_getElem? hx)
        have hx0 : -1 ≤ x := hxb.1
        have hx1 : x ≤ 100000 := hxb.2
        obtain ⟨ba, oa, hA2, hba, hca, -⟩ := OM2.out.cell hsd
        rw [hgA, hrl] at hca
        subst hA2
        have hO := Only.set g m wp (.int .i64 (x + e6))
        have hgw : w.heap.size + 1 ≤ g := Nat.le_trans HB0.out hgB
        have BS := Lib.hid (hO.below B.out (by omega))
        have LS := Lib.hid (hO.lies L.out (by omega))
        have OS := Lib.hid (OM.out.call (hO.below HB2.out hgB))
        have hTS := (hset (x + e6)).1
        have hNS := (hset (x + e6)).2
        have hszS : (wp.setCell ⟨g, m, none⟩ (.int .i64 (x + e6))).heap.size = wp.heap.size := by simp
        rw [← hszS] at hTS
        obtain ⟨ts, hts⟩ : ∃ ts, ts = setT out2 d m s (x + e6) := ⟨_, rfl⟩
        rw [← hts] at hTS hNS
        have htl0 : ts.length = N1 := by rw [hts, setT_length, hl2]
        have hml0 : ∀ z, z ∈ ts → z.l.length = M := by
          rw [hts]
          exact setT_rows (fun z hz => by rw [g2 z hz, HM.out]) hrl
        have HTS := Lib.hid hTS
        have HNS := Lib.hid hNS
        have HTL := Lib.hid htl0
        have HML := Lib.hid hml0
        rw [hl2]
        clear hTS hNS htl0 hml0 hts hset SM hsd hrl hgA hx hxb hO hszS hgB hgw B L OM OM2 SP2 HO2 HB2 HB0 g1 g2 g3 hl2 hsl
        go_upto_region 10 with (fail)
        generalize wp.setCell ⟨g, m, none⟩ (.int .i64 (x + e6)) = wS at *
        clear hca hcx hfz hba hd0
        generalize (some (⟨ba, oa, none⟩ : Addr)) = tA at *
        have B := Lib.hid BS.out
        have L := Lib.hid LS.out
        have OM := Lib.hid OS.out
        have TM := Lib.hid HTS.out
        have htl : N1 = ts.length := HTL.out.symm
        have hnn := HNS.out
        have hll : ts.length ≤ 100 := by rw [← htl]; omega
        have hml : ∀ s, s ∈ ts → s.l.length ≤ 1000 := fun s hs => by rw [HML.out s hs]; omega
        obtain ⟨T, hT⟩ : ∃ T, ts.map Sv.l = T := ⟨_, rfl⟩
        by_cases htb2 : q.d.tabB T = true
        · have HRO := Lib.hid (fun W (htm : TabM tA ts W W.heap.size) => (show Calls Try.prog 36 #[.slice tA N1 c2] W (RowsT T W) by
            have := rows_tab tA c2 ts W htm hnn hll hml
            rw [← htl, hT] at this
            exact this))
          obtain ⟨ka, hka⟩ : ∃ ka, q.d.keepsR T = ka := ⟨_, rfl⟩
          obtain ⟨nb, hnb⟩ : ∃ nb, q.d.needsR T = nb := ⟨_, rfl⟩
          have HPK := Lib.hid (fun A c (Ao : Option Addr) out co W (hat : (q.withA A c).At W W.heap.size) (hto : TabM Ao out W W.heap.size) (hoT : out.map Sv.l = T) => (show Calls Try.prog 35 #[.agg (q.withA A c).cells.toArray, .slice Ao out.length co] W fun e w' => e = .returned (.bool ka) ∧ Below W.heap.size W w' by
            have := ProveKeeps_any (q.withA A c) Ao co out W hat hto
            rw [hoT, show (q.withA A c).d.keepsR T = ka from hka] at this
            exact this))
          have HPN := Lib.hid (fun A c (Ao : Option Addr) out co W (hat : (q.withA A c).At W W.heap.size) (hto : TabM Ao out W W.heap.size) (hoT : out.map Sv.l = T) => (show Calls Try.prog 37 #[.agg (q.withA A c).cells.toArray, .slice Ao out.length co] W fun e w' => e = .returned (.bool nb) ∧ Below W.heap.size W w' by
            have := ProveNeeds_any (q.withA A c) Ao co out W hat hto
            rw [hoT, show (q.withA A c).d.needsR T = nb from hnb] at this
            exact this))
          have HIT := Lib.hid (fun W (htm : TabM tA ts W W.heap.size) => (show Calls Try.prog 38 #[.agg q.cells.toArray, .slice tA N1 c2] W fun e w' => e = .returned (.bool true) ∧ Below W.heap.size W w' by
            have := IsTable_any q tA c2 ts W htm HOK.out
            rw [← htl, hT, htb2] at this
            exact this))
          have HX := Lib.hid (fun out (ho : out.map Sv.l = q.d.tableD) (dd ii : Nat) (h1 : dd < N0) (h2 : ii < M) => (show ∃ s so x y, ElM ts out ka nb dd ii M s so x y by
            rw [HM.out] at h2 ⊢
            exact el_of HOK.out htb2 hT ho hka hnb (by show dd ≤ q.ds.l.length; rw [← HN0.out]; omega) h2))
          have htz : (N0 : Int) < (N1 : Int) := by
            have h1 := (PoD.tabB_iff.1 htb2).1
            rw [← hT, List.length_map, ← htl] at h1
            have h2 : q.d.ds.length = N0 := HN0.out.symm
            omega
          have htz2 : (N1 : Int) ≤ 100 := by omega
          clear hka hnb htb2
          clear hnn hll hml hT htl HTS HNS HTL HML BS LS OS
          go_upto_region 10 with (fail)
          have LG := Lib.hid (show ∀ V, (∃ cc : Cls (fun W => Below wS.heap.size wS W), V = cc.val) → V.rangeAt w.heap.size 0 q.cells by
            rintro V ⟨cc, rfl⟩
            exact Lies.range (cs := q.cells) (L.out.call cc.h) (fun j v hj => by simpa using hj))
          haveI hne : Nonempty (Cls (fun W => Below wS.heap.size wS W)) := ⟨⟨wS, Below.refl _ _⟩⟩
          refine wp_region_wayw [0, 2, 5, 7] (.way 1 (.way 3 (.way 4 (.way 6 (.way 8 (.way 9 (.take 10 (.take 11 .fin)) .fin) .fin) .fin) .fin) .fin) .fin) (fun W => ∃ cc : Cls (fun W => Below wS.heap.size wS W), W = cc.val) (by kernel_rfl) (by kernel_rfl) (Cls.here (Below.refl _ _).drew) ?_
          simp only [List.filterMap_cons, List.filterMap_nil, List.getElem?_toArray, List.getElem?_cons_zero, List.getElem?_cons_succ]
          repeat (first
            | (refine wpQuiet_load_wholeG (o := ⟨some 85, _, _, _, _, _⟩) ?_ 26 (.tmp 6) ?_ w.heap.size 0 ?_ q.cells _ LG.out Try.underlying26 rfl size_rp ?_; rfl; rfl; rfl; simp only [Act.put, List.setIfInBounds_toArray, List.set_cons_zero, List.set_cons_succ])
            | (refine wpQuiet_load_wholeG (o := ⟨some 90, _, _, _, _, _⟩) ?_ 26 (.tmp 6) ?_ w.heap.size 0 ?_ q.cells _ LG.out Try.underlying26 rfl size_rp ?_; rfl; rfl; rfl; simp only [Act.put, List.setIfInBounds_toArray, List.set_cons_zero, List.set_cons_succ])
            | go_big_quiet_step (rfl) | quiet_step (rfl))
          refine wpQuiet_nil ?_
          clear LG
          have D := Lib.hid (show Below wS.heap.size wS wS.drew from (Below.refl _ _).drew)
          replace B := Lib.hid (B.out.trans (D.out.mono B.out.size))
          replace TM := Lib.hid (TM.out.below D.out D.out.size)
          replace L := Lib.hid (L.out.call D.out)
          generalize wS.drew = d0 at *
          rw [wpWy_way]
          refine ⟨?_, by exact trivial⟩
          simp only [List.getElem?_toArray, List.getElem?_cons_succ, List.getElem?_cons_zero]
          go_wp2_with (go_at_call 18; refine (Copy_any q _ (HAT.out.below B.out B.out.size) HL15.out).mono ?_; rintro e d' ⟨A81, c81, rfl, hat, hb⟩)
          replace D := Lib.hid (D.out.trans (hb.mono D.out.size))
          replace B := Lib.hid (B.out.trans (hb.mono B.out.size))
          replace TM := Lib.hid (TM.out.below hb hb.size)
          replace L := Lib.hid (L.out.call hb)
          have TC81 := Lib.hid hat
          clear hat
          clear hb
          refine Ends.intro ⟨Cls.here D.out, ?_⟩
          rw [wpWy_way]
          refine ⟨?_, by exact trivial⟩
          simp only [List.getElem?_toArray, List.getElem?_cons_succ, List.getElem?_cons_zero]
          go_wp2_with (go_at_call 36; refine (HRO.out _ TM.out).mono ?_; rintro e d' ⟨out82, A82, c82, rfl, hol, hot, hb⟩)
          replace D := Lib.hid (D.out.trans (hb.mono D.out.size))
          replace B := Lib.hid (B.out.trans (hb.mono B.out.size))
          replace TM := Lib.hid (TM.out.below hb hb.size)
          replace L := Lib.hid (L.out.call hb)
          replace TC81 := Lib.hid (TC81.out.below hb hb.size)
          have HO82 := Lib.hid hol
          have HT82 := Lib.hid hot
          clear hol hot
          clear hb
          refine Ends.intro ⟨Cls.here D.out, ?_⟩
          rw [wpWy_way]
          refine ⟨?_, by exact trivial⟩
          simp only [List.getElem?_toArray, List.getElem?_cons_succ, List.getElem?_cons_zero]
          go_wp2_with (go_at_call 35; refine (HPK.out A81 c81 A82 out82 c82 _ TC81.out HT82.out HO82.out).mono ?_; rintro e d' ⟨rfl, hb⟩)
          replace D := Lib.hid (D.out.trans (hb.mono D.out.size))
          replace B := Lib.hid (B.out.trans (hb.mono B.out.size))
          replace TM := Lib.hid (TM.out.below hb hb.size)
          replace L := Lib.hid (L.out.call hb)
          clear hb
          refine Ends.intro ⟨Cls.here D.out, ?_⟩
          rw [wpWy_way]
          refine ⟨?_, by exact trivial⟩
          simp only [List.getElem?_toArray, List.getElem?_cons_succ, List.getElem?_cons_zero]
          go_wp2_with (go_at_call 18; refine (Copy_any q _ (HAT.out.below B.out B.out.size) HL15.out).mono ?_; rintro e d' ⟨A83, c83, rfl, hat, hb⟩)
          replace D := Lib.hid (D.out.trans (hb.mono D.out.size))
          replace B := Lib.hid (B.out.trans (hb.mono B.out.size))
          replace TM := Lib.hid (TM.out.below hb hb.size)
          replace L := Lib.hid (L.out.call hb)
          have TC83 := Lib.hid hat
          clear hat
          clear hb
          refine Ends.intro ⟨Cls.here D.out, ?_⟩
          rw [wpWy_way]
          refine ⟨?_, by exact trivial⟩
          simp only [List.getElem?_toArray, List.getElem?_cons_succ, List.getElem?_cons_zero]
          go_wp2_with (go_at_call 36; refine (HRO.out _ TM.out).mono ?_; rintro e d' ⟨out84, A84, c84, rfl, hol, hot, hb⟩)
          replace D := Lib.hid (D.out.trans (hb.mono D.out.size))
          replace B := Lib.hid (B.out.trans (hb.mono B.out.size))
          replace TM := Lib.hid (TM.out.below hb hb.size)
          replace L := Lib.hid (L.out.call hb)
          replace TC83 := Lib.hid (TC83.out.below hb hb.size)
          have HO84 := Lib.hid hol
          have HT84 := Lib.hid hot
          clear hol hot
          clear hb
          refine Ends.intro ⟨Cls.here D.out, ?_⟩
          rw [wpWy_way]
          refine ⟨?_, by exact trivial⟩
          simp only [List.getElem?_toArray, List.getElem?_cons_succ, List.getElem?_cons_zero]
          go_wp2_with (go_at_call 37; refine (HPN.out A83 c83 A84 out84 c84 _ TC83.out HT84.out HO84.out).mono ?_; rintro e d' ⟨rfl, hb⟩)
          replace D := Lib.hid (D.out.trans (hb.mono D.out.size))
          replace B := Lib.hid (B.out.trans (hb.mono B.out.size))
          replace TM := Lib.hid (TM.out.below hb hb.size)
          replace L := Lib.hid (L.out.call hb)
          clear hb
          refine Ends.intro ⟨Cls.here D.out, ?_⟩
          rw [wpWy_take]
          simp only [List.getElem?_toArray, List.getElem?_cons_succ, List.getElem?_cons_zero]
          first | go_big_quiet_step (rfl) | quiet_step (rfl)
          refine wpQuiet_nil ?_
          rw [wpWy_take]
          simp only [List.getElem?_toArray, List.getElem?_cons_succ, List.getElem?_cons_zero]
          first | go_big_quiet_step (rfl) | quiet_step (rfl)
          refine wpQuiet_nil ?_
          rw [wpWy_fin]
          replace OM := Lib.hid (OM.out.call D.out)
          clear D
          replace HX := Lib.hid (HX.out out HOL.out)
          have K0 := Lib.hid True.intro
          go_upto_region 13 with (first
              | (have h := K0; clear h; refine wpList_load_row (o := ⟨some 95, _, _, _, _, _⟩) ?_ 26 (.tmp 6) ?_ w.heap.size ?_ 26 q.cells.toArray (0, 0) _ L.out Try.underlying26 rfl size_rp ?_; rfl; rfl; rfl; have K1 := Lib.hid True.intro; clear K0)
              | (have h := K1; clear h; go_at_call 38; refine (HIT.out _ TM.out).mono ?_; rintro e w' ⟨rfl, hb⟩; replace B := Lib.hid (B.out.trans (hb.mono B.out.size)); replace L := Lib.hid (L.out.call hb); replace TM := Lib.hid (TM.out.below hb hb.size); replace OM := Lib.hid (OM.out.call hb); clear hb; have K2 := Lib.hid True.intro; clear K1))
          have TMO := Lib.hid (OM.out.tab (by rw [(own_lens HOL.out).1]; have := HN12.out; omega) (fun s hs => by rw [(own_lens HOL.out).2.1 s hs]; have := HLV.out; omega))
          clear OM HRO HPK HPN HIT
          rw [HOLN.out]
          go_wp2
          go_loopw [12, 18, 19, 20, 21] (fun _ s18 _ _ _ wr => ∃ k : Nat, k ≤ N0 ∧ s18 = .int .i64 k ∧ Aside (Below w'.heap.size w' wr)) (fun _ i _ _ _ _ => N0 - (intOf i).toNat)
          case atStart => exact ⟨0, by omega, rfl, Below.refl _ _⟩
          case round =>
            obtain ⟨k, hk, rfl, HH⟩ := hrel
            have WW := Lib.hid HH.out
            clear HH
            have hk0 : (0 : Int) ≤ (k : Int) := by omega
            have c110 : wr.cell? ⟨w.heap.size, 6, none⟩ = some (.slice q.ds.A N0 q.ds.c) := by rw [HN0.out]; exact (L.out.call WW.out).at_ 6
            by_cases hlt : k < N0
            · have hltz : (k : Int) < (N0 : Int) := by omega
              obtain ⟨s, so, x0, y0, hel0⟩ := HX.out k 0 (by omega) (by omega)
              obtain ⟨bo, oo, hAo, hbo, hco⟩ := TMO.out.cell hel0.eo
              obtain ⟨bs, os, hAs, hbs, hcs⟩ := TM.out.cell hel0.es
              rw [hel0.lo] at hco
              rw [hel0.ls] at hcs
              have HS := Lib.hid hel0.es
              have HSO := Lib.hid hel0.eo
              have HBO := Lib.hid hbo
              have HBS := Lib.hid hbs
              have HCO := Lib.hid hco
              have HCS := Lib.hid hcs
              subst hAo
              subst hAs
              clear hel0 hbo hbs hco hcs
              go_wp2
              go_loopw [12, 19, 20, 21] (fun _ s19 _ _ wq => ∃ j : Nat, j ≤ M ∧ s19 = .int .i64 j ∧ Aside (Below w'.heap.size w' wq)) (fun _ i _ _ _ => M - (intOf i).toNat)
              case atStart => exact ⟨0, by omega, rfl, WW.out⟩
              case round =>
                obtain ⟨j, hj, rfl, HH⟩ := hrel
                have WQ := Lib.hid HH.out
                clear HH
                have hj0 : (0 : Int) ≤ (j : Int) := by omega
                have c119 := (WQ.out.cell (p := ⟨bo, oo + k, none⟩) HBO.out).trans HCO.out
                by_cases hjt : j < M
                · have hjtz : (j : Int) < (M : Int) := by omega
                  obtain ⟨s2, so2, x, y, hel⟩ := HX.out k j (by omega) hjt
                  obtain rfl : s2 = s := Option.some.inj (hel.es.symm.trans HS.out)
                  obtain rfl : so2 = so := Option.some.inj (hel.eo.symm.trans HSO.out)
                  obtain ⟨b1, f1, hA1, hb1, hc1⟩ := ((TM.out.i s2 (List.mem_of_getElem? hel.es)).cell1 hel.ex)
                  obtain ⟨b2, f2, hA2, hb2, hc2⟩ := ((TMO.out.i so2 (List.mem_of_getElem? hel.eo)).cell1 hel.ey)
                  have HEX := Lib.hid hel.x0
                  have hx0 : -1 ≤ x := hel.x0
                  have hy0 : -1 ≤ y := hel.y0
                  have hkk : ka = true → x ≠ -1 → y ≠ -1 ∧ y ≤ x := hel.k
                  have hnn : nb = true → y ≠ -1 → x ≠ -1 ∧ x ≤ y := hel.n
                  rw [hA2] at c119
                  have r119 := cell_regrown c119
                  have c127 := (WQ.out.cell (p := ⟨bs, os + k, none⟩) HBS.out).trans HCS.out
                  rw [hA1] at c127
                  have r127 := cell_regrown c127
                  clear c127
                  have r130 := cell_regrown ((WQ.out.cell (p := ⟨b1, f1 + j, none⟩) hb1).trans hc1)
                  have r137 := cell_regrown ((WQ.out.cell (p := ⟨b2, f2 + j, none⟩) hb2).trans hc2)
                  clear hel hA1 hA2 hb1 hb2 hc1 hc2
                  go_upto_region 19 with (fail)
                  refine wp_region_quiet_below (by kernel_rfl) (by kernel_rfl) ?_; (repeat (first | go_big_quiet_step ((fail)) | quiet_step ((fail)))); refine wpQuiet_nil ?_; intro wq hwq; have hbq : Below _ _ wq := (by obtain ⟨p, rfl⟩ := hwq; exact below_regrown _ _ _); clear hwq
                  clear r119 r127 r130 r137 c119
                  have HWQ := Lib.hid (WQ.out.trans (hbq.mono WQ.out.size))
                  clear hbq
                  have hkd : ka = true → (x = -1 ∨ (y ≠ -1 ∧ y ≤ x)) := fun e => by by_cases e2 : x = -1; exact .inl e2; exact .inr (hkk e e2)
                  have hnd : nb = true → (y = -1 ∨ (x ≠ -1 ∧ x ≤ y)) := fun e => by by_cases e2 : y = -1; exact .inl e2; exact .inr (hnn e e2)
                  clear hkk hnn
                  cases ka <;> cases nb <;> (try replace hkd := hkd rfl) <;> (try replace hnd := hnd rfl) <;> by_cases h1 : y < x <;> by_cases h2 : 0 ≤ y <;> by_cases h3 : 0 ≤ x <;> by_cases h4 : x < y <;> (first
                    | (exfalso; omega)
                    | (clear hkd hnd
                       go_wp2
                       go_roundw
                       case rel => exact ⟨j + 1, by omega, by go_num, HWQ.out⟩
                       case measure => simp [intOf]; omega))
                · obtain rfl : j = M := by omega
                  go_wp2
                  go_roundw
                  case rel => exact ⟨k + 1, by omega, by go_num, WQ.out⟩
                  case measure => simp [intOf]; omega
            · obtain rfl : k = N0 := by omega
              go_wp2_with (go_at_call 16; refine (wakes_any _).mono ?_; rintro e w99 ⟨rfl, hb9⟩)
              go_ret
              exact ⟨rfl, B.out.trans ((WW.out.trans (hb9.mono WW.out.size)).mono B.out.size)⟩
        · have htb2 : q.d.tabB T = false := by simpa using htb2
          have HRO := Lib.hid (fun W (htm : TabM tA ts W W.heap.size) => (show Calls Try.prog 36 #[.slice tA N1 c2] W (RowsT T W) by
            have := rows_tab tA c2 ts W htm hnn hll hml
            rw [← htl, hT] at this
            exact this))
          have hka : q.d.keepsR T = false := PoD.isOfB_not (.inr htb2)
          have hnb : q.d.needsR T = false := PoD.isOfB_not (.inr htb2)
          have HPK := Lib.hid (fun A c (Ao : Option Addr) out co W (hat : (q.withA A c).At W W.heap.size) (hto : TabM Ao out W W.heap.size) (hoT : out.map Sv.l = T) => (show Calls Try.prog 35 #[.agg (q.withA A c).cells.toArray, .slice Ao out.length co] W fun e w' => e = .returned (.bool false) ∧ Below W.heap.size W w' by
            have := ProveKeeps_any (q.withA A c) Ao co out W hat hto
            rw [hoT, show (q.withA A c).d.keepsR T = false from hka] at this
            exact this))
          have HPN := Lib.hid (fun A c (Ao : Option Addr) out co W (hat : (q.withA A c).At W W.heap.size) (hto : TabM Ao out W W.heap.size) (hoT : out.map Sv.l = T) => (show Calls Try.prog 37 #[.agg (q.withA A c).cells.toArray, .slice Ao out.length co] W fun e w' => e = .returned (.bool false) ∧ Below W.heap.size W w' by
            have := ProveNeeds_any (q.withA A c) Ao co out W hat hto
            rw [hoT, show (q.withA A c).d.needsR T = false from hnb] at this
            exact this))
          have HIT := Lib.hid (fun W (htm : TabM tA ts W W.heap.size) => (show Calls Try.prog 38 #[.agg q.cells.toArray, .slice tA N1 c2] W fun e w' => e = .returned (.bool false) ∧ Below W.heap.size W w' by
            have := IsTable_any q tA c2 ts W htm HOK.out
            rw [← htl, hT, htb2] at this
            exact this))
          clear hka hnb htb2
          clear hnn hll hml hT htl HTS HNS HTL HML BS LS OS
          go_upto_region 10 with (fail)
          have LG := Lib.hid (show ∀ V, (∃ cc : Cls (fun W => Below wS.heap.size wS W), V = cc.val) → V.rangeAt w.heap.size 0 q.cells by
            rintro V ⟨cc, rfl⟩
            exact Lies.range (cs := q.cells) (L.out.call cc.h) (fun j v hj => by simpa using hj))
          haveI hne : Nonempty (Cls (fun W => Below wS.heap.size wS W)) := ⟨⟨wS, Below.refl _ _⟩⟩
          refine wp_region_wayw [0, 2, 5, 7] (.way 1 (.way 3 (.way 4 (.way 6 (.way 8 (.way 9 (.take 10 (.take 11 .fin)) .fin) .fin) .fin) .fin) .fin) .fin) (fun W => ∃ cc : Cls (fun W => Below wS.heap.size wS W), W = cc.val) (by kernel_rfl) (by kernel_rfl) (Cls.here (Below.refl _ _).drew) ?_
          simp only [List.filterMap_cons, List.filterMap_nil, List.getElem?_toArray, List.getElem?_cons_zero, List.getElem?_cons_succ]
          repeat (first
            | (refine wpQuiet_load_wholeG (o := ⟨some 85, _, _, _, _, _⟩) ?_ 26 (.tmp 6) ?_ w.heap.size 0 ?_ q.cells _ LG.out Try.underlying26 rfl size_rp ?_; rfl; rfl; rfl; simp only [Act.put, List.setIfInBounds_toArray, List.set_cons_zero, List.set_cons_succ])
            | (refine wpQuiet_load_wholeG (o := ⟨some 90, _, _, _, _, _⟩) ?_ 26 (.tmp 6) ?_ w.heap.size 0 ?_ q.cells _ LG.out Try.underlying26 rfl size_rp ?_; rfl; rfl; rfl; simp only [Act.put, List.setIfInBounds_toArray, List.set_cons_zero, List.set_cons_succ])
            | go_big_quiet_step (rfl) | quiet_step (rfl))
          refine wpQuiet_nil ?_
          clear LG
          have D := Lib.hid (show Below wS.heap.size wS wS.drew from (Below.refl _ _).drew)
          replace B := Lib.hid (B.out.trans (D.out.mono B.out.size))
          replace TM := Lib.hid (TM.out.below D.out D.out.size)
          replace L := Lib.hid (L.out.call D.out)
          generalize wS.drew = d0 at *
          rw [wpWy_way]
          refine ⟨?_, by exact trivial⟩
          simp only [List.getElem?_toArray, List.getElem?_cons_succ, List.getElem?_cons_zero]
          go_wp2_with (go_at_call 18; refine (Copy_any q _ (HAT.out.below B.out B.out.size) HL15.out).mono ?_; rintro e d' ⟨A81, c81, rfl, hat, hb⟩)
          replace D := Lib.hid (D.out.trans (hb.mono D.out.size))
          replace B := Lib.hid (B.out.trans (hb.mono B.out.size))
          replace TM := Lib.hid (TM.out.below hb hb.size)
          replace L := Lib.hid (L.out.call hb)
          have TC81 := Lib.hid hat
          clear hat
          clear hb
          refine Ends.intro ⟨Cls.here D.out, ?_⟩
          rw [wpWy_way]
          refine ⟨?_, by exact trivial⟩
          simp only [List.getElem?_toArray, List.getElem?_cons_succ, List.getElem?_cons_zero]
          go_wp2_with (go_at_call 36; refine (HRO.out _ TM.out).mono ?_; rintro e d' ⟨out82, A82, c82, rfl, hol, hot, hb⟩)
          replace D := Lib.hid (D.out.trans (hb.mono D.out.size))
          replace B := Lib.hid (B.out.trans (hb.mono B.out.size))
          replace TM := Lib.hid (TM.out.below hb hb.size)
          replace L := Lib.hid (L.out.call hb)
          replace TC81 := Lib.hid (TC81.out.below hb hb.size)
          have HO82 := Lib.hid hol
          have HT82 := Lib.hid hot
          clear hol hot
          clear hb
          refine Ends.intro ⟨Cls.here D.out, ?_⟩
          rw [wpWy_way]
          refine ⟨?_, by exact trivial⟩
          simp only [List.getElem?_toArray, List.getElem?_cons_succ, List.getElem?_cons_zero]
          go_wp2_with (go_at_call 35; refine (HPK.out A81 c81 A82 out82 c82 _ TC81.out HT82.out HO82.out).mono ?_; rintro e d' ⟨rfl, hb⟩)
          replace D := Lib.hid (D.out.trans (hb.mono D.out.size))
          replace B := Lib.hid (B.out.trans (hb.mono B.out.size))
          replace TM := Lib.hid (TM.out.below hb hb.size)
          replace L := Lib.hid (L.out.call hb)
          clear hb
          refine Ends.intro ⟨Cls.here D.out, ?_⟩
          rw [wpWy_way]
          refine ⟨?_, by exact trivial⟩
          simp only [List.getElem?_toArray, List.getElem?_cons_succ, List.getElem?_cons_zero]
          go_wp2_with (go_at_call 18; refine (Copy_any q _ (HAT.out.below B.out B.out.size) HL15.out).mono ?_; rintro e d' ⟨A83, c83, rfl, hat, hb⟩)
          replace D := Lib.hid (D.out.trans (hb.mono D.out.size))
          replace B := Lib.hid (B.out.trans (hb.mono B.out.size))
          replace TM := Lib.hid (TM.out.below hb hb.size)
          replace L := Lib.hid (L.out.call hb)
          have TC83 := Lib.hid hat
          clear hat
          clear hb
          refine Ends.intro ⟨Cls.here D.out, ?_⟩
          rw [wpWy_way]
          refine ⟨?_, by exact trivial⟩
          simp only [List.getElem?_toArray, List.getElem?_cons_succ, List.getElem?_cons_zero]
          go_wp2_with (go_at_call 36; refine (HRO.out _ TM.out).mono ?_; rintro e d' ⟨out84, A84, c84, rfl, hol, hot, hb⟩)
          replace D := Lib.hid (D.out.trans (hb.mono D.out.size))
          replace B := Lib.hid (B.out.trans (hb.mono B.out.size))
          replace TM := Lib.hid (TM.out.below hb hb.size)
          replace L := Lib.hid (L.out.call hb)
          replace TC83 := Lib.hid (TC83.out.below hb hb.size)
          have HO84 := Lib.hid hol
          have HT84 := Lib.hid hot
          clear hol hot
          clear hb
          refine Ends.intro ⟨Cls.here D.out, ?_⟩
          rw [wpWy_way]
          refine ⟨?_, by exact trivial⟩
          simp only [List.getElem?_toArray, List.getElem?_cons_succ, List.getElem?_cons_zero]
          go_wp2_with (go_at_call 37; refine (HPN.out A83 c83 A84 out84 c84 _ TC83.out HT84.out HO84.out).mono ?_; rintro e d' ⟨rfl, hb⟩)
          replace D := Lib.hid (D.out.trans (hb.mono D.out.size))
          replace B := Lib.hid (B.out.trans (hb.mono B.out.size))
          replace TM := Lib.hid (TM.out.below hb hb.size)
          replace L := Lib.hid (L.out.call hb)
          clear hb
          refine Ends.intro ⟨Cls.here D.out, ?_⟩
          rw [wpWy_take]
          simp only [List.getElem?_toArray, List.getElem?_cons_succ, List.getElem?_cons_zero]
          first | go_big_quiet_step (rfl) | quiet_step (rfl)
          refine wpQuiet_nil ?_
          rw [wpWy_take]
          simp only [List.getElem?_toArray, List.getElem?_cons_succ, List.getElem?_cons_zero]
          first | go_big_quiet_step (rfl) | quiet_step (rfl)
          refine wpQuiet_nil ?_
          rw [wpWy_fin]
          replace OM := Lib.hid (OM.out.call D.out)
          clear D
          have K0 := Lib.hid True.intro
          go_wp2_with (first
              | (have h := K0; clear h; refine wpList_load_row (o := ⟨some 95, _, _, _, _, _⟩) ?_ 26 (.tmp 6) ?_ w.heap.size ?_ 26 q.cells.toArray (0, 0) _ L.out Try.underlying26 rfl size_rp ?_; rfl; rfl; rfl; have K1 := Lib.hid True.intro; clear K0)
              | (have h := K1; clear h; go_at_call 38; refine (HIT.out _ TM.out).mono ?_; rintro e w' ⟨rfl, hb⟩; replace B := Lib.hid (B.out.trans (hb.mono B.out.size)); replace L := Lib.hid (L.out.call hb); replace TM := Lib.hid (TM.out.below hb hb.size); clear hb; have K2 := Lib.hid True.intro; clear K1)
              | (have h := K2; clear h; go_at_call 16; refine (wakes_any _).mono ?_; rintro e w' ⟨rfl, hb⟩; replace B := Lib.hid (B.out.trans (hb.mono B.out.size)); replace L := Lib.hid (L.out.call hb); replace TM := Lib.hid (TM.out.below hb hb.size); clear hb; have K3 := Lib.hid True.intro; clear K2))
          go_ret
          exact ⟨rfl, B.out⟩
    · have htb2 : tabularB t.l = false := by simpa using htb
      rw [htb2] at htab0
      have HTB := Lib.hid htab0
      clear htab0 htb ht hok
      go_enter Try.func10, Try.ntmps10
      go_upto_region 1 with (fail)
      change Code.wp _ _ _ _ (w.alloc (.cells q.cells.toArray 26))
      generalize w.alloc (.cells q.cells.toArray 26) = w1 at *
      go_wp2_with (first
          | (have h := K22; clear h; refine wpList_load_row (o := ⟨some 22, _, _, _, _, _⟩) ?_ 26 (.tmp 6) ?_ w.heap.size ?_ 26 q.cells.toArray (0, 0) _ L.out Try.underlying26 rfl size_rp ?_; rfl; rfl; rfl; have K23 := Lib.hid True.intro; clear K22)
          | (have h := K23; clear h; go_at_call 42; refine (HRE.out _ B.out).mono ?_; rintro e w2 ⟨rfl, hb⟩; replace B := Lib.hid (B.out.trans (hb.mono B.out.size)); replace L := Lib.hid (L.out.call hb); clear hb; have K27 := Lib.hid True.intro; clear K23)
          | (have h := K27; clear h; go_at_call 34; refine (HTB.out _ B.out).mono ?_; rintro e w3 ⟨rfl, hb⟩; replace B := Lib.hid (B.out.trans (hb.mono B.out.size)); replace L := Lib.hid (L.out.call hb); clear hb; have KW := Lib.hid True.intro; clear K27)
          | (have h := KW; clear h; go_at_call 16; refine (wakes_any _).mono ?_; rintro e w4 ⟨rfl, hb⟩; replace B := Lib.hid (B.out.trans (hb.mono B.out.size)); replace L := Lib.hid (L.out.call hb); clear hb; have KWW := Lib.hid True.intro; clear KW))
      go_ret
      exact ⟨rfl, B.out⟩
  · have hrd2 : q.d.readyB = false := by simpa using hrd
    rw [hrd2] at hre0
    have HRE := Lib.hid hre0
    clear hre0 HO ht htab0
    go_enter Try.func10, Try.ntmps10
    go_upto_region 1 with (fail)
    change Code.wp _ _ _ _ (w.alloc (.cells q.cells.toArray 26))
    generalize w.alloc (.cells q.cells.toArray 26) = w1 at *
    go_wp2_with (first
        | (have h := K22; clear h; refine wpList_load_row (o := ⟨some 22, _, _, _, _, _⟩) ?_ 26 (.tmp 6) ?_ w.heap.size ?_ 26 q.cells.toArray (0, 0) _ L.out Try.underlying26 rfl size_rp ?_; rfl; rfl; rfl; have K23 := Lib.hid True.intro; clear K22)
        | (have h := K23; clear h; go_at_call 42; refine (HRE.out _ B.out).mono ?_; rintro e w2 ⟨rfl, hb⟩; replace B := Lib.hid (B.out.trans (hb.mono B.out.size)); replace L := Lib.hid (L.out.call hb); clear hb; have KW := Lib.hid True.intro; clear K23)
        | (have h := KW; clear h; go_at_call 16; refine (wakes_any _).mono ?_; rintro e w3 ⟨rfl, hb⟩; replace B := Lib.hid (B.out.trans (hb.mono B.out.size)); replace L := Lib.hid (L.out.call hb); clear hb; have KWW := Lib.hid True.intro; clear KW))
    go_ret
    exact ⟨rfl, B.out⟩
end Go.Proofs.Yteognijlgalahaa
