/- The texts G H I J K L M N OO F PA PB PC, joined. -/
import Derived.Test.YtkjhofbjjogmlaaXB
/- Courses in memory; truths; nothingIll, truthOf, onsets. -/
namespace Go.Proofs.Ytkjhofbjjogmlaa
open Go.RowKit Go.Lib

/-- A course as it lies: the row, and the windows. -/
structure CoM where
  r : RwM
  ws : List (Int × Int)
def CoM.cells (c : CoM) : List Value := c.r.cells ++ c.ws.flatMap encWin
theorem CoM.len (c : CoM) (h : c.ws.length = 10) : c.cells.length = 28 := by
  unfold CoM.cells
  rw [List.length_append, flat_len (enc := encWin) (k := 2) (fun _ => rfl), h]
  rfl
theorem size_co : (Try.prog.info? 84).map (·.size) = some 28 := by kernel_rfl
theorem size_tr : (Try.prog.info? 86).map (·.size) = some 10 := by kernel_rfl
theorem wpList_load_midG {P : Program} {ops : Array Oper} {rest : List Oper} {op : Oper} {a : Act} {w : World} {Q : Exit → Act → World → Prop} (hw : Region.wanted op (yielded ops a.tmps) = true) (ty : TypeId) (x : Operand) (ho : op.op = .load ty x)
    (b o : Nat) (hx : a.eval x = .pointer (some ⟨b, o, none⟩)) (cs : List Value) (d : TypeDesc) (hc : w.rangeAt b o cs)
    (hu : P.underlying ty = some d) (hd : d.isRow = true) (hi : (P.info? ty).map (·.size) = some cs.length)
    (h : wpList P ops Q rest (a.put op.dst (.agg cs.toArray)) w) : wpList P ops Q (op :: rest) a w :=
  wpList_step fun K hK => by
    rw [if_pos hw]
    exact wp_load_mid ty x ho b o hx cs d hc hu hd hi (hK _ _ h)
def never : Int := 31
/-- The first k are 31. -/
structure Upto31 (k : Nat) (l : List Int) : Prop where
  len : l.length = 10
  at_ : ∀ j, j < k → l[j]? = some 31
theorem Upto31.next {k : Nat} {l : List Int} (h : Upto31 k l) (hk : k < 10) : Upto31 (k + 1) (l.set k 31) := by
  refine ⟨by simpa using h.len, fun j hj => ?_⟩
  by_cases e : j = k
  · subst e; rw [List.getElem?_set_self (by rw [h.len]; exact hk)]
  · rw [List.getElem?_set_ne (Ne.symm e)]; exact h.at_ j (by omega)
theorem Upto31.all {l : List Int} (h : Upto31 10 l) : l = List.replicate 10 31 := by
  refine List.ext_getElem? fun i => ?_
  by_cases hi : i < 10
  · rw [h.at_ i hi, List.getElem?_replicate, if_pos hi]
  · rw [List.getElem?_eq_none (by rw [h.len]; omega), List.getElem?_eq_none (by simp; omega)]
set_option maxHeartbeats 1000000 in
theorem nothingIll_any (w : World) : Calls Try.prog 78 #[] w fun e w' => e = .returned (.agg (vals (List.replicate 10 31))) ∧ Below w.heap.size w w' := by
  have l0 : Lies ((w.alloc (.cells (vals (List.replicate 10 0)) 86)).alloc (.cells (vals (List.replicate 10 0)) 86)) w.heap.size 86 (vals (List.replicate 10 0)) := (Lies.fresh _ _ _).alloc _
  have l1 : Lies ((w.alloc (.cells (vals (List.replicate 10 0)) 86)).alloc (.cells (vals (List.replicate 10 0)) 86)) (w.heap.size + 1) 86 (vals (List.replicate 10 0)) := Lies.fresh' (by simp)
  have b0 : Below w.heap.size w ((w.alloc (.cells (vals (List.replicate 10 0)) 86)).alloc (.cells (vals (List.replicate 10 0)) 86)) := (by repeat (first | (with_reducible assumption) | (with_reducible exact Below.refl _ _) | (with_reducible refine Below.drew ?_) | (with_reducible refine below_drewN ?_ _) | ((with_reducible refine Below.setCell ?_ ?_ _); rotate_left; focus (first | (simp; done) | (simp; omega) | omega)) | ((with_reducible refine Below.alloc ?_ ?_ _); rotate_left; focus (first | (simp; done) | (simp; omega) | omega))))
  have L0 := Lib.hid l0
  have L1 := Lib.hid l1
  have B0 := Lib.hid b0
  clear l0 l1 b0
  go_enter Try.func78, Try.ntmps78
  go_wp2
  change Code.wp _ _ _ _ ((w.alloc (.cells (vals (List.replicate 10 0)) 86)).alloc (.cells (vals (List.replicate 10 0)) 86))
  generalize (w.alloc (.cells (vals (List.replicate 10 0)) 86)).alloc (.cells (vals (List.replicate 10 0)) 86) = w1 at *
  go_loopw [2, 3] (fun _ s3 wr => ∃ (k : Nat) (l : List Int), k ≤ 10 ∧ s3 = .int .i64 k ∧ Aside (Lies wr (w.heap.size + 1) 86 (vals l)) ∧ Aside (Lies wr w.heap.size 86 (vals (List.replicate 10 0))) ∧ Aside (Below w.heap.size w wr) ∧ Aside (Upto31 k l)) (fun _ i _ => 10 - (intOf i).toNat)
  case atStart => exact ⟨0, List.replicate 10 0, by omega, rfl, L1.out, L0.out, B0.out, ⟨rfl, fun j hj => by omega⟩⟩
  case round =>
    obtain ⟨k, l, hk, rfl, HL, HZ, HB, HU⟩ := hrel
    by_cases hlt : k < 10
    · have hltz : (k : Int) < 10 := by omega
      have hk0 : (0 : Int) ≤ (k : Int) := by omega
      have hkl : k < l.length := by rw [HU.out.len]; exact hlt
      have c : wr.cell? ⟨w.heap.size + 1, k, none⟩ = some (.int .i64 (l.getD k 0)) := by rw [HL.out.at_]; exact vals_at (by simp [hkl])
      have f : wr.frozen? ⟨w.heap.size + 1, k, none⟩ = false := HL.out.free k
      clear hkl
      go_wp2
      go_roundw
      case rel =>
        refine ⟨k + 1, l.set k 31, by omega, by go_num, ?_, HZ.out.other (show w.heap.size ≠ w.heap.size + 1 by omega) _, HB.out.setCell (by simp) _, HU.out.next hlt⟩
        have := HL.out.set k (.int .i64 31)
        rwa [vals_set] at this
      case measure => simp [intOf]; omega
    · obtain rfl : k = 10 := by omega
      have he := HU.out.all
      subst he
      have hfit : 0 + (List.replicate 10 (31 : Int)).length ≤ (List.replicate 10 (0 : Int)).length := by simp
      have HF := Lib.hid hfit
      clear hfit hlt
      go_wp2_with (first
        | (refine wpList_load_ints (o := ⟨some 9, _, _, _, _, _⟩) ?_ 86 (.tmp 1) ?_ (w.heap.size + 1) 0 ?_ 86 (List.replicate 10 31) (List.replicate 10 31) _ HL.out (fun j v h => by simpa using h) Try.underlying86 rfl size_tr ?_; rfl; rfl; rfl)
        | (refine wpList_store_ints (o := ⟨none, .store 86 (.tmp 0) _, _, _, _, _⟩) ?_ 86 (.tmp 0) (.tmp 9) ?_ w.heap.size 0 ?_ 86 (List.replicate 10 0) (List.replicate 10 31) ?_ HZ.out HF.out size_tr ?_; rfl; rfl; rfl; rfl; intro w2 HS2 HO2))
      exact bodyPost_ret (results_ints rfl _ _ w.heap.size 86 (List.replicate 10 31) _ rfl (by have := HS2.out; rwa [splice_all (by simp)] at this) Try.underlying86 rfl size_tr) rfl ⟨rfl, HO2.out.below HB.out (Nat.le_refl _)⟩
end Go.Proofs.Ytkjhofbjjogmlaa

/- truthOf, onsets. -/
namespace Go.Proofs.Ytkjhofbjjogmlaa
open Go.RowKit Go.Lib

def in31 (o : Int) : Int := if o = -1 then 31 else o
def out31 (o : Int) : Int := if o = 31 then -1 else o
/-- The truth of a list of onsets. -/
def truthD (l : List Int) : List Int := l.map in31 ++ List.replicate (10 - l.length) 31
theorem truthD_length {l : List Int} (h : l.length ≤ 10) : (truthD l).length = 10 := by simp [truthD]; omega
/-- The first k are taken over. -/
structure TakenT (os : List Int) (k : Nat) (l : List Int) : Prop where
  len : l.length = 10
  at_ : ∀ j o, j < k → os[j]? = some o → l[j]? = some (in31 o)
  rest : ∀ j, k ≤ j → j < 10 → l[j]? = some 31
theorem TakenT.next {os l : List Int} {k : Nat} {o : Int} (h : TakenT os k l) (ho : os[k]? = some o) (hk : k < 10) (hn : o ≠ -1) : TakenT os (k + 1) (l.set k o) := by
  refine ⟨by simpa using h.len, fun j o' hj ho' => ?_, fun j hj h10 => ?_⟩
  · by_cases e : j = k
    · subst e
      rw [List.getElem?_set_self (by rw [h.len]; exact hk)]
      rw [ho] at ho'; cases ho'; unfold in31; rw [if_neg hn]
    · rw [List.getElem?_set_ne (Ne.symm e)]; exact h.at_ j o' (by omega) ho'
  · rw [List.getElem?_set_ne (by omega)]; exact h.rest j (by omega) h10
theorem TakenT.skip {os l : List Int} {k : Nat} {o : Int} (h : TakenT os k l) (ho : os[k]? = some o) (hk : k < 10) (hn : o = -1) : TakenT os (k + 1) l := by
  refine ⟨h.len, fun j o' hj ho' => ?_, fun j hj h10 => h.rest j (by omega) h10⟩
  by_cases e : j = k
  · subst e
    rw [ho] at ho'; cases ho'
    rw [h.rest j (Nat.le_refl _) hk, hn]; rfl
  · exact h.at_ j o' (by omega) ho'
theorem TakenT.all {os l : List Int} (h : TakenT os os.length l) (hl : os.length ≤ 10) : l = truthD os := by
  refine List.ext_getElem? fun i => ?_
  unfold truthD
  by_cases hi : i < os.length
  · rw [List.getElem?_append_left (by simpa using hi), List.getElem?_map, h.at_ i os[i] hi (by simp [hi])]
    simp [hi]
  · rw [List.getElem?_append_right (by simpa using hi), List.getElem?_replicate]
    by_cases h2 : i < 10
    · rw [h.rest i (by omega) h2, if_pos (by simp; omega)]
    · rw [List.getElem?_eq_none (by rw [h.len]; omega), if_neg (by simp; omega)]
set_option maxRecDepth 100000 in
set_option maxHeartbeats 1000000 in
theorem truthOf_any (A : Option Addr) (c : Nat) (os : List Int) (w : World) (hA : Sl w w.heap.size 1 encI A os) (hl : os.length ≤ 10) :
    Calls Try.prog 52 #[.slice A os.length c] w fun e w' => e = .returned (.agg (vals (truthD os))) ∧ Below w.heap.size w w' := by
  have l0 : Lies (w.alloc (.cells (vals (List.replicate 10 0)) 86)) w.heap.size 86 (vals (List.replicate 10 0)) := Lies.fresh _ _ _
  have b0 : Below w.heap.size w (w.alloc (.cells (vals (List.replicate 10 0)) 86)) := (by repeat (first | (with_reducible assumption) | (with_reducible exact Below.refl _ _) | (with_reducible refine Below.drew ?_) | (with_reducible refine below_drewN ?_ _) | ((with_reducible refine Below.setCell ?_ ?_ _); rotate_left; focus (first | (simp; done) | (simp; omega) | omega)) | ((with_reducible refine Below.alloc ?_ ?_ _); rotate_left; focus (first | (simp; done) | (simp; omega) | omega))))
  have L0 := Lib.hid l0
  have B0 := Lib.hid b0
  have HA := Lib.hid hA
  have hfit : 0 + (List.replicate 10 (31 : Int)).length ≤ (List.replicate 10 (0 : Int)).length := by simp
  have hfit2 : 0 + (truthD os).length ≤ (List.replicate 10 (0 : Int)).length := by rw [truthD_length hl]; simp
  have hsz : (Try.prog.info? 86).map (·.size) = some (truthD os).length := by rw [truthD_length hl]; exact size_tr
  have HTL := Lib.hid (truthD_length hl)
  have HF := Lib.hid hfit
  have HF2 := Lib.hid hfit2
  have HSZ := Lib.hid hsz
  clear l0 b0 hA hfit hfit2 hsz
  go_enter Try.func52, Try.ntmps52
  go_upto_region 2 with (first
    | (go_at_call 78; refine (nothingIll_any _).mono ?_; rintro e w1 ⟨rfl, hb1⟩)
    | (refine wpList_store_ints (o := ⟨none, .store 86 (.tmp 3) _, _, _, _, _⟩) ?_ 86 (.tmp 3) (.tmp 6) ?_ w1.heap.size 0 ?_ 86 (List.replicate 10 0) (List.replicate 10 31) ?_ (Lies.fresh w1 86 (vals (List.replicate 10 0))) HF.out size_tr ?_; rfl; rfl; rfl; rfl; intro w2 HS2 HO2; (try simp only [Act.put])))
  have hs2 := HS2.out
  rw [splice_all (by simp)] at hs2
  have hz2 : Lies w2 w.heap.size 86 (vals (List.replicate 10 0)) := HO2.out.lies ((L0.out.call hb1).alloc _) (by have := hb1.size; simp at this; omega)
  have hb2 : Below w.heap.size w w2 := HO2.out.below ((B0.out.trans (hb1.mono B0.out.size)).alloc (B0.out.trans (hb1.mono B0.out.size)).size _) (B0.out.trans (hb1.mono B0.out.size)).size
  have hg : w.heap.size < w1.heap.size := by have := hb1.size; simp at this; omega
  generalize w1.heap.size = g at *
  have S2 := Lib.hid hs2
  have Z2 := Lib.hid hz2
  have B2 := Lib.hid hb2
  clear hs2 hz2 hb2 HS2 HO2 hb1 L0 B0
  go_wp2
  go_loopw [4, 5, 9] (fun _ _ s9 wr => ∃ (k : Nat) (l : List Int), k ≤ os.length ∧ s9 = .int .i64 k ∧ Aside (Lies wr g 86 (vals l)) ∧ Aside (Lies wr w.heap.size 86 (vals (List.replicate 10 0))) ∧ Aside (Below w.heap.size w wr) ∧ Aside (TakenT os k l)) (fun _ _ i _ => os.length - (intOf i).toNat)
  case atStart => exact ⟨0, List.replicate 10 31, by omega, rfl, S2.out, Z2.out, B2.out, ⟨rfl, fun j o hj => by omega, fun j _ hj => by rw [List.getElem?_replicate, if_pos hj]⟩⟩
  case round =>
    obtain ⟨k, l, hk, rfl, HL, HZ, HB, HU⟩ := hrel
    by_cases hlt : k < os.length
    · have hltz : (k : Int) < (os.length : Int) := by omega
      have hk0 : (0 : Int) ≤ (k : Int) := by omega
      have hk10 : (k : Int) < 10 := by omega
      obtain ⟨o, ho⟩ : ∃ o, os[k]? = some o := ⟨os[k], by simp [hlt]⟩
      obtain ⟨b, off, rfl, hb, hc⟩ := HA.out.cell1 ho
      have l2 : wr.cell? ⟨b, off + k, none⟩ = some (.int .i64 o) := by rw [HB.out.cell (p := ⟨b, off + k, none⟩) hb]; exact hc
      have hkl : k < l.length := by rw [HU.out.len]; omega
      have c : wr.cell? ⟨g, k, none⟩ = some (.int .i64 (l.getD k 0)) := by rw [HL.out.at_]; exact vals_at (by simp [hkl])
      have f : wr.frozen? ⟨g, k, none⟩ = false := HL.out.free k
      have HX := Lib.hid ho
      clear hkl ho hc hb
      by_cases hm : o = -1
      · have hm' : (o != -1) = false := by simpa using hm
        have HM := Lib.hid hm
        clear hm
        go_wp2
        go_roundw
        case rel => exact ⟨k + 1, l, by omega, by go_num, HL.out, HZ.out, HB.out, HU.out.skip HX.out (by omega) HM.out⟩
        case measure => simp [intOf]; omega
      · have hm' : (o != -1) = true := by simpa using hm
        have HM := Lib.hid hm
        clear hm
        go_wp2
        go_roundw
        case rel =>
          refine ⟨k + 1, l.set k o, by omega, by go_num, ?_, HZ.out.other (show w.heap.size ≠ g by omega) _, HB.out.setCell (by simp; omega) _, HU.out.next HX.out (by omega) HM.out⟩
          have := HL.out.set k (.int .i64 o)
          rwa [vals_set] at this
        case measure => simp [intOf]; omega
    · obtain rfl : k = os.length := by omega
      have he := HU.out.all hl
      subst he
      go_wp2_with (first
        | (refine wpList_load_ints (o := ⟨some 20, _, _, _, _, _⟩) ?_ 86 (.tmp 3) ?_ g 0 ?_ 86 (truthD os) (truthD os) _ HL.out (fun j v h => by simpa using h) Try.underlying86 rfl HSZ.out ?_; rfl; rfl; rfl)
        | (refine wpList_store_ints (o := ⟨none, .store 86 (.tmp 2) _, _, _, _, _⟩) ?_ 86 (.tmp 2) (.tmp 20) ?_ w.heap.size 0 ?_ 86 (List.replicate 10 0) (truthD os) ?_ HZ.out HF2.out HSZ.out ?_; rfl; rfl; rfl; rfl; intro w4 HS4 HO4))
      exact bodyPost_ret (results_ints rfl _ _ w.heap.size 86 (truthD os) _ rfl (by have := HS4.out; rwa [splice_all (by rw [HTL.out]; simp)] at this) Try.underlying86 rfl HSZ.out) rfl ⟨rfl, HO4.out.below HB.out (Nat.le_refl _)⟩

/-- A slice of integers handed back. -/
def RetIs (l : List Int) (w : World) (e : Ending) (w' : World) : Prop := ∃ (A : Option Addr) (c : Nat), e = .returned (.slice A l.length c) ∧ (A = none → l.length = 0 ∧ c = 0) ∧ Sl w' w'.heap.size 1 encI A l ∧ Below w.heap.size w w'
set_option maxRecDepth 100000 in
set_option maxHeartbeats 2000000 in
theorem onsets_any (t : List Int) (n : Nat) (w : World) (ht : t.length = 10) (hn : n ≤ 10) :
    Calls Try.prog 48 #[.agg (vals t), .int .i64 n] w (RetIs ((t.take n).map out31) w) := by
  have hbox : (w.alloc (.cells (vals t) 86)) = w.alloc (.cells (vals t) 86) := rfl
  have l0 : Lies (w.alloc (.cells (vals t) 86)) w.heap.size 86 (vals t) := Lies.fresh _ _ _
  have b0 : Below w.heap.size w (w.alloc (.cells (vals t) 86)) := (by repeat (first | (with_reducible assumption) | (with_reducible exact Below.refl _ _) | (with_reducible refine Below.drew ?_) | (with_reducible refine below_drewN ?_ _) | ((with_reducible refine Below.setCell ?_ ?_ _); rotate_left; focus (first | (simp; done) | (simp; omega) | omega)) | ((with_reducible refine Below.alloc ?_ ?_ _); rotate_left; focus (first | (simp; done) | (simp; omega) | omega))))
  have hsz : (Try.prog.info? 86).map (·.size) = some t.length := by rw [ht]; exact size_tr
  have hz0 : (w.alloc (.cells (vals t) 86)).heap.size = w.heap.size + 1 := by simp
  have L0 := Lib.hid l0
  have B0 := Lib.hid b0
  have HSZ := Lib.hid hsz
  have HT := Lib.hid ht
  have HZ0 := Lib.hid hz0
  clear l0 b0 hsz ht hbox hz0
  have hnz : (n : Int) ≤ 10 := by omega
  have hn0 : (0 : Int) ≤ (n : Int) := by omega
  go_enter Try.func48, Try.ntmps48
  go_upto_region 2 with (fail)
  change Code.wp _ _ _ _ (w.alloc (.cells (vals t) 86))
  generalize w.alloc (.cells (vals t) 86) = w1 at *
  go_wp2
  go_loopw [5, 7, 11] (fun s5 _ s11 wr => ∃ k : Nat, k ≤ n ∧ s11 = .int .i64 k ∧ Aside (Below w.heap.size w wr) ∧ Aside (Lies wr w.heap.size 86 (vals t)) ∧ Aside (wr.ownsRow (w.heap.size + 1) 3 1 s5 ((t.take k).map out31).length (((t.take k).map out31).flatMap encI))) (fun _ _ i _ => n - (intOf i).toNat)
  case atStart => exact ⟨0, by omega, rfl, B0.out, L0.out, (show World.ownsRow _ _ _ _ _ _ _ by simpa using World.ownsRow_nil _ _ _ _)⟩
  case round =>
    obtain ⟨k, hk, rfl, HB, HL, HO⟩ := hrel
    have hza : w.heap.size + 1 ≤ wr.heap.size := by have := HL.out.in_; omega
    by_cases hlt : k < n
    · have hltz : (k : Int) < (n : Int) := by omega
      have hk0 : (0 : Int) ≤ (k : Int) := by omega
      obtain ⟨x, hx⟩ : ∃ x, t[k]? = some x := ⟨t[k]'(by have := HT.out; omega), by simp⟩
      have c : wr.cell? ⟨w.heap.size, k, none⟩ = some (.int .i64 x) := by rw [HL.out.at_]; exact vals_at hx
      have HBA := Lib.hid (fun y : Int => (Below.refl wr.heap.size wr).alloc (Nat.le_refl _) (.cells #[.int .i64 y] 3))
      have HLN := Lib.hid (show ((t.take k).map out31).length + 1 ≤ 1000 by simp; omega)
      have HSA := Lib.hid (show ∀ y : Int, w.heap.size + 1 ≤ (wr.alloc (.cells #[.int .i64 y] 3)).heap.size by intro y; simp; omega)
      have htk : (t.take (k + 1)).map out31 = (t.take k).map out31 ++ [out31 x] := by rw [List.take_add_one, hx]; simp
      clear hx
      by_cases hm : x = 31
      · have hm' : (x == 31) = true := by simpa using hm
        have HTK := Lib.hid (show (t.take (k + 1)).map out31 = (t.take k).map out31 ++ [-1] by rw [htk, hm]; rfl)
        clear hm htk
        go_wp2_with (first
          | (refine wpList_app_ints (o := ⟨some 20, _, _, _, _, _⟩) ?_ (.tmp 17) (.tmp 19) ?_ (w.heap.size + 1) _ ((t.take k).map out31) ?_ (ownsRow_call HO.out (HBA.out (-1 : Int))) (some ⟨wr.heap.size, 0, none⟩) 1 [(-1 : Int)] ?_ (fun e => by cases e) (lies_q (Lies.fresh wr 3 (vals [(-1 : Int)]))) HLN.out (HSA.out (-1)) ?_; rfl; rfl; rfl; rfl; intro v4 w4 hown4 hb4 hg4))
        go_roundw
        case rel =>
          have ha := HBA.out (-1 : Int)
          refine ⟨k + 1, by omega, by go_num, ?_, ?_, ?_⟩
          · exact HB.out.trans ((ha.mono HB.out.size).trans (hb4.mono (by omega)))
          · exact ((HL.out.alloc _).below hb4 (by omega))
          · show World.ownsRow _ _ _ _ _ _ _
            rw [HTK.out]; exact hown4
        case measure => simp [intOf]; omega
      · have hm' : (x == 31) = false := by simpa using hm
        have HTK := Lib.hid (show (t.take (k + 1)).map out31 = (t.take k).map out31 ++ [x] by rw [htk]; unfold out31; rw [if_neg hm])
        clear hm htk
        go_wp2_with (first
          | (refine wpList_app_ints (o := ⟨some 20, _, _, _, _, _⟩) ?_ (.tmp 17) (.tmp 19) ?_ (w.heap.size + 1) _ ((t.take k).map out31) ?_ (ownsRow_call HO.out (HBA.out x)) (some ⟨wr.heap.size, 0, none⟩) 1 [x] ?_ (fun e => by cases e) (lies_q (Lies.fresh wr 3 (vals [x]))) HLN.out (HSA.out x) ?_; rfl; rfl; rfl; rfl; intro v4 w4 hown4 hb4 hg4))
        go_roundw
        case rel =>
          have ha := HBA.out x
          refine ⟨k + 1, by omega, by go_num, ?_, ?_, ?_⟩
          · exact HB.out.trans ((ha.mono HB.out.size).trans (hb4.mono (by omega)))
          · exact ((HL.out.alloc _).below hb4 (by omega))
          · show World.ownsRow _ _ _ _ _ _ _
            rw [HTK.out]; exact hown4
        case measure => simp [intOf]; omega
    · obtain rfl : k = n := by omega
      clear L0 B0 HZ0 HT HSZ
      generalize (t.take k).map out31 = z at *
      obtain ⟨A, c, rfl, hA, hS⟩ := Sl.of_own (enc := encI) (fun _ => rfl) HO.out rfl
      have HN := Lib.hid hA
      have HS := Lib.hid hS
      clear hA hS
      go_wp2
      go_ret
      exact ⟨A, c, rfl, HN.out, HS.out, HB.out⟩
end Go.Proofs.Ytkjhofbjjogmlaa

/- noted, follow. -/
namespace Go.Proofs.Ytkjhofbjjogmlaa
open Go.RowKit Go.Lib

theorem size_note : (Try.prog.info? 61).map (·.size) = some 4 := by kernel_rfl
def zco : List Value := [.int .i64 0, .slice none 0 0, .int .i64 0, .int .i64 0, .int .i64 0, .bool false, .slice none 0 0, .slice none 0 0] ++ List.replicate 20 (.int .i64 0)
def winAt (ws : List (Int × Int)) (p : Nat) : Int × Int := ws.getD p (0, 0)
/-- The windows behind a note, behind notes. -/
def noteD (sh old : Int) (ws : List (Int × Int)) (n : Nt) : List (Int × Int) := ws.set n.p.toNat (andD (winAt ws n.p.toNat) (alwD sh old n))
def notedD (sh old : Int) (ws : List (Int × Int)) (ns : List Nt) : List (Int × Int) := ns.foldl (noteD sh old) ws
theorem noteD_length (sh old : Int) (ws : List (Int × Int)) (n : Nt) : (noteD sh old ws n).length = ws.length := by simp [noteD]
theorem notedD_length (sh old : Int) : ∀ (ns : List Nt) (ws : List (Int × Int)), (notedD sh old ws ns).length = ws.length
  | [], ws => rfl
  | n :: ns, ws => by unfold notedD; rw [List.foldl_cons]; exact (notedD_length sh old ns _).trans (noteD_length _ _ _ _)
theorem notedD_take (sh old : Int) (ws : List (Int × Int)) (ns : List Nt) (k : Nat) (x : Nt) (hx : ns[k]? = some x) : notedD sh old ws (ns.take (k + 1)) = noteD sh old (notedD sh old ws (ns.take k)) x := by
  unfold notedD; rw [List.take_add_one, hx]; simp
theorem flat_win_at {ws : List (Int × Int)} {p : Nat} {x : Int × Int} (h : ws[p]? = some x) : (ws.flatMap encWin)[p * 2]? = some (.int .i64 x.1) ∧ (ws.flatMap encWin)[p * 2 + 1]? = some (.int .i64 x.2) := by
  have h0 := flat_at (enc := encWin) (k := 2) (fun _ => rfl) h (j := 0) (by omega)
  have h1 := flat_at (enc := encWin) (k := 2) (fun _ => rfl) h (j := 1) (by omega)
  exact ⟨by simpa using h0, by simpa using h1⟩
theorem splice_app {α : Type} (a b c : List α) (o : Nat) : splice (a ++ b) (a.length + o) c = a ++ splice b o c := by
  unfold splice
  rw [List.take_append, List.drop_append]
  have e1 : a.length + o - a.length = o := by omega
  have e2 : a.length + o + c.length - a.length = o + c.length := by omega
  rw [e1, e2, List.take_of_length_le (by omega), List.drop_eq_nil_of_le (by omega)]
  simp
theorem flat_win_set : ∀ (ws : List (Int × Int)) (p : Nat) (x : Int × Int), p < ws.length → ((ws.set p x).flatMap encWin) = splice (ws.flatMap encWin) (p * 2) (encWin x)
  | [], p, x, h => absurd h (Nat.not_lt_zero _)
  | y :: ws, 0, x, _ => by simp [splice]
  | y :: ws, p + 1, x, h => by
    rw [List.set_cons_succ, List.flatMap_cons, List.flatMap_cons, flat_win_set ws p x (by simpa using h)]
    have e : (p + 1) * 2 = (encWin y).length + p * 2 := by show (p + 1) * 2 = 2 + p * 2; omega
    rw [e, splice_app]
theorem cells_set (r : RwM) (ws : List (Int × Int)) (p : Nat) (x : Int × Int) (h : p < ws.length) : splice (CoM.cells ⟨r, ws⟩) (8 + p * 2) (encWin x) = CoM.cells ⟨r, ws.set p x⟩ := by
  unfold CoM.cells
  dsimp only
  rw [flat_win_set ws p x h]
  have hr : 8 = r.cells.length := rfl
  rw [hr, splice_app]
theorem cells_win (r : RwM) {ws : List (Int × Int)} {p : Nat} {x : Int × Int} (h : ws[p]? = some x) : ∀ (j : Nat) v, (encWin x)[j]? = some v → (CoM.cells ⟨r, ws⟩)[8 + p * 2 + j]? = some v := fun j v hj => by
  unfold CoM.cells
  dsimp only
  rw [List.getElem?_append_right (by show r.cells.length ≤ _; have : r.cells.length = 8 := rfl; omega)]
  have e : 8 + p * 2 + j - r.cells.length = p * 2 + j := by have : r.cells.length = 8 := rfl; omega
  rw [e]
  have hj2 : j < 2 := (List.getElem?_eq_some_iff.1 hj).1
  rw [flat_at (enc := encWin) (k := 2) (fun _ => rfl) h hj2]
  exact hj
theorem cells_row (r : RwM) (ws : List (Int × Int)) : ∀ (j : Nat) v, r.cells[j]? = some v → (CoM.cells ⟨r, ws⟩)[0 + j]? = some v := fun j v hj => by
  unfold CoM.cells
  rw [Nat.zero_add, List.getElem?_append_left (List.getElem?_eq_some_iff.1 hj).1]
  exact hj
theorem co_one (r : RwM) (ws : List (Int × Int)) : ∀ v ∈ CoM.cells ⟨r, ws⟩, v.oneCell' = true := by
  intro v hv
  unfold CoM.cells at hv
  rcases List.mem_append.1 hv with h | h
  · simp only [RwM.cells, List.mem_cons, List.not_mem_nil, or_false] at h
    rcases h with rfl | rfl | rfl | rfl | rfl | rfl | rfl | rfl <;> rfl
  · obtain ⟨x, _, hx⟩ := List.mem_flatMap.1 h
    simp only [encWin, List.mem_cons, List.not_mem_nil, or_false] at hx
    rcases hx with rfl | rfl <;> rfl
theorem allowed_any (r : RwM) (x : Nt) (w : World) (hk : x.k = 0 ∨ x.k = 1) (h0 : 0 ≤ x.w) (h1 : x.w ≤ 1000) (h2 : 0 ≤ r.sh) (h3 : r.sh ≤ 1000) (h4 : 0 ≤ r.old) (h5 : r.old ≤ 1000) :
    Calls Try.prog 94 #[.agg r.cells.toArray, .agg (encN x).toArray] w fun e w' => e = .returned (.agg (encWin (alwD r.sh r.old x)).toArray) ∧ Below w.heap.size w w' := by
  obtain ⟨xp, xw, xk, xy⟩ := x
  dsimp only at hk h0 h1
  rcases hk with rfl | rfl <;> cases xy
  · exact allowed_0false r xp xw w h0 h1 h2 h3 h4 h5
  · exact allowed_0true r xp xw w h0 h1 h2 h3 h4 h5
  · exact allowed_1false r xp xw w h0 h1 h2 h3 h4 h5
  · exact allowed_1true r xp xw w h0 h1 h2 h3 h4 h5
/-- What a note of a row must be for the windows. -/
def Nt.Fit (x : Nt) : Prop := 0 ≤ x.p ∧ x.p < 10 ∧ (x.k = 0 ∨ x.k = 1) ∧ 0 ≤ x.w ∧ x.w ≤ 1000
set_option maxRecDepth 100000 in
set_option maxHeartbeats 4000000 in
theorem noted_any (r : RwM) (ws : List (Int × Int)) (A : Option Addr) (c : Nat) (ns : List Nt) (w : World) (hws : ws.length = 10) (hA : Sl w w.heap.size 4 encN A ns) (hl : ns.length ≤ 1000000) (hn : ∀ x, x ∈ ns → x.Fit) (h2 : 0 ≤ r.sh) (h3 : r.sh ≤ 1000) (h4 : 0 ≤ r.old) (h5 : r.old ≤ 1000) :
    Calls Try.prog 75 #[.agg (CoM.cells ⟨r, ws⟩).toArray, .slice A ns.length c] w fun e w' => e = .returned (.agg (CoM.cells ⟨r, notedD r.sh r.old ws ns⟩).toArray) ∧ Below w.heap.size w w' := by
  have l0 : Lies ((w.alloc (.cells (CoM.cells ⟨r, ws⟩).toArray 84)).alloc (.cells zco.toArray 84)) w.heap.size 84 (CoM.cells ⟨r, ws⟩).toArray := (Lies.fresh _ _ _).alloc _
  have l1 : Lies ((w.alloc (.cells (CoM.cells ⟨r, ws⟩).toArray 84)).alloc (.cells zco.toArray 84)) (w.heap.size + 1) 84 zco.toArray := Lies.fresh' (by simp)
  have b0 : Below w.heap.size w ((w.alloc (.cells (CoM.cells ⟨r, ws⟩).toArray 84)).alloc (.cells zco.toArray 84)) := (by repeat (first | (with_reducible assumption) | (with_reducible exact Below.refl _ _) | (with_reducible refine Below.drew ?_) | (with_reducible refine below_drewN ?_ _) | ((with_reducible refine Below.setCell ?_ ?_ _); rotate_left; focus (first | (simp; done) | (simp; omega) | omega)) | ((with_reducible refine Below.alloc ?_ ?_ _); rotate_left; focus (first | (simp; done) | (simp; omega) | omega))))
  have hz0 : ((w.alloc (.cells (CoM.cells ⟨r, ws⟩).toArray 84)).alloc (.cells zco.toArray 84)).heap.size = w.heap.size + 2 := by simp
  have L0 := Lib.hid l0
  have L1 := Lib.hid l1
  have B0 := Lib.hid b0
  have HZ0 := Lib.hid hz0
  have HA := Lib.hid hA
  have HN := Lib.hid hn
  have HWS := Lib.hid hws
  clear l0 l1 b0 hz0 hA hn hws
  go_enter Try.func75, Try.ntmps75
  go_upto_region 1 with (fail)
  change Code.wp _ _ _ _ ((w.alloc (.cells (CoM.cells ⟨r, ws⟩).toArray 84)).alloc (.cells zco.toArray 84))
  generalize (w.alloc (.cells (CoM.cells ⟨r, ws⟩).toArray 84)).alloc (.cells zco.toArray 84) = w0 at *
  go_wp2
  go_loopw [6, 9] (fun _ s9 wr => ∃ k : Nat, k ≤ ns.length ∧ s9 = .int .i64 k ∧ Aside (Below w.heap.size w wr) ∧ Aside (Lies wr w.heap.size 84 (CoM.cells ⟨r, notedD r.sh r.old ws (ns.take k)⟩).toArray) ∧ Aside (Lies wr (w.heap.size + 1) 84 zco.toArray)) (fun _ i _ => ns.length - (intOf i).toNat)
  case atStart => exact ⟨0, by omega, rfl, B0.out, L0.out, L1.out⟩
  case round =>
    obtain ⟨k, hk, rfl, HB, HL, HZ⟩ := hrel
    have hlen : (notedD r.sh r.old ws (ns.take k)).length = 10 := (notedD_length _ _ _ _).trans HWS.out
    by_cases hlt : k < ns.length
    · have hltz : (k : Int) < (ns.length : Int) := by omega
      have hk0 : (0 : Int) ≤ (k : Int) := by omega
      obtain ⟨x, hx⟩ : ∃ x, ns[k]? = some x := ⟨ns[k], by simp [hlt]⟩
      obtain ⟨b, off, rfl, hb, c0, c1, c2, c3⟩ := HA.out.cellN hx
      have l2 : wr.cell? ⟨b, off + k * 4, none⟩ = some (.int .i64 x.p) := by rw [HB.out.cell (p := ⟨b, off + k * 4, none⟩) hb]; exact c0
      have l3 : wr.cell? ⟨b, off + k * 4 + 1, none⟩ = some (.int .i64 x.w) := by rw [HB.out.cell (p := ⟨b, off + k * 4 + 1, none⟩) hb]; exact c1
      have l4 : wr.cell? ⟨b, off + k * 4 + 2, none⟩ = some (.int .u8 x.k) := by rw [HB.out.cell (p := ⟨b, off + k * 4 + 2, none⟩) hb]; exact c2
      have l5 : wr.cell? ⟨b, off + k * 4 + 3, none⟩ = some (.bool x.y) := by rw [HB.out.cell (p := ⟨b, off + k * 4 + 3, none⟩) hb]; exact c3
      obtain ⟨x0, x1, x2, x3, x4⟩ := HN.out x (List.mem_of_getElem? hx)
      have htk := notedD_take r.sh r.old ws ns k x hx
      have HAL := Lib.hid (fun W => allowed_any r x W x2 x3 x4 h2 h3 h4 h5)
      obtain ⟨xp, xw, xk, xy⟩ := x
      dsimp only at x0 x1 l2 l3 l4 l5
      obtain ⟨p, rfl⟩ : ∃ p : Nat, xp = (p : Int) := ⟨xp.toNat, by omega⟩
      have hp0 : (0 : Int) ≤ (p : Int) := by omega
      generalize notedD r.sh r.old ws (ns.take k) = wk at *
      obtain ⟨y, hy⟩ : ∃ y, wk[p]? = some y := ⟨wk[p]'(by omega), by simp⟩
      have hpl : p < wk.length := by omega
      have htk' : notedD r.sh r.old ws (ns.take (k + 1)) = wk.set p (andD y (alwD r.sh r.old ⟨p, xw, xk, xy⟩)) := by
        rw [htk]; unfold noteD winAt
        have : wk.getD p (0, 0) = y := by simp [List.getD, hy]
        simp only [Int.toNat_natCast, this]
      have HTK := Lib.hid htk'
      have HY := Lib.hid hy
      have HPL := Lib.hid hpl
      have HLEN := Lib.hid hlen
      clear hx c0 c1 c2 c3 hb htk htk' hy hpl hlen x2 x3 x4 L0 L1 B0
      go_upto_region 4 with (fail)
      clear l2 l3 l4 l5
      have d1 : Lies (wr.alloc (.cells (encN ⟨p, xw, xk, xy⟩).toArray 61)) wr.heap.size 61 (encN ⟨p, xw, xk, xy⟩).toArray := Lies.fresh' rfl
      have d2 : Lies (wr.alloc (.cells (encN ⟨p, xw, xk, xy⟩).toArray 61)) w.heap.size 84 (CoM.cells ⟨r, wk⟩).toArray := HL.out.alloc _
      have d3 : Lies (wr.alloc (.cells (encN ⟨p, xw, xk, xy⟩).toArray 61)) (w.heap.size + 1) 84 zco.toArray := HZ.out.alloc _
      have d4 : Below w.heap.size w (wr.alloc (.cells (encN ⟨p, xw, xk, xy⟩).toArray 61)) := HB.out.alloc HB.out.size _
      change Code.wp _ _ _ _ (wr.alloc (.cells (encN ⟨p, xw, xk, xy⟩).toArray 61))
      have hgn : w.heap.size + 1 < wr.heap.size := HZ.out.in_
      generalize wr.alloc (.cells (encN ⟨p, xw, xk, xy⟩).toArray 61) = w1 at *
      generalize wr.heap.size = gn at *
      clear HB HL HZ
      haveI hne : Nonempty (Cls (fun W => Below w1.heap.size w1 W)) := ⟨⟨w1, Below.refl _ _⟩⟩
      have c0 : ∀ c : Cls (fun W => Below w1.heap.size w1 W), c.val.cell? ⟨gn, 0, none⟩ = some (.int .i64 p) := fun c => (d1.call c.h).at_ 0
      have hr1 : ∀ W, (∃ cc : Cls (fun W => Below w1.heap.size w1 W), W = cc.val) → W.rangeAt gn 0 (encN ⟨p, xw, xk, xy⟩) := by
        rintro W ⟨cc, rfl⟩; exact Lies.range (cs := encN ⟨p, xw, xk, xy⟩) (d1.call cc.h) (fun j v hj => by simpa using hj)
      have hr2 : ∀ W, (∃ cc : Cls (fun W => Below w1.heap.size w1 W), W = cc.val) → W.rangeAt w.heap.size 0 r.cells := by
        rintro W ⟨cc, rfl⟩; exact Lies.range (cs := CoM.cells ⟨r, wk⟩) (d2.call cc.h) (cells_row r wk)
      have hr3 : ∀ W, (∃ cc : Cls (fun W => Below w1.heap.size w1 W), W = cc.val) → W.rangeAt w.heap.size (8 + p * 2) (encWin y) := by
        rintro W ⟨cc, rfl⟩; exact Lies.range (cs := CoM.cells ⟨r, wk⟩) (d2.call cc.h) (cells_win r HY.out)
      have HR1 := Lib.hid hr1
      have HR2 := Lib.hid hr2
      have HR3 := Lib.hid hr3
      have L1 := Lib.hid d1
      have L2 := Lib.hid d2
      have L3 := Lib.hid d3
      have B0 := Lib.hid d4
      clear hr1 hr2 hr3 d1 d2 d3 d4
      refine wp_region_ways3 14 [0, 1, 2, 3, 4, 5, 6, 7, 8, 9, 12] (.way 10 (.way 11 (.take 13 .fin) .fin) .fin) (fun W => ∃ cc : Cls (fun W => Below w1.heap.size w1 W), W = cc.val) (by kernel_rfl) (by kernel_rfl) (Cls.here (Below.refl _ _).drew) ?_
      simp only [List.filterMap_cons, List.filterMap_nil, List.take_succ_cons, List.take_zero, List.getElem?_toArray, List.getElem?_cons_zero, List.getElem?_cons_succ, List.drop_succ_cons, List.drop_zero]
      repeat (first
        | (refine wpQuiet_load_wholeG (o := ⟨some 19, _, _, _, _, _⟩) ?_ 81 (.tmp 18) ?_ w.heap.size (8 + p * 2) ?_ (encWin y) _ HR3.out Try.underlying81 rfl size_win ?_; rfl; rfl; rfl; simp only [Act.put, List.setIfInBounds_toArray, List.set_cons_zero, List.set_cons_succ])
        | (refine wpQuiet_load_wholeG (o := ⟨some 21, _, _, _, _, _⟩) ?_ 34 (.tmp 20) ?_ w.heap.size 0 ?_ r.cells _ HR2.out Try.underlying34 rfl size_row ?_; rfl; rfl; rfl; simp only [Act.put, List.setIfInBounds_toArray, List.set_cons_zero, List.set_cons_succ])
        | (refine wpQuiet_load_wholeG (o := ⟨some 22, _, _, _, _, _⟩) ?_ 61 (.tmp 6) ?_ gn 0 ?_ (encN ⟨p, xw, xk, xy⟩) _ HR1.out Try.underlying61 rfl size_note ?_; rfl; rfl; rfl; simp only [Act.put, List.setIfInBounds_toArray, List.set_cons_zero, List.set_cons_succ])
        | go_big_quiet_step (rfl) | quiet_step (rfl))
      refine wpQuiet_nil ?_
      clear c0 HR1 HR2 HR3
      have D0 := Lib.hid (show Below w1.heap.size w1 w1.drew from (Below.refl _ _).drew)
      generalize w1.drew = d0 at *
      rw [wpWy_way]
      refine ⟨?_, by exact trivial⟩
      simp only [List.getElem?_toArray, List.getElem?_cons_succ, List.getElem?_cons_zero]
      go_wp2_with (go_at_call 94; refine (HAL.out _).mono ?_; rintro e d1 ⟨rfl, hb1⟩)
      have D1 := Lib.hid (D0.out.trans (hb1.mono D0.out.size))
      refine Ends.intro ⟨Cls.here D1.out, ?_⟩
      rw [wpWy_way]
      refine ⟨?_, by exact trivial⟩
      simp only [List.getElem?_toArray, List.getElem?_cons_succ, List.getElem?_cons_zero]
      go_wp2_with (go_at_call 93; refine (and_any y (alwD r.sh r.old ⟨p, xw, xk, xy⟩) _).mono ?_; rintro e d2 ⟨rfl, hb2⟩)
      have D2 := Lib.hid (D1.out.trans (hb2.mono D1.out.size))
      refine Ends.intro ⟨Cls.here D2.out, ?_⟩
      rw [wpWy_take]
      simp only [List.getElem?_toArray, List.getElem?_cons_succ, List.getElem?_cons_zero]
      first | go_big_quiet_step (rfl) | quiet_step (rfl)
      refine wpQuiet_nil ?_
      rw [wpWy_fin]
      have Z2 := Lib.hid (L2.out.call D2.out)
      have Z3 := Lib.hid (L3.out.call D2.out)
      have BB := Lib.hid (B0.out.trans (D2.out.mono B0.out.size))
      have hfit : 8 + p * 2 + (encWin (andD y (alwD r.sh r.old ⟨p, xw, xk, xy⟩))).length ≤ (CoM.cells ⟨r, wk⟩).length := by rw [CoM.len _ HLEN.out]; show 8 + p * 2 + 2 ≤ 28; omega
      refine wpList_store_cells (o := ⟨none, .store 81 (.tmp 26) _, _, _, _, _⟩) ?_ 81 (.tmp 26) (.tmp 24) ?_ w.heap.size (8 + p * 2) ?_ 84 (CoM.cells ⟨r, wk⟩) (encWin (andD y (alwD r.sh r.old ⟨p, xw, xk, xy⟩))) ?_ Z2.out hfit size_win (by simp [Value.oneCell']) ?_
      rfl; rfl; rfl; rfl
      intro w9 HS9 HO9
      refine wpList_nil ?_
      have hs9 := HS9.out
      rw [cells_set r wk p _ HPL.out] at hs9
      have S9 := Lib.hid hs9
      clear hs9 hfit
      have Z9 := Lib.hid (HO9.out.lies Z3.out (by omega))
      have B9 := Lib.hid (HO9.out.below BB.out (Nat.le_refl _))
      go_wp2
      go_roundw
      case rel =>
        refine ⟨k + 1, by omega, by go_num, B9.out, ?_, Z9.out⟩
        rw [HTK.out]; exact S9.out
      case measure => simp [intOf]; omega
    · obtain rfl : k = ns.length := by omega
      rw [List.take_of_length_le (Nat.le_refl _)] at HL hlen
      have hsz : (Try.prog.info? 84).map (·.size) = some (CoM.cells ⟨r, notedD r.sh r.old ws ns⟩).length := by rw [CoM.len _ hlen]; exact size_co
      have hsz2 : (Try.prog.info? 84).map (·.size) = some (CoM.cells ⟨r, notedD r.sh r.old ws ns⟩).toArray.size := by simpa using hsz
      have hfit : 0 + (CoM.cells ⟨r, notedD r.sh r.old ws ns⟩).length ≤ zco.length := by rw [CoM.len _ hlen]; decide
      have hone := co_one r (notedD r.sh r.old ws ns)
      have hwhole : (CoM.cells ⟨r, notedD r.sh r.old ws ns⟩).length = zco.length := by rw [CoM.len _ hlen]; rfl
      have HSZ := Lib.hid hsz
      have HSZ2 := Lib.hid hsz2
      have HFIT := Lib.hid hfit
      have HONE := Lib.hid hone
      have HWH := Lib.hid hwhole
      clear hsz hsz2 hfit hone hwhole hlen L0 L1 B0
      go_wp2_with (first
        | (refine wpList_load_row (o := ⟨some 28, _, _, _, _, _⟩) ?_ 84 (.tmp 2) ?_ w.heap.size ?_ 84 (CoM.cells ⟨r, notedD r.sh r.old ws ns⟩).toArray (0, 0) _ HL.out Try.underlying84 rfl HSZ2.out ?_; rfl; rfl; rfl)
        | (refine wpList_store_cells (o := ⟨none, .store 84 (.tmp 4) _, _, _, _, _⟩) ?_ 84 (.tmp 4) (.tmp 28) ?_ (w.heap.size + 1) 0 ?_ 84 zco (CoM.cells ⟨r, notedD r.sh r.old ws ns⟩) ?_ HZ.out HFIT.out HSZ.out HONE.out ?_; rfl; rfl; rfl; rfl; intro w8 HS8 HO8))
      have hs8 := HS8.out
      rw [splice_whole HWH.out] at hs8
      exact bodyPost_ret (results_cell_row rfl _ _ (w.heap.size + 1) 84 (CoM.cells ⟨r, notedD r.sh r.old ws ns⟩).toArray (0, 0) _ rfl hs8 Try.underlying84 rfl HSZ2.out) rfl ⟨rfl, HO8.out.below HB.out (by omega)⟩
end Go.Proofs.Ytkjhofbjjogmlaa

/- follow. -/
namespace Go.Proofs.Ytkjhofbjjogmlaa
open Go.RowKit Go.Lib

/-- The first k windows are set. -/
structure UptoW (k : Nat) (l : List (Int × Int)) : Prop where
  len : l.length = 10
  at_ : ∀ j, j < k → l[j]? = some (0, 31)
theorem UptoW.next {k : Nat} {l : List (Int × Int)} (h : UptoW k l) (hk : k < 10) : UptoW (k + 1) (l.set k (0, 31)) := by
  refine ⟨by simpa using h.len, fun j hj => ?_⟩
  by_cases e : j = k
  · subst e; rw [List.getElem?_set_self (by rw [h.len]; exact hk)]
  · rw [List.getElem?_set_ne (Ne.symm e)]; exact h.at_ j (by omega)
def anyD : List (Int × Int) := List.replicate 10 (0, 31)
theorem UptoW.all {l : List (Int × Int)} (h : UptoW 10 l) : l = anyD := by
  refine List.ext_getElem? fun i => ?_
  unfold anyD
  by_cases hi : i < 10
  · rw [h.at_ i hi, List.getElem?_replicate, if_pos hi]
  · rw [List.getElem?_eq_none (by rw [h.len]; omega), List.getElem?_eq_none (by simp; omega)]
/-- The windows of a row, with its notes. -/
def RwD.wins (r : RwD) : List (Int × Int) := notedD r.sh r.old anyD r.ns
theorem RwD.wins_length (r : RwD) : r.wins.length = 10 := notedD_length _ _ _ _
def zws : List (Int × Int) := List.replicate 10 (0, 0)
theorem built_co0 (a b c d : Int) (f : Bool) (A1 A2 A3 : Option Addr) (n1 n2 n3 c1 c2 c3 : Nat) : Try.prog.built 84 [(0, .agg #[.int .i64 a, .slice A1 n1 c1, .int .i64 b, .int .i64 c, .int .i64 d, .bool f, .slice A2 n2 c2, .slice A3 n3 c3])] =
    some #[.int .i64 a, .slice A1 n1 c1, .int .i64 b, .int .i64 c, .int .i64 d, .bool f, .slice A2 n2 c2, .slice A3 n3 c3, .int .i64 0, .int .i64 0, .int .i64 0, .int .i64 0, .int .i64 0, .int .i64 0, .int .i64 0, .int .i64 0, .int .i64 0, .int .i64 0, .int .i64 0, .int .i64 0, .int .i64 0, .int .i64 0, .int .i64 0, .int .i64 0, .int .i64 0, .int .i64 0, .int .i64 0, .int .i64 0] := by kernel_rfl
theorem built_co (r : RwM) : Try.prog.built 84 [(0, .agg r.cells.toArray)] = some (CoM.cells ⟨r, zws⟩).toArray := built_co0 r.n r.lag r.sh r.old r.cl r.ws.A r.dug.A r.ns.A r.ws.l.length r.dug.l.length r.ns.l.length r.ws.c r.dug.c r.ns.c
set_option maxRecDepth 100000 in
set_option maxHeartbeats 4000000 in
theorem follow_any (r : RwM) (w : World) (hr : r.At w w.heap.size) (hn : ∀ x, x ∈ r.ns.l → x.Fit) (h2 : 0 ≤ r.sh) (h3 : r.sh ≤ 1000) (h4 : 0 ≤ r.old) (h5 : r.old ≤ 1000) :
    Calls Try.prog 50 #[.agg r.cells.toArray] w fun e w' => e = .returned (.agg (CoM.cells ⟨r, r.d.wins⟩).toArray) ∧ Below w.heap.size w w' := by
  have l0 : Lies ((w.alloc (.cells r.cells.toArray 34)).alloc (.cells zco.toArray 84)) w.heap.size 34 r.cells.toArray := (Lies.fresh _ _ _).alloc _
  have l1 : Lies ((w.alloc (.cells r.cells.toArray 34)).alloc (.cells zco.toArray 84)) (w.heap.size + 1) 84 zco.toArray := Lies.fresh' (by simp)
  have b0 : Below w.heap.size w ((w.alloc (.cells r.cells.toArray 34)).alloc (.cells zco.toArray 84)) := (by repeat (first | (with_reducible assumption) | (with_reducible exact Below.refl _ _) | (with_reducible refine Below.drew ?_) | (with_reducible refine below_drewN ?_ _) | ((with_reducible refine Below.setCell ?_ ?_ _); rotate_left; focus (first | (simp; done) | (simp; omega) | omega)) | ((with_reducible refine Below.alloc ?_ ?_ _); rotate_left; focus (first | (simp; done) | (simp; omega) | omega))))
  have hz0 : ((w.alloc (.cells r.cells.toArray 34)).alloc (.cells zco.toArray 84)).heap.size = w.heap.size + 2 := by simp
  have L0 := Lib.hid l0
  have L1 := Lib.hid l1
  have B0 := Lib.hid b0
  have HZ0 := Lib.hid hz0
  clear l0 l1 b0 hz0
  have HQ := Lib.hid (fun W (hb : Below w.heap.size w W) => noted_any r anyD r.ns.A r.ns.c r.ns.l W rfl ((hr.ns.below hb).more hb.size) hr.ln hn h2 h3 h4 h5)
  have hfit0 : 0 + (CoM.cells ⟨r, zws⟩).length ≤ zco.length := by rw [CoM.len _ rfl]; decide
  have hsz0 : (Try.prog.info? 84).map (·.size) = some (CoM.cells ⟨r, zws⟩).length := by rw [CoM.len _ rfl]; exact size_co
  have hwh0 : (CoM.cells ⟨r, zws⟩).length = zco.length := by rw [CoM.len _ rfl]; rfl
  have HF0 := Lib.hid hfit0
  have HS0 := Lib.hid hsz0
  have HW0 := Lib.hid hwh0
  clear hn hr hfit0 hsz0 hwh0
  go_enter Try.func50, Try.ntmps50
  go_upto_region 1 with (fail)
  change Code.wp _ _ _ _ ((w.alloc (.cells r.cells.toArray 34)).alloc (.cells zco.toArray 84))
  generalize (w.alloc (.cells r.cells.toArray 34)).alloc (.cells zco.toArray 84) = w1 at *
  go_upto_region 2 with (first
    | (refine wpList_load_row (o := ⟨some 5, _, _, _, _, _⟩) ?_ 34 (.tmp 1) ?_ w.heap.size ?_ 34 r.cells.toArray (0, 0) _ L0.out Try.underlying34 rfl size_row ?_; rfl; rfl; rfl)
    | (refine wpList_build (o := ⟨some 6, _, _, _, _, _⟩) ?_ 84 #[(0, .tmp 5)] ?_ #[(0, .agg r.cells.toArray)] ?_ (CoM.cells ⟨r, zws⟩).toArray ?_ ?_; rfl; rfl; (simp only [List.map_toArray, List.map_cons, List.map_nil]; rfl); exact built_co r)
    | (refine wpList_store_cells (o := ⟨none, .store 84 (.tmp 3) _, _, _, _, _⟩) ?_ 84 (.tmp 3) (.tmp 6) ?_ w1.heap.size 0 ?_ 84 zco (CoM.cells ⟨r, zws⟩) ?_ (Lies.fresh w1 84 zco.toArray) HF0.out HS0.out (co_one r zws) ?_; rfl; rfl; rfl; rfl; intro w2 HS2 HO2))
  have hs2 := HS2.out
  rw [splice_whole HW0.out] at hs2
  have hb2 : Below w1.heap.size w1 w2 := HO2.out.below ((Below.refl _ _).alloc (Nat.le_refl _) _) (Nat.le_refl _)
  have S2 := Lib.hid hs2
  have R2 := Lib.hid (L0.out.call hb2)
  have Z2 := Lib.hid (L1.out.call hb2)
  have B2 := Lib.hid (B0.out.trans (hb2.mono B0.out.size))
  have hg : w.heap.size + 1 < w1.heap.size := by have := HZ0.out; omega
  generalize w1.heap.size = g at *
  clear hs2 hb2 HS2 HO2 L0 L1 B0 HF0 HS0 HW0 HZ0
  go_wp2
  go_loopw [4, 7] (fun _ s7 wr => ∃ (k : Nat) (l : List (Int × Int)), k ≤ 10 ∧ s7 = .int .i64 k ∧ Aside (Lies wr g 84 (CoM.cells ⟨r, l⟩).toArray) ∧ Aside (Lies wr w.heap.size 34 r.cells.toArray) ∧ Aside (Lies wr (w.heap.size + 1) 84 zco.toArray) ∧ Aside (Below w.heap.size w wr) ∧ Aside (UptoW k l)) (fun _ i _ => 10 - (intOf i).toNat)
  case atStart => exact ⟨0, zws, by omega, rfl, S2.out, R2.out, Z2.out, B2.out, ⟨rfl, fun j hj => by omega⟩⟩
  case round =>
    obtain ⟨k, l, hk, rfl, HL, HR, HZ, HB, HU⟩ := hrel
    by_cases hlt : k < 10
    · have hltz : (k : Int) < 10 := by omega
      have hk0 : (0 : Int) ≤ (k : Int) := by omega
      have hfit : 8 + k * 2 + (encWin (0, 31)).length ≤ (CoM.cells ⟨r, l⟩).length := by rw [CoM.len _ HU.out.len]; show 8 + k * 2 + 2 ≤ 28; omega
      have HFIT := Lib.hid hfit
      have HKL := Lib.hid (show k < l.length by rw [HU.out.len]; exact hlt)
      clear hfit S2 R2 Z2 B2
      go_wp2_with (first
        | (go_at_call 74; refine (anyWeek_any _).mono ?_; rintro e w3 ⟨rfl, hb3⟩)
        | (refine wpList_store_cells (o := ⟨none, .store 81 (.tmp 13) _, _, _, _, _⟩) ?_ 81 (.tmp 13) (.tmp 11) ?_ g (8 + k * 2) ?_ 84 (CoM.cells ⟨r, l⟩) (encWin (0, 31)) ?_ (HL.out.call hb3) HFIT.out size_win (by simp [Value.oneCell']) ?_; rfl; rfl; rfl; rfl; intro w4 HS4 HO4))
      have hs4 := HS4.out
      rw [cells_set r l k _ HKL.out] at hs4
      have S4 := Lib.hid hs4
      clear hs4
      go_roundw
      case rel => exact ⟨k + 1, l.set k (0, 31), by omega, by go_num, S4.out, HO4.out.lies (HR.out.call hb3) (by omega), HO4.out.lies (HZ.out.call hb3) (by omega), HO4.out.below (HB.out.trans (hb3.mono HB.out.size)) (by omega), HU.out.next hlt⟩
      case measure => simp [intOf]; omega
    · obtain rfl : k = 10 := by omega
      have he := HU.out.all
      subst he
      have hcw : wr.cell? ⟨w.heap.size, 7, none⟩ = some (.slice r.ns.A r.ns.l.length r.ns.c) := HR.out.at_ 7
      have hsz : (Try.prog.info? 84).map (·.size) = some (CoM.cells ⟨r, r.d.wins⟩).length := by rw [CoM.len _ r.d.wins_length]; exact size_co
      have hsz2 : (Try.prog.info? 84).map (·.size) = some (CoM.cells ⟨r, r.d.wins⟩).toArray.size := by simpa using hsz
      have hsza : (Try.prog.info? 84).map (·.size) = some (CoM.cells ⟨r, anyD⟩).toArray.size := by rw [List.size_toArray, CoM.len _ rfl]; exact size_co
      have hfit : 0 + (CoM.cells ⟨r, r.d.wins⟩).length ≤ zco.length := by rw [CoM.len _ r.d.wins_length]; decide
      have hwhole : (CoM.cells ⟨r, r.d.wins⟩).length = zco.length := by rw [CoM.len _ r.d.wins_length]; rfl
      have HSZ := Lib.hid hsz
      have HSZ2 := Lib.hid hsz2
      have HSZA := Lib.hid hsza
      have HFIT := Lib.hid hfit
      have HONE := Lib.hid (co_one r r.d.wins)
      have HWH := Lib.hid hwhole
      have HQ' := Lib.hid (show Calls Try.prog 75 #[.agg (CoM.cells ⟨r, anyD⟩).toArray, .slice r.ns.A r.ns.l.length r.ns.c] wr fun e w' => e = .returned (.agg (CoM.cells ⟨r, r.d.wins⟩).toArray) ∧ Below wr.heap.size wr w' from HQ.out wr HB.out)
      clear hsz hsz2 hsza hfit hwhole S2 R2 Z2 B2 HQ
      go_wp2_with (first
        | (refine wpList_load_row (o := ⟨some 15, _, _, _, _, _⟩) ?_ 84 (.tmp 3) ?_ g ?_ 84 (CoM.cells ⟨r, anyD⟩).toArray (0, 0) _ HL.out Try.underlying84 rfl HSZA.out ?_; rfl; rfl; rfl)
        | (go_at_call 75; refine HQ'.out.mono ?_; rintro e w5 ⟨rfl, hb5⟩)
        | (refine wpList_store_cells (o := ⟨none, .store 84 (.tmp 2) _, _, _, _, _⟩) ?_ 84 (.tmp 2) (.tmp 18) ?_ (w.heap.size + 1) 0 ?_ 84 zco (CoM.cells ⟨r, r.d.wins⟩) ?_ (HZ.out.call hb5) HFIT.out HSZ.out HONE.out ?_; rfl; rfl; rfl; rfl; intro w8 HS8 HO8))
      have hs8 := HS8.out
      rw [splice_whole HWH.out] at hs8
      exact bodyPost_ret (results_cell_row rfl _ _ (w.heap.size + 1) 84 (CoM.cells ⟨r, r.d.wins⟩).toArray (0, 0) _ rfl hs8 Try.underlying84 rfl HSZ2.out) rfl ⟨rfl, HO8.out.below (HB.out.trans (hb5.mono HB.out.size)) (by omega)⟩
end Go.Proofs.Ytkjhofbjjogmlaa

/- isReached, sources and what its iterator gives. -/
namespace Go.Proofs.Ytkjhofbjjogmlaa
open Go.RowKit Go.Lib
attribute [local go_sem] Oper.semAt_some

section
variable {P : Program} {Q : Exit → Act → World → Prop} {r n : Nat}
/-- A drawn region that reads and makes, in a round. -/
theorem wpIn_region_quietB {id : Nat} {l : List Oper} {a : Act} {w : World} (hm : P.follows .mixedOrders = true) (hd : l.all noDefer = true) (hns : Region.noSelect l.toArray = true) (hB : Region.lexFrom .any l.toArray l.length 0 (Array.replicate l.toArray.size false) = true)
    (h : wpQuiet P l.toArray (fun w' => ∃ p : Regrown, w' = Go.Sort.grow (redrawn w p.d) p.os) (fun a' => ∀ w', (∃ p : Regrown, w' = Go.Sort.grow (redrawn w p.d) p.os) → Q .normal a' w') l a) :
    (Code.region id l.toArray true).wpIn (Fence.wide.inRound r) n P Q a w := by
  refine wpIn_region_of_any hm hd ?_
  refine wpAny_of_held (S := fun w' => ∃ p : Regrown, w' = Go.Sort.grow (redrawn w p.d) p.os) _ _ _ _ ?_
  refine wpAnyH_quiet_from (C := fun w' => ∃ p : Regrown, w' = Go.Sort.grow (redrawn w p.d) p.os) 0 _ (by simp) hns (by simpa using hB) ⟨⟨w.drawn + 1, #[]⟩, by rw [Go.Sort.grow_empty]; rfl⟩ (fun _ h => h) ?_
  exact h
end
def RwD.wk (r : RwD) (week : Int) : Wk := r.ws.getD (week - 1).toNat ⟨0, false⟩
def RwD.reachB (r : RwD) (p : Nat) (week : Int) : Bool := (r.wk week).o && decide (min (p : Int) (r.n - 1 - p) < (r.wk week).f)
/-- A row whose numbers are small. -/
structure RwD.Ok (r : RwD) : Prop where
  n0 : 1 ≤ r.n
  n1 : r.n ≤ 10
  lag : 1 ≤ r.lag ∧ r.lag ≤ 30
  sh : 0 ≤ r.sh ∧ r.sh ≤ 30
  old : 0 ≤ r.old ∧ r.old ≤ 30
  dug : (r.dug.length : Int) = r.n
  wk : ∀ x, x ∈ r.ws → 0 ≤ x.f ∧ x.f ≤ 10
  nw : r.ws.length ≤ 30
set_option maxRecDepth 100000 in
set_option maxHeartbeats 2000000 in
theorem isReached_any (c : CoM) (p k : Nat) (w : World) (hr : c.r.At w w.heap.size) (hok : c.r.d.Ok) (hp : p < 10) (hk : k < c.r.ws.l.length) :
    Calls Try.prog 96 #[.agg c.cells.toArray, .int .i64 p, .int .i64 (k + 1)] w fun e w' => e = .returned (.bool (c.r.d.reachB p (k + 1))) ∧ Below w.heap.size w w' := by
  obtain ⟨r, ws⟩ := c
  dsimp only at hr hok hk
  obtain ⟨x, hx⟩ : ∃ x, r.ws.l[k]? = some x := ⟨r.ws.l[k], by simp [hk]⟩
  have hwk : r.d.wk (k + 1) = x := by
    show r.ws.l.getD _ _ = x
    rw [show ((k : Int) + 1 - 1).toNat = k by omega, List.getD, hx]; rfl
  obtain ⟨x0, x1⟩ := hok.wk x (List.mem_of_getElem? hx)
  obtain ⟨b, off, hA, hb, hc0, hc1⟩ := hr.ws.cellW hx
  have l0 : Lies (w.alloc (.cells (CoM.cells ⟨r, ws⟩).toArray 84)) w.heap.size 84 (CoM.cells ⟨r, ws⟩).toArray := Lies.fresh _ _ _
  have e0 : (w.alloc (.cells (CoM.cells ⟨r, ws⟩).toArray 84)).cell? ⟨w.heap.size, 0, none⟩ = some (.int .i64 r.n) := l0.at_ 0
  have e1 : (w.alloc (.cells (CoM.cells ⟨r, ws⟩).toArray 84)).cell? ⟨w.heap.size, 1, none⟩ = some (.slice (some ⟨b, off, none⟩) r.ws.l.length r.ws.c) := by rw [← hA]; exact l0.at_ 1
  have e2 : (w.alloc (.cells (CoM.cells ⟨r, ws⟩).toArray 84)).cell? ⟨b, off + k * 2, none⟩ = some (.int .i64 x.f) := by rw [World.cell?_alloc_lt w _ ⟨b, off + k * 2, none⟩ hb]; exact hc0
  have e3 : (w.alloc (.cells (CoM.cells ⟨r, ws⟩).toArray 84)).cell? ⟨b, off + k * 2 + 1, none⟩ = some (.bool x.o) := by rw [World.cell?_alloc_lt w _ ⟨b, off + k * 2 + 1, none⟩ hb]; exact hc1
  have b0 : Below w.heap.size w (w.alloc (.cells (CoM.cells ⟨r, ws⟩).toArray 84)) := (by repeat (first | (with_reducible assumption) | (with_reducible exact Below.refl _ _) | (with_reducible refine Below.drew ?_) | (with_reducible refine below_drewN ?_ _) | ((with_reducible refine Below.setCell ?_ ?_ _); rotate_left; focus (first | (simp; done) | (simp; omega) | omega)) | ((with_reducible refine Below.alloc ?_ ?_ _); rotate_left; focus (first | (simp; done) | (simp; omega) | omega))))
  have hrr : r.d.reachB p (k + 1) = (x.o && decide (min (p : Int) (r.n - 1 - p) < x.f)) := by unfold RwD.reachB; rw [hwk]; rfl
  have hn0 : 1 ≤ r.n := hok.n0
  have hn1 : r.n ≤ 10 := hok.n1
  have hkz : (k : Int) < (r.ws.l.length : Int) := by omega
  have hk0 : (0 : Int) ≤ (k : Int) := by omega
  have hp0 : (0 : Int) ≤ (p : Int) := by omega
  have hp1 : (p : Int) < 10 := by omega
  have hkw : ((k : Int) + 1 - 1) = (k : Int) := by omega
  have hnw : (r.ws.l.length : Int) ≤ 30 := by have : r.ws.l.length ≤ 30 := hok.nw; omega
  have hzl : w.heap.size < (w.alloc (.cells (CoM.cells ⟨r, ws⟩).toArray 84)).heap.size := by simp
  have HR := Lib.hid hrr
  have B0 := Lib.hid b0
  clear hrr b0 l0 hr hok hx hwk hA hc0 hc1 hk
  have hb' : b < (w.alloc (.cells (CoM.cells ⟨r, ws⟩).toArray 84)).heap.size := by simp; omega
  clear hb
  go_enter Try.func96, Try.ntmps96
  go_upto_region 1 with (fail)
  change Code.wp _ _ _ _ (w.alloc (.cells (CoM.cells ⟨r, ws⟩).toArray 84))
  generalize w.alloc (.cells (CoM.cells ⟨r, ws⟩).toArray 84) = w1 at *
  obtain ⟨xf, xo⟩ := x
  dsimp only at *
  cases xo
  · go_wp2
    go_ret
    exact ⟨ret_bool (by rw [HR.out]; simp), B0.out.alloc B0.out.size _⟩
  · go_wp2
    go_ret
    exact ⟨ret_bool (by rw [HR.out]; simp), B0.out.alloc B0.out.size _⟩
def RwD.nearD (r : RwD) (p : Nat) (week : Int) : Int := max 0 ((p : Int) - (r.wk week).f)
def RwD.farD (r : RwD) (p : Nat) (week : Int) : Int := min ((p : Int) + (r.wk week).f) (r.n - 1)
def RwD.srcOk (r : RwD) (p : Nat) (week : Int) (q : Nat) : Bool := decide (q ≠ p) && stB (r.dg q) week
/-- The sources from some plant on, so many plants. -/
def RwD.srcFrom (r : RwD) (p : Nat) (week : Int) (a m : Nat) : List Nat := (List.range' a m).filter (r.srcOk p week)
def RwD.srcD (r : RwD) (p : Nat) (week : Int) : List Nat := r.srcFrom p week (r.nearD p week).toNat (r.farD p week + 1 - r.nearD p week).toNat
/-- The boxes of sources. -/
structure SrcAt (c : CoM) (p : Nat) (week : Int) (gn gf gp gc gw : Nat) (W : World) : Prop where
  n : Lies W gn 3 #[.int .i64 (c.r.d.nearD p week)]
  f : Lies W gf 3 #[.int .i64 (c.r.d.farD p week)]
  p : Lies W gp 3 #[.int .i64 p]
  c : Lies W gc 84 c.cells.toArray
  w : Lies W gw 3 #[.int .i64 week]
theorem SrcAt.below {c : CoM} {p : Nat} {week : Int} {gn gf gp gc gw : Nat} {W W' : World} (h : SrcAt c p week gn gf gp gc gw W) (hb : Below W.heap.size W W') : SrcAt c p week gn gf gp gc gw W' :=
  ⟨h.n.call hb, h.f.call hb, h.p.call hb, h.c.call hb, h.w.call hb⟩
def SrcRet (c : CoM) (p : Nat) (week : Int) (w : World) (e : Ending) (w' : World) : Prop :=
  ∃ gn gf gp gc gw : Nat, e = .returned (.func (.func 105) #[] #[.pointer (some ⟨gn, 0, none⟩), .pointer (some ⟨gf, 0, none⟩), .pointer (some ⟨gp, 0, none⟩), .pointer (some ⟨gc, 0, none⟩), .pointer (some ⟨gw, 0, none⟩)]) ∧ SrcAt c p week gn gf gp gc gw w' ∧ Below w.heap.size w w' ∧ w.heap.size ≤ gn
set_option maxRecDepth 100000 in
set_option maxHeartbeats 2000000 in
theorem sources_any (c : CoM) (p k : Nat) (w : World) (hr : c.r.At w w.heap.size) (hok : c.r.d.Ok) (hp : p < 10) (hk : k < c.r.ws.l.length) :
    Calls Try.prog 95 #[.agg c.cells.toArray, .int .i64 p, .int .i64 (k + 1)] w (SrcRet c p (k + 1) w) := by
  obtain ⟨r, ws⟩ := c
  dsimp only at hr hok hk
  obtain ⟨x, hx⟩ : ∃ x, r.ws.l[k]? = some x := ⟨r.ws.l[k], by simp [hk]⟩
  have hwk : r.d.wk (k + 1) = x := by
    show r.ws.l.getD _ _ = x
    rw [show ((k : Int) + 1 - 1).toNat = k by omega, List.getD, hx]; rfl
  obtain ⟨x0, x1⟩ := hok.wk x (List.mem_of_getElem? hx)
  obtain ⟨b, off, hA, hb, hc0, hc1⟩ := hr.ws.cellW hx
  have l0 : Lies (((w.alloc (.cells (CoM.cells ⟨r, ws⟩).toArray 84)).alloc (.cells #[.int .i64 p] 3)).alloc (.cells #[.int .i64 (k + 1)] 3)) w.heap.size 84 (CoM.cells ⟨r, ws⟩).toArray := ((Lies.fresh _ _ _).alloc _).alloc _
  have l1 : Lies (((w.alloc (.cells (CoM.cells ⟨r, ws⟩).toArray 84)).alloc (.cells #[.int .i64 p] 3)).alloc (.cells #[.int .i64 (k + 1)] 3)) (w.heap.size + 1) 3 #[.int .i64 p] := (Lies.fresh' (by simp)).alloc _
  have l2 : Lies (((w.alloc (.cells (CoM.cells ⟨r, ws⟩).toArray 84)).alloc (.cells #[.int .i64 p] 3)).alloc (.cells #[.int .i64 (k + 1)] 3)) (w.heap.size + 1 + 1) 3 #[.int .i64 (k + 1)] := Lies.fresh' (by simp)
  have b0 : Below w.heap.size w (((w.alloc (.cells (CoM.cells ⟨r, ws⟩).toArray 84)).alloc (.cells #[.int .i64 p] 3)).alloc (.cells #[.int .i64 (k + 1)] 3)) := (by repeat (first | (with_reducible assumption) | (with_reducible exact Below.refl _ _) | (with_reducible refine Below.drew ?_) | (with_reducible refine below_drewN ?_ _) | ((with_reducible refine Below.setCell ?_ ?_ _); rotate_left; focus (first | (simp; done) | (simp; omega) | omega)) | ((with_reducible refine Below.alloc ?_ ?_ _); rotate_left; focus (first | (simp; done) | (simp; omega) | omega))))
  have hz0 : (((w.alloc (.cells (CoM.cells ⟨r, ws⟩).toArray 84)).alloc (.cells #[.int .i64 p] 3)).alloc (.cells #[.int .i64 (k + 1)] 3)).heap.size = w.heap.size + 3 := by simp
  have hn0 : 1 ≤ r.n := hok.n0
  have hn1 : r.n ≤ 10 := hok.n1
  have hkz : (k : Int) < (r.ws.l.length : Int) := by omega
  have hk0 : (0 : Int) ≤ (k : Int) := by omega
  have hp0 : (0 : Int) ≤ (p : Int) := by omega
  have hp1 : (p : Int) < 10 := by omega
  have hkw : ((k : Int) + 1 - 1) = (k : Int) := by omega
  have hnw : (r.ws.l.length : Int) ≤ 30 := by have : r.ws.l.length ≤ 30 := hok.nw; omega
  have hnear : r.d.nearD p (k + 1) = max 0 ((p : Int) - x.f) := by unfold RwD.nearD; rw [hwk]
  have hfar : r.d.farD p (k + 1) = min ((p : Int) + x.f) (r.n - 1) := by unfold RwD.farD; rw [hwk]; rfl
  have L0 := Lib.hid l0
  have L1 := Lib.hid l1
  have L2 := Lib.hid l2
  have B0 := Lib.hid b0
  have HZ0 := Lib.hid hz0
  have HNE := Lib.hid hnear
  have HFA := Lib.hid hfar
  have HE2 := Lib.hid hc0
  have HBB := Lib.hid hb
  clear l0 l1 l2 b0 hz0 hnear hfar hr hok hx hwk hc0 hc1 hk hb
  go_enter Try.func95, Try.ntmps95
  go_upto_region 1 with (fail)
  change Code.wp _ _ _ _ (((w.alloc (.cells (CoM.cells ⟨r, ws⟩).toArray 84)).alloc (.cells #[.int .i64 p] 3)).alloc (.cells #[.int .i64 (k + 1)] 3))
  generalize ((w.alloc (.cells (CoM.cells ⟨r, ws⟩).toArray 84)).alloc (.cells #[.int .i64 p] 3)).alloc (.cells #[.int .i64 (k + 1)] 3) = w1 at *
  have e0 : w1.cell? ⟨w.heap.size, 0, none⟩ = some (.int .i64 r.n) := L0.out.at_ 0
  have e1 : w1.cell? ⟨w.heap.size, 1, none⟩ = some (.slice (some ⟨b, off, none⟩) r.ws.l.length r.ws.c) := by rw [← hA]; exact L0.out.at_ 1
  have e2 : w1.cell? ⟨b, off + k * 2, none⟩ = some (.int .i64 x.f) := by rw [B0.out.cell (p := ⟨b, off + k * 2, none⟩) HBB.out]; exact HE2.out
  have e3 : w1.cell? ⟨w.heap.size + 1, 0, none⟩ = some (.int .i64 p) := L1.out.at_ 0
  have e4 : w1.cell? ⟨w.heap.size + 1 + 1, 0, none⟩ = some (.int .i64 (k + 1)) := L2.out.at_ 0
  obtain ⟨xf, xo⟩ := x
  dsimp only at *
  clear hA
  go_upto_region 2 with (fail)
  have z0 : w.heap.size < w1.heap.size := by have := HZ0.out; omega
  have z1 : w.heap.size + 1 < w1.heap.size := by have := HZ0.out; omega
  have z2 : w.heap.size + 1 + 1 < w1.heap.size := by have := HZ0.out; omega
  go_region
  all_goals clear e0 e1 e2 e3 e4
  all_goals go_wp2
  all_goals go_ret
  all_goals
    refine ⟨_, _, _, _, _, rfl, ⟨?_, ?_, ?_, ?_, ?_⟩, ?_, ?_⟩
    · rw [HNE.out]; first | exact (Lies.fresh' (by simp)).drew | exact ((Lies.fresh' rfl).alloc _).drew
    · rw [HFA.out]; first | exact (Lies.fresh' (by simp)).drew | exact ((Lies.fresh' rfl).alloc _).drew
    · exact ((L1.out.alloc _).alloc _).drew
    · exact ((L0.out.alloc _).alloc _).drew
    · exact ((L2.out.alloc _).alloc _).drew
    · exact Below.drew ((B0.out.alloc B0.out.size _).alloc (by have := B0.out.size; simp; omega) _)
    · omega
end Go.Proofs.Ytkjhofbjjogmlaa

/- What sources' iterator gives; canFallIll. -/
namespace Go.Proofs.Ytkjhofbjjogmlaa
open Go.RowKit Go.Lib
attribute [local go_sem] Oper.semAt_some

theorem wpListIn_load_midG {F : Fence} {n : Nat} {P : Program} {ops : Array Oper} {rest : List Oper} {op : Oper} {a : Act} {w : World} {Q : Exit → Act → World → Prop} (hw : Region.wanted op (yielded ops a.tmps) = true) (ty : TypeId) (x : Operand) (ho : op.op = .load ty x)
    (b o : Nat) (hx : a.eval x = .pointer (some ⟨b, o, none⟩)) (cs : List Value) (d : TypeDesc) (hc : w.rangeAt b o cs)
    (hu : P.underlying ty = some d) (hd : d.isRow = true) (hi : (P.info? ty).map (·.size) = some cs.length)
    (h : wpListIn F n P ops Q rest (a.put op.dst (.agg cs.toArray)) w) : wpListIn F n P ops Q (op :: rest) a w := by
  refine wpListIn_step fun K hK => ?_
  rw [if_pos hw]
  unfold Oper.wpIn
  refine ⟨by simp [Oper.about, ho], ?_⟩
  rw [Oper.semAt_plain F _ _ (by rw [ho]; intro c hc; cases hc)]
  unfold execOp
  simp only [ho, hx, Instr.loadAt, Instr.sureAddr, Sem.run_bind, Sem.run_pure, Result.andThen_ok, run_loadVar_mid w b o ty cs d hc hu hd hi]
  exact hK _ _ h
theorem RwD.srcFrom_succ (r : RwD) (p : Nat) (week : Int) (a m : Nat) : r.srcFrom p week a (m + 1) = r.srcFrom p week a m ++ (if r.srcOk p week (a + m) then [a + m] else []) := by
  unfold RwD.srcFrom
  rw [List.range'_concat, List.filter_append]
  simp only [Nat.one_mul, List.filter_cons, List.filter_nil]
theorem RwD.srcFrom_split (r : RwD) (p : Nat) (week : Int) (a m n : Nat) : r.srcFrom p week a (m + n) = r.srcFrom p week a m ++ r.srcFrom p week (a + m) n := by
  unfold RwD.srcFrom
  rw [← List.filter_append, List.range'_append_1]
theorem RwD.srcFrom_at (r : RwD) (p : Nat) (week : Int) (a m M : Nat) (hm : m < M) (h : r.srcOk p week (a + m) = true) : (r.srcFrom p week a M)[(r.srcFrom p week a m).length]? = some (a + m) := by
  obtain ⟨n, rfl⟩ : ∃ n, M = (m + 1) + n := ⟨M - (m + 1), by omega⟩
  rw [r.srcFrom_split, r.srcFrom_succ, if_pos h, List.append_assoc, List.getElem?_append_right (Nat.le_refl _), Nat.sub_self]
  rfl
def encQ (q : Nat) : Array Value := #[.int .i64 q]
structure NearFar (r : RwD) (p : Nat) (week : Int) (a M : Nat) : Prop where
  near : r.nearD p week = a
  far : r.farD p week = (a : Int) + M - 1
  top : a + M ≤ r.dug.length
  xs : r.srcD p week = r.srcFrom p week a M
theorem RwD.wk_bd {r : RwD} (h : r.Ok) (week : Int) : 0 ≤ (r.wk week).f ∧ (r.wk week).f ≤ 10 := by
  unfold RwD.wk
  generalize (week - 1).toNat = k
  by_cases hx : k < r.ws.length
  · have := h.wk _ (List.getElem_mem hx)
    rw [show r.ws.getD k ⟨0, false⟩ = r.ws[k] by simp [List.getD, hx]]
    exact this
  · rw [show r.ws.getD k ⟨0, false⟩ = ⟨0, false⟩ by simp [List.getD, List.getElem?_eq_none (Nat.le_of_not_lt hx)]]
    exact ⟨Int.le_refl _, by decide⟩
theorem near_far {r : RwD} (h : r.Ok) {p : Nat} (hp : (p : Int) < r.n) (week : Int) : ∃ a M, NearFar r p week a M := by
  obtain ⟨f0, f1⟩ := r.wk_bd h week
  have hn := h.dug
  have e1 : r.nearD p week = max 0 ((p : Int) - (r.wk week).f) := rfl
  have e2 : r.farD p week = min ((p : Int) + (r.wk week).f) (r.n - 1) := rfl
  refine ⟨(r.nearD p week).toNat, (r.farD p week + 1 - r.nearD p week).toNat, ?_, ?_, ?_, rfl⟩ <;> omega
set_option maxRecDepth 100000 in
set_option maxHeartbeats 4000000 in
theorem sources1_gives (n : Nat) (hn : 1 ≤ n) (c : CoM) (p : Nat) (week : Int) (gn gf gp gc gw a M : Nat) (w : World) (hok : c.r.d.Ok) (hnf : NearFar c.r.d p week a M) (_hp10 : p < 10) (St : World → Prop) (hSt : ∀ W, St W → SrcAt c p week gn gf gp gc gw W ∧ c.r.At W W.heap.size) :
    GivesB n Try.prog 105 #[.pointer (some ⟨gn, 0, none⟩), .pointer (some ⟨gf, 0, none⟩), .pointer (some ⟨gp, 0, none⟩), .pointer (some ⟨gc, 0, none⟩), .pointer (some ⟨gw, 0, none⟩)] (fun _ => encQ) (c.r.d.srcD p week) w (fun _ _ _ => True) St := by
  intro l' J Jx W hbW hJS hJ hY h0
  rw [hnf.xs] at hY ⊢
  have HPT := Lib.hid (fun k A (h : J k A) => hSt A (hJS k A h))
  have HY := Lib.hid hY
  have HJ := Lib.hid hJ
  have H0 := Lib.hid h0
  have HN := Lib.hid hnf
  have HOK := Lib.hid hok
  have hd10 : c.r.d.dug.length ≤ 10 := by have := hok.dug; have := hok.n1; omega
  have htop := hnf.top
  have hlx := hnf.far
  have c0 : W.cell? ⟨gn, 0, none⟩ = some (.int .i64 a) := by rw [← hnf.near]; exact (HPT.out _ _ H0.out).1.n.at_ 0
  have ha10 : (a : Int) ≤ 10 := by omega
  have HXS := Lib.hid hlx
  clear hJS hY hJ h0 hSt hbW hok hnf hlx
  refine callsIn_of_wp Try.func105 rfl trivial ?_ rfl
  refine wpIn_wide.2 ?_
  simp only [Try.ntmps105, List.size_toArray, List.length_cons, List.length_nil, Nat.reduceAdd, Nat.reduceSub, Array.replicate_succ, Array.replicate_zero, List.push_toArray, List.append_toArray, List.nil_append, List.cons_append]
  go_wp2
  clear c0
  go_loopw [7] (fun s7 wr => ∃ m q : Nat, m ≤ M ∧ q = a + m ∧ s7 = .int .i64 q ∧ Aside (J (c.r.d.srcFrom p week a m).length wr)) (fun i _ => a + M - (intOf i).toNat)
  case atStart => exact ⟨0, a, by omega, by simp, rfl, H0.out⟩
  case round =>
    obtain ⟨m, q, hm, hq, rfl, N⟩ := hrel
    obtain ⟨hsa, hra⟩ := HPT.out _ _ N.out
    have c0 : wr.cell? ⟨gf, 0, none⟩ = some (.int .i64 (c.r.d.farD p week)) := hsa.f.at_ 0
    rw [HXS.out] at c0
    have hq0 : (0 : Int) ≤ (q : Int) := by omega
    have hq1 : (q : Int) ≤ 10 := by omega
    by_cases hlt : m < M
    · have hle : (q : Int) ≤ (a : Int) + M - 1 := by omega
      have c2 : wr.cell? ⟨gp, 0, none⟩ = some (.int .i64 p) := hsa.p.at_ 0
      have c3 : wr.cell? ⟨gw, 0, none⟩ = some (.int .i64 week) := hsa.w.at_ 0
      have hqd : q < c.r.d.dug.length := by omega
      have hrg : wr.rangeAt gc 0 c.r.cells := Lies.range (cs := c.cells) hsa.c (cells_row c.r c.ws)
      have hst := stands_any c.r q (c.r.d.dg (q : Int)) week wr hra.dug (by show c.r.dug.l[q]? = some (c.r.dug.l.getD q 0); have h2 : q < c.r.dug.l.length := hqd; simp [List.getD, h2]) hra.ld
      have HRG := Lib.hid hrg
      have HST := Lib.hid hst
      have hsuc := c.r.d.srcFrom_succ p week a m
      have hat := c.r.d.srcFrom_at p week a m M hlt
      rw [← hq] at hsuc hat
      have hsok : c.r.d.srcOk p week q = (decide (q ≠ p) && stB (c.r.d.dg (q : Int)) week) := rfl
      have HSU := Lib.hid hsuc
      have HSO := Lib.hid hsok
      have HAT := Lib.hid hat
      have HQ := Lib.hid hq
      have HQN := Lib.hid (show (q : Int) + 1 = ((q + 1 : Nat) : Int) by omega)
      have HZW := Lib.hid hqd
      clear hrg hst hsuc hsok hsa hra htop hq hat hqd hm
      by_cases hqp : q = p
      · have hne : ((q : Int) != (p : Int)) = false := by rw [bne_eq_false_iff_eq]; omega
        have HE := Lib.hid hqp
        clear hqp
        go_wp2
        go_roundw
        case rel =>
          refine ⟨m + 1, q + 1, by omega, by rw [HQ.out]; omega, by go_num, ?_⟩
          show J _ _
          rw [HSU.out, if_neg (by rw [HSO.out]; simp [HE.out]), List.append_nil]; exact N.out
        case measure => have := HQ.out; simp [intOf]; omega
      · have hne : ((q : Int) != (p : Int)) = true := by rw [bne_iff_ne]; omega
        have HE := Lib.hid hqp
        clear hqp
        cases hsb : stB (c.r.d.dg (q : Int)) week with
        | false =>
          rw [hsb] at HST HSO
          clear hsb
          go_wp2_with (first
            | (refine wpList_load_midG (op := ⟨some 19, _, _, _, _, _⟩) ?_ 34 (.tmp 18) ?_ gc 0 ?_ c.r.cells _ HRG.out Try.underlying34 rfl size_row ?_; kernel_rfl; rfl; rfl)
            | (go_at_call 91; refine HST.out.mono ?_; rintro e w5 ⟨rfl, hb5⟩))
          go_roundw
          case rel =>
            refine ⟨m + 1, q + 1, by omega, by rw [HQ.out]; omega, by go_num, ?_⟩
            show J _ _
            rw [HSU.out, if_neg (by rw [HSO.out]; simp), List.append_nil]
            exact HJ.out _ _ _ N.out (.of_below hb5)
          case measure => have := HQ.out; simp [intOf]; omega
        | true =>
          rw [hsb] at HST HSO
          clear hsb
          have hok2 : c.r.d.srcOk p week q = true := by rw [HSO.out]; simp [HE.out]
          have HOK2 := Lib.hid hok2
          have HX := Lib.hid (HAT.out hok2)
          clear hok2
          have hy := fun A hA => HY.out _ q A HX.out hA trivial
          have HYY := Lib.hid hy
          clear hy
          have hn1 : 1 ≤ n := hn
          have hsp := c.r.d.srcFrom_succ p week a m
          refine (wpIn_wide (n := n)).1 ?_
          gi_wp2_with (refine wpListIn_load_midG (op := ⟨some 19, _, _, _, _, _⟩) ?_ 34 (.tmp 18) ?_ gc 0 ?_ c.r.cells _ HRG.out Try.underlying34 rfl size_row ?_; kernel_rfl; rfl; rfl)
          refine ⟨trivial, (callsIn_wide.2 HST.out).mono ?_⟩
          rintro e w5 ⟨rfl, hb5⟩
          obtain ⟨fn, tmps, assign, body, hy, hR⟩ := HYY.out w5 (HJ.out _ _ _ N.out (.of_below hb5))
          dsimp only [encQ] at hy
          have HB5 := Lib.hid hb5
          have HS := Lib.hid hsp
          clear hsp hb5 c0 c2 c3
          gi_wp2_with (fail)
          refine hR.mono ?_
          clear hR hy
          rintro e W5 (⟨rfl, hJ5, -⟩ | ⟨rfl, hx5⟩)
          · gi_wp2_with (fail)
            go_wp2_with (fail)
            go_roundw
            case rel =>
              refine ⟨m + 1, q + 1, by omega, by rw [HQ.out]; omega, by go_num, ?_⟩
              show J _ _
              rw [HSU.out, if_pos HOK2.out, List.length_append]; exact hJ5
            case measure => have := HQ.out; simp [intOf]; omega
          · gi_wp2_with (fail)
            go_wp2
            refine bodyPost_ret (results_none rfl _ _ _) rfl ?_
            refine ⟨⟨_, rfl⟩, .inr ⟨_, ?_, hx5⟩⟩
            have := (List.getElem?_eq_some_iff.1 HX.out).1
            omega
    · have hge : ¬ (q : Int) ≤ (a : Int) + M - 1 := by omega
      obtain rfl : m = M := by omega
      clear hq
      go_wp2
      go_end0
      exact ⟨⟨_, rfl⟩, .inl N.out⟩
end Go.Proofs.Ytkjhofbjjogmlaa

/- canFallIll. -/
namespace Go.Proofs.Ytkjhofbjjogmlaa
open Go.RowKit Go.Lib
attribute [local go_sem] Oper.semAt_some

def RwD.srcAny (r : RwD) (t : List Int) (p : Nat) (week : Int) : Bool := (r.srcD p week).any fun q => decide (t.getD q 0 + r.lag ≤ week)
def RwD.fallB (r : RwD) (t : List Int) (p : Nat) (week : Int) : Bool :=
  if week = 0 then !r.cl else if stB (r.dg p) week = false then false else r.srcAny t p week || r.reachB p week
structure TrOk (t : List Int) : Prop where
  len : t.length = 10
  b : ∀ i, 0 ≤ t.getD i 0 ∧ t.getD i 0 ≤ 31
/-- The memory of canFallIll ahead of its body. -/
structure CfM (c : CoM) (t : List Int) (k : Int) (b : Bool) (w W : World) : Prop where
  c : Lies W w.heap.size 84 c.cells.toArray
  t : Lies W (w.heap.size + 1) 86 (vals t)
  k : Lies W (w.heap.size + 1 + 1) 3 #[.int .i64 k]
  r : Lies W (w.heap.size + 1 + 1 + 1) 4 #[.bool b]
  b : Below w.heap.size w W
  z : w.heap.size + 4 ≤ W.heap.size
theorem CfM.call {c : CoM} {t : List Int} {k : Int} {b : Bool} {w W W' : World} (h : CfM c t k b w W) (hb : Below W.heap.size W W') : CfM c t k b w W' :=
  ⟨h.c.call hb, h.t.call hb, h.k.call hb, h.r.call hb, h.b.trans (hb.mono h.b.size), Nat.le_trans h.z hb.size⟩
theorem CfM.made (c : CoM) (t : List Int) (k : Int) (w : World) : CfM c t k false w ((((w.alloc (.cells c.cells.toArray 84)).alloc (.cells (vals t) 86)).alloc (.cells #[.int .i64 k] 3)).alloc (.cells #[.bool false] 4)) := by
  refine ⟨(((Lies.fresh _ _ _).alloc _).alloc _).alloc _, ((Lies.fresh' (by simp)).alloc _).alloc _, (Lies.fresh' (by simp)).alloc _, Lies.fresh' (by simp), (by repeat (first | (with_reducible assumption) | (with_reducible exact Below.refl _ _) | (with_reducible refine Below.drew ?_) | (with_reducible refine below_drewN ?_ _) | ((with_reducible refine Below.setCell ?_ ?_ _); rotate_left; focus (first | (simp; done) | (simp; omega) | omega)) | ((with_reducible refine Below.alloc ?_ ?_ _); rotate_left; focus (first | (simp; done) | (simp; omega) | omega)))), by simp⟩
set_option maxRecDepth 100000 in
set_option maxHeartbeats 4000000 in
theorem canFall_zero (c : CoM) (t : List Int) (p : Nat) (w : World) :
    Calls Try.prog 77 #[.agg c.cells.toArray, .agg (vals t), .int .i64 p, .int .i64 0] w fun e w' => e = .returned (.bool (!c.r.cl)) ∧ Below w.heap.size w w' := by
  have hM := CfM.made c t 0 w
  have HM := Lib.hid hM
  clear hM
  go_enter Try.func77, Try.ntmps77
  go_upto_region 1 with (fail)
  change Code.wp _ _ _ _ ((((w.alloc (.cells c.cells.toArray 84)).alloc (.cells (vals t) 86)).alloc (.cells #[.int .i64 0] 3)).alloc (.cells #[.bool false] 4))
  generalize (((w.alloc (.cells c.cells.toArray 84)).alloc (.cells (vals t) 86)).alloc (.cells #[.int .i64 0] 3)).alloc (.cells #[.bool false] 4) = w1 at *
  have e0 : w1.cell? ⟨w.heap.size, 5, none⟩ = some (.bool c.r.cl) := by obtain ⟨r, ws⟩ := c; exact HM.out.c.at_ 5
  have e1 : w1.cell? ⟨w.heap.size + 1 + 1, 0, none⟩ = some (.int .i64 0) := HM.out.k.at_ 0
  have e2 : w1.cell? ⟨w.heap.size + 1 + 1 + 1, 0, none⟩ = some (.bool false) := HM.out.r.at_ 0
  have e3 : w1.frozen? ⟨w.heap.size + 1 + 1 + 1, 0, none⟩ = false := HM.out.r.free 0
  go_wp2
  exact bodyPost_ret (results_cell_one (v := .bool (!c.r.cl)) (a := ⟨w.heap.size + 1 + 1 + 1, 0, none⟩) rfl _ _ _ rfl ((HM.out.r.set 0 _).at_ 0) Try.underlying4 rfl) rfl ⟨rfl, HM.out.b.setCell (by simp; omega) _⟩
set_option maxRecDepth 100000 in
set_option maxHeartbeats 4000000 in
theorem canFall_gone (c : CoM) (t : List Int) (p k : Nat) (w : World) (hr : c.r.At w w.heap.size) (hok : c.r.d.Ok) (hp : (p : Int) < c.r.n) (_hk : k < c.r.ws.l.length) (hs : stB (c.r.d.dg p) (k + 1) = false) :
    Calls Try.prog 77 #[.agg c.cells.toArray, .agg (vals t), .int .i64 p, .int .i64 (k + 1)] w fun e w' => e = .returned (.bool false) ∧ Below w.heap.size w w' := by
  have hM := CfM.made c t (k + 1) w
  have hpd : p < c.r.dug.l.length := by have : (c.r.dug.l.length : Int) = c.r.n := hok.dug; omega
  have hS := fun W (hb : Below w.heap.size w W) => stands_any c.r p (c.r.d.dg p) (k + 1) W ((hr.below hb hb.size).dug) (by show c.r.dug.l[p]? = some (c.r.dug.l.getD p 0); simp [List.getD, hpd]) hr.ld
  rw [hs] at hS
  have HM := Lib.hid hM
  have HS := Lib.hid hS
  have hk0 : ((k : Int) + 1 == 0) = false := by rw [beq_eq_false_iff_ne]; omega
  clear hM hS hs hr hok hpd
  go_enter Try.func77, Try.ntmps77
  go_upto_region 1 with (fail)
  change Code.wp _ _ _ _ ((((w.alloc (.cells c.cells.toArray 84)).alloc (.cells (vals t) 86)).alloc (.cells #[.int .i64 (k + 1)] 3)).alloc (.cells #[.bool false] 4))
  generalize (((w.alloc (.cells c.cells.toArray 84)).alloc (.cells (vals t) 86)).alloc (.cells #[.int .i64 (k + 1)] 3)).alloc (.cells #[.bool false] 4) = w1 at *
  have e1 : w1.cell? ⟨w.heap.size + 1 + 1, 0, none⟩ = some (.int .i64 (k + 1)) := HM.out.k.at_ 0
  have HRG := Lib.hid (show w1.rangeAt w.heap.size 0 c.r.cells from Lies.range (cs := c.cells) HM.out.c (cells_row c.r c.ws))
  go_wp2_with (first
    | (refine wpList_load_midG (op := ⟨some 17, _, _, _, _, _⟩) ?_ 34 (.tmp 16) ?_ w.heap.size 0 ?_ c.r.cells _ HRG.out Try.underlying34 rfl size_row ?_; kernel_rfl; rfl; rfl)
    | (go_at_call 91; refine (HS.out _ HM.out.b).mono ?_; rintro e w5 ⟨rfl, hb5⟩; have M5 := Lib.hid (HM.out.call hb5); have e2 : w5.cell? ⟨w.heap.size + 1 + 1 + 1, 0, none⟩ = some (.bool false) := M5.out.r.at_ 0; have e3 : w5.frozen? ⟨w.heap.size + 1 + 1 + 1, 0, none⟩ = false := M5.out.r.free 0))
  exact bodyPost_ret (results_cell_one (v := .bool false) (a := ⟨w.heap.size + 1 + 1 + 1, 0, none⟩) rfl _ _ _ rfl ((M5.out.r.set 0 _).at_ 0) Try.underlying4 rfl) rfl ⟨rfl, M5.out.b.setCell (by simp; omega) _⟩
theorem co_lag (c : CoM) : c.cells.toArray[2]? = some (.int .i64 c.r.lag) := by obtain ⟨r, ws⟩ := c; rfl
theorem src_lt {r : RwD} {p : Nat} {week : Int} {a M : Nat} (h : NearFar r p week a M) {q : Nat} (hq : q ∈ r.srcD p week) : q < r.dug.length := by
  rw [h.xs] at hq
  have := (List.mem_filter.1 hq).1
  rw [List.mem_range'_1] at this
  have := h.top
  omega
/-- canFallIll between two sources. -/
structure CfI (c : CoM) (t : List Int) (p k : Nat) (gn gf gp gc gw : Nat) (w : World) (j : Nat) (W : World) : Prop where
  m : CfM c t (k + 1) false w W
  s : SrcAt c p (k + 1) gn gf gp gc gw W
  no : ∀ i q, i < j → (c.r.d.srcD p (k + 1))[i]? = some q → decide (t.getD q 0 + c.r.lag ≤ (k : Int) + 1) = false
structure CfX (c : CoM) (t : List Int) (p k : Nat) (w : World) (cd : Code) (W : World) : Prop where
  e : cd = .ret
  r : Lies W (w.heap.size + 1 + 1 + 1) 4 #[.bool true]
  b : Below w.heap.size w W
  yes : c.r.d.srcAny t p (k + 1) = true
theorem any_no {α : Type} {l : List α} {f : α → Bool} (h : ∀ i x, i < l.length → l[i]? = some x → f x = false) : l.any f = false := by
  rw [List.any_eq_false]
  intro x hx
  obtain ⟨i, hi, rfl⟩ := List.getElem_of_mem hx
  rw [h i _ hi (by simp [hi])]; simp
set_option maxRecDepth 100000 in
set_option maxHeartbeats 8000000 in
theorem canFall_stands (c : CoM) (t : List Int) (p k : Nat) (w : World) (hws : c.ws.length = 10) (hr : c.r.At w w.heap.size) (hok : c.r.d.Ok) (ht : TrOk t) (hp : (p : Int) < c.r.n) (hk : k < c.r.ws.l.length) (hs : stB (c.r.d.dg p) (k + 1) = true) :
    Calls Try.prog 77 #[.agg c.cells.toArray, .agg (vals t), .int .i64 p, .int .i64 (k + 1)] w fun e w' => e = .returned (.bool (c.r.d.srcAny t p (k + 1) || c.r.d.reachB p (k + 1))) ∧ Below w.heap.size w w' := by
  have hM := CfM.made c t (k + 1) w
  have hpd : p < c.r.dug.l.length := by have : (c.r.dug.l.length : Int) = c.r.n := hok.dug; omega
  have hp10 : p < 10 := by have : c.r.n ≤ 10 := hok.n1; omega
  have hS := fun W (hb : Below w.heap.size w W) => stands_any c.r p (c.r.d.dg p) (k + 1) W ((hr.below hb hb.size).dug) (by show c.r.dug.l[p]? = some (c.r.dug.l.getD p 0); simp [List.getD, hpd]) hr.ld
  rw [hs] at hS
  have hQ := fun W (hb : Below w.heap.size w W) => sources_any c p k W (hr.below hb hb.size) hok hp10 hk
  have hR := fun W (hb : Below w.heap.size w W) => isReached_any c p k W (hr.below hb hb.size) hok hp10 hk
  have HM := Lib.hid hM
  have HS := Lib.hid hS
  have HQ := Lib.hid hQ
  have HRE := Lib.hid hR
  have HRR := Lib.hid hr
  have HOK := Lib.hid hok
  have HTR := Lib.hid ht
  have HNF := Lib.hid (near_far hok hp (k + 1))
  have hlag : 1 ≤ c.r.lag ∧ c.r.lag ≤ 30 := hok.lag
  obtain ⟨hlag0, hlag1⟩ := hlag
  have hsz : (Try.prog.info? 84).map (·.size) = some c.cells.toArray.size := by rw [List.size_toArray, c.len hws]; exact size_co
  have HSZ := Lib.hid hsz
  have hk0 : ((k : Int) + 1 == 0) = false := by rw [beq_eq_false_iff_ne]; omega
  clear hM hS hs hr hok hpd ht hQ hR hsz
  refine calls_of_wp_marks 5 Try.func77 rfl ?_
  simp only [Try.ntmps77, List.size_toArray, List.length_cons, List.length_nil, Nat.reduceAdd, Nat.reduceSub, Array.replicate_succ, Array.replicate_zero, List.push_toArray, List.append_toArray, List.nil_append, List.cons_append]
  go_upto_region 1 with (fail)
  change Code.wp _ _ _ _ ((((w.alloc (.cells c.cells.toArray 84)).alloc (.cells (vals t) 86)).alloc (.cells #[.int .i64 (k + 1)] 3)).alloc (.cells #[.bool false] 4))
  generalize (((w.alloc (.cells c.cells.toArray 84)).alloc (.cells (vals t) 86)).alloc (.cells #[.int .i64 (k + 1)] 3)).alloc (.cells #[.bool false] 4) = w1 at *
  have e1 : w1.cell? ⟨w.heap.size + 1 + 1, 0, none⟩ = some (.int .i64 (k + 1)) := HM.out.k.at_ 0
  have HRG := Lib.hid (show w1.rangeAt w.heap.size 0 c.r.cells from Lies.range (cs := c.cells) HM.out.c (cells_row c.r c.ws))
  go_wp2_with (first
    | (refine wpList_load_midG (op := ⟨some 17, _, _, _, _, _⟩) ?_ 34 (.tmp 16) ?_ w.heap.size 0 ?_ c.r.cells _ HRG.out Try.underlying34 rfl size_row ?_; kernel_rfl; rfl; rfl)
    | (go_at_call 91; refine (HS.out _ HM.out.b).mono ?_; rintro e w5 ⟨rfl, hb5⟩; have M5 := Lib.hid (HM.out.call hb5); have e2 : w5.cell? ⟨w.heap.size + 1 + 1, 0, none⟩ = some (.int .i64 (k + 1)) := M5.out.k.at_ 0)
    | (refine wpList_load_row (o := ⟨some 22, _, _, _, _, _⟩) ?_ 84 (.tmp 4) ?_ w.heap.size ?_ 84 c.cells.toArray (0, 0) _ M5.out.c Try.underlying84 rfl HSZ.out ?_; rfl; rfl; rfl)
    | (go_at_call 95; refine (HQ.out _ M5.out.b).mono ?_; rintro e w6 ⟨gn, gf, gp, gc, gw, rfl, hsa, hb6, hgn⟩))
  have hm6 := M5.out.call hb6
  have hgs : gn < w6.heap.size ∧ gf < w6.heap.size ∧ gp < w6.heap.size ∧ gc < w6.heap.size ∧ gw < w6.heap.size := ⟨hsa.n.in_, hsa.f.in_, hsa.p.in_, hsa.c.in_, hsa.w.in_⟩
  have hz6 : w.heap.size + 4 ≤ w6.heap.size := hm6.z
  have hI : CfI c t p k gn gf gp gc gw w 0 w6 := ⟨hm6, hsa, fun i q hi => by omega⟩
  have HI := Lib.hid hI
  have HGS := Lib.hid hgs
  obtain ⟨a, M, hnf⟩ := HNF.out
  have HTOP := Lib.hid (fun q (hq : q ∈ c.r.d.srcD p (k + 1)) => Nat.lt_of_lt_of_le (src_lt hnf hq) (show c.r.d.dug.length ≤ 10 by have h1 := HOK.out.dug; have h2 := HOK.out.n1; omega))
  have hgv := sources1_gives 4 (by omega) c p (k + 1) gn gf gp gc gw a M w6 HOK.out hnf hp10 (fun V => SrcAt c p (k + 1) gn gf gp gc gw V ∧ c.r.At V V.heap.size) (fun V h => h)
  clear hm6 hgs hI hsa hb6 hgn hnf e1 e2 HRG HM HS HQ hb5 M5 HNF
  refine range_givesB (n := 5) (gf := 105) rfl (enters_of Try.func105 (by kernel_rfl) rfl) hgv (Below.refl _ _) (fun _ _ => rfl) (fun _ _ _ _ h _ => h)
    (CfI c t p k gn gf gp gc gw w) (fun cd _ V => CfX c t p k w cd V) ?hI ?hIs ?hIx HI.out ?hSt
    (fun x a' V => a' = { tmps := #[.agg c.cells.toArray, .agg (vals t), .int .i64 p, .int .i64 (k + 1), .pointer (some ⟨w.heap.size, 0, none⟩), .pointer (some ⟨w.heap.size + 1, 0, none⟩), undef, .pointer (some ⟨w.heap.size + 1 + 1, 0, none⟩), .pointer (some ⟨w.heap.size + 1 + 1 + 1, 0, none⟩), .int .i64 (x : Int), .int .i64 (k + 1), .bool false, undef, undef, undef, undef, .pointer (some ⟨w.heap.size, 0, none⟩), .agg c.r.cells.toArray, .int .i64 p, .int .i64 (k + 1), .bool true, .bool false, .agg c.cells.toArray, .int .i64 p, .int .i64 (k + 1), .func (.func 105) #[] #[.pointer (some ⟨gn, 0, none⟩), .pointer (some ⟨gf, 0, none⟩), .pointer (some ⟨gp, 0, none⟩), .pointer (some ⟨gc, 0, none⟩), .pointer (some ⟨gw, 0, none⟩)], .int .i64 (x : Int), undef, undef, undef, undef, undef, undef, undef, undef, undef, undef, undef, undef, undef], defers := [] }) ?hAx ?assign ?body ?done ?stop
  case hI =>
    intro j V V' h ht
    exact ⟨⟨ht.lies h.m.c, ht.lies h.m.t, ht.lies h.m.k, ht.lies h.m.r, ht.below h.m.b (by omega) h.m.b.size, Nat.le_trans h.m.z ht.size⟩, ⟨ht.lies h.s.n, ht.lies h.s.f, ht.lies h.s.p, ht.lies h.s.c, ht.lies h.s.w⟩, h.no⟩
  case hIs =>
    intro j V V' h ht
    obtain ⟨g1, g2, g3, g4, g5⟩ := HGS.out
    exact ⟨⟨ht.lies h.m.c (by omega), ht.lies h.m.t (by omega), ht.lies h.m.k (by omega), ht.lies h.m.r (by omega), ht.below h.m.b (by omega) h.m.b.size, Nat.le_trans h.m.z ht.size⟩, ⟨ht.lies h.s.n (by omega), ht.lies h.s.f (by omega), ht.lies h.s.p (by omega), ht.lies h.s.c (by omega), ht.lies h.s.w (by omega)⟩, h.no⟩
  case hIx =>
    intro cd j V V' h ht
    exact ⟨h.e, ht.lies h.r, ht.below h.b (by omega) h.b.size, h.yes⟩
  case hSt =>
    intro j V h
    exact ⟨h.s, HRR.out.below h.m.b h.m.b.size⟩
  case hAx =>
    rintro x a' V V' rfl ht
    rfl
  case stop =>
    intro D cd j V hD hk' hi hd
    obtain rfl := hi.e
    refine wpIn_ret ?_
    have hO : ∀ g t cs, Lies V g t cs → Lies (V.putObj D (.deferred none)) g t cs := fun g t cs h => Recs.lies (Recs.put (D := D) _ (Nat.le_refl _) hd rfl) h
    refine leave_mark hd ⟨_, results_cell_one (v := .bool true) (a := ⟨w.heap.size + 1 + 1 + 1, 0, none⟩) rfl _ _ _ rfl ((hO _ _ _ hi.r).at_ 0) Try.underlying4 rfl, ?_, Recs.below (Recs.put (D := D) _ (Nat.le_refl _) hd rfl) hi.b (by omega) hi.b.size⟩
    rw [hi.yes]; rfl
  case assign =>
    intro l' j x V K hx hi _ hK
    have HIN := Lib.hid hi
    clear hgv hx hi
    simp only [encQ]
    gi_wp2_with (fail)
    exact hK _ _ (KeepsFrom.of_below (Below.refl _ _)) HIN.out trivial rfl
  case body =>
    rintro l' j x a' V hl' hx hi _ rfl
    have hx10 := HTOP.out x (List.mem_of_getElem? hx)
    have hxz : (x : Int) < 10 := by omega
    have hx0 : (0 : Int) ≤ (x : Int) := by omega
    obtain ⟨t0, t1⟩ := HTR.out.b x
    have htx : t[x]? = some (t.getD x 0) := by have := HTR.out.len; simp [List.getD, show x < t.length by omega]
    have c5 : V.cell? ⟨w.heap.size + 1, x, none⟩ = some (.int .i64 (t.getD x 0)) := by rw [hi.m.t.at_]; exact vals_at htx
    have c2 : V.cell? ⟨w.heap.size, 2, none⟩ = some (.int .i64 c.r.lag) := by rw [hi.m.c.at_]; exact co_lag c
    have c7 : V.cell? ⟨w.heap.size + 1 + 1, 0, none⟩ = some (.int .i64 (k + 1)) := hi.m.k.at_ 0
    have r5 := cell_regrown c5
    have r2 := cell_regrown c2
    have r7 := cell_regrown c7
    have HIN := Lib.hid hi
    have HX := Lib.hid hx
    have hHT := Lib.hid htx
    clear hi hx hgv c5 c2 c7 htx
    have HNO := Lib.hid HIN.out.no
    generalize htv : t.getD x 0 = tx at *
    have hkk : (k : Int) + 1 ≤ 1000000 + k := by omega
    cases hd : decide (tx + c.r.lag ≤ (k : Int) + 1) with
    | false =>
      have HD := Lib.hid hd
      have HTV := Lib.hid htv
      clear htv
      gi_wp2_with (fail)
      refine wpIn_region_quietB (by kernel_rfl) (by kernel_rfl) (by kernel_rfl) (by kernel_rfl) ?_
      repeat (first | go_big_quiet_step (fail) | quiet_step (fail))
      refine wpQuiet_nil ?_
      intro wq hwq
      have hbq : Below V.heap.size V wq := (by obtain ⟨q, rfl⟩ := hwq; exact below_regrown _ _ _)
      clear hwq r5 r2 r7
      gi_wp2_with (fail)
      refine ⟨KeepsFrom.of_below hbq, ⟨HIN.out.m.call hbq, HIN.out.s.below hbq, fun i q hi hq => ?_⟩, trivial⟩
      by_cases e : i = j
      · subst e
        rw [HX.out] at hq; cases hq
        rw [HTV.out]; exact HD.out
      · exact HNO.out i q (by omega) hq
    | true =>
      have HD := Lib.hid hd
      have HTV := Lib.hid htv
      clear htv
      gi_wp2_with (fail)
      refine wpIn_region_quietB (by kernel_rfl) (by kernel_rfl) (by kernel_rfl) (by kernel_rfl) ?_
      repeat (first | go_big_quiet_step (fail) | quiet_step (fail))
      refine wpQuiet_nil ?_
      intro wq hwq
      have hbq : Below V.heap.size V wq := (by obtain ⟨q, rfl⟩ := hwq; exact below_regrown _ _ _)
      clear hwq r5 r2 r7
      have hmq := HIN.out.m.call hbq
      have c8 : wq.cell? ⟨w.heap.size + 1 + 1 + 1, 0, none⟩ = some (.bool false) := hmq.r.at_ 0
      have f8 : wq.frozen? ⟨w.heap.size + 1 + 1 + 1, 0, none⟩ = false := hmq.r.free 0
      have HMQ := Lib.hid hmq
      clear hmq
      gi_wp2_with (fail)
      have hO : Only (w.heap.size + 1 + 1 + 1) wq (wq.setCell ⟨w.heap.size + 1 + 1 + 1, 0, none⟩ (.bool true)) := Only.set _ _ _ _
      refine ⟨KeepsFrom.trans (KeepsFrom.of_below hbq) (KeepsFrom.of_only hO HMQ.out.r), rfl, HMQ.out.r.set 0 _, HMQ.out.b.setCell (by simp; omega) _, ?_⟩
      show (c.r.d.srcD p (k + 1)).any _ = true
      rw [List.any_eq_true]
      exact ⟨x, List.mem_of_getElem? HX.out, by rw [HTV.out]; exact HD.out⟩
  case done =>
    intro D V hD hi hd
    have hno := any_no (f := fun q => decide (t.getD q 0 + c.r.lag ≤ (k : Int) + 1)) (fun i x hil hx => hi.no i x hil hx)
    have HNO := Lib.hid (show c.r.d.srcAny t p (k + 1) = false from hno)
    have HIN := Lib.hid hi
    have c7 : V.cell? ⟨w.heap.size + 1 + 1, 0, none⟩ = some (.int .i64 (k + 1)) := hi.m.k.at_ 0
    have HDD := Lib.hid hd
    have hDlt := (Array.getElem?_eq_some_iff.1 hd).1
    clear hi hno hgv hd
    go_wp2_with (first
      | (refine wpList_load_row (o := ⟨some 36, _, _, _, _, _⟩) ?_ 84 (.tmp 4) ?_ w.heap.size ?_ 84 c.cells.toArray (0, 0) _ HIN.out.m.c Try.underlying84 rfl HSZ.out ?_; rfl; rfl; rfl)
      | (go_at_call 96; refine (HRE.out _ HIN.out.m.b).mono ?_; rintro e w8 ⟨rfl, hb8⟩; have M8 := Lib.hid (HIN.out.m.call hb8); have c8 : w8.cell? ⟨w.heap.size + 1 + 1 + 1, 0, none⟩ = some (.bool false) := M8.out.r.at_ 0; have f8 : w8.frozen? ⟨w.heap.size + 1 + 1 + 1, 0, none⟩ = false := M8.out.r.free 0; have D8 := Lib.hid ((hb8.block D hDlt).trans HDD.out)))
    generalize hrb : c.r.d.reachB p (k + 1) = rb at *
    have hd9 : (w8.setCell ⟨w.heap.size + 1 + 1 + 1, 0, none⟩ (.bool rb)).heap[D]? = some (.deferred (some [])) := (heap_setCell_other _ _ _ _ (by simp; omega)).trans D8.out
    have hO : ∀ g t cs, Lies (w8.setCell ⟨w.heap.size + 1 + 1 + 1, 0, none⟩ (.bool rb)) g t cs → Lies ((w8.setCell ⟨w.heap.size + 1 + 1 + 1, 0, none⟩ (.bool rb)).putObj D (.deferred none)) g t cs := fun g t cs h => Recs.lies (Recs.put (D := D) _ (Nat.le_refl _) hd9 rfl) h
    have hb9 : Below w.heap.size w (w8.setCell ⟨w.heap.size + 1 + 1 + 1, 0, none⟩ (.bool rb)) := M8.out.b.setCell (by simp; omega) _
    refine leave_mark hd9 ⟨_, results_cell_one (v := .bool rb) (a := ⟨w.heap.size + 1 + 1 + 1, 0, none⟩) rfl _ _ _ rfl ((hO _ _ _ (M8.out.r.set 0 _)).at_ 0) Try.underlying4 rfl, ?_, Recs.below (Recs.put (D := D) _ (Nat.le_refl _) hd9 rfl) hb9 (by omega) hb9.size⟩
    rw [HNO.out]; rfl
theorem canFall_any (c : CoM) (t : List Int) (p k : Nat) (w : World) (hws : c.ws.length = 10) (hr : c.r.At w w.heap.size) (hok : c.r.d.Ok) (ht : TrOk t) (hp : (p : Int) < c.r.n) (hk : k ≤ c.r.ws.l.length) :
    Calls Try.prog 77 #[.agg c.cells.toArray, .agg (vals t), .int .i64 p, .int .i64 k] w fun e w' => e = .returned (.bool (c.r.d.fallB t p k)) ∧ Below w.heap.size w w' := by
  cases k with
  | zero => exact canFall_zero c t p w
  | succ k =>
    have e : ((k + 1 : Nat) : Int) = (k : Int) + 1 := by omega
    rw [e]
    unfold RwD.fallB
    rw [if_neg (show ¬ (k : Int) + 1 = 0 by omega)]
    cases hs : stB (c.r.d.dg p) (k + 1) with
    | false => exact canFall_gone c t p k w hr hok hp (by omega) hs
    | true => exact canFall_stands c t p k w hws hr hok ht hp (by omega) hs
end Go.Proofs.Ytkjhofbjjogmlaa

/- isPossible. -/
namespace Go.Proofs.Ytkjhofbjjogmlaa
open Go.RowKit Go.Lib

def winD (ws : List (Int × Int)) (p : Nat) (week : Int) : Bool := inB week (winAt ws p).1 (winAt ws p).2
def RwD.possAt (r : RwD) (ws : List (Int × Int)) (t : List Int) (p : Nat) : Bool := winD ws p (t.getD p 0) && (decide (t.getD p 0 = 31) || r.fallB t p (t.getD p 0))
/-- Is the truth possible, for the windows? -/
def RwD.possB (r : RwD) (ws : List (Int × Int)) (t : List Int) : Bool := (List.range r.dug.length).all (r.possAt ws t)
theorem all_range {n : Nat} {f : Nat → Bool} : (List.range n).all f = true ↔ ∀ j, j < n → f j = true := by
  rw [List.all_eq_true]
  exact ⟨fun h j hj => h j (List.mem_range.2 hj), fun h j hj => h j (List.mem_range.1 hj)⟩
theorem all_range_no {n j : Nat} {f : Nat → Bool} (hj : j < n) (h : f j = false) : (List.range n).all f = false := by
  rw [Bool.eq_false_iff]
  intro h2
  rw [all_range.1 h2 j hj] at h; cases h
theorem win_at {ws : List (Int × Int)} {p : Nat} (h : p < ws.length) : ws[p]? = some (winAt ws p) := by unfold winAt; simp [List.getD, h]
/-- The memory of isPossible. -/
structure IpM (c : CoM) (t : List Int) (w W : World) : Prop where
  c : Lies W w.heap.size 84 c.cells.toArray
  t : Lies W (w.heap.size + 1) 86 (vals t)
  b : Below w.heap.size w W
theorem IpM.call {c : CoM} {t : List Int} {w W W' : World} (h : IpM c t w W) (hb : Below W.heap.size W W') : IpM c t w W' := ⟨h.c.call hb, h.t.call hb, h.b.trans (hb.mono h.b.size)⟩
theorem co_n (c : CoM) : c.cells.toArray[0]? = some (.int .i64 c.r.n) := by obtain ⟨r, ws⟩ := c; rfl
theorem co_win (c : CoM) {p : Nat} {x : Int × Int} (h : c.ws[p]? = some x) : c.cells.toArray[8 + p * 2]? = some (.int .i64 x.1) ∧ c.cells.toArray[8 + p * 2 + 1]? = some (.int .i64 x.2) := by
  obtain ⟨r, ws⟩ := c
  exact ⟨by simpa using cells_win r h 0 _ rfl, by simpa using cells_win r h 1 _ rfl⟩
set_option maxRecDepth 100000 in
set_option maxHeartbeats 8000000 in
theorem isPossible_any (c : CoM) (t : List Int) (w : World) (hws : c.ws.length = 10) (hr : c.r.At w w.heap.size) (hok : c.r.d.Ok) (ht : TrOk t) (htw : ∀ p, p < c.r.dug.l.length → t.getD p 0 = 31 ∨ t.getD p 0 ≤ c.r.ws.l.length) :
    Calls Try.prog 51 #[.agg c.cells.toArray, .agg (vals t)] w fun e w' => e = .returned (.bool (c.r.d.possB c.ws t)) ∧ Below w.heap.size w w' := by
  obtain ⟨N, hN⟩ : ∃ N, N = c.r.dug.l.length := ⟨_, rfl⟩
  have hn : c.r.n = (N : Int) := by rw [hN]; exact hok.dug.symm
  have hN10 : N ≤ 10 := by have := hok.n1; have h2 : c.r.d.n = c.r.n := rfl; omega
  have hpos : c.r.d.possB c.ws t = (List.range N).all (c.r.d.possAt c.ws t) := by rw [hN]; rfl
  rw [hpos]
  have hM : IpM c t w ((w.alloc (.cells c.cells.toArray 84)).alloc (.cells (vals t) 86)) := ⟨(Lies.fresh _ _ _).alloc _, Lies.fresh' (by simp), (by repeat (first | (with_reducible assumption) | (with_reducible exact Below.refl _ _) | (with_reducible refine Below.drew ?_) | (with_reducible refine below_drewN ?_ _) | ((with_reducible refine Below.setCell ?_ ?_ _); rotate_left; focus (first | (simp; done) | (simp; omega) | omega)) | ((with_reducible refine Below.alloc ?_ ?_ _); rotate_left; focus (first | (simp; done) | (simp; omega) | omega))))⟩
  have hF := fun (p k : Nat) W (hb : Below w.heap.size w W) (hp : (p : Int) < c.r.n) (hk : k ≤ c.r.ws.l.length) => canFall_any c t p k W hws (hr.below hb hb.size) hok ht hp hk
  have hsz : (Try.prog.info? 84).map (·.size) = some c.cells.toArray.size := by rw [List.size_toArray, c.len hws]; exact size_co
  have hst : (Try.prog.info? 86).map (·.size) = some (vals t).size := by rw [vals_size, ht.len]; exact size_tr
  have HM := Lib.hid hM
  have HF := Lib.hid hF
  have HSZ := Lib.hid hsz
  have HST := Lib.hid hst
  have HTW := Lib.hid htw
  have HTR := Lib.hid ht
  have HWS := Lib.hid hws
  have HNN := Lib.hid hn
  have HN := Lib.hid hN
  have hNz : (N : Int) ≤ 10 := by omega
  have hN0 : (0 : Int) ≤ (N : Int) := by omega
  clear hM hF hsz hst htw ht hws hr hok hpos hn hN
  go_enter Try.func51, Try.ntmps51
  go_upto_region 1 with (fail)
  change Code.wp _ _ _ _ ((w.alloc (.cells c.cells.toArray 84)).alloc (.cells (vals t) 86))
  generalize (w.alloc (.cells c.cells.toArray 84)).alloc (.cells (vals t) 86) = w1 at *
  have e0 : w1.cell? ⟨w.heap.size, 0, none⟩ = some (.int .i64 N) := by rw [← HNN.out, HM.out.c.at_]; exact co_n c
  go_wp2
  refine wp_scope_straight ?_
  go_wp2
  refine wp_label ?_
  go_wp2
  clear e0
  go_loopw [5, 6, 7, 8, 15, 23] (fun s5 _ _ _ s15 _ wr => ∃ k : Nat, k ≤ N ∧ s15 = .int .i64 k ∧ s5 = .bool true ∧ Aside (IpM c t w wr) ∧ Aside (∀ j, j < k → c.r.d.possAt c.ws t j = true)) (fun _ _ _ _ i _ _ => N - (intOf i).toNat)
  case atStart => exact ⟨0, by omega, rfl, rfl, HM.out, fun j hj => by omega⟩
  case round =>
    obtain ⟨k, hk, rfl, rfl, HI, HU⟩ := hrel
    by_cases hlt : k < N
    · have hltz : (k : Int) < (N : Int) := by omega
      have hk0 : (0 : Int) ≤ (k : Int) := by omega
      have hk10 : (k : Int) < 10 := by omega
      have hx := co_win c (win_at (ws := c.ws) (p := k) (by rw [HWS.out]; omega))
      have c1 : wr.cell? ⟨w.heap.size, 8 + k * 2, none⟩ = some (.int .i64 (winAt c.ws k).1) := by rw [HI.out.c.at_]; exact hx.1
      have c2 : wr.cell? ⟨w.heap.size, 8 + k * 2 + 1, none⟩ = some (.int .i64 (winAt c.ws k).2) := by rw [HI.out.c.at_]; exact hx.2
      have c3 : wr.cell? ⟨w.heap.size + 1, k, none⟩ = some (.int .i64 (t.getD k 0)) := by rw [HI.out.t.at_]; exact vals_at (by have := HTR.out.len; simp [List.getD, show k < t.length by omega])
      have hzt : w.heap.size + 1 < wr.heap.size := HI.out.t.in_
      have hzc : w.heap.size < wr.heap.size := HI.out.c.in_
      obtain ⟨t0, t1⟩ := HTR.out.b k
      have htw := HTW.out k (by rw [← HN.out]; exact hlt)
      have hH := fun W => has_any (winAt c.ws k).1 (winAt c.ws k).2 (t.getD k 0) W
      have hp : c.r.d.possAt c.ws t k = (winD c.ws k (t.getD k 0) && (decide (t.getD k 0 = 31) || c.r.d.fallB t k (t.getD k 0))) := rfl
      have hwd : winD c.ws k (t.getD k 0) = inB (t.getD k 0) (winAt c.ws k).1 (winAt c.ws k).2 := rfl
      rw [hwd] at hp
      generalize inB (t.getD k 0) (winAt c.ws k).1 (winAt c.ws k).2 = y0 at *
      have HH := Lib.hid hH
      have HA := Lib.hid (HI.out.call ((Below.refl _ _).alloc (Nat.le_refl wr.heap.size) (.cells #[.int .i64 (winAt c.ws k).1, .int .i64 (winAt c.ws k).2] 81)))
      have HPD := Lib.hid hp
      clear hx hH hp hwd
      cases y0 with
      | false =>
        generalize t.getD k 0 = tk at *
        clear htw
        go_wp2_with (go_at_call 76; refine (HH.out _).mono ?_; rintro e w5 ⟨rfl, hb5⟩; have M5 := Lib.hid (HA.out.call hb5))
        dsimp only [Exit.noGoto]
        go_ret
        exact ⟨ret_bool (all_range_no hlt (by rw [HPD.out]; rfl)).symm, M5.out.b⟩
      | true =>
        by_cases h31 : t.getD k 0 = 31
        · have h31' : (t.getD k 0 != 31) = false := by simpa using h31
          have HPT := Lib.hid (show c.r.d.possAt c.ws t k = true by rw [HPD.out, h31]; rfl)
          clear htw h31 HPD
          generalize t.getD k 0 = tk at *
          go_wp2_with (go_at_call 76; refine (HH.out _).mono ?_; rintro e w5 ⟨rfl, hb5⟩; have M5 := Lib.hid (HA.out.call hb5))
          go_roundw
          case rel =>
            refine ⟨k + 1, by omega, by go_num, rfl, M5.out, (show Aside _ from fun j hj => ?_)⟩
            by_cases e : j = k
            · subst e; exact HPT.out
            · exact HU.out j (by omega)
          case measure => simp [intOf]; omega
        · have h31' : (t.getD k 0 != 31) = true := by simpa using h31
          obtain ⟨kk, hkk⟩ : ∃ kk : Nat, t.getD k 0 = (kk : Int) := ⟨(t.getD k 0).toNat, by omega⟩
          have hFK := fun W hb => HF.out k kk W hb (by rw [HNN.out]; exact hltz) (by omega)
          have HP2 := Lib.hid (show c.r.d.possAt c.ws t k = c.r.d.fallB t k kk by rw [HPD.out, hkk]; simp [show ¬ (kk : Int) = 31 by omega])
          clear htw h31 HPD
          generalize c.r.d.fallB t k kk = y2 at *
          have HFK := Lib.hid hFK
          clear hFK
          rw [hkk] at c3 HH h31' t0 t1
          clear hkk
          cases y2 with
          | false =>
            go_wp2_with (first
            | (go_at_call 76; refine (HH.out _).mono ?_; rintro e w5 ⟨rfl, hb5⟩; have M5 := Lib.hid (HA.out.call hb5))
            | (refine wpList_load_rowG (o := ⟨some 31, _, _, _, _, _⟩) ?_ 84 (.tmp 2) ?_ w.heap.size ?_ 84 c.cells.toArray (0, 0) _ M5.out.c Try.underlying84 rfl HSZ.out ?_; kernel_rfl; rfl; rfl)
            | (refine wpList_load_rowG (o := ⟨some 32, _, _, _, _, _⟩) ?_ 86 (.tmp 3) ?_ (w.heap.size + 1) ?_ 86 (vals t) (0, 0) _ M5.out.t Try.underlying86 rfl HST.out ?_; kernel_rfl; rfl; rfl)
            | (go_at_call 77; refine (HFK.out _ M5.out.b).mono ?_; rintro e w6 ⟨rfl, hb6⟩; have M6 := Lib.hid (M5.out.call hb6)))
            dsimp only [Exit.noGoto]
            go_ret
            exact ⟨ret_bool (all_range_no hlt HP2.out).symm, M6.out.b⟩
          | true =>
            go_wp2_with (first
            | (go_at_call 76; refine (HH.out _).mono ?_; rintro e w5 ⟨rfl, hb5⟩; have M5 := Lib.hid (HA.out.call hb5))
            | (refine wpList_load_rowG (o := ⟨some 31, _, _, _, _, _⟩) ?_ 84 (.tmp 2) ?_ w.heap.size ?_ 84 c.cells.toArray (0, 0) _ M5.out.c Try.underlying84 rfl HSZ.out ?_; kernel_rfl; rfl; rfl)
            | (refine wpList_load_rowG (o := ⟨some 32, _, _, _, _, _⟩) ?_ 86 (.tmp 3) ?_ (w.heap.size + 1) ?_ 86 (vals t) (0, 0) _ M5.out.t Try.underlying86 rfl HST.out ?_; kernel_rfl; rfl; rfl)
            | (go_at_call 77; refine (HFK.out _ M5.out.b).mono ?_; rintro e w6 ⟨rfl, hb6⟩; have M6 := Lib.hid (M5.out.call hb6)))
            go_roundw
            case rel =>
              refine ⟨k + 1, by omega, by go_num, rfl, M6.out, (show Aside _ from fun j hj => ?_)⟩
              by_cases e : j = k
              · subst e; exact HP2.out
              · exact HU.out j (by omega)
            case measure => simp [intOf]; omega
    · obtain rfl : k = N := by omega
      go_wp2
      dsimp only [Exit.noGoto]
      go_ret
      exact ⟨ret_bool (all_range.2 HU.out).symm, HI.out.b⟩
end Go.Proofs.Ytkjhofbjjogmlaa

/- Results of two and three, that lie in cells. earliestTruth. -/
namespace Go.Proofs.Ytkjhofbjjogmlaa
open Go.RowKit Go.Lib

section
variable {P : Program}
theorem results_row_tmp {fn : Func} {p q : Tmp} {ty : TypeId} (h : fn.results = #[.cell p ty, .tmp q]) (tmps : Array Value) (w : World) (g : Nat) (t : TypeId) (cs : Array Value) (d : TypeDesc) (v : Value)
    (hp : tmps.getD p undef = .pointer (some ⟨g, 0, none⟩)) (hg : Lies w g t cs) (hq : tmps.getD q undef = v)
    (hu : P.underlying ty = some d) (hd : (match d with | .struct _ | .array _ _ => true | _ => false) = true) (hi : (P.info? ty).map (·.size) = some cs.size) :
    (results fn tmps).run P w = .ok (.tuple #[.agg cs, v]) w := by
  have hp' : tmps[p]?.getD undef = .pointer (some ⟨g, 0, none⟩) := by simpa using hp
  have hq' : tmps[q]?.getD undef = v := by simpa using hq
  simp [results, h, hp', hq', asAddr, run_loadVar_row w g t ty cs (0, 0) d hg hu hd hi]
theorem results_row_row_tmp {fn : Func} {p p2 q : Tmp} {ty ty2 : TypeId} (h : fn.results = #[.cell p ty, .cell p2 ty2, .tmp q]) (tmps : Array Value) (w : World) (g g2 : Nat) (t t2 : TypeId) (cs cs2 : Array Value) (d d2 : TypeDesc) (v : Value)
    (hp : tmps.getD p undef = .pointer (some ⟨g, 0, none⟩)) (hg : Lies w g t cs) (hp2 : tmps.getD p2 undef = .pointer (some ⟨g2, 0, none⟩)) (hg2 : Lies w g2 t2 cs2) (hq : tmps.getD q undef = v)
    (hu : P.underlying ty = some d) (hd : (match d with | .struct _ | .array _ _ => true | _ => false) = true) (hi : (P.info? ty).map (·.size) = some cs.size)
    (hu2 : P.underlying ty2 = some d2) (hd2 : (match d2 with | .struct _ | .array _ _ => true | _ => false) = true) (hi2 : (P.info? ty2).map (·.size) = some cs2.size) :
    (results fn tmps).run P w = .ok (.tuple #[.agg cs, .agg cs2, v]) w := by
  have hp' : tmps[p]?.getD undef = .pointer (some ⟨g, 0, none⟩) := by simpa using hp
  have hp2' : tmps[p2]?.getD undef = .pointer (some ⟨g2, 0, none⟩) := by simpa using hp2
  have hq' : tmps[q]?.getD undef = v := by simpa using hq
  simp [results, h, hp', hp2', hq', asAddr, run_loadVar_row w g t ty cs (0, 0) d hg hu hd hi, run_loadVar_row w g2 t2 ty2 cs2 (0, 0) d2 hg2 hu2 hd2 hi2]
end
/-- One plant in a week. -/
def RwD.stepE (r : RwD) (ws : List (Int × Int)) (week : Nat) (t : List Int) (p : Nat) : List Int := if decide (t.getD p 0 = 31) && winD ws p week && r.fallB t p week then t.set p week else t
def RwD.weekE (r : RwD) (ws : List (Int × Int)) (t : List Int) (week : Nat) : List Int := (List.range r.dug.length).foldl (r.stepE ws week) t
def RwD.weeksE (r : RwD) (ws : List (Int × Int)) (k : Nat) : List Int := (List.range k).foldl (r.weekE ws) (List.replicate 10 31)
/-- The earliest truth. -/
def RwD.earlyD (r : RwD) (ws : List (Int × Int)) : List Int := r.weeksE ws (r.ws.length + 1)
/-- A truth whose weeks are in some bound, or never. -/
structure TrW (W : Nat) (t : List Int) : Prop where
  len : t.length = 10
  b : ∀ i, t.getD i 0 = 31 ∨ (0 ≤ t.getD i 0 ∧ t.getD i 0 ≤ W)
theorem TrW.ok {W : Nat} {t : List Int} (h : TrW W t) (hW : W ≤ 30) : TrOk t := ⟨h.len, fun i => by have := h.b i; omega⟩
theorem getD_set (t : List Int) (p i : Nat) (x : Int) : (t.set p x).getD i 0 = if i = p ∧ p < t.length then x else t.getD i 0 := by
  simp only [List.getD, List.getElem?_set]
  by_cases e : p = i
  · subst e
    by_cases h : p < t.length
    · simp [h]
    · simp [h]
  · rw [if_neg e, if_neg (fun h => e h.1.symm)]
theorem TrW.step {W : Nat} {t : List Int} (h : TrW W t) (r : RwD) (ws : List (Int × Int)) (week p : Nat) (hw : week ≤ W) : TrW W (r.stepE ws week t p) := by
  unfold RwD.stepE
  split
  · refine ⟨by simpa using h.len, fun i => ?_⟩
    rw [getD_set]
    split
    · exact .inr ⟨by omega, by omega⟩
    · exact h.b i
  · exact h
theorem TrW.fold {W : Nat} (r : RwD) (ws : List (Int × Int)) (week : Nat) (hw : week ≤ W) : ∀ (l : List Nat) (t : List Int), TrW W t → TrW W (l.foldl (r.stepE ws week) t)
  | [], _, h => h
  | p :: l, _, h => TrW.fold r ws week hw l _ (h.step r ws week p hw)
theorem TrW.weeks {W : Nat} (r : RwD) (ws : List (Int × Int)) : ∀ (l : List Nat) (t : List Int), (∀ k, k ∈ l → k ≤ W) → TrW W t → TrW W (l.foldl (r.weekE ws) t)
  | [], _, _, h => h
  | k :: l, _, hl, h => TrW.weeks r ws l _ (fun j hj => hl j (by simp [hj])) (TrW.fold r ws k (hl k (by simp)) _ _ h)
theorem TrW.start (W : Nat) : TrW W (List.replicate 10 31) := by
  refine ⟨rfl, fun i => ?_⟩
  by_cases h : i < 10
  · left; rw [List.getD, List.getElem?_replicate, if_pos h]; rfl
  · right; rw [List.getD, List.getElem?_replicate, if_neg h]; exact ⟨Int.le_refl _, Int.natCast_nonneg _⟩
theorem weeksE_ok (r : RwD) (ws : List (Int × Int)) {W k : Nat} (h : k ≤ W + 1) : TrW W (r.weeksE ws k) := TrW.weeks r ws _ _ (fun j hj => by have := List.mem_range.1 hj; omega) (TrW.start W)
def RwD.partE (r : RwD) (ws : List (Int × Int)) (k p : Nat) : List Int := (List.range p).foldl (r.stepE ws k) (r.weeksE ws k)
theorem partE_ok (r : RwD) (ws : List (Int × Int)) {W k : Nat} (h : k ≤ W) (p : Nat) : TrW W (r.partE ws k p) := TrW.fold r ws k h _ _ (weeksE_ok r ws (by omega))
theorem partE_succ (r : RwD) (ws : List (Int × Int)) (k p : Nat) : r.partE ws k (p + 1) = r.stepE ws k (r.partE ws k p) p := by
  unfold RwD.partE; rw [List.range_succ, List.foldl_append]; rfl
theorem weeksE_succ (r : RwD) (ws : List (Int × Int)) (k : Nat) : r.weeksE ws (k + 1) = r.partE ws k r.dug.length := by
  unfold RwD.weeksE RwD.partE; rw [List.range_succ, List.foldl_append]; rfl
set_option maxRecDepth 100000 in
set_option maxHeartbeats 8000000 in
theorem earliestTruth_any (c : CoM) (w : World) (hws : c.ws.length = 10) (hr : c.r.At w w.heap.size) (hok : c.r.d.Ok) :
    Calls Try.prog 72 #[.agg c.cells.toArray] w fun e w' => e = .returned (.tuple #[.agg (vals (c.r.d.earlyD c.ws)), .bool (c.r.d.possB c.ws (c.r.d.earlyD c.ws))]) ∧ Below w.heap.size w w' := by
  obtain ⟨N, hN⟩ : ∃ N, N = c.r.dug.l.length := ⟨_, rfl⟩
  have hn : c.r.n = (N : Int) := by rw [hN]; exact hok.dug.symm
  have hN10 : N ≤ 10 := by have := hok.n1; have h2 : c.r.d.n = c.r.n := rfl; omega
  have hNd : c.r.d.dug.length = N := hN.symm
  obtain ⟨Y, hY⟩ : ∃ Y, Y = c.r.ws.l.length := ⟨_, rfl⟩
  have hY30 : Y ≤ 30 := by rw [hY]; exact hok.nw
  have hYd : c.r.d.ws.length = Y := hY.symm
  have hearly : c.r.d.earlyD c.ws = c.r.d.weeksE c.ws (Y + 1) := by show c.r.d.weeksE c.ws (c.r.d.ws.length + 1) = _; rw [hYd]
  rw [hearly]
  clear hearly
  have hL0 : Lies ((w.alloc (.cells c.cells.toArray 84)).alloc (.cells (vals (List.replicate 10 0)) 86)) w.heap.size 84 c.cells.toArray := (Lies.fresh _ _ _).alloc _
  have hL1 : Lies ((w.alloc (.cells c.cells.toArray 84)).alloc (.cells (vals (List.replicate 10 0)) 86)) (w.heap.size + 1) 86 (vals (List.replicate 10 0)) := Lies.fresh' (by simp)
  have hB0 : Below w.heap.size w ((w.alloc (.cells c.cells.toArray 84)).alloc (.cells (vals (List.replicate 10 0)) 86)) := (by repeat (first | (with_reducible assumption) | (with_reducible exact Below.refl _ _) | (with_reducible refine Below.drew ?_) | (with_reducible refine below_drewN ?_ _) | ((with_reducible refine Below.setCell ?_ ?_ _); rotate_left; focus (first | (simp; done) | (simp; omega) | omega)) | ((with_reducible refine Below.alloc ?_ ?_ _); rotate_left; focus (first | (simp; done) | (simp; omega) | omega))))
  have hF := fun (t : List Int) (p k : Nat) W (hb : Below w.heap.size w W) (ht : TrOk t) (hp : p < N) (hk : k ≤ Y) => canFall_any c t p k W hws (hr.below hb hb.size) hok ht (by rw [hn]; omega) (by omega)
  have hP := fun (t : List Int) W (hb : Below w.heap.size w W) (ht : TrW Y t) => isPossible_any c t W hws (hr.below hb hb.size) hok (ht.ok hY30) (fun p hp => by rw [← hY]; have := ht.b p; omega)
  have hsz : (Try.prog.info? 84).map (·.size) = some c.cells.toArray.size := by rw [List.size_toArray, c.len hws]; exact size_co
  have HF := Lib.hid hF
  have HP := Lib.hid hP
  have HSZ := Lib.hid hsz
  have HWS := Lib.hid hws
  have HNN := Lib.hid hn
  have HN := Lib.hid hNd
  have HYY := Lib.hid hYd
  have HYM := Lib.hid hY
  have L0 := Lib.hid hL0
  have L1 := Lib.hid hL1
  have B0 := Lib.hid hB0
  have hNz : (N : Int) ≤ 10 := by omega
  have hN0 : (0 : Int) ≤ (N : Int) := by omega
  have hYz : (Y : Int) ≤ 30 := by omega
  have hY0 : (0 : Int) ≤ (Y : Int) := by omega
  have hfit0 : 0 + (List.replicate 10 (31 : Int)).length ≤ (List.replicate 10 (0 : Int)).length := by simp
  have HFIT0 := Lib.hid hfit0
  clear hF hP hsz hws hr hok hn hN hNd hY hYd hL0 hL1 hB0 hfit0
  go_enter Try.func72, Try.ntmps72
  go_upto_region 1 with (fail)
  change Code.wp _ _ _ _ ((w.alloc (.cells c.cells.toArray 84)).alloc (.cells (vals (List.replicate 10 0)) 86))
  generalize (w.alloc (.cells c.cells.toArray 84)).alloc (.cells (vals (List.replicate 10 0)) 86) = w1 at *
  go_upto_region 2 with (first
    | (go_at_call 78; refine (nothingIll_any _).mono ?_; rintro e w2 ⟨rfl, hb2⟩)
    | (refine wpList_store_ints (o := ⟨none, .store 86 (.tmp 2) _, _, _, _, _⟩) ?_ 86 (.tmp 2) (.tmp 7) ?_ (w.heap.size + 1) 0 ?_ 86 (List.replicate 10 0) (List.replicate 10 31) ?_ (L1.out.call hb2) HFIT0.out size_tr ?_; rfl; rfl; rfl; rfl; intro w3 HS3 HO3; (try simp only [Act.put])))
  have hs3 := HS3.out
  rw [splice_all (by simp)] at hs3
  have hM : IpM c (c.r.d.weeksE c.ws 0) w w3 := ⟨HO3.out.lies (L0.out.call hb2) (by omega), hs3, HO3.out.below (B0.out.trans (hb2.mono B0.out.size)) (by omega)⟩
  have HM := Lib.hid hM
  clear hM hs3 HS3 HO3 hb2 L0 L1 B0
  have e1 : w3.cell? ⟨w.heap.size, 1, none⟩ = some (.slice c.r.ws.A Y c.r.ws.c) := by rw [HYM.out, HM.out.c.at_]; obtain ⟨r, ws⟩ := c; rfl
  go_wp2
  clear e1
  go_loopw [4, 5, 6, 13] (fun _ _ _ s13 wr => ∃ k : Nat, k ≤ Y + 1 ∧ s13 = .int .i64 k ∧ Aside (IpM c (c.r.d.weeksE c.ws k) w wr)) (fun _ _ _ i _ => Y + 1 - (intOf i).toNat)
  case atStart => exact ⟨0, by omega, rfl, HM.out⟩
  case round =>
    obtain ⟨k, hk, rfl, HI⟩ := hrel
    by_cases hlt : k < Y + 1
    · have hltz : (k : Int) < (Y : Int) + 1 := by omega
      have hk0 : (0 : Int) ≤ (k : Int) := by omega
      have e0 : wr.cell? ⟨w.heap.size, 0, none⟩ = some (.int .i64 N) := by rw [← HNN.out, HI.out.c.at_]; exact co_n c
      have hI0 : IpM c (c.r.d.partE c.ws k 0) w wr := HI.out
      have HI0 := Lib.hid hI0
      clear hI0 HM
      go_wp2
      clear e0
      go_loopw [5, 6, 22] (fun _ _ s22 wr => ∃ p : Nat, p ≤ N ∧ s22 = .int .i64 p ∧ Aside (IpM c (c.r.d.partE c.ws k p) w wr)) (fun _ _ i _ => N - (intOf i).toNat)
      case atStart => exact ⟨0, by omega, rfl, HI0.out⟩
      case round =>
        obtain ⟨p, hp, rfl, HJ⟩ := hrel
        by_cases hlp : p < N
        · have hltp : (p : Int) < (N : Int) := by omega
          have hp0 : (0 : Int) ≤ (p : Int) := by omega
          have hp10 : (p : Int) < 10 := by omega
          have htr := partE_ok c.r.d c.ws (W := Y) (k := k) (by omega) p
          have hstep := partE_succ c.r.d c.ws k p
          have hoks := htr.ok hY30
          have hst : (Try.prog.info? 86).map (·.size) = some (vals (c.r.d.partE c.ws k p)).size := by rw [vals_size, htr.len]; exact size_tr
          have hx := co_win c (win_at (ws := c.ws) (p := p) (by rw [HWS.out]; omega))
          have hlen := htr.len
          have hv : (c.r.d.partE c.ws k p)[p]? = some ((c.r.d.partE c.ws k p).getD p 0) := by simp [List.getD, show p < (c.r.d.partE c.ws k p).length by omega]
          have hFK := fun W hb => HF.out (c.r.d.partE c.ws k p) p k W hb hoks hlp (by omega)
          clear HI HI0
          generalize c.r.d.partE c.ws k p = tt at *
          have c1 : wr.cell? ⟨w.heap.size, 8 + p * 2, none⟩ = some (.int .i64 (winAt c.ws p).1) := by rw [HJ.out.c.at_]; exact hx.1
          have c2 : wr.cell? ⟨w.heap.size, 8 + p * 2 + 1, none⟩ = some (.int .i64 (winAt c.ws p).2) := by rw [HJ.out.c.at_]; exact hx.2
          have c3 : wr.cell? ⟨w.heap.size + 1, p, none⟩ = some (.int .i64 (tt.getD p 0)) := by rw [HJ.out.t.at_]; exact vals_at hv
          have hzt : w.heap.size + 1 < wr.heap.size := HJ.out.t.in_
          have hzc : w.heap.size < wr.heap.size := HJ.out.c.in_
          have hH := fun W => has_any (winAt c.ws p).1 (winAt c.ws p).2 k W
          have HA := Lib.hid (HJ.out.call ((Below.refl _ _).alloc (Nat.le_refl wr.heap.size) (.cells #[.int .i64 (winAt c.ws p).1, .int .i64 (winAt c.ws p).2] 81)))
          have hse : c.r.d.stepE c.ws k tt p = if decide (tt.getD p 0 = 31) && inB k (winAt c.ws p).1 (winAt c.ws p).2 && c.r.d.fallB tt p k then tt.set p k else tt := rfl
          generalize inB (k : Int) (winAt c.ws p).1 (winAt c.ws p).2 = y1 at *
          generalize c.r.d.fallB tt p k = y2 at *
          have HH := Lib.hid hH
          have HFK := Lib.hid hFK
          have HST := Lib.hid hst
          have HSE := Lib.hid hse
          have HSP := Lib.hid hstep
          clear hx hH hFK hst hse hstep htr hoks hlen
          by_cases h31 : tt.getD p 0 = 31
          · have h31' : (tt.getD p 0 == 31) = true := by simpa using h31
            have HC8 := Lib.hid (fun W (hl : Lies W (w.heap.size + 1) 86 (vals tt)) => show W.cell? ⟨w.heap.size + 1, p, none⟩ = some (.int .i64 (tt.getD p 0)) by rw [hl.at_]; exact vals_at hv)
            have HE31 := Lib.hid h31
            clear h31
            clear hv
            generalize hgv : tt.getD p 0 = tk at *
            have HGV := Lib.hid hgv
            clear hgv
            cases y1 with
            | false =>
              go_wp2_with (go_at_call 76; refine (HH.out _).mono ?_; rintro e w5 ⟨rfl, hb5⟩; have M5 := Lib.hid (HA.out.call hb5))
              go_roundw
              case rel =>
                refine ⟨p + 1, by omega, by go_num, ?_⟩
                show IpM _ _ _ _
                rw [HSP.out, HSE.out, if_neg (by simp)]; exact M5.out
              case measure => simp [intOf]; omega
            | true =>
              cases y2 with
              | false =>
                go_wp2_with (first | (go_at_call 76; refine (HH.out _).mono ?_; rintro e w5 ⟨rfl, hb5⟩; have M5 := Lib.hid (HA.out.call hb5)) | (refine wpList_load_rowG (o := ⟨some 37, _, _, _, _, _⟩) ?_ 84 (.tmp 1) ?_ w.heap.size ?_ 84 c.cells.toArray (0, 0) _ M5.out.c Try.underlying84 rfl HSZ.out ?_; kernel_rfl; rfl; rfl) | (refine wpList_load_rowG (o := ⟨some 38, _, _, _, _, _⟩) ?_ 86 (.tmp 2) ?_ (w.heap.size + 1) ?_ 86 (vals tt) (0, 0) _ M5.out.t Try.underlying86 rfl HST.out ?_; kernel_rfl; rfl; rfl) | (go_at_call 77; refine (HFK.out _ M5.out.b).mono ?_; rintro e w6 ⟨rfl, hb6⟩; have M6 := Lib.hid (M5.out.call hb6)))
                go_roundw
                case rel =>
                  refine ⟨p + 1, by omega, by go_num, ?_⟩
                  show IpM _ _ _ _
                  rw [HSP.out, HSE.out, if_neg (by simp)]; exact M6.out
                case measure => simp [intOf]; omega
              | true =>
                go_wp2_with (first | (go_at_call 76; refine (HH.out _).mono ?_; rintro e w5 ⟨rfl, hb5⟩; have M5 := Lib.hid (HA.out.call hb5)) | (refine wpList_load_rowG (o := ⟨some 37, _, _, _, _, _⟩) ?_ 84 (.tmp 1) ?_ w.heap.size ?_ 84 c.cells.toArray (0, 0) _ M5.out.c Try.underlying84 rfl HSZ.out ?_; kernel_rfl; rfl; rfl) | (refine wpList_load_rowG (o := ⟨some 38, _, _, _, _, _⟩) ?_ 86 (.tmp 2) ?_ (w.heap.size + 1) ?_ 86 (vals tt) (0, 0) _ M5.out.t Try.underlying86 rfl HST.out ?_; kernel_rfl; rfl; rfl) | (go_at_call 77; refine (HFK.out _ M5.out.b).mono ?_; rintro e w6 ⟨rfl, hb6⟩; have M6 := Lib.hid (M5.out.call hb6); have c8 : w6.cell? ⟨w.heap.size + 1, p, none⟩ = some (.int .i64 tk) := HC8.out w6 M6.out.t; have f8 : w6.frozen? ⟨w.heap.size + 1, p, none⟩ = false := M6.out.t.free p))
                go_roundw
                case rel =>
                  refine ⟨p + 1, by omega, by go_num, ?_⟩
                  show IpM _ _ _ _
                  rw [HSP.out, HSE.out, if_pos (by simp [HE31.out])]
                  refine ⟨M6.out.c.other (show w.heap.size ≠ w.heap.size + 1 by omega) _, ?_, M6.out.b.setCell (by simp) _⟩
                  have := M6.out.t.set p (.int .i64 k)
                  rwa [vals_set] at this
                case measure => simp [intOf]; omega
          · have h31' : (tt.getD p 0 == 31) = false := by simpa using h31
            have HE31 := Lib.hid h31
            clear h31
            clear hv
            generalize hgv : tt.getD p 0 = tk at *
            have HGV := Lib.hid hgv
            clear hgv
            go_wp2
            go_roundw
            case rel =>
              refine ⟨p + 1, by omega, by go_num, ?_⟩
              show IpM _ _ _ _
              rw [HSP.out, HSE.out, if_neg (by simp [HE31.out])]; exact HA.out
            case measure => simp [intOf]; omega
        · obtain rfl : p = N := by omega
          go_wp2
          go_roundw
          case rel =>
            refine ⟨k + 1, by omega, by go_num, ?_⟩
            show IpM _ _ _ _
            rw [weeksE_succ, HN.out]; exact HJ.out
          case measure => simp [intOf]; omega
    · obtain rfl : k = Y + 1 := by omega
      have htr := weeksE_ok c.r.d c.ws (W := Y) (k := Y + 1) (Nat.le_refl _)
      clear HM
      have hst : (Try.prog.info? 86).map (·.size) = some (c.r.d.weeksE c.ws (Y + 1)).length := by rw [htr.len]; exact size_tr
      have hst2 : (Try.prog.info? 86).map (·.size) = some (vals (c.r.d.weeksE c.ws (Y + 1))).size := by rw [vals_size]; exact hst
      have hst3 : (Try.prog.info? 86).map (·.size) = some ((c.r.d.weeksE c.ws (Y + 1)).map (Value.int .i64)).length := by rw [List.length_map]; exact hst
      have hsz3 : (Try.prog.info? 84).map (·.size) = some c.cells.length := by have := HSZ.out; simpa using this
      have HST := Lib.hid hst
      have HST2 := Lib.hid hst2
      have HST3 := Lib.hid hst3
      have HSZ3 := Lib.hid hsz3
      have HTR := Lib.hid htr
      clear hst hst2 hst3 hsz3 htr
      go_upto_region 12 with (fail)
      generalize htt : c.r.d.weeksE c.ws (Y + 1) = tt at HI HST HST2 HST3 HTR
      have HTT := Lib.hid htt
      clear htt
      have hr1 : ∀ W, (∃ cc : Cls (fun W => IpM c tt w W), W = cc.val) → W.rangeAt (w.heap.size + 1) 0 (tt.map (Value.int .i64)) := by
        rintro W ⟨cc, rfl⟩; exact Lies.range (cs := tt.map (Value.int .i64)) cc.h.t (fun j v hj => by simpa using hj)
      have hr2 : ∀ W, (∃ cc : Cls (fun W => IpM c tt w W), W = cc.val) → W.rangeAt w.heap.size 0 c.cells := by
        rintro W ⟨cc, rfl⟩; exact Lies.range (cs := c.cells) cc.h.c (fun j v hj => by simpa using hj)
      have HR1 := Lib.hid hr1
      have HR2 := Lib.hid hr2
      clear hr1 hr2
      haveI hne : Nonempty (Cls (fun W => IpM c tt w W)) := ⟨⟨wr, HI.out⟩⟩
      refine wp_region_wayw [0, 1, 2] (.way 3 (.way 4 (.take 5 .fin) .fin) .fin) (fun W => ∃ cc : Cls (fun W => IpM c tt w W), W = cc.val) (by kernel_rfl) (by kernel_rfl) (Cls.here (HI.out.call (Below.refl _ _).drew)) ?_
      simp only [List.filterMap_cons, List.filterMap_nil, List.getElem?_toArray, List.getElem?_cons_zero, List.getElem?_cons_succ]
      repeat (first
        | (refine wpQuiet_load_wholeG (o := ⟨some 48, _, _, _, _, _⟩) ?_ 86 (.tmp 2) ?_ (w.heap.size + 1) 0 ?_ (tt.map (Value.int .i64)) _ HR1.out Try.underlying86 rfl HST3.out ?_; rfl; rfl; rfl; simp only [Act.put, List.setIfInBounds_toArray, List.set_cons_zero, List.set_cons_succ])
        | (refine wpQuiet_load_wholeG (o := ⟨some 50, _, _, _, _, _⟩) ?_ 86 (.tmp 2) ?_ (w.heap.size + 1) 0 ?_ (tt.map (Value.int .i64)) _ HR1.out Try.underlying86 rfl HST3.out ?_; rfl; rfl; rfl; simp only [Act.put, List.setIfInBounds_toArray, List.set_cons_zero, List.set_cons_succ])
        | (refine wpQuiet_load_wholeG (o := ⟨some 49, _, _, _, _, _⟩) ?_ 84 (.tmp 1) ?_ w.heap.size 0 ?_ c.cells _ HR2.out Try.underlying84 rfl HSZ3.out ?_; rfl; rfl; rfl; simp only [Act.put, List.setIfInBounds_toArray, List.set_cons_zero, List.set_cons_succ])
        | go_big_quiet_step (rfl) | quiet_step (rfl))
      refine wpQuiet_nil ?_
      clear HR1 HR2
      have M0 := Lib.hid (HI.out.call (Below.refl wr.heap.size wr).drew)
      generalize wr.drew = d0 at *
      rw [wpWy_way]
      refine ⟨?_, by exact trivial⟩
      simp only [List.getElem?_toArray, List.getElem?_cons_succ, List.getElem?_cons_zero]
      have HPC := Lib.hid (HP.out tt d0 M0.out.b HTR.out)
      change wpList _ _ _ _ _ _
      go_wp2_with (go_at_call 51; refine HPC.out.mono ?_; rintro e d1 ⟨rfl, hb1⟩)
      have M1 := Lib.hid (M0.out.call hb1)
      refine Ends.intro ⟨Cls.here M1.out, ?_⟩
      rw [wpWy_way]
      refine ⟨?_, by exact trivial⟩
      simp only [List.getElem?_toArray, List.getElem?_cons_succ, List.getElem?_cons_zero]
      refine wpList_store_ints (o := ⟨none, .store 86 (.tmp 2) _, _, _, _, _⟩) ?_ 86 (.tmp 2) (.tmp 48) ?_ (w.heap.size + 1) 0 ?_ 86 tt tt ?_ M1.out.t (by simp) HST.out ?_
      rfl; rfl; rfl; rfl
      intro w9 HS9 HO9
      refine wpList_nil ?_
      have hs9 := HS9.out
      rw [splice_all (by rfl)] at hs9
      have M9 := Lib.hid (show IpM c tt w w9 from ⟨HO9.out.lies M1.out.c (by omega), hs9, HO9.out.below M1.out.b (by omega)⟩)
      clear hs9 HS9 HO9
      refine Ends.intro ⟨Cls.here M9.out, ?_⟩
      rw [wpWy_take]
      simp only [List.getElem?_toArray, List.getElem?_cons_succ, List.getElem?_cons_zero]
      first | go_big_quiet_step (rfl) | quiet_step (rfl)
      refine wpQuiet_nil ?_
      rw [wpWy_fin]
      go_wp2_with (fail)
      exact bodyPost_ret (results_row_tmp rfl _ _ (w.heap.size + 1) 86 (vals tt) _ (.bool (c.r.d.possB c.ws tt)) rfl M9.out.t rfl Try.underlying86 rfl HST2.out) rfl ⟨by rw [HTT.out], M9.out.b⟩
end Go.Proofs.Ytkjhofbjjogmlaa

/- isValid, CheckRow, the questions about onsets and samples, rises. -/
namespace Go.Proofs.Ytkjhofbjjogmlaa
open Go.RowKit Go.Lib

def RwD.validB (r : RwD) : Bool := inB r.n 1 10 && (r.ws.all fun x => inB x.f 0 10) && inB r.lag 1 30 && inB r.sh 0 30 && inB r.old 0 30 && decide ((r.dug.length : Int) = r.n) && (r.dug.all fun n => inB n 0 r.ws.length) && r.ns.all r.haveB
def RwD.fault (r : RwD) : Int := if 30 < r.ws.length ∨ 40 < r.ns.length then 3 else if r.validB then 0 else 1
set_option maxRecDepth 100000 in
set_option maxHeartbeats 20000000 in
theorem isValid_any (r : RwM) (w : World) (hr : r.At w w.heap.size) :
    Calls Try.prog 46 #[.agg r.cells.toArray] w fun e w' => e = .returned (.bool r.d.validB) ∧ Below w.heap.size w w' := by
  have l0 : Lies (w.alloc (.cells r.cells.toArray 34)) w.heap.size 34 r.cells.toArray := Lies.fresh _ _ _
  have b0 : Below w.heap.size w (w.alloc (.cells r.cells.toArray 34)) := (by repeat (first | (with_reducible assumption) | (with_reducible exact Below.refl _ _) | (with_reducible refine Below.drew ?_) | (with_reducible refine below_drewN ?_ _) | ((with_reducible refine Below.setCell ?_ ?_ _); rotate_left; focus (first | (simp; done) | (simp; omega) | omega)) | ((with_reducible refine Below.alloc ?_ ?_ _); rotate_left; focus (first | (simp; done) | (simp; omega) | omega))))
  have q0 : ∀ W, Calls Try.prog 65 #[.int .i64 r.n, .int .i64 1, .int .i64 10] W fun e w' => e = .returned (.bool (inB r.n 1 10)) ∧ W = w' := fun W => within_any _ _ _ W
  have q1 : ∀ W, Below w.heap.size w W → Calls Try.prog 66 #[.slice r.ws.A r.ws.l.length r.ws.c, .func (.func 67) #[] #[]] W fun e w' => e = .returned (.bool (r.ws.l.all fun x => inB x.f 0 10)) ∧ Below W.heap.size W w' := fun W hb =>
    everyWk_any _ _ _ _ r.ws.A r.ws.c r.ws.l W ((hr.ws.below hb).more hb.size) (ask_wk W _) hr.lw
  have q2 : ∀ W, Calls Try.prog 65 #[.int .i64 r.lag, .int .i64 1, .int .i64 30] W fun e w' => e = .returned (.bool (inB r.lag 1 30)) ∧ W = w' := fun W => within_any _ _ _ W
  have q3 : ∀ W, Calls Try.prog 65 #[.int .i64 r.sh, .int .i64 0, .int .i64 30] W fun e w' => e = .returned (.bool (inB r.sh 0 30)) ∧ W = w' := fun W => within_any _ _ _ W
  have q4 : ∀ W, Calls Try.prog 65 #[.int .i64 r.old, .int .i64 0, .int .i64 30] W fun e w' => e = .returned (.bool (inB r.old 0 30)) ∧ W = w' := fun W => within_any _ _ _ W
  have q6 : ∀ W, Below w.heap.size w W → Calls Try.prog 68 #[.slice r.dug.A r.dug.l.length r.dug.c, .func (.func 69) #[.agg r.cells.toArray] #[]] W fun e w' => e = .returned (.bool (r.dug.l.all fun n => inB n 0 r.ws.l.length)) ∧ Below W.heap.size W w' := fun W hb =>
    everyInt_any _ _ _ _ r.dug.A r.dug.c r.dug.l W ((hr.dug.below hb).more hb.size) (ask_dug r hr.lw W _) hr.ld
  have q7 : ((r.dug.l.length : Int) == r.n) = true → ∀ W, Below w.heap.size w W → Calls Try.prog 70 #[.slice r.ns.A r.ns.l.length r.ns.c, .func (.func 71) #[.agg r.cells.toArray] #[]] W fun e w' => e = .returned (.bool (r.ns.l.all r.d.haveB)) ∧ Below W.heap.size W w' := fun h5 W hb =>
    everyNt_any _ _ _ _ r.ns.A r.ns.c r.ns.l W ((hr.ns.below hb).more hb.size) ⟨enters_of Try.func71 (by kernel_rfl) rfl, fun W' x hx hb' => canHave_any r x W' (hr.below (hb.trans (hb'.mono hb.size)) (Nat.le_trans hb.size hb'.size)) (by simpa using (by simpa using h5 : (r.dug.l.length : Int) = r.n).symm) (hr.kn x hx).1 (hr.kn x hx).2⟩ hr.ln
  have hq : r.d.validB = (inB r.n 1 10 && (r.ws.l.all fun x => inB x.f 0 10) && inB r.lag 1 30 && inB r.sh 0 30 && inB r.old 0 30 && ((r.dug.l.length : Int) == r.n) && (r.dug.l.all fun n => inB n 0 r.ws.l.length) && r.ns.l.all r.d.haveB) := by
    have e : ((r.dug.l.length : Int) == r.n) = decide ((r.dug.l.length : Int) = r.n) := by by_cases h : (r.dug.l.length : Int) = r.n <;> simp [h]
    rw [e]; rfl
  generalize inB r.n 1 10 = y0 at *
  generalize (r.ws.l.all fun x => inB x.f 0 10) = y1 at *
  generalize inB r.lag 1 30 = y2 at *
  generalize inB r.sh 0 30 = y3 at *
  generalize inB r.old 0 30 = y4 at *
  generalize (r.dug.l.all fun n => inB n 0 r.ws.l.length) = y6 at *
  generalize r.ns.l.all r.d.haveB = y7 at *
  generalize r.d.validB = rr at *
  generalize hy5 : ((r.dug.l.length : Int) == r.n) = y5 at *
  have HR := Lib.hid hq
  have L0 := Lib.hid l0
  have B0 := Lib.hid b0
  have Q0 := Lib.hid q0
  have Q1 := Lib.hid q1
  have Q2 := Lib.hid q2
  have Q3 := Lib.hid q3
  have Q4 := Lib.hid q4
  have Q6 := Lib.hid q6
  have Q7 := Lib.hid q7
  clear l0 b0 q0 q1 q2 q3 q4 q6 q7 hq hr
  cases y0 with
  | false =>
    go_enter Try.func46, Try.ntmps46
    go_upto_region 1 with (fail)
    change Code.wp _ _ _ _ (w.alloc (.cells r.cells.toArray 34))
    generalize w.alloc (.cells r.cells.toArray 34) = w0 at *
    have a0 : w0.cell? ⟨w.heap.size, 0, none⟩ = some (.int .i64 r.n) := L0.out.at_ 0
    have a1 : w0.cell? ⟨w.heap.size, 1, none⟩ = some (.slice r.ws.A r.ws.l.length r.ws.c) := L0.out.at_ 1
    go_wp2_with (go_at_call_of 65 (Value.int .i64 r.n); refine (Q0.out _).mono ?_; rintro e w' ⟨rfl, rfl⟩)
    go_ret
    exact ⟨ret_bool (by rw [HR.out]; simp), B0.out⟩
  | true =>
  cases y1 with
  | false =>
    go_enter Try.func46, Try.ntmps46
    go_upto_region 1 with (fail)
    change Code.wp _ _ _ _ (w.alloc (.cells r.cells.toArray 34))
    generalize w.alloc (.cells r.cells.toArray 34) = w0 at *
    have a0 : w0.cell? ⟨w.heap.size, 0, none⟩ = some (.int .i64 r.n) := L0.out.at_ 0
    have a1 : w0.cell? ⟨w.heap.size, 1, none⟩ = some (.slice r.ws.A r.ws.l.length r.ws.c) := L0.out.at_ 1
    go_wp2_with (go_at_call_of 65 (Value.int .i64 r.n); refine (Q0.out _).mono ?_; rintro e w' ⟨rfl, rfl⟩)
    go_wp2_with (go_at_call 66; refine (Q1.out _ B0.out).mono ?_; rintro e w1 ⟨rfl, hb1⟩; have B1 := Lib.hid (B0.out.trans (hb1.mono B0.out.size)); have L1 := Lib.hid (L0.out.call hb1); have c0 : w1.cell? ⟨w.heap.size, 0, none⟩ = some (.int .i64 r.n) := L1.out.at_ 0; have c2 : w1.cell? ⟨w.heap.size, 2, none⟩ = some (.int .i64 r.lag) := L1.out.at_ 2; have c3 : w1.cell? ⟨w.heap.size, 3, none⟩ = some (.int .i64 r.sh) := L1.out.at_ 3; have c4 : w1.cell? ⟨w.heap.size, 4, none⟩ = some (.int .i64 r.old) := L1.out.at_ 4; have c6 : w1.cell? ⟨w.heap.size, 6, none⟩ = some (.slice r.dug.A r.dug.l.length r.dug.c) := L1.out.at_ 6; clear hb1 a0 a1)
    go_ret
    exact ⟨ret_bool (by rw [HR.out]; simp), B1.out⟩
  | true =>
  cases y2 with
  | false =>
    go_enter Try.func46, Try.ntmps46
    go_upto_region 1 with (fail)
    change Code.wp _ _ _ _ (w.alloc (.cells r.cells.toArray 34))
    generalize w.alloc (.cells r.cells.toArray 34) = w0 at *
    have a0 : w0.cell? ⟨w.heap.size, 0, none⟩ = some (.int .i64 r.n) := L0.out.at_ 0
    have a1 : w0.cell? ⟨w.heap.size, 1, none⟩ = some (.slice r.ws.A r.ws.l.length r.ws.c) := L0.out.at_ 1
    go_wp2_with (go_at_call_of 65 (Value.int .i64 r.n); refine (Q0.out _).mono ?_; rintro e w' ⟨rfl, rfl⟩)
    go_wp2_with (go_at_call 66; refine (Q1.out _ B0.out).mono ?_; rintro e w1 ⟨rfl, hb1⟩; have B1 := Lib.hid (B0.out.trans (hb1.mono B0.out.size)); have L1 := Lib.hid (L0.out.call hb1); have c0 : w1.cell? ⟨w.heap.size, 0, none⟩ = some (.int .i64 r.n) := L1.out.at_ 0; have c2 : w1.cell? ⟨w.heap.size, 2, none⟩ = some (.int .i64 r.lag) := L1.out.at_ 2; have c3 : w1.cell? ⟨w.heap.size, 3, none⟩ = some (.int .i64 r.sh) := L1.out.at_ 3; have c4 : w1.cell? ⟨w.heap.size, 4, none⟩ = some (.int .i64 r.old) := L1.out.at_ 4; have c6 : w1.cell? ⟨w.heap.size, 6, none⟩ = some (.slice r.dug.A r.dug.l.length r.dug.c) := L1.out.at_ 6; clear hb1 a0 a1)
    go_wp2_with (go_at_call_of 65 (Value.int .i64 r.lag); refine (Q2.out _).mono ?_; rintro e w' ⟨rfl, rfl⟩)
    go_ret
    exact ⟨ret_bool (by rw [HR.out]; simp), B1.out⟩
  | true =>
  cases y3 with
  | false =>
    go_enter Try.func46, Try.ntmps46
    go_upto_region 1 with (fail)
    change Code.wp _ _ _ _ (w.alloc (.cells r.cells.toArray 34))
    generalize w.alloc (.cells r.cells.toArray 34) = w0 at *
    have a0 : w0.cell? ⟨w.heap.size, 0, none⟩ = some (.int .i64 r.n) := L0.out.at_ 0
    have a1 : w0.cell? ⟨w.heap.size, 1, none⟩ = some (.slice r.ws.A r.ws.l.length r.ws.c) := L0.out.at_ 1
    go_wp2_with (go_at_call_of 65 (Value.int .i64 r.n); refine (Q0.out _).mono ?_; rintro e w' ⟨rfl, rfl⟩)
    go_wp2_with (go_at_call 66; refine (Q1.out _ B0.out).mono ?_; rintro e w1 ⟨rfl, hb1⟩; have B1 := Lib.hid (B0.out.trans (hb1.mono B0.out.size)); have L1 := Lib.hid (L0.out.call hb1); have c0 : w1.cell? ⟨w.heap.size, 0, none⟩ = some (.int .i64 r.n) := L1.out.at_ 0; have c2 : w1.cell? ⟨w.heap.size, 2, none⟩ = some (.int .i64 r.lag) := L1.out.at_ 2; have c3 : w1.cell? ⟨w.heap.size, 3, none⟩ = some (.int .i64 r.sh) := L1.out.at_ 3; have c4 : w1.cell? ⟨w.heap.size, 4, none⟩ = some (.int .i64 r.old) := L1.out.at_ 4; have c6 : w1.cell? ⟨w.heap.size, 6, none⟩ = some (.slice r.dug.A r.dug.l.length r.dug.c) := L1.out.at_ 6; clear hb1 a0 a1)
    go_wp2_with (go_at_call_of 65 (Value.int .i64 r.lag); refine (Q2.out _).mono ?_; rintro e w' ⟨rfl, rfl⟩)
    go_wp2_with (go_at_call_of 65 (Value.int .i64 r.sh); refine (Q3.out _).mono ?_; rintro e w' ⟨rfl, rfl⟩)
    go_ret
    exact ⟨ret_bool (by rw [HR.out]; simp), B1.out⟩
  | true =>
  cases y4 with
  | false =>
    go_enter Try.func46, Try.ntmps46
    go_upto_region 1 with (fail)
    change Code.wp _ _ _ _ (w.alloc (.cells r.cells.toArray 34))
    generalize w.alloc (.cells r.cells.toArray 34) = w0 at *
    have a0 : w0.cell? ⟨w.heap.size, 0, none⟩ = some (.int .i64 r.n) := L0.out.at_ 0
    have a1 : w0.cell? ⟨w.heap.size, 1, none⟩ = some (.slice r.ws.A r.ws.l.length r.ws.c) := L0.out.at_ 1
    go_wp2_with (go_at_call_of 65 (Value.int .i64 r.n); refine (Q0.out _).mono ?_; rintro e w' ⟨rfl, rfl⟩)
    go_wp2_with (go_at_call 66; refine (Q1.out _ B0.out).mono ?_; rintro e w1 ⟨rfl, hb1⟩; have B1 := Lib.hid (B0.out.trans (hb1.mono B0.out.size)); have L1 := Lib.hid (L0.out.call hb1); have c0 : w1.cell? ⟨w.heap.size, 0, none⟩ = some (.int .i64 r.n) := L1.out.at_ 0; have c2 : w1.cell? ⟨w.heap.size, 2, none⟩ = some (.int .i64 r.lag) := L1.out.at_ 2; have c3 : w1.cell? ⟨w.heap.size, 3, none⟩ = some (.int .i64 r.sh) := L1.out.at_ 3; have c4 : w1.cell? ⟨w.heap.size, 4, none⟩ = some (.int .i64 r.old) := L1.out.at_ 4; have c6 : w1.cell? ⟨w.heap.size, 6, none⟩ = some (.slice r.dug.A r.dug.l.length r.dug.c) := L1.out.at_ 6; clear hb1 a0 a1)
    go_wp2_with (go_at_call_of 65 (Value.int .i64 r.lag); refine (Q2.out _).mono ?_; rintro e w' ⟨rfl, rfl⟩)
    go_wp2_with (go_at_call_of 65 (Value.int .i64 r.sh); refine (Q3.out _).mono ?_; rintro e w' ⟨rfl, rfl⟩)
    go_wp2_with (first | (go_at_call_of 65 (Value.int .i64 r.old); refine (Q4.out _).mono ?_; rintro e w' ⟨rfl, rfl⟩))
    go_ret
    exact ⟨ret_bool (by rw [HR.out]; simp), B1.out⟩
  | true =>
  cases y5 with
  | false =>
    go_enter Try.func46, Try.ntmps46
    go_upto_region 1 with (fail)
    change Code.wp _ _ _ _ (w.alloc (.cells r.cells.toArray 34))
    generalize w.alloc (.cells r.cells.toArray 34) = w0 at *
    have a0 : w0.cell? ⟨w.heap.size, 0, none⟩ = some (.int .i64 r.n) := L0.out.at_ 0
    have a1 : w0.cell? ⟨w.heap.size, 1, none⟩ = some (.slice r.ws.A r.ws.l.length r.ws.c) := L0.out.at_ 1
    go_wp2_with (go_at_call_of 65 (Value.int .i64 r.n); refine (Q0.out _).mono ?_; rintro e w' ⟨rfl, rfl⟩)
    go_wp2_with (go_at_call 66; refine (Q1.out _ B0.out).mono ?_; rintro e w1 ⟨rfl, hb1⟩; have B1 := Lib.hid (B0.out.trans (hb1.mono B0.out.size)); have L1 := Lib.hid (L0.out.call hb1); have c0 : w1.cell? ⟨w.heap.size, 0, none⟩ = some (.int .i64 r.n) := L1.out.at_ 0; have c2 : w1.cell? ⟨w.heap.size, 2, none⟩ = some (.int .i64 r.lag) := L1.out.at_ 2; have c3 : w1.cell? ⟨w.heap.size, 3, none⟩ = some (.int .i64 r.sh) := L1.out.at_ 3; have c4 : w1.cell? ⟨w.heap.size, 4, none⟩ = some (.int .i64 r.old) := L1.out.at_ 4; have c6 : w1.cell? ⟨w.heap.size, 6, none⟩ = some (.slice r.dug.A r.dug.l.length r.dug.c) := L1.out.at_ 6; clear hb1 a0 a1)
    go_wp2_with (go_at_call_of 65 (Value.int .i64 r.lag); refine (Q2.out _).mono ?_; rintro e w' ⟨rfl, rfl⟩)
    go_wp2_with (go_at_call_of 65 (Value.int .i64 r.sh); refine (Q3.out _).mono ?_; rintro e w' ⟨rfl, rfl⟩)
    go_wp2_with (first | (go_at_call_of 65 (Value.int .i64 r.old); refine (Q4.out _).mono ?_; rintro e w' ⟨rfl, rfl⟩))
    go_ret
    exact ⟨ret_bool (by rw [HR.out]; simp), B1.out⟩
  | true =>
  cases y6 with
  | false =>
    go_enter Try.func46, Try.ntmps46
    go_upto_region 1 with (fail)
    change Code.wp _ _ _ _ (w.alloc (.cells r.cells.toArray 34))
    generalize w.alloc (.cells r.cells.toArray 34) = w0 at *
    have a0 : w0.cell? ⟨w.heap.size, 0, none⟩ = some (.int .i64 r.n) := L0.out.at_ 0
    have a1 : w0.cell? ⟨w.heap.size, 1, none⟩ = some (.slice r.ws.A r.ws.l.length r.ws.c) := L0.out.at_ 1
    go_wp2_with (go_at_call_of 65 (Value.int .i64 r.n); refine (Q0.out _).mono ?_; rintro e w' ⟨rfl, rfl⟩)
    go_wp2_with (go_at_call 66; refine (Q1.out _ B0.out).mono ?_; rintro e w1 ⟨rfl, hb1⟩; have B1 := Lib.hid (B0.out.trans (hb1.mono B0.out.size)); have L1 := Lib.hid (L0.out.call hb1); have c0 : w1.cell? ⟨w.heap.size, 0, none⟩ = some (.int .i64 r.n) := L1.out.at_ 0; have c2 : w1.cell? ⟨w.heap.size, 2, none⟩ = some (.int .i64 r.lag) := L1.out.at_ 2; have c3 : w1.cell? ⟨w.heap.size, 3, none⟩ = some (.int .i64 r.sh) := L1.out.at_ 3; have c4 : w1.cell? ⟨w.heap.size, 4, none⟩ = some (.int .i64 r.old) := L1.out.at_ 4; have c6 : w1.cell? ⟨w.heap.size, 6, none⟩ = some (.slice r.dug.A r.dug.l.length r.dug.c) := L1.out.at_ 6; clear hb1 a0 a1)
    go_wp2_with (go_at_call_of 65 (Value.int .i64 r.lag); refine (Q2.out _).mono ?_; rintro e w' ⟨rfl, rfl⟩)
    go_wp2_with (go_at_call_of 65 (Value.int .i64 r.sh); refine (Q3.out _).mono ?_; rintro e w' ⟨rfl, rfl⟩)
    go_wp2_with (first | (go_at_call_of 65 (Value.int .i64 r.old); refine (Q4.out _).mono ?_; rintro e w' ⟨rfl, rfl⟩) | (first | (refine wpList_load_rowG (o := ⟨some 37, _, _, _, _, _⟩) ?_ 34 (.tmp 1) ?_ w.heap.size ?_ 34 r.cells.toArray (0, 0) _ L1.out Try.underlying34 rfl size_row ?_; kernel_rfl; rfl; rfl) | (go_at_call 68; refine (Q6.out _ B1.out).mono ?_; rintro e w2 ⟨rfl, hb2⟩; have B2 := Lib.hid (B1.out.trans (hb2.mono B1.out.size)); have L2 := Lib.hid (L1.out.call hb2); have c7 : w2.cell? ⟨w.heap.size, 7, none⟩ = some (.slice r.ns.A r.ns.l.length r.ns.c) := L2.out.at_ 7; clear hb2 c0 c2 c3 c4 c6)))
    go_ret
    exact ⟨ret_bool (by rw [HR.out]; simp), B2.out⟩
  | true =>
  cases y7 with
  | false =>
    go_enter Try.func46, Try.ntmps46
    go_upto_region 1 with (fail)
    change Code.wp _ _ _ _ (w.alloc (.cells r.cells.toArray 34))
    generalize w.alloc (.cells r.cells.toArray 34) = w0 at *
    have a0 : w0.cell? ⟨w.heap.size, 0, none⟩ = some (.int .i64 r.n) := L0.out.at_ 0
    have a1 : w0.cell? ⟨w.heap.size, 1, none⟩ = some (.slice r.ws.A r.ws.l.length r.ws.c) := L0.out.at_ 1
    go_wp2_with (go_at_call_of 65 (Value.int .i64 r.n); refine (Q0.out _).mono ?_; rintro e w' ⟨rfl, rfl⟩)
    go_wp2_with (go_at_call 66; refine (Q1.out _ B0.out).mono ?_; rintro e w1 ⟨rfl, hb1⟩; have B1 := Lib.hid (B0.out.trans (hb1.mono B0.out.size)); have L1 := Lib.hid (L0.out.call hb1); have c0 : w1.cell? ⟨w.heap.size, 0, none⟩ = some (.int .i64 r.n) := L1.out.at_ 0; have c2 : w1.cell? ⟨w.heap.size, 2, none⟩ = some (.int .i64 r.lag) := L1.out.at_ 2; have c3 : w1.cell? ⟨w.heap.size, 3, none⟩ = some (.int .i64 r.sh) := L1.out.at_ 3; have c4 : w1.cell? ⟨w.heap.size, 4, none⟩ = some (.int .i64 r.old) := L1.out.at_ 4; have c6 : w1.cell? ⟨w.heap.size, 6, none⟩ = some (.slice r.dug.A r.dug.l.length r.dug.c) := L1.out.at_ 6; clear hb1 a0 a1)
    go_wp2_with (go_at_call_of 65 (Value.int .i64 r.lag); refine (Q2.out _).mono ?_; rintro e w' ⟨rfl, rfl⟩)
    go_wp2_with (go_at_call_of 65 (Value.int .i64 r.sh); refine (Q3.out _).mono ?_; rintro e w' ⟨rfl, rfl⟩)
    go_wp2_with (first | (go_at_call_of 65 (Value.int .i64 r.old); refine (Q4.out _).mono ?_; rintro e w' ⟨rfl, rfl⟩) | (first | (refine wpList_load_rowG (o := ⟨some 37, _, _, _, _, _⟩) ?_ 34 (.tmp 1) ?_ w.heap.size ?_ 34 r.cells.toArray (0, 0) _ L1.out Try.underlying34 rfl size_row ?_; kernel_rfl; rfl; rfl) | (go_at_call 68; refine (Q6.out _ B1.out).mono ?_; rintro e w2 ⟨rfl, hb2⟩; have B2 := Lib.hid (B1.out.trans (hb2.mono B1.out.size)); have L2 := Lib.hid (L1.out.call hb2); have c7 : w2.cell? ⟨w.heap.size, 7, none⟩ = some (.slice r.ns.A r.ns.l.length r.ns.c) := L2.out.at_ 7; clear hb2 c0 c2 c3 c4 c6)) | (first | (refine wpList_load_rowG (o := ⟨some 44, _, _, _, _, _⟩) ?_ 34 (.tmp 1) ?_ w.heap.size ?_ 34 r.cells.toArray (0, 0) _ L2.out Try.underlying34 rfl size_row ?_; kernel_rfl; rfl; rfl) | (go_at_call 70; refine (Q7.out (by simp) _ B2.out).mono ?_; rintro e w3 ⟨rfl, hb3⟩; have B3 := Lib.hid (B2.out.trans (hb3.mono B2.out.size)); clear hb3)))
    go_ret
    exact ⟨ret_bool (by rw [HR.out]; simp), B3.out⟩
  | true =>
  go_enter Try.func46, Try.ntmps46
  go_upto_region 1 with (fail)
  change Code.wp _ _ _ _ (w.alloc (.cells r.cells.toArray 34))
  generalize w.alloc (.cells r.cells.toArray 34) = w0 at *
  have a0 : w0.cell? ⟨w.heap.size, 0, none⟩ = some (.int .i64 r.n) := L0.out.at_ 0
  have a1 : w0.cell? ⟨w.heap.size, 1, none⟩ = some (.slice r.ws.A r.ws.l.length r.ws.c) := L0.out.at_ 1
  go_wp2_with (go_at_call_of 65 (Value.int .i64 r.n); refine (Q0.out _).mono ?_; rintro e w' ⟨rfl, rfl⟩)
  go_wp2_with (go_at_call 66; refine (Q1.out _ B0.out).mono ?_; rintro e w1 ⟨rfl, hb1⟩; have B1 := Lib.hid (B0.out.trans (hb1.mono B0.out.size)); have L1 := Lib.hid (L0.out.call hb1); have c0 : w1.cell? ⟨w.heap.size, 0, none⟩ = some (.int .i64 r.n) := L1.out.at_ 0; have c2 : w1.cell? ⟨w.heap.size, 2, none⟩ = some (.int .i64 r.lag) := L1.out.at_ 2; have c3 : w1.cell? ⟨w.heap.size, 3, none⟩ = some (.int .i64 r.sh) := L1.out.at_ 3; have c4 : w1.cell? ⟨w.heap.size, 4, none⟩ = some (.int .i64 r.old) := L1.out.at_ 4; have c6 : w1.cell? ⟨w.heap.size, 6, none⟩ = some (.slice r.dug.A r.dug.l.length r.dug.c) := L1.out.at_ 6; clear hb1 a0 a1)
  go_wp2_with (go_at_call_of 65 (Value.int .i64 r.lag); refine (Q2.out _).mono ?_; rintro e w' ⟨rfl, rfl⟩)
  go_wp2_with (go_at_call_of 65 (Value.int .i64 r.sh); refine (Q3.out _).mono ?_; rintro e w' ⟨rfl, rfl⟩)
  go_wp2_with (first | (go_at_call_of 65 (Value.int .i64 r.old); refine (Q4.out _).mono ?_; rintro e w' ⟨rfl, rfl⟩) | (first | (refine wpList_load_rowG (o := ⟨some 37, _, _, _, _, _⟩) ?_ 34 (.tmp 1) ?_ w.heap.size ?_ 34 r.cells.toArray (0, 0) _ L1.out Try.underlying34 rfl size_row ?_; kernel_rfl; rfl; rfl) | (go_at_call 68; refine (Q6.out _ B1.out).mono ?_; rintro e w2 ⟨rfl, hb2⟩; have B2 := Lib.hid (B1.out.trans (hb2.mono B1.out.size)); have L2 := Lib.hid (L1.out.call hb2); have c7 : w2.cell? ⟨w.heap.size, 7, none⟩ = some (.slice r.ns.A r.ns.l.length r.ns.c) := L2.out.at_ 7; clear hb2 c0 c2 c3 c4 c6)) | (first | (refine wpList_load_rowG (o := ⟨some 44, _, _, _, _, _⟩) ?_ 34 (.tmp 1) ?_ w.heap.size ?_ 34 r.cells.toArray (0, 0) _ L2.out Try.underlying34 rfl size_row ?_; kernel_rfl; rfl; rfl) | (go_at_call 70; refine (Q7.out (by simp) _ B2.out).mono ?_; rintro e w3 ⟨rfl, hb3⟩; have B3 := Lib.hid (B2.out.trans (hb3.mono B2.out.size)); clear hb3)))
  go_ret
  exact ⟨ret_bool (by rw [HR.out]; simp), B3.out⟩
end Go.Proofs.Ytkjhofbjjogmlaa

/- CheckRow, lookAt, First. -/
namespace Go.Proofs.Ytkjhofbjjogmlaa
open Go.RowKit Go.Lib

set_option maxRecDepth 100000 in
set_option maxHeartbeats 4000000 in
theorem CheckRow_any (r : RwM) (w : World) (hr : r.At w w.heap.size) :
    Calls Try.prog 17 #[.agg r.cells.toArray] w fun e w' => e = .returned (.int .i64 r.d.fault) ∧ Below w.heap.size w w' := by
  have l0 : Lies (w.alloc (.cells r.cells.toArray 34)) w.heap.size 34 r.cells.toArray := Lies.fresh _ _ _
  have b0 : Below w.heap.size w (w.alloc (.cells r.cells.toArray 34)) := (by repeat (first | (with_reducible assumption) | (with_reducible exact Below.refl _ _) | (with_reducible refine Below.drew ?_) | (with_reducible refine below_drewN ?_ _) | ((with_reducible refine Below.setCell ?_ ?_ _); rotate_left; focus (first | (simp; done) | (simp; omega) | omega)) | ((with_reducible refine Below.alloc ?_ ?_ _); rotate_left; focus (first | (simp; done) | (simp; omega) | omega))))
  have hV := isValid_any r _ (hr.below b0 b0.size)
  have hlw := hr.lw
  have hln := hr.ln
  have hf : r.d.fault = if 30 < r.ws.l.length ∨ 40 < r.ns.l.length then 3 else if r.d.validB then 0 else 1 := rfl
  generalize r.d.validB = y at *
  generalize r.d.fault = ft at *
  have L0 := Lib.hid l0
  have B0 := Lib.hid b0
  have HV := Lib.hid hV
  have HF := Lib.hid hf
  clear l0 b0 hV hf hr
  by_cases h1 : 30 < r.ws.l.length
  · have h1z : (30 : Int) < (r.ws.l.length : Int) := by omega
    have H1 := Lib.hid (show ft = 3 by rw [HF.out, if_pos (.inl h1)])
    clear h1
    go_enter Try.func17, Try.ntmps17
    go_upto_region 1 with (fail)
    change Code.wp _ _ _ _ (w.alloc (.cells r.cells.toArray 34))
    generalize w.alloc (.cells r.cells.toArray 34) = w0 at *
    have a1 : w0.cell? ⟨w.heap.size, 1, none⟩ = some (.slice r.ws.A r.ws.l.length r.ws.c) := L0.out.at_ 1
    go_wp2
    go_ret
    exact ⟨by rw [H1.out]; rfl, B0.out⟩
  · have h1z : ¬ (30 : Int) < (r.ws.l.length : Int) := by omega
    by_cases h2 : 40 < r.ns.l.length
    · have h2z : (40 : Int) < (r.ns.l.length : Int) := by omega
      have H1 := Lib.hid (show ft = 3 by rw [HF.out, if_pos (.inr h2)])
      clear h1 h2
      go_enter Try.func17, Try.ntmps17
      go_upto_region 1 with (fail)
      change Code.wp _ _ _ _ (w.alloc (.cells r.cells.toArray 34))
      generalize w.alloc (.cells r.cells.toArray 34) = w0 at *
      have a1 : w0.cell? ⟨w.heap.size, 1, none⟩ = some (.slice r.ws.A r.ws.l.length r.ws.c) := L0.out.at_ 1
      have a7 : w0.cell? ⟨w.heap.size, 7, none⟩ = some (.slice r.ns.A r.ns.l.length r.ns.c) := L0.out.at_ 7
      go_wp2
      go_ret
      exact ⟨by rw [H1.out]; rfl, B0.out⟩
    · have h2z : ¬ (40 : Int) < (r.ns.l.length : Int) := by omega
      have H1 := Lib.hid (show ft = if y then 0 else 1 by rw [HF.out, if_neg (by omega)])
      clear h1 h2
      cases y
      all_goals
        go_enter Try.func17, Try.ntmps17
        go_upto_region 1 with (fail)
        change Code.wp _ _ _ _ (w.alloc (.cells r.cells.toArray 34))
        generalize w.alloc (.cells r.cells.toArray 34) = w0 at *
        have a1 : w0.cell? ⟨w.heap.size, 1, none⟩ = some (.slice r.ws.A r.ws.l.length r.ws.c) := L0.out.at_ 1
        have a7 : w0.cell? ⟨w.heap.size, 7, none⟩ = some (.slice r.ns.A r.ns.l.length r.ns.c) := L0.out.at_ 7
        go_wp2_with (first
          | (refine wpList_load_row (o := ⟨some 13, _, _, _, _, _⟩) ?_ 34 (.tmp 1) ?_ w.heap.size ?_ 34 r.cells.toArray (0, 0) _ L0.out Try.underlying34 rfl size_row ?_; rfl; rfl; rfl)
          | (go_at_call 46; refine HV.out.mono ?_; rintro e w5 ⟨rfl, hb5⟩))
        go_ret
        exact ⟨by rw [H1.out]; rfl, B0.out.trans (hb5.mono B0.out.size)⟩
/-- What a valid row is. -/
theorem fault_ok {r : RwD} (h : r.fault = 0) : r.Ok ∧ (∀ x, x ∈ r.ns → r.haveB x = true) ∧ (∀ n, n ∈ r.dug → 0 ≤ n ∧ n ≤ r.ws.length) ∧ r.ws.length ≤ 30 ∧ r.ns.length ≤ 40 := by
  unfold RwD.fault at h
  split at h
  · cases h
  rename_i h1
  split at h
  case isFalse => cases h
  rename_i hv
  unfold RwD.validB at hv
  simp only [Bool.and_eq_true, inB_iff, decide_eq_true_eq, List.all_eq_true] at hv
  obtain ⟨⟨⟨⟨⟨⟨⟨h0, h1'⟩, h2⟩, h3⟩, h4⟩, h5⟩, h6⟩, h7⟩ := hv
  exact ⟨⟨h0.1, h0.2, h2, h3, h4, h5, h1', by omega⟩, h7, h6, by omega, by omega⟩
theorem fit_of {r : RwD} (h : r.Ok) {x : Nt} (hk : 0 ≤ x.k) (hx : r.haveB x = true) : x.Fit := by
  unfold RwD.haveB at hx
  simp only [Bool.and_eq_true, inB_iff, decide_eq_true_eq] at hx
  obtain ⟨⟨⟨h0, h1⟩, h2⟩, h3⟩ := hx
  have := h.n1
  have := h.nw
  exact ⟨h0.1, by omega, by omega, by omega, by omega⟩
end Go.Proofs.Ytkjhofbjjogmlaa

/- lookAt, First. -/
namespace Go.Proofs.Ytkjhofbjjogmlaa
open Go.RowKit Go.Lib

theorem built_zco : Try.prog.built 84 [] = some zco.toArray := by kernel_rfl
theorem built_ztr : Try.prog.built 86 [] = some (vals (List.replicate 10 0)) := by kernel_rfl
theorem zco_one : ∀ v ∈ zco, v.oneCell' = true := by
  intro v hv
  unfold zco at hv
  rcases List.mem_append.1 hv with h | h
  · simp only [List.mem_cons, List.not_mem_nil, or_false] at h
    rcases h with rfl | rfl | rfl | rfl | rfl | rfl | rfl | rfl <;> rfl
  · rw [List.mem_replicate] at h; rw [h.2]; rfl
theorem size_zco : (Try.prog.info? 84).map (·.size) = some zco.length := size_co
theorem size_zcoA : (Try.prog.info? 84).map (·.size) = some zco.toArray.size := size_co
theorem size_ztr : (Try.prog.info? 86).map (·.size) = some (List.replicate 10 (0 : Int)).length := size_tr
theorem size_ztrA : (Try.prog.info? 86).map (·.size) = some (vals (List.replicate 10 0)).size := size_tr
/-- The course of a row as it lies. -/
def RwM.co (r : RwM) : CoM := ⟨r, r.d.wins⟩
def RwD.earliest (r : RwD) : List Int := r.earlyD r.wins
def RwD.can (r : RwD) : Bool := r.possB r.wins r.earliest
theorem earliest_ok {r : RwD} : TrW r.ws.length r.earliest := weeksE_ok r r.wins (Nat.le_refl _)
/-- What lookAt's memory is ahead of its body. -/
structure LkM (r : RwM) (w W : World) : Prop where
  r : Lies W w.heap.size 34 r.cells.toArray
  c : Lies W (w.heap.size + 1) 84 zco.toArray
  t : Lies W (w.heap.size + 1 + 1) 86 (vals (List.replicate 10 0))
  b : Below w.heap.size w W
theorem LkM.call {r : RwM} {w W W' : World} (h : LkM r w W) (hb : Below W.heap.size W W') : LkM r w W' := ⟨h.r.call hb, h.c.call hb, h.t.call hb, h.b.trans (hb.mono h.b.size)⟩
theorem LkM.made (r : RwM) (w : World) : LkM r w (((w.alloc (.cells r.cells.toArray 34)).alloc (.cells zco.toArray 84)).alloc (.cells (vals (List.replicate 10 0)) 86)) :=
  ⟨((Lies.fresh _ _ _).alloc _).alloc _, (Lies.fresh' (by simp)).alloc _, Lies.fresh' (by simp), (by repeat (first | (with_reducible assumption) | (with_reducible exact Below.refl _ _) | (with_reducible refine Below.drew ?_) | (with_reducible refine below_drewN ?_ _) | ((with_reducible refine Below.setCell ?_ ?_ _); rotate_left; focus (first | (simp; done) | (simp; omega) | omega)) | ((with_reducible refine Below.alloc ?_ ?_ _); rotate_left; focus (first | (simp; done) | (simp; omega) | omega))))⟩
def LookNo (err : Int) (w : World) (e : Ending) (w' : World) : Prop := e = .returned (.tuple #[.agg zco.toArray, .agg (vals (List.replicate 10 0)), .int .i64 err]) ∧ Below w.heap.size w w'
def LookYes (r : RwM) (w : World) (e : Ending) (w' : World) : Prop := e = .returned (.tuple #[.agg r.co.cells.toArray, .agg (vals r.d.earliest), .int .i64 0]) ∧ Below w.heap.size w w'
set_option maxRecDepth 100000 in
set_option maxHeartbeats 4000000 in
theorem lookAt_bad (r : RwM) (w : World) (hr : r.At w w.heap.size) (hf : r.d.fault ≠ 0) :
    Calls Try.prog 47 #[.agg r.cells.toArray] w (LookNo r.d.fault w) := by
  have hM := LkM.made r w
  have hC := CheckRow_any r _ (hr.below hM.b hM.b.size)
  generalize r.d.fault = ft at *
  have hfb : (ft != 0) = true := by simpa using hf
  have HM := Lib.hid hM
  have HC := Lib.hid hC
  clear hM hC hr hf
  go_enter Try.func47, Try.ntmps47
  go_upto_region 1 with (fail)
  change Code.wp _ _ _ _ (((w.alloc (.cells r.cells.toArray 34)).alloc (.cells zco.toArray 84)).alloc (.cells (vals (List.replicate 10 0)) 86))
  generalize ((w.alloc (.cells r.cells.toArray 34)).alloc (.cells zco.toArray 84)).alloc (.cells (vals (List.replicate 10 0)) 86) = w0 at *
  go_wp2_with (first
    | (refine wpList_load_row (o := ⟨some 9, _, _, _, _, _⟩) ?_ 34 (.tmp 1) ?_ w.heap.size ?_ 34 r.cells.toArray (0, 0) _ HM.out.r Try.underlying34 rfl size_row ?_; rfl; rfl; rfl)
    | (go_at_call 17; refine HC.out.mono ?_; rintro e w5 ⟨rfl, hb5⟩; have M5 := Lib.hid (HM.out.call hb5))
    | (refine wpList_build (o := ⟨some 13, _, _, _, _, _⟩) ?_ 84 #[] ?_ #[] ?_ zco.toArray built_zco ?_; rfl; rfl; rfl)
    | (refine wpList_build (o := ⟨some 14, _, _, _, _, _⟩) ?_ 86 #[] ?_ #[] ?_ (vals (List.replicate 10 0)) built_ztr ?_; rfl; rfl; rfl)
    | (refine wpList_store_cells (o := ⟨none, .store 84 (.tmp 2) _, _, _, _, _⟩) ?_ 84 (.tmp 2) (.tmp 13) ?_ (w.heap.size + 1) 0 ?_ 84 zco zco ?_ M5.out.c (by simp) size_zco zco_one ?_; rfl; rfl; rfl; rfl; intro w6 HS6 HO6)
    | (refine wpList_store_ints (o := ⟨none, .store 86 (.tmp 3) _, _, _, _, _⟩) ?_ 86 (.tmp 3) (.tmp 14) ?_ (w.heap.size + 1 + 1) 0 ?_ 86 (List.replicate 10 0) (List.replicate 10 0) ?_ (HO6.out.lies M5.out.t (by omega)) (by simp) size_ztr ?_; rfl; rfl; rfl; rfl; intro w7 HS7 HO7))
  have hs6 := HS6.out
  rw [splice_whole rfl] at hs6
  have hs7 := HS7.out
  rw [splice_all (by simp)] at hs7
  exact bodyPost_ret (results_row_row_tmp rfl _ _ (w.heap.size + 1) (w.heap.size + 1 + 1) 84 86 zco.toArray (vals (List.replicate 10 0)) _ _ (.int .i64 ft) rfl (HO7.out.lies hs6 (by omega)) rfl hs7 rfl Try.underlying84 rfl size_zcoA Try.underlying86 rfl size_ztrA) rfl
    ⟨rfl, HO7.out.below (HO6.out.below M5.out.b (by omega)) (by omega)⟩
set_option maxRecDepth 100000 in
set_option maxHeartbeats 8000000 in
theorem lookAt_sick (r : RwM) (w : World) (hr : r.At w w.heap.size) (hf : r.d.fault = 0) (hp : r.d.can = false) :
    Calls Try.prog 47 #[.agg r.cells.toArray] w (LookNo 10 w) := by
  have hM := LkM.made r w
  have hC := CheckRow_any r _ (hr.below hM.b hM.b.size)
  rw [hf] at hC
  obtain ⟨hok, hn, hd, hlw, hln⟩ := fault_ok hf
  have hfit : ∀ x, x ∈ r.ns.l → x.Fit := fun x hx => fit_of hok (hr.kn x hx).1 (hn x hx)
  have hsh := hok.sh
  have hold := hok.old
  have hQ := fun W (hb : Below w.heap.size w W) => follow_any r W (hr.below hb hb.size) hfit hsh.1 (Int.le_trans hsh.2 (by decide)) hold.1 (Int.le_trans hold.2 (by decide))
  have hE := fun W (hb : Below w.heap.size w W) => earliestTruth_any r.co W r.d.wins_length (hr.below hb hb.size) hok
  change ∀ W, Below w.heap.size w W → Calls Try.prog 50 #[.agg r.cells.toArray] W fun e w' => e = .returned (.agg r.co.cells.toArray) ∧ Below W.heap.size W w' at hQ
  change ∀ W, Below w.heap.size w W → Calls Try.prog 72 #[.agg r.co.cells.toArray] W fun e w' => e = .returned (.tuple #[.agg (vals r.d.earliest), .bool r.d.can]) ∧ Below W.heap.size W w' at hE
  rw [hp] at hE
  have hlen : r.d.earliest.length = 10 := earliest_ok.len
  have hszc : (Try.prog.info? 84).map (·.size) = some r.co.cells.length := by rw [CoM.len _ r.d.wins_length]; exact size_co
  have hszcA : (Try.prog.info? 84).map (·.size) = some r.co.cells.toArray.size := by simpa using hszc
  have hszt : (Try.prog.info? 86).map (·.size) = some r.d.earliest.length := by rw [hlen]; exact size_tr
  have hsztA : (Try.prog.info? 86).map (·.size) = some (vals r.d.earliest).size := by rw [vals_size]; exact hszt
  have hwc : r.co.cells.length = zco.length := by rw [CoM.len _ r.d.wins_length]; rfl
  have hwt : r.d.earliest.length = (List.replicate 10 (0 : Int)).length := by rw [hlen]; rfl
  have HM := Lib.hid hM
  have HC := Lib.hid hC
  have HQ := Lib.hid hQ
  have HE := Lib.hid hE
  have HSC := Lib.hid hszc
  have HSCA := Lib.hid hszcA
  have HST := Lib.hid hszt
  have HSTA := Lib.hid hsztA
  have HWC := Lib.hid hwc
  have HWT := Lib.hid hwt
  have HFC := Lib.hid (show 0 + r.co.cells.length ≤ zco.length by rw [hwc]; simp)
  have HFT := Lib.hid (show 0 + r.d.earliest.length ≤ (List.replicate 10 (0 : Int)).length by rw [hwt]; simp)
  have HONE := Lib.hid (show ∀ v ∈ r.co.cells, v.oneCell' = true from co_one r r.d.wins)
  clear hM hC hQ hE hszc hszcA hszt hsztA hwc hwt hr hf hp hok hn hd hlw hln hfit hsh hold hlen
  go_enter Try.func47, Try.ntmps47
  go_upto_region 1 with (fail)
  change Code.wp _ _ _ _ (((w.alloc (.cells r.cells.toArray 34)).alloc (.cells zco.toArray 84)).alloc (.cells (vals (List.replicate 10 0)) 86))
  generalize ((w.alloc (.cells r.cells.toArray 34)).alloc (.cells zco.toArray 84)).alloc (.cells (vals (List.replicate 10 0)) 86) = w0 at *
  go_upto_region 4 with (first
    | (refine wpList_load_row (o := ⟨some 9, _, _, _, _, _⟩) ?_ 34 (.tmp 1) ?_ w.heap.size ?_ 34 r.cells.toArray (0, 0) _ HM.out.r Try.underlying34 rfl size_row ?_; rfl; rfl; rfl)
    | (go_at_call 17; refine HC.out.mono ?_; rintro e w5 ⟨rfl, hb5⟩; have M5 := Lib.hid (HM.out.call hb5)))
  clear hb5 HM
  go_upto_region 5 with (first
    | (refine wpList_load_row (o := ⟨some 16, _, _, _, _, _⟩) ?_ 34 (.tmp 1) ?_ w.heap.size ?_ 34 r.cells.toArray (0, 0) _ M5.out.r Try.underlying34 rfl size_row ?_; rfl; rfl; rfl)
    | (go_at_call 50; refine (HQ.out _ M5.out.b).mono ?_; rintro e w6 ⟨rfl, hb6⟩; have M6 := Lib.hid (M5.out.call hb6))
    | (refine wpList_store_cells (o := ⟨none, .store 84 (.tmp 6) _, _, _, _, _⟩) ?_ 84 (.tmp 6) (.tmp 17) ?_ w6.heap.size 0 ?_ 84 zco r.co.cells ?_ (Lies.fresh w6 84 zco.toArray) HFC.out HSC.out HONE.out ?_; rfl; rfl; rfl; rfl; intro w7 HS7 HO7))
  have hs7 := HS7.out
  rw [splice_whole HWC.out] at hs7
  have hb7 : Below w6.heap.size w6 w7 := HO7.out.below ((Below.refl _ _).alloc (Nat.le_refl _) _) (Nat.le_refl _)
  have M7 := Lib.hid (M6.out.call hb7)
  have hg6 : w.heap.size + 1 + 1 < w6.heap.size := M6.out.t.in_
  generalize w6.heap.size = g6 at *
  have C7 := Lib.hid hs7
  clear hs7 hb7 HS7 HO7 M5 M6 hb6
  try simp only [Act.put]
  go_upto_region 6 with (first
    | (refine wpList_load_row (o := ⟨some 19, _, _, _, _, _⟩) ?_ 84 (.tmp 6) ?_ g6 ?_ 84 r.co.cells.toArray (0, 0) _ C7.out Try.underlying84 rfl HSCA.out ?_; rfl; rfl; rfl)
    | (go_at_call 72; refine (HE.out _ M7.out.b).mono ?_; rintro e w8 ⟨rfl, hb8⟩; have M8 := Lib.hid (M7.out.call hb8); have C8 := Lib.hid (C7.out.call hb8))
    | (refine wpList_store_ints (o := ⟨none, .store 86 (.tmp 7) _, _, _, _, _⟩) ?_ 86 (.tmp 7) (.tmp 21) ?_ w8.heap.size 0 ?_ 86 (List.replicate 10 0) r.d.earliest ?_ (Lies.fresh w8 86 (vals (List.replicate 10 0))) HFT.out HST.out ?_; rfl; rfl; rfl; rfl; intro w9 HS9 HO9; (try simp only [Act.put])))
  have hs9 := HS9.out
  rw [splice_all HWT.out] at hs9
  have hb9 : Below w8.heap.size w8 w9 := HO9.out.below ((Below.refl _ _).alloc (Nat.le_refl _) _) (Nat.le_refl _)
  have M9 := Lib.hid (M8.out.call hb9)
  have C9 := Lib.hid (C8.out.call hb9)
  have hg8 : g6 < w8.heap.size := C8.out.in_
  generalize w8.heap.size = g8 at *
  have T9 := Lib.hid hs9
  clear hs9 hb9 HS9 HO9 M7 M8 C7 C8 hb8
  go_wp2_with (first
    | (refine wpList_build (o := ⟨some 25, _, _, _, _, _⟩) ?_ 84 #[] ?_ #[] ?_ zco.toArray built_zco ?_; rfl; rfl; rfl)
    | (refine wpList_build (o := ⟨some 26, _, _, _, _, _⟩) ?_ 86 #[] ?_ #[] ?_ (vals (List.replicate 10 0)) built_ztr ?_; rfl; rfl; rfl)
    | (refine wpList_store_cells (o := ⟨none, .store 84 (.tmp 2) _, _, _, _, _⟩) ?_ 84 (.tmp 2) (.tmp 25) ?_ (w.heap.size + 1) 0 ?_ 84 zco zco ?_ M9.out.c (by simp) size_zco zco_one ?_; rfl; rfl; rfl; rfl; intro wa HSA HOA)
    | (refine wpList_store_ints (o := ⟨none, .store 86 (.tmp 3) _, _, _, _, _⟩) ?_ 86 (.tmp 3) (.tmp 26) ?_ (w.heap.size + 1 + 1) 0 ?_ 86 (List.replicate 10 0) (List.replicate 10 0) ?_ (HOA.out.lies M9.out.t (by omega)) (by simp) size_ztr ?_; rfl; rfl; rfl; rfl; intro wb HSB HOB))
  have hsa := HSA.out
  rw [splice_whole rfl] at hsa
  have hsb := HSB.out
  rw [splice_all (by simp)] at hsb
  exact bodyPost_ret (results_row_row_tmp rfl _ _ (w.heap.size + 1) (w.heap.size + 1 + 1) 84 86 zco.toArray (vals (List.replicate 10 0)) _ _ (.int .i64 10) rfl (HOB.out.lies hsa (by omega)) rfl hsb rfl Try.underlying84 rfl size_zcoA Try.underlying86 rfl size_ztrA) rfl
    ⟨rfl, HOB.out.below (HOA.out.below M9.out.b (by omega)) (by omega)⟩
set_option maxRecDepth 100000 in
set_option maxHeartbeats 8000000 in
theorem lookAt_yes (r : RwM) (w : World) (hr : r.At w w.heap.size) (hf : r.d.fault = 0) (hp : r.d.can = true) :
    Calls Try.prog 47 #[.agg r.cells.toArray] w (LookYes r w) := by
  have hM := LkM.made r w
  have hC := CheckRow_any r _ (hr.below hM.b hM.b.size)
  rw [hf] at hC
  obtain ⟨hok, hn, hd, hlw, hln⟩ := fault_ok hf
  have hfit : ∀ x, x ∈ r.ns.l → x.Fit := fun x hx => fit_of hok (hr.kn x hx).1 (hn x hx)
  have hsh := hok.sh
  have hold := hok.old
  have hQ := fun W (hb : Below w.heap.size w W) => follow_any r W (hr.below hb hb.size) hfit hsh.1 (Int.le_trans hsh.2 (by decide)) hold.1 (Int.le_trans hold.2 (by decide))
  have hE := fun W (hb : Below w.heap.size w W) => earliestTruth_any r.co W r.d.wins_length (hr.below hb hb.size) hok
  change ∀ W, Below w.heap.size w W → Calls Try.prog 50 #[.agg r.cells.toArray] W fun e w' => e = .returned (.agg r.co.cells.toArray) ∧ Below W.heap.size W w' at hQ
  change ∀ W, Below w.heap.size w W → Calls Try.prog 72 #[.agg r.co.cells.toArray] W fun e w' => e = .returned (.tuple #[.agg (vals r.d.earliest), .bool r.d.can]) ∧ Below W.heap.size W w' at hE
  rw [hp] at hE
  have hlen : r.d.earliest.length = 10 := earliest_ok.len
  have hszc : (Try.prog.info? 84).map (·.size) = some r.co.cells.length := by rw [CoM.len _ r.d.wins_length]; exact size_co
  have hszcA : (Try.prog.info? 84).map (·.size) = some r.co.cells.toArray.size := by simpa using hszc
  have hszt : (Try.prog.info? 86).map (·.size) = some r.d.earliest.length := by rw [hlen]; exact size_tr
  have hsztA : (Try.prog.info? 86).map (·.size) = some (vals r.d.earliest).size := by rw [vals_size]; exact hszt
  have hwc : r.co.cells.length = zco.length := by rw [CoM.len _ r.d.wins_length]; rfl
  have hwt : r.d.earliest.length = (List.replicate 10 (0 : Int)).length := by rw [hlen]; rfl
  have HM := Lib.hid hM
  have HC := Lib.hid hC
  have HQ := Lib.hid hQ
  have HE := Lib.hid hE
  have HSC := Lib.hid hszc
  have HSCA := Lib.hid hszcA
  have HST := Lib.hid hszt
  have HSTA := Lib.hid hsztA
  have HWC := Lib.hid hwc
  have HWT := Lib.hid hwt
  have HFC := Lib.hid (show 0 + r.co.cells.length ≤ zco.length by rw [hwc]; simp)
  have HFT := Lib.hid (show 0 + r.d.earliest.length ≤ (List.replicate 10 (0 : Int)).length by rw [hwt]; simp)
  have HONE := Lib.hid (show ∀ v ∈ r.co.cells, v.oneCell' = true from co_one r r.d.wins)
  clear hM hC hQ hE hszc hszcA hszt hsztA hwc hwt hr hf hp hok hn hd hlw hln hfit hsh hold hlen
  go_enter Try.func47, Try.ntmps47
  go_upto_region 1 with (fail)
  change Code.wp _ _ _ _ (((w.alloc (.cells r.cells.toArray 34)).alloc (.cells zco.toArray 84)).alloc (.cells (vals (List.replicate 10 0)) 86))
  generalize ((w.alloc (.cells r.cells.toArray 34)).alloc (.cells zco.toArray 84)).alloc (.cells (vals (List.replicate 10 0)) 86) = w0 at *
  go_upto_region 4 with (first
    | (refine wpList_load_row (o := ⟨some 9, _, _, _, _, _⟩) ?_ 34 (.tmp 1) ?_ w.heap.size ?_ 34 r.cells.toArray (0, 0) _ HM.out.r Try.underlying34 rfl size_row ?_; rfl; rfl; rfl)
    | (go_at_call 17; refine HC.out.mono ?_; rintro e w5 ⟨rfl, hb5⟩; have M5 := Lib.hid (HM.out.call hb5)))
  clear hb5 HM
  go_upto_region 5 with (first
    | (refine wpList_load_row (o := ⟨some 16, _, _, _, _, _⟩) ?_ 34 (.tmp 1) ?_ w.heap.size ?_ 34 r.cells.toArray (0, 0) _ M5.out.r Try.underlying34 rfl size_row ?_; rfl; rfl; rfl)
    | (go_at_call 50; refine (HQ.out _ M5.out.b).mono ?_; rintro e w6 ⟨rfl, hb6⟩; have M6 := Lib.hid (M5.out.call hb6))
    | (refine wpList_store_cells (o := ⟨none, .store 84 (.tmp 6) _, _, _, _, _⟩) ?_ 84 (.tmp 6) (.tmp 17) ?_ w6.heap.size 0 ?_ 84 zco r.co.cells ?_ (Lies.fresh w6 84 zco.toArray) HFC.out HSC.out HONE.out ?_; rfl; rfl; rfl; rfl; intro w7 HS7 HO7))
  have hs7 := HS7.out
  rw [splice_whole HWC.out] at hs7
  have hb7 : Below w6.heap.size w6 w7 := HO7.out.below ((Below.refl _ _).alloc (Nat.le_refl _) _) (Nat.le_refl _)
  have M7 := Lib.hid (M6.out.call hb7)
  have hg6 : w.heap.size + 1 + 1 < w6.heap.size := M6.out.t.in_
  generalize w6.heap.size = g6 at *
  have C7 := Lib.hid hs7
  clear hs7 hb7 HS7 HO7 M5 M6 hb6
  try simp only [Act.put]
  go_upto_region 6 with (first
    | (refine wpList_load_row (o := ⟨some 19, _, _, _, _, _⟩) ?_ 84 (.tmp 6) ?_ g6 ?_ 84 r.co.cells.toArray (0, 0) _ C7.out Try.underlying84 rfl HSCA.out ?_; rfl; rfl; rfl)
    | (go_at_call 72; refine (HE.out _ M7.out.b).mono ?_; rintro e w8 ⟨rfl, hb8⟩; have M8 := Lib.hid (M7.out.call hb8); have C8 := Lib.hid (C7.out.call hb8))
    | (refine wpList_store_ints (o := ⟨none, .store 86 (.tmp 7) _, _, _, _, _⟩) ?_ 86 (.tmp 7) (.tmp 21) ?_ w8.heap.size 0 ?_ 86 (List.replicate 10 0) r.d.earliest ?_ (Lies.fresh w8 86 (vals (List.replicate 10 0))) HFT.out HST.out ?_; rfl; rfl; rfl; rfl; intro w9 HS9 HO9; (try simp only [Act.put])))
  have hs9 := HS9.out
  rw [splice_all HWT.out] at hs9
  have hb9 : Below w8.heap.size w8 w9 := HO9.out.below ((Below.refl _ _).alloc (Nat.le_refl _) _) (Nat.le_refl _)
  have M9 := Lib.hid (M8.out.call hb9)
  have C9 := Lib.hid (C8.out.call hb9)
  have hg8 : g6 < w8.heap.size := C8.out.in_
  generalize w8.heap.size = g8 at *
  have T9 := Lib.hid hs9
  clear hs9 hb9 HS9 HO9 M7 M8 C7 C8 hb8
  go_upto_region 8 with (fail)
  have hp0 : Lies w9 g6 84 r.co.cells.toArray ∧ Lies w9 g8 86 (vals r.d.earliest) := ⟨C9.out, T9.out⟩
  have hr1 : ∀ W, (∃ cc : Cls (fun W => Lies W g6 84 r.co.cells.toArray ∧ Lies W g8 86 (vals r.d.earliest)), W = cc.val) → W.rangeAt g6 0 r.co.cells := by
    rintro W ⟨cc, rfl⟩; exact Lies.range (cs := r.co.cells) cc.h.1 (fun j v hj => by simpa using hj)
  have hr2 : ∀ W, (∃ cc : Cls (fun W => Lies W g6 84 r.co.cells.toArray ∧ Lies W g8 86 (vals r.d.earliest)), W = cc.val) → W.rangeAt g8 0 (r.d.earliest.map (Value.int .i64)) := by
    rintro W ⟨cc, rfl⟩; exact Lies.range (cs := r.d.earliest.map (Value.int .i64)) cc.h.2 (fun j v hj => by simpa using hj)
  have hst3 : (Try.prog.info? 86).map (·.size) = some (r.d.earliest.map (Value.int .i64)).length := by rw [List.length_map]; exact HST.out
  have HR1 := Lib.hid hr1
  have HR2 := Lib.hid hr2
  have HST3 := Lib.hid hst3
  have HP0 := Lib.hid hp0
  clear hr1 hr2 hst3 hp0
  haveI hne : Nonempty (Cls (fun W => Lies W g6 84 r.co.cells.toArray ∧ Lies W g8 86 (vals r.d.earliest))) := ⟨⟨w9, HP0.out⟩⟩
  refine wp_region_wayw [0, 1] (.way 2 (.way 3 (.take 4 .fin) .fin) .fin) (fun W => ∃ cc : Cls (fun W => Lies W g6 84 r.co.cells.toArray ∧ Lies W g8 86 (vals r.d.earliest)), W = cc.val) (by kernel_rfl) (by kernel_rfl) (Cls.here ⟨HP0.out.1.drew, HP0.out.2.drew⟩) ?_
  simp only [List.filterMap_cons, List.filterMap_nil, List.getElem?_toArray, List.getElem?_cons_zero, List.getElem?_cons_succ]
  repeat (first
    | (refine wpQuiet_load_wholeG (o := ⟨some 27, _, _, _, _, _⟩) ?_ 84 (.tmp 6) ?_ g6 0 ?_ r.co.cells _ HR1.out Try.underlying84 rfl HSC.out ?_; rfl; rfl; rfl; simp only [Act.put, List.setIfInBounds_toArray, List.set_cons_zero, List.set_cons_succ])
    | (refine wpQuiet_load_wholeG (o := ⟨some 28, _, _, _, _, _⟩) ?_ 86 (.tmp 7) ?_ g8 0 ?_ (r.d.earliest.map (Value.int .i64)) _ HR2.out Try.underlying86 rfl HST3.out ?_; rfl; rfl; rfl; simp only [Act.put, List.setIfInBounds_toArray, List.set_cons_zero, List.set_cons_succ])
    | go_big_quiet_step (rfl) | quiet_step (rfl))
  refine wpQuiet_nil ?_
  clear HR1 HR2
  have M0 := Lib.hid (M9.out.call (Below.refl w9.heap.size w9).drew)
  have P0 := Lib.hid (show Lies w9.drew g6 84 r.co.cells.toArray ∧ Lies w9.drew g8 86 (vals r.d.earliest) from ⟨HP0.out.1.drew, HP0.out.2.drew⟩)
  generalize w9.drew = d0 at *
  rw [wpWy_way]
  refine ⟨?_, by exact trivial⟩
  simp only [List.getElem?_toArray, List.getElem?_cons_succ, List.getElem?_cons_zero]
  refine wpList_store_cells (o := ⟨none, .store 84 (.tmp 2) _, _, _, _, _⟩) ?_ 84 (.tmp 2) (.tmp 27) ?_ (w.heap.size + 1) 0 ?_ 84 zco r.co.cells ?_ M0.out.c HFC.out HSC.out HONE.out ?_
  rfl; rfl; rfl; rfl
  intro wa HSA HOA
  refine wpList_nil ?_
  have hsa := HSA.out
  rw [splice_whole HWC.out] at hsa
  have PA := Lib.hid (show Lies wa g6 84 r.co.cells.toArray ∧ Lies wa g8 86 (vals r.d.earliest) from ⟨HOA.out.lies P0.out.1 (by omega), HOA.out.lies P0.out.2 (by omega)⟩)
  refine Ends.intro ⟨Cls.here PA.out, ?_⟩
  rw [wpWy_way]
  refine ⟨?_, by exact trivial⟩
  simp only [List.getElem?_toArray, List.getElem?_cons_succ, List.getElem?_cons_zero]
  refine wpList_store_ints (o := ⟨none, .store 86 (.tmp 3) _, _, _, _, _⟩) ?_ 86 (.tmp 3) (.tmp 28) ?_ (w.heap.size + 1 + 1) 0 ?_ 86 (List.replicate 10 0) r.d.earliest ?_ (HOA.out.lies M0.out.t (by omega)) HFT.out HST.out ?_
  rfl; rfl; rfl; rfl
  intro wb HSB HOB
  refine wpList_nil ?_
  have hsb := HSB.out
  rw [splice_all HWT.out] at hsb
  refine Ends.intro ⟨Cls.here ⟨HOB.out.lies PA.out.1 (by omega), HOB.out.lies PA.out.2 (by omega)⟩, ?_⟩
  have SA := Lib.hid (HOB.out.lies hsa (by omega))
  have SB := Lib.hid hsb
  clear hsa hsb
  rw [wpWy_take]
  simp only [List.getElem?_toArray, List.getElem?_cons_succ, List.getElem?_cons_zero]
  first | go_big_quiet_step (rfl) | quiet_step (rfl)
  refine wpQuiet_nil ?_
  rw [wpWy_fin]
  go_wp2_with (fail)
  exact bodyPost_ret (results_row_row_tmp rfl _ _ (w.heap.size + 1) (w.heap.size + 1 + 1) 84 86 r.co.cells.toArray (vals r.d.earliest) _ _ (.int .i64 0) rfl SA.out rfl SB.out rfl Try.underlying84 rfl HSCA.out Try.underlying86 rfl HSTA.out) rfl
    ⟨rfl, HOB.out.below (HOA.out.below M0.out.b (by omega)) (by omega)⟩
end Go.Proofs.Ytkjhofbjjogmlaa

/- First. -/
namespace Go.Proofs.Ytkjhofbjjogmlaa
open Go.RowKit Go.Lib

/-- The earliest onsets of a row. -/
def RwD.firstD (r : RwD) : List Int := (r.earliest.take r.dug.length).map out31
/-- The error of a row, sick rows included. -/
def RwD.err (r : RwD) : Int := if r.fault ≠ 0 then r.fault else if r.can then 0 else 10
theorem err_bad {r : RwD} (h : r.fault ≠ 0) : r.err = r.fault := if_pos h
theorem err_sick {r : RwD} (h : r.fault = 0) (h2 : r.can = false) : r.err = 10 := by unfold RwD.err; rw [if_neg (by simpa using h), h2]; rfl
theorem err_ok {r : RwD} (h : r.fault = 0) (h2 : r.can = true) : r.err = 0 := by unfold RwD.err; rw [if_neg (by simpa using h), h2]; rfl
theorem err_zero {r : RwD} (h : r.err = 0) : r.fault = 0 ∧ r.can = true := by
  unfold RwD.err at h
  by_cases h1 : r.fault = 0
  · rw [if_neg (by simpa using h1)] at h
    cases h2 : r.can with
    | true => exact ⟨h1, rfl⟩
    | false => rw [h2] at h; simp at h
  · rw [if_pos h1] at h; exact absurd h h1
theorem lookAt_no (r : RwM) (w : World) (hr : r.At w w.heap.size) (he : r.d.err ≠ 0) : Calls Try.prog 47 #[.agg r.cells.toArray] w (LookNo r.d.err w) := by
  by_cases h1 : r.d.fault = 0
  · cases h2 : r.d.can with
    | true => exact absurd (err_ok h1 h2) he
    | false => rw [err_sick h1 h2]; exact lookAt_sick r w hr h1 h2
  · rw [err_bad h1]; exact lookAt_bad r w hr h1
/-- A list of integers with an error, handed back. -/
def RetE (l : List Int) (w : World) (e : Ending) (w' : World) : Prop := ∃ (A : Option Addr) (c : Nat), e = .returned (.tuple #[.slice A l.length c, .int .i64 0]) ∧ (A = none → l.length = 0 ∧ c = 0) ∧ Sl w' w'.heap.size 1 encI A l ∧ Below w.heap.size w w'
def NoE (err : Int) (w : World) (e : Ending) (w' : World) : Prop := e = .returned (.tuple #[.slice none 0 0, .int .i64 err]) ∧ Below w.heap.size w w'
set_option maxRecDepth 100000 in
set_option maxHeartbeats 4000000 in
theorem First_no (r : RwM) (w : World) (hr : r.At w w.heap.size) (he : r.d.err ≠ 0) : Calls Try.prog 19 #[.agg r.cells.toArray] w (NoE r.d.err w) := by
  have l0 : Lies (w.alloc (.cells r.cells.toArray 34)) w.heap.size 34 r.cells.toArray := Lies.fresh _ _ _
  have b0 : Below w.heap.size w (w.alloc (.cells r.cells.toArray 34)) := (by repeat (first | (with_reducible assumption) | (with_reducible exact Below.refl _ _) | (with_reducible refine Below.drew ?_) | (with_reducible refine below_drewN ?_ _) | ((with_reducible refine Below.setCell ?_ ?_ _); rotate_left; focus (first | (simp; done) | (simp; omega) | omega)) | ((with_reducible refine Below.alloc ?_ ?_ _); rotate_left; focus (first | (simp; done) | (simp; omega) | omega))))
  have hQ := lookAt_no r _ (hr.below b0 b0.size) he
  generalize r.d.err = err at *
  have hfb : (err != 0) = true := by simpa using he
  have L0 := Lib.hid l0
  have B0 := Lib.hid b0
  have HQ := Lib.hid hQ
  clear l0 b0 hQ he hr
  go_enter Try.func19, Try.ntmps19
  go_upto_region 1 with (fail)
  change Code.wp _ _ _ _ (w.alloc (.cells r.cells.toArray 34))
  generalize w.alloc (.cells r.cells.toArray 34) = w0 at *
  go_wp2_with (first
    | (refine wpList_load_row (o := ⟨some 8, _, _, _, _, _⟩) ?_ 34 (.tmp 1) ?_ w.heap.size ?_ 34 r.cells.toArray (0, 0) _ L0.out Try.underlying34 rfl size_row ?_; rfl; rfl; rfl)
    | (go_at_call 47; refine HQ.out.mono ?_; rintro e w5 ⟨rfl, hb5⟩)
    | (refine wpList_store_cells (o := ⟨none, .store 84 (.tmp 4) _, _, _, _, _⟩) ?_ 84 (.tmp 4) (.tmp 10) ?_ w5.heap.size 0 ?_ 84 zco zco ?_ ((Lies.fresh w5 84 zco.toArray).alloc _) (by simp) size_zco zco_one ?_; rfl; rfl; rfl; rfl; intro w6 HS6 HO6)
    | (refine wpList_store_ints (o := ⟨none, .store 86 (.tmp 5) _, _, _, _, _⟩) ?_ 86 (.tmp 5) (.tmp 11) ?_ (w5.heap.size + 1) 0 ?_ 86 (List.replicate 10 0) (List.replicate 10 0) ?_ (HO6.out.lies (Lies.fresh' (by simp)) (by omega)) (by simp) size_ztr ?_; rfl; rfl; rfl; rfl; intro w7 HS7 HO7))
  go_ret2
  exact ⟨rfl, HO7.out.below (HO6.out.below (((B0.out.trans (hb5.mono B0.out.size)).alloc (B0.out.trans (hb5.mono B0.out.size)).size _).alloc (by have := (B0.out.trans (hb5.mono B0.out.size)).size; simp; omega) _) (B0.out.trans (hb5.mono B0.out.size)).size) (by have := (B0.out.trans (hb5.mono B0.out.size)).size; omega)⟩
set_option maxRecDepth 100000 in
set_option maxHeartbeats 4000000 in
theorem First_yes (r : RwM) (w : World) (hr : r.At w w.heap.size) (he : r.d.err = 0) : Calls Try.prog 19 #[.agg r.cells.toArray] w (RetE r.d.firstD w) := by
  obtain ⟨hf, hc⟩ := err_zero he
  obtain ⟨hok, hn, hd, hlw, hln⟩ := fault_ok hf
  have l0 : Lies (w.alloc (.cells r.cells.toArray 34)) w.heap.size 34 r.cells.toArray := Lies.fresh _ _ _
  have b0 : Below w.heap.size w (w.alloc (.cells r.cells.toArray 34)) := (by repeat (first | (with_reducible assumption) | (with_reducible exact Below.refl _ _) | (with_reducible refine Below.drew ?_) | (with_reducible refine below_drewN ?_ _) | ((with_reducible refine Below.setCell ?_ ?_ _); rotate_left; focus (first | (simp; done) | (simp; omega) | omega)) | ((with_reducible refine Below.alloc ?_ ?_ _); rotate_left; focus (first | (simp; done) | (simp; omega) | omega))))
  have hQ := lookAt_yes r _ (hr.below b0 b0.size) hf hc
  have hlen : r.d.earliest.length = 10 := earliest_ok.len
  obtain ⟨N, hN⟩ : ∃ N, N = r.dug.l.length := ⟨_, rfl⟩
  have hnn : r.n = (N : Int) := by rw [hN]; exact hok.dug.symm
  have hN10 : N ≤ 10 := by have := hok.n1; have h2 : r.d.n = r.n := rfl; omega
  have hO := fun W => onsets_any r.d.earliest N W hlen hN10
  have hfd : (r.d.earliest.take N).map out31 = r.d.firstD := by rw [hN]; rfl
  rw [hfd] at hO
  have hszc : (Try.prog.info? 84).map (·.size) = some r.co.cells.length := by rw [CoM.len _ r.d.wins_length]; exact size_co
  have hszt : (Try.prog.info? 86).map (·.size) = some r.d.earliest.length := by rw [hlen]; exact size_tr
  have hwc : r.co.cells.length = zco.length := by rw [CoM.len _ r.d.wins_length]; rfl
  have hwt : r.d.earliest.length = (List.replicate 10 (0 : Int)).length := by rw [hlen]; rfl
  have L0 := Lib.hid l0
  have B0 := Lib.hid b0
  have HQ := Lib.hid hQ
  have HO := Lib.hid hO
  have HNN := Lib.hid hnn
  have HSC := Lib.hid hszc
  have HST := Lib.hid hszt
  have HWT := Lib.hid hwt
  have HWC := Lib.hid hwc
  have HFC := Lib.hid (show 0 + r.co.cells.length ≤ zco.length by rw [hwc]; simp)
  have HFT := Lib.hid (show 0 + r.d.earliest.length ≤ (List.replicate 10 (0 : Int)).length by rw [hwt]; simp)
  have HONE := Lib.hid (show ∀ v ∈ r.co.cells, v.oneCell' = true from co_one r r.d.wins)
  clear l0 b0 hQ he hr hf hc hok hn hd hlw hln hlen hN hO hfd hszc hszt hwt hwc hnn
  go_enter Try.func19, Try.ntmps19
  go_upto_region 1 with (fail)
  change Code.wp _ _ _ _ (w.alloc (.cells r.cells.toArray 34))
  generalize w.alloc (.cells r.cells.toArray 34) = w0 at *
  go_upto_region 2 with (first
    | (refine wpList_load_row (o := ⟨some 8, _, _, _, _, _⟩) ?_ 34 (.tmp 1) ?_ w.heap.size ?_ 34 r.cells.toArray (0, 0) _ L0.out Try.underlying34 rfl size_row ?_; rfl; rfl; rfl)
    | (go_at_call 47; refine HQ.out.mono ?_; rintro e w5 ⟨rfl, hb5⟩)
    | (refine wpList_store_cells (o := ⟨none, .store 84 (.tmp 4) _, _, _, _, _⟩) ?_ 84 (.tmp 4) (.tmp 10) ?_ w5.heap.size 0 ?_ 84 zco r.co.cells ?_ ((Lies.fresh w5 84 zco.toArray).alloc _) HFC.out HSC.out HONE.out ?_; rfl; rfl; rfl; rfl; intro w6 HS6 HO6)
    | (refine wpList_store_ints (o := ⟨none, .store 86 (.tmp 5) _, _, _, _, _⟩) ?_ 86 (.tmp 5) (.tmp 11) ?_ (w5.heap.size + 1) 0 ?_ 86 (List.replicate 10 0) r.d.earliest ?_ (HO6.out.lies (Lies.fresh' (by simp)) (by omega)) HFT.out HST.out ?_; rfl; rfl; rfl; rfl; intro w7 HS7 HO7; (try simp only [Act.put])))
  have hb7 : Below w.heap.size w w7 := HO7.out.below (HO6.out.below (((B0.out.trans (hb5.mono B0.out.size)).alloc (B0.out.trans (hb5.mono B0.out.size)).size _).alloc (by have := (B0.out.trans (hb5.mono B0.out.size)).size; simp; omega) _) (B0.out.trans (hb5.mono B0.out.size)).size) (by have := (B0.out.trans (hb5.mono B0.out.size)).size; omega)
  have hs7 := HS7.out
  rw [splice_all HWT.out] at hs7
  have hgr : w.heap.size < w5.heap.size := Nat.lt_of_lt_of_le L0.out.in_ hb5.size
  have hr7 : Lies w7 w.heap.size 34 r.cells.toArray := HO7.out.lies (HO6.out.lies (((L0.out.call hb5).alloc _).alloc _) (by omega)) (by omega)
  have hc7 : w7.cell? ⟨w.heap.size, 0, none⟩ = some (.int .i64 N) := by rw [← HNN.out]; exact hr7.at_ 0
  have S7 := Lib.hid hs7
  have B7 := Lib.hid hb7
  generalize w5.heap.size = g5 at *
  clear hs7 hb7 hr7 HS7 HO7 HS6 HO6 hb5 HQ L0 B0
  go_wp2_with (first
    | (refine wpList_load_ints (o := ⟨some 16, _, _, _, _, _⟩) ?_ 86 (.tmp 5) ?_ (g5 + 1) 0 ?_ 86 r.d.earliest r.d.earliest _ S7.out (fun j v h => by simpa using h) Try.underlying86 rfl HST.out ?_; rfl; rfl; rfl)
    | (go_at_call 48; refine (HO.out _).mono ?_; rintro e w8 ⟨A, c, rfl, hA, hS, hb8⟩))
  go_ret2
  exact ⟨A, c, rfl, hA, hS, B7.out.trans (hb8.mono B7.out.size)⟩
end Go.Proofs.Ytkjhofbjjogmlaa
