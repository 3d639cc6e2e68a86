/- A list of lists, in memory. -/
import Derived.Test.YtkjhofbjjogmlaaYE
import Derived.Test.YtkjhofbjjogmlaaXE
import Derived.Test.YtkjhofbjjogmlaaYD
import Derived.Test.YtkjhofbjjogmlaaYB
import Derived.Test.YtkjhofbjjogmlaaYA
namespace Go.Proofs.Ytkjhofbjjogmlaa
open Go.RowKit Go.Lib

/-- A list of lists: the outer row is one's own, and each of its lists. -/
structure OutM (B : Nat) (out : List (Sv Int)) (A : Option Addr) (c : Nat) (W : World) : Prop where
  o : W.ownsRow B 23 1 (.slice A out.length c) out.length (out.flatMap encV)
  i : ∀ s, s ∈ out → W.ownsRow B 3 1 (.slice s.A s.l.length s.c) s.l.length (s.l.flatMap encI)
theorem OutM.call {B c : Nat} {out : List (Sv Int)} {A : Option Addr} {W W' : World} (h : OutM B out A c W) (hb : Below W.heap.size W W') : OutM B out A c W' := ⟨ownsRow_call h.o hb, fun s hs => ownsRow_call (h.i s hs) hb⟩
theorem OutM.lower {B B' c : Nat} {out : List (Sv Int)} {A : Option Addr} {W : World} (h : OutM B out A c W) (hb : B' ≤ B) : OutM B' out A c W := ⟨own_lower h.o hb, fun s hs => own_lower (h.i s hs) hb⟩
theorem OutM.nil (B : Nat) (W : World) : OutM B [] none 0 W := ⟨World.ownsRow_nil _ _ _ _, fun s hs => by cases hs⟩
/-- What Truths hands back. -/
def RetT (ls : List (List Int)) (w : World) (e : Ending) (w' : World) : Prop := ∃ (out : List (Sv Int)) (A : Option Addr) (c : Nat), e = .returned (.slice A out.length c) ∧ out.map Sv.l = ls ∧ OutM w.heap.size out A c w' ∧ Below w.heap.size w w'
theorem info_list : (Try.prog.info? 23).map (fun i => (i.zero, i.size, i.bytes)) = some (some (.slice none 0 0), 1, 24) := by kernel_rfl
theorem encV_len (x : Sv Int) : (encV x).length = 1 := rfl
theorem encV_one (x : Sv Int) : ∀ u ∈ encV x, u.oneCell' = true := by intro u hu; simp [encV, Sv.val] at hu; subst hu; rfl
/-- append of lists to a list of lists of one's own. -/
theorem wpList_app_outs {ops : Array Oper} {rest : List Oper} {o : Oper} {a : Act} {w : World} {Q : Exit → Act → World → Prop} (hgd : o.guard = none) (s x : Operand) (ho : o.op = .call { callee := .builtin .append, args := #[s, x], argTypes := #[42, 42] })
    (base : Nat) (A1 : Option Addr) (c1 : Nat) (out1 : List (Sv Int)) (hs : a.eval s = .slice A1 out1.length c1) (h1 : OutM base out1 A1 c1 w) (A2 : Option Addr) (c2 : Nat) (out2 : List (Sv Int)) (hx : a.eval x = .slice A2 out2.length c2) (h2 : OutM base out2 A2 c2 w) (hl : out1.length + out2.length ≤ 1000000) (hb : base ≤ w.heap.size)
    (h : ∀ A c w', OutM base (out1 ++ out2) A c w' → Below base w w' → w.grownBy w' (Value.slice A1 out1.length c1).ownBlock → wpList Try.prog ops Q rest (a.put o.dst (.slice A (out1 ++ out2).length c)) w') : wpList Try.prog ops Q (o :: rest) a w := by
  obtain ⟨i0, hi, hp⟩ := Option.map_eq_some_iff.1 info_list
  have hz0 := congrArg (·.1) hp
  have hz1 := congrArg (·.2.1) hp
  have hz2 := congrArg (·.2.2) hp
  dsimp only at hz0 hz1 hz2
  obtain ⟨_, _, e2, hA2, s2⟩ := Sl.of_own (enc := encV) encV_len h2.o rfl
  cases e2
  have hln : (out2.flatMap encV).length = out2.length * 1 := flat_len (enc := encV) encV_len _
  have h1c : ∀ u ∈ out2.flatMap encV, u.oneCell' = true := fun u hu => by
    obtain ⟨z, _, hz⟩ := List.mem_flatMap.1 hu
    exact encV_one z u hz
  refine wpList_append_sl hgd s x 42 ho base 23 i0 _ 1 24 Try.underlying42 hi hz0 hz1 hz2 rfl (by decide) _ out1.length _ hs h1.o A2 out2.length c2 (out2.flatMap encV) hx hln hA2 (s2.news (enc := encV) encV_len) h1c (by unfold maxLen; omega) (by omega) hb ?_
  intro v' w' hown' hg _
  have hown : w'.ownsRow base 23 1 v' (out1 ++ out2).length ((out1 ++ out2).flatMap encV) := by rw [List.length_append, List.flatMap_append]; exact hown'
  obtain ⟨A, c, hv, -, -⟩ := Sl.of_own (enc := encV) encV_len hown rfl
  subst hv
  have keep : ∀ s, s ∈ out1 ++ out2 → w'.ownsRow base 3 1 (.slice s.A s.l.length s.c) s.l.length (s.l.flatMap encI) := fun s hs => by
    have h0 : w.ownsRow base 3 1 (.slice s.A s.l.length s.c) s.l.length (s.l.flatMap encI) := by
      rcases List.mem_append.1 hs with hs | hs
      · exact h1.i s hs
      · exact h2.i s hs
    refine own_keep h0 fun j hj => hg.block j (own_at h0 hj).2.1 fun e => ?_
    obtain ⟨_, _, cs, hcs⟩ := own_at h0 hj
    obtain ⟨_, _, cs', hcs'⟩ := own_at h1.o e.symm
    exact lies_ne hcs hcs' (by decide) rfl
  exact h A c w' ⟨hown, keep⟩ ((Below.refl base w).grown hg hb (fun k e => (h1.o.lt k e).1)) hg
/-- What the loop of Truths has, behind so many onsets. -/
def RwD.upD (r : RwD) (m : Nat) (pre : List Int) (i : Nat) : List (List Int) := (r.onsL.take i).flatMap fun o => if r.notedB pre.length o then r.truthsD m (pre ++ [o]) else []
theorem onsL_length (r : RwD) : r.onsL.length = r.ws.length + 2 := by unfold RwD.onsL; simp
theorem onsL_at (r : RwD) {i : Nat} (hi : i < r.ws.length + 2) : r.onsL[i]? = some ((i : Int) - 1) := by
  unfold RwD.onsL
  rw [List.getElem?_map, List.getElem?_range hi]; rfl
theorem upD_all (r : RwD) (m : Nat) (pre : List Int) : r.upD m pre (r.ws.length + 2) = r.truthsD (m + 1) pre := by
  unfold RwD.upD
  rw [List.take_of_length_le (by rw [onsL_length]; exact Nat.le_refl _)]; rfl
theorem upD_succ (r : RwD) (m : Nat) (pre : List Int) {i : Nat} (hi : i < r.ws.length + 2) : r.upD m pre (i + 1) = r.upD m pre i ++ (if r.notedB pre.length ((i : Int) - 1) then r.truthsD m (pre ++ [(i : Int) - 1]) else []) := by
  unfold RwD.upD
  rw [List.take_add_one, onsL_at r hi, List.flatMap_append]; simp
theorem truths_length (r : RwD) : ∀ (m : Nat) (pre : List Int), (r.truthsD m pre).length ≤ (r.ws.length + 2) ^ m
  | 0, pre => by rw [RwD.truthsD]; split <;> simp
  | m + 1, pre => by
    have h : ∀ (l : List Int), (l.flatMap fun o => if r.notedB pre.length o then r.truthsD m (pre ++ [o]) else []).length ≤ l.length * (r.ws.length + 2) ^ m := fun l => by
      induction l with
      | nil => simp
      | cons o l ih =>
        rw [List.flatMap_cons, List.length_append, List.length_cons, Nat.succ_mul]
        have h1 : (if r.notedB pre.length o then r.truthsD m (pre ++ [o]) else []).length ≤ (r.ws.length + 2) ^ m := by
          split
          · exact truths_length r m _
          · simp
        omega
    have h2 := h r.onsL
    rw [onsL_length] at h2
    rw [RwD.truthsD, Nat.pow_succ, Nat.mul_comm]
    exact h2
theorem upD_length (r : RwD) (m : Nat) (pre : List Int) (i : Nat) : (r.upD m pre i).length ≤ (r.ws.length + 2) ^ (m + 1) := by
  refine Nat.le_trans ?_ (truths_length r (m + 1) pre)
  rw [← upD_all]
  unfold RwD.upD
  rw [← List.take_append_drop i (r.onsL.take (r.ws.length + 2)), List.flatMap_append, List.length_append]
  rw [List.take_take]
  by_cases h : i ≤ r.ws.length + 2
  · rw [Nat.min_eq_left h]; omega
  · rw [Nat.min_eq_right (by omega), List.take_of_length_le (by rw [onsL_length]; omega), List.take_of_length_le (by rw [onsL_length]; exact Nat.le_refl _)]; omega
end Go.Proofs.Ytkjhofbjjogmlaa

namespace Go.Proofs.Ytkjhofbjjogmlaa
open Go.RowKit Go.Lib

end Go.Proofs.Ytkjhofbjjogmlaa

namespace Go.Proofs.Ytkjhofbjjogmlaa
open Go.RowKit Go.Lib

theorem heap_lies {W W' : World} {g : Nat} {t : TypeId} {cs : Array Value} (h : Lies W g t cs) (e : W'.heap[g]? = W.heap[g]?) : Lies W' g t cs := e.trans h
theorem FdAt.keep {W W' : World} {g : Nat} (h : FdAt W g) (hk : ∀ i, g < i → i ≤ g + 1 + 1 + 1 → W'.heap[i]? = W.heap[i]?) : FdAt W' g :=
  ⟨heap_lies h.w (hk _ (by omega) (by omega)), heap_lies h.d (hk _ (by omega) (by omega)), heap_lies h.n (hk _ (by omega) (by omega))⟩
theorem FdAt.lt {W : World} {g : Nat} (h : FdAt W g) : g + 1 + 1 + 1 < W.heap.size := h.n.in_
theorem FdAt.call {W W' : World} {g : Nat} (h : FdAt W g) (hb : Below W.heap.size W W') : FdAt W' g := h.keep fun i _ h2 => hb.block i (by have := h.lt; omega)
theorem FdAt.only {W W' : World} {g gx : Nat} (h : FdAt W g) (ho : Only gx W W') (hg : gx ≤ g ∨ g + 1 + 1 + 1 < gx) : FdAt W' g := h.keep fun i _ h2 => ho.block i (by omega)
theorem FdAt.grown {W W' : World} {g b : Nat} (h : FdAt W g) (hg : W.grownBy W' (some b)) (hb : b ≤ g ∨ g + 1 + 1 + 1 < b) : FdAt W' g := h.keep fun i _ h2 => hg.block i (by have := h.lt; omega) (by simp; omega)
/-- The row of the chapter, with one note more. -/
def moreM (g : Nat) (n : Nt) (A : Option Addr) (c : Nat) : RwM := { fieldM g with ns := ⟨A, (fieldM g).ns.l ++ [n], c⟩ }
structure YesM (g gx : Nat) (n : Nt) (A : Option Addr) (c : Nat) (W : World) : Prop where
  o : Lies W gx 34 (moreM g n A c).cells.toArray
  w : Lies W (g + 1) 79 ([⟨1, true⟩, ⟨2, false⟩, ⟨0, false⟩, ⟨1, false⟩].flatMap encW).toArray
  d : Lies W (g + 1 + 1) 3 ([0, 0, 0, 0, 0].flatMap encI).toArray
  n : W.ownsRow 0 61 4 (.slice A 4 c) 4 (((fieldM g).ns.l ++ [n]).flatMap encN)
theorem YesM.call {g gx c : Nat} {n : Nt} {A : Option Addr} {W W' : World} (h : YesM g gx n A c W) (hb : Below W.heap.size W W') : YesM g gx n A c W' := ⟨h.o.call hb, h.w.call hb, h.d.call hb, ownsRow_call h.n hb⟩
theorem YesM.only {g gx gy c : Nat} {n : Nt} {A : Option Addr} {W W' : World} {cs : Array Value} (h : YesM g gx n A c W) (ho : Only gy W W') (hy : Lies W gy 34 cs) (hne : gy ≠ gx) (h1 : gy ≠ g + 1) (h2 : gy ≠ g + 1 + 1) : YesM g gx n A c W' :=
  ⟨ho.lies h.o (by omega), ho.lies h.w (by omega), ho.lies h.d (by omega), own_keep h.n fun j hj => ho.block j (fun e => by
    subst e
    obtain ⟨_, _, cs', hcs⟩ := own_at h.n hj
    exact lies_ne hy hcs row_ne_note rfl)⟩
theorem YesM.grown {g gx b c : Nat} {n : Nt} {A : Option Addr} {W W' : World} {cs : Array Value} (h : YesM g gx n A c W) (hg : W.grownBy W' (some b)) (hb : Lies W b 61 cs) (hs : cs.size < 16) : YesM g gx n A c W' := by
  have h1 : gx ≠ b := fun e => by subst e; exact lies_ne h.o hb row_ne_note rfl
  have h2 : g + 1 ≠ b := fun e => by subst e; exact lies_ne h.w hb (by decide) rfl
  have h3 : g + 1 + 1 ≠ b := fun e => by subst e; exact lies_ne h.d hb (by decide) rfl
  refine ⟨heap_lies h.o (hg.block _ h.o.in_ (by simpa using h1)), heap_lies h.w (hg.block _ h.w.in_ (by simpa using h2)), heap_lies h.d (hg.block _ h.d.in_ (by simpa using h3)), own_keep h.n fun j hj => ?_⟩
  refine hg.block j (own_at h.n hj).2.1 (fun e => ?_)
  rcases h.n.2 with ⟨hv, h0⟩ | ⟨g', cap, cur, hv, hbg, hgg, hc, hm, hcs, -⟩
  · omega
  · cases hv
    have hj' : g' = j := by simpa [Value.ownBlock] using hj
    cases e
    subst hj'
    have e2 := hgg.symm.trans hb
    simp only [Option.some.injEq, Obj.cells.injEq] at e2
    rw [e2.1] at hcs
    omega
theorem YesM.at_ {g gx c : Nat} {n : Nt} {A : Option Addr} {W : World} (h : YesM g gx n A c W) (hn : 0 ≤ n.k ∧ n.k ≤ 255) : (moreM g n A c).At W W.heap.size := by
  obtain ⟨_, _, e1, _, s1⟩ := Sl.of_own (enc := encN) (l := (fieldM g).ns.l ++ [n]) (fun _ => rfl) h.n rfl
  cases e1
  refine ⟨sl_of_lies (t := 79) (enc := encW) (fun _ => rfl) h.w, sl_of_lies (t := 3) (enc := encI) (fun _ => rfl) h.d, s1, (show (4 : Nat) ≤ 1000000 by decide), (show (5 : Nat) ≤ 1000000 by decide), (show (4 : Nat) ≤ 1000000 by decide), fun x hx => ?_⟩
  simp only [moreM, fieldM, List.cons_append, List.nil_append, List.mem_cons, List.not_mem_nil, or_false] at hx
  rcases hx with rfl | rfl | rfl | rfl
  · decide
  · decide
  · decide
  · exact hn
/-- The notes of the chapter's row, as they were made. -/
theorem FdAt.own {W : World} {g : Nat} (h : FdAt W g) : W.ownsRow (g + 1 + 1 + 1) 61 4 (.slice (some ⟨g + 1 + 1 + 1, 0, none⟩) 3 3) 3 ((fieldM g).ns.l.flatMap encN) :=
  ⟨rfl, .inr ⟨_, 3, _, rfl, Nat.le_refl _, h.n, by decide, by decide, rfl, rfl⟩⟩
end Go.Proofs.Ytkjhofbjjogmlaa

namespace Go.Proofs.Ytkjhofbjjogmlaa
open Go.RowKit Go.Lib

theorem own_one {W : World} {B g : Nat} {s : Sv Int} (h : Lies W g 23 (encV s).toArray) (hb : B ≤ g) : W.ownsRow B 23 1 (.slice (some ⟨g, 0, none⟩) 1 1) 1 ([s].flatMap encV) :=
  ⟨rfl, .inr ⟨g, 1, _, rfl, hb, h, by decide, by decide, rfl, rfl⟩⟩
set_option maxRecDepth 100000 in
set_option maxHeartbeats 4000000 in
theorem refTruths_leaf (r : RwM) (A : Option Addr) (c : Nat) (pre : List Int) (w : World) (hr : r.At w w.heap.size) (hf : r.d.fault = 0) (hA : Sl w w.heap.size 1 encI A pre) (hn : A = none → pre.length = 0 ∧ c = 0) (hl : pre.length = r.dug.l.length) (ho : ∀ o, o ∈ pre → -1 ≤ o ∧ o ≤ r.d.ws.length) :
    Calls Try.prog 24 #[.agg r.cells.toArray, .slice A pre.length c] w (RetT (r.d.truthsD 0 pre) w) := by
  obtain ⟨hok, -, -, -, -⟩ := fault_ok hf
  have hnn : r.n = (pre.length : Int) := by rw [hl]; exact hok.dug.symm
  have hp10 : pre.length ≤ 10 := by have := hok.n1; have h2 : r.d.n = r.n := rfl; omega
  have hpz : (pre.length : Int) ≤ 10 := by omega
  have l0 : Lies (w.alloc (.cells r.cells.toArray 26)) w.heap.size 26 r.cells.toArray := Lies.fresh _ _ _
  have b0 : Below w.heap.size w (w.alloc (.cells r.cells.toArray 26)) := (by repeat (first | (with_reducible assumption) | (with_reducible exact Below.refl _ _) | (with_reducible refine Below.drew ?_) | (with_reducible refine below_drewN ?_ _) | ((with_reducible refine Below.setCell ?_ ?_ _); rotate_left; focus (first | (simp; done) | (simp; omega) | omega)) | ((with_reducible refine Below.alloc ?_ ?_ _); rotate_left; focus (first | (simp; done) | (simp; omega) | omega))))
  have hP := fun W (hb : Below w.heap.size w W) => refPossible_in r A c pre W (hr.below hb hb.size) hf ((hA.below hb).more hb.size) hl ho
  have htr : r.d.truthsD 0 pre = if r.d.possB r.d.wins (truthD pre) then [pre] else [] := rfl
  rw [htr]
  generalize r.d.possB r.d.wins (truthD pre) = pb at *
  have L0 := Lib.hid l0
  have B0 := Lib.hid b0
  have HP := Lib.hid hP
  have HNE := Lib.hid hnn
  have HA := Lib.hid hA
  have HN := Lib.hid hn
  clear l0 b0 hP hnn hA hr hf hok hn hl ho htr
  cases pb with
  | false =>
    go_enter Try.func24, Try.ntmps24
    go_upto_region 1 with (fail)
    change Code.wp _ _ _ _ (w.alloc (.cells r.cells.toArray 26))
    generalize w.alloc (.cells r.cells.toArray 26) = w0 at *
    have a0 : w0.cell? ⟨w.heap.size, 0, none⟩ = some (.int .i64 pre.length) := by rw [← HNE.out]; exact L0.out.at_ 0
    go_wp2_with (first
      | (refine wpList_load_row (o := ⟨some 12, _, _, _, _, _⟩) ?_ 26 (.tmp 2) ?_ w.heap.size ?_ 26 r.cells.toArray (0, 0) _ L0.out Try.underlying26 rfl size_refrow ?_; rfl; rfl; rfl)
      | (go_at_call 23; refine (HP.out _ B0.out).mono ?_; rintro e w1 ⟨rfl, hb1⟩))
    go_ret
    exact ⟨[], none, 0, rfl, rfl, OutM.nil _ _, B0.out.trans (hb1.mono B0.out.size)⟩
  | true =>
    go_enter Try.func24, Try.ntmps24
    go_upto_region 1 with (fail)
    change Code.wp _ _ _ _ (w.alloc (.cells r.cells.toArray 26))
    generalize w.alloc (.cells r.cells.toArray 26) = w0 at *
    have a0 : w0.cell? ⟨w.heap.size, 0, none⟩ = some (.int .i64 pre.length) := by rw [← HNE.out]; exact L0.out.at_ 0
    go_upto_region 3 with (first
      | (refine wpList_load_row (o := ⟨some 12, _, _, _, _, _⟩) ?_ 26 (.tmp 2) ?_ w.heap.size ?_ 26 r.cells.toArray (0, 0) _ L0.out Try.underlying26 rfl size_refrow ?_; rfl; rfl; rfl)
      | (go_at_call 23; refine (HP.out _ B0.out).mono ?_; rintro e w1 ⟨rfl, hb1⟩))
    have B1 := Lib.hid (B0.out.trans (hb1.mono B0.out.size))
    clear hb1 a0
    have Q1 := Lib.hid ((Below.refl w1.heap.size w1).alloc (Nat.le_refl _) (.cells #[] 3))
    have O1 := Lib.hid (show (w1.alloc (.cells #[] 3)).ownsRow w.heap.size 3 1 (.slice (some ⟨w1.heap.size, 0, none⟩) 0 0) ([] : List Int).length (([] : List Int).flatMap encI) by simpa using World.ownsRow_made w1 #[] 0 B1.out.size (by decide) (by simp))
    have hQ := B1.out.trans (Q1.out.mono B1.out.size)
    have S1 := Lib.hid ((HA.out.below hQ).more hQ.size)
    have B2 := Lib.hid hQ
    clear hQ
    go_wp2_with (refine wpList_app_ints (o := ⟨some 17, _, _, _, _, _⟩) ?_ (.tmp 15) (.tmp 16) ?_ w.heap.size (.slice (some ⟨w1.heap.size, 0, none⟩) 0 0) [] ?_ O1.out A c pre ?_ HN.out S1.out (by simp; omega) B2.out.size ?_; rfl; rfl; rfl; rfl; intro v5 w5 hown5 hb5 hg5; rw [List.nil_append] at hown5; obtain ⟨A5, c5, hv5, -, -⟩ := Sl.of_own (enc := encI) (fun _ => rfl) hown5 rfl; subst hv5)
    have B5 := B2.out.trans hb5
    have hq := (Below.refl w5.heap.size w5).alloc (Nat.le_refl _) (.cells (encV (⟨A5, pre, c5⟩ : Sv Int)).toArray 23)
    go_ret
    exact ⟨[⟨A5, pre, c5⟩], some ⟨w5.heap.size, 0, none⟩, 1, rfl, rfl, ⟨own_one (Lies.fresh w5 23 _) B5.size, fun s hs => by
      simp at hs
      subst hs
      exact ownsRow_call hown5 hq⟩, B5.trans (hq.mono B5.size)⟩
set_option maxRecDepth 100000 in
set_option maxHeartbeats 16000000 in
theorem refTruths_node (r : RwM) (m : Nat) (A : Option Addr) (c : Nat) (pre : List Int) (w : World) (hr : r.At w w.heap.size) (hf : r.d.fault = 0) (hA : Sl w w.heap.size 1 encI A pre) (hn : A = none → pre.length = 0 ∧ c = 0) (hl : pre.length + (m + 1) = r.dug.l.length) (hbig : (r.d.ws.length + 2) ^ (m + 1) ≤ 400000)
    (ih : ∀ (W : World) (A' : Option Addr) (c' : Nat) (o : Int), -1 ≤ o ∧ o ≤ r.d.ws.length → Below w.heap.size w W → Sl W W.heap.size 1 encI A' (pre ++ [o]) → (A' = none → (pre ++ [o]).length = 0 ∧ c' = 0) → Calls Try.prog 24 #[.agg r.cells.toArray, .slice A' (pre ++ [o]).length c'] W (RetT (r.d.truthsD m (pre ++ [o])) W)) :
    Calls Try.prog 24 #[.agg r.cells.toArray, .slice A pre.length c] w (RetT (r.d.truthsD (m + 1) pre) w) := by
  obtain ⟨hok, -, -, -, -⟩ := fault_ok hf
  obtain ⟨N, hN⟩ : ∃ N, N = r.dug.l.length := ⟨_, rfl⟩
  have hnn : r.n = (N : Int) := by rw [hN]; exact hok.dug.symm
  have hN10 : N ≤ 10 := by have := hok.n1; have h2 : r.d.n = r.n := rfl; omega
  have hpN : pre.length < N := by omega
  have hne : ((pre.length : Int) == (N : Int)) = false := by
    have h : (pre.length : Int) ≠ (N : Int) := by omega
    simpa using h
  have hpz : (pre.length : Int) ≤ 10 := by omega
  have hY30 : r.ws.l.length ≤ 30 := hok.nw
  have hYz : (r.ws.l.length : Int) ≤ 30 := by omega
  have l0 : Lies (w.alloc (.cells r.cells.toArray 26)) w.heap.size 26 r.cells.toArray := Lies.fresh _ _ _
  have b0 : Below w.heap.size w (w.alloc (.cells r.cells.toArray 26)) := (by repeat (first | (with_reducible assumption) | (with_reducible exact Below.refl _ _) | (with_reducible refine Below.drew ?_) | (with_reducible refine below_drewN ?_ _) | ((with_reducible refine Below.setCell ?_ ?_ _); rotate_left; focus (first | (simp; done) | (simp; omega) | omega)) | ((with_reducible refine Below.alloc ?_ ?_ _); rotate_left; focus (first | (simp; done) | (simp; omega) | omega))))
  have hz0 : (w.alloc (.cells r.cells.toArray 26)).heap.size = w.heap.size + 1 := by simp
  have hnt := fun (o : Int) W (hb : Below w.heap.size w W) => refNoted_any r (pre.length : Nat) o W (hr.below hb hb.size) hf
  have hup := fun (i : Nat) (hi : i < r.ws.l.length + 2) => upD_succ r.d m pre (i := i) hi
  have hul := fun (i : Nat) => Nat.le_trans (upD_length r.d m pre i) hbig
  have htl := fun (o : Int) => Nat.le_trans (truths_length r.d m (pre ++ [o])) (Nat.le_trans (Nat.pow_le_pow_right (by omega) (Nat.le_succ m)) hbig)
  have hall : r.d.truthsD (m + 1) pre = r.d.upD m pre (r.ws.l.length + 2) := (upD_all r.d m pre).symm
  rw [hall]
  have L0 := Lib.hid l0
  have B0 := Lib.hid b0
  have HZ0 := Lib.hid hz0
  have HNT := Lib.hid hnt
  have HNE := Lib.hid hnn
  have HA := Lib.hid hA
  have HPN := Lib.hid hn
  have HUS := Lib.hid hup
  have HUL := Lib.hid hul
  have HTL := Lib.hid htl
  have IH0 := Lib.hid ih
  clear l0 b0 hz0 hnt hnn hA hr hf hok hn hl hup hul htl hall ih hbig hN
  go_enter Try.func24, Try.ntmps24
  go_upto_region 1 with (fail)
  change Code.wp _ _ _ _ (w.alloc (.cells r.cells.toArray 26))
  generalize w.alloc (.cells r.cells.toArray 26) = w0 at *
  have a0 : w0.cell? ⟨w.heap.size, 0, none⟩ = some (.int .i64 N) := by rw [← HNE.out]; exact L0.out.at_ 0
  go_wp2
  clear a0
  go_loopw [5, 6] (fun s5 s6 wr => ∃ (i : Nat) (o : Int) (A' : Option Addr) (c' : Nat) (out : List (Sv Int)), i ≤ r.ws.l.length + 2 ∧ o = (i : Int) - 1 ∧ s5 = .slice A' out.length c' ∧ s6 = .int .i64 o ∧ Aside (out.map Sv.l = r.d.upD m pre i) ∧ Aside (OutM (w.heap.size + 1) out A' c' wr) ∧ Aside (Lies wr w.heap.size 26 r.cells.toArray) ∧ Aside (Below (w.heap.size + 1) w0 wr)) (fun _ o _ => r.ws.l.length + 2 - (intOf o + 1).toNat)
  case atStart => exact ⟨0, -1, none, 0, [], by omega, rfl, rfl, rfl, rfl, OutM.nil _ _, L0.out, Below.refl _ _⟩
  case round =>
    obtain ⟨i, o, A', c', out, hi, hio, rfl, rfl, HMP, HOM, HLL, HBB⟩ := hrel
    clear L0
    have c1 : wr.cell? ⟨w.heap.size, 1, none⟩ = some (.slice r.ws.A r.ws.l.length r.ws.c) := HLL.out.at_ 1
    have hw0 := HZ0.out
    have hle : w.heap.size + 1 ≤ wr.heap.size := by have := HBB.out.size; omega
    have HLE := Lib.hid hle
    have HWR := Lib.hid (show w.heap.size ≤ wr.heap.size by omega)
    have HBW := Lib.hid (B0.out.trans (HBB.out.mono (Nat.le_succ _)))
    have HPS := Lib.hid (HA.out.below HBW.out)
    clear hw0 hle
    by_cases hlt : i < r.ws.l.length + 2
    · have hoY : o ≤ (r.ws.l.length : Int) := by omega
      have hom : -1 ≤ o := by omega
      have hus := HUS.out i hlt
      rw [← hio] at hus
      obtain ⟨y, hy⟩ : ∃ y, y = r.d.notedB (pre.length : Nat) o := ⟨_, rfl⟩
      rw [← hy] at hus
      have hn1 := HNT.out o wr HBW.out
      rw [← hy] at hn1
      have HN1 := Lib.hid hn1
      have HUSS := Lib.hid hus
      have hlo : out.length ≤ 400000 := by have h := HUL.out i; rw [← HMP.out, List.length_map] at h; exact h
      have HLO := Lib.hid hlo
      have HLT := Lib.hid (HTL.out o)
      have IH := Lib.hid (fun (W : World) (A' : Option Addr) (c' : Nat) (o : Int) (h1 : -1 ≤ o ∧ o ≤ (r.ws.l.length : Int)) (h2 : Below w.heap.size w W) (h3 : Sl W W.heap.size 1 encI A' (pre ++ [o])) (h4 : A' = none → (pre ++ [o]).length = 0 ∧ c' = 0) => (by have h := IH0.out W A' c' o h1 h2 h3 h4; rw [show (pre ++ [o]).length = pre.length + 1 by simp] at h; exact h : Calls Try.prog 24 #[.agg r.cells.toArray, .slice A' (pre.length + 1) c'] W (RetT (r.d.truthsD m (pre ++ [o])) W)))
      have HIO := Lib.hid hio
      clear hus hn1 hy hlo hio
      cases y with
      | false =>
        have HUP := Lib.hid (show r.d.upD m pre (i + 1) = r.d.upD m pre i by have h := HUSS.out; simpa using h)
        go_wp2_with (first
          | (refine wpList_load_row (o := ⟨some 26, _, _, _, _, _⟩) ?_ 26 (.tmp 2) ?_ w.heap.size ?_ 26 r.cells.toArray (0, 0) _ HLL.out Try.underlying26 rfl size_refrow ?_; rfl; rfl; rfl)
          | (go_at_call 53; refine HN1.out.mono ?_; rintro e w5 ⟨rfl, hb5⟩))
        have hb6 := hb5.mono HLE.out
        go_roundw
        case rel => exact ⟨i + 1, o + 1, A', c', out, by omega, by have h := HIO.out; omega, rfl, by go_num, (show Aside _ from HMP.out.trans HUP.out.symm), HOM.out.call hb5, HLL.out.call hb5, HBB.out.trans hb6⟩
        case measure => have h := HIO.out; simp [intOf]; omega
      | true =>
        have HUP := Lib.hid (show r.d.upD m pre (i + 1) = r.d.upD m pre i ++ r.d.truthsD m (pre ++ [o]) by have h := HUSS.out; simpa using h)
        go_upto_region 10 with (first
          | (refine wpList_load_row (o := ⟨some 26, _, _, _, _, _⟩) ?_ 26 (.tmp 2) ?_ w.heap.size ?_ 26 r.cells.toArray (0, 0) _ HLL.out Try.underlying26 rfl size_refrow ?_; rfl; rfl; rfl)
          | (go_at_call 53; refine HN1.out.mono ?_; rintro e w5 ⟨rfl, hb5⟩))
        have hb6 := hb5.mono HLE.out
        have HOM := Lib.hid (HOM.out.call hb5)
        have HLL := Lib.hid (HLL.out.call hb5)
        have HBB := Lib.hid (HBB.out.trans hb6)
        have HBW := Lib.hid (HBW.out.trans (hb5.mono HWR.out))
        have HPS := Lib.hid (HPS.out.below (hb5.mono HWR.out))
        have HLE := Lib.hid (Nat.le_trans HLE.out hb5.size)
        have HWR := Lib.hid (Nat.le_trans HWR.out hb5.size)
        clear hb5 hb6 c1 HN1 HUSS HUS HUL HTL HNT IH0
        have hr0 : ∀ V, (∃ cc : Cls (fun W => Below (w.heap.size + 1) w5 W), V = cc.val) → V.rangeAt w.heap.size 0 r.cells := by
          rintro V ⟨cc, rfl⟩
          exact Lies.range (cs := r.cells) (heap_lies HLL.out (cc.h.block w.heap.size (Nat.lt_succ_self _))) (fun j v hj => by simpa using hj)
        have HR0 := Lib.hid hr0
        clear hr0
        haveI hne5 : Nonempty (Cls (fun W => Below (w.heap.size + 1) w5 W)) := ⟨⟨w5, Below.refl _ _⟩⟩
        refine wp_region_ways3 10 [0, 1, 3, 5] (.way 2 (.way 4 (.way 6 (.way 7 (.way 8 (.way 9 .fin .fin) .fin) .fin) .fin) (.way 6 (.way 4 (.way 7 (.way 8 (.way 9 .fin .fin) .fin) .fin) .fin) .fin)) (.way 6 (.way 2 (.way 4 (.way 7 (.way 8 (.way 9 .fin .fin) .fin) .fin) .fin) .fin) .fin)) (fun W => ∃ cc : Cls (fun W => Below (w.heap.size + 1) w5 W), W = cc.val) (by kernel_rfl) (by kernel_rfl) (Cls.here (Below.refl _ _).drew) ?_
        simp only [List.filterMap_cons, List.filterMap_nil, List.take_succ_cons, List.take_zero, List.getElem?_toArray, List.getElem?_cons_zero, List.getElem?_cons_succ, List.drop_succ_cons, List.drop_zero]
        repeat (first
          | (refine wpQuiet_load_whole (o := ⟨some 32, _, _, _, _, _⟩) ?_ 26 (.tmp 2) ?_ w.heap.size 0 ?_ r.cells _ HR0.out Try.underlying26 rfl size_refrow ?_; rfl; rfl; rfl; simp only [Act.put, List.setIfInBounds_toArray, List.set_cons_zero, List.set_cons_succ])
          | go_big_quiet_step (rfl) | quiet_step (rfl))
        refine wpQuiet_nil ?_
        have D0 := Lib.hid (show Below (w.heap.size + 1) w5 w5.drew from (Below.refl _ _).drew)
        have H0 := Lib.hid (show Below w5.heap.size w5 w5.drew from (Below.refl _ _).drew)
        generalize w5.drew = d0 at *
        rw [wpWy_way]
        refine ⟨?_, ?_⟩
        · simp only [List.getElem?_toArray, List.getElem?_cons_succ, List.getElem?_cons_zero]
          go_wp2_with (fail)
          have hbq := (Below.refl d0.heap.size d0).alloc (Nat.le_refl _) (.cells #[] 3)
          have O2 := Lib.hid (show (d0.alloc (.cells #[] 3)).ownsRow w5.heap.size 3 1 (.slice (some ⟨d0.heap.size, 0, none⟩) 0 0) ([] : List Int).length (([] : List Int).flatMap encI) by simpa using World.ownsRow_made d0 #[] 0 H0.out.size (by decide) (by simp))
          have H1 := Lib.hid (H0.out.trans (hbq.mono H0.out.size))
          have D1 := Lib.hid (H1.out.mono HLE.out)
          have I2 := Lib.hid (show d0.heap.size < (d0.alloc (.cells #[] 3)).heap.size by simp)
          clear hbq
          generalize d0.alloc (.cells #[] 3) = d1 at *
          generalize d0.heap.size = g2 at *
          refine Ends.intro ⟨Cls.here D1.out, ?_⟩
          rw [wpWy_way]
          refine ⟨?_, ?_⟩
          · simp only [List.getElem?_toArray, List.getElem?_cons_succ, List.getElem?_cons_zero]
            go_wp2_with (refine wpList_app_ints (o := ⟨some 35, _, _, _, _, _⟩) ?_ (.tmp 33) (.tmp 34) ?_ w5.heap.size (.slice (some ⟨g2, 0, none⟩) 0 0) [] ?_ O2.out A c pre ?_ HPN.out ((HPS.out.below (H1.out.mono HWR.out)).more (Nat.le_trans HWR.out H1.out.size)) (by simp; omega) H1.out.size ?_; rfl; rfl; rfl; rfl; intro v4 d2 hown4 hb4 hg4)
            rw [List.nil_append] at hown4
            have H2 := Lib.hid (H1.out.trans hb4)
            have D2 := Lib.hid (H2.out.mono HLE.out)
            have O4 := Lib.hid hown4
            have ⟨A4, c4, hv4, hA4, _⟩ := Sl.of_own (enc := encI) (fun _ => rfl) hown4 rfl
            subst hv4
            clear hown4 hb4 hg4 hA4
            refine Ends.intro ⟨Cls.here D2.out, ?_⟩
            rw [wpWy_way]
            refine ⟨?_, by exact trivial⟩
            simp only [List.getElem?_toArray, List.getElem?_cons_succ, List.getElem?_cons_zero]
            go_wp2_with (fail)
            have hbq := (Below.refl d2.heap.size d2).alloc (Nat.le_refl _) (.cells #[.int .i64 o] 3)
            have E6 := Lib.hid (show Lies (d2.alloc (.cells #[.int .i64 o] 3)) d2.heap.size 3 (encI o).toArray from Lies.fresh' rfl)
            have O4 := Lib.hid (ownsRow_call O4.out hbq)
            have H3 := Lib.hid (H2.out.trans (hbq.mono H2.out.size))
            have D3 := Lib.hid (H3.out.mono HLE.out)
            have I6 := Lib.hid (show d2.heap.size < (d2.alloc (.cells #[.int .i64 o] 3)).heap.size by simp)
            clear hbq
            generalize d2.alloc (.cells #[.int .i64 o] 3) = d3 at *
            generalize d2.heap.size = g6 at *
            refine Ends.intro ⟨Cls.here D3.out, ?_⟩
            rw [wpWy_way]
            refine ⟨?_, by exact trivial⟩
            simp only [List.getElem?_toArray, List.getElem?_cons_succ, List.getElem?_cons_zero]
            go_wp2_with (refine wpList_app_ints (o := ⟨some 38, _, _, _, _, _⟩) ?_ (.tmp 35) (.tmp 37) ?_ w5.heap.size (.slice A4 pre.length c4) pre ?_ O4.out (some ⟨g6, 0, none⟩) 1 [o] ?_ (by simp) (lies_one (enc := encI) (x := o) rfl E6.out) (by simp; omega) H3.out.size ?_; rfl; rfl; rfl; rfl; intro v7 d4 hown7 hb7 hg7)
            have H4 := Lib.hid (H3.out.trans hb7)
            have D4 := Lib.hid (H4.out.mono HLE.out)
            have ⟨A7, c7, hv7, hA7, hS7⟩ := Sl.of_own (enc := encI) (fun _ => rfl) hown7 rfl
            subst hv7
            have S7 := Lib.hid hS7
            have N7 := Lib.hid hA7
            clear hown7 hb7 hg7 hA7 hS7
            refine Ends.intro ⟨Cls.here D4.out, ?_⟩
            rw [wpWy_way]
            refine ⟨?_, by exact trivial⟩
            simp only [List.getElem?_toArray, List.getElem?_cons_succ, List.getElem?_cons_zero]
            go_wp2_with (go_at_call 24; refine (IH.out d4 A7 c7 o ⟨hom, hoY⟩ (HBW.out.trans (H4.out.mono HWR.out)) S7.out N7.out).mono ?_; rintro e d5 ⟨out2, A8, c8, rfl, hls, hM, hb⟩)
            have M8 := Lib.hid (hM.lower (B' := w.heap.size + 1) (Nat.le_trans HLE.out H4.out.size))
            have LS := Lib.hid hls
            have H5 := Lib.hid (H4.out.trans (hb.mono H4.out.size))
            have D5 := Lib.hid (H5.out.mono HLE.out)
            clear hls hM hb
            refine Ends.intro ⟨Cls.here D5.out, ?_⟩
            rw [wpWy_way]
            refine ⟨?_, by exact trivial⟩
            simp only [List.getElem?_toArray, List.getElem?_cons_succ, List.getElem?_cons_zero]
            have hbd : out.length + out2.length ≤ 1000000 := by have h1 := HLO.out; have h2 := HLT.out; rw [← LS.out, List.length_map] at h2; omega
            go_wp2_with (refine wpList_app_outs (o := ⟨some 40, _, _, _, _, _⟩) ?_ (.tmp 31) (.tmp 39) ?_ (w.heap.size + 1) A' c' out ?_ (HOM.out.call H5.out) A8 c8 out2 ?_ M8.out hbd (Nat.le_trans HLE.out H5.out.size) ?_; rfl; rfl; rfl; rfl; intro A9 c9 d6 hM9 hb9 hg9)
            have M9 := Lib.hid hM9
            have L9 := Lib.hid (heap_lies (HLL.out.call H5.out) (hb9.block w.heap.size (Nat.lt_succ_self _)))
            have D6 := Lib.hid (D5.out.trans hb9)
            clear hM9 hb9 hg9
            refine Ends.intro ⟨Cls.here D6.out, ?_⟩
            rw [wpWy_fin]
            go_wp2
            go_roundw
            case rel => exact ⟨i + 1, o + 1, A9, c9, out ++ out2, by omega, by have h := HIO.out; omega, by rw [List.length_append], by go_num, (show Aside _ from by show (out ++ out2).map Sv.l = _; rw [List.map_append, HMP.out, LS.out, HUP.out]), M9.out, L9.out, HBB.out.trans D6.out⟩
            case measure => have h := HIO.out; simp [intOf]; omega
          · rw [wpWy_way]
            refine ⟨?_, by exact trivial⟩
            simp only [List.getElem?_toArray, List.getElem?_cons_succ, List.getElem?_cons_zero]
            go_wp2_with (fail)
            have hbq := (Below.refl d1.heap.size d1).alloc (Nat.le_refl _) (.cells #[.int .i64 o] 3)
            have E6 := Lib.hid (show Lies (d1.alloc (.cells #[.int .i64 o] 3)) d1.heap.size 3 (encI o).toArray from Lies.fresh' rfl)
            have O2 := Lib.hid (ownsRow_call O2.out hbq)
            have G62 := Lib.hid (show d1.heap.size ≠ g2 by have := I2.out; omega)
            have H2 := Lib.hid (H1.out.trans (hbq.mono H1.out.size))
            have D2 := Lib.hid (H2.out.mono HLE.out)
            have I6 := Lib.hid (show d1.heap.size < (d1.alloc (.cells #[.int .i64 o] 3)).heap.size by simp)
            clear hbq
            generalize d1.alloc (.cells #[.int .i64 o] 3) = d2 at *
            generalize d1.heap.size = g6 at *
            refine Ends.intro ⟨Cls.here D2.out, ?_⟩
            rw [wpWy_way]
            refine ⟨?_, by exact trivial⟩
            simp only [List.getElem?_toArray, List.getElem?_cons_succ, List.getElem?_cons_zero]
            go_wp2_with (refine wpList_app_ints (o := ⟨some 35, _, _, _, _, _⟩) ?_ (.tmp 33) (.tmp 34) ?_ w5.heap.size (.slice (some ⟨g2, 0, none⟩) 0 0) [] ?_ O2.out A c pre ?_ HPN.out ((HPS.out.below (H2.out.mono HWR.out)).more (Nat.le_trans HWR.out H2.out.size)) (by simp; omega) H2.out.size ?_; rfl; rfl; rfl; rfl; intro v4 d3 hown4 hb4 hg4)
            rw [List.nil_append] at hown4
            have H3 := Lib.hid (H2.out.trans hb4)
            have D3 := Lib.hid (H3.out.mono HLE.out)
            have O4 := Lib.hid hown4
            have E6 := Lib.hid (E6.out.grown hg4 (fun e => G62.out (by simpa [Value.ownBlock] using e)))
            have ⟨A4, c4, hv4, hA4, _⟩ := Sl.of_own (enc := encI) (fun _ => rfl) hown4 rfl
            subst hv4
            clear hown4 hb4 hg4 hA4
            refine Ends.intro ⟨Cls.here D3.out, ?_⟩
            rw [wpWy_way]
            refine ⟨?_, by exact trivial⟩
            simp only [List.getElem?_toArray, List.getElem?_cons_succ, List.getElem?_cons_zero]
            go_wp2_with (refine wpList_app_ints (o := ⟨some 38, _, _, _, _, _⟩) ?_ (.tmp 35) (.tmp 37) ?_ w5.heap.size (.slice A4 pre.length c4) pre ?_ O4.out (some ⟨g6, 0, none⟩) 1 [o] ?_ (by simp) (lies_one (enc := encI) (x := o) rfl E6.out) (by simp; omega) H3.out.size ?_; rfl; rfl; rfl; rfl; intro v7 d4 hown7 hb7 hg7)
            have H4 := Lib.hid (H3.out.trans hb7)
            have D4 := Lib.hid (H4.out.mono HLE.out)
            have ⟨A7, c7, hv7, hA7, hS7⟩ := Sl.of_own (enc := encI) (fun _ => rfl) hown7 rfl
            subst hv7
            have S7 := Lib.hid hS7
            have N7 := Lib.hid hA7
            clear hown7 hb7 hg7 hA7 hS7
            refine Ends.intro ⟨Cls.here D4.out, ?_⟩
            rw [wpWy_way]
            refine ⟨?_, by exact trivial⟩
            simp only [List.getElem?_toArray, List.getElem?_cons_succ, List.getElem?_cons_zero]
            go_wp2_with (go_at_call 24; refine (IH.out d4 A7 c7 o ⟨hom, hoY⟩ (HBW.out.trans (H4.out.mono HWR.out)) S7.out N7.out).mono ?_; rintro e d5 ⟨out2, A8, c8, rfl, hls, hM, hb⟩)
            have M8 := Lib.hid (hM.lower (B' := w.heap.size + 1) (Nat.le_trans HLE.out H4.out.size))
            have LS := Lib.hid hls
            have H5 := Lib.hid (H4.out.trans (hb.mono H4.out.size))
            have D5 := Lib.hid (H5.out.mono HLE.out)
            clear hls hM hb
            refine Ends.intro ⟨Cls.here D5.out, ?_⟩
            rw [wpWy_way]
            refine ⟨?_, by exact trivial⟩
            simp only [List.getElem?_toArray, List.getElem?_cons_succ, List.getElem?_cons_zero]
            have hbd : out.length + out2.length ≤ 1000000 := by have h1 := HLO.out; have h2 := HLT.out; rw [← LS.out, List.length_map] at h2; omega
            go_wp2_with (refine wpList_app_outs (o := ⟨some 40, _, _, _, _, _⟩) ?_ (.tmp 31) (.tmp 39) ?_ (w.heap.size + 1) A' c' out ?_ (HOM.out.call H5.out) A8 c8 out2 ?_ M8.out hbd (Nat.le_trans HLE.out H5.out.size) ?_; rfl; rfl; rfl; rfl; intro A9 c9 d6 hM9 hb9 hg9)
            have M9 := Lib.hid hM9
            have L9 := Lib.hid (heap_lies (HLL.out.call H5.out) (hb9.block w.heap.size (Nat.lt_succ_self _)))
            have D6 := Lib.hid (D5.out.trans hb9)
            clear hM9 hb9 hg9
            refine Ends.intro ⟨Cls.here D6.out, ?_⟩
            rw [wpWy_fin]
            go_wp2
            go_roundw
            case rel => exact ⟨i + 1, o + 1, A9, c9, out ++ out2, by omega, by have h := HIO.out; omega, by rw [List.length_append], by go_num, (show Aside _ from by show (out ++ out2).map Sv.l = _; rw [List.map_append, HMP.out, LS.out, HUP.out]), M9.out, L9.out, HBB.out.trans D6.out⟩
            case measure => have h := HIO.out; simp [intOf]; omega
        · rw [wpWy_way]
          refine ⟨?_, by exact trivial⟩
          simp only [List.getElem?_toArray, List.getElem?_cons_succ, List.getElem?_cons_zero]
          go_wp2_with (fail)
          have hbq := (Below.refl d0.heap.size d0).alloc (Nat.le_refl _) (.cells #[.int .i64 o] 3)
          have E6 := Lib.hid (show Lies (d0.alloc (.cells #[.int .i64 o] 3)) d0.heap.size 3 (encI o).toArray from Lies.fresh' rfl)
          have H1 := Lib.hid (H0.out.trans (hbq.mono H0.out.size))
          have D1 := Lib.hid (H1.out.mono HLE.out)
          have I6 := Lib.hid (show d0.heap.size < (d0.alloc (.cells #[.int .i64 o] 3)).heap.size by simp)
          clear hbq
          generalize d0.alloc (.cells #[.int .i64 o] 3) = d1 at *
          generalize d0.heap.size = g6 at *
          refine Ends.intro ⟨Cls.here D1.out, ?_⟩
          rw [wpWy_way]
          refine ⟨?_, by exact trivial⟩
          simp only [List.getElem?_toArray, List.getElem?_cons_succ, List.getElem?_cons_zero]
          go_wp2_with (fail)
          have hbq := (Below.refl d1.heap.size d1).alloc (Nat.le_refl _) (.cells #[] 3)
          have E6 := Lib.hid (E6.out.alloc (.cells #[] 3))
          have G62 := Lib.hid (show g6 ≠ d1.heap.size by have := I6.out; omega)
          have O2 := Lib.hid (show (d1.alloc (.cells #[] 3)).ownsRow w5.heap.size 3 1 (.slice (some ⟨d1.heap.size, 0, none⟩) 0 0) ([] : List Int).length (([] : List Int).flatMap encI) by simpa using World.ownsRow_made d1 #[] 0 H1.out.size (by decide) (by simp))
          have H2 := Lib.hid (H1.out.trans (hbq.mono H1.out.size))
          have D2 := Lib.hid (H2.out.mono HLE.out)
          have I2 := Lib.hid (show d1.heap.size < (d1.alloc (.cells #[] 3)).heap.size by simp)
          clear hbq
          generalize d1.alloc (.cells #[] 3) = d2 at *
          generalize d1.heap.size = g2 at *
          refine Ends.intro ⟨Cls.here D2.out, ?_⟩
          rw [wpWy_way]
          refine ⟨?_, by exact trivial⟩
          simp only [List.getElem?_toArray, List.getElem?_cons_succ, List.getElem?_cons_zero]
          go_wp2_with (refine wpList_app_ints (o := ⟨some 35, _, _, _, _, _⟩) ?_ (.tmp 33) (.tmp 34) ?_ w5.heap.size (.slice (some ⟨g2, 0, none⟩) 0 0) [] ?_ O2.out A c pre ?_ HPN.out ((HPS.out.below (H2.out.mono HWR.out)).more (Nat.le_trans HWR.out H2.out.size)) (by simp; omega) H2.out.size ?_; rfl; rfl; rfl; rfl; intro v4 d3 hown4 hb4 hg4)
          rw [List.nil_append] at hown4
          have H3 := Lib.hid (H2.out.trans hb4)
          have D3 := Lib.hid (H3.out.mono HLE.out)
          have O4 := Lib.hid hown4
          have E6 := Lib.hid (E6.out.grown hg4 (fun e => G62.out (by simpa [Value.ownBlock] using e)))
          have ⟨A4, c4, hv4, hA4, _⟩ := Sl.of_own (enc := encI) (fun _ => rfl) hown4 rfl
          subst hv4
          clear hown4 hb4 hg4 hA4
          refine Ends.intro ⟨Cls.here D3.out, ?_⟩
          rw [wpWy_way]
          refine ⟨?_, by exact trivial⟩
          simp only [List.getElem?_toArray, List.getElem?_cons_succ, List.getElem?_cons_zero]
          go_wp2_with (refine wpList_app_ints (o := ⟨some 38, _, _, _, _, _⟩) ?_ (.tmp 35) (.tmp 37) ?_ w5.heap.size (.slice A4 pre.length c4) pre ?_ O4.out (some ⟨g6, 0, none⟩) 1 [o] ?_ (by simp) (lies_one (enc := encI) (x := o) rfl E6.out) (by simp; omega) H3.out.size ?_; rfl; rfl; rfl; rfl; intro v7 d4 hown7 hb7 hg7)
          have H4 := Lib.hid (H3.out.trans hb7)
          have D4 := Lib.hid (H4.out.mono HLE.out)
          have ⟨A7, c7, hv7, hA7, hS7⟩ := Sl.of_own (enc := encI) (fun _ => rfl) hown7 rfl
          subst hv7
          have S7 := Lib.hid hS7
          have N7 := Lib.hid hA7
          clear hown7 hb7 hg7 hA7 hS7
          refine Ends.intro ⟨Cls.here D4.out, ?_⟩
          rw [wpWy_way]
          refine ⟨?_, by exact trivial⟩
          simp only [List.getElem?_toArray, List.getElem?_cons_succ, List.getElem?_cons_zero]
          go_wp2_with (go_at_call 24; refine (IH.out d4 A7 c7 o ⟨hom, hoY⟩ (HBW.out.trans (H4.out.mono HWR.out)) S7.out N7.out).mono ?_; rintro e d5 ⟨out2, A8, c8, rfl, hls, hM, hb⟩)
          have M8 := Lib.hid (hM.lower (B' := w.heap.size + 1) (Nat.le_trans HLE.out H4.out.size))
          have LS := Lib.hid hls
          have H5 := Lib.hid (H4.out.trans (hb.mono H4.out.size))
          have D5 := Lib.hid (H5.out.mono HLE.out)
          clear hls hM hb
          refine Ends.intro ⟨Cls.here D5.out, ?_⟩
          rw [wpWy_way]
          refine ⟨?_, by exact trivial⟩
          simp only [List.getElem?_toArray, List.getElem?_cons_succ, List.getElem?_cons_zero]
          have hbd : out.length + out2.length ≤ 1000000 := by have h1 := HLO.out; have h2 := HLT.out; rw [← LS.out, List.length_map] at h2; omega
          go_wp2_with (refine wpList_app_outs (o := ⟨some 40, _, _, _, _, _⟩) ?_ (.tmp 31) (.tmp 39) ?_ (w.heap.size + 1) A' c' out ?_ (HOM.out.call H5.out) A8 c8 out2 ?_ M8.out hbd (Nat.le_trans HLE.out H5.out.size) ?_; rfl; rfl; rfl; rfl; intro A9 c9 d6 hM9 hb9 hg9)
          have M9 := Lib.hid hM9
          have L9 := Lib.hid (heap_lies (HLL.out.call H5.out) (hb9.block w.heap.size (Nat.lt_succ_self _)))
          have D6 := Lib.hid (D5.out.trans hb9)
          clear hM9 hb9 hg9
          refine Ends.intro ⟨Cls.here D6.out, ?_⟩
          rw [wpWy_fin]
          go_wp2
          go_roundw
          case rel => exact ⟨i + 1, o + 1, A9, c9, out ++ out2, by omega, by have h := HIO.out; omega, by rw [List.length_append], by go_num, (show Aside _ from by show (out ++ out2).map Sv.l = _; rw [List.map_append, HMP.out, LS.out, HUP.out]), M9.out, L9.out, HBB.out.trans D6.out⟩
          case measure => have h := HIO.out; simp [intOf]; omega
    · obtain rfl : i = r.ws.l.length + 2 := by omega
      have hno : ¬ o ≤ (r.ws.l.length : Int) := by omega
      clear hio
      go_wp2
      go_ret
      exact ⟨out, A', c', rfl, HMP.out, HOM.out.lower (Nat.le_succ _), HBW.out⟩
/-- All possible truths that begin so, in the reference's order. -/
theorem refTruths_any (r : RwM) (hf : r.d.fault = 0) (hbig : (r.d.ws.length + 2) ^ r.d.dug.length ≤ 400000) : ∀ (m : Nat) (A : Option Addr) (c : Nat) (pre : List Int) (w : World), r.At w w.heap.size → Sl w w.heap.size 1 encI A pre → (A = none → pre.length = 0 ∧ c = 0) → pre.length + m = r.dug.l.length → (∀ o, o ∈ pre → -1 ≤ o ∧ o ≤ r.d.ws.length) →
    Calls Try.prog 24 #[.agg r.cells.toArray, .slice A pre.length c] w (RetT (r.d.truthsD m pre) w)
  | 0, A, c, pre, w, hr, hA, hn, hl, ho => refTruths_leaf r A c pre w hr hf hA hn (by omega) ho
  | m + 1, A, c, pre, w, hr, hA, hn, hl, ho => by
    have h2 : r.d.dug.length = r.dug.l.length := rfl
    refine refTruths_node r m A c pre w hr hf hA hn hl (Nat.le_trans (Nat.pow_le_pow_right (by omega) (by omega)) hbig) fun W A' c' o h1 hb hS hn' => ?_
    refine refTruths_any r hf hbig m A' c' (pre ++ [o]) W (hr.below hb hb.size) hS hn' (by simp; omega) fun x hx => ?_
    rcases List.mem_append.1 hx with hx | hx
    · exact ho x hx
    · simp at hx; subst hx; exact h1
end Go.Proofs.Ytkjhofbjjogmlaa

namespace Go.Proofs.Ytkjhofbjjogmlaa
open Go.RowKit Go.Lib

/-- A list of lists that can be read. -/
structure LlM (out : List (Sv Int)) (A : Option Addr) (W : World) : Prop where
  o : Sl W W.heap.size 1 encV A out
  i : ∀ s, s ∈ out → Sl W W.heap.size 1 encI s.A s.l
theorem OutM.ll {B c : Nat} {out : List (Sv Int)} {A : Option Addr} {W : World} (h : OutM B out A c W) : LlM out A W := by
  obtain ⟨_, _, e, -, s⟩ := Sl.of_own (enc := encV) encV_len h.o rfl
  cases e
  refine ⟨s, fun x hx => ?_⟩
  obtain ⟨_, _, e2, -, s2⟩ := Sl.of_own (enc := encI) (fun _ => rfl) (h.i x hx) rfl
  cases e2
  exact s2
theorem LlM.below {out : List (Sv Int)} {A : Option Addr} {W W' : World} (h : LlM out A W) (hb : Below W.heap.size W W') : LlM out A W' := ⟨(h.o.below hb).more hb.size, fun s hs => ((h.i s hs).below hb).more hb.size⟩
theorem LlM.at_ {out : List (Sv Int)} {A : Option Addr} {W : World} (h : LlM out A W) {i : Nat} {s : Sv Int} (hs : out[i]? = some s) : ∃ b off, A = some ⟨b, off, none⟩ ∧ b < W.heap.size ∧ W.cell? ⟨b, off + i, none⟩ = some (.slice s.A s.l.length s.c) := by
  obtain ⟨b, off, e, hb, hc⟩ := h.o.at_ hs
  exact ⟨b, off, e, hb, by have := hc 0 _ rfl; simpa [Sv.val] using this⟩
def illOf (p : Nat) (l : List Int) : Bool := decide (0 ≤ l.getD p 0)
def notOf (p : Nat) (l : List Int) : Bool := decide (l.getD p 0 < 0)
/-- What the reference knows of a plant. -/
def knownOf (ls : List (List Int)) (p : Nat) : Int := if ls.any (notOf p) = false then 1 else if ls.any (illOf p) = false then 2 else 3
theorem any_take {α : Type} (f : α → Bool) (l : List α) (i : Nat) (x : α) (h : l[i]? = some x) : (l.take (i + 1)).any f = ((l.take i).any f || f x) := by
  rw [List.take_add_one, h, List.any_append]; simp
set_option maxRecDepth 100000 in
set_option maxHeartbeats 4000000 in
theorem refKnown_any (A : Option Addr) (c : Nat) (out : List (Sv Int)) (p : Nat) (w : World) (hM : LlM out A w) (hl : out.length ≤ 1000000) (hp : ∀ s, s ∈ out → p < s.l.length ∧ s.l.length ≤ 10) :
    Calls Try.prog 29 #[.slice A out.length c, .int .i64 p] w fun e w' => e = .returned (.int .u8 (knownOf (out.map Sv.l) p)) ∧ Below w.heap.size w w' := by
  obtain ⟨ls, hls⟩ : ∃ ls, ls = out.map Sv.l := ⟨_, rfl⟩
  rw [← hls]
  have HM := Lib.hid hM
  have HP := Lib.hid hp
  have HLS := Lib.hid hls
  clear hM hp hls
  go_enter Try.func29, Try.ntmps29
  go_wp2
  go_loopw [5, 6, 7] (fun s5 s6 s7 wr => ∃ (i : Nat) (a b : Bool), i ≤ out.length ∧ s5 = .bool a ∧ s6 = .bool b ∧ s7 = .int .i64 i ∧ Aside (a = (ls.take i).any (illOf p)) ∧ Aside (b = (ls.take i).any (notOf p)) ∧ Aside (Below w.heap.size w wr)) (fun _ _ i _ => out.length - (intOf i).toNat)
  case atStart => exact ⟨0, false, false, by omega, rfl, rfl, rfl, rfl, rfl, Below.refl _ _⟩
  case round =>
    obtain ⟨i, a, b, hi, rfl, rfl, rfl, HA, HB, HW⟩ := hrel
    by_cases hlt : i < out.length
    · have hltz : (i : Int) < (out.length : Int) := by omega
      have hi0 : (0 : Int) ≤ (i : Int) := by omega
      obtain ⟨s, hs⟩ : ∃ s, out[i]? = some s := ⟨out[i], by simp [hlt]⟩
      have hms := List.mem_of_getElem? hs
      obtain ⟨hps, hs10⟩ := HP.out s hms
      have hpz : (p : Int) < (s.l.length : Int) := by omega
      have hp0 : (0 : Int) ≤ (p : Int) := by omega
      have hsz : (s.l.length : Int) ≤ 10 := by omega
      obtain ⟨ob, of, e1, hob, hc1⟩ := HM.out.at_ hs
      obtain ⟨o, ho⟩ : ∃ o, s.l[p]? = some o := ⟨s.l[p], by simp [hps]⟩
      obtain ⟨ib, ifs, e2, hib, hc2⟩ := (HM.out.i s hms).cell1 ho
      have hlx : ls[i]? = some s.l := by rw [HLS.out, List.getElem?_map, hs]; rfl
      have hog : s.l.getD p 0 = o := by rw [List.getD, ho]; rfl
      have hta := any_take (illOf p) ls i s.l hlx
      have htb := any_take (notOf p) ls i s.l hlx
      rw [← HA.out, illOf, hog] at hta
      rw [← HB.out, notOf, hog] at htb
      rw [e2] at hc1
      have r1 : wr.cell? ⟨ob, of + i, none⟩ = some (.slice (some ⟨ib, ifs, none⟩) s.l.length s.c) := (HW.out.cell (p := ⟨ob, of + i, none⟩) hob).trans hc1
      have r2 : wr.cell? ⟨ib, ifs + p, none⟩ = some (.int .i64 o) := (HW.out.cell (p := ⟨ib, ifs + p, none⟩) hib).trans hc2
      have HTA := Lib.hid hta
      have HTB := Lib.hid htb
      have HW' := Lib.hid HW.out
      subst e1
      clear hs hms ho e2 hc1 hc2 hlx hog hta htb HA HB HW
      by_cases h0 : 0 ≤ o
      · have HTA' := Lib.hid (show true = (ls.take (i + 1)).any (illOf p) by rw [HTA.out, decide_eq_true h0]; simp)
        have HTB' := Lib.hid (show b = (ls.take (i + 1)).any (notOf p) by rw [HTB.out, decide_eq_false (by omega)]; simp)
        go_wp2
        go_roundw
        case rel => exact ⟨i + 1, true, b, by omega, rfl, rfl, by go_num, HTA'.out, HTB'.out, HW'.out⟩
        case measure => simp [intOf]; omega
      · have HTA' := Lib.hid (show a = (ls.take (i + 1)).any (illOf p) by rw [HTA.out, decide_eq_false h0]; simp)
        have HTB' := Lib.hid (show true = (ls.take (i + 1)).any (notOf p) by rw [HTB.out, decide_eq_true (by omega)]; simp)
        go_wp2
        go_roundw
        case rel => exact ⟨i + 1, a, true, by omega, rfl, rfl, by go_num, HTA'.out, HTB'.out, HW'.out⟩
        case measure => simp [intOf]; omega
    · obtain rfl : i = out.length := by omega
      have hll : ls.length = out.length := by rw [HLS.out, List.length_map]
      have ha : a = ls.any (illOf p) := by rw [HA.out, ← hll, List.take_length]
      have hb : b = ls.any (notOf p) := by rw [HB.out, ← hll, List.take_length]
      have HK := Lib.hid (show knownOf ls p = if b = false then 1 else if a = false then 2 else 3 by unfold knownOf; rw [← ha, ← hb])
      have HW' := Lib.hid HW.out
      clear ha hb hll HA HB HW
      cases b with
      | false =>
        go_wp2
        go_ret
        exact ⟨by rw [HK.out]; rfl, HW'.out⟩
      | true =>
        cases a with
        | false =>
          go_wp2
          go_ret
          exact ⟨by rw [HK.out]; rfl, HW'.out⟩
        | true =>
          go_wp2
          go_ret
          exact ⟨by rw [HK.out]; rfl, HW'.out⟩
end Go.Proofs.Ytkjhofbjjogmlaa

namespace Go.Proofs.Ytkjhofbjjogmlaa
open Go.RowKit Go.Lib

/-- The earliest of the first lists, at a plant. -/
def foO (a : List Int) (ls : List (List Int)) (i p : Nat) : Int := ((ls.take i).map fun l => l.getD p 0).foldl minO (a.getD p 0)
theorem foO_succ (a : List Int) (ls : List (List Int)) (i p : Nat) (l : List Int) (h : ls[i]? = some l) : foO a ls (i + 1) p = minO (foO a ls i p) (l.getD p 0) := by
  unfold foO
  rw [List.take_add_one, h, List.map_append, List.foldl_append]; rfl
def firstL (N : Nat) (a : List Int) (ls : List (List Int)) (i : Nat) : List Int := (List.range N).map (foO a ls i)
theorem firstL_length (N : Nat) (a : List Int) (ls : List (List Int)) (i : Nat) : (firstL N a ls i).length = N := by simp [firstL]
theorem firstL_zero (a : List Int) (ls : List (List Int)) : firstL a.length a ls 0 = a := by
  unfold firstL
  refine List.ext_getElem? fun p => ?_
  by_cases h : p < a.length
  · rw [List.getElem?_map, List.getElem?_range h, List.getElem?_eq_getElem h]
    simp [foO, List.getD, h]
  · rw [List.getElem?_eq_none (by simp; omega), List.getElem?_eq_none (by omega)]
theorem upTo_at (N k : Nat) (f g : Nat → Int) (p : Nat) (hp : p < N) : (upTo N k f g).getD p 0 = if p < k then f p else g p := by
  unfold upTo
  rw [List.getD, List.getElem?_map, List.getElem?_range hp]; rfl
/-- The memory of First. -/
structure FiM (w : World) (A : Option Addr) (c N : Nat) (l : List Int) (W : World) : Prop where
  b : Below w.heap.size w W
  o : W.ownsRow w.heap.size 3 1 (.slice A l.length c) l.length (l.flatMap encI)
  hl : l.length = N
theorem FiM.at_ {w W : World} {N c p : Nat} {A : Option Addr} {l : List Int} (h : FiM w A c N l W) (hp : p < N) :
    ∃ g, A = some ⟨g, 0, none⟩ ∧ w.heap.size ≤ g ∧ W.cell? ⟨g, p, none⟩ = some (.int .i64 (l.getD p 0)) ∧ W.frozen? ⟨g, p, none⟩ = false ∧ ∀ v, FiM w A c N (l.set p v) (W.setCell ⟨g, p, none⟩ (.int .i64 v)) := by
  obtain ⟨hb, ho, hl⟩ := h
  subst hl
  obtain ⟨g, e, h1, h2, h3, h4, h5⟩ := own_setI ho hp
  refine ⟨g, e, h1, h3, h4, fun v => ?_⟩
  have hO := Only.set g p W (.int .i64 v)
  exact ⟨hO.below hb h1, by rw [List.length_set]; exact h5 v, by simp⟩
set_option maxRecDepth 100000 in
set_option maxHeartbeats 8000000 in
theorem refFirst_any (A : Option Addr) (c : Nat) (s0 : Sv Int) (rest : List (Sv Int)) (N : Nat) (w : World) (hM : LlM (s0 :: rest) A w) (hl : (s0 :: rest).length ≤ 1000000) (hp : ∀ s, s ∈ s0 :: rest → s.l.length = N) (h0n : s0.A = none → s0.l.length = 0 ∧ s0.c = 0) (hN : N ≤ 10) (hb : ∀ s, s ∈ s0 :: rest → ∀ o, o ∈ s.l → -1 ≤ o ∧ o ≤ 30) :
    Calls Try.prog 26 #[.slice A (s0 :: rest).length c] w (RetIs (firstL N s0.l (rest.map Sv.l) rest.length) w) := by
  obtain ⟨L, hL⟩ : ∃ L, L = (s0 :: rest).length := ⟨_, rfl⟩
  have hL1 : 1 ≤ L := by rw [hL]; simp
  have hLr : L = rest.length + 1 := by rw [hL]; simp
  obtain ⟨ls, hls⟩ : ∃ ls, ls = rest.map Sv.l := ⟨_, rfl⟩
  have hlz : (L : Int) ≤ 1000000 := by omega
  have hL0 : (0 : Int) < (L : Int) := by omega
  obtain ⟨ob, of, e1, hob, hc0⟩ := hM.at_ (i := 0) (s := s0) rfl
  rw [← hL, ← hls]
  have h0 := hp s0 (by simp)
  have HM := Lib.hid hM
  have HP := Lib.hid hp
  have HB' := Lib.hid hb
  have HLS := Lib.hid hls
  have HLR := Lib.hid hLr
  have H0N := Lib.hid h0n
  have HH0 := Lib.hid h0
  rw [Nat.add_zero] at hc0
  subst e1
  have hob2 := hob
  clear hM hp hb hls h0n h0 hl
  go_enter Try.func26, Try.ntmps26
  have Q1 := Lib.hid ((Below.refl w.heap.size w).alloc (Nat.le_refl _) (.cells #[] 3))
  have O1 := Lib.hid (show (w.alloc (.cells #[] 3)).ownsRow w.heap.size 3 1 (.slice (some ⟨w.heap.size, 0, none⟩) 0 0) ([] : List Int).length (([] : List Int).flatMap encI) by simpa using World.ownsRow_made w #[] 0 (Nat.le_refl _) (by decide) (by simp))
  have c0 : w.cell? ⟨ob, of, none⟩ = some (.slice s0.A s0.l.length s0.c) := hc0
  clear hc0
  go_upto_region 2 with (refine wpList_app_ints (o := ⟨some 11, _, _, _, _, _⟩) ?_ (.tmp 7) (.tmp 10) ?_ w.heap.size (.slice (some ⟨w.heap.size, 0, none⟩) 0 0) [] ?_ O1.out s0.A s0.c s0.l ?_ H0N.out (((HM.out.i s0 (by simp)).below Q1.out).more Q1.out.size) (by have := HH0.out; simp; omega) Q1.out.size ?_; rfl; rfl; rfl; rfl; intro v5 w5 hown5 hb5 hg5; rw [List.nil_append] at hown5; obtain ⟨A5, c5, hv5, -, -⟩ := Sl.of_own (enc := encI) (fun _ => rfl) hown5 rfl; subst hv5)
  have hF0 : FiM w A5 c5 N (firstL N s0.l ls 0) w5 := by
    refine ⟨Q1.out.trans hb5, ?_, firstL_length _ _ _ _⟩
    have e : firstL N s0.l ls 0 = s0.l := by rw [← HH0.out]; exact firstL_zero _ _
    rw [e]; exact hown5
  have HF0 := Lib.hid hF0
  rw [HH0.out]
  clear hown5 hb5 hg5 c0 Q1 O1 hF0
  go_wp2
  go_loopw [4, 5, 6] (fun s4 _ _ wr => ∃ j : Nat, j + 1 ≤ L ∧ s4 = .int .i64 ((j + 1 : Nat) : Int) ∧ Aside (FiM w A5 c5 N (firstL N s0.l ls j) wr)) (fun i _ _ _ => L - (intOf i).toNat)
  case atStart => exact ⟨0, by omega, rfl, HF0.out⟩
  case round =>
    obtain ⟨j, hj, rfl, HB⟩ := hrel
    by_cases hlt : j + 1 < L
    · have hltz : ((j + 1 : Nat) : Int) < (L : Int) := by omega
      have hj0 : (0 : Int) ≤ ((j + 1 : Nat) : Int) := by omega
      have hjr : j < rest.length := by have := HLR.out; omega
      obtain ⟨s, hs⟩ : ∃ s, rest[j]? = some s := ⟨rest[j], by simp [hjr]⟩
      have hsm : s ∈ s0 :: rest := List.mem_cons.2 (.inr (List.mem_of_getElem? hs))
      obtain ⟨ob', of', e2, hob', hcj⟩ := HM.out.at_ (i := j + 1) (s := s) (by simpa using hs)
      cases e2
      have hsl := HP.out s hsm
      have hsb := HB'.out s hsm
      have hsi := HM.out.i s hsm
      have hsuc : ∀ p, foO s0.l ls (j + 1) p = minO (foO s0.l ls j p) (s.l.getD p 0) := fun p => foO_succ _ _ _ _ _ (by rw [HLS.out, List.getElem?_map, hs]; rfl)
      have HSL := Lib.hid hsl
      have HSB := Lib.hid hsb
      have HSI := Lib.hid hsi
      have HSU := Lib.hid hsuc
      have HCJ := Lib.hid hcj
      have hstart : FiM w A5 c5 N (upTo N 0 (foO s0.l ls (j + 1)) (foO s0.l ls j)) wr := by rw [upTo_zero]; exact HB.out
      have HST := Lib.hid hstart
      clear hs hsm hsl hsb hsi hsuc hcj hob' hstart HB HF0
      go_wp2
      go_loopw [5, 6] (fun s5 _ wr => ∃ p : Nat, p ≤ N ∧ s5 = .int .i64 p ∧ Aside (FiM w A5 c5 N (upTo N p (foO s0.l ls (j + 1)) (foO s0.l ls j)) wr)) (fun i _ _ => N - (intOf i).toNat)
      case atStart => exact ⟨0, by omega, rfl, HST.out⟩
      case round =>
        obtain ⟨p, hp, rfl, HB⟩ := hrel
        by_cases hpt : p < N
        · have hptz : (p : Int) < (N : Int) := by omega
          have hp0 : (0 : Int) ≤ (p : Int) := by omega
          obtain ⟨o, ho⟩ : ∃ o, s.l[p]? = some o := ⟨s.l[p]'(by rw [HSL.out]; exact hpt), by simp⟩
          have hob := HSB.out o (List.mem_of_getElem? ho)
          obtain ⟨ib, ifs, e3, hib, hc3⟩ := HSI.out.cell1 ho
          have hog : s.l.getD p 0 = o := by rw [List.getD, ho]; rfl
          have hsl := HSL.out
          have hpl : (p : Int) < (s.l.length : Int) := by omega
          have r1 : wr.cell? ⟨ob, of + (j + 1), none⟩ = some (.slice (some ⟨ib, ifs, none⟩) s.l.length s.c) := by rw [← e3]; exact (HB.out.b.cell (p := ⟨ob, of + (j + 1), none⟩) hob2).trans HCJ.out
          have r2 : wr.cell? ⟨ib, ifs + p, none⟩ = some (.int .i64 o) := (HB.out.b.cell (p := ⟨ib, ifs + p, none⟩) hib).trans hc3
          obtain ⟨g, e4, hg, r3, hfz, hset⟩ := HB.out.at_ hpt
          rw [upTo_at _ _ _ _ _ hpt, if_neg (Nat.lt_irrefl p)] at r3
          obtain ⟨cur, hcur⟩ : ∃ cur, cur = foO s0.l ls j p := ⟨_, rfl⟩
          rw [← hcur] at r3
          have hnx := HSU.out p
          rw [hog, ← hcur] at hnx
          have hskip : foO s0.l ls (j + 1) p = cur → FiM w A5 c5 N (upTo N (p + 1) (foO s0.l ls (j + 1)) (foO s0.l ls j)) wr := fun h => by rw [← upTo_skip _ _ _ _ (by rw [h, hcur])]; exact HB.out
          have hsto : foO s0.l ls (j + 1) p = o → FiM w A5 c5 N (upTo N (p + 1) (foO s0.l ls (j + 1)) (foO s0.l ls j)) (wr.setCell ⟨g, p, none⟩ (.int .i64 o)) := fun h => by rw [← upTo_set, h]; exact hset o
          have HSK := Lib.hid hskip
          have HSO := Lib.hid hsto
          have HNX := Lib.hid hnx
          subst e4
          clear ho hog hc3 hib e3 hsl hset hcur hnx hskip hsto HB HST
          by_cases h0 : 0 ≤ o
          · by_cases h1 : cur < 0
            · have HT := Lib.hid (HSO.out (by rw [HNX.out]; unfold minO; rw [if_pos ⟨h0, .inl h1⟩]))
              go_wp2
              go_roundw
              case rel => exact ⟨p + 1, by omega, by go_num, HT.out⟩
              case measure => simp [intOf]; omega
            · by_cases h2 : o < cur
              · have HT := Lib.hid (HSO.out (by rw [HNX.out]; unfold minO; rw [if_pos ⟨h0, .inr h2⟩]))
                go_wp2
                go_roundw
                case rel => exact ⟨p + 1, by omega, by go_num, HT.out⟩
                case measure => simp [intOf]; omega
              · have HT := Lib.hid (HSK.out (by rw [HNX.out]; unfold minO; rw [if_neg (show ¬ (0 ≤ o ∧ (cur < 0 ∨ o < cur)) from by omega)]))
                go_wp2
                go_roundw
                case rel => exact ⟨p + 1, by omega, by go_num, HT.out⟩
                case measure => simp [intOf]; omega
          · have HT := Lib.hid (HSK.out (by rw [HNX.out]; unfold minO; rw [if_neg (show ¬ (0 ≤ o ∧ (cur < 0 ∨ o < cur)) from by omega)]))
            go_wp2
            go_roundw
            case rel => exact ⟨p + 1, by omega, by go_num, HT.out⟩
            case measure => simp [intOf]; omega
        · obtain rfl : p = N := by omega
          have hend : FiM w A5 c5 p (firstL p s0.l ls (j + 1)) wr := by have h := HB.out; rw [upTo_all] at h; exact h
          have HE := Lib.hid hend
          clear hend HB HST
          go_wp2
          go_roundw
          case rel => exact ⟨j + 1, by omega, by go_num, HE.out⟩
          case measure => simp [intOf]; omega
    · have hjl : j = rest.length := by have := HLR.out; omega
      have hend : RetIs (firstL N s0.l ls rest.length) w (.returned (.slice A5 N c5)) wr := by
        rw [← hjl]
        have h := HB.out
        obtain ⟨A', c', e1, hn, hS⟩ := Sl.of_own (enc := encI) (fun _ => rfl) h.o rfl
        cases e1
        rw [h.hl] at hn
        refine ⟨A5, c5, by rw [firstL_length], fun e => ?_, hS, h.b⟩
        rw [firstL_length]
        exact hn e
      have HE := Lib.hid hend
      clear hend HB HF0
      go_wp2
      go_ret
      exact HE.out
end Go.Proofs.Ytkjhofbjjogmlaa

namespace Go.Proofs.Ytkjhofbjjogmlaa
open Go.RowKit Go.Lib

def RwD.srcWAt (r : RwD) (l : List Int) (p : Nat) (k : Int) (q : Nat) : Bool := decide (q ≠ p) && decide (max ((p : Int) - q) ((q : Int) - p) ≤ (r.wk k).f) && stB (r.dg q) k && decide (0 ≤ l.getD q 0) && decide (IntKind.i64.wrap (l.getD q 0 + r.lag) ≤ k)
def RwD.srcW (r : RwD) (l : List Int) (p : Nat) (k : Int) : Bool := (List.range r.dug.length).any (r.srcWAt l p k)
/-- What Comes says, of whatever list. -/
def RwD.comesW (r : RwD) (l : List Int) (p : Nat) (k : Int) : Bool := stB (r.dg p) k && (r.srcW l p k || r.reachB p k)
set_option maxRecDepth 100000 in
set_option maxHeartbeats 8000000 in
theorem Comes_wild (r : RwM) (A : Option Addr) (c : Nat) (l : List Int) (p k : Nat) (w : World) (hr : r.At w w.heap.size) (hok : r.d.Ok) (hA : Sl w w.heap.size 1 encI A l) (hl : l.length = r.dug.l.length) (hp : p < r.dug.l.length) (hk : k ≤ r.ws.l.length) (hk1 : 1 ≤ k) (hst : stB (r.d.dg (p : Nat)) (k : Nat) = true) :
    Calls Try.prog 54 #[.agg r.cells.toArray, .slice A l.length c, .int .i64 p, .int .i64 k] w fun e w' => e = .returned (.bool (r.d.comesW l p k)) ∧ Below w.heap.size w w' := by
  obtain ⟨N, hN⟩ : ∃ N, N = r.dug.l.length := ⟨_, rfl⟩
  have hnn : r.n = (N : Int) := by rw [hN]; exact hok.dug.symm
  have hN10 : N ≤ 10 := by have := hok.n1; have h2 : r.d.n = r.n := rfl; omega
  have hY30 : r.ws.l.length ≤ 30 := hok.nw
  have l0 : Lies (w.alloc (.cells r.cells.toArray 26)) w.heap.size 26 r.cells.toArray := Lies.fresh _ _ _
  have b0 : Below w.heap.size w (w.alloc (.cells r.cells.toArray 26)) := (by repeat (first | (with_reducible assumption) | (with_reducible exact Below.refl _ _) | (with_reducible refine Below.drew ?_) | (with_reducible refine below_drewN ?_ _) | ((with_reducible refine Below.setCell ?_ ?_ _); rotate_left; focus (first | (simp; done) | (simp; omega) | omega)) | ((with_reducible refine Below.alloc ?_ ?_ _); rotate_left; focus (first | (simp; done) | (simp; omega) | omega))))
  obtain ⟨j, hj⟩ : ∃ j, k = j + 1 := ⟨k - 1, by omega⟩
  obtain ⟨x, hx⟩ : ∃ x, r.ws.l[j]? = some x := ⟨r.ws.l[j]'(by omega), by simp⟩
  have hwk : r.d.wk (k : Nat) = x := by
    unfold RwD.wk
    rw [show ((k : Int) - 1).toNat = j by omega, List.getD, show r.d.ws[j]? = some x from hx]; rfl
  have hx10 := hok.wk x (List.mem_of_getElem? hx)
  obtain ⟨tb, off, hWA, htb, e0, e1⟩ := hr.ws.cellW hx
  have hfall : r.d.comesW l p k = (r.d.srcW l p k || r.d.reachB p k) := by
    unfold RwD.comesW
    rw [hst]; rfl
  have hreach : r.d.reachB p k = (x.o && (decide ((p : Int) < x.f) || decide ((N : Int) - 1 - p < x.f))) := by
    unfold RwD.reachB
    rw [hwk, show r.d.n = (N : Int) from hnn]
    congr 1
    rw [Bool.eq_iff_iff, Bool.or_eq_true, decide_eq_true_eq, decide_eq_true_eq, decide_eq_true_eq]
    omega
  have hsrc : r.d.srcW l p k = true ↔ ∃ q, q < N ∧ r.d.srcWAt l p k q = true := by
    unfold RwD.srcW
    rw [List.any_eq_true, hN]
    constructor
    · rintro ⟨q, h1, h2⟩; exact ⟨q, List.mem_range.1 h1, h2⟩
    · rintro ⟨q, h1, h2⟩; exact ⟨q, List.mem_range.2 h1, h2⟩
  have hsat : ∀ q, r.d.srcWAt l p k q = (decide (q ≠ p) && decide (max ((p : Int) - q) ((q : Int) - p) ≤ x.f) && stB (r.d.dg q) k && decide (0 ≤ l.getD q 0) && decide (IntKind.i64.wrap (l.getD q 0 + r.lag) ≤ k)) := fun q => by
    unfold RwD.srcWAt; rw [hwk]; rfl
  have hSP := fun W (hb : Below w.heap.size w W) => refStands_any r p (r.d.dg (p : Nat)) ((k : Nat) : Int) W ((hr.dug.below hb).more hb.size) (by show r.dug.l[p]? = some (r.dug.l.getD p 0); simp [List.getD, hp]) hr.ld
  rw [hst] at hSP
  have hSQ := fun (q : Nat) (hq : q < N) W (hb : Below w.heap.size w W) => refStands_any r q (r.d.dg (q : Nat)) ((k : Nat) : Int) W ((hr.dug.below hb).more hb.size) (by show r.dug.l[q]? = some (r.dug.l.getD q 0); rw [hN] at hq; simp [List.getD, hq]) hr.ld
  have hlg : 1 ≤ r.lag ∧ r.lag ≤ 30 := hok.lag
  obtain ⟨hlg0, hlg1⟩ := hlg
  rw [hfall]
  have hkz : (k : Int) ≤ 30 := by omega
  have hk0 : ((k : Int) == 0) = false := by simp; omega
  have hjz : (k : Int) - 1 = (j : Int) := by omega
  have hj0 : (0 : Int) ≤ (j : Int) := by omega
  have hjY : (j : Int) < (r.ws.l.length : Int) := by omega
  have hw1 : IntKind.i64.wrap (j : Int) = (j : Int) := IntWalk.i64_in _ (by omega)
  have hpz : (p : Int) < (N : Int) := by omega
  have hp0 : (0 : Int) ≤ (p : Int) := by omega
  have hNz : (N : Int) ≤ 10 := by omega
  have hw2 : IntKind.i64.wrap ((N : Int) - 1) = (N : Int) - 1 := IntWalk.i64_in _ (by omega)
  have hw3 : IntKind.i64.wrap ((N : Int) - 1 - (p : Int)) = (N : Int) - 1 - (p : Int) := IntWalk.i64_in _ (by omega)
  have hla : l.length = N := by omega
  have L0 := Lib.hid l0
  have B0 := Lib.hid b0
  have HSP := Lib.hid hSP
  have HSQ := Lib.hid hSQ
  have HSR := Lib.hid hsrc
  have HSA := Lib.hid hsat
  have HRE := Lib.hid hreach
  have HNE := Lib.hid hnn
  have HAA := Lib.hid hA
  have HLA := Lib.hid hla
  have htb' : tb < (w.alloc (.cells r.cells.toArray 26)).heap.size := by simp; omega
  have e0' : (w.alloc (.cells r.cells.toArray 26)).cell? ⟨tb, off + j * 2, none⟩ = some (.int .i64 x.f) := (b0.cell (p := ⟨tb, off + j * 2, none⟩) htb).trans e0
  have e1' : (w.alloc (.cells r.cells.toArray 26)).cell? ⟨tb, off + j * 2 + 1, none⟩ = some (.bool x.o) := (b0.cell (p := ⟨tb, off + j * 2 + 1, none⟩) htb).trans e1
  have HWA := Lib.hid hWA
  have HX10 := Lib.hid hx10
  clear l0 b0 hSP hSQ hsrc hsat hreach hnn hA hla hr hok hl hfall hst hwk hx e0 e1 hN hWA hp hk hj hx10 hk1
  go_enter Try.func54, Try.ntmps54
  go_upto_region 1 with (fail)
  change Code.wp _ _ _ _ (w.alloc (.cells r.cells.toArray 26))
  generalize w.alloc (.cells r.cells.toArray 26) = w0 at *
  go_upto_region 5 with (first
    | (refine wpList_load_row (o := ⟨some 17, _, _, _, _, _⟩) ?_ 26 (.tmp 4) ?_ w.heap.size ?_ 26 r.cells.toArray (0, 0) _ L0.out Try.underlying26 rfl size_refrow ?_; rfl; rfl; rfl)
    | (go_at_call 42; refine (HSP.out _ B0.out).mono ?_; rintro e w1 ⟨rfl, hb1⟩))
  have L1 := Lib.hid (L0.out.call hb1)
  have B1 := Lib.hid (B0.out.trans (hb1.mono B0.out.size))
  have g0 : w1.cell? ⟨tb, off + j * 2, none⟩ = some (.int .i64 x.f) := (hb1.cell (p := ⟨tb, off + j * 2, none⟩) htb').trans e0'
  have g1 : w1.cell? ⟨tb, off + j * 2 + 1, none⟩ = some (.bool x.o) := (hb1.cell (p := ⟨tb, off + j * 2 + 1, none⟩) htb').trans e1'
  have a1 : w1.cell? ⟨w.heap.size, 1, none⟩ = some (.slice (some ⟨tb, off, none⟩) r.ws.l.length r.ws.c) := by rw [L1.out.at_, ← HWA.out]; rfl
  clear hb1 L0 B0 e0' e1' htb' HSP
  obtain ⟨xf, xo⟩ := x
  dsimp only at g0 g1
  go_upto_region 6 with (fail)
  have M2 : CmM r ⟨xf, xo⟩ w1.heap.size A l w (w1.alloc (.cells #[.int .i64 xf, .bool xo] 76)) :=
    ⟨L1.out.alloc _, Lies.fresh _ _ _, ((HAA.out.below B1.out).more B1.out.size).alloc (Nat.le_refl _) _ |>.more (by simp), B1.out.alloc B1.out.size _⟩
  have HM2 := Lib.hid M2
  have hgw : w.heap.size < w1.heap.size := L1.out.in_
  change Code.wp _ _ _ _ (w1.alloc (.cells #[.int .i64 xf, .bool xo] 76))
  clear g0 g1 a1 M2 L1 B1
  generalize w1.alloc (.cells #[.int .i64 xf, .bool xo] 76) = w2 at *
  generalize w1.heap.size = gw at *
  have c0 : w2.cell? ⟨gw, 0, none⟩ = some (.int .i64 xf) := HM2.out.x.at_ 0
  have c1 : w2.cell? ⟨gw, 1, none⟩ = some (.bool xo) := HM2.out.x.at_ 1
  have cn : w2.cell? ⟨w.heap.size, 0, none⟩ = some (.int .i64 N) := by rw [← HNE.out]; exact HM2.out.r.at_ 0
  go_cut [45] from 28 to 45 (fun s45 wx => s45 = .bool (r.d.reachB p k) ∧ CmM r ⟨xf, xo⟩ gw A l w wx)
  case first =>
    have HRX := Lib.hid (show r.d.reachB p k = (xo && (decide ((p : Int) < xf) || decide ((N : Int) - 1 - (p : Int) < xf))) from HRE.out)
    cases xo
    · go_wp2
      go_meet
      case rel => exact ⟨by rw [HRX.out]; rfl, HM2.out⟩
    · by_cases h1 : (p : Int) < xf
      · have d1 : decide ((p : Int) < xf) = true := decide_eq_true h1
        go_wp2
        go_meet
        case rel => exact ⟨by rw [HRX.out, d1]; rfl, HM2.out⟩
      · have d1 : decide ((p : Int) < xf) = false := decide_eq_false h1
        by_cases h2 : (N : Int) - 1 - (p : Int) < xf
        · have d2 : decide ((N : Int) - 1 - (p : Int) < xf) = true := decide_eq_true h2
          go_wp2
          go_meet
          case rel => exact ⟨by rw [HRX.out, d1, d2]; rfl, HM2.out⟩
        · have d2 : decide ((N : Int) - 1 - (p : Int) < xf) = false := decide_eq_false h2
          go_wp2
          go_meet
          case rel => exact ⟨by rw [HRX.out, d1, d2]; rfl, HM2.out⟩
  case rest =>
    obtain ⟨rfl, hM⟩ := hcut
    clear c0 c1 cn HM2 hw2 hw3
    obtain ⟨rb, hrb⟩ : ∃ rb, rb = r.d.reachB p k := ⟨_, rfl⟩
    rw [← hrb]
    have HRB := Lib.hid hrb
    have HM := Lib.hid hM
    clear hM HRE hrb
    cases rb with
    | true =>
      go_wp2
      go_ret
      exact ⟨ret_bool (by rw [← HRB.out]; simp), HM.out.b⟩
    | false =>
      have hno : (r.d.srcW l p k || r.d.reachB p k) = r.d.srcW l p k := by rw [← HRB.out]; simp
      have HNN := Lib.hid hno
      clear hno
      go_wp2
      go_loopw [10] (fun s10 wr => ∃ q : Nat, q ≤ N ∧ s10 = .int .i64 q ∧ Aside (CmM r ⟨xf, xo⟩ gw A l w wr) ∧ Aside (∀ j, j < q → r.d.srcWAt l p k j = false)) (fun i _ => N - (intOf i).toNat)
      case atStart => exact ⟨0, by omega, rfl, HM.out, (show Aside _ from fun j hj => absurd hj (Nat.not_lt_zero _))⟩
      case round =>
        obtain ⟨q, hq, rfl, HB, HU⟩ := hrel
        clear HM
        have cn : wr.cell? ⟨w.heap.size, 0, none⟩ = some (.int .i64 N) := by rw [← HNE.out]; exact HB.out.r.at_ 0
        by_cases hlt : q < N
        · have hltz : (q : Int) < (N : Int) := by omega
          have hq0 : (0 : Int) ≤ (q : Int) := by omega
          have hwa : IntKind.i64.wrap ((p : Int) - (q : Int)) = (p : Int) - (q : Int) := IntWalk.i64_in _ (by omega)
          have hwb : IntKind.i64.wrap ((q : Int) - (p : Int)) = (q : Int) - (p : Int) := IntWalk.i64_in _ (by omega)
          have hla := HLA.out
          have hll : (q : Int) < (l.length : Int) := by omega
          obtain ⟨o, ho⟩ : ∃ o, l[q]? = some o := ⟨l[q]'(by omega), by simp⟩
          have hog : l.getD q 0 = o := by rw [List.getD, ho]; rfl
          have hsq := HSA.out q
          obtain ⟨z, hz⟩ : ∃ z, IntKind.i64.wrap (o + r.lag) = z := ⟨_, rfl⟩
          rw [hog, hz] at hsq
          have HST := Lib.hid (HSQ.out q hlt)
          obtain ⟨lb, lo, hAe, hlb, c78⟩ := HB.out.l.cell1 ho
          subst hAe
          have hgl : gw < wr.heap.size := HB.out.x.in_
          have hwl : w.heap.size < wr.heap.size := HB.out.r.in_
          have c65 : wr.cell? ⟨gw, 0, none⟩ = some (.int .i64 xf) := HB.out.x.at_ 0
          have c87 : wr.cell? ⟨w.heap.size, 2, none⟩ = some (.int .i64 r.lag) := HB.out.r.at_ 2
          have r65 := cell_regrown c65
          have r78 := cell_regrown c78
          have r87 := cell_regrown c87
          have hrg : ∀ V, (∃ pp : Regrown, V = Go.Sort.grow (redrawn wr pp.d) pp.os) → V.rangeAt w.heap.size 0 r.cells := by
            rintro V ⟨pp, rfl⟩
            exact Lies.range (cs := r.cells) (HB.out.r.call (below_regrown wr _ _)) (fun j v hj => by simpa using hj)
          have HRG := Lib.hid hrg
          have HSAT := Lib.hid hsq
          have hyes := fun (h : r.d.srcWAt l p k q = true) => (by rw [HNN.out, HSR.out]; exact ⟨q, hlt, h⟩ : (r.d.srcW l p k || r.d.reachB p k) = true)
          have HYE := Lib.hid hyes
          have HBR := Lib.hid (fun a b => HB.out.b.trans ((below_regrown wr a b).mono HB.out.b.size))
          clear hrg ho hog hla c65 c78 c87 hsq hyes
          go_upto_region 12 with (fail)
          clear cn hwa hwb
          by_cases e1 : q = p
          · have f1 : ((q : Int) != (p : Int)) = false := by simp [e1]
            have HNO := Lib.hid (show r.d.srcWAt l p k q = false by rw [HSAT.out, e1]; simp)
            clear e1
            refine wp_region_quiet_below (by kernel_rfl) (by kernel_rfl) ?_
            repeat (first
              | go_big_quiet_step (fail) | quiet_step (fail))
            refine wpQuiet_nil ?_
            intro wq hwq
            have D1 := Lib.hid (show Below wr.heap.size wr wq by obtain ⟨pp, rfl⟩ := hwq; exact below_regrown _ _ _)
            clear hwq r65 r78 r87
            go_wp2
            go_roundw
            case rel =>
              refine ⟨q + 1, by omega, by go_num, HB.out.call D1.out, (show Aside _ from fun j hj => ?_)⟩
              by_cases e : j = q
              · subst e; exact HNO.out
              · exact HU.out j (by omega)
            case measure => simp [intOf]; omega
          have f1 : ((q : Int) != (p : Int)) = true := by simp; omega
          by_cases e2 : max ((p : Int) - (q : Int)) ((q : Int) - (p : Int)) ≤ xf
          case neg =>
            have f2 : decide (max ((p : Int) - (q : Int)) ((q : Int) - (p : Int)) ≤ xf) = false := decide_eq_false e2
            have HNO := Lib.hid (show r.d.srcWAt l p k q = false by rw [HSAT.out, f2]; simp)
            clear e1 e2
            refine wp_region_quiet_below (by kernel_rfl) (by kernel_rfl) ?_
            repeat (first
              | go_big_quiet_step (fail) | quiet_step (fail))
            refine wpQuiet_nil ?_
            intro wq hwq
            have D1 := Lib.hid (show Below wr.heap.size wr wq by obtain ⟨pp, rfl⟩ := hwq; exact below_regrown _ _ _)
            clear hwq r65 r78 r87
            go_wp2
            go_roundw
            case rel =>
              refine ⟨q + 1, by omega, by go_num, HB.out.call D1.out, (show Aside _ from fun j hj => ?_)⟩
              by_cases e : j = q
              · subst e; exact HNO.out
              · exact HU.out j (by omega)
            case measure => simp [intOf]; omega
          have f2 : decide (max ((p : Int) - (q : Int)) ((q : Int) - (p : Int)) ≤ xf) = true := decide_eq_true e2
          have hst := HST.out
          have hsat := HSAT.out
          obtain ⟨sb, hsb⟩ : ∃ sb, sb = stB (r.d.dg (q : Nat)) (k : Nat) := ⟨_, rfl⟩
          rw [← hsb] at hst hsat
          clear HST HSAT hsb
          cases sb with
          | false =>
            have HST := Lib.hid hst
            have HNO := Lib.hid (show r.d.srcWAt l p k q = false by rw [hsat]; simp)
            clear e1 e2 hst hsat
            refine wp_region_quiet_below (by kernel_rfl) (by kernel_rfl) ?_
            repeat (first
              | (have hxx := HRG; clear HRG; refine wpQuiet_load_wholeG (o := ⟨some 69, _, _, _, _, _⟩) ?_ 26 (.tmp 4) ?_ w.heap.size 0 ?_ r.cells _ hxx.out Try.underlying26 rfl size_refrow ?_; kernel_rfl; rfl; rfl; simp only [Act.put, List.setIfInBounds_toArray, List.set_cons_zero, List.set_cons_succ]; clear hxx)
              | go_big_quiet_step ((go_at_call 42; exact Calls.regrown_of (HST.out _ (HBR.out _ _)))) | quiet_step ((go_at_call 42; exact Calls.regrown_of (HST.out _ (HBR.out _ _)))))
            refine wpQuiet_nil ?_
            intro wq hwq
            have D1 := Lib.hid (show Below wr.heap.size wr wq by obtain ⟨pp, rfl⟩ := hwq; exact below_regrown _ _ _)
            clear hwq r65 r78 r87
            go_wp2
            go_roundw
            case rel =>
              refine ⟨q + 1, by omega, by go_num, HB.out.call D1.out, (show Aside _ from fun j hj => ?_)⟩
              by_cases e : j = q
              · subst e; exact HNO.out
              · exact HU.out j (by omega)
            case measure => simp [intOf]; omega
          | true =>
            have HST := Lib.hid hst
            by_cases e4 : 0 ≤ o
            case neg =>
              have f4 : decide (0 ≤ o) = false := decide_eq_false e4
              have HNO := Lib.hid (show r.d.srcWAt l p k q = false by rw [hsat, f4]; simp)
              clear e1 e2 hst hsat e4
              refine wp_region_quiet_below (by kernel_rfl) (by kernel_rfl) ?_
              repeat (first
                | (have hxx := HRG; clear HRG; refine wpQuiet_load_wholeG (o := ⟨some 69, _, _, _, _, _⟩) ?_ 26 (.tmp 4) ?_ w.heap.size 0 ?_ r.cells _ hxx.out Try.underlying26 rfl size_refrow ?_; kernel_rfl; rfl; rfl; simp only [Act.put, List.setIfInBounds_toArray, List.set_cons_zero, List.set_cons_succ]; clear hxx)
                | go_big_quiet_step ((go_at_call 42; exact Calls.regrown_of (HST.out _ (HBR.out _ _)))) | quiet_step ((go_at_call 42; exact Calls.regrown_of (HST.out _ (HBR.out _ _)))))
              refine wpQuiet_nil ?_
              intro wq hwq
              have D1 := Lib.hid (show Below wr.heap.size wr wq by obtain ⟨pp, rfl⟩ := hwq; exact below_regrown _ _ _)
              clear hwq r65 r78 r87
              go_wp2
              go_roundw
              case rel =>
                refine ⟨q + 1, by omega, by go_num, HB.out.call D1.out, (show Aside _ from fun j hj => ?_)⟩
                by_cases e : j = q
                · subst e; exact HNO.out
                · exact HU.out j (by omega)
              case measure => simp [intOf]; omega
            have f4 : decide (0 ≤ o) = true := decide_eq_true e4
            by_cases e5 : z ≤ (k : Int)
            case neg =>
              have f5 : decide (z ≤ (k : Int)) = false := decide_eq_false e5
              have HNO := Lib.hid (show r.d.srcWAt l p k q = false by rw [hsat, f5]; simp)
              clear e1 e2 hst hsat e4 e5
              refine wp_region_quiet_below (by kernel_rfl) (by kernel_rfl) ?_
              repeat (first
                | (have hxx := HRG; clear HRG; refine wpQuiet_load_wholeG (o := ⟨some 69, _, _, _, _, _⟩) ?_ 26 (.tmp 4) ?_ w.heap.size 0 ?_ r.cells _ hxx.out Try.underlying26 rfl size_refrow ?_; kernel_rfl; rfl; rfl; simp only [Act.put, List.setIfInBounds_toArray, List.set_cons_zero, List.set_cons_succ]; clear hxx)
                | go_big_quiet_step ((go_at_call 42; exact Calls.regrown_of (HST.out _ (HBR.out _ _)))) | quiet_step ((go_at_call 42; exact Calls.regrown_of (HST.out _ (HBR.out _ _)))))
              refine wpQuiet_nil ?_
              intro wq hwq
              have D1 := Lib.hid (show Below wr.heap.size wr wq by obtain ⟨pp, rfl⟩ := hwq; exact below_regrown _ _ _)
              clear hwq r65 r78 r87
              go_wp2
              go_roundw
              case rel =>
                refine ⟨q + 1, by omega, by go_num, HB.out.call D1.out, (show Aside _ from fun j hj => ?_)⟩
                by_cases e : j = q
                · subst e; exact HNO.out
                · exact HU.out j (by omega)
              case measure => simp [intOf]; omega
            have f5 : decide (z ≤ (k : Int)) = true := decide_eq_true e5
            have HYES := Lib.hid (HYE.out (by rw [hsat, f2, f4, f5]; simp; omega))
            clear e1 e2 hst hsat e4 e5
            refine wp_region_quiet_below (by kernel_rfl) (by kernel_rfl) ?_
            repeat (first
              | (have hxx := HRG; clear HRG; refine wpQuiet_load_wholeG (o := ⟨some 69, _, _, _, _, _⟩) ?_ 26 (.tmp 4) ?_ w.heap.size 0 ?_ r.cells _ hxx.out Try.underlying26 rfl size_refrow ?_; kernel_rfl; rfl; rfl; simp only [Act.put, List.setIfInBounds_toArray, List.set_cons_zero, List.set_cons_succ]; clear hxx)
              | go_big_quiet_step ((go_at_call 42; exact Calls.regrown_of (HST.out _ (HBR.out _ _)))) | quiet_step ((go_at_call 42; exact Calls.regrown_of (HST.out _ (HBR.out _ _)))))
            refine wpQuiet_nil ?_
            intro wq hwq
            have D1 := Lib.hid (show Below wr.heap.size wr wq by obtain ⟨pp, rfl⟩ := hwq; exact below_regrown _ _ _)
            clear hwq r65 r78 r87
            go_wp2
            go_ret
            exact ⟨ret_bool HYES.out.symm, (HB.out.call D1.out).b⟩
        · obtain rfl : q = N := by omega
          have hsn : r.d.srcW l p k = false := by
            rw [Bool.eq_false_iff]
            intro h
            obtain ⟨j, hj, h2⟩ := HSR.out.1 h
            rw [HU.out j hj] at h2; cases h2
          have HSN := Lib.hid hsn
          have HB' := Lib.hid HB.out
          clear HB HU hsn
          go_wp2
          go_ret
          exact ⟨ret_bool (by rw [HNN.out, HSN.out]), HB'.out.b⟩
theorem Comes_word (r : RwM) (A : Option Addr) (c : Nat) (l : List Int) (p k : Nat) (w : World) (hr : r.At w w.heap.size) (hok : r.d.Ok) (hA : Sl w w.heap.size 1 encI A l) (hl : l.length = r.dug.l.length) (hp : p < r.dug.l.length) (hk : k ≤ r.ws.l.length) (hk1 : 1 ≤ k) :
    Calls Try.prog 54 #[.agg r.cells.toArray, .slice A l.length c, .int .i64 p, .int .i64 k] w fun e w' => e = .returned (.bool (r.d.comesW l p k)) ∧ Below w.heap.size w w' := by
  cases hst : stB (r.d.dg (p : Nat)) (k : Nat) with
  | false =>
    have e1 : r.d.comesW l p k = false := by unfold RwD.comesW; rw [hst]; rfl
    have e2 : r.d.fallB (truthD l) p k = false := by unfold RwD.fallB; rw [if_neg (by omega), hst]; rfl
    have h := Comes_no r A c l p k w hr hp hk1 hst
    rw [e1, ← e2]; exact h
  | true => exact Comes_wild r A c l p k w hr hok hA hl hp hk hk1 hst
end Go.Proofs.Ytkjhofbjjogmlaa

namespace Go.Proofs.Ytkjhofbjjogmlaa
open Go.RowKit Go.Lib

set_option maxRecDepth 100000 in
set_option maxHeartbeats 4000000 in
theorem refPossible_len (r : RwM) (A : Option Addr) (c : Nat) (l : List Int) (w : World) (_hr : r.At w w.heap.size) (hf : r.d.fault = 0) (hl : l.length ≠ r.dug.l.length) :
    Calls Try.prog 23 #[.agg r.cells.toArray, .slice A l.length c] w fun e w' => e = .returned (.bool false) ∧ Below w.heap.size w w' := by
  obtain ⟨hok, hns, -, hlw, -⟩ := fault_ok hf
  obtain ⟨N, hN⟩ : ∃ N, N = r.dug.l.length := ⟨_, rfl⟩
  have hnn : r.n = (N : Int) := by rw [hN]; exact hok.dug.symm
  have hlz : ((l.length : Int) != (N : Int)) = true := by simp; omega
  have l0 : Lies (w.alloc (.cells r.cells.toArray 26)) w.heap.size 26 r.cells.toArray := Lies.fresh _ _ _
  have b0 : Below w.heap.size w (w.alloc (.cells r.cells.toArray 26)) := (by repeat (first | (with_reducible assumption) | (with_reducible exact Below.refl _ _) | (with_reducible refine Below.drew ?_) | (with_reducible refine below_drewN ?_ _) | ((with_reducible refine Below.setCell ?_ ?_ _); rotate_left; focus (first | (simp; done) | (simp; omega) | omega)) | ((with_reducible refine Below.alloc ?_ ?_ _); rotate_left; focus (first | (simp; done) | (simp; omega) | omega))))
  have L0 := Lib.hid l0
  have B0 := Lib.hid b0
  have HNE := Lib.hid hnn
  clear l0 b0 hnn hf hok hns hlw hN hl
  go_enter Try.func23, Try.ntmps23
  go_upto_region 1 with (fail)
  change Code.wp _ _ _ _ (w.alloc (.cells r.cells.toArray 26))
  generalize w.alloc (.cells r.cells.toArray 26) = w0 at *
  have a0 : w0.cell? ⟨w.heap.size, 0, none⟩ = some (.int .i64 N) := by rw [← HNE.out]; exact L0.out.at_ 0
  go_wp2
  go_ret
  exact ⟨rfl, B0.out⟩
set_option maxRecDepth 100000 in
set_option maxHeartbeats 8000000 in
theorem refPossible_out (r : RwM) (A : Option Addr) (c : Nat) (l : List Int) (w : World) (hr : r.At w w.heap.size) (hf : r.d.fault = 0) (hA : Sl w w.heap.size 1 encI A l) (hl : l.length = r.dug.l.length) (K : Nat) (hK : K < l.length) (ho : inB (l.getD K 0) (-1) r.ws.l.length = false) :
    Calls Try.prog 23 #[.agg r.cells.toArray, .slice A l.length c] w fun e w' => e = .returned (.bool false) ∧ Below w.heap.size w w' := by
  obtain ⟨hok, hns, -, hlw, -⟩ := fault_ok hf
  obtain ⟨N, hN⟩ : ∃ N, N = r.dug.l.length := ⟨_, rfl⟩
  have hnn : r.n = (N : Int) := by rw [hN]; exact hok.dug.symm
  have hN1 : 1 ≤ N := by have := hok.n0; have h2 : r.d.n = r.n := rfl; omega
  have hN10 : N ≤ 10 := by have := hok.n1; have h2 : r.d.n = r.n := rfl; omega
  have hla : l.length = N := by omega
  have hYz : (r.ws.l.length : Int) ≤ 30 := by have h2 : r.ws.l.length ≤ 30 := hok.nw; omega
  have hlz : ((l.length : Int) != (N : Int)) = false := by rw [hla]; simp
  have hl10 : (l.length : Int) ≤ 10 := by omega
  have l0 : Lies (w.alloc (.cells r.cells.toArray 26)) w.heap.size 26 r.cells.toArray := Lies.fresh _ _ _
  have b0 : Below w.heap.size w (w.alloc (.cells r.cells.toArray 26)) := (by repeat (first | (with_reducible assumption) | (with_reducible exact Below.refl _ _) | (with_reducible refine Below.drew ?_) | (with_reducible refine below_drewN ?_ _) | ((with_reducible refine Below.setCell ?_ ?_ _); rotate_left; focus (first | (simp; done) | (simp; omega) | omega)) | ((with_reducible refine Below.alloc ?_ ?_ _); rotate_left; focus (first | (simp; done) | (simp; omega) | omega))))
  have hnt := fun (p o : Int) W (hb : Below w.heap.size w W) => refNoted_any r p o W (hr.below hb hb.size) hf
  have hco : ∀ (p k : Nat), p < N → k ≤ r.ws.l.length → ∀ W, Below w.heap.size w W → Calls Try.prog 54 #[.agg r.cells.toArray, .slice A l.length c, .int .i64 p, .int .i64 k] W fun e w' => e = .returned (.bool (if k = 0 then !r.cl else r.d.comesW l p k)) ∧ Below W.heap.size W w' := fun p k hp hk W hb => by
    by_cases h0 : k = 0
    · subst h0
      have h := Comes_zero r A l.length c p W
      rw [if_pos rfl]; exact h
    · rw [if_neg h0]
      exact Comes_word r A c l p k W (hr.below hb hb.size) hok ((hA.below hb).more hb.size) hl (by omega) hk (by omega)
  have L0 := Lib.hid l0
  have B0 := Lib.hid b0
  have HNE := Lib.hid hnn
  have HAA := Lib.hid hA
  have HLA := Lib.hid hla
  have HNT := Lib.hid hnt
  have HCO := Lib.hid hco
  have HOB := Lib.hid ho
  have hKN : K < N := by omega
  clear l0 b0 hnn hA hla hr hf hok hns hlw hN hnt hco ho hl hK
  go_enter Try.func23, Try.ntmps23
  go_upto_region 1 with (fail)
  change Code.wp _ _ _ _ (w.alloc (.cells r.cells.toArray 26))
  generalize w.alloc (.cells r.cells.toArray 26) = w0 at *
  have a0 : w0.cell? ⟨w.heap.size, 0, none⟩ = some (.int .i64 N) := by rw [← HNE.out]; exact L0.out.at_ 0
  go_wp2
  clear a0
  go_loopw [5] (fun s5 wr => ∃ k : Nat, k ≤ K ∧ s5 = .int .i64 k ∧ Aside (Below w.heap.size w wr) ∧ Aside (Lies wr w.heap.size 26 r.cells.toArray)) (fun i _ => N - (intOf i).toNat)
  case atStart => exact ⟨0, by omega, rfl, B0.out, L0.out⟩
  case round =>
    obtain ⟨k, hk, rfl, HB, HL⟩ := hrel
    clear L0 B0
    have cn : wr.cell? ⟨w.heap.size, 0, none⟩ = some (.int .i64 N) := by rw [← HNE.out]; exact HL.out.at_ 0
    · have hlt : k < N := by omega
      have hltz : (k : Int) < (N : Int) := by omega
      have hk0 : (0 : Int) ≤ (k : Int) := by omega
      have hla := HLA.out
      have hll : (k : Int) < (l.length : Int) := by omega
      obtain ⟨x, hx⟩ : ∃ x, l[k]? = some x := ⟨l[k]'(by omega), by simp⟩
      obtain ⟨lb, lo, e6, hlb, c16'⟩ := HAA.out.cell1 hx
      have hxg : l.getD k 0 = x := by rw [List.getD, hx]; rfl
      obtain ⟨y1, hy1⟩ : ∃ y, y = inB x (-1) r.ws.l.length := ⟨_, rfl⟩
      have hin : y1 = true → k < K ∧ -1 ≤ x ∧ x ≤ r.ws.l.length := fun h => by
        rw [h] at hy1
        refine ⟨?_, inB_iff.1 hy1.symm⟩
        by_cases e : k = K
        · subst e
          have := HOB.out
          rw [hxg, ← hy1] at this; cases this
        · omega
      have HIN := Lib.hid hin
      have r1 := cell_regrown ((HB.out.cell (p := ⟨lb, lo + k, none⟩) hlb).trans c16')
      have r3 := cell_regrown (show wr.cell? ⟨w.heap.size, 1, none⟩ = some (.slice r.ws.A r.ws.l.length r.ws.c) from HL.out.at_ 1)
      have hq1 : ∀ W, Calls Try.prog 33 #[.int .i64 x, .int .i64 (-1), .int .i64 r.ws.l.length] W fun e w' => e = .returned (.bool y1) ∧ Below W.heap.size W w' := fun W => by
        have h := refIn_below x (-1) r.ws.l.length W
        rwa [← hy1] at h
      have hr0 : ∀ V, (∃ p : Regrown, V = Go.Sort.grow (redrawn wr p.d) p.os) → V.rangeAt w.heap.size 0 r.cells := by
        rintro V ⟨p, rfl⟩
        exact Lies.range (cs := r.cells) (HL.out.call (below_regrown _ _ _)) (fun j v hj => by simpa using hj)
      have hn1 := fun W (hb : Below wr.heap.size wr W) => HNT.out (k : Int) x W (HB.out.trans (hb.mono HB.out.size))
      obtain ⟨y2, hy2⟩ : ∃ y, y = r.d.notedB (k : Int) x := ⟨_, rfl⟩
      rw [← hy2] at hn1
      have HN1 := Lib.hid hn1
      have HR0 := Lib.hid hr0
      have Q1 := Lib.hid hq1
      have HBB := Lib.hid HB.out
      have HLL := Lib.hid HL.out
      have hcm := fun (q : Nat) (hq : q ≤ r.ws.l.length) W (hb : Below wr.heap.size wr W) => HCO.out k q hlt hq W (HB.out.trans (hb.mono HB.out.size))
      have HCM := Lib.hid hcm
      subst e6
      clear hx c16' hxg hq1 hr0 hn1 hy1 hy2 hcm hlb hla hin HB HL
      go_upto_region 6 with (fail)
      clear cn
      cases y1 with
      | false =>
        refine wp_region_quiet_below (by kernel_rfl) (by kernel_rfl) ?_
        repeat (first
          | go_big_quiet_skip
          | (refine wpQuiet_load_wholeG (o := ⟨some 27, _, _, _, _, _⟩) ?_ 26 (.tmp 2) ?_ w.heap.size 0 ?_ r.cells _ HR0.out Try.underlying26 rfl size_refrow ?_; kernel_rfl; rfl; rfl; simp only [Act.put, List.setIfInBounds_toArray, List.set_cons_zero, List.set_cons_succ])
          | (refine wpQuiet_load_wholeG (o := ⟨some 43, _, _, _, _, _⟩) ?_ 26 (.tmp 2) ?_ w.heap.size 0 ?_ r.cells _ HR0.out Try.underlying26 rfl size_refrow ?_; kernel_rfl; rfl; rfl; simp only [Act.put, List.setIfInBounds_toArray, List.set_cons_zero, List.set_cons_succ])
          | go_big_quiet_step ((first | (go_at_call 33; exact Calls.regrown_of (Q1.out _)) | (go_at_call 53; exact Calls.regrown_of (HN1.out _ (below_regrown _ _ _))) | (go_at_call 54; exact Calls.regrown_of (HC.out _ (below_regrown _ _ _))))) | quiet_step ((first | (go_at_call 33; exact Calls.regrown_of (Q1.out _)) | (go_at_call 53; exact Calls.regrown_of (HN1.out _ (below_regrown _ _ _))) | (go_at_call 54; exact Calls.regrown_of (HC.out _ (below_regrown _ _ _))))))
        refine wpQuiet_nil ?_
        intro wq hwq
        have hbq : Below _ _ wq := (by obtain ⟨p, rfl⟩ := hwq; exact below_regrown _ _ _)
        clear hwq r1 r3
        go_wp2
        go_ret
        exact ⟨rfl, HBB.out.trans (hbq.mono HBB.out.size)⟩
      | true =>
      obtain ⟨hkK, hx0, hx1⟩ := HIN.out rfl
      cases y2 with
      | false =>
        refine wp_region_quiet_below (by kernel_rfl) (by kernel_rfl) ?_
        repeat (first
          | go_big_quiet_skip
          | (refine wpQuiet_load_wholeG (o := ⟨some 27, _, _, _, _, _⟩) ?_ 26 (.tmp 2) ?_ w.heap.size 0 ?_ r.cells _ HR0.out Try.underlying26 rfl size_refrow ?_; kernel_rfl; rfl; rfl; simp only [Act.put, List.setIfInBounds_toArray, List.set_cons_zero, List.set_cons_succ])
          | (refine wpQuiet_load_wholeG (o := ⟨some 43, _, _, _, _, _⟩) ?_ 26 (.tmp 2) ?_ w.heap.size 0 ?_ r.cells _ HR0.out Try.underlying26 rfl size_refrow ?_; kernel_rfl; rfl; rfl; simp only [Act.put, List.setIfInBounds_toArray, List.set_cons_zero, List.set_cons_succ])
          | go_big_quiet_step ((first | (go_at_call 33; exact Calls.regrown_of (Q1.out _)) | (go_at_call 53; exact Calls.regrown_of (HN1.out _ (below_regrown _ _ _))) | (go_at_call 54; exact Calls.regrown_of (HC.out _ (below_regrown _ _ _))))) | quiet_step ((first | (go_at_call 33; exact Calls.regrown_of (Q1.out _)) | (go_at_call 53; exact Calls.regrown_of (HN1.out _ (below_regrown _ _ _))) | (go_at_call 54; exact Calls.regrown_of (HC.out _ (below_regrown _ _ _))))))
        refine wpQuiet_nil ?_
        intro wq hwq
        have hbq : Below _ _ wq := (by obtain ⟨p, rfl⟩ := hwq; exact below_regrown _ _ _)
        clear hwq r1 r3
        go_wp2
        go_ret
        exact ⟨rfl, HBB.out.trans (hbq.mono HBB.out.size)⟩
      | true =>
        by_cases hneg : x < 0
        · have d0 : decide (0 ≤ x) = false := decide_eq_false (by omega)
          clear hneg
          refine wp_region_quiet_below (by kernel_rfl) (by kernel_rfl) ?_
          repeat (first
            | go_big_quiet_skip
            | (refine wpQuiet_load_wholeG (o := ⟨some 27, _, _, _, _, _⟩) ?_ 26 (.tmp 2) ?_ w.heap.size 0 ?_ r.cells _ HR0.out Try.underlying26 rfl size_refrow ?_; kernel_rfl; rfl; rfl; simp only [Act.put, List.setIfInBounds_toArray, List.set_cons_zero, List.set_cons_succ])
            | (refine wpQuiet_load_wholeG (o := ⟨some 43, _, _, _, _, _⟩) ?_ 26 (.tmp 2) ?_ w.heap.size 0 ?_ r.cells _ HR0.out Try.underlying26 rfl size_refrow ?_; kernel_rfl; rfl; rfl; simp only [Act.put, List.setIfInBounds_toArray, List.set_cons_zero, List.set_cons_succ])
            | go_big_quiet_step ((first | (go_at_call 33; exact Calls.regrown_of (Q1.out _)) | (go_at_call 53; exact Calls.regrown_of (HN1.out _ (below_regrown _ _ _))) | (go_at_call 54; exact Calls.regrown_of (HC.out _ (below_regrown _ _ _))))) | quiet_step ((first | (go_at_call 33; exact Calls.regrown_of (Q1.out _)) | (go_at_call 53; exact Calls.regrown_of (HN1.out _ (below_regrown _ _ _))) | (go_at_call 54; exact Calls.regrown_of (HC.out _ (below_regrown _ _ _))))))
          refine wpQuiet_nil ?_
          intro wq hwq
          have hbq : Below _ _ wq := (by obtain ⟨p, rfl⟩ := hwq; exact below_regrown _ _ _)
          clear hwq r1 r3
          go_wp2
          go_roundw
          case rel => exact ⟨k + 1, by omega, by go_num, HBB.out.trans (hbq.mono HBB.out.size), HLL.out.call hbq⟩
          case measure => simp [intOf]; omega
        · obtain ⟨q, hq⟩ : ∃ q : Nat, x = (q : Int) := ⟨x.toNat, by omega⟩
          have hc := HCM.out q (by omega)
          subst hq
          obtain ⟨y3, hy3⟩ : ∃ y, y = (if q = 0 then !r.cl else r.d.comesW l k q) := ⟨_, rfl⟩
          rw [← hy3] at hc
          have HC := Lib.hid hc
          clear hc hy3 hneg
          cases y3 with
          | false =>
            refine wp_region_quiet_below (by kernel_rfl) (by kernel_rfl) ?_
            repeat (first
              | go_big_quiet_skip
              | (refine wpQuiet_load_wholeG (o := ⟨some 27, _, _, _, _, _⟩) ?_ 26 (.tmp 2) ?_ w.heap.size 0 ?_ r.cells _ HR0.out Try.underlying26 rfl size_refrow ?_; kernel_rfl; rfl; rfl; simp only [Act.put, List.setIfInBounds_toArray, List.set_cons_zero, List.set_cons_succ])
              | (refine wpQuiet_load_wholeG (o := ⟨some 43, _, _, _, _, _⟩) ?_ 26 (.tmp 2) ?_ w.heap.size 0 ?_ r.cells _ HR0.out Try.underlying26 rfl size_refrow ?_; kernel_rfl; rfl; rfl; simp only [Act.put, List.setIfInBounds_toArray, List.set_cons_zero, List.set_cons_succ])
              | go_big_quiet_step ((first | (go_at_call 33; exact Calls.regrown_of (Q1.out _)) | (go_at_call 53; exact Calls.regrown_of (HN1.out _ (below_regrown _ _ _))) | (go_at_call 54; exact Calls.regrown_of (HC.out _ (below_regrown _ _ _))))) | quiet_step ((first | (go_at_call 33; exact Calls.regrown_of (Q1.out _)) | (go_at_call 53; exact Calls.regrown_of (HN1.out _ (below_regrown _ _ _))) | (go_at_call 54; exact Calls.regrown_of (HC.out _ (below_regrown _ _ _))))))
            refine wpQuiet_nil ?_
            intro wq hwq
            have hbq : Below _ _ wq := (by obtain ⟨p, rfl⟩ := hwq; exact below_regrown _ _ _)
            clear hwq r1 r3
            go_wp2
            go_ret
            exact ⟨rfl, HBB.out.trans (hbq.mono HBB.out.size)⟩
          | true =>
            refine wp_region_quiet_below (by kernel_rfl) (by kernel_rfl) ?_
            repeat (first
              | go_big_quiet_skip
              | (refine wpQuiet_load_wholeG (o := ⟨some 27, _, _, _, _, _⟩) ?_ 26 (.tmp 2) ?_ w.heap.size 0 ?_ r.cells _ HR0.out Try.underlying26 rfl size_refrow ?_; kernel_rfl; rfl; rfl; simp only [Act.put, List.setIfInBounds_toArray, List.set_cons_zero, List.set_cons_succ])
              | (refine wpQuiet_load_wholeG (o := ⟨some 43, _, _, _, _, _⟩) ?_ 26 (.tmp 2) ?_ w.heap.size 0 ?_ r.cells _ HR0.out Try.underlying26 rfl size_refrow ?_; kernel_rfl; rfl; rfl; simp only [Act.put, List.setIfInBounds_toArray, List.set_cons_zero, List.set_cons_succ])
              | go_big_quiet_step ((first | (go_at_call 33; exact Calls.regrown_of (Q1.out _)) | (go_at_call 53; exact Calls.regrown_of (HN1.out _ (below_regrown _ _ _))) | (go_at_call 54; exact Calls.regrown_of (HC.out _ (below_regrown _ _ _))))) | quiet_step ((first | (go_at_call 33; exact Calls.regrown_of (Q1.out _)) | (go_at_call 53; exact Calls.regrown_of (HN1.out _ (below_regrown _ _ _))) | (go_at_call 54; exact Calls.regrown_of (HC.out _ (below_regrown _ _ _))))))
            refine wpQuiet_nil ?_
            intro wq hwq
            have hbq : Below _ _ wq := (by obtain ⟨p, rfl⟩ := hwq; exact below_regrown _ _ _)
            clear hwq r1 r3
            go_wp2
            go_roundw
            case rel => exact ⟨k + 1, by omega, by go_num, HBB.out.trans (hbq.mono HBB.out.size), HLL.out.call hbq⟩
            case measure => simp [intOf]; omega
theorem refPossible_any (r : RwM) (A : Option Addr) (c : Nat) (l : List Int) (w : World) (hr : r.At w w.heap.size) (hf : r.d.fault = 0) (hA : Sl w w.heap.size 1 encI A l) :
    Calls Try.prog 23 #[.agg r.cells.toArray, .slice A l.length c] w fun e w' => e = .returned (.bool (r.d.proveD l)) ∧ Below w.heap.size w w' := by
  have hok := (fault_ok hf).1
  have hn : r.d.n = (r.dug.l.length : Int) := hok.dug.symm
  by_cases hl : l.length = r.dug.l.length
  · by_cases ho : ∀ o, o ∈ l → -1 ≤ o ∧ o ≤ r.d.ws.length
    · have e : r.d.proveD l = r.d.possB r.d.wins (truthD l) := by
        have h1 : r.d.onsB l = true := by
          unfold RwD.onsB
          rw [Bool.and_eq_true, decide_eq_true_eq, List.all_eq_true]
          exact ⟨by omega, fun o h => inB_iff.2 (ho o h)⟩
        unfold RwD.proveD
        rw [h1, decide_eq_true hf]; rfl
      rw [e]
      exact refPossible_in r A c l w hr hf hA hl ho
    · have e : r.d.proveD l = false := by
        rw [Bool.eq_false_iff]
        intro h
        exact ho fun o h1 => (prove_has h).2.2.2.2 o h1
      rw [e]
      obtain ⟨o, h1⟩ := Classical.not_forall.1 ho
      obtain ⟨h2, h3⟩ := Classical.not_imp.1 h1
      obtain ⟨K, hK⟩ := List.getElem?_of_mem h2
      refine refPossible_out r A c l w hr hf hA hl K (List.getElem?_eq_some_iff.1 hK).1 ?_
      rw [show l.getD K 0 = o by rw [List.getD, hK]; rfl, Bool.eq_false_iff]
      intro h
      exact h3 (inB_iff.1 h)
  · have e : r.d.proveD l = false := by
      rw [Bool.eq_false_iff]
      intro h
      exact hl (prove_has h).2.2.1
    rw [e]
    exact refPossible_len r A c l w hr hf hl
end Go.Proofs.Ytkjhofbjjogmlaa
