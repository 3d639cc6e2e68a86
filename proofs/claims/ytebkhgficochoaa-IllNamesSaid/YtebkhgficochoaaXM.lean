/- The texts UE UF UG, joined. -/
import Derived.Test.YtebkhgficochoaaXL
import Derived.Test.YtebkhgficochoaaXE
import Derived.Test.YtebkhgficochoaaXH
import Derived.Test.YtebkhgficochoaaXI
import Derived.Test.YtebkhgficochoaaXF
/- IllNames: what the examples answer. -/
namespace Go.Proofs.Ytebkhgficochoaa
open Go.RowKit Go.Lib

theorem f_best2 : fieldD.bestD fieldD.wins 2 = [0, 2] := by kernel_rfl
theorem f_best5 : fieldD.bestD fieldD.wins 5 = [] := by kernel_rfl
theorem f_ask2 : fieldD.askD 2 = true := by kernel_rfl
theorem f_ask5 : fieldD.askD 5 = true := by kernel_rfl
theorem f_ask11 : fieldD.askD 11 = false := by kernel_rfl
theorem f_most : (fieldD.illB fieldD.earliest).length = 5 := by kernel_rfl
theorem f_prove : fieldD.proveD [-1, -1, -1, 2, 1] = true := by kernel_rfl
theorem f_proveN : fieldD.proveD [-1, -1, -1, 1, 1] = false := by kernel_rfl
theorem f_sam : fieldD.proveS 1 [0, 4] = true := by kernel_rfl
theorem f_sam2 : fieldD.proveS 1 [0, 2] = false := by kernel_rfl
theorem f_sam3 : fieldD.proveS 1 [4, 0] = false := by kernel_rfl
def yesR : RwD := { fieldD with ns := fieldD.ns ++ [⟨0, 4, 0, true⟩] }
def noR : RwD := { fieldD with ns := fieldD.ns ++ [⟨3, 4, 0, true⟩] }
def noneR : RwD := ⟨1, [], 1, 0, 0, false, [0], []⟩
def longR : RwD := { fieldD with ws := List.replicate 31 ⟨0, false⟩ }
def goneR : RwD := { fieldD with dug := [0, 0, 0, 3, 0] }
def zeroR : RwD := ⟨0, [], 0, 0, 0, false, [], []⟩
theorem y_err : yesR.err = 0 := by kernel_rfl
theorem y_first : yesR.firstD = [1, 2, 2, 2, 1] := by kernel_rfl
theorem n_fault : noR.fault = 0 := by kernel_rfl
theorem n_can : noR.can = false := by kernel_rfl
theorem n_err : noR.err = 10 := by kernel_rfl
theorem n_ask1 : noR.askD 1 = true := by kernel_rfl
theorem o_err : noneR.err = 0 := by kernel_rfl
theorem o_fault : noneR.fault = 0 := by kernel_rfl
theorem o_first : noneR.firstD = [0] := by kernel_rfl
theorem o_ask0 : noneR.askD 0 = false := by kernel_rfl
theorem long_fault : longR.fault = 3 := by kernel_rfl
theorem gone_fault : goneR.fault = 1 := by kernel_rfl
theorem zero_fault : zeroR.fault = 1 := by kernel_rfl
/-- Closed, by reckoning. -/
def closedB (r : RwD) (ws : List (Int × Int)) (T : List (List Bool)) (m : Nat) (S : List Bool) : Bool := !r.canS ws S || (decide (m ≤ (r.illS ws S).length) && (r.illS ws S).all fun p => T.contains (S.set p true))
theorem closed_of {r : RwD} {ws : List (Int × Int)} {T : List (List Bool)} {m : Nat} {S : List Bool} (h : closedB r ws T m S = true) : Closed r ws T m S := fun hc => by
  unfold closedB at h
  rw [hc, Bool.not_true, Bool.false_or, Bool.and_eq_true, decide_eq_true_eq, List.all_eq_true] at h
  exact ⟨h.1, fun p hp => List.contains_iff_mem.1 (h.2 p hp)⟩
def subs5 : List (List Bool) := (List.range 32).map fun n => (List.range 10).map fun i => decide (i < 5) && decide (n / 2 ^ i % 2 = 1)
theorem f_closed : subs5.all (closedB fieldD fieldD.wins subs5 2) = true := by kernel_rfl
theorem f_two : subs5.any (fun S => fieldD.canS fieldD.wins S && decide ((fieldD.illS fieldD.wins S).length = 2)) = true := by kernel_rfl
theorem f_mem : subs5.contains (List.replicate 10 false) = true := by kernel_rfl
theorem f_least : Least fieldD fieldD.wins 2 := by
  obtain ⟨hok, -, -, hlw, -⟩ := fault_ok f_fault
  have hcl : ∀ x, x ∈ subs5 → Closed fieldD fieldD.wins subs5 2 x := fun x hx => closed_of (List.all_eq_true.1 f_closed x hx)
  refine ⟨fun t hTr ht => tried_least hok fieldD.wins_length hcl hTr _ (List.replicate 10 false) rfl (by simp) (List.contains_iff_mem.1 f_mem) (by rw [spareW_none]; exact ht), ?_⟩
  obtain ⟨x, hx, h⟩ := List.any_eq_true.1 f_two
  rw [Bool.and_eq_true, decide_eq_true_eq] at h
  exact ⟨fieldD.earlyD (spareW fieldD.wins x), early_ok fieldD _, poss_of_spare fieldD.wins_length (by decide) h.1, h.2⟩
end Go.Proofs.Ytebkhgficochoaa

/- IllNames: the walk. -/
namespace Go.Proofs.Ytebkhgficochoaa
open Go.RowKit Go.Lib

theorem heap_lies {W W' : World} {g : Nat} {t : TypeId} {cs : Array Value} (h : Lies W g t cs) (e : W'.heap[g]? = W.heap[g]?) : Lies W' g t cs := e.trans h
theorem FdAt.keep {W W' : World} {g : Nat} (h : FdAt W g) (hk : ∀ i, g < i → i ≤ g + 1 + 1 + 1 → W'.heap[i]? = W.heap[i]?) : FdAt W' g :=
  ⟨heap_lies h.w (hk _ (by omega) (by omega)), heap_lies h.d (hk _ (by omega) (by omega)), heap_lies h.n (hk _ (by omega) (by omega))⟩
theorem FdAt.lt {W : World} {g : Nat} (h : FdAt W g) : g + 1 + 1 + 1 < W.heap.size := h.n.in_
theorem FdAt.call {W W' : World} {g : Nat} (h : FdAt W g) (hb : Below W.heap.size W W') : FdAt W' g := h.keep fun i _ h2 => hb.block i (by have := h.lt; omega)
theorem FdAt.only {W W' : World} {g gx : Nat} (h : FdAt W g) (ho : Only gx W W') (hg : gx ≤ g ∨ g + 1 + 1 + 1 < gx) : FdAt W' g := h.keep fun i _ h2 => ho.block i (by omega)
theorem FdAt.grown {W W' : World} {g b : Nat} (h : FdAt W g) (hg : W.grownBy W' (some b)) (hb : b ≤ g ∨ g + 1 + 1 + 1 < b) : FdAt W' g := h.keep fun i _ h2 => hg.block i (by have := h.lt; omega) (by simp; omega)
/-- The row of the chapter, with one note more. -/
def moreM (g : Nat) (n : Nt) (A : Option Addr) (c : Nat) : RwM := { fieldM g with ns := ⟨A, (fieldM g).ns.l ++ [n], c⟩ }
structure YesM (g gx : Nat) (n : Nt) (A : Option Addr) (c : Nat) (W : World) : Prop where
  o : Lies W gx 34 (moreM g n A c).cells.toArray
  w : Lies W (g + 1) 79 ([⟨1, true⟩, ⟨2, false⟩, ⟨0, false⟩, ⟨1, false⟩].flatMap encW).toArray
  d : Lies W (g + 1 + 1) 3 ([0, 0, 0, 0, 0].flatMap encI).toArray
  n : W.ownsRow 0 61 4 (.slice A 4 c) 4 (((fieldM g).ns.l ++ [n]).flatMap encN)
theorem YesM.call {g gx c : Nat} {n : Nt} {A : Option Addr} {W W' : World} (h : YesM g gx n A c W) (hb : Below W.heap.size W W') : YesM g gx n A c W' := ⟨h.o.call hb, h.w.call hb, h.d.call hb, ownsRow_call h.n hb⟩
theorem YesM.only {g gx gy c : Nat} {n : Nt} {A : Option Addr} {W W' : World} {cs : Array Value} (h : YesM g gx n A c W) (ho : Only gy W W') (hy : Lies W gy 34 cs) (hne : gy ≠ gx) (h1 : gy ≠ g + 1) (h2 : gy ≠ g + 1 + 1) : YesM g gx n A c W' :=
  ⟨ho.lies h.o (by omega), ho.lies h.w (by omega), ho.lies h.d (by omega), own_keep h.n fun j hj => ho.block j (fun e => by
    subst e
    obtain ⟨_, _, cs', hcs⟩ := own_at h.n hj
    exact lies_ne hy hcs row_ne_note rfl)⟩
theorem YesM.grown {g gx b c : Nat} {n : Nt} {A : Option Addr} {W W' : World} {cs : Array Value} (h : YesM g gx n A c W) (hg : W.grownBy W' (some b)) (hb : Lies W b 61 cs) (hs : cs.size < 16) : YesM g gx n A c W' := by
  have h1 : gx ≠ b := fun e => by subst e; exact lies_ne h.o hb row_ne_note rfl
  have h2 : g + 1 ≠ b := fun e => by subst e; exact lies_ne h.w hb (by decide) rfl
  have h3 : g + 1 + 1 ≠ b := fun e => by subst e; exact lies_ne h.d hb (by decide) rfl
  refine ⟨heap_lies h.o (hg.block _ h.o.in_ (by simpa using h1)), heap_lies h.w (hg.block _ h.w.in_ (by simpa using h2)), heap_lies h.d (hg.block _ h.d.in_ (by simpa using h3)), own_keep h.n fun j hj => ?_⟩
  refine hg.block j (own_at h.n hj).2.1 (fun e => ?_)
  rcases h.n.2 with ⟨hv, h0⟩ | ⟨g', cap, cur, hv, hbg, hgg, hc, hm, hcs, -⟩
  · omega
  · cases hv
    have hj' : g' = j := by simpa [Value.ownBlock] using hj
    cases e
    subst hj'
    have e2 := hgg.symm.trans hb
    simp only [Option.some.injEq, Obj.cells.injEq] at e2
    rw [e2.1] at hcs
    omega
theorem YesM.at_ {g gx c : Nat} {n : Nt} {A : Option Addr} {W : World} (h : YesM g gx n A c W) (hn : 0 ≤ n.k ∧ n.k ≤ 255) : (moreM g n A c).At W W.heap.size := by
  obtain ⟨_, _, e1, _, s1⟩ := Sl.of_own (enc := encN) (l := (fieldM g).ns.l ++ [n]) (fun _ => rfl) h.n rfl
  cases e1
  refine ⟨sl_of_lies (t := 79) (enc := encW) (fun _ => rfl) h.w, sl_of_lies (t := 3) (enc := encI) (fun _ => rfl) h.d, s1, (show (4 : Nat) ≤ 1000000 by decide), (show (5 : Nat) ≤ 1000000 by decide), (show (4 : Nat) ≤ 1000000 by decide), fun x hx => ?_⟩
  simp only [moreM, fieldM, List.cons_append, List.nil_append, List.mem_cons, List.not_mem_nil, or_false] at hx
  rcases hx with rfl | rfl | rfl | rfl
  · decide
  · decide
  · decide
  · exact hn
/-- The notes of the chapter's row, as they were made. -/
theorem FdAt.own {W : World} {g : Nat} (h : FdAt W g) : W.ownsRow (g + 1 + 1 + 1) 61 4 (.slice (some ⟨g + 1 + 1 + 1, 0, none⟩) 3 3) 3 ((fieldM g).ns.l.flatMap encN) :=
  ⟨rfl, .inr ⟨_, 3, _, rfl, Nat.le_refl _, h.n, by decide, by decide, rfl, rfl⟩⟩
/-- Behind an append to its notes, and the store into its box. -/
theorem yes_mk {g gx c : Nat} {n : Nt} {A : Option Addr} {W W' : World} (hf : FdAt W g) (hx : Lies W gx 34 (fieldM g).cells.toArray) (hlt : g + 1 + 1 + 1 < gx) (hg : W.grownBy W' (some (g + 1 + 1 + 1))) (ho : W'.ownsRow (g + 1 + 1 + 1) 61 4 (.slice A 4 c) 4 (((fieldM g).ns.l ++ [n]).flatMap encN)) :
    YesM g gx n A c (W'.setCell ⟨gx, 7, none⟩ (.slice A 4 c)) := by
  have hX : Lies W' gx 34 (fieldM g).cells.toArray := heap_lies hx (hg.block _ hx.in_ (by simp; omega))
  have hO := Only.set gx 7 W' (.slice A 4 c)
  refine ⟨?_, hO.lies (heap_lies hf.w (hg.block _ hf.w.in_ (by simp))) (by omega), hO.lies (heap_lies hf.d (hg.block _ hf.d.in_ (by simp))) (by omega), ?_⟩
  · have h7 := hX.set 7 (.slice A 4 c)
    unfold moreM RwM.cells at *
    simp at h7 ⊢
    exact h7
  · refine own_lower (own_keep ho fun j hj => hO.block j (fun e => ?_)) (Nat.zero_le _)
    subst e
    obtain ⟨_, _, cs, hcs⟩ := own_at ho hj
    exact lies_ne hX hcs row_ne_note rfl
/-- A note more, behind those of the chapter's row. -/
theorem wpList_app_field {ops : Array Oper} {rest : List Oper} {o : Oper} {a : Act} {w : World} {Q : Exit → Act → World → Prop} (hgd : o.guard = none) (s x : Operand) (ho : o.op = .call { callee := .builtin .append, args := #[s, x], argTypes := #[32, 32] })
    (g gx b : Nat) (n : Nt) (hs : a.eval s = .slice (some ⟨g + 1 + 1 + 1, 0, none⟩) 3 3) (hx : a.eval x = .slice (some ⟨b, 0, none⟩) 1 1) (hF : FdAt w g) (hX : Lies w gx 34 (fieldM g).cells.toArray) (hlt : g + 1 + 1 + 1 < gx) (hL : Lies w b 61 (encN n).toArray)
    (h : ∀ A c w', w'.ownsRow (g + 1 + 1 + 1) 61 4 (.slice A 4 c) 4 (((fieldM g).ns.l ++ [n]).flatMap encN) → Below (g + 1 + 1 + 1) w w' → w.grownBy w' (some (g + 1 + 1 + 1)) → w'.cell? ⟨gx, 7, none⟩ = some (.slice (some ⟨g + 1 + 1 + 1, 0, none⟩) 3 3) → w'.frozen? ⟨gx, 7, none⟩ = false → wpList Try.prog ops Q rest (a.put o.dst (.slice A 4 c)) w') : wpList Try.prog ops Q (o :: rest) a w := by
  refine wpList_app_notes hgd s x ho (g + 1 + 1 + 1) (.slice (some ⟨g + 1 + 1 + 1, 0, none⟩) 3 3) (fieldM g).ns.l hs hF.own (some ⟨b, 0, none⟩) 1 [n] hx (by simp) (lies_one rfl hL) (show 3 + 1 ≤ 1000 by decide) (Nat.le_of_lt hF.lt) ?_
  intro v' w' hown hb hg
  obtain ⟨A, c, hv, -, -⟩ := Sl.of_own (enc := encN) (l := (fieldM g).ns.l ++ [n]) (fun _ => rfl) hown rfl
  have hv' : v' = .slice A 4 c := hv
  subst hv'
  have hg' : w.grownBy w' (some (g + 1 + 1 + 1)) := hg
  have hX' := heap_lies hX (hg'.block gx hX.in_ (by simp; omega))
  exact h A c w' hown hb hg' (hX'.at_ 7) (hX'.free 7)
/-- Another row of the law's own. -/
def noneM (z : Nat) : RwM := ⟨1, ⟨none, [], 0⟩, 1, 0, 0, false, ⟨some ⟨z, 0, none⟩, [0], 1⟩, ⟨none, [], 0⟩⟩
theorem noneM_at {z : Nat} {W : World} (h : Lies W z 3 (vals [0])) : (noneM z).At W W.heap.size :=
  ⟨Sl.nil, lies_q (q := [0]) h, Sl.nil, (show (0 : Nat) ≤ 1000000 by decide), (show (1 : Nat) ≤ 1000000 by decide), (show (0 : Nat) ≤ 1000000 by decide), fun x hx => by cases hx⟩
def zeroM : RwM := ⟨0, ⟨none, [], 0⟩, 0, 0, 0, false, ⟨none, [], 0⟩, ⟨none, [], 0⟩⟩
theorem zeroM_at {W : World} : zeroM.At W W.heap.size :=
  ⟨Sl.nil, Sl.nil, Sl.nil, (show (0 : Nat) ≤ 1000000 by decide), (show (0 : Nat) ≤ 1000000 by decide), (show (0 : Nat) ≤ 1000000 by decide), fun x hx => by cases hx⟩
def weeks31 : Array Value := ((List.replicate 31 (⟨0, false⟩ : Wk)).flatMap encW).toArray
def longM (g m : Nat) : RwM := { fieldM g with ws := ⟨some ⟨m, 0, none⟩, List.replicate 31 ⟨0, false⟩, 31⟩ }
theorem longM_at {g m : Nat} {W : World} (h : FdAt W g) (hm : Lies W m 79 weeks31) : (longM g m).At W W.heap.size :=
  ⟨sl_of_lies (t := 79) (enc := encW) (fun _ => rfl) hm, h.at_.dug, h.at_.ns, (show (31 : Nat) ≤ 1000000 by decide), h.at_.ld, h.at_.ln, h.at_.kn⟩
def goneM (g : Nat) : RwM := { fieldM g with dug := ⟨some ⟨g + 1 + 1, 0, none⟩, [0, 0, 0, 3, 0], 5⟩ }
theorem goneM_at {g : Nat} {W : World} (h : FdAt W g) : (goneM g).At (W.setCell ⟨g + 1 + 1, 3, none⟩ (.int .i64 3)) (W.setCell ⟨g + 1 + 1, 3, none⟩ (.int .i64 3)).heap.size := by
  have hO := Only.set (g + 1 + 1) 3 W (.int .i64 3)
  have hd := h.d.set 3 (.int .i64 3)
  refine ⟨sl_of_lies (t := 79) (enc := encW) (fun _ => rfl) (hO.lies h.w (by omega)), lies_q (q := [0, 0, 0, 3, 0]) hd, sl_of_lies (t := 61) (enc := encN) (fun _ => rfl) (hO.lies h.n (by omega)), h.at_.lw, (show (5 : Nat) ≤ 1000000 by decide), h.at_.ln, h.at_.kn⟩
theorem make_weeks31 (w : World) : (Instr.makeSlice 31 (.int .i64 31) (.int .i64 31)).run Try.prog w = .ok (.slice (some ⟨w.heap.size, 0, none⟩) 31 31) (w.alloc (.cells weeks31 79)) := by
  kernel_rfl
theorem field_prove (g b c : Nat) (l : List Int) (bo : Bool) (W : World) (h : FdAt W g) (hL : Lies W b 3 (vals l)) (hl : l.length ≤ 1000000) (hp : fieldD.proveD l = bo) : Calls Try.prog 20 #[.agg (fieldM g).cells.toArray, .slice (some ⟨b, 0, none⟩) l.length c] W fun e w' => e = .returned (.bool bo) ∧ Below W.heap.size W w' := by
  have := ProveTruth_any (fieldM g) (some ⟨b, 0, none⟩) c l W h.at_ (lies_q (q := l) hL) hl
  rwa [fieldM_d, hp] at this
theorem field_psam (g b c : Nat) (k : Int) (l : List Int) (bo : Bool) (W : World) (h : FdAt W g) (hL : Lies W b 3 (vals l)) (hl : l.length ≤ 1000000) (hp : fieldD.proveS k l = bo) : Calls Try.prog 32 #[.agg (fieldM g).cells.toArray, .int .i64 k, .slice (some ⟨b, 0, none⟩) l.length c] W fun e w' => e = .returned (.bool bo) ∧ Below W.heap.size W w' := by
  have := ProveSample_any (fieldM g) k (some ⟨b, 0, none⟩) c l W h.at_ (lies_q (q := l) hL) hl
  rwa [fieldM_d, hp] at this
theorem check_of {q : RwM} {W : World} (h : q.At W W.heap.size) {k : Int} (hk : q.d.fault = k) : Calls Try.prog 17 #[.agg q.cells.toArray] W fun e w' => e = .returned (.int .i64 k) ∧ Below W.heap.size W w' := by
  have := CheckRow_any q W h
  rwa [hk] at this
theorem field_count (g : Nat) (W : World) (h : FdAt W g) : Calls Try.prog 28 #[.agg (fieldM g).cells.toArray] W fun e w' => e = .returned (.tuple #[.int .i64 2, .int .i64 5, .int .i64 0]) ∧ Below W.heap.size W w' := by
  refine (Count_yes (fieldM g) W h.at_ (by rw [fieldM_d]; exact f_err)).mono ?_
  rintro e w' ⟨m, rfl, hm, hb⟩
  rw [fieldM_d] at hm ⊢
  rw [f_most, hm.uniq f_least]
  exact ⟨rfl, hb⟩
theorem field_sam (g : Nat) (k : Int) (l : List Int) (W : World) (h : FdAt W g) (ha : fieldD.askD k = true) (hl : fieldD.bestD fieldD.wins k = l) : Calls Try.prog 31 #[.agg (fieldM g).cells.toArray, .int .i64 k] W (RetE l W) := by
  have := Sample_yes (fieldM g) k W h.at_ (by rw [fieldM_d]; exact f_fault) (by rw [fieldM_d]; exact ha) (by rw [fieldM_d]; exact f_can)
  rwa [fieldM_d, hl] at this
end Go.Proofs.Ytebkhgficochoaa

/- IllNames: the walk. -/
namespace Go.Proofs.Ytebkhgficochoaa
open Go.RowKit Go.Lib

theorem size_rowM (q : RwM) : (Try.prog.info? 34).map (·.size) = some q.cells.length := size_row
theorem field_cells (g : Nat) (j : Nat) : (fieldM g).cells.toArray[j]? = (fieldM g).cells[j]? := by simp
theorem yes_first {g gx c : Nat} {A : Option Addr} {W : World} (h : YesM g gx ⟨0, 4, 0, true⟩ A c W) : Calls Try.prog 19 #[.agg (moreM g ⟨0, 4, 0, true⟩ A c).cells.toArray] W (RetE [1, 2, 2, 2, 1] W) := by
  have := First_yes (moreM g ⟨0, 4, 0, true⟩ A c) W (h.at_ (by decide)) y_err
  rwa [show (moreM g ⟨0, 4, 0, true⟩ A c).d.firstD = [1, 2, 2, 2, 1] from y_first] at this
theorem no_first {g gx c : Nat} {A : Option Addr} {W : World} (h : YesM g gx ⟨3, 4, 0, true⟩ A c W) : Calls Try.prog 19 #[.agg (moreM g ⟨3, 4, 0, true⟩ A c).cells.toArray] W (NoE 10 W) := by
  have he : (moreM g ⟨3, 4, 0, true⟩ A c).d.err = 10 := n_err
  have := First_no (moreM g ⟨3, 4, 0, true⟩ A c) W (h.at_ (by decide)) (by rw [he]; decide)
  rwa [he] at this
theorem no_count {g gx c : Nat} {A : Option Addr} {W : World} (h : YesM g gx ⟨3, 4, 0, true⟩ A c W) : Calls Try.prog 28 #[.agg (moreM g ⟨3, 4, 0, true⟩ A c).cells.toArray] W (NoC 10 W) := by
  have he : (moreM g ⟨3, 4, 0, true⟩ A c).d.err = 10 := n_err
  have := Count_no (moreM g ⟨3, 4, 0, true⟩ A c) W (h.at_ (by decide)) (by rw [he]; decide)
  rwa [he] at this
theorem no_sample {g gx c : Nat} {A : Option Addr} {W : World} (h : YesM g gx ⟨3, 4, 0, true⟩ A c W) : Calls Try.prog 31 #[.agg (moreM g ⟨3, 4, 0, true⟩ A c).cells.toArray, .int .i64 1] W (NoE 10 W) :=
  Sample_sick (moreM g ⟨3, 4, 0, true⟩ A c) 1 W (h.at_ (by decide)) n_fault n_ask1 n_can
theorem none_first {z : Nat} {W : World} (h : Lies W z 3 (vals [0])) : Calls Try.prog 19 #[.agg (noneM z).cells.toArray] W (RetE [0] W) := by
  have := First_yes (noneM z) W (noneM_at h) o_err
  rwa [show (noneM z).d.firstD = [0] from o_first] at this
theorem none_sample {z : Nat} {W : World} (h : Lies W z 3 (vals [0])) : Calls Try.prog 31 #[.agg (noneM z).cells.toArray, .int .i64 0] W (NoE 2 W) := Sample_out (noneM z) 0 W (noneM_at h) o_fault o_ask0
attribute [local go_sem] make_weeks31
set_option maxRecDepth 100000 in
set_option maxHeartbeats 32000000 in
theorem IllNames_walk (w : World) : Calls Try.prog 6 #[] w fun e w' => e = .returned (.bool true) ∧ Below w.heap.size w w' := by
  have hi : ∀ (A : Option Addr) (c g : Nat) (q : List Int) (W : World), q.length ≤ 1000000 → Sl W W.heap.size 1 encI A q → Lies W g 3 (vals q) → Calls Try.prog 25 #[.slice A q.length c, .slice (some ⟨g, 0, none⟩) q.length q.length] W fun e w' => e = .returned (.bool true) ∧ Below W.heap.size W w' := fun A c g q W hq h1 h2 =>
    ints_yes A (some ⟨g, 0, none⟩) c q.length q W h1 (lies_q (q := q) h2) hq
  have HI := Lib.hid hi
  clear hi
  go_enter Try.func6, Try.ntmps6
  go_upto_region 2 with (first
    | (go_at_call 37; refine (field_any _).mono ?_; rintro e w1 ⟨rfl, hd1, hb1⟩)
    | (go_at_call 28; refine (field_count _ _ hd1).mono ?_; rintro e w2 ⟨rfl, hb2⟩))
  have B2 := Lib.hid (hb1.trans (hb2.mono hb1.size))
  clear hb1 hb2 hd1
  go_upto_region 3 with (first
    | (go_at_call 37; refine (field_any _).mono ?_; rintro e w3 ⟨rfl, hd1, hb1⟩)
    | (go_at_call 31; refine (field_sam _ 2 [0, 2] _ hd1 f_ask2 f_best2).mono ?_; rintro e w4 ⟨A3, c3, rfl, hA3, hS3, hb2⟩))
  have S3 := Lib.hid hS3
  have B4 := Lib.hid (B2.out.trans ((hb1.trans (hb2.mono hb1.size)).mono B2.out.size))
  clear hb1 hb2 hd1 hS3 hA3 B2
  go_upto_region 4 with (first
    | (go_at_call 37; refine (field_any _).mono ?_; rintro e w5 ⟨rfl, hd1, hb1⟩)
    | (go_at_call 31; refine (field_sam _ 5 [] _ hd1 f_ask5 f_best5).mono ?_; rintro e w6 ⟨A4, c4, rfl, hA4, hS4, hb2⟩))
  have hb6 := hb1.trans (hb2.mono hb1.size)
  have D6 := Lib.hid hb6
  have B6 := Lib.hid (B4.out.trans (hb6.mono B4.out.size))
  clear hb1 hb2 hd1 hS4 hA4 B4 hb6
  go_upto_region 5 with (first
    | ((fail_if_success (have hxx := D7)); go_at_call 37; refine (field_any _).mono ?_; rintro e w7 ⟨rfl, hf7, hb7⟩; have D7 := Lib.hid (D6.out.trans (hb7.mono D6.out.size)))
    | (go_at_call 37; refine (field_any _).mono ?_; rintro e w8 ⟨rfl, hf8, hb8⟩; have Z0 := Lib.hid (show Lies ((w8.alloc (.cells zrow.toArray 34)).alloc (.cells zrow.toArray 34)) w8.heap.size 34 zrow.toArray from (Lies.fresh _ _ _).alloc _); have Z1 := Lib.hid (show Lies ((w8.alloc (.cells zrow.toArray 34)).alloc (.cells zrow.toArray 34)) (w8.heap.size + 1) 34 zrow.toArray from Lies.fresh' (by simp)))
    | (refine wpList_store_cells (o := ⟨none, .store 34 (.tmp 8) _, _, _, _, _⟩) ?_ 34 (.tmp 8) (.tmp 44) ?_ w8.heap.size 0 ?_ 34 zrow (fieldM w6.heap.size).cells ?_ Z0.out (by simp [zrow, RwM.cells]) size_row (part_one _ _ _ _ rfl rfl rfl) ?_; rfl; rfl; rfl; rfl; intro wa HSa HOa)
    | (refine wpList_store_cells (o := ⟨none, .store 34 (.tmp 9) _, _, _, _, _⟩) ?_ 34 (.tmp 9) (.tmp 45) ?_ (w8.heap.size + 1) 0 ?_ 34 zrow (fieldM w7.heap.size).cells ?_ (HOa.out.lies Z1.out (by omega)) (by simp [zrow, RwM.cells]) size_row (part_one _ _ _ _ rfl rfl rfl) ?_; rfl; rfl; rfl; rfl; intro wb HSb HOb; (try simp only [Act.put])))
  have hsa := HSa.out
  rw [splice_whole (by rfl)] at hsa
  have hsb := HSb.out
  rw [splice_whole (by rfl)] at hsb
  have h8 := ((Below.refl w8.heap.size w8).alloc (Nat.le_refl _) (.cells zrow.toArray 34)).alloc (by simp) (.cells zrow.toArray 34)
  have h8b : Below w8.heap.size w8 wb := HOb.out.below (HOa.out.below h8 (Nat.le_refl _)) (Nat.le_succ _)
  have X1 := Lib.hid (HOb.out.lies hsa (by omega))
  have X2 := Lib.hid hsb
  have F1 := Lib.hid ((hf7.call hb8).call h8b)
  have F2 := Lib.hid (hf8.call h8b)
  have hlt1 := hf7.lt
  have hlt2 := hf8.lt
  have h4g := D6.out.size
  have hwg := B6.out.size
  have DB := Lib.hid (D7.out.trans ((hb8.trans (h8b.mono hb8.size)).mono D7.out.size))
  have BB := Lib.hid (B6.out.trans ((hb7.trans ((hb8.trans (h8b.mono hb8.size)).mono hb7.size)).mono B6.out.size))
  clear hsa hsb h8 h8b HSa HOa HSb HOb Z0 Z1 hf7 hf8 hb7 hb8 D7 D6 B6
  generalize w8.heap.size = gx at *
  generalize w7.heap.size = g2 at *
  generalize w6.heap.size = g1 at *
  have c5 : wb.cell? ⟨gx, 7, none⟩ = some (.slice (some ⟨g1 + 1 + 1 + 1, 0, none⟩) 3 3) := X1.out.at_ 7
  have N5 := Lib.hid ((Below.refl wb.heap.size wb).alloc (Nat.le_refl _) (.cells (encN ⟨0, 4, 0, true⟩).toArray 61))
  go_upto_region 6 with (refine wpList_app_field (o := ⟨some 50, _, _, _, _, _⟩) ?_ (.tmp 47) (.tmp 49) ?_ g1 gx wb.heap.size ⟨0, 4, 0, true⟩ ?_ ?_ (F1.out.call N5.out) (X1.out.call N5.out) (by omega) (Lies.fresh wb 61 (encN ⟨0, 4, 0, true⟩).toArray) ?_; rfl; rfl; rfl; rfl; intro A5 k5 wc hown5 hb5 hg5 c6 f6)
  have O6 := Only.set gx 7 wc (.slice A5 4 k5)
  have Y6 := Lib.hid (yes_mk (F1.out.call N5.out) (X1.out.call N5.out) (by omega) hg5 hown5)
  have F6 := Lib.hid (((F2.out.call N5.out).grown hg5 (.inl (by omega))).only O6 (.inr (by omega)))
  have X6 := Lib.hid (O6.lies (heap_lies (X2.out.call N5.out) (hg5.block (gx + 1) (Nat.lt_of_lt_of_le X2.out.in_ N5.out.size) (by simp []; omega))) (by omega))
  have D6 := Lib.hid (O6.below (DB.out.trans ((N5.out.mono DB.out.size).trans (hb5.mono (by omega)))) (by omega))
  have B6 := Lib.hid (O6.below (BB.out.trans ((N5.out.mono BB.out.size).trans (hb5.mono (by omega)))) (by omega))
  clear c5 N5 hown5 hb5 hg5 c6 f6 O6 X1 X2 F1 F2 DB BB
  generalize wc.setCell ⟨gx, 7, none⟩ (.slice A5 4 k5) = wd at *
  have c5 : wd.cell? ⟨gx + 1, 7, none⟩ = some (.slice (some ⟨g2 + 1 + 1 + 1, 0, none⟩) 3 3) := X6.out.at_ 7
  have N5 := Lib.hid ((Below.refl wd.heap.size wd).alloc (Nat.le_refl _) (.cells (encN ⟨3, 4, 0, true⟩).toArray 61))
  go_upto_region 7 with (refine wpList_app_field (o := ⟨some 56, _, _, _, _, _⟩) ?_ (.tmp 53) (.tmp 55) ?_ g2 (gx + 1) wd.heap.size ⟨3, 4, 0, true⟩ ?_ ?_ (F6.out.call N5.out) (X6.out.call N5.out) (by omega) (Lies.fresh wd 61 (encN ⟨3, 4, 0, true⟩).toArray) ?_; rfl; rfl; rfl; rfl; intro A6 k6 we hown5 hb5 hg5 c6 f6)
  have O6 := Only.set (gx + 1) 7 we (.slice A6 4 k6)
  have Z6 := Lib.hid (yes_mk (F6.out.call N5.out) (X6.out.call N5.out) (by omega) hg5 hown5)
  have hX6 := heap_lies (X6.out.call N5.out) (hg5.block (gx + 1) (Nat.lt_of_lt_of_le X6.out.in_ N5.out.size) (by simp; omega))
  have Y7 := Lib.hid (((Y6.out.call N5.out).grown hg5 (F6.out.call N5.out).n (by decide)).only O6 hX6 (by omega) (by omega) (by omega))
  have D7 := Lib.hid (O6.below (D6.out.trans ((N5.out.mono D6.out.size).trans (hb5.mono (by omega)))) (by omega))
  have B7 := Lib.hid (O6.below (B6.out.trans ((N5.out.mono B6.out.size).trans (hb5.mono (by omega)))) (by omega))
  clear c5 N5 hown5 hb5 hg5 c6 f6 O6 hX6 F6 X6 Y6 D6 B6
  generalize we.setCell ⟨gx + 1, 7, none⟩ (.slice A6 4 k6) = wf at *
  go_upto_region 8 with (first
    | (refine wpList_load_row (o := ⟨some 59, _, _, _, _, _⟩) ?_ 34 (.tmp 8) ?_ gx ?_ 34 (moreM g1 ⟨0, 4, 0, true⟩ A5 k5).cells.toArray (0, 0) _ Y7.out.o Try.underlying34 rfl size_row ?_; rfl; rfl; rfl)
    | (go_at_call 19; refine (yes_first Y7.out).mono ?_; rintro e wg ⟨A7, c7, rfl, -, hS7, hb7⟩))
  have S7 := Lib.hid hS7
  have Z7 := Lib.hid (Z6.out.call hb7)
  have D8 := Lib.hid (D7.out.trans (hb7.mono D7.out.size))
  have B8 := Lib.hid (B7.out.trans (hb7.mono B7.out.size))
  clear hS7 hb7 Y7 Z6 D7 B7
  go_upto_region 9 with (first
    | (refine wpList_load_row (o := ⟨some 64, _, _, _, _, _⟩) ?_ 34 (.tmp 9) ?_ (gx + 1) ?_ 34 (moreM g2 ⟨3, 4, 0, true⟩ A6 k6).cells.toArray (0, 0) _ Z7.out.o Try.underlying34 rfl size_row ?_; rfl; rfl; rfl)
    | (go_at_call 19; refine (no_first Z7.out).mono ?_; rintro e wh ⟨rfl, hb8⟩))
  have S9 := Lib.hid ((S7.out.below hb8).more hb8.size)
  have Z9 := Lib.hid (Z7.out.call hb8)
  have hd9 := D8.out.trans (hb8.mono D8.out.size)
  have S39 := Lib.hid ((S3.out.below hd9).more hd9.size)
  have B9 := Lib.hid (B8.out.trans (hb8.mono B8.out.size))
  clear hd9 hb8 S7 Z7 D8 B8 S3
  have E1 := Lib.hid ((Below.refl wh.heap.size wh).alloc (Nat.le_refl _) (.cells (vals [0, 2]) 3))
  go_upto_region 11 with (first
    | (go_at_call_of 25 (Value.slice A3 2 c3); refine (HI.out A3 c3 wh.heap.size [0, 2] _ (by decide) ((S39.out.below E1.out).more E1.out.size) (Lies.fresh wh 3 (vals [0, 2]))).mono ?_; rintro e wi ⟨rfl, hbi⟩; have E2 := Lib.hid (E1.out.trans (hbi.mono E1.out.size)); have E3 := Lib.hid (E2.out.alloc E2.out.size (.cells (vals [1, 2, 2, 2, 1]) 3)))
    | (go_at_call_of 25 (Value.slice A7 5 c7); refine (HI.out A7 c7 wi.heap.size [1, 2, 2, 2, 1] _ (by decide) ((S9.out.below E3.out).more E3.out.size) (Lies.fresh wi 3 (vals [1, 2, 2, 2, 1]))).mono ?_; rintro e wj ⟨rfl, hbj⟩; have E4 := Lib.hid (E3.out.trans (hbj.mono E3.out.size))))
  have Z11 := Lib.hid (Z9.out.call E4.out)
  have B11 := Lib.hid (B9.out.trans (E4.out.mono B9.out.size))
  clear E1 E2 E3 E4 hbi hbj S9 S39 Z9 B9
  go_upto_region 12 with (first
    | (refine wpList_load_row (o := ⟨some 112, _, _, _, _, _⟩) ?_ 34 (.tmp 9) ?_ (gx + 1) ?_ 34 (moreM g2 ⟨3, 4, 0, true⟩ A6 k6).cells.toArray (0, 0) _ Z11.out.o Try.underlying34 rfl size_row ?_; rfl; rfl; rfl)
    | (go_at_call 28; refine (no_count Z11.out).mono ?_; rintro e wk ⟨rfl, hbk⟩))
  have Z12 := Lib.hid (Z11.out.call hbk)
  have B12 := Lib.hid (B11.out.trans (hbk.mono B11.out.size))
  clear hbk Z11 B11
  go_upto_region 13 with (first
    | (go_at_call 37; refine (field_any _).mono ?_; rintro e wl ⟨rfl, hdl, hbl⟩)
    | (go_at_call 31; refine (Sample_out (fieldM wk.heap.size) 11 wl hdl.at_ (by rw [fieldM_d]; exact f_fault) (by rw [fieldM_d]; exact f_ask11)).mono ?_; rintro e wm ⟨rfl, hbm⟩))
  have hblm := hbl.trans (hbm.mono hbl.size)
  have Z13 := Lib.hid (Z12.out.call hblm)
  have B13 := Lib.hid (B12.out.trans (hblm.mono B12.out.size))
  clear hblm hbl hbm hdl Z12 B12
  go_upto_region 14 with (first
    | (refine wpList_load_row (o := ⟨some 123, _, _, _, _, _⟩) ?_ 34 (.tmp 9) ?_ (gx + 1) ?_ 34 (moreM g2 ⟨3, 4, 0, true⟩ A6 k6).cells.toArray (0, 0) _ Z13.out.o Try.underlying34 rfl size_row ?_; rfl; rfl; rfl)
    | (go_at_call 31; refine (no_sample Z13.out).mono ?_; rintro e wn ⟨rfl, hbn⟩))
  have B14 := Lib.hid (B13.out.trans (hbn.mono B13.out.size))
  clear hbn Z13 B13
  go_upto_region 15 with (first
    | (refine wpList_store_cells (o := ⟨none, .store 34 (.tmp 21) _, _, _, _, _⟩) ?_ 34 (.tmp 21) (.tmp 128) ?_ (wn.heap.size + 1) 0 ?_ 34 zrow (noneM wn.heap.size).cells ?_ (Lies.fresh' (by simp)) (by simp [zrow, RwM.cells]) size_row (part_one _ _ _ _ rfl rfl rfl) ?_; rfl; rfl; rfl; rfl; intro wo HSo HOo; (try simp only [Act.put])))
  have hso := HSo.out
  rw [splice_whole (by rfl)] at hso
  have h0 := ((Below.refl wn.heap.size wn).alloc (Nat.le_refl _) (.cells (vals [0]) 3)).alloc (by simp) (.cells zrow.toArray 34)
  have hbo : Below wn.heap.size wn wo := HOo.out.below h0 (Nat.le_succ _)
  have XN := Lib.hid hso
  have LN := Lib.hid (show Lies wo wn.heap.size 3 (vals [0]) from HOo.out.lies ((Lies.fresh wn 3 (vals [0])).alloc _) (by omega))
  have B15 := Lib.hid (B14.out.trans (hbo.mono B14.out.size))
  clear hso h0 hbo HSo HOo B14
  generalize wn.heap.size = gz at *
  go_upto_region 16 with (first
    | (refine wpList_load_row (o := ⟨some 130, _, _, _, _, _⟩) ?_ 34 (.tmp 21) ?_ (gz + 1) ?_ 34 (noneM gz).cells.toArray (0, 0) _ XN.out Try.underlying34 rfl size_row ?_; rfl; rfl; rfl)
    | (go_at_call 31; refine (none_sample LN.out).mono ?_; rintro e wp ⟨rfl, hbp⟩))
  have XP := Lib.hid (XN.out.call hbp)
  have LP := Lib.hid (LN.out.call hbp)
  have B16 := Lib.hid (B15.out.trans (hbp.mono B15.out.size))
  clear hbp XN LN B15
  go_upto_region 17 with (first
    | (refine wpList_load_row (o := ⟨some 135, _, _, _, _, _⟩) ?_ 34 (.tmp 21) ?_ (gz + 1) ?_ 34 (noneM gz).cells.toArray (0, 0) _ XP.out Try.underlying34 rfl size_row ?_; rfl; rfl; rfl)
    | (go_at_call 19; refine (none_first LP.out).mono ?_; rintro e wq ⟨A8, c8, rfl, -, hS8, hbq⟩))
  have S8 := Lib.hid hS8
  have B17 := Lib.hid (B16.out.trans (hbq.mono B16.out.size))
  clear hS8 hbq XP LP B16
  go_upto_region 18 with (first
    | (go_at_call 37; refine (field_any _).mono ?_; rintro e wr ⟨rfl, hfr, hbr⟩; have ZR := Lib.hid (show Lies (wr.alloc (.cells zrow.toArray 34)) wr.heap.size 34 zrow.toArray from Lies.fresh _ _ _))
    | (refine wpList_store_cells (o := ⟨none, .store 34 (.tmp 26) _, _, _, _, _⟩) ?_ 34 (.tmp 26) (.tmp 139) ?_ wr.heap.size 0 ?_ 34 zrow (fieldM wq.heap.size).cells ?_ ZR.out (by simp [zrow, RwM.cells]) size_row (part_one _ _ _ _ rfl rfl rfl) ?_; rfl; rfl; rfl; rfl; intro ws HSs HOs; (try simp only [Act.put])))
  have hss := HSs.out
  rw [splice_whole (by rfl)] at hss
  have hrs : Below wr.heap.size wr ws := HOs.out.below ((Below.refl wr.heap.size wr).alloc (Nat.le_refl _) (.cells zrow.toArray 34)) (Nat.le_refl _)
  have XL := Lib.hid hss
  have FL := Lib.hid (hfr.call hrs)
  have hlt4 := hfr.lt
  have hqs := hbr.trans (hrs.mono hbr.size)
  have DQ := Lib.hid hqs
  have hw4 := B17.out.size
  clear hss hrs hqs hfr hbr HSs HOs ZR
  generalize wr.heap.size = gl at *
  generalize wq.heap.size = g4 at *
  have XL' := XL.out.alloc (.cells weeks31 79)
  have c18 : (ws.alloc (.cells weeks31 79)).cell? ⟨gl, 1, none⟩ = some (.slice (some ⟨g4 + 1, 0, none⟩) 4 4) := XL'.at_ 1
  have f18 : (ws.alloc (.cells weeks31 79)).frozen? ⟨gl, 1, none⟩ = false := XL'.free 1
  have hgls : gl < ws.heap.size := XL.out.in_
  clear XL'
  go_upto_region 19 with (fail)
  have O18 := Only.set gl 1 ws (.slice (some ⟨ws.heap.size, 0, none⟩) 31 31)
  have hz18 : (ws.setCell ⟨gl, 1, none⟩ (.slice (some ⟨ws.heap.size, 0, none⟩) 31 31)).heap.size = ws.heap.size := O18.size
  have XT := Lib.hid (show Lies ((ws.setCell ⟨gl, 1, none⟩ (.slice (some ⟨ws.heap.size, 0, none⟩) 31 31)).alloc (.cells weeks31 79)) gl 34 (longM g4 ws.heap.size).cells.toArray from (XL.out.set 1 (.slice (some ⟨ws.heap.size, 0, none⟩) 31 31)).alloc (.cells weeks31 79))
  have LT := Lib.hid (show Lies ((ws.setCell ⟨gl, 1, none⟩ (.slice (some ⟨ws.heap.size, 0, none⟩) 31 31)).alloc (.cells weeks31 79)) ws.heap.size 79 weeks31 from Lies.fresh' hz18)
  have N18 := (Below.refl _ (ws.setCell ⟨gl, 1, none⟩ (.slice (some ⟨ws.heap.size, 0, none⟩) 31 31))).alloc (Nat.le_refl _) (.cells weeks31 79)
  have FT := Lib.hid ((FL.out.only O18 (.inr hlt4)).call N18)
  have hgd : g4 ≤ gl := by omega
  have DT := Lib.hid ((O18.below DQ.out hgd).trans (N18.mono (by rw [hz18]; omega)))
  clear O18 c18 f18 N18 XL FL DQ hz18
  generalize (ws.setCell ⟨gl, 1, none⟩ (.slice (some ⟨ws.heap.size, 0, none⟩) 31 31)).alloc (.cells weeks31 79) = wt at *
  generalize ws.heap.size = gm at *
  go_upto_region 20 with (first
    | (go_at_call 37; refine (field_any _).mono ?_; rintro e wu ⟨rfl, hfu, hbu⟩; have ZU := Lib.hid (show Lies (wu.alloc (.cells zrow.toArray 34)) wu.heap.size 34 zrow.toArray from Lies.fresh _ _ _))
    | (refine wpList_store_cells (o := ⟨none, .store 34 (.tmp 27) _, _, _, _, _⟩) ?_ 34 (.tmp 27) (.tmp 142) ?_ wu.heap.size 0 ?_ 34 zrow (fieldM wt.heap.size).cells ?_ ZU.out (by simp [zrow, RwM.cells]) size_row (part_one _ _ _ _ rfl rfl rfl) ?_; rfl; rfl; rfl; rfl; intro wv HSv HOv; (try simp only [Act.put])))
  have hsv := HSv.out
  rw [splice_whole (by rfl)] at hsv
  have huv : Below wu.heap.size wu wv := HOv.out.below ((Below.refl wu.heap.size wu).alloc (Nat.le_refl _) (.cells zrow.toArray 34)) (Nat.le_refl _)
  have htv := hbu.trans (huv.mono hbu.size)
  have XV := Lib.hid (XT.out.call htv)
  have LV := Lib.hid (LT.out.call htv)
  have FV := Lib.hid (FT.out.call htv)
  have FG := Lib.hid (hfu.call huv)
  have XG := Lib.hid hsv
  have hlt5 := hfu.lt
  have hgl5 := XT.out.in_
  have hgm5 := LT.out.in_
  have hg45 := FT.out.lt
  have DV := Lib.hid (DT.out.trans (htv.mono (Nat.le_of_lt (Nat.lt_of_le_of_lt (by omega) hg45))))
  clear hsv huv htv hfu hbu HSv HOv ZU XT LT FT DT
  generalize wu.heap.size = gk at *
  generalize wt.heap.size = g5 at *
  have c20 : wv.cell? ⟨gk, 6, none⟩ = some (.slice (some ⟨g5 + 1 + 1, 0, none⟩) 5 5) := XG.out.at_ 6
  have d20 : wv.cell? ⟨g5 + 1 + 1, 3, none⟩ = some (.int .i64 0) := FG.out.d.at_ 3
  have f20 : wv.frozen? ⟨g5 + 1 + 1, 3, none⟩ = false := FG.out.d.free 3
  have O20 := Only.set (g5 + 1 + 1) 3 wv (.int .i64 3)
  have GA := Lib.hid (goneM_at FG.out)
  have XLX := Lib.hid (O20.lies XV.out (by omega))
  have LMX := Lib.hid (O20.lies LV.out (by omega))
  have FLX := Lib.hid (FV.out.only O20 (.inr (by omega)))
  have XGX := Lib.hid (show Lies _ gk 34 (goneM g5).cells.toArray from O20.lies XG.out (by omega))
  have DX := Lib.hid (O20.below DV.out (by omega))
  have hz20 : (wv.setCell ⟨g5 + 1 + 1, 3, none⟩ (.int .i64 3)).heap.size = wv.heap.size := O20.size
  have SX := Lib.hid ((S8.out.below DX.out).more (show g4 ≤ (wv.setCell ⟨g5 + 1 + 1, 3, none⟩ (.int .i64 3)).heap.size by rw [hz20]; have := XG.out.in_; omega))
  have BX := Lib.hid (B17.out.trans (DX.out.mono hw4))
  have E1 := Lib.hid ((Below.refl (wv.setCell ⟨g5 + 1 + 1, 3, none⟩ (.int .i64 3)).heap.size (wv.setCell ⟨g5 + 1 + 1, 3, none⟩ (.int .i64 3))).alloc (Nat.le_refl _) (.cells (vals [0]) 3))
  have HZ := Lib.hid hz20
  clear O20 XV LV FV DV DX S8 B17 hz20
  go_wp2_with (first
    | ((fail_if_success (have hxx := P1)); go_at_call 25; refine (HI.out A8 c8 wv.heap.size [0] _ (by decide) ((SX.out.below E1.out).more E1.out.size) (Lies.fresh' HZ.out)).mono ?_; rintro e v1 ⟨rfl, hb⟩; have P1 := Lib.hid (E1.out.trans (hb.mono E1.out.size)); have L1 := Lib.hid (XLX.out.call P1.out); clear hb; have q0 : v1.cell? ⟨gl, 0, none⟩ = some (.int .i64 5) := L1.out.at_ 0; have q1 : v1.cell? ⟨gl, 1, none⟩ = some (.slice (some ⟨gm, 0, none⟩) 31 31) := L1.out.at_ 1; have q2 : v1.cell? ⟨gl, 2, none⟩ = some (.int .i64 1) := L1.out.at_ 2; have q3 : v1.cell? ⟨gl, 3, none⟩ = some (.int .i64 3) := L1.out.at_ 3; have q4 : v1.cell? ⟨gl, 4, none⟩ = some (.int .i64 2) := L1.out.at_ 4; have q5 : v1.cell? ⟨gl, 5, none⟩ = some (.bool true) := L1.out.at_ 5; have q6 : v1.cell? ⟨gl, 6, none⟩ = some (.slice (some ⟨g4 + 1 + 1, 0, none⟩) 5 5) := L1.out.at_ 6; have q7 : v1.cell? ⟨gl, 7, none⟩ = some (.slice (some ⟨g4 + 1 + 1 + 1, 0, none⟩) 3 3) := L1.out.at_ 7)
    | ((fail_if_success (have hxx := P2)); go_at_call 17; refine (check_of (q := longM g4 gm) (longM_at (FLX.out.call P1.out) (LMX.out.call P1.out)) long_fault).mono ?_; rintro e v2 ⟨rfl, hb⟩; have P2 := Lib.hid (P1.out.trans (hb.mono P1.out.size)); have L2 := Lib.hid (XGX.out.call P2.out); clear hb q0 q1 q2 q3 q4 q5 q6 q7; have q0 : v2.cell? ⟨gk, 0, none⟩ = some (.int .i64 5) := L2.out.at_ 0; have q1 : v2.cell? ⟨gk, 1, none⟩ = some (.slice (some ⟨g5 + 1, 0, none⟩) 4 4) := L2.out.at_ 1; have q2 : v2.cell? ⟨gk, 2, none⟩ = some (.int .i64 1) := L2.out.at_ 2; have q3 : v2.cell? ⟨gk, 3, none⟩ = some (.int .i64 3) := L2.out.at_ 3; have q4 : v2.cell? ⟨gk, 4, none⟩ = some (.int .i64 2) := L2.out.at_ 4; have q5 : v2.cell? ⟨gk, 5, none⟩ = some (.bool true) := L2.out.at_ 5; have q6 : v2.cell? ⟨gk, 6, none⟩ = some (.slice (some ⟨g5 + 1 + 1, 0, none⟩) 5 5) := L2.out.at_ 6; have q7 : v2.cell? ⟨gk, 7, none⟩ = some (.slice (some ⟨g5 + 1 + 1 + 1, 0, none⟩) 3 3) := L2.out.at_ 7)
    | ((fail_if_success (have hxx := P3)); go_at_call 17; refine (check_of (q := goneM g5) (GA.out.below P2.out P2.out.size) gone_fault).mono ?_; rintro e v3 ⟨rfl, hb⟩; have P3 := Lib.hid (P2.out.trans (hb.mono P2.out.size)); clear hb q0 q1 q2 q3 q4 q5 q6 q7)
    | ((fail_if_success (have hxx := P4)); go_at_call 17; refine (check_of (q := zeroM) zeroM_at zero_fault).mono ?_; rintro e v4 ⟨rfl, hb⟩; have P4 := Lib.hid (P3.out.trans (hb.mono P3.out.size)); clear hb)
    | ((fail_if_success (have hxx := P5)); go_at_call 37; refine (field_any _).mono ?_; rintro e v5 ⟨rfl, hf, hb⟩; have F5 := Lib.hid hf; have P5 := Lib.hid (P4.out.trans (hb.mono P4.out.size)); clear hf hb)
    | ((fail_if_success (have hxx := P6)); go_at_call 20; refine (field_prove v4.heap.size v5.heap.size 5 [-1, -1, -1, 2, 1] true _ (F5.out.call ((Below.refl _ _).alloc (Nat.le_refl _) _)) (Lies.fresh v5 3 (vals [-1, -1, -1, 2, 1])) (by decide) f_prove).mono ?_; rintro e v6 ⟨rfl, hb⟩; have P6 := Lib.hid (P5.out.trans ((((Below.refl _ _).alloc (Nat.le_refl _) _).trans (hb.mono (((Below.refl _ _).alloc (Nat.le_refl _) _) : Below v5.heap.size v5 (v5.alloc (.cells (vals [-1, -1, -1, 2, 1]) 3))).size)).mono P5.out.size)); clear hb)
    | ((fail_if_success (have hxx := P7)); go_at_call 37; refine (field_any _).mono ?_; rintro e v7 ⟨rfl, hf, hb⟩; have F7 := Lib.hid hf; have P7 := Lib.hid (P6.out.trans (hb.mono P6.out.size)); clear hf hb)
    | ((fail_if_success (have hxx := P8)); go_at_call 20; refine (field_prove v6.heap.size v7.heap.size 5 [-1, -1, -1, 1, 1] false _ (F7.out.call ((Below.refl _ _).alloc (Nat.le_refl _) _)) (Lies.fresh v7 3 (vals [-1, -1, -1, 1, 1])) (by decide) f_proveN).mono ?_; rintro e v8 ⟨rfl, hb⟩; have P8 := Lib.hid (P7.out.trans ((((Below.refl _ _).alloc (Nat.le_refl _) _).trans (hb.mono (((Below.refl _ _).alloc (Nat.le_refl _) _) : Below v7.heap.size v7 (v7.alloc (.cells (vals [-1, -1, -1, 1, 1]) 3))).size)).mono P7.out.size)); clear hb)
    | ((fail_if_success (have hxx := P9)); go_at_call 37; refine (field_any _).mono ?_; rintro e v9 ⟨rfl, hf, hb⟩; have F9 := Lib.hid hf; have P9 := Lib.hid (P8.out.trans (hb.mono P8.out.size)); clear hf hb)
    | ((fail_if_success (have hxx := P10)); go_at_call 32; refine (field_psam v8.heap.size v9.heap.size 2 1 [0, 4] true _ (F9.out.call ((Below.refl _ _).alloc (Nat.le_refl _) _)) (Lies.fresh v9 3 (vals [0, 4])) (by decide) f_sam).mono ?_; rintro e v10 ⟨rfl, hb⟩; have P10 := Lib.hid (P9.out.trans ((((Below.refl _ _).alloc (Nat.le_refl _) _).trans (hb.mono (((Below.refl _ _).alloc (Nat.le_refl _) _) : Below v9.heap.size v9 (v9.alloc (.cells (vals [0, 4]) 3))).size)).mono P9.out.size)); clear hb)
    | ((fail_if_success (have hxx := P11)); go_at_call 37; refine (field_any _).mono ?_; rintro e v11 ⟨rfl, hf, hb⟩; have F11 := Lib.hid hf; have P11 := Lib.hid (P10.out.trans (hb.mono P10.out.size)); clear hf hb)
    | ((fail_if_success (have hxx := P12)); go_at_call 32; refine (field_psam v10.heap.size v11.heap.size 2 1 [0, 2] false _ (F11.out.call ((Below.refl _ _).alloc (Nat.le_refl _) _)) (Lies.fresh v11 3 (vals [0, 2])) (by decide) f_sam2).mono ?_; rintro e v12 ⟨rfl, hb⟩; have P12 := Lib.hid (P11.out.trans ((((Below.refl _ _).alloc (Nat.le_refl _) _).trans (hb.mono (((Below.refl _ _).alloc (Nat.le_refl _) _) : Below v11.heap.size v11 (v11.alloc (.cells (vals [0, 2]) 3))).size)).mono P11.out.size)); clear hb)
    | ((fail_if_success (have hxx := P13)); go_at_call 37; refine (field_any _).mono ?_; rintro e v13 ⟨rfl, hf, hb⟩; have F13 := Lib.hid hf; have P13 := Lib.hid (P12.out.trans (hb.mono P12.out.size)); clear hf hb)
    | ((fail_if_success (have hxx := P14)); go_at_call 32; refine (field_psam v12.heap.size v13.heap.size 2 1 [4, 0] false _ (F13.out.call ((Below.refl _ _).alloc (Nat.le_refl _) _)) (Lies.fresh v13 3 (vals [4, 0])) (by decide) f_sam3).mono ?_; rintro e v14 ⟨rfl, hb⟩; have P14 := Lib.hid (P13.out.trans ((((Below.refl _ _).alloc (Nat.le_refl _) _).trans (hb.mono (((Below.refl _ _).alloc (Nat.le_refl _) _) : Below v13.heap.size v13 (v13.alloc (.cells (vals [4, 0]) 3))).size)).mono P13.out.size)); clear hb)
    | (go_at_call 16; refine (awake_any _).mono ?_; rintro e vz ⟨rfl, hb⟩; have PZ := Lib.hid (P14.out.trans (hb.mono P14.out.size)); clear hb))
  go_ret
  exact ⟨rfl, BX.out.trans (PZ.out.mono BX.out.size)⟩
end Go.Proofs.Ytebkhgficochoaa
