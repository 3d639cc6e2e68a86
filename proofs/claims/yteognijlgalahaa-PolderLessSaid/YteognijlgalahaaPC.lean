/- The map of what was tried. -/
import Derived.Test.YteognijlgalahaaPB
import Derived.WideKeyPair
import Derived.DeepKeys4
import Derived.Maps.Own
namespace Go.Proofs.Yteognijlgalahaa
open Go.RowKit Go.Lib
open Go.WideMaps (KeyLaw)
open Go.ChangeMaps (setBlock heap_setBlock_same heap_setBlock_other)

theorem keyM_law : KeyLaw Try.prog 122 := deep_law (m := 2) (by omega) (by kernel_rfl) (by kernel_rfl) (by kernel_rfl)
theorem types_pos : ∃ m, Try.prog.types.size = m + 1 + 1 := ⟨Try.prog.types.size - 2, by kernel_rfl⟩
theorem cells_mv : Try.prog.cellsOf 122 = 2 := by kernel_rfl
theorem cells_int : Try.prog.cellsOf 3 = 1 := by kernel_rfl
theorem keyType_mv : Try.prog.keyType 122 = true := by kernel_rfl
theorem wf_i64 {n : Int} (h0 : -9223372036854775808 ≤ n) (h1 : n ≤ 9223372036854775807) : (Lit.int .i64 n).wf = true := by
  simp [Lit.wf, IntKind.min, IntKind.max, IntKind.signed, IntKind.bits]; omega
theorem keyOfM {a b : Int} (ha : -1000000 ≤ a ∧ a ≤ 1000000) (hb : -1000000 ≤ b ∧ b ≤ 1000000) : ∃ kl, keyOf Try.prog 122 (.agg (encM a b).toArray) = some kl := by
  obtain ⟨m, hm⟩ := types_pos
  have wa := wf_i64 (n := a) (by omega) (by omega)
  have wb := wf_i64 (n := b) (by omega) (by omega)
  unfold encM
  unfold keyOf
  simp only [Try.underlying122]
  rw [if_pos (by simp [keyType_mv, Value.formed, Try.underlying122, cells_mv]), hm]
  unfold Program.keyLits
  simp only [Try.underlying122, Value.cells]
  rw [if_pos (by rw [cells_mv]; exact ⟨rfl, by kernel_rfl⟩)]
  simp only [List.mapM_cons, List.mapM_nil]
  simp [cells_int, Program.keyLits, Try.underlying3, wa, wb]
theorem encM_inj {a b a' b' : Int} (h : Value.agg (encM a b).toArray = .agg (encM a' b').toArray) : a = a' ∧ b = b' := by
  simp [encM] at h
  exact h
/-- The numbers of a key are small. -/
def Sml (a b : Int) : Prop := (-1000000 ≤ a ∧ a ≤ 1000000) ∧ (-1000000 ≤ b ∧ b ≤ 1000000)
/-- Block b is a map whose entries are right. -/
def MemoM (w : World) (b : Nat) (R : Int → Int → Int → Prop) : Prop :=
  ∃ es clock, w.heap[b]? = some (.map es clock) ∧ ∀ x, x ∈ es.toList → ∃ d l v, Sml d l ∧ x.key = .agg (encM d l).toArray ∧ x.val = .int .i64 v ∧ R d l v
section
variable {w w' : World} {b : Nat} {R : Int → Int → Int → Prop}
theorem MemoM.in_ (h : MemoM w b R) : b < w.heap.size := by
  obtain ⟨es, clock, hb, _⟩ := h
  exact (Array.getElem?_eq_some_iff.1 hb).1
theorem MemoM.to_ (h : MemoM w b R) (e : w'.heap[b]? = w.heap[b]?) : MemoM w' b R := by
  obtain ⟨es, clock, hm, r⟩ := h
  exact ⟨es, clock, e.trans hm, r⟩
theorem MemoM.call (h : MemoM w b R) (hb : Below w.heap.size w w') : MemoM w' b R := h.to_ (hb.block b h.in_)
theorem MemoM.ne {g : Nat} {t : TypeId} {cs : Array Value} (h : MemoM w b R) (hl : Lies w g t cs) : b ≠ g := by
  rintro rfl
  obtain ⟨es, clock, hm, _⟩ := h
  unfold Lies at hl
  rw [hl] at hm; cases hm
theorem MemoM.noCells (h : MemoM w b R) : ∃ o, w.heap[b]? = some o ∧ o.isCells = false := by
  obtain ⟨es, clock, hm, _⟩ := h
  exact ⟨_, hm, rfl⟩
theorem memo_made (w : World) (R : Int → Int → Int → Prop) : MemoM (w.alloc (.map #[] 0)) w.heap.size R := ⟨#[], 0, (MapKept.heap_alloc w _).1, by simp⟩
theorem memo_keys {es : Array MapEntry} (h : ∀ x, x ∈ es.toList → ∃ d l v, Sml d l ∧ x.key = .agg (encM d l).toArray ∧ x.val = .int .i64 v ∧ R d l v) : ∀ x ∈ es.toList, ∃ l, keyOf Try.prog 122 x.key = some l := fun x hx => by
  obtain ⟨d, l, v, h5, e, _⟩ := h x hx
  rw [e]; exact keyOfM h5.1 h5.2
theorem zero_int (w : World) : (zeroValue 3).run Try.prog w = .ok (.int .i64 0) w := by
  simp [zeroValue, go_sem, show Try.t3.zero = some (Value.int .i64 0) from by kernel_rfl]
theorem memo_look (h : MemoM w b R) {d l : Int} (h5 : Sml d l) :
    (∃ v, R d l v ∧ (Instr.lookup 87 (.map (some b)) (.agg (encM d l).toArray) true).run Try.prog w = .ok (.tuple #[.int .i64 v, .bool true]) w) ∨
    (Instr.lookup 87 (.map (some b)) (.agg (encM d l).toArray) true).run Try.prog w = .ok (.tuple #[.int .i64 0, .bool false]) w := by
  obtain ⟨es, clock, hb, hr⟩ := h
  obtain ⟨kl, hk⟩ := keyOfM h5.1 h5.2
  rcases keyM_law.find w hk es.toList (memo_keys hr) with ⟨h1, h2⟩ | ⟨j, e0, h1, h2, h3⟩
  · right
    simp [Instr.lookup, run_underlying Try.underlying87, MapKept.run_getObj_map hb, keyM_law.check w _ hk, h1, Result.andThen, zero_int]
  · left
    obtain ⟨d', l', v, _, e1, e2, e3⟩ := hr e0 (List.mem_of_getElem? h2)
    obtain ⟨rfl, rfl⟩ := encM_inj (e1.symm.trans h3)
    refine ⟨v, e3, ?_⟩
    simp [Instr.lookup, run_underlying Try.underlying87, MapKept.run_getObj_map hb, keyM_law.check w _ hk, h1, e2, Result.andThen, zero_int]
theorem memo_put (h : MemoM w b R) {d l v : Int} (h5 : Sml d l) (hv : R d l v) :
    ∃ w', (Instr.mapUpdate 87 (.map (some b)) (.agg (encM d l).toArray) (.int .i64 v)).run Try.prog w = .ok () w' ∧ MemoM w' b R ∧ w.grownBy w' (some b) ∧ w'.heap.size = w.heap.size := by
  obtain ⟨es, clock, hb, hr⟩ := h
  obtain ⟨kl, hk⟩ := keyOfM h5.1 h5.2
  rcases keyM_law.find w hk es.toList (memo_keys hr) with ⟨h1, h2⟩ | ⟨j, e0, h1, h2, h3⟩
  · refine ⟨setBlock w b (.map (es.push ⟨.agg (encM d l).toArray, .int .i64 v, clock⟩) (clock + 1)), ?_, ⟨_, _, heap_setBlock_same hb _, fun x hx => ?_⟩, ⟨rfl, rfl, rfl, by simp [setBlock], fun i _ hi => heap_setBlock_other hb _ (fun e => hi (by rw [e]))⟩, by simp [setBlock]⟩
    · simp [Instr.mapUpdate, run_underlying Try.underlying87, MapKept.run_getObj_map hb, keyM_law.check w false hk, h1, MapKept.run_setObj_map _ hb, Result.andThen, setBlock]
    · simp only [Array.toList_push, List.mem_append, List.mem_singleton] at hx
      rcases hx with hx | rfl
      · exact hr x hx
      · exact ⟨d, l, v, h5, rfl, rfl, hv⟩
  · have hj : es[j]? = some e0 := by simpa using h2
    refine ⟨setBlock w b (.map (es.modify j fun e => { key := .agg (encM d l).toArray, val := .int .i64 v, born := e.born }) clock), ?_, ⟨_, _, heap_setBlock_same hb _, fun x hx => ?_⟩, ⟨rfl, rfl, rfl, by simp [setBlock], fun i _ hi => heap_setBlock_other hb _ (fun e => hi (by rw [e]))⟩, by simp [setBlock]⟩
    · simp [Instr.mapUpdate, run_underlying Try.underlying87, MapKept.run_getObj_map hb, keyM_law.check w false hk, h1, hj, h3, keyM_law.stays w hk, MapKept.run_setObj_map _ hb, Result.andThen, setBlock]
    · obtain ⟨i, hi⟩ := List.getElem?_of_mem hx
      rw [Array.getElem?_toList, Array.getElem?_modify] at hi
      by_cases e : j = i
      · rw [if_pos e] at hi
        obtain ⟨y, hy, rfl⟩ := Option.map_eq_some_iff.1 hi
        exact ⟨d, l, v, h5, rfl, rfl, hv⟩
      · rw [if_neg e] at hi
        exact hr x (List.mem_of_getElem? (by rw [Array.getElem?_toList]; exact hi))
end
section
variable {w : World} {ops : Array Oper} {rest : List Oper} {o : Oper} {a : Act} {Q : Exit → Act → World → Prop}
theorem wpList_look_memo (hg : o.guard = none) (m x : Operand) (hop : o.op = Op.lookup 87 m x true) (b : Nat) (R : Int → Int → Int → Prop) (hm : a.eval m = .map (some b)) (h : MemoM w b R) (d l : Int) (h5 : Sml d l) (hx : a.eval x = .agg (encM d l).toArray)
    (hK : ∀ v ok, Hid (ok = true → R d l v) → wpList Try.prog ops Q rest (a.put o.dst (.tuple #[.int .i64 v, .bool ok])) w) : wpList Try.prog ops Q (o :: rest) a w := by
  refine wpList_plain hg fun K' hK' => ?_
  rcases memo_look h h5 with ⟨v, hv, hrun⟩ | hrun
  · unfold Oper.wp
    simp [execOp, hop, hm, hx, hrun, Result.andThen]
    exact hK' _ _ (by simpa using hK v true (Lib.hid fun _ => hv))
  · unfold Oper.wp
    simp [execOp, hop, hm, hx, hrun, Result.andThen]
    exact hK' _ _ (by simpa using hK 0 false (Lib.hid fun h => by cases h))
theorem wpList_put_memo (hg : o.guard = none) (m x v : Operand) (hop : o.op = Op.mapUpdate 87 m x v) (b : Nat) (R : Int → Int → Int → Prop) (hm : a.eval m = .map (some b)) (h : MemoM w b R) (d l z : Int) (h5 : Sml d l) (hR : R d l z) (hx : a.eval x = .agg (encM d l).toArray) (hv : a.eval v = .int .i64 z)
    (hK : ∀ w', MemoM w' b R → w.grownBy w' (some b) → w'.heap.size = w.heap.size → wpList Try.prog ops Q rest (a.put o.dst undef) w') : wpList Try.prog ops Q (o :: rest) a w := by
  refine wpList_plain hg fun K' hK' => ?_
  obtain ⟨w', hrun, r1, r2, r3⟩ := memo_put h h5 hR
  unfold Oper.wp
  simp [execOp, hop, hm, hx, hv, hrun, Result.andThen]
  exact hK' _ _ (hK w' r1 r2 r3)
end
end Go.Proofs.Yteognijlgalahaa
