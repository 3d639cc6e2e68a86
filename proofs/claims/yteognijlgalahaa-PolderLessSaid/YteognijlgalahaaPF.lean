/- with; the costs as they are made. -/
import Derived.Test.YteognijlgalahaaPE
namespace Go.Proofs.Yteognijlgalahaa
open Go.RowKit Go.Lib
attribute [local go_sem] Oper.semAt_some

theorem info_costs : (Try.prog.info? 116).map (fun i => (i.zero, i.size, i.bytes)) = some (some (.agg (Array.replicate 61 (.int .i64 0))), 61, 488) := by kernel_rfl
theorem made_costs (n i : Nat) (hi : i < n * 61) : (madeCells (Array.replicate 61 (.int .i64 0)) (n * 61))[i]? = some (.int .i64 0) := by
  have h61 : i % 61 < 61 := Nat.mod_lt _ (by omega)
  simp [madeCells, hi, h61]
theorem make_costs (n : Nat) (hn : n ≤ 1000000) (w : World) : (Instr.makeSlice 86 (.int .i64 (n : Int)) (.int .i64 (n : Int))).run Try.prog w = .ok (.slice (some ⟨w.heap.size, 0, none⟩) n n) (w.alloc (.cells (madeCells (Array.replicate 61 (.int .i64 0)) (n * 61)) 116)) := by
  obtain ⟨j0, hj, yz0, yz1, yz2⟩ := info_parts info_costs
  have := run_make_n (P := Try.prog) 86 116 j0 _ Try.underlying86 hj yz0 n (by rw [yz2]; omega) (by omega) w
  rw [yz1] at this
  exact this
theorem cells_one (p : PoM) : ∀ v ∈ p.cells, v.oneCell' = true := by
  intro v hv
  simp [PoM.cells] at hv
  rcases hv with rfl | rfl | rfl | rfl | rfl | rfl | rfl <;> rfl
def keV (p : PoM) (S : Value) (mb : Nat) : List Value := p.cells ++ [S, .map (some mb)]
def zke : List Value := [.int .i64 0, .int .i64 0, .int .i64 0, .int .i64 0, .int .i64 0, .int .i64 0, .slice none 0 0, .slice none 0 0, .map none]
theorem built_ke0 (a b c d e f : Int) (A A2 : Option Addr) (n m n2 m2 mb : Nat) : Try.prog.built 89 [(0, .agg #[.int .i64 a, .int .i64 b, .int .i64 c, .int .i64 d, .int .i64 e, .int .i64 f, .slice A n m]), (1, .slice A2 n2 m2), (2, .map (some mb))] = some #[.int .i64 a, .int .i64 b, .int .i64 c, .int .i64 d, .int .i64 e, .int .i64 f, .slice A n m, .slice A2 n2 m2, .map (some mb)] := by kernel_rfl
theorem built_ke (p : PoM) (A : Option Addr) (n m mb : Nat) : Try.prog.built 89 [(0, .agg p.cells.toArray), (1, .slice A n m), (2, .map (some mb))] = some (keV p (.slice A n m) mb).toArray := built_ke0 _ _ _ _ _ _ _ _ _ _ _ _ _
theorem keV_one (p : PoM) (A : Option Addr) (n m mb : Nat) : ∀ v ∈ keV p (.slice A n m) mb, v.oneCell' = true := by
  intro v hv
  rcases List.mem_append.1 hv with h | h
  · exact cells_one p v h
  · simp at h; rcases h with rfl | rfl <;> rfl
set_option maxRecDepth 100000 in
set_option maxHeartbeats 4000000 in
theorem with_any (p : PoM) (A : Option Addr) (n m : Nat) (w : World) : Calls Try.prog 70 #[.agg p.cells.toArray, .slice A n m] w fun e w' => ∃ mb, w.heap.size ≤ mb ∧ e = .returned (.agg (keV p (.slice A n m) mb).toArray) ∧ (∀ R, MemoM w' mb R) ∧ Below w.heap.size w w' := by
  have l0 : Lies (w.alloc (.cells p.cells.toArray 34)) w.heap.size 34 p.cells.toArray := Lies.fresh _ _ _
  have b0 : Below w.heap.size w (w.alloc (.cells p.cells.toArray 34)) := (by repeat (first | (with_reducible assumption) | (with_reducible exact Below.refl _ _) | (with_reducible refine Below.drew ?_) | (with_reducible refine below_drewN ?_ _) | ((with_reducible refine Below.setCell ?_ ?_ _); rotate_left; focus (first | (simp; done) | (simp; omega) | omega)) | ((with_reducible refine Below.alloc ?_ ?_ _); rotate_left; focus (first | (simp; done) | (simp; omega) | omega))))
  have hz0 : (w.alloc (.cells p.cells.toArray 34)).heap.size = w.heap.size + 1 := by simp
  have hmm := @run_makeMap Try.prog
  go_enter Try.func70, Try.ntmps70
  go_upto_region 1 with (fail)
  have l1 := l0.alloc (.cells zke.toArray 89)
  have b1 := b0.alloc b0.size (.cells zke.toArray 89)
  have lk : Lies ((w.alloc (.cells p.cells.toArray 34)).alloc (.cells zke.toArray 89)) (w.heap.size + 1) 89 zke.toArray := Lies.fresh' (by simp)
  have hz1 : ((w.alloc (.cells p.cells.toArray 34)).alloc (.cells zke.toArray 89)).heap.size = w.heap.size + 2 := by simp
  clear l0 b0 hz0
  change Code.wp _ _ _ _ ((w.alloc (.cells p.cells.toArray 34)).alloc (.cells zke.toArray 89))
  generalize (w.alloc (.cells p.cells.toArray 34)).alloc (.cells zke.toArray 89) = w1 at *
  have L1 := Lib.hid l1
  have B1 := Lib.hid b1
  have LK := Lib.hid (lk.alloc (.map #[] 0))
  have HZ1 := Lib.hid hz1
  clear l1 b1 lk hz1
  go_wp2_with (first
    | (refine wpList_load_row (o := ⟨some 5, _, _, _, _, _⟩) ?_ 34 (.tmp 2) ?_ w.heap.size ?_ 34 p.cells.toArray (0, 0) _ L1.out Try.underlying34 rfl size_po ?_; rfl; rfl; rfl)
    | (refine wpList_build (o := ⟨some 8, _, _, _, _, _⟩) ?_ 89 #[(0, .tmp 5), (1, .tmp 6), (2, .tmp 7)] ?_ #[(0, .agg p.cells.toArray), (1, .slice A n m), (2, .map (some w1.heap.size))] ?_ (keV p (.slice A n m) w1.heap.size).toArray ?_ ?_; rfl; rfl; (simp only [List.map_toArray, List.map_cons, List.map_nil]; rfl); exact built_ke p A n m _)
    | (refine wpList_store_cells (o := ⟨none, .store 89 (.tmp 4) _, _, _, _, _⟩) ?_ 89 (.tmp 4) (.tmp 8) ?_ (w.heap.size + 1) 0 ?_ 89 zke (keV p (.slice A n m) w1.heap.size) ?_ LK.out (by simp [zke, keV, PoM.cells]) size_ke (keV_one p A n m _) ?_; rfl; rfl; rfl; rfl; intro w2 HS2 HO2))
  have hs2 := HS2.out
  rw [splice_whole (by simp [zke, keV, PoM.cells])] at hs2
  have hb2 : Below w.heap.size w w2 := HO2.out.below (B1.out.alloc B1.out.size _) (by omega)
  have hm2 : ∀ R, MemoM w2 w1.heap.size R := fun R => (memo_made w1 R).to_ (HO2.out.block _ (by have := HZ1.out; omega))
  refine bodyPost_ret (results_cell_row rfl _ _ (w.heap.size + 1) 89 (keV p (.slice A n m) w1.heap.size).toArray (0, 0) _ rfl hs2 Try.underlying89 rfl size_ke) rfl ?_
  exact ⟨w1.heap.size, by have := HZ1.out; omega, rfl, hm2, hb2⟩
end Go.Proofs.Yteognijlgalahaa
