/- The polder of the chapter. -/
import Derived.Test.YteognijlgalahaaPT
namespace Go.Proofs.Yteognijlgalahaa
open Go.RowKit Go.Lib

theorem PoD.worTo_congr {p : PoD} {nx nx' : Int → Int} (h : ∀ lv, p.kept lv → nx lv = nx' lv) (d : Dy) (left : Int) (k : Nat) : p.worTo nx d left k = p.worTo nx' d left k := by
  refine greTo_congr fun i _ => ?_
  unfold PoD.worAt PoD.atD
  split
  · rename_i hi
    exact h _ (inB_iff.1 hi)
  · rfl
theorem PoD.bestTo_congr {p : PoD} {nx nx' : Int → Int} (h : ∀ lv, p.kept lv → nx lv = nx' lv) (d : Dy) (lv : Int) : ∀ k, p.bestTo nx d lv k = p.bestTo nx' d lv k
  | 0 => rfl
  | k + 1 => by
    unfold PoD.bestTo
    rw [PoD.bestTo_congr h d lv k]
    unfold PoD.wor
    rw [PoD.worTo_congr h]
theorem PoD.best_congr {p : PoD} {nx nx' : Int → Int} (h : ∀ lv, p.kept lv → nx lv = nx' lv) (d : Dy) (lv : Int) : p.bestD nx d lv = p.bestD nx' d lv := PoD.bestTo_congr h d lv _
/-- A row of costs, as a function. -/
def PoD.look (p : PoD) (l : List Int) (lv : Int) : Int := l.getD (lv - p.low).toNat 0
def meadD : PoD := ⟨10, 20, 14, 16, 6, 2, [⟨0, 8, 2, 3, 1⟩, ⟨2, 6, 1, 5, 1⟩, ⟨0, 4, 4, 1, 4⟩]⟩
def mrow (nx : Int → Int) (d : Dy) : List Int := (List.range 11).map fun (i : Nat) => (meadD.bestD nx d (10 + (i : Int))).2
def md1 : Dy := ⟨0, 8, 2, 3, 1⟩
def md2 : Dy := ⟨2, 6, 1, 5, 1⟩
def md3 : Dy := ⟨0, 4, 4, 1, 4⟩
def mL3 : List Int := [-1, -1, 8, 4, 0, 0, 0, 0, 0, 0, 0]
def mL2 : List Int := [6, 2, 1, 0, 0, 0, 5, 10, 15, 20, 25]
def mL1 : List Int := [17, 16, 15, 18, 21, 24, 27, 30, 33, 38, 43]
theorem look_row {nx : Int → Int} {d : Dy} {L : List Int} (h : mrow nx d = L) {lv : Int} (hk : meadD.kept lv) : (meadD.bestD nx d lv).2 = meadD.look L lv := by
  have h1 : (10 : Int) ≤ lv := hk.1
  have h2 : lv ≤ (20 : Int) := hk.2
  obtain ⟨i, rfl⟩ : ∃ i : Nat, lv = 10 + (i : Int) := ⟨(lv - 10).toNat, by omega⟩
  have hi : i < 11 := by omega
  have e : (10 + (i : Int) - meadD.low).toNat = i := by show (10 + (i : Int) - 10).toNat = i; omega
  unfold PoD.look
  rw [e, ← h]
  unfold mrow
  rw [List.getD, List.getElem?_map, List.getElem?_range hi]; rfl
theorem mrow_congr {nx nx' : Int → Int} (h : ∀ lv, meadD.kept lv → nx lv = nx' lv) (d : Dy) : mrow nx d = mrow nx' d := by
  unfold mrow
  refine List.map_congr_left fun i _ => ?_
  rw [PoD.best_congr h]
theorem mr3 : mrow (fun _ => 0) md3 = mL3 := by kernel_rfl
theorem mr2 : mrow (meadD.look mL3) md2 = mL2 := by kernel_rfl
theorem mr1 : mrow (meadD.look mL2) md1 = mL1 := by kernel_rfl
theorem mv3 {lv : Int} (h : meadD.kept lv) : meadD.vals [md3] lv = meadD.look mL3 lv := look_row mr3 h
theorem mv2 {lv : Int} (h : meadD.kept lv) : meadD.vals [md2, md3] lv = meadD.look mL2 lv := by
  show (meadD.bestD (meadD.vals [md3]) md2 lv).2 = _
  rw [PoD.best_congr (fun lv h => mv3 h)]
  exact look_row mr2 h
theorem mv1 {lv : Int} (h : meadD.kept lv) : meadD.vals [md1, md2, md3] lv = meadD.look mL1 lv := by
  show (meadD.bestD (meadD.vals [md2, md3]) md1 lv).2 = _
  rw [PoD.best_congr (fun lv h => mv2 h)]
  exact look_row mr1 h
theorem m_fault : meadD.fault = 0 := by kernel_rfl
theorem m_cost : meadD.costD = 27 := by
  have e : meadD.costD = greTo (fun i => meadD.look mL1 (14 + (i : Int))) 3 := by
    unfold PoD.costD
    rw [show meadD.starts = 3 from rfl]
    refine greTo_congr fun k hk => ?_
    show meadD.vals [md1, md2, md3] (14 + (k : Int)) = _
    exact mv1 (show (10 : Int) ≤ 14 + (k : Int) ∧ 14 + (k : Int) ≤ 20 by omega)
  exact e.trans (by kernel_rfl)
theorem m_least : meadD.leastR = (27, 0) := by
  unfold PoD.leastR
  rw [m_fault, m_cost]; rfl
theorem m_best : meadD.bestR 0 14 = (2, 21, 0) := by
  have e : meadD.bestD (meadD.vals [md2, md3]) md1 14 = (2, 21) := by
    rw [PoD.best_congr (fun lv h => mv2 h)]
    kernel_rfl
  have h0 : meadD.levR 0 14 = 0 := by kernel_rfl
  unfold PoD.bestR
  rw [h0, if_neg (by simp)]
  show (let b := meadD.bestD (meadD.vals [md2, md3]) md1 14; if b.2 = -1 then ((0 : Int), (0 : Int), (9 : Int)) else (b.1, b.2, 0)) = _
  rw [e]; rfl
theorem m_play : meadD.play [md1, md2, md3] 16 [0, 6, 4] = ([10, 17, 17], [4, -2, 0], 14) := by
  have b1 : meadD.bestD (meadD.vals [md2, md3]) md1 16 = (4, 27) := by
    rw [PoD.best_congr (fun lv h => mv2 h)]
    kernel_rfl
  have b2 : meadD.bestD (meadD.vals [md3]) md2 10 = (-2, 6) := by
    rw [PoD.best_congr (fun lv h => mv3 h)]
    kernel_rfl
  have b3 : meadD.bestD (meadD.vals []) md3 17 = (0, 0) := by kernel_rfl
  have p1 : md1.price 4 = 12 := by kernel_rfl
  have p2 : md2.price (-2) = 2 := by kernel_rfl
  have p3 : md3.price 0 = 0 := by kernel_rfl
  rw [PoD.play, b1]
  dsimp only
  rw [show (16 : Int) + (0 - md1.sp - 4) = 10 by decide, PoD.play, b2]
  dsimp only
  rw [show (10 : Int) + (6 - md2.sp - -2) = 17 by decide, PoD.play, b3]
  dsimp only
  rw [p1, p2, p3]; rfl
theorem m_playR : meadD.playR 16 [0, 6, 4] = ([10, 17, 17], [4, -2, 0], 14, 0) := by
  have h0 : meadD.rainR 16 [0, 6, 4] = 0 := by kernel_rfl
  unfold PoD.playR
  rw [h0, m_cost, if_neg (by simp), if_neg (by decide)]
  show ((meadD.play [md1, md2, md3] 16 [0, 6, 4]).1, (meadD.play [md1, md2, md3] 16 [0, 6, 4]).2.1, (meadD.play [md1, md2, md3] 16 [0, 6, 4]).2.2, (0 : Int)) = _
  rw [m_play]
theorem m_table : meadD.tableD = [mL1, mL2, mL3, List.replicate 11 0] := by
  have e0 : meadD.rowT 0 = mL1 := (show mrow (meadD.vals [md2, md3]) md1 = mL1 from (mrow_congr (fun lv h => mv2 h) md1).trans mr1)
  have e1 : meadD.rowT 1 = mL2 := (show mrow (meadD.vals [md3]) md2 = mL2 from (mrow_congr (fun lv h => mv3 h) md2).trans mr2)
  have e2 : meadD.rowT 2 = mL3 := mr3
  have e3 : meadD.rowT 3 = List.replicate 11 0 := by kernel_rfl
  show [meadD.rowT 0, meadD.rowT 1, meadD.rowT 2, meadD.rowT 3] = _
  rw [e0, e1, e2, e3]
theorem m_tab : meadD.tabR = ([mL1, mL2, mL3, List.replicate 11 0], 0) := by
  unfold PoD.tabR
  rw [m_fault, m_table]; rfl
end Go.Proofs.Yteognijlgalahaa
