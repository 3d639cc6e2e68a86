/- Words and numbers that came in, opened. -/
import Derived.Test.YteognijlgalahaaOPP
import Derived.Test.YteognijlgalahaaRB
namespace Go.Proofs.Yteognijlgalahaa
open Go.RowKit Go.Lib

section
variable {H : Type} {enc : TypeId × Value → H} {w : World} {fuel : Nat} {cs : List Value} {x : DataW H × List MemPlace}
theorem cW8 : Try.prog.cellsOf 5 = 1 := by kernel_rfl
theorem open_byte (h : DataW.trod enc Try.prog w 0 (fun _ => true) true fuel 5 cs = some x) : ∃ y : Nat, cs = enc8 y ∧ y < 256 := by
  obtain ⟨n, e, hw⟩ := open_num Try.underlying5 h
  have hb := bounds_u8 hw
  exact ⟨n.toNat, by rw [e]; simp [enc8]; omega, by omega⟩
theorem open_bytes (h : DataW.trod enc Try.prog w 0 (fun _ => true) true fuel 73 cs = some x) : ∃ s : Sv Nat, cs = encV s ∧ ((∀ x, x ∈ s.l → x < 256) ∧ s.l.length ≤ maxLen) ∧ Sl w w.heap.size 1 enc8 s.A s.l := by
  obtain ⟨A, l, c, e, _, hs, hq, hm⟩ := open_sl (en := enc8) (Q := fun y => y < 256) (by decide) Try.underlying73 cW8 (fun _ _ _ h => open_byte h) h
  exact ⟨⟨A, l, c⟩, e, ⟨hq, hm⟩, hs⟩
end
end Go.Proofs.Yteognijlgalahaa
