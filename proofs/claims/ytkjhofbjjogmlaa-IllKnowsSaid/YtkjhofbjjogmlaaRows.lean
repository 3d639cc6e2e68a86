/-
  No cell of these rows narrows 'for every input' (looked for: loops, veiled, ifaces, maps, wideKeys, modest, calm, conditions, laid).
  DERIVED. THE GIVEN ROWS OF THIS SEAT. 12 by the template 'for every input the law returns true; each argument reads behind the call as it read before'; 0 by the template 'total and deterministic' (their statements: YtkjhofbjjogmlaaTotals.lean).
  GIVEN WITH THE SEED: the statements are not yours to turn. If you find one false, say at which input.
  Laid BY PROGRAM, IN A SANDBOX (cutbox-rows.mjs): the forced cells as the released guide's own fill.sh prints them over the translation 745ef1689403cf45… (all of the seat's roots in one cut). By AI agents, Wed Nov 11 2026. No macro, syntax, notation, axiom, sorry.
-/
import Derived.Test.YtkjhofbjjogmlaaChecked
import GoSem.Claim
import GoSem.ClaimJoined
import GoSem.ClaimMapViews
import Derived.JoinedTies
import Derived.KernelRfl
namespace Go.Proofs.Ytkjhofbjjogmlaa
/- THE CELL 'sum', in the pinned program and in every row, IS THE sha256 OF THE DUMP (.gsa) THAT YtkjhofbjjogmlaaProg.lean LOADS. Nothing in Lean hashes anything: it is a label: what it is worth is what the hold of that sum in a sandbox is worth. -/
noncomputable def Try.pinned : Pinned := { name := "ytkjhofbjjogmlaa", sum := "745ef1689403cf45debd5108e15aebf0ba50b04a61fc0c921f0f4c29f9b244b1", checked := Try.checked }
namespace Rows
def none {H : Type} : Left H := { results := [], args := [] }

/-- 'bybloemlaw03.IllFirst': WHATEVER THE INPUT: true; the input reads as it did. -/
def illFirstSpec : ChangeSpec := { name := "illFirst", fn := fun _ => fun
  | [d1, d2] => { results := [.lit (.bool true)], args := [d1, d2] }
  | _ => none }
def illFirstRow : OpenClaim := { program := "ytkjhofbjjogmlaa", sum := "745ef1689403cf45debd5108e15aebf0ba50b04a61fc0c921f0f4c29f9b244b1", func := "bybloem/bybloemlaw03.IllFirst", spec := "illFirst", unfollowed := true, recurses := true, plainKeys := false, apart := false }
def IllFirstSaid : Prop := illFirstRow.holds Try.pinned (OpenSpec.ofChange illFirstSpec)

/-- ITS FALSE NEIGHBOUR: 'it returns false'. Refute it at one input. -/
def illFirstWrong : ChangeSpec := { name := "illFirst", fn := fun _ => fun
  | [d1, d2] => { results := [.lit (.bool false)], args := [d1, d2] }
  | _ => none }
def IllFirstWrongFalsely : Prop := illFirstRow.holds Try.pinned (OpenSpec.ofChange illFirstWrong)

/-- 'bybloemlaw03.IllKnows': WHATEVER THE INPUT: true; the input reads as it did. -/
def illKnowsSpec : ChangeSpec := { name := "illKnows", fn := fun _ => fun
  | [d] => { results := [.lit (.bool true)], args := [d] }
  | _ => none }
def illKnowsRow : OpenClaim := { program := "ytkjhofbjjogmlaa", sum := "745ef1689403cf45debd5108e15aebf0ba50b04a61fc0c921f0f4c29f9b244b1", func := "bybloem/bybloemlaw03.IllKnows", spec := "illKnows", unfollowed := true, recurses := true, plainKeys := false, apart := false }
def IllKnowsSaid : Prop := illKnowsRow.holds Try.pinned (OpenSpec.ofChange illKnowsSpec)

/-- ITS FALSE NEIGHBOUR: 'it returns false'. Refute it at one input. -/
def illKnowsWrong : ChangeSpec := { name := "illKnows", fn := fun _ => fun
  | [d] => { results := [.lit (.bool false)], args := [d] }
  | _ => none }
def IllKnowsWrongFalsely : Prop := illKnowsRow.holds Try.pinned (OpenSpec.ofChange illKnowsWrong)

/-- 'bybloemlaw03.IllSamples': WHATEVER THE INPUT: true; the input reads as it did. -/
def illSamplesSpec : ChangeSpec := { name := "illSamples", fn := fun _ => fun
  | [d1, d2, d3] => { results := [.lit (.bool true)], args := [d1, d2, d3] }
  | _ => none }
def illSamplesRow : OpenClaim := { program := "ytkjhofbjjogmlaa", sum := "745ef1689403cf45debd5108e15aebf0ba50b04a61fc0c921f0f4c29f9b244b1", func := "bybloem/bybloemlaw03.IllSamples", spec := "illSamples", unfollowed := true, recurses := true, plainKeys := false, apart := false }
def IllSamplesSaid : Prop := illSamplesRow.holds Try.pinned (OpenSpec.ofChange illSamplesSpec)

/-- ITS FALSE NEIGHBOUR: 'it returns false'. Refute it at one input. -/
def illSamplesWrong : ChangeSpec := { name := "illSamples", fn := fun _ => fun
  | [d1, d2, d3] => { results := [.lit (.bool false)], args := [d1, d2, d3] }
  | _ => none }
def IllSamplesWrongFalsely : Prop := illSamplesRow.holds Try.pinned (OpenSpec.ofChange illSamplesWrong)

/-- 'bybloemlaw03.IllNames': WHATEVER THE INPUT: true; the input reads as it did. -/
def illNamesSpec : ChangeSpec := { name := "illNames", fn := fun _ => fun
  | [] => { results := [.lit (.bool true)], args := [] }
  | _ => none }
def illNamesRow : OpenClaim := { program := "ytkjhofbjjogmlaa", sum := "745ef1689403cf45debd5108e15aebf0ba50b04a61fc0c921f0f4c29f9b244b1", func := "bybloem/bybloemlaw03.IllNames", spec := "illNames", unfollowed := true, recurses := true, plainKeys := false, apart := false }
def IllNamesSaid : Prop := illNamesRow.holds Try.pinned (OpenSpec.ofChange illNamesSpec)

/-- ITS FALSE NEIGHBOUR: 'it returns false'. Refute it at one input. -/
def illNamesWrong : ChangeSpec := { name := "illNames", fn := fun _ => fun
  | [] => { results := [.lit (.bool false)], args := [] }
  | _ => none }
def IllNamesWrongFalsely : Prop := illNamesRow.holds Try.pinned (OpenSpec.ofChange illNamesWrong)

/-- 'bybloemlaw03.IllTruth': WHATEVER THE INPUT: true; the input reads as it did. -/
def illTruthSpec : ChangeSpec := { name := "illTruth", fn := fun _ => fun
  | [d1, d2] => { results := [.lit (.bool true)], args := [d1, d2] }
  | _ => none }
def illTruthRow : OpenClaim := { program := "ytkjhofbjjogmlaa", sum := "745ef1689403cf45debd5108e15aebf0ba50b04a61fc0c921f0f4c29f9b244b1", func := "bybloem/bybloemlaw03.IllTruth", spec := "illTruth", unfollowed := true, recurses := true, plainKeys := false, apart := false }
def IllTruthSaid : Prop := illTruthRow.holds Try.pinned (OpenSpec.ofChange illTruthSpec)

/-- ITS FALSE NEIGHBOUR: 'it returns false'. Refute it at one input. -/
def illTruthWrong : ChangeSpec := { name := "illTruth", fn := fun _ => fun
  | [d1, d2] => { results := [.lit (.bool false)], args := [d1, d2] }
  | _ => none }
def IllTruthWrongFalsely : Prop := illTruthRow.holds Try.pinned (OpenSpec.ofChange illTruthWrong)

/-- 'bybloemlaw03.IllEarliest': WHATEVER THE INPUT: true; the input reads as it did. -/
def illEarliestSpec : ChangeSpec := { name := "illEarliest", fn := fun _ => fun
  | [d1, d2, d3] => { results := [.lit (.bool true)], args := [d1, d2, d3] }
  | _ => none }
def illEarliestRow : OpenClaim := { program := "ytkjhofbjjogmlaa", sum := "745ef1689403cf45debd5108e15aebf0ba50b04a61fc0c921f0f4c29f9b244b1", func := "bybloem/bybloemlaw03.IllEarliest", spec := "illEarliest", unfollowed := true, recurses := true, plainKeys := false, apart := false }
def IllEarliestSaid : Prop := illEarliestRow.holds Try.pinned (OpenSpec.ofChange illEarliestSpec)

/-- ITS FALSE NEIGHBOUR: 'it returns false'. Refute it at one input. -/
def illEarliestWrong : ChangeSpec := { name := "illEarliest", fn := fun _ => fun
  | [d1, d2, d3] => { results := [.lit (.bool false)], args := [d1, d2, d3] }
  | _ => none }
def IllEarliestWrongFalsely : Prop := illEarliestRow.holds Try.pinned (OpenSpec.ofChange illEarliestWrong)

/-- 'bybloemlaw03.IllNotes': WHATEVER THE INPUT: true; the input reads as it did. -/
def illNotesSpec : ChangeSpec := { name := "illNotes", fn := fun _ => fun
  | [d1, d2] => { results := [.lit (.bool true)], args := [d1, d2] }
  | _ => none }
def illNotesRow : OpenClaim := { program := "ytkjhofbjjogmlaa", sum := "745ef1689403cf45debd5108e15aebf0ba50b04a61fc0c921f0f4c29f9b244b1", func := "bybloem/bybloemlaw03.IllNotes", spec := "illNotes", unfollowed := true, recurses := true, plainKeys := false, apart := false }
def IllNotesSaid : Prop := illNotesRow.holds Try.pinned (OpenSpec.ofChange illNotesSpec)

/-- ITS FALSE NEIGHBOUR: 'it returns false'. Refute it at one input. -/
def illNotesWrong : ChangeSpec := { name := "illNotes", fn := fun _ => fun
  | [d1, d2] => { results := [.lit (.bool false)], args := [d1, d2] }
  | _ => none }
def IllNotesWrongFalsely : Prop := illNotesRow.holds Try.pinned (OpenSpec.ofChange illNotesWrong)

/-- 'bybloemlaw03.IllSure': WHATEVER THE INPUT: true; the input reads as it did. -/
def illSureSpec : ChangeSpec := { name := "illSure", fn := fun _ => fun
  | [d1, d2] => { results := [.lit (.bool true)], args := [d1, d2] }
  | _ => none }
def illSureRow : OpenClaim := { program := "ytkjhofbjjogmlaa", sum := "745ef1689403cf45debd5108e15aebf0ba50b04a61fc0c921f0f4c29f9b244b1", func := "bybloem/bybloemlaw03.IllSure", spec := "illSure", unfollowed := true, recurses := true, plainKeys := false, apart := false }
def IllSureSaid : Prop := illSureRow.holds Try.pinned (OpenSpec.ofChange illSureSpec)

/-- ITS FALSE NEIGHBOUR: 'it returns false'. Refute it at one input. -/
def illSureWrong : ChangeSpec := { name := "illSure", fn := fun _ => fun
  | [d1, d2] => { results := [.lit (.bool false)], args := [d1, d2] }
  | _ => none }
def IllSureWrongFalsely : Prop := illSureRow.holds Try.pinned (OpenSpec.ofChange illSureWrong)

/-- 'bybloemlaw03.IllDug': WHATEVER THE INPUT: true; the input reads as it did. -/
def illDugSpec : ChangeSpec := { name := "illDug", fn := fun _ => fun
  | [d1, d2, d3] => { results := [.lit (.bool true)], args := [d1, d2, d3] }
  | _ => none }
def illDugRow : OpenClaim := { program := "ytkjhofbjjogmlaa", sum := "745ef1689403cf45debd5108e15aebf0ba50b04a61fc0c921f0f4c29f9b244b1", func := "bybloem/bybloemlaw03.IllDug", spec := "illDug", unfollowed := true, recurses := true, plainKeys := false, apart := false }
def IllDugSaid : Prop := illDugRow.holds Try.pinned (OpenSpec.ofChange illDugSpec)

/-- ITS FALSE NEIGHBOUR: 'it returns false'. Refute it at one input. -/
def illDugWrong : ChangeSpec := { name := "illDug", fn := fun _ => fun
  | [d1, d2, d3] => { results := [.lit (.bool false)], args := [d1, d2, d3] }
  | _ => none }
def IllDugWrongFalsely : Prop := illDugRow.holds Try.pinned (OpenSpec.ofChange illDugWrong)

/-- 'bybloemlaw03.IllEnough': WHATEVER THE INPUT: true; the input reads as it did. -/
def illEnoughSpec : ChangeSpec := { name := "illEnough", fn := fun _ => fun
  | [d1, d2, d3, d4, d5] => { results := [.lit (.bool true)], args := [d1, d2, d3, d4, d5] }
  | _ => none }
def illEnoughRow : OpenClaim := { program := "ytkjhofbjjogmlaa", sum := "745ef1689403cf45debd5108e15aebf0ba50b04a61fc0c921f0f4c29f9b244b1", func := "bybloem/bybloemlaw03.IllEnough", spec := "illEnough", unfollowed := true, recurses := true, plainKeys := false, apart := false }
def IllEnoughSaid : Prop := illEnoughRow.holds Try.pinned (OpenSpec.ofChange illEnoughSpec)

/-- ITS FALSE NEIGHBOUR: 'it returns false'. Refute it at one input. -/
def illEnoughWrong : ChangeSpec := { name := "illEnough", fn := fun _ => fun
  | [d1, d2, d3, d4, d5] => { results := [.lit (.bool false)], args := [d1, d2, d3, d4, d5] }
  | _ => none }
def IllEnoughWrongFalsely : Prop := illEnoughRow.holds Try.pinned (OpenSpec.ofChange illEnoughWrong)

/-- 'bybloemlaw03.IllAphids': WHATEVER THE INPUT: true; the input reads as it did. -/
def illAphidsSpec : ChangeSpec := { name := "illAphids", fn := fun _ => fun
  | [d1, d2, d3, d4, d5] => { results := [.lit (.bool true)], args := [d1, d2, d3, d4, d5] }
  | _ => none }
def illAphidsRow : OpenClaim := { program := "ytkjhofbjjogmlaa", sum := "745ef1689403cf45debd5108e15aebf0ba50b04a61fc0c921f0f4c29f9b244b1", func := "bybloem/bybloemlaw03.IllAphids", spec := "illAphids", unfollowed := true, recurses := true, plainKeys := false, apart := false }
def IllAphidsSaid : Prop := illAphidsRow.holds Try.pinned (OpenSpec.ofChange illAphidsSpec)

/-- ITS FALSE NEIGHBOUR: 'it returns false'. Refute it at one input. -/
def illAphidsWrong : ChangeSpec := { name := "illAphids", fn := fun _ => fun
  | [d1, d2, d3, d4, d5] => { results := [.lit (.bool false)], args := [d1, d2, d3, d4, d5] }
  | _ => none }
def IllAphidsWrongFalsely : Prop := illAphidsRow.holds Try.pinned (OpenSpec.ofChange illAphidsWrong)

/-- 'bybloemlaw03.IllTurned': WHATEVER THE INPUT: true; the input reads as it did. -/
def illTurnedSpec : ChangeSpec := { name := "illTurned", fn := fun _ => fun
  | [d] => { results := [.lit (.bool true)], args := [d] }
  | _ => none }
def illTurnedRow : OpenClaim := { program := "ytkjhofbjjogmlaa", sum := "745ef1689403cf45debd5108e15aebf0ba50b04a61fc0c921f0f4c29f9b244b1", func := "bybloem/bybloemlaw03.IllTurned", spec := "illTurned", unfollowed := true, recurses := true, plainKeys := false, apart := false }
def IllTurnedSaid : Prop := illTurnedRow.holds Try.pinned (OpenSpec.ofChange illTurnedSpec)

/-- ITS FALSE NEIGHBOUR: 'it returns false'. Refute it at one input. -/
def illTurnedWrong : ChangeSpec := { name := "illTurned", fn := fun _ => fun
  | [d] => { results := [.lit (.bool false)], args := [d] }
  | _ => none }
def IllTurnedWrongFalsely : Prop := illTurnedRow.holds Try.pinned (OpenSpec.ofChange illTurnedWrong)

/- THE SECOND FORM. 'bulk': how many values and letters a reading holds, each counted each time it is reached (what is shared counts as often as it is met; a slice's spare places count too). A statement '..UptoSaid' is the law's where the arguments, and the package variables that the reading takes, are together of bulk at most 1048576: NARROWER than '..Said'. Prove '..Said' where nothing that the law and all that it calls make is longer than what came in: it says more and counts as full. Else prove '..UptoSaid'. A law counts once. -/
mutual
def uptoBulk {H : Type} : DataW H → Nat
  | .lit (.string bytes) => bytes.length + 1
  | .lit _ => 1
  | .nil => 1
  | .ptr d => uptoBulk d + 1
  | .slice elems spare => uptoBulkAll elems + uptoBulkAll spare + 1
  | .agg parts => uptoBulkAll parts + 1
  | .iface _ d => uptoBulk d + 1
  | .map entries => uptoBulkEntries entries + 1
  | .held _ => 1
def uptoBulkAll {H : Type} : List (DataW H) → Nat
  | [] => 0
  | d :: r => uptoBulk d + uptoBulkAll r
def uptoBulkEntries {H : Type} : List (Lit × DataW H) → Nat
  | [] => 0
  | x :: r => uptoBulkEntry x + uptoBulkEntries r
def uptoBulkEntry {H : Type} : Lit × DataW H → Nat
  | (.string bytes, d) => bytes.length + uptoBulk d + 1
  | (_, d) => uptoBulk d + 1
 end
def uptoSmall : (H : Type) → List (DataW H) → Bool := fun _ ds => decide (uptoBulkAll ds ≤ 1048576)
def OpenSpec.upto (s : _root_.Go.ChangeSpec) : _root_.Go.OpenSpec := { _root_.Go.OpenSpec.ofChange s with cond := some uptoSmall }

/-- 'bybloemlaw03.IllFirst', WHERE WHAT IT READS IS OF BULK AT MOST 1048576: true; the input reads as it did. -/
def illFirstUptoRow : OpenClaim := { program := "ytkjhofbjjogmlaa", sum := "745ef1689403cf45debd5108e15aebf0ba50b04a61fc0c921f0f4c29f9b244b1", func := "bybloem/bybloemlaw03.IllFirst", spec := "illFirst", unfollowed := true, recurses := true, plainKeys := false, apart := false, narrowed := true }
def IllFirstUptoSaid : Prop := illFirstUptoRow.holds Try.pinned (OpenSpec.upto illFirstSpec)

/-- 'bybloemlaw03.IllKnows', WHERE WHAT IT READS IS OF BULK AT MOST 1048576: true; the input reads as it did. -/
def illKnowsUptoRow : OpenClaim := { program := "ytkjhofbjjogmlaa", sum := "745ef1689403cf45debd5108e15aebf0ba50b04a61fc0c921f0f4c29f9b244b1", func := "bybloem/bybloemlaw03.IllKnows", spec := "illKnows", unfollowed := true, recurses := true, plainKeys := false, apart := false, narrowed := true }
def IllKnowsUptoSaid : Prop := illKnowsUptoRow.holds Try.pinned (OpenSpec.upto illKnowsSpec)

/-- 'bybloemlaw03.IllSamples', WHERE WHAT IT READS IS OF BULK AT MOST 1048576: true; the input reads as it did. -/
def illSamplesUptoRow : OpenClaim := { program := "ytkjhofbjjogmlaa", sum := "745ef1689403cf45debd5108e15aebf0ba50b04a61fc0c921f0f4c29f9b244b1", func := "bybloem/bybloemlaw03.IllSamples", spec := "illSamples", unfollowed := true, recurses := true, plainKeys := false, apart := false, narrowed := true }
def IllSamplesUptoSaid : Prop := illSamplesUptoRow.holds Try.pinned (OpenSpec.upto illSamplesSpec)

/-- 'bybloemlaw03.IllNames', WHERE WHAT IT READS IS OF BULK AT MOST 1048576: true; the input reads as it did. -/
def illNamesUptoRow : OpenClaim := { program := "ytkjhofbjjogmlaa", sum := "745ef1689403cf45debd5108e15aebf0ba50b04a61fc0c921f0f4c29f9b244b1", func := "bybloem/bybloemlaw03.IllNames", spec := "illNames", unfollowed := true, recurses := true, plainKeys := false, apart := false, narrowed := true }
def IllNamesUptoSaid : Prop := illNamesUptoRow.holds Try.pinned (OpenSpec.upto illNamesSpec)

/-- 'bybloemlaw03.IllTruth', WHERE WHAT IT READS IS OF BULK AT MOST 1048576: true; the input reads as it did. -/
def illTruthUptoRow : OpenClaim := { program := "ytkjhofbjjogmlaa", sum := "745ef1689403cf45debd5108e15aebf0ba50b04a61fc0c921f0f4c29f9b244b1", func := "bybloem/bybloemlaw03.IllTruth", spec := "illTruth", unfollowed := true, recurses := true, plainKeys := false, apart := false, narrowed := true }
def IllTruthUptoSaid : Prop := illTruthUptoRow.holds Try.pinned (OpenSpec.upto illTruthSpec)

/-- 'bybloemlaw03.IllEarliest', WHERE WHAT IT READS IS OF BULK AT MOST 1048576: true; the input reads as it did. -/
def illEarliestUptoRow : OpenClaim := { program := "ytkjhofbjjogmlaa", sum := "745ef1689403cf45debd5108e15aebf0ba50b04a61fc0c921f0f4c29f9b244b1", func := "bybloem/bybloemlaw03.IllEarliest", spec := "illEarliest", unfollowed := true, recurses := true, plainKeys := false, apart := false, narrowed := true }
def IllEarliestUptoSaid : Prop := illEarliestUptoRow.holds Try.pinned (OpenSpec.upto illEarliestSpec)

/-- 'bybloemlaw03.IllNotes', WHERE WHAT IT READS IS OF BULK AT MOST 1048576: true; the input reads as it did. -/
def illNotesUptoRow : OpenClaim := { program := "ytkjhofbjjogmlaa", sum := "745ef1689403cf45debd5108e15aebf0ba50b04a61fc0c921f0f4c29f9b244b1", func := "bybloem/bybloemlaw03.IllNotes", spec := "illNotes", unfollowed := true, recurses := true, plainKeys := false, apart := false, narrowed := true }
def IllNotesUptoSaid : Prop := illNotesUptoRow.holds Try.pinned (OpenSpec.upto illNotesSpec)

/-- 'bybloemlaw03.IllSure', WHERE WHAT IT READS IS OF BULK AT MOST 1048576: true; the input reads as it did. -/
def illSureUptoRow : OpenClaim := { program := "ytkjhofbjjogmlaa", sum := "745ef1689403cf45debd5108e15aebf0ba50b04a61fc0c921f0f4c29f9b244b1", func := "bybloem/bybloemlaw03.IllSure", spec := "illSure", unfollowed := true, recurses := true, plainKeys := false, apart := false, narrowed := true }
def IllSureUptoSaid : Prop := illSureUptoRow.holds Try.pinned (OpenSpec.upto illSureSpec)

/-- 'bybloemlaw03.IllDug', WHERE WHAT IT READS IS OF BULK AT MOST 1048576: true; the input reads as it did. -/
def illDugUptoRow : OpenClaim := { program := "ytkjhofbjjogmlaa", sum := "745ef1689403cf45debd5108e15aebf0ba50b04a61fc0c921f0f4c29f9b244b1", func := "bybloem/bybloemlaw03.IllDug", spec := "illDug", unfollowed := true, recurses := true, plainKeys := false, apart := false, narrowed := true }
def IllDugUptoSaid : Prop := illDugUptoRow.holds Try.pinned (OpenSpec.upto illDugSpec)

/-- 'bybloemlaw03.IllEnough', WHERE WHAT IT READS IS OF BULK AT MOST 1048576: true; the input reads as it did. -/
def illEnoughUptoRow : OpenClaim := { program := "ytkjhofbjjogmlaa", sum := "745ef1689403cf45debd5108e15aebf0ba50b04a61fc0c921f0f4c29f9b244b1", func := "bybloem/bybloemlaw03.IllEnough", spec := "illEnough", unfollowed := true, recurses := true, plainKeys := false, apart := false, narrowed := true }
def IllEnoughUptoSaid : Prop := illEnoughUptoRow.holds Try.pinned (OpenSpec.upto illEnoughSpec)

/-- 'bybloemlaw03.IllAphids', WHERE WHAT IT READS IS OF BULK AT MOST 1048576: true; the input reads as it did. -/
def illAphidsUptoRow : OpenClaim := { program := "ytkjhofbjjogmlaa", sum := "745ef1689403cf45debd5108e15aebf0ba50b04a61fc0c921f0f4c29f9b244b1", func := "bybloem/bybloemlaw03.IllAphids", spec := "illAphids", unfollowed := true, recurses := true, plainKeys := false, apart := false, narrowed := true }
def IllAphidsUptoSaid : Prop := illAphidsUptoRow.holds Try.pinned (OpenSpec.upto illAphidsSpec)

/-- 'bybloemlaw03.IllTurned', WHERE WHAT IT READS IS OF BULK AT MOST 1048576: true; the input reads as it did. -/
def illTurnedUptoRow : OpenClaim := { program := "ytkjhofbjjogmlaa", sum := "745ef1689403cf45debd5108e15aebf0ba50b04a61fc0c921f0f4c29f9b244b1", func := "bybloem/bybloemlaw03.IllTurned", spec := "illTurned", unfollowed := true, recurses := true, plainKeys := false, apart := false, narrowed := true }
def IllTurnedUptoSaid : Prop := illTurnedUptoRow.holds Try.pinned (OpenSpec.upto illTurnedSpec)

end Rows
end Go.Proofs.Ytkjhofbjjogmlaa
