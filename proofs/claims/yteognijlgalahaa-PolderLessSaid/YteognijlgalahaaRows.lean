/-
  No cell of these rows narrows 'for every input' (looked for: loops, veiled, ifaces, maps, wideKeys, modest, calm, conditions, laid).
  DERIVED. THE GIVEN ROWS OF THIS SEAT. 12 by the template 'for every input the law returns true; each argument reads behind the call as it read before'; 0 by the template 'total and deterministic' (their statements: YteognijlgalahaaTotals.lean).
  GIVEN WITH THE SEED: the statements are not yours to turn. If you find one false, say at which input.
  Laid BY PROGRAM, IN A SANDBOX (cutbox-rows.mjs): the forced cells as the released guide's own fill.sh prints them over the translation 9a5422ab65508e6e… (all of the seat's roots in one cut). By AI agents, Wed Nov 11 2026. No macro, syntax, notation, axiom, sorry.
-/
import Derived.Test.YteognijlgalahaaChecked
import GoSem.Claim
import GoSem.ClaimJoined
import GoSem.ClaimMapViews
import Derived.JoinedTies
import Derived.KernelRfl
namespace Go.Proofs.Yteognijlgalahaa
/- THE CELL 'sum', in the pinned program and in every row, IS THE sha256 OF THE DUMP (.gsa) THAT YteognijlgalahaaProg.lean LOADS. Nothing in Lean hashes anything: it is a label: what it is worth is what the hold of that sum in a sandbox is worth. -/
noncomputable def Try.pinned : Pinned := { name := "yteognijlgalahaa", sum := "9a5422ab65508e6e0b782b72078b113d05a889c7a239455032cd1ccf4b5fee63", checked := Try.checked }
namespace Rows
def none {H : Type} : Left H := { results := [], args := [] }

/-- 'bybloemlaw10.PolderHolds': WHATEVER THE INPUT: true; the input reads as it did. -/
def polderHoldsSpec : ChangeSpec := { name := "polderHolds", fn := fun _ => fun
  | [d] => { results := [.lit (.bool true)], args := [d] }
  | _ => none }
def polderHoldsRow : OpenClaim := { program := "yteognijlgalahaa", sum := "9a5422ab65508e6e0b782b72078b113d05a889c7a239455032cd1ccf4b5fee63", func := "bybloem/bybloemlaw10.PolderHolds", spec := "polderHolds", unfollowed := true, recurses := true, plainKeys := false, apart := false }
def PolderHoldsSaid : Prop := polderHoldsRow.holds Try.pinned (OpenSpec.ofChange polderHoldsSpec)

/-- ITS FALSE NEIGHBOUR: 'it returns false'. Refute it at one input. -/
def polderHoldsWrong : ChangeSpec := { name := "polderHolds", fn := fun _ => fun
  | [d] => { results := [.lit (.bool false)], args := [d] }
  | _ => none }
def PolderHoldsWrongFalsely : Prop := polderHoldsRow.holds Try.pinned (OpenSpec.ofChange polderHoldsWrong)

/-- 'bybloemlaw10.PolderCosts': WHATEVER THE INPUT: true; the input reads as it did. -/
def polderCostsSpec : ChangeSpec := { name := "polderCosts", fn := fun _ => fun
  | [d1, d2, d3] => { results := [.lit (.bool true)], args := [d1, d2, d3] }
  | _ => none }
def polderCostsRow : OpenClaim := { program := "yteognijlgalahaa", sum := "9a5422ab65508e6e0b782b72078b113d05a889c7a239455032cd1ccf4b5fee63", func := "bybloem/bybloemlaw10.PolderCosts", spec := "polderCosts", unfollowed := true, recurses := true, plainKeys := false, apart := false }
def PolderCostsSaid : Prop := polderCostsRow.holds Try.pinned (OpenSpec.ofChange polderCostsSpec)

/-- ITS FALSE NEIGHBOUR: 'it returns false'. Refute it at one input. -/
def polderCostsWrong : ChangeSpec := { name := "polderCosts", fn := fun _ => fun
  | [d1, d2, d3] => { results := [.lit (.bool false)], args := [d1, d2, d3] }
  | _ => none }
def PolderCostsWrongFalsely : Prop := polderCostsRow.holds Try.pinned (OpenSpec.ofChange polderCostsWrong)

/-- 'bybloemlaw10.PolderPlays': WHATEVER THE INPUT: true; the input reads as it did. -/
def polderPlaysSpec : ChangeSpec := { name := "polderPlays", fn := fun _ => fun
  | [d1, d2, d3] => { results := [.lit (.bool true)], args := [d1, d2, d3] }
  | _ => none }
def polderPlaysRow : OpenClaim := { program := "yteognijlgalahaa", sum := "9a5422ab65508e6e0b782b72078b113d05a889c7a239455032cd1ccf4b5fee63", func := "bybloem/bybloemlaw10.PolderPlays", spec := "polderPlays", unfollowed := true, recurses := true, plainKeys := false, apart := false }
def PolderPlaysSaid : Prop := polderPlaysRow.holds Try.pinned (OpenSpec.ofChange polderPlaysSpec)

/-- ITS FALSE NEIGHBOUR: 'it returns false'. Refute it at one input. -/
def polderPlaysWrong : ChangeSpec := { name := "polderPlays", fn := fun _ => fun
  | [d1, d2, d3] => { results := [.lit (.bool false)], args := [d1, d2, d3] }
  | _ => none }
def PolderPlaysWrongFalsely : Prop := polderPlaysRow.holds Try.pinned (OpenSpec.ofChange polderPlaysWrong)

/-- 'bybloemlaw10.PolderTables': WHATEVER THE INPUT: true; the input reads as it did. -/
def polderTablesSpec : ChangeSpec := { name := "polderTables", fn := fun _ => fun
  | [d] => { results := [.lit (.bool true)], args := [d] }
  | _ => none }
def polderTablesRow : OpenClaim := { program := "yteognijlgalahaa", sum := "9a5422ab65508e6e0b782b72078b113d05a889c7a239455032cd1ccf4b5fee63", func := "bybloem/bybloemlaw10.PolderTables", spec := "polderTables", unfollowed := true, recurses := true, plainKeys := false, apart := false }
def PolderTablesSaid : Prop := polderTablesRow.holds Try.pinned (OpenSpec.ofChange polderTablesSpec)

/-- ITS FALSE NEIGHBOUR: 'it returns false'. Refute it at one input. -/
def polderTablesWrong : ChangeSpec := { name := "polderTables", fn := fun _ => fun
  | [d] => { results := [.lit (.bool false)], args := [d] }
  | _ => none }
def PolderTablesWrongFalsely : Prop := polderTablesRow.holds Try.pinned (OpenSpec.ofChange polderTablesWrong)

/-- 'bybloemlaw10.PolderProves': WHATEVER THE INPUT: true; the input reads as it did. -/
def polderProvesSpec : ChangeSpec := { name := "polderProves", fn := fun _ => fun
  | [d1, d2, d3, d4, d5, d6] => { results := [.lit (.bool true)], args := [d1, d2, d3, d4, d5, d6] }
  | _ => none }
def polderProvesRow : OpenClaim := { program := "yteognijlgalahaa", sum := "9a5422ab65508e6e0b782b72078b113d05a889c7a239455032cd1ccf4b5fee63", func := "bybloem/bybloemlaw10.PolderProves", spec := "polderProves", unfollowed := true, recurses := true, plainKeys := false, apart := false }
def PolderProvesSaid : Prop := polderProvesRow.holds Try.pinned (OpenSpec.ofChange polderProvesSpec)

/-- ITS FALSE NEIGHBOUR: 'it returns false'. Refute it at one input. -/
def polderProvesWrong : ChangeSpec := { name := "polderProves", fn := fun _ => fun
  | [d1, d2, d3, d4, d5, d6] => { results := [.lit (.bool false)], args := [d1, d2, d3, d4, d5, d6] }
  | _ => none }
def PolderProvesWrongFalsely : Prop := polderProvesRow.holds Try.pinned (OpenSpec.ofChange polderProvesWrong)

/-- 'bybloemlaw10.PolderNames': WHATEVER THE INPUT: true; the input reads as it did. -/
def polderNamesSpec : ChangeSpec := { name := "polderNames", fn := fun _ => fun
  | [] => { results := [.lit (.bool true)], args := [] }
  | _ => none }
def polderNamesRow : OpenClaim := { program := "yteognijlgalahaa", sum := "9a5422ab65508e6e0b782b72078b113d05a889c7a239455032cd1ccf4b5fee63", func := "bybloem/bybloemlaw10.PolderNames", spec := "polderNames", unfollowed := true, recurses := true, plainKeys := false, apart := false }
def PolderNamesSaid : Prop := polderNamesRow.holds Try.pinned (OpenSpec.ofChange polderNamesSpec)

/-- ITS FALSE NEIGHBOUR: 'it returns false'. Refute it at one input. -/
def polderNamesWrong : ChangeSpec := { name := "polderNames", fn := fun _ => fun
  | [] => { results := [.lit (.bool false)], args := [] }
  | _ => none }
def PolderNamesWrongFalsely : Prop := polderNamesRow.holds Try.pinned (OpenSpec.ofChange polderNamesWrong)

/-- 'bybloemlaw10.PolderRain': WHATEVER THE INPUT: true; the input reads as it did. -/
def polderRainSpec : ChangeSpec := { name := "polderRain", fn := fun _ => fun
  | [d1, d2, d3] => { results := [.lit (.bool true)], args := [d1, d2, d3] }
  | _ => none }
def polderRainRow : OpenClaim := { program := "yteognijlgalahaa", sum := "9a5422ab65508e6e0b782b72078b113d05a889c7a239455032cd1ccf4b5fee63", func := "bybloem/bybloemlaw10.PolderRain", spec := "polderRain", unfollowed := true, recurses := true, plainKeys := false, apart := false }
def PolderRainSaid : Prop := polderRainRow.holds Try.pinned (OpenSpec.ofChange polderRainSpec)

/-- ITS FALSE NEIGHBOUR: 'it returns false'. Refute it at one input. -/
def polderRainWrong : ChangeSpec := { name := "polderRain", fn := fun _ => fun
  | [d1, d2, d3] => { results := [.lit (.bool false)], args := [d1, d2, d3] }
  | _ => none }
def PolderRainWrongFalsely : Prop := polderRainRow.holds Try.pinned (OpenSpec.ofChange polderRainWrong)

/-- 'bybloemlaw10.PolderLess': WHATEVER THE INPUT: true; the input reads as it did. -/
def polderLessSpec : ChangeSpec := { name := "polderLess", fn := fun _ => fun
  | [d1, d2, d3, d4, d5, d6] => { results := [.lit (.bool true)], args := [d1, d2, d3, d4, d5, d6] }
  | _ => none }
def polderLessRow : OpenClaim := { program := "yteognijlgalahaa", sum := "9a5422ab65508e6e0b782b72078b113d05a889c7a239455032cd1ccf4b5fee63", func := "bybloem/bybloemlaw10.PolderLess", spec := "polderLess", unfollowed := true, recurses := true, plainKeys := false, apart := false }
def PolderLessSaid : Prop := polderLessRow.holds Try.pinned (OpenSpec.ofChange polderLessSpec)

/-- ITS FALSE NEIGHBOUR: 'it returns false'. Refute it at one input. -/
def polderLessWrong : ChangeSpec := { name := "polderLess", fn := fun _ => fun
  | [d1, d2, d3, d4, d5, d6] => { results := [.lit (.bool false)], args := [d1, d2, d3, d4, d5, d6] }
  | _ => none }
def PolderLessWrongFalsely : Prop := polderLessRow.holds Try.pinned (OpenSpec.ofChange polderLessWrong)

/-- 'bybloemlaw10.PolderEnds': WHATEVER THE INPUT: true; the input reads as it did. -/
def polderEndsSpec : ChangeSpec := { name := "polderEnds", fn := fun _ => fun
  | [d1, d2, d3] => { results := [.lit (.bool true)], args := [d1, d2, d3] }
  | _ => none }
def polderEndsRow : OpenClaim := { program := "yteognijlgalahaa", sum := "9a5422ab65508e6e0b782b72078b113d05a889c7a239455032cd1ccf4b5fee63", func := "bybloem/bybloemlaw10.PolderEnds", spec := "polderEnds", unfollowed := true, recurses := true, plainKeys := false, apart := false }
def PolderEndsSaid : Prop := polderEndsRow.holds Try.pinned (OpenSpec.ofChange polderEndsSpec)

/-- ITS FALSE NEIGHBOUR: 'it returns false'. Refute it at one input. -/
def polderEndsWrong : ChangeSpec := { name := "polderEnds", fn := fun _ => fun
  | [d1, d2, d3] => { results := [.lit (.bool false)], args := [d1, d2, d3] }
  | _ => none }
def PolderEndsWrongFalsely : Prop := polderEndsRow.holds Try.pinned (OpenSpec.ofChange polderEndsWrong)

/-- 'bybloemlaw10.PolderEasier': WHATEVER THE INPUT: true; the input reads as it did. -/
def polderEasierSpec : ChangeSpec := { name := "polderEasier", fn := fun _ => fun
  | [d1, d2, d3, d4] => { results := [.lit (.bool true)], args := [d1, d2, d3, d4] }
  | _ => none }
def polderEasierRow : OpenClaim := { program := "yteognijlgalahaa", sum := "9a5422ab65508e6e0b782b72078b113d05a889c7a239455032cd1ccf4b5fee63", func := "bybloem/bybloemlaw10.PolderEasier", spec := "polderEasier", unfollowed := true, recurses := true, plainKeys := false, apart := false }
def PolderEasierSaid : Prop := polderEasierRow.holds Try.pinned (OpenSpec.ofChange polderEasierSpec)

/-- ITS FALSE NEIGHBOUR: 'it returns false'. Refute it at one input. -/
def polderEasierWrong : ChangeSpec := { name := "polderEasier", fn := fun _ => fun
  | [d1, d2, d3, d4] => { results := [.lit (.bool false)], args := [d1, d2, d3, d4] }
  | _ => none }
def PolderEasierWrongFalsely : Prop := polderEasierRow.holds Try.pinned (OpenSpec.ofChange polderEasierWrong)

/-- 'bybloemlaw10.PolderLater': WHATEVER THE INPUT: true; the input reads as it did. -/
def polderLaterSpec : ChangeSpec := { name := "polderLater", fn := fun _ => fun
  | [d1, d2, d3] => { results := [.lit (.bool true)], args := [d1, d2, d3] }
  | _ => none }
def polderLaterRow : OpenClaim := { program := "yteognijlgalahaa", sum := "9a5422ab65508e6e0b782b72078b113d05a889c7a239455032cd1ccf4b5fee63", func := "bybloem/bybloemlaw10.PolderLater", spec := "polderLater", unfollowed := true, recurses := true, plainKeys := false, apart := false }
def PolderLaterSaid : Prop := polderLaterRow.holds Try.pinned (OpenSpec.ofChange polderLaterSpec)

/-- ITS FALSE NEIGHBOUR: 'it returns false'. Refute it at one input. -/
def polderLaterWrong : ChangeSpec := { name := "polderLater", fn := fun _ => fun
  | [d1, d2, d3] => { results := [.lit (.bool false)], args := [d1, d2, d3] }
  | _ => none }
def PolderLaterWrongFalsely : Prop := polderLaterRow.holds Try.pinned (OpenSpec.ofChange polderLaterWrong)

/-- 'bybloemlaw10.PolderMirrored': WHATEVER THE INPUT: true; the input reads as it did. -/
def polderMirroredSpec : ChangeSpec := { name := "polderMirrored", fn := fun _ => fun
  | [d] => { results := [.lit (.bool true)], args := [d] }
  | _ => none }
def polderMirroredRow : OpenClaim := { program := "yteognijlgalahaa", sum := "9a5422ab65508e6e0b782b72078b113d05a889c7a239455032cd1ccf4b5fee63", func := "bybloem/bybloemlaw10.PolderMirrored", spec := "polderMirrored", unfollowed := true, recurses := true, plainKeys := false, apart := false }
def PolderMirroredSaid : Prop := polderMirroredRow.holds Try.pinned (OpenSpec.ofChange polderMirroredSpec)

/-- ITS FALSE NEIGHBOUR: 'it returns false'. Refute it at one input. -/
def polderMirroredWrong : ChangeSpec := { name := "polderMirrored", fn := fun _ => fun
  | [d] => { results := [.lit (.bool false)], args := [d] }
  | _ => none }
def PolderMirroredWrongFalsely : Prop := polderMirroredRow.holds Try.pinned (OpenSpec.ofChange polderMirroredWrong)

/- THE SECOND FORM. 'bulk': how many values and letters a reading holds, each counted each time it is reached (what is shared counts as often as it is met; a slice's spare places count too). A statement '..UptoSaid' is the law's where the arguments, and the package variables that the reading takes, are together of bulk at most 1048576: NARROWER than '..Said'. Prove '..Said' where nothing that the law and all that it calls make is longer than what came in: it says more and counts as full. Else prove '..UptoSaid'. A law counts once. -/
mutual
def uptoBulk {H : Type} : DataW H → Nat
  | .lit (.string bytes) => bytes.length + 1
  | .lit _ => 1
  | .nil => 1
  | .ptr d => uptoBulk d + 1
  | .slice elems spare => uptoBulkAll elems + uptoBulkAll spare + 1
  | .agg parts => uptoBulkAll parts + 1
  | .iface _ d => uptoBulk d + 1
  | .map entries => uptoBulkEntries entries + 1
  | .held _ => 1
def uptoBulkAll {H : Type} : List (DataW H) → Nat
  | [] => 0
  | d :: r => uptoBulk d + uptoBulkAll r
def uptoBulkEntries {H : Type} : List (Lit × DataW H) → Nat
  | [] => 0
  | x :: r => uptoBulkEntry x + uptoBulkEntries r
def uptoBulkEntry {H : Type} : Lit × DataW H → Nat
  | (.string bytes, d) => bytes.length + uptoBulk d + 1
  | (_, d) => uptoBulk d + 1
 end
def uptoSmall : (H : Type) → List (DataW H) → Bool := fun _ ds => decide (uptoBulkAll ds ≤ 1048576)
def OpenSpec.upto (s : _root_.Go.ChangeSpec) : _root_.Go.OpenSpec := { _root_.Go.OpenSpec.ofChange s with cond := some uptoSmall }

/-- 'bybloemlaw10.PolderHolds', WHERE WHAT IT READS IS OF BULK AT MOST 1048576: true; the input reads as it did. -/
def polderHoldsUptoRow : OpenClaim := { program := "yteognijlgalahaa", sum := "9a5422ab65508e6e0b782b72078b113d05a889c7a239455032cd1ccf4b5fee63", func := "bybloem/bybloemlaw10.PolderHolds", spec := "polderHolds", unfollowed := true, recurses := true, plainKeys := false, apart := false, narrowed := true }
def PolderHoldsUptoSaid : Prop := polderHoldsUptoRow.holds Try.pinned (OpenSpec.upto polderHoldsSpec)

/-- 'bybloemlaw10.PolderCosts', WHERE WHAT IT READS IS OF BULK AT MOST 1048576: true; the input reads as it did. -/
def polderCostsUptoRow : OpenClaim := { program := "yteognijlgalahaa", sum := "9a5422ab65508e6e0b782b72078b113d05a889c7a239455032cd1ccf4b5fee63", func := "bybloem/bybloemlaw10.PolderCosts", spec := "polderCosts", unfollowed := true, recurses := true, plainKeys := false, apart := false, narrowed := true }
def PolderCostsUptoSaid : Prop := polderCostsUptoRow.holds Try.pinned (OpenSpec.upto polderCostsSpec)

/-- 'bybloemlaw10.PolderPlays', WHERE WHAT IT READS IS OF BULK AT MOST 1048576: true; the input reads as it did. -/
def polderPlaysUptoRow : OpenClaim := { program := "yteognijlgalahaa", sum := "9a5422ab65508e6e0b782b72078b113d05a889c7a239455032cd1ccf4b5fee63", func := "bybloem/bybloemlaw10.PolderPlays", spec := "polderPlays", unfollowed := true, recurses := true, plainKeys := false, apart := false, narrowed := true }
def PolderPlaysUptoSaid : Prop := polderPlaysUptoRow.holds Try.pinned (OpenSpec.upto polderPlaysSpec)

/-- 'bybloemlaw10.PolderTables', WHERE WHAT IT READS IS OF BULK AT MOST 1048576: true; the input reads as it did. -/
def polderTablesUptoRow : OpenClaim := { program := "yteognijlgalahaa", sum := "9a5422ab65508e6e0b782b72078b113d05a889c7a239455032cd1ccf4b5fee63", func := "bybloem/bybloemlaw10.PolderTables", spec := "polderTables", unfollowed := true, recurses := true, plainKeys := false, apart := false, narrowed := true }
def PolderTablesUptoSaid : Prop := polderTablesUptoRow.holds Try.pinned (OpenSpec.upto polderTablesSpec)

/-- 'bybloemlaw10.PolderProves', WHERE WHAT IT READS IS OF BULK AT MOST 1048576: true; the input reads as it did. -/
def polderProvesUptoRow : OpenClaim := { program := "yteognijlgalahaa", sum := "9a5422ab65508e6e0b782b72078b113d05a889c7a239455032cd1ccf4b5fee63", func := "bybloem/bybloemlaw10.PolderProves", spec := "polderProves", unfollowed := true, recurses := true, plainKeys := false, apart := false, narrowed := true }
def PolderProvesUptoSaid : Prop := polderProvesUptoRow.holds Try.pinned (OpenSpec.upto polderProvesSpec)

/-- 'bybloemlaw10.PolderNames', WHERE WHAT IT READS IS OF BULK AT MOST 1048576: true; the input reads as it did. -/
def polderNamesUptoRow : OpenClaim := { program := "yteognijlgalahaa", sum := "9a5422ab65508e6e0b782b72078b113d05a889c7a239455032cd1ccf4b5fee63", func := "bybloem/bybloemlaw10.PolderNames", spec := "polderNames", unfollowed := true, recurses := true, plainKeys := false, apart := false, narrowed := true }
def PolderNamesUptoSaid : Prop := polderNamesUptoRow.holds Try.pinned (OpenSpec.upto polderNamesSpec)

/-- 'bybloemlaw10.PolderRain', WHERE WHAT IT READS IS OF BULK AT MOST 1048576: true; the input reads as it did. -/
def polderRainUptoRow : OpenClaim := { program := "yteognijlgalahaa", sum := "9a5422ab65508e6e0b782b72078b113d05a889c7a239455032cd1ccf4b5fee63", func := "bybloem/bybloemlaw10.PolderRain", spec := "polderRain", unfollowed := true, recurses := true, plainKeys := false, apart := false, narrowed := true }
def PolderRainUptoSaid : Prop := polderRainUptoRow.holds Try.pinned (OpenSpec.upto polderRainSpec)

/-- 'bybloemlaw10.PolderLess', WHERE WHAT IT READS IS OF BULK AT MOST 1048576: true; the input reads as it did. -/
def polderLessUptoRow : OpenClaim := { program := "yteognijlgalahaa", sum := "9a5422ab65508e6e0b782b72078b113d05a889c7a239455032cd1ccf4b5fee63", func := "bybloem/bybloemlaw10.PolderLess", spec := "polderLess", unfollowed := true, recurses := true, plainKeys := false, apart := false, narrowed := true }
def PolderLessUptoSaid : Prop := polderLessUptoRow.holds Try.pinned (OpenSpec.upto polderLessSpec)

/-- 'bybloemlaw10.PolderEnds', WHERE WHAT IT READS IS OF BULK AT MOST 1048576: true; the input reads as it did. -/
def polderEndsUptoRow : OpenClaim := { program := "yteognijlgalahaa", sum := "9a5422ab65508e6e0b782b72078b113d05a889c7a239455032cd1ccf4b5fee63", func := "bybloem/bybloemlaw10.PolderEnds", spec := "polderEnds", unfollowed := true, recurses := true, plainKeys := false, apart := false, narrowed := true }
def PolderEndsUptoSaid : Prop := polderEndsUptoRow.holds Try.pinned (OpenSpec.upto polderEndsSpec)

/-- 'bybloemlaw10.PolderEasier', WHERE WHAT IT READS IS OF BULK AT MOST 1048576: true; the input reads as it did. -/
def polderEasierUptoRow : OpenClaim := { program := "yteognijlgalahaa", sum := "9a5422ab65508e6e0b782b72078b113d05a889c7a239455032cd1ccf4b5fee63", func := "bybloem/bybloemlaw10.PolderEasier", spec := "polderEasier", unfollowed := true, recurses := true, plainKeys := false, apart := false, narrowed := true }
def PolderEasierUptoSaid : Prop := polderEasierUptoRow.holds Try.pinned (OpenSpec.upto polderEasierSpec)

/-- 'bybloemlaw10.PolderLater', WHERE WHAT IT READS IS OF BULK AT MOST 1048576: true; the input reads as it did. -/
def polderLaterUptoRow : OpenClaim := { program := "yteognijlgalahaa", sum := "9a5422ab65508e6e0b782b72078b113d05a889c7a239455032cd1ccf4b5fee63", func := "bybloem/bybloemlaw10.PolderLater", spec := "polderLater", unfollowed := true, recurses := true, plainKeys := false, apart := false, narrowed := true }
def PolderLaterUptoSaid : Prop := polderLaterUptoRow.holds Try.pinned (OpenSpec.upto polderLaterSpec)

/-- 'bybloemlaw10.PolderMirrored', WHERE WHAT IT READS IS OF BULK AT MOST 1048576: true; the input reads as it did. -/
def polderMirroredUptoRow : OpenClaim := { program := "yteognijlgalahaa", sum := "9a5422ab65508e6e0b782b72078b113d05a889c7a239455032cd1ccf4b5fee63", func := "bybloem/bybloemlaw10.PolderMirrored", spec := "polderMirrored", unfollowed := true, recurses := true, plainKeys := false, apart := false, narrowed := true }
def PolderMirroredUptoSaid : Prop := polderMirroredUptoRow.holds Try.pinned (OpenSpec.upto polderMirroredSpec)

end Rows
end Go.Proofs.Yteognijlgalahaa
