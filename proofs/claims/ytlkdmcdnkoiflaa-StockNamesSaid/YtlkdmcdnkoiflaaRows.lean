/-
  No cell of these rows narrows 'for every input' (looked for: loops, veiled, ifaces, maps, wideKeys, modest, calm, conditions, laid).
  DERIVED. THE GIVEN ROWS OF THIS SEAT. 14 by the template 'for every input the law returns true; each argument reads behind the call as it read before'; 0 by the template 'total and deterministic' (their statements: YtlkdmcdnkoiflaaTotals.lean).
  GIVEN WITH THE SEED: the statements are not yours to turn. If you find one false, say at which input.
  Laid BY PROGRAM, IN A SANDBOX (cutbox-rows.mjs): the forced cells as the released guide's own fill.sh prints them over the translation 74b87625cdaa212d… (all of the seat's roots in one cut). By AI agents, Wed Nov 11 2026. No macro, syntax, notation, axiom, sorry.
-/
import Derived.Test.YtlkdmcdnkoiflaaChecked
import GoSem.Claim
import GoSem.ClaimJoined
import GoSem.ClaimMapViews
import Derived.JoinedTies
import Derived.KernelRfl
namespace Go.Proofs.Ytlkdmcdnkoiflaa
/- THE CELL 'sum', in the pinned program and in every row, IS THE sha256 OF THE DUMP (.gsa) THAT YtlkdmcdnkoiflaaProg.lean LOADS. Nothing in Lean hashes anything: it is a label: what it is worth is what the hold of that sum in a sandbox is worth. -/
noncomputable def Try.pinned : Pinned := { name := "ytlkdmcdnkoiflaa", sum := "74b87625cdaa212de12150e752878208a311384c30c236632ac9ec92fc938c70", checked := Try.checked }
namespace Rows
def none {H : Type} : Left H := { results := [], args := [] }

/-- 'bybloemlaw02.StockRuns': WHATEVER THE INPUT: true; the input reads as it did. -/
def stockRunsSpec : ChangeSpec := { name := "stockRuns", fn := fun _ => fun
  | [d1, d2] => { results := [.lit (.bool true)], args := [d1, d2] }
  | _ => none }
def stockRunsRow : OpenClaim := { program := "ytlkdmcdnkoiflaa", sum := "74b87625cdaa212de12150e752878208a311384c30c236632ac9ec92fc938c70", func := "bybloem/bybloemlaw02.StockRuns", spec := "stockRuns", unfollowed := true, recurses := true, plainKeys := false, apart := false }
def StockRunsSaid : Prop := stockRunsRow.holds Try.pinned (OpenSpec.ofChange stockRunsSpec)

/-- ITS FALSE NEIGHBOUR: 'it returns false'. Refute it at one input. -/
def stockRunsWrong : ChangeSpec := { name := "stockRuns", fn := fun _ => fun
  | [d1, d2] => { results := [.lit (.bool false)], args := [d1, d2] }
  | _ => none }
def StockRunsWrongFalsely : Prop := stockRunsRow.holds Try.pinned (OpenSpec.ofChange stockRunsWrong)

/-- 'bybloemlaw02.StockCounts': WHATEVER THE INPUT: true; the input reads as it did. -/
def stockCountsSpec : ChangeSpec := { name := "stockCounts", fn := fun _ => fun
  | [d] => { results := [.lit (.bool true)], args := [d] }
  | _ => none }
def stockCountsRow : OpenClaim := { program := "ytlkdmcdnkoiflaa", sum := "74b87625cdaa212de12150e752878208a311384c30c236632ac9ec92fc938c70", func := "bybloem/bybloemlaw02.StockCounts", spec := "stockCounts", unfollowed := true, recurses := true, plainKeys := false, apart := false }
def StockCountsSaid : Prop := stockCountsRow.holds Try.pinned (OpenSpec.ofChange stockCountsSpec)

/-- ITS FALSE NEIGHBOUR: 'it returns false'. Refute it at one input. -/
def stockCountsWrong : ChangeSpec := { name := "stockCounts", fn := fun _ => fun
  | [d] => { results := [.lit (.bool false)], args := [d] }
  | _ => none }
def StockCountsWrongFalsely : Prop := stockCountsRow.holds Try.pinned (OpenSpec.ofChange stockCountsWrong)

/-- 'bybloemlaw02.StockReaches': WHATEVER THE INPUT: true; the input reads as it did. -/
def stockReachesSpec : ChangeSpec := { name := "stockReaches", fn := fun _ => fun
  | [d1, d2, d3] => { results := [.lit (.bool true)], args := [d1, d2, d3] }
  | _ => none }
def stockReachesRow : OpenClaim := { program := "ytlkdmcdnkoiflaa", sum := "74b87625cdaa212de12150e752878208a311384c30c236632ac9ec92fc938c70", func := "bybloem/bybloemlaw02.StockReaches", spec := "stockReaches", unfollowed := true, recurses := true, plainKeys := false, apart := false }
def StockReachesSaid : Prop := stockReachesRow.holds Try.pinned (OpenSpec.ofChange stockReachesSpec)

/-- ITS FALSE NEIGHBOUR: 'it returns false'. Refute it at one input. -/
def stockReachesWrong : ChangeSpec := { name := "stockReaches", fn := fun _ => fun
  | [d1, d2, d3] => { results := [.lit (.bool false)], args := [d1, d2, d3] }
  | _ => none }
def StockReachesWrongFalsely : Prop := stockReachesRow.holds Try.pinned (OpenSpec.ofChange stockReachesWrong)

/-- 'bybloemlaw02.StockLeasts': WHATEVER THE INPUT: true; the input reads as it did. -/
def stockLeastsSpec : ChangeSpec := { name := "stockLeasts", fn := fun _ => fun
  | [d1, d2, d3, d4] => { results := [.lit (.bool true)], args := [d1, d2, d3, d4] }
  | _ => none }
def stockLeastsRow : OpenClaim := { program := "ytlkdmcdnkoiflaa", sum := "74b87625cdaa212de12150e752878208a311384c30c236632ac9ec92fc938c70", func := "bybloem/bybloemlaw02.StockLeasts", spec := "stockLeasts", unfollowed := true, recurses := true, plainKeys := false, apart := false }
def StockLeastsSaid : Prop := stockLeastsRow.holds Try.pinned (OpenSpec.ofChange stockLeastsSpec)

/-- ITS FALSE NEIGHBOUR: 'it returns false'. Refute it at one input. -/
def stockLeastsWrong : ChangeSpec := { name := "stockLeasts", fn := fun _ => fun
  | [d1, d2, d3, d4] => { results := [.lit (.bool false)], args := [d1, d2, d3, d4] }
  | _ => none }
def StockLeastsWrongFalsely : Prop := stockLeastsRow.holds Try.pinned (OpenSpec.ofChange stockLeastsWrong)

/-- 'bybloemlaw02.StockBuys': WHATEVER THE INPUT: true; the input reads as it did. -/
def stockBuysSpec : ChangeSpec := { name := "stockBuys", fn := fun _ => fun
  | [d1, d2, d3, d4, d5] => { results := [.lit (.bool true)], args := [d1, d2, d3, d4, d5] }
  | _ => none }
def stockBuysRow : OpenClaim := { program := "ytlkdmcdnkoiflaa", sum := "74b87625cdaa212de12150e752878208a311384c30c236632ac9ec92fc938c70", func := "bybloem/bybloemlaw02.StockBuys", spec := "stockBuys", unfollowed := true, recurses := true, plainKeys := false, apart := false }
def StockBuysSaid : Prop := stockBuysRow.holds Try.pinned (OpenSpec.ofChange stockBuysSpec)

/-- ITS FALSE NEIGHBOUR: 'it returns false'. Refute it at one input. -/
def stockBuysWrong : ChangeSpec := { name := "stockBuys", fn := fun _ => fun
  | [d1, d2, d3, d4, d5] => { results := [.lit (.bool false)], args := [d1, d2, d3, d4, d5] }
  | _ => none }
def StockBuysWrongFalsely : Prop := stockBuysRow.holds Try.pinned (OpenSpec.ofChange stockBuysWrong)

/-- 'bybloemlaw02.StockNames': WHATEVER THE INPUT: true; the input reads as it did. -/
def stockNamesSpec : ChangeSpec := { name := "stockNames", fn := fun _ => fun
  | [] => { results := [.lit (.bool true)], args := [] }
  | _ => none }
def stockNamesRow : OpenClaim := { program := "ytlkdmcdnkoiflaa", sum := "74b87625cdaa212de12150e752878208a311384c30c236632ac9ec92fc938c70", func := "bybloem/bybloemlaw02.StockNames", spec := "stockNames", unfollowed := true, recurses := true, plainKeys := false, apart := false }
def StockNamesSaid : Prop := stockNamesRow.holds Try.pinned (OpenSpec.ofChange stockNamesSpec)

/-- ITS FALSE NEIGHBOUR: 'it returns false'. Refute it at one input. -/
def stockNamesWrong : ChangeSpec := { name := "stockNames", fn := fun _ => fun
  | [] => { results := [.lit (.bool false)], args := [] }
  | _ => none }
def StockNamesWrongFalsely : Prop := stockNamesRow.holds Try.pinned (OpenSpec.ofChange stockNamesWrong)

/-- 'bybloemlaw02.StockTruth': WHATEVER THE INPUT: true; the input reads as it did. -/
def stockTruthSpec : ChangeSpec := { name := "stockTruth", fn := fun _ => fun
  | [d1, d2] => { results := [.lit (.bool true)], args := [d1, d2] }
  | _ => none }
def stockTruthRow : OpenClaim := { program := "ytlkdmcdnkoiflaa", sum := "74b87625cdaa212de12150e752878208a311384c30c236632ac9ec92fc938c70", func := "bybloem/bybloemlaw02.StockTruth", spec := "stockTruth", unfollowed := true, recurses := true, plainKeys := false, apart := false }
def StockTruthSaid : Prop := stockTruthRow.holds Try.pinned (OpenSpec.ofChange stockTruthSpec)

/-- ITS FALSE NEIGHBOUR: 'it returns false'. Refute it at one input. -/
def stockTruthWrong : ChangeSpec := { name := "stockTruth", fn := fun _ => fun
  | [d1, d2] => { results := [.lit (.bool false)], args := [d1, d2] }
  | _ => none }
def StockTruthWrongFalsely : Prop := stockTruthRow.holds Try.pinned (OpenSpec.ofChange stockTruthWrong)

/-- 'bybloemlaw02.StockKept': WHATEVER THE INPUT: true; the input reads as it did. -/
def stockKeptSpec : ChangeSpec := { name := "stockKept", fn := fun _ => fun
  | [d1, d2] => { results := [.lit (.bool true)], args := [d1, d2] }
  | _ => none }
def stockKeptRow : OpenClaim := { program := "ytlkdmcdnkoiflaa", sum := "74b87625cdaa212de12150e752878208a311384c30c236632ac9ec92fc938c70", func := "bybloem/bybloemlaw02.StockKept", spec := "stockKept", unfollowed := true, recurses := true, plainKeys := false, apart := false }
def StockKeptSaid : Prop := stockKeptRow.holds Try.pinned (OpenSpec.ofChange stockKeptSpec)

/-- ITS FALSE NEIGHBOUR: 'it returns false'. Refute it at one input. -/
def stockKeptWrong : ChangeSpec := { name := "stockKept", fn := fun _ => fun
  | [d1, d2] => { results := [.lit (.bool false)], args := [d1, d2] }
  | _ => none }
def StockKeptWrongFalsely : Prop := stockKeptRow.holds Try.pinned (OpenSpec.ofChange stockKeptWrong)

/-- 'bybloemlaw02.StockMore': WHATEVER THE INPUT: true; the input reads as it did. -/
def stockMoreSpec : ChangeSpec := { name := "stockMore", fn := fun _ => fun
  | [d1, d2, d3] => { results := [.lit (.bool true)], args := [d1, d2, d3] }
  | _ => none }
def stockMoreRow : OpenClaim := { program := "ytlkdmcdnkoiflaa", sum := "74b87625cdaa212de12150e752878208a311384c30c236632ac9ec92fc938c70", func := "bybloem/bybloemlaw02.StockMore", spec := "stockMore", unfollowed := true, recurses := true, plainKeys := false, apart := false }
def StockMoreSaid : Prop := stockMoreRow.holds Try.pinned (OpenSpec.ofChange stockMoreSpec)

/-- ITS FALSE NEIGHBOUR: 'it returns false'. Refute it at one input. -/
def stockMoreWrong : ChangeSpec := { name := "stockMore", fn := fun _ => fun
  | [d1, d2, d3] => { results := [.lit (.bool false)], args := [d1, d2, d3] }
  | _ => none }
def StockMoreWrongFalsely : Prop := stockMoreRow.holds Try.pinned (OpenSpec.ofChange stockMoreWrong)

/-- 'bybloemlaw02.StockReached': WHATEVER THE INPUT: true; the input reads as it did. -/
def stockReachedSpec : ChangeSpec := { name := "stockReached", fn := fun _ => fun
  | [d1, d2, d3, d4, d5] => { results := [.lit (.bool true)], args := [d1, d2, d3, d4, d5] }
  | _ => none }
def stockReachedRow : OpenClaim := { program := "ytlkdmcdnkoiflaa", sum := "74b87625cdaa212de12150e752878208a311384c30c236632ac9ec92fc938c70", func := "bybloem/bybloemlaw02.StockReached", spec := "stockReached", unfollowed := true, recurses := true, plainKeys := false, apart := false }
def StockReachedSaid : Prop := stockReachedRow.holds Try.pinned (OpenSpec.ofChange stockReachedSpec)

/-- ITS FALSE NEIGHBOUR: 'it returns false'. Refute it at one input. -/
def stockReachedWrong : ChangeSpec := { name := "stockReached", fn := fun _ => fun
  | [d1, d2, d3, d4, d5] => { results := [.lit (.bool false)], args := [d1, d2, d3, d4, d5] }
  | _ => none }
def StockReachedWrongFalsely : Prop := stockReachedRow.holds Try.pinned (OpenSpec.ofChange stockReachedWrong)

/-- 'bybloemlaw02.StockPlanted': WHATEVER THE INPUT: true; the input reads as it did. -/
def stockPlantedSpec : ChangeSpec := { name := "stockPlanted", fn := fun _ => fun
  | [d1, d2, d3, d4, d5] => { results := [.lit (.bool true)], args := [d1, d2, d3, d4, d5] }
  | _ => none }
def stockPlantedRow : OpenClaim := { program := "ytlkdmcdnkoiflaa", sum := "74b87625cdaa212de12150e752878208a311384c30c236632ac9ec92fc938c70", func := "bybloem/bybloemlaw02.StockPlanted", spec := "stockPlanted", unfollowed := true, recurses := true, plainKeys := false, apart := false }
def StockPlantedSaid : Prop := stockPlantedRow.holds Try.pinned (OpenSpec.ofChange stockPlantedSpec)

/-- ITS FALSE NEIGHBOUR: 'it returns false'. Refute it at one input. -/
def stockPlantedWrong : ChangeSpec := { name := "stockPlanted", fn := fun _ => fun
  | [d1, d2, d3, d4, d5] => { results := [.lit (.bool false)], args := [d1, d2, d3, d4, d5] }
  | _ => none }
def StockPlantedWrongFalsely : Prop := stockPlantedRow.holds Try.pinned (OpenSpec.ofChange stockPlantedWrong)

/-- 'bybloemlaw02.StockCrates': WHATEVER THE INPUT: true; the input reads as it did. -/
def stockCratesSpec : ChangeSpec := { name := "stockCrates", fn := fun _ => fun
  | [d1, d2, d3, d4, d5, d6, d7, d8] => { results := [.lit (.bool true)], args := [d1, d2, d3, d4, d5, d6, d7, d8] }
  | _ => none }
def stockCratesRow : OpenClaim := { program := "ytlkdmcdnkoiflaa", sum := "74b87625cdaa212de12150e752878208a311384c30c236632ac9ec92fc938c70", func := "bybloem/bybloemlaw02.StockCrates", spec := "stockCrates", unfollowed := true, recurses := true, plainKeys := false, apart := false }
def StockCratesSaid : Prop := stockCratesRow.holds Try.pinned (OpenSpec.ofChange stockCratesSpec)

/-- ITS FALSE NEIGHBOUR: 'it returns false'. Refute it at one input. -/
def stockCratesWrong : ChangeSpec := { name := "stockCrates", fn := fun _ => fun
  | [d1, d2, d3, d4, d5, d6, d7, d8] => { results := [.lit (.bool false)], args := [d1, d2, d3, d4, d5, d6, d7, d8] }
  | _ => none }
def StockCratesWrongFalsely : Prop := stockCratesRow.holds Try.pinned (OpenSpec.ofChange stockCratesWrong)

/-- 'bybloemlaw02.StockYears': WHATEVER THE INPUT: true; the input reads as it did. -/
def stockYearsSpec : ChangeSpec := { name := "stockYears", fn := fun _ => fun
  | [d1, d2] => { results := [.lit (.bool true)], args := [d1, d2] }
  | _ => none }
def stockYearsRow : OpenClaim := { program := "ytlkdmcdnkoiflaa", sum := "74b87625cdaa212de12150e752878208a311384c30c236632ac9ec92fc938c70", func := "bybloem/bybloemlaw02.StockYears", spec := "stockYears", unfollowed := true, recurses := true, plainKeys := false, apart := false }
def StockYearsSaid : Prop := stockYearsRow.holds Try.pinned (OpenSpec.ofChange stockYearsSpec)

/-- ITS FALSE NEIGHBOUR: 'it returns false'. Refute it at one input. -/
def stockYearsWrong : ChangeSpec := { name := "stockYears", fn := fun _ => fun
  | [d1, d2] => { results := [.lit (.bool false)], args := [d1, d2] }
  | _ => none }
def StockYearsWrongFalsely : Prop := stockYearsRow.holds Try.pinned (OpenSpec.ofChange stockYearsWrong)

/-- 'bybloemlaw02.StockSizes': WHATEVER THE INPUT: true; the input reads as it did. -/
def stockSizesSpec : ChangeSpec := { name := "stockSizes", fn := fun _ => fun
  | [d1, d2] => { results := [.lit (.bool true)], args := [d1, d2] }
  | _ => none }
def stockSizesRow : OpenClaim := { program := "ytlkdmcdnkoiflaa", sum := "74b87625cdaa212de12150e752878208a311384c30c236632ac9ec92fc938c70", func := "bybloem/bybloemlaw02.StockSizes", spec := "stockSizes", unfollowed := true, recurses := true, plainKeys := false, apart := false }
def StockSizesSaid : Prop := stockSizesRow.holds Try.pinned (OpenSpec.ofChange stockSizesSpec)

/-- ITS FALSE NEIGHBOUR: 'it returns false'. Refute it at one input. -/
def stockSizesWrong : ChangeSpec := { name := "stockSizes", fn := fun _ => fun
  | [d1, d2] => { results := [.lit (.bool false)], args := [d1, d2] }
  | _ => none }
def StockSizesWrongFalsely : Prop := stockSizesRow.holds Try.pinned (OpenSpec.ofChange stockSizesWrong)

/- THE SECOND FORM. 'bulk': how many values and letters a reading holds, each counted each time it is reached (what is shared counts as often as it is met; a slice's spare places count too). A statement '..UptoSaid' is the law's where the arguments, and the package variables that the reading takes, are together of bulk at most 1048576: NARROWER than '..Said'. Prove '..Said' where nothing that the law and all that it calls make is longer than what came in: it says more and counts as full. Else prove '..UptoSaid'. A law counts once. -/
mutual
def uptoBulk {H : Type} : DataW H → Nat
  | .lit (.string bytes) => bytes.length + 1
  | .lit _ => 1
  | .nil => 1
  | .ptr d => uptoBulk d + 1
  | .slice elems spare => uptoBulkAll elems + uptoBulkAll spare + 1
  | .agg parts => uptoBulkAll parts + 1
  | .iface _ d => uptoBulk d + 1
  | .map entries => uptoBulkEntries entries + 1
  | .held _ => 1
def uptoBulkAll {H : Type} : List (DataW H) → Nat
  | [] => 0
  | d :: r => uptoBulk d + uptoBulkAll r
def uptoBulkEntries {H : Type} : List (Lit × DataW H) → Nat
  | [] => 0
  | x :: r => uptoBulkEntry x + uptoBulkEntries r
def uptoBulkEntry {H : Type} : Lit × DataW H → Nat
  | (.string bytes, d) => bytes.length + uptoBulk d + 1
  | (_, d) => uptoBulk d + 1
 end
def uptoSmall : (H : Type) → List (DataW H) → Bool := fun _ ds => decide (uptoBulkAll ds ≤ 1048576)
def OpenSpec.upto (s : _root_.Go.ChangeSpec) : _root_.Go.OpenSpec := { _root_.Go.OpenSpec.ofChange s with cond := some uptoSmall }

/-- 'bybloemlaw02.StockRuns', WHERE WHAT IT READS IS OF BULK AT MOST 1048576: true; the input reads as it did. -/
def stockRunsUptoRow : OpenClaim := { program := "ytlkdmcdnkoiflaa", sum := "74b87625cdaa212de12150e752878208a311384c30c236632ac9ec92fc938c70", func := "bybloem/bybloemlaw02.StockRuns", spec := "stockRuns", unfollowed := true, recurses := true, plainKeys := false, apart := false, narrowed := true }
def StockRunsUptoSaid : Prop := stockRunsUptoRow.holds Try.pinned (OpenSpec.upto stockRunsSpec)

/-- 'bybloemlaw02.StockCounts', WHERE WHAT IT READS IS OF BULK AT MOST 1048576: true; the input reads as it did. -/
def stockCountsUptoRow : OpenClaim := { program := "ytlkdmcdnkoiflaa", sum := "74b87625cdaa212de12150e752878208a311384c30c236632ac9ec92fc938c70", func := "bybloem/bybloemlaw02.StockCounts", spec := "stockCounts", unfollowed := true, recurses := true, plainKeys := false, apart := false, narrowed := true }
def StockCountsUptoSaid : Prop := stockCountsUptoRow.holds Try.pinned (OpenSpec.upto stockCountsSpec)

/-- 'bybloemlaw02.StockReaches', WHERE WHAT IT READS IS OF BULK AT MOST 1048576: true; the input reads as it did. -/
def stockReachesUptoRow : OpenClaim := { program := "ytlkdmcdnkoiflaa", sum := "74b87625cdaa212de12150e752878208a311384c30c236632ac9ec92fc938c70", func := "bybloem/bybloemlaw02.StockReaches", spec := "stockReaches", unfollowed := true, recurses := true, plainKeys := false, apart := false, narrowed := true }
def StockReachesUptoSaid : Prop := stockReachesUptoRow.holds Try.pinned (OpenSpec.upto stockReachesSpec)

/-- 'bybloemlaw02.StockLeasts', WHERE WHAT IT READS IS OF BULK AT MOST 1048576: true; the input reads as it did. -/
def stockLeastsUptoRow : OpenClaim := { program := "ytlkdmcdnkoiflaa", sum := "74b87625cdaa212de12150e752878208a311384c30c236632ac9ec92fc938c70", func := "bybloem/bybloemlaw02.StockLeasts", spec := "stockLeasts", unfollowed := true, recurses := true, plainKeys := false, apart := false, narrowed := true }
def StockLeastsUptoSaid : Prop := stockLeastsUptoRow.holds Try.pinned (OpenSpec.upto stockLeastsSpec)

/-- 'bybloemlaw02.StockBuys', WHERE WHAT IT READS IS OF BULK AT MOST 1048576: true; the input reads as it did. -/
def stockBuysUptoRow : OpenClaim := { program := "ytlkdmcdnkoiflaa", sum := "74b87625cdaa212de12150e752878208a311384c30c236632ac9ec92fc938c70", func := "bybloem/bybloemlaw02.StockBuys", spec := "stockBuys", unfollowed := true, recurses := true, plainKeys := false, apart := false, narrowed := true }
def StockBuysUptoSaid : Prop := stockBuysUptoRow.holds Try.pinned (OpenSpec.upto stockBuysSpec)

/-- 'bybloemlaw02.StockNames', WHERE WHAT IT READS IS OF BULK AT MOST 1048576: true; the input reads as it did. -/
def stockNamesUptoRow : OpenClaim := { program := "ytlkdmcdnkoiflaa", sum := "74b87625cdaa212de12150e752878208a311384c30c236632ac9ec92fc938c70", func := "bybloem/bybloemlaw02.StockNames", spec := "stockNames", unfollowed := true, recurses := true, plainKeys := false, apart := false, narrowed := true }
def StockNamesUptoSaid : Prop := stockNamesUptoRow.holds Try.pinned (OpenSpec.upto stockNamesSpec)

/-- 'bybloemlaw02.StockTruth', WHERE WHAT IT READS IS OF BULK AT MOST 1048576: true; the input reads as it did. -/
def stockTruthUptoRow : OpenClaim := { program := "ytlkdmcdnkoiflaa", sum := "74b87625cdaa212de12150e752878208a311384c30c236632ac9ec92fc938c70", func := "bybloem/bybloemlaw02.StockTruth", spec := "stockTruth", unfollowed := true, recurses := true, plainKeys := false, apart := false, narrowed := true }
def StockTruthUptoSaid : Prop := stockTruthUptoRow.holds Try.pinned (OpenSpec.upto stockTruthSpec)

/-- 'bybloemlaw02.StockKept', WHERE WHAT IT READS IS OF BULK AT MOST 1048576: true; the input reads as it did. -/
def stockKeptUptoRow : OpenClaim := { program := "ytlkdmcdnkoiflaa", sum := "74b87625cdaa212de12150e752878208a311384c30c236632ac9ec92fc938c70", func := "bybloem/bybloemlaw02.StockKept", spec := "stockKept", unfollowed := true, recurses := true, plainKeys := false, apart := false, narrowed := true }
def StockKeptUptoSaid : Prop := stockKeptUptoRow.holds Try.pinned (OpenSpec.upto stockKeptSpec)

/-- 'bybloemlaw02.StockMore', WHERE WHAT IT READS IS OF BULK AT MOST 1048576: true; the input reads as it did. -/
def stockMoreUptoRow : OpenClaim := { program := "ytlkdmcdnkoiflaa", sum := "74b87625cdaa212de12150e752878208a311384c30c236632ac9ec92fc938c70", func := "bybloem/bybloemlaw02.StockMore", spec := "stockMore", unfollowed := true, recurses := true, plainKeys := false, apart := false, narrowed := true }
def StockMoreUptoSaid : Prop := stockMoreUptoRow.holds Try.pinned (OpenSpec.upto stockMoreSpec)

/-- 'bybloemlaw02.StockReached', WHERE WHAT IT READS IS OF BULK AT MOST 1048576: true; the input reads as it did. -/
def stockReachedUptoRow : OpenClaim := { program := "ytlkdmcdnkoiflaa", sum := "74b87625cdaa212de12150e752878208a311384c30c236632ac9ec92fc938c70", func := "bybloem/bybloemlaw02.StockReached", spec := "stockReached", unfollowed := true, recurses := true, plainKeys := false, apart := false, narrowed := true }
def StockReachedUptoSaid : Prop := stockReachedUptoRow.holds Try.pinned (OpenSpec.upto stockReachedSpec)

/-- 'bybloemlaw02.StockPlanted', WHERE WHAT IT READS IS OF BULK AT MOST 1048576: true; the input reads as it did. -/
def stockPlantedUptoRow : OpenClaim := { program := "ytlkdmcdnkoiflaa", sum := "74b87625cdaa212de12150e752878208a311384c30c236632ac9ec92fc938c70", func := "bybloem/bybloemlaw02.StockPlanted", spec := "stockPlanted", unfollowed := true, recurses := true, plainKeys := false, apart := false, narrowed := true }
def StockPlantedUptoSaid : Prop := stockPlantedUptoRow.holds Try.pinned (OpenSpec.upto stockPlantedSpec)

/-- 'bybloemlaw02.StockCrates', WHERE WHAT IT READS IS OF BULK AT MOST 1048576: true; the input reads as it did. -/
def stockCratesUptoRow : OpenClaim := { program := "ytlkdmcdnkoiflaa", sum := "74b87625cdaa212de12150e752878208a311384c30c236632ac9ec92fc938c70", func := "bybloem/bybloemlaw02.StockCrates", spec := "stockCrates", unfollowed := true, recurses := true, plainKeys := false, apart := false, narrowed := true }
def StockCratesUptoSaid : Prop := stockCratesUptoRow.holds Try.pinned (OpenSpec.upto stockCratesSpec)

/-- 'bybloemlaw02.StockYears', WHERE WHAT IT READS IS OF BULK AT MOST 1048576: true; the input reads as it did. -/
def stockYearsUptoRow : OpenClaim := { program := "ytlkdmcdnkoiflaa", sum := "74b87625cdaa212de12150e752878208a311384c30c236632ac9ec92fc938c70", func := "bybloem/bybloemlaw02.StockYears", spec := "stockYears", unfollowed := true, recurses := true, plainKeys := false, apart := false, narrowed := true }
def StockYearsUptoSaid : Prop := stockYearsUptoRow.holds Try.pinned (OpenSpec.upto stockYearsSpec)

/-- 'bybloemlaw02.StockSizes', WHERE WHAT IT READS IS OF BULK AT MOST 1048576: true; the input reads as it did. -/
def stockSizesUptoRow : OpenClaim := { program := "ytlkdmcdnkoiflaa", sum := "74b87625cdaa212de12150e752878208a311384c30c236632ac9ec92fc938c70", func := "bybloem/bybloemlaw02.StockSizes", spec := "stockSizes", unfollowed := true, recurses := true, plainKeys := false, apart := false, narrowed := true }
def StockSizesUptoSaid : Prop := stockSizesUptoRow.holds Try.pinned (OpenSpec.upto stockSizesSpec)

end Rows
end Go.Proofs.Ytlkdmcdnkoiflaa
