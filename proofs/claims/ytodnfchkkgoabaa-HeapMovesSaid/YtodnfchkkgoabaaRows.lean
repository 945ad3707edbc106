/-
  No cell of these rows narrows 'for every input' (looked for: loops, veiled, ifaces, maps, wideKeys, modest, calm, conditions, laid).
  DERIVED. THE GIVEN ROWS OF THIS SEAT. 10 by the template 'for every input the law returns true; each argument reads behind the call as it read before'; 0 by the template 'total and deterministic' (their statements: YtodnfchkkgoabaaTotals.lean).
  GIVEN WITH THE SEED: the statements are not yours to turn. If you find one false, say at which input.
  Laid BY PROGRAM, IN A SANDBOX (cutbox-rows.mjs): the forced cells as the released guide's own fill.sh prints them over the translation 6a7ad5725cc10ba4… (all of the seat's roots in one cut). By AI agents, Wed Nov 11 2026. No macro, syntax, notation, axiom, sorry.
-/
import Derived.Test.YtodnfchkkgoabaaChecked
import GoSem.Claim
import GoSem.ClaimJoined
import GoSem.ClaimMapViews
import Derived.JoinedTies
import Derived.KernelRfl
namespace Go.Proofs.Ytodnfchkkgoabaa
/- THE CELL 'sum', in the pinned program and in every row, IS THE sha256 OF THE DUMP (.gsa) THAT YtodnfchkkgoabaaProg.lean LOADS. Nothing in Lean hashes anything: it is a label: what it is worth is what the hold of that sum in a sandbox is worth. -/
noncomputable def Try.pinned : Pinned := { name := "ytodnfchkkgoabaa", sum := "6a7ad5725cc10ba470879ee9f5134a5d52fc17d43458df81f12fa6a3a6b0262a", checked := Try.checked }
namespace Rows
def none {H : Type} : Left H := { results := [], args := [] }

/-- 'staddalaw06.HeapValues': WHATEVER THE INPUT: true; the input reads as it did. -/
def heapValuesSpec : ChangeSpec := { name := "heapValues", fn := fun _ => fun
  | [d1, d2, d3] => { results := [.lit (.bool true)], args := [d1, d2, d3] }
  | _ => none }
def heapValuesRow : OpenClaim := { program := "ytodnfchkkgoabaa", sum := "6a7ad5725cc10ba470879ee9f5134a5d52fc17d43458df81f12fa6a3a6b0262a", func := "stadda/staddalaw06.HeapValues", spec := "heapValues", unfollowed := true, recurses := true, plainKeys := false, apart := false }
def HeapValuesSaid : Prop := heapValuesRow.holds Try.pinned (OpenSpec.ofChange heapValuesSpec)

/-- ITS FALSE NEIGHBOUR: 'it returns false'. Refute it at one input. -/
def heapValuesWrong : ChangeSpec := { name := "heapValues", fn := fun _ => fun
  | [d1, d2, d3] => { results := [.lit (.bool false)], args := [d1, d2, d3] }
  | _ => none }
def HeapValuesWrongFalsely : Prop := heapValuesRow.holds Try.pinned (OpenSpec.ofChange heapValuesWrong)

/-- 'staddalaw06.HeapPeriods': WHATEVER THE INPUT: true; the input reads as it did. -/
def heapPeriodsSpec : ChangeSpec := { name := "heapPeriods", fn := fun _ => fun
  | [d1, d2, d3] => { results := [.lit (.bool true)], args := [d1, d2, d3] }
  | _ => none }
def heapPeriodsRow : OpenClaim := { program := "ytodnfchkkgoabaa", sum := "6a7ad5725cc10ba470879ee9f5134a5d52fc17d43458df81f12fa6a3a6b0262a", func := "stadda/staddalaw06.HeapPeriods", spec := "heapPeriods", unfollowed := true, recurses := true, plainKeys := false, apart := false }
def HeapPeriodsSaid : Prop := heapPeriodsRow.holds Try.pinned (OpenSpec.ofChange heapPeriodsSpec)

/-- ITS FALSE NEIGHBOUR: 'it returns false'. Refute it at one input. -/
def heapPeriodsWrong : ChangeSpec := { name := "heapPeriods", fn := fun _ => fun
  | [d1, d2, d3] => { results := [.lit (.bool false)], args := [d1, d2, d3] }
  | _ => none }
def HeapPeriodsWrongFalsely : Prop := heapPeriodsRow.holds Try.pinned (OpenSpec.ofChange heapPeriodsWrong)

/-- 'staddalaw06.HeapMoves': WHATEVER THE INPUT: true; the input reads as it did. -/
def heapMovesSpec : ChangeSpec := { name := "heapMoves", fn := fun _ => fun
  | [d1, d2] => { results := [.lit (.bool true)], args := [d1, d2] }
  | _ => none }
def heapMovesRow : OpenClaim := { program := "ytodnfchkkgoabaa", sum := "6a7ad5725cc10ba470879ee9f5134a5d52fc17d43458df81f12fa6a3a6b0262a", func := "stadda/staddalaw06.HeapMoves", spec := "heapMoves", unfollowed := true, recurses := true, plainKeys := false, apart := false }
def HeapMovesSaid : Prop := heapMovesRow.holds Try.pinned (OpenSpec.ofChange heapMovesSpec)

/-- ITS FALSE NEIGHBOUR: 'it returns false'. Refute it at one input. -/
def heapMovesWrong : ChangeSpec := { name := "heapMoves", fn := fun _ => fun
  | [d1, d2] => { results := [.lit (.bool false)], args := [d1, d2] }
  | _ => none }
def HeapMovesWrongFalsely : Prop := heapMovesRow.holds Try.pinned (OpenSpec.ofChange heapMovesWrong)

/-- 'staddalaw06.HeapProducts': WHATEVER THE INPUT: true; the input reads as it did. -/
def heapProductsSpec : ChangeSpec := { name := "heapProducts", fn := fun _ => fun
  | [d1, d2, d3] => { results := [.lit (.bool true)], args := [d1, d2, d3] }
  | _ => none }
def heapProductsRow : OpenClaim := { program := "ytodnfchkkgoabaa", sum := "6a7ad5725cc10ba470879ee9f5134a5d52fc17d43458df81f12fa6a3a6b0262a", func := "stadda/staddalaw06.HeapProducts", spec := "heapProducts", unfollowed := true, recurses := true, plainKeys := false, apart := false }
def HeapProductsSaid : Prop := heapProductsRow.holds Try.pinned (OpenSpec.ofChange heapProductsSpec)

/-- ITS FALSE NEIGHBOUR: 'it returns false'. Refute it at one input. -/
def heapProductsWrong : ChangeSpec := { name := "heapProducts", fn := fun _ => fun
  | [d1, d2, d3] => { results := [.lit (.bool false)], args := [d1, d2, d3] }
  | _ => none }
def HeapProductsWrongFalsely : Prop := heapProductsRow.holds Try.pinned (OpenSpec.ofChange heapProductsWrong)

/-- 'staddalaw06.HeapLeast': WHATEVER THE INPUT: true; the input reads as it did. -/
def heapLeastSpec : ChangeSpec := { name := "heapLeast", fn := fun _ => fun
  | [d1, d2] => { results := [.lit (.bool true)], args := [d1, d2] }
  | _ => none }
def heapLeastRow : OpenClaim := { program := "ytodnfchkkgoabaa", sum := "6a7ad5725cc10ba470879ee9f5134a5d52fc17d43458df81f12fa6a3a6b0262a", func := "stadda/staddalaw06.HeapLeast", spec := "heapLeast", unfollowed := true, recurses := true, plainKeys := false, apart := false }
def HeapLeastSaid : Prop := heapLeastRow.holds Try.pinned (OpenSpec.ofChange heapLeastSpec)

/-- ITS FALSE NEIGHBOUR: 'it returns false'. Refute it at one input. -/
def heapLeastWrong : ChangeSpec := { name := "heapLeast", fn := fun _ => fun
  | [d1, d2] => { results := [.lit (.bool false)], args := [d1, d2] }
  | _ => none }
def HeapLeastWrongFalsely : Prop := heapLeastRow.holds Try.pinned (OpenSpec.ofChange heapLeastWrong)

/-- 'staddalaw06.HeapGraphs': WHATEVER THE INPUT: true; the input reads as it did. -/
def heapGraphsSpec : ChangeSpec := { name := "heapGraphs", fn := fun _ => fun
  | [d1, d2] => { results := [.lit (.bool true)], args := [d1, d2] }
  | _ => none }
def heapGraphsRow : OpenClaim := { program := "ytodnfchkkgoabaa", sum := "6a7ad5725cc10ba470879ee9f5134a5d52fc17d43458df81f12fa6a3a6b0262a", func := "stadda/staddalaw06.HeapGraphs", spec := "heapGraphs", unfollowed := true, recurses := true, plainKeys := false, apart := false }
def HeapGraphsSaid : Prop := heapGraphsRow.holds Try.pinned (OpenSpec.ofChange heapGraphsSpec)

/-- ITS FALSE NEIGHBOUR: 'it returns false'. Refute it at one input. -/
def heapGraphsWrong : ChangeSpec := { name := "heapGraphs", fn := fun _ => fun
  | [d1, d2] => { results := [.lit (.bool false)], args := [d1, d2] }
  | _ => none }
def HeapGraphsWrongFalsely : Prop := heapGraphsRow.holds Try.pinned (OpenSpec.ofChange heapGraphsWrong)

/-- 'staddalaw06.HeapWins': WHATEVER THE INPUT: true; the input reads as it did. -/
def heapWinsSpec : ChangeSpec := { name := "heapWins", fn := fun _ => fun
  | [d1, d2] => { results := [.lit (.bool true)], args := [d1, d2] }
  | _ => none }
def heapWinsRow : OpenClaim := { program := "ytodnfchkkgoabaa", sum := "6a7ad5725cc10ba470879ee9f5134a5d52fc17d43458df81f12fa6a3a6b0262a", func := "stadda/staddalaw06.HeapWins", spec := "heapWins", unfollowed := true, recurses := true, plainKeys := false, apart := false }
def HeapWinsSaid : Prop := heapWinsRow.holds Try.pinned (OpenSpec.ofChange heapWinsSpec)

/-- ITS FALSE NEIGHBOUR: 'it returns false'. Refute it at one input. -/
def heapWinsWrong : ChangeSpec := { name := "heapWins", fn := fun _ => fun
  | [d1, d2] => { results := [.lit (.bool false)], args := [d1, d2] }
  | _ => none }
def HeapWinsWrongFalsely : Prop := heapWinsRow.holds Try.pinned (OpenSpec.ofChange heapWinsWrong)

/-- 'staddalaw06.HeapGoesOn': WHATEVER THE INPUT: true; the input reads as it did. -/
def heapGoesOnSpec : ChangeSpec := { name := "heapGoesOn", fn := fun _ => fun
  | [d1, d2] => { results := [.lit (.bool true)], args := [d1, d2] }
  | _ => none }
def heapGoesOnRow : OpenClaim := { program := "ytodnfchkkgoabaa", sum := "6a7ad5725cc10ba470879ee9f5134a5d52fc17d43458df81f12fa6a3a6b0262a", func := "stadda/staddalaw06.HeapGoesOn", spec := "heapGoesOn", unfollowed := true, recurses := true, plainKeys := false, apart := false }
def HeapGoesOnSaid : Prop := heapGoesOnRow.holds Try.pinned (OpenSpec.ofChange heapGoesOnSpec)

/-- ITS FALSE NEIGHBOUR: 'it returns false'. Refute it at one input. -/
def heapGoesOnWrong : ChangeSpec := { name := "heapGoesOn", fn := fun _ => fun
  | [d1, d2] => { results := [.lit (.bool false)], args := [d1, d2] }
  | _ => none }
def HeapGoesOnWrongFalsely : Prop := heapGoesOnRow.holds Try.pinned (OpenSpec.ofChange heapGoesOnWrong)

/-- 'staddalaw06.HeapField': WHATEVER THE INPUT: true; the input reads as it did. -/
def heapFieldSpec : ChangeSpec := { name := "heapField", fn := fun _ => fun
  | [d1, d2, d3] => { results := [.lit (.bool true)], args := [d1, d2, d3] }
  | _ => none }
def heapFieldRow : OpenClaim := { program := "ytodnfchkkgoabaa", sum := "6a7ad5725cc10ba470879ee9f5134a5d52fc17d43458df81f12fa6a3a6b0262a", func := "stadda/staddalaw06.HeapField", spec := "heapField", unfollowed := true, recurses := true, plainKeys := false, apart := false }
def HeapFieldSaid : Prop := heapFieldRow.holds Try.pinned (OpenSpec.ofChange heapFieldSpec)

/-- ITS FALSE NEIGHBOUR: 'it returns false'. Refute it at one input. -/
def heapFieldWrong : ChangeSpec := { name := "heapField", fn := fun _ => fun
  | [d1, d2, d3] => { results := [.lit (.bool false)], args := [d1, d2, d3] }
  | _ => none }
def HeapFieldWrongFalsely : Prop := heapFieldRow.holds Try.pinned (OpenSpec.ofChange heapFieldWrong)

/-- 'staddalaw06.HeapPlays': WHATEVER THE INPUT: true; the input reads as it did. -/
def heapPlaysSpec : ChangeSpec := { name := "heapPlays", fn := fun _ => fun
  | [d] => { results := [.lit (.bool true)], args := [d] }
  | _ => none }
def heapPlaysRow : OpenClaim := { program := "ytodnfchkkgoabaa", sum := "6a7ad5725cc10ba470879ee9f5134a5d52fc17d43458df81f12fa6a3a6b0262a", func := "stadda/staddalaw06.HeapPlays", spec := "heapPlays", unfollowed := true, recurses := true, plainKeys := false, apart := false }
def HeapPlaysSaid : Prop := heapPlaysRow.holds Try.pinned (OpenSpec.ofChange heapPlaysSpec)

/-- ITS FALSE NEIGHBOUR: 'it returns false'. Refute it at one input. -/
def heapPlaysWrong : ChangeSpec := { name := "heapPlays", fn := fun _ => fun
  | [d] => { results := [.lit (.bool false)], args := [d] }
  | _ => none }
def HeapPlaysWrongFalsely : Prop := heapPlaysRow.holds Try.pinned (OpenSpec.ofChange heapPlaysWrong)

/- THE SECOND FORM. 'bulk': how many values and letters a reading holds, each counted each time it is reached (what is shared counts as often as it is met; a slice's spare places count too). A statement '..UptoSaid' is the law's where the arguments, and the package variables that the reading takes, are together of bulk at most 1048576: NARROWER than '..Said'. Prove '..Said' where nothing that the law and all that it calls make is longer than what came in: it says more and counts as full. Else prove '..UptoSaid'. A law counts once. -/
mutual
def uptoBulk {H : Type} : DataW H → Nat
  | .lit (.string bytes) => bytes.length + 1
  | .lit _ => 1
  | .nil => 1
  | .ptr d => uptoBulk d + 1
  | .slice elems spare => uptoBulkAll elems + uptoBulkAll spare + 1
  | .agg parts => uptoBulkAll parts + 1
  | .iface _ d => uptoBulk d + 1
  | .map entries => uptoBulkEntries entries + 1
  | .held _ => 1
def uptoBulkAll {H : Type} : List (DataW H) → Nat
  | [] => 0
  | d :: r => uptoBulk d + uptoBulkAll r
def uptoBulkEntries {H : Type} : List (Lit × DataW H) → Nat
  | [] => 0
  | x :: r => uptoBulkEntry x + uptoBulkEntries r
def uptoBulkEntry {H : Type} : Lit × DataW H → Nat
  | (.string bytes, d) => bytes.length + uptoBulk d + 1
  | (_, d) => uptoBulk d + 1
 end
def uptoSmall : (H : Type) → List (DataW H) → Bool := fun _ ds => decide (uptoBulkAll ds ≤ 1048576)
def OpenSpec.upto (s : _root_.Go.ChangeSpec) : _root_.Go.OpenSpec := { _root_.Go.OpenSpec.ofChange s with cond := some uptoSmall }

/-- 'staddalaw06.HeapValues', WHERE WHAT IT READS IS OF BULK AT MOST 1048576: true; the input reads as it did. -/
def heapValuesUptoRow : OpenClaim := { program := "ytodnfchkkgoabaa", sum := "6a7ad5725cc10ba470879ee9f5134a5d52fc17d43458df81f12fa6a3a6b0262a", func := "stadda/staddalaw06.HeapValues", spec := "heapValues", unfollowed := true, recurses := true, plainKeys := false, apart := false, narrowed := true }
def HeapValuesUptoSaid : Prop := heapValuesUptoRow.holds Try.pinned (OpenSpec.upto heapValuesSpec)

/-- 'staddalaw06.HeapPeriods', WHERE WHAT IT READS IS OF BULK AT MOST 1048576: true; the input reads as it did. -/
def heapPeriodsUptoRow : OpenClaim := { program := "ytodnfchkkgoabaa", sum := "6a7ad5725cc10ba470879ee9f5134a5d52fc17d43458df81f12fa6a3a6b0262a", func := "stadda/staddalaw06.HeapPeriods", spec := "heapPeriods", unfollowed := true, recurses := true, plainKeys := false, apart := false, narrowed := true }
def HeapPeriodsUptoSaid : Prop := heapPeriodsUptoRow.holds Try.pinned (OpenSpec.upto heapPeriodsSpec)

/-- 'staddalaw06.HeapMoves', WHERE WHAT IT READS IS OF BULK AT MOST 1048576: true; the input reads as it did. -/
def heapMovesUptoRow : OpenClaim := { program := "ytodnfchkkgoabaa", sum := "6a7ad5725cc10ba470879ee9f5134a5d52fc17d43458df81f12fa6a3a6b0262a", func := "stadda/staddalaw06.HeapMoves", spec := "heapMoves", unfollowed := true, recurses := true, plainKeys := false, apart := false, narrowed := true }
def HeapMovesUptoSaid : Prop := heapMovesUptoRow.holds Try.pinned (OpenSpec.upto heapMovesSpec)

/-- 'staddalaw06.HeapProducts', WHERE WHAT IT READS IS OF BULK AT MOST 1048576: true; the input reads as it did. -/
def heapProductsUptoRow : OpenClaim := { program := "ytodnfchkkgoabaa", sum := "6a7ad5725cc10ba470879ee9f5134a5d52fc17d43458df81f12fa6a3a6b0262a", func := "stadda/staddalaw06.HeapProducts", spec := "heapProducts", unfollowed := true, recurses := true, plainKeys := false, apart := false, narrowed := true }
def HeapProductsUptoSaid : Prop := heapProductsUptoRow.holds Try.pinned (OpenSpec.upto heapProductsSpec)

/-- 'staddalaw06.HeapLeast', WHERE WHAT IT READS IS OF BULK AT MOST 1048576: true; the input reads as it did. -/
def heapLeastUptoRow : OpenClaim := { program := "ytodnfchkkgoabaa", sum := "6a7ad5725cc10ba470879ee9f5134a5d52fc17d43458df81f12fa6a3a6b0262a", func := "stadda/staddalaw06.HeapLeast", spec := "heapLeast", unfollowed := true, recurses := true, plainKeys := false, apart := false, narrowed := true }
def HeapLeastUptoSaid : Prop := heapLeastUptoRow.holds Try.pinned (OpenSpec.upto heapLeastSpec)

/-- 'staddalaw06.HeapGraphs', WHERE WHAT IT READS IS OF BULK AT MOST 1048576: true; the input reads as it did. -/
def heapGraphsUptoRow : OpenClaim := { program := "ytodnfchkkgoabaa", sum := "6a7ad5725cc10ba470879ee9f5134a5d52fc17d43458df81f12fa6a3a6b0262a", func := "stadda/staddalaw06.HeapGraphs", spec := "heapGraphs", unfollowed := true, recurses := true, plainKeys := false, apart := false, narrowed := true }
def HeapGraphsUptoSaid : Prop := heapGraphsUptoRow.holds Try.pinned (OpenSpec.upto heapGraphsSpec)

/-- 'staddalaw06.HeapWins', WHERE WHAT IT READS IS OF BULK AT MOST 1048576: true; the input reads as it did. -/
def heapWinsUptoRow : OpenClaim := { program := "ytodnfchkkgoabaa", sum := "6a7ad5725cc10ba470879ee9f5134a5d52fc17d43458df81f12fa6a3a6b0262a", func := "stadda/staddalaw06.HeapWins", spec := "heapWins", unfollowed := true, recurses := true, plainKeys := false, apart := false, narrowed := true }
def HeapWinsUptoSaid : Prop := heapWinsUptoRow.holds Try.pinned (OpenSpec.upto heapWinsSpec)

/-- 'staddalaw06.HeapGoesOn', WHERE WHAT IT READS IS OF BULK AT MOST 1048576: true; the input reads as it did. -/
def heapGoesOnUptoRow : OpenClaim := { program := "ytodnfchkkgoabaa", sum := "6a7ad5725cc10ba470879ee9f5134a5d52fc17d43458df81f12fa6a3a6b0262a", func := "stadda/staddalaw06.HeapGoesOn", spec := "heapGoesOn", unfollowed := true, recurses := true, plainKeys := false, apart := false, narrowed := true }
def HeapGoesOnUptoSaid : Prop := heapGoesOnUptoRow.holds Try.pinned (OpenSpec.upto heapGoesOnSpec)

/-- 'staddalaw06.HeapField', WHERE WHAT IT READS IS OF BULK AT MOST 1048576: true; the input reads as it did. -/
def heapFieldUptoRow : OpenClaim := { program := "ytodnfchkkgoabaa", sum := "6a7ad5725cc10ba470879ee9f5134a5d52fc17d43458df81f12fa6a3a6b0262a", func := "stadda/staddalaw06.HeapField", spec := "heapField", unfollowed := true, recurses := true, plainKeys := false, apart := false, narrowed := true }
def HeapFieldUptoSaid : Prop := heapFieldUptoRow.holds Try.pinned (OpenSpec.upto heapFieldSpec)

/-- 'staddalaw06.HeapPlays', WHERE WHAT IT READS IS OF BULK AT MOST 1048576: true; the input reads as it did. -/
def heapPlaysUptoRow : OpenClaim := { program := "ytodnfchkkgoabaa", sum := "6a7ad5725cc10ba470879ee9f5134a5d52fc17d43458df81f12fa6a3a6b0262a", func := "stadda/staddalaw06.HeapPlays", spec := "heapPlays", unfollowed := true, recurses := true, plainKeys := false, apart := false, narrowed := true }
def HeapPlaysUptoSaid : Prop := heapPlaysUptoRow.holds Try.pinned (OpenSpec.upto heapPlaysSpec)

end Rows
end Go.Proofs.Ytodnfchkkgoabaa
