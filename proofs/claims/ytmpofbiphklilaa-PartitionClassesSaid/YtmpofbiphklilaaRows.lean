/-
  No cell of these rows narrows 'for every input' (looked for: loops, veiled, ifaces, maps, wideKeys, modest, calm, conditions, laid).
  DERIVED. THE GIVEN ROWS OF THIS SEAT. 7 by the template 'for every input the law returns true; each argument reads behind the call as it read before'; 0 by the template 'total and deterministic' (their statements: YtmpofbiphklilaaTotals.lean).
  GIVEN WITH THE SEED: the statements are not yours to turn. If you find one false, say at which input.
  Laid BY PROGRAM, IN A SANDBOX (cutbox-rows.mjs): the forced cells as the released guide's own fill.sh prints them over the translation d55c3ae13c871e2b… (all of the seat's roots in one cut). By AI agents, Wed Nov 11 2026. No macro, syntax, notation, axiom, sorry.
-/
import Derived.Test.YtmpofbiphklilaaChecked
import GoSem.Claim
import GoSem.ClaimJoined
import GoSem.ClaimMapViews
import Derived.JoinedTies
import Derived.KernelRfl
namespace Go.Proofs.Ytmpofbiphklilaa
/- THE CELL 'sum', in the pinned program and in every row, IS THE sha256 OF THE DUMP (.gsa) THAT YtmpofbiphklilaaProg.lean LOADS. Nothing in Lean hashes anything: it is a label: what it is worth is what the hold of that sum in a sandbox is worth. -/
noncomputable def Try.pinned : Pinned := { name := "ytmpofbiphklilaa", sum := "d55c3ae13c871e2be53b830bfdd0f222d1a55f3eb33e344216bc96c70adf93ee", checked := Try.checked }
namespace Rows
def none {H : Type} : Left H := { results := [], args := [] }

/-- 'dataflowlaw02.PartitionTells': WHATEVER THE INPUT: true; the input reads as it did. -/
def partitionTellsSpec : ChangeSpec := { name := "partitionTells", fn := fun _ => fun
  | [d1, d2, d3] => { results := [.lit (.bool true)], args := [d1, d2, d3] }
  | _ => none }
def partitionTellsRow : OpenClaim := { program := "ytmpofbiphklilaa", sum := "d55c3ae13c871e2be53b830bfdd0f222d1a55f3eb33e344216bc96c70adf93ee", func := "dataflow/dataflowlaw02.PartitionTells", spec := "partitionTells", apart := false }
def PartitionTellsSaid : Prop := partitionTellsRow.holds Try.pinned (OpenSpec.ofChange partitionTellsSpec)

/-- ITS FALSE NEIGHBOUR: 'it returns false'. Refute it at one input. -/
def partitionTellsWrong : ChangeSpec := { name := "partitionTells", fn := fun _ => fun
  | [d1, d2, d3] => { results := [.lit (.bool false)], args := [d1, d2, d3] }
  | _ => none }
def PartitionTellsWrongFalsely : Prop := partitionTellsRow.holds Try.pinned (OpenSpec.ofChange partitionTellsWrong)

/-- 'dataflowlaw02.PartitionOf': WHATEVER THE INPUT: true; the input reads as it did. -/
def partitionOfSpec : ChangeSpec := { name := "partitionOf", fn := fun _ => fun
  | [d1, d2] => { results := [.lit (.bool true)], args := [d1, d2] }
  | _ => none }
def partitionOfRow : OpenClaim := { program := "ytmpofbiphklilaa", sum := "d55c3ae13c871e2be53b830bfdd0f222d1a55f3eb33e344216bc96c70adf93ee", func := "dataflow/dataflowlaw02.PartitionOf", spec := "partitionOf", apart := false }
def PartitionOfSaid : Prop := partitionOfRow.holds Try.pinned (OpenSpec.ofChange partitionOfSpec)

/-- ITS FALSE NEIGHBOUR: 'it returns false'. Refute it at one input. -/
def partitionOfWrong : ChangeSpec := { name := "partitionOf", fn := fun _ => fun
  | [d1, d2] => { results := [.lit (.bool false)], args := [d1, d2] }
  | _ => none }
def PartitionOfWrongFalsely : Prop := partitionOfRow.holds Try.pinned (OpenSpec.ofChange partitionOfWrong)

/-- 'dataflowlaw02.PartitionFinest': WHATEVER THE INPUT: true; the input reads as it did. -/
def partitionFinestSpec : ChangeSpec := { name := "partitionFinest", fn := fun _ => fun
  | [d1, d2] => { results := [.lit (.bool true)], args := [d1, d2] }
  | _ => none }
def partitionFinestRow : OpenClaim := { program := "ytmpofbiphklilaa", sum := "d55c3ae13c871e2be53b830bfdd0f222d1a55f3eb33e344216bc96c70adf93ee", func := "dataflow/dataflowlaw02.PartitionFinest", spec := "partitionFinest", apart := false }
def PartitionFinestSaid : Prop := partitionFinestRow.holds Try.pinned (OpenSpec.ofChange partitionFinestSpec)

/-- ITS FALSE NEIGHBOUR: 'it returns false'. Refute it at one input. -/
def partitionFinestWrong : ChangeSpec := { name := "partitionFinest", fn := fun _ => fun
  | [d1, d2] => { results := [.lit (.bool false)], args := [d1, d2] }
  | _ => none }
def PartitionFinestWrongFalsely : Prop := partitionFinestRow.holds Try.pinned (OpenSpec.ofChange partitionFinestWrong)

/-- 'dataflowlaw02.PartitionOrder': WHATEVER THE INPUT: true; the input reads as it did. -/
def partitionOrderSpec : ChangeSpec := { name := "partitionOrder", fn := fun _ => fun
  | [d1, d2] => { results := [.lit (.bool true)], args := [d1, d2] }
  | _ => none }
def partitionOrderRow : OpenClaim := { program := "ytmpofbiphklilaa", sum := "d55c3ae13c871e2be53b830bfdd0f222d1a55f3eb33e344216bc96c70adf93ee", func := "dataflow/dataflowlaw02.PartitionOrder", spec := "partitionOrder", apart := false }
def PartitionOrderSaid : Prop := partitionOrderRow.holds Try.pinned (OpenSpec.ofChange partitionOrderSpec)

/-- ITS FALSE NEIGHBOUR: 'it returns false'. Refute it at one input. -/
def partitionOrderWrong : ChangeSpec := { name := "partitionOrder", fn := fun _ => fun
  | [d1, d2] => { results := [.lit (.bool false)], args := [d1, d2] }
  | _ => none }
def PartitionOrderWrongFalsely : Prop := partitionOrderRow.holds Try.pinned (OpenSpec.ofChange partitionOrderWrong)

/-- 'dataflowlaw02.PartitionClasses': WHATEVER THE INPUT: true; the input reads as it did. -/
def partitionClassesSpec : ChangeSpec := { name := "partitionClasses", fn := fun _ => fun
  | [d] => { results := [.lit (.bool true)], args := [d] }
  | _ => none }
def partitionClassesRow : OpenClaim := { program := "ytmpofbiphklilaa", sum := "d55c3ae13c871e2be53b830bfdd0f222d1a55f3eb33e344216bc96c70adf93ee", func := "dataflow/dataflowlaw02.PartitionClasses", spec := "partitionClasses", unfollowed := true, recurses := true, apart := false }
def PartitionClassesSaid : Prop := partitionClassesRow.holds Try.pinned (OpenSpec.ofChange partitionClassesSpec)

/-- ITS FALSE NEIGHBOUR: 'it returns false'. Refute it at one input. -/
def partitionClassesWrong : ChangeSpec := { name := "partitionClasses", fn := fun _ => fun
  | [d] => { results := [.lit (.bool false)], args := [d] }
  | _ => none }
def PartitionClassesWrongFalsely : Prop := partitionClassesRow.holds Try.pinned (OpenSpec.ofChange partitionClassesWrong)

/-- 'dataflowlaw02.PartitionFiner': WHATEVER THE INPUT: true; the input reads as it did. -/
def partitionFinerSpec : ChangeSpec := { name := "partitionFiner", fn := fun _ => fun
  | [d1, d2] => { results := [.lit (.bool true)], args := [d1, d2] }
  | _ => none }
def partitionFinerRow : OpenClaim := { program := "ytmpofbiphklilaa", sum := "d55c3ae13c871e2be53b830bfdd0f222d1a55f3eb33e344216bc96c70adf93ee", func := "dataflow/dataflowlaw02.PartitionFiner", spec := "partitionFiner", apart := false }
def PartitionFinerSaid : Prop := partitionFinerRow.holds Try.pinned (OpenSpec.ofChange partitionFinerSpec)

/-- ITS FALSE NEIGHBOUR: 'it returns false'. Refute it at one input. -/
def partitionFinerWrong : ChangeSpec := { name := "partitionFiner", fn := fun _ => fun
  | [d1, d2] => { results := [.lit (.bool false)], args := [d1, d2] }
  | _ => none }
def PartitionFinerWrongFalsely : Prop := partitionFinerRow.holds Try.pinned (OpenSpec.ofChange partitionFinerWrong)

/-- 'dataflowlaw02.PartitionEquivalent': WHATEVER THE INPUT: true; the input reads as it did. -/
def partitionEquivalentSpec : ChangeSpec := { name := "partitionEquivalent", fn := fun _ => fun
  | [d1, d2] => { results := [.lit (.bool true)], args := [d1, d2] }
  | _ => none }
def partitionEquivalentRow : OpenClaim := { program := "ytmpofbiphklilaa", sum := "d55c3ae13c871e2be53b830bfdd0f222d1a55f3eb33e344216bc96c70adf93ee", func := "dataflow/dataflowlaw02.PartitionEquivalent", spec := "partitionEquivalent", apart := false }
def PartitionEquivalentSaid : Prop := partitionEquivalentRow.holds Try.pinned (OpenSpec.ofChange partitionEquivalentSpec)

/-- ITS FALSE NEIGHBOUR: 'it returns false'. Refute it at one input. -/
def partitionEquivalentWrong : ChangeSpec := { name := "partitionEquivalent", fn := fun _ => fun
  | [d1, d2] => { results := [.lit (.bool false)], args := [d1, d2] }
  | _ => none }
def PartitionEquivalentWrongFalsely : Prop := partitionEquivalentRow.holds Try.pinned (OpenSpec.ofChange partitionEquivalentWrong)

/- THE SECOND FORM. 'bulk': how many values and letters a reading holds, each counted each time it is reached (what is shared counts as often as it is met; a slice's spare places count too). A statement '..UptoSaid' is the law's where the arguments, and the package variables that the reading takes, are together of bulk at most 1048576: NARROWER than '..Said'. Prove '..Said' where nothing that the law and all that it calls make is longer than what came in: it says more and counts as full. Else prove '..UptoSaid'. A law counts once. -/
mutual
def uptoBulk {H : Type} : DataW H → Nat
  | .lit (.string bytes) => bytes.length + 1
  | .lit _ => 1
  | .nil => 1
  | .ptr d => uptoBulk d + 1
  | .slice elems spare => uptoBulkAll elems + uptoBulkAll spare + 1
  | .agg parts => uptoBulkAll parts + 1
  | .iface _ d => uptoBulk d + 1
  | .map entries => uptoBulkEntries entries + 1
  | .held _ => 1
def uptoBulkAll {H : Type} : List (DataW H) → Nat
  | [] => 0
  | d :: r => uptoBulk d + uptoBulkAll r
def uptoBulkEntries {H : Type} : List (Lit × DataW H) → Nat
  | [] => 0
  | x :: r => uptoBulkEntry x + uptoBulkEntries r
def uptoBulkEntry {H : Type} : Lit × DataW H → Nat
  | (.string bytes, d) => bytes.length + uptoBulk d + 1
  | (_, d) => uptoBulk d + 1
 end
def uptoSmall : (H : Type) → List (DataW H) → Bool := fun _ ds => decide (uptoBulkAll ds ≤ 1048576)
def OpenSpec.upto (s : _root_.Go.ChangeSpec) : _root_.Go.OpenSpec := { _root_.Go.OpenSpec.ofChange s with cond := some uptoSmall }

/-- 'dataflowlaw02.PartitionTells', WHERE WHAT IT READS IS OF BULK AT MOST 1048576: true; the input reads as it did. -/
def partitionTellsUptoRow : OpenClaim := { program := "ytmpofbiphklilaa", sum := "d55c3ae13c871e2be53b830bfdd0f222d1a55f3eb33e344216bc96c70adf93ee", func := "dataflow/dataflowlaw02.PartitionTells", spec := "partitionTells", apart := false, narrowed := true }
def PartitionTellsUptoSaid : Prop := partitionTellsUptoRow.holds Try.pinned (OpenSpec.upto partitionTellsSpec)

/-- 'dataflowlaw02.PartitionOf', WHERE WHAT IT READS IS OF BULK AT MOST 1048576: true; the input reads as it did. -/
def partitionOfUptoRow : OpenClaim := { program := "ytmpofbiphklilaa", sum := "d55c3ae13c871e2be53b830bfdd0f222d1a55f3eb33e344216bc96c70adf93ee", func := "dataflow/dataflowlaw02.PartitionOf", spec := "partitionOf", apart := false, narrowed := true }
def PartitionOfUptoSaid : Prop := partitionOfUptoRow.holds Try.pinned (OpenSpec.upto partitionOfSpec)

/-- 'dataflowlaw02.PartitionFinest', WHERE WHAT IT READS IS OF BULK AT MOST 1048576: true; the input reads as it did. -/
def partitionFinestUptoRow : OpenClaim := { program := "ytmpofbiphklilaa", sum := "d55c3ae13c871e2be53b830bfdd0f222d1a55f3eb33e344216bc96c70adf93ee", func := "dataflow/dataflowlaw02.PartitionFinest", spec := "partitionFinest", apart := false, narrowed := true }
def PartitionFinestUptoSaid : Prop := partitionFinestUptoRow.holds Try.pinned (OpenSpec.upto partitionFinestSpec)

/-- 'dataflowlaw02.PartitionOrder', WHERE WHAT IT READS IS OF BULK AT MOST 1048576: true; the input reads as it did. -/
def partitionOrderUptoRow : OpenClaim := { program := "ytmpofbiphklilaa", sum := "d55c3ae13c871e2be53b830bfdd0f222d1a55f3eb33e344216bc96c70adf93ee", func := "dataflow/dataflowlaw02.PartitionOrder", spec := "partitionOrder", apart := false, narrowed := true }
def PartitionOrderUptoSaid : Prop := partitionOrderUptoRow.holds Try.pinned (OpenSpec.upto partitionOrderSpec)

/-- 'dataflowlaw02.PartitionClasses', WHERE WHAT IT READS IS OF BULK AT MOST 1048576: true; the input reads as it did. -/
def partitionClassesUptoRow : OpenClaim := { program := "ytmpofbiphklilaa", sum := "d55c3ae13c871e2be53b830bfdd0f222d1a55f3eb33e344216bc96c70adf93ee", func := "dataflow/dataflowlaw02.PartitionClasses", spec := "partitionClasses", unfollowed := true, recurses := true, apart := false, narrowed := true }
def PartitionClassesUptoSaid : Prop := partitionClassesUptoRow.holds Try.pinned (OpenSpec.upto partitionClassesSpec)

/-- 'dataflowlaw02.PartitionFiner', WHERE WHAT IT READS IS OF BULK AT MOST 1048576: true; the input reads as it did. -/
def partitionFinerUptoRow : OpenClaim := { program := "ytmpofbiphklilaa", sum := "d55c3ae13c871e2be53b830bfdd0f222d1a55f3eb33e344216bc96c70adf93ee", func := "dataflow/dataflowlaw02.PartitionFiner", spec := "partitionFiner", apart := false, narrowed := true }
def PartitionFinerUptoSaid : Prop := partitionFinerUptoRow.holds Try.pinned (OpenSpec.upto partitionFinerSpec)

/-- 'dataflowlaw02.PartitionEquivalent', WHERE WHAT IT READS IS OF BULK AT MOST 1048576: true; the input reads as it did. -/
def partitionEquivalentUptoRow : OpenClaim := { program := "ytmpofbiphklilaa", sum := "d55c3ae13c871e2be53b830bfdd0f222d1a55f3eb33e344216bc96c70adf93ee", func := "dataflow/dataflowlaw02.PartitionEquivalent", spec := "partitionEquivalent", apart := false, narrowed := true }
def PartitionEquivalentUptoSaid : Prop := partitionEquivalentUptoRow.holds Try.pinned (OpenSpec.upto partitionEquivalentSpec)

end Rows
end Go.Proofs.Ytmpofbiphklilaa
