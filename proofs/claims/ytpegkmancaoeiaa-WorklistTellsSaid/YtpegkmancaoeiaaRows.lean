/-
  No cell of these rows narrows 'for every input' (looked for: loops, veiled, ifaces, maps, wideKeys, modest, calm, conditions, laid).
  DERIVED. THE GIVEN ROWS OF THIS SEAT. 5 by the template 'for every input the law returns true; each argument reads behind the call as it read before'; 0 by the template 'total and deterministic' (their statements: YtpegkmancaoeiaaTotals.lean).
  GIVEN WITH THE SEED: the statements are not yours to turn. If you find one false, say at which input.
  Laid BY PROGRAM, IN A SANDBOX (cutbox-rows.mjs): the forced cells as the released guide's own fill.sh prints them over the translation a551edbd9d5bf752… (all of the seat's roots in one cut). By AI agents, Wed Nov 11 2026. No macro, syntax, notation, axiom, sorry.
-/
import Derived.Test.YtpegkmancaoeiaaChecked
import GoSem.Claim
import GoSem.ClaimJoined
import GoSem.ClaimMapViews
import Derived.JoinedTies
import Derived.KernelRfl
namespace Go.Proofs.Ytpegkmancaoeiaa
/- THE CELL 'sum', in the pinned program and in every row, IS THE sha256 OF THE DUMP (.gsa) THAT YtpegkmancaoeiaaProg.lean LOADS. Nothing in Lean hashes anything: it is a label: what it is worth is what the hold of that sum in a sandbox is worth. -/
noncomputable def Try.pinned : Pinned := { name := "ytpegkmancaoeiaa", sum := "a551edbd9d5bf752f9f86f205b2ea555152fe10b01e8b3cff99e5da6d19a80c6", checked := Try.checked }
namespace Rows
def none {H : Type} : Left H := { results := [], args := [] }

/-- 'dataflowlaw03.WorklistTells': WHATEVER THE INPUT: true; the input reads as it did. -/
def worklistTellsSpec : ChangeSpec := { name := "worklistTells", fn := fun _ => fun
  | [d1, d2] => { results := [.lit (.bool true)], args := [d1, d2] }
  | _ => none }
def worklistTellsRow : OpenClaim := { program := "ytpegkmancaoeiaa", sum := "a551edbd9d5bf752f9f86f205b2ea555152fe10b01e8b3cff99e5da6d19a80c6", func := "dataflow/dataflowlaw03.WorklistTells", spec := "worklistTells", inPlace := ["slices.overlaps[int]"], unfollowed := true, recurses := true, apart := false }
def WorklistTellsSaid : Prop := worklistTellsRow.holds Try.pinned (OpenSpec.ofChange worklistTellsSpec)

/-- ITS FALSE NEIGHBOUR: 'it returns false'. Refute it at one input. -/
def worklistTellsWrong : ChangeSpec := { name := "worklistTells", fn := fun _ => fun
  | [d1, d2] => { results := [.lit (.bool false)], args := [d1, d2] }
  | _ => none }
def WorklistTellsWrongFalsely : Prop := worklistTellsRow.holds Try.pinned (OpenSpec.ofChange worklistTellsWrong)

/-- 'dataflowlaw03.WorklistRuns': WHATEVER THE INPUT: true; the input reads as it did. -/
def worklistRunsSpec : ChangeSpec := { name := "worklistRuns", fn := fun _ => fun
  | [d1, d2] => { results := [.lit (.bool true)], args := [d1, d2] }
  | _ => none }
def worklistRunsRow : OpenClaim := { program := "ytpegkmancaoeiaa", sum := "a551edbd9d5bf752f9f86f205b2ea555152fe10b01e8b3cff99e5da6d19a80c6", func := "dataflow/dataflowlaw03.WorklistRuns", spec := "worklistRuns", inPlace := ["slices.overlaps[int]"], unfollowed := true, recurses := true, apart := false }
def WorklistRunsSaid : Prop := worklistRunsRow.holds Try.pinned (OpenSpec.ofChange worklistRunsSpec)

/-- ITS FALSE NEIGHBOUR: 'it returns false'. Refute it at one input. -/
def worklistRunsWrong : ChangeSpec := { name := "worklistRuns", fn := fun _ => fun
  | [d1, d2] => { results := [.lit (.bool false)], args := [d1, d2] }
  | _ => none }
def WorklistRunsWrongFalsely : Prop := worklistRunsRow.holds Try.pinned (OpenSpec.ofChange worklistRunsWrong)

/-- 'dataflowlaw03.WorklistArrival': WHATEVER THE INPUT: true; the input reads as it did. -/
def worklistArrivalSpec : ChangeSpec := { name := "worklistArrival", fn := fun _ => fun
  | [d] => { results := [.lit (.bool true)], args := [d] }
  | _ => none }
def worklistArrivalRow : OpenClaim := { program := "ytpegkmancaoeiaa", sum := "a551edbd9d5bf752f9f86f205b2ea555152fe10b01e8b3cff99e5da6d19a80c6", func := "dataflow/dataflowlaw03.WorklistArrival", spec := "worklistArrival", inPlace := ["slices.overlaps[int]"], unfollowed := true, recurses := true, apart := false }
def WorklistArrivalSaid : Prop := worklistArrivalRow.holds Try.pinned (OpenSpec.ofChange worklistArrivalSpec)

/-- ITS FALSE NEIGHBOUR: 'it returns false'. Refute it at one input. -/
def worklistArrivalWrong : ChangeSpec := { name := "worklistArrival", fn := fun _ => fun
  | [d] => { results := [.lit (.bool false)], args := [d] }
  | _ => none }
def WorklistArrivalWrongFalsely : Prop := worklistArrivalRow.holds Try.pinned (OpenSpec.ofChange worklistArrivalWrong)

/-- 'dataflowlaw03.WorklistSorts': WHATEVER THE INPUT: true; the input reads as it did. -/
def worklistSortsSpec : ChangeSpec := { name := "worklistSorts", fn := fun _ => fun
  | [d1, d2] => { results := [.lit (.bool true)], args := [d1, d2] }
  | _ => none }
def worklistSortsRow : OpenClaim := { program := "ytpegkmancaoeiaa", sum := "a551edbd9d5bf752f9f86f205b2ea555152fe10b01e8b3cff99e5da6d19a80c6", func := "dataflow/dataflowlaw03.WorklistSorts", spec := "worklistSorts", inPlace := ["slices.overlaps[int]"], unfollowed := true, recurses := true, apart := false }
def WorklistSortsSaid : Prop := worklistSortsRow.holds Try.pinned (OpenSpec.ofChange worklistSortsSpec)

/-- ITS FALSE NEIGHBOUR: 'it returns false'. Refute it at one input. -/
def worklistSortsWrong : ChangeSpec := { name := "worklistSorts", fn := fun _ => fun
  | [d1, d2] => { results := [.lit (.bool false)], args := [d1, d2] }
  | _ => none }
def WorklistSortsWrongFalsely : Prop := worklistSortsRow.holds Try.pinned (OpenSpec.ofChange worklistSortsWrong)

/-- 'dataflowlaw03.WorklistOnce': WHATEVER THE INPUT: true; the input reads as it did. -/
def worklistOnceSpec : ChangeSpec := { name := "worklistOnce", fn := fun _ => fun
  | [d1, d2] => { results := [.lit (.bool true)], args := [d1, d2] }
  | _ => none }
def worklistOnceRow : OpenClaim := { program := "ytpegkmancaoeiaa", sum := "a551edbd9d5bf752f9f86f205b2ea555152fe10b01e8b3cff99e5da6d19a80c6", func := "dataflow/dataflowlaw03.WorklistOnce", spec := "worklistOnce", inPlace := ["slices.overlaps[int]"], unfollowed := true, recurses := true, apart := false }
def WorklistOnceSaid : Prop := worklistOnceRow.holds Try.pinned (OpenSpec.ofChange worklistOnceSpec)

/-- ITS FALSE NEIGHBOUR: 'it returns false'. Refute it at one input. -/
def worklistOnceWrong : ChangeSpec := { name := "worklistOnce", fn := fun _ => fun
  | [d1, d2] => { results := [.lit (.bool false)], args := [d1, d2] }
  | _ => none }
def WorklistOnceWrongFalsely : Prop := worklistOnceRow.holds Try.pinned (OpenSpec.ofChange worklistOnceWrong)

/- THE SECOND FORM. 'bulk': how many values and letters a reading holds, each counted each time it is reached (what is shared counts as often as it is met; a slice's spare places count too). A statement '..UptoSaid' is the law's where the arguments, and the package variables that the reading takes, are together of bulk at most 1048576: NARROWER than '..Said'. Prove '..Said' where nothing that the law and all that it calls make is longer than what came in: it says more and counts as full. Else prove '..UptoSaid'. A law counts once. -/
mutual
def uptoBulk {H : Type} : DataW H → Nat
  | .lit (.string bytes) => bytes.length + 1
  | .lit _ => 1
  | .nil => 1
  | .ptr d => uptoBulk d + 1
  | .slice elems spare => uptoBulkAll elems + uptoBulkAll spare + 1
  | .agg parts => uptoBulkAll parts + 1
  | .iface _ d => uptoBulk d + 1
  | .map entries => uptoBulkEntries entries + 1
  | .held _ => 1
def uptoBulkAll {H : Type} : List (DataW H) → Nat
  | [] => 0
  | d :: r => uptoBulk d + uptoBulkAll r
def uptoBulkEntries {H : Type} : List (Lit × DataW H) → Nat
  | [] => 0
  | x :: r => uptoBulkEntry x + uptoBulkEntries r
def uptoBulkEntry {H : Type} : Lit × DataW H → Nat
  | (.string bytes, d) => bytes.length + uptoBulk d + 1
  | (_, d) => uptoBulk d + 1
 end
def uptoSmall : (H : Type) → List (DataW H) → Bool := fun _ ds => decide (uptoBulkAll ds ≤ 1048576)
def OpenSpec.upto (s : _root_.Go.ChangeSpec) : _root_.Go.OpenSpec := { _root_.Go.OpenSpec.ofChange s with cond := some uptoSmall }

/-- 'dataflowlaw03.WorklistTells', WHERE WHAT IT READS IS OF BULK AT MOST 1048576: true; the input reads as it did. -/
def worklistTellsUptoRow : OpenClaim := { program := "ytpegkmancaoeiaa", sum := "a551edbd9d5bf752f9f86f205b2ea555152fe10b01e8b3cff99e5da6d19a80c6", func := "dataflow/dataflowlaw03.WorklistTells", spec := "worklistTells", inPlace := ["slices.overlaps[int]"], unfollowed := true, recurses := true, apart := false, narrowed := true }
def WorklistTellsUptoSaid : Prop := worklistTellsUptoRow.holds Try.pinned (OpenSpec.upto worklistTellsSpec)

/-- 'dataflowlaw03.WorklistRuns', WHERE WHAT IT READS IS OF BULK AT MOST 1048576: true; the input reads as it did. -/
def worklistRunsUptoRow : OpenClaim := { program := "ytpegkmancaoeiaa", sum := "a551edbd9d5bf752f9f86f205b2ea555152fe10b01e8b3cff99e5da6d19a80c6", func := "dataflow/dataflowlaw03.WorklistRuns", spec := "worklistRuns", inPlace := ["slices.overlaps[int]"], unfollowed := true, recurses := true, apart := false, narrowed := true }
def WorklistRunsUptoSaid : Prop := worklistRunsUptoRow.holds Try.pinned (OpenSpec.upto worklistRunsSpec)

/-- 'dataflowlaw03.WorklistArrival', WHERE WHAT IT READS IS OF BULK AT MOST 1048576: true; the input reads as it did. -/
def worklistArrivalUptoRow : OpenClaim := { program := "ytpegkmancaoeiaa", sum := "a551edbd9d5bf752f9f86f205b2ea555152fe10b01e8b3cff99e5da6d19a80c6", func := "dataflow/dataflowlaw03.WorklistArrival", spec := "worklistArrival", inPlace := ["slices.overlaps[int]"], unfollowed := true, recurses := true, apart := false, narrowed := true }
def WorklistArrivalUptoSaid : Prop := worklistArrivalUptoRow.holds Try.pinned (OpenSpec.upto worklistArrivalSpec)

/-- 'dataflowlaw03.WorklistSorts', WHERE WHAT IT READS IS OF BULK AT MOST 1048576: true; the input reads as it did. -/
def worklistSortsUptoRow : OpenClaim := { program := "ytpegkmancaoeiaa", sum := "a551edbd9d5bf752f9f86f205b2ea555152fe10b01e8b3cff99e5da6d19a80c6", func := "dataflow/dataflowlaw03.WorklistSorts", spec := "worklistSorts", inPlace := ["slices.overlaps[int]"], unfollowed := true, recurses := true, apart := false, narrowed := true }
def WorklistSortsUptoSaid : Prop := worklistSortsUptoRow.holds Try.pinned (OpenSpec.upto worklistSortsSpec)

/-- 'dataflowlaw03.WorklistOnce', WHERE WHAT IT READS IS OF BULK AT MOST 1048576: true; the input reads as it did. -/
def worklistOnceUptoRow : OpenClaim := { program := "ytpegkmancaoeiaa", sum := "a551edbd9d5bf752f9f86f205b2ea555152fe10b01e8b3cff99e5da6d19a80c6", func := "dataflow/dataflowlaw03.WorklistOnce", spec := "worklistOnce", inPlace := ["slices.overlaps[int]"], unfollowed := true, recurses := true, apart := false, narrowed := true }
def WorklistOnceUptoSaid : Prop := worklistOnceUptoRow.holds Try.pinned (OpenSpec.upto worklistOnceSpec)

end Rows
end Go.Proofs.Ytpegkmancaoeiaa
