/-
  slices.SortFunc at no edge.
-/
import Derived.Test.YtopbbihbpalnlaaGSort
import Derived.Shelf.SlSortCmp.NoneTotal
namespace Go.Proofs.Ytopbbihbpalnlaa
open Go.RowKit Go.Shelf Go.Lib Go.Sort
set_option linter.unusedVariables false

theorem sort_nil (w : World) :
    Calls Try.prog 54 #[.slice none 0 0, .func (.func 47) #[] #[]] w fun e w' => e = .returned (.tuple #[]) ∧ w' = w := by
  have h := AnyF.slices_SortFunc_none Try.sortE none 0 (.func (.func 47) #[] #[]) w
  exact h
end Go.Proofs.Ytopbbihbpalnlaa
