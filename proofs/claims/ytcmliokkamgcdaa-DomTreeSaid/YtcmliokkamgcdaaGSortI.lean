/-
  slices.Sort at ints: a slice of the call's own holds the same numbers, in order.
-/
import Derived.Test.YtcmliokkamgcdaaShelfP
import Derived.Test.YtcmliokkamgcdaaGMem
import Derived.Sort.OwnSortedInts
import Derived.Shelf.Slices.In.SortNone
namespace Go.Proofs.Ytcmliokkamgcdaa
open Go.RowKit Go.Shelf Go.Lib Go.Sort
set_option linter.unusedVariables false

theorem sortI_any (base : Nat) (u : Value) (zs : List Int) (w : World) (h : Own w base u zs) (hn : zs.length ≤ 100000) :
    Calls Try.prog 35 #[u] w fun e w' => e = .returned (.tuple #[]) ∧ Own w' base u (zs.mergeSort fun x y => decide (x ≤ y)) ∧ w.grownBy w' u.ownBlock := by
  unfold Own at h ⊢
  obtain ⟨h1, h2⟩ := h
  rcases h2 with ⟨rfl, h0⟩ | ⟨g, cap, cur, rfl, hb, hg, hn1, hn2, hs, ht⟩
  · have hz : zs = [] := List.length_eq_zero_iff.1 h0
    subst hz
    refine (Any.slices_Sort_int_none Try.sortI none 0 w).mono ?_
    rintro e w' ⟨rfl, rfl⟩
    exact ⟨rfl, by rw [List.mergeSort_nil]; exact World.ownsRow_nil _ _ _ _, ⟨rfl, rfl, rfl, Nat.le_refl _, fun _ _ _ => rfl⟩⟩
  · have hbl : g < w.heap.size := (Array.getElem?_eq_some_iff.1 hg).1
    refine (Any.slices_Sort_int Try.sortI g 0 cap zs w (holds_of_blockI hg (by simpa using ht)) hbl (by omega)).mono ?_
    rintro e w' ⟨rfl, n, os, rfl⟩
    have hl : (zs.mergeSort fun x y => decide (x ≤ y)).length = zs.length := List.length_mergeSort zs
    refine ⟨rfl, ?_, grownBy_sortedI _⟩
    rw [hl]
    exact ownsRow_sortedI hl hb hg hn1 hn2 hs
end Go.Proofs.Ytcmliokkamgcdaa
