/-
  slices.Reverse at ints: a slice of the call's own is turned round.
-/
import Derived.Test.YthgnbpiemkcdhaaGSortI
namespace Go.Proofs.Ythgnbpiemkcdhaa
open Go.RowKit Go.Shelf Go.Lib Go.Sort
set_option linter.unusedVariables false

theorem grow_none (w : World) : grow w #[] = w := by cases w; simp [grow]
theorem rev_any (base g c : Nat) (zs : List Int) (w : World) (h : Own w base (.slice (some ⟨g, 0, none⟩) zs.length c) zs) (hn : zs.length ≤ 100000) :
    Calls Try.prog 41 #[.slice (some ⟨g, 0, none⟩) zs.length c] w fun e w' => e = .returned (.tuple #[]) ∧ Own w' base (.slice (some ⟨g, 0, none⟩) zs.length c) zs.reverse ∧ w.grownBy w' (some g) := by
  unfold Own at h ⊢
  obtain ⟨h1, h2⟩ := h
  rcases h2 with ⟨h0, _⟩ | ⟨g', cap, cur, h0, hb, hg, hn1, hn2, hs, ht⟩
  · cases h0
  · cases h0
    refine (Any.slices_Reverse_int Try.revI g 0 c zs w (holds_of_blockI hg (by simpa using ht)) (by omega)).mono ?_
    rintro e w' ⟨rfl, n, rfl⟩
    rw [← grow_none (putRow _ _ _ _ _)]
    refine ⟨rfl, ?_, grownBy_sortedI _⟩
    rw [List.length_reverse]
    exact ownsRow_sortedI (List.length_reverse) hb hg hn1 hn2 hs
end Go.Proofs.Ythgnbpiemkcdhaa
