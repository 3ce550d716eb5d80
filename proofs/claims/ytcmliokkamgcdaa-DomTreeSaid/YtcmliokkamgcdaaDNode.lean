/-
  Dominators of nodes and of their numbers.
-/
import Derived.Test.YtcmliokkamgcdaaDSrch
namespace Go.Proofs.Ytcmliokkamgcdaa
set_option linter.unusedVariables false

section
variable {N root : Nat} {su : Nat → List Nat} {nd par : List Nat} {rest : List (List Nat)}
/-- A path of nodes that avoids the node with the number i is one of numbers that avoids i. -/
theorem Ex.toN (h : Ex N root su nd par [] rest) {i : Nat} (hi : i < nd.length) {y : Nat} (r : Rg (fun u v => v ∈ su u) (· ≠ nd.getD i 0) root y) : ∃ j, j < nd.length ∧ nd.getD j 0 = y ∧ Rg (FN su nd) (· ≠ i) 0 j := by
  induction r with
  | refl => exact ⟨0, h.ne, h.first, .refl⟩
  | @tail y z _ e q ih =>
    obtain ⟨j, hj, ej, rj⟩ := ih
    obtain ⟨hz, _⟩ := h.all j hj z (ej ▸ e)
    obtain ⟨l, hl, el⟩ := mem_at hz
    refine ⟨l, hl, el, rj.tail ⟨hj, hl, by rw [el, ej]; exact e⟩ (fun c => q ?_)⟩
    rw [← el, c]
theorem Ex.ofN (h : Ex N root su nd par [] rest) {i j : Nat} (hi : i < nd.length) (r : Rg (FN su nd) (· ≠ i) 0 j) : j < nd.length ∧ Rg (fun u v => v ∈ su u) (· ≠ nd.getD i 0) root (nd.getD j 0) := by
  induction r with
  | refl => exact ⟨h.ne, by rw [h.first]; exact .refl⟩
  | @tail y z _ e q ih => exact ⟨e.2.1, ih.2.tail e.2.2 (fun c => q (nd_inj h.nodup e.2.1 hi c))⟩
/-- The nodes with a number are those that are reached. -/
theorem Ex.reach (h : Ex N root su nd par [] rest) (y : Nat) : y ∈ nd ↔ Rg (fun u v => v ∈ su u) (fun _ => True) root y := by
  constructor
  · intro hy
    obtain ⟨j, hj, ej⟩ := mem_at hy
    subst ej
    have r := h.tree.down (Q := fun _ => True) (h.tree.root hj) hj (fun _ _ _ => trivial)
    clear hj hy
    induction r with
    | refl => rw [h.first]; exact .refl
    | tail _ e _ ih => exact ih.tail e.2.2 trivial
  · intro r
    induction r with
    | refl => exact h.first ▸ at_mem h.ne
    | @tail y z _ e _ ih =>
      obtain ⟨j, hj, ej⟩ := mem_at ih
      exact (h.all j hj z (ej ▸ e)).1
/-- One number dominates another exactly if, of their nodes, none is reached without the first. -/
theorem Ex.dom (h : Ex N root su nd par [] rest) {i j : Nat} (hi : i < nd.length) (hj : j < nd.length) : Dom (FN su nd) i j ↔ (Rg (fun u v => v ∈ su u) (· ≠ nd.getD i 0) root (nd.getD j 0) → nd.getD i 0 = root) := by
  constructor
  · intro d r
    obtain ⟨l, hl, el, rl⟩ := h.toN hi r
    have e := nd_inj h.nodup hl hj el
    subst e
    rw [d rl]; exact h.first
  · intro d r
    have e := d (h.ofN hi r).2
    exact nd_inj h.nodup hi h.ne (e.trans h.first.symm)
end
end Go.Proofs.Ytcmliokkamgcdaa
