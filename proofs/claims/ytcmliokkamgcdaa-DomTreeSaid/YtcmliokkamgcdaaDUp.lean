/-
  The way up the tree of the immediate dominators.
-/
import Derived.Test.YtcmliokkamgcdaaDTree
namespace Go.Proofs.Ytcmliokkamgcdaa
set_option linter.unusedVariables false

/-- The way up from a number to 0, without itself. -/
def upD (D : Nat → Nat) : Nat → Nat → List Nat
  | 0, _ => []
  | f + 1, v => if v = 0 then [] else D v :: upD D f (D v)
section
variable {k : Nat} {D : Nat → Nat}
theorem mem_upD (lt : ∀ i, 0 < i → i < k → D i < i) : ∀ f v, v ≤ f → v < k → ∀ a, a ∈ upD D f v ↔ Anc D a v ∧ a ≠ v := by
  intro f
  induction f with
  | zero =>
    intro v hf hv a
    have e : v = 0 := by omega
    subst e
    refine ⟨fun h => (by cases h), fun ⟨h, n⟩ => ?_⟩
    exact absurd (ancD_up h n).1 (by omega)
  | succ f ih =>
    intro v hf hv a
    by_cases e : v = 0
    · subst e
      refine ⟨fun h => by simp [upD] at h, fun ⟨h, n⟩ => ?_⟩
      exact absurd (ancD_up h n).1 (by omega)
    · have hl := lt v (by omega) hv
      rw [upD, if_neg e, List.mem_cons, ih (D v) (by omega) (by omega) a]
      constructor
      · rintro (h | ⟨h, n⟩)
        · subst h; exact ⟨.step (by omega) .refl, by omega⟩
        · have := ancD_le lt h (by omega)
          exact ⟨.step (by omega) h, by omega⟩
      · rintro ⟨h, n⟩
        have h2 := (ancD_up h n).2
        by_cases c : a = D v
        · exact .inl c
        · exact .inr ⟨h2, c⟩
theorem upD_desc (lt : ∀ i, 0 < i → i < k → D i < i) : ∀ f v, v ≤ f → v < k → (upD D f v).Pairwise (· > ·) := by
  intro f
  induction f with
  | zero => intro v _ _; exact .nil
  | succ f ih =>
    intro v hf hv
    by_cases e : v = 0
    · subst e; simp [upD]
    · have hl := lt v (by omega) hv
      rw [upD, if_neg e, List.pairwise_cons]
      refine ⟨fun a ha => ?_, ih (D v) (by omega) (by omega)⟩
      obtain ⟨h, n⟩ := (mem_upD lt f (D v) (by omega) (by omega) a).1 ha
      have := ancD_le lt h (by omega)
      show a < D v
      omega
theorem upD_len (D : Nat → Nat) (lt : ∀ i, 0 < i → i < k → D i < i) : ∀ f v, v < k → (upD D f v).length ≤ v := by
  intro f
  induction f with
  | zero => intro v _; exact Nat.zero_le _
  | succ f ih =>
    intro v hv
    by_cases e : v = 0
    · subst e; simp [upD]
    · have hl := lt v (by omega) hv
      rw [upD, if_neg e, List.length_cons]
      have := ih (D v) (by omega)
      omega
end
end Go.Proofs.Ytcmliokkamgcdaa
