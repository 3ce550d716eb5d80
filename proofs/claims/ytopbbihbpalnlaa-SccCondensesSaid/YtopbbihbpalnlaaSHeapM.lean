/-
  Sifting up and down in a heap of numbers.
-/
import Derived.Test.YtopbbihbpalnlaaSLeast
namespace Go.Proofs.Ytopbbihbpalnlaa
set_option linter.unusedVariables false

def pa (i : Nat) : Nat := (i - 1) / 2
theorem swp_at {ys : List Int} {i j : Nat} (hi : i < ys.length) (hj : j < ys.length) (k : Nat) : (swp ys i j).getD k 0 = if k = j then ys.getD i 0 else if k = i then ys.getD j 0 else ys.getD k 0 := by
  unfold swp
  simp only [List.getD_eq_getElem?_getD, List.getElem?_set, List.length_set]
  by_cases h1 : k = j
  · subst h1; simp [hj]
  · rw [if_neg (fun e => h1 e.symm), if_neg h1]
    by_cases h2 : k = i
    · subst h2; simp [hi]
    · rw [if_neg (fun e => h2 e.symm), if_neg h2]
theorem swp_perm {ys : List Int} {i j : Nat} (hi : i < ys.length) (hj : j < ys.length) : (swp ys i j).Perm ys := by
  have := List.set_set_perm hi hj
  unfold swp
  simpa [List.getD_eq_getElem?_getD, hi, hj] using this
/-- The first n numbers are a heap. -/
def HPn (ys : List Int) (n : Nat) : Prop := ∀ k, 0 < k → k < n → ys.getD (pa k) 0 ≤ ys.getD k 0
theorem HPn.top {ys : List Int} {n : Nat} (h : HPn ys n) : ∀ k, k < n → ys.getD 0 0 ≤ ys.getD k 0 := by
  intro k
  induction k using Nat.strongRecOn with
  | ind k ih =>
    intro hk
    by_cases h0 : k = 0
    · subst h0; exact Int.le_refl _
    · have h1 := h k (by omega) hk
      have h2 := ih (pa k) (by unfold pa; omega) (by unfold pa; omega)
      omega
structure UpI (ys : List Int) (j : Nat) : Prop where
  a : ∀ k, 0 < k → k < ys.length → k ≠ j → ys.getD (pa k) 0 ≤ ys.getD k 0
  b : ∀ k, 0 < k → k < ys.length → pa k = j → 0 < j → ys.getD (pa j) 0 ≤ ys.getD k 0
theorem UpI.swap {ys : List Int} {j : Nat} (h : UpI ys j) (hj : j < ys.length) (h0 : 0 < j) (hl : ys.getD j 0 < ys.getD (pa j) 0) : UpI (swp ys (pa j) j) (pa j) := by
  have hp : pa j < j := by unfold pa; omega
  have hpl : pa j < ys.length := by omega
  refine ⟨fun k k0 kl kj => ?_, fun k k0 kl kj p0 => ?_⟩
  · rw [swp_len] at kl
    rw [swp_at hpl hj, swp_at hpl hj]
    by_cases e : k = j
    · subst e
      rw [if_neg (by omega), if_pos rfl, if_pos rfl]; omega
    · rw [if_neg e, if_neg kj]
      by_cases e1 : pa k = j
      · rw [if_pos e1]; exact h.b k k0 kl e1 h0
      · rw [if_neg e1]
        by_cases e2 : pa k = pa j
        · rw [if_pos e2]
          have := h.a k k0 kl e
          rw [e2] at this; omega
        · rw [if_neg e2]; exact h.a k k0 kl e
  · rw [swp_len] at kl
    have hpp : pa (pa j) < pa j := by unfold pa at *; omega
    rw [swp_at hpl hj, swp_at hpl hj, if_neg (by omega), if_neg (by omega)]
    have h1 := h.a (pa j) p0 hpl (by omega)
    by_cases e : k = j
    · rw [if_pos e]; exact h1
    · rw [if_neg e, if_neg (by intro e2; rw [e2] at kj; omega)]
      have h2 := h.a k k0 kl e
      rw [kj] at h2
      omega
theorem UpI.zero {ys : List Int} (h : UpI ys 0) : HPn ys ys.length := fun k k0 kl => h.a k k0 kl (by omega)
theorem UpI.stop {ys : List Int} {j : Nat} (h : UpI ys j) (hl : ¬ ys.getD j 0 < ys.getD (pa j) 0) : HPn ys ys.length := fun k k0 kl => by
  by_cases e : k = j
  · subst e; omega
  · exact h.a k k0 kl e
theorem UpI.push {ys : List Int} (h : HPn ys ys.length) (x : Int) : UpI (ys ++ [x]) ys.length := by
  have hat : ∀ k, k < ys.length → (ys ++ [x]).getD k 0 = ys.getD k 0 := fun k hk => by simp [List.getD_eq_getElem?_getD, List.getElem?_append, hk]
  refine ⟨fun k k0 kl kj => ?_, fun k k0 kl kj j0 => ?_⟩
  · have kl2 : k < ys.length := by simp at kl; omega
    rw [hat k kl2, hat (pa k) (by unfold pa; omega)]
    exact h k k0 kl2
  · simp at kl
    have : pa k < k := by unfold pa; omega
    omega
structure DnI (ys : List Int) (n i : Nat) : Prop where
  a : ∀ k, 0 < k → k < n → pa k ≠ i → ys.getD (pa k) 0 ≤ ys.getD k 0
  b : ∀ k, 0 < k → k < n → pa k = i → 0 < i → ys.getD (pa i) 0 ≤ ys.getD k 0
theorem DnI.swap {ys : List Int} {n i j : Nat} (h : DnI ys n i) (hn : n ≤ ys.length) (hj : j < n) (hj0 : 0 < j) (hp : pa j = i) (hmin : ∀ k, 0 < k → k < n → pa k = i → ys.getD j 0 ≤ ys.getD k 0) (hl : ys.getD j 0 < ys.getD i 0) : DnI (swp ys i j) n j := by
  have hij : i < j := by rw [← hp]; unfold pa; omega
  have hil : i < ys.length := by omega
  have hjl : j < ys.length := by omega
  refine ⟨fun k k0 kn kp => ?_, fun k k0 kn kp j0 => ?_⟩
  · rw [swp_at hil hjl, swp_at hil hjl, if_neg kp]
    have hk : pa k < k := by unfold pa; omega
    by_cases e : k = j
    · subst e
      rw [if_pos rfl, if_pos hp]; omega
    · rw [if_neg e]
      by_cases e1 : pa k = i
      · rw [if_pos e1, if_neg (by omega)]; exact hmin k k0 kn e1
      · rw [if_neg e1]
        by_cases e2 : k = i
        · subst e2; rw [if_pos rfl]; exact h.b j hj0 hj hp k0
        · rw [if_neg e2]; exact h.a k k0 kn e1
  · have hk : pa k < k := by unfold pa; omega
    rw [hp, swp_at hil hjl, swp_at hil hjl, if_neg (by omega), if_pos rfl, if_neg (by omega), if_neg (by omega)]
    have := h.a k k0 kn (by omega)
    rw [kp] at this
    exact this
theorem DnI.stop {ys : List Int} {n i : Nat} (h : DnI ys n i) (hl : ∀ k, 0 < k → k < n → pa k = i → ys.getD i 0 ≤ ys.getD k 0) : HPn ys n := fun k k0 kn => by
  by_cases e : pa k = i
  · rw [e]; exact hl k k0 kn e
  · exact h.a k k0 kn e
theorem DnI.pop {ys : List Int} {n : Nat} (h : HPn ys (n + 1)) (hn : ys.length = n + 1) : DnI (swp ys 0 n) n 0 := by
  refine ⟨fun k k0 kn kp => ?_, fun k k0 kn kp j0 => absurd j0 (by omega)⟩
  have hk : pa k < k := by unfold pa; omega
  rw [swp_at (by omega) (by omega), swp_at (by omega) (by omega), if_neg (by omega), if_neg kp, if_neg (by omega), if_neg (by omega)]
  exact h k k0 (by omega)
end Go.Proofs.Ytopbbihbpalnlaa
