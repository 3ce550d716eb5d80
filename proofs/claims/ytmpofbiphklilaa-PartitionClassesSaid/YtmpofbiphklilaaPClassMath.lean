/-
  The classes of a partition, as a list of lists: plain mathematics. No Go program here.
-/
import Derived.Test.YtmpofbiphklilaaPMath
namespace Go.Proofs.Ytmpofbiphklilaa
set_option linter.unusedVariables false

theorem filt (P : Nat → Bool) (k : Nat) : (List.range (k + 1)).filter P = (List.range k).filter P ++ if P k = true then [k] else [] := by
  rw [List.range_succ, List.filter_append]
  congr 1
  by_cases h : P k = true <;> simp [h]
/-- The least members below k. -/
def repsTo (p : List Int) (k : Nat) : List Nat := (List.range k).filter fun i => decide (p.getD i 0 = (i : Int))
/-- The members below k of the class of r. -/
def membTo (p : List Int) (k r : Nat) : List Nat := (List.range k).filter fun j => decide (p.getD j 0 = (r : Int))
/-- The classes after k numbers. -/
def clsTo (p : List Int) (k : Nat) : List (List Nat) := (repsTo p k).map (membTo p k)
theorem length_clsTo (p : List Int) (k : Nat) : (clsTo p k).length = (repsTo p k).length := by simp [clsTo]
theorem mem_repsTo {p : List Int} {k r : Nat} : r ∈ repsTo p k ↔ r < k ∧ p.getD r 0 = (r : Int) := by simp [repsTo]
theorem mem_membTo {p : List Int} {k r j : Nat} : j ∈ membTo p k r ↔ j < k ∧ p.getD j 0 = (r : Int) := by simp [membTo]
theorem membTo_hit {p : List Int} {k r : Nat} (h : p.getD k 0 = (r : Int)) : membTo p (k + 1) r = membTo p k r ++ [k] := by
  unfold membTo
  rw [filt, if_pos (decide_eq_true h)]
theorem membTo_miss {p : List Int} {k r : Nat} (h : p.getD k 0 ≠ (r : Int)) : membTo p (k + 1) r = membTo p k r := by
  unfold membTo
  rw [filt, if_neg (by simpa using h), List.append_nil]
theorem repsTo_new {p : List Int} {k : Nat} (h : p.getD k 0 = (k : Int)) : repsTo p (k + 1) = repsTo p k ++ [k] := by
  unfold repsTo
  rw [filt, if_pos (decide_eq_true h)]
theorem repsTo_old {p : List Int} {k : Nat} (h : p.getD k 0 ≠ (k : Int)) : repsTo p (k + 1) = repsTo p k := by
  unfold repsTo
  rw [filt, if_neg (by simpa using h), List.append_nil]
/-- A new class begins. -/
theorem clsTo_new {p : List Int} {k : Nat} (hle : ∀ j, j < k → p.getD j 0 ≤ (j : Int)) (h : p.getD k 0 = (k : Int)) : clsTo p (k + 1) = clsTo p k ++ [[k]] := by
  unfold clsTo
  rw [repsTo_new h, List.map_append]
  congr 1
  · refine List.map_congr_left fun r hr => membTo_miss ?_
    have := (mem_repsTo.1 hr).1
    rw [h]; omega
  · have : membTo p k k = [] := by
      unfold membTo
      rw [List.filter_eq_nil_iff]
      intro j hj
      have h1 := List.mem_range.1 hj
      have h2 := hle j h1
      rw [decide_eq_true_eq]; omega
    simp [membTo_hit h, this]
/-- A class grows: the one at place c. -/
theorem clsTo_old {p : List Int} {k r c : Nat} (h : p.getD k 0 = (r : Int)) (hk : r < k) (hc : c < (repsTo p k).length) (hr : (repsTo p k).getD c 0 = r) :
    clsTo p (k + 1) = (clsTo p k).set c (membTo p k r ++ [k]) := by
  have hnd : (repsTo p k).Pairwise (· < ·) := by
    unfold repsTo
    exact List.Pairwise.filter _ List.pairwise_lt_range
  have hne : p.getD k 0 ≠ (k : Int) := by rw [h]; omega
  unfold clsTo
  rw [repsTo_old hne]
  apply List.ext_getElem
  · simp
  · intro i h1 h2
    have hi : i < (repsTo p k).length := by simpa using h1
    have hrc : (repsTo p k)[c] = r := by simpa [List.getD_eq_getElem?_getD, hc] using hr
    rw [List.getElem_map, List.getElem_set]
    by_cases e : c = i
    · subst e
      rw [if_pos rfl, hrc, membTo_hit h]
    · rw [if_neg e, List.getElem_map]
      apply membTo_miss
      intro h3
      rw [h] at h3
      have h4 : (repsTo p k)[i] = (repsTo p k)[c] := by rw [hrc]; omega
      rcases Nat.lt_trichotomy c i with h5 | h5 | h5
      · have := List.pairwise_iff_getElem.1 hnd c i hc hi h5; omega
      · exact e h5
      · have := List.pairwise_iff_getElem.1 hnd i c hi hc h5; omega
end Go.Proofs.Ytmpofbiphklilaa
