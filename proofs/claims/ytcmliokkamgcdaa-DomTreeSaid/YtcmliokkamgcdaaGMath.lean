/-
  Plain mathematics of graphs as a number of nodes and a list of pairs: what Check finds. No Go program here.
-/
import Derived.Test.YtcmliokkamgcdaaGCmp
namespace Go.Proofs.Ytcmliokkamgcdaa
set_option linter.unusedVariables false

/-- Is x a node of a graph of N nodes? -/
def isNd (N x : Int) : Bool := decide (0 ≤ x) && decide (x < N)
theorem isNd_iff {N x : Int} : isNd N x = true ↔ 0 ≤ x ∧ x < N := by simp [isNd]
theorem isNd_not {N x : Int} : isNd N x = false ↔ x < 0 ∨ N ≤ x := by
  rw [← Bool.not_eq_true, isNd_iff]; omega
/-- Does a stand before b? -/
def ltE (a b : Int × Int) : Bool := decide (a.1 < b.1) || (decide (a.1 = b.1) && decide (a.2 < b.2))
theorem cmpZ_neg {x y : Int} : cmpZ x y < 0 ↔ x < y := by
  unfold cmpZ
  by_cases h : x < y
  · rw [if_pos h]; simp [h]
  · rw [if_neg h]
    by_cases h2 : y < x
    · rw [if_pos h2]; simp; omega
    · rw [if_neg h2]; simp; omega
theorem cmpZ_zero {x y : Int} : cmpZ x y = 0 ↔ x = y := by
  unfold cmpZ
  by_cases h : x < y
  · rw [if_pos h]; simp; omega
  · rw [if_neg h]
    by_cases h2 : y < x
    · rw [if_pos h2]; simp; omega
    · rw [if_neg h2]; simp; omega
theorem cmpE_neg (a b : Int × Int) : cmpE a b < 0 ↔ ltE a b = true := by
  have h1 := @cmpZ_neg a.1 b.1
  have h2 := @cmpZ_zero a.1 b.1
  have h3 := @cmpZ_neg a.2 b.2
  unfold cmpE orZ ltE
  simp only [Bool.or_eq_true, Bool.and_eq_true, decide_eq_true_eq]
  by_cases e : cmpZ a.1 b.1 = 0
  · rw [if_pos e, h3]
    have := h2.1 e
    omega
  · rw [if_neg e, h1]
    have : ¬ a.1 = b.1 := fun h => e (h2.2 h)
    omega
theorem cmpE_ge (a b : Int × Int) : 0 ≤ cmpE a b ↔ ltE a b = false := by
  rw [← Bool.not_eq_true, ← cmpE_neg]; omega

/-- The first fault from edge k on, n edges left: 4 (no node), 13 (not in order), 0 (none). -/
def gchkN (N : Int) (ps : List (Int × Int)) : Nat → Nat → Int
  | 0, _ => 0
  | n + 1, k => if isNd N (ps.getD k (0, 0)).1 = false then 4 else if isNd N (ps.getD k (0, 0)).2 = false then 4 else if 0 < k ∧ ltE (ps.getD (k - 1) (0, 0)) (ps.getD k (0, 0)) = false then 13 else gchkN N ps n (k + 1)
def gchk (N : Int) (ps : List (Int × Int)) : Int := if N < 0 then 4 else if 8192 < N then 3 else if 32768 < ps.length then 3 else gchkN N ps ps.length 0

theorem gchkN_step (N : Int) (ps : List (Int × Int)) (k : Nat) (hk : k < ps.length) :
    gchkN N ps (ps.length - k) k = if isNd N (ps.getD k (0, 0)).1 = false then 4 else if isNd N (ps.getD k (0, 0)).2 = false then 4 else if 0 < k ∧ ltE (ps.getD (k - 1) (0, 0)) (ps.getD k (0, 0)) = false then 13 else gchkN N ps (ps.length - (k + 1)) (k + 1) := by
  rw [show ps.length - k = (ps.length - (k + 1)) + 1 from by omega]; rfl
section
variable {N : Int} {ps : List (Int × Int)} {k : Nat} (h : gchk N ps = gchkN N ps (ps.length - k) k)
include h
theorem gchk_from (hk : k < ps.length) (c : isNd N (ps.getD k (0, 0)).1 = false) : gchk N ps = 4 := by
  rw [h, gchkN_step N ps k hk, if_pos c]
theorem gchk_to (hk : k < ps.length) (c : isNd N (ps.getD k (0, 0)).1 = true) (c2 : isNd N (ps.getD k (0, 0)).2 = false) : gchk N ps = 4 := by
  rw [h, gchkN_step N ps k hk, if_neg (by rw [c]; decide), if_pos c2]
theorem gchk_order (hk : k < ps.length) (c : isNd N (ps.getD k (0, 0)).1 = true) (c2 : isNd N (ps.getD k (0, 0)).2 = true) (h0 : 0 < k) (c3 : ltE (ps.getD (k - 1) (0, 0)) (ps.getD k (0, 0)) = false) : gchk N ps = 13 := by
  rw [h, gchkN_step N ps k hk, if_neg (by rw [c]; decide), if_neg (by rw [c2]; decide), if_pos ⟨h0, c3⟩]
theorem gchk_next (hk : k < ps.length) (c : isNd N (ps.getD k (0, 0)).1 = true) (c2 : isNd N (ps.getD k (0, 0)).2 = true) (c3 : k = 0 ∨ ltE (ps.getD (k - 1) (0, 0)) (ps.getD k (0, 0)) = true) : gchk N ps = gchkN N ps (ps.length - (k + 1)) (k + 1) := by
  rw [h, gchkN_step N ps k hk, if_neg (by rw [c]; decide), if_neg (by rw [c2]; decide), if_neg]
  rintro ⟨h0, h1⟩
  rcases c3 with c3 | c3
  · omega
  · rw [h1] at c3; cases c3
theorem gchk_end (hk : ¬ k < ps.length) : gchk N ps = 0 := by
  rw [h, show ps.length - k = 0 by omega]; rfl
end

/-- What a valid graph is. -/
structure GOk (N : Int) (ps : List (Int × Int)) : Prop where
  lo : 0 ≤ N
  hi : N ≤ 8192
  len : ps.length ≤ 32768
  node : ∀ i, i < ps.length → (0 ≤ (ps.getD i (0, 0)).1 ∧ (ps.getD i (0, 0)).1 < N) ∧ 0 ≤ (ps.getD i (0, 0)).2 ∧ (ps.getD i (0, 0)).2 < N
  asc : ∀ i, i + 1 < ps.length → ltE (ps.getD i (0, 0)) (ps.getD (i + 1) (0, 0)) = true

theorem gchkN_ok (N : Int) (ps : List (Int × Int)) : ∀ n k, gchkN N ps n k = 0 → ∀ i, k ≤ i → i < k + n → isNd N (ps.getD i (0, 0)).1 = true ∧ isNd N (ps.getD i (0, 0)).2 = true ∧ (0 < i → ltE (ps.getD (i - 1) (0, 0)) (ps.getD i (0, 0)) = true) := by
  intro n
  induction n with
  | zero => intro k _ i h1 h2; omega
  | succ n ih =>
    intro k h i h1 h2
    unfold gchkN at h
    by_cases c1 : isNd N (ps.getD k (0, 0)).1 = false
    · rw [if_pos c1] at h; cases h
    rw [if_neg c1] at h
    by_cases c2 : isNd N (ps.getD k (0, 0)).2 = false
    · rw [if_pos c2] at h; cases h
    rw [if_neg c2] at h
    by_cases c3 : 0 < k ∧ ltE (ps.getD (k - 1) (0, 0)) (ps.getD k (0, 0)) = false
    · rw [if_pos c3] at h; cases h
    rw [if_neg c3] at h
    by_cases e : i = k
    · subst e
      refine ⟨by simpa using c1, by simpa using c2, fun h0 => ?_⟩
      cases hb : ltE (ps.getD (i - 1) (0, 0)) (ps.getD i (0, 0)) with
      | true => rfl
      | false => exact absurd ⟨h0, hb⟩ c3
    · exact ih (k + 1) h i (by omega) (by omega)
theorem gchkN_of (N : Int) (ps : List (Int × Int)) : ∀ n k, (∀ i, k ≤ i → i < k + n → isNd N (ps.getD i (0, 0)).1 = true ∧ isNd N (ps.getD i (0, 0)).2 = true ∧ (0 < i → ltE (ps.getD (i - 1) (0, 0)) (ps.getD i (0, 0)) = true)) → gchkN N ps n k = 0 := by
  intro n
  induction n with
  | zero => intro k _; rfl
  | succ n ih =>
    intro k h
    have h0 := h k (by omega) (by omega)
    unfold gchkN
    rw [if_neg (by rw [h0.1]; decide), if_neg (by rw [h0.2.1]; decide), if_neg]
    · exact ih (k + 1) fun i h1 h2 => h i (by omega) (by omega)
    · rintro ⟨a, b⟩
      rw [h0.2.2 a] at b
      cases b
theorem gchk_ok {N : Int} {ps : List (Int × Int)} (h : gchk N ps = 0) : GOk N ps := by
  unfold gchk at h
  by_cases c1 : N < 0
  · rw [if_pos c1] at h; cases h
  rw [if_neg c1] at h
  by_cases c2 : 8192 < N
  · rw [if_pos c2] at h; cases h
  rw [if_neg c2] at h
  by_cases c3 : 32768 < ps.length
  · rw [if_pos c3] at h; cases h
  rw [if_neg c3] at h
  have h2 := gchkN_ok N ps _ _ h
  exact ⟨by omega, by omega, by omega, fun i hi => ⟨isNd_iff.1 (h2 i (by omega) (by omega)).1, isNd_iff.1 (h2 i (by omega) (by omega)).2.1⟩, fun i hi => by
    have := (h2 (i + 1) (by omega) (by omega)).2.2 (by omega)
    simpa using this⟩
theorem gchk_of {N : Int} {ps : List (Int × Int)} (h : GOk N ps) : gchk N ps = 0 := by
  have h1 := h.lo; have h2 := h.hi; have h3 := h.len
  unfold gchk
  rw [if_neg (by omega), if_neg (by omega), if_neg (by omega)]
  refine gchkN_of N ps _ _ fun i _ hi => ⟨isNd_iff.2 (h.node i (by omega)).1, isNd_iff.2 (h.node i (by omega)).2, fun h0 => ?_⟩
  have := h.asc (i - 1) (by omega)
  rwa [show i - 1 + 1 = i by omega] at this
end Go.Proofs.Ytcmliokkamgcdaa
