/-
  Plain mathematics of partitions as lists of integers: what Check finds, and the facts of a valid partition. No Go program here.
-/
import Derived.Below
namespace Go.Proofs.Ytmpofbiphklilaa
open Go.RowKit

/-- The first fault from index k on, n entries left: 4 (out of range), 1 (not a least member), 0 (none). -/
def chkN (zs : List Int) : Nat → Nat → Int
  | 0, _ => 0
  | n + 1, k => if zs.getD k 0 < 0 then 4 else if (k : Int) < zs.getD k 0 then 4 else if zs.getD (zs.getD k 0).toNat 0 ≠ zs.getD k 0 then 1 else chkN zs n (k + 1)
def chk (zs : List Int) : Int := if 8192 < zs.length then 3 else chkN zs zs.length 0

theorem chkN_step (zs : List Int) (k : Nat) (hk : k < zs.length) :
    chkN zs (zs.length - k) k = if zs.getD k 0 < 0 then 4 else if (k : Int) < zs.getD k 0 then 4 else if zs.getD (zs.getD k 0).toNat 0 ≠ zs.getD k 0 then 1 else chkN zs (zs.length - (k + 1)) (k + 1) := by
  rw [show zs.length - k = (zs.length - (k + 1)) + 1 from by omega]; rfl
theorem chkN_end (zs : List Int) (k : Nat) (hk : zs.length ≤ k) : chkN zs (zs.length - k) k = 0 := by
  rw [show zs.length - k = 0 from by omega]; rfl

theorem chk_neg {zs : List Int} {k : Nat} {z : Int} (h : chk zs = chkN zs (zs.length - k) k) (hk : k < zs.length) (hz : zs.getD k 0 = z) (c1 : z < 0) : chk zs = 4 := by
  rw [h, chkN_step zs k hk, hz, if_pos c1]
theorem chk_high {zs : List Int} {k : Nat} {z : Int} (h : chk zs = chkN zs (zs.length - k) k) (hk : k < zs.length) (hz : zs.getD k 0 = z) (c1 : 0 ≤ z) (c2 : (k : Int) < z) : chk zs = 4 := by
  rw [h, chkN_step zs k hk, hz, if_neg (by omega), if_pos c2]
theorem chk_loose {zs : List Int} {k : Nat} {z y : Int} (h : chk zs = chkN zs (zs.length - k) k) (hk : k < zs.length) (hz : zs.getD k 0 = z) (c1 : 0 ≤ z) (c2 : z ≤ k) (hy : zs.getD z.toNat 0 = y) (c3 : y ≠ z) : chk zs = 1 := by
  rw [h, chkN_step zs k hk, hz, if_neg (by omega), if_neg (by omega), hy, if_pos c3]
theorem chk_next {zs : List Int} {k : Nat} {z y : Int} (h : chk zs = chkN zs (zs.length - k) k) (hk : k < zs.length) (hz : zs.getD k 0 = z) (c1 : 0 ≤ z) (c2 : z ≤ k) (hy : zs.getD z.toNat 0 = y) (c3 : y = z) : chk zs = chkN zs (zs.length - (k + 1)) (k + 1) := by
  rw [h, chkN_step zs k hk, hz, if_neg (by omega), if_neg (by omega), hy, if_neg (by simpa using c3)]
theorem chk_end {zs : List Int} {k : Nat} (h : chk zs = chkN zs (zs.length - k) k) (hk : ¬ k < zs.length) : chk zs = 0 := by
  rw [h, chkN_end zs k (by omega)]

theorem chkN_range (zs : List Int) (n k : Nat) : chkN zs n k = 0 ∨ chkN zs n k = 1 ∨ chkN zs n k = 4 := by
  induction n generalizing k with
  | zero => exact .inl rfl
  | succ n ih =>
    unfold chkN
    split
    · exact .inr (.inr rfl)
    · split
      · exact .inr (.inr rfl)
      · split
        · exact .inr (.inl rfl)
        · exact ih _
theorem chk_range (zs : List Int) : chk zs = 0 ∨ chk zs = 1 ∨ chk zs = 3 ∨ chk zs = 4 := by
  unfold chk
  split
  · exact .inr (.inr (.inl rfl))
  · rcases chkN_range zs zs.length 0 with h | h | h <;> simp [h]

/-- What a valid partition is. -/
structure Valid (zs : List Int) : Prop where
  short : zs.length ≤ 8192
  lo : ∀ i, i < zs.length → 0 ≤ zs.getD i 0
  hi : ∀ i, i < zs.length → zs.getD i 0 ≤ i
  fix : ∀ i, i < zs.length → zs.getD (zs.getD i 0).toNat 0 = zs.getD i 0

theorem chkN_ok (zs : List Int) (n k : Nat) (h : chkN zs n k = 0) (i : Nat) (h1 : k ≤ i) (h2 : i < k + n) :
    0 ≤ zs.getD i 0 ∧ zs.getD i 0 ≤ i ∧ zs.getD (zs.getD i 0).toNat 0 = zs.getD i 0 := by
  induction n generalizing k with
  | zero => omega
  | succ n ih =>
    unfold chkN at h
    by_cases c1 : zs.getD k 0 < 0
    · rw [if_pos c1] at h; cases h
    rw [if_neg c1] at h
    by_cases c2 : (k : Int) < zs.getD k 0
    · rw [if_pos c2] at h; cases h
    rw [if_neg c2] at h
    by_cases c3 : zs.getD (zs.getD k 0).toNat 0 ≠ zs.getD k 0
    · rw [if_pos c3] at h; cases h
    rw [if_neg c3] at h
    by_cases e : i = k
    · subst e
      exact ⟨by omega, by omega, by simpa using c3⟩
    · exact ih (k + 1) h (by omega) (by omega)

theorem chkN_of (zs : List Int) (n k : Nat) (h : ∀ i, k ≤ i → i < k + n → 0 ≤ zs.getD i 0 ∧ zs.getD i 0 ≤ i ∧ zs.getD (zs.getD i 0).toNat 0 = zs.getD i 0) : chkN zs n k = 0 := by
  induction n generalizing k with
  | zero => rfl
  | succ n ih =>
    have h0 := h k (by omega) (by omega)
    unfold chkN
    rw [if_neg (by omega), if_neg (by omega), if_neg (by simpa using h0.2.2)]
    exact ih (k + 1) fun i h1 h2 => h i (by omega) (by omega)

theorem chk_valid {zs : List Int} (h : chk zs = 0) : Valid zs := by
  unfold chk at h
  by_cases c : 8192 < zs.length
  · rw [if_pos c] at h; cases h
  rw [if_neg c] at h
  exact ⟨by omega, fun i hi => (chkN_ok zs _ _ h i (by omega) (by omega)).1, fun i hi => (chkN_ok zs _ _ h i (by omega) (by omega)).2.1, fun i hi => (chkN_ok zs _ _ h i (by omega) (by omega)).2.2⟩
theorem chk_of {zs : List Int} (h : Valid zs) : chk zs = 0 := by
  unfold chk
  rw [if_neg (by have := h.short; omega)]
  exact chkN_of zs _ _ fun i _ h2 => ⟨h.lo i (by omega), h.hi i (by omega), h.fix i (by omega)⟩
theorem chk_iff {zs : List Int} : chk zs = 0 ↔ Valid zs := ⟨chk_valid, chk_of⟩

/-- Is x one of the numbers? -/
def isB (n : Nat) (x : Int) : Bool := decide (0 ≤ x) && decide (x < n)
theorem isB_iff {n : Nat} {x : Int} : isB n x = true ↔ 0 ≤ x ∧ x < n := by simp [isB]
theorem isB_not {n : Nat} {x : Int} : isB n x = false ↔ x < 0 ∨ n ≤ x := by
  rw [← Bool.not_eq_true, isB_iff]; omega

/-- Same, as the definition has it. -/
def sameB (zs : List Int) (x y : Int) : Bool := decide (chk zs = 0) && (isB zs.length x && (isB zs.length y && decide (zs.getD x.toNat 0 = zs.getD y.toNat 0)))
end Go.Proofs.Ytmpofbiphklilaa
