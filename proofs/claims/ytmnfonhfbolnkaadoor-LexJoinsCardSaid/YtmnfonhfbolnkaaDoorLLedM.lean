/-
  Where the runes of a set of ASCII end, byte by byte; and where a line ends.
-/
import Derived.Test.YtmnfonhfbolnkaaDoorLWord
namespace Go.Proofs.YtmnfonhfbolnkaaDoor
open Go.RowKit
set_option linter.unusedVariables false

/-- No rune of 128 or more is in the set. -/
def Asc (p : Int → Bool) : Prop := ∀ r : Int, 128 ≤ r → p r = false
theorem asc_word : Asc isWordR := fun r h => by
  unfold isWordR isLetR isDigR
  have h1 : decide (r ≤ 122) = false := decide_eq_false (by omega)
  have h2 : decide (r ≤ 90) = false := decide_eq_false (by omega)
  have h3 : decide (r ≤ 57) = false := decide_eq_false (by omega)
  have h4 : (r == 95) = false := by rw [beq_eq_false_iff_ne]; omega
  rw [h1, h2, h3, h4]
  simp
theorem asc_digit : Asc isDigR := fun r h => by
  unfold isDigR
  have h3 : decide (r ≤ 57) = false := decide_eq_false (by omega)
  rw [h3]
  simp
def byteI (s : ByteArray) (i : Nat) : Int := ((s.data.toList.getD i 0).toNat : Int)
theorem byteI_at {s : ByteArray} {i : Nat} (h : i < s.size) : byteI s i = ((s[i]'h).toNat : Int) := by
  unfold byteI
  congr 2
  rw [List.getD_eq_getElem?_getD, List.getElem?_eq_getElem (by simpa using h)]
  rfl
/-- The bytes from pos on are in p up to L, and no further. -/
structure Led (p : Int → Bool) (s : ByteArray) (pos L : Nat) : Prop where
  ge : pos ≤ L
  le : L ≤ s.size
  all : ∀ i, pos ≤ i → i < L → p (byteI s i) = true
  stop : L < s.size → p (byteI s L) = false
theorem ledP_asc {p : Int → Bool} {s : ByteArray} (hp : Asc p) : ∀ (b pos : Nat), pos ≤ s.size → s.size ≤ pos + b → Led p s pos (ledP p s (b + 1) pos)
  | b, pos, hle, hb => by
    by_cases hlt : pos < s.size
    · have hby := byteI_at hlt
      by_cases ha : (s[pos]'hlt).toNat < 128
      · have hd := decode_ascii s pos hlt ha
        cases hpr : p (byteI s pos) with
        | true =>
          rw [ledP_go hlt (by rw [hd, ← hby]; exact hpr), hd]
          obtain ⟨c, rfl⟩ : ∃ c, b = c + 1 := ⟨b - 1, by omega⟩
          have ih := ledP_asc (s := s) hp c (pos + 1) (by omega) (by omega)
          exact ⟨by have := ih.ge; show pos ≤ ledP p s (c + 1) (pos + 1); omega, ih.le, fun i hi hi2 => by
            rcases Nat.eq_or_lt_of_le hi with e | e
            · rw [← e]; exact hpr
            · exact ih.all i e hi2, ih.stop⟩
        | false =>
          rw [ledP_stop hlt (by rw [hd, ← hby]; exact hpr)]
          exact ⟨Nat.le_refl _, hle, fun i hi hi2 => by omega, fun _ => hpr⟩
      · have hd := (decode_high s pos hlt (by omega)).1
        rw [ledP_stop hlt (hp _ (by omega))]
        exact ⟨Nat.le_refl _, hle, fun i hi hi2 => by omega, fun _ => hp _ (by rw [hby]; omega)⟩
    · rw [ledP_end hlt]
      exact ⟨hle, Nat.le_refl _, fun i hi hi2 => by omega, fun h => absurd h (Nat.lt_irrefl _)⟩
theorem Led.unique {p : Int → Bool} {s : ByteArray} {pos L M : Nat} (h : Led p s pos L) (k : Led p s pos M) : L = M := by
  rcases Nat.lt_trichotomy L M with e | e | e
  · have h1 := h.stop (by have := k.le; omega)
    have h2 := k.all L h.ge e
    rw [h1] at h2; cases h2
  · exact e
  · have h1 := k.stop (by have := h.le; omega)
    have h2 := h.all M k.ge e
    rw [h1] at h2; cases h2
end Go.Proofs.YtmnfonhfbolnkaaDoor
