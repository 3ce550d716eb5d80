/-
  The definition's number.
-/
import Derived.Test.YtmnfonhfbolnkaaDoorRKey
namespace Go.Proofs.YtmnfonhfbolnkaaDoor
open Go.RowKit
set_option linter.unusedVariables false
set_option linter.unusedSimpArgs false

def tokA (k : Int) (a : Nat) (t : ByteArray) (n : Int) : Value := .agg #[.int .i64 k, .int .i64 (a : Int), .string t, .int .i64 n]
/-- What the bytes from a to b spell. -/
def decTo (s : ByteArray) (a : Nat) : Nat → Nat
  | 0 => 0
  | k + 1 => decTo s a k * 10 + ((byteI s (a + k)).toNat - 48)
theorem decV_append : ∀ (l : List UInt8) (acc : Nat) (c : UInt8), decV (l ++ [c]) acc = decV l acc * 10 + (c.toNat - 48)
  | [], acc, c => rfl
  | d :: r, acc, c => by show decV (r ++ [c]) _ = decV r _ * 10 + _; exact decV_append r _ c
theorem decTo_V (s : ByteArray) (a : Nat) : ∀ k, a + k ≤ s.size → decTo s a k = decV (s.extract a (a + k)).data.toList 0
  | 0, h => by
    have : (s.extract a (a + 0)).data.toList = [] := by
      rw [← List.length_eq_zero_iff, len_data, size_extract s a _ h]; omega
    rw [this]; rfl
  | k + 1, h => by
    have e : (s.extract a (a + (k + 1))).data.toList = (s.extract a (a + k)).data.toList ++ [s[a + k]'(by omega)] := by
      simp only [ByteArray.data_extract, Array.toList_extract]
      rw [List.extract_eq_take_drop, List.extract_eq_take_drop, show a + (k + 1) - a = k + 1 from by omega, show a + k - a = k from by omega]
      rw [List.take_add_one]
      congr 1
      rw [List.getElem?_drop, List.getElem?_eq_getElem (by simp; omega)]
      rfl
    rw [e, decV_append, ← decTo_V s a k (by omega)]
    show _ * 10 + _ = _
    rw [byteI_at (show a + k < s.size by omega)]
    simp
theorem decTo_mono (s : ByteArray) (a : Nat) : ∀ k m, k ≤ m → decTo s a k ≤ decTo s a m
  | k, 0, h => by obtain rfl : k = 0 := by omega
                  exact Nat.le_refl _
  | k, m + 1, h => by
    rcases Nat.eq_or_lt_of_le h with e | e
    · rw [e]; exact Nat.le_refl _
    · have := decTo_mono s a k m (by omega)
      show _ ≤ decTo s a m * 10 + _
      omega
end Go.Proofs.YtmnfonhfbolnkaaDoor
