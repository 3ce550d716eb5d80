/-
  Lines and columns.
-/
import Derived.Test.YtmnfonhfbolnkaaDoorAwake
import Derived.Lib.LastIndexByte
import Derived.Lib.Bytealg
namespace Go.Proofs.YtmnfonhfbolnkaaDoor
open Go.RowKit
set_option linter.unusedVariables false

/-- Line and column of a place. -/
def posR (s : ByteArray) : Nat → Nat × Nat
  | 0 => (1, 1)
  | i + 1 => if byteI s i = 10 then ((posR s i).1 + 1, 1) else ((posR s i).1, (posR s i).2 + 1)
theorem posR_le (s : ByteArray) : ∀ i, (posR s i).1 ≤ i + 1 ∧ (posR s i).2 ≤ i + 1
  | 0 => ⟨Nat.le_refl _, Nat.le_refl _⟩
  | i + 1 => by
    have := posR_le s i
    unfold posR
    by_cases h : byteI s i = 10
    · rw [if_pos h]; exact ⟨by show _ + 1 ≤ _; omega, by show 1 ≤ _; omega⟩
    · rw [if_neg h]; exact ⟨by show (posR s i).1 ≤ _; omega, by show (posR s i).2 + 1 ≤ _; omega⟩
theorem take_next (s : ByteArray) (i : Nat) (h : i < s.size) : (s.extract 0 (i + 1)).data.toList = (s.extract 0 i).data.toList ++ [s[i]'h] := by
  simp only [ByteArray.data_extract, Array.toList_extract]
  rw [List.extract_eq_take_drop, List.extract_eq_take_drop, Nat.sub_zero, Nat.sub_zero, List.drop_zero, List.take_add_one]
  congr 1
  rw [List.getElem?_eq_getElem (by simpa using h)]
  rfl
theorem count_pos (s : ByteArray) : ∀ i, i ≤ s.size → 1 + Lib.countByte (s.extract 0 i).data.toList 10 = (posR s i).1
  | 0, h => by
    have : (s.extract 0 0).data.toList = [] := by
      rw [← List.length_eq_zero_iff, len_data, size_extract s 0 0 h]
    rw [this]; rfl
  | i + 1, h => by
    have ih := count_pos s i (by omega)
    have hlt : i < s.size := by omega
    rw [take_next s i hlt]
    unfold Lib.countByte at ih ⊢
    rw [List.count_append]
    have hb := byteI_at hlt
    unfold posR
    by_cases hx : byteI s i = 10
    · rw [if_pos hx]
      have e : (s[i]'hlt) = 10 := UInt8.toNat_inj.mp (show (s[i]'hlt).toNat = 10 by omega)
      rw [e]
      show 1 + (_ + List.count 10 [10]) = (posR s i).1 + 1
      rw [show List.count (10 : UInt8) [10] = 1 from rfl]
      omega
    · rw [if_neg hx]
      have e : (s[i]'hlt) ≠ 10 := fun e => hx (by rw [hb, e]; rfl)
      rw [List.count_singleton]
      have e2 : ((s[i]'hlt) == 10) = false := by rw [beq_eq_false_iff_ne]; exact e
      rw [e2]
      show 1 + (_ + 0) = (posR s i).1
      omega
theorem bang_byte (s : ByteArray) (k : Nat) (h : k < s.size) : ((s.data[k]!).toNat : Int) = byteI s k := by
  rw [byteI_at h]
  congr 2
  have : k < s.data.size := h
  rw [getElem!_pos s.data k this]
  rfl
theorem lastIdx_pos (s : ByteArray) : ∀ i, i ≤ s.size → (i : Int) - Lib.lastIdx s 10 i = (posR s i).2
  | 0, h => rfl
  | i + 1, h => by
    have ih := lastIdx_pos s i (by omega)
    unfold Lib.lastIdx posR
    rw [bang_byte s i (by omega)]
    by_cases hx : byteI s i = 10
    · rw [if_pos hx, if_pos hx]
      show ((i + 1 : Nat) : Int) - i = 1
      omega
    · rw [if_neg hx, if_neg hx]
      show ((i + 1 : Nat) : Int) - _ = ((posR s i).2 + 1 : Nat)
      omega
theorem lastIdx_ext (s : ByteArray) (n : Nat) (hn : n ≤ s.size) : ∀ k, k ≤ n → Lib.lastIdx (s.extract 0 n) 10 k = Lib.lastIdx s 10 k
  | 0, h => rfl
  | k + 1, h => by
    unfold Lib.lastIdx
    rw [bang_byte s k (by omega), bang_byte (s.extract 0 n) k (by rw [size_extract s 0 n hn]; omega), byteI_extract s 0 n k hn (by omega), Nat.zero_add, lastIdx_ext s n hn k (by omega)]
theorem lastByte_pos (s : ByteArray) (n : Nat) (hn : n ≤ s.size) : (n : Int) - Lib.lastIndexByte (s.extract 0 n) 10 = (posR s n).2 := by
  unfold Lib.lastIndexByte
  have hz : (s.extract 0 n).size = n := by rw [size_extract s 0 n hn]; omega
  rw [hz, lastIdx_ext s n hn n (Nat.le_refl _)]
  exact lastIdx_pos s n hn
/-- The answer of Position. -/
def posA (s : ByteArray) (at_ : Int) : Int × Int × Int :=
  if 65536 < s.size then (0, 0, 3) else if at_ < 0 ∨ (s.size : Int) < at_ then (0, 0, 4) else (((posR s at_.toNat).1 : Int), ((posR s at_.toNat).2 : Int), 0)
end Go.Proofs.YtmnfonhfbolnkaaDoor
