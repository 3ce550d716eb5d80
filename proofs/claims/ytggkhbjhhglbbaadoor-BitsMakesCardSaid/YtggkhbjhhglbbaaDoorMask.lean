/-
  The operations on words as the walks write them, on natural numbers.
-/
import Derived.Test.YtggkhbjhhglbbaaDoorOnes
namespace Go.Proofs.YtggkhbjhhglbbaaDoor
open Go.RowKit
set_option linter.unusedVariables false

def andNotN (a b : Nat) : Nat := a &&& (18446744073709551615 - b)
theorem andNotN_lt (a b : Nat) (h : a < 18446744073709551616) : andNotN a b < 18446744073709551616 := Nat.lt_of_le_of_lt Nat.and_le_left h
theorem testBit_andNotN (a b i : Nat) (hb : b < 18446744073709551616) (ha : a < 18446744073709551616) : (andNotN a b).testBit i = (a.testBit i && !b.testBit i) := by
  unfold andNotN
  rw [Nat.testBit_and, show (18446744073709551615 - b : Nat) = 2 ^ 64 - (b + 1) from by omega, Nat.testBit_two_pow_sub_succ (by simpa using hb)]
  by_cases h : i < 64
  · simp [h]
  · rw [testBit_big ha (by omega)]; simp
theorem or_lt (a b : Nat) (ha : a < 18446744073709551616) (hb : b < 18446744073709551616) : a ||| b < 18446744073709551616 := by
  have : a ||| b < 2 ^ 64 := Nat.or_lt_two_pow (by simpa using ha) (by simpa using hb)
  simpa using this
theorem and_lt (a b : Nat) (ha : a < 18446744073709551616) : a &&& b < 18446744073709551616 := Nat.lt_of_le_of_lt Nat.and_le_left ha
theorem kor (a b : Nat) (ha : a < 18446744073709551616) (hb : b < 18446744073709551616) : bits BinOp.or IntKind.u64 (a : Int) (b : Int) = ((a ||| b : Nat) : Int) := bits_or_u64_nat a b ha hb
theorem kand (a b : Nat) (ha : a < 18446744073709551616) (hb : b < 18446744073709551616) : bits BinOp.and IntKind.u64 (a : Int) (b : Int) = ((a &&& b : Nat) : Int) := bits_and_u64_nat a b ha hb
theorem kandNot (a b : Nat) (ha : a < 18446744073709551616) (hb : b < 18446744073709551616) : bits BinOp.andNot IntKind.u64 (a : Int) (b : Int) = ((andNotN a b : Nat) : Int) := u64_andNot_nat a b ha hb
theorem mem_word (ws : List Nat) (i : Nat) : mem ws i = (ws.getD (i / 64) 0).testBit (i % 64) := rfl
end Go.Proofs.YtggkhbjhhglbbaaDoor
