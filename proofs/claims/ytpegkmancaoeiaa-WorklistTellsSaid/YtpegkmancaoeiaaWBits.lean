/-
  The set of the items that were seen, as 1024 words of 64 bits.
-/
import Derived.Test.YtpegkmancaoeiaaWAt
import Derived.Laws.BitsAllLaws
import Derived.Laws.Bits128
import Derived.IntWalk
import Derived.StillTailTactics
namespace Go.Proofs.Ytpegkmancaoeiaa
open Go.RowKit
set_option linter.unusedVariables false

theorem testBit_big {x k : Nat} (h : x < 18446744073709551616) (hk : 64 ≤ k) : x.testBit k = false := by
  apply Nat.testBit_lt_two_pow
  exact Nat.lt_of_lt_of_le h (Nat.le_trans (by decide) (Nat.pow_le_pow_right (by omega) hk))
theorem and_nat (a b : Nat) (B : Int) (hB : B = (b : Int)) (ha : a < 18446744073709551616) (hb : b < 18446744073709551616) : bits BinOp.and IntKind.u64 (a : Int) B = ((a &&& b : Nat) : Int) := by
  rw [hB]; exact bits_and_u64_nat a b ha hb
theorem shr_and_one (x k : Nat) (hx : x < 18446744073709551616) : (x / 2 ^ k) &&& 1 = if x.testBit k then 1 else 0 := by
  rw [Nat.and_one_is_mod]
  rw [Nat.testBit_eq_decide_div_mod_eq]
  by_cases h : x / 2 ^ k % 2 = 1 <;> simp [h]; omega
theorem bit_test (y r : Nat) (hy : y < 18446744073709551616) : (bits BinOp.and IntKind.u64 ((y : Int) / 2 ^ r) 1 == 1) = y.testBit r := by
  have e : ((y : Int) / 2 ^ r) = ((y / 2 ^ r : Nat) : Int) := by simp
  have hlt : y / 2 ^ r < 18446744073709551616 := Nat.lt_of_le_of_lt (Nat.div_le_self _ _) hy
  rw [e, and_nat (y / 2 ^ r) 1 1 rfl hlt (by omega), shr_and_one y r hy]
  cases y.testBit r <;> rfl
theorem kor (a b : Nat) (ha : a < 18446744073709551616) (hb : b < 18446744073709551616) : bits BinOp.or IntKind.u64 (a : Int) (b : Int) = ((a ||| b : Nat) : Int) := bits_or_u64_nat a b ha hb
theorem or_lt (a b : Nat) (ha : a < 18446744073709551616) (hb : b < 18446744073709551616) : a ||| b < 18446744073709551616 := by
  have : a ||| b < 2 ^ 64 := Nat.or_lt_two_pow (by simpa using ha) (by simpa using hb)
  simpa using this
theorem two_pow_lt (r : Nat) (h : r < 64) : 2 ^ r < 18446744073709551616 := by
  have : 2 ^ r < 2 ^ 64 := Nat.pow_lt_pow_right (by omega) h
  simpa using this
theorem kshl (r : Nat) (h : r < 64) : IntKind.u64.wrap (2 ^ r : Int) = ((2 ^ r : Nat) : Int) := by
  have hp := two_pow_lt r h
  rw [IntKind.wrap_u64, show (2 ^ r : Int) = ((2 ^ r : Nat) : Int) from by simp]
  generalize 2 ^ r = p at *
  omega

def zeros1024 : Array Value := Array.replicate 1024 (.int .u64 0)
theorem seen_info : (Try.prog.info? 45).map (fun i => i.zero) = some (some (.agg zeros1024)) := by kernel_rfl
theorem seen_zero (w : World) : Sem.run Try.prog (zeroValue 45) w = .ok (.agg zeros1024) w := by
  cases h : Try.prog.info? 45 with
  | none => have := seen_info; rw [h] at this; cases this
  | some i =>
    have h0 := seen_info
    rw [h] at h0
    have h1 : i.zero = some (.agg zeros1024) := by simpa using h0
    have : (typeInfo 45).run Try.prog w = .ok i w := by
      simp [typeInfo, go_sem, h]
    simp [zeroValue, go_sem, this, h1]

/-- The words stand for the first k items. -/
def Bits (ss : List Nat) (l : List Int) : Prop := ∀ y : Nat, y < 65536 → ((ss.getD (y / 64) 0).testBit (y % 64) = true ↔ (y : Int) ∈ l)
theorem bits_zero : Bits (List.replicate 1024 0) [] := by
  intro y hy
  have : (List.replicate 1024 0).getD (y / 64) 0 = 0 := by
    rw [List.getD_eq_getElem?_getD, List.getElem?_replicate]; split <;> rfl
  rw [this]; simp
theorem Bits.add {ss : List Nat} {l : List Int} (h : Bits ss l) (hs : ss.length = 1024) (m : Nat) (hm : m < 65536) : Bits (ss.set (m / 64) (ss.getD (m / 64) 0 ||| 2 ^ (m % 64))) (l ++ [(m : Int)]) := by
  intro y hy
  rw [List.mem_append, List.mem_singleton]
  have hq : m / 64 < ss.length := by omega
  have hg : (ss.set (m / 64) (ss.getD (m / 64) 0 ||| 2 ^ (m % 64))).getD (y / 64) 0 = if y / 64 = m / 64 then ss.getD (m / 64) 0 ||| 2 ^ (m % 64) else ss.getD (y / 64) 0 := by
    simp only [List.getD_eq_getElem?_getD, List.getElem?_set]
    by_cases e : m / 64 = y / 64
    · rw [if_pos e, if_pos hq, if_pos e.symm]; rfl
    · rw [if_neg e, if_neg (fun h => e h.symm)]
  rw [hg]
  have h0 := h y hy
  by_cases e : y / 64 = m / 64
  · rw [if_pos e, Nat.testBit_or, Nat.testBit_two_pow, Bool.or_eq_true, decide_eq_true_eq, ← e, h0]
    constructor
    · rintro (h1 | h1)
      · exact .inl h1
      · exact .inr (by omega)
    · rintro (h1 | h1)
      · exact .inl h1
      · exact .inr (by omega)
  · rw [if_neg e, h0]
    exact ⟨.inl, fun h1 => by rcases h1 with h1 | h1; exact h1; omega⟩

/-- Block g holds the words ss; nothing below B has changed. -/
structure Seen (wr : World) (g : Nat) (ss : List Nat) : Prop where
  len : ss.length = 1024
  lt : ∀ i, ss.getD i 0 < 18446744073709551616
  cell : ∀ i, i < 1024 → wr.cell? ⟨g, i, none⟩ = some (.int .u64 (ss.getD i 0 : Nat))
  free : ∀ i, wr.frozen? ⟨g, i, none⟩ = false
theorem Seen.drewN {wr : World} {g : Nat} {ss : List Nat} (h : Seen wr g ss) (n : Nat) : Seen (wr.drewN n) g ss := ⟨h.len, h.lt, h.cell, h.free⟩
theorem Seen.set {wr : World} {g : Nat} {ss : List Nat} (h : Seen wr g ss) (q v : Nat) (hq : q < 1024) (hv : v < 18446744073709551616) : Seen (wr.setCell ⟨g, q, none⟩ (.int .u64 (v : Nat))) g (ss.set q v) := by
  have hget : ∀ i, (ss.set q v).getD i 0 = if i = q then v else ss.getD i 0 := by
    intro i
    simp only [List.getD_eq_getElem?_getD, List.getElem?_set]
    by_cases e : q = i
    · subst e; rw [if_pos rfl, if_pos (by rw [h.len]; exact hq), if_pos rfl]; rfl
    · rw [if_neg e, if_neg (fun h => e h.symm)]
  refine ⟨by rw [List.length_set, h.len], fun i => ?_, fun i hi => ?_, fun i => ?_⟩
  · rw [hget]; split
    · exact hv
    · exact h.lt i
  · rw [hget]
    by_cases e : i = q
    · subst e
      rw [if_pos rfl]
      exact World.cell?_setCell_same' _ _ _ (by rw [h.cell i hi]; rfl)
    · rw [if_neg e]
      rw [World.cell?_setCell_other _ _ _ _ (by intro h; cases h; exact e rfl)]
      exact h.cell i hi
  · rw [World.frozen?_setCell]; exact h.free i
end Go.Proofs.Ytpegkmancaoeiaa
