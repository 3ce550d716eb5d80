/-
  word: the token of a word, a keyword or not. (Written by gen_word.py.)
-/
import Derived.Test.YtmnfonhfbolnkaaDoorLMark
namespace Go.Proofs.YtmnfonhfbolnkaaDoor
open Go.RowKit Go.Shelf
set_option linter.unusedVariables false

def kwB : List ByteArray := [⟨#[99, 108, 97, 115, 115]⟩, ⟨#[101, 120, 116, 101, 110, 100, 115]⟩, ⟨#[118, 97, 114]⟩, ⟨#[100, 101, 102]⟩, ⟨#[115, 116, 97, 116, 105, 99]⟩, ⟨#[105, 102]⟩, ⟨#[101, 108, 115, 101]⟩, ⟨#[119, 104, 105, 108, 101]⟩, ⟨#[116, 114, 121]⟩, ⟨#[99, 97, 116, 99, 104]⟩, ⟨#[116, 104, 114, 111, 119]⟩, ⟨#[114, 101, 116, 117, 114, 110]⟩, ⟨#[110, 101, 119]⟩, ⟨#[110, 117, 108, 108]⟩, ⟨#[116, 104, 105, 115]⟩, ⟨#[105, 110, 112, 117, 116]⟩, ⟨#[105, 110, 116]⟩]
/-- The table of the keywords lies where the program keeps it. -/
structure Kw (w : World) : Prop where
  cell : ∀ j (h : j < 17), w.cell? ⟨0, j, none⟩ = some (.string (kwB[j]'h))
  lt : 0 < w.heap.size
theorem Kw.below {w w' : World} {B : Nat} (h : Kw w) (hb : Below B w w') (hB : w.heap.size ≤ B) : Kw w' :=
  ⟨fun j hj => (hb.cell (p := ⟨0, j, none⟩) (Nat.lt_of_lt_of_le h.lt hB)).trans (h.cell j hj), Nat.lt_of_lt_of_le h.lt hb.size⟩
def isKw (s : ByteArray) (j : Nat) : Bool := s.toList == (kwB.getD j ⟨#[]⟩).data.toList
def tokV (k : Int) (t : ByteArray) (n : Int) : Value := .agg #[.int .i64 k, .int .i64 0, .string t, .int .i64 n]
def WordEnd (s : ByteArray) (w : World) (e : Ending) (w' : World) : Prop :=
  Below w.heap.size w w' ∧ ((32 < s.size ∧ e = .returned (.tuple #[tokV 0 ⟨#[]⟩ 0, .int .i64 3])) ∨ (s.size ≤ 32 ∧ (∃ j, j < 17 ∧ isKw s j = true) ∧ e = .returned (.tuple #[tokV 2 s 0, .int .i64 0])) ∨ (s.size ≤ 32 ∧ (∀ j, j < 17 → isKw s j = false) ∧ e = .returned (.tuple #[tokV 1 s 0, .int .i64 0])))
theorem isKw_next {s : ByteArray} {k : Nat} (h : ∀ i, i < k → isKw s i = false) (hk : isKw s k = false) : ∀ i, i < k + 1 → isKw s i = false := fun i hi => by
  rcases Nat.lt_or_ge i k with h1 | h1
  · exact h i h1
  · obtain rfl : i = k := by omega
    exact hk
theorem kw_at0 (w : World) : (Instr.index 62 (.agg #[.string ⟨#[99, 108, 97, 115, 115]⟩, .string ⟨#[101, 120, 116, 101, 110, 100, 115]⟩, .string ⟨#[118, 97, 114]⟩, .string ⟨#[100, 101, 102]⟩, .string ⟨#[115, 116, 97, 116, 105, 99]⟩, .string ⟨#[105, 102]⟩, .string ⟨#[101, 108, 115, 101]⟩, .string ⟨#[119, 104, 105, 108, 101]⟩, .string ⟨#[116, 114, 121]⟩, .string ⟨#[99, 97, 116, 99, 104]⟩, .string ⟨#[116, 104, 114, 111, 119]⟩, .string ⟨#[114, 101, 116, 117, 114, 110]⟩, .string ⟨#[110, 101, 119]⟩, .string ⟨#[110, 117, 108, 108]⟩, .string ⟨#[116, 104, 105, 115]⟩, .string ⟨#[105, 110, 112, 117, 116]⟩, .string ⟨#[105, 110, 116]⟩]) (.int .i64 0)).run Tryd.prog w = .ok (.string ⟨#[99, 108, 97, 115, 115]⟩) w := by kernel_rfl
theorem kw_at1 (w : World) : (Instr.index 62 (.agg #[.string ⟨#[99, 108, 97, 115, 115]⟩, .string ⟨#[101, 120, 116, 101, 110, 100, 115]⟩, .string ⟨#[118, 97, 114]⟩, .string ⟨#[100, 101, 102]⟩, .string ⟨#[115, 116, 97, 116, 105, 99]⟩, .string ⟨#[105, 102]⟩, .string ⟨#[101, 108, 115, 101]⟩, .string ⟨#[119, 104, 105, 108, 101]⟩, .string ⟨#[116, 114, 121]⟩, .string ⟨#[99, 97, 116, 99, 104]⟩, .string ⟨#[116, 104, 114, 111, 119]⟩, .string ⟨#[114, 101, 116, 117, 114, 110]⟩, .string ⟨#[110, 101, 119]⟩, .string ⟨#[110, 117, 108, 108]⟩, .string ⟨#[116, 104, 105, 115]⟩, .string ⟨#[105, 110, 112, 117, 116]⟩, .string ⟨#[105, 110, 116]⟩]) (.int .i64 1)).run Tryd.prog w = .ok (.string ⟨#[101, 120, 116, 101, 110, 100, 115]⟩) w := by kernel_rfl
theorem kw_at2 (w : World) : (Instr.index 62 (.agg #[.string ⟨#[99, 108, 97, 115, 115]⟩, .string ⟨#[101, 120, 116, 101, 110, 100, 115]⟩, .string ⟨#[118, 97, 114]⟩, .string ⟨#[100, 101, 102]⟩, .string ⟨#[115, 116, 97, 116, 105, 99]⟩, .string ⟨#[105, 102]⟩, .string ⟨#[101, 108, 115, 101]⟩, .string ⟨#[119, 104, 105, 108, 101]⟩, .string ⟨#[116, 114, 121]⟩, .string ⟨#[99, 97, 116, 99, 104]⟩, .string ⟨#[116, 104, 114, 111, 119]⟩, .string ⟨#[114, 101, 116, 117, 114, 110]⟩, .string ⟨#[110, 101, 119]⟩, .string ⟨#[110, 117, 108, 108]⟩, .string ⟨#[116, 104, 105, 115]⟩, .string ⟨#[105, 110, 112, 117, 116]⟩, .string ⟨#[105, 110, 116]⟩]) (.int .i64 2)).run Tryd.prog w = .ok (.string ⟨#[118, 97, 114]⟩) w := by kernel_rfl
theorem kw_at3 (w : World) : (Instr.index 62 (.agg #[.string ⟨#[99, 108, 97, 115, 115]⟩, .string ⟨#[101, 120, 116, 101, 110, 100, 115]⟩, .string ⟨#[118, 97, 114]⟩, .string ⟨#[100, 101, 102]⟩, .string ⟨#[115, 116, 97, 116, 105, 99]⟩, .string ⟨#[105, 102]⟩, .string ⟨#[101, 108, 115, 101]⟩, .string ⟨#[119, 104, 105, 108, 101]⟩, .string ⟨#[116, 114, 121]⟩, .string ⟨#[99, 97, 116, 99, 104]⟩, .string ⟨#[116, 104, 114, 111, 119]⟩, .string ⟨#[114, 101, 116, 117, 114, 110]⟩, .string ⟨#[110, 101, 119]⟩, .string ⟨#[110, 117, 108, 108]⟩, .string ⟨#[116, 104, 105, 115]⟩, .string ⟨#[105, 110, 112, 117, 116]⟩, .string ⟨#[105, 110, 116]⟩]) (.int .i64 3)).run Tryd.prog w = .ok (.string ⟨#[100, 101, 102]⟩) w := by kernel_rfl
theorem kw_at4 (w : World) : (Instr.index 62 (.agg #[.string ⟨#[99, 108, 97, 115, 115]⟩, .string ⟨#[101, 120, 116, 101, 110, 100, 115]⟩, .string ⟨#[118, 97, 114]⟩, .string ⟨#[100, 101, 102]⟩, .string ⟨#[115, 116, 97, 116, 105, 99]⟩, .string ⟨#[105, 102]⟩, .string ⟨#[101, 108, 115, 101]⟩, .string ⟨#[119, 104, 105, 108, 101]⟩, .string ⟨#[116, 114, 121]⟩, .string ⟨#[99, 97, 116, 99, 104]⟩, .string ⟨#[116, 104, 114, 111, 119]⟩, .string ⟨#[114, 101, 116, 117, 114, 110]⟩, .string ⟨#[110, 101, 119]⟩, .string ⟨#[110, 117, 108, 108]⟩, .string ⟨#[116, 104, 105, 115]⟩, .string ⟨#[105, 110, 112, 117, 116]⟩, .string ⟨#[105, 110, 116]⟩]) (.int .i64 4)).run Tryd.prog w = .ok (.string ⟨#[115, 116, 97, 116, 105, 99]⟩) w := by kernel_rfl
theorem kw_at5 (w : World) : (Instr.index 62 (.agg #[.string ⟨#[99, 108, 97, 115, 115]⟩, .string ⟨#[101, 120, 116, 101, 110, 100, 115]⟩, .string ⟨#[118, 97, 114]⟩, .string ⟨#[100, 101, 102]⟩, .string ⟨#[115, 116, 97, 116, 105, 99]⟩, .string ⟨#[105, 102]⟩, .string ⟨#[101, 108, 115, 101]⟩, .string ⟨#[119, 104, 105, 108, 101]⟩, .string ⟨#[116, 114, 121]⟩, .string ⟨#[99, 97, 116, 99, 104]⟩, .string ⟨#[116, 104, 114, 111, 119]⟩, .string ⟨#[114, 101, 116, 117, 114, 110]⟩, .string ⟨#[110, 101, 119]⟩, .string ⟨#[110, 117, 108, 108]⟩, .string ⟨#[116, 104, 105, 115]⟩, .string ⟨#[105, 110, 112, 117, 116]⟩, .string ⟨#[105, 110, 116]⟩]) (.int .i64 5)).run Tryd.prog w = .ok (.string ⟨#[105, 102]⟩) w := by kernel_rfl
theorem kw_at6 (w : World) : (Instr.index 62 (.agg #[.string ⟨#[99, 108, 97, 115, 115]⟩, .string ⟨#[101, 120, 116, 101, 110, 100, 115]⟩, .string ⟨#[118, 97, 114]⟩, .string ⟨#[100, 101, 102]⟩, .string ⟨#[115, 116, 97, 116, 105, 99]⟩, .string ⟨#[105, 102]⟩, .string ⟨#[101, 108, 115, 101]⟩, .string ⟨#[119, 104, 105, 108, 101]⟩, .string ⟨#[116, 114, 121]⟩, .string ⟨#[99, 97, 116, 99, 104]⟩, .string ⟨#[116, 104, 114, 111, 119]⟩, .string ⟨#[114, 101, 116, 117, 114, 110]⟩, .string ⟨#[110, 101, 119]⟩, .string ⟨#[110, 117, 108, 108]⟩, .string ⟨#[116, 104, 105, 115]⟩, .string ⟨#[105, 110, 112, 117, 116]⟩, .string ⟨#[105, 110, 116]⟩]) (.int .i64 6)).run Tryd.prog w = .ok (.string ⟨#[101, 108, 115, 101]⟩) w := by kernel_rfl
theorem kw_at7 (w : World) : (Instr.index 62 (.agg #[.string ⟨#[99, 108, 97, 115, 115]⟩, .string ⟨#[101, 120, 116, 101, 110, 100, 115]⟩, .string ⟨#[118, 97, 114]⟩, .string ⟨#[100, 101, 102]⟩, .string ⟨#[115, 116, 97, 116, 105, 99]⟩, .string ⟨#[105, 102]⟩, .string ⟨#[101, 108, 115, 101]⟩, .string ⟨#[119, 104, 105, 108, 101]⟩, .string ⟨#[116, 114, 121]⟩, .string ⟨#[99, 97, 116, 99, 104]⟩, .string ⟨#[116, 104, 114, 111, 119]⟩, .string ⟨#[114, 101, 116, 117, 114, 110]⟩, .string ⟨#[110, 101, 119]⟩, .string ⟨#[110, 117, 108, 108]⟩, .string ⟨#[116, 104, 105, 115]⟩, .string ⟨#[105, 110, 112, 117, 116]⟩, .string ⟨#[105, 110, 116]⟩]) (.int .i64 7)).run Tryd.prog w = .ok (.string ⟨#[119, 104, 105, 108, 101]⟩) w := by kernel_rfl
theorem kw_at8 (w : World) : (Instr.index 62 (.agg #[.string ⟨#[99, 108, 97, 115, 115]⟩, .string ⟨#[101, 120, 116, 101, 110, 100, 115]⟩, .string ⟨#[118, 97, 114]⟩, .string ⟨#[100, 101, 102]⟩, .string ⟨#[115, 116, 97, 116, 105, 99]⟩, .string ⟨#[105, 102]⟩, .string ⟨#[101, 108, 115, 101]⟩, .string ⟨#[119, 104, 105, 108, 101]⟩, .string ⟨#[116, 114, 121]⟩, .string ⟨#[99, 97, 116, 99, 104]⟩, .string ⟨#[116, 104, 114, 111, 119]⟩, .string ⟨#[114, 101, 116, 117, 114, 110]⟩, .string ⟨#[110, 101, 119]⟩, .string ⟨#[110, 117, 108, 108]⟩, .string ⟨#[116, 104, 105, 115]⟩, .string ⟨#[105, 110, 112, 117, 116]⟩, .string ⟨#[105, 110, 116]⟩]) (.int .i64 8)).run Tryd.prog w = .ok (.string ⟨#[116, 114, 121]⟩) w := by kernel_rfl
theorem kw_at9 (w : World) : (Instr.index 62 (.agg #[.string ⟨#[99, 108, 97, 115, 115]⟩, .string ⟨#[101, 120, 116, 101, 110, 100, 115]⟩, .string ⟨#[118, 97, 114]⟩, .string ⟨#[100, 101, 102]⟩, .string ⟨#[115, 116, 97, 116, 105, 99]⟩, .string ⟨#[105, 102]⟩, .string ⟨#[101, 108, 115, 101]⟩, .string ⟨#[119, 104, 105, 108, 101]⟩, .string ⟨#[116, 114, 121]⟩, .string ⟨#[99, 97, 116, 99, 104]⟩, .string ⟨#[116, 104, 114, 111, 119]⟩, .string ⟨#[114, 101, 116, 117, 114, 110]⟩, .string ⟨#[110, 101, 119]⟩, .string ⟨#[110, 117, 108, 108]⟩, .string ⟨#[116, 104, 105, 115]⟩, .string ⟨#[105, 110, 112, 117, 116]⟩, .string ⟨#[105, 110, 116]⟩]) (.int .i64 9)).run Tryd.prog w = .ok (.string ⟨#[99, 97, 116, 99, 104]⟩) w := by kernel_rfl
theorem kw_at10 (w : World) : (Instr.index 62 (.agg #[.string ⟨#[99, 108, 97, 115, 115]⟩, .string ⟨#[101, 120, 116, 101, 110, 100, 115]⟩, .string ⟨#[118, 97, 114]⟩, .string ⟨#[100, 101, 102]⟩, .string ⟨#[115, 116, 97, 116, 105, 99]⟩, .string ⟨#[105, 102]⟩, .string ⟨#[101, 108, 115, 101]⟩, .string ⟨#[119, 104, 105, 108, 101]⟩, .string ⟨#[116, 114, 121]⟩, .string ⟨#[99, 97, 116, 99, 104]⟩, .string ⟨#[116, 104, 114, 111, 119]⟩, .string ⟨#[114, 101, 116, 117, 114, 110]⟩, .string ⟨#[110, 101, 119]⟩, .string ⟨#[110, 117, 108, 108]⟩, .string ⟨#[116, 104, 105, 115]⟩, .string ⟨#[105, 110, 112, 117, 116]⟩, .string ⟨#[105, 110, 116]⟩]) (.int .i64 10)).run Tryd.prog w = .ok (.string ⟨#[116, 104, 114, 111, 119]⟩) w := by kernel_rfl
theorem kw_at11 (w : World) : (Instr.index 62 (.agg #[.string ⟨#[99, 108, 97, 115, 115]⟩, .string ⟨#[101, 120, 116, 101, 110, 100, 115]⟩, .string ⟨#[118, 97, 114]⟩, .string ⟨#[100, 101, 102]⟩, .string ⟨#[115, 116, 97, 116, 105, 99]⟩, .string ⟨#[105, 102]⟩, .string ⟨#[101, 108, 115, 101]⟩, .string ⟨#[119, 104, 105, 108, 101]⟩, .string ⟨#[116, 114, 121]⟩, .string ⟨#[99, 97, 116, 99, 104]⟩, .string ⟨#[116, 104, 114, 111, 119]⟩, .string ⟨#[114, 101, 116, 117, 114, 110]⟩, .string ⟨#[110, 101, 119]⟩, .string ⟨#[110, 117, 108, 108]⟩, .string ⟨#[116, 104, 105, 115]⟩, .string ⟨#[105, 110, 112, 117, 116]⟩, .string ⟨#[105, 110, 116]⟩]) (.int .i64 11)).run Tryd.prog w = .ok (.string ⟨#[114, 101, 116, 117, 114, 110]⟩) w := by kernel_rfl
theorem kw_at12 (w : World) : (Instr.index 62 (.agg #[.string ⟨#[99, 108, 97, 115, 115]⟩, .string ⟨#[101, 120, 116, 101, 110, 100, 115]⟩, .string ⟨#[118, 97, 114]⟩, .string ⟨#[100, 101, 102]⟩, .string ⟨#[115, 116, 97, 116, 105, 99]⟩, .string ⟨#[105, 102]⟩, .string ⟨#[101, 108, 115, 101]⟩, .string ⟨#[119, 104, 105, 108, 101]⟩, .string ⟨#[116, 114, 121]⟩, .string ⟨#[99, 97, 116, 99, 104]⟩, .string ⟨#[116, 104, 114, 111, 119]⟩, .string ⟨#[114, 101, 116, 117, 114, 110]⟩, .string ⟨#[110, 101, 119]⟩, .string ⟨#[110, 117, 108, 108]⟩, .string ⟨#[116, 104, 105, 115]⟩, .string ⟨#[105, 110, 112, 117, 116]⟩, .string ⟨#[105, 110, 116]⟩]) (.int .i64 12)).run Tryd.prog w = .ok (.string ⟨#[110, 101, 119]⟩) w := by kernel_rfl
theorem kw_at13 (w : World) : (Instr.index 62 (.agg #[.string ⟨#[99, 108, 97, 115, 115]⟩, .string ⟨#[101, 120, 116, 101, 110, 100, 115]⟩, .string ⟨#[118, 97, 114]⟩, .string ⟨#[100, 101, 102]⟩, .string ⟨#[115, 116, 97, 116, 105, 99]⟩, .string ⟨#[105, 102]⟩, .string ⟨#[101, 108, 115, 101]⟩, .string ⟨#[119, 104, 105, 108, 101]⟩, .string ⟨#[116, 114, 121]⟩, .string ⟨#[99, 97, 116, 99, 104]⟩, .string ⟨#[116, 104, 114, 111, 119]⟩, .string ⟨#[114, 101, 116, 117, 114, 110]⟩, .string ⟨#[110, 101, 119]⟩, .string ⟨#[110, 117, 108, 108]⟩, .string ⟨#[116, 104, 105, 115]⟩, .string ⟨#[105, 110, 112, 117, 116]⟩, .string ⟨#[105, 110, 116]⟩]) (.int .i64 13)).run Tryd.prog w = .ok (.string ⟨#[110, 117, 108, 108]⟩) w := by kernel_rfl
theorem kw_at14 (w : World) : (Instr.index 62 (.agg #[.string ⟨#[99, 108, 97, 115, 115]⟩, .string ⟨#[101, 120, 116, 101, 110, 100, 115]⟩, .string ⟨#[118, 97, 114]⟩, .string ⟨#[100, 101, 102]⟩, .string ⟨#[115, 116, 97, 116, 105, 99]⟩, .string ⟨#[105, 102]⟩, .string ⟨#[101, 108, 115, 101]⟩, .string ⟨#[119, 104, 105, 108, 101]⟩, .string ⟨#[116, 114, 121]⟩, .string ⟨#[99, 97, 116, 99, 104]⟩, .string ⟨#[116, 104, 114, 111, 119]⟩, .string ⟨#[114, 101, 116, 117, 114, 110]⟩, .string ⟨#[110, 101, 119]⟩, .string ⟨#[110, 117, 108, 108]⟩, .string ⟨#[116, 104, 105, 115]⟩, .string ⟨#[105, 110, 112, 117, 116]⟩, .string ⟨#[105, 110, 116]⟩]) (.int .i64 14)).run Tryd.prog w = .ok (.string ⟨#[116, 104, 105, 115]⟩) w := by kernel_rfl
theorem kw_at15 (w : World) : (Instr.index 62 (.agg #[.string ⟨#[99, 108, 97, 115, 115]⟩, .string ⟨#[101, 120, 116, 101, 110, 100, 115]⟩, .string ⟨#[118, 97, 114]⟩, .string ⟨#[100, 101, 102]⟩, .string ⟨#[115, 116, 97, 116, 105, 99]⟩, .string ⟨#[105, 102]⟩, .string ⟨#[101, 108, 115, 101]⟩, .string ⟨#[119, 104, 105, 108, 101]⟩, .string ⟨#[116, 114, 121]⟩, .string ⟨#[99, 97, 116, 99, 104]⟩, .string ⟨#[116, 104, 114, 111, 119]⟩, .string ⟨#[114, 101, 116, 117, 114, 110]⟩, .string ⟨#[110, 101, 119]⟩, .string ⟨#[110, 117, 108, 108]⟩, .string ⟨#[116, 104, 105, 115]⟩, .string ⟨#[105, 110, 112, 117, 116]⟩, .string ⟨#[105, 110, 116]⟩]) (.int .i64 15)).run Tryd.prog w = .ok (.string ⟨#[105, 110, 112, 117, 116]⟩) w := by kernel_rfl
theorem kw_at16 (w : World) : (Instr.index 62 (.agg #[.string ⟨#[99, 108, 97, 115, 115]⟩, .string ⟨#[101, 120, 116, 101, 110, 100, 115]⟩, .string ⟨#[118, 97, 114]⟩, .string ⟨#[100, 101, 102]⟩, .string ⟨#[115, 116, 97, 116, 105, 99]⟩, .string ⟨#[105, 102]⟩, .string ⟨#[101, 108, 115, 101]⟩, .string ⟨#[119, 104, 105, 108, 101]⟩, .string ⟨#[116, 114, 121]⟩, .string ⟨#[99, 97, 116, 99, 104]⟩, .string ⟨#[116, 104, 114, 111, 119]⟩, .string ⟨#[114, 101, 116, 117, 114, 110]⟩, .string ⟨#[110, 101, 119]⟩, .string ⟨#[110, 117, 108, 108]⟩, .string ⟨#[116, 104, 105, 115]⟩, .string ⟨#[105, 110, 112, 117, 116]⟩, .string ⟨#[105, 110, 116]⟩]) (.int .i64 16)).run Tryd.prog w = .ok (.string ⟨#[105, 110, 116]⟩) w := by kernel_rfl

set_option maxHeartbeats 8000000 in
set_option maxRecDepth 100000 in
theorem word_any (s : ByteArray) (w : World) (hM : Kw w) (hs : s.size ≤ maxLen) : Calls Tryd.prog 38 #[.string s] w (WordEnd s w) := by
  unfold maxLen at hs
  have hb : Below w.heap.size w (w.alloc (.cells #[.int .i64 0, .int .i64 0, .string ⟨#[]⟩, .int .i64 0] 30)) := (Below.refl _ _).alloc (Nat.le_refl _) _
  have hM1 := hM.below hb (Nat.le_refl _)
  have m0 := hM1.cell 0 (by decide)
  have m1 := hM1.cell 1 (by decide)
  have m2 := hM1.cell 2 (by decide)
  have m3 := hM1.cell 3 (by decide)
  have m4 := hM1.cell 4 (by decide)
  have m5 := hM1.cell 5 (by decide)
  have m6 := hM1.cell 6 (by decide)
  have m7 := hM1.cell 7 (by decide)
  have m8 := hM1.cell 8 (by decide)
  have m9 := hM1.cell 9 (by decide)
  have m10 := hM1.cell 10 (by decide)
  have m11 := hM1.cell 11 (by decide)
  have m12 := hM1.cell 12 (by decide)
  have m13 := hM1.cell 13 (by decide)
  have m14 := hM1.cell 14 (by decide)
  have m15 := hM1.cell 15 (by decide)
  have m16 := hM1.cell 16 (by decide)
  simp only [kwB, List.getElem_cons_zero, List.getElem_cons_succ] at m0 m1 m2 m3 m4 m5 m6 m7 m8 m9 m10 m11 m12 m13 m14 m15 m16
  have i0 := kw_at0
  have i1 := kw_at1
  have i2 := kw_at2
  have i3 := kw_at3
  have i4 := kw_at4
  have i5 := kw_at5
  have i6 := kw_at6
  have i7 := kw_at7
  have i8 := kw_at8
  have i9 := kw_at9
  have i10 := kw_at10
  have i11 := kw_at11
  have i12 := kw_at12
  have i13 := kw_at13
  have i14 := kw_at14
  have i15 := kw_at15
  have i16 := kw_at16
  clear hb hM hM1
  by_cases hbig : 32 < s.size
  · go_enter Tryd.func38, Tryd.ntmps38
    go_wp2
    refine bodyPost_ret (v := .tuple #[.agg #[.int .i64 0, .int .i64 0, .string ⟨#[]⟩, .int .i64 0], .int .i64 3]) (by simp [results, Tryd.results38, go_sem]) rfl ?_
    exact ⟨by repeat (first | exact (Below.refl _ _).alloc (Nat.le_refl _) _ | refine Below.setCell ?_ (Nat.le_refl _) _), .inl ⟨hbig, rfl⟩⟩
  · have Hle : Hid (s.size ≤ 32) := by show _ ≤ _; omega
    have hbig2 : decide (32 < s.size) = false := by simpa using hbig
    go_enter Tryd.func38, Tryd.ntmps38
    go_wp2
    go_loopw [11] (fun i W => ∃ k : Nat, k ≤ 17 ∧ i = .int .i64 k ∧ (∀ i, i < k → isKw s i = false) ∧ W = w.alloc (.cells #[.int .i64 0, .int .i64 0, .string ⟨#[]⟩, .int .i64 0] 30)) (fun i _ => 17 - (intOf i).toNat)
    case atStart => exact ⟨0, by decide, rfl, fun i hi => by omega, rfl⟩
    case round =>
      obtain ⟨k, hk, rfl, hpre, rfl⟩ := hrel
      by_cases hlt : k < 17
      · rcases (show k = 0 ∨ k = 1 ∨ k = 2 ∨ k = 3 ∨ k = 4 ∨ k = 5 ∨ k = 6 ∨ k = 7 ∨ k = 8 ∨ k = 9 ∨ k = 10 ∨ k = 11 ∨ k = 12 ∨ k = 13 ∨ k = 14 ∨ k = 15 ∨ k = 16 by omega) with hkJ | hkJ | hkJ | hkJ | hkJ | hkJ | hkJ | hkJ | hkJ | hkJ | hkJ | hkJ | hkJ | hkJ | hkJ | hkJ | hkJ
        · rw [hkJ] at hpre
          have hz : (k : Int) = 0 := by omega
          rw [hz]
          clear hz hkJ hlt hk
          cases hp : isKw s 0 with
          | true =>
            have hq : (s.toList == [99, 108, 97, 115, 115]) = true := hp
            have Hp := Lib.hid hp
            have Hpre := Lib.hid hpre
            clear hp hpre
            go_wp2
            refine bodyPost_ret (v := .tuple #[.agg #[.int .i64 2, .int .i64 0, .string s, .int .i64 0], .int .i64 0]) (by simp [results, Tryd.results38, go_sem]) rfl ?_
            exact ⟨by repeat (first | exact (Below.refl _ _).alloc (Nat.le_refl _) _ | refine Below.setCell ?_ (Nat.le_refl _) _), .inr (.inl ⟨Hle.out, ⟨0, by decide, Hp.out⟩, rfl⟩)⟩
          | false =>
            have hq : (s.toList == [99, 108, 97, 115, 115]) = false := hp
            have hpre2 := Lib.hid (isKw_next (k := 0) hpre hp)
            clear hp hpre
            go_wp2
            go_roundw
            case rel => exact ⟨1, by decide, rfl, hpre2.out, by first | rfl | trivial⟩
            case measure => simp [intOf]
        · rw [hkJ] at hpre
          have hz : (k : Int) = 1 := by omega
          rw [hz]
          clear hz hkJ hlt hk
          cases hp : isKw s 1 with
          | true =>
            have hq : (s.toList == [101, 120, 116, 101, 110, 100, 115]) = true := hp
            have Hp := Lib.hid hp
            have Hpre := Lib.hid hpre
            clear hp hpre
            go_wp2
            refine bodyPost_ret (v := .tuple #[.agg #[.int .i64 2, .int .i64 0, .string s, .int .i64 0], .int .i64 0]) (by simp [results, Tryd.results38, go_sem]) rfl ?_
            exact ⟨by repeat (first | exact (Below.refl _ _).alloc (Nat.le_refl _) _ | refine Below.setCell ?_ (Nat.le_refl _) _), .inr (.inl ⟨Hle.out, ⟨1, by decide, Hp.out⟩, rfl⟩)⟩
          | false =>
            have hq : (s.toList == [101, 120, 116, 101, 110, 100, 115]) = false := hp
            have hpre2 := Lib.hid (isKw_next (k := 1) hpre hp)
            clear hp hpre
            go_wp2
            go_roundw
            case rel => exact ⟨2, by decide, rfl, hpre2.out, by first | rfl | trivial⟩
            case measure => simp [intOf]
        · rw [hkJ] at hpre
          have hz : (k : Int) = 2 := by omega
          rw [hz]
          clear hz hkJ hlt hk
          cases hp : isKw s 2 with
          | true =>
            have hq : (s.toList == [118, 97, 114]) = true := hp
            have Hp := Lib.hid hp
            have Hpre := Lib.hid hpre
            clear hp hpre
            go_wp2
            refine bodyPost_ret (v := .tuple #[.agg #[.int .i64 2, .int .i64 0, .string s, .int .i64 0], .int .i64 0]) (by simp [results, Tryd.results38, go_sem]) rfl ?_
            exact ⟨by repeat (first | exact (Below.refl _ _).alloc (Nat.le_refl _) _ | refine Below.setCell ?_ (Nat.le_refl _) _), .inr (.inl ⟨Hle.out, ⟨2, by decide, Hp.out⟩, rfl⟩)⟩
          | false =>
            have hq : (s.toList == [118, 97, 114]) = false := hp
            have hpre2 := Lib.hid (isKw_next (k := 2) hpre hp)
            clear hp hpre
            go_wp2
            go_roundw
            case rel => exact ⟨3, by decide, rfl, hpre2.out, by first | rfl | trivial⟩
            case measure => simp [intOf]
        · rw [hkJ] at hpre
          have hz : (k : Int) = 3 := by omega
          rw [hz]
          clear hz hkJ hlt hk
          cases hp : isKw s 3 with
          | true =>
            have hq : (s.toList == [100, 101, 102]) = true := hp
            have Hp := Lib.hid hp
            have Hpre := Lib.hid hpre
            clear hp hpre
            go_wp2
            refine bodyPost_ret (v := .tuple #[.agg #[.int .i64 2, .int .i64 0, .string s, .int .i64 0], .int .i64 0]) (by simp [results, Tryd.results38, go_sem]) rfl ?_
            exact ⟨by repeat (first | exact (Below.refl _ _).alloc (Nat.le_refl _) _ | refine Below.setCell ?_ (Nat.le_refl _) _), .inr (.inl ⟨Hle.out, ⟨3, by decide, Hp.out⟩, rfl⟩)⟩
          | false =>
            have hq : (s.toList == [100, 101, 102]) = false := hp
            have hpre2 := Lib.hid (isKw_next (k := 3) hpre hp)
            clear hp hpre
            go_wp2
            go_roundw
            case rel => exact ⟨4, by decide, rfl, hpre2.out, by first | rfl | trivial⟩
            case measure => simp [intOf]
        · rw [hkJ] at hpre
          have hz : (k : Int) = 4 := by omega
          rw [hz]
          clear hz hkJ hlt hk
          cases hp : isKw s 4 with
          | true =>
            have hq : (s.toList == [115, 116, 97, 116, 105, 99]) = true := hp
            have Hp := Lib.hid hp
            have Hpre := Lib.hid hpre
            clear hp hpre
            go_wp2
            refine bodyPost_ret (v := .tuple #[.agg #[.int .i64 2, .int .i64 0, .string s, .int .i64 0], .int .i64 0]) (by simp [results, Tryd.results38, go_sem]) rfl ?_
            exact ⟨by repeat (first | exact (Below.refl _ _).alloc (Nat.le_refl _) _ | refine Below.setCell ?_ (Nat.le_refl _) _), .inr (.inl ⟨Hle.out, ⟨4, by decide, Hp.out⟩, rfl⟩)⟩
          | false =>
            have hq : (s.toList == [115, 116, 97, 116, 105, 99]) = false := hp
            have hpre2 := Lib.hid (isKw_next (k := 4) hpre hp)
            clear hp hpre
            go_wp2
            go_roundw
            case rel => exact ⟨5, by decide, rfl, hpre2.out, by first | rfl | trivial⟩
            case measure => simp [intOf]
        · rw [hkJ] at hpre
          have hz : (k : Int) = 5 := by omega
          rw [hz]
          clear hz hkJ hlt hk
          cases hp : isKw s 5 with
          | true =>
            have hq : (s.toList == [105, 102]) = true := hp
            have Hp := Lib.hid hp
            have Hpre := Lib.hid hpre
            clear hp hpre
            go_wp2
            refine bodyPost_ret (v := .tuple #[.agg #[.int .i64 2, .int .i64 0, .string s, .int .i64 0], .int .i64 0]) (by simp [results, Tryd.results38, go_sem]) rfl ?_
            exact ⟨by repeat (first | exact (Below.refl _ _).alloc (Nat.le_refl _) _ | refine Below.setCell ?_ (Nat.le_refl _) _), .inr (.inl ⟨Hle.out, ⟨5, by decide, Hp.out⟩, rfl⟩)⟩
          | false =>
            have hq : (s.toList == [105, 102]) = false := hp
            have hpre2 := Lib.hid (isKw_next (k := 5) hpre hp)
            clear hp hpre
            go_wp2
            go_roundw
            case rel => exact ⟨6, by decide, rfl, hpre2.out, by first | rfl | trivial⟩
            case measure => simp [intOf]
        · rw [hkJ] at hpre
          have hz : (k : Int) = 6 := by omega
          rw [hz]
          clear hz hkJ hlt hk
          cases hp : isKw s 6 with
          | true =>
            have hq : (s.toList == [101, 108, 115, 101]) = true := hp
            have Hp := Lib.hid hp
            have Hpre := Lib.hid hpre
            clear hp hpre
            go_wp2
            refine bodyPost_ret (v := .tuple #[.agg #[.int .i64 2, .int .i64 0, .string s, .int .i64 0], .int .i64 0]) (by simp [results, Tryd.results38, go_sem]) rfl ?_
            exact ⟨by repeat (first | exact (Below.refl _ _).alloc (Nat.le_refl _) _ | refine Below.setCell ?_ (Nat.le_refl _) _), .inr (.inl ⟨Hle.out, ⟨6, by decide, Hp.out⟩, rfl⟩)⟩
          | false =>
            have hq : (s.toList == [101, 108, 115, 101]) = false := hp
            have hpre2 := Lib.hid (isKw_next (k := 6) hpre hp)
            clear hp hpre
            go_wp2
            go_roundw
            case rel => exact ⟨7, by decide, rfl, hpre2.out, by first | rfl | trivial⟩
            case measure => simp [intOf]
        · rw [hkJ] at hpre
          have hz : (k : Int) = 7 := by omega
          rw [hz]
          clear hz hkJ hlt hk
          cases hp : isKw s 7 with
          | true =>
            have hq : (s.toList == [119, 104, 105, 108, 101]) = true := hp
            have Hp := Lib.hid hp
            have Hpre := Lib.hid hpre
            clear hp hpre
            go_wp2
            refine bodyPost_ret (v := .tuple #[.agg #[.int .i64 2, .int .i64 0, .string s, .int .i64 0], .int .i64 0]) (by simp [results, Tryd.results38, go_sem]) rfl ?_
            exact ⟨by repeat (first | exact (Below.refl _ _).alloc (Nat.le_refl _) _ | refine Below.setCell ?_ (Nat.le_refl _) _), .inr (.inl ⟨Hle.out, ⟨7, by decide, Hp.out⟩, rfl⟩)⟩
          | false =>
            have hq : (s.toList == [119, 104, 105, 108, 101]) = false := hp
            have hpre2 := Lib.hid (isKw_next (k := 7) hpre hp)
            clear hp hpre
            go_wp2
            go_roundw
            case rel => exact ⟨8, by decide, rfl, hpre2.out, by first | rfl | trivial⟩
            case measure => simp [intOf]
        · rw [hkJ] at hpre
          have hz : (k : Int) = 8 := by omega
          rw [hz]
          clear hz hkJ hlt hk
          cases hp : isKw s 8 with
          | true =>
            have hq : (s.toList == [116, 114, 121]) = true := hp
            have Hp := Lib.hid hp
            have Hpre := Lib.hid hpre
            clear hp hpre
            go_wp2
            refine bodyPost_ret (v := .tuple #[.agg #[.int .i64 2, .int .i64 0, .string s, .int .i64 0], .int .i64 0]) (by simp [results, Tryd.results38, go_sem]) rfl ?_
            exact ⟨by repeat (first | exact (Below.refl _ _).alloc (Nat.le_refl _) _ | refine Below.setCell ?_ (Nat.le_refl _) _), .inr (.inl ⟨Hle.out, ⟨8, by decide, Hp.out⟩, rfl⟩)⟩
          | false =>
            have hq : (s.toList == [116, 114, 121]) = false := hp
            have hpre2 := Lib.hid (isKw_next (k := 8) hpre hp)
            clear hp hpre
            go_wp2
            go_roundw
            case rel => exact ⟨9, by decide, rfl, hpre2.out, by first | rfl | trivial⟩
            case measure => simp [intOf]
        · rw [hkJ] at hpre
          have hz : (k : Int) = 9 := by omega
          rw [hz]
          clear hz hkJ hlt hk
          cases hp : isKw s 9 with
          | true =>
            have hq : (s.toList == [99, 97, 116, 99, 104]) = true := hp
            have Hp := Lib.hid hp
            have Hpre := Lib.hid hpre
            clear hp hpre
            go_wp2
            refine bodyPost_ret (v := .tuple #[.agg #[.int .i64 2, .int .i64 0, .string s, .int .i64 0], .int .i64 0]) (by simp [results, Tryd.results38, go_sem]) rfl ?_
            exact ⟨by repeat (first | exact (Below.refl _ _).alloc (Nat.le_refl _) _ | refine Below.setCell ?_ (Nat.le_refl _) _), .inr (.inl ⟨Hle.out, ⟨9, by decide, Hp.out⟩, rfl⟩)⟩
          | false =>
            have hq : (s.toList == [99, 97, 116, 99, 104]) = false := hp
            have hpre2 := Lib.hid (isKw_next (k := 9) hpre hp)
            clear hp hpre
            go_wp2
            go_roundw
            case rel => exact ⟨10, by decide, rfl, hpre2.out, by first | rfl | trivial⟩
            case measure => simp [intOf]
        · rw [hkJ] at hpre
          have hz : (k : Int) = 10 := by omega
          rw [hz]
          clear hz hkJ hlt hk
          cases hp : isKw s 10 with
          | true =>
            have hq : (s.toList == [116, 104, 114, 111, 119]) = true := hp
            have Hp := Lib.hid hp
            have Hpre := Lib.hid hpre
            clear hp hpre
            go_wp2
            refine bodyPost_ret (v := .tuple #[.agg #[.int .i64 2, .int .i64 0, .string s, .int .i64 0], .int .i64 0]) (by simp [results, Tryd.results38, go_sem]) rfl ?_
            exact ⟨by repeat (first | exact (Below.refl _ _).alloc (Nat.le_refl _) _ | refine Below.setCell ?_ (Nat.le_refl _) _), .inr (.inl ⟨Hle.out, ⟨10, by decide, Hp.out⟩, rfl⟩)⟩
          | false =>
            have hq : (s.toList == [116, 104, 114, 111, 119]) = false := hp
            have hpre2 := Lib.hid (isKw_next (k := 10) hpre hp)
            clear hp hpre
            go_wp2
            go_roundw
            case rel => exact ⟨11, by decide, rfl, hpre2.out, by first | rfl | trivial⟩
            case measure => simp [intOf]
        · rw [hkJ] at hpre
          have hz : (k : Int) = 11 := by omega
          rw [hz]
          clear hz hkJ hlt hk
          cases hp : isKw s 11 with
          | true =>
            have hq : (s.toList == [114, 101, 116, 117, 114, 110]) = true := hp
            have Hp := Lib.hid hp
            have Hpre := Lib.hid hpre
            clear hp hpre
            go_wp2
            refine bodyPost_ret (v := .tuple #[.agg #[.int .i64 2, .int .i64 0, .string s, .int .i64 0], .int .i64 0]) (by simp [results, Tryd.results38, go_sem]) rfl ?_
            exact ⟨by repeat (first | exact (Below.refl _ _).alloc (Nat.le_refl _) _ | refine Below.setCell ?_ (Nat.le_refl _) _), .inr (.inl ⟨Hle.out, ⟨11, by decide, Hp.out⟩, rfl⟩)⟩
          | false =>
            have hq : (s.toList == [114, 101, 116, 117, 114, 110]) = false := hp
            have hpre2 := Lib.hid (isKw_next (k := 11) hpre hp)
            clear hp hpre
            go_wp2
            go_roundw
            case rel => exact ⟨12, by decide, rfl, hpre2.out, by first | rfl | trivial⟩
            case measure => simp [intOf]
        · rw [hkJ] at hpre
          have hz : (k : Int) = 12 := by omega
          rw [hz]
          clear hz hkJ hlt hk
          cases hp : isKw s 12 with
          | true =>
            have hq : (s.toList == [110, 101, 119]) = true := hp
            have Hp := Lib.hid hp
            have Hpre := Lib.hid hpre
            clear hp hpre
            go_wp2
            refine bodyPost_ret (v := .tuple #[.agg #[.int .i64 2, .int .i64 0, .string s, .int .i64 0], .int .i64 0]) (by simp [results, Tryd.results38, go_sem]) rfl ?_
            exact ⟨by repeat (first | exact (Below.refl _ _).alloc (Nat.le_refl _) _ | refine Below.setCell ?_ (Nat.le_refl _) _), .inr (.inl ⟨Hle.out, ⟨12, by decide, Hp.out⟩, rfl⟩)⟩
          | false =>
            have hq : (s.toList == [110, 101, 119]) = false := hp
            have hpre2 := Lib.hid (isKw_next (k := 12) hpre hp)
            clear hp hpre
            go_wp2
            go_roundw
            case rel => exact ⟨13, by decide, rfl, hpre2.out, by first | rfl | trivial⟩
            case measure => simp [intOf]
        · rw [hkJ] at hpre
          have hz : (k : Int) = 13 := by omega
          rw [hz]
          clear hz hkJ hlt hk
          cases hp : isKw s 13 with
          | true =>
            have hq : (s.toList == [110, 117, 108, 108]) = true := hp
            have Hp := Lib.hid hp
            have Hpre := Lib.hid hpre
            clear hp hpre
            go_wp2
            refine bodyPost_ret (v := .tuple #[.agg #[.int .i64 2, .int .i64 0, .string s, .int .i64 0], .int .i64 0]) (by simp [results, Tryd.results38, go_sem]) rfl ?_
            exact ⟨by repeat (first | exact (Below.refl _ _).alloc (Nat.le_refl _) _ | refine Below.setCell ?_ (Nat.le_refl _) _), .inr (.inl ⟨Hle.out, ⟨13, by decide, Hp.out⟩, rfl⟩)⟩
          | false =>
            have hq : (s.toList == [110, 117, 108, 108]) = false := hp
            have hpre2 := Lib.hid (isKw_next (k := 13) hpre hp)
            clear hp hpre
            go_wp2
            go_roundw
            case rel => exact ⟨14, by decide, rfl, hpre2.out, by first | rfl | trivial⟩
            case measure => simp [intOf]
        · rw [hkJ] at hpre
          have hz : (k : Int) = 14 := by omega
          rw [hz]
          clear hz hkJ hlt hk
          cases hp : isKw s 14 with
          | true =>
            have hq : (s.toList == [116, 104, 105, 115]) = true := hp
            have Hp := Lib.hid hp
            have Hpre := Lib.hid hpre
            clear hp hpre
            go_wp2
            refine bodyPost_ret (v := .tuple #[.agg #[.int .i64 2, .int .i64 0, .string s, .int .i64 0], .int .i64 0]) (by simp [results, Tryd.results38, go_sem]) rfl ?_
            exact ⟨by repeat (first | exact (Below.refl _ _).alloc (Nat.le_refl _) _ | refine Below.setCell ?_ (Nat.le_refl _) _), .inr (.inl ⟨Hle.out, ⟨14, by decide, Hp.out⟩, rfl⟩)⟩
          | false =>
            have hq : (s.toList == [116, 104, 105, 115]) = false := hp
            have hpre2 := Lib.hid (isKw_next (k := 14) hpre hp)
            clear hp hpre
            go_wp2
            go_roundw
            case rel => exact ⟨15, by decide, rfl, hpre2.out, by first | rfl | trivial⟩
            case measure => simp [intOf]
        · rw [hkJ] at hpre
          have hz : (k : Int) = 15 := by omega
          rw [hz]
          clear hz hkJ hlt hk
          cases hp : isKw s 15 with
          | true =>
            have hq : (s.toList == [105, 110, 112, 117, 116]) = true := hp
            have Hp := Lib.hid hp
            have Hpre := Lib.hid hpre
            clear hp hpre
            go_wp2
            refine bodyPost_ret (v := .tuple #[.agg #[.int .i64 2, .int .i64 0, .string s, .int .i64 0], .int .i64 0]) (by simp [results, Tryd.results38, go_sem]) rfl ?_
            exact ⟨by repeat (first | exact (Below.refl _ _).alloc (Nat.le_refl _) _ | refine Below.setCell ?_ (Nat.le_refl _) _), .inr (.inl ⟨Hle.out, ⟨15, by decide, Hp.out⟩, rfl⟩)⟩
          | false =>
            have hq : (s.toList == [105, 110, 112, 117, 116]) = false := hp
            have hpre2 := Lib.hid (isKw_next (k := 15) hpre hp)
            clear hp hpre
            go_wp2
            go_roundw
            case rel => exact ⟨16, by decide, rfl, hpre2.out, by first | rfl | trivial⟩
            case measure => simp [intOf]
        · rw [hkJ] at hpre
          have hz : (k : Int) = 16 := by omega
          rw [hz]
          clear hz hkJ hlt hk
          cases hp : isKw s 16 with
          | true =>
            have hq : (s.toList == [105, 110, 116]) = true := hp
            have Hp := Lib.hid hp
            have Hpre := Lib.hid hpre
            clear hp hpre
            go_wp2
            refine bodyPost_ret (v := .tuple #[.agg #[.int .i64 2, .int .i64 0, .string s, .int .i64 0], .int .i64 0]) (by simp [results, Tryd.results38, go_sem]) rfl ?_
            exact ⟨by repeat (first | exact (Below.refl _ _).alloc (Nat.le_refl _) _ | refine Below.setCell ?_ (Nat.le_refl _) _), .inr (.inl ⟨Hle.out, ⟨16, by decide, Hp.out⟩, rfl⟩)⟩
          | false =>
            have hq : (s.toList == [105, 110, 116]) = false := hp
            have hpre2 := Lib.hid (isKw_next (k := 16) hpre hp)
            clear hp hpre
            go_wp2
            go_roundw
            case rel => exact ⟨17, by decide, rfl, hpre2.out, by first | rfl | trivial⟩
            case measure => simp [intOf]
      · obtain rfl : k = 17 := by omega
        have Hpre := Lib.hid hpre
        clear hpre
        go_wp2
        refine bodyPost_ret (v := .tuple #[.agg #[.int .i64 1, .int .i64 0, .string s, .int .i64 0], .int .i64 0]) (by simp [results, Tryd.results38, go_sem]) rfl ?_
        exact ⟨by repeat (first | exact (Below.refl _ _).alloc (Nat.le_refl _) _ | refine Below.setCell ?_ (Nat.le_refl _) _), .inr (.inr ⟨Hle.out, Hpre.out, rfl⟩)⟩
end Go.Proofs.YtmnfonhfbolnkaaDoor
