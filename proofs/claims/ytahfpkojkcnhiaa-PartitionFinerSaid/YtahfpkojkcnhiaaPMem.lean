/-
  Words for memory: a row of ints that a call has made.
-/
import Derived.Test.YtahfpkojkcnhiaaPCheck
import Derived.Laws.OwnMore
import Derived.Laws.Rows
namespace Go.Proofs.Ytahfpkojkcnhiaa
open Go.RowKit
set_option linter.unusedVariables false

theorem int_info : (Try.prog.info? 3).map (fun i => (i.zero, i.size, i.bytes)) = some (some (.int .i64 0), 1, 8) := by kernel_rfl

/-- The slice value at block g owns the ints zs. -/
def Row (w : World) (base g cap : Nat) (zs : List Int) : Prop :=
  w.ownsRow base 3 1 (.slice (some ⟨g, 0, none⟩) zs.length cap) zs.length (zs.map (Value.int .i64))

section
variable {w w' : World} {base g cap : Nat} {zs : List Int}
theorem Row.cell (h : Row w base g cap zs) {i : Nat} (hi : i < zs.length) : w.cell? ⟨g, i, none⟩ = some (.int .i64 (zs.getD i 0)) := by
  rw [World.ownsRow.cellAt h i (by omega)]
  simp [hi]
theorem Row.free (h : Row w base g cap zs) (i : Nat) : w.frozen? ⟨g, i, none⟩ = false := World.ownsRow.frozenAt h i
theorem Row.set (h : Row w base g cap zs) (i : Nat) (z : Int) : Row (w.setCell ⟨g, i, none⟩ (.int .i64 z)) base g cap (zs.set i z) := by
  have := (World.ownsRow.stored h i (.int .i64 z)).1
  unfold Row
  rw [List.length_set, List.map_set]
  exact this
theorem Row.drewN (h : Row w base g cap zs) (n : Nat) : Row (w.drewN n) base g cap zs := h
theorem Row.alloc (h : Row w base g cap zs) (o : Obj) : Row (w.alloc o) base g cap zs := World.ownsRow.alloc h o
theorem Row.kept {row : Option Nat} (h : Row w base g cap zs) (hg : w.grownBy w' row) (hne : some g ≠ row) : Row w' base g cap zs :=
  World.ownsRow.kept h hg (.inr (by simpa [Value.ownBlock] using hne))
theorem Row.below {B : Nat} (h : Row w base g cap zs) (hb : Below B w w') (hg : g < B) : Row w' base g cap zs := by
  obtain ⟨h1, h2⟩ := h
  refine ⟨h1, ?_⟩
  rcases h2 with ⟨hv, _⟩ | ⟨g', cap', cur, hv, hb', hh, hr⟩
  · simp at hv
  · have e : g' = g := by simp at hv; exact hv.1.symm
    subst e
    exact .inr ⟨_, _, _, hv, hb', (hb.block _ hg).trans hh, hr⟩
theorem Row.lt (h : Row w base g cap zs) : base ≤ g ∧ g < w.heap.size := World.ownsRow.lt h g rfl
theorem Row.ints (h : Row w base g cap zs) : Ints w (some ⟨g, 0, none⟩) zs := fun _ => ⟨g, 0, rfl, fun i hi => by rw [Nat.zero_add]; exact h.cell hi⟩
theorem Row.mono (h : Row w base g cap zs) {base' : Nat} (hb : base' ≤ base) : Row w base' g cap zs := by
  obtain ⟨h1, h2⟩ := h
  refine ⟨h1, ?_⟩
  rcases h2 with ⟨hv, _⟩ | ⟨g', cap', cur, hv, hb', hr⟩
  · simp at hv
  · exact .inr ⟨_, _, _, hv, Nat.le_trans hb hb', hr⟩
end

/-- Only block g has turned, and what is new. -/
theorem grown_trans {a b c : World} {g : Nat} (h : a.grownBy b (some g)) (k : b.grownBy c (some g)) : a.grownBy c (some g) :=
  ⟨k.os.trans h.os, k.tape.trans h.tape, k.output.trans h.output, Nat.le_trans h.size k.size, fun i hi hne => (k.block i (Nat.lt_of_lt_of_le hi h.size) hne).trans (h.block i hi hne)⟩
theorem grown_setCell (w : World) (g j : Nat) (u : Value) : w.grownBy (w.setCell ⟨g, j, none⟩ u) (some g) :=
  ⟨rfl, rfl, rfl, by simp [World.setCell], fun i _ hne => Below.heap_setCell w _ u i (by rintro rfl; exact hne rfl)⟩
theorem grown_drewN {a w : World} {row : Option Nat} (h : a.grownBy w row) (n : Nat) : a.grownBy (w.drewN n) row := ⟨h.os, h.tape, h.output, h.size, h.block⟩
end Go.Proofs.Ytahfpkojkcnhiaa
