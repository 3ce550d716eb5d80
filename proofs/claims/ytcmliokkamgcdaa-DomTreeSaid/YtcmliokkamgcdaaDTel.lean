/-
  (tree).dominates and (tree).reaches.
-/
import Derived.Test.YtcmliokkamgcdaaDSb
namespace Go.Proofs.Ytcmliokkamgcdaa
open Go.RowKit
set_option linter.unusedVariables false

def domB (pl sz : List Int) (a b : Nat) : Bool := decide (pl.getD a 0 ≤ pl.getD b 0) && decide (pl.getD b 0 < pl.getD a 0 + sz.getD a 0)

set_option maxHeartbeats 1000000 in
set_option maxRecDepth 100000 in
theorem reaches_any (N v : Nat) (u1 u2 : Value) (g c : Nat) (sz : List Int) (hl : sz.length = N) (hv : v < N) (w : World) (hS : Ints w (some ⟨g, 0, none⟩) sz) :
    Calls Try.prog 37 #[.agg #[u1, u2, .slice (some ⟨g, 0, none⟩) N c], .int .i64 (v : Int)] w fun e w' => e = .returned (.bool (decide (0 < sz.getD v 0))) ∧ Below w.heap.size w w' := by
  obtain ⟨b2, o2, e2, hs2⟩ := hS (by omega)
  have hb2 : b2 = g ∧ o2 = 0 := by injection e2 with e2; injection e2 with a b c; exact ⟨a.symm, b.symm⟩
  obtain ⟨rfl, rfl⟩ := hb2
  have cv := hs2 v (by omega)
  rw [Nat.zero_add] at cv
  have hlt := World.block_lt_of_cell? w _ cv
  have hlt' : b2 < w.heap.size := hlt
  have cva : ∀ o, (w.alloc o).cell? ⟨b2, v, none⟩ = some (.int .i64 (sz.getD v 0)) := fun o => (((Below.refl w.heap.size w).alloc (Nat.le_refl _) o).cell (p := ⟨b2, v, none⟩) hlt').trans cv
  obtain ⟨z, hz⟩ : ∃ z, sz.getD v 0 = z := ⟨_, rfl⟩
  rw [hz] at cv
  simp only [hz] at cva ⊢
  have hb : ∀ o, Below w.heap.size w (w.alloc o) := fun o => (Below.refl _ _).alloc (Nat.le_refl _) o
  have HB := Lib.hid hb
  clear hS hs2 e2 hz hb
  by_cases h : 0 < z
  · rw [decide_eq_true h]
    go_enter Try.func37, Try.ntmps37
    go_wp2
    go_ret
    exact ⟨rfl, HB.out _⟩
  · rw [decide_eq_false h]
    go_enter Try.func37, Try.ntmps37
    go_wp2
    go_ret
    exact ⟨rfl, HB.out _⟩
end Go.Proofs.Ytcmliokkamgcdaa
