/-
  (tree).dominates.
-/
import Derived.Test.YtcmliokkamgcdaaDTel
namespace Go.Proofs.Ytcmliokkamgcdaa
open Go.RowKit
set_option linter.unusedVariables false

set_option maxHeartbeats 1000000 in
set_option maxRecDepth 100000 in
theorem dominates_any (N a b : Nat) (u1 : Value) (gp cp gs cs : Nat) (pl sz : List Int) (hp : pl.length = N) (hl : sz.length = N) (ha : a < N) (hb : b < N) (w : World) (hP : Ints w (some ⟨gp, 0, none⟩) pl) (hS : Ints w (some ⟨gs, 0, none⟩) sz)
    (hr1 : -1 ≤ pl.getD a 0 ∧ pl.getD a 0 ≤ 8193) (hr3 : 0 ≤ sz.getD a 0 ∧ sz.getD a 0 ≤ 8193) :
    Calls Try.prog 34 #[.agg #[u1, .slice (some ⟨gp, 0, none⟩) N cp, .slice (some ⟨gs, 0, none⟩) N cs], .int .i64 (a : Int), .int .i64 (b : Int)] w fun e w' => e = .returned (.bool (domB pl sz a b)) ∧ Below w.heap.size w w' := by
  have at_ : ∀ {g : Nat} {l : List Int} {i : Nat}, Ints w (some ⟨g, 0, none⟩) l → i < l.length → w.cell? ⟨g, i, none⟩ = some (.int .i64 (l.getD i 0)) ∧ ∀ o, (w.alloc o).cell? ⟨g, i, none⟩ = some (.int .i64 (l.getD i 0)) := fun {g l i} h hi => by
    obtain ⟨b2, o2, e2, hs2⟩ := h (by omega)
    have hb2 : b2 = g ∧ o2 = 0 := by injection e2 with e2; injection e2 with a b c; exact ⟨a.symm, b.symm⟩
    obtain ⟨rfl, rfl⟩ := hb2
    have cv := hs2 i hi
    rw [Nat.zero_add] at cv
    have hlt : b2 < w.heap.size := World.block_lt_of_cell? w _ cv
    exact ⟨cv, fun o => (((Below.refl w.heap.size w).alloc (Nat.le_refl _) o).cell (p := ⟨b2, i, none⟩) hlt).trans cv⟩
  obtain ⟨a1, a2⟩ := at_ hP (i := a) (by omega)
  obtain ⟨b1, b2⟩ := at_ hP (i := b) (by omega)
  obtain ⟨s1, s2⟩ := at_ hS (i := a) (by omega)
  unfold domB
  obtain ⟨x, hx⟩ : ∃ x, pl.getD a 0 = x := ⟨_, rfl⟩
  obtain ⟨y, hy⟩ : ∃ y, pl.getD b 0 = y := ⟨_, rfl⟩
  obtain ⟨z, hz⟩ : ∃ z, sz.getD a 0 = z := ⟨_, rfl⟩
  simp only [hx, hy, hz] at a1 a2 b1 b2 s1 s2 hr1 hr3 ⊢
  have hb : ∀ o, Below w.heap.size w (w.alloc o) := fun o => (Below.refl _ _).alloc (Nat.le_refl _) o
  have HB := Lib.hid hb
  clear hP hS hx hy hz hb at_ hp hl
  by_cases h : x ≤ y
  · by_cases h2 : y < x + z
    · have Hd := Lib.hid (decide_eq_true h2)
      rw [decide_eq_true h, Hd.out, Bool.true_and]
      go_enter Try.func34, Try.ntmps34
      go_wp2
      try go_region
      try go_wp2
      go_ret
      exact ⟨by first | rfl | exact congrArg (fun r => Ending.returned (.bool r)) Hd.out, by first | exact (HB.out _).drew | exact HB.out _⟩
    · have Hd := Lib.hid (decide_eq_false h2)
      rw [decide_eq_true h, Hd.out, Bool.true_and]
      go_enter Try.func34, Try.ntmps34
      go_wp2
      try go_region
      try go_wp2
      go_ret
      exact ⟨by first | rfl | exact congrArg (fun r => Ending.returned (.bool r)) Hd.out, by first | exact (HB.out _).drew | exact HB.out _⟩
  · rw [decide_eq_false h, Bool.false_and]
    have hd : decide (x ≤ y) = false := decide_eq_false h
    go_enter Try.func34, Try.ntmps34
    go_wp2
    try go_region
    try go_wp2
    go_ret
    exact ⟨rfl, by first | exact (HB.out _).drew | exact HB.out _⟩
end Go.Proofs.Ytcmliokkamgcdaa
