/-
  The methods of a heap of nodes.
-/
import Derived.Test.YtopbbihbpalnlaaSRows
import Derived.LoopTactic
import Derived.RegionTactic
import Derived.BigRegion
namespace Go.Proofs.Ytopbbihbpalnlaa
open Go.RowKit
set_option linter.unusedVariables false

theorem len_any (a : Option Addr) (n c : Nat) (w : World) : Calls Try.prog 118 #[.slice a n c] w fun e w' => e = .returned (.int .i64 (n : Int)) ∧ w' = w := by
  go_enter Try.func118, Try.ntmps118
  go_wp2
  go_ret
  exact ⟨rfl, rfl⟩
/-- A row of nodes, where it is known which block holds it. -/
structure HR (w : World) (base g cap : Nat) (ys : List Int) : Prop where
  own : Own w base (.slice (some ⟨g, 0, none⟩) ys.length cap) ys
theorem HR.cell {w : World} {base g cap : Nat} {ys : List Int} (h : HR w base g cap ys) {i : Nat} (hi : i < ys.length) : w.cell? ⟨g, i, none⟩ = some (.int .i64 (ys.getD i 0)) := by
  obtain ⟨a, c, e, hz⟩ := h.own.shape
  injection e with e1 _ _
  subst e1
  obtain ⟨b2, off2, e2, hc⟩ := hz (by omega)
  injection e2 with e2
  injection e2 with e3 e4 _
  subst e3; subst e4
  have := hc i hi
  rwa [Nat.zero_add] at this
theorem lfless_any (base g cap i j : Nat) (ys : List Int) (w : World) (h : HR w base g cap ys) (hi : i < ys.length) (hj : j < ys.length) : Calls Try.prog 119 #[.slice (some ⟨g, 0, none⟩) ys.length cap, .int .i64 (i : Int), .int .i64 (j : Int)] w fun e w' => e = .returned (.bool (decide (ys.getD i 0 < ys.getD j 0))) ∧ ∃ k, w' = w.drewN k := by
  have c1 := h.cell hi
  have c2 := h.cell hj
  obtain ⟨n, hn⟩ : ∃ n, ys.length = n := ⟨_, rfl⟩
  rw [hn] at hi hj ⊢
  obtain ⟨x, hx⟩ : ∃ x, ys.getD i 0 = x := ⟨_, rfl⟩
  obtain ⟨y, hy⟩ : ∃ y, ys.getD j 0 = y := ⟨_, rfl⟩
  rw [hx] at c1 ⊢
  rw [hy] at c2 ⊢
  clear hx hy hn h
  go_enter Try.func119, Try.ntmps119
  go_wp2
  go_quiet (fail)
  go_wp2
  go_ret
  exact ⟨rfl, _, rfl⟩
def swp (ys : List Int) (i j : Nat) : List Int := (ys.set i (ys.getD j 0)).set j (ys.getD i 0)
theorem swp_len (ys : List Int) (i j : Nat) : (swp ys i j).length = ys.length := by simp [swp]
theorem HR.set {w : World} {base g cap : Nat} {ys : List Int} (h : HR w base g cap ys) (i : Nat) (z : Int) : HR (w.setCell ⟨g, i, none⟩ (.int .i64 z)) base g cap (ys.set i z) := by
  constructor
  have := Row.set (w := w) (base := base) (g := g) (cap := cap) (zs := ys) h.own i z
  unfold Row at this
  unfold Own
  rw [List.length_set] at this ⊢
  exact this
theorem swap_any (base g cap i j : Nat) (ys : List Int) (w : World) (h : HR w base g cap ys) (hi : i < ys.length) (hj : j < ys.length) : Calls Try.prog 120 #[.slice (some ⟨g, 0, none⟩) ys.length cap, .int .i64 (i : Int), .int .i64 (j : Int)] w fun e w' => e = .returned (.tuple #[]) ∧ HR w' base g cap (swp ys i j) ∧ w.grownBy w' (some g) := by
  have c1 := h.cell hi
  have c2 := h.cell hj
  have f1 : w.frozen? ⟨g, i, none⟩ = false := World.ownsRow.frozenAt h.own i
  have f2 : w.frozen? ⟨g, j, none⟩ = false := World.ownsRow.frozenAt h.own j
  have h1 := h.set i (ys.getD j 0)
  have h2 := h1.set j (ys.getD i 0)
  have f3 : (w.setCell ⟨g, i, none⟩ (.int .i64 (ys.getD j 0))).frozen? ⟨g, j, none⟩ = false := World.ownsRow.frozenAt h1.own j
  have c3 := h1.cell (i := j) (by rw [List.length_set]; exact hj)
  obtain ⟨n, hn⟩ : ∃ n, ys.length = n := ⟨_, rfl⟩
  rw [hn] at hi hj ⊢
  obtain ⟨x, hx⟩ : ∃ x, ys.getD i 0 = x := ⟨_, rfl⟩
  obtain ⟨y, hy⟩ : ∃ y, ys.getD j 0 = y := ⟨_, rfl⟩
  obtain ⟨z, hz⟩ : ∃ z, (ys.set i y).getD j 0 = z := ⟨_, rfl⟩
  rw [hy] at c2 f3 c3 h2
  rw [hz] at c3
  rw [hx] at c1 h2
  have hg : w.grownBy ((w.setCell ⟨g, i, none⟩ (.int .i64 y)).setCell ⟨g, j, none⟩ (.int .i64 x)) (some g) := (grown_setCell w g i _).trans (grown_setCell _ g j _)
  have H2 := Lib.hid h2
  have Hg := Lib.hid hg
  have Hsw : Hid (swp ys i j = (ys.set i y).set j x) := by show _ = _; unfold swp; rw [hx, hy]
  clear h h1 h2 hg hx hy hz hn
  go_enter Try.func120, Try.ntmps120
  go_wp2
  go_region
  go_wp2
  go_end0
  rw [Hsw.out]
  exact ⟨rfl, ⟨H2.out.own⟩, ⟨Hg.out.os, Hg.out.tape, Hg.out.output, Hg.out.size, Hg.out.block⟩⟩
end Go.Proofs.Ytopbbihbpalnlaa
