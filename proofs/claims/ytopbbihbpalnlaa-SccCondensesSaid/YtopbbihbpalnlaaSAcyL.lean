/-
  Acyclic, the case of fewer components; and Acyclic whole.
-/
import Derived.Test.YtopbbihbpalnlaaSAcy
import Derived.Deep.RegionLaw
namespace Go.Proofs.Ytopbbihbpalnlaa
open Go.RowKit
set_option linter.unusedVariables false
set_option maxRecDepth 100000 in
set_option maxHeartbeats 1000000 in
theorem acyclic_less (N : Nat) (a : Option Addr) (n c : Nat) (ps : List (Int × Int)) (hl : ps.length = n) (hn : n ≤ maxLen) (w : World) (hE : Pairs w a ps)
    (hk : gchk N ps = 0) (hlen : ¬ (compL N (suN ps) srt).length = N) : Calls Try.prog 24 #[.agg #[.int .i64 (N : Int), .slice a n c]] w fun e w' => e = .returned (.bool false) ∧ Below w.heap.size w w' := by
  have hb0 := (Below.refl w.heap.size w).alloc (Nat.le_refl _) (Obj.cells #[Value.int .i64 (N : Int), Value.slice a n c] 24)
  have hE1 := hE.below hb0 (Nat.le_refl _)
  have hck := check_any (N : Int) a c ps _ (by rw [hl]; exact hn) hE1
  rw [hl, hk] at hck
  have Hck := Lib.hid hck
  have Hb0 := Lib.hid hb0
  have HE := Lib.hid hE
  have Hl := Lib.hid hl
  have hg := gchk_ok hk
  have Hg := Lib.hid hg
  have hN8 := hg.hi
  obtain ⟨m, hm⟩ : ∃ m, (compL N (suN ps) srt).length = m := ⟨_, rfl⟩
  have hmn : ((compL N (suN ps) srt).map ni).length = m := by rw [List.length_map]; exact hm
  rw [hm] at hlen
  have Hmn := Lib.hid hmn
  clear hck hb0 hE hE1 hl hk hg hm hmn
  have e1 : decide ((m : Int) = (N : Int)) = false := by simp; omega
  have e2 : decide (m = N) = false := by simpa using hlen
  have e3 : ((m : Int) == (N : Int)) = false := by simp; omega
  have e4 : (m == N) = false := by simpa using hlen
  go_enter Try.func24, Try.ntmps24
  go_wp2_with fail
  refine Hck.out.mono ?_
  rintro e w1 ⟨rfl, hb1⟩
  have g0 := (hb1.cell (p := ⟨w.heap.size, 0, none⟩) (by simp)).trans (show _ = some (Value.int .i64 (N : Int)) by simp)
  have g1 := (hb1.cell (p := ⟨w.heap.size, 1, none⟩) (by simp)).trans (show _ = some (Value.slice a n c) by simp)
  have hs1 : w.heap.size < w1.heap.size := by have := hb1.size; simp at this; omega
  have Hb1 := Lib.hid (Hb0.out.trans (hb1.mono (by simp)))
  clear hb1
  have hS1 : w1.drew.cell? ⟨w.heap.size, 0, none⟩ = some (.int .i64 (N : Int)) ∧ w1.drew.cell? ⟨w.heap.size, 1, none⟩ = some (.slice a n c) ∧ Below w.heap.size w w1.drew := ⟨g0, g1, Hb1.out.drew⟩
  go_wp2_with fail
  have q0 := hS1.1
  have q1 := hS1.2.1
  have HS1 := Lib.hid hS1
  clear hS1
  first
    | (go_region_with (go_at_call 31; refine Calls.mono (comps_pairs N a n c ps Hl.out _ (HE.out.below HS1.out.2.2 (Nat.le_refl _)) Hg.out) ?_; rintro e wA ⟨u, vs, rfl, hrw, hbA⟩; obtain ⟨a2, c2, rfl⟩ := hrw.shape; rw [Hmn.out]; have hSA := keepG HS1.out rfl hbA; have q3 := hSA.1; have HSA := Lib.hid hSA.2.2; clear hSA hrw hbA))
    | fail
  all_goals
    go_wp2
    go_ret
    exact ⟨rfl, HSA.out⟩
/-- Acyclic, whatever the graph. -/
theorem acyclic_any (N : Int) (a : Option Addr) (n c : Nat) (ps : List (Int × Int)) (hl : ps.length = n) (hn : n ≤ maxLen) (w : World) (hE : Pairs w a ps) : Calls Try.prog 24 #[.agg #[.int .i64 N, .slice a n c]] w fun e w' => e = .returned (.bool (acyB N ps)) ∧ Below w.heap.size w w' :=
  acyclic_but N a n c ps hl hn w hE fun hk hlen => by
    have hg := gchk_ok hk
    obtain ⟨N, rfl⟩ : ∃ m : Nat, N = (m : Int) := ⟨N.toNat, by have := hg.lo; omega⟩
    rw [Int.toNat_natCast] at hlen
    have hres : acyB (N : Int) ps = false := by
      unfold acyB
      rw [if_pos hk, Int.toNat_natCast, show ((compL N (suN ps) srt).length == N) = false by simpa using hlen]
      rfl
    rw [hres]
    exact acyclic_less N a n c ps hl hn w hE hk hlen
end Go.Proofs.Ytopbbihbpalnlaa
