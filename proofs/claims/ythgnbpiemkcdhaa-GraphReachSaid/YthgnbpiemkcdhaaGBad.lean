/-
  Succ, Reach and Path at graphs that are not valid, or at numbers that are no nodes.
-/
import Derived.Test.YthgnbpiemkcdhaaGAwake
namespace Go.Proofs.Ythgnbpiemkcdhaa
open Go.RowKit Go.Shelf
set_option linter.unusedVariables false

set_option maxHeartbeats 1000000 in
theorem succ_bad (N : Int) (a : Option Addr) (c : Nat) (ps : List (Int × Int)) (v : Int) (w : World) (hn : ps.length ≤ maxLen) (hE : Pairs w a ps) (hok : gchk N ps ≠ 0) :
    Calls Try.prog 14 #[.agg #[.int .i64 N, .slice a ps.length c], .int .i64 v] w fun e w' => e = .returned (.slice none 0 0) ∧ Below w.heap.size w w' := by
  obtain ⟨n, hl⟩ : ∃ n, ps.length = n := ⟨_, rfl⟩
  obtain ⟨k, hk⟩ : ∃ k, gchk N ps = k := ⟨_, rfl⟩
  have hb0 := (Below.refl w.heap.size w).alloc (Nat.le_refl _) (Obj.cells #[Value.int .i64 N, Value.slice a n c] 24)
  have hck : Calls Try.prog 11 #[.agg #[.int .i64 N, .slice a n c]] (w.alloc (Obj.cells #[Value.int .i64 N, Value.slice a n c] 24)) fun e w' => e = .returned (.int .i64 k) ∧ Below (w.heap.size + 1) (w.alloc (Obj.cells #[Value.int .i64 N, Value.slice a n c] 24)) w' := by
    have := check_any N a c ps (w.alloc (Obj.cells #[Value.int .i64 N, Value.slice a n c] 24)) hn (hE.below hb0 (Nat.le_refl _))
    rw [hk, hl, World.size_alloc] at this
    exact this
  have Hb0 := Lib.hid hb0
  have Hck := Lib.hid hck
  rw [hk] at hok
  rw [hl]
  clear hck hb0 hE hl hk hn
  go_enter Try.func14, Try.ntmps14
  go_wp2_with ((go_at_call 11; refine Hck.out.mono ?_; rintro e w1 ⟨rfl, hb1⟩; have Hb1 := Lib.hid hb1; clear hb1))
  go_ret
  exact ⟨rfl, Hb0.out.trans (Hb1.out.mono (by omega))⟩

set_option maxHeartbeats 1000000 in
theorem reach_bad (N : Int) (a : Option Addr) (c : Nat) (ps : List (Int × Int)) (b : Option Addr) (m d : Nat) (w : World) (hn : ps.length ≤ maxLen) (hE : Pairs w a ps) (hok : gchk N ps ≠ 0) :
    Calls Try.prog 23 #[.agg #[.int .i64 N, .slice a ps.length c], .slice b m d] w fun e w' => e = .returned (.slice none 0 0) ∧ Below w.heap.size w w' := by
  obtain ⟨n, hl⟩ : ∃ n, ps.length = n := ⟨_, rfl⟩
  obtain ⟨k, hk⟩ : ∃ k, gchk N ps = k := ⟨_, rfl⟩
  have hb0 := (Below.refl w.heap.size w).alloc (Nat.le_refl _) (Obj.cells #[Value.int .i64 N, Value.slice a n c] 24)
  have hck : Calls Try.prog 11 #[.agg #[.int .i64 N, .slice a n c]] (w.alloc (Obj.cells #[Value.int .i64 N, Value.slice a n c] 24)) fun e w' => e = .returned (.int .i64 k) ∧ Below (w.heap.size + 1) (w.alloc (Obj.cells #[Value.int .i64 N, Value.slice a n c] 24)) w' := by
    have := check_any N a c ps (w.alloc (Obj.cells #[Value.int .i64 N, Value.slice a n c] 24)) hn (hE.below hb0 (Nat.le_refl _))
    rw [hk, hl, World.size_alloc] at this
    exact this
  have Hb0 := Lib.hid hb0
  have Hck := Lib.hid hck
  rw [hk] at hok
  rw [hl]
  clear hck hb0 hE hl hk hn
  go_enter Try.func23, Try.ntmps23
  go_wp2_with ((go_at_call 11; refine Hck.out.mono ?_; rintro e w1 ⟨rfl, hb1⟩; have Hb1 := Lib.hid hb1; clear hb1))
  go_ret
  exact ⟨rfl, Hb0.out.trans (Hb1.out.mono (by omega))⟩

set_option maxHeartbeats 1000000 in
theorem path_bad (N : Int) (a : Option Addr) (c : Nat) (ps : List (Int × Int)) (fr t : Int) (w : World) (hn : ps.length ≤ maxLen) (hE : Pairs w a ps) (hbad : gchk N ps ≠ 0 ∨ isNd N fr = false ∨ isNd N t = false) :
    Calls Try.prog 26 #[.agg #[.int .i64 N, .slice a ps.length c], .int .i64 fr, .int .i64 t] w fun e w' => e = .returned (.tuple #[.slice none 0 0, .bool false]) ∧ Below w.heap.size w w' := by
  obtain ⟨n, hl⟩ : ∃ n, ps.length = n := ⟨_, rfl⟩
  obtain ⟨k, hk⟩ : ∃ k, gchk N ps = k := ⟨_, rfl⟩
  have hb0 := (Below.refl w.heap.size w).alloc (Nat.le_refl _) (Obj.cells #[Value.int .i64 N, Value.slice a n c] 24)
  have hck : Calls Try.prog 11 #[.agg #[.int .i64 N, .slice a n c]] (w.alloc (Obj.cells #[Value.int .i64 N, Value.slice a n c] 24)) fun e w' => e = .returned (.int .i64 k) ∧ Below (w.heap.size + 1) (w.alloc (Obj.cells #[Value.int .i64 N, Value.slice a n c] 24)) w' := by
    have := check_any N a c ps (w.alloc (Obj.cells #[Value.int .i64 N, Value.slice a n c] 24)) hn (hE.below hb0 (Nat.le_refl _))
    rw [hk, hl, World.size_alloc] at this
    exact this
  have Hb0 := Lib.hid hb0
  have Hck := Lib.hid hck
  rw [hk] at hbad
  rw [hl]
  clear hck hb0 hE hl hk hn
  by_cases hk0 : k = 0
  · cases hf : isNd N fr with
    | false =>
      clear hbad
      go_enter Try.func26, Try.ntmps26
      go_wp2_with (first
        | (go_at_call 11; refine Hck.out.mono ?_; rintro e w1 ⟨rfl, hb1⟩; have Hb1 := Lib.hid hb1; have g0 := (hb1.cell (p := ⟨w.heap.size, 0, none⟩) (by simp)).trans (show _ = some (Value.int .i64 N) by simp); clear hb1)
        | (go_at_call 30; refine (isNode_at N _ _).mono ?_; rintro e w1 ⟨rfl, rfl⟩))
      refine bodyPost_ret (v := .tuple #[.slice none 0 0, .bool false]) (by simp [results, Try.results26, go_sem]) rfl ?_
      exact ⟨rfl, Hb0.out.trans (Hb1.out.mono (by omega))⟩
    | true =>
      have ht : isNd N t = false := by
        rcases hbad with h | h | h
        · exact absurd hk0 h
        · rw [hf] at h; cases h
        · exact h
      clear hbad
      go_enter Try.func26, Try.ntmps26
      go_wp2_with (first
        | (go_at_call 11; refine Hck.out.mono ?_; rintro e w1 ⟨rfl, hb1⟩; have Hb1 := Lib.hid hb1; have g0 := (hb1.cell (p := ⟨w.heap.size, 0, none⟩) (by simp)).trans (show _ = some (Value.int .i64 N) by simp); clear hb1)
        | (go_at_call 30; refine (isNode_at N _ _).mono ?_; rintro e w1 ⟨rfl, rfl⟩))
      refine bodyPost_ret (v := .tuple #[.slice none 0 0, .bool false]) (by simp [results, Try.results26, go_sem]) rfl ?_
      exact ⟨rfl, Hb0.out.trans (Hb1.out.mono (by omega))⟩
  · clear hbad
    go_enter Try.func26, Try.ntmps26
    go_wp2_with (go_at_call 11; refine Hck.out.mono ?_; rintro e w1 ⟨rfl, hb1⟩; have Hb1 := Lib.hid hb1; clear hb1)
    refine bodyPost_ret (v := .tuple #[.slice none 0 0, .bool false]) (by simp [results, Try.results26, go_sem]) rfl ?_
    exact ⟨rfl, Hb0.out.trans (Hb1.out.mono (by omega))⟩
end Go.Proofs.Ythgnbpiemkcdhaa
