/-
  The definition's Node (of the layer below).
-/
import Derived.Test.YtopbbihbpalnlaaGRCheck
namespace Go.Proofs.Ytopbbihbpalnlaa.D
open Go.RowKit Go.Shelf Go.WideShapes
set_option linter.unusedVariables false
def nodeB (N : Int) (ps : List (Int × Int)) (v : Int) : Bool := decide (gchk N ps = 0) && isNd N v
set_option maxHeartbeats 1000000 in
theorem rnode_any (N : Int) (a : Option Addr) (c : Nat) (ps : List (Int × Int)) (v : Int) (w : World) (hn : ps.length ≤ maxLen) (hE : Pairs w a ps) :
    Calls Try.prog 26 #[.agg #[.int .i64 N, .slice a ps.length c], .int .i64 v] w fun e w' => e = .returned (.bool (nodeB N ps v)) ∧ Below w.heap.size w w' := by
  obtain ⟨n, hl⟩ : ∃ n, ps.length = n := ⟨_, rfl⟩
  obtain ⟨k, hk⟩ : ∃ k, gchk N ps = k := ⟨_, rfl⟩
  have hb0 := (Below.refl w.heap.size w).alloc (Nat.le_refl _) (Obj.cells #[Value.int .i64 N, Value.slice a n c] 24)
  have hck : Calls Try.prog 28 #[.agg #[.int .i64 N, .slice a n c]] (w.alloc (Obj.cells #[Value.int .i64 N, Value.slice a n c] 24)) fun e w' => e = .returned (.int .i64 k) ∧ Below (w.heap.size + 1) (w.alloc (Obj.cells #[Value.int .i64 N, Value.slice a n c] 24)) w' := by
    have := rcheck_any N a c ps (w.alloc (Obj.cells #[Value.int .i64 N, Value.slice a n c] 24)) hn (hE.below hb0 (Nat.le_refl _))
    rw [hk, hl, World.size_alloc] at this
    exact this
  have Hb0 := Lib.hid hb0
  have Hck := Lib.hid hck
  have Hk := Lib.hid hk
  rw [hl]
  clear hck hb0 hE hl hk hn
  by_cases h0 : k = 0
  · subst h0
    by_cases h1 : 0 ≤ v
    · by_cases h2 : v < N
      · have T : Hid (true = nodeB N ps v) := by
          show _ = _
          unfold nodeB
          rw [Hk.out, isNd_iff.2 ⟨h1, h2⟩]; rfl
        go_enter Try.func26, Try.ntmps26
        go_wp2_with (go_at_call 28; refine Hck.out.mono ?_; rintro e w1 ⟨rfl, hb1⟩; have Hb1 := Lib.hid hb1; have g0 := (hb1.cell (p := ⟨w.heap.size, 0, none⟩) (by simp)).trans (show _ = some (Value.int .i64 N) by simp); clear hb1)
        go_ret
        exact ⟨ret_bool T.out, Hb0.out.trans (Hb1.out.mono (by omega))⟩
      · have T : Hid (false = nodeB N ps v) := by
          show _ = _
          unfold nodeB
          rw [show isNd N v = false by rw [← Bool.not_eq_true, isNd_iff]; omega, Bool.and_false]
        go_enter Try.func26, Try.ntmps26
        go_wp2_with (go_at_call 28; refine Hck.out.mono ?_; rintro e w1 ⟨rfl, hb1⟩; have Hb1 := Lib.hid hb1; have g0 := (hb1.cell (p := ⟨w.heap.size, 0, none⟩) (by simp)).trans (show _ = some (Value.int .i64 N) by simp); clear hb1)
        go_ret
        exact ⟨ret_bool ((decide_eq_false (show ¬ v < N by omega)).trans T.out), Hb0.out.trans (Hb1.out.mono (by omega))⟩
    · have T : Hid (false = nodeB N ps v) := by
        show _ = _
        unfold nodeB
        rw [show isNd N v = false by rw [← Bool.not_eq_true, isNd_iff]; omega, Bool.and_false]
      go_enter Try.func26, Try.ntmps26
      go_wp2_with (go_at_call 28; refine Hck.out.mono ?_; rintro e w1 ⟨rfl, hb1⟩; have Hb1 := Lib.hid hb1; clear hb1)
      go_ret
      exact ⟨ret_bool T.out, Hb0.out.trans (Hb1.out.mono (by omega))⟩
  · have T : Hid (false = nodeB N ps v) := by
      show _ = _
      unfold nodeB
      rw [Hk.out, decide_eq_false h0, Bool.false_and]
    have hb : (k == 0) = false := by rw [beq_eq_false_iff_ne]; exact h0
    go_enter Try.func26, Try.ntmps26
    go_wp2_with (go_at_call 28; refine Hck.out.mono ?_; rintro e w1 ⟨rfl, hb1⟩; have Hb1 := Lib.hid hb1; clear hb1)
    go_ret
    exact ⟨ret_bool T.out, Hb0.out.trans (Hb1.out.mono (by omega))⟩

theorem rnode_at (N : Int) (a : Option Addr) (n c : Nat) (ps : List (Int × Int)) (v : Int) (r : Bool) (hr : nodeB N ps v = r) (w : World) (hl : ps.length = n) (hn : n ≤ maxLen) (hE : Pairs w a ps) :
    Calls Try.prog 26 #[.agg #[.int .i64 N, .slice a n c], .int .i64 v] w fun e w' => e = .returned (.bool r) ∧ Below w.heap.size w w' := by
  subst hl hr; exact rnode_any N a c ps v w hn hE
end Go.Proofs.Ytopbbihbpalnlaa.D
