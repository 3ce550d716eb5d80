/-
  GraphOrder: the walk of the law, for every graph and root.
-/
import Derived.Test.YthgnbpiemkcdhaaGOrder
namespace Go.Proofs.Ythgnbpiemkcdhaa
open Go.RowKit Go.Shelf Go.WideShapes
set_option linter.unusedVariables false

set_option maxHeartbeats 1600000 in
set_option maxRecDepth 100000 in
theorem order_out (N : Int) (a : Option Addr) (n c : Nat) (root : Int) (w : World) (hn : n ≤ maxLen) (h : 300 < n ∨ (n ≤ 300 ∧ 300 < N)) :
    Calls Try.prog 9 #[.agg #[.int .i64 N, .slice a n c], .int .i64 root] w fun e w' => e = .returned (.bool true) ∧ Below w.heap.size w w' := by
  have Hb0 := Lib.hid ((Below.refl w.heap.size w).alloc (Nat.le_refl _) (Obj.cells #[Value.int .i64 N, Value.slice a n c] 24))
  unfold maxLen at hn
  rcases h with h1 | ⟨h1, h2⟩
  · go_enter Try.func9, Try.ntmps9
    go_wp2_with (go_at_call 10; refine (awake_any _).mono ?_; rintro e w' ⟨rfl, hb⟩)
    go_ret
    exact ⟨rfl, Hb0.out.trans (hb.mono (by simp))⟩
  · have hd1 : decide ((300 : Int) < (n : Int)) = false := by simp; omega
    go_enter Try.func9, Try.ntmps9
    go_wp2_with (go_at_call 10; refine (awake_any _).mono ?_; rintro e w' ⟨rfl, hb⟩)
    go_ret
    exact ⟨rfl, Hb0.out.trans (hb.mono (by simp))⟩
theorem order_row (N : Int) (a : Option Addr) (c : Nat) (ps : List (Int × Int)) (root : Int) (w : World) (hE : Edg w a c ps) (hw : (Lit.int .i64 root).wf = true) :
    Calls Try.prog 9 #[.agg #[.int .i64 N, .slice a ps.length c], .int .i64 root] w fun e w' => e = .returned (.bool true) ∧ Below w.heap.size w w' := by
  have hcap : ps.length ≤ maxLen := by have := hE.cap; have := hE.max; omega
  by_cases h1 : 300 < ps.length
  · exact order_out N a _ c root w hcap (.inl h1)
  by_cases h2 : 300 < N
  · exact order_out N a _ c root w hcap (.inr ⟨by omega, h2⟩)
  · exact order_good N a _ c ps rfl root w hE (by omega) (by omega)
end Go.Proofs.Ythgnbpiemkcdhaa
