/-
  GraphShortest: the walk of the law, for every graph and path.
-/
import Derived.Test.YthgnbpiemkcdhaaGShort
namespace Go.Proofs.Ythgnbpiemkcdhaa
open Go.RowKit Go.Shelf Go.WideShapes
set_option linter.unusedVariables false

set_option maxHeartbeats 1600000 in
set_option maxRecDepth 100000 in
theorem short_out (N : Int) (a : Option Addr) (n c : Nat) (b : Option Addr) (m d : Nat) (w : World) (hn : n ≤ maxLen) (hm : m ≤ maxLen) (h : 200 < n ∨ (n ≤ 200 ∧ m = 0) ∨ (n ≤ 200 ∧ m ≠ 0 ∧ 100 < m)) :
    Calls Try.prog 7 #[.agg #[.int .i64 N, .slice a n c], .slice b m d] w fun e w' => e = .returned (.bool true) ∧ Below w.heap.size w w' := by
  have Hb0 := Lib.hid ((Below.refl w.heap.size w).alloc (Nat.le_refl _) (Obj.cells #[Value.int .i64 N, Value.slice a n c] 24))
  unfold maxLen at hn hm
  rcases h with h1 | ⟨h1, rfl⟩ | ⟨h1, h2, h3⟩
  · go_enter Try.func7, Try.ntmps7
    go_wp2_with (go_at_call 10; refine (awake_any _).mono ?_; rintro e w' ⟨rfl, hb⟩)
    go_ret
    exact ⟨rfl, Hb0.out.trans (hb.mono (by simp))⟩
  · have hd1 : decide ((200 : Int) < (n : Int)) = false := by simp; omega
    go_enter Try.func7, Try.ntmps7
    go_wp2_with (go_at_call 10; refine (awake_any _).mono ?_; rintro e w' ⟨rfl, hb⟩)
    go_ret
    exact ⟨rfl, Hb0.out.trans (hb.mono (by simp))⟩
  · have hd1 : decide ((200 : Int) < (n : Int)) = false := by simp; omega
    have hd2 : ((m : Int) == 0) = false := by rw [beq_eq_false_iff_ne]; omega
    go_enter Try.func7, Try.ntmps7
    go_wp2_with (go_at_call 10; refine (awake_any _).mono ?_; rintro e w' ⟨rfl, hb⟩)
    go_ret
    exact ⟨rfl, Hb0.out.trans (hb.mono (by simp))⟩
set_option maxHeartbeats 1600000 in
set_option maxRecDepth 100000 in
theorem short_bad (N : Int) (a : Option Addr) (n c : Nat) (ps : List (Int × Int)) (b : Option Addr) (m d : Nat) (w : World) (hl : ps.length = n) (hn : n ≤ 200) (h0 : m ≠ 0) (hm : m ≤ 100) (hE : Pairs w a ps) (k : Int) (hk : gchk N ps = k) (hk0 : k ≠ 0) :
    Calls Try.prog 7 #[.agg #[.int .i64 N, .slice a n c], .slice b m d] w fun e w' => e = .returned (.bool true) ∧ Below w.heap.size w w' := by
  have hb0 := (Below.refl w.heap.size w).alloc (Nat.le_refl _) (Obj.cells #[Value.int .i64 N, Value.slice a n c] 24)
  have hck := rchk_at N a n c ps k hk (w.alloc (Obj.cells #[Value.int .i64 N, Value.slice a n c] 24)) hl (by unfold maxLen; omega) (hE.below hb0 (Nat.le_refl _))
  have Hb0 := Lib.hid hb0
  have Hck := Lib.hid hck
  have hd1 : decide ((200 : Int) < (n : Int)) = false := by simp; omega
  have hd2 : ((m : Int) == 0) = false := by rw [beq_eq_false_iff_ne]; omega
  have hd3 : decide ((100 : Int) < (m : Int)) = false := by simp; omega
  have hd4 : (k != 0) = true := by rw [bne_iff_ne]; exact hk0
  clear hb0 hck hl hk hE
  go_enter Try.func7, Try.ntmps7
  go_wp2_with fail
  refine Hck.out.mono ?_
  rintro e w1 ⟨rfl, hb1⟩
  have Hb1 := Lib.hid (Hb0.out.trans (hb1.mono (by simp)))
  clear hb1
  go_wp2_with (go_at_call 10; refine (awake_any _).mono ?_; rintro e w' ⟨rfl, hb⟩)
  go_ret
  exact ⟨rfl, Hb1.out.trans (hb.mono Hb1.out.size)⟩
theorem short_row (N : Int) (a : Option Addr) (c : Nat) (ps : List (Int × Int)) (b : Option Addr) (d : Nat) (zs : List Int) (w : World) (hE : Edg w a c ps) (hn : zs.length ≤ maxLen) (hz : Ints w b zs) :
    Calls Try.prog 7 #[.agg #[.int .i64 N, .slice a ps.length c], .slice b zs.length d] w fun e w' => e = .returned (.bool true) ∧ Below w.heap.size w w' := by
  have hcap : ps.length ≤ maxLen := by have := hE.cap; have := hE.max; omega
  by_cases h1 : 200 < ps.length
  · exact short_out N a _ c b _ d w hcap hn (.inl h1)
  by_cases h2 : zs.length = 0
  · exact short_out N a _ c b _ d w hcap hn (.inr (.inl ⟨by omega, h2⟩))
  by_cases h3 : 100 < zs.length
  · exact short_out N a _ c b _ d w hcap hn (.inr (.inr ⟨by omega, h2, h3⟩))
  by_cases h4 : gchk N ps = 0
  · obtain ⟨M, rfl⟩ : ∃ M : Nat, N = (M : Int) := ⟨N.toNat, by have := (gchk_ok h4).lo; omega⟩
    obtain ⟨bb, off, rfl, hc⟩ := hz (by omega)
    exact short_good M a c ps bb off d zs w hE (by omega) (by omega) (by omega) h4 hc
  · exact short_bad N a _ c ps b _ d w rfl (by omega) h2 (by omega) hE.pairs _ rfl h4
end Go.Proofs.Ythgnbpiemkcdhaa
