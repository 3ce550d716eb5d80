/-
  awake: the closed example with which every statement ends.
-/
import Derived.Test.YtmpofbiphklilaaPOf
namespace Go.Proofs.Ytmpofbiphklilaa
open Go.RowKit
set_option linter.unusedVariables false

theorem of_at (n m : Nat) (nI : Int) (hI : nI = n) (a : Option Addr) (c : Nat) (ps : List (Int × Int)) (hm : ps.length = m) (w : World) (hn : n ≤ 8192) (hps : ps.length ≤ maxLen) (hp : PairsIn w.heap.size w a ps) :
    Calls Try.prog 19 #[.int .i64 nI, .slice a m c] w fun e w' => Below w.heap.size w w' ∧
      ((inB n ps = true ∧ ∃ g, e = .returned (.tuple #[.slice (some ⟨g, 0, none⟩) n n, .int .i64 0]) ∧ Row w' w.heap.size g n (joinAll (iota n) ps)) ∨
       (inB n ps = false ∧ e = .returned (.tuple #[.slice none 0 0, .int .i64 4]))) := by
  subst hI
  subst hm
  exact of_good n a c ps w hn hps hp

theorem same_at (a : Option Addr) (n c : Nat) (zs : List Int) (hl : zs.length = n) (x y : Int) (w : World) (hn : zs.length ≤ maxLen) (hz : Ints w a zs) :
    Calls Try.prog 13 #[.slice a n c, .int .i64 x, .int .i64 y] w fun e w' => e = .returned (.bool (sameB zs x y)) ∧ Drawn w w' := by
  subst hl
  exact same_any a c zs x y w hn hz

def exPs : List (Int × Int) := [(3, 1), (1, 2)]
theorem ex_in : inB 4 exPs = true := by decide
theorem ex_join : joinAll (iota 4) exPs = [0, 1, 1, 1] := by decide
theorem ex_same : sameB [0, 1, 1, 1] 2 3 = true := by decide
theorem ex_not : sameB [0, 1, 1, 1] 0 1 = false := by decide

set_option maxHeartbeats 400000 in
theorem awake_any (w : World) : Calls Try.prog 11 #[] w fun e w' => e = .returned (.bool true) ∧ Below w.heap.size w w' := by
  go_enter Try.func11, Try.ntmps11
  go_wp2_with fail
  refine (of_at 4 2 4 rfl _ _ exPs rfl _ (by omega) (by decide) ?_).mono ?_
  · intro _
    refine ⟨_, _, rfl, by simp, fun i hi => ?_⟩
    have h2 : i < 2 := hi
    rcases (show i = 0 ∨ i = 1 by omega) with rfl | rfl
    · exact ⟨by simp [exPs, go_sem], by simp [exPs, go_sem]⟩
    · exact ⟨by simp [exPs, go_sem], by simp [exPs, go_sem]⟩
  rintro e w2 ⟨hb2, (⟨hin, g, rfl, hr⟩ | ⟨hin, _⟩)⟩
  · rw [ex_join] at hr
    have c3 := hr.cell (i := 3) (by decide)
    have hi := Lib.hid hr.ints
    have Hb2 := Lib.hid hb2
    clear hr hb2 hin
    go_wp2_with fail
    refine (same_at _ 4 _ [0, 1, 1, 1] rfl 2 3 _ (by decide) hi.out).mono ?_
    rw [ex_same]
    rintro e w3 ⟨rfl, n3, rfl⟩
    go_wp2_with fail
    refine (same_at _ 4 _ [0, 1, 1, 1] rfl 0 1 _ (by decide) (hi.out.drewN _)).mono ?_
    rw [ex_not]
    rintro e w3 ⟨rfl, n4, rfl⟩
    go_wp2_with fail
    go_ret
    exact ⟨rfl, (((Below.refl _ _).alloc (Nat.le_refl _) _).trans (Hb2.out.mono (by simp))).trans (Drawn.below ⟨n3 + n4, rfl⟩ _)⟩
  · rw [ex_in] at hin
    cases hin
end Go.Proofs.Ytmpofbiphklilaa
