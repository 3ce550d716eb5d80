/-
  awake: the closed example with which every statement ends.
-/
import Derived.Test.YthgnbpiemkcdhaaGPath
namespace Go.Proofs.Ythgnbpiemkcdhaa
open Go.RowKit Go.Shelf
set_option linter.unusedVariables false

def exPs : List (Int × Int) := [(1, 2), (0, 1), (1, 2)]
def exQs : List (Int × Int) := [(0, 1), (1, 2)]
theorem ex_canon : Canon exPs exQs := by
  refine ⟨fun i j hij hj => ?_, fun e => ?_⟩
  · have h2 : j < 2 := hj
    rcases (show i = 0 ∧ j = 1 by omega) with ⟨rfl, rfl⟩
    decide
  · simp only [exQs, exPs, List.mem_cons, List.not_mem_nil, or_false]
    constructor
    · rintro (h | h) <;> simp [h]
    · rintro (h | h | h) <;> simp [h]
theorem ex_make : makeE 3 exPs = 0 := by decide
theorem ex_ok : gchk ((3 : Nat) : Int) exQs = 0 := by decide
theorem ex_found : 0 ≤ (foundP ((3 : Nat) : Int) exQs ((0 : Nat) : Int) ((2 : Nat) : Int)).1.getD ((2 : Nat) : Int).toNat 0 := by decide
theorem ex_path : (pathL ((3 : Nat) : Int) exQs ((0 : Nat) : Int) ((2 : Nat) : Int)).length = 3 := by decide
theorem ex_reach : (reachL ((3 : Nat) : Int) exQs [1]).length = 2 := by
  unfold reachL
  rw [List.length_mergeSort]
  decide

theorem make_ex (a : Option Addr) (c : Nat) (w : World) (hE : Edg w a c exPs) :
    Calls Try.prog 21 #[.int .i64 3, .slice a 3 c] w fun e w' => Below w.heap.size w w' ∧ ∃ a' c', Edg w' a' c' exQs ∧ e = .returned (.tuple #[.agg #[.int .i64 3, .slice a' 2 c'], .int .i64 0]) := by
  refine (make_any 3 a c exPs w (by decide) hE).mono ?_
  rintro e w' ⟨hb, ⟨h, _⟩ | ⟨_, qs, a', c', hc, _, hE', he⟩⟩
  · exact absurd ex_make h
  · obtain rfl := hc.unique ex_canon
    exact ⟨hb, a', c', hE', he⟩
theorem Own.slice {w : World} {base n : Nat} {v : Value} {zs : List Int} (h : Own w base v zs) (hn : zs.length = n) : ∃ a c, v = .slice a n c := by
  obtain ⟨a, c, e, _⟩ := h.shape
  exact ⟨a, c, by rw [e, hn]⟩
theorem path_ex (a : Option Addr) (c : Nat) (w : World) (hE : Edg w a c exQs) :
    Calls Try.prog 26 #[.agg #[.int .i64 3, .slice a 2 c], .int .i64 0, .int .i64 2] w fun e w' => Below w.heap.size w w' ∧ ∃ a' c', e = .returned (.tuple #[.slice a' 3 c', .bool true]) := by
  refine (path_good 3 a c exQs 0 2 w hE ex_ok (by omega) (by omega)).mono ?_
  intro e w' h
  unfold PathEnd at h
  rw [if_pos ex_found] at h
  obtain ⟨hb, r, he, hr⟩ := h
  obtain ⟨a', c', rfl⟩ := hr.slice ex_path
  exact ⟨hb, a', c', he⟩
theorem reach_ex (a : Option Addr) (c : Nat) (b : Option Addr) (d : Nat) (w : World) (hE : Edg w a c exQs) (hz : Ints w b [1]) :
    Calls Try.prog 23 #[.agg #[.int .i64 3, .slice a 2 c], .slice b 1 d] w fun e w' => Below w.heap.size w w' ∧ ∃ a' c', e = .returned (.slice a' 2 c') := by
  refine (reach_good 3 a c exQs b d [1] w hE ex_ok hz (by decide)).mono ?_
  rintro e w' ⟨r, rfl, hr, hb⟩
  obtain ⟨a', c', rfl⟩ := hr.slice ex_reach
  exact ⟨hb, a', c', rfl⟩

set_option maxHeartbeats 1600000 in
theorem awake_any (w : World) : Calls Try.prog 10 #[] w fun e w' => e = .returned (.bool true) ∧ Below w.heap.size w w' := by
  go_enter Try.func10, Try.ntmps10
  go_wp2_with fail
  refine (make_ex _ _ _ ⟨fun _ => ⟨_, _, rfl, fun i hi => ?_⟩, by decide, by unfold maxLen; decide, fun h => by cases h⟩).mono ?_
  · have h3 : i < 3 := hi
    rcases (show i = 0 ∨ i = 1 ∨ i = 2 by omega) with rfl | rfl | rfl
    · exact ⟨by simp [exPs, go_sem], by simp [exPs, go_sem]⟩
    · exact ⟨by simp [exPs, go_sem], by simp [exPs, go_sem]⟩
    · exact ⟨by simp [exPs, go_sem], by simp [exPs, go_sem]⟩
  rintro e w1 ⟨hb1, a1, k1, hE1, rfl⟩
  have hz1 : w.heap.size < w1.heap.size := by have := hb1.size; simp at this; omega
  have Hb1 := Lib.hid (((Below.refl w.heap.size w).alloc (Nat.le_refl _) _).trans (hb1.mono (by simp)))
  have HE1 := Lib.hid hE1
  clear hb1 hE1
  go_wp2_with fail
  have hE2 := HE1.out.below ((Below.refl w1.heap.size w1).alloc (Nat.le_refl _) (.cells #[.int .i64 3, .slice a1 2 k1] 24)) (Nat.le_refl _)
  refine (path_ex _ _ _ hE2).mono ?_
  rintro e w2 ⟨hb2, a2, k2, rfl⟩
  have hz2 : w1.heap.size < w2.heap.size := by have := hb2.size; simp at this; omega
  have g0 := (hb2.cell (p := ⟨w1.heap.size, 0, none⟩) (by simp)).trans (show _ = some (Value.int .i64 3) by simp)
  have g1 := (hb2.cell (p := ⟨w1.heap.size, 1, none⟩) (by simp)).trans (show _ = some (Value.slice a1 2 k1) by simp)
  have Hb2 := Lib.hid (((Below.refl w1.heap.size w1).alloc (Nat.le_refl _) (.cells #[.int .i64 3, .slice a1 2 k1] 24)).trans (hb2.mono (by simp)))
  clear hb2 hE2
  go_wp2_with fail
  have hE3 := HE1.out.below (Hb2.out.trans ((Below.refl w1.heap.size w2).alloc (Nat.le_of_lt hz2) (.cells #[.int .i64 1] 3))) (Nat.le_refl _)
  refine (reach_ex _ _ _ _ _ hE3 ?_).mono ?_
  · intro _
    refine ⟨_, _, rfl, fun i hi => ?_⟩
    have h1 : i < 1 := hi
    obtain rfl : i = 0 := by omega
    simp [go_sem]
  rintro e w3 ⟨hb3, a3, k3, rfl⟩
  have Hb3 := Lib.hid hb3
  clear hb3 hE3
  go_wp2
  go_ret
  exact ⟨rfl, ((Hb1.out.trans (Hb2.out.mono (Nat.le_of_lt hz1))).alloc (by omega) _).trans (Hb3.out.mono (by simp; omega))⟩
end Go.Proofs.Ythgnbpiemkcdhaa
