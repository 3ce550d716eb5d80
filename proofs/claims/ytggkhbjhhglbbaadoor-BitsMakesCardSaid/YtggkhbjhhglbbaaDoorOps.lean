/-
  resized, Union, Minus, Both: new sets, word by word.
-/
import Derived.Test.YtggkhbjhhglbbaaDoorSimple
import Derived.Laws.CopyOwn
import Derived.WideShapes
namespace Go.Proofs.YtggkhbjhhglbbaaDoor
open Go.RowKit Go.WideShapes
set_option linter.unusedVariables false

theorem RowW.full {w : World} {base g : Nat} {ws : List Nat} (h : RowW w base g ws.length ws) : w.heap[g]? = some (.cells (wv ws).toArray 54 (0, 0)) := by
  rcases h.2 with ⟨h', _⟩ | ⟨g', cap', cur, h', _, hg, _, _, hcs, htake⟩
  · simp at h'
  · simp only [Value.slice.injEq, Option.some.injEq, Addr.mk.injEq, and_true, true_and] at h'
    obtain ⟨rfl, rfl⟩ := h'
    rw [List.take_of_length_le (by simp [hcs])] at htake
    rw [hg, ← htake]
theorem RowW.of_block {w : World} {base g : Nat} {ws : List Nat} (h : w.heap[g]? = some (.cells (wv ws).toArray 54 (0, 0))) (hb : base ≤ g) (hl : ws.length ≤ maxLen) : RowW w base g ws.length ws :=
  ⟨by simp [length_wv], .inr ⟨g, ws.length, (wv ws).toArray, rfl, hb, h, Nat.le_refl _, hl, by simp [length_wv], List.take_of_length_le (by simp [length_wv])⟩⟩
theorem RowW.trim {w : World} {base g cap : Nat} {ws : List Nat} (h : RowW w base g cap ws) : RowW w base g cap (trimL ws) := by
  have hl := tl_le ws
  rcases h with ⟨_, h2⟩
  refine ⟨by simp [length_wv], ?_⟩
  rcases h2 with ⟨h', _⟩ | ⟨g', cap', cur, h', hb, hg, hnc, hcm, hcs, htake⟩
  · simp at h'
  · simp only [Value.slice.injEq, Option.some.injEq, Addr.mk.injEq, and_true, true_and] at h'
    obtain ⟨rfl, rfl⟩ := h'
    refine .inr ⟨g, cap, cur, rfl, hb, hg, ?_, hcm, hcs, ?_⟩
    · rw [length_trimL]; omega
    · rw [length_trimL]
      have : (cur.toList.take (ws.length * 1)).take (tl ws * 1) = (wv ws).take (tl ws * 1) := by rw [htake]
      rw [List.take_take, Nat.min_eq_left (by omega)] at this
      rw [this]
      simp [wv, trimL, List.map_take]
theorem Words.trim {w : World} {a : Option Addr} {ws : List Nat} (h : Words w a ws) : Words w a (trimL ws) := fun h0 => by
  rw [length_trimL] at h0
  have hl := tl_le ws
  obtain ⟨b, off, rfl, hc⟩ := h (by omega)
  exact ⟨b, off, rfl, fun i hi => by rw [length_trimL] at hi; rw [getD_trimL]; exact hc i (by omega)⟩
theorem Words.drewN {w : World} {a : Option Addr} {ws : List Nat} (h : Words w a ws) (n : Nat) : Words (w.drewN n) a ws := h

/-- The words of a set, cut or filled up to n. -/
def sized (ws : List Nat) (n : Nat) : List Nat := tab n fun i => ws.getD i 0
theorem splice_words (ws : List Nat) (n : Nat) : splice (wv (List.replicate n 0)) 0 (wv (ws.take (min ws.length n))) = wv (sized ws n) := by
  have hl : (wv (ws.take (min ws.length n))).length = min ws.length n := by rw [length_wv, List.length_take]; omega
  unfold splice
  rw [hl, List.take_zero, List.nil_append, Nat.zero_add]
  apply List.ext_getElem
  · simp [wv, sized, tab]; omega
  · intro i h1 h2
    have hn : i < n := by simpa [wv, sized, tab] using h2
    by_cases c : i < ws.length
    · rw [List.getElem_append_left (by rw [hl]; omega)]
      simp [wv, sized, tab, c]
    · rw [List.getElem_append_right (by rw [hl]; omega)]
      simp [wv, sized, tab, c]

set_option maxHeartbeats 800000 in
theorem resized_any (a : Option Addr) (c n : Nat) (ws : List Nat) (w : World) (hn : ws.length ≤ 1100) (hnn : n ≤ 1100) (hz : Words w a ws) :
    Calls Tryd.prog 44 #[.slice a ws.length c, .int .i64 n] w fun e w' => e = .returned (.slice (some ⟨w.heap.size, 0, none⟩) n n) ∧
      RowW w' w.heap.size w.heap.size n (sized ws n) ∧ Below w.heap.size w w' := by
  obtain ⟨i0, hi0, hz0, hz1, hz2⟩ := info_parts word_info
  have Hz := Lib.hid hz
  clear hz
  go_enter Tryd.func44, Tryd.ntmps44
  go_wp2_with (at_make; refine wpList_make_full _ rfl _ _ 23 rfl w.heap.size 54 i0 (.int .u64 0) 1 Tryd.underlying23 hi0 hz0 hz1 _ _ _ _ n rfl rfl rfl rfl ?_ ?_ ?_ ?_)
  · rw [hz2]; omega
  · unfold maxLen; omega
  · exact Nat.le_refl _
  intro w1 hown hg
  have Hb := Lib.hid ((Below.refl _ _).grown hg (Nat.le_refl _) (fun k hk => by cases hk) : Below w.heap.size w w1)
  have hrow : RowW w1 w.heap.size w.heap.size n (List.replicate n 0) := by
    have e : wv (List.replicate n 0) = (madeCells #[Value.int .u64 0] n).toList := by
      rw [toList_madeCells_one]; simp [wv]
    unfold RowW
    rw [List.length_replicate, e]
    exact hown
  have hblk : w1.heap[w.heap.size]? = some (.cells (wv (List.replicate n 0)).toArray 54 (0, 0)) := RowW.full (ws := List.replicate n 0) (by rw [List.length_replicate]; exact hrow)
  have Hblk := Lib.hid hblk
  have Hz1 := Lib.hid (Hz.out.below Hb.out (Nat.le_refl _))
  clear hown hg hrow hblk
  go_wp2_with ((with_reducible refine wpList_copy_splice rfl _ _ 23 23 rfl 54 Tryd.underlying23 (by kernel_rfl) _ _ _ _ _ _ rfl rfl w.heap.size 0 (wv (List.replicate n 0)) 54 Hblk.out (wv (ws.take (min ws.length n))) ?_ ?_ ?_ ?_ w.heap.size w Hb.out (Nat.le_refl _) ?_))
  · rw [length_wv, List.length_take]; simp only [Nat.min_def]; split <;> split <;> omega
  · intro h0
    rw [length_wv, List.length_take] at h0
    obtain ⟨b, off, rfl, hc⟩ := Hz1.out (by omega)
    refine ⟨_, rfl, fun j u hj => ?_⟩
    rw [add_plain]
    have hj2 : j < min ws.length n := by
      have := (List.getElem?_eq_some_iff.1 hj).1
      rw [length_wv, List.length_take] at this; omega
    rw [hc j (by omega), ← hj]
    simp [wv, hj2, show j < ws.length from by omega]
  · rw [length_wv, length_wv, List.length_take, List.length_replicate]; omega
  · intro u hu
    simp only [wv, List.mem_map] at hu
    obtain ⟨x, _, rfl⟩ := hu
    rfl
  intro w2 hh hb2
  have Hr := Lib.hid (show RowW w2 w.heap.size w.heap.size n (sized ws n) by
    have h1 := hh.out
    rw [splice_words] at h1
    have := RowW.of_block (base := w.heap.size) h1 (Nat.le_refl _) (by rw [sized, length_tab]; unfold maxLen; omega)
    rw [sized, length_tab] at this
    exact this)
  have Hb2 := Lib.hid hb2
  clear hh hb2
  go_wp2
  go_ret
  exact ⟨rfl, Hr.out, Hb2.out⟩
theorem resized_at (a : Option Addr) (c n : Nat) (N : Int) (hN : N = (n : Int)) (ws : List Nat) (w : World) (hn : ws.length ≤ 1100) (hnn : n ≤ 1100) (hz : Words w a ws) :
    Calls Tryd.prog 44 #[.slice a ws.length c, .int .i64 N] w fun e w' => e = .returned (.slice (some ⟨w.heap.size, 0, none⟩) n n) ∧
      RowW w' w.heap.size w.heap.size n (sized ws n) ∧ Below w.heap.size w w' := by
  subst hN
  exact resized_any a c n ws w hn hnn hz
end Go.Proofs.YtggkhbjhhglbbaaDoor
