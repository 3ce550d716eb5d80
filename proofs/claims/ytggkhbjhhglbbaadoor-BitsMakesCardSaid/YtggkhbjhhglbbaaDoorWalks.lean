/-
  BitsWalks: the walk of the law.
-/
import Derived.Test.YtggkhbjhhglbbaaDoorList
namespace Go.Proofs.YtggkhbjhhglbbaaDoor
open Go.RowKit Go.WideShapes
set_option linter.unusedVariables false

theorem asc_getD {l : List Nat} (h : Asc l) {i j : Nat} (hij : i < j) (hj : j < l.length) : l.getD i 0 < l.getD j 0 := by
  have := List.pairwise_iff_getElem.1 h i j (by omega) hj hij
  simpa [List.getD_eq_getElem?_getD, hj, show i < l.length from by omega] using this
theorem getD_mem {l : List Nat} {i : Nat} (h : i < l.length) : l.getD i 0 ∈ l := by
  simp [List.getD_eq_getElem?_getD, h]
theorem mem_getD {l : List Nat} {x : Nat} (h : x ∈ l) : ∃ i, i < l.length ∧ l.getD i 0 = x := by
  obtain ⟨i, hi, e⟩ := List.getElem_of_mem h
  exact ⟨i, hi, by simp [List.getD_eq_getElem?_getD, hi, e]⟩
/-- The element before index k, or -1. -/
def prevX (l : List Nat) : Nat → Int
  | 0 => -1
  | k + 1 => (l.getD k 0 : Nat)
theorem next_walk {ws : List Nat} {k : Nat} (hk : k < (elems ws).length) : nextS ws (prevX (elems ws) k + 1) = ((elems ws).getD k 0 : Nat) := by
  refine nextS_of (.inr ⟨_, rfl, mem_elems.1 (getD_mem hk), ?_, fun i hi hx => ?_⟩)
  · cases k with
    | zero => simp only [prevX]; omega
    | succ k => have := asc_getD (asc_elems ws) (i := k) (j := k + 1) (by omega) hk; simp only [prevX]; omega
  · obtain ⟨j, hj, rfl⟩ := mem_getD (mem_elems.2 hi)
    rcases Nat.lt_trichotomy j k with c | c | c
    · exfalso
      cases k with
      | zero => omega
      | succ k =>
        simp only [prevX] at hx
        rcases Nat.lt_or_ge j k with c2 | c2
        · have := asc_getD (asc_elems ws) c2 (by omega); omega
        · rw [show j = k from by omega] at hx; omega
    · subst c; exact Nat.le_refl _
    · exact Nat.le_of_lt (asc_getD (asc_elems ws) c hj)
theorem next_end {ws : List Nat} : nextS ws (prevX (elems ws) (elems ws).length + 1) = -1 := by
  refine nextS_of (.inl ⟨rfl, fun i hi => ?_⟩)
  obtain ⟨j, hj, rfl⟩ := mem_getD (mem_elems.2 hi)
  obtain ⟨k, hk⟩ : ∃ k, (elems ws).length = k + 1 := ⟨(elems ws).length - 1, by omega⟩
  rw [hk]
  simp only [prevX]
  rcases Nat.lt_or_ge j k with c | c
  · have := asc_getD (asc_elems ws) c (by omega); omega
  · rw [show j = k from by omega]; omega
theorem elem_bound {ws : List Nat} {x : Nat} (h : mem ws x = true) (hl : ws.length ≤ 1100) : x < 70400 := by
  rcases Nat.lt_or_ge x 70400 with c | c
  · exact c
  · rw [mem_out (by omega)] at h; cases h
theorem prev_bound {ws : List Nat} {k : Nat} (hl : ws.length ≤ 1100) (hk : k ≤ (elems ws).length) : -1 ≤ prevX (elems ws) k ∧ prevX (elems ws) k < 70400 := by
  cases k with
  | zero => simp only [prevX]; omega
  | succ k =>
    have := elem_bound (mem_elems.1 (getD_mem (l := elems ws) (i := k) (by omega))) hl
    simp only [prevX]; omega

set_option maxHeartbeats 3200000 in
set_option maxRecDepth 100000 in
theorem walks_small {b : Option Addr} {cb : Nat} {wb : List Nat} {w : World} (gb : Good w b cb wb) (hT : Tz w) :
    Calls Tryd.prog 8 #[.slice b wb.length cb] w fun e w' => e = .returned (.bool true) ∧ Below w.heap.size w w' := by
  have G_0 := Lib.hid gb
  have HT_0 := Lib.hid hT
  have lb := gb.len
  have Fb := Lib.hid gb.wf
  have hcl : (elems wb).length ≤ 70400 := by have := length_elemsTo_le wb (64 * wb.length); unfold elems; omega
  obtain ⟨n, hne⟩ : ∃ n, (elems wb).length = n := ⟨_, rfl⟩
  have Hn := Lib.hid hne
  rw [hne] at hcl
  clear gb hT hne
  go_enter Tryd.func8, Tryd.ntmps8
  go_wp2_with fail
  refine (list_any G_0.out HT_0.out).mono ?_
  rintro e w1 ⟨v, rfl, hown, hbn⟩
  obtain ⟨al, cl, hv, hil⟩ := hown.shape
  rw [length_asInts, Hn.out] at hv
  subst hv
  have Hil := Lib.hid hil
  have G_1 := Lib.hid (G_0.out.below hbn (Nat.le_refl _))
  have HT_1 := Lib.hid (HT_0.out.below hbn (Nat.le_refl _))
  have HB_1 := Lib.hid hbn
  clear hown hil hbn
  go_wp2_with fail
  refine (count_g G_1.out).mono ?_
  rw [Hn.out]
  rintro e w' ⟨rfl, rfl⟩
  go_wp2_with fail
  go_loopw [4, 5] (fun x i wr => ∃ k : Nat, k ≤ n ∧ i = .int .i64 k ∧ x = .int .i64 (prevX (elems wb) k) ∧ Drawn w1 wr) (fun _ i _ => n - (intOf i).toNat)
  case atStart => exact ⟨0, Nat.zero_le _, rfl, rfl, .refl _⟩
  case round =>
    obtain ⟨k, hk, rfl, rfl, nw, rfl⟩ := hrel
    obtain ⟨hp1, hp2⟩ := prev_bound (ws := wb) (k := k) lb (by rw [Hn.out]; exact hk)
    have G_2 := Lib.hid (G_1.out.below (Drawn.below ⟨nw, rfl⟩ _) (Nat.le_refl _) : Good (w1.drewN nw) b cb wb)
    have HT_2 := Lib.hid (HT_1.out.below (Drawn.below ⟨nw, rfl⟩ _) (Nat.le_refl _) : Tz (w1.drewN nw))
    by_cases hlt : k < n
    · obtain ⟨bl, off, rfl, hcell⟩ := Hil.out (by rw [length_asInts, Hn.out]; omega)
      have ck := hcell k (by rw [length_asInts, Hn.out]; omega)
      rw [getD_asInts] at ck
      have HN := Lib.hid (next_walk (ws := wb) (k := k) (by rw [Hn.out]; exact hlt))
      have HM := Lib.hid (mem_elems.1 (getD_mem (l := elems wb) (i := k) (by rw [Hn.out]; exact hlt)))
      have hmb := elem_bound HM.out lb
      have Hrel := Lib.hid (show prevX (elems wb) (k + 1) = ((elems wb).getD k 0 : Nat) from rfl)
      clear hcell
      generalize prevX (elems wb) k = p at *
      generalize (elems wb).getD k 0 = m at *
      go_wp2_with fail
      refine (next_any b cb wb (p + 1) _ (by omega) lb Fb.out G_2.out.words HT_2.out).mono ?_
      rw [HN.out]
      rintro e w' ⟨rfl, rfl⟩
      go_wp2_with fail
      refine (has_any b cb wb m _ (by omega) lb Fb.out G_2.out.words).mono ?_
      rw [HM.out]
      rintro e w' ⟨rfl, rfl⟩
      go_wp2_with fail
      go_roundw
      case rel => exact ⟨k + 1, by omega, by go_num, by rw [Hrel.out], ⟨_, rfl⟩⟩
      case measure => simp [intOf]; omega
    · obtain rfl : k = n := by omega
      have HN := Lib.hid (next_end (ws := wb))
      rw [Hn.out] at HN
      generalize prevX (elems wb) k = p at *
      go_wp2_with fail
      refine (next_any b cb wb (p + 1) _ (by omega) lb Fb.out G_2.out.words HT_2.out).mono ?_
      rw [HN.out]
      rintro e w' ⟨rfl, rfl⟩
      go_wp2_with fail
      refine (awake_any _ HT_2.out).mono ?_
      rintro e wz ⟨rfl, hbz⟩
      go_wp2_with fail
      go_ret
      have hb2 : Below w.heap.size w (w1.drewN nw) := HB_1.out.trans (Drawn.below ⟨nw, rfl⟩ _)
      exact ⟨rfl, hb2.trans (hbz.mono hb2.size)⟩

set_option maxHeartbeats 800000 in
theorem walks_any (b : Option Addr) (cb : Nat) (wb : List Nat) (w : World) (h1 : wb.length ≤ cb ∧ cb ≤ maxLen ∧ Wf wb) (g1 : Words w b wb) (hT : Tz w) :
    Calls Tryd.prog 8 #[.slice b wb.length cb] w fun e w' => e = .returned (.bool true) ∧ Below w.heap.size w w' := by
  by_cases hs : wb.length ≤ 1100
  · exact walks_small ⟨hs, h1.1, h1.2.1, h1.2.2, g1⟩ hT
  · have HT := Lib.hid hT
    have l1 := h1.1
    have m1 := h1.2.1
    unfold maxLen at m1
    have c1 : 1100 < wb.length := by omega
    clear h1 g1 hT hs
    go_enter Tryd.func8, Tryd.ntmps8
    go_wp2_with (go_at_call 10; refine (awake_any _ HT.out).mono ?_; rintro e w' ⟨rfl, hb⟩)
    go_ret
    exact ⟨rfl, hb⟩
end Go.Proofs.YtggkhbjhhglbbaaDoor
