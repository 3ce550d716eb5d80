/-
  The algebra of sets of words: what the new sets have, and the laws between them. No Go program here.
-/
import Derived.Test.YtggkhbjhhglbbaaDoorGood
namespace Go.Proofs.YtggkhbjhhglbbaaDoor
set_option linter.unusedVariables false

theorem mem_unionL (wa wb : List Nat) (i : Nat) : mem (unionL wa wb) i = (mem wa i || mem wb i) := by
  unfold mem unionL
  rw [getD_tab]
  split
  · rw [Nat.testBit_or]
  · rw [tl_zero wa _ (by omega), tl_zero wb _ (by omega)]; simp
theorem mem_bothL (wa wb : List Nat) (i : Nat) : mem (bothL wa wb) i = (mem wa i && mem wb i) := by
  unfold bothL
  rw [mem_trimL]
  unfold mem
  rw [getD_tab]
  split
  · rw [Nat.testBit_and]
  · rcases (show tl wa ≤ i / 64 ∨ tl wb ≤ i / 64 by omega) with h | h
    · rw [tl_zero wa _ h]; simp
    · rw [tl_zero wb _ h]; simp
theorem mem_minusL {wa wb : List Nat} (ha : Wf wa) (hb : Wf wb) (i : Nat) : mem (minusL wa wb) i = (mem wa i && !mem wb i) := by
  unfold minusL
  rw [mem_trimL]
  unfold mem
  rw [getD_tab]
  split
  · rw [testBit_andNotN _ _ _ (hb _) (ha _)]
  · rw [tl_zero wa _ (by omega)]; simp
theorem or_ne_left {x y : Nat} (h : x ≠ 0) : x ||| y ≠ 0 := by
  intro e
  obtain ⟨i, hi⟩ := Nat.exists_testBit_of_ne_zero h
  have : (x ||| y).testBit i = false := by rw [e]; simp
  rw [Nat.testBit_or, hi] at this
  cases this
theorem or_ne_right {x y : Nat} (h : y ≠ 0) : x ||| y ≠ 0 := by rw [Nat.or_comm]; exact or_ne_left h
theorem normal_unionL (wa wb : List Nat) : Normal (unionL wa wb) := by
  rcases Nat.eq_zero_or_pos (max (tl wa) (tl wb)) with h | h
  · exact .inl (by rw [length_unionL, h])
  · refine .inr ?_
    rw [length_unionL]
    unfold unionL
    rw [getD_tab, if_pos (by omega)]
    rcases Nat.le_total (tl wa) (tl wb) with c | c
    · rw [Nat.max_eq_right c] at h ⊢
      exact or_ne_right ((tl_last wb).resolve_left (by omega))
    · rw [Nat.max_eq_left c] at h ⊢
      exact or_ne_left ((tl_last wa).resolve_left (by omega))
theorem normal_bothL (wa wb : List Nat) : Normal (bothL wa wb) := normal_trimL _
theorem normal_minusL (wa wb : List Nat) : Normal (minusL wa wb) := normal_trimL _
theorem wf_bothL {wa wb : List Nat} (ha : Wf wa) : Wf (bothL wa wb) := (wf_bothT _ ha).trimL
theorem wf_minusL {wa wb : List Nat} (ha : Wf wa) : Wf (minusL wa wb) := (wf_minusT _ ha).trimL

theorem union_comm_ {a b : List Nat} (ha : Wf a) (hb : Wf b) : unionL a b = unionL b a :=
  ext_normal (wf_unionL ha hb) (wf_unionL hb ha) (normal_unionL _ _) (normal_unionL _ _) fun i => by simp only [mem_unionL, Bool.or_comm]
theorem both_comm_ {a b : List Nat} (ha : Wf a) (hb : Wf b) : bothL a b = bothL b a :=
  ext_normal (wf_bothL ha) (wf_bothL hb) (normal_bothL _ _) (normal_bothL _ _) fun i => by simp only [mem_bothL, Bool.and_comm]
theorem union_assoc_ {a b c : List Nat} (ha : Wf a) (hb : Wf b) (hc : Wf c) : unionL (unionL a b) c = unionL a (unionL b c) :=
  ext_normal (wf_unionL (wf_unionL ha hb) hc) (wf_unionL ha (wf_unionL hb hc)) (normal_unionL _ _) (normal_unionL _ _) fun i => by simp only [mem_unionL, Bool.or_assoc]
theorem both_assoc_ {a b c : List Nat} (ha : Wf a) (hb : Wf b) (hc : Wf c) : bothL (bothL a b) c = bothL a (bothL b c) :=
  ext_normal (wf_bothL (wf_bothL ha)) (wf_bothL ha) (normal_bothL _ _) (normal_bothL _ _) fun i => by simp only [mem_bothL, Bool.and_assoc]
theorem both_union_ {a b c : List Nat} (ha : Wf a) (hb : Wf b) (hc : Wf c) : bothL a (unionL b c) = unionL (bothL a b) (bothL a c) :=
  ext_normal (wf_bothL ha) (wf_unionL (wf_bothL ha) (wf_bothL ha)) (normal_bothL _ _) (normal_unionL _ _) fun i => by simp only [mem_bothL, mem_unionL, Bool.and_or_distrib_left]
theorem union_both_ {a b c : List Nat} (ha : Wf a) (hb : Wf b) (hc : Wf c) : unionL a (bothL b c) = bothL (unionL a b) (unionL a c) :=
  ext_normal (wf_unionL ha (wf_bothL hb)) (wf_bothL (wf_unionL ha hb)) (normal_unionL _ _) (normal_bothL _ _) fun i => by simp only [mem_bothL, mem_unionL, Bool.or_and_distrib_left]
theorem minus_union_ {a b c : List Nat} (ha : Wf a) (hb : Wf b) (hc : Wf c) : minusL a (unionL b c) = minusL (minusL a b) c :=
  ext_normal (wf_minusL ha) (wf_minusL (wf_minusL ha)) (normal_minusL _ _) (normal_minusL _ _) fun i => by
    rw [mem_minusL ha (wf_unionL hb hc), mem_minusL (wf_minusL ha) hc, mem_minusL ha hb, mem_unionL]
    cases mem a i <;> cases mem b i <;> cases mem c i <;> rfl

/-- The number of elements, over any range that is large enough. -/
theorem card_eq (ws : List Nat) (N : Nat) (h : 64 * ws.length ≤ N) : (elems ws).length = (elemsTo ws N).length := by
  obtain ⟨k, rfl⟩ : ∃ k, N = 64 * ws.length + k := ⟨N - 64 * ws.length, by omega⟩
  clear h
  induction k with
  | zero => rfl
  | succ k ih =>
    rw [← Nat.add_assoc, elemsTo_succ, mem_out (by omega)]
    simpa using ih
theorem card_split (wa wb wu wx : List Nat) (hu : ∀ i, mem wu i = (mem wa i || mem wb i)) (hx : ∀ i, mem wx i = (mem wa i && mem wb i)) (N : Nat) :
    (elemsTo wu N).length + (elemsTo wx N).length = (elemsTo wa N).length + (elemsTo wb N).length := by
  induction N with
  | zero => rfl
  | succ n ih =>
    rw [elemsTo_succ, elemsTo_succ, elemsTo_succ, elemsTo_succ]
    simp only [List.length_append]
    rw [hu n, hx n]
    cases mem wa n <;> cases mem wb n <;> simp <;> omega
theorem card_ (wa wb : List Nat) (ha : wa.length ≤ 1100) (hb : wb.length ≤ 1100) : (elems (unionL wa wb)).length + (elems (bothL wa wb)).length = (elems wa).length + (elems wb).length := by
  have l1 : (unionL wa wb).length ≤ 1100 := by rw [length_unionL]; have := tl_le wa; have := tl_le wb; omega
  have l2 : (bothL wa wb).length ≤ 1100 := by
    rw [length_bothL]
    have := tl_le (tab (min (tl wa) (tl wb)) fun i => wa.getD i 0 &&& wb.getD i 0)
    rw [length_tab] at this
    have := tl_le wa
    omega
  rw [card_eq _ 70400 (by omega), card_eq _ 70400 (by omega), card_eq wa 70400 (by omega), card_eq wb 70400 (by omega)]
  exact card_split wa wb _ _ (mem_unionL wa wb) (mem_bothL wa wb) 70400

theorem andNot_zero {x y : Nat} (hx : x < 18446744073709551616) (hy : y < 18446744073709551616) : andNotN x y = 0 ↔ ∀ k, x.testBit k = true → y.testBit k = true := by
  constructor
  · intro h k hk
    have : (andNotN x y).testBit k = false := by rw [h]; simp
    rw [testBit_andNotN _ _ _ hy hx, hk] at this
    simpa using this
  · intro h
    apply Nat.eq_of_testBit_eq
    intro k
    rw [testBit_andNotN _ _ _ hy hx]
    cases hk : x.testBit k
    · simp
    · rw [h k hk]; simp
theorem withinB_iff {wa wb : List Nat} (ha : Wf wa) (hb : Wf wb) : withinB wa wb = true ↔ ∀ i, mem wa i = true → mem wb i = true := by
  constructor
  · intro h i hi
    unfold withinB at h
    rw [List.all_eq_true] at h
    have hl : i / 64 < wa.length := by
      rcases Nat.lt_or_ge (i / 64) wa.length with c | c
      · exact c
      · rw [mem_out (by omega)] at hi; cases hi
    have := of_decide_eq_true (h _ (List.mem_range.2 hl))
    exact (andNot_zero (ha _) (hb _)).1 this _ hi
  · intro h
    refine withinB_yes fun k _ => (andNot_zero (ha _) (hb _)).2 fun j hj => ?_
    rcases Nat.lt_or_ge j 64 with c | c
    · have := h (64 * k + j)
      unfold mem at this
      rw [show (64 * k + j) / 64 = k from by omega, show (64 * k + j) % 64 = j from by omega] at this
      exact this hj
    · rw [testBit_big (ha k) c] at hj; cases hj
theorem same_iff {wa wb : List Nat} (ha : Wf wa) (hb : Wf wb) : trimL wa = trimL wb ↔ ∀ i, mem wa i = mem wb i := by
  constructor
  · intro h i
    rw [← mem_trimL wa, ← mem_trimL wb, h]
  · intro h
    exact ext_normal ha.trimL hb.trimL (normal_trimL _) (normal_trimL _) fun i => by rw [mem_trimL, mem_trimL, h]
theorem within_same {wa wb : List Nat} (ha : Wf wa) (hb : Wf wb) : (withinB wa wb && withinB wb wa) = decide (trimL wa = trimL wb) := by
  rw [Bool.eq_iff_iff, Bool.and_eq_true, withinB_iff ha hb, withinB_iff hb ha, decide_eq_true_eq, same_iff ha hb]
  constructor
  · intro ⟨h1, h2⟩ i
    rw [Bool.eq_iff_iff]; exact ⟨h1 i, h2 i⟩
  · intro h
    exact ⟨fun i hi => by rw [← h]; exact hi, fun i hi => by rw [h]; exact hi⟩
theorem within_minus {wa wb : List Nat} (ha : Wf wa) (hb : Wf wb) : withinB wa wb = decide ((elems (minusL wa wb)).length = 0) := by
  rw [Bool.eq_iff_iff, withinB_iff ha hb, decide_eq_true_eq, List.length_eq_zero_iff]
  constructor
  · intro h
    rw [List.eq_nil_iff_forall_not_mem]
    intro i hi
    have := mem_elems.1 hi
    rw [mem_minusL ha hb] at this
    simp only [Bool.and_eq_true, Bool.not_eq_true'] at this
    rw [h i this.1] at this
    cases this.2
  · intro h i hi
    cases hm : mem wb i
    · have : i ∈ elems (minusL wa wb) := mem_elems.2 (by rw [mem_minusL ha hb, hi, hm]; rfl)
      rw [h] at this
      cases this
    · rfl
end Go.Proofs.YtggkhbjhhglbbaaDoor
