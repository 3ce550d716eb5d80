/-
  Results into which the caller may write.
-/
import Derived.Test.YtggkhbjhhglbbaaDoorChange
import Derived.Laws.AppendOwnNone
namespace Go.Proofs.YtggkhbjhhglbbaaDoor
open Go.RowKit Go.WideShapes
set_option linter.unusedVariables false

/-- The slice is nil, or a row of words of the call's own. -/
def WrV (w : World) (lo : Nat) (v : Value) : Prop := v = .slice none 0 0 ∨ ∃ g n c us, v = .slice (some ⟨g, 0, none⟩) n c ∧ us.length = n ∧ n ≤ 1100 ∧ RowW w lo g c us
theorem WrV.below {w w' : World} {lo B : Nat} {v : Value} (h : WrV w lo v) (hb : Below B w w') (hB : w.heap.size ≤ B) : WrV w' lo v := by
  rcases h with h | ⟨g, n, c, us, rfl, h1, h2, hr⟩
  · exact .inl h
  · exact .inr ⟨g, n, c, us, rfl, h1, h2, hr.below hb (Nat.lt_of_lt_of_le hr.lt.2 hB)⟩
theorem WrV.base {w : World} {lo lo' : Nat} {v : Value} (h : WrV w lo v) (hl : lo' ≤ lo) : WrV w lo' v := by
  rcases h with h | ⟨g, n, c, us, rfl, h1, h2, hr⟩
  · exact .inl h
  · exact .inr ⟨g, n, c, us, rfl, h1, h2, hr.mono hl⟩
theorem WrV.shape {w : World} {lo : Nat} {v : Value} (h : WrV w lo v) : ∃ ao n c, v = .slice ao n c := by
  rcases h with rfl | ⟨g, n, c, us, rfl, _⟩
  · exact ⟨_, _, _, rfl⟩
  · exact ⟨_, _, _, rfl⟩
theorem WrV.one {w : World} {lo : Nat} {v : Value} (h : WrV w lo v) : v.oneCell' = true := by
  rcases h with rfl | ⟨g, n, c, us, rfl, _⟩ <;> rfl
theorem WrV.store {w : World} {lo g k z : Nat} {v : Value} (h : WrV w lo v) : WrV (w.setCell ⟨g, k, none⟩ (.int .u64 (z : Nat))) lo v := by
  rcases h with h | ⟨g', n, c, us, rfl, h1, h2, hr⟩
  · exact .inl h
  · by_cases e : g' = g
    · subst e
      exact .inr ⟨g', n, c, us.set k z, rfl, by rw [List.length_set, h1], h2, hr.set k z⟩
    · exact .inr ⟨g', n, c, us, rfl, h1, h2, hr.kept (grown_setCell w g k _) (by simpa using e)⟩
theorem WrV.drewN {w : World} {lo : Nat} {v : Value} (h : WrV w lo v) (n : Nat) : WrV (w.drewN n) lo v := h

section
variable {a : Option Addr} {c : Nat} {wa : List Nat} {b : Option Addr} {d : Nat} {wb : List Nat} {w : World}
theorem union_w (h1 : Good w a c wa) (h2 : Good w b d wb) :
    Calls Tryd.prog 25 #[.slice a wa.length c, .slice b wb.length d] w fun e w' => ∃ v, e = .returned v ∧ WrV w' w.heap.size v ∧ Below w.heap.size w w' := by
  refine (union_core a c wa b d wb (max (tl wa) (tl wb)) (by omega) w h1.len h1.cap h1.max h1.wf h1.words h2.len h2.cap h2.max h2.wf h2.words).mono ?_
  rintro e w' ⟨g, rfl, hr, hb⟩
  have := tl_le wa; have := tl_le wb; have := h1.len; have := h2.len
  exact ⟨_, rfl, .inr ⟨g, _, _, _, rfl, length_unionL wa wb, by omega, hr⟩, hb⟩
theorem minus_w (h1 : Good w a c wa) (h2 : Good w b d wb) :
    Calls Tryd.prog 27 #[.slice a wa.length c, .slice b wb.length d] w fun e w' => ∃ v, e = .returned v ∧ WrV w' w.heap.size v ∧ Below w.heap.size w w' := by
  refine (minus_core a c wa b d wb (min (tl wa) wb.length) (by omega) w h1.len h1.cap h1.max h1.wf h1.words h2.len h2.cap h2.max h2.wf h2.words).mono ?_
  rintro e w' ⟨g, rfl, hr, hb⟩
  have := tl_le (tab (tl wa) fun i => andNotN (wa.getD i 0) (wb.getD i 0))
  rw [length_tab] at this
  have := tl_le wa; have := h1.len
  exact ⟨_, rfl, .inr ⟨g, _, _, _, rfl, length_minusL wa wb, by omega, hr⟩, hb⟩
theorem both_w (h1 : Good w a c wa) (h2 : Good w b d wb) :
    Calls Tryd.prog 29 #[.slice a wa.length c, .slice b wb.length d] w fun e w' => ∃ v, e = .returned v ∧ WrV w' w.heap.size v ∧ Below w.heap.size w w' := by
  refine (both_core a c wa b d wb (min (tl wa) (tl wb)) (by omega) w h1.len h1.cap h1.max h1.wf h1.words h2.len h2.cap h2.max h2.wf h2.words).mono ?_
  rintro e w' ⟨g, rfl, hr, hb⟩
  have := tl_le (tab (min (tl wa) (tl wb)) fun i => wa.getD i 0 &&& wb.getD i 0)
  rw [length_tab] at this
  have := tl_le wa; have := h1.len
  exact ⟨_, rfl, .inr ⟨g, _, _, _, rfl, length_bothL wa wb, by omega, hr⟩, hb⟩
theorem without_w {x : Int} (hx : x ≤ 9223372036854775807) (h : Good w a c wa) :
    Calls Tryd.prog 36 #[.slice a wa.length c, .int .i64 x] w fun e w' => ∃ v, e = .returned v ∧ WrV w' w.heap.size v ∧ Below w.heap.size w w' := by
  have hn : tl wa ≤ 1100 := by have := tl_le wa; have := h.len; omega
  have hs : (sized wa (tl wa)).length = tl wa := length_tab _ _
  have hs2 := tl_le (sized wa (tl wa))
  by_cases hneg : x < 0
  · refine (without_neg a c wa x hneg w h.len h.cap h.max h.wf h.words).mono ?_
    rintro e w' ⟨g, rfl, hr, hb⟩
    exact ⟨_, rfl, .inr ⟨g, _, _, _, rfl, length_trimL _, by omega, hr⟩, hb⟩
  · obtain ⟨m, rfl⟩ : ∃ m : Nat, x = m := ⟨x.toNat, by omega⟩
    by_cases hm : mem (sized wa (tl wa)) m = true
    · have hs3 := tl_le (setW andNotN wa (tl wa) m)
      have hs4 : (setW andNotN wa (tl wa) m).length = tl wa := by rw [setW, length_tab]
      refine (without_yes a c wa m (m / 64) (m % 64) (tl wa) rfl rfl rfl hm w h.len h.cap h.max h.wf h.words).mono ?_
      rintro e w' ⟨g, rfl, hr, hb⟩
      exact ⟨_, rfl, .inr ⟨g, _, _, _, rfl, length_trimL _, by omega, hr⟩, hb⟩
    · have hm2 : mem (sized wa (tl wa)) m = false := by simpa using hm
      refine (without_no a c wa m (by omega) hm2 w h.len h.cap h.max h.wf h.words).mono ?_
      rintro e w' ⟨g, rfl, hr, hb⟩
      exact ⟨_, rfl, .inr ⟨g, _, _, _, rfl, length_trimL _, by omega, hr⟩, hb⟩
theorem with_w {x : Int} (hx : x ≤ 9223372036854775807) (h : Good w a c wa) :
    Calls Tryd.prog 35 #[.slice a wa.length c, .int .i64 x] w fun e w' => ∃ v er, e = .returned (.tuple #[v, .int .i64 er]) ∧ WrV w' w.heap.size v ∧ Below w.heap.size w w' := by
  by_cases hbad : x < 0 ∨ 65536 ≤ x
  · refine (with_bad a wa.length c x w hbad).mono ?_
    rintro e w' ⟨rfl, rfl⟩
    exact ⟨_, _, rfl, .inl rfl, Below.refl _ _⟩
  · obtain ⟨m, rfl⟩ : ∃ m : Nat, x = m := ⟨x.toNat, by omega⟩
    obtain ⟨n, hcs⟩ : ∃ n, (tl wa < m / 64 + 1 ∧ n = m / 64 + 1) ∨ (m / 64 + 1 < tl wa ∧ n = tl wa) ∨ (tl wa = m / 64 + 1 ∧ n = m / 64 + 1) := by
      rcases Nat.lt_trichotomy (tl wa) (m / 64 + 1) with h1 | h1 | h1
      · exact ⟨_, .inl ⟨h1, rfl⟩⟩
      · exact ⟨_, .inr (.inr ⟨h1, rfl⟩)⟩
      · exact ⟨_, .inr (.inl ⟨h1, rfl⟩)⟩
    have hn : n ≤ 1100 := by have := tl_le wa; have := h.len; omega
    refine (with_core a c wa m (m / 64) (m % 64) n rfl rfl (by omega) hcs w h.len h.cap h.max h.wf h.words).mono ?_
    rintro e w' ⟨g, rfl, hr, hb⟩
    exact ⟨_, _, rfl, .inr ⟨g, _, _, _, rfl, length_tab _ _, hn, hr⟩, hb⟩
end

/-- 'append(api.Bits{}, a...)', a an argument: nil or not. -/
theorem wpList_append_words {w : World} {ops : Array Oper} {rest : List Oper} {o : Oper} {a : Act} {Q : Exit → Act → World → Prop} (hg : o.guard = none) (s x : Operand)
    (hop : o.op = .call { callee := .builtin .append, args := #[s, x], argTypes := #[23, 23] }) (base g : Nat) (hs : a.eval s = .slice (some ⟨g, 0, none⟩) 0 0)
    (hown : w.ownsRow base 54 1 (.slice (some ⟨g, 0, none⟩) 0 0) 0 []) (ad : Option Addr) (c : Nat) (us : List Nat) (hx : a.eval x = .slice ad us.length c) (hw : Words w ad us) (hnil : ad = none → c = 0) (hlen : us.length ≤ 1100) (hbase : base ≤ w.heap.size)
    (hK : ∀ v' w', OwnW w' base v' us → w.grownBy w' (some g) → wpList Tryd.prog ops Q rest (a.put o.dst v') w') : wpList Tryd.prog ops Q (o :: rest) a w := by
  obtain ⟨i0, hi, hz0, hz1, hz2⟩ := info_parts word_info
  cases ad with
  | none =>
    have hu : us = [] := by
      cases us with
      | nil => rfl
      | cons y r => obtain ⟨_, _, h, _⟩ := hw (by simp); cases h
    subst hu
    obtain rfl := hnil rfl
    exact wpList_append_own_none hg s x 23 hop base 54 i0 1 Tryd.underlying23 hi _ 0 [] hs hown hx (hK _ _ hown (World.grownBy.refl _ _))
  | some ad =>
    refine wpList_append_own w hg s x 23 hop base 54 i0 (.int .u64 0) 1 8 Tryd.underlying23 hi hz0 hz1 hz2 rfl (by decide) _ 0 [] hs hown ad us.length c (wv us) hx (by rw [length_wv]; omega) ?_ ?_ ?_ ?_ hbase ?_
    · intro j u hj
      have hj2 : j < us.length := by
        have := (List.getElem?_eq_some_iff.1 hj).1
        rwa [length_wv] at this
      obtain ⟨b, off, he, hc⟩ := hw (by omega)
      cases he
      rw [add_plain, hc j hj2, ← hj, wv_at us j hj2]
    · intro u hu
      simp only [wv, List.mem_map] at hu
      obtain ⟨y, _, rfl⟩ := hu
      rfl
    · unfold maxLen; omega
    · omega
    · intro v' w' h1 h2 _
      refine hK v' w' ?_ h2
      unfold OwnW
      rw [Nat.zero_add, List.nil_append] at h1
      exact h1
theorem slice_info : (Tryd.prog.info? 22).map (fun i => (i.zero, i.size, i.bytes)) = some (some (.slice none 0 0), 1, 24) := by kernel_rfl
/-- The row of the results. -/
def RowS (w : World) (base G cap : Nat) (vs : List Value) : Prop := w.ownsRow base 22 1 (.slice (some ⟨G, 0, none⟩) vs.length cap) vs.length vs
theorem RowS.ne {w : World} {base lo G cap g c : Nat} {vs : List Value} {us : List Nat} (h : RowS w base G cap vs) (hr : RowW w lo g c us) : G ≠ g := by
  rintro rfl
  rcases h.2 with ⟨h1, _⟩ | ⟨g1, cap1, cur1, e1, _, hh1, _⟩
  · cases h1
  · rcases hr.2 with ⟨h2, _⟩ | ⟨g2, cap2, cur2, e2, _, hh2, _⟩
    · cases h2
    · simp only [Value.slice.injEq, Option.some.injEq, Addr.mk.injEq, and_true, true_and] at e1 e2
      obtain ⟨rfl, _⟩ := e1
      obtain ⟨rfl, _⟩ := e2
      rw [hh1] at hh2
      simp at hh2
theorem WrV.kept {w w' : World} {base lo G cap : Nat} {vs : List Value} {v : Value} (h : WrV w lo v) (hg : w.grownBy w' (some G)) (hR : RowS w base G cap vs) : WrV w' lo v := by
  rcases h with h | ⟨g, n, c, us, rfl, h1, h2, hr⟩
  · exact .inl h
  · exact .inr ⟨g, n, c, us, rfl, h1, h2, hr.kept hg (by have := hR.ne hr; simpa using fun e => this e.symm)⟩
theorem RowS.cell {w : World} {base G cap i : Nat} {vs : List Value} (h : RowS w base G cap vs) (hi : i < vs.length) : w.cell? ⟨G, i, none⟩ = vs[i]? := World.ownsRow.cellAt h i (by omega)
theorem RowS.store {w : World} {base G cap g k : Nat} {vs : List Value} {u : Value} (h : RowS w base G cap vs) (hne : G ≠ g) : RowS (w.setCell ⟨g, k, none⟩ u) base G cap vs :=
  World.ownsRow.kept h (grown_setCell w g k u) (.inr (by simpa [Value.ownBlock] using hne))
theorem RowS.drewN {w : World} {base G cap : Nat} {vs : List Value} (h : RowS w base G cap vs) (n : Nat) : RowS (w.drewN n) base G cap vs := h
theorem RowS.below {w w' : World} {base G cap B : Nat} {vs : List Value} (h : RowS w base G cap vs) (hb : Below B w w') (hB : w.heap.size ≤ B) : RowS w' base G cap vs := by
  have hlt := (World.ownsRow.lt h G rfl).2
  obtain ⟨h1, h2⟩ := h
  refine ⟨h1, ?_⟩
  rcases h2 with ⟨hv, _⟩ | ⟨g', cap', cur, hv, hb', hh, hr⟩
  · cases hv
  · have e : g' = G := by simp only [Value.slice.injEq, Option.some.injEq, Addr.mk.injEq, and_true, true_and] at hv; exact hv.1.symm
    subst e
    exact .inr ⟨_, _, _, hv, hb', (hb.block _ (Nat.lt_of_lt_of_le hlt hB)).trans hh, hr⟩
theorem rowS_made (w : World) (a b c d : Value) : RowS (w.alloc (.cells #[a, b, c, d] 22)) w.heap.size w.heap.size 4 [a, b, c, d] :=
  ⟨rfl, .inr ⟨_, 4, #[a, b, c, d], rfl, Nat.le_refl _, by first | (simp; done) | (unfold World.alloc; simp), Nat.le_refl _, by unfold maxLen; omega, rfl, rfl⟩⟩
theorem alloc_headV (w : World) (v : Value) (t : TypeId) : (w.alloc (Obj.cells #[v] t)).cell? ⟨w.heap.size, 0, none⟩ = some v := by simp [go_sem]
/-- 'l = append(l, v)', l the row of the results. -/
theorem wpList_append_res {w : World} {ops : Array Oper} {rest : List Oper} {o : Oper} {a : Act} {Q : Exit → Act → World → Prop} (hg : o.guard = none) (s x : Operand)
    (hop : o.op = .call { callee := .builtin .append, args := #[s, x], argTypes := #[53, 53] }) (base G cap : Nat) (vs : List Value) (hs : a.eval s = .slice (some ⟨G, 0, none⟩) vs.length cap) (hown : RowS w base G cap vs)
    (B : Nat) (u : Value) (hx : a.eval x = .slice (some ⟨B, 0, none⟩) 1 1) (hc : w.cell? ⟨B, 0, none⟩ = some u) (hu : u.oneCell' = true) (hlen : vs.length ≤ 100) (hbase : base ≤ w.heap.size)
    (hK : ∀ G' cap' w', RowS w' base G' cap' (vs ++ [u]) → w.grownBy w' (some G) → wpList Tryd.prog ops Q rest (a.put o.dst (.slice (some ⟨G', 0, none⟩) (vs ++ [u]).length cap')) w') : wpList Tryd.prog ops Q (o :: rest) a w := by
  obtain ⟨i0, hi, hz0, hz1, hz2⟩ := info_parts slice_info
  refine wpList_append_own w hg s x 53 hop base 22 i0 (.slice none 0 0) 1 24 Tryd.underlying53 hi hz0 hz1 hz2 rfl (by decide) _ vs.length vs hs hown ⟨B, 0, none⟩ 1 1 [u] hx rfl ?_ ?_ ?_ ?_ hbase ?_
  · intro j v hj
    match j, hj with
    | 0, hj => simp at hj; subst hj; simpa [Addr.add] using hc
  · intro v hv; simp at hv; subst hv; exact hu
  · unfold maxLen; omega
  · omega
  · intro v' w' h1 h2 _
    have h1' : w'.ownsRow base 22 1 v' (vs ++ [u]).length (vs ++ [u]) := by rw [List.length_append]; exact h1
    rcases h1'.2 with ⟨_, hn⟩ | ⟨G', cap', cur, rfl, _⟩
    · rw [List.length_append] at hn; simp at hn
    · exact hK G' cap' w' h1' h2
end Go.Proofs.YtggkhbjhhglbbaaDoor
