/-
  A list of loops in memory.
-/
import Derived.Test.YtcmliokkamgcdaaDLoop
namespace Go.Proofs.Ytcmliokkamgcdaa
open Go.RowKit Go.Shelf
set_option linter.unusedVariables false

theorem loop_info : (Try.prog.info? 49).map (fun i => (i.zero, i.size, i.bytes)) = some (some (.agg #[.int .i64 0, .slice none 0 0]), 2, 32) := by kernel_rfl
def cellsL : List (Nat × Value) → List Value
  | [] => []
  | e :: r => .int .i64 (e.1 : Int) :: e.2 :: cellsL r
theorem cellsL_append (a b : List (Nat × Value)) : cellsL (a ++ b) = cellsL a ++ cellsL b := by
  induction a with
  | nil => rfl
  | cons e r ih => simp [cellsL, ih]
theorem cellsL_len (a : List (Nat × Value)) : (cellsL a).length = a.length * 2 := by
  induction a with
  | nil => rfl
  | cons e r ih => simp only [cellsL, List.length_cons, ih]; omega
theorem cellsL_get (a : List (Nat × Value)) : ∀ i, i < a.length → (cellsL a)[i * 2]? = some (.int .i64 ((a.getD i (0, nl)).1 : Int)) ∧ (cellsL a)[i * 2 + 1]? = some (a.getD i (0, nl)).2 := by
  induction a with
  | nil => intro i hi; simp at hi
  | cons e r ih =>
    intro i hi
    cases i with
    | zero => exact ⟨rfl, rfl⟩
    | succ i =>
      have := ih i (by simpa using hi)
      rw [show (i + 1) * 2 = i * 2 + 1 + 1 by omega]
      simpa [cellsL] using this
def OwnL (w : World) (base : Nat) (v : Value) (vs : List (Nat × Value)) : Prop := w.ownsRow base 49 2 v vs.length (cellsL vs)
theorem ownL_ne {w : World} {b1 b2 : Nat} {v u : Value} {vs : List (Nat × Value)} {zs : List Int} (h : OwnL w b1 v vs) (h2 : Own w b2 u zs) : u.ownBlock = none ∨ u.ownBlock ≠ v.ownBlock := by
  rcases h2.2 with ⟨rfl, _⟩ | ⟨g, cap, cur, rfl, _, hh, _⟩
  · exact .inl rfl
  · rcases h.2 with ⟨rfl, _⟩ | ⟨g2, cap2, cur2, rfl, _, hh2, _⟩
    · exact .inr (by simp [Value.ownBlock])
    · refine .inr fun e => ?_
      have e2 : g = g2 := by simpa [Value.ownBlock] using e
      subst e2
      rw [hh] at hh2
      cases hh2
theorem getD_left {α : Type} (a b : List α) (d : α) (i : Nat) (h : i < a.length) : (a ++ b).getD i d = a.getD i d := by
  simp [List.getD_eq_getElem?_getD, List.getElem?_append_left h]
theorem getD_last {α : Type} (a : List α) (x d : α) (i : Nat) (h : i = a.length) : (a ++ [x]).getD i d = x := by
  subst h; simp [List.getD_eq_getElem?_getD]
theorem row_mono {w : World} {base b : Nat} {e : TypeId} {s : Nat} {v : Value} {n : Nat} {xs : List Value} (h : w.ownsRow base e s v n xs) (hb : b ≤ base) : w.ownsRow b e s v n xs := by
  obtain ⟨h1, h2⟩ := h
  refine ⟨h1, ?_⟩
  rcases h2 with h2 | ⟨g', cap', cur, hv, hb', hr⟩
  · exact .inl h2
  · exact .inr ⟨_, _, _, hv, Nat.le_trans hb hb', hr⟩
/-- The value v is a list of the loops L: heads and sorted nodes. -/
structure Lps (w : World) (base : Nat) (v : Value) (vs : List (Nat × Value)) (L : List (Nat × List Nat)) : Prop where
  own : OwnL w base v vs
  len : vs.length = L.length
  head : ∀ i, i < L.length → (vs.getD i (0, nl)).1 = (L.getD i (0, [])).1
  row : ∀ i, i < L.length → Own w base (vs.getD i (0, nl)).2 (sortN (L.getD i (0, [])).2)
section
variable {w w' : World} {base : Nat} {v : Value} {vs : List (Nat × Value)} {L : List (Nat × List Nat)}
theorem Lps.nil (w : World) (base : Nat) : Lps w base nl [] [] := ⟨World.ownsRow_nil _ _ _ _, rfl, fun i hi => by simp at hi, fun i hi => by simp at hi⟩
theorem ownsRow_belowL {B e s n : Nat} {xs : List Value} (h : w.ownsRow base e s v n xs) (hb : Below B w w') (hB : w.heap.size ≤ B) : w'.ownsRow base e s v n xs := by
  refine World.ownsRow.kept h (show w.grownBy w' none from grown_of_below (hb.mono hB)) ?_
  cases hv : v.ownBlock with
  | none => exact .inl rfl
  | some k => exact .inr (by simp)
theorem Lps.below {B : Nat} (h : Lps w base v vs L) (hb : Below B w w') (hB : w.heap.size ≤ B) : Lps w' base v vs L :=
  ⟨ownsRow_belowL h.own hb hB, h.len, h.head, fun i hi => (h.row i hi).below hb hB⟩
theorem Lps.alloc (h : Lps w base v vs L) (o : Obj) : Lps (w.alloc o) base v vs L :=
  ⟨World.ownsRow.alloc h.own o, h.len, h.head, fun i hi => (h.row i hi).alloc o⟩
theorem Lps.mono (h : Lps w base v vs L) {b : Nat} (hb : b ≤ base) : Lps w b v vs L := ⟨row_mono h.own hb, h.len, h.head, fun i hi => (h.row i hi).mono hb⟩
theorem Lps.push {g cap hd n : Nat} {r : Value} {zs : List Nat} (h : Lps w base v vs L) (hr : Own w base r (sortN zs)) (hn : n = vs.length + 1) (ho : OwnL w' base (.slice (some ⟨g, 0, none⟩) n cap) (vs ++ [(hd, r)])) (hg : w.grownBy w' v.ownBlock) :
    Lps w' base (.slice (some ⟨g, 0, none⟩) n cap) (vs ++ [(hd, r)]) (L ++ [(hd, zs)]) := by
  have hl := h.len
  refine ⟨ho, by simp [hl], fun i hi => ?_, fun i hi => ?_⟩
  · rw [List.length_append, List.length_singleton] at hi
    by_cases e : i < L.length
    · rw [getD_left _ _ _ _ (by omega), getD_left _ _ _ _ e]; exact h.head i e
    · have e : i = L.length := by omega
      subst e
      rw [getD_last _ _ _ _ hl.symm, getD_last _ _ _ _ rfl]
  · rw [List.length_append, List.length_singleton] at hi
    by_cases e : i < L.length
    · rw [getD_left _ _ _ _ (by omega), getD_left _ _ _ _ e]
      exact World.ownsRow.kept (h.row i e) hg (ownL_ne h.own (h.row i e))
    · have e : i = L.length := by omega
      subst e
      rw [getD_last _ _ _ _ hl.symm, getD_last _ _ _ _ rfl]
      exact World.ownsRow.kept hr hg (ownL_ne h.own hr)
end
/-- 'append(loops, x)' in a region of one order. -/
theorem wpList_append_loop {w : World} {ops : Array Oper} {rest : List Oper} {o : Oper} {a : Act} {Q : Exit → Act → World → Prop} (hg : o.guard = none) (s x : Operand)
    (hop : o.op = .call { callee := .builtin .append, args := #[s, x], argTypes := #[40, 40] }) (base : Nat) (v : Value) (vs : List (Nat × Value)) (n : Nat) (hn : vs.length = n) (hs : a.eval s = v) (hown : OwnL w base v vs)
    (B hd : Nat) (ra : Option Addr) (rl rc : Nat) (hx : a.eval x = .slice (some ⟨B, 0, none⟩) 1 1) (hc : w.cell? ⟨B, 0, none⟩ = some (.int .i64 (hd : Int))) (hc1 : w.cell? ⟨B, 1, none⟩ = some (.slice ra rl rc)) (hlen : n ≤ 100000) (hbase : base ≤ w.heap.size)
    (hK : ∀ g cap w', OwnL w' base (.slice (some ⟨g, 0, none⟩) (n + 1) cap) (vs ++ [(hd, .slice ra rl rc)]) → w.grownBy w' v.ownBlock → wpList Try.prog ops Q rest (a.put o.dst (.slice (some ⟨g, 0, none⟩) (n + 1) cap)) w') : wpList Try.prog ops Q (o :: rest) a w := by
  obtain ⟨i0, hi, hz0, hz1, hz2⟩ := info_parts loop_info
  subst hn
  refine wpList_append_lies w hg s x 40 hop base 49 i0 (.agg #[.int .i64 0, .slice none 0 0]) 2 32 Try.underlying40 hi hz0 hz1 hz2 rfl (by decide) v vs.length (cellsL vs) hs hown ⟨B, 0, none⟩ 1 1 [.int .i64 (hd : Int), .slice ra rl rc] hx rfl ?_ ?_ (by decide) ?_ (by omega) hbase _ rfl ?_
  · intro j u hj
    match j, hj with
    | 0, hj => simp at hj; subst hj; simpa [Addr.add] using hc
    | 1, hj => simp at hj; subst hj; simpa [Addr.add] using hc1
    | j + 2, hj => simp at hj
  · intro u hu
    simp at hu
    rcases hu with rfl | rfl <;> rfl
  · unfold maxLen; omega
  · intro g cap w' h1 h2 _ _
    refine hK g cap w' ?_ h2
    unfold OwnL
    rw [List.length_append, cellsL_append]
    exact h1
end Go.Proofs.Ytcmliokkamgcdaa
