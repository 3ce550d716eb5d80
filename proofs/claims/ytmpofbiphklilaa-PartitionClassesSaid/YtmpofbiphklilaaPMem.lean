/-
  Words for memory: a row of ints that a call has made.
-/
import Derived.Test.YtmpofbiphklilaaPCheck
import Derived.Laws.OwnMore
import Derived.Laws.Rows
import Derived.DataReads
namespace Go.Proofs.Ytmpofbiphklilaa
open Go.RowKit
set_option linter.unusedVariables false

theorem int_info : (Try.prog.info? 3).map (fun i => (i.zero, i.size, i.bytes)) = some (some (.int .i64 0), 1, 8) := by kernel_rfl

/-- The slice value at block g owns the ints zs. -/
def Row (w : World) (base g cap : Nat) (zs : List Int) : Prop :=
  w.ownsRow base 3 1 (.slice (some ⟨g, 0, none⟩) zs.length cap) zs.length (zs.map (Value.int .i64))

section
variable {w w' : World} {base g cap : Nat} {zs : List Int}
theorem Row.cell (h : Row w base g cap zs) {i : Nat} (hi : i < zs.length) : w.cell? ⟨g, i, none⟩ = some (.int .i64 (zs.getD i 0)) := by
  rw [World.ownsRow.cellAt h i (by omega)]
  simp [hi]
theorem Row.free (h : Row w base g cap zs) (i : Nat) : w.frozen? ⟨g, i, none⟩ = false := World.ownsRow.frozenAt h i
theorem Row.set (h : Row w base g cap zs) (i : Nat) (z : Int) : Row (w.setCell ⟨g, i, none⟩ (.int .i64 z)) base g cap (zs.set i z) := by
  have := (World.ownsRow.stored h i (.int .i64 z)).1
  unfold Row
  rw [List.length_set, List.map_set]
  exact this
theorem Row.drewN (h : Row w base g cap zs) (n : Nat) : Row (w.drewN n) base g cap zs := h
theorem Row.alloc (h : Row w base g cap zs) (o : Obj) : Row (w.alloc o) base g cap zs := World.ownsRow.alloc h o
theorem Row.kept {row : Option Nat} (h : Row w base g cap zs) (hg : w.grownBy w' row) (hne : some g ≠ row) : Row w' base g cap zs :=
  World.ownsRow.kept h hg (.inr (by simpa [Value.ownBlock] using hne))
theorem Row.below {B : Nat} (h : Row w base g cap zs) (hb : Below B w w') (hg : g < B) : Row w' base g cap zs := by
  obtain ⟨h1, h2⟩ := h
  refine ⟨h1, ?_⟩
  rcases h2 with ⟨hv, _⟩ | ⟨g', cap', cur, hv, hb', hh, hr⟩
  · simp at hv
  · have e : g' = g := by simp at hv; exact hv.1.symm
    subst e
    exact .inr ⟨_, _, _, hv, hb', (hb.block _ hg).trans hh, hr⟩
theorem Row.lt (h : Row w base g cap zs) : base ≤ g ∧ g < w.heap.size := World.ownsRow.lt h g rfl
theorem Row.ints (h : Row w base g cap zs) : Ints w (some ⟨g, 0, none⟩) zs := fun _ => ⟨g, 0, rfl, fun i hi => by rw [Nat.zero_add]; exact h.cell hi⟩
theorem Row.mono (h : Row w base g cap zs) {base' : Nat} (hb : base' ≤ base) : Row w base' g cap zs := by
  obtain ⟨h1, h2⟩ := h
  refine ⟨h1, ?_⟩
  rcases h2 with ⟨hv, _⟩ | ⟨g', cap', cur, hv, hb', hr⟩
  · simp at hv
  · exact .inr ⟨_, _, _, hv, Nat.le_trans hb hb', hr⟩
end

/-- The value v is a slice of the call's own that holds the ints zs (nil, if there are none). -/
def Own (w : World) (base : Nat) (v : Value) (zs : List Int) : Prop := w.ownsRow base 3 1 v zs.length (zs.map (Value.int .i64))
section
variable {w w' : World} {base : Nat} {v : Value} {zs : List Int}
theorem Own.nil (w : World) (base : Nat) : Own w base (.slice none 0 0) [] := World.ownsRow_nil _ _ _ _
theorem Row.own {g cap : Nat} (h : Row w base g cap zs) : Own w base (.slice (some ⟨g, 0, none⟩) zs.length cap) zs := h
theorem Own.shape (h : Own w base v zs) : ∃ a c, v = .slice a zs.length c ∧ Ints w a zs := by
  rcases h.2 with ⟨rfl, hn⟩ | ⟨g, cap, cur, rfl, hb, hh, hr⟩
  · exact ⟨none, 0, by rw [hn], fun h0 => by omega⟩
  · exact ⟨_, _, rfl, Row.ints (base := base) (cap := cap) h⟩
theorem Own.drewN (h : Own w base v zs) (n : Nat) : Own (w.drewN n) base v zs := h
theorem Own.mono (h : Own w base v zs) {b : Nat} (hb : b ≤ base) : Own w b v zs := by
  obtain ⟨h1, h2⟩ := h
  refine ⟨h1, ?_⟩
  rcases h2 with h2 | ⟨g', cap', cur, hv, hb', hr⟩
  · exact .inl h2
  · exact .inr ⟨_, _, _, hv, Nat.le_trans hb hb', hr⟩
theorem Own.below {B : Nat} (h : Own w base v zs) (hb : Below B w w') (hB : w.heap.size ≤ B) : Own w' base v zs := by
  obtain ⟨h1, h2⟩ := h
  refine ⟨h1, ?_⟩
  rcases h2 with h2 | ⟨g', cap', cur, hv, hb', hh, hr⟩
  · exact .inl h2
  · refine .inr ⟨_, _, _, hv, hb', (hb.block _ ?_).trans hh, hr⟩
    rcases Nat.lt_or_ge g' w.heap.size with hlt | hge
    · omega
    · rw [Array.getElem?_eq_none hge] at hh; cases hh
theorem Own.append {w0 w1 : World} {o : Obj} {v' : Value} {z : Int} {m : Nat} (hown : Own w base v zs) (hm : m = zs.length + 1) (h' : w1.ownsRow base 3 1 v' m (zs.map (Value.int .i64) ++ [.int .i64 z]))
    (hg : (w.alloc o).grownBy w1 v.ownBlock) (hb : Below base w0 w) (hB : base ≤ w.heap.size) : Own w1 base v' (zs ++ [z]) ∧ Below base w0 w1 := by
  subst hm
  refine ⟨?_, (hb.alloc hB o).grown hg (by simp; omega) (fun k hk => (World.ownsRow.lt hown k hk).1)⟩
  unfold Own
  rw [List.length_append, List.map_append]
  exact h'
end
theorem Ints.below {w w' : World} {a : Option Addr} {zs : List Int} {B : Nat} (h : Ints w a zs) (hb : Below B w w') (hB : w.heap.size ≤ B) : Ints w' a zs := fun h0 => by
  obtain ⟨b, off, rfl, hc⟩ := h h0
  have hlt := World.block_lt_of_cell? w _ (hc 0 h0)
  exact ⟨b, off, rfl, fun i hi => (hb.cell (p := ⟨b, off + i, none⟩) (by simp at hlt; simp; omega)).trans (hc i hi)⟩

theorem Own.alloc {w : World} {base : Nat} {v : Value} {zs : List Int} (h : Own w base v zs) (o : Obj) : Own (w.alloc o) base v zs := World.ownsRow.alloc h o
/-- 'out = append(out, z)', out a slice of the call's own. -/
theorem wpList_append_int {w : World} {ops : Array Oper} {rest : List Oper} {o : Oper} {a : Act} {Q : Exit → Act → World → Prop} (hg : o.guard = none) (s x : Operand)
    (hop : o.op = .call { callee := .builtin .append, args := #[s, x], argTypes := #[22, 22] }) (base : Nat) (v : Value) (zs : List Int) (hs : a.eval s = v) (hown : Own w base v zs)
    (B : Nat) (z : Int) (hx : a.eval x = .slice (some ⟨B, 0, none⟩) 1 1) (hc : w.cell? ⟨B, 0, none⟩ = some (.int .i64 z)) (hlen : (zs.length + 1) * 8 ≤ 140737488355328) (hbase : base ≤ w.heap.size)
    (hK : ∀ v' w', Own w' base v' (zs ++ [z]) → w.grownBy w' v.ownBlock → wpList Try.prog ops Q rest (a.put o.dst v') w') : wpList Try.prog ops Q (o :: rest) a w := by
  obtain ⟨i0, hi, hz0, hz1, hz2⟩ := info_parts int_info
  refine wpList_append_own w hg s x 22 hop base 3 i0 (.int .i64 0) 1 8 Try.underlying22 hi hz0 hz1 hz2 rfl (by decide) v zs.length (zs.map (.int .i64)) hs hown ⟨B, 0, none⟩ 1 1 [.int .i64 z] hx rfl ?_ ?_ ?_ hlen hbase ?_
  · intro j u hj
    match j, hj with
    | 0, hj => simp at hj; subst hj; simpa [Addr.add] using hc
  · intro u hu; simp at hu; subst hu; rfl
  · unfold maxLen; omega
  · intro v' w' h1 h2 _
    refine hK v' w' ?_ h2
    unfold Own
    rw [List.length_append, List.map_append]
    exact h1
theorem Own.grown {w0 w w1 : World} {base : Nat} {v : Value} {zs : List Int} {o : Obj} (h : Own w base v zs) (hg : (w.alloc o).grownBy w1 v.ownBlock) (hb : Below base w0 w) (hB : base ≤ w.heap.size) : Below base w0 w1 :=
  (hb.alloc hB o).grown hg (by simp; omega) (fun k hk => (World.ownsRow.lt h k hk).1)

/-- Only block g has turned, and what is new. -/
theorem grown_trans {a b c : World} {g : Nat} (h : a.grownBy b (some g)) (k : b.grownBy c (some g)) : a.grownBy c (some g) :=
  ⟨k.os.trans h.os, k.tape.trans h.tape, k.output.trans h.output, Nat.le_trans h.size k.size, fun i hi hne => (k.block i (Nat.lt_of_lt_of_le hi h.size) hne).trans (h.block i hi hne)⟩
theorem grown_setCell (w : World) (g j : Nat) (u : Value) : w.grownBy (w.setCell ⟨g, j, none⟩ u) (some g) :=
  ⟨rfl, rfl, rfl, by simp [World.setCell], fun i _ hne => Below.heap_setCell w _ u i (by rintro rfl; exact hne rfl)⟩
theorem grown_drewN {a w : World} {row : Option Nat} (h : a.grownBy w row) (n : Nat) : a.grownBy (w.drewN n) row := ⟨h.os, h.tape, h.output, h.size, h.block⟩
end Go.Proofs.Ytmpofbiphklilaa
