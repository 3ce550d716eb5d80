/-
  Words for memory: slices that read as lists of ints, of pairs; rows that a call has made; the world but for draws.
-/
import Derived.Test.YtcmliokkamgcdaaRows
import Derived.WalkKit
import Derived.WalkSpells
import Derived.WalkLawsBesides
import Derived.Lib.Hide
import Derived.Deep.QuietTactic
import Derived.BigQuiet
import Derived.Laws.OwnMore
import Derived.Laws.Rows
import Derived.DataReads
import Derived.StillTailTactics
import Derived.Deep.AppendLies
import Derived.Deep.RegionLaw
import Derived.Deep.RegionHeld3
namespace Go.Proofs.Ytcmliokkamgcdaa
open Go.RowKit
set_option linter.unusedVariables false

/-- A slice value reads as a list of ints. -/
def Ints (w : World) (a : Option Addr) (zs : List Int) : Prop :=
  0 < zs.length → ∃ b off, a = some ⟨b, off, none⟩ ∧ ∀ i, i < zs.length → w.cell? ⟨b, off + i, none⟩ = some (.int .i64 (zs.getD i 0))

theorem Ints.drewN {w : World} {a : Option Addr} {zs : List Int} (h : Ints w a zs) (n : Nat) : Ints (w.drewN n) a zs := h
theorem ret_int {k : IntKind} {a b : Int} (h : a = b) : Ending.returned (.int k a) = .returned (.int k b) := by rw [h]
theorem ret_bool {a b : Bool} (h : a = b) : Ending.returned (.bool a) = .returned (.bool b) := by rw [h]

/-- The world is as it was but for draws. -/
def Drawn (w w' : World) : Prop := ∃ n, w' = w.drewN n
theorem Drawn.refl (w : World) : Drawn w w := ⟨0, rfl⟩
theorem Drawn.step {w w' : World} (h : Drawn w w') (n : Nat) : Drawn w (w'.drewN n) := by
  obtain ⟨m, rfl⟩ := h
  exact ⟨m + n, by simp⟩
theorem Drawn.trans {a b c : World} (h : Drawn a b) (k : Drawn b c) : Drawn a c := by
  obtain ⟨m, rfl⟩ := k
  exact h.step m
theorem Drawn.of_eq {w w' : World} (h : w = w') : Drawn w w' := by subst h; exact .refl _
theorem Drawn.below {w w' : World} (h : Drawn w w') (B : Nat) : Below B w w' := by
  obtain ⟨n, rfl⟩ := h
  exact ⟨rfl, rfl, rfl, Nat.le_refl _, fun _ _ => rfl⟩

theorem quiet_left {P : Program} {f : FuncId} {args : Array Value} {w : World} {n : Nat} {v : Value}
    (h : Calls P f args (w.drewN n) fun e w' => e = .returned v ∧ w.drewN n = w') : Calls P f args (w.drewN n) fun e w'' => e = .returned v ∧ ∃ m, w'' = w.drewN m :=
  h.mono fun _ _ ⟨he, hm⟩ => ⟨he, n, hm.symm⟩
theorem quiet_drawn {P : Program} {f : FuncId} {args : Array Value} {w : World} {n : Nat} {v : Value}
    (h : Calls P f args (w.drewN n) fun e w' => e = .returned v ∧ Drawn (w.drewN n) w') : Calls P f args (w.drewN n) fun e w'' => e = .returned v ∧ ∃ m, w'' = w.drewN m :=
  h.mono fun _ _ ⟨he, m, hm⟩ => ⟨he, n + m, by rw [hm, World.drewN_drewN]⟩

theorem int_info : (Try.prog.info? 3).map (fun i => (i.zero, i.size, i.bytes)) = some (some (.int .i64 0), 1, 8) := by kernel_rfl

/-- The slice value at block g owns the ints zs. -/
def Row (w : World) (base g cap : Nat) (zs : List Int) : Prop :=
  w.ownsRow base 3 1 (.slice (some ⟨g, 0, none⟩) zs.length cap) zs.length (zs.map (Value.int .i64))

section
variable {w w' : World} {base g cap : Nat} {zs : List Int}
theorem Row.cell (h : Row w base g cap zs) {i : Nat} (hi : i < zs.length) : w.cell? ⟨g, i, none⟩ = some (.int .i64 (zs.getD i 0)) := by
  rw [World.ownsRow.cellAt h i (by omega)]
  simp [hi]
theorem Row.free (h : Row w base g cap zs) (i : Nat) : w.frozen? ⟨g, i, none⟩ = false := World.ownsRow.frozenAt h i
theorem Row.set (h : Row w base g cap zs) (i : Nat) (z : Int) : Row (w.setCell ⟨g, i, none⟩ (.int .i64 z)) base g cap (zs.set i z) := by
  have := (World.ownsRow.stored h i (.int .i64 z)).1
  unfold Row
  rw [List.length_set, List.map_set]
  exact this
theorem Row.drewN (h : Row w base g cap zs) (n : Nat) : Row (w.drewN n) base g cap zs := h
theorem Row.alloc (h : Row w base g cap zs) (o : Obj) : Row (w.alloc o) base g cap zs := World.ownsRow.alloc h o
theorem Row.kept {row : Option Nat} (h : Row w base g cap zs) (hg : w.grownBy w' row) (hne : some g ≠ row) : Row w' base g cap zs :=
  World.ownsRow.kept h hg (.inr (by simpa [Value.ownBlock] using hne))
theorem Row.below {B : Nat} (h : Row w base g cap zs) (hb : Below B w w') (hg : g < B) : Row w' base g cap zs := by
  obtain ⟨h1, h2⟩ := h
  refine ⟨h1, ?_⟩
  rcases h2 with ⟨hv, _⟩ | ⟨g', cap', cur, hv, hb', hh, hr⟩
  · simp at hv
  · have e : g' = g := by simp at hv; exact hv.1.symm
    subst e
    exact .inr ⟨_, _, _, hv, hb', (hb.block _ hg).trans hh, hr⟩
theorem Row.lt (h : Row w base g cap zs) : base ≤ g ∧ g < w.heap.size := World.ownsRow.lt h g rfl
theorem Row.ints (h : Row w base g cap zs) : Ints w (some ⟨g, 0, none⟩) zs := fun _ => ⟨g, 0, rfl, fun i hi => by rw [Nat.zero_add]; exact h.cell hi⟩
theorem Row.mono (h : Row w base g cap zs) {base' : Nat} (hb : base' ≤ base) : Row w base' g cap zs := by
  obtain ⟨h1, h2⟩ := h
  refine ⟨h1, ?_⟩
  rcases h2 with ⟨hv, _⟩ | ⟨g', cap', cur, hv, hb', hr⟩
  · simp at hv
  · exact .inr ⟨_, _, _, hv, Nat.le_trans hb hb', hr⟩
end

/-- The value v is a slice of the call's own that holds the ints zs (nil, if there are none). -/
def Own (w : World) (base : Nat) (v : Value) (zs : List Int) : Prop := w.ownsRow base 3 1 v zs.length (zs.map (Value.int .i64))
section
variable {w w' : World} {base : Nat} {v : Value} {zs : List Int}
theorem Own.nil (w : World) (base : Nat) : Own w base (.slice none 0 0) [] := World.ownsRow_nil _ _ _ _
theorem Row.own {g cap : Nat} (h : Row w base g cap zs) : Own w base (.slice (some ⟨g, 0, none⟩) zs.length cap) zs := h
theorem Own.shape (h : Own w base v zs) : ∃ a c, v = .slice a zs.length c ∧ Ints w a zs := by
  rcases h.2 with ⟨rfl, hn⟩ | ⟨g, cap, cur, rfl, hb, hh, hr⟩
  · exact ⟨none, 0, by rw [hn], fun h0 => by omega⟩
  · exact ⟨_, _, rfl, Row.ints (base := base) (cap := cap) h⟩
theorem Own.drewN (h : Own w base v zs) (n : Nat) : Own (w.drewN n) base v zs := h
theorem Own.mono (h : Own w base v zs) {b : Nat} (hb : b ≤ base) : Own w b v zs := by
  obtain ⟨h1, h2⟩ := h
  refine ⟨h1, ?_⟩
  rcases h2 with h2 | ⟨g', cap', cur, hv, hb', hr⟩
  · exact .inl h2
  · exact .inr ⟨_, _, _, hv, Nat.le_trans hb hb', hr⟩
theorem Own.below {B : Nat} (h : Own w base v zs) (hb : Below B w w') (hB : w.heap.size ≤ B) : Own w' base v zs := by
  obtain ⟨h1, h2⟩ := h
  refine ⟨h1, ?_⟩
  rcases h2 with h2 | ⟨g', cap', cur, hv, hb', hh, hr⟩
  · exact .inl h2
  · refine .inr ⟨_, _, _, hv, hb', (hb.block _ ?_).trans hh, hr⟩
    rcases Nat.lt_or_ge g' w.heap.size with hlt | hge
    · omega
    · rw [Array.getElem?_eq_none hge] at hh; cases hh
theorem Own.append {w0 w1 : World} {o : Obj} {v' : Value} {z : Int} {m : Nat} (hown : Own w base v zs) (hm : m = zs.length + 1) (h' : w1.ownsRow base 3 1 v' m (zs.map (Value.int .i64) ++ [.int .i64 z]))
    (hg : (w.alloc o).grownBy w1 v.ownBlock) (hb : Below base w0 w) (hB : base ≤ w.heap.size) : Own w1 base v' (zs ++ [z]) ∧ Below base w0 w1 := by
  subst hm
  refine ⟨?_, (hb.alloc hB o).grown hg (by simp; omega) (fun k hk => (World.ownsRow.lt hown k hk).1)⟩
  unfold Own
  rw [List.length_append, List.map_append]
  exact h'
end
theorem Ints.below {w w' : World} {a : Option Addr} {zs : List Int} {B : Nat} (h : Ints w a zs) (hb : Below B w w') (hB : w.heap.size ≤ B) : Ints w' a zs := fun h0 => by
  obtain ⟨b, off, rfl, hc⟩ := h h0
  have hlt := World.block_lt_of_cell? w _ (hc 0 h0)
  exact ⟨b, off, rfl, fun i hi => (hb.cell (p := ⟨b, off + i, none⟩) (by simp at hlt; simp; omega)).trans (hc i hi)⟩

theorem Own.alloc {w : World} {base : Nat} {v : Value} {zs : List Int} (h : Own w base v zs) (o : Obj) : Own (w.alloc o) base v zs := World.ownsRow.alloc h o
/-- 'out = append(out, z)', out a slice of the call's own. -/
theorem wpList_append_int {w : World} {ops : Array Oper} {rest : List Oper} {o : Oper} {a : Act} {Q : Exit → Act → World → Prop} (hg : o.guard = none) (s x : Operand)
    (hop : o.op = .call { callee := .builtin .append, args := #[s, x], argTypes := #[25, 25] }) (base : Nat) (v : Value) (zs : List Int) (hs : a.eval s = v) (hown : Own w base v zs)
    (B : Nat) (z : Int) (hx : a.eval x = .slice (some ⟨B, 0, none⟩) 1 1) (hc : w.cell? ⟨B, 0, none⟩ = some (.int .i64 z)) (hlen : (zs.length + 1) * 8 ≤ 140737488355328) (hbase : base ≤ w.heap.size)
    (hK : ∀ v' w', Own w' base v' (zs ++ [z]) → w.grownBy w' v.ownBlock → wpList Try.prog ops Q rest (a.put o.dst v') w') : wpList Try.prog ops Q (o :: rest) a w := by
  obtain ⟨i0, hi, hz0, hz1, hz2⟩ := info_parts int_info
  refine wpList_append_own w hg s x 25 hop base 3 i0 (.int .i64 0) 1 8 Try.underlying25 hi hz0 hz1 hz2 rfl (by decide) v zs.length (zs.map (.int .i64)) hs hown ⟨B, 0, none⟩ 1 1 [.int .i64 z] hx rfl ?_ ?_ ?_ hlen hbase ?_
  · intro j u hj
    match j, hj with
    | 0, hj => simp at hj; subst hj; simpa [Addr.add] using hc
  · intro u hu; simp at hu; subst hu; rfl
  · unfold maxLen; omega
  · intro v' w' h1 h2 _
    refine hK v' w' ?_ h2
    unfold Own
    rw [List.length_append, List.map_append]
    exact h1
theorem Own.grown {w0 w w1 : World} {base : Nat} {v : Value} {zs : List Int} {o : Obj} (h : Own w base v zs) (hg : (w.alloc o).grownBy w1 v.ownBlock) (hb : Below base w0 w) (hB : base ≤ w.heap.size) : Below base w0 w1 :=
  (hb.alloc hB o).grown hg (by simp; omega) (fun k hk => (World.ownsRow.lt h k hk).1)

/-- Only block g has turned, and what is new. -/
theorem grown_trans {a b c : World} {g : Nat} (h : a.grownBy b (some g)) (k : b.grownBy c (some g)) : a.grownBy c (some g) :=
  ⟨k.os.trans h.os, k.tape.trans h.tape, k.output.trans h.output, Nat.le_trans h.size k.size, fun i hi hne => (k.block i (Nat.lt_of_lt_of_le hi h.size) hne).trans (h.block i hi hne)⟩
theorem grown_setCell (w : World) (g j : Nat) (u : Value) : w.grownBy (w.setCell ⟨g, j, none⟩ u) (some g) :=
  ⟨rfl, rfl, rfl, by simp [World.setCell], fun i _ hne => Below.heap_setCell w _ u i (by rintro rfl; exact hne rfl)⟩
theorem grown_drewN {a w : World} {row : Option Nat} (h : a.grownBy w row) (n : Nat) : a.grownBy (w.drewN n) row := ⟨h.os, h.tape, h.output, h.size, h.block⟩

/-- A region that draws its order, whose first n operations only read and whose tail is forced, walked in the order of the text. -/
theorem wp_region_tail {P : Program} {id : Nat} {Q : Exit → Act → World → Prop} {a : Act} {w : World} {l : List Oper} (n : Nat) (hm : P.follows .mixedOrders = true) (hB : Region.lexTailB .any l.toArray n = true)
    (h : wpStill P l.toArray w.drew (fun a' => wpList P l.toArray Q (l.drop n) a' w.drew) (l.take n) a) : (Code.region id l.toArray true).wp P Q a w :=
  wp_region_still_tail n hm hB h

/-- A slice value reads as a list of pairs of ints. -/
def Pairs (w : World) (a : Option Addr) (ps : List (Int × Int)) : Prop :=
  0 < ps.length → ∃ b off, a = some ⟨b, off, none⟩ ∧ ∀ i, i < ps.length → w.cell? ⟨b, off + i * 2, none⟩ = some (.int .i64 (ps.getD i (0, 0)).1) ∧ w.cell? ⟨b, off + i * 2 + 1, none⟩ = some (.int .i64 (ps.getD i (0, 0)).2)
theorem Pairs.drewN {w : World} {a : Option Addr} {ps : List (Int × Int)} (h : Pairs w a ps) (n : Nat) : Pairs (w.drewN n) a ps := h
theorem Pairs.below {w w' : World} {a : Option Addr} {ps : List (Int × Int)} {B : Nat} (h : Pairs w a ps) (hb : Below B w w') (hB : w.heap.size ≤ B) : Pairs w' a ps := fun h0 => by
  obtain ⟨b, off, rfl, hc⟩ := h h0
  have hlt := World.block_lt_of_cell? w _ (hc 0 h0).1
  simp at hlt
  exact ⟨b, off, rfl, fun i hi => ⟨(hb.cell (p := ⟨b, off + i * 2, none⟩) (by simp; omega)).trans (hc i hi).1, (hb.cell (p := ⟨b, off + i * 2 + 1, none⟩) (by simp; omega)).trans (hc i hi).2⟩⟩

theorem pair_info : (Try.prog.info? 52).map (fun i => (i.zero, i.size, i.bytes)) = some (some (.agg #[.int .i64 0, .int .i64 0]), 2, 16) := by kernel_rfl

def cellsOf2 : List (Int × Int) → List Value
  | [] => []
  | e :: r => .int .i64 e.1 :: .int .i64 e.2 :: cellsOf2 r
theorem length_cellsOf2 (ps : List (Int × Int)) : (cellsOf2 ps).length = ps.length * 2 := by
  induction ps with
  | nil => rfl
  | cons e r ih => simp only [cellsOf2, List.length_cons, ih]; omega
theorem cellsOf2_append (ps qs : List (Int × Int)) : cellsOf2 (ps ++ qs) = cellsOf2 ps ++ cellsOf2 qs := by
  induction ps with
  | nil => rfl
  | cons e r ih => simp only [List.cons_append, cellsOf2, ih]
theorem cellsOf2_at (ps : List (Int × Int)) : ∀ i, i < ps.length → (cellsOf2 ps)[i * 2]? = some (.int .i64 (ps.getD i (0, 0)).1) ∧ (cellsOf2 ps)[i * 2 + 1]? = some (.int .i64 (ps.getD i (0, 0)).2) := by
  induction ps with
  | nil => intro i hi; simp at hi
  | cons e r ih =>
    intro i hi
    cases i with
    | zero => simp [cellsOf2]
    | succ i =>
      have := ih i (by simpa using hi)
      rw [show (i + 1) * 2 = i * 2 + 1 + 1 from by omega]
      simpa [cellsOf2] using this

/-- The value v is a slice of the call's own that holds the pairs ps (nil, if there are none). -/
def OwnP (w : World) (base : Nat) (v : Value) (ps : List (Int × Int)) : Prop := w.ownsRow base 52 2 v ps.length (cellsOf2 ps)
section
variable {w w' : World} {base : Nat} {v : Value} {ps : List (Int × Int)}
theorem OwnP.nil (w : World) (base : Nat) : OwnP w base (.slice none 0 0) [] := World.ownsRow_nil _ _ _ _
theorem OwnP.alloc (h : OwnP w base v ps) (o : Obj) : OwnP (w.alloc o) base v ps := World.ownsRow.alloc h o
theorem OwnP.drewN (h : OwnP w base v ps) (n : Nat) : OwnP (w.drewN n) base v ps := h
theorem OwnP.drew (h : OwnP w base v ps) : OwnP w.drew base v ps := h
theorem OwnP.shape (h : OwnP w base v ps) : ∃ a c, v = .slice a ps.length c ∧ Pairs w a ps := by
  rcases h.2 with ⟨rfl, hn⟩ | ⟨g, cap, cur, rfl, hb, hh, hr⟩
  · exact ⟨none, 0, by rw [hn], fun h0 => by omega⟩
  · refine ⟨_, _, rfl, fun h0 => ⟨g, 0, rfl, fun i hi => ?_⟩⟩
    have hc := World.ownsRow.cells h (g := g) rfl
    have h2 := cellsOf2_at ps i hi
    exact ⟨by have := hc _ _ h2.1; rwa [Addr.add_lit] at this, by have := hc _ _ h2.2; rw [Nat.add_assoc]; rwa [Addr.add_lit] at this⟩
theorem OwnP.grown {w0 w1 : World} {o : Obj} (h : OwnP w base v ps) (hg : (w.alloc o).grownBy w1 v.ownBlock) (hb : Below base w0 w) (hB : base ≤ w.heap.size) : Below base w0 w1 :=
  (hb.alloc hB o).grown hg (by simp; omega) (fun k hk => (World.ownsRow.lt h k hk).1)
end
/-- 'out = append(out, e)', out a slice of edges of the call's own. -/
theorem wpList_append_pair {w : World} {ops : Array Oper} {rest : List Oper} {o : Oper} {a : Act} {Q : Exit → Act → World → Prop} (hg : o.guard = none) (s x : Operand)
    (hop : o.op = .call { callee := .builtin .append, args := #[s, x], argTypes := #[22, 22] }) (base : Nat) (v : Value) (ps : List (Int × Int)) (hs : a.eval s = v) (hown : OwnP w base v ps)
    (B : Nat) (e : Int × Int) (hx : a.eval x = .slice (some ⟨B, 0, none⟩) 1 1) (hc : w.cell? ⟨B, 0, none⟩ = some (.int .i64 e.1)) (hc2 : w.cell? ⟨B, 1, none⟩ = some (.int .i64 e.2)) (hlen : (ps.length + 1) * 16 ≤ 140737488355328) (hbase : base ≤ w.heap.size)
    (hK : ∀ v' w', OwnP w' base v' (ps ++ [e]) → w.grownBy w' v.ownBlock → wpList Try.prog ops Q rest (a.put o.dst v') w') : wpList Try.prog ops Q (o :: rest) a w := by
  obtain ⟨i0, hi, hz0, hz1, hz2⟩ := info_parts pair_info
  refine wpList_append_own w hg s x 22 hop base 52 i0 (.agg #[.int .i64 0, .int .i64 0]) 2 16 Try.underlying22 hi hz0 hz1 hz2 rfl (by decide) v ps.length (cellsOf2 ps) hs hown ⟨B, 0, none⟩ 1 1 [.int .i64 e.1, .int .i64 e.2] hx rfl ?_ ?_ ?_ hlen hbase ?_
  · intro j u hj
    match j, hj with
    | 0, hj => simp at hj; subst hj; simpa [Addr.add] using hc
    | 1, hj => simp at hj; subst hj; simpa [Addr.add] using hc2
  · intro u hu; simp at hu; rcases hu with rfl | rfl <;> rfl
  · unfold maxLen; omega
  · intro v' w' h1 h2 _
    refine hK v' w' ?_ h2
    unfold OwnP
    rw [List.length_append, cellsOf2_append]
    exact h1

/-- The same inside a region that draws its order. -/
theorem step_append_pair {w : World} {ops : Array Oper} {o : Oper} {a : Act} {K : Act → World → Prop} {Q : Exit → Act → World → Prop} {E : Prop} (hg : o.guard = none) (s x : Operand)
    (hop : o.op = .call { callee := .builtin .append, args := #[s, x], argTypes := #[22, 22] }) (base : Nat) (v : Value) (ps : List (Int × Int)) (hs : a.eval s = v) (hown : OwnP w base v ps)
    (B : Nat) (e : Int × Int) (hx : a.eval x = .slice (some ⟨B, 0, none⟩) 1 1) (hc : w.cell? ⟨B, 0, none⟩ = some (.int .i64 e.1)) (hc2 : w.cell? ⟨B, 1, none⟩ = some (.int .i64 e.2)) (hlen : (ps.length + 1) * 16 ≤ 140737488355328) (hbase : base ≤ w.heap.size)
    (hK : ∀ v' w', OwnP w' base v' (ps ++ [e]) → w.grownBy w' v.ownBlock → K (a.put o.dst v') w') : if Region.wanted o (yielded ops a.tmps) = true then Oper.wp Try.prog o a w K Q else E := by
  have hw : Region.wanted o (yielded ops a.tmps) = true := by simp [Region.wanted, hg]
  rw [if_pos hw]
  obtain ⟨i0, hi, hz0, hz1, hz2⟩ := info_parts pair_info
  refine wp_append_own w s x 22 hop base 52 i0 (.agg #[.int .i64 0, .int .i64 0]) 2 16 Try.underlying22 hi hz0 hz1 hz2 rfl (by decide) v ps.length (cellsOf2 ps) hs hown ⟨B, 0, none⟩ 1 1 [.int .i64 e.1, .int .i64 e.2] hx rfl ?_ ?_ ?_ hlen hbase ?_
  · intro j u hj
    match j, hj with
    | 0, hj => simp at hj; subst hj; simpa [Addr.add] using hc
    | 1, hj => simp at hj; subst hj; simpa [Addr.add] using hc2
  · intro u hu; simp at hu; rcases hu with rfl | rfl <;> rfl
  · unfold maxLen; omega
  · intro v' w' h1 h2 _
    refine hK v' w' ?_ h2
    unfold OwnP
    rw [List.length_append, cellsOf2_append]
    exact h1

end Go.Proofs.Ytcmliokkamgcdaa
