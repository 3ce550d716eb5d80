/-
  Slices of tokens in memory; the text's tokens and where a range over it stands.
-/
import Derived.Test.YtmnfonhfbolnkaaDoorROne
import Derived.Lib.OthersKept
import Derived.Laws.OwnMore
import Derived.Laws.Rows
namespace Go.Proofs.YtmnfonhfbolnkaaDoor
open Go.RowKit
set_option linter.unusedVariables false

theorem tok_info : (Tryd.prog.info? 30).map (fun i => (i.zero, i.size, i.bytes)) = some (some (.agg #[.int .i64 0, .int .i64 0, .string ⟨#[]⟩, .int .i64 0]), 4, 40) := by kernel_rfl

def cellsOfT : List Tok → List Value
  | [] => []
  | e :: r => .int .i64 e.k :: .int .i64 (e.a : Int) :: .string e.t :: .int .i64 e.n :: cellsOfT r
theorem length_cellsOfT (ps : List Tok) : (cellsOfT ps).length = ps.length * 4 := by
  induction ps with
  | nil => rfl
  | cons e r ih => simp only [cellsOfT, List.length_cons, ih]; omega
theorem cellsOfT_append (ps qs : List Tok) : cellsOfT (ps ++ qs) = cellsOfT ps ++ cellsOfT qs := by
  induction ps with
  | nil => rfl
  | cons e r ih => simp only [List.cons_append, cellsOfT, ih]
def tokD : Tok := ⟨0, 0, ⟨#[]⟩, 0⟩
theorem cellsOfT_at (ps : List Tok) : ∀ i, i < ps.length → (cellsOfT ps)[i * 4]? = some (.int .i64 (ps.getD i tokD).k) ∧ (cellsOfT ps)[i * 4 + 1]? = some (.int .i64 ((ps.getD i tokD).a : Int)) ∧
    (cellsOfT ps)[i * 4 + 2]? = some (.string (ps.getD i tokD).t) ∧ (cellsOfT ps)[i * 4 + 3]? = some (.int .i64 (ps.getD i tokD).n) := by
  induction ps with
  | nil => intro i hi; simp at hi
  | cons e r ih =>
    intro i hi
    cases i with
    | zero => simp [cellsOfT]
    | succ i =>
      have := ih i (by simpa using hi)
      rw [show (i + 1) * 4 = i * 4 + 1 + 1 + 1 + 1 from by omega]
      simpa [cellsOfT] using this

/-- A slice value reads as a list of tokens. -/
def Toks (w : World) (a : Option Addr) (ts : List Tok) : Prop :=
  0 < ts.length → ∃ b off, a = some ⟨b, off, none⟩ ∧ ∀ i, i < ts.length → w.cell? ⟨b, off + i * 4, none⟩ = some (.int .i64 (ts.getD i tokD).k) ∧ w.cell? ⟨b, off + i * 4 + 1, none⟩ = some (.int .i64 ((ts.getD i tokD).a : Int)) ∧
    w.cell? ⟨b, off + i * 4 + 2, none⟩ = some (.string (ts.getD i tokD).t) ∧ w.cell? ⟨b, off + i * 4 + 3, none⟩ = some (.int .i64 (ts.getD i tokD).n)
theorem Toks.below {w w' : World} {a : Option Addr} {ts : List Tok} {B : Nat} (h : Toks w a ts) (hb : Below B w w') (hB : w.heap.size ≤ B) : Toks w' a ts := fun h0 => by
  obtain ⟨b, off, rfl, hc⟩ := h h0
  have hlt := World.block_lt_of_cell? w _ (hc 0 h0).1
  simp at hlt
  have k : ∀ j, w'.cell? ⟨b, j, none⟩ = w.cell? ⟨b, j, none⟩ := fun j => hb.cell (p := ⟨b, j, none⟩) (by show b < B; omega)
  exact ⟨b, off, rfl, fun i hi => ⟨(k _).trans (hc i hi).1, (k _).trans (hc i hi).2.1, (k _).trans (hc i hi).2.2.1, (k _).trans (hc i hi).2.2.2⟩⟩

/-- The value v is a slice of the call's own that holds the tokens ts (nil, if there are none). -/
def OwnT (w : World) (base : Nat) (v : Value) (ts : List Tok) : Prop := w.ownsRow base 30 4 v ts.length (cellsOfT ts)
section
variable {w w' : World} {base : Nat} {v : Value} {ts : List Tok}
theorem OwnT.nil (w : World) (base : Nat) : OwnT w base (.slice none 0 0) [] := World.ownsRow_nil _ _ _ _
theorem OwnT.alloc (h : OwnT w base v ts) (o : Obj) : OwnT (w.alloc o) base v ts := World.ownsRow.alloc h o
theorem OwnT.shape (h : OwnT w base v ts) : ∃ a c, v = .slice a ts.length c ∧ Toks w a ts := by
  rcases h.2 with ⟨rfl, hn⟩ | ⟨g, cap, cur, rfl, hb, hh, hr⟩
  · exact ⟨none, 0, by rw [hn], fun h0 => by omega⟩
  · refine ⟨_, _, rfl, fun h0 => ⟨g, 0, rfl, fun i hi => ?_⟩⟩
    have hc := World.ownsRow.cells h (g := g) rfl
    obtain ⟨h1, h2, h3, h4⟩ := cellsOfT_at ts i hi
    have q : ∀ j u, (cellsOfT ts)[j]? = some u → w.cell? ⟨g, 0 + j, none⟩ = some u := fun j u hj => by have := hc _ _ hj; rwa [Addr.add_lit] at this
    exact ⟨q _ _ h1, by rw [Nat.add_assoc]; exact q _ _ h2, by rw [Nat.add_assoc]; exact q _ _ h3, by rw [Nat.add_assoc]; exact q _ _ h4⟩
theorem OwnT.mono (h : OwnT w base v ts) {b : Nat} (hb : b ≤ base) : OwnT w b v ts := by
  obtain ⟨h1, h2⟩ := h
  refine ⟨h1, ?_⟩
  rcases h2 with h2 | ⟨g', cap', cur, hv, hb', hr⟩
  · exact .inl h2
  · exact .inr ⟨_, _, _, hv, Nat.le_trans hb hb', hr⟩
theorem OwnT.below {B : Nat} (h : OwnT w base v ts) (hb : Below B w w') (hB : w.heap.size ≤ B) : OwnT w' base v ts := by
  obtain ⟨h1, h2⟩ := h
  refine ⟨h1, ?_⟩
  rcases h2 with h2 | ⟨g', cap', cur, hv, hb', hh, hr⟩
  · exact .inl h2
  · refine .inr ⟨_, _, _, hv, hb', (hb.block _ ?_).trans hh, hr⟩
    rcases Nat.lt_or_ge g' w.heap.size with hlt | hge
    · omega
    · rw [Array.getElem?_eq_none hge] at hh; cases hh
theorem OwnT.iterAt (h : OwnT w base v ts) {G : Nat} (hG : G < base) (s : ByteArray) (pos : Nat) : OwnT (w.iterAt G s pos) base v ts := by
  obtain ⟨h1, h2⟩ := h
  refine ⟨h1, ?_⟩
  rcases h2 with h2 | ⟨g', cap', cur, hv, hb', hh, hr⟩
  · exact .inl h2
  · exact .inr ⟨_, _, _, hv, hb', (Lib.iterAt_other w G g' s pos (by omega)).trans hh, hr⟩
theorem OwnT.grown {w0 w1 : World} {o : Obj} (h : OwnT w base v ts) (hg : (w.alloc o).grownBy w1 v.ownBlock) (hb : Below base w0 w) (hB : base ≤ w.heap.size) : Below base w0 w1 :=
  (hb.alloc hB o).grown hg (by simp; omega) (fun k hk => (World.ownsRow.lt h k hk).1)
end
/-- 'out = append(out, t)', out a slice of tokens of the call's own. -/
theorem wpList_append_tok {w : World} {ops : Array Oper} {rest : List Oper} {o : Oper} {a : Act} {Q : Exit → Act → World → Prop} (hg : o.guard = none) (s x : Operand)
    (hop : o.op = .call { callee := .builtin .append, args := #[s, x], argTypes := #[22, 22] }) (base : Nat) (v : Value) (ts : List Tok) (hs : a.eval s = v) (hown : OwnT w base v ts)
    (B : Nat) (e : Tok) (hx : a.eval x = .slice (some ⟨B, 0, none⟩) 1 1) (hc0 : w.cell? ⟨B, 0, none⟩ = some (.int .i64 e.k)) (hc1 : w.cell? ⟨B, 1, none⟩ = some (.int .i64 (e.a : Int))) (hc2 : w.cell? ⟨B, 2, none⟩ = some (.string e.t)) (hc3 : w.cell? ⟨B, 3, none⟩ = some (.int .i64 e.n))
    (hlen : (ts.length + 1) * 40 ≤ 140737488355328) (hbase : base ≤ w.heap.size)
    (hK : ∀ v' w', OwnT w' base v' (ts ++ [e]) → w.grownBy w' v.ownBlock → wpList Tryd.prog ops Q rest (a.put o.dst v') w') : wpList Tryd.prog ops Q (o :: rest) a w := by
  obtain ⟨i0, hi, hz0, hz1, hz2⟩ := info_parts tok_info
  refine wpList_append_own w hg s x 22 hop base 30 i0 (.agg #[.int .i64 0, .int .i64 0, .string ⟨#[]⟩, .int .i64 0]) 4 40 Tryd.underlying22 hi hz0 hz1 hz2 rfl (by decide) v ts.length (cellsOfT ts) hs hown ⟨B, 0, none⟩ 1 1 [.int .i64 e.k, .int .i64 (e.a : Int), .string e.t, .int .i64 e.n] hx rfl ?_ ?_ ?_ hlen hbase ?_
  · intro j u hj
    match j, hj with
    | 0, hj => simp at hj; subst hj; simpa [Addr.add] using hc0
    | 1, hj => simp at hj; subst hj; simpa [Addr.add] using hc1
    | 2, hj => simp at hj; subst hj; simpa [Addr.add] using hc2
    | 3, hj => simp at hj; subst hj; simpa [Addr.add] using hc3
  · intro u hu; simp at hu; rcases hu with rfl | rfl | rfl | rfl <;> rfl
  · unfold maxLen; omega
  · intro v' w' h1 h2 _
    refine hK v' w' ?_ h2
    unfold OwnT
    rw [List.length_append, cellsOfT_append]
    exact h1

/-- The answer of Tokens. -/
def TokEnd (r : Whole) (w : World) (e : Ending) (w' : World) : Prop :=
  ∃ v, e = .returned (.tuple #[v, .int .i64 (r.a : Int), .int .i64 r.e]) ∧ OwnT w' w.heap.size v r.l ∧ Below w.heap.size w w'
theorem toksF_skp {s : ByteArray} {b p q : Nat} {out : List Tok} (h : skp s p = skp s q) : toksF s (b + 1) p out = toksF s (b + 1) q out := by
  simp only [toksF, h]
end Go.Proofs.YtmnfonhfbolnkaaDoor
