/-
  Path: its variables in memory.
-/
import Derived.Test.YthgnbpiemkcdhaaGPathM
import Derived.Test.YthgnbpiemkcdhaaGRev
namespace Go.Proofs.Ythgnbpiemkcdhaa
open Go.RowKit Go.Shelf
set_option linter.unusedVariables false
attribute [local go_sem] Oper.semAt_some run_store_func

/-- A row of ints of fixed length. -/
def RowI (w : World) (base g : Nat) (zs : List Int) : Prop := w.ownsRow base 3 1 (.slice (some ⟨g, 0, none⟩) zs.length zs.length) zs.length (zs.map (Value.int .i64))
theorem RowI.cell {w : World} {base g i : Nat} {zs : List Int} (h : RowI w base g zs) (hi : i < zs.length) : w.cell? ⟨g, i, none⟩ = some (.int .i64 (zs.getD i 0)) := by
  rw [World.ownsRow.cellAt h i (by omega)]
  simp [List.getD_eq_getElem?_getD, hi]
theorem RowI.free {w : World} {base g : Nat} {zs : List Int} (h : RowI w base g zs) (i : Nat) : w.frozen? ⟨g, i, none⟩ = false := World.ownsRow.frozenAt h i
theorem RowI.set {w : World} {base g : Nat} {zs : List Int} (h : RowI w base g zs) (i : Nat) (z : Int) : RowI (w.setCell ⟨g, i, none⟩ (.int .i64 z)) base g (zs.set i z) := by
  have := (World.ownsRow.stored h i (.int .i64 z)).1
  unfold RowI
  rw [List.length_set, List.map_set]
  exact this
theorem RowI.kept {w w' : World} {base g : Nat} {zs : List Int} {row : Option Nat} (h : RowI w base g zs) (hg : w.grownBy w' row) (hne : some g ≠ row) : RowI w' base g zs :=
  World.ownsRow.kept h hg (.inr (by simpa [Value.ownBlock] using hne))
theorem RowI.alloc {w : World} {base g : Nat} {zs : List Int} (h : RowI w base g zs) (o : Obj) : RowI (w.alloc o) base g zs := World.ownsRow.alloc h o

/-- What Path answers. -/
def PathEnd (w : World) (N : Int) (ps : List (Int × Int)) (fr t : Int) (e : Ending) (w' : World) : Prop :=
  Below w.heap.size w w' ∧ if 0 ≤ (foundP N ps fr t).1.getD t.toNat 0 then ∃ r, e = .returned (.tuple #[r, .bool true]) ∧ Own w' w.heap.size r (pathL N ps fr t) else e = .returned (.tuple #[.slice none 0 0, .bool false])

def minusP (N k : Nat) : List Int := List.replicate k (-1) ++ List.replicate (N - k) 0
theorem minusP_set {N k : Nat} (h : k < N) : (minusP N k).set k (-1) = minusP N (k + 1) := by
  unfold minusP
  rw [List.set_append_right _ _ (by simp)]
  obtain ⟨m, hm⟩ : ∃ m, N - k = m + 1 := ⟨N - k - 1, by omega⟩
  rw [hm, show N - (k + 1) = m by omega, List.replicate_succ, List.length_replicate, Nat.sub_self, List.set_cons_zero, List.replicate_succ', List.append_assoc]
  rfl
theorem length_minusP {N k : Nat} (h : k ≤ N) : (minusP N k).length = N := by
  unfold minusP; simp; omega


theorem cells_ne {W : World} {row : Option Nat} {k : Nat} {cur : Array Value} {e : TypeId} {fz : Nat × Nat} (h : W.heap[k]? = some (.cells cur e fz)) (hr : ∀ r, row = some r → ∃ o : Obj, W.heap[r]? = some o ∧ o.isCells = false) : some k ≠ row := by
  intro e'
  obtain ⟨o, ho, hc⟩ := hr k e'.symm
  rw [h] at ho
  cases ho
  cases hc
theorem row_ne {W : World} {row : Option Nat} {base s n : Nat} {e : TypeId} {v : Value} {xs : List Value} (h : W.ownsRow base e s v n xs) (hr : ∀ r, row = some r → ∃ o : Obj, W.heap[r]? = some o ∧ o.isCells = false) : v.ownBlock = none ∨ v.ownBlock ≠ row := by
  rcases h.2 with ⟨rfl, _⟩ | ⟨g, cap, cur, rfl, _, hg, _⟩
  · exact .inl rfl
  · exact .inr (cells_ne hg hr)

/-- The variables of Path: the row R of the nodes before, its box B, the queue's box Q, the counter's box I. -/
structure PS (W : World) (R B Q I N n₁ : Nat) (u : Value) (i : Nat) (st : List Int × List Int) : Prop where
  row : RowI W 0 R st.1
  len : st.1.length = N
  bbox : Boxed W B 29 (.slice (some ⟨R, 0, none⟩) N N)
  qbox : Boxed W Q 29 u
  own : W.ownsRow n₁ 3 1 u st.2.length (st.2.map (Value.int .i64))
  ibox : Boxed W I 3 (.int .i64 (i : Int))
  ne : u.ownBlock ≠ some I
structure PO (R B Q I n₁ : Nat) : Prop where
  r : R < B
  n : n₁ = B + 1
  q : Q = B + 2
  i : Q < I
theorem PS.kept {W W' : World} {R B Q I N n₁ i : Nat} {u : Value} {st : List Int × List Int} {row : Option Nat} (h : PS W R B Q I N n₁ u i st) (hg : W.grownBy W' row) (hr : ∀ r, row = some r → ∃ o : Obj, W.heap[r]? = some o ∧ o.isCells = false) : PS W' R B Q I N n₁ u i st := by
  refine ⟨h.row.kept hg ?_, h.len, h.bbox.kept hg (cells_ne h.bbox hr), h.qbox.kept hg (cells_ne h.qbox hr), h.own.kept hg (row_ne h.own hr), h.ibox.kept hg (cells_ne h.ibox hr), h.ne⟩
  rcases row_ne h.row hr with e | e
  · cases e
  · simpa [Value.ownBlock] using e
theorem PS.ge {W : World} {R B Q I N n₁ i : Nat} {u : Value} {st : List Int × List Int} (h : PS W R B Q I N n₁ u i st) : ∀ q, u.ownBlock = some q → n₁ ≤ q ∧ q < W.heap.size := fun q e => World.ownsRow.lt h.own q e
theorem PS.neQ {W : World} {R B Q I N n₁ i : Nat} {u : Value} {st : List Int × List Int} (h : PS W R B Q I N n₁ u i st) : some Q ≠ u.ownBlock := h.qbox.not_row (by decide) h.own
theorem PS.mark {W : World} {R B Q I N n₁ i : Nat} {u : Value} {st : List Int × List Int} (h : PS W R B Q I N n₁ u i st) (o : PO R B Q I n₁) (x : Nat) (v : Int) : PS (W.setCell ⟨R, x, none⟩ (.int .i64 v)) R B Q I N n₁ u i (st.1.set x v, st.2) := by
  have hg := grown_setCell W R x (.int .i64 v)
  have h1 := o.r; have h2 := o.n; have h3 := o.q; have h4 := o.i
  exact ⟨h.row.set x v, by simpa using h.len, h.bbox.kept hg (by simp; omega), h.qbox.kept hg (by simp; omega), h.own.kept hg (.inr fun e => by have := (h.ge R e).1; omega), h.ibox.kept hg (by simp; omega), h.ne⟩
theorem Fr.mark {W W2 : World} {R Q x : Nat} {v : Value} {u u' : Value} (h : Fr (W.setCell ⟨R, x, none⟩ v) W2 Q R u u') : Fr W W2 Q R u u' :=
  ⟨h.os, h.tape, h.output, by have := h.size; simpa using this, fun q hq n1 n2 n3 => (h.block q (by simpa using hq) n1 n2 n3).trans (Below.heap_setCell W ⟨R, x, none⟩ _ q n2), (KeepsOthers.setCell W _ _).trans h.keeps, by
    have := h.lies; simpa using this⟩
theorem PS.push {W w2 : World} {R B Q I N n₁ i : Nat} {u u' : Value} {st : List Int × List Int} {x : Int} {tmp : Obj} (h : PS W R B Q I N n₁ u i st) (o : PO R B Q I n₁)
    (ho : w2.ownsRow n₁ 3 1 u' (st.2.length + 1) (st.2.map (Value.int .i64) ++ [.int .i64 x])) (hg : (W.alloc tmp).grownBy w2 u.ownBlock) (hat : u'.ownBlock = u.ownBlock ∨ u'.ownBlock = some (W.alloc tmp).heap.size) :
    Boxed w2 Q 29 u ∧ PS (w2.setCell ⟨Q, 0, none⟩ u') R B Q I N n₁ u' i (st.1, st.2 ++ [x]) ∧ Fr W (w2.setCell ⟨Q, 0, none⟩ u') Q R u u' := by
  have h1 := o.r; have h2 := o.n; have h3 := o.q; have h4 := o.i
  have hl : st.2.length + 1 = (st.2 ++ [x]).length := by simp
  have ho2 : w2.ownsRow n₁ 3 1 u' (st.2 ++ [x]).length ((st.2 ++ [x]).map (Value.int .i64)) := by
    rw [← hl, List.map_append]; exact ho
  obtain ⟨a1, a2, _, a4, _⟩ := h.qbox.appended (by decide) (ownsRow_mono h.own (Nat.zero_le _)) (Nat.zero_le _) (Nat.zero_le _) (ownsRow_mono ho2 (Nat.zero_le _)) hg
  have hgs := grownBy_setCell' w2 Q u'
  have hnR : some R ≠ u.ownBlock := fun e => by have := (h.ge R e.symm).1; omega
  have hsz : W.heap.size ≤ w2.heap.size := by have := hg.size; simp at this; omega
  have hsa : (W.alloc tmp).heap.size = W.heap.size + 1 := by simp
  refine ⟨a1, ⟨RowI.kept (RowI.kept (h.row.alloc _) hg hnR) hgs (by simp; omega), h.len, ((h.bbox.alloc _).kept hg (h.bbox.not_row (by decide) h.own)).kept hgs (by simp; omega), a2, ho2.kept hgs (.inr (a1.not_row (by decide) ho2).symm), ((h.ibox.alloc _).kept hg (Ne.symm h.ne)).kept hgs (by simp; omega), ?_⟩,
    ⟨hg.os.trans rfl, hg.tape.trans rfl, hg.output.trans rfl, by simpa using hsz, fun q hq n1 n2 n3 => ?_, a4, ?_⟩⟩
  · intro e
    rcases hat with h' | h'
    · exact h.ne (h'.symm.trans e)
    · have := h.ibox.lt
      rw [h', hsa] at e; cases e; omega
  · rw [Below.heap_setCell w2 ⟨Q, 0, none⟩ _ q n1, hg.block q (by simp; omega) n3, Below.heap_alloc _ _ q hq]
  · rcases hat with h' | h'
    · exact .inl h'
    · exact .inr ⟨_, h', by omega⟩
/-- The counter goes into a new box, one further. -/
theorem PS.turn {W : World} {R B Q I N n₁ i : Nat} {u : Value} {st : List Int × List Int} (h : PS W R B Q I N n₁ u i st) : PS (W.alloc (.cells #[.int .i64 ((i : Int) + 1)] 3)) R B Q W.heap.size N n₁ u (i + 1) st := by
  have hu : u.ownBlock ≠ some W.heap.size := fun e => by have := (h.ge _ e).2; omega
  exact ⟨h.row.alloc _, h.len, h.bbox.alloc _, h.qbox.alloc _, h.own.alloc _, Boxed.new W _ _, hu⟩
theorem Fr.below {W W' : World} {R Q : Nat} {u u' : Value} (h : Fr W W' Q R u u') {B : Nat} (hQ : B ≤ Q) (hR : B ≤ R) (hu : ∀ q, u.ownBlock = some q → B ≤ q) (hB : B ≤ W.heap.size) : Below B W W' :=
  ⟨h.os, h.tape, h.output, h.size, fun q hq => h.block q (by omega) (by omega) (by omega) fun e => by have := hu q e.symm; omega⟩
theorem Fr.drawn {W W2 : World} {R Q : Nat} {u u' : Value} (h : Fr W.drew W2 Q R u u') : Fr W W2 Q R u u' :=
  ⟨h.os, h.tape, h.output, h.size, h.block, ⟨h.keeps.size, h.keeps.same⟩, h.lies⟩
theorem PS.drew {W : World} {R B Q I N n₁ i : Nat} {u : Value} {st : List Int × List Int} (h : PS W R B Q I N n₁ u i st) : PS W.drew R B Q I N n₁ u i st := h.kept (row := none) ⟨rfl, rfl, rfl, Nat.le_refl _, fun _ _ _ => rfl⟩ (fun r e => by cases e)
/-- The counter of a round of Path, in its box. -/
def cntP (a : Act) (W : World) : Nat := match a.tmps.getD 11 undef with
  | .pointer (some p) => (intOf ((W.cell? p).getD undef)).toNat
  | _ => 0
/-- The length of a slice. -/
def slen : Value → Nat
  | .slice _ n _ => n
  | _ => 0
/-- What several ends have in common is shown once. -/
structure Laid (G : Prop) : Prop where
  out : G
theorem later {G T : Prop} (h : Laid G → T) (p : G) : T := h ⟨p⟩
end Go.Proofs.Ythgnbpiemkcdhaa
