/-
  The variables of the search for components, and what the closure's steps make of them.
-/
import Derived.Test.YtopbbihbpalnlaaSRows
import Derived.Test.YtopbbihbpalnlaaTarN
import Derived.RangeFuncNested
namespace Go.Proofs.Ytopbbihbpalnlaa
open Go.RowKit
set_option linter.unusedVariables false

def ni (l : List Nat) : List Int := l.map fun (x : Nat) => (x : Int)
theorem ni_len (l : List Nat) : (ni l).length = l.length := by simp [ni]
theorem ni_at (l : List Nat) (i : Nat) : (ni l).getD i 0 = ((l.getD i 0 : Nat) : Int) := by
  unfold ni
  rw [List.getD_eq_getElem?_getD, List.getD_eq_getElem?_getD, List.getElem?_map]
  cases l[i]? <;> rfl
theorem ni_set (l : List Nat) (i x : Nat) : (ni l).set i (x : Int) = ni (l.set i x) := by unfold ni; rw [List.map_set]
theorem ni_snoc (l : List Nat) (x : Nat) : ni l ++ [(x : Int)] = ni (l ++ [x]) := by simp [ni]
/-- Below n1 only the blocks C, O, R and T have turned. -/
structure Fix (w1 W : World) (n1 C O R T : Nat) : Prop where
  os : W.os = w1.os
  tape : W.tape = w1.tape
  output : W.output = w1.output
  size : w1.heap.size ≤ W.heap.size
  block : ∀ q, q < n1 → q ≠ C → q ≠ O → q ≠ R → q ≠ T → W.heap[q]? = w1.heap[q]?
theorem Fix.refl (w : World) (n1 C O R T : Nat) : Fix w w n1 C O R T := ⟨rfl, rfl, rfl, Nat.le_refl _, fun _ _ _ _ _ _ => rfl⟩
theorem Fix.grown {w1 W W' : World} {n1 C O R T : Nat} {row : Option Nat} (h : Fix w1 W n1 C O R T) (hn : n1 ≤ W.heap.size) (hg : W.grownBy W' row) (hr : ∀ r, row = some r → n1 ≤ r ∨ r = C ∨ r = O ∨ r = R ∨ r = T) : Fix w1 W' n1 C O R T :=
  ⟨hg.os.trans h.os, hg.tape.trans h.tape, hg.output.trans h.output, Nat.le_trans h.size hg.size, fun q hq a b c d => (hg.block q (by omega) (fun e => by have := hr q e.symm; omega)).trans (h.block q hq a b c d)⟩
/-- The blocks of the variables, in the order in which they are laid. -/
structure LD (S R B K T O C V n1 : Nat) : Prop where
  a1 : S < R
  a2 : R < B
  a3 : B < K
  a4 : K < T
  a5 : T < O
  a6 : O < C
  a7 : C < V
  a8 : V < n1
structure TS (w1 W : World) (S R T O C n1 N : Nat) (uo ul : Value) (vs : List Value) (st : St) : Prop where
  fx : Fix w1 W n1 C O R T
  cb : Boxed W C 3 (.int .i64 (st.cnt : Int))
  ob : Boxed W O 31 uo
  ow : Own W n1 uo (ni st.opn)
  rr : Row W S R N (ni st.least)
  tb : Boxed W T 27 ul
  ts : Rws W n1 ul vs (st.lst.map ni)
  dj : ∀ i, i < st.lst.length → (vs.getD i nl).ownBlock = none ∨ (vs.getD i nl).ownBlock ≠ uo.ownBlock
  sz : n1 ≤ W.heap.size
  ln : st.least.length = N
section
variable {w1 W W' : World} {S R B K T O C V n1 N : Nat} {uo ul : Value} {vs : List Value} {st : St}
theorem TS.drewN (h : TS w1 W S R T O C n1 N uo ul vs st) (n : Nat) : TS w1 (W.drewN n) S R T O C n1 N uo ul vs st :=
  ⟨⟨h.fx.os, h.fx.tape, h.fx.output, h.fx.size, h.fx.block⟩, h.cb, h.ob, h.ow, h.rr, h.tb, ⟨h.ts.own, h.ts.len, h.ts.row, h.ts.ne⟩, h.dj, h.sz, h.ln⟩
theorem own_far {u : Value} {zs : List Int} (h : Own W n1 u zs) {q : Nat} (hq : q < n1) : some q ≠ u.ownBlock := fun e => by have := (World.ownsRow.lt h q e.symm).1; omega
theorem TS.alloc (h : TS w1 W S R T O C n1 N uo ul vs st) (o : Obj) : TS w1 (W.alloc o) S R T O C n1 N uo ul vs st :=
  ⟨h.fx.grown h.sz (World.grownBy_alloc W o none) (fun r e => by cases e), h.cb.alloc o, h.ob.alloc o, h.ow.alloc o, h.rr.alloc o, h.tb.alloc o, h.ts.alloc o, h.dj, by rw [World.size_alloc]; exact Nat.le_succ_of_le h.sz, h.ln⟩
/-- A box below n1 is stored. -/
theorem TS.store (h : TS w1 W S R T O C n1 N uo ul vs st) (l : LD S R B K T O C V n1) (q : Nat) (u : Value) (hq : q = C ∨ q = O ∨ q = T) :
    Fix w1 (W.setCell ⟨q, 0, none⟩ u) n1 C O R T ∧ Own (W.setCell ⟨q, 0, none⟩ u) n1 uo (ni st.opn) ∧ Row (W.setCell ⟨q, 0, none⟩ u) S R N (ni st.least) ∧ Rws (W.setCell ⟨q, 0, none⟩ u) n1 ul vs (st.lst.map ni) ∧ n1 ≤ (W.setCell ⟨q, 0, none⟩ u).heap.size := by
  have a1 := l.a1; have a2 := l.a2; have a3 := l.a3; have a4 := l.a4; have a5 := l.a5; have a6 := l.a6; have a7 := l.a7; have a8 := l.a8
  have hg := grown_setCell W q 0 u
  refine ⟨h.fx.grown h.sz hg (fun r e => by cases e; omega), World.ownsRow.kept h.ow hg (row_far h.ow (by omega)), ?_, h.ts.kept hg (by omega), by simpa using h.sz⟩
  exact World.ownsRow.kept h.rr hg (.inr (by simp [Value.ownBlock]; omega))
theorem TS.count (h : TS w1 W S R T O C n1 N uo ul vs st) (l : LD S R B K T O C V n1) (c : Nat) : TS w1 (W.setCell ⟨C, 0, none⟩ (.int .i64 (c : Int))) S R T O C n1 N uo ul vs { st with cnt := c } := by
  have a1 := l.a1; have a2 := l.a2; have a3 := l.a3; have a4 := l.a4; have a5 := l.a5; have a6 := l.a6; have a7 := l.a7; have a8 := l.a8
  obtain ⟨h1, h2, h3, h4, h5⟩ := h.store l C (.int .i64 (c : Int)) (.inl rfl)
  exact ⟨h1, h.cb.set _, h.ob.other (by omega) _, h2, h3, h.tb.other (by omega) _, h4, h.dj, h5, h.ln⟩
theorem TS.mark (h : TS w1 W S R T O C n1 N uo ul vs st) (l : LD S R B K T O C V n1) (i x : Nat) : TS w1 (W.setCell ⟨R, i, none⟩ (.int .i64 (x : Int))) S R T O C n1 N uo ul vs { st with least := st.least.set i x } := by
  have a1 := l.a1; have a2 := l.a2; have a3 := l.a3; have a4 := l.a4; have a5 := l.a5; have a6 := l.a6; have a7 := l.a7; have a8 := l.a8
  have hg := grown_setCell W R i (.int .i64 (x : Int))
  refine ⟨h.fx.grown h.sz hg (fun r e => by cases e; omega), h.cb.kept hg (by simp; omega), h.ob.kept hg (by simp; omega), World.ownsRow.kept h.ow hg (row_far h.ow (by omega)), ?_, h.tb.kept hg (by simp; omega), h.ts.kept hg (by omega), h.dj, by simpa using h.sz, by simpa using h.ln⟩
  have := h.rr.set i (x : Int)
  rwa [ni_set] at this
/-- The list of the open nodes has grown. -/
theorem TS.push (h : TS w1 W S R T O C n1 N uo ul vs st) (l : LD S R B K T O C V n1) {w2 : World} {o : Obj} {g cap : Nat} {v : Nat}
    (h2 : Own w2 n1 (.slice (some ⟨g, 0, none⟩) (st.opn.length + 1) cap) (ni st.opn ++ [(v : Int)])) (hg : (W.alloc o).grownBy w2 uo.ownBlock) (hat : uo.ownBlock = some g ∨ W.heap.size ≤ g) :
    TS w1 (w2.setCell ⟨O, 0, none⟩ (.slice (some ⟨g, 0, none⟩) (st.opn.length + 1) cap)) S R T O C n1 N (.slice (some ⟨g, 0, none⟩) (st.opn.length + 1) cap) ul vs { st with opn := st.opn ++ [v] } ∧ w2.cell? ⟨O, 0, none⟩ = some uo ∧ w2.frozen? ⟨O, 0, none⟩ = false := by
  have a1 := l.a1; have a2 := l.a2; have a3 := l.a3; have a4 := l.a4; have a5 := l.a5; have a6 := l.a6; have a7 := l.a7; have a8 := l.a8
  have hA := h.alloc o
  have fr : ∀ r, uo.ownBlock = some r → n1 ≤ r := fun r e => (World.ownsRow.lt h.ow r e).1
  have kb : ∀ {q : Nat} {t : TypeId} {u : Value}, q < n1 → Boxed (W.alloc o) q t u → Boxed w2 q t u := fun hq hb => hb.kept hg (own_far hA.ow hq)
  have kr : ∀ i, i < st.lst.length → Own w2 n1 (vs.getD i nl) ((st.lst.map ni).getD i []) := fun i hi => World.ownsRow.kept (hA.ts.row i (by simpa using hi)) hg (h.dj i hi)
  have ko : OwnS w2 n1 ul vs := World.ownsRow.kept hA.ts.own hg (own_ne hA.ts.own hA.ow)
  have kR : Row w2 S R N (ni st.least) := World.ownsRow.kept hA.rr hg (.inr (by intro e; have := fr R (by simpa [Value.ownBlock] using e.symm); omega))
  have h1 : TS w1 w2 S R T O C n1 N (.slice (some ⟨g, 0, none⟩) (st.opn.length + 1) cap) ul vs st → True := fun _ => trivial
  have hg2 := grown_setCell w2 O 0 (.slice (some ⟨g, 0, none⟩) (st.opn.length + 1) cap)
  have hsz : n1 ≤ w2.heap.size := Nat.le_trans hA.sz hg.size
  have hgn : n1 ≤ g := by
    rcases hat with e | e
    · exact fr g e
    · exact Nat.le_trans h.sz e
  have ob2 := kb (by omega) hA.ob
  refine ⟨⟨(hA.fx.grown hA.sz hg (fun r e => .inl (fr r e))).grown hsz hg2 (fun r e => by cases e; omega), (kb (by omega) hA.cb).other (by omega) _, ob2.set _, ?_, World.ownsRow.kept kR hg2 (.inr (by simp [Value.ownBlock]; omega)), (kb (by omega) hA.tb).other (by omega) _,
    ⟨World.ownsRow.kept ko hg2 (row_far ko (by omega)), hA.ts.len, fun i hi => World.ownsRow.kept (kr i (by simpa using hi)) hg2 (row_far (kr i (by simpa using hi)) (by omega)), hA.ts.ne⟩, fun i hi => ?_, by simpa using hsz, h.ln⟩, ob2.cell, ob2.frozen⟩
  · show Own _ n1 _ (ni (st.opn ++ [v]))
    rw [← ni_snoc]
    exact World.ownsRow.kept h2 hg2 (row_far h2 (by omega))
  · rcases hat with e | e
    · rcases h.dj i hi with k | k
      · exact .inl k
      · right
        intro e2
        apply k
        rw [e2, e]
        rfl
    · cases hk : (vs.getD i nl).ownBlock with
      | none => exact .inl rfl
      | some k =>
        right
        intro e2
        have h3 := (World.ownsRow.lt (h.ts.row i (by simpa using hi)) k hk).2
        have e3 : k = g := by simpa [Value.ownBlock] using e2
        omega
end
end Go.Proofs.Ytopbbihbpalnlaa
