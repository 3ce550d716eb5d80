/-
  More steps of the closure: a component is taken off the open nodes and laid into the list.
-/
import Derived.Test.YtopbbihbpalnlaaSMem
namespace Go.Proofs.Ytopbbihbpalnlaa
open Go.RowKit
set_option linter.unusedVariables false

/-- Block g is none of the search's. -/
structure FrB (n1 g : Nat) (uo ul : Value) (vs : List Value) (m : Nat) : Prop where
  ge : n1 ≤ g
  o : uo.ownBlock ≠ some g
  l : ul.ownBlock ≠ some g
  r : ∀ i, i < m → (vs.getD i nl).ownBlock ≠ some g
section
variable {w1 W W' : World} {S R B K T O C V n1 N : Nat} {uo ul : Value} {vs : List Value} {st : St}
theorem TS.fresh (h : TS w1 W S R T O C n1 N uo ul vs st) {g : Nat} (hg : W.heap.size ≤ g) : FrB n1 g uo ul vs st.lst.length :=
  ⟨Nat.le_trans h.sz hg, fun e => by have := (World.ownsRow.lt h.ow g e).2; omega, fun e => by have := (World.ownsRow.lt h.ts.own g e).2; omega, fun i hi e => by have := (World.ownsRow.lt (h.ts.row i (by simpa using hi)) g e).2; omega⟩
/-- Another block has turned, or there are new ones. -/
theorem TS.grow (h : TS w1 W S R T O C n1 N uo ul vs st) (l : LD S R B K T O C V n1) {row : Option Nat} (hg : W.grownBy W' row) (hr : ∀ g, row = some g → FrB n1 g uo ul vs st.lst.length) : TS w1 W' S R T O C n1 N uo ul vs st := by
  have a1 := l.a1; have a2 := l.a2; have a3 := l.a3; have a4 := l.a4; have a5 := l.a5; have a6 := l.a6; have a7 := l.a7; have a8 := l.a8
  have f : ∀ q, q < n1 → some q ≠ row := fun q hq e => by have := (hr q e.symm).ge; omega
  have k : ∀ {v : Value}, (∀ g, row = some g → v.ownBlock ≠ some g) → v.ownBlock = none ∨ v.ownBlock ≠ row := fun {v} hv => by
    cases row with
    | none => cases hb : v.ownBlock with
      | none => exact .inl rfl
      | some q => exact .inr (by simp)
    | some g => exact .inr (hv g rfl)
  refine ⟨h.fx.grown h.sz hg (fun r e => .inl (hr r e).ge), h.cb.kept hg (f C (by omega)), h.ob.kept hg (f O (by omega)), World.ownsRow.kept h.ow hg (k fun g e => (hr g e).o), World.ownsRow.kept h.rr hg (.inr (f R (by omega))), h.tb.kept hg (f T (by omega)),
    ⟨World.ownsRow.kept h.ts.own hg (k fun g e => (hr g e).l), h.ts.len, fun i hi => World.ownsRow.kept (h.ts.row i hi) hg (k fun g e => (hr g e).r i (by simpa using hi)), h.ts.ne⟩, h.dj, Nat.le_trans h.sz hg.size, h.ln⟩
/-- The open nodes are cut off. -/
theorem TS.cut {g0 cap k : Nat} (h : TS w1 W S R T O C n1 N (.slice (some ⟨g0, 0, none⟩) st.opn.length cap) ul vs st) (l : LD S R B K T O C V n1) (hk : k ≤ st.opn.length) :
    TS w1 (W.setCell ⟨O, 0, none⟩ (.slice (some ⟨g0, 0, none⟩) k cap)) S R T O C n1 N (.slice (some ⟨g0, 0, none⟩) k cap) ul vs { st with opn := st.opn.take k } := by
  have a1 := l.a1; have a2 := l.a2; have a3 := l.a3; have a4 := l.a4; have a5 := l.a5; have a6 := l.a6; have a7 := l.a7; have a8 := l.a8
  obtain ⟨h1, h2, h3, h4, h5⟩ := h.store l O (.slice (some ⟨g0, 0, none⟩) k cap) (.inr (.inl rfl))
  refine ⟨h1, h.cb.other (by omega) _, h.ob.set _, ?_, h3, h.tb.other (by omega) _, h4, h.dj, h5, h.ln⟩
  obtain ⟨q1, q2⟩ := h2
  have hlen : (ni (st.opn.take k)).length = k := by rw [ni_len, List.length_take]; omega
  refine ⟨by simp [hlen], .inr ?_⟩
  rcases q2 with ⟨e, _⟩ | ⟨g', cap', cur, e, hb, hh, c1, c2, c3, c4⟩
  · simp at e
  · simp only [Value.slice.injEq, Option.some.injEq, Addr.mk.injEq, and_true] at e
    obtain ⟨e1, e2, e3⟩ := e
    subst e1; subst e3
    refine ⟨g0, cap, cur, by rw [hlen], hb, hh, by rw [hlen]; rw [ni_len] at c1; omega, c2, c3, ?_⟩
    show cur.toList.take _ = _
    have : (ni (st.opn.take k)).map (Value.int .i64) = ((ni st.opn).map (Value.int .i64)).take k := by unfold ni; rw [List.map_take, List.map_take]
    rw [this, ← c4, List.take_take, hlen, ni_len]
    congr 1
    omega
/-- A component is laid into the list. -/
theorem TS.add (h : TS w1 W S R T O C n1 N uo ul vs st) (l : LD S R B K T O C V n1) {w2 : World} {o : Obj} {G cap g : Nat} {u : Value} {c : List Nat} (hu : Own W n1 u (ni c)) (hub : u.ownBlock = some g) (hfr : FrB n1 g uo ul vs st.lst.length)
    (h2 : OwnS w2 n1 (.slice (some ⟨G, 0, none⟩) (vs.length + 1) cap) (vs ++ [u])) (hg : (W.alloc o).grownBy w2 ul.ownBlock) (hat : ul.ownBlock = some G ∨ W.heap.size ≤ G) :
    TS w1 (w2.setCell ⟨T, 0, none⟩ (.slice (some ⟨G, 0, none⟩) (vs.length + 1) cap)) S R T O C n1 N uo (.slice (some ⟨G, 0, none⟩) (vs.length + 1) cap) (vs ++ [u]) { st with lst := st.lst ++ [c] } ∧ w2.cell? ⟨T, 0, none⟩ = some ul ∧ w2.frozen? ⟨T, 0, none⟩ = false := by
  have a1 := l.a1; have a2 := l.a2; have a3 := l.a3; have a4 := l.a4; have a5 := l.a5; have a6 := l.a6; have a7 := l.a7; have a8 := l.a8
  have hA := h.alloc o
  have fr : ∀ r, ul.ownBlock = some r → n1 ≤ r := fun r e => (World.ownsRow.lt h.ts.own r e).1
  have fq : ∀ q, q < n1 → some q ≠ ul.ownBlock := fun q hq e => by have := fr q e.symm; omega
  have hGn : n1 ≤ G := by
    rcases hat with e | e
    · exact fr G e
    · exact Nat.le_trans h.sz e
  have hsz : n1 ≤ w2.heap.size := Nat.le_trans hA.sz hg.size
  have hg2 := grown_setCell w2 T 0 (.slice (some ⟨G, 0, none⟩) (vs.length + 1) cap)
  have vl : vs.length = st.lst.length := by have := h.ts.len; simpa using this
  have tb2 : Boxed w2 T 27 ul := hA.tb.kept hg (fq T (by omega))
  have ow2 : Own w2 n1 uo (ni st.opn) := World.ownsRow.kept hA.ow hg (own_ne' hA.ts.own hA.ow)
  have rw2 : ∀ i, i < st.lst.length → Own w2 n1 (vs.getD i nl) ((st.lst.map ni).getD i []) := fun i hi => World.ownsRow.kept (hA.ts.row i (by simpa using hi)) hg (own_ne' hA.ts.own (hA.ts.row i (by simpa using hi)))
  have hu2 : Own w2 n1 u (ni c) := World.ownsRow.kept (hu.alloc o) hg (own_ne' hA.ts.own (hu.alloc o))
  have hv : ∀ i, i < st.lst.length → (vs ++ [u]).getD i nl = vs.getD i nl := fun i hi => by simp [List.getD_eq_getElem?_getD, List.getElem?_append, show i < vs.length by omega]
  have hvn : (vs ++ [u]).getD st.lst.length nl = u := by rw [← vl]; simp [List.getD_eq_getElem?_getD]
  have hL : ∀ i, i < st.lst.length → ((st.lst ++ [c]).map ni).getD i [] = (st.lst.map ni).getD i [] := fun i hi => by rw [List.map_append]; simp [List.getD_eq_getElem?_getD, List.getElem?_append, hi]
  have hLn : ((st.lst ++ [c]).map ni).getD st.lst.length [] = ni c := by rw [List.map_append]; simp [List.getD_eq_getElem?_getD]
  have far : ∀ {q : Nat} {x : Value} {zs : List Int}, q < n1 → Own w2 n1 x zs → Own (w2.setCell ⟨q, 0, none⟩ (.slice (some ⟨G, 0, none⟩) (vs.length + 1) cap)) n1 x zs := fun hq hx => World.ownsRow.kept hx (grown_setCell w2 _ 0 _) (row_far hx (by omega))
  refine ⟨⟨(hA.fx.grown hA.sz hg (fun r e => .inl (fr r e))).grown hsz hg2 (fun r e => by cases e; omega), (hA.cb.kept hg (fq C (by omega))).other (by omega) _, (hA.ob.kept hg (fq O (by omega))).other (by omega) _, far (by omega) ow2,
    World.ownsRow.kept (World.ownsRow.kept hA.rr hg (.inr (fq R (by omega)))) hg2 (.inr (by simp [Value.ownBlock]; omega)), tb2.set _, ⟨?_, by simp [vl], fun i hi => ?_, fun i j hne hi hj => ?_⟩, fun i hi => ?_, by simpa using hsz, h.ln⟩, tb2.cell, tb2.frozen⟩
  · exact World.ownsRow.kept h2 hg2 (row_far h2 (by omega))
  · simp only [List.length_map, List.length_append, List.length_singleton] at hi
    show Own _ n1 _ (((st.lst ++ [c]).map ni).getD i [])
    by_cases e : i < st.lst.length
    · rw [hv i e, hL i e]; exact far (by omega) (rw2 i e)
    · obtain rfl : i = st.lst.length := by omega
      rw [hvn, hLn]; exact far (by omega) hu2
  · simp only [List.length_map, List.length_append, List.length_singleton] at hi hj
    by_cases e : i < st.lst.length
    · rw [hv i e]
      by_cases e2 : j < st.lst.length
      · rw [hv j e2]; exact h.ts.ne i j hne (by simpa using e) (by simpa using e2)
      · obtain rfl : j = st.lst.length := by omega
        rw [hvn, hub]
        exact .inr (hfr.r i e)
    · obtain rfl : i = st.lst.length := by omega
      have e2 : j < st.lst.length := by omega
      rw [hvn, hv j e2, hub]
      right
      exact fun q => hfr.r j e2 q.symm
  · have hi' : i < st.lst.length + 1 := by simpa using hi
    by_cases e : i < st.lst.length
    · rw [hv i e]; exact h.dj i e
    · obtain rfl : i = st.lst.length := by omega
      rw [hvn, hub]
      exact .inr fun q => hfr.o q.symm
end
end Go.Proofs.Ytopbbihbpalnlaa
