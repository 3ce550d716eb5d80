/-
  The order of the components: its memory.
-/
import Derived.Test.YtopbbihbpalnlaaSInM
import Derived.Test.YtopbbihbpalnlaaSHeap
namespace Go.Proofs.Ytopbbihbpalnlaa
open Go.RowKit
set_option linter.unusedVariables false

theorem ownsRow_block {w w' : World} {base : Nat} {e : TypeId} {s n : Nat} {v : Value} {xs : List Value} (h : w.ownsRow base e s v n xs) (hb : ∀ k, v.ownBlock = some k → w'.heap[k]? = w.heap[k]?) : w'.ownsRow base e s v n xs := by
  obtain ⟨h1, h2⟩ := h
  refine ⟨h1, ?_⟩
  rcases h2 with h2 | ⟨g', cap', cur, hv, hb', hh, hr⟩
  · exact .inl h2
  · exact .inr ⟨_, _, _, hv, hb', (hb g' (by rw [hv]; rfl)).trans hh, hr⟩
/-- While the edges are looked at. -/
structure IB (w1 W : World) (B0 F G Q C N : Nat) (I : List Int) (vs : List Value) (E : List (List Int)) (wt : List Int) : Prop where
  of : Row W F F N I
  en : Rws W G (.slice (some ⟨G, 0, none⟩) vs.length C) vs E
  vl : vs.length = C
  far : ∀ i, i < C → (vs.getD i nl).ownBlock ≠ some Q
  wa : Row W Q Q C wt
  fr : Below B0 w1 W
  sz : Q < W.heap.size
  bf : B0 ≤ F
  fg : F < G
  gq : G < Q
section
variable {w1 W X : World} {B0 F G Q C N : Nat} {I : List Int} {vs : List Value} {E : List (List Int)} {wt : List Int}
theorem IB.el (h : IB w1 W B0 F G Q C N I vs E wt) : E.length = C := by have := h.en.len; have := h.vl; omega
theorem IB.alloc (h : IB w1 W B0 F G Q C N I vs E wt) (o : Obj) : IB w1 (W.alloc o) B0 F G Q C N I vs E wt :=
  ⟨h.of.alloc o, h.en.alloc o, h.vl, h.far, h.wa.alloc o, h.fr.alloc (by have := h.sz; have := h.bf; have := h.fg; have := h.gq; omega) o, by have := h.sz; simp; omega, h.bf, h.fg, h.gq⟩
theorem IB.drew (h : IB w1 W B0 F G Q C N I vs E wt) : IB w1 W.drew B0 F G Q C N I vs E wt := ⟨h.of, h.en.drewN 1, h.vl, h.far, h.wa, h.fr.drew, h.sz, h.bf, h.fg, h.gq⟩
theorem IB.drewN (h : IB w1 W B0 F G Q C N I vs E wt) (n : Nat) : IB w1 (W.drewN n) B0 F G Q C N I vs E wt := ⟨h.of, h.en.drewN n, h.vl, h.far, h.wa, ⟨h.fr.os, h.fr.tape, h.fr.output, h.fr.size, h.fr.block⟩, h.sz, h.bf, h.fg, h.gq⟩
theorem IB.push (h : IB w1 X B0 F G Q C N I vs E wt) {t g cap : Nat} {y : Int} {w6 : World} (ht : t < C) (ho : Own w6 G (.slice (some ⟨g, 0, none⟩) ((E.getD t []).length + 1) cap) (E.getD t [] ++ [y])) (hg : X.grownBy w6 (vs.getD t nl).ownBlock)
    (hat : (vs.getD t nl).ownBlock = some g ∨ g = X.heap.size) :
    IB w1 (w6.setCell ⟨G, t, none⟩ (.slice (some ⟨g, 0, none⟩) ((E.getD t []).length + 1) cap)) B0 F G Q C N I (vs.set t (.slice (some ⟨g, 0, none⟩) ((E.getD t []).length + 1) cap)) (E.set t (E.getD t [] ++ [y])) wt ∧ w6.cell? ⟨G, t, none⟩ = some (vs.getD t nl) ∧ w6.frozen? ⟨G, t, none⟩ = false := by
  have hel := h.el
  have hvl := h.vl
  have hbf := h.bf
  have hfg := h.fg
  have hgq := h.gq
  have hsz := h.sz
  have htE : t < E.length := by omega
  have htV : t < vs.length := by omega
  have hge : ∀ k, (vs.getD t nl).ownBlock = some k → G ≤ k := fun k hk => (World.ownsRow.lt (h.en.row t htE) k hk).1
  have hS1 : OwnS w6 G (.slice (some ⟨G, 0, none⟩) vs.length C) vs := World.ownsRow.kept h.en.own hg (own_ne h.en.own (h.en.row t htE))
  have hgs := grown_setCell w6 G t (.slice (some ⟨g, 0, none⟩) ((E.getD t []).length + 1) cap)
  have hgsz := hg.size
  refine ⟨⟨?_, ?_, by rw [List.length_set]; exact hvl, fun i hi => ?_, ?_, ?_, ?_, hbf, hfg, hgq⟩, ?_, World.ownsRow.frozenAt hS1 t⟩
  · exact (h.of.kept hg (fun e => by have := hge F e.symm; omega)).kept hgs (fun e => by cases e; omega)
  · have := Rws.grow h.en htE ho hg (hat.elim (fun e => .inl e.symm) (fun e => .inr ⟨g, rfl, by omega⟩))
    rw [List.length_set]
    exact this
  · by_cases e : i = t
    · subst e
      rw [getD_set_same _ _ _ _ htV]
      show some g ≠ some Q
      rcases hat with h1 | h1
      · rw [← h1]; exact h.far i hi
      · intro e; cases e; omega
    · rw [getD_set_other _ _ _ _ _ e]; exact h.far i hi
  · exact (h.wa.kept hg (fun e => h.far t ht e.symm)).kept hgs (fun e => by cases e; omega)
  · exact (h.fr.grown hg (by omega) (fun k hk => by have := hge k hk; omega)).setCell (p := ⟨G, t, none⟩) (by show B0 ≤ G; omega) _
  · simp; omega
  · rw [World.ownsRow.cellAt hS1 t (by omega)]
    simp [List.getD_eq_getElem?_getD, htV]
theorem IB.wset (h : IB w1 W B0 F G Q C N I vs E wt) (f : Nat) (z : Int) : IB w1 (W.setCell ⟨Q, f, none⟩ (.int .i64 z)) B0 F G Q C N I vs E (wt.set f z) := by
  have hel := h.el
  have hbf := h.bf
  have hfg := h.fg
  have hgq := h.gq
  have hsz := h.sz
  have hgs := grown_setCell W Q f (.int .i64 z)
  refine ⟨h.of.kept hgs (fun e => by cases e; omega), ⟨World.ownsRow.kept h.en.own hgs (.inr (fun e => by simp [Value.ownBlock] at e; omega)), h.en.len, fun i hi => World.ownsRow.kept (h.en.row i hi) hgs (.inr (h.far i (by omega))), h.en.ne⟩, h.vl, h.far, h.wa.set f z, h.fr.setCell (p := ⟨Q, f, none⟩) (by show B0 ≤ Q; omega) _, by simpa using hsz, hbf, hfg, hgq⟩
end
theorem IB.row {w1 W : World} {B0 F G Q C N : Nat} {I : List Int} {vs : List Value} {E : List (List Int)} {wt : List Int} (h : IB w1 W B0 F G Q C N I vs E wt) {i : Nat} (hi : i < C) : ∃ a c, W.cell? ⟨G, i, none⟩ = some (.slice a (E.getD i []).length c) ∧ (0 < (E.getD i []).length → ∃ b off, a = some ⟨b, off, none⟩ ∧ b < W.heap.size ∧ b ≠ Q ∧ ∀ j, j < (E.getD i []).length → W.cell? ⟨b, off + j, none⟩ = some (.int .i64 ((E.getD i []).getD j 0))) := by
  obtain ⟨a, c, h1, h2, h3, _⟩ := h.en.at_ (i := i) (by rw [h.el]; exact hi)
  refine ⟨a, c, h1, fun h0 => ?_⟩
  obtain ⟨b, off, rfl, h4⟩ := h3 h0
  refine ⟨b, off, rfl, World.block_lt_of_cell? _ _ (h4 0 h0), fun e => h.far i hi ?_, h4⟩
  rw [h2, e]; rfl
/-- While the heap is in use. -/
structure IR (Wa W : World) (H Q C : Nat) (u : Value) (rd wt : List Int) : Prop where
  os : W.os = Wa.os
  tape : W.tape = Wa.tape
  output : W.output = Wa.output
  sz : H + 1 ≤ W.heap.size
  blk : ∀ q, q < H → q ≠ Q → W.heap[q]? = Wa.heap[q]?
  wa : Row W Q Q C wt
  qh : Q < H
  hb : HB W (H + 1) H u rd
  hp : HPn rd rd.length
section
variable {Wa W W' : World} {H Q C : Nat} {u u' : Value} {rd rd' wt : List Int}
theorem IR.cell (h : IR Wa W H Q C u rd wt) {p : Addr} {v : Value} (h1 : p.block < H) (h2 : p.block ≠ Q) (hc : Wa.cell? p = some v) : W.cell? p = some v := by
  rw [← hc]
  unfold World.cell?
  rw [h.blk _ h1 h2]
theorem IR.ints (h : IR Wa W H Q C u rd wt) {b off : Nat} {zs : List Int} (h1 : b < H) (h2 : b ≠ Q) (hz : Ints Wa (some ⟨b, off, none⟩) zs) : Ints W (some ⟨b, off, none⟩) zs := fun h0 => by
  obtain ⟨b', off', e, hc⟩ := hz h0
  cases e
  exact ⟨b, off, rfl, fun i hi => h.cell (p := ⟨b, off + i, none⟩) h1 h2 (hc i hi)⟩
theorem IR.below (h : IR Wa W H Q C u rd wt) {w : World} {B : Nat} (hb : Below B w Wa) (h1 : B ≤ Q) (h2 : Wa.heap.size ≤ H + 1) : Below B w W :=
  ⟨h.os.trans hb.os, h.tape.trans hb.tape, h.output.trans hb.output, by have := hb.size; have := h.sz; omega, fun k hk => (h.blk k (by have := h.qh; omega) (by omega)).trans (hb.block k hk)⟩
theorem IR.ge (h : IR Wa W H Q C u rd wt) {k : Nat} (hk : u.ownBlock = some k) : H + 1 ≤ k := (World.ownsRow.lt h.hb.own k hk).1
theorem IR.grow (h : IR Wa W H Q C u rd wt) (hg : G2 W W' H u.ownBlock) (hb : HB W' (H + 1) H u' rd') (hp : HPn rd' rd'.length) : IR Wa W' H Q C u' rd' wt := by
  have hq := h.qh
  have hs := h.sz
  have hne : ∀ q, q < H → some q ≠ u.ownBlock := fun q hq e => by have := h.ge e.symm; omega
  refine ⟨hg.os.trans h.os, hg.tape.trans h.tape, hg.output.trans h.output, by have := hg.size; omega, fun q h1 h2 => (hg.block q (by omega) (by omega) (hne q h1)).trans (h.blk q h1 h2), ownsRow_block h.wa (fun k hk => ?_), hq, hb, hp⟩
  cases hk
  exact hg.block Q (by omega) (by omega) (hne Q hq)
theorem IR.wset (h : IR Wa W H Q C u rd wt) (f : Nat) (z : Int) : IR Wa (W.setCell ⟨Q, f, none⟩ (.int .i64 z)) H Q C u rd (wt.set f z) := by
  have hq := h.qh
  have hgs := grown_setCell W Q f (.int .i64 z)
  exact ⟨h.os, h.tape, h.output, by simpa using h.sz, fun q h1 h2 => (hgs.block q (by have := h.sz; omega) (fun e => h2 (by cases e; rfl))).trans (h.blk q h1 h2), h.wa.set f z, hq,
    ⟨h.hb.box.kept hgs (fun e => by cases e; omega), World.ownsRow.kept h.hb.own hgs (.inr (fun e => by have := h.ge e; omega)), h.hb.lt, by simpa using h.hb.sz⟩, h.hp⟩
theorem IR.alloc (h : IR Wa W H Q C u rd wt) (o : Obj) : IR Wa (W.alloc o) H Q C u rd wt := by
  have hg := World.grownBy_alloc W o none
  exact ⟨h.os, h.tape, h.output, by have := h.sz; simp; omega, fun q h1 h2 => (hg.block q (by have := h.sz; omega) (by simp)).trans (h.blk q h1 h2), h.wa.alloc o, h.qh, ⟨h.hb.box.alloc o, h.hb.own.alloc o, h.hb.lt, by have := h.hb.sz; simp; omega⟩, h.hp⟩
theorem IR.drew (h : IR Wa W H Q C u rd wt) : IR Wa W.drew H Q C u rd wt := ⟨h.os, h.tape, h.output, h.sz, h.blk, h.wa, h.qh, ⟨h.hb.box, h.hb.own, h.hb.lt, h.hb.sz⟩, h.hp⟩
theorem IR.drewN (h : IR Wa W H Q C u rd wt) (n : Nat) : IR Wa (W.drewN n) H Q C u rd wt := ⟨h.os, h.tape, h.output, h.sz, h.blk, h.wa, h.qh, ⟨h.hb.box, h.hb.own, h.hb.lt, h.hb.sz⟩, h.hp⟩
theorem IR.grown (h : IR Wa W H Q C u rd wt) {us : Value} {xs : List Value} (ho : OwnS W (H + 1) us xs) (hg : W.grownBy W' us.ownBlock) : IR Wa W' H Q C u rd wt := by
  have hq := h.qh
  have hs := h.sz
  have hne : ∀ q, q ≤ H → some q ≠ us.ownBlock := fun q hq e => by have := (World.ownsRow.lt ho q e.symm).1; omega
  exact ⟨hg.os.trans h.os, hg.tape.trans h.tape, hg.output.trans h.output, by have := hg.size; omega, fun q h1 h2 => (hg.block q (by omega) (hne q (by omega))).trans (h.blk q h1 h2), h.wa.kept hg (hne Q (by omega)), hq,
    ⟨h.hb.box.kept hg (hne H (Nat.le_refl _)), World.ownsRow.kept h.hb.own hg (own_ne' ho h.hb.own), h.hb.lt, by have := hg.size; have := h.hb.sz; omega⟩, h.hp⟩
theorem IR.keepS (h : IR Wa W H Q C u rd wt) {us : Value} {xs : List Value} (ho : OwnS W (H + 1) us xs) (hg : G2 W W' H u.ownBlock) : OwnS W' (H + 1) us xs := by
  refine ownsRow_block ho fun k hk => ?_
  have h1 := World.ownsRow.lt ho k hk
  refine hg.block k h1.2 (by omega) (fun e => ?_)
  rcases own_ne ho h.hb.own with h2 | h2
  · rw [h2] at hk; cases hk
  · exact h2 (hk.trans e)
theorem IR.keepSet (h : IR Wa W H Q C u rd wt) {us : Value} {xs : List Value} (ho : OwnS W (H + 1) us xs) (f : Nat) (z : Value) : OwnS (W.setCell ⟨Q, f, none⟩ z) (H + 1) us xs :=
  World.ownsRow.kept ho (grown_setCell W Q f z) (.inr (fun e => by have := (World.ownsRow.lt ho Q e).1; have := h.qh; omega))
end
/-- The rows that are listed. -/
structure SL (w W : World) (H : Nat) (us : Value) (xs : List Value) (L : List (List Int)) (s : List Nat) : Prop where
  own : OwnS W (H + 1) us xs
  len : xs.length = s.length
  row : ∀ j, j < s.length → ∃ a c, xs.getD j nl = .slice a (L.getD (s.getD j 0) []).length c ∧ Ints w a (L.getD (s.getD j 0) [])
theorem SL.snoc {w W W' : World} {H G cap : Nat} {us : Value} {xs : List Value} {L : List (List Int)} {s : List Nat} (h : SL w W H us xs L s) {i : Nat} {a : Option Addr} {c : Nat} (hz : Ints w a (L.getD i [])) (ho : OwnS W' (H + 1) (.slice (some ⟨G, 0, none⟩) (xs.length + 1) cap) (xs ++ [.slice a (L.getD i []).length c])) :
    SL w W' H (.slice (some ⟨G, 0, none⟩) (xs.length + 1) cap) (xs ++ [.slice a (L.getD i []).length c]) L (s ++ [i]) := by
  have hl := h.len
  refine ⟨ho, by simp [hl], fun j hj => ?_⟩
  rw [List.length_append, List.length_singleton] at hj
  by_cases e : j < s.length
  · have e1 : (xs ++ [Value.slice a (L.getD i []).length c]).getD j nl = xs.getD j nl := by simp [List.getD_eq_getElem?_getD, List.getElem?_append, show j < xs.length by omega]
    have e2 : (s ++ [i]).getD j 0 = s.getD j 0 := by simp [List.getD_eq_getElem?_getD, List.getElem?_append, e]
    rw [e1, e2]
    exact h.row j e
  · obtain rfl : j = s.length := by omega
    have e1 : (xs ++ [Value.slice a (L.getD i []).length c]).getD s.length nl = .slice a (L.getD i []).length c := by rw [← hl]; simp [List.getD_eq_getElem?_getD]
    have e2 : (s ++ [i]).getD s.length 0 = i := by simp [List.getD_eq_getElem?_getD]
    rw [e1, e2]
    exact ⟨a, c, rfl, hz⟩
theorem SL.keep {w W W' : World} {H : Nat} {us : Value} {xs : List Value} {L : List (List Int)} {s : List Nat} (h : SL w W H us xs L s) (ho : OwnS W' (H + 1) us xs) : SL w W' H us xs L s := ⟨ho, h.len, h.row⟩
theorem SL.shape {w W : World} {H : Nat} {us : Value} {xs : List Value} {L : List (List Int)} {s : List Nat} (h : SL w W H us xs L s) : ∃ a c, us = .slice a s.length c := by
  have hl := h.len
  rcases h.own.2 with ⟨rfl, h0⟩ | ⟨g, cap, cur, e, _⟩
  · exact ⟨none, 0, by rw [← hl, h0]⟩
  · exact ⟨_, _, by rw [e, hl]⟩
theorem SL.start (w W : World) (H : Nat) (L : List (List Int)) : SL w W H (.slice none 0 0) [] L [] := ⟨World.ownsRow_nil _ _ _ _, rfl, fun j hj => by simp at hj⟩
theorem SL.rl {w W : World} {H : Nat} {us : Value} {xs : List Value} {L : List (List Int)} {s : List Nat} (h : SL w W H us xs L s) (hb : Below w.heap.size w W) : RL W us (s.map fun i => L.getD i []) := by
  have hl := h.len
  have hat : ∀ i, i < s.length → (s.map fun i => L.getD i []).getD i [] = L.getD (s.getD i 0) [] := fun i hi => by simp [List.getD_eq_getElem?_getD, hi]
  rcases h.own.2 with ⟨rfl, h0⟩ | ⟨g, cap, cur, e, _⟩
  · exact ⟨none, 0, by simp; omega, fun h1 => by simp at h1; omega⟩
  · refine ⟨some ⟨g, 0, none⟩, cap, by rw [e]; simp; omega, fun h0 => ⟨g, 0, rfl, fun i hi => ?_⟩⟩
    rw [List.length_map] at hi
    subst e
    obtain ⟨a, c, h1, h2⟩ := h.row i hi
    rw [hat i hi]
    refine ⟨a, c, ?_, h2.below hb (Nat.le_refl _)⟩
    rw [Nat.zero_add, World.ownsRow.cellAt h.own i (by omega), ← h1]
    simp [List.getD_eq_getElem?_getD, show i < xs.length by omega]
/-- What the order is. -/
structure OrdOk (N : Nat) (ps : List (Int × Int)) (L : List (List Nat)) (s : List Nat) : Prop where
  nd : s.Nodup
  mem : ∀ i, i ∈ s ↔ i < L.length
  gr : Gr (btw N L ps) L.length (hdL L) s
def lenS : Value → Nat
  | .slice _ n _ => n
  | _ => 0
def InEnd (w : World) (N : Nat) (ps : List (Int × Int)) (L : List (List Nat)) (e : Ending) (w' : World) : Prop :=
  ∃ u s, e = .returned u ∧ RL w' u (s.map fun i => (L.map ni).getD i []) ∧ Below w.heap.size w w' ∧ OrdOk N ps L s
end Go.Proofs.Ytopbbihbpalnlaa
