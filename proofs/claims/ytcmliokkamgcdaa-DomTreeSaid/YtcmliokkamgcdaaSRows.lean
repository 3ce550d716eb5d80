/-
  Words for memory: a slice of slices of ints that a call builds.
-/
import Derived.Test.YtcmliokkamgcdaaGMem
import Derived.RangeFuncBox
import Derived.Deep.AppendLies
import Derived.Deep.RegionLaw
namespace Go.Proofs.Ytcmliokkamgcdaa
open Go.RowKit
set_option linter.unusedVariables false

theorem ss_info : (Try.prog.info? 25).map (fun i => (i.zero, i.size, i.bytes)) = some (some (.slice none 0 0), 1, 24) := by kernel_rfl

def nl : Value := .slice none 0 0
/-- The value v is a slice of slices of ints of the call's own: the slices vs. -/
def OwnS (w : World) (base : Nat) (v : Value) (vs : List Value) : Prop := w.ownsRow base 25 1 v vs.length vs

theorem own_ne {w : World} {b1 b2 : Nat} {v u : Value} {vs : List Value} {zs : List Int} (h : OwnS w b1 v vs) (h2 : Own w b2 u zs) : v.ownBlock = none ∨ v.ownBlock ≠ u.ownBlock := by
  rcases h.2 with ⟨rfl, _⟩ | ⟨g, cap, cur, rfl, _, hh, _⟩
  · exact .inl rfl
  · rcases h2.2 with ⟨rfl, _⟩ | ⟨g2, cap2, cur2, rfl, _, hh2, _⟩
    · exact .inr (by simp [Value.ownBlock])
    · refine .inr fun e => ?_
      have e2 : g = g2 := by simpa [Value.ownBlock] using e
      subst e2
      rw [hh] at hh2
      cases hh2
theorem own_ne' {w : World} {b1 b2 : Nat} {v u : Value} {vs : List Value} {zs : List Int} (h : OwnS w b1 v vs) (h2 : Own w b2 u zs) : u.ownBlock = none ∨ u.ownBlock ≠ v.ownBlock := by
  rcases own_ne h h2 with h3 | h3
  · cases hu : u.ownBlock with
    | none => exact .inl rfl
    | some k => exact .inr (by rw [h3]; simp)
  · exact .inr fun e => h3 e.symm
theorem row_far {w : World} {base e s n g : Nat} {v : Value} {xs : List Value} (h : w.ownsRow base e s v n xs) (hg : g < base) : v.ownBlock = none ∨ v.ownBlock ≠ some g := by
  cases hv : v.ownBlock with
  | none => exact .inl rfl
  | some k => exact .inr fun e => by have := (World.ownsRow.lt h k hv).1; cases e; omega

structure Rws (w : World) (base : Nat) (v : Value) (vs : List Value) (L : List (List Int)) : Prop where
  own : OwnS w base v vs
  len : vs.length = L.length
  row : ∀ i, i < L.length → Own w base (vs.getD i nl) (L.getD i [])
  ne : ∀ i j, i ≠ j → i < L.length → j < L.length → (vs.getD i nl).ownBlock = none ∨ (vs.getD i nl).ownBlock ≠ (vs.getD j nl).ownBlock
section
variable {w w' : World} {base : Nat} {v : Value} {vs : List Value} {L : List (List Int)}
theorem Rws.nil (w : World) (base : Nat) : Rws w base nl [] [] :=
  ⟨World.ownsRow_nil _ _ _ _, rfl, fun i hi => by simp at hi, fun i j _ hi => by simp at hi⟩
theorem Rws.kept {g : Nat} (h : Rws w base v vs L) (hg : w.grownBy w' (some g)) (hl : g < base) : Rws w' base v vs L :=
  ⟨World.ownsRow.kept h.own hg (row_far h.own hl), h.len, fun i hi => World.ownsRow.kept (h.row i hi) hg (row_far (h.row i hi) hl), h.ne⟩
theorem Rws.alloc (h : Rws w base v vs L) (o : Obj) : Rws (w.alloc o) base v vs L :=
  ⟨World.ownsRow.alloc h.own o, h.len, fun i hi => World.ownsRow.alloc (h.row i hi) o, h.ne⟩
theorem Rws.drewN (h : Rws w base v vs L) (n : Nat) : Rws (w.drewN n) base v vs L := ⟨h.own, h.len, h.row, h.ne⟩
theorem getD_set_same {α : Type} (l : List α) (c : Nat) (x d : α) (h : c < l.length) : (l.set c x).getD c d = x := by
  simp [List.getD_eq_getElem?_getD, h]
theorem getD_set_other {α : Type} (l : List α) (c i : Nat) (x d : α) (h : i ≠ c) : (l.set c x).getD i d = l.getD i d := by
  simp [List.getD_eq_getElem?_getD, Ne.symm h]
theorem Rws.grow {w1 : World} {G cap c : Nat} {x : Int} {u' : Value} (h : Rws w base (.slice (some ⟨G, 0, none⟩) vs.length cap) vs L) (hc : c < L.length) (hu : Own w1 base u' (L.getD c [] ++ [x])) (hg : w.grownBy w1 (vs.getD c nl).ownBlock)
    (hat : u'.ownBlock = (vs.getD c nl).ownBlock ∨ ∃ k, u'.ownBlock = some k ∧ w.heap.size ≤ k) :
    Rws (w1.setCell ⟨G, c, none⟩ u') base (.slice (some ⟨G, 0, none⟩) vs.length cap) (vs.set c u') (L.set c (L.getD c [] ++ [x])) := by
  have hS1 : OwnS w1 base (.slice (some ⟨G, 0, none⟩) vs.length cap) vs := World.ownsRow.kept h.own hg (own_ne h.own (h.row c hc))
  have hlen := h.len
  have hrow1 : ∀ i, i ≠ c → i < L.length → Own w1 base (vs.getD i nl) (L.getD i []) := fun i hne hi => World.ownsRow.kept (h.row i hi) hg (h.ne i c hne hi hc)
  have hst := World.ownsRow.stored hS1 c u'
  refine ⟨?_, by simpa using hlen, fun i hi => ?_, fun i j hne hi hj => ?_⟩
  · unfold OwnS
    rw [List.length_set]
    exact hst.1
  · rw [List.length_set] at hi
    by_cases e : i = c
    · subst e
      rw [getD_set_same _ _ _ _ (by omega), getD_set_same _ _ _ _ hi]
      exact World.ownsRow.kept hu hst.2 (own_ne' hS1 hu)
    · rw [getD_set_other _ _ _ _ _ e, getD_set_other _ _ _ _ _ e]
      exact World.ownsRow.kept (hrow1 i e hi) hst.2 (own_ne' hS1 (hrow1 i e hi))
  · rw [List.length_set] at hi hj
    by_cases e : i = c
    · subst e
      rw [getD_set_same _ _ _ _ (by omega), getD_set_other _ _ _ _ _ (fun h => hne h.symm)]
      rcases hat with h1 | ⟨k, h1, hk⟩
      · rw [h1]; exact h.ne i j hne hi hj
      · right
        rw [h1]
        intro e2
        have := (World.ownsRow.lt (h.row j hj) k e2.symm).2
        omega
    · rw [getD_set_other _ _ _ _ _ e]
      by_cases e2 : j = c
      · subst e2
        rw [getD_set_same _ _ _ _ (by omega)]
        rcases hat with h1 | ⟨k, h1, hk⟩
        · rw [h1]; exact h.ne i j hne hi hj
        · cases hu : (vs.getD i nl).ownBlock with
          | none => exact .inl rfl
          | some k' =>
            right
            rw [h1]
            intro e3
            have := (World.ownsRow.lt (h.row i hi) k' hu).2
            cases e3
            omega
      · rw [getD_set_other _ _ _ _ _ e2]
        exact h.ne i j hne hi hj
end


section
variable {w w' : World} {base : Nat} {v : Value} {vs : List Value} {L : List (List Int)}
theorem ownsRow_below {e s n B : Nat} {xs : List Value} {u : Value} (h : w.ownsRow base e s u n xs) (hb : Below B w w') (hB : w.heap.size ≤ B) : w'.ownsRow base e s u n xs := by
  obtain ⟨h1, h2⟩ := h
  refine ⟨h1, ?_⟩
  rcases h2 with h2 | ⟨g', cap', cur, hv, hb', hh, hr⟩
  · exact .inl h2
  · refine .inr ⟨_, _, _, hv, hb', (hb.block _ ?_).trans hh, hr⟩
    rcases Nat.lt_or_ge g' w.heap.size with hlt | hge
    · omega
    · rw [Array.getElem?_eq_none hge] at hh; cases hh
theorem sccRow_mono {e s n b : Nat} {xs : List Value} {u : Value} (h : w.ownsRow base e s u n xs) (hb : b ≤ base) : w.ownsRow b e s u n xs := by
  obtain ⟨h1, h2⟩ := h
  refine ⟨h1, ?_⟩
  rcases h2 with h2 | ⟨g', cap', cur, hv, hb', hr⟩
  · exact .inl h2
  · exact .inr ⟨_, _, _, hv, Nat.le_trans hb hb', hr⟩
theorem Rws.below {B : Nat} (h : Rws w base v vs L) (hb : Below B w w') (hB : w.heap.size ≤ B) : Rws w' base v vs L :=
  ⟨ownsRow_below h.own hb hB, h.len, fun i hi => ownsRow_below (h.row i hi) hb hB, h.ne⟩
theorem Rws.mono (h : Rws w base v vs L) {b : Nat} (hb : b ≤ base) : Rws w b v vs L :=
  ⟨sccRow_mono h.own hb, h.len, fun i hi => sccRow_mono (h.row i hi) hb, h.ne⟩
/-- Where the slice of a row stands. -/
theorem Rws.at_ {G cap i : Nat} (h : Rws w base (.slice (some ⟨G, 0, none⟩) vs.length cap) vs L) (hi : i < L.length) : ∃ a c, w.cell? ⟨G, i, none⟩ = some (.slice a (L.getD i []).length c) ∧ vs.getD i nl = .slice a (L.getD i []).length c ∧ Ints w a (L.getD i []) ∧ w.frozen? ⟨G, i, none⟩ = false := by
  obtain ⟨a, c, hv, hz⟩ := (h.row i hi).shape
  refine ⟨a, c, ?_, hv, hz, World.ownsRow.frozenAt h.own i⟩
  have hl := h.len
  rw [World.ownsRow.cellAt h.own i (by omega), ← hv]
  simp [List.getD_eq_getElem?_getD, show i < vs.length by omega]
end

theorem cell_kept' {w w' : World} {row : Option Nat} {q : Addr} {u : Value} (hg : w.grownBy w' row) (h : w.cell? q = some u) (hne : row = none ∨ row ≠ some q.block) : w'.cell? q = some u := by
  refine (hg.cell_far q (World.block_lt_of_cell? _ _ h) ?_).trans h
  rintro rfl
  rcases hne with h1 | h1
  · cases h1
  · exact h1 rfl

/-- 'append(rows[i], x)' inside a region that draws its order. -/
theorem step_append_at {w : World} {ops : Array Oper} {o : Oper} {a : Act} {K : Act → World → Prop} {Q : Exit → Act → World → Prop} {E : Prop} (hg : o.guard = none) (s x : Operand)
    (hop : o.op = .call { callee := .builtin .append, args := #[s, x], argTypes := #[25, 25] }) (base : Nat) (v : Value) (zs : List Int) (hs : a.eval s = v) (hown : Own w base v zs)
    (B : Nat) (z : Int) (hx : a.eval x = .slice (some ⟨B, 0, none⟩) 1 1) (hc : w.cell? ⟨B, 0, none⟩ = some (.int .i64 z)) (hlen : zs.length ≤ 100000) (hbase : base ≤ w.heap.size)
    (hK : ∀ g cap w', Own w' base (.slice (some ⟨g, 0, none⟩) (zs.length + 1) cap) (zs ++ [z]) → w.grownBy w' v.ownBlock → (v.ownBlock = some g ∨ g = w.heap.size) → K (a.put o.dst (.slice (some ⟨g, 0, none⟩) (zs.length + 1) cap)) w') : if Region.wanted o (yielded ops a.tmps) = true then Oper.wp Try.prog o a w K Q else E := by
  obtain ⟨i0, hi, hz0, hz1, hz2⟩ := info_parts int_info
  refine step_append_lies w hg s x 25 hop base 3 i0 (.int .i64 0) 1 8 Try.underlying25 hi hz0 hz1 hz2 rfl (by decide) v zs.length (zs.map (.int .i64)) hs hown ⟨B, 0, none⟩ 1 1 [.int .i64 z] hx rfl ?_ ?_ (by decide) ?_ (by omega) hbase _ rfl ?_
  · intro j u hj
    match j, hj with
    | 0, hj => simp at hj; subst hj; simpa [Addr.add] using hc
  · intro u hu; simp at hu; subst hu; rfl
  · unfold maxLen; omega
  · intro g cap w' h1 h2 h3 _
    refine hK g cap w' ?_ h2 h3
    unfold Own
    rw [List.length_append, List.map_append]
    exact h1
end Go.Proofs.Ytcmliokkamgcdaa
