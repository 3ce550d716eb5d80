/-
  The variables of the definition's Postorder: the marks, the list, and the two stacks.
-/
import Derived.Test.YthgnbpiemkcdhaaGRPostM
import Derived.Test.YthgnbpiemkcdhaaGRLists
namespace Go.Proofs.Ythgnbpiemkcdhaa
open Go.RowKit Go.Shelf
set_option linter.unusedVariables false

/-- Two values share no block. -/
def Ne2 (a b : Value) : Prop := ∀ g, a.ownBlock = some g → b.ownBlock ≠ some g
theorem Ne2.symm {a b : Value} (h : Ne2 a b) : Ne2 b a := fun g hb ha => h g ha hb
theorem Ne2.kept {w w' : World} {base e s n : Nat} {a b : Value} {xs : List Value} (h : w.ownsRow base e s a n xs) (hne : Ne2 a b) (hg : w.grownBy w' b.ownBlock) : w'.ownsRow base e s a n xs := by
  refine World.ownsRow.kept h hg ?_
  cases ha : a.ownBlock with
  | none => exact .inl rfl
  | some g => exact .inr (fun e => hne g ha e.symm)
/-- A value that lies where b lay, or in what is new. -/
theorem Ne2.lies {w : World} {base e s n : Nat} {a b b' : Value} {xs : List Value} (h : w.ownsRow base e s a n xs) (hne : Ne2 a b) (hat : ∀ g, b'.ownBlock = some g → b.ownBlock = some g ∨ w.heap.size ≤ g) : Ne2 a b' := fun g ha hb => by
  rcases hat g hb with h1 | h1
  · exact hne g ha h1
  · have := (World.ownsRow.lt h g ha).2; omega
structure PMem (W : World) (B S : Nat) (bs : List Bool) (vo vs vd : Value) (out stk dn : List Int) : Prop where
  row : RowB W B S bs
  o : Own W B vo out
  s : Own W B vs stk
  d : Own W B vd dn
  os : Ne2 vo vs
  od : Ne2 vo vd
  sd : Ne2 vs vd
theorem rowB_ne {w : World} {b1 b2 S : Nat} {bs : List Bool} {v : Value} {zs : List Int} (h : RowB w b1 S bs) (h2 : Own w b2 v zs) : v.ownBlock ≠ some S := fun e => by
  rcases h.2 with ⟨h0, _⟩ | ⟨g, cap, cur, hv, _, hh, _⟩
  · cases h0
  · simp only [Value.slice.injEq, Option.some.injEq, Addr.mk.injEq] at hv
    obtain ⟨⟨rfl, _⟩, _⟩ := hv
    rcases h2.2 with ⟨rfl, _⟩ | ⟨g2, cap2, cur2, rfl, _, hh2, _⟩
    · cases e
    · cases e
      rw [hh] at hh2
      cases hh2
section
variable {W W' : World} {B S : Nat} {bs : List Bool} {vo vs vd : Value} {out stk dn : List Int}
theorem PMem.below {D : Nat} (h : PMem W B S bs vo vs vd out stk dn) (hb : Below D W W') (hD : W.heap.size ≤ D) : PMem W' B S bs vo vs vd out stk dn :=
  ⟨ownsRow_below h.row hb hD, ownsRow_below h.o hb hD, ownsRow_below h.s hb hD, ownsRow_below h.d hb hD, h.os, h.od, h.sd⟩
theorem PMem.alloc (h : PMem W B S bs vo vs vd out stk dn) (o : Obj) : PMem (W.alloc o) B S bs vo vs vd out stk dn := h.below ((Below.refl _ _).alloc (Nat.le_refl _) o) (Nat.le_refl _)
theorem PMem.drewN (h : PMem W B S bs vo vs vd out stk dn) (n : Nat) : PMem (W.drewN n) B S bs vo vs vd out stk dn := ⟨h.row, h.o, h.s, h.d, h.os, h.od, h.sd⟩
theorem own_mark {i : Nat} {v : Value} {zs : List Int} (hr : RowB W B S bs) (h : Own W B v zs) (b : Value) : Own (W.setCell ⟨S, i, none⟩ b) B v zs :=
  World.ownsRow.kept h (grown_setCell W S i b) (.inr (rowB_ne hr h))
theorem PMem.mark (h : PMem W B S bs vo vs vd out stk dn) (i : Nat) : PMem (W.setCell ⟨S, i, none⟩ (.bool true)) B S (bs.set i true) vo vs vd out stk dn :=
  ⟨h.row.set i true, own_mark h.row h.o _, own_mark h.row h.s _, own_mark h.row h.d _, h.os, h.od, h.sd⟩
theorem rowB_kept {v : Value} {zs : List Int} (hr : RowB W B S bs) (h : Own W B v zs) (hg : W.grownBy W' v.ownBlock) : RowB W' B S bs :=
  hr.kept hg (fun e => rowB_ne hr h e.symm)
/-- An element of the second stack is written. -/
theorem PMem.store {g cd n : Nat} (h : PMem W B S bs vo vs (.slice (some ⟨g, 0, none⟩) n cd) out stk dn) (hn : dn.length = n) (i : Nat) (z : Int) : PMem (W.setCell ⟨g, i, none⟩ (.int .i64 z)) B S bs vo vs (.slice (some ⟨g, 0, none⟩) n cd) out stk (dn.set i z) := by
  have hg : W.grownBy (W.setCell ⟨g, i, none⟩ (.int .i64 z)) (Value.slice (some ⟨g, 0, none⟩) n cd).ownBlock := grown_setCell W g i _
  refine ⟨rowB_kept h.row h.d hg, Ne2.kept h.o h.od hg, Ne2.kept h.s h.sd hg, ?_, h.os, h.od, h.sd⟩
  have hd := h.d
  subst hn
  have := (World.ownsRow.stored hd i (.int .i64 z)).1
  unfold Own
  rw [List.length_set, List.map_set]
  exact this
theorem own_take {g c n : Nat} {zs : List Int} (h : Own W B (.slice (some ⟨g, 0, none⟩) n c) zs) (hn : zs.length = n) (k : Nat) (hk : k ≤ n) : Own W B (.slice (some ⟨g, 0, none⟩) k c) (zs.take k) := by
  subst hn
  obtain ⟨h1, h2⟩ := h
  have hl : (zs.take k).length = k := by rw [List.length_take]; omega
  refine ⟨by simp, ?_⟩
  rw [hl]
  rcases h2 with ⟨e, _⟩ | ⟨g', cap, cur, e, hb, hh, h3, h4, h5, h6⟩
  · cases e
  · simp only [Value.slice.injEq, Option.some.injEq, Addr.mk.injEq] at e
    obtain ⟨⟨rfl, _⟩, _, rfl⟩ := e
    refine .inr ⟨g, c, cur, rfl, hb, hh, by omega, h4, h5, ?_⟩
    rw [List.map_take, ← h6, List.take_take, Nat.mul_one, Nat.mul_one, Nat.min_eq_left hk]
theorem PMem.shrink {gs cs gd cd n : Nat} (h : PMem W B S bs vo (.slice (some ⟨gs, 0, none⟩) n cs) (.slice (some ⟨gd, 0, none⟩) n cd) out stk dn) (hs : stk.length = n) (hd : dn.length = n) (k : Nat) (hk : k ≤ n) :
    PMem W B S bs vo (.slice (some ⟨gs, 0, none⟩) k cs) (.slice (some ⟨gd, 0, none⟩) k cd) out (stk.take k) (dn.take k) :=
  ⟨h.row, h.o, own_take h.s hs k hk, own_take h.d hd k hk, h.os, h.od, h.sd⟩
theorem PMem.putO {v' : Value} {out' : List Int} (h : PMem W B S bs vo vs vd out stk dn) (ho : Own W' B v' out') (hg : W.grownBy W' vo.ownBlock) (hat : ∀ g, v'.ownBlock = some g → vo.ownBlock = some g ∨ W.heap.size ≤ g) : PMem W' B S bs v' vs vd out' stk dn :=
  ⟨rowB_kept h.row h.o hg, ho, Ne2.kept h.s h.os.symm hg, Ne2.kept h.d h.od.symm hg, (Ne2.lies h.s h.os.symm hat).symm, (Ne2.lies h.d h.od.symm hat).symm, h.sd⟩
theorem PMem.putS {v' : Value} {stk' : List Int} (h : PMem W B S bs vo vs vd out stk dn) (ho : Own W' B v' stk') (hg : W.grownBy W' vs.ownBlock) (hat : ∀ g, v'.ownBlock = some g → vs.ownBlock = some g ∨ W.heap.size ≤ g) : PMem W' B S bs vo v' vd out stk' dn :=
  ⟨rowB_kept h.row h.s hg, Ne2.kept h.o h.os hg, ho, Ne2.kept h.d h.sd.symm hg, Ne2.lies h.o h.os hat, h.od, (Ne2.lies h.d h.sd.symm hat).symm⟩
theorem PMem.putD {v' : Value} {dn' : List Int} (h : PMem W B S bs vo vs vd out stk dn) (ho : Own W' B v' dn') (hg : W.grownBy W' vd.ownBlock) (hat : ∀ g, v'.ownBlock = some g → vd.ownBlock = some g ∨ W.heap.size ≤ g) : PMem W' B S bs vo vs v' out stk dn' :=
  ⟨rowB_kept h.row h.d hg, Ne2.kept h.o h.od hg, Ne2.kept h.s h.sd hg, ho, h.os, Ne2.lies h.o h.od hat, Ne2.lies h.s h.sd hat⟩
end
/-- 'out = append(out, z)': where the result lies. -/
theorem wpList_append_lie {w : World} {ops : Array Oper} {rest : List Oper} {o : Oper} {a : Act} {Q : Exit → Act → World → Prop} (hg : o.guard = none) (s x : Operand)
    (hop : o.op = .call { callee := .builtin .append, args := #[s, x], argTypes := #[29, 29] }) (base : Nat) (v : Value) (zs : List Int) (n : Nat) (hn : zs.length = n) (hs : a.eval s = v) (hown : Own w base v zs)
    (B : Nat) (z : Int) (hx : a.eval x = .slice (some ⟨B, 0, none⟩) 1 1) (hc : w.cell? ⟨B, 0, none⟩ = some (.int .i64 z)) (hlen : n ≤ 100000) (hbase : base ≤ w.heap.size)
    (hK : ∀ g cap w', Own w' base (.slice (some ⟨g, 0, none⟩) (n + 1) cap) (zs ++ [z]) → w.grownBy w' v.ownBlock → (∀ k, (Value.slice (some ⟨g, 0, none⟩) (n + 1) cap).ownBlock = some k → v.ownBlock = some k ∨ w.heap.size ≤ k) → wpList Try.prog ops Q rest (a.put o.dst (.slice (some ⟨g, 0, none⟩) (n + 1) cap)) w') : wpList Try.prog ops Q (o :: rest) a w := by
  obtain ⟨i0, hi, hz0, hz1, hz2⟩ := info_parts int_info
  subst hn
  refine wpList_append_lies w hg s x 29 hop base 3 i0 (.int .i64 0) 1 8 Try.underlying29 hi hz0 hz1 hz2 rfl (by decide) v zs.length (zs.map (.int .i64)) hs hown ⟨B, 0, none⟩ 1 1 [.int .i64 z] hx rfl ?_ ?_ (by decide) ?_ (by omega) hbase _ rfl ?_
  · intro j u hj
    match j, hj with
    | 0, hj => simp at hj; subst hj; simpa [Addr.add] using hc
  · intro u hu; simp at hu; subst hu; rfl
  · unfold maxLen; omega
  · intro g cap w' h1 h2 h3 _
    refine hK g cap w' ?_ h2 fun k hk => ?_
    · unfold Own
      rw [List.length_append, List.map_append]
      exact h1
    · have e : g = k := by simpa [Value.ownBlock] using hk
      subst e
      rcases h3 with h3 | h3
      · exact .inl h3
      · exact .inr (Nat.le_of_eq h3.symm)
def SS (fr : List (Int × Nat)) : List Int := fr.map fun e => e.1
def SD (fr : List (Int × Nat)) : List Int := fr.map fun e => ((e.2 : Nat) : Int)
theorem SS_snoc (fr : List (Int × Nat)) (e : Int × Nat) : SS (fr ++ [e]) = SS fr ++ [e.1] := by simp [SS]
theorem SD_snoc (fr : List (Int × Nat)) (e : Int × Nat) : SD (fr ++ [e]) = SD fr ++ [((e.2 : Nat) : Int)] := by simp [SD]
theorem length_SS (fr : List (Int × Nat)) : (SS fr).length = fr.length := by simp [SS]
theorem length_SD (fr : List (Int × Nat)) : (SD fr).length = fr.length := by simp [SD]
theorem SS_take (fr : List (Int × Nat)) (e : Int × Nat) : (SS (fr ++ [e])).take fr.length = SS fr := by rw [SS_snoc, ← length_SS fr, List.take_left]
theorem SD_take (fr : List (Int × Nat)) (e : Int × Nat) : (SD (fr ++ [e])).take fr.length = SD fr := by rw [SD_snoc, ← length_SD fr, List.take_left]
theorem SD_set (fr : List (Int × Nat)) (v : Int) (k : Nat) : (SD (fr ++ [(v, k)])).set fr.length ((k + 1 : Nat) : Int) = SD (fr ++ [(v, k + 1)]) := by
  rw [SD_snoc, SD_snoc, ← length_SD fr, List.set_append_right _ _ (Nat.le_refl _)]; simp
theorem SS_last (fr : List (Int × Nat)) (e : Int × Nat) : (SS (fr ++ [e])).getD fr.length 0 = e.1 := by rw [SS_snoc, ← length_SS fr]; simp [List.getD_eq_getElem?_getD]
theorem SD_last (fr : List (Int × Nat)) (e : Int × Nat) : (SD (fr ++ [e])).getD fr.length 0 = ((e.2 : Nat) : Int) := by rw [SD_snoc, ← length_SD fr]; simp [List.getD_eq_getElem?_getD]
theorem own_new1 (W : World) (B : Nat) (hB : B ≤ W.heap.size) (z : Int) : Own (W.alloc (.cells #[.int .i64 z] 3)) B (.slice (some ⟨W.heap.size, 0, none⟩) 1 1) [z] :=
  ⟨rfl, .inr ⟨_, 1, _, rfl, hB, World.alloc_heap_new W _, Nat.le_refl _, by unfold maxLen; omega, rfl, rfl⟩⟩
theorem cell_at (X : World) (z : Int) (t : TypeId) (g : Nat) (h : X.heap.size = g) : (X.alloc (.cells #[.int .i64 z] t)).cell? ⟨g, 0, none⟩ = some (.int .i64 z) := by subst h; simp [go_sem]
theorem own_shape {w : World} {base n : Nat} {v : Value} {zs : List Int} (h : Own w base v zs) (hn : zs.length = n) (h0 : 0 < n) : ∃ g c, v = .slice (some ⟨g, 0, none⟩) n c ∧ n ≤ c ∧ c ≤ maxLen ∧ base ≤ g ∧ g < w.heap.size := by
  subst hn
  rcases h.2 with ⟨_, e⟩ | ⟨g, cap, cur, hv, hb, hh, h3, h4, _⟩
  · omega
  · exact ⟨g, cap, hv, h3, h4, hb, (Array.getElem?_eq_some_iff.1 hh).1⟩
theorem own_cell {w : World} {base n g c : Nat} {zs : List Int} (h : Own w base (.slice (some ⟨g, 0, none⟩) n c) zs) (hn : zs.length = n) {i : Nat} (hi : i < zs.length) : w.cell? ⟨g, i, none⟩ = some (.int .i64 (zs.getD i 0)) := by
  subst hn
  rw [World.ownsRow.cellAt h i (by omega)]
  simp [List.getD_eq_getElem?_getD, hi]
theorem rnode_at (N : Int) (a : Option Addr) (n c : Nat) (ps : List (Int × Int)) (v : Int) (r : Bool) (hr : nodeB N ps v = r) (w : World) (hl : ps.length = n) (hn : n ≤ maxLen) (hE : Pairs w a ps) :
    Calls Try.prog 34 #[.agg #[.int .i64 N, .slice a n c], .int .i64 v] w fun e w' => e = .returned (.bool r) ∧ Below w.heap.size w w' := by
  subst hl hr; exact rnode_any N a c ps v w hn hE
end Go.Proofs.Ythgnbpiemkcdhaa
