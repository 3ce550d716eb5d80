/-
  A heap of nodes in a box: its memory, and Push and Pop of its own.
-/
import Derived.Test.YtopbbihbpalnlaaSLeast
import Derived.RangeFuncNested
namespace Go.Proofs.Ytopbbihbpalnlaa
open Go.RowKit
set_option linter.unusedVariables false

/-- Besides block H and the slice's own block, all is as it was. -/
structure G2 (w w' : World) (H : Nat) (r : Option Nat) : Prop where
  os : w'.os = w.os
  tape : w'.tape = w.tape
  output : w'.output = w.output
  size : w.heap.size ≤ w'.heap.size
  block : ∀ q, q < w.heap.size → q ≠ H → some q ≠ r → w'.heap[q]? = w.heap[q]?
def LaterB (w : World) (r : Option Nat) (u : Value) : Prop := u.ownBlock = r ∨ ∃ k, u.ownBlock = some k ∧ w.heap.size ≤ k
theorem G2.trans {a b c : World} {H : Nat} {r : Option Nat} {u : Value} (h : G2 a b H r) (k : G2 b c H u.ownBlock) (hu : LaterB a r u) : G2 a c H r :=
  ⟨k.os.trans h.os, k.tape.trans h.tape, k.output.trans h.output, Nat.le_trans h.size k.size, fun q hq h1 h2 => (k.block q (Nat.lt_of_lt_of_le hq h.size) h1 (fun e => by
    rcases hu with e2 | ⟨k2, e2, h3⟩
    · exact h2 (e.trans e2)
    · rw [e2] at e; cases e; omega)).trans (h.block q hq h1 h2)⟩
theorem G2.refl (w : World) (H : Nat) (r : Option Nat) : G2 w w H r := ⟨rfl, rfl, rfl, Nat.le_refl _, fun _ _ _ _ => rfl⟩
theorem G2.grown {w w' : World} {H : Nat} {r : Option Nat} (h : w.grownBy w' r) : G2 w w' H r := ⟨h.os, h.tape, h.output, h.size, fun q hq _ hr => h.block q hq hr⟩
theorem LaterB.trans {a b : World} {r : Option Nat} {u v : Value} (h : LaterB a r u) (k : LaterB b u.ownBlock v) (hs : a.heap.size ≤ b.heap.size) : LaterB a r v := by
  rcases k with e | ⟨k2, e, h2⟩
  · rcases h with e2 | ⟨k3, e3, h3⟩
    · exact .inl (e.trans e2)
    · exact .inr ⟨k3, e.trans e3, h3⟩
  · exact .inr ⟨k2, e, by omega⟩
/-- Box H holds the nodes ys. -/
structure HB (w : World) (base H : Nat) (u : Value) (ys : List Int) : Prop where
  box : Boxed w H 62 u
  own : Own w base u ys
  lt : H < base
  sz : base ≤ w.heap.size
/-- What a step of the heap leaves. -/
def HE (w : World) (base H : Nat) (r : Option Nat) (zs : List Int) (w' : World) : Prop := ∃ u', HB w' base H u' zs ∧ G2 w w' H r ∧ LaterB w r u'
theorem HE.trans {a b c : World} {base H : Nat} {r : Option Nat} {u : Value} {ys zs : List Int} (h1 : G2 a b H r) (h2 : LaterB a r u) (h : HE b base H u.ownBlock zs c) : HE a base H r zs c := by
  obtain ⟨u', hb, hg, hl⟩ := h
  exact ⟨u', hb, h1.trans hg h2, h2.trans hl h1.size⟩
theorem step_append_lf {w : World} {ops : Array Oper} {o : Oper} {a : Act} {K : Act → World → Prop} {Q : Exit → Act → World → Prop} {E : Prop} (hg : o.guard = none) (s x : Operand)
    (hop : o.op = .call { callee := .builtin .append, args := #[s, x], argTypes := #[62, 62] }) (base : Nat) (v : Value) (zs : List Int) (hs : a.eval s = v) (hown : Own w base v zs)
    (B : Nat) (z : Int) (hx : a.eval x = .slice (some ⟨B, 0, none⟩) 1 1) (hc : w.cell? ⟨B, 0, none⟩ = some (.int .i64 z)) (n : Nat) (hn : zs.length = n) (hlen : n ≤ 100000) (hbase : base ≤ w.heap.size)
    (hK : ∀ g cap w', Own w' base (.slice (some ⟨g, 0, none⟩) (n + 1) cap) (zs ++ [z]) → w.grownBy w' v.ownBlock → (v.ownBlock = some g ∨ g = w.heap.size) → K (a.put o.dst (.slice (some ⟨g, 0, none⟩) (n + 1) cap)) w') : if Region.wanted o (yielded ops a.tmps) = true then Oper.wp Try.prog o a w K Q else E := by
  subst hn
  obtain ⟨i0, hi, hz0, hz1, hz2⟩ := info_parts int_info
  refine step_append_lies w hg s x 62 hop base 3 i0 (.int .i64 0) 1 8 Try.underlying62 hi hz0 hz1 hz2 rfl (by decide) v zs.length (zs.map (.int .i64)) hs hown ⟨B, 0, none⟩ 1 1 [.int .i64 z] hx rfl ?_ ?_ (by decide) ?_ (by omega) hbase _ rfl ?_
  · intro j u hj
    match j, hj with
    | 0, hj => simp at hj; subst hj; simpa [Addr.add] using hc
  · intro u hu; simp at hu; subst hu; rfl
  · unfold maxLen; omega
  · intro g cap w' h1 h2 h3 _
    refine hK g cap w' ?_ h2 h3
    unfold Own
    rw [List.length_append, List.map_append]
    exact h1

theorem lf_ne : (62 : TypeId) ≠ 3 := by decide
set_option maxRecDepth 100000 in
theorem lpush_any (base H : Nat) (u : Value) (ys : List Int) (x : Int) (w : World) (hb : HB w base H u ys) (hl : ys.length ≤ 100000) :
    Calls Try.prog 122 #[.pointer (some ⟨H, 0, none⟩), .iface 3 (.int .i64 x)] w fun e w' => e = .returned (.tuple #[]) ∧ HE w base H u.ownBlock (ys ++ [x]) w' := by
  obtain ⟨a, c, rfl, _⟩ := hb.own.shape
  have cH := hb.box.cell
  have hcA : ∀ o, (w.alloc o).cell? ⟨H, 0, none⟩ = some (.slice a ys.length c) := fun o => (hb.box.alloc o).cell
  have hfin : ∀ (g cap : Nat) (w6 : World), Own w6 base (.slice (some ⟨g, 0, none⟩) (ys.length + 1) cap) (ys ++ [x]) → ((w.alloc (.cells #[.int .i64 x] 3)).drew).grownBy w6 (Value.slice a ys.length c).ownBlock → ((Value.slice a ys.length c).ownBlock = some g ∨ g = ((w.alloc (.cells #[.int .i64 x] 3)).drew).heap.size) →
      (w6.cell? ⟨H, 0, none⟩ = some (.slice a ys.length c) ∧ w6.frozen? ⟨H, 0, none⟩ = false) ∧ HE w base H (Value.slice a ys.length c).ownBlock (ys ++ [x]) (w6.setCell ⟨H, 0, none⟩ (.slice (some ⟨g, 0, none⟩) (ys.length + 1) cap)) := fun g cap w6 ho hg hat => by
    have b1 : Boxed w6 H 62 (.slice a ys.length c) := (show Boxed ((w.alloc (.cells #[.int .i64 x] 3)).drew) H 62 (.slice a ys.length c) from hb.box.alloc _).kept hg (hb.box.not_row lf_ne hb.own)
    have hs := hg.size
    have hs2 : ((w.alloc (.cells #[.int .i64 x] 3)).drew).heap.size = w.heap.size + 1 := by simp
    have hsz := hb.sz
    have hlt := hb.lt
    refine ⟨⟨b1.cell, b1.frozen⟩, _, ⟨b1.set _, World.ownsRow.kept ho (grown_setCell w6 H 0 _) (.inr (b1.not_row lf_ne ho).symm), hlt, by simp; omega⟩, ⟨hg.os, hg.tape, hg.output, by simp; omega, fun q hq h1 h2 => ?_⟩, ?_⟩
    · rw [(grown_setCell w6 H 0 _).block q (by omega) (fun e => h1 (by cases e; rfl)), hg.block q (by omega) h2]
      exact (World.grownBy_alloc w (.cells #[.int .i64 x] 3) none).block q hq (by simp)
    · rcases hat with e | e
      · exact .inl e.symm
      · exact .inr ⟨g, rfl, by omega⟩
  obtain ⟨n, hn⟩ : ∃ n, ys.length = n := ⟨_, rfl⟩
  have Hfin := Lib.hid hfin
  have hown := hb.own
  have hsz := hb.sz
  have Hown := Lib.hid hown
  rw [hn] at cH hl
  simp only [hn] at hcA Hfin Hown ⊢
  have hta : ∀ w : World, (Instr.typeAssert (.iface 3 (.int .i64 x)) 20 3 false).run Try.prog w = .ok (.int .i64 x) w := fun _ => by kernel_rfl
  have Hn := Lib.hid hn
  clear hb hfin hown
  go_enter Try.func122, Try.ntmps122
  go_wp2
  go_region_law (refine step_append_lf rfl _ _ rfl base _ ys rfl (World.ownsRow.alloc Hown.out _) w.heap.size x rfl (by simp [go_sem]) n Hn.out hl (by simp; omega) ?_; intro g4 cap4 w4 ho4 hg4 hat4; obtain ⟨⟨c5, f5⟩, hdone⟩ := Hfin.out g4 cap4 w4 ho4 hg4 hat4; have Hdone := Lib.hid hdone; clear ho4 hg4 hat4 hdone)
  all_goals
    go_wp2
    go_end0
    exact ⟨rfl, Hdone.out⟩
theorem own_take {w : World} {base g cap k : Nat} {zs : List Int} (h : Own w base (.slice (some ⟨g, 0, none⟩) zs.length cap) zs) (hk : k ≤ zs.length) : Own w base (.slice (some ⟨g, 0, none⟩) k cap) (zs.take k) := by
  obtain ⟨q1, q2⟩ := h
  have hlen : (zs.take k).length = k := by rw [List.length_take]; omega
  refine ⟨by simp, .inr ?_⟩
  rcases q2 with ⟨e, _⟩ | ⟨g', cap', cur, e, hb, hh, c1, c2, c3, c4⟩
  · simp at e
  · simp only [Value.slice.injEq, Option.some.injEq, Addr.mk.injEq, and_true] at e
    obtain ⟨e1, e2, e3⟩ := e
    subst e1; subst e3
    refine ⟨g, cap, cur, by rw [hlen], hb, hh, by rw [hlen]; omega, c2, c3, ?_⟩
    rw [hlen, Nat.mul_one]
    rw [Nat.mul_one] at c4
    have : cur.toList.take k = (cur.toList.take zs.length).take k := by rw [List.take_take, Nat.min_eq_left hk]
    rw [this, c4, List.map_take]
set_option maxRecDepth 100000 in
theorem lpop_any (base H : Nat) (u : Value) (zs : List Int) (x : Int) (w : World) (hb : HB w base H u (zs ++ [x])) (hl : zs.length ≤ 100000) :
    Calls Try.prog 121 #[.pointer (some ⟨H, 0, none⟩)] w fun e w' => e = .returned (.iface 3 (.int .i64 x)) ∧ HE w base H u.ownBlock zs w' := by
  obtain ⟨g, cap, hu⟩ : ∃ g cap, u = .slice (some ⟨g, 0, none⟩) (zs ++ [x]).length cap := by
    rcases hb.own.2 with ⟨_, h2⟩ | ⟨g0, cap0, cur, h1, _⟩
    · simp at h2
    · exact ⟨g0, cap0, h1⟩
  subst hu
  have hr : HR w base g cap (zs ++ [x]) := ⟨hb.own⟩
  have cX := hr.cell (i := zs.length) (by simp)
  rw [show (zs ++ [x]).getD zs.length 0 = x by simp [List.getD_eq_getElem?_getD]] at cX
  have ot := own_take (k := zs.length) hb.own (by simp)
  rw [List.take_left] at ot
  have cH := hb.box.cell
  have fH := hb.box.frozen
  obtain ⟨n, hn⟩ : ∃ n, zs.length = n := ⟨_, rfl⟩
  rw [show (zs ++ [x]).length = n + 1 by simp [hn]] at cH
  rw [hn] at cX hl ot
  have hd : HE w base H (Value.slice (some ⟨g, 0, none⟩) (zs ++ [x]).length cap).ownBlock zs (w.setCell ⟨H, 0, none⟩ (.slice (some ⟨g, 0, none⟩) n cap)) :=
    ⟨_, ⟨hb.box.set _, World.ownsRow.kept ot (grown_setCell w H 0 _) (.inr (hb.box.not_row lf_ne hb.own).symm), hb.lt, by simpa using hb.sz⟩, ⟨rfl, rfl, rfl, by simp, fun q hq h1 _ => (grown_setCell w H 0 _).block q hq (fun e => h1 (by cases e; rfl))⟩, .inl rfl⟩
  have Hd := Lib.hid hd
  have hcap : ¬ cap = 0 := by
    intro e
    subst e
    rcases hb.own.2 with ⟨h1, _⟩ | ⟨g0, cap0, cur, h1, _, _, h2, _⟩
    · simp at h1
    · simp only [Value.slice.injEq, Option.some.injEq, Addr.mk.injEq, and_true] at h1
      obtain ⟨_, _, e3⟩ := h1
      subst e3
      simp at h2
  have hcap2 : n + 1 ≤ cap := by
    rcases hb.own.2 with ⟨h1, _⟩ | ⟨g0, cap0, cur, h1, _, _, h2, _⟩
    · simp at h1
    · simp only [Value.slice.injEq, Option.some.injEq, Addr.mk.injEq, and_true] at h1
      obtain ⟨_, _, e3⟩ := h1
      subst e3
      simp [hn] at h2
      omega
  clear hb hr ot hd hn
  go_enter Try.func121, Try.ntmps121
  go_wp2
  go_ret
  exact ⟨rfl, Hd.out⟩
end Go.Proofs.Ytopbbihbpalnlaa
