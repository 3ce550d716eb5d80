/-
  'append' as a step of a region: what is appended lies in memory, or is nil.
-/
import Derived.Test.YtpegkmancaoeiaaWRPop
import Derived.Laws.AppendOwnNone
import Derived.Deep.RegionHeld3
namespace Go.Proofs.Ytpegkmancaoeiaa
open Go.RowKit Go.WideShapes
set_option linter.unusedVariables false

theorem int_info' : (Try.prog.info? 3).map (fun i => (i.zero, i.size, i.bytes)) = some (some (.int .i64 0), 1, 8) := by kernel_rfl

theorem step_append_ints {w : World} {ops : Array Oper} {o : Oper} {a : Act} {K : Act → World → Prop} {Q : Exit → Act → World → Prop} {E : Prop} (hg : o.guard = none) (s x : Operand)
    (hop : o.op = .call { callee := .builtin .append, args := #[s, x], argTypes := #[22, 22] }) (base : Nat) (v : Value) (zs : List Int) (hs : a.eval s = v) (hown : Own w base v zs)
    (ad : Addr) (m c : Nat) (us : List Int) (hx : a.eval x = .slice (some ad) m c) (hm : us.length = m) (hc : ∀ j, j < us.length → w.cell? (ad.add j) = some (.int .i64 (us.getD j 0))) (hlen : zs.length + m ≤ 100000) (hbase : base ≤ w.heap.size)
    (hK : ∀ v' w', Own w' base v' (zs ++ us) → w.grownBy w' v.ownBlock → K (a.put o.dst v') w') : if Region.wanted o (yielded ops a.tmps) = true then Oper.wp Try.prog o a w K Q else E := by
  subst hm
  have hw : Region.wanted o (yielded ops a.tmps) = true := by simp [Region.wanted, hg]
  rw [if_pos hw]
  obtain ⟨i0, hi, hz0, hz1, hz2⟩ := info_parts int_info'
  refine wp_append_own w s x 22 hop base 3 i0 (.int .i64 0) 1 8 Try.underlying22 hi hz0 hz1 hz2 rfl (by decide) v zs.length (zs.map (.int .i64)) hs hown ad us.length c (us.map (.int .i64)) hx (by simp) ?_ ?_ ?_ ?_ hbase ?_
  · intro j u hj
    have hj2 : j < us.length := by
      have := (List.getElem?_eq_some_iff.1 hj).1
      simpa using this
    rw [hc j hj2, ← hj]
    simp [hj2]
  · intro u hu; simp at hu; obtain ⟨z, _, rfl⟩ := hu; rfl
  · unfold maxLen; omega
  · omega
  · intro v' w' h1 h2 _
    refine hK v' w' ?_ h2
    unfold Own
    rw [List.length_append, List.map_append]
    exact h1
theorem step_append_nil {w : World} {ops : Array Oper} {o : Oper} {a : Act} {K : Act → World → Prop} {Q : Exit → Act → World → Prop} {E : Prop} (hg : o.guard = none) (s x : Operand)
    (hop : o.op = .call { callee := .builtin .append, args := #[s, x], argTypes := #[22, 22] }) (base : Nat) (v : Value) (zs : List Int) (hs : a.eval s = v) (hown : Own w base v zs)
    (hx : a.eval x = .slice none 0 0) (hK : K (a.put o.dst v) w) : if Region.wanted o (yielded ops a.tmps) = true then Oper.wp Try.prog o a w K Q else E := by
  have hw : Region.wanted o (yielded ops a.tmps) = true := by simp [Region.wanted, hg]
  rw [if_pos hw]
  obtain ⟨i0, hi, hz0, hz1, hz2⟩ := info_parts int_info'
  have hrun := run_append_owned_none (P := Try.prog) (w := w) base 22 o.type 3 i0 1 Try.underlying22 hi v zs.length (zs.map (.int .i64)) hown
  unfold Oper.wp
  simp [execOp, hop, resolve, invoke, builtin, hs, hx, hrun, Result.andThen]
  exact hK

theorem made_at (w : World) (p : Nat) (hp : p = w.heap.size) (base : Nat) (hb : base ≤ w.heap.size) : Own (w.alloc (Obj.cells #[] 3)) base (.slice (some ⟨p, 0, none⟩) 0 0) [] := by
  subst hp
  exact World.ownsRow_made w #[] 0 hb (by unfold maxLen; omega) rfl
theorem head_at (w : World) (p : Nat) (hp : p = w.heap.size) (z : Int) : (w.alloc (Obj.cells #[Value.int .i64 z] 3)).cell? ⟨p, 0, none⟩ = some (.int .i64 z) := by
  subst hp
  simp
theorem head_under (w : World) (p : Nat) (hp : p = w.heap.size) (z : Int) (o : Obj) : ((w.alloc (Obj.cells #[Value.int .i64 z] 3)).alloc o).cell? ⟨p, 0, none⟩ = some (.int .i64 z) := by
  have h := head_at w p hp z
  have hb : Below (w.alloc (Obj.cells #[Value.int .i64 z] 3)).heap.size (w.alloc (Obj.cells #[Value.int .i64 z] 3)) ((w.alloc (Obj.cells #[Value.int .i64 z] 3)).alloc o) := (Below.refl _ _).alloc (Nat.le_refl _) _
  exact (hb.cell (World.block_lt_of_cell? _ _ h)).trans h
theorem grown_cell {X X' : World} {row : Option Nat} {p : Nat} {v : Value} (hg : X.grownBy X' row) (h : X.cell? ⟨p, 0, none⟩ = some v) (hne : some p ≠ row) : X'.cell? ⟨p, 0, none⟩ = some v := by
  have hlt := World.block_lt_of_cell? X _ h
  have hb := hg.block p hlt hne
  rw [← h]
  unfold World.cell?
  simp only [hb]
theorem one_cell {w : World} {p : Nat} {x : Int} (h : w.cell? ⟨p, 0, none⟩ = some (.int .i64 x)) : ∀ j, j < [x].length → w.cell? (Addr.add ⟨p, 0, none⟩ j) = some (.int .i64 ([x].getD j 0)) := by
  intro j hj
  have : j = 0 := by simp at hj; exact hj
  subst this
  simpa [Addr.add] using h
theorem lay_take {w X : World} {ad : Addr} {zs : List Int} {B : Nat} (hb : Below B w X) (hB : w.heap.size = B) (k : Nat) (hk : k ≤ zs.length) (h : ∀ j, j < zs.length → w.cell? (ad.add j) = some (.int .i64 (zs.getD j 0))) :
    ∀ j, j < (zs.take k).length → X.cell? (ad.add j) = some (.int .i64 ((zs.take k).getD j 0)) := fun j hj => by
  rw [List.length_take] at hj
  have h1 := h j (by omega)
  have h2 := World.block_lt_of_cell? _ _ h1
  rw [(hb.cell (by rw [← hB]; exact h2)).trans h1]
  simp [List.getD_eq_getElem?_getD, show j < k by omega]
theorem lay_drop {w X : World} {ad : Addr} {zs : List Int} {B : Nat} (hb : Below B w X) (hB : w.heap.size = B) (k : Nat) (h : ∀ j, j < zs.length → w.cell? (ad.add j) = some (.int .i64 (zs.getD j 0))) :
    ∀ j, j < (zs.drop k).length → X.cell? ((ad.add k).add j) = some (.int .i64 ((zs.drop k).getD j 0)) := fun j hj => by
  rw [List.length_drop] at hj
  have h1 := h (k + j) (by omega)
  have h2 := World.block_lt_of_cell? _ _ h1
  rw [Addr.add_add, (hb.cell (by rw [← hB]; exact h2)).trans h1]
  simp [List.getD_eq_getElem?_getD]

/-- What stays while the region runs: a cell that it loads, and all that was there. -/
theorem keep1A {w1 X : World} {g B : Nat} {u : Value} (h : X.cell? ⟨g, 1, none⟩ = some u ∧ Below B w1 X) (hg : g < B) (hB : w1.heap.size = B) (o : Obj) : (X.alloc o).cell? ⟨g, 1, none⟩ = some u ∧ Below B w1 (X.alloc o) := by
  have hs := h.2.size
  have hb : Below B X (X.alloc o) := (Below.refl _ _).alloc (by omega) o
  exact ⟨(hb.cell (p := ⟨g, 1, none⟩) hg).trans h.1, h.2.trans hb⟩
theorem keep1G {w1 X X' : World} {g B : Nat} {u v : Value} {zs : List Int} (h : X.cell? ⟨g, 1, none⟩ = some u ∧ Below B w1 X) (hg : g < B) (hB : w1.heap.size = B) (hgr : X.grownBy X' v.ownBlock) (ho : Own X B v zs) : X'.cell? ⟨g, 1, none⟩ = some u ∧ Below B w1 X' := by
  have hs := h.2.size
  have hb : Below B X X' := (Below.refl _ _).grown hgr (by omega) (fun k hk => (World.ownsRow.lt ho k hk).1)
  exact ⟨(hb.cell (p := ⟨g, 1, none⟩) hg).trans h.1, h.2.trans hb⟩
end Go.Proofs.Ytpegkmancaoeiaa
