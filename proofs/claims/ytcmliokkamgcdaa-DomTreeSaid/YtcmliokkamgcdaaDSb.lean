/-
  The boxed search: its three lists.
-/
import Derived.Test.YtcmliokkamgcdaaSRows
import Derived.Test.YtcmliokkamgcdaaDSrch
import Derived.LoopTactic
import Derived.RegionTactic
namespace Go.Proofs.Ytcmliokkamgcdaa
open Go.RowKit
set_option linter.unusedVariables false

/-- The box B of a search: the nodes nd, the numbers nm (block R), the parents pa. -/
structure SB (W : World) (base B R N : Nat) (un up : Value) (nd nm pa : List Int) : Prop where
  c0 : W.cell? ⟨B, 0, none⟩ = some un
  c1 : W.cell? ⟨B, 1, none⟩ = some (.slice (some ⟨R, 0, none⟩) N N)
  c2 : W.cell? ⟨B, 2, none⟩ = some up
  f0 : W.frozen? ⟨B, 0, none⟩ = false
  f1 : W.frozen? ⟨B, 1, none⟩ = false
  f2 : W.frozen? ⟨B, 2, none⟩ = false
  on : Own W base un nd
  rr : Row W R R N nm
  op : Own W base up pa
  dj : un.ownBlock = none ∨ un.ownBlock ≠ up.ownBlock
  ltB : B < base
  ltR : R < base
  ne : R ≠ B
  ln : nm.length = N
  sz : base ≤ W.heap.size
/-- Only the blocks of which P speaks have turned. -/
structure Fr (P : Nat → Prop) (W W' : World) : Prop where
  os : W'.os = W.os
  tape : W'.tape = W.tape
  output : W'.output = W.output
  size : W.heap.size ≤ W'.heap.size
  block : ∀ q, q < W.heap.size → ¬ P q → W'.heap[q]? = W.heap[q]?
theorem Fr.refl (P : Nat → Prop) (W : World) : Fr P W W := ⟨rfl, rfl, rfl, Nat.le_refl _, fun _ _ _ => rfl⟩
theorem Fr.grown {P : Nat → Prop} {W W1 W2 : World} {row : Option Nat} (h : Fr P W W1) (hg : W1.grownBy W2 row) (hr : ∀ r, row = some r → r < W.heap.size → P r) : Fr P W W2 :=
  ⟨hg.os.trans h.os, hg.tape.trans h.tape, hg.output.trans h.output, Nat.le_trans h.size hg.size, fun q hq n => (hg.block q (Nat.lt_of_lt_of_le hq h.size) (fun e => n (hr q e.symm hq))).trans (h.block q hq n)⟩
theorem Fr.set {P : Nat → Prop} {W W1 : World} (h : Fr P W W1) (B i : Nat) (v : Value) (hb : B < W.heap.size → P B) : Fr P W (W1.setCell ⟨B, i, none⟩ v) :=
  h.grown (grown_setCell W1 B i v) (fun r e => by cases e; exact hb)
theorem Fr.alloc {P : Nat → Prop} {W W1 : World} (h : Fr P W W1) (o : Obj) : Fr P W (W1.alloc o) := h.grown (World.grownBy_alloc W1 o none) (fun r e => by cases e)
theorem Fr.drewN {P : Nat → Prop} {W W1 : World} (h : Fr P W W1) (n : Nat) : Fr P W (W1.drewN n) := ⟨h.os, h.tape, h.output, h.size, h.block⟩

section
variable {W W2 : World} {base B R N : Nat} {un up : Value} {nd nm pa : List Int}
theorem SB.sl (h : SB W base B R N un up nd nm pa) : B < W.heap.size ∧ R < W.heap.size := by
  have := h.ltB; have := h.ltR; have := h.sz; omega
/-- Another block has turned. -/
theorem SB.kept {row : Option Nat} (h : SB W base B R N un up nd nm pa) (hg : W.grownBy W2 row) (hr : ∀ r, row = some r → base ≤ r ∧ un.ownBlock ≠ some r ∧ up.ownBlock ≠ some r) : SB W2 base B R N un up nd nm pa := by
  obtain ⟨lB, lR⟩ := h.sl
  have a := h.ltB
  have b := h.ltR
  have nB : some B ≠ row := fun e => by have := (hr B e.symm).1; omega
  have nR : some R ≠ row := fun e => by have := (hr R e.symm).1; omega
  have k : ∀ {v : Value}, (∀ r, row = some r → v.ownBlock ≠ some r) → v.ownBlock = none ∨ v.ownBlock ≠ row := fun {v} hv => by
    cases hb : v.ownBlock with
    | none => exact .inl rfl
    | some q => exact .inr fun e => hv q e.symm hb
  exact ⟨(hg.cell_far ⟨B, 0, none⟩ lB nB).trans h.c0, (hg.cell_far ⟨B, 1, none⟩ lB nB).trans h.c1, (hg.cell_far ⟨B, 2, none⟩ lB nB).trans h.c2,
    (hg.frozen_far ⟨B, 0, none⟩ lB nB).trans h.f0, (hg.frozen_far ⟨B, 1, none⟩ lB nB).trans h.f1, (hg.frozen_far ⟨B, 2, none⟩ lB nB).trans h.f2,
    World.ownsRow.kept h.on hg (k fun r e => (hr r e).2.1), h.rr.kept hg nR, World.ownsRow.kept h.op hg (k fun r e => (hr r e).2.2), h.dj, a, b, h.ne, h.ln, Nat.le_trans h.sz hg.size⟩
theorem SB.alloc (h : SB W base B R N un up nd nm pa) (o : Obj) : SB (W.alloc o) base B R N un up nd nm pa := h.kept (World.grownBy_alloc W o none) (fun r e => by cases e)
theorem SB.drewN (h : SB W base B R N un up nd nm pa) (n : Nat) : SB (W.drewN n) base B R N un up nd nm pa :=
  ⟨h.c0, h.c1, h.c2, h.f0, h.f1, h.f2, h.on, h.rr, h.op, h.dj, h.ltB, h.ltR, h.ne, h.ln, h.sz⟩
theorem own_ge {u : Value} {zs : List Int} (h : Own W base u zs) {q : Nat} (hq : q < base) : u.ownBlock ≠ some q := fun e => by have := (World.ownsRow.lt h q e).1; omega
/-- A number is given. -/
theorem SB.number (h : SB W base B R N un up nd nm pa) (v : Nat) (z : Int) : SB (W.setCell ⟨R, v, none⟩ (.int .i64 z)) base B R N un up nd (nm.set v z) pa := by
  obtain ⟨lB, lR⟩ := h.sl
  have hg := grown_setCell W R v (.int .i64 z)
  have nB : some B ≠ some R := fun e => h.ne (by injection e with e; exact e.symm)
  exact ⟨(hg.cell_far ⟨B, 0, none⟩ lB nB).trans h.c0, (hg.cell_far ⟨B, 1, none⟩ lB nB).trans h.c1, (hg.cell_far ⟨B, 2, none⟩ lB nB).trans h.c2,
    (hg.frozen_far ⟨B, 0, none⟩ lB nB).trans h.f0, (hg.frozen_far ⟨B, 1, none⟩ lB nB).trans h.f1, (hg.frozen_far ⟨B, 2, none⟩ lB nB).trans h.f2,
    World.ownsRow.kept h.on hg (.inr (own_ge h.on h.ltR)), h.rr.set v z, World.ownsRow.kept h.op hg (.inr (own_ge h.op h.ltR)), h.dj, h.ltB, h.ltR, h.ne, by rw [List.length_set]; exact h.ln, Nat.le_trans h.sz hg.size⟩
/-- The list of the nodes has grown, and lies in its box. -/
theorem SB.node {g cap : Nat} {nd' : List Int} (h : SB W base B R N un up nd nm pa) (hg : W.grownBy W2 un.ownBlock) (ho : Own W2 base (.slice (some ⟨g, 0, none⟩) nd'.length cap) nd') (hat : un.ownBlock = some g ∨ W.heap.size ≤ g) :
    SB (W2.setCell ⟨B, 0, none⟩ (.slice (some ⟨g, 0, none⟩) nd'.length cap)) base B R N (.slice (some ⟨g, 0, none⟩) nd'.length cap) up nd' nm pa ∧ W2.cell? ⟨B, 0, none⟩ = some un ∧ W2.frozen? ⟨B, 0, none⟩ = false := by
  obtain ⟨lB, lR⟩ := h.sl
  have nB : some B ≠ un.ownBlock := fun e => own_ge h.on h.ltB e.symm
  have nR : some R ≠ un.ownBlock := fun e => own_ge h.on h.ltR e.symm
  have k0 := (hg.cell_far ⟨B, 0, none⟩ lB nB).trans h.c0
  have q0 := (hg.frozen_far ⟨B, 0, none⟩ lB nB).trans h.f0
  have hs := hg.size
  have hp2 : Own W2 base up pa := World.ownsRow.kept h.op hg (by
    rcases h.dj with e | e
    · cases hu : up.ownBlock with
      | none => exact .inl rfl
      | some q => exact .inr (by rw [e]; simp)
    · exact .inr (Ne.symm e))
  have hgs := grown_setCell W2 B 0 (.slice (some ⟨g, 0, none⟩) nd'.length cap)
  have dj : (Value.slice (some ⟨g, 0, none⟩) nd'.length cap).ownBlock = none ∨ (Value.slice (some ⟨g, 0, none⟩) nd'.length cap).ownBlock ≠ up.ownBlock := by
    right; intro e
    have e' : up.ownBlock = some g := e.symm
    rcases hat with a | a
    · rcases h.dj with b | b
      · rw [b] at a; cases a
      · exact b (a.trans e'.symm)
    · have := (World.ownsRow.lt h.op g e').2; omega
  refine ⟨⟨World.cell?_setCell_same' _ _ _ (by rw [k0]; rfl), ?_, ?_, ?_, ?_, ?_, World.ownsRow.kept ho hgs (.inr (own_ge ho h.ltB)), (h.rr.kept hg nR).kept hgs (fun e => h.ne (by injection e)), World.ownsRow.kept hp2 hgs (.inr (own_ge h.op h.ltB)), dj, h.ltB, h.ltR, h.ne, h.ln, Nat.le_trans (Nat.le_trans h.sz hs) hgs.size⟩, k0, q0⟩
  · rw [World.cell?_setCell_other _ _ _ _ (by simp)]; exact (hg.cell_far ⟨B, 1, none⟩ lB nB).trans h.c1
  · rw [World.cell?_setCell_other _ _ _ _ (by simp)]; exact (hg.cell_far ⟨B, 2, none⟩ lB nB).trans h.c2
  · rw [World.frozen?_setCell]; exact q0
  · rw [World.frozen?_setCell]; exact (hg.frozen_far ⟨B, 1, none⟩ lB nB).trans h.f1
  · rw [World.frozen?_setCell]; exact (hg.frozen_far ⟨B, 2, none⟩ lB nB).trans h.f2
/-- The list of the parents has grown, and lies in its box. -/
theorem SB.par {g cap : Nat} {pa' : List Int} (h : SB W base B R N un up nd nm pa) (hg : W.grownBy W2 up.ownBlock) (ho : Own W2 base (.slice (some ⟨g, 0, none⟩) pa'.length cap) pa') (hat : up.ownBlock = some g ∨ W.heap.size ≤ g) :
    SB (W2.setCell ⟨B, 2, none⟩ (.slice (some ⟨g, 0, none⟩) pa'.length cap)) base B R N un (.slice (some ⟨g, 0, none⟩) pa'.length cap) nd nm pa' ∧ W2.cell? ⟨B, 2, none⟩ = some up ∧ W2.frozen? ⟨B, 2, none⟩ = false := by
  obtain ⟨lB, lR⟩ := h.sl
  have nB : some B ≠ up.ownBlock := fun e => own_ge h.op h.ltB e.symm
  have nR : some R ≠ up.ownBlock := fun e => own_ge h.op h.ltR e.symm
  have k0 := (hg.cell_far ⟨B, 2, none⟩ lB nB).trans h.c2
  have q0 := (hg.frozen_far ⟨B, 2, none⟩ lB nB).trans h.f2
  have hs := hg.size
  have hn2 : Own W2 base un nd := World.ownsRow.kept h.on hg h.dj
  have hgs := grown_setCell W2 B 2 (.slice (some ⟨g, 0, none⟩) pa'.length cap)
  have dj : un.ownBlock = none ∨ un.ownBlock ≠ (Value.slice (some ⟨g, 0, none⟩) pa'.length cap).ownBlock := by
    rcases h.dj with b | b
    · exact .inl b
    right; intro e
    have e' : un.ownBlock = some g := e
    rcases hat with a | a
    · exact b (e'.trans a.symm)
    · have := (World.ownsRow.lt h.on g e').2; omega
  refine ⟨⟨?_, ?_, World.cell?_setCell_same' _ _ _ (by rw [k0]; rfl), ?_, ?_, ?_, World.ownsRow.kept hn2 hgs (.inr (own_ge h.on h.ltB)), (h.rr.kept hg nR).kept hgs (fun e => h.ne (by injection e)), World.ownsRow.kept ho hgs (.inr (own_ge ho h.ltB)), dj, h.ltB, h.ltR, h.ne, h.ln, Nat.le_trans (Nat.le_trans h.sz hs) hgs.size⟩, k0, q0⟩
  · rw [World.cell?_setCell_other _ _ _ _ (by simp)]; exact (hg.cell_far ⟨B, 0, none⟩ lB nB).trans h.c0
  · rw [World.cell?_setCell_other _ _ _ _ (by simp)]; exact (hg.cell_far ⟨B, 1, none⟩ lB nB).trans h.c1
  · rw [World.frozen?_setCell]; exact (hg.frozen_far ⟨B, 0, none⟩ lB nB).trans h.f0
  · rw [World.frozen?_setCell]; exact (hg.frozen_far ⟨B, 1, none⟩ lB nB).trans h.f1
  · rw [World.frozen?_setCell]; exact q0
end
end Go.Proofs.Ytcmliokkamgcdaa
