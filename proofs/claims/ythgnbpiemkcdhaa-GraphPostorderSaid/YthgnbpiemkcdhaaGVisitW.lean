/-
  The variables of Postorder, and what the closure's steps make of them.
-/
import Derived.Test.YthgnbpiemkcdhaaGDfsM
namespace Go.Proofs.Ythgnbpiemkcdhaa
open Go.RowKit Go.Shelf
set_option linter.unusedVariables false

theorem Fr.trans {A B C : World} {L R : Nat} {u v x : Value} (h : Fr A B L R u v) (k : Fr B C L R v x) : Fr A C L R u x := by
  refine ⟨k.os.trans h.os, k.tape.trans h.tape, k.output.trans h.output, Nat.le_trans h.size k.size, fun q hq n1 n2 n3 => ?_, h.keeps.trans k.keeps, ?_⟩
  · refine (k.block q (Nat.lt_of_lt_of_le hq h.size) n1 n2 fun e => ?_).trans (h.block q hq n1 n2 n3)
    rcases h.lies with hl | ⟨b, hl, hb⟩
    · exact n3 (e.trans hl)
    · rw [hl] at e; cases e; omega
  · rcases k.lies with kl | ⟨b, kl, hb⟩
    · rcases h.lies with hl | ⟨b, hl, hb⟩
      · exact .inl (kl.trans hl)
      · exact .inr ⟨b, kl.trans hl, hb⟩
    · exact .inr ⟨b, kl, Nat.le_trans h.size hb⟩
theorem Fr.kept {A B C : World} {L R : Nat} {u v : Value} {row : Option Nat} (h : Fr A B L R u v) (hg : B.grownBy C row) (hr : ∀ r, row = some r → A.heap.size ≤ r) : Fr A C L R u v := by
  have hne : ∀ q, q < A.heap.size → some q ≠ row := fun q hq e => by have := hr q e.symm; omega
  refine ⟨hg.os.trans h.os, hg.tape.trans h.tape, hg.output.trans h.output, Nat.le_trans h.size hg.size, fun q hq n1 n2 n3 => (hg.block q (Nat.lt_of_lt_of_le hq h.size) (hne q hq)).trans (h.block q hq n1 n2 n3), ⟨Nat.le_trans h.size hg.size, fun k o hk ho => ?_⟩, h.lies⟩
  have hlt := (Array.getElem?_eq_some_iff.1 hk).1
  exact (hg.block k (Nat.lt_of_lt_of_le hlt h.size) (hne k hlt)).trans (h.keeps.same k o hk ho)
theorem Fr.of_below {A B : World} {L R : Nat} {u : Value} (hb : Below A.heap.size A B) : Fr A B L R u u :=
  (Fr.refl A L R u).kept (grown_of_below hb) (fun r e => by cases e)
theorem Fr.shut {A B C : World} {L R : Nat} {u v : Value} {Ds : List Nat} (h : Fr A B L R u v) (hs : Shut Ds B C) (hD : ∀ D ∈ Ds, A.heap.size ≤ D) : Fr A C L R u v := by
  have hne : ∀ q, q < A.heap.size → q ∉ Ds := fun q hq e => by have := hD q e; omega
  refine ⟨hs.os.trans h.os, hs.tape.trans h.tape, hs.output.trans h.output, by rw [← hs.size]; exact h.size, fun q hq n1 n2 n3 => (hs.block q (hne q hq)).trans (h.block q hq n1 n2 n3), ⟨by rw [← hs.size]; exact h.size, fun k o hk ho => ?_⟩, h.lies⟩
  have hlt := (Array.getElem?_eq_some_iff.1 hk).1
  exact (hs.block k (hne k hlt)).trans (h.keeps.same k o hk ho)

/-- The variables of Postorder: the list's box L, the row R of the marks, its box M, the closure's box V, the graph's box G. -/
structure VR (w1 W : World) (L R M V G N n₁ : Nat) (u : Value) (st : List Bool × List Int) : Prop where
  rs : RS W L R M N n₁ u st
  vbox : Boxed W V 57 (.func (.func 43) #[] #[.pointer (some ⟨M, 0, none⟩), .pointer (some ⟨G, 0, none⟩), .pointer (some ⟨V, 0, none⟩), .pointer (some ⟨L, 0, none⟩)])
  below : Below L w1 W
section
variable {w1 W W' : World} {L R M V G N n₁ : Nat} {u u' : Value} {st st' : List Bool × List Int}
theorem VR.step (h : VR w1 W L R M V G N n₁ u st) (o : LO L R M V n₁) (hs : RS W' L R M N n₁ u' st') (hf : Fr W W' L R u u') : VR w1 W' L R M V G N n₁ u' st' := by
  have hr := o.r; have hm := o.m; have hF := o.f; have hn := o.n
  have hown : ∀ q, q < n₁ → some q ≠ u.ownBlock := fun q hq e => by have := (World.ownsRow.lt h.rs.own q e.symm).1; omega
  have hz := h.rs.sz
  refine ⟨hs, (hf.block V (by omega) (by omega) (by omega) (hown V (by omega))).trans h.vbox, ⟨hf.os.trans h.below.os, hf.tape.trans h.below.tape, hf.output.trans h.below.output, Nat.le_trans h.below.size hf.size, fun q hq => ?_⟩⟩
  exact (hf.block q (by omega) (by omega) (by omega) (hown q (by omega))).trans (h.below.block q hq)
theorem RS.kept {row : Option Nat} (h : RS W L R M N n₁ u st) (hL : L < n₁) (hM : M < n₁) (hg : W.grownBy W' row) (hr : ∀ r, row = some r → n₁ ≤ r ∧ ∃ o : Obj, W.heap[r]? = some o ∧ o.isCells = false) : RS W' L R M N n₁ u st := by
  have f : ∀ q, q < n₁ → some q ≠ row := fun q hq e => by have := (hr q e.symm).1; omega
  have hR := h.rlt
  refine ⟨h.box.kept hg (f L hL), h.own.kept hg ?_, h.mbox.kept hg (f M hM), RowB.kept h.row hg (f R hR), h.len, hR, Nat.le_trans h.sz hg.size⟩
  rcases h.own.2 with ⟨rfl, _⟩ | ⟨g, cap, cur, rfl, _, hgb, _⟩
  · exact .inl rfl
  · refine .inr fun e' => ?_
    obtain ⟨_, o, ho, hc⟩ := hr g (by simpa [Value.ownBlock] using e'.symm)
    rw [hgb] at ho; cases ho; cases hc
theorem VR.kept {row : Option Nat} (h : VR w1 W L R M V G N n₁ u st) (o : LO L R M V n₁) (hg : W.grownBy W' row) (hr : ∀ r, row = some r → n₁ ≤ r ∧ ∃ o : Obj, W.heap[r]? = some o ∧ o.isCells = false) : VR w1 W' L R M V G N n₁ u st := by
  have hr' := o.r; have hm := o.m; have hF := o.f; have hn := o.n
  have hz := h.rs.sz
  have f : ∀ q, q < n₁ → some q ≠ row := fun q hq e => by have := (hr q e.symm).1; omega
  exact ⟨h.rs.kept (by omega) (by omega) hg hr, h.vbox.kept hg (f V (by omega)), ⟨hg.os.trans h.below.os, hg.tape.trans h.below.tape, hg.output.trans h.below.output, Nat.le_trans h.below.size hg.size, fun q hq => (hg.block q (by omega) (f q (by omega))).trans (h.below.block q hq)⟩⟩
theorem VR.grow (h : VR w1 W L R M V G N n₁ u st) (o : LO L R M V n₁) (hb : Below W.heap.size W W') : VR w1 W' L R M V G N n₁ u st :=
  h.kept o (grown_of_below hb) (fun r e => by cases e)
theorem VR.mark (h : VR w1 W L R M V G N n₁ u st) (o : LO L R M V n₁) (i : Nat) : VR w1 (W.setCell ⟨R, i, none⟩ (.bool true)) L R M V G N n₁ u (st.1.set i true, st.2) ∧ Fr W (W.setCell ⟨R, i, none⟩ (.bool true)) L R u u := by
  have hr' := o.r; have hm := o.m; have hF := o.f; have hn := o.n
  have hg1 := grown_setCell W R i (.bool true)
  have hf : Fr W (W.setCell ⟨R, i, none⟩ (.bool true)) L R u u := ⟨rfl, rfl, rfl, by simp, fun q hq n1 n2 n3 => Below.heap_setCell W ⟨R, i, none⟩ _ q n2, KeepsOthers.setCell W _ _, .inl rfl⟩
  refine ⟨h.step o ⟨h.rs.box.kept hg1 (by simp; omega), h.rs.own.kept hg1 ?_, h.rs.mbox.kept hg1 (by simp; omega), h.rs.row.set i true, by simpa using h.rs.len, h.rs.rlt, by simpa using h.rs.sz⟩ hf, hf⟩
  cases hu : u.ownBlock with
  | none => exact .inl rfl
  | some k => exact .inr fun e => by have := (World.ownsRow.lt h.rs.own k hu).1; cases e; have := h.rs.rlt; omega
theorem VR.shut {Ds : List Nat} (h : VR w1 W L R M V G N n₁ u st) (o : LO L R M V n₁) (hs : Shut Ds W W') (hm : Marks W Ds) (hD : ∀ D ∈ Ds, n₁ ≤ D) : VR w1 W' L R M V G N n₁ u st := by
  have hr' := o.r; have hm' := o.m; have hF := o.f; have hn := o.n
  have hne : ∀ q, q < n₁ → q ∉ Ds := fun q hq e => by have := hD q e; omega
  have hz := h.rs.sz
  have hrl := h.rs.rlt
  refine ⟨⟨(hs.block L (hne L (by omega))).trans h.rs.box, hs.row hm h.rs.own, (hs.block M (hne M (by omega))).trans h.rs.mbox, hs.row hm h.rs.row, h.rs.len, hrl, by rw [← hs.size]; exact hz⟩, (hs.block V (hne V (by omega))).trans h.vbox, ⟨hs.os.trans h.below.os, hs.tape.trans h.below.tape, hs.output.trans h.below.output, by rw [← hs.size]; exact h.below.size, fun q hq => (hs.block q (hne q (by omega))).trans (h.below.block q hq)⟩⟩
/-- A node is written behind the list. -/
theorem RS.push {w2 : World} {v : Int} {g cap : Nat} (h : RS W L R M N n₁ u st) (hLR : L ≠ R) (hLM : L ≠ M) (hRM : R ≠ M) (hL : L < n₁) (hM : M < n₁)
    (hown2 : w2.ownsRow n₁ 3 1 (.slice (some ⟨g, 0, none⟩) (st.2.length + 1) cap) (st.2.length + 1) (st.2.map (Value.int .i64) ++ [.int .i64 v])) (hg2 : (W.alloc (.cells #[.int .i64 v] 3)).grownBy w2 u.ownBlock)
    (hat : (Value.slice (some ⟨g, 0, none⟩) (st.2.length + 1) cap).ownBlock = u.ownBlock ∨ (Value.slice (some ⟨g, 0, none⟩) (st.2.length + 1) cap).ownBlock = some (W.alloc (.cells #[.int .i64 v] 3)).heap.size) :
    w2.cell? ⟨L, 0, none⟩ = some u ∧ w2.frozen? ⟨L, 0, none⟩ = false ∧ RS (w2.setCell ⟨L, 0, none⟩ (.slice (some ⟨g, 0, none⟩) (st.2.length + 1) cap)) L R M N n₁ (.slice (some ⟨g, 0, none⟩) (st.2.length + 1) cap) (st.1, st.2 ++ [v]) ∧
      Fr W (w2.setCell ⟨L, 0, none⟩ (.slice (some ⟨g, 0, none⟩) (st.2.length + 1) cap)) L R u (.slice (some ⟨g, 0, none⟩) (st.2.length + 1) cap) := by
  have hlen' : st.2.length + 1 = (st.2 ++ [v]).length := by simp
  have hown2' : w2.ownsRow n₁ 3 1 (.slice (some ⟨g, 0, none⟩) (st.2.length + 1) cap) (st.2 ++ [v]).length ((st.2 ++ [v]).map (Value.int .i64)) := by
    rw [← hlen', List.map_append]; exact hown2
  obtain ⟨a1, a2, _, a4, _⟩ := h.box.appended (by decide) (ownsRow_mono h.own (Nat.zero_le _)) (Nat.zero_le _) (Nat.zero_le _) (ownsRow_mono hown2 (Nat.zero_le _)) hg2
  have hgs := grownBy_setCell' w2 L (.slice (some ⟨g, 0, none⟩) (st.2.length + 1) cap)
  have hnR : some R ≠ u.ownBlock := fun e => by have := (World.ownsRow.lt h.own R e.symm).1; have := h.rlt; omega
  have hmb2 : Boxed (w2.setCell ⟨L, 0, none⟩ (.slice (some ⟨g, 0, none⟩) (st.2.length + 1) cap)) M 56 (.slice (some ⟨R, 0, none⟩) N N) :=
    ((h.mbox.alloc _).kept hg2 ((h.mbox.not_row (by decide) h.own))).kept hgs (by simpa using Ne.symm hLM)
  have hrow2 : RowB (w2.setCell ⟨L, 0, none⟩ (.slice (some ⟨g, 0, none⟩) (st.2.length + 1) cap)) 0 R st.1 :=
    RowB.kept (RowB.kept (RowB.alloc h.row _) hg2 hnR) hgs (by simpa using Ne.symm hLR)
  have hsz2 : W.heap.size ≤ w2.heap.size := by have := hg2.size; simp at this; omega
  refine ⟨a1.cell, a1.frozen, ⟨a2, hown2'.kept hgs (.inr (a1.not_row (by decide) hown2').symm), hmb2, hrow2, h.len, h.rlt, Nat.le_trans h.sz (by simpa using hsz2)⟩, ?_⟩
  refine ⟨hg2.os.trans rfl, hg2.tape.trans rfl, hg2.output.trans rfl, by simpa using hsz2, fun q hq n1 n2 n3 => ?_, a4, ?_⟩
  · rw [Below.heap_setCell w2 ⟨L, 0, none⟩ _ q n1, hg2.block q (by simp; omega) n3, Below.heap_alloc _ _ q (by simpa using hq)]
  · rcases hat with e | e
    · exact .inl e
    · exact .inr ⟨_, e, by simp⟩
end
end Go.Proofs.Ythgnbpiemkcdhaa
