/-
  The closure of Reach: a node is added to the list, once.
-/
import Derived.Test.YtopbbihbpalnlaaGMake2
import Derived.Maps.OwnIn
namespace Go.Proofs.Ytopbbihbpalnlaa
open Go.RowKit Go.Shelf
set_option linter.unusedVariables false

/-- A node is added, once. -/
def addR (st : List Bool × List Int) (v : Int) : List Bool × List Int := if st.1.getD v.toNat false = true then st else (st.1.set v.toNat true, st.2 ++ [v])
/-- What the lists of Reach keep. -/
structure RInv (N : Nat) (st : List Bool × List Int) : Prop where
  len : st.1.length = N
  node : ∀ x ∈ st.2, 0 ≤ x ∧ x < N
  cnt : st.1.countP (fun b => !b) + st.2.length = N
theorem countP_set (l : List Bool) (i : Nat) (hi : i < l.length) (h : l.getD i false = false) : (l.set i true).countP (fun b => !b) + 1 = l.countP (fun b => !b) := by
  induction l generalizing i with
  | nil => simp at hi
  | cons a r ih =>
    cases i with
    | zero =>
      simp at h
      subst h
      simp
    | succ i =>
      have := ih i (by simpa using hi) (by simpa using h)
      simp only [List.set_cons_succ, List.countP_cons]
      omega
theorem RInv.add {N : Nat} {st : List Bool × List Int} (h : RInv N st) {v : Int} (h0 : 0 ≤ v) (h1 : v < N) : RInv N (addR st v) := by
  unfold addR
  by_cases e : st.1.getD v.toNat false = true
  · rw [if_pos e]; exact h
  · rw [if_neg e]
    have hlt : v.toNat < st.1.length := by rw [h.len]; omega
    refine ⟨by simpa using h.len, fun x hx => ?_, ?_⟩
    · rcases List.mem_append.1 hx with hx | hx
      · exact h.node x hx
      · rw [List.mem_singleton.1 hx]; exact ⟨h0, h1⟩
    · have := countP_set st.1 v.toNat hlt (by simpa using e)
      have := h.cnt
      simp only [List.length_append, List.length_singleton]
      omega

/-- A row of bools. -/
def RowB (w : World) (base g : Nat) (bs : List Bool) : Prop := w.ownsRow base 4 1 (.slice (some ⟨g, 0, none⟩) bs.length bs.length) bs.length (bs.map Value.bool)
theorem RowB.cell {w : World} {base g i : Nat} {bs : List Bool} (h : RowB w base g bs) (hi : i < bs.length) : w.cell? ⟨g, i, none⟩ = some (.bool (bs.getD i false)) := by
  rw [World.ownsRow.cellAt h i (by omega)]
  simp [List.getD_eq_getElem?_getD, hi]
theorem RowB.free {w : World} {base g : Nat} {bs : List Bool} (h : RowB w base g bs) (i : Nat) : w.frozen? ⟨g, i, none⟩ = false := World.ownsRow.frozenAt h i
theorem RowB.set {w : World} {base g : Nat} {bs : List Bool} (h : RowB w base g bs) (i : Nat) (b : Bool) : RowB (w.setCell ⟨g, i, none⟩ (.bool b)) base g (bs.set i b) := by
  have := (World.ownsRow.stored h i (.bool b)).1
  unfold RowB
  rw [List.length_set, List.map_set]
  exact this
theorem RowB.kept {w w' : World} {base g : Nat} {bs : List Bool} {row : Option Nat} (h : RowB w base g bs) (hg : w.grownBy w' row) (hne : some g ≠ row) : RowB w' base g bs :=
  World.ownsRow.kept h hg (.inr (by simpa [Value.ownBlock] using hne))

theorem RowB.alloc {w : World} {base g : Nat} {bs : List Bool} (h : RowB w base g bs) (o : Obj) : RowB (w.alloc o) base g bs := World.ownsRow.alloc h o
/-- The variables of Reach: the list's box L, the row R of the marks, its box M. -/
structure RS (W : World) (L R M N n₁ : Nat) (u : Value) (st : List Bool × List Int) : Prop where
  box : Boxed W L 31 u
  own : W.ownsRow n₁ 3 1 u st.2.length (st.2.map (Value.int .i64))
  mbox : Boxed W M 45 (.slice (some ⟨R, 0, none⟩) N N)
  row : RowB W 0 R st.1
  len : st.1.length = N
  rlt : R < n₁
  sz : n₁ ≤ W.heap.size
/-- What adding leaves as it is. -/
structure Fr (W W' : World) (L R : Nat) (u u' : Value) : Prop where
  os : W'.os = W.os
  tape : W'.tape = W.tape
  output : W'.output = W.output
  size : W.heap.size ≤ W'.heap.size
  block : ∀ q, q < W.heap.size → q ≠ L → q ≠ R → some q ≠ u.ownBlock → W'.heap[q]? = W.heap[q]?
  keeps : KeepsOthers W W'
  lies : u'.ownBlock = u.ownBlock ∨ ∃ k, u'.ownBlock = some k ∧ W.heap.size ≤ k
theorem Fr.refl (W : World) (L R : Nat) (u : Value) : Fr W W L R u u := ⟨rfl, rfl, rfl, Nat.le_refl _, fun _ _ _ _ _ => rfl, KeepsOthers.refl W, .inl rfl⟩

set_option maxHeartbeats 1600000 in
theorem add_any (L R M N n₁ : Nat) (u : Value) (st : List Bool × List Int) (v : Int) (W : World) (h : RS W L R M N n₁ u st) (h0 : 0 ≤ v) (h1 : v < N) (hlen : st.2.length ≤ 100000) (hLR : L ≠ R) (hLM : L ≠ M) (hRM : R ≠ M) (hL : L < n₁) (hM : M < n₁) :
    Calls Try.prog 58 #[.int .i64 v, .pointer (some ⟨M, 0, none⟩), .pointer (some ⟨L, 0, none⟩)] W fun e W' => e = .returned (.tuple #[]) ∧ ∃ u', RS W' L R M N n₁ u' (addR st v) ∧ Fr W W' L R u u' := by
  obtain ⟨i, rfl⟩ : ∃ i : Nat, v = i := ⟨v.toNat, by omega⟩
  have hi : i < N := by omega
  have cm := h.mbox.cell
  have cl := h.box.cell
  have cr := h.row.cell (i := i) (by rw [h.len]; exact hi)
  have fr := h.row.free i
  have fl := h.box.frozen
  have H := Lib.hid h
  cases hb : st.1.getD i false with
  | true =>
    have hadd : Hid (addR st (i : Int) = st) := by show _ = _; unfold addR; rw [Int.toNat_natCast, if_pos hb]
    rw [hb] at cr
    clear h hb
    go_enter Try.func58, Try.ntmps58
    go_wp2
    go_end0
    exact ⟨rfl, u, by rw [hadd.out]; exact H.out, Fr.refl _ _ _ _⟩
  | false =>
    have hadd : Hid (addR st (i : Int) = (st.1.set i true, st.2 ++ [(i : Int)])) := by
      show _ = _; unfold addR; rw [Int.toNat_natCast, if_neg (by rw [hb]; decide)]
    rw [hb] at cr
    obtain ⟨i0, hi0, hz0, hz1, hz2⟩ := info_parts int_info
    have hg1 := grown_setCell W R i (.bool true)
    have hrow1 : RowB (W.setCell ⟨R, i, none⟩ (.bool true)) 0 R (st.1.set i true) := h.row.set i true
    have hown1 : (W.setCell ⟨R, i, none⟩ (.bool true)).ownsRow n₁ 3 1 u st.2.length (st.2.map (Value.int .i64)) := h.own.kept hg1 (by
      cases hu : u.ownBlock with
      | none => exact .inl rfl
      | some k => exact .inr fun e => by have := (World.ownsRow.lt h.own k hu).1; cases e; have := h.rlt; omega)
    have hbox1 : Boxed (W.setCell ⟨R, i, none⟩ (.bool true)) L 31 u := h.box.kept hg1 (by simpa using hLR)
    have hmb1 : Boxed (W.setCell ⟨R, i, none⟩ (.bool true)) M 45 (.slice (some ⟨R, 0, none⟩) N N) := h.mbox.kept hg1 (by simpa using Ne.symm hRM)
    have hsz1 : n₁ ≤ (W.setCell ⟨R, i, none⟩ (.bool true)).heap.size := by simpa using h.sz
    have cl1 := hbox1.cell
    have Hown1 := Lib.hid hown1
    have Hsz1 := Lib.hid hsz1
    clear h hb
    go_enter Try.func58, Try.ntmps58
    go_wp2_with (at_builtin; refine wpList_append_lies _ rfl _ _ 31 rfl n₁ 3 i0 (.int .i64 0) 1 8 Try.underlying31 hi0 hz0 hz1 hz2 rfl (by decide) _ _ _ rfl (World.ownsRow.alloc Hown1.out _) ⟨W.heap.size, 0, none⟩ 1 1 [.int .i64 (i : Int)] rfl rfl ?g1 (by simp [Value.oneCell']) (by omega) ?g2 (by omega) (by have := Hsz1.out; simp at this ⊢; omega) _ rfl ?_)
    case g1 =>
      intro j x hj
      match j, hj with
      | 0, hj => simp at hj; subst hj; simp [Addr.add, go_sem]
    case g2 => unfold maxLen; omega
    intro g cap w2 hown2 hg2 hat hlt2
    have hlen' : st.2.length + 1 = (st.2 ++ [(i : Int)]).length := by simp
    have hown2' : w2.ownsRow n₁ 3 1 (.slice (some ⟨g, 0, none⟩) (st.2.length + 1) cap) (st.2 ++ [(i : Int)]).length ((st.2 ++ [(i : Int)]).map (Value.int .i64)) := by
      rw [← hlen', List.map_append]; exact hown2
    obtain ⟨a1, a2, _, a4, _⟩ := hbox1.appended (by decide) (ownsRow_mono hown1 (Nat.zero_le _)) (Nat.zero_le _) (Nat.zero_le _) (ownsRow_mono hown2 (Nat.zero_le _)) hg2
    have cl2 := a1.cell
    have fl2 := a1.frozen
    have hgs := grownBy_setCell' w2 L (.slice (some ⟨g, 0, none⟩) (st.2.length + 1) cap)
    have hnR : some R ≠ u.ownBlock := fun e => by have := (World.ownsRow.lt hown1 R e.symm).1; have := H.out.rlt; omega
    have hmb2 : Boxed (w2.setCell ⟨L, 0, none⟩ (.slice (some ⟨g, 0, none⟩) (st.2.length + 1) cap)) M 45 (.slice (some ⟨R, 0, none⟩) N N) :=
      ((hmb1.alloc _).kept hg2 ((hmb1.not_row (by decide) hown1))).kept hgs (by simpa using Ne.symm hLM)
    have hrow2 : RowB (w2.setCell ⟨L, 0, none⟩ (.slice (some ⟨g, 0, none⟩) (st.2.length + 1) cap)) 0 R (st.1.set i true) :=
      RowB.kept (RowB.kept (RowB.alloc hrow1 _) hg2 hnR) hgs (by simpa using Ne.symm hLR)
    have hsz2 : W.heap.size ≤ w2.heap.size := by have := hg2.size; simp at this; omega
    have hfr : Fr W (w2.setCell ⟨L, 0, none⟩ (.slice (some ⟨g, 0, none⟩) (st.2.length + 1) cap)) L R u (.slice (some ⟨g, 0, none⟩) (st.2.length + 1) cap) := by
      refine ⟨hg2.os.trans rfl, hg2.tape.trans rfl, hg2.output.trans rfl, by simpa using hsz2, fun q hq n1 n2 n3 => ?_, (KeepsOthers.setCell W _ _).trans a4, ?_⟩
      · rw [Below.heap_setCell w2 ⟨L, 0, none⟩ _ q n1, hg2.block q (by simp; omega) n3, Below.heap_alloc _ _ q (by simpa using hq), Below.heap_setCell W ⟨R, i, none⟩ _ q n2]
      · rcases hat with h | h
        · exact .inl h.symm
        · exact .inr ⟨g, rfl, by omega⟩
    have hRS : RS (w2.setCell ⟨L, 0, none⟩ (.slice (some ⟨g, 0, none⟩) (st.2.length + 1) cap)) L R M N n₁ (.slice (some ⟨g, 0, none⟩) (st.2.length + 1) cap) (st.1.set i true, st.2 ++ [(i : Int)]) :=
      ⟨a2, hown2'.kept hgs (.inr (a1.not_row (by decide) hown2').symm), hmb2, hrow2, by simpa using H.out.len, H.out.rlt, Nat.le_trans H.out.sz (by simpa using hsz2)⟩
    have HRS := Lib.hid hRS
    have Hfr := Lib.hid hfr
    clear hRS hfr a1 a2 a4 hmb2 hrow2 hown2 hown2' hg2 hgs hown1 hrow1 hmb1 hbox1 hg1 hat hlen'
    go_wp2
    go_end0
    exact ⟨rfl, _, by rw [hadd.out]; exact HRS.out, Hfr.out⟩
end Go.Proofs.Ytopbbihbpalnlaa
