/-
  The definition's Lists and Distances (of the layer below).
-/
import Derived.Test.YtopbbihbpalnlaaSSucc
import Derived.Test.YtopbbihbpalnlaaGReach
import Derived.Deep.AppendLies
namespace Go.Proofs.Ytopbbihbpalnlaa.D
open Go.RowKit Go.Shelf
set_option linter.unusedVariables false
inductive Rch (ps : List (Int × Int)) (v : Int) : Int → Prop
  | refl : Rch ps v v
  | step {u w : Int} : Rch ps v u → (u, w) ∈ ps → Rch ps v w
theorem mem_succL {ps : List (Int × Int)} {v x : Int} : x ∈ succL ps v ↔ (v, x) ∈ ps := by
  simp only [succL, List.mem_map, List.mem_filter, decide_eq_true_eq]
  constructor
  · rintro ⟨e, ⟨he, h1⟩, h2⟩
    rw [← h1, ← h2]; exact he
  · intro h; exact ⟨(v, x), ⟨h, rfl⟩, rfl⟩
theorem Rch.trans {ps : List (Int × Int)} {u v w : Int} (h : Rch ps u v) (k : Rch ps v w) : Rch ps u w := by
  induction k with
  | refl => exact h
  | step _ he ih => exact .step ih he
theorem countP_setI (l : List Int) (i : Nat) (v : Int) (hi : i < l.length) (h : l.getD i 0 < 0) (hv : 0 ≤ v) : (l.set i v).countP (fun b => decide (b < 0)) + 1 = l.countP (fun b => decide (b < 0)) := by
  induction l generalizing i with
  | nil => simp at hi
  | cons a r ih =>
    cases i with
    | zero =>
      simp at h
      simp [h, show ¬ v < 0 by omega]
    | succ i =>
      have := ih i (by simpa using hi) (by simpa using h)
      simp only [List.set_cons_succ, List.countP_cons]
      omega
theorem getD_setI (l : List Int) (i j : Nat) (v : Int) (hi : i < l.length) : (l.set i v).getD j 0 = if i = j then v else l.getD j 0 := by
  simp only [List.getD_eq_getElem?_getD, List.getElem?_set]
  split
  · next h => subst h; simp
  · rfl
theorem mem_getD (l : List Int) (j : Nat) (h : j < l.length) : l.getD j 0 ∈ l := by
  simp [List.getD_eq_getElem?_getD, h]

theorem getD_appI (l : List Int) (x : Int) (j : Nat) : (l ++ [x]).getD j 0 = if j < l.length then l.getD j 0 else if j = l.length then x else 0 := by
  simp only [List.getD_eq_getElem?_getD]
  by_cases h : j < l.length
  · rw [if_pos h, List.getElem?_append_left h]
  · rw [if_neg h, List.getElem?_append_right (by omega)]
    by_cases e : j = l.length
    · subst e; simp
    · rw [if_neg e]
      have : j - l.length ≠ 0 := by omega
      obtain ⟨k, hk⟩ : ∃ k, j - l.length = k + 1 := ⟨j - l.length - 1, by omega⟩
      rw [hk]; simp
def RowI (w : World) (base g : Nat) (zs : List Int) : Prop := w.ownsRow base 3 1 (.slice (some ⟨g, 0, none⟩) zs.length zs.length) zs.length (zs.map (Value.int .i64))
theorem RowI.cell {w : World} {base g i : Nat} {zs : List Int} (h : RowI w base g zs) (hi : i < zs.length) : w.cell? ⟨g, i, none⟩ = some (.int .i64 (zs.getD i 0)) := by
  rw [World.ownsRow.cellAt h i (by omega)]
  simp [List.getD_eq_getElem?_getD, hi]
theorem RowI.free {w : World} {base g : Nat} {zs : List Int} (h : RowI w base g zs) (i : Nat) : w.frozen? ⟨g, i, none⟩ = false := World.ownsRow.frozenAt h i
theorem RowI.set {w : World} {base g : Nat} {zs : List Int} (h : RowI w base g zs) (i : Nat) (z : Int) : RowI (w.setCell ⟨g, i, none⟩ (.int .i64 z)) base g (zs.set i z) := by
  have := (World.ownsRow.stored h i (.int .i64 z)).1
  unfold RowI
  rw [List.length_set, List.map_set]
  exact this
theorem RowI.kept {w w' : World} {base g : Nat} {zs : List Int} {row : Option Nat} (h : RowI w base g zs) (hg : w.grownBy w' row) (hne : some g ≠ row) : RowI w' base g zs :=
  World.ownsRow.kept h hg (.inr (by simpa [Value.ownBlock] using hne))
theorem RowI.alloc {w : World} {base g : Nat} {zs : List Int} (h : RowI w base g zs) (o : Obj) : RowI (w.alloc o) base g zs := World.ownsRow.alloc h o

def minusP (N k : Nat) : List Int := List.replicate k (-1) ++ List.replicate (N - k) 0
theorem minusP_set {N k : Nat} (h : k < N) : (minusP N k).set k (-1) = minusP N (k + 1) := by
  unfold minusP
  rw [List.set_append_right _ _ (by simp)]
  obtain ⟨m, hm⟩ : ∃ m, N - k = m + 1 := ⟨N - k - 1, by omega⟩
  rw [hm, show N - (k + 1) = m by omega, List.replicate_succ, List.length_replicate, Nat.sub_self, List.set_cons_zero, List.replicate_succ', List.append_assoc]
  rfl
theorem length_minusP {N k : Nat} (h : k ≤ N) : (minusP N k).length = N := by
  unfold minusP; simp; omega


theorem wpList_append_lie {w : World} {ops : Array Oper} {rest : List Oper} {o : Oper} {a : Act} {Q : Exit → Act → World → Prop} (hg : o.guard = none) (s x : Operand)
    (hop : o.op = .call { callee := .builtin .append, args := #[s, x], argTypes := #[31, 31] }) (base : Nat) (v : Value) (zs : List Int) (n : Nat) (hn : zs.length = n) (hs : a.eval s = v) (hown : Own w base v zs)
    (B : Nat) (z : Int) (hx : a.eval x = .slice (some ⟨B, 0, none⟩) 1 1) (hc : w.cell? ⟨B, 0, none⟩ = some (.int .i64 z)) (hlen : n ≤ 100000) (hbase : base ≤ w.heap.size)
    (hK : ∀ g cap w', Own w' base (.slice (some ⟨g, 0, none⟩) (n + 1) cap) (zs ++ [z]) → w.grownBy w' v.ownBlock → (∀ k, (Value.slice (some ⟨g, 0, none⟩) (n + 1) cap).ownBlock = some k → v.ownBlock = some k ∨ w.heap.size ≤ k) → wpList Try.prog ops Q rest (a.put o.dst (.slice (some ⟨g, 0, none⟩) (n + 1) cap)) w') : wpList Try.prog ops Q (o :: rest) a w := by
  obtain ⟨i0, hi, hz0, hz1, hz2⟩ := info_parts int_info
  subst hn
  refine wpList_append_lies w hg s x 31 hop base 3 i0 (.int .i64 0) 1 8 Try.underlying31 hi hz0 hz1 hz2 rfl (by decide) v zs.length (zs.map (.int .i64)) hs hown ⟨B, 0, none⟩ 1 1 [.int .i64 z] hx rfl ?_ ?_ (by decide) ?_ (by omega) hbase _ rfl ?_
  · intro j u hj
    match j, hj with
    | 0, hj => simp at hj; subst hj; simpa [Addr.add] using hc
  · intro u hu; simp at hu; subst hu; rfl
  · unfold maxLen; omega
  · intro g cap w' h1 h2 h3 _
    refine hK g cap w' ?_ h2 fun k hk => ?_
    · unfold Own
      rw [List.length_append, List.map_append]
      exact h1
    · have e : g = k := by simpa [Value.ownBlock] using hk
      subst e
      rcases h3 with h3 | h3
      · exact .inl h3
      · exact .inr (Nat.le_of_eq h3.symm)
theorem cell_at (X : World) (z : Int) (t : TypeId) (g : Nat) (h : X.heap.size = g) : (X.alloc (.cells #[.int .i64 z] t)).cell? ⟨g, 0, none⟩ = some (.int .i64 z) := by subst h; simp [go_sem]
theorem own_shape {w : World} {base n : Nat} {v : Value} {zs : List Int} (h : Own w base v zs) (hn : zs.length = n) (h0 : 0 < n) : ∃ g c, v = .slice (some ⟨g, 0, none⟩) n c ∧ n ≤ c ∧ c ≤ maxLen ∧ base ≤ g ∧ g < w.heap.size := by
  subst hn
  rcases h.2 with ⟨_, e⟩ | ⟨g, cap, cur, hv, hb, hh, h3, h4, _⟩
  · omega
  · exact ⟨g, cap, hv, h3, h4, hb, (Array.getElem?_eq_some_iff.1 hh).1⟩
theorem own_cell {w : World} {base n g c : Nat} {zs : List Int} (h : Own w base (.slice (some ⟨g, 0, none⟩) n c) zs) (hn : zs.length = n) {i : Nat} (hi : i < zs.length) : w.cell? ⟨g, i, none⟩ = some (.int .i64 (zs.getD i 0)) := by
  subst hn
  rw [World.ownsRow.cellAt h i (by omega)]
  simp [List.getD_eq_getElem?_getD, hi]
set_option maxHeartbeats 4000000 in
set_option maxRecDepth 100000 in
theorem rlists_pairs (N : Nat) (a : Option Addr) (n c : Nat) (ps : List (Int × Int)) (hl : ps.length = n) (w : World) (hE : Pairs w a ps) (hg : GOk (N : Int) ps) :
    Calls Try.prog 44 #[.agg #[.int .i64 (N : Int), .slice a n c]] w (ListsEnd w N ps) := by
  obtain ⟨e0, he1, he2, he3, he4⟩ := info_parts ss_info
  have hlen := hg.len
  have hN := hg.hi
  rw [hl] at hlen
  obtain ⟨w1, hw1⟩ : ∃ w1, w.alloc (Obj.cells #[Value.int .i64 (N : Int), Value.slice a n c] 24) = w1 := ⟨_, rfl⟩
  have hz1 : w.heap.size < w1.heap.size := by rw [← hw1]; simp
  have g0 : w1.cell? ⟨w.heap.size, 0, none⟩ = some (.int .i64 (N : Int)) := by rw [← hw1]; simp [go_sem]
  have g1 : w1.cell? ⟨w.heap.size, 1, none⟩ = some (.slice a n c) := by rw [← hw1]; simp [go_sem]
  have HB1 : Hid (Below w.heap.size w w1) := by show Below _ _ _; rw [← hw1]; exact (Below.refl w.heap.size w).alloc (Nat.le_refl _) _
  have HE := Lib.hid hE
  have Hl := Lib.hid hl
  have Hg := Lib.hid hg
  have Hw1 := Lib.hid hw1
  have Hfin : Hid (listsTo N ps n = listsL N ps) := by show _ = _; rw [← hl]; exact listsTo_all N ps
  clear hE hl hg hw1
  go_enter Try.func44, Try.ntmps44
  go_wp2_with (at_make; rw [Hw1.out]; refine wpList_make_full _ rfl _ _ 27 rfl w1.heap.size 31 e0 (.slice none 0 0) 1 Try.underlying27 he1 he2 he3 _ _ _ _ N rfl rfl rfl rfl ?_ ?_ ?_ ?_)
  · rw [he4]; omega
  · unfold maxLen; omega
  · exact Nat.le_refl _
  intro w2 hown hg2
  have hrep : (madeCells #[Value.slice none 0 0] N).toList = List.replicate N nl := by rw [toList_madeCells_one]; rfl
  rw [hrep] at hown
  have hst := rws_start hown
  rw [← listsTo_zero N ps] at hst
  have hb2 : Below w1.heap.size w1 w2 := (Below.refl _ _).grown hg2 (Nat.le_refl _) (fun k hk => by cases hk)
  have Hst := Lib.hid hst
  have Hb2 := Lib.hid hb2
  clear hown hg2 hrep hst hb2
  go_wp2
  go_loopw [4] (fun i wr => ∃ k : Nat, k ≤ n ∧ i = .int .i64 k ∧ (∃ vs, vs.length = N ∧ Rws wr w1.heap.size (.slice (some ⟨w1.heap.size, 0, none⟩) vs.length N) vs (listsTo N ps k)) ∧ Below w1.heap.size w1 wr) (fun i _ => n - (intOf i).toNat)
  case atStart => exact ⟨0, Nat.zero_le _, rfl, ⟨_, by simp, Hst.out⟩, Hb2.out⟩
  case round =>
    obtain ⟨k, hk, rfl, ⟨vs, hvs, hrw⟩, hb⟩ := hrel
    have Hrw := Lib.hid hrw
    have Hb := Lib.hid hb
    have Hvs := Lib.hid hvs
    have hsz := hb.size
    have k0 := (hb.cell (p := ⟨w.heap.size, 0, none⟩) hz1).trans g0
    have k1 := (hb.cell (p := ⟨w.heap.size, 1, none⟩) hz1).trans g1
    clear hrw hb hvs
    by_cases hlt : k < n
    · obtain ⟨b, off, rfl, hcell⟩ := (HE.out.below (HB1.out.trans (Hb.out.mono (Nat.le_of_lt hz1))) (Nat.le_refl _)) (by rw [Hl.out]; omega)
      obtain ⟨hcx, hcy⟩ := hcell k (by rw [Hl.out]; exact hlt)
      have hnd := (Hg.out.node k (by rw [Hl.out]; exact hlt)).1
      obtain ⟨⟨x, y⟩, he⟩ : ∃ e, ps.getD k (0, 0) = e := ⟨_, rfl⟩
      rw [he] at hcx hcy hnd
      obtain ⟨x, rfl⟩ : ∃ m : Nat, x = (m : Int) := ⟨x.toNat, by have := hnd.1; omega⟩
      have hxN : x < N := by have := hnd.2; show x < N; simp at this; omega
      have hxl : x < (listsTo N ps k).length := by rw [length_listsTo]; exact hxN
      have hstep := listsTo_succ (by rw [Hl.out]; exact hlt) he hxN
      have hrl : ((listsTo N ps k).getD x []).length ≤ 100000 := by
        rw [getD_listsTo hxN]
        have := succL_take_len ps k (x : Int)
        rw [Hl.out] at this; omega
      obtain ⟨w5, hw5⟩ : ∃ w5, wr.alloc (.cells #[.int .i64 (x : Int), .int .i64 y] 44) = w5 := ⟨_, rfl⟩
      have hb5 : Below wr.heap.size wr w5 := by rw [← hw5]; exact (Below.refl _ _).alloc (Nat.le_refl _) _
      have hs5 : wr.heap.size < w5.heap.size := by rw [← hw5]; simp
      have e0' : w5.cell? ⟨wr.heap.size, 0, none⟩ = some (.int .i64 (x : Int)) := by rw [← hw5]; simp [go_sem]
      have e1' : w5.cell? ⟨wr.heap.size, 1, none⟩ = some (.int .i64 y) := by rw [← hw5]; simp [go_sem]
      have hrw5 := Hrw.out.below hb5 (Nat.le_refl _)
      obtain ⟨au, cu, cG, hv, _, fG⟩ := hrw5.at_ hxl
      obtain ⟨L, hL⟩ : ∃ L, (listsTo N ps k).getD x [] = L := ⟨_, rfl⟩
      rw [hL] at cG hv hrl hstep
      have hown := hrw5.row x hxl
      rw [hv, hL] at hown
      have hba : ∀ o, Below w5.heap.size w5 (w5.alloc o) := fun o => (Below.refl _ _).alloc (Nat.le_refl _) _
      have cGa : ∀ o, (w5.alloc o).cell? ⟨w1.heap.size, x, none⟩ = some (.slice au L.length cu) := fun o => ((hba o).cell (World.block_lt_of_cell? _ _ cG)).trans cG
      have e0a : ∀ o, (w5.alloc o).cell? ⟨wr.heap.size, 0, none⟩ = some (.int .i64 (x : Int)) := fun o => ((hba o).cell (World.block_lt_of_cell? _ _ e0')).trans e0'
      have e1a : ∀ o, (w5.alloc o).cell? ⟨wr.heap.size, 1, none⟩ = some (.int .i64 y) := fun o => ((hba o).cell (World.block_lt_of_cell? _ _ e1')).trans e1'
      have hfin : ∀ (g cap : Nat) (w6 : World), Own w6 w1.heap.size (.slice (some ⟨g, 0, none⟩) (L.length + 1) cap) (L ++ [y]) → ((w5.alloc (.cells #[.int .i64 y] 3)).drew).grownBy w6 (Value.slice au L.length cu).ownBlock → ((Value.slice au L.length cu).ownBlock = some g ∨ g = ((w5.alloc (.cells #[.int .i64 y] 3)).drew).heap.size) →
          (w6.cell? ⟨w1.heap.size, x, none⟩ = some (.slice au L.length cu) ∧ w6.frozen? ⟨w1.heap.size, x, none⟩ = false ∧ w6.cell? ⟨wr.heap.size, 0, none⟩ = some (.int .i64 (x : Int)) ∧ w6.cell? ⟨wr.heap.size, 1, none⟩ = some (.int .i64 y)) ∧
            (∃ vs', vs'.length = N ∧ Rws (w6.setCell ⟨w1.heap.size, x, none⟩ (.slice (some ⟨g, 0, none⟩) (L.length + 1) cap)) w1.heap.size (.slice (some ⟨w1.heap.size, 0, none⟩) vs'.length N) vs' (listsTo N ps (k + 1))) ∧
            Below w1.heap.size w1 (w6.setCell ⟨w1.heap.size, x, none⟩ (.slice (some ⟨g, 0, none⟩) (L.length + 1) cap)) := fun g cap w6 ho hg hat => by
        have hX : Below w5.heap.size w5 ((w5.alloc (.cells #[.int .i64 y] 3)).drew) := (hba _).drew
        have hrX := hrw5.below hX (Nat.le_refl _)
        have hgX : ((w5.alloc (.cells #[.int .i64 y] 3)).drew).grownBy w6 (vs.getD x nl).ownBlock := by rw [hv]; exact hg
        have hS1 := World.ownsRow.kept hrX.own hgX (own_ne hrX.own (hrX.row x hxl))
        have hat' : (Value.slice (some ⟨g, 0, none⟩) (L.length + 1) cap).ownBlock = (vs.getD x nl).ownBlock ∨ ∃ k', (Value.slice (some ⟨g, 0, none⟩) (L.length + 1) cap).ownBlock = some k' ∧ ((w5.alloc (.cells #[.int .i64 y] 3)).drew).heap.size ≤ k' := by
          rw [hv]
          rcases hat with h | h
          · exact .inl h.symm
          · exact .inr ⟨g, rfl, Nat.le_of_eq h.symm⟩
        have ho' : Own w6 w1.heap.size (.slice (some ⟨g, 0, none⟩) (L.length + 1) cap) ((listsTo N ps k).getD x [] ++ [y]) := by rw [hL]; exact ho
        have hgr := Rws.grow hrX hxl ho' hgX hat'
        rw [hL, ← hstep] at hgr
        have hvx : x < vs.length := by rw [Hvs.out]; exact hxN
        have hfar : (vs.getD x nl).ownBlock = none ∨ (vs.getD x nl).ownBlock ≠ some wr.heap.size := by
          cases hu : (vs.getD x nl).ownBlock with
          | none => exact .inl rfl
          | some r => exact .inr fun e => by have := (World.ownsRow.lt (Hrw.out.row x hxl) r hu).2; cases e; omega
        refine ⟨⟨?_, World.ownsRow.frozenAt hS1 x, cell_kept' hgX (e0a _) hfar, cell_kept' hgX (e1a _) hfar⟩, ⟨vs.set x (.slice (some ⟨g, 0, none⟩) (L.length + 1) cap), by rw [List.length_set]; exact Hvs.out, ?_⟩, ?_⟩
        · rw [World.ownsRow.cellAt hS1 x (by omega), ← hv]
          simp [List.getD_eq_getElem?_getD, hvx]
        · rw [List.length_set]; exact hgr
        · exact ((((Hb.out.trans (hb5.mono hsz)).trans (hX.mono (by omega))).grown hgX (by simp; omega) (fun r hr => (World.ownsRow.lt (hrX.row x hxl) r hr).1))).setCell (p := ⟨w1.heap.size, x, none⟩) (Nat.le_refl _) _
      have Hfin2 := Lib.hid hfin
      have Hown := Lib.hid hown
      have Hw5 := Lib.hid hw5
      have hsw : w1.heap.size ≤ w5.heap.size := by omega
      clear hcell he hstep hrw5 hown hfin hb5 hw5 hv hL hnd hba hxl
      go_wp2
      rw [Hw5.out]
      go_region_law (refine step_append_at rfl _ _ rfl w1.heap.size _ L rfl (World.ownsRow.alloc Hown.out _) w5.heap.size y rfl (by simp [go_sem]) hrl (by simp; omega) ?_; intro g4 cap4 w4 ho4 hg4 hat4; obtain ⟨⟨c5, f5, e5, e6⟩, hdone⟩ := Hfin2.out g4 cap4 w4 ho4 hg4 hat4; have Hdone := Lib.hid hdone; clear ho4 hg4 hat4 hdone)
      all_goals
        go_wp2
        go_roundw
        case rel => exact ⟨k + 1, by omega, by go_num, Hdone.out.1, Hdone.out.2⟩
        case measure => simp [intOf]; omega
    · obtain rfl : n = k := by omega
      have HBf := Lib.hid (HB1.out.trans (Hb.out.mono (Nat.le_of_lt hz1)))
      go_wp2
      go_ret
      exact ⟨_, vs, rfl, Hvs.out, by rw [← Hfin.out]; exact Hrw.out.mono (Nat.le_of_lt hz1), HBf.out⟩

/-- A walk of n edges from a to b. -/
inductive Wk (ps : List (Int × Int)) (a : Int) : Nat → Int → Prop
  | nil : Wk ps a 0 a
  | snoc {n : Nat} {u b : Int} : Wk ps a n u → (u, b) ∈ ps → Wk ps a (n + 1) b
theorem Wk.cons {ps : List (Int × Int)} {a b c : Int} {n : Nat} (he : (a, b) ∈ ps) (h : Wk ps b n c) : Wk ps a (n + 1) c := by
  induction h with
  | nil => exact .snoc .nil he
  | snoc _ h2 ih => exact .snoc ih h2
theorem Wk.trans {ps : List (Int × Int)} {a b c : Int} {n m : Nat} (h : Wk ps a n b) (k : Wk ps b m c) : Wk ps a (n + m) c := by
  induction k with
  | nil => exact h
  | snoc _ h2 ih => exact .snoc ih h2
theorem Wk.turn {ps qs : List (Int × Int)} {a b : Int} {n : Nat} (hq : ∀ a b, (a, b) ∈ ps → (b, a) ∈ qs) (h : Wk ps a n b) : Wk qs b n a := by
  induction h with
  | nil => exact .nil
  | snoc _ h2 ih => exact .cons (hq _ _ h2) ih
theorem Wk.rch {ps : List (Int × Int)} {a b : Int} {n : Nat} (h : Wk ps a n b) : Rch ps a b := by
  induction h with
  | nil => exact .refl
  | snoc _ h2 ih => exact .step ih h2
theorem Rch.wk {ps : List (Int × Int)} {a b : Int} (h : Rch ps a b) : ∃ n, Wk ps a n b := by
  induction h with
  | refl => exact ⟨0, .nil⟩
  | step _ h2 ih => obtain ⟨n, hn⟩ := ih; exact ⟨n + 1, .snoc hn h2⟩
theorem Wk.fn {ps : List (Int × Int)} {a b : Int} {n : Nat} (h : Wk ps a n b) : ∃ p : Nat → Int, p 0 = a ∧ p n = b ∧ ∀ k, k < n → (p k, p (k + 1)) ∈ ps := by
  induction h with
  | nil => exact ⟨fun _ => a, rfl, rfl, fun k hk => by omega⟩
  | @snoc n u b _ h2 ih =>
    obtain ⟨p, h0, h1, h3⟩ := ih
    refine ⟨fun k => if k ≤ n then p k else b, by simp [h0], if_neg (by omega), fun k hk => ?_⟩
    show ((if k ≤ n then p k else b), (if k + 1 ≤ n then p (k + 1) else b)) ∈ ps
    rw [if_pos (by omega)]
    by_cases e : k + 1 ≤ n
    · rw [if_pos e]; exact h3 k (by omega)
    · rw [if_neg e]
      obtain rfl : k = n := by omega
      rw [h1]; exact h2
theorem Wk.of_fn {ps : List (Int × Int)} (p : Nat → Int) : ∀ (n i : Nat), (∀ k, i ≤ k → k < i + n → (p k, p (k + 1)) ∈ ps) → Wk ps (p i) n (p (i + n))
  | 0, i, _ => .nil
  | n + 1, i, h => by
    have := Wk.of_fn p n i fun k hk hk2 => h k hk (by omega)
    exact .snoc this (h (i + n) (by omega) (by omega))

/-- What the list of distances and the queue always keep. -/
structure BC (N : Nat) (st : List Int × List Int) : Prop where
  len : st.1.length = N
  cnt : st.1.countP (fun b => decide (b < 0)) + st.2.length = N
  node : ∀ x ∈ st.2, 0 ≤ x ∧ x < (N : Int)
  seen : ∀ x ∈ st.2, 0 ≤ st.1.getD x.toNat 0
  all : ∀ x : Int, 0 ≤ x → x < N → 0 ≤ st.1.getD x.toNat 0 → x ∈ st.2
def putD (st : List Int × List Int) (x d : Int) : List Int × List Int := (st.1.set x.toNat d, st.2 ++ [x])
section
variable {N : Nat} {st : List Int × List Int} {x d : Int}
theorem BC.le (h : BC N st) : st.2.length ≤ N := by have := h.cnt; omega
theorem BC.fresh (h : BC N st) (hx : st.1.getD x.toNat 0 < 0) : x ∉ st.2 := fun hm => by have := h.seen x hm; omega
theorem BC.lt (h : BC N st) (h0 : 0 ≤ x) (h1 : x < N) : x.toNat < st.1.length := by rw [h.len]; omega
theorem BC.at_new (h : BC N st) (h0 : 0 ≤ x) (h1 : x < N) : (putD st x d).1.getD x.toNat 0 = d := by
  show (List.set _ _ _).getD _ _ = d
  rw [getD_setI _ _ _ _ (h.lt h0 h1), if_pos rfl]
theorem BC.at_old (h : BC N st) (h0 : 0 ≤ x) (h1 : x < N) (hx : st.1.getD x.toNat 0 < 0) : ∀ y ∈ st.2, (putD st x d).1.getD y.toNat 0 = st.1.getD y.toNat 0 := fun y hy => by
  have hne : x.toNat ≠ y.toNat := fun e => by have := h.seen y hy; rw [← e] at this; omega
  show (List.set _ _ _).getD _ _ = _
  rw [getD_setI _ _ _ _ (h.lt h0 h1), if_neg hne]
theorem BC.put (h : BC N st) (h0 : 0 ≤ x) (h1 : x < N) (hx : st.1.getD x.toNat 0 < 0) (hd : 0 ≤ d) : BC N (putD st x d) := by
  have hlt := h.lt h0 h1
  refine ⟨by simpa [putD] using h.len, ?_, fun y hy => ?_, fun y hy => ?_, fun y y0 y1 hy => ?_⟩
  · have := countP_setI st.1 x.toNat d hlt hx hd
    have := h.cnt
    simp only [putD, List.length_append, List.length_singleton]
    omega
  · rcases List.mem_append.1 hy with hy | hy
    · exact h.node y hy
    · rw [List.mem_singleton.1 hy]; exact ⟨h0, h1⟩
  · rcases List.mem_append.1 hy with hy | hy
    · rw [h.at_old h0 h1 hx y hy]; exact h.seen y hy
    · rw [List.mem_singleton.1 hy, h.at_new h0 h1]; exact hd
  · show y ∈ st.2 ++ [x]
    by_cases exy : x.toNat = y.toNat
    · have : y = x := by omega
      simp [this]
    · have hy' : 0 ≤ (st.1.set x.toNat d).getD y.toNat 0 := hy
      rw [getD_setI _ _ _ _ hlt, if_neg exy] at hy'
      exact List.mem_append_left _ (h.all y y0 y1 hy')
theorem BC.start (N : Nat) : BC N (List.replicate N (-1), []) := by
  refine ⟨by simp, by simp [List.countP_replicate], fun x hx => by simp at hx, fun x hx => by simp at hx, fun y y0 y1 hy => ?_⟩
  have hy2 : y.toNat < N := by omega
  simp [List.getD_eq_getElem?_getD, hy2] at hy
end
/-- The first k of the given nodes are looked at. -/
structure BS (N : Nat) (zs : List Int) (k : Nat) (st : List Int × List Int) : Prop where
  c : BC N st
  val : ∀ x ∈ st.2, st.1.getD x.toNat 0 = 0 ∧ x ∈ zs
  has : ∀ z ∈ zs.take k, isNd (N : Int) z = true → z ∈ st.2
theorem BS.start (N : Nat) (zs : List Int) : BS N zs 0 (List.replicate N (-1), []) := ⟨.start N, fun x hx => by simp at hx, fun z hz => by simp at hz⟩
section
variable {N k : Nat} {zs : List Int} {st : List Int × List Int} {z : Int}
theorem mem_take_succ {l : List Int} {k : Nat} {x : Int} (hk : k < l.length) (h : x ∈ l.take (k + 1)) : x ∈ l.take k ∨ x = l.getD k 0 := by
  rw [List.take_succ_eq_append_getElem hk] at h
  rcases List.mem_append.1 h with h | h
  · exact .inl h
  · right
    rw [List.mem_singleton.1 h]
    simp [List.getD_eq_getElem?_getD, hk]
theorem BS.skip (h : BS N zs k st) (hk : k < zs.length) (hz : zs.getD k 0 = z) (hs : isNd (N : Int) z = false ∨ 0 ≤ st.1.getD z.toNat 0) : BS N zs (k + 1) st := by
  refine ⟨h.c, h.val, fun y hy hn => ?_⟩
  rcases mem_take_succ hk hy with hy | hy
  · exact h.has y hy hn
  · rw [hz] at hy
    subst hy
    have hn2 := isNd_iff.1 hn
    rcases hs with hs | hs
    · rw [hs] at hn; cases hn
    · exact h.c.all y hn2.1 hn2.2 hs
theorem BS.put (h : BS N zs k st) (hk : k < zs.length) (hz : zs.getD k 0 = z) (hn : isNd (N : Int) z = true) (hs : st.1.getD z.toNat 0 < 0) : BS N zs (k + 1) (putD st z 0) := by
  have hn2 := isNd_iff.1 hn
  refine ⟨h.c.put hn2.1 hn2.2 hs (Int.le_refl _), fun y hy => ?_, fun y hy hn => ?_⟩
  · rcases List.mem_append.1 hy with hy | hy
    · rw [h.c.at_old hn2.1 hn2.2 hs y hy]; exact h.val y hy
    · rw [List.mem_singleton.1 hy, h.c.at_new hn2.1 hn2.2]
      exact ⟨rfl, by rw [← hz]; exact mem_getD zs k hk⟩
  · rcases mem_take_succ hk hy with hy | hy
    · exact List.mem_append_left _ (h.has y hy hn)
    · rw [hz] at hy; subst hy; simp [putD]
end
/-- The first i nodes of the queue are dealt with. -/
structure BI (N : Nat) (ps : List (Int × Int)) (zs : List Int) (i : Nat) (st : List Int × List Int) : Prop where
  c : BC N st
  path : ∀ x ∈ st.2, ∃ z ∈ zs, isNd (N : Int) z = true ∧ Wk ps z (st.1.getD x.toNat 0).toNat x
  zero : ∀ z ∈ zs, isNd (N : Int) z = true → z ∈ st.2 ∧ st.1.getD z.toNat 0 = 0
  bnd : ∀ j, j < st.2.length → st.1.getD (st.2.getD j 0).toNat 0 ≤ (j : Int)
  mono : ∀ j k, j ≤ k → k < st.2.length → st.1.getD (st.2.getD j 0).toNat 0 ≤ st.1.getD (st.2.getD k 0).toNat 0
  last : i < st.2.length → ∀ k, k < st.2.length → st.1.getD (st.2.getD k 0).toNat 0 ≤ st.1.getD (st.2.getD i 0).toNat 0 + 1
  done : ∀ j, j < i → j < st.2.length → ∀ x, (st.2.getD j 0, x) ∈ ps → x ∈ st.2 ∧ st.1.getD x.toNat 0 ≤ st.1.getD (st.2.getD j 0).toNat 0 + 1
theorem BS.bi {N : Nat} {zs : List Int} {st : List Int × List Int} (h : BS N zs zs.length st) (ps : List (Int × Int)) : BI N ps zs 0 st := by
  have hm : ∀ j, j < st.2.length → st.1.getD (st.2.getD j 0).toNat 0 = 0 := fun j hj => (h.val _ (mem_getD _ j hj)).1
  refine ⟨h.c, fun x hx => ⟨x, (h.val x hx).2, isNd_iff.2 (h.c.node x hx), by rw [(h.val x hx).1]; exact .nil⟩, fun z hz hn => ?_, fun j hj => by rw [hm j hj]; omega, fun j k hjk hk => ?_, fun hi k hk => ?_, fun j hj => by omega⟩
  · have := h.has z (by rw [List.take_length]; exact hz) hn
    exact ⟨this, (h.val z this).1⟩
  · rw [hm j (by omega), hm k hk]; exact Int.le_refl _
  · rw [hm k hk, hm 0 hi]; omega
/-- .. and the first k successors of the next one. -/
structure BJ (N : Nat) (ps : List (Int × Int)) (zs : List Int) (i : Nat) (v : Int) (k : Nat) (st : List Int × List Int) : Prop where
  b : BI N ps zs i st
  lt : i < st.2.length
  at_ : st.2.getD i 0 = v
  part : ∀ x ∈ (succL ps v).take k, x ∈ st.2 ∧ st.1.getD x.toNat 0 ≤ st.1.getD v.toNat 0 + 1
section
variable {N i k : Nat} {ps : List (Int × Int)} {zs : List Int} {st : List Int × List Int} {v x : Int}
theorem BI.begin (h : BI N ps zs i st) (hi : i < st.2.length) (hv : st.2.getD i 0 = v) : BJ N ps zs i v 0 st := ⟨h, hi, hv, fun x hx => by simp at hx⟩
theorem BJ.next (h : BJ N ps zs i v k st) (hk : (succL ps v).length ≤ k) : BI N ps zs (i + 1) st := by
  refine ⟨h.b.c, h.b.path, h.b.zero, h.b.bnd, h.b.mono, fun hlt q hq => ?_, fun j hj hj' x hx => ?_⟩
  · have a := h.b.last h.lt q hq
    have b := h.b.mono i (i + 1) (by omega) hlt
    omega
  · by_cases e : j = i
    · subst e
      rw [h.at_] at hx ⊢
      exact h.part x (by rw [List.take_of_length_le hk]; exact mem_succL.2 hx)
    · exact h.b.done j (by omega) hj' x hx
theorem BJ.skip (h : BJ N ps zs i v k st) (hk : k < (succL ps v).length) (hx : (succL ps v).getD k 0 = x) (h0 : 0 ≤ x) (h1 : x < N) (hs : 0 ≤ st.1.getD x.toNat 0) : BJ N ps zs i v (k + 1) st := by
  refine ⟨h.b, h.lt, h.at_, fun y hy => ?_⟩
  rcases mem_take_succ hk hy with hy | hy
  · exact h.part y hy
  · rw [hx] at hy
    subst hy
    have hm := h.b.c.all y h0 h1 hs
    obtain ⟨q, hq, e⟩ := List.getElem_of_mem hm
    have := h.b.last h.lt q hq
    rw [h.at_, show st.2.getD q 0 = y by simp [List.getD_eq_getElem?_getD, hq, e]] at this
    exact ⟨hm, this⟩
theorem BJ.put (h : BJ N ps zs i v k st) (hk : k < (succL ps v).length) (hx : (succL ps v).getD k 0 = x) (h0 : 0 ≤ x) (h1 : x < N) (hs : st.1.getD x.toNat 0 < 0) : BJ N ps zs i v (k + 1) (putD st x (st.1.getD v.toNat 0 + 1)) := by
  have hb := h.b
  have hc := hb.c
  have hvm : v ∈ st.2 := by rw [← h.at_]; exact mem_getD _ _ h.lt
  have hv0 := hc.seen v hvm
  have hold := hc.at_old h0 h1 hs (d := st.1.getD v.toNat 0 + 1)
  have hnew := hc.at_new h0 h1 (d := st.1.getD v.toNat 0 + 1)
  have hmem : ∀ j, j < st.2.length → st.2.getD j 0 ∈ st.2 := fun j hj => mem_getD _ j hj
  have hq : ∀ j, j < st.2.length → (putD st x (st.1.getD v.toNat 0 + 1)).2.getD j 0 = st.2.getD j 0 := fun j hj => by
    show (st.2 ++ [x]).getD j 0 = _
    rw [getD_appI, if_pos hj]
  have hql : (putD st x (st.1.getD v.toNat 0 + 1)).2.getD st.2.length 0 = x := by
    show (st.2 ++ [x]).getD _ 0 = _
    rw [getD_appI, if_neg (by omega), if_pos rfl]
  have hl : (putD st x (st.1.getD v.toNat 0 + 1)).2.length = st.2.length + 1 := by simp [putD]
  have he : (v, x) ∈ ps := mem_succL.1 (by rw [← hx]; exact mem_getD _ _ hk)
  have hsub : ∀ y ∈ st.2, y ∈ (putD st x (st.1.getD v.toNat 0 + 1)).2 := fun y hy => List.mem_append_left _ hy
  refine ⟨⟨hc.put h0 h1 hs (by omega), fun y hy => ?_, fun z hz hn => ?_, fun j hj => ?_, fun j q hjq hq2 => ?_, fun _ q hq2 => ?_, fun j hj hj' y hy => ?_⟩, by rw [hl]; have := h.lt; omega, by rw [hq i h.lt]; exact h.at_, fun y hy => ?_⟩
  · rcases List.mem_append.1 hy with hy | hy
    · rw [hold y hy]; exact hb.path y hy
    · rw [List.mem_singleton.1 hy, hnew]
      obtain ⟨z, hz, hn, hw⟩ := hb.path v hvm
      refine ⟨z, hz, hn, ?_⟩
      rw [show (st.1.getD v.toNat 0 + 1).toNat = (st.1.getD v.toNat 0).toNat + 1 by omega]
      exact .snoc hw he
  · have := hb.zero z hz hn
    exact ⟨hsub z this.1, by rw [hold z this.1]; exact this.2⟩
  · rw [hl] at hj
    by_cases e : j < st.2.length
    · rw [hq j e, hold _ (hmem j e)]; exact hb.bnd j e
    · obtain rfl : j = st.2.length := by omega
      rw [hql, hnew]
      have := hb.bnd i h.lt
      rw [h.at_] at this
      have := h.lt
      omega
  · rw [hl] at hq2
    by_cases e : q < st.2.length
    · rw [hq q e, hq j (by omega), hold _ (hmem q e), hold _ (hmem j (by omega))]
      exact hb.mono j q hjq e
    · obtain rfl : q = st.2.length := by omega
      rw [hql, hnew]
      by_cases e2 : j < st.2.length
      · rw [hq j e2, hold _ (hmem j e2)]
        have := hb.last h.lt j e2
        rwa [h.at_] at this
      · obtain rfl : j = st.2.length := by omega
        rw [hql, hnew]
        exact Int.le_refl _
  · rw [hl] at hq2
    rw [hq i h.lt, h.at_, hold v hvm]
    by_cases e : q < st.2.length
    · rw [hq q e, hold _ (hmem q e)]
      have := hb.last h.lt q e
      rwa [h.at_] at this
    · obtain rfl : q = st.2.length := by omega
      rw [hql, hnew]
      exact Int.le_refl _
  · have hjl : j < st.2.length := by have := h.lt; omega
    rw [hq j hjl] at hy
    obtain ⟨h2, h3⟩ := hb.done j hj hjl y hy
    rw [hq j hjl, hold _ (hmem j hjl), hold y h2]
    exact ⟨hsub y h2, h3⟩
  · rw [hold v hvm]
    rcases mem_take_succ hk hy with hy | hy
    · have := h.part y hy
      exact ⟨hsub y this.1, by rw [hold y this.1]; exact this.2⟩
    · rw [hx] at hy
      subst hy
      exact ⟨by simp [putD], by rw [hnew]; exact Int.le_refl _⟩
end
/-- The list of distances. -/
structure DistOf (N : Nat) (ps : List (Int × Int)) (zs : List Int) (out : List Int) : Prop where
  len : out.length = N
  bnd : ∀ x : Int, 0 ≤ x → x < N → out.getD x.toNat 0 ≤ (N : Int)
  path : ∀ x : Int, 0 ≤ x → x < N → 0 ≤ out.getD x.toNat 0 → ∃ z ∈ zs, isNd (N : Int) z = true ∧ Wk ps z (out.getD x.toNat 0).toNat x
  least : ∀ z ∈ zs, isNd (N : Int) z = true → ∀ m x, Wk ps z m x → 0 ≤ out.getD x.toNat 0 ∧ out.getD x.toNat 0 ≤ m
theorem BI.dist {N i : Nat} {ps : List (Int × Int)} {zs : List Int} {st : List Int × List Int} (h : BI N ps zs i st) (hi : st.2.length ≤ i) : DistOf N ps zs st.1 := by
  refine ⟨h.c.len, fun x h0 h1 => ?_, fun x h0 h1 hx => h.path x (h.c.all x h0 h1 hx), fun z hz hn m x hw => ?_⟩
  · rcases Int.lt_or_le (st.1.getD x.toNat 0) 0 with hx | hx
    · omega
    · obtain ⟨j, hj, e⟩ := List.getElem_of_mem (h.c.all x h0 h1 hx)
      have := h.bnd j hj
      rw [show st.2.getD j 0 = x by simp [List.getD_eq_getElem?_getD, hj, e]] at this
      have := h.c.le
      omega
  have key : x ∈ st.2 ∧ st.1.getD x.toNat 0 ≤ m := by
    induction hw with
    | nil => have := h.zero z hz hn; exact ⟨this.1, by rw [this.2]; omega⟩
    | @snoc n u b _ he ih =>
      obtain ⟨j, hj, e⟩ := List.getElem_of_mem ih.1
      have ej : st.2.getD j 0 = u := by simp [List.getD_eq_getElem?_getD, hj, e]
      have := h.done j (by omega) hj b (by rw [ej]; exact he)
      rw [ej] at this
      exact ⟨this.1, by omega⟩
  exact ⟨h.c.seen x key.1, key.2⟩

structure QM (W : World) (S : Nat) (out : List Int) (vn : Value) (now : List Int) : Prop where
  row : RowI W S S out
  own : Own W (S + 1) vn now
section
variable {W W' : World} {S : Nat} {out now : List Int} {vn : Value}
theorem QM.ne (h : QM W S out vn now) : vn.ownBlock ≠ some S := fun e => by have := (World.ownsRow.lt h.own S e).1; omega
theorem QM.lt (h : QM W S out vn now) : S < W.heap.size := (World.ownsRow.lt h.row S rfl).2
theorem QM.below {D : Nat} (h : QM W S out vn now) (hb : Below D W W') (hD : W.heap.size ≤ D) : QM W' S out vn now := ⟨ownsRow_below h.row hb hD, ownsRow_below h.own hb hD⟩
theorem QM.alloc (h : QM W S out vn now) (o : Obj) : QM (W.alloc o) S out vn now := h.below ((Below.refl _ _).alloc (Nat.le_refl _) o) (Nat.le_refl _)
theorem QM.drewN (h : QM W S out vn now) (n : Nat) : QM (W.drewN n) S out vn now := ⟨h.row, h.own⟩
theorem QM.store (h : QM W S out vn now) (x : Nat) (d : Int) : QM (W.setCell ⟨S, x, none⟩ (.int .i64 d)) S (out.set x d) vn now :=
  ⟨h.row.set x d, World.ownsRow.kept h.own (grown_setCell W S x _) (.inr h.ne)⟩
theorem QM.push {v' : Value} {now' : List Int} (h : QM W S out vn now) (ho : Own W' (S + 1) v' now') (hg : W.grownBy W' vn.ownBlock) : QM W' S out v' now' :=
  ⟨h.row.kept hg (fun e => h.ne e.symm), ho⟩
end
/-- .. W2 the world behind Lists, which laid its blocks from L1 on. -/
structure DM (W2 : World) (L1 : Nat) (W : World) (S : Nat) (out : List Int) (vn : Value) (now : List Int) : Prop where
  q : QM W S out vn now
  far : ∀ g, vn.ownBlock = some g → g < L1 ∨ W2.heap.size ≤ g
  mid : ∀ g, L1 ≤ g → g < W2.heap.size → W.heap[g]? = W2.heap[g]?
  sz : W2.heap.size ≤ W.heap.size
  hS : S < L1
section
variable {W2 W W' : World} {L1 S : Nat} {out now : List Int} {vn : Value}
theorem DM.start {W1 : World} (h : QM W1 S out vn now) (hb : Below W1.heap.size W1 W2) : DM W2 W1.heap.size W2 S out vn now :=
  ⟨h.below hb (Nat.le_refl _), fun g hg => .inl (World.ownsRow.lt h.own g hg).2, fun _ _ _ => rfl, Nat.le_refl _, h.lt⟩
theorem DM.alloc (h : DM W2 L1 W S out vn now) (o : Obj) : DM W2 L1 (W.alloc o) S out vn now :=
  ⟨h.q.alloc o, h.far, fun g h1 h2 => (Below.heap_alloc _ _ _ (by have := h.sz; omega)).trans (h.mid g h1 h2), by have := h.sz; simp; omega, h.hS⟩
theorem DM.drewN (h : DM W2 L1 W S out vn now) (n : Nat) : DM W2 L1 (W.drewN n) S out vn now := ⟨h.q.drewN n, h.far, h.mid, h.sz, h.hS⟩
theorem DM.store (h : DM W2 L1 W S out vn now) (x : Nat) (d : Int) : DM W2 L1 (W.setCell ⟨S, x, none⟩ (.int .i64 d)) S (out.set x d) vn now :=
  ⟨h.q.store x d, h.far, fun g h1 h2 => (Below.heap_setCell _ _ _ _ (by have := h.hS; show g ≠ S; omega)).trans (h.mid g h1 h2), by have := h.sz; simpa using this, h.hS⟩
theorem DM.push {v' : Value} {now' : List Int} (h : DM W2 L1 W S out vn now) (ho : Own W' (S + 1) v' now') (hg : W.grownBy W' vn.ownBlock) (hat : ∀ g, v'.ownBlock = some g → vn.ownBlock = some g ∨ W.heap.size ≤ g) : DM W2 L1 W' S out v' now' :=
  ⟨h.q.push ho hg, fun g e => by
      rcases hat g e with h1 | h1
      · exact h.far g h1
      · have := h.sz; exact .inr (by omega),
    fun g h1 h2 => (hg.block g (by have := h.sz; omega) (fun e => by have := h.far g e.symm; omega)).trans (h.mid g h1 h2), Nat.le_trans h.sz hg.size, h.hS⟩
theorem DM.cell (h : DM W2 L1 W S out vn now) {p : Addr} (h1 : L1 ≤ p.block) (h2 : p.block < W2.heap.size) : W.cell? p = W2.cell? p := World.cell?_of_block (h.mid p.block h1 h2)
end

def DistEnd (w : World) (N : Nat) (ps : List (Int × Int)) (zs : List Int) (e : Ending) (w' : World) : Prop :=
  ∃ S out, e = .returned (.slice (some ⟨S, 0, none⟩) N N) ∧ RowI w' w.heap.size S out ∧ DistOf N ps zs out ∧ Below w.heap.size w w'

set_option maxHeartbeats 8000000 in
set_option maxRecDepth 100000 in
theorem rdist_good (N : Nat) (a : Option Addr) (n c : Nat) (ps : List (Int × Int)) (hl : ps.length = n) (b : Option Addr) (m d : Nat) (zs : List Int) (hzl : zs.length = m) (w : World) (hE : Pairs w a ps) (hg : GOk (N : Int) ps) (hz : Ints w b zs) (hm : m ≤ maxLen) :
    Calls Try.prog 27 #[.agg #[.int .i64 (N : Int), .slice a n c], .slice b m d] w (DistEnd w N ps zs) := by
  obtain ⟨i0, hi, hz0, hz1, hz2⟩ := info_parts int_info
  have hlen := hg.len
  have hN := hg.hi
  rw [hl] at hlen
  unfold maxLen at hm
  obtain ⟨w0, hw0⟩ : ∃ w0, w.alloc (Obj.cells #[Value.int .i64 (N : Int), Value.slice a n c] 24) = w0 := ⟨_, rfl⟩
  have hs0 : w.heap.size < w0.heap.size := by rw [← hw0]; simp
  have q0 : w0.cell? ⟨w.heap.size, 0, none⟩ = some (.int .i64 (N : Int)) := by rw [← hw0]; simp [go_sem]
  have q1 : w0.cell? ⟨w.heap.size, 1, none⟩ = some (.slice a n c) := by rw [← hw0]; simp [go_sem]
  have HB0 : Hid (Below w.heap.size w w0) := by show Below _ _ _; rw [← hw0]; exact (Below.refl w.heap.size w).alloc (Nat.le_refl _) _
  have HE := Lib.hid hE
  have Hl := Lib.hid hl
  have Hg := Lib.hid hg
  have Hw0 := Lib.hid hw0
  have Hz := Lib.hid hz
  have Hzl := Lib.hid hzl
  clear hE hl hg hw0 hz hzl
  go_enter Try.func27, Try.ntmps27
  go_wp2_with (at_make; rw [Hw0.out]; refine wpList_make_full _ rfl _ _ 31 rfl w0.heap.size 3 i0 (.int .i64 0) 1 Try.underlying31 hi hz0 hz1 _ _ _ _ N rfl rfl rfl rfl ?_ ?_ ?_ ?_)
  · rw [hz2]; omega
  · unfold maxLen; omega
  · exact Nat.le_refl _
  intro w1 hown hg1
  have hb1 : Below w0.heap.size w0 w1 := (Below.refl w0.heap.size w0).grown hg1 (Nat.le_refl _) (fun k hk => by cases hk)
  have hrow : RowI w1 w0.heap.size w0.heap.size (minusP N 0) := by
    have e : (minusP N 0).map (Value.int .i64) = (madeCells #[Value.int .i64 0] N).toList := by rw [toList_madeCells_one]; simp [minusP]
    unfold RowI
    rw [length_minusP (Nat.zero_le _), e]
    exact hown
  have Hrow := Lib.hid hrow
  have Hb1 := Lib.hid hb1
  clear hown hg1 hrow hb1
  go_wp2
  go_loopw [7] (fun i wr => ∃ k : Nat, k ≤ N ∧ i = .int .i64 k ∧ RowI wr w0.heap.size w0.heap.size (minusP N k) ∧ Below w0.heap.size w0 wr) (fun i _ => N - (intOf i).toNat)
  case atStart => exact ⟨0, Nat.zero_le _, rfl, Hrow.out, Hb1.out⟩
  case round =>
    obtain ⟨k, hk, rfl, hrw, hbl⟩ := hrel
    have g0 := (hbl.cell (p := ⟨w.heap.size, 0, none⟩) hs0).trans q0
    by_cases hlt : k < N
    · have fR := hrw.free k
      have hr2 := hrw.set k (-1)
      rw [minusP_set hlt] at hr2
      have cR := hrw.cell (i := k) (by rw [length_minusP hk]; exact hlt)
      have Hr2 := Lib.hid hr2
      have Hbl2 := Lib.hid (hbl.setCell (p := ⟨w0.heap.size, k, none⟩) (Nat.le_refl _) (.int .i64 (-1)))
      clear hrw hbl hr2
      go_wp2
      go_roundw
      case rel => exact ⟨k + 1, by omega, by go_num, Hr2.out, Hbl2.out⟩
      case measure => simp [intOf]; omega
    · obtain rfl : N = k := by omega
      have e0 : minusP N N = List.replicate N (-1) := by simp [minusP]
      rw [e0] at hrw
      have hQ : QM wr w0.heap.size (List.replicate N (-1)) (.slice none 0 0) [] := ⟨hrw, Own.nil _ _⟩
      have HQ := Lib.hid hQ
      have Hbl := Lib.hid hbl
      clear hrw hbl hQ e0
      go_wp2
      clear g0
      go_loopw [6, 8] (fun vn i W => ∃ (k : Nat) (st : List Int × List Int), k ≤ m ∧ i = .int .i64 k ∧ BS N zs k st ∧ QM W w0.heap.size st.1 vn st.2 ∧ Below w0.heap.size w0 W) (fun _ i _ => m - (intOf i).toNat)
      case atStart => exact ⟨0, _, Nat.zero_le _, rfl, BS.start N zs, HQ.out, Hbl.out⟩
      case round =>
        clear HQ Hbl
        obtain ⟨k, st, hk, rfl, hB, hQ, hbl⟩ := hrel
        have g0 := (hbl.cell (p := ⟨w.heap.size, 0, none⟩) hs0).trans q0
        have hcl := hB.c.le
        have HB := Lib.hid hB
        have HQ := Lib.hid hQ
        have Hbl := Lib.hid hbl
        have hQlt := hQ.lt
        by_cases hlt : k < m
        · obtain ⟨fb, fo, rfl, hfc⟩ := Hz.out (by rw [Hzl.out]; omega)
          have cF := hfc k (by rw [Hzl.out]; exact hlt)
          have hfb := World.block_lt_of_cell? _ _ cF
          simp only at hfb
          replace cF := ((HB0.out.trans (hbl.mono (Nat.le_of_lt hs0))).cell hfb).trans cF
          obtain ⟨z, hzk⟩ : ∃ z, zs.getD k 0 = z := ⟨_, rfl⟩
          rw [hzk] at cF
          have hkz : k < zs.length := by rw [Hzl.out]; exact hlt
          by_cases hnd : isNd (N : Int) z = true
          · obtain ⟨z0, z1⟩ := isNd_iff.1 hnd
            obtain ⟨x, rfl⟩ : ∃ x : Nat, z = (x : Int) := ⟨z.toNat, by omega⟩
            have hxN : x < N := by omega
            have hxl : x < st.1.length := by rw [hB.c.len]; exact hxN
            have cR := hQ.row.cell hxl
            have fR := hQ.row.free x
            have d0 : decide ((0 : Int) ≤ (x : Int)) = true := decide_eq_true z0
            have d1 : decide ((x : Int) < (N : Int)) = true := decide_eq_true z1
            obtain ⟨o, ho⟩ : ∃ o, st.1.getD x 0 = o := ⟨_, rfl⟩
            rw [ho] at cR
            by_cases hneg : o < 0
            · have d2 : decide (o < 0) = true := decide_eq_true hneg
              have hput := hB.put hkz hzk hnd (by rw [Int.toNat_natCast, ho]; exact hneg)
              have hst : putD st (x : Int) 0 = (st.1.set x 0, st.2 ++ [(x : Int)]) := by unfold putD; rw [Int.toNat_natCast]
              rw [hst] at hput
              have Hput := Lib.hid hput
              have hX : ∀ D, QM ((wr.drewN D).setCell ⟨w0.heap.size, x, none⟩ (.int .i64 0)) w0.heap.size (st.1.set x 0) u6 st.2 := fun D => (hQ.drewN D).store x 0
              have hbX : ∀ D, Below w0.heap.size w0 ((wr.drewN D).setCell ⟨w0.heap.size, x, none⟩ (.int .i64 0)) := fun D => (hbl.trans (Drawn.below ⟨D, rfl⟩ _)).setCell (p := ⟨w0.heap.size, x, none⟩) (Nat.le_refl _) _
              have cF1 : ∀ D u, ((wr.drewN D).setCell ⟨w0.heap.size, x, none⟩ u).cell? ⟨fb, fo + k, none⟩ = some (.int .i64 (x : Int)) := fun D u => cell_kept' (grown_setCell _ _ _ _) cF (.inr (by simp; omega))
              have HX := Lib.hid hX
              have HbX := Lib.hid hbX
              clear hB hQ hbl hput hst hX hbX ho hnd hzk hfc
              go_wp2
              go_quiet (fail)
              go_wp2_with (at_builtin; refine wpList_append_lie rfl _ _ rfl (w0.heap.size + 1) _ st.2 _ rfl rfl ((HX.out _).alloc _).own wr.heap.size (x : Int) rfl (cell_at _ _ _ _ (by simp)) (by omega) (by simp; omega) ?_)
              intro g5 cap5 w5 ho5 hg5 hat5
              have HM5 := Lib.hid (((HX.out _).alloc _).push ho5 hg5)
              have Hb5 := Lib.hid (((HbX.out _).alloc (by simp; omega) _).grown hg5 (by simp; omega) (fun r hr => Nat.le_of_succ_le (World.ownsRow.lt HQ.out.own r hr).1))
              clear ho5 hg5 hat5
              go_wp2
              go_roundw
              case rel => exact ⟨k + 1, (st.1.set x 0, st.2 ++ [(x : Int)]), by omega, by go_num, Hput.out, HM5.out, Hb5.out⟩
              case measure => simp [intOf]; omega
            · have d2 : decide (o < 0) = false := decide_eq_false hneg
              have Hnx := Lib.hid (hB.skip hkz hzk (.inr (by rw [Int.toNat_natCast, ho]; omega)))
              clear hB hQ hbl ho hnd hzk hfc
              go_wp2
              go_quiet (fail)
              go_wp2
              go_roundw
              case rel => exact ⟨k + 1, st, by omega, by go_num, Hnx.out, HQ.out.drewN _, Hbl.out.trans (Drawn.below ⟨_, rfl⟩ _)⟩
              case measure => simp [intOf]; omega
          · have hnd' : isNd (N : Int) z = false := by simpa using hnd
            have Hnx := Lib.hid (hB.skip hkz hzk (.inl hnd'))
            by_cases z0 : 0 ≤ z
            · have z1 : ¬ z < (N : Int) := fun h => hnd (isNd_iff.2 ⟨z0, h⟩)
              have d0 : decide ((0 : Int) ≤ z) = true := decide_eq_true z0
              have d1 : decide (z < (N : Int)) = false := decide_eq_false z1
              clear hB hQ hbl hnd hnd' hzk hfc
              go_wp2
              go_quiet (fail)
              go_wp2
              go_roundw
              case rel => exact ⟨k + 1, st, by omega, by go_num, Hnx.out, HQ.out.drewN _, Hbl.out.trans (Drawn.below ⟨_, rfl⟩ _)⟩
              case measure => simp [intOf]; omega
            · have d0 : decide ((0 : Int) ≤ z) = false := decide_eq_false z0
              clear hB hQ hbl hnd hnd' hzk hfc
              go_wp2
              go_quiet (fail)
              go_wp2
              go_roundw
              case rel => exact ⟨k + 1, st, by omega, by go_num, Hnx.out, HQ.out.drewN _, Hbl.out.trans (Drawn.below ⟨_, rfl⟩ _)⟩
              case measure => simp [intOf]; omega
        · obtain rfl : m = k := by omega
          have hbi := (show BS N zs zs.length st by rw [Hzl.out]; exact hB).bi ps
          have Hbi := Lib.hid hbi
          have hBw := HB0.out.trans (hbl.mono (Nat.le_of_lt hs0))
          have g1 := (hbl.cell (p := ⟨w.heap.size, 1, none⟩) hs0).trans q1
          clear hB hQ hbl hbi
          go_wp2_with fail
          refine (rlists_pairs N a n c ps Hl.out _ (HE.out.below hBw (Nat.le_refl _)) Hg.out).mono ?_
          rintro e w4 ⟨G, vs0, rfl, hvs, hrw, hb4⟩
          have hD0 : DM w4 wr.heap.size w4 w0.heap.size st.1 u6 st.2 := DM.start HQ.out hb4
          have HD0 := Lib.hid hD0
          have Hb4 := Lib.hid (Hbl.out.trans (hb4.mono (Nat.le_of_lt hQlt)))
          have Hrw := Lib.hid hrw
          have Hvs := Lib.hid hvs
          obtain ⟨L1, hL1⟩ : ∃ L1, wr.heap.size = L1 := ⟨_, rfl⟩
          rw [hL1] at HD0 Hrw
          clear hD0 hrw hvs hb4 g1 hBw
          go_wp2
          clear g0
          go_loopw [6, 10] (fun vn i W => ∃ (k : Nat) (st : List Int × List Int), k ≤ N ∧ i = .int .i64 k ∧ BI N ps zs k st ∧ DM w4 L1 W w0.heap.size st.1 vn st.2 ∧ Below w0.heap.size w0 W) (fun _ i _ => N + 1 - (intOf i).toNat)
          case atStart => exact ⟨0, st, Nat.zero_le _, rfl, Hbi.out, HD0.out, Hb4.out⟩
          case round =>
            clear HQ Hbl Hbi HB HD0 Hb4
            obtain ⟨k, st, hk, rfl, hB, hD, hbl⟩ := hrel
            have hcl := hB.c.le
            obtain ⟨q, hq⟩ : ∃ q, st.2.length = q := ⟨_, rfl⟩
            rw [hq] at hcl
            obtain ⟨gs, cs, hvn⟩ := hD.q.own.shape
            rw [hq] at hvn
            obtain ⟨hvn, _⟩ := hvn
            subst hvn
            have Hq := Lib.hid hq
            have HB := Lib.hid hB
            have HD := Lib.hid hD
            have Hbl := Lib.hid hbl
            by_cases hlt : k < q
            · obtain ⟨gs', cs', hvn2, _⟩ := own_shape hD.q.own hq (by omega)
              simp only [Value.slice.injEq] at hvn2
              obtain ⟨rfl, _, rfl⟩ := hvn2
              have cN := own_cell hD.q.own hq (i := k) (by omega)
              obtain ⟨v, hv⟩ : ∃ v, st.2.getD k 0 = v := ⟨_, rfl⟩
              have hvn := hB.c.node v (by rw [← hv]; exact mem_getD _ k (by omega))
              obtain ⟨v, rfl⟩ : ∃ x : Nat, v = (x : Int) := ⟨v.toNat, by omega⟩
              have hvN : v < N := by omega
              rw [hv] at cN
              have hvl : v < (listsL N ps).length := by rw [length_listsL]; exact hvN
              obtain ⟨au, cu, cG, hvv, hzr, _⟩ := Hrw.out.at_ hvl
              have hrlt := fun r h => (World.ownsRow.lt (Hrw.out.row v hvl) r h)
              rw [hvv] at hrlt
              rw [getD_listsL hvN] at cG hzr hrlt
              have hGlt := World.ownsRow.lt Hrw.out.own G rfl
              have hll := succL_take_len ps ps.length (v : Int)
              rw [List.take_length, Hl.out] at hll
              have hnode := fun x hx => succL_node Hg.out x (v := (v : Int)) hx
              obtain ⟨L, hL⟩ : ∃ L, succL ps (v : Int) = L := ⟨_, rfl⟩
              obtain ⟨l, hlL⟩ : ∃ l, L.length = l := ⟨_, rfl⟩
              rw [hL, hlL] at cG hrlt hll
              rw [hL] at hzr hnode
              have hbj := hB.begin (by omega) hv
              have cGw := (hD.cell (p := ⟨G, v, none⟩) hGlt.1 hGlt.2).trans cG
              have Hbj := Lib.hid hbj
              have HL := Lib.hid hL
              have HlL := Lib.hid hlL
              have Hzr := Lib.hid hzr
              have Hnode := Lib.hid hnode
              have Hrlt := Lib.hid hrlt
              have hv1 : (v : Int) < (N : Int) := by omega
              clear hB hD hbl hbj hq hv hvn hvl hvv hzr hrlt hnode hL hlL
              go_wp2
              clear cN cGw
              go_loopw [6, 12] (fun vn i W => ∃ (j : Nat) (st : List Int × List Int), j ≤ l ∧ i = .int .i64 j ∧ BJ N ps zs k (v : Int) j st ∧ DM w4 L1 W w0.heap.size st.1 vn st.2 ∧ Below w0.heap.size w0 W) (fun _ i _ => l - (intOf i).toNat)
              case atStart => exact ⟨0, st, Nat.zero_le _, rfl, Hbj.out, by rw [← Hq.out] at *; exact HD.out, Hbl.out⟩
              case round =>
                clear HB HD Hbl Hbj Hq
                obtain ⟨j, st, hj, rfl, hB, hD, hbl⟩ := hrel
                have hcl := hB.b.c.le
                have cGw := (hD.cell (p := ⟨G, v, none⟩) hGlt.1 hGlt.2).trans cG
                have HB := Lib.hid hB
                have HD := Lib.hid hD
                have Hbl := Lib.hid hbl
                have hDsz := hD.sz
                have hSlt := hD.q.lt
                by_cases hjl : j < l
                · obtain ⟨rb, ro, rfl, hrc⟩ := Hzr.out (by rw [HlL.out]; omega)
                  have cW := hrc j (by rw [HlL.out]; exact hjl)
                  have hrb := Hrlt.out rb rfl
                  obtain ⟨x, hx⟩ : ∃ x, L.getD j 0 = x := ⟨_, rfl⟩
                  rw [hx] at cW
                  have hxn := Hnode.out x (by rw [← hx]; exact mem_getD L j (by rw [HlL.out]; exact hjl))
                  obtain ⟨x, rfl⟩ : ∃ y : Nat, x = (y : Int) := ⟨x.toNat, by omega⟩
                  have hxN : x < N := by omega
                  replace cW := (hD.cell (p := ⟨rb, ro + j, none⟩) hrb.1 hrb.2).trans cW
                  have hxl : x < st.1.length := by rw [hB.b.c.len]; exact hxN
                  have hvl : v < st.1.length := by rw [hB.b.c.len]; exact hvN
                  have cR := hD.q.row.cell hxl
                  have fR := hD.q.row.free x
                  have cV := hD.q.row.cell hvl
                  obtain ⟨o, ho⟩ : ∃ o, st.1.getD x 0 = o := ⟨_, rfl⟩
                  rw [ho] at cR
                  have hx1 : (x : Int) < (N : Int) := by omega
                  have hjS : j < (succL ps (v : Int)).length := by rw [HL.out, HlL.out]; exact hjl
                  have hxS : (succL ps (v : Int)).getD j 0 = (x : Int) := by rw [HL.out]; exact hx
                  by_cases hneg : o < 0
                  · obtain ⟨e, he⟩ : ∃ e, st.1.getD v 0 = e := ⟨_, rfl⟩
                    have he0 := hB.b.c.seen (v : Int) (by rw [← hB.at_]; exact mem_getD _ _ hB.lt)
                    have he1 := hB.b.bnd k hB.lt
                    rw [hB.at_, Int.toNat_natCast, he] at he1
                    rw [Int.toNat_natCast, he] at he0
                    obtain ⟨e, rfl⟩ : ∃ y : Nat, e = (y : Int) := ⟨e.toNat, by omega⟩
                    have heN : e ≤ 8192 := by omega
                    have hput := hB.put hjS hxS hxn.1 hxn.2 (by rw [Int.toNat_natCast, ho]; exact hneg)
                    have hst : putD st (x : Int) (st.1.getD (v : Int).toNat 0 + 1) = (st.1.set x ((e : Int) + 1), st.2 ++ [(x : Int)]) := by unfold putD; rw [Int.toNat_natCast, Int.toNat_natCast, he]
                    rw [hst] at hput
                    rw [he] at cV
                    have Hput := Lib.hid hput
                    have hX := hD.store x ((e : Int) + 1)
                    have hbX := hbl.setCell (p := ⟨w0.heap.size, x, none⟩) (Nat.le_refl _) (.int .i64 ((e : Int) + 1))
                    have HX := Lib.hid hX
                    have HbX := Lib.hid hbX
                    clear hB hD hbl hput hst hX hbX ho hx hrc hxn hjS hxS he he0 he1
                    go_wp2_with (at_builtin; refine wpList_append_lie rfl _ _ rfl (w0.heap.size + 1) _ st.2 _ rfl rfl (HX.out.alloc _).q.own wr.heap.size (x : Int) rfl (cell_at _ _ _ _ (by simp)) (by omega) (by simp; omega) ?_)
                    intro g5 cap5 w5 ho5 hg5 hat5
                    have HM5 := Lib.hid ((HX.out.alloc _).push ho5 hg5 (fun g h => (hat5 g h).imp id (fun e => by simpa using e)))
                    have Hb5 := Lib.hid ((HbX.out.alloc (by simp; omega) _).grown hg5 (by simp; omega) (fun r hr => Nat.le_of_succ_le (World.ownsRow.lt HD.out.q.own r hr).1))
                    clear ho5 hg5 hat5
                    go_wp2
                    go_roundw
                    case rel => exact ⟨j + 1, (st.1.set x ((e : Int) + 1), st.2 ++ [(x : Int)]), by omega, by go_num, Hput.out, HM5.out, Hb5.out⟩
                    case measure => simp [intOf]; omega
                  · have Hnx := Lib.hid (hB.skip hjS hxS hxn.1 hxn.2 (by rw [Int.toNat_natCast, ho]; omega))
                    clear hB hD hbl ho hx hrc hxn hjS hxS cV
                    go_wp2
                    go_roundw
                    case rel => exact ⟨j + 1, st, by omega, by go_num, Hnx.out, HD.out, Hbl.out⟩
                    case measure => simp [intOf]; omega
                · obtain rfl : l = j := by omega
                  have hlt2 := hB.lt
                  have Hnx := Lib.hid (hB.next (by rw [HL.out, HlL.out]; exact Nat.le_refl _))
                  clear hB hD hbl
                  go_wp2
                  go_roundw
                  case rel => exact ⟨k + 1, st, by omega, by go_num, Hnx.out, HD.out, Hbl.out⟩
                  case measure => simp [intOf]; omega
            · have hdist := hB.dist (by omega)
              have Hdist := Lib.hid hdist
              have hrN : Hid (RowI wr w.heap.size w0.heap.size st.1) := ownsRow_mono hD.q.row (Nat.le_of_lt hs0)
              clear hB hD hbl hdist
              go_wp2
              go_ret
              exact ⟨w0.heap.size, st.1, rfl, hrN.out, Hdist.out, HB0.out.trans (Hbl.out.mono (Nat.le_of_lt hs0))⟩
end Go.Proofs.Ytopbbihbpalnlaa.D
