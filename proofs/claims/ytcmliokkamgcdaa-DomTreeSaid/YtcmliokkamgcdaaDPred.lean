/-
  The predecessors of all nodes of a valid graph (gen_pred.py).
-/
import Derived.Test.YtcmliokkamgcdaaSRows
import Derived.Test.YtcmliokkamgcdaaGStops
import Derived.LoopTactic
import Derived.RegionTactic
namespace Go.Proofs.Ytcmliokkamgcdaa
open Go.RowKit
set_option linter.unusedVariables false

/-- The successors of each node along the first k edges. -/
def listsTo (N : Nat) (ps : List (Int × Int)) (k : Nat) : List (List Int) := (List.range N).map fun i => succL (ps.take k) (i : Nat)
def listsL (N : Nat) (ps : List (Int × Int)) : List (List Int) := (List.range N).map fun i => succL ps (i : Nat)
theorem length_listsTo (N : Nat) (ps : List (Int × Int)) (k : Nat) : (listsTo N ps k).length = N := by simp [listsTo]
theorem length_listsL (N : Nat) (ps : List (Int × Int)) : (listsL N ps).length = N := by simp [listsL]
theorem getD_listsTo {N : Nat} {ps : List (Int × Int)} {k i : Nat} (hi : i < N) : (listsTo N ps k).getD i [] = succL (ps.take k) (i : Int) := by
  simp [listsTo, List.getD_eq_getElem?_getD, hi]
theorem getD_listsL {N : Nat} {ps : List (Int × Int)} {i : Nat} (hi : i < N) : (listsL N ps).getD i [] = succL ps (i : Int) := by
  simp [listsL, List.getD_eq_getElem?_getD, hi]
theorem listsTo_all (N : Nat) (ps : List (Int × Int)) : listsTo N ps ps.length = listsL N ps := by unfold listsTo listsL; rw [List.take_length]
theorem listsTo_zero (N : Nat) (ps : List (Int × Int)) : listsTo N ps 0 = List.replicate N [] := by
  apply List.ext_getElem
  · simp [listsTo]
  · intro i h1 h2; simp [listsTo, succL]
theorem succL_snoc (ps : List (Int × Int)) (e : Int × Int) (v : Int) : succL (ps ++ [e]) v = succL ps v ++ (if e.1 = v then [e.2] else []) := by
  rw [succL_append]
  congr 1
  by_cases h : e.1 = v <;> simp [succL, h]
theorem listsTo_succ {N : Nat} {ps : List (Int × Int)} {k : Nat} {x : Nat} {y : Int} (hk : k < ps.length) (he : ps.getD k (0, 0) = ((x : Int), y)) (hx : x < N) : listsTo N ps (k + 1) = (listsTo N ps k).set x ((listsTo N ps k).getD x [] ++ [y]) := by
  have hk' : ps[k] = ((x : Int), y) := by simpa [List.getD_eq_getElem?_getD, hk] using he
  apply List.ext_getElem
  · simp [listsTo]
  · intro i h1 h2
    rw [length_listsTo] at h1
    rw [List.getElem_set]
    have hL : (listsTo N ps (k + 1))[i]'(by rw [length_listsTo]; exact h1) = succL (ps.take (k + 1)) (i : Int) := by simp [listsTo]
    have hR : (listsTo N ps k)[i]'(by rw [length_listsTo]; exact h1) = succL (ps.take k) (i : Int) := by simp [listsTo]
    rw [hL, hR, List.take_succ_eq_append_getElem hk, hk', succL_snoc, getD_listsTo hx]
    by_cases e : x = i
    · subst e; simp
    · rw [if_neg e, if_neg (show ¬ ((x : Int), y).1 = (i : Int) by show ¬ (x : Int) = (i : Int); omega)]; simp
theorem succL_take_len (ps : List (Int × Int)) (k : Nat) (v : Int) : (succL (ps.take k) v).length ≤ ps.length := by
  unfold succL
  rw [List.length_map]
  exact Nat.le_trans (List.length_filter_le _ _) (by rw [List.length_take]; omega)

theorem rws_start {w : World} {base G N : Nat} (h : w.ownsRow base 25 1 (.slice (some ⟨G, 0, none⟩) N N) N (List.replicate N nl)) : Rws w base (.slice (some ⟨G, 0, none⟩) (List.replicate N nl).length N) (List.replicate N nl) (List.replicate N []) := by
  have hl : (List.replicate N nl).length = N := by simp
  have hr : ∀ i, i < N → (List.replicate N nl).getD i nl = nl := fun i hi => by simp [List.getD_eq_getElem?_getD, hi]
  refine ⟨?_, by simp, fun i hi => ?_, fun i j _ hi _ => ?_⟩
  · unfold OwnS; rw [hl]; exact h
  · rw [List.length_replicate] at hi
    rw [hr i hi, show (List.replicate N ([] : List Int)).getD i [] = [] by simp [List.getD_eq_getElem?_getD, hi]]
    exact Own.nil _ _
  · rw [List.length_replicate] at hi
    rw [hr i hi]; exact .inl rfl

/-- The edges turned round. -/
def prev (ps : List (Int × Int)) : List (Int × Int) := ps.map fun e => (e.2, e.1)
theorem length_prev (ps : List (Int × Int)) : (prev ps).length = ps.length := by simp [prev]
theorem getD_prev {ps : List (Int × Int)} {k : Nat} {x y : Int} (hk : k < ps.length) (h : ps.getD k (0, 0) = (y, x)) : (prev ps).getD k (0, 0) = (x, y) := by
  have h' : ps[k] = (y, x) := by simpa [List.getD_eq_getElem?_getD, hk] using h
  simp [prev, List.getD_eq_getElem?_getD, hk, h']

def PredsEnd (w : World) (N : Nat) (ps : List (Int × Int)) (e : Ending) (w' : World) : Prop :=
  ∃ G vs, e = .returned (.slice (some ⟨G, 0, none⟩) N N) ∧ vs.length = N ∧ Rws w' w.heap.size (.slice (some ⟨G, 0, none⟩) vs.length N) vs (listsL N (prev ps)) ∧ Below w.heap.size w w'

set_option maxHeartbeats 4000000 in
set_option maxRecDepth 100000 in
theorem preds_pairs (N : Nat) (a : Option Addr) (n c : Nat) (ps : List (Int × Int)) (hl : ps.length = n) (w : World) (hE : Pairs w a ps) (hg : GOk (N : Int) ps) :
    Calls Try.prog 36 #[.agg #[.int .i64 (N : Int), .slice a n c]] w (PredsEnd w N ps) := by
  obtain ⟨e0, he1, he2, he3, he4⟩ := info_parts ss_info
  have hlen := hg.len
  have hN := hg.hi
  rw [hl] at hlen
  obtain ⟨w1, hw1⟩ : ∃ w1, w.alloc (Obj.cells #[Value.int .i64 (N : Int), Value.slice a n c] 24) = w1 := ⟨_, rfl⟩
  have hz1 : w.heap.size < w1.heap.size := by rw [← hw1]; simp
  have g0 : w1.cell? ⟨w.heap.size, 0, none⟩ = some (.int .i64 (N : Int)) := by rw [← hw1]; simp [go_sem]
  have g1 : w1.cell? ⟨w.heap.size, 1, none⟩ = some (.slice a n c) := by rw [← hw1]; simp [go_sem]
  have HB1 : Hid (Below w.heap.size w w1) := by show Below _ _ _; rw [← hw1]; exact (Below.refl w.heap.size w).alloc (Nat.le_refl _) _
  obtain ⟨qs, hqs⟩ : ∃ qs, prev ps = qs := ⟨_, rfl⟩
  have hql : qs.length = n := by rw [← hqs, length_prev]; exact hl
  have Hql := Lib.hid hql
  have Hqs := Lib.hid hqs
  have HE := Lib.hid hE
  have Hl := Lib.hid hl
  have Hg := Lib.hid hg
  have Hw1 := Lib.hid hw1
  have Hfin : Hid (listsTo N qs n = listsL N (prev ps)) := by show _ = _; rw [hqs]; exact hql ▸ listsTo_all N qs
  clear hE hl hg hw1 hql hqs
  go_enter Try.func36, Try.ntmps36
  go_wp2_with (at_make; rw [Hw1.out]; refine wpList_make_full _ rfl _ _ 35 rfl w1.heap.size 25 e0 (.slice none 0 0) 1 Try.underlying35 he1 he2 he3 _ _ _ _ N rfl rfl rfl rfl ?_ ?_ ?_ ?_)
  · rw [he4]; omega
  · unfold maxLen; omega
  · exact Nat.le_refl _
  intro w2 hown hg2
  have hrep : (madeCells #[Value.slice none 0 0] N).toList = List.replicate N nl := by rw [toList_madeCells_one]; rfl
  rw [hrep] at hown
  have hst := rws_start hown
  rw [← listsTo_zero N qs] at hst
  have hb2 : Below w1.heap.size w1 w2 := (Below.refl _ _).grown hg2 (Nat.le_refl _) (fun k hk => by cases hk)
  have g0' := (hb2.cell (p := ⟨w.heap.size, 0, none⟩) hz1).trans g0
  have g1' := (hb2.cell (p := ⟨w.heap.size, 1, none⟩) hz1).trans g1
  have Hst := Lib.hid hst
  have Hb2 := Lib.hid hb2
  clear hown hg2 hrep hst hb2
  go_wp2
  go_loopw [12] (fun i wr => ∃ k : Nat, k ≤ n ∧ i = .int .i64 k ∧ (∃ vs, vs.length = N ∧ Rws wr w1.heap.size (.slice (some ⟨w1.heap.size, 0, none⟩) vs.length N) vs (listsTo N qs k)) ∧ Below w1.heap.size w1 wr) (fun i _ => n - (intOf i).toNat)
  case atStart => exact ⟨0, Nat.zero_le _, rfl, ⟨_, by simp, Hst.out⟩, Hb2.out⟩
  case round =>
    obtain ⟨k, hk, rfl, ⟨vs, hvs, hrw⟩, hb⟩ := hrel
    have Hrw := Lib.hid hrw
    have Hb := Lib.hid hb
    have Hvs := Lib.hid hvs
    have hsz := hb.size
    have k0 := (hb.cell (p := ⟨w.heap.size, 0, none⟩) hz1).trans g0
    have k1 := (hb.cell (p := ⟨w.heap.size, 1, none⟩) hz1).trans g1
    clear hrw hb hvs
    by_cases hlt : k < n
    · obtain ⟨b, off, rfl, hcell⟩ := (HE.out.below (HB1.out.trans (Hb.out.mono (Nat.le_of_lt hz1))) (Nat.le_refl _)) (by rw [Hl.out]; omega)
      obtain ⟨hcx, hcy⟩ := hcell k (by rw [Hl.out]; exact hlt)
      have hnd := (Hg.out.node k (by rw [Hl.out]; exact hlt)).2
      obtain ⟨⟨x, y⟩, he⟩ : ∃ e : Int × Int, ps.getD k (0, 0) = (e.2, e.1) := ⟨((ps.getD k (0, 0)).2, (ps.getD k (0, 0)).1), rfl⟩
      rw [he] at hcx hcy hnd
      obtain ⟨x, rfl⟩ : ∃ m : Nat, x = (m : Int) := ⟨x.toNat, by have := hnd.1; omega⟩
      have hxN : x < N := by have := hnd.2; show x < N; simp at this; omega
      have hxl : x < (listsTo N qs k).length := by rw [length_listsTo]; exact hxN
      have hstep := listsTo_succ (by rw [Hql.out]; exact hlt) (by rw [← Hqs.out]; exact getD_prev (by rw [Hl.out]; exact hlt) he) hxN
      have hrl : ((listsTo N qs k).getD x []).length ≤ 100000 := by
        rw [getD_listsTo hxN]
        have := succL_take_len qs k (x : Int)
        rw [Hql.out] at this; omega
      obtain ⟨w5, hw5⟩ : ∃ w5, wr.alloc (.cells #[.int .i64 y, .int .i64 (x : Int)] 52) = w5 := ⟨_, rfl⟩
      have hb5 : Below wr.heap.size wr w5 := by rw [← hw5]; exact (Below.refl _ _).alloc (Nat.le_refl _) _
      have hs5 : wr.heap.size < w5.heap.size := by rw [← hw5]; simp
      have e0' : w5.cell? ⟨wr.heap.size, 0, none⟩ = some (.int .i64 y) := by rw [← hw5]; simp [go_sem]
      have e1' : w5.cell? ⟨wr.heap.size, 1, none⟩ = some (.int .i64 (x : Int)) := by rw [← hw5]; simp [go_sem]
      have hrw5 := Hrw.out.below hb5 (Nat.le_refl _)
      obtain ⟨au, cu, cG, hv, _, fG⟩ := hrw5.at_ hxl
      obtain ⟨L, hL⟩ : ∃ L, (listsTo N qs k).getD x [] = L := ⟨_, rfl⟩
      rw [hL] at cG hv hrl hstep
      have hown := hrw5.row x hxl
      rw [hv, hL] at hown
      have hba : ∀ o, Below w5.heap.size w5 (w5.alloc o) := fun o => (Below.refl _ _).alloc (Nat.le_refl _) _
      have cGa : ∀ o, (w5.alloc o).cell? ⟨w1.heap.size, x, none⟩ = some (.slice au L.length cu) := fun o => ((hba o).cell (World.block_lt_of_cell? _ _ cG)).trans cG
      have e0a : ∀ o, (w5.alloc o).cell? ⟨wr.heap.size, 0, none⟩ = some (.int .i64 y) := fun o => ((hba o).cell (World.block_lt_of_cell? _ _ e0')).trans e0'
      have e1a : ∀ o, (w5.alloc o).cell? ⟨wr.heap.size, 1, none⟩ = some (.int .i64 (x : Int)) := fun o => ((hba o).cell (World.block_lt_of_cell? _ _ e1')).trans e1'
      have hfin : ∀ (g cap : Nat) (w6 : World), Own w6 w1.heap.size (.slice (some ⟨g, 0, none⟩) (L.length + 1) cap) (L ++ [y]) → ((w5.alloc (.cells #[.int .i64 y] 3)).drew).grownBy w6 (Value.slice au L.length cu).ownBlock → ((Value.slice au L.length cu).ownBlock = some g ∨ g = ((w5.alloc (.cells #[.int .i64 y] 3)).drew).heap.size) →
          (w6.cell? ⟨w1.heap.size, x, none⟩ = some (.slice au L.length cu) ∧ w6.frozen? ⟨w1.heap.size, x, none⟩ = false ∧ w6.cell? ⟨wr.heap.size, 0, none⟩ = some (.int .i64 y) ∧ w6.cell? ⟨wr.heap.size, 1, none⟩ = some (.int .i64 (x : Int))) ∧
            (∃ vs', vs'.length = N ∧ Rws (w6.setCell ⟨w1.heap.size, x, none⟩ (.slice (some ⟨g, 0, none⟩) (L.length + 1) cap)) w1.heap.size (.slice (some ⟨w1.heap.size, 0, none⟩) vs'.length N) vs' (listsTo N qs (k + 1))) ∧
            Below w1.heap.size w1 (w6.setCell ⟨w1.heap.size, x, none⟩ (.slice (some ⟨g, 0, none⟩) (L.length + 1) cap)) := fun g cap w6 ho hg hat => by
        have hX : Below w5.heap.size w5 ((w5.alloc (.cells #[.int .i64 y] 3)).drew) := (hba _).drew
        have hrX := hrw5.below hX (Nat.le_refl _)
        have hgX : ((w5.alloc (.cells #[.int .i64 y] 3)).drew).grownBy w6 (vs.getD x nl).ownBlock := by rw [hv]; exact hg
        have hS1 := World.ownsRow.kept hrX.own hgX (own_ne hrX.own (hrX.row x hxl))
        have hat' : (Value.slice (some ⟨g, 0, none⟩) (L.length + 1) cap).ownBlock = (vs.getD x nl).ownBlock ∨ ∃ k', (Value.slice (some ⟨g, 0, none⟩) (L.length + 1) cap).ownBlock = some k' ∧ ((w5.alloc (.cells #[.int .i64 y] 3)).drew).heap.size ≤ k' := by
          rw [hv]
          rcases hat with h | h
          · exact .inl h.symm
          · exact .inr ⟨g, rfl, Nat.le_of_eq h.symm⟩
        have ho' : Own w6 w1.heap.size (.slice (some ⟨g, 0, none⟩) (L.length + 1) cap) ((listsTo N qs k).getD x [] ++ [y]) := by rw [hL]; exact ho
        have hgr := Rws.grow hrX hxl ho' hgX hat'
        rw [hL, ← hstep] at hgr
        have hvx : x < vs.length := by rw [Hvs.out]; exact hxN
        have hfar : (vs.getD x nl).ownBlock = none ∨ (vs.getD x nl).ownBlock ≠ some wr.heap.size := by
          cases hu : (vs.getD x nl).ownBlock with
          | none => exact .inl rfl
          | some r => exact .inr fun e => by have := (World.ownsRow.lt (Hrw.out.row x hxl) r hu).2; cases e; omega
        refine ⟨⟨?_, World.ownsRow.frozenAt hS1 x, cell_kept' hgX (e0a _) hfar, cell_kept' hgX (e1a _) hfar⟩, ⟨vs.set x (.slice (some ⟨g, 0, none⟩) (L.length + 1) cap), by rw [List.length_set]; exact Hvs.out, ?_⟩, ?_⟩
        · rw [World.ownsRow.cellAt hS1 x (by omega), ← hv]
          simp [List.getD_eq_getElem?_getD, hvx]
        · rw [List.length_set]; exact hgr
        · exact ((((Hb.out.trans (hb5.mono hsz)).trans (hX.mono (by omega))).grown hgX (by simp; omega) (fun r hr => (World.ownsRow.lt (hrX.row x hxl) r hr).1))).setCell (p := ⟨w1.heap.size, x, none⟩) (Nat.le_refl _) _
      have Hfin2 := Lib.hid hfin
      have Hown := Lib.hid hown
      have Hw5 := Lib.hid hw5
      have hsw : w1.heap.size ≤ w5.heap.size := by omega
      clear hcell he hstep hrw5 hown hfin hb5 hw5 hv hL hnd hba hxl
      go_wp2
      rw [Hw5.out]
      go_region_law (refine step_append_at rfl _ _ rfl w1.heap.size _ L rfl (World.ownsRow.alloc Hown.out _) w5.heap.size y rfl (by simp [go_sem]) hrl (by simp; omega) ?_; intro g4 cap4 w4 ho4 hg4 hat4; obtain ⟨⟨c5, f5, e5, e6⟩, hdone⟩ := Hfin2.out g4 cap4 w4 ho4 hg4 hat4; have Hdone := Lib.hid hdone; clear ho4 hg4 hat4 hdone)
      all_goals
        go_wp2
        go_roundw
        case rel => exact ⟨k + 1, by omega, by go_num, Hdone.out.1, Hdone.out.2⟩
        case measure => simp [intOf]; omega
    · obtain rfl : n = k := by omega
      have HBf := Lib.hid (HB1.out.trans (Hb.out.mono (Nat.le_of_lt hz1)))
      go_wp2
      go_ret
      exact ⟨_, vs, rfl, Hvs.out, by rw [← Hfin.out]; exact Hrw.out.mono (Nat.le_of_lt hz1), HBf.out⟩
end Go.Proofs.Ytcmliokkamgcdaa
