/-
  explore: the depth-first search numbers the nodes.
-/
import Derived.Test.YtcmliokkamgcdaaDExpM
import Derived.Test.YtcmliokkamgcdaaDPred
import Derived.Test.YtcmliokkamgcdaaDFill
import Derived.Deep.LoopGhost
namespace Go.Proofs.Ytcmliokkamgcdaa
open Go.RowKit
set_option linter.unusedVariables false

/-- The successors of a node. -/
def suD (ps : List (Int × Int)) (v : Nat) : List Nat := (succL ps (v : Int)).map Int.toNat
theorem mem_succD {ps : List (Int × Int)} {v y : Int} (h : y ∈ succL ps v) : ∃ i, i < ps.length ∧ ps.getD i (0, 0) = (v, y) := by
  unfold succL at h
  obtain ⟨e, he, rfl⟩ := List.mem_map.mp h
  obtain ⟨he1, he2⟩ := List.mem_filter.mp he
  obtain ⟨i, hi, rfl⟩ := List.getElem_of_mem he1
  refine ⟨i, hi, ?_⟩
  have : ps[i].1 = v := by simpa using he2
  rw [List.getD_eq_getElem?_getD, List.getElem?_eq_getElem hi]
  show ps[i] = _
  rw [← this]
theorem ni_suD {N : Nat} {ps : List (Int × Int)} (hg : GOk (N : Int) ps) (v : Nat) : ni (suD ps v) = succL ps (v : Int) := by
  unfold ni suD
  rw [List.map_map]
  conv => rhs; rw [← List.map_id (succL ps (v : Int))]
  refine List.map_congr_left fun y hy => ?_
  obtain ⟨i, hi, e⟩ := mem_succD hy
  have := (hg.node i hi).2
  rw [e] at this
  show ((y.toNat : Nat) : Int) = y
  omega
theorem suD_lt {N : Nat} {ps : List (Int × Int)} (hg : GOk (N : Int) ps) (x : Nat) : ∀ y ∈ suD ps x, y < N := by
  intro y hy
  obtain ⟨z, hz, rfl⟩ := List.mem_map.mp hy
  obtain ⟨i, hi, e⟩ := mem_succD hz
  have := (hg.node i hi).2
  rw [e] at this
  have h2 := this.2
  have h1 := this.1
  simp at h1 h2
  omega
theorem suD_len (ps : List (Int × Int)) (v : Nat) : (suD ps v).length ≤ ps.length := by
  unfold suD succL
  rw [List.length_map, List.length_map]
  exact List.length_filter_le _ _
def restD (N : Nat) (ps : List (Int × Int)) : List (List Nat) := (List.range N).map (suD ps)
theorem restD_at {N v : Nat} {ps : List (Int × Int)} (h : v < N) : (restD N ps).getD v [] = suD ps v := by simp [restD, List.getD_eq_getElem?_getD, h]
theorem sumL_le {k : Nat} : ∀ (l : List (List Nat)), (∀ x ∈ l, x.length ≤ k) → sumL l ≤ l.length * k
  | [], _ => by simp [sumL]
  | a :: l, h => by
    have h1 := sumL_le (k := k) l (fun x hx => h x (by simp [hx]))
    have h2 := h a (by simp)
    simp only [sumL, List.map_cons, List.sum_cons, List.length_cons, Nat.succ_mul] at h1 ⊢
    omega
theorem sumL_restD (N : Nat) (ps : List (Int × Int)) : sumL (restD N ps) ≤ N * ps.length := by
  have := sumL_le (k := ps.length) (restD N ps) (fun x hx => by obtain ⟨v, _, rfl⟩ := List.mem_map.1 hx; exact suD_len ps v)
  simpa [restD] using this
theorem rs_of_rws {W : World} {X G N : Nat} {vs : List Value} {ps : List (Int × Int)} (hg : GOk (N : Int) ps) (hv : vs.length = N) (h : Rws W X (.slice (some ⟨G, 0, none⟩) vs.length N) vs (listsL N ps)) : RS W G N W.heap.size (restD N ps) := by
  refine ⟨by simp [restD], fun v hvN => ?_, (World.ownsRow.lt h.own G rfl).2, Nat.le_refl _⟩
  have hl : v < (listsL N ps).length := by rw [length_listsL]; exact hvN
  obtain ⟨a, c, h1, h2, h3, h4⟩ := h.at_ hl
  have hlen : (suD ps v).length = ((listsL N ps).getD v []).length := by rw [getD_listsL hvN, ← ni_suD hg, ni_len]
  have hrow := h.row v hl
  rw [restD_at hvN, hlen]
  refine ⟨a, c, h1, h4, ?_, fun h0 => ?_⟩
  · rcases hrow.2 with ⟨e, e2⟩ | ⟨g, cap, cur, e, _, _, h5, _⟩
    · rw [h2] at e; injection e with _ e _; omega
    · rw [h2] at e; injection e with _ _ e; omega
  · obtain ⟨b, off, e, hz⟩ := h3 h0
    refine ⟨b, off, e, World.block_lt_of_cell? _ _ (hz 0 h0), ?_, fun i hi => ?_⟩
    · intro q
      have := own_ne h.own hrow
      rw [h2, e, q] at this
      simp [Value.ownBlock] at this
    · rw [hz i hi, getD_listsL hvN, ← ni_suD hg]
      congr 2
      unfold ni
      rw [List.getD_eq_getElem?_getD, List.getElem?_map, List.getD_eq_getElem?_getD]
      cases (suD ps v)[i]? <;> rfl
theorem d_nodup_len : ∀ {N : Nat} {l : List Nat}, l.Nodup → (∀ x ∈ l, x < N) → l.length ≤ N
  | 0, l, _, hl => by
    match l with
    | [] => exact Nat.le_refl _
    | x :: r => have := hl x (by simp); omega
  | N + 1, l, h, hl => by
    by_cases hm : N ∈ l
    · have h1 := d_nodup_len (N := N) (l := l.erase N) (h.erase N) (fun x hx => by
        have h2 := (h.mem_erase_iff).mp hx
        have h3 := hl x h2.2
        have := h2.1
        omega)
      rw [List.length_erase_of_mem hm] at h1
      omega
    · have h1 := d_nodup_len (N := N) (l := l) h (fun x hx => by
        have h3 := hl x hx
        have : x ≠ N := fun e => hm (e ▸ hx)
        omega)
      omega

def ExpEnd (w : World) (N root : Nat) (ps : List (Int × Int)) (e : Ending) (w' : World) : Prop :=
  ∃ un R up nd par nm pa rest, e = .returned (.agg #[un, .slice (some ⟨R, 0, none⟩) N N, up]) ∧ Ex N root (suD ps) nd par [] rest ∧ NM N nd nm ∧ nm.length = N ∧ PA par pa ∧ Own w' w.heap.size un (ni nd) ∧ Row w' w.heap.size R N nm ∧ Own w' w.heap.size up pa ∧ Below w.heap.size w w'

/-- 'append(path, x)'. -/
theorem wpList_append_big {w : World} {ops : Array Oper} {rest : List Oper} {o : Oper} {a : Act} {Q : Exit → Act → World → Prop} (hg : o.guard = none) (s x : Operand)
    (hop : o.op = .call { callee := .builtin .append, args := #[s, x], argTypes := #[25, 25] }) (base : Nat) (v : Value) (zs : List Int) (n : Nat) (hn : zs.length = n) (hs : a.eval s = v) (hown : Own w base v zs)
    (B : Nat) (z : Int) (hx : a.eval x = .slice (some ⟨B, 0, none⟩) 1 1) (hc : w.cell? ⟨B, 0, none⟩ = some (.int .i64 z)) (hlen : n ≤ 1000000000) (hbase : base ≤ w.heap.size)
    (hK : ∀ g cap w', Own w' base (.slice (some ⟨g, 0, none⟩) (n + 1) cap) (zs ++ [z]) → w.grownBy w' v.ownBlock → (v.ownBlock = some g ∨ w.heap.size ≤ g) → wpList Try.prog ops Q rest (a.put o.dst (.slice (some ⟨g, 0, none⟩) (n + 1) cap)) w') : wpList Try.prog ops Q (o :: rest) a w := by
  obtain ⟨i0, hi, hz0, hz1, hz2⟩ := info_parts int_info
  subst hn
  refine wpList_append_lies w hg s x 25 hop base 3 i0 (.int .i64 0) 1 8 Try.underlying25 hi hz0 hz1 hz2 rfl (by decide) v zs.length (zs.map (.int .i64)) hs hown ⟨B, 0, none⟩ 1 1 [.int .i64 z] hx rfl ?_ ?_ (by decide) ?_ (by omega) hbase _ rfl ?_
  · intro j u hj
    match j, hj with
    | 0, hj => simp at hj; subst hj; simpa [Addr.add] using hc
  · intro u hu; simp at hu; subst hu; rfl
  · unfold maxLen; omega
  · intro g cap w' h1 h2 h3 _
    refine hK g cap w' ?_ h2 (h3.imp id (fun e => Nat.le_of_eq e.symm))
    unfold Own
    rw [List.length_append, List.map_append]
    exact h1

set_option maxHeartbeats 8000000 in
set_option maxRecDepth 100000 in
theorem explore_any (N root : Nat) (a : Option Addr) (n c : Nat) (ps : List (Int × Int)) (hl : ps.length = n) (w : World) (hE : Pairs w a ps) (hg : GOk (N : Int) ps) (hroot : root < N) :
    Calls Try.prog 45 #[.agg #[.int .i64 (N : Int), .slice a n c], .int .i64 (root : Int)] w (ExpEnd w N root ps) := by
  obtain ⟨e0, he1, he2, he3, he4⟩ := info_parts ss_info
  have hlen := hg.len
  have hN := hg.hi
  rw [hl] at hlen
  obtain ⟨w0, hw0⟩ : ∃ w0, w.alloc (Obj.cells #[Value.int .i64 (N : Int), Value.slice a n c] 24) = w0 := ⟨_, rfl⟩
  have hz0 : w.heap.size < w0.heap.size := by rw [← hw0]; simp
  have k0 : w0.cell? ⟨w.heap.size, 0, none⟩ = some (.int .i64 (N : Int)) := by rw [← hw0]; simp [go_sem]
  have k1 : w0.cell? ⟨w.heap.size, 1, none⟩ = some (.slice a n c) := by rw [← hw0]; simp [go_sem]
  obtain ⟨w1, hw1⟩ : ∃ w1, w0.alloc (Obj.cells #[Value.slice none 0 0, Value.slice none 0 0, Value.slice none 0 0] 70) = w1 := ⟨_, rfl⟩
  have hz1 : w0.heap.size < w1.heap.size := by rw [← hw1]; simp
  have hba : Below w0.heap.size w0 w1 := by rw [← hw1]; exact (Below.refl _ _).alloc (Nat.le_refl _) _
  have g0 := (hba.cell (p := ⟨w.heap.size, 0, none⟩) hz0).trans k0
  have g1 := (hba.cell (p := ⟨w.heap.size, 1, none⟩) hz0).trans k1
  have v0 : w1.cell? ⟨w.heap.size + 1, 0, none⟩ = some (.slice none 0 0) := by rw [← hw1, ← hw0]; simp [go_sem]
  have v1 : w1.cell? ⟨w.heap.size + 1, 1, none⟩ = some (.slice none 0 0) := by rw [← hw1, ← hw0]; simp [go_sem]
  have v2 : w1.cell? ⟨w.heap.size + 1, 2, none⟩ = some (.slice none 0 0) := by rw [← hw1, ← hw0]; simp [go_sem]
  have hs01 : w.heap.size + 1 < w1.heap.size := by omega
  have HB1 : Hid (Below w.heap.size w w1) := by show Below _ _ _; rw [← hw1, ← hw0]; exact ((Below.refl w.heap.size w).alloc (Nat.le_refl _) _).alloc (by simp) _
  have HE := Lib.hid hE
  have Hl := Lib.hid hl
  have Hg := Lib.hid hg
  have Hw0 := Lib.hid hw0
  have Hw1 := Lib.hid hw1
  have Hfin : Hid (listsTo N ps n = listsL N ps) := by show _ = _; rw [← hl]; exact listsTo_all N ps
  clear hE hl hg hw0 hw1 k0 k1 hba
  go_enter Try.func45, Try.ntmps45
  go_wp2
  rw [Hw0.out]
  rw [Hw1.out]
  go_step3
  go_wp2_with (at_make; refine wpList_make_full _ rfl _ _ 35 rfl w1.heap.size 25 e0 (.slice none 0 0) 1 Try.underlying35 he1 he2 he3 _ _ _ _ N rfl rfl rfl rfl ?_ ?_ ?_ ?_)
  · rw [he4]; omega
  · unfold maxLen; omega
  · exact Nat.le_refl _
  intro w2 hown hg2
  have hrep : (madeCells #[Value.slice none 0 0] N).toList = List.replicate N nl := by rw [toList_madeCells_one]; rfl
  rw [hrep] at hown
  have hst := rws_start hown
  rw [← listsTo_zero N ps] at hst
  have hb2 : Below w1.heap.size w1 w2 := (Below.refl _ _).grown hg2 (Nat.le_refl _) (fun k hk => by cases hk)
  have g0' := (hb2.cell (p := ⟨w.heap.size, 0, none⟩) (by show w.heap.size < w1.heap.size; omega)).trans g0
  have g1' := (hb2.cell (p := ⟨w.heap.size, 1, none⟩) (by show w.heap.size < w1.heap.size; omega)).trans g1
  have Hst := Lib.hid hst
  have Hb2 := Lib.hid hb2
  clear hown hg2 hrep hst hb2
  go_wp2
  go_loopw [18] (fun i wr => ∃ k : Nat, k ≤ n ∧ i = .int .i64 k ∧ (∃ vs, vs.length = N ∧ Rws wr w1.heap.size (.slice (some ⟨w1.heap.size, 0, none⟩) vs.length N) vs (listsTo N ps k)) ∧ Below w1.heap.size w1 wr) (fun i _ => n - (intOf i).toNat)
  case atStart => exact ⟨0, Nat.zero_le _, rfl, ⟨_, by simp, Hst.out⟩, Hb2.out⟩
  case round =>
    obtain ⟨k, hk, rfl, ⟨vs, hvs, hrw⟩, hb⟩ := hrel
    have Hrw := Lib.hid hrw
    have Hb := Lib.hid hb
    have Hvs := Lib.hid hvs
    have hsz := hb.size
    have k0 := (hb.cell (p := ⟨w.heap.size, 0, none⟩) (by show w.heap.size < w1.heap.size; omega)).trans g0
    have k1 := (hb.cell (p := ⟨w.heap.size, 1, none⟩) (by show w.heap.size < w1.heap.size; omega)).trans g1
    clear hrw hb hvs
    by_cases hlt : k < n
    · obtain ⟨b, off, rfl, hcell⟩ := (HE.out.below (HB1.out.trans (Hb.out.mono (by omega))) (Nat.le_refl _)) (by rw [Hl.out]; omega)
      obtain ⟨hcx, hcy⟩ := hcell k (by rw [Hl.out]; exact hlt)
      have hnd := (Hg.out.node k (by rw [Hl.out]; exact hlt)).1
      obtain ⟨⟨x, y⟩, he⟩ : ∃ e, ps.getD k (0, 0) = e := ⟨_, rfl⟩
      rw [he] at hcx hcy hnd
      obtain ⟨x, rfl⟩ : ∃ m : Nat, x = (m : Int) := ⟨x.toNat, by have := hnd.1; omega⟩
      have hxN : x < N := by have := hnd.2; show x < N; simp at this; omega
      have hxl : x < (listsTo N ps k).length := by rw [length_listsTo]; exact hxN
      have hstep := listsTo_succ (by rw [Hl.out]; exact hlt) he hxN
      have hrl : ((listsTo N ps k).getD x []).length ≤ 100000 := by
        rw [getD_listsTo hxN]
        have := succL_take_len ps k (x : Int)
        rw [Hl.out] at this; omega
      obtain ⟨w5, hw5⟩ : ∃ w5, wr.alloc (.cells #[.int .i64 (x : Int), .int .i64 y] 52) = w5 := ⟨_, rfl⟩
      have hb5 : Below wr.heap.size wr w5 := by rw [← hw5]; exact (Below.refl _ _).alloc (Nat.le_refl _) _
      have hs5 : wr.heap.size < w5.heap.size := by rw [← hw5]; simp
      have e0' : w5.cell? ⟨wr.heap.size, 0, none⟩ = some (.int .i64 (x : Int)) := by rw [← hw5]; simp [go_sem]
      have e1' : w5.cell? ⟨wr.heap.size, 1, none⟩ = some (.int .i64 y) := by rw [← hw5]; simp [go_sem]
      have hrw5 := Hrw.out.below hb5 (Nat.le_refl _)
      obtain ⟨au, cu, cG, hv, _, fG⟩ := hrw5.at_ hxl
      obtain ⟨L, hL⟩ : ∃ L, (listsTo N ps k).getD x [] = L := ⟨_, rfl⟩
      rw [hL] at cG hv hrl hstep
      have hown := hrw5.row x hxl
      rw [hv, hL] at hown
      have hba : ∀ o, Below w5.heap.size w5 (w5.alloc o) := fun o => (Below.refl _ _).alloc (Nat.le_refl _) _
      have cGa : ∀ o, (w5.alloc o).cell? ⟨w1.heap.size, x, none⟩ = some (.slice au L.length cu) := fun o => ((hba o).cell (World.block_lt_of_cell? _ _ cG)).trans cG
      have e0a : ∀ o, (w5.alloc o).cell? ⟨wr.heap.size, 0, none⟩ = some (.int .i64 (x : Int)) := fun o => ((hba o).cell (World.block_lt_of_cell? _ _ e0')).trans e0'
      have e1a : ∀ o, (w5.alloc o).cell? ⟨wr.heap.size, 1, none⟩ = some (.int .i64 y) := fun o => ((hba o).cell (World.block_lt_of_cell? _ _ e1')).trans e1'
      have hfin : ∀ (g cap : Nat) (w6 : World), Own w6 w1.heap.size (.slice (some ⟨g, 0, none⟩) (L.length + 1) cap) (L ++ [y]) → ((w5.alloc (.cells #[.int .i64 y] 3)).drew).grownBy w6 (Value.slice au L.length cu).ownBlock → ((Value.slice au L.length cu).ownBlock = some g ∨ g = ((w5.alloc (.cells #[.int .i64 y] 3)).drew).heap.size) →
          (w6.cell? ⟨w1.heap.size, x, none⟩ = some (.slice au L.length cu) ∧ w6.frozen? ⟨w1.heap.size, x, none⟩ = false ∧ w6.cell? ⟨wr.heap.size, 0, none⟩ = some (.int .i64 (x : Int)) ∧ w6.cell? ⟨wr.heap.size, 1, none⟩ = some (.int .i64 y)) ∧
            (∃ vs', vs'.length = N ∧ Rws (w6.setCell ⟨w1.heap.size, x, none⟩ (.slice (some ⟨g, 0, none⟩) (L.length + 1) cap)) w1.heap.size (.slice (some ⟨w1.heap.size, 0, none⟩) vs'.length N) vs' (listsTo N ps (k + 1))) ∧
            Below w1.heap.size w1 (w6.setCell ⟨w1.heap.size, x, none⟩ (.slice (some ⟨g, 0, none⟩) (L.length + 1) cap)) := fun g cap w6 ho hg hat => by
        have hX : Below w5.heap.size w5 ((w5.alloc (.cells #[.int .i64 y] 3)).drew) := (hba _).drew
        have hrX := hrw5.below hX (Nat.le_refl _)
        have hgX : ((w5.alloc (.cells #[.int .i64 y] 3)).drew).grownBy w6 (vs.getD x nl).ownBlock := by rw [hv]; exact hg
        have hS1 := World.ownsRow.kept hrX.own hgX (own_ne hrX.own (hrX.row x hxl))
        have hat' : (Value.slice (some ⟨g, 0, none⟩) (L.length + 1) cap).ownBlock = (vs.getD x nl).ownBlock ∨ ∃ k', (Value.slice (some ⟨g, 0, none⟩) (L.length + 1) cap).ownBlock = some k' ∧ ((w5.alloc (.cells #[.int .i64 y] 3)).drew).heap.size ≤ k' := by
          rw [hv]
          rcases hat with h | h
          · exact .inl h.symm
          · exact .inr ⟨g, rfl, Nat.le_of_eq h.symm⟩
        have ho' : Own w6 w1.heap.size (.slice (some ⟨g, 0, none⟩) (L.length + 1) cap) ((listsTo N ps k).getD x [] ++ [y]) := by rw [hL]; exact ho
        have hgr := Rws.grow hrX hxl ho' hgX hat'
        rw [hL, ← hstep] at hgr
        have hvx : x < vs.length := by rw [Hvs.out]; exact hxN
        have hfar : (vs.getD x nl).ownBlock = none ∨ (vs.getD x nl).ownBlock ≠ some wr.heap.size := by
          cases hu : (vs.getD x nl).ownBlock with
          | none => exact .inl rfl
          | some r => exact .inr fun e => by have := (World.ownsRow.lt (Hrw.out.row x hxl) r hu).2; cases e; omega
        refine ⟨⟨?_, World.ownsRow.frozenAt hS1 x, cell_kept' hgX (e0a _) hfar, cell_kept' hgX (e1a _) hfar⟩, ⟨vs.set x (.slice (some ⟨g, 0, none⟩) (L.length + 1) cap), by rw [List.length_set]; exact Hvs.out, ?_⟩, ?_⟩
        · rw [World.ownsRow.cellAt hS1 x (by omega), ← hv]
          simp [List.getD_eq_getElem?_getD, hvx]
        · rw [List.length_set]; exact hgr
        · exact ((((Hb.out.trans (hb5.mono hsz)).trans (hX.mono (by omega))).grown hgX (by simp; omega) (fun r hr => (World.ownsRow.lt (hrX.row x hxl) r hr).1))).setCell (p := ⟨w1.heap.size, x, none⟩) (Nat.le_refl _) _
      have Hfin2 := Lib.hid hfin
      have Hown := Lib.hid hown
      have Hw5 := Lib.hid hw5
      have hsw : w1.heap.size ≤ w5.heap.size := by omega
      clear hcell he hstep hrw5 hown hfin hb5 hw5 hv hL hnd hba hxl
      go_wp2
      rw [Hw5.out]
      go_region_law (refine step_append_at rfl _ _ rfl w1.heap.size _ L rfl (World.ownsRow.alloc Hown.out _) w5.heap.size y rfl (by simp [go_sem]) hrl (by simp; omega) ?_; intro g4 cap4 w4 ho4 hg4 hat4; obtain ⟨⟨c5, f5, e5, e6⟩, hdone⟩ := Hfin2.out g4 cap4 w4 ho4 hg4 hat4; have Hdone := Lib.hid hdone; clear ho4 hg4 hat4 hdone)
      all_goals
        go_wp2
        go_roundw
        case rel => exact ⟨k + 1, by omega, by go_num, Hdone.out.1, Hdone.out.2⟩
        case measure => simp [intOf]; omega
    · obtain rfl : n = k := by omega
      have hrs := rs_of_rws Hg.out Hvs.out (by rw [← Hfin.out]; exact Hrw.out)
      have hb1 := Hb.out
      have HRS := Lib.hid hrs
      have HBL := Lib.hid hb1
      clear hrs hb1 k1
      go_wp2_with fail
      refine (filled_any N (-1) wr (by omega)).mono ?_
      rintro e w4 ⟨rfl, hrow4, hb4⟩
      have hs4 : wr.heap.size < w4.heap.size := hrow4.lt.2
      have HRow4 := Lib.hid hrow4
      have HB4 := Lib.hid hb4
      obtain ⟨hSB, hst6⟩ := ei_start (su := suD ps) (root := root) HRS.out (fun v hv => restD_at hv) HRow4.out HB4.out HBL.out (Nat.le_refl _) hroot
      have HSB := Lib.hid hSB
      have Hst6 := Lib.hid hst6
      have hNn : N * n ≤ 8192 * 32768 := Nat.mul_le_mul (by omega) (by omega)
      have hsum := sumL_restD N ps
      rw [Hl.out] at hsum
      clear hrow4 hb4 k0 hSB hst6
      go_wp2_with fail
      refine (add_any (w4.heap.size + 1) w4.heap.size wr.heap.size N root (.slice none 0 0) (.slice none 0 0) [] (List.replicate N (-1)) [] (-1) _ HSB.out hroot (by simp) (by simp)).mono ?_
      intro e w6 hA
      obtain ⟨rfl, un, up, hEI⟩ := Hst6.out e w6 hA
      have HEI := Lib.hid hEI
      obtain ⟨S0, hS0⟩ : ∃ s, sumL (restD N ps) = s := ⟨_, rfl⟩
      have HS0 := Lib.hid hS0
      rw [hS0] at hsum
      have hvc := fun i (hi : i < 3) => (show w1.cell? ⟨w.heap.size + 1, i, none⟩ = some (.slice none 0 0) from match i, hi with | 0, _ => v0 | 1, _ => v1 | 2, _ => v2)
      have hvc2 : Hid (∀ i, i < 3 → w1.cell? ⟨w.heap.size + 1, i, none⟩ = some (.slice none 0 0)) := hvc
      have hvh : Hid (w1.heap[w.heap.size + 1]? = some (.cells #[.slice none 0 0, .slice none 0 0, .slice none 0 0] 70 (0, 0))) := by
        have e : w0.heap.size = w.heap.size + 1 := by rw [← Hw0.out]; simp
        show _ = _
        rw [← Hw1.out, ← e]; exact heap_alloc_new _ _
      have hvf : Hid (∀ i, w1.frozen? ⟨w.heap.size + 1, i, none⟩ = false) := fun i => by rw [← Hw1.out, ← Hw0.out]; simp [go_sem]
      clear hA hEI hS0 v0 v1 v2 hvc g0 g1 g0' g1'
      go_wp2
      go_step3
      go_wp2
      clear HRS HBL HRow4 HB4 HSB Hst6 Hrw Hb
      generalize wr.heap.size = R at *
      go_loopg [9] (2 * S0 + 1) (fun gk pv W => ∃ un up nd par pth rest nm pa, Hid (EI w1 W w1.heap.size w1.heap.size R w4.heap.size R (w4.heap.size + 1) N root (suD ps) pv un up nd par pth rest nm pa) ∧ 2 * sumL rest + pth.length = gk ∧ gk ≤ 2 * S0 + 1)
      case atStart => exact ⟨un, up, [root], [0], [0], restD N ps, _, _, HEI, by rw [HS0.out]; rfl, Nat.le_refl _⟩
      case round =>
        obtain ⟨un2, up2, nd, par, pth, rest, nm, pa, hei, hgk, hgk2⟩ := hrel
        obtain ⟨go, rfl⟩ : ∃ x, x = gk := ⟨_, rfl⟩
        have lX := hei.out.lX
        rcases List.eq_nil_or_concat pth with rfl | ⟨pth0, t, hpt⟩
        · obtain ⟨sa, sc, hsv, _⟩ := hei.out.oq.shape
          have hsv2 : _ = Value.slice sa 0 sc := hsv
          subst hsv2
          obtain ⟨ax, cx, hax, _⟩ := hei.out.sb.on.shape
          obtain ⟨ay, cy, hay, _⟩ := hei.out.sb.op.shape
          subst hax
          subst hay
          obtain ⟨lx, hlx⟩ : ∃ l, (ni nd).length = l := ⟨_, rfl⟩
          obtain ⟨ly, hly⟩ : ∃ l, pa.length = l := ⟨_, rfl⟩
          rw [hlx, hly] at hei
          have c0 := hei.out.sb.c0
          have c1 := hei.out.sb.c1
          have c2 := hei.out.sb.c2
          have hbw := hei.out.bl
          have r0 := (hbw.cell (p := ⟨w.heap.size + 1, 0, none⟩) (by show w.heap.size + 1 < w1.heap.size; omega)).trans (hvc2.out 0 (by omega))
          have r1 := (hbw.cell (p := ⟨w.heap.size + 1, 1, none⟩) (by show w.heap.size + 1 < w1.heap.size; omega)).trans (hvc2.out 1 (by omega))
          have r2 := (hbw.cell (p := ⟨w.heap.size + 1, 2, none⟩) (by show w.heap.size + 1 < w1.heap.size; omega)).trans (hvc2.out 2 (by omega))
          have hbf := hbw.block (w.heap.size + 1) (by omega)
          have fz : ∀ i, wr.frozen? ⟨w.heap.size + 1, i, none⟩ = false := fun i => by
            have := hvf.out i
            unfold World.frozen? at this ⊢
            rw [hbf]; exact this
          have f0 := fz 0
          have f1 := fz 1
          have f2 := fz 2
          have hend : ∀ x y z, ExpEnd w N root ps (.returned (.agg #[.slice ax lx cx, .slice (some ⟨R, 0, none⟩) N N, .slice ay ly cy])) (((wr.setCell ⟨w.heap.size + 1, 0, none⟩ x).setCell ⟨w.heap.size + 1, 1, none⟩ y).setCell ⟨w.heap.size + 1, 2, none⟩ z) := fun x y z => by
            have h1 := grown_setCell wr (w.heap.size + 1) 0 x
            have h2 := grown_setCell (wr.setCell ⟨w.heap.size + 1, 0, none⟩ x) (w.heap.size + 1) 1 y
            have h3 := grown_setCell ((wr.setCell ⟨w.heap.size + 1, 0, none⟩ x).setCell ⟨w.heap.size + 1, 1, none⟩ y) (w.heap.size + 1) 2 z
            have ko : ∀ {v : Value} {zs : List Int}, Own wr (w4.heap.size + 1) v zs → Own (((wr.setCell ⟨w.heap.size + 1, 0, none⟩ x).setCell ⟨w.heap.size + 1, 1, none⟩ y).setCell ⟨w.heap.size + 1, 2, none⟩ z) w.heap.size v zs := fun {v zs} ho => by
              have o1 := World.ownsRow.kept ho h1 (row_far ho (by omega))
              have o2 := World.ownsRow.kept o1 h2 (row_far o1 (by omega))
              have o3 := World.ownsRow.kept o2 h3 (row_far o2 (by omega))
              exact Own.mono o3 (by omega)
            have n1 : some R ≠ (some (w.heap.size + 1) : Option Nat) := fun q => by injection q with q; omega
            refine ⟨_, _, _, nd, par, nm, pa, rest, rfl, hei.out.ex, hei.out.nm, hei.out.sb.ln, hei.out.pa, ko hei.out.sb.on, ?_, ko hei.out.sb.op, ?_⟩
            · exact (((hei.out.sb.rr.kept h1 n1).kept h2 n1).kept h3 n1).mono (by omega)
            · exact (((HB1.out.trans (hbw.mono (by omega))).setCell (p := ⟨w.heap.size + 1, 0, none⟩) (by show w.heap.size ≤ w.heap.size + 1; omega) x).setCell (p := ⟨w.heap.size + 1, 1, none⟩) (by show w.heap.size ≤ w.heap.size + 1; omega) y).setCell (p := ⟨w.heap.size + 1, 2, none⟩) (by show w.heap.size ≤ w.heap.size + 1; omega) z
          have hheap : ∀ x y z, (((wr.setCell ⟨w.heap.size + 1, 0, none⟩ x).setCell ⟨w.heap.size + 1, 1, none⟩ y).setCell ⟨w.heap.size + 1, 2, none⟩ z).heap[w.heap.size + 1]? = some (.cells #[x, y, z] 70 (0, 0)) := fun x y z => by
            rw [heap_setCell_same _ _ _ _ _ _ (heap_setCell_same _ _ _ _ _ _ (heap_setCell_same _ _ _ _ _ _ (hbf.trans hvh.out)))]; rfl
          have Hheap := Lib.hid hheap
          have Hend := Lib.hid hend
          clear hheap hbw hbf fz hend hgk hlx hly
          go_wp2
          try rw [Exit.noGoto_ret]
          refine bodyPost_ret (results_cell_row rfl _ _ (w.heap.size + 1) 70 _ (0, 0) _ rfl (Hheap.out _ _ _) Try.underlying70 rfl (by kernel_rfl)) rfl (Hend.out _ _ _)
        · rw [List.concat_eq_append] at hpt
          subst hpt
          obtain ⟨m, hm⟩ : ∃ m, pth0.length = m := ⟨_, rfl⟩
          have hnl : (nodesOf nd (pth0 ++ [t])).length = m + 1 := by simp [nodesOf, hm]
          obtain ⟨g, cq, rfl, hcq, hcq2, hgb, _⟩ := d_shape hei.out.oq hnl (by omega)
          obtain ⟨v, hv⟩ : ∃ v, nd.getD t 0 = v := ⟨_, rfl⟩
          have htn := (hei.out.ex.on t (by simp)).1
          have hvN : v < N := by rw [← hv]; exact hei.out.ex.node _ (at_mem htn)
          have cP : wr.cell? ⟨g, m, none⟩ = some (.int .i64 (v : Int)) := by
            have := d_cell hei.out.oq hnl (i := m) (by omega)
            rwa [show (nodesOf nd (pth0 ++ [t])).getD m 0 = ((v : Nat) : Int) by simp [nodesOf, List.getD_eq_getElem?_getD, ← hm]; rw [← hv]; simp [List.getD_eq_getElem?_getD]] at this
          have hgk3 : 2 * sumL rest + (m + 1) = go := by rw [← hgk]; simp [hm]
          have Hm := Lib.hid hm
          have Hv := Lib.hid hv
          have Hnl := Lib.hid hnl
          have Hstart := Lib.hid hgk3
          have hmc : (m : Int) ≤ (cq : Int) := by omega
          have hm0 : (0 : Int) ≤ (m : Int) := by omega
          have hm5 : (m : Int) < (m : Int) + 1 := by omega
          have hmN : m ≤ 900000000 := by omega
          clear hgk hgk3 hm hv hnl
          go_wp2
          go_loopg [9] go (fun gi pv W => ∃ rest, pv = .slice (some ⟨g, 0, none⟩) (m + 1) cq ∧ Hid (EI w1 W w1.heap.size w1.heap.size R w4.heap.size R (w4.heap.size + 1) N root (suD ps) (.slice (some ⟨g, 0, none⟩) (m + 1) cq) un2 up2 nd par (pth0 ++ [t]) rest nm pa) ∧ Hid (2 * sumL rest + (m + 1) = gi) ∧ gi ≤ go)
          case atStart => exact ⟨rest, rfl, hei, Hstart, Nat.le_refl _⟩
          case round =>
            clear cP hei Hstart lX
            obtain ⟨rest2, rfl, hei, hgi, hgi2⟩ := hrel
            have lX := hei.out.lX
            have hrs := hei.out.rs
            have hRR := hei.out.sb.ltR
            obtain ⟨ra, rc, cG, fG, hrc, hrz⟩ := hrs.row v hvN
            cases hre : rest2.getD v [] with
            | nil =>
              have Hpop := Lib.hid (hei.out.pop Hm.out (by rw [Hv.out]; exact hre))
              rw [hre, List.length_nil] at cG
              clear hrz hrc hei hrs fG hre
              go_wp2
              go_roundg (2 * sumL rest2 + m)
              case measure => have := hgi.out; omega
              case rel => exact ⟨un2, up2, nd, par, pth0, rest2, nm, pa, Hpop, by rw [Hm.out], by have := hgi.out; omega⟩
            | cons x r =>
              obtain ⟨rb, ro, rfl, hrbR, hrbG, hz⟩ := hrz (by rw [hre]; simp)
              have cX := hz 0 (by rw [hre]; simp)
              rw [hre, Nat.add_zero, List.getD_cons_zero] at cX
              rw [hre, List.length_cons] at cG hrc
              have hxs : x ∈ suD ps v := by
                obtain ⟨d, hd, _⟩ := hei.out.ex.done t htn
                rw [Hv.out] at hd; rw [hd, hre]; simp
              have hxN := suD_lt Hg.out v x hxs
              have hsl := sumL_set rest2 v x r (by rw [hrs.lr]; exact hvN) hre
              obtain ⟨l, hl⟩ : ∃ l, r.length = l := ⟨_, rfl⟩
              rw [hl] at cG hrc
              have c1 := hei.out.sb.c1
              have cN := hei.out.sb.rr.cell (i := x) (by rw [hei.out.sb.ln]; exact hxN)
              have c1s : ∀ z, (wr.setCell ⟨w1.heap.size, v, none⟩ z).cell? ⟨w4.heap.size, 1, none⟩ = some (.slice (some ⟨R, 0, none⟩) N N) := fun z => by
                rw [World.cell?_setCell_other _ _ _ _ (by intro q; injection q with q1 q2; omega)]; exact c1
              have cNs : ∀ z, (wr.setCell ⟨w1.heap.size, v, none⟩ z).cell? ⟨R, x, none⟩ = some (.int .i64 (nm.getD x 0)) := fun z => by
                rw [World.cell?_setCell_other _ _ _ _ (by intro q; injection q with q1 q2; omega)]; exact cN
              have Hre := Lib.hid hre
              have Hsl := Lib.hid hsl
              have Hl := Lib.hid hl
              by_cases hx : x ∈ nd
              · obtain ⟨i, hi, hix, hnx⟩ := (hei.out.nm.neg hxN).1 hx
                rw [hnx] at cNs
                have hS : ∀ a' c', l ≤ c' → (0 < l → a' = some ⟨rb, ro + 1, none⟩) → EI w1 (wr.setCell ⟨w1.heap.size, v, none⟩ (.slice a' l c')) w1.heap.size w1.heap.size R w4.heap.size R (w4.heap.size + 1) N root (suD ps) (.slice (some ⟨g, 0, none⟩) (m + 1) cq) un2 up2 nd par (pth0 ++ [t]) (rest2.set v r) nm pa := fun a' c' h1 h2 => by
                  have := hei.out.skip (t := t) (w := x) (r := r) (a := some ⟨rb, ro, none⟩) (a' := a') (c := rc) (c' := c') (by rw [Hv.out]; exact hre) hx (by rw [Hv.out, hl]; exact cG) (by omega) (fun h => ⟨rb, ro, rfl, h2 (by omega)⟩)
                  rw [Hv.out, hl] at this
                  exact this
                have HS := Lib.hid hS
                clear hrz hre hl hsl hxs hz hrs c1 cN hS hei
                go_wp2
                all_goals
                  go_roundg (2 * sumL (rest2.set v r) + (m + 1))
                  case measure => have := hgi.out; have := Hsl.out; omega
                  case rel => exact ⟨rest2.set v r, rfl, HS.out _ _ (by omega) (fun h => by first | rfl | omega), rfl, by have := hgi.out; have := Hsl.out; omega⟩
              · have hxm := (hei.out.nm.neg hxN).2 hx
                have hvm := (hei.out.nm v hvN).1 t htn Hv.out
                rw [hxm] at cNs
                have hnd := d_nodup_len hei.out.ex.nodup hei.out.ex.node
                have hpl := hei.out.pa.1
                have hlp := hei.out.ex.lp
                have cV := hei.out.sb.rr.cell (i := v) (by rw [hei.out.sb.ln]; exact hvN)
                rw [hvm] at cV
                have cVs : ∀ z, (wr.setCell ⟨w1.heap.size, v, none⟩ z).cell? ⟨R, v, none⟩ = some (.int .i64 (t : Int)) := fun z => by
                  rw [World.cell?_setCell_other _ _ _ _ (by intro q; injection q with q1 q2; omega)]; exact cV
                have hcall : ∀ z, Calls Try.prog 60 #[.pointer (some ⟨w4.heap.size, 0, none⟩), .int .i64 (x : Int), .int .i64 (t : Int)] (wr.setCell ⟨w1.heap.size, v, none⟩ z) (AddEnd (wr.setCell ⟨w1.heap.size, v, none⟩ z) (w4.heap.size + 1) w4.heap.size R N x un2 up2 (ni nd) nm pa (t : Int)) := fun z =>
                  add_any (w4.heap.size + 1) w4.heap.size R N x un2 up2 (ni nd) nm pa (t : Int) _ (hei.out.sb.far (by omega) (by omega) (by omega) v z) hxN (by rw [ni_len]; omega) (by omega)
                have hN2 : ∀ a' c' e1 W', l ≤ c' → (0 < l → a' = some ⟨rb, ro + 1, none⟩) → AddEnd (wr.setCell ⟨w1.heap.size, v, none⟩ (.slice a' l c')) (w4.heap.size + 1) w4.heap.size R N x un2 up2 (ni nd) nm pa (t : Int) e1 W' →
                    e1 = .returned (.tuple #[]) ∧ ∃ un' up', Hid (Own W' (w4.heap.size + 1) (.slice (some ⟨g, 0, none⟩) (m + 1) cq) (nodesOf nd (pth0 ++ [t]))) ∧ w4.heap.size + 1 ≤ W'.heap.size ∧ Hid (∀ g2 cap W2, Own W2 (w4.heap.size + 1) (.slice (some ⟨g2, 0, none⟩) (m + 1 + 1) cap) (nodesOf nd (pth0 ++ [t]) ++ [(x : Int)]) →
                      (W'.alloc (.cells #[.int .i64 (x : Int)] 3)).grownBy W2 (Value.slice (some ⟨g, 0, none⟩) (m + 1) cq).ownBlock → ((Value.slice (some ⟨g, 0, none⟩) (m + 1) cq).ownBlock = some g2 ∨ W'.heap.size ≤ g2) →
                      EI w1 W2 w1.heap.size w1.heap.size R w4.heap.size R (w4.heap.size + 1) N root (suD ps) (.slice (some ⟨g2, 0, none⟩) (m + 1 + 1) cap) un' up' (nd ++ [x]) (par ++ [t]) ((pth0 ++ [t]) ++ [nd.length]) (rest2.set v r) (nm.set x (nd.length : Int)) (pa ++ [(t : Int)])) := fun a' c' e1 W' h1 h2 hA => by
                  have := hei.out.numbered (t := t) (w := x) (r := r) (a := some ⟨rb, ro, none⟩) (a' := a') (c := rc) (c' := c') (e1 := e1) (W' := W') (by rw [Hv.out]; exact hre) hx hxN (by rw [Hv.out, hl]; exact cG) (by omega) (fun h => ⟨rb, ro, rfl, h2 (by omega)⟩) (by rw [Hv.out, hl]; exact hA)
                  rw [Hv.out, Hm.out] at this
                  exact this
                have Hcall := Lib.hid hcall
                have HN2 := Lib.hid hN2
                clear hrz hre hl hsl hxs hz hrs c1 cN hei hcall hN2 cV hxm hvm hnd hpl hlp
                go_wp2_with fail
                all_goals
                  refine (Hcall.out _).mono ?_
                  intro e w7 hA
                  obtain ⟨rfl, un', up', hO7, hs7, hE7⟩ := HN2.out _ _ _ _ (by omega) (fun h => by first | rfl | omega) hA
                  clear hA
                  go_wp2_with (at_builtin; refine wpList_append_big rfl _ _ rfl (w4.heap.size + 1) _ (nodesOf nd (pth0 ++ [t])) (m + 1) (by simp [nodesOf]; exact Hm.out) rfl (hO7.out.alloc _) w7.heap.size (x : Int) rfl (by simp [go_sem]) (by omega) (by simp; omega) ?_; intro g8 cap8 w8 ho8 hg8 hat8; have hE8 := Lib.hid (hE7.out g8 cap8 w8 ho8 hg8 (hat8.imp id (fun e => by simp at e; omega))); clear ho8 hg8 hat8)
                  go_roundg (2 * sumL (rest2.set v r) + (m + 2))
                  case measure => have := hgi.out; have := Hsl.out; omega
                  case rel => exact ⟨un', up', _, _, _, _, _, _, hE8, by simp; exact Hm.out, by have := hgi.out; have := Hsl.out; omega⟩
end Go.Proofs.Ytcmliokkamgcdaa
