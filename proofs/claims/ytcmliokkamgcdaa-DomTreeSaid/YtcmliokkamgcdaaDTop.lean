/-
  dominators: the tree of a graph and its root.
-/
import Derived.Test.YtcmliokkamgcdaaDSdm
import Derived.Test.YtcmliokkamgcdaaDMeas
import Derived.Test.YtcmliokkamgcdaaDNode
import Derived.Test.YtcmliokkamgcdaaGCheck
namespace Go.Proofs.Ytcmliokkamgcdaa
open Go.RowKit
set_option linter.unusedVariables false

theorem dnode_any (N x : Int) (a : Option Addr) (n c : Nat) (r : Bool) (hr : isNd N x = r) (w : World) :
    Calls Try.prog 33 #[.agg #[.int .i64 N, .slice a n c], .int .i64 x] w fun e w' => e = .returned (.bool r) ∧ Below w.heap.size w w' := by
  have hb : Hid (Below w.heap.size w (w.alloc (.cells #[.int .i64 N, .slice a n c] 24))) := (Below.refl _ w).alloc (Nat.le_refl _) _
  by_cases h0 : 0 ≤ x
  · by_cases h1 : x < N
    · have e : r = true := by rw [← hr]; exact isNd_iff.2 ⟨h0, h1⟩
      subst e; clear hr
      go_enter Try.func33, Try.ntmps33
      go_wp2
      go_ret
      exact ⟨rfl, hb.out⟩
    · have e : r = false := by rw [← hr]; exact isNd_not.2 (.inr (by omega))
      subst e; clear hr
      go_enter Try.func33, Try.ntmps33
      go_wp2
      go_ret
      exact ⟨rfl, hb.out⟩
  · have e : r = false := by rw [← hr]; exact isNd_not.2 (.inl (by omega))
    subst e; clear hr
    go_enter Try.func33, Try.ntmps33
    go_wp2
    go_ret
    exact ⟨rfl, hb.out⟩
/-- The tree of the dominators, in its three lists. -/
structure TD (N root : Nat) (ps : List (Int × Int)) (id pl z : List Int) : Prop where
  ex : ∃ nd par rest D k fr, Ex N root (suD ps) nd par [] rest ∧ TreeOf N k nd D id ∧ IsD (FN (suD ps) nd) D k ∧ ZF N k nd D z ∧ PI N k nd D z pl fr k
def DomsEnd (w : World) (N root : Nat) (ps : List (Int × Int)) (e : Ending) (w' : World) : Prop :=
  ∃ gi gp gz id pl z, e = .returned (.tuple #[.agg #[.slice (some ⟨gi, 0, none⟩) N N, .slice (some ⟨gp, 0, none⟩) N N, .slice (some ⟨gz, 0, none⟩) N N], .int .i64 0]) ∧ Row w' w.heap.size gi N id ∧ Row w' w.heap.size gp N pl ∧ Row w' w.heap.size gz N z ∧ TD N root ps id pl z ∧ Below w.heap.size w w'

/-- 'make([]int, N)' as a step from world to world. -/
theorem made_world (N : Nat) (hN : N ≤ 100000) : ∃ mk : World → World, ∀ X, (Instr.makeSlice 25 (.int .i64 (N : Int)) (.int .i64 (N : Int))).run Try.prog X = .ok (.slice (some ⟨X.heap.size, 0, none⟩) N N) (mk X) ∧ Row (mk X) X.heap.size X.heap.size N (List.replicate N 0) ∧ Below X.heap.size X (mk X) := by
  have h : ∀ X : World, ∃ W, (Instr.makeSlice 25 (.int .i64 (N : Int)) (.int .i64 (N : Int))).run Try.prog X = .ok (.slice (some ⟨X.heap.size, 0, none⟩) N N) W ∧ Row W X.heap.size X.heap.size N (List.replicate N 0) ∧ Below X.heap.size X W := fun X => by
    obtain ⟨i0, hi, hz0, hz1, hz2⟩ := info_parts int_info
    obtain ⟨w', hrun, r1, r2⟩ := run_make_full (P := Try.prog) X X.heap.size 25 3 i0 (.int .i64 0) 1 Try.underlying25 hi hz0 hz1 .i64 .i64 N (by rw [hz2]; omega) (by unfold maxLen; omega) (Nat.le_refl _)
    refine ⟨w', hrun, ?_, (Below.refl _ _).grown r2 (Nat.le_refl _) (fun k hk => by cases hk)⟩
    unfold Row
    rw [show (List.replicate N (0 : Int)).map (Value.int .i64) = (madeCells #[Value.int .i64 0] N).toList by rw [toList_madeCells_one]; simp, List.length_replicate]
    rw [Nat.mul_one] at r1
    exact r1
  exact ⟨fun X => (h X).choose, fun X => (h X).choose_spec⟩
theorem filled_g (N : Nat) (x : Int) (w : World) (hN : N ≤ 100000) :
    Calls Try.prog 46 #[.int .i64 (N : Int), .int .i64 x] w fun e w' => ∃ g, e = .returned (.slice (some ⟨g, 0, none⟩) N N) ∧ w.heap.size ≤ g ∧ Row w' g g N (List.replicate N x) ∧ Below w.heap.size w w' :=
  (filled_any N x w hN).mono fun e w' ⟨a, b, c⟩ => ⟨_, a, Nat.le_refl _, b, c⟩
theorem dk_alloc {W X : World} {m : Nat} {u : Value} (H : X.cell? ⟨m, 0, none⟩ = some u ∧ Below W.heap.size W X) (o : Obj) : (X.alloc o).cell? ⟨m, 0, none⟩ = some u ∧ Below W.heap.size W (X.alloc o) :=
  ⟨(((Below.refl X.heap.size X).alloc (Nat.le_refl _) o).cell (World.block_lt_of_cell? _ _ H.1)).trans H.1, H.2.alloc H.2.size o⟩
theorem dk_below {W X X' : World} {m : Nat} {u : Value} (H : X.cell? ⟨m, 0, none⟩ = some u ∧ Below W.heap.size W X) (hb : Below X.heap.size X X') : X'.cell? ⟨m, 0, none⟩ = some u ∧ Below W.heap.size W X' :=
  ⟨(hb.cell (World.block_lt_of_cell? _ _ H.1)).trans H.1, H.2.trans (hb.mono H.2.size)⟩
theorem dk_set3 {W X : World} {m B : Nat} {u x y z : Value} (H : X.cell? ⟨m, 0, none⟩ = some u ∧ Below W.heap.size W X) (hm : m < W.heap.size) (h : W.heap.size ≤ B) : (((X.setCell ⟨B, 0, none⟩ x).setCell ⟨B, 1, none⟩ y).setCell ⟨B, 2, none⟩ z).cell? ⟨m, 0, none⟩ = some u ∧ Below W.heap.size W (((X.setCell ⟨B, 0, none⟩ x).setCell ⟨B, 1, none⟩ y).setCell ⟨B, 2, none⟩ z) := by
  refine ⟨?_, ((H.2.setCell (p := ⟨B, 0, none⟩) h x).setCell (p := ⟨B, 1, none⟩) h y).setCell (p := ⟨B, 2, none⟩) h z⟩
  have n : ∀ i, (⟨m, 0, none⟩ : Addr) ≠ ⟨B, i, none⟩ := fun i e => by injection e with e _; omega
  rw [World.cell?_setCell_other _ _ _ _ (fun e => n _ e.symm), World.cell?_setCell_other _ _ _ _ (fun e => n _ e.symm), World.cell?_setCell_other _ _ _ _ (fun e => n _ e.symm)]
  exact H.1
theorem row_set3 {W : World} {b g c B : Nat} {l : List Int} {x y z : Value} (h : Row W b g c l) (n : B ≠ g) : Row (((W.setCell ⟨B, 0, none⟩ x).setCell ⟨B, 1, none⟩ y).setCell ⟨B, 2, none⟩ z) b g c l :=
  ((h.kept (grown_setCell W B 0 x) (fun e => n (by injection e with e; exact e.symm))).kept (grown_setCell _ B 1 y) (fun e => n (by injection e with e; exact e.symm))).kept (grown_setCell _ B 2 z) (fun e => n (by injection e with e; exact e.symm))
theorem row_ext {W W' : World} {b g c : Nat} {l : List Int} (hb : Below W.heap.size W W') (h : Row W b g c l) : Row W' b g c l := h.below hb h.lt.2
/-- A box of three cells in a new world. -/
structure B3 (W : World) (B : Nat) (x y z : Value) : Prop where
  c0 : W.cell? ⟨B, 0, none⟩ = some x
  c1 : W.cell? ⟨B, 1, none⟩ = some y
  c2 : W.cell? ⟨B, 2, none⟩ = some z
  f0 : W.frozen? ⟨B, 0, none⟩ = false
  f1 : W.frozen? ⟨B, 1, none⟩ = false
  f2 : W.frozen? ⟨B, 2, none⟩ = false
  lt : B < W.heap.size
theorem B3.new (W : World) (x y z : Value) : B3 (W.alloc (.cells #[x, y, z] 54)) W.heap.size x y z := by
  refine ⟨?_, ?_, ?_, ?_, ?_, ?_, ?_⟩ <;> simp [go_sem]
theorem B3.drew {W : World} {B : Nat} {x y z : Value} (h : B3 W B x y z) : B3 W.drew B x y z := ⟨h.c0, h.c1, h.c2, h.f0, h.f1, h.f2, h.lt⟩
theorem B3.ext {W W' : World} {B : Nat} {x y z : Value} (h : B3 W B x y z) (hb : Below W.heap.size W W') : B3 W' B x y z := by
  have hbk := hb.block B h.lt
  have fz : ∀ i, W'.frozen? ⟨B, i, none⟩ = W.frozen? ⟨B, i, none⟩ := fun i => by unfold World.frozen?; rw [hbk]
  exact ⟨(hb.cell h.lt).trans h.c0, (hb.cell h.lt).trans h.c1, (hb.cell h.lt).trans h.c2, (fz 0).trans h.f0, (fz 1).trans h.f1, (fz 2).trans h.f2, Nat.lt_of_lt_of_le h.lt hb.size⟩
theorem B3.fr {P : Nat → Prop} {W W' : World} {B : Nat} {x y z : Value} (h : B3 W B x y z) (hF : Fr P W W') (hP : ¬ P B) : B3 W' B x y z :=
  ⟨(hF.cellAt ⟨B, 0, none⟩ h.lt hP).1.trans h.c0, (hF.cellAt ⟨B, 1, none⟩ h.lt hP).1.trans h.c1, (hF.cellAt ⟨B, 2, none⟩ h.lt hP).1.trans h.c2, (hF.cellAt ⟨B, 0, none⟩ h.lt hP).2.trans h.f0, (hF.cellAt ⟨B, 1, none⟩ h.lt hP).2.trans h.f1, (hF.cellAt ⟨B, 2, none⟩ h.lt hP).2.trans h.f2, Nat.lt_of_lt_of_le h.lt hF.size⟩
theorem B3.set {W : World} {B : Nat} {x y z x' y' z' : Value} (h : B3 W B x y z) : B3 (((W.setCell ⟨B, 0, none⟩ x').setCell ⟨B, 1, none⟩ y').setCell ⟨B, 2, none⟩ z') B x' y' z' := by
  have o : ∀ (V : World) (i j : Nat) (v : Value), i ≠ j → (V.setCell ⟨B, i, none⟩ v).cell? ⟨B, j, none⟩ = V.cell? ⟨B, j, none⟩ := fun V i j v n => World.cell?_setCell_other _ _ _ _ (by intro e; injection e with _ e; exact n e)
  refine ⟨?_, ?_, ?_, ?_, ?_, ?_, by simpa using h.lt⟩
  · rw [o _ 2 0 _ (by decide), o _ 1 0 _ (by decide)]; exact World.cell?_setCell_same' _ _ _ (by rw [h.c0]; rfl)
  · rw [o _ 2 1 _ (by decide)]; exact World.cell?_setCell_same' _ _ _ (by rw [o _ 0 1 _ (by decide), h.c1]; rfl)
  · exact World.cell?_setCell_same' _ _ _ (by rw [o _ 1 2 _ (by decide), o _ 0 2 _ (by decide), h.c2]; rfl)
  · rw [World.frozen?_setCell, World.frozen?_setCell, World.frozen?_setCell]; exact h.f0
  · rw [World.frozen?_setCell, World.frozen?_setCell, World.frozen?_setCell]; exact h.f1
  · rw [World.frozen?_setCell, World.frozen?_setCell, World.frozen?_setCell]; exact h.f2
/-- The rows and the box of the tree while it is made. -/
structure DT (X : Nat) (w0 W : World) (gi gp gz B N : Nat) : Prop where
  ri : Row W gi gi N (List.replicate N (-1))
  rp : Row W gp gp N (List.replicate N (-1))
  rz : Row W gz gz N (List.replicate N 0)
  bx : B3 W B (.slice (some ⟨gi, 0, none⟩) N N) (.slice (some ⟨gp, 0, none⟩) N N) (.slice (some ⟨gz, 0, none⟩) N N)
  ne : gi ≠ gp ∧ gi ≠ gz ∧ gp ≠ gz
  nb : B ≠ gi ∧ B ≠ gp ∧ B ≠ gz
  lo : X ≤ B ∧ X ≤ gi ∧ X ≤ gp ∧ X ≤ gz
  bl : Below X w0 W
theorem World.heap_drew' (w : World) : w.drew.heap = w.heap := rfl
theorem Below.set3' {X B : Nat} {w0 W : World} {x y z : Value} (h : Below X w0 W) (n : X ≤ B) : Below X w0 (((W.setCell ⟨B, 0, none⟩ x).setCell ⟨B, 1, none⟩ y).setCell ⟨B, 2, none⟩ z) :=
  ((h.setCell (p := ⟨B, 0, none⟩) n x).setCell (p := ⟨B, 1, none⟩) n y).setCell (p := ⟨B, 2, none⟩) n z
theorem below_ext {X : Nat} {w0 W W' : World} (h : Below X w0 W) (hX : X ≤ W.heap.size) (hb : Below W.heap.size W W') : Below X w0 W' := h.trans (hb.mono hX)
theorem dregionA {P : Program} {id : Nat} {ops : Array Oper} {a : Act} {w : World} {Q : Exit → Act → World → Prop} (A : Nat → Nat → Nat → Nat → Act) (R : World → Nat → Nat → Nat → Nat → Prop) (h : DLaid (∀ W gi gp gz B, R W gi gp gz B → NoPanic Q .normal (A gi gp gz B) W) → (Code.region id ops true).wp P (NoPanic Q) a w) (p : ∀ W gi gp gz B, R W gi gp gz B → NoPanic Q .normal (A gi gp gz B) W) : (Code.region id ops true).wp P Q a w := wp_region_noPanic (h ⟨p⟩)

theorem mem_succL' {ps : List (Int × Int)} {v y : Int} : y ∈ succL ps v ↔ (v, y) ∈ ps := by
  unfold succL
  simp only [List.mem_map, List.mem_filter, decide_eq_true_eq]
  constructor
  · rintro ⟨⟨a, b⟩, ⟨h, e⟩, e2⟩
    have e1 : a = v := e
    have e3 : b = y := e2
    rw [← e1, ← e3]; exact h
  · intro h; exact ⟨(v, y), ⟨h, rfl⟩, rfl⟩
theorem pair_nat {N : Nat} {ps : List (Int × Int)} (hg : GOk (N : Int) ps) {a b : Int} (h : (a, b) ∈ ps) : 0 ≤ a ∧ a < N ∧ 0 ≤ b ∧ b < N := by
  obtain ⟨i, hi, e⟩ := List.getElem_of_mem h
  have := hg.node i hi
  rw [List.getD_eq_getElem?_getD, List.getElem?_eq_getElem hi, Option.getD_some, e] at this
  exact ⟨this.1.1, this.1.2, this.2.1, this.2.2⟩
theorem mem_prev {ps : List (Int × Int)} {a b : Int} : (a, b) ∈ prev ps ↔ (b, a) ∈ ps := by
  unfold prev
  simp only [List.mem_map]
  constructor
  · rintro ⟨⟨x, y⟩, h, e⟩
    injection e with e1 e2
    have e1' : y = a := e1
    have e2' : x = b := e2
    rw [← e1', ← e2']; exact h
  · intro h; exact ⟨(b, a), h, rfl⟩
theorem mem_suD' {N : Nat} {ps qs : List (Int × Int)} (hg : GOk (N : Int) ps) (hq : qs = ps ∨ qs = prev ps) {v y : Nat} : y ∈ suD qs v ↔ ((v : Int), (y : Int)) ∈ qs := by
  unfold suD
  rw [List.mem_map]
  constructor
  · rintro ⟨z, hz, e⟩
    rw [mem_succL'] at hz
    have : 0 ≤ z := by
      rcases hq with rfl | rfl
      · exact (pair_nat hg hz).2.2.1
      · exact (pair_nat hg (mem_prev.1 hz)).1
    rw [← e, Int.toNat_of_nonneg this]; exact hz
  · intro h; exact ⟨(y : Int), mem_succL'.2 h, rfl⟩
theorem preds_iff {N : Nat} {ps : List (Int × Int)} (hg : GOk (N : Int) ps) (x y : Nat) : y ∈ suD (prev ps) x ↔ x ∈ suD ps y := by
  rw [mem_suD' hg (.inr rfl), mem_suD' hg (.inl rfl), mem_prev]
theorem preds_lt {N : Nat} {ps : List (Int × Int)} (hg : GOk (N : Int) ps) (x : Nat) : ∀ y ∈ suD (prev ps) x, y < N := fun y hy => by
  have := pair_nat hg (mem_prev.1 ((mem_suD' hg (.inr rfl)).1 hy)); omega
theorem ni_preds {N : Nat} {ps : List (Int × Int)} (hg : GOk (N : Int) ps) (v : Nat) : ni (suD (prev ps) v) = succL (prev ps) (v : Int) := by
  unfold ni suD
  rw [List.map_map]
  conv => rhs; rw [← List.map_id (succL (prev ps) (v : Int))]
  refine List.map_congr_left fun y hy => ?_
  have := pair_nat hg (mem_prev.1 (mem_succL'.1 hy))
  show ((y.toNat : Nat) : Int) = y
  omega
theorem rowsI_of {W : World} {X G N : Nat} {vs : List Value} {ps : List (Int × Int)} (hg : GOk (N : Int) ps) (h : Rws W X (.slice (some ⟨G, 0, none⟩) vs.length N) vs (listsL N (prev ps))) : RowsI W G N (suD (prev ps)) := fun v hv => by
  obtain ⟨a, c, h1, h2, h3, _⟩ := h.at_ (i := v) (by rw [length_listsL]; exact hv)
  have e : (listsL N (prev ps)).getD v [] = ni (suD (prev ps) v) := by rw [getD_listsL hv, ni_preds hg]
  rw [e] at h1 h3
  rw [ni_len] at h1
  exact ⟨a, c, h1, h3⟩
theorem dh_keep {W X X' : World} {p0 p1 p2 q0 q1 : Addr} {u0 u1 u2 v0 v1 : Value} (H : X.cell? p0 = some u0 ∧ X.cell? p1 = some u1 ∧ X.cell? p2 = some u2 ∧ X.cell? q0 = some v0 ∧ X.cell? q1 = some v1 ∧ Below W.heap.size W X) (hb : Below X.heap.size X X') :
    X'.cell? p0 = some u0 ∧ X'.cell? p1 = some u1 ∧ X'.cell? p2 = some u2 ∧ X'.cell? q0 = some v0 ∧ X'.cell? q1 = some v1 ∧ Below W.heap.size W X' :=
  ⟨(hb.cell (World.block_lt_of_cell? _ _ H.1)).trans H.1, (hb.cell (World.block_lt_of_cell? _ _ H.2.1)).trans H.2.1, (hb.cell (World.block_lt_of_cell? _ _ H.2.2.1)).trans H.2.2.1, (hb.cell (World.block_lt_of_cell? _ _ H.2.2.2.1)).trans H.2.2.2.1, (hb.cell (World.block_lt_of_cell? _ _ H.2.2.2.2.1)).trans H.2.2.2.2.1, H.2.2.2.2.2.trans (hb.mono H.2.2.2.2.2.size)⟩
theorem own_ints {W : World} {b g n c : Nat} {zs : List Int} (h : Own W b (.slice (some ⟨g, 0, none⟩) n c) zs) (hl : zs.length = n) : Ints W (some ⟨g, 0, none⟩) zs := by
  subst hl; exact Row.ints (base := b) (cap := c) h
/-- The immediate dominators of the numbers below i, by node. -/
structure IDs (N k : Nat) (nd : List Nat) (D : Nat → Nat) (id : List Int) (i : Nat) : Prop where
  ln : id.length = N
  at_ : ∀ j, 0 < j → j < i → id.getD (nd.getD j 0) 0 = ((nd.getD (D j) 0 : Nat) : Int)
  off : ∀ v, v < N → (∀ j, 0 < j → j < i → nd.getD j 0 ≠ v) → id.getD v 0 = -1
theorem IDs.start {N k : Nat} {nd : List Nat} {D : Nat → Nat} : IDs N k nd D (List.replicate N (-1)) 0 :=
  ⟨by simp, fun j a b => by omega, fun v hv _ => by simp [List.getD_eq_getElem?_getD, hv]⟩
theorem IDs.skip {N k : Nat} {nd : List Nat} {D : Nat → Nat} {id : List Int} (h : IDs N k nd D id 0) : IDs N k nd D id 1 :=
  ⟨h.ln, fun j a b => by omega, fun v hv _ => h.off v hv (fun j a b => by omega)⟩
theorem IDs.step {N k i : Nat} {nd : List Nat} {D : Nat → Nat} {id : List Int} (h : IDs N k nd D id i) (hn : nd.Nodup) (hl : nd.length = k) (hN : ∀ v ∈ nd, v < N) (h0 : 0 < i) (hi : i < k) : IDs N k nd D (id.set (nd.getD i 0) ((nd.getD (D i) 0 : Nat) : Int)) (i + 1) := by
  have hv : nd.getD i 0 < id.length := by rw [h.ln]; exact hN _ (at_mem (by omega))
  refine ⟨by rw [List.length_set]; exact h.ln, fun j a b => ?_, fun v hv2 hj => ?_⟩
  · by_cases e : j = i
    · subst e; exact getD_set_self _ hv
    · rw [getD_set_far _ (fun q => e (nd_inj hn (by omega) (by omega) q))]; exact h.at_ j a (by omega)
  · rw [getD_set_far _ (fun q => hj i h0 (by omega) q.symm)]; exact h.off v hv2 (fun j a b => hj j a (by omega))

set_option maxHeartbeats 40000000 in
set_option maxRecDepth 100000 in
theorem doms_good (N root : Nat) (a : Option Addr) (n c : Nat) (ps : List (Int × Int)) (hl : ps.length = n) (w : World) (hE : Pairs w a ps) (hok : gchk (N : Int) ps = 0) (hr : root < N) :
    Calls Try.prog 30 #[.agg #[.int .i64 (N : Int), .slice a n c], .int .i64 (root : Int)] w (DomsEnd w N root ps) := by
  have hg := gchk_ok hok
  have hlen := hg.len
  have hN := hg.hi
  rw [hl] at hlen
  have hnd : isNd (N : Int) (root : Int) = true := isNd_iff.2 ⟨by omega, by omega⟩
  obtain ⟨w0, hw0⟩ : ∃ w0, w.alloc (Obj.cells #[Value.int .i64 (N : Int), Value.slice a n c] 24) = w0 := ⟨_, rfl⟩
  have hz0 : w0.heap.size = w.heap.size + 1 := by rw [← hw0]; simp
  obtain ⟨w1, hw1⟩ : ∃ w1, w0.alloc (Obj.cells #[Value.slice none 0 0, Value.slice none 0 0, Value.slice none 0 0] 54) = w1 := ⟨_, rfl⟩
  have hz1 : w1.heap.size = w.heap.size + 2 := by rw [← hw1]; simp [hz0]
  have g0 : w1.cell? ⟨w.heap.size, 0, none⟩ = some (.int .i64 (N : Int)) := by rw [← hw1, ← hw0]; simp [go_sem]
  have g1 : w1.cell? ⟨w.heap.size, 1, none⟩ = some (.slice a n c) := by rw [← hw1, ← hw0]; simp [go_sem]
  have v0 : w1.cell? ⟨w.heap.size + 1, 0, none⟩ = some (.slice none 0 0) := by rw [← hw1, ← hw0]; simp [go_sem]
  have v1 : w1.cell? ⟨w.heap.size + 1, 1, none⟩ = some (.slice none 0 0) := by rw [← hw1, ← hw0]; simp [go_sem]
  have v2 : w1.cell? ⟨w.heap.size + 1, 2, none⟩ = some (.slice none 0 0) := by rw [← hw1, ← hw0]; simp [go_sem]
  have hvh : w1.heap[w.heap.size + 1]? = some (.cells #[.slice none 0 0, .slice none 0 0, .slice none 0 0] 54 (0, 0)) := by
    rw [← hw1, ← hz0]; exact heap_alloc_new _ _
  have hb1 : Below w.heap.size w w1 := by rw [← hw1, ← hw0]; exact ((Below.refl w.heap.size w).alloc (Nat.le_refl _) _).alloc (by simp) _
  have hzz : w.heap.size + 1 < w1.heap.size := by omega
  have HB3 : Hid (B3 w1 (w.heap.size + 1) (.slice none 0 0) (.slice none 0 0) (.slice none 0 0)) := by
    show B3 w1 (w.heap.size + 1) (.slice none 0 0) (.slice none 0 0) (.slice none 0 0)
    have := B3.new w0 (.slice none 0 0) (.slice none 0 0) (.slice none 0 0)
    rw [hw1, hz0] at this; exact this
  have HB1 := Lib.hid hb1
  have HE := Lib.hid (hE.below hb1 (Nat.le_refl _))
  have Hl := Lib.hid hl
  have Hg := Lib.hid hg
  have Hok := Lib.hid hok
  have Hw0 := Lib.hid hw0
  have Hw1 := Lib.hid hw1
  have Hnd := Lib.hid hnd
  have Hvh := Lib.hid hvh
  clear hE hl hg hok hw0 hw1 hb1 hz0 hz1 hnd hvh
  go_enter Try.func30, Try.ntmps30
  go_wp2_with fail
  rw [Hw0.out, Hw1.out]
  have hck := check_any (N : Int) a c ps w1 (by rw [Hl.out]; unfold maxLen; omega) HE.out
  rw [Hok.out, Hl.out] at hck
  refine hck.mono ?_
  rintro e w2 ⟨rfl, hb2⟩
  have c20 := (hb2.cell (p := ⟨w.heap.size, 0, none⟩) (by show w.heap.size < w1.heap.size; omega)).trans g0
  have c21 := (hb2.cell (p := ⟨w.heap.size, 1, none⟩) (by show w.heap.size < w1.heap.size; omega)).trans g1
  have HB2 := Lib.hid hb2
  have hs2 := hb2.size
  clear hb2 hck
  go_wp2_with fail
  refine (dnode_any (N : Int) (root : Int) a n c true Hnd.out w2).mono ?_
  rintro e w3 ⟨rfl, hb3⟩
  have hs3 := hb3.size
  have hb13 := HB2.out.trans (hb3.mono hs2)
  have c30 := (hb13.cell (p := ⟨w.heap.size, 0, none⟩) (by show w.heap.size < w1.heap.size; omega)).trans g0
  have c31 := (hb13.cell (p := ⟨w.heap.size, 1, none⟩) (by show w.heap.size < w1.heap.size; omega)).trans g1
  have HB13 := Lib.hid hb13
  clear hb3 hb13 c20 c21 HB2
  go_wp2_with fail
  refine (explore_any N root a n c ps Hl.out w3 (HE.out.below HB13.out (Nat.le_refl _)) Hg.out hr).mono ?_
  rintro e w4 ⟨un, R, up, nd, par, nm, pa, rest, rfl, hex, hnm, hnl, hpa, hun, hR, hup, hb4⟩
  have hs4 := hb4.size
  obtain ⟨k, hk⟩ : ∃ k, nd.length = k := ⟨_, rfl⟩
  have hk0 : 0 < k := by rw [← hk]; exact hex.ne
  have hkN := d_nodup_len hex.nodup hex.node
  rw [hk] at hkN
  obtain ⟨bn, cn, rfl, hkc, _, hbn1, hbn2⟩ := d_shape hun (by rw [ni_len]; exact hk) hk0
  obtain ⟨bq, cq, rfl, _, _, hbq1, hbq2⟩ := d_shape hup (by rw [hpa.1, hex.lp]; exact hk) hk0
  have hb14 := HB13.out.trans (hb4.mono (by omega))
  have c40 := (hb14.cell (p := ⟨w.heap.size, 0, none⟩) (by show w.heap.size < w1.heap.size; omega)).trans g0
  have c41 := (hb14.cell (p := ⟨w.heap.size, 1, none⟩) (by show w.heap.size < w1.heap.size; omega)).trans g1
  have HB4 := Lib.hid hb14
  have Hex := Lib.hid hex
  have Hnm := Lib.hid hnm
  have Hnl := Lib.hid hnl
  have Hpa := Lib.hid hpa
  have Hun := Lib.hid hun
  have HR := Lib.hid hR
  have Hup := Lib.hid hup
  have Hk := Lib.hid hk
  have hRl := hR.lt
  clear hb4 hb14 hex hnm hnl hpa hun hR hup hk c30 c31 HB13
  obtain ⟨w5, hw5⟩ : ∃ w5, w4.alloc (Obj.cells #[.slice (some ⟨bn, 0, none⟩) k cn, .slice (some ⟨R, 0, none⟩) N N, .slice (some ⟨bq, 0, none⟩) k cq] 70) = w5 := ⟨_, rfl⟩
  have hz5 : w4.heap.size + 1 ≤ w5.heap.size := by rw [← hw5]; simp
  have hb5 : Below w4.heap.size w4 w5 := by rw [← hw5]; exact (Below.refl _ _).alloc (Nat.le_refl _) _
  have p0 : w5.cell? ⟨w4.heap.size, 0, none⟩ = some (.slice (some ⟨bn, 0, none⟩) k cn) := by rw [← hw5]; simp [go_sem]
  have p1 : w5.cell? ⟨w4.heap.size, 1, none⟩ = some (.slice (some ⟨R, 0, none⟩) N N) := by rw [← hw5]; simp [go_sem]
  have p2 : w5.cell? ⟨w4.heap.size, 2, none⟩ = some (.slice (some ⟨bq, 0, none⟩) k cq) := by rw [← hw5]; simp [go_sem]
  have c50 := (hb5.cell (p := ⟨w.heap.size, 0, none⟩) (by show w.heap.size < w4.heap.size; omega)).trans c40
  have c51 := (hb5.cell (p := ⟨w.heap.size, 1, none⟩) (by show w.heap.size < w4.heap.size; omega)).trans c41
  have Hw5 := Lib.hid hw5
  have HB5 := Lib.hid (HB4.out.trans (hb5.mono (by omega)))
  have Hb45 := Lib.hid hb5
  have HN : Hid (N ≤ 100000) := by show N ≤ 100000; omega
  clear c40 c41 hw5 hb5
  go_wp2
  rw [Hw5.out]
  have hS0 : w5.drew.cell? ⟨w.heap.size, 0, none⟩ = some (.int .i64 (N : Int)) ∧ Below w5.heap.size w5 w5.drew := ⟨c50, (Below.refl _ _).drew⟩
  have hSz : (w5.alloc (Obj.cells #[.slice none 0 0, .slice none 0 0, .slice none 0 0] 54)).drew.cell? ⟨w.heap.size, 0, none⟩ = some (.int .i64 (N : Int)) ∧ Below w5.heap.size w5 (w5.alloc (Obj.cells #[.slice none 0 0, .slice none 0 0, .slice none 0 0] 54)).drew :=
    ⟨(dk_alloc (W := w5) (X := w5) ⟨c50, Below.refl _ _⟩ _).1, ((Below.refl _ _).alloc (Nat.le_refl _) _).drew⟩
  refine dregionA (fun gi gp gz B => { tmps := #[.agg #[.int .i64 (N : Int), .slice a n c], .int .i64 (root : Int), .pointer (some ⟨w.heap.size, 0, none⟩), undef, .pointer (some ⟨w.heap.size + 1, 0, none⟩), .int .i64 0, .int .i64 0, .pointer (some ⟨w4.heap.size, 0, none⟩), .pointer (some ⟨B, 0, none⟩), undef, undef, .agg #[.int .i64 (N : Int), .slice a n c], .int .i64 0, .int .i64 0, .bool false, undef, undef, .agg #[.int .i64 (N : Int), .slice a n c], .int .i64 (root : Int), .bool true, .bool false, undef, .agg #[.int .i64 (N : Int), .slice a n c], .int .i64 (root : Int), .agg #[.slice (some ⟨bn, 0, none⟩) k cn, .slice (some ⟨R, 0, none⟩) N N, .slice (some ⟨bq, 0, none⟩) k cq], .pointer (some ⟨w.heap.size, 0, none⟩), .int .i64 (N : Int), .slice (some ⟨gi, 0, none⟩) N N, .pointer (some ⟨w.heap.size, 0, none⟩), .int .i64 (N : Int), .slice (some ⟨gp, 0, none⟩) N N, .pointer (some ⟨w.heap.size, 0, none⟩), .int .i64 (N : Int), .slice (some ⟨gz, 0, none⟩) N N, .agg #[.slice (some ⟨gi, 0, none⟩) N N, .slice (some ⟨gp, 0, none⟩) N N, .slice (some ⟨gz, 0, none⟩) N N], undef, undef, undef, undef, undef, undef, undef, undef, undef, undef, undef, undef, undef, undef, undef, undef, undef, undef, undef, undef, undef, undef, undef, undef, undef, undef, undef, undef, undef, undef, undef, undef, undef], defers := [] }) (fun W gi gp gz B => DT w5.heap.size w5 W gi gp gz B N) (fun key => ?_) ?_
  · have hm0 : w.heap.size < w5.heap.size := by omega
    clear HB3 p0 p1 p2 c51 c50 g0 g1 v0 v1 v2 HB1 HE Hl Hg Hok Hw0 Hw1 Hnd Hvh HB4 Hex Hnm Hnl Hpa Hun HR Hup Hk HB5 Hb45 Hw5 hlen hs2 hs3 hs4 hk0 hkN hbn1 hbn2 hbq1 hbq2 hkc hRl hz5 hzz hr hN
    obtain ⟨mk, hmk⟩ := made_world N HN.out
    have hmkE := fun X => (hmk X).1
    have hmkR := fun X => (hmk X).2.1
    have hmkB := fun X => (hmk X).2.2
    have hmkS := fun X => (hmkB X).size
    have hmkC : ∀ X q i, q < X.heap.size → (mk X).cell? ⟨q, i, none⟩ = X.cell? ⟨q, i, none⟩ := fun X q i h => (hmkB X).cell h
    have hmkF : ∀ X q i, q < X.heap.size → (mk X).frozen? ⟨q, i, none⟩ = X.frozen? ⟨q, i, none⟩ := fun X q i h => by unfold World.frozen?; rw [(hmkB X).block q h]
    have hmkL := fun X => (hmkR X).lt.2
    have hm3 := hmkL w5
    have hm4 := hmkL (w5.alloc (Obj.cells #[.slice none 0 0, .slice none 0 0, .slice none 0 0] 54))
    have hm5 := hmkL w5.drew
    have hm6 := hmkL (w5.alloc (Obj.cells #[.slice none 0 0, .slice none 0 0, .slice none 0 0] 54)).drew
    have hm7 : w5.drew.heap.size = w5.heap.size := rfl
    simp only [World.size_alloc, World.heap_drew'] at hm4 hm5 hm6 hm7
    have HmkR4 := Lib.hid (fun (X : World) => (show Row (mk X.drew) X.heap.size X.heap.size N (List.replicate N 0) from hmkR X.drew))
    have HmkR2 := Lib.hid (fun (X : World) (o : Obj) => (show Row (mk (X.alloc o)) (X.heap.size + 1) (X.heap.size + 1) N (List.replicate N 0) by have := hmkR (X.alloc o); rwa [World.size_alloc] at this))
    have HmkR3 := Lib.hid (fun (X : World) (o : Obj) => (show Row (mk (X.alloc o).drew) (X.heap.size + 1) (X.heap.size + 1) N (List.replicate N 0) by have := hmkR (X.alloc o).drew; rwa [World.size_drew, World.size_alloc] at this))
    have HmkR := Lib.hid hmkR
    have HmkB := Lib.hid hmkB
    clear hmk hmkR hmkB
    go_region_held3 (fun X => X.cell? ⟨w.heap.size, 0, none⟩ = some (.int .i64 (N : Int)) ∧ Below w5.heap.size w5 X)
      (first
        | with_reducible assumption
        | with_reducible exact dk_alloc (by with_reducible assumption) _
        | with_reducible exact dk_below (by with_reducible assumption) (HmkB.out _)
        | with_reducible exact dk_alloc (dk_below (by with_reducible assumption) (HmkB.out _)) _
        | with_reducible exact dk_set3 (by with_reducible assumption) hm0 (by first | exact Nat.le_refl _ | omega)
        | fail)
      (first
        | (go_at_call 46; (with_reducible refine Calls.mono (filled_g N (-1) _ HN.out) ?_); rintro e wA ⟨gA, rfl, hgA, hrA, hbA⟩; have hsA := hbA.size; (try simp only [World.size_alloc, World.heap_drew'] at hgA); (try simp only [World.size_alloc, World.heap_drew'] at hsA); have hlA := hrA.lt.2; have hm1 := hmkL wA; have hm2 := hmkL (wA.alloc (Obj.cells #[.slice none 0 0, .slice none 0 0, .slice none 0 0] 54)); (try simp only [World.size_alloc] at hm2); have hSA := dk_below (by with_reducible assumption) hbA; have hS2 := hSA.2.size; first | (with_reducible have bx := B3.ext (by with_reducible assumption) hbA; have bx0 := bx.c0; have bx1 := bx.c1; have bx2 := bx.c2; have by0 := bx.f0; have by1 := bx.f1; have by2 := bx.f2; have bm := bx.ext (HmkB.out _); have bm0 := bm.c0; have bm1 := bm.c1; have bm2 := bm.c2; have bn0 := bm.f0; have bn1 := bm.f1; have bn2 := bm.f2) | (with_reducible have bx := B3.ext (B3.new _ _ _ _) hbA; have bx0 := bx.c0; have bx1 := bx.c1; have bx2 := bx.c2; have by0 := bx.f0; have by1 := bx.f1; have by2 := bx.f2; have bm := bx.ext (HmkB.out _); have bm0 := bm.c0; have bm1 := bm.c1; have bm2 := bm.c2; have bn0 := bm.f0; have bn1 := bm.f1; have bn2 := bm.f2) | (with_reducible have bx := B3.ext (B3.drew (B3.new _ _ _ _)) hbA; have bx0 := bx.c0; have bx1 := bx.c1; have bx2 := bx.c2; have by0 := bx.f0; have by1 := bx.f1; have by2 := bx.f2; have bm := bx.ext (HmkB.out _); have bm0 := bm.c0; have bm1 := bm.c1; have bm2 := bm.c2; have bn0 := bm.f0; have bn1 := bm.f1; have bn2 := bm.f2) | (with_reducible have bx := B3.ext (B3.ext (by with_reducible assumption) (HmkB.out _)) hbA; have bx0 := bx.c0; have bx1 := bx.c1; have bx2 := bx.c2; have by0 := bx.f0; have by1 := bx.f1; have by2 := bx.f2; have bm := bx.ext (HmkB.out _); have bm0 := bm.c0; have bm1 := bm.c1; have bm2 := bm.c2; have bn0 := bm.f0; have bn1 := bm.f1; have bn2 := bm.f2) | (with_reducible have bx := B3.ext (B3.ext (B3.new _ _ _ _) (HmkB.out _)) hbA; have bx0 := bx.c0; have bx1 := bx.c1; have bx2 := bx.c2; have by0 := bx.f0; have by1 := bx.f1; have by2 := bx.f2; have bm := bx.ext (HmkB.out _); have bm0 := bm.c0; have bm1 := bm.c1; have bm2 := bm.c2; have bn0 := bm.f0; have bn1 := bm.f1; have bn2 := bm.f2) | (with_reducible have bx := B3.ext (B3.ext (B3.drew (B3.new _ _ _ _)) (HmkB.out _)) hbA; have bx0 := bx.c0; have bx1 := bx.c1; have bx2 := bx.c2; have by0 := bx.f0; have by1 := bx.f1; have by2 := bx.f2; have bm := bx.ext (HmkB.out _); have bm0 := bm.c0; have bm1 := bm.c1; have bm2 := bm.c2; have bn0 := bm.f0; have bn1 := bm.f1; have bn2 := bm.f2) | skip)
        | fail)
    all_goals
      with_reducible refine key.out _ _ _ _ _ ⟨?_, ?_, ?_, ?_, ?_, ?_, ?_, ?_⟩
      · repeat (first | with_reducible assumption | with_reducible exact HmkR.out _ | with_reducible exact HmkR4.out _ | with_reducible exact HmkR2.out _ _ | with_reducible exact HmkR3.out _ _ | with_reducible refine row_set3 ?_ (by omega) | with_reducible refine row_ext (HmkB.out _) ?_ | with_reducible refine row_ext (by with_reducible assumption) ?_ | with_reducible refine Row.alloc ?_ _)
      · repeat (first | with_reducible assumption | with_reducible exact HmkR.out _ | with_reducible exact HmkR4.out _ | with_reducible exact HmkR2.out _ _ | with_reducible exact HmkR3.out _ _ | with_reducible refine row_set3 ?_ (by omega) | with_reducible refine row_ext (HmkB.out _) ?_ | with_reducible refine row_ext (by with_reducible assumption) ?_ | with_reducible refine Row.alloc ?_ _)
      · repeat (first | with_reducible assumption | with_reducible exact HmkR.out _ | with_reducible exact HmkR4.out _ | with_reducible exact HmkR2.out _ _ | with_reducible exact HmkR3.out _ _ | with_reducible refine row_set3 ?_ (by omega) | with_reducible refine row_ext (HmkB.out _) ?_ | with_reducible refine row_ext (by with_reducible assumption) ?_ | with_reducible refine Row.alloc ?_ _)
      · repeat (first | with_reducible assumption | with_reducible exact B3.new _ _ _ _ | with_reducible exact B3.drew (B3.new _ _ _ _) | with_reducible refine B3.set (x := .slice none 0 0) (y := .slice none 0 0) (z := .slice none 0 0) ?_ | with_reducible refine B3.ext ?_ (HmkB.out _) | with_reducible refine B3.ext ?_ (by with_reducible assumption))
      · refine ⟨?_, ?_, ?_⟩ <;> (try simp only [World.size_alloc, World.heap_drew']) <;> omega
      · refine ⟨?_, ?_, ?_⟩ <;> (try simp only [World.size_alloc, World.heap_drew']) <;> omega
      · refine ⟨?_, ?_, ?_, ?_⟩ <;> (try simp only [World.size_alloc, World.heap_drew']) <;> omega
      · exact And.right (by with_reducible assumption)
  · intro W gi gp gz B hD
    refine NoPanic.normal ?_
    have hbl := hD.bl
    have hsW := hbl.size
    have p0W := (hbl.cell (p := ⟨w4.heap.size, 0, none⟩) (by show w4.heap.size < w5.heap.size; omega)).trans p0
    have p1W := (hbl.cell (p := ⟨w4.heap.size, 1, none⟩) (by show w4.heap.size < w5.heap.size; omega)).trans p1
    have p2W := (hbl.cell (p := ⟨w4.heap.size, 2, none⟩) (by show w4.heap.size < w5.heap.size; omega)).trans p2
    have c0W := (hbl.cell (p := ⟨w.heap.size, 0, none⟩) (by show w.heap.size < w5.heap.size; omega)).trans c50
    have c1W := (hbl.cell (p := ⟨w.heap.size, 1, none⟩) (by show w.heap.size < w5.heap.size; omega)).trans c51
    have HD := Lib.hid hD
    have HBW := Lib.hid (HB5.out.trans (hbl.mono (by omega)))
    have HUn := Lib.hid ((Hun.out.below Hb45.out (Nat.le_refl _)).below hbl (Nat.le_refl _))
    have HUp := Lib.hid ((Hup.out.below Hb45.out (Nat.le_refl _)).below hbl (Nat.le_refl _))
    have HRw := Lib.hid ((HR.out.below Hb45.out hRl.2).below hbl (by omega))
    clear hD hbl hS0 hSz
    have hpaz := Hpa.out
    have hPz : pa.getD 0 0 = -1 := hpaz.2.1
    have hPn : ∀ j, 0 < j → j < k → pa.getD j 0 = (pf par j : Int) := fun j x y => hpaz.2.2 j x (by rw [Hex.out.lp, Hk.out]; exact y)
    have hPl : pa.length = k := by rw [hpaz.1, Hex.out.lp, Hk.out]
    have hTr := Hex.out.tree
    rw [Hk.out] at hTr
    have HPz := Lib.hid hPz
    have HPn := Lib.hid hPn
    have HPl := Lib.hid hPl
    have HTr := Lib.hid hTr
    have HkN : Hid (k ≤ 8192) := by show k ≤ 8192; omega
    have hS8 : W.drew.cell? ⟨w4.heap.size, 0, none⟩ = some (.slice (some ⟨bn, 0, none⟩) k cn) ∧ W.drew.cell? ⟨w4.heap.size, 1, none⟩ = some (.slice (some ⟨R, 0, none⟩) N N) ∧ W.drew.cell? ⟨w4.heap.size, 2, none⟩ = some (.slice (some ⟨bq, 0, none⟩) k cq) ∧ W.drew.cell? ⟨w.heap.size, 0, none⟩ = some (.int .i64 (N : Int)) ∧ W.drew.cell? ⟨w.heap.size, 1, none⟩ = some (.slice a n c) ∧ Below W.heap.size W W.drew := ⟨p0W, p1W, p2W, c0W, c1W, (Below.refl _ _).drew⟩
    have HEW : Hid (∀ X, Below W.heap.size W X → Pairs X a ps) := fun X hX => (HE.out.below ((HB4.out.trans (Hb45.out.mono (by omega))).trans (HD.out.bl.mono (by omega))) (Nat.le_refl _)).below hX (Nat.le_refl _)
    have HUnW : Hid (∀ X, Below W.heap.size W X → Ints X (some ⟨bn, 0, none⟩) (ni nd)) := fun X hX => by
      have := own_ints (HUn.out) (by rw [ni_len]; exact Hk.out)
      exact this.below hX (Nat.le_refl _)
    have HUpW : Hid (∀ X, Below W.heap.size W X → Ints X (some ⟨bq, 0, none⟩) pa) := fun X hX => (own_ints HUp.out hPl).below hX (Nat.le_refl _)
    have HRW : Hid (∀ X, Below W.heap.size W X → Ints X (some ⟨R, 0, none⟩) nm) := fun X hX => HRw.out.ints.below hX (Nat.le_refl _)
    have hgo := Hg.out
    have HprI := Lib.hid (fun (x y : Nat) (_ : x < N) (_ : y < N) => preds_iff hgo x y)
    have HprN := Lib.hid (preds_lt hgo)
    have HprL : Hid (∀ v, (suD (prev ps) v).length ≤ 100000) := fun v => by
      have h := suD_len (prev ps) v
      rw [length_prev, Hl.out] at h; omega
    clear hpaz hPz hPn hPl hTr hgo p0W p1W p2W c0W c1W HE HUn HUp HRw
    go_wp2
    go_region_held3 (fun X => X.cell? ⟨w4.heap.size, 0, none⟩ = some (.slice (some ⟨bn, 0, none⟩) k cn) ∧ X.cell? ⟨w4.heap.size, 1, none⟩ = some (.slice (some ⟨R, 0, none⟩) N N) ∧ X.cell? ⟨w4.heap.size, 2, none⟩ = some (.slice (some ⟨bq, 0, none⟩) k cq) ∧ X.cell? ⟨w.heap.size, 0, none⟩ = some (.int .i64 (N : Int)) ∧ X.cell? ⟨w.heap.size, 1, none⟩ = some (.slice a n c) ∧ Below W.heap.size W X)
      (first
        | with_reducible assumption
        | fail)
      (first
        | (go_at_call 36; (with_reducible refine Calls.mono (preds_pairs N a n c ps Hl.out _ (HEW.out _ (Below.refl _ _).drew) Hg.out) ?_); rintro e wA ⟨G, vs, rfl, hvs, hrw, hbA⟩; have hSA := dh_keep hS8 hbA; have HrI := Lib.hid (rowsI_of Hg.out hrw); clear hrw)
        | (go_at_call 48; (with_reducible refine Calls.mono (semis_any N root (suD ps) (suD (prev ps)) nd par rest nm pa bn cn R N bq cq G N k wA Hex.out Hnm.out Hnl.out Hpa.out Hk.out HkN.out HprL.out HprI.out HprN.out (HUnW.out _ hSA.2.2.2.2.2) (HRW.out _ hSA.2.2.2.2.2) (HUpW.out _ hSA.2.2.2.2.2) HrI.out) ?_); rintro e wB ⟨gs, cs, sl, s, rfl, hrs, hls, hsem, hsn, hbB⟩; have hSB := dh_keep hSA hbB; have Hrs := Lib.hid hrs; have Hls := Lib.hid hls; have Hsem := Lib.hid hsem; have Hsn := Lib.hid hsn; clear hrs hls hsem hsn)
        | (go_at_call 47; (with_reducible refine Calls.mono (idoms_any k (FN (suD ps) nd) (pf par) s HTr.out Hsem.out hk0 HkN.out _ _ bq cq gs cs pa sl wB HPl.out HPz.out HPn.out (HUpW.out _ hSB.2.2.2.2.2) Hls.out Hsn.out Hrs.out.ints) ?_); rintro e wC ⟨gd, cd, l, rfl, hrd, hil, hbC⟩; have hSC := dh_keep hSB hbC; have Hrd := Lib.hid hrd; have Hil := Lib.hid hil; clear hrd hil)
        | fail)
    have bC := hSC.2.2.2.2.2
    have hsC := bC.size
    have hsB := hSB.2.2.2.2.2.size
    have lgi := HD.out.ri.lt.2
    have lgp := HD.out.rp.lt.2
    have lgz := HD.out.rz.lt.2
    have hne := HD.out.ne
    have hnb := HD.out.nb
    have hlo := HD.out.lo
    have hgd := Hrd.out.lt
    have lB := HD.out.bx.lt
    have hbnb : bn < W.heap.size := by
      have := HD.out.bl.size; omega
    have HbxC := Lib.hid (HD.out.bx.ext bC)
    have Hri := Lib.hid (HD.out.ri.below bC lgi)
    have Hrp := Lib.hid (HD.out.rp.below bC lgp)
    have Hrz := Lib.hid (HD.out.rz.below bC lgz)
    have HBC := Lib.hid (HBW.out.trans (bC.mono (by have := HBW.out.size; exact this)))
    have HnC := Lib.hid (HUnW.out _ bC)
    have sC := hSC.1
    have HhC := Lib.hid hsC
    clear hSA hSB hSC hS8 bC
    go_wp2
    go_loopw [42] (fun x W' => ∃ (i : Nat) (id : List Int), x = .int .i64 (i : Int) ∧ i ≤ k ∧ Hid (Row W' gi gi N id) ∧ Hid (IDs N k nd (dn l) id i) ∧ Hid (Fr (fun q => q = gi) wC W')) (fun x _ => k - (intOf x).toNat)
    case atStart => exact ⟨0, _, rfl, Nat.zero_le _, Hri, IDs.start, Fr.refl _ _⟩
    case round =>
      obtain ⟨i, id, rfl, hik, hrow, hids, hfr⟩ := hrel
      have x0 := (hfr.out.cellAt ⟨B, 0, none⟩ (by show B < _; omega) (by show ¬ B = gi; omega)).1.trans HbxC.out.c0
      have x1 := (hfr.out.cellAt ⟨B, 1, none⟩ (by show B < _; omega) (by show ¬ B = gi; omega)).1.trans HbxC.out.c1
      have x2 := (hfr.out.cellAt ⟨B, 2, none⟩ (by show B < _; omega) (by show ¬ B = gi; omega)).1.trans HbxC.out.c2
      have y0 := (hfr.out.cellAt ⟨w4.heap.size, 0, none⟩ (World.block_lt_of_cell? _ _ sC) (by show ¬ w4.heap.size = gi; omega)).1.trans sC
      by_cases hlt : i < k
      · have hcl := Hrd.out.cell (i := i) (by rw [Hil.out.len]; exact hlt)
        have cl := (hfr.out.cellAt ⟨gd, i, none⟩ (World.block_lt_of_cell? _ _ hcl) (by show ¬ gd = gi; omega)).1.trans hcl
        by_cases h0 : i = 0
        · rw [h0, Hil.out.zero] at cl
          have hids1 : Hid (IDs N k nd (dn l) id (i + 1)) := by
            show IDs N k nd (dn l) id (i + 1)
            rw [h0]; exact IDs.skip (h0 ▸ hids.out)
          have hcl0 : wr.cell? ⟨gd, i, none⟩ = some (.int .i64 (-1)) := by rw [h0]; exact cl
          clear hcl cl hids h0
          go_wp2
          go_roundw
          case rel => exact ⟨i + 1, id, by go_num, hlt, hrow, hids1, hfr⟩
          case measure => simp [intOf]; omega
        · have hdl := (Hil.out.isD i (by omega) hlt).1
          rw [Hil.out.nat i (by omega) hlt] at cl
          have hn1 := ints_cell' (fr_ints hfr.out HnC.out (by show ¬ bn = gi; omega)) (i := i) (by rw [ni_len, Hk.out]; exact hlt)
          have hn2 := ints_cell' (fr_ints hfr.out HnC.out (by show ¬ bn = gi; omega)) (i := dn l i) (by rw [ni_len, Hk.out]; omega)
          have hn0 : ∀ j, j < k → (ni nd).getD j 0 = ((nd.getD j 0 : Nat) : Int) := fun j hj => by
            unfold ni; simp [List.getD_eq_getElem?_getD, show j < nd.length by rw [Hk.out]; exact hj]
          rw [hn0 i hlt] at hn1
          rw [hn0 _ (by omega)] at hn2
          have hst := hids.out.step Hex.out.nodup Hk.out Hex.out.node (by omega) hlt
          have hvN : nd.getD i 0 < N := Hex.out.node _ (at_mem (by rw [Hk.out]; exact hlt))
          have ci := hrow.out.cell (i := nd.getD i 0) (by rw [hids.out.ln]; exact hvN)
          have fi := hrow.out.free (nd.getD i 0)
          have hr2 := hrow.out.set (nd.getD i 0) ((nd.getD (dn l i) 0 : Nat) : Int)
          have hf2 := hfr.out.set gi (nd.getD i 0) (.int .i64 ((nd.getD (dn l i) 0 : Nat) : Int)) (fun _ => rfl)
          obtain ⟨d, hd⟩ : ∃ d, dn l i = d := ⟨_, rfl⟩
          rw [hd] at cl hn2 hst hr2 hf2 hdl
          obtain ⟨v, hv⟩ : ∃ v, nd.getD i 0 = v := ⟨_, rfl⟩
          obtain ⟨u, hu⟩ : ∃ v, nd.getD d 0 = v := ⟨_, rfl⟩
          rw [hv] at hn1 hst ci fi hr2 hf2 hvN
          rw [hu] at hn2 hst hr2 hf2
          obtain ⟨iv, hiv⟩ : ∃ y, id.getD v 0 = y := ⟨_, rfl⟩
          rw [hiv] at ci
          have hdk : d < k := by omega
          have Hst := Lib.hid hst
          have Hr2 := Lib.hid hr2
          have Hf2 := Lib.hid hf2
          clear hcl hids hrow hfr hst hr2 hf2 hn0 hd hv hu hiv
          go_wp2
          go_region
          go_wp2
          go_roundw
          case rel => exact ⟨i + 1, _, by go_num, hlt, (show Hid (Row _ _ _ _ _) from Hr2.out.drewN 1), Hst, (show Hid (Fr _ _ _) from Hf2.out.drewN 1)⟩
          case measure => simp [intOf]; omega
      · obtain rfl : k = i := by omega
        have hnd0 : nd.getD 0 0 ∈ nd := at_mem (by rw [Hk.out]; exact hk0)
        have hT : TreeOf N k nd (dn l) id := ⟨hids.out.ln, hk0, Hk.out, Hex.out.nodup, Hex.out.node, hids.out.at_, fun i a b => (Hil.out.isD i a b).1,
          hids.out.off _ (Hex.out.node _ hnd0) (fun j a b e => by have := nd_inj Hex.out.nodup (by rw [Hk.out]; exact b) (by rw [Hk.out]; exact hk0) e; omega),
          fun v hv hn => hids.out.off v hv (fun j a b e => hn (e ▸ at_mem (by rw [Hk.out]; exact b)))⟩
        have hmeas := measure_any N k nd (dn l) id gi N gp N gz N bn cn wr hT HkN.out hkc (by omega) hrow.out.ints (hfr.out.own Hrp.out (fun q hq e => hne.1 (by have e1 : gp = q := (by simpa [Value.ownBlock] using hq); have e2 : q = gi := e; omega))) (hfr.out.own Hrz.out (fun q hq e => hne.2.1 (by have e1 : gz = q := (by simpa [Value.ownBlock] using hq); have e2 : q = gi := e; omega))) (fr_ints hfr.out HnC.out (by show ¬ bn = gi; omega)) hne.1 hne.2.1 (by omega) (by omega) hne.2.2
        have HT := Lib.hid hT
        have Hmeas := Lib.hid hmeas
        have hsr := hfr.out.size
        have hB3 : B3 wr (w.heap.size + 1) (.slice none 0 0) (.slice none 0 0) (.slice none 0 0) := B3.fr (B3.ext HB3.out HBC.out) hfr.out (by show ¬ w.heap.size + 1 = gi; omega)
        have HBr := Lib.hid (hfr.out.belowOf HBC.out (fun q e => by have e1 : q = gi := e; omega) (by have := HBC.out.size; exact this))
        have HB3r := Lib.hid hB3
        have HbxR := Lib.hid (B3.fr HbxC.out hfr.out (by show ¬ B = gi; omega))
        clear hT hmeas hB3 hids hfr hnd0
        go_wp2_with fail
        refine Hmeas.out.mono ?_
        rintro e wM ⟨rfl, pl, z, fr, hp, hz, hzf, hpi, hF⟩
        have lgir := hrow.out.lt.2
        have nB : ¬ (B = gp ∨ B = gz) := by omega
        have nR : ¬ (w.heap.size + 1 = gp ∨ w.heap.size + 1 = gz) := by omega
        have hbx := B3.fr HbxR.out hF nB
        have hb3 := B3.fr HB3r.out hF nR
        have z0 := hbx.c0
        have z1 := hbx.c1
        have z2 := hbx.c2
        have r0 := hb3.c0
        have r1 := hb3.c1
        have r2 := hb3.c2
        have s0 := hb3.f0
        have s1 := hb3.f1
        have s2 := hb3.f2
        have hend : DomsEnd w N root ps (.returned (.tuple #[.agg #[.slice (some ⟨gi, 0, none⟩) N N, .slice (some ⟨gp, 0, none⟩) N N, .slice (some ⟨gz, 0, none⟩) N N], .int .i64 0])) (((wM.setCell ⟨w.heap.size + 1, 0, none⟩ (.slice (some ⟨gi, 0, none⟩) N N)).setCell ⟨w.heap.size + 1, 1, none⟩ (.slice (some ⟨gp, 0, none⟩) N N)).setCell ⟨w.heap.size + 1, 2, none⟩ (.slice (some ⟨gz, 0, none⟩) N N)) := by
          have hri : Row wM gi gi N id := hF.own hrow.out (fun q hq e => by
            have e1 : gi = q := (by simpa [Value.ownBlock] using hq)
            have e2 : q = gp ∨ q = gz := e
            omega)
          refine ⟨gi, gp, gz, id, pl, z, rfl, (row_set3 hri (by omega)).mono (by omega), (row_set3 hp (by omega)).mono (by omega), (row_set3 hz (by omega)).mono (by omega), ⟨nd, par, rest, dn l, k, fr, Hex.out, HT.out, Hil.out.isD, hzf, hpi⟩, ?_⟩
          have h1 : Below w1.heap.size w1 wM := hF.belowOf HBr.out (fun q e => by have e2 : q = gp ∨ q = gz := e; omega) HBr.out.size
          exact Below.set3' (HB1.out.trans (h1.mono (by omega))) (by omega)
        have hset := B3.set (x' := .slice (some ⟨gi, 0, none⟩) N N) (y' := .slice (some ⟨gp, 0, none⟩) N N) (z' := .slice (some ⟨gz, 0, none⟩) N N) hb3
        have t0 := hset.c0
        have t1 := hset.c1
        have t2 := hset.c2
        have Hend := Lib.hid hend
        clear hp hz hzf hpi hF hbx hb3 hend hset
        go_wp2
        refine bodyPost_ret (v := .tuple #[.agg #[.slice (some ⟨gi, 0, none⟩) N N, .slice (some ⟨gp, 0, none⟩) N N, .slice (some ⟨gz, 0, none⟩) N N], .int .i64 0]) (by simp [results, Try.results30, go_sem, t0, t1, t2]) rfl ?_
        exact Hend.out
end Go.Proofs.Ytcmliokkamgcdaa
