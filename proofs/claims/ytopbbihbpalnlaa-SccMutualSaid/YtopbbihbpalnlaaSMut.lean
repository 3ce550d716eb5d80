/-
  SccMutual: the walk of the law.
-/
import Derived.Test.YtopbbihbpalnlaaSAwake
import Derived.Test.YtopbbihbpalnlaaSOf
import Derived.Test.YtopbbihbpalnlaaSDist
import Derived.Test.YtopbbihbpalnlaaSRefN
namespace Go.Proofs.Ytopbbihbpalnlaa
open Go.RowKit Go.Shelf Go.WideShapes
set_option linter.unusedVariables false
theorem wk_rc {N : Nat} {ps : List (Int × Int)} (hg : GOk (N : Int) ps) {x n : Nat} {b : Int} (h : D.Wk ps (x : Int) n b) : ∃ y : Nat, b = (y : Int) ∧ Rc (suN ps) x y := by
  induction h with
  | nil => exact ⟨x, rfl, .refl⟩
  | @snoc n u b _ he ih =>
    obtain ⟨y, rfl, hr⟩ := ih
    obtain ⟨_, h1, h2⟩ := hg.fit _ he
    simp only at h1 h2
    refine ⟨b.toNat, by omega, hr.tail ((mem_suN hg).mpr ?_)⟩
    rw [show ((b.toNat : Nat) : Int) = b by omega]
    exact he
theorem rc_wk {N : Nat} {ps : List (Int × Int)} (hg : GOk (N : Int) ps) {x y : Nat} (h : Rc (suN ps) x y) : ∃ n, D.Wk ps (x : Int) n (y : Int) := by
  induction h with
  | refl => exact ⟨0, .nil⟩
  | tail _ e ih =>
    obtain ⟨n, hn⟩ := ih
    exact ⟨n + 1, .snoc hn ((mem_suN hg).mp e)⟩
theorem dist_rc {N : Nat} {ps : List (Int × Int)} (hg : GOk (N : Int) ps) {v w : Nat} (hv : v < N) (hw : w < N) {out : List Int} (h : D.DistOf N ps [(v : Int)] out) : 0 ≤ out.getD w 0 ↔ Rc (suN ps) v w := by
  constructor
  · intro h0
    obtain ⟨z, hz, _, hk⟩ := h.path (w : Int) (by omega) (by omega) (by rw [Int.toNat_natCast]; exact h0)
    rw [List.mem_singleton] at hz
    subst hz
    obtain ⟨y, e, hr⟩ := wk_rc hg hk
    have : w = y := by omega
    exact this ▸ hr
  · intro hr
    obtain ⟨n, hn⟩ := rc_wk hg hr
    have := (h.least (v : Int) (by simp) (isNd_iff.2 ⟨by omega, by omega⟩) n (w : Int) hn).1
    rw [Int.toNat_natCast] at this
    exact this
set_option maxHeartbeats 4000000 in
set_option maxRecDepth 100000 in
theorem mut_row (N : Int) (a : Option Addr) (c : Nat) (ps : List (Int × Int)) (v u : Int) (w : World) (hE : Edg w a c ps) (hwv : (Lit.int .i64 v).wf = true) (hwu : (Lit.int .i64 u).wf = true) :
    Calls Try.prog 5 #[.agg #[.int .i64 N, .slice a ps.length c], .int .i64 v, .int .i64 u] w fun e w' => e = .returned (.bool true) ∧ Below w.heap.size w w' := by
  have hcap : ps.length ≤ maxLen := by have := hE.cap; have := hE.max; omega
  obtain ⟨n, hl⟩ : ∃ n, ps.length = n := ⟨_, rfl⟩
  have hcap' := hcap
  unfold maxLen at hcap'
  rw [hl] at hcap' hcap ⊢
  have Hb0 := Lib.hid ((Below.refl w.heap.size w).alloc (Nat.le_refl _) (Obj.cells #[Value.int .i64 N, Value.slice a n c] 24))
  by_cases hbig : 400 < n
  · clear hE hl
    go_enter Try.func5, Try.ntmps5
    go_wp2_with (go_at_call 10; refine (awake_any _).mono ?_; rintro e w' ⟨rfl, hb⟩)
    go_ret
    exact ⟨rfl, Hb0.out.trans (hb.mono (by simp))⟩
  obtain ⟨k, hk⟩ : ∃ k, gchk N ps = k := ⟨_, rfl⟩
  obtain ⟨nv, hnv⟩ : ∃ b, D.nodeB N ps v = b := ⟨_, rfl⟩
  obtain ⟨nu, hnu⟩ : ∃ b, D.nodeB N ps u = b := ⟨_, rfl⟩
  obtain ⟨w0, hw0⟩ : ∃ w0, w.alloc (Obj.cells #[Value.int .i64 N, Value.slice a n c] 24) = w0 := ⟨_, rfl⟩
  have hz0 : w.heap.size < w0.heap.size := by rw [← hw0]; simp
  have q0 : w0.cell? ⟨w.heap.size, 0, none⟩ = some (.int .i64 N) := by rw [← hw0]; simp [go_sem]
  have q1 : w0.cell? ⟨w.heap.size, 1, none⟩ = some (.slice a n c) := by rw [← hw0]; simp [go_sem]
  have HB0 : Hid (Below w.heap.size w w0) := by show Below _ _ _; rw [← hw0]; exact Hb0.out
  have HE := Lib.hid (hE.pairs.below HB0.out (Nat.le_refl _))
  have Hw0 := Lib.hid hw0
  have Hl := Lib.hid hl
  have Hk := Lib.hid hk
  have Hnv := Lib.hid hnv
  have Hnu := Lib.hid hnu
  have d1 : decide ((400 : Int) < (n : Int)) = false := by rw [decide_eq_false_iff_not]; omega
  clear hE hl hk hw0 Hb0 hnv hnu
  go_enter Try.func5, Try.ntmps5
  go_wp2_with fail
  rw [Hw0.out]
  refine (D.rnode_at N a n c ps v nv Hnv.out w0 Hl.out hcap HE.out).mono ?_
  rintro e w1 ⟨rfl, hb1⟩
  have g0 := (hb1.cell (p := ⟨w.heap.size, 0, none⟩) hz0).trans q0
  have g1 := (hb1.cell (p := ⟨w.heap.size, 1, none⟩) hz0).trans q1
  have hz1 : w.heap.size < w1.heap.size := by have := hb1.size; omega
  have HB1 := Lib.hid (HB0.out.trans (hb1.mono (Nat.le_of_lt hz0)))
  have HE1 := Lib.hid (HE.out.below hb1 (Nat.le_refl _))
  clear hb1
  cases nv with
  | false =>
    go_wp2_with fail
    refine (awake_any w1).mono ?_
    rintro e w2 ⟨rfl, hb2⟩
    have HB2 := Lib.hid (HB1.out.trans (hb2.mono HB1.out.size))
    clear hb2
    go_wp2
    go_ret
    exact ⟨rfl, HB2.out⟩
  | true =>
  go_wp2_with fail
  refine (D.rnode_at N a n c ps u nu Hnu.out w1 Hl.out hcap HE1.out).mono ?_
  rintro e w2 ⟨rfl, hb2⟩
  have k0 := (hb2.cell (p := ⟨w.heap.size, 0, none⟩) hz1).trans g0
  have k1 := (hb2.cell (p := ⟨w.heap.size, 1, none⟩) hz1).trans g1
  have hz2 : w.heap.size < w2.heap.size := by have := hb2.size; omega
  have HB2 := Lib.hid (HB1.out.trans (hb2.mono (Nat.le_of_lt hz1)))
  have HE2 := Lib.hid (HE1.out.below hb2 (Nat.le_refl _))
  clear hb2
  cases nu with
  | false =>
    go_wp2_with fail
    refine (awake_any w2).mono ?_
    rintro e w3 ⟨rfl, hb3⟩
    have HB3 := Lib.hid (HB2.out.trans (hb3.mono HB2.out.size))
    clear hb3
    go_wp2
    go_ret
    exact ⟨rfl, HB3.out⟩
  | true =>
  have hok : gchk N ps = 0 := by
    have := Hnv.out
    unfold D.nodeB at this
    simpa using (Bool.and_eq_true_iff.mp this).1
  have hk0 : k = 0 := by rw [← Hk.out]; exact hok
  subst hk0
  have hg := gchk_ok hok
  obtain ⟨N, rfl⟩ : ∃ m : Nat, N = (m : Int) := ⟨N.toNat, by have := hg.lo; omega⟩
  have hv2 : isNd (N : Int) v = true := by
    have := Hnv.out
    unfold D.nodeB at this
    exact (Bool.and_eq_true_iff.mp this).2
  have hu2 : isNd (N : Int) u = true := by
    have := Hnu.out
    unfold D.nodeB at this
    exact (Bool.and_eq_true_iff.mp this).2
  obtain ⟨v0, v1⟩ := isNd_iff.1 hv2
  obtain ⟨u0, u1⟩ := isNd_iff.1 hu2
  obtain ⟨v, rfl⟩ : ∃ m : Nat, v = (m : Int) := ⟨v.toNat, by omega⟩
  obtain ⟨u, rfl⟩ : ∃ m : Nat, u = (m : Int) := ⟨u.toNat, by omega⟩
  have hvN : v < N := by omega
  have huN : u < N := by omega
  have Hg := Lib.hid hg
  clear hv2 hu2 v0 v1 u0 u1 hg hok Hnv Hnu
  go_wp2_with fail
  refine (of_any (N : Int) a n c ps Hl.out hcap w2 HE2.out 0 Hk.out).mono ?_
  rintro e w3 ⟨L, m, b, d, hm, rfl, hi, hb3, hC⟩
  have hcc := hC.good Hk.out
  rw [Int.toNat_natCast] at hcc
  have hof : ofL (N : Int) ps L = idxTo N (L.map ni) L.length := by unfold ofL; rw [if_pos Hk.out, Int.toNat_natCast]
  have hmN : m = N := by rw [← hm, hof, idxTo_len]
  subst hmN
  obtain ⟨bb, bo, rfl, hcell⟩ := hi (by rw [hm]; omega)
  have cv := hcell v (by rw [hm]; exact hvN)
  have cu := hcell u (by rw [hm]; exact huN)
  rw [hof] at cv cu
  obtain ⟨i, _, _, ei⟩ := hcc.of hvN
  obtain ⟨j, _, _, ej⟩ := hcc.of huN
  rw [ei] at cv
  rw [ej] at cu
  have Hsame : Hid (i = j ↔ Rc (suN ps) v u ∧ Rc (suN ps) u v) := by
    show _ ↔ _
    rw [← hcc.same hvN huN, ei, ej]
    omega
  have j0 := (hb3.cell (p := ⟨w.heap.size, 0, none⟩) hz2).trans k0
  have j1 := (hb3.cell (p := ⟨w.heap.size, 1, none⟩) hz2).trans k1
  have hz3 : w.heap.size < w3.heap.size := by have := hb3.size; omega
  have HB3 := Lib.hid (HB2.out.trans (hb3.mono (Nat.le_of_lt hz2)))
  have HE3 := Lib.hid (HE2.out.below hb3 (Nat.le_refl _))
  clear hb3 hC hm hi hcell hcc hof ei ej
  go_wp2_with fail
  have hone : ∀ (X : World) (x : Nat), Ints (X.alloc (Obj.cells #[Value.int .i64 (x : Int)] 3)) (some ⟨X.heap.size, 0, none⟩) [(x : Int)] := fun X x _ => by
    refine ⟨_, _, rfl, fun q hq => ?_⟩
    have : q < 1 := hq
    obtain rfl : q = 0 := by omega
    simp [go_sem]
  have hb4 : Below w3.heap.size w3 (w3.alloc (Obj.cells #[Value.int .i64 (v : Int)] 3)) := (Below.refl _ _).alloc (Nat.le_refl _) _
  refine (D.rdist_good m a n c ps Hl.out _ 1 1 [(v : Int)] rfl _ (HE3.out.below hb4 (Nat.le_refl _)) Hg.out (hone w3 v) (by unfold maxLen; omega)).mono ?_
  rintro e w4 ⟨S4, out4, rfl, hr4, hd4, hb5⟩
  have hcv4 : w4.cell? ⟨S4, u, none⟩ = some (.int .i64 (out4.getD u 0)) := hr4.cell (by rw [hd4.len]; exact huN)
  have Hx : Hid (0 ≤ out4.getD u 0 ↔ Rc (suN ps) v u) := dist_rc Hg.out hvN huN hd4
  have hbx : Below w3.heap.size w3 w4 := hb4.trans (hb5.mono (by simp))
  have i0 := (hbx.cell (p := ⟨w.heap.size, 0, none⟩) hz3).trans j0
  have i1 := (hbx.cell (p := ⟨w.heap.size, 1, none⟩) hz3).trans j1
  have cv4 := (hbx.cell (World.block_lt_of_cell? _ _ cv)).trans cv
  have cu4 := (hbx.cell (World.block_lt_of_cell? _ _ cu)).trans cu
  have hz4 : w.heap.size < w4.heap.size := by have := hbx.size; omega
  have HB4 := Lib.hid (HB3.out.trans (hbx.mono (Nat.le_of_lt hz3)))
  have HE4 := Lib.hid (HE3.out.below hbx (Nat.le_refl _))
  obtain ⟨x4, hx4⟩ : ∃ x, out4.getD u 0 = x := ⟨_, rfl⟩
  rw [hx4] at hcv4 Hx
  obtain ⟨t4, ht4⟩ : ∃ t, decide ((0 : Int) ≤ x4) = t := ⟨_, rfl⟩
  have Hx4 : Hid (t4 = true ↔ Rc (suN ps) v u) := by show _ ↔ _; rw [← ht4, decide_eq_true_iff]; exact Hx.out
  clear hr4 hd4 hb5 hb4 hbx hx4 Hx
  go_wp2_with fail
  have hb6 : Below w4.heap.size w4 (w4.alloc (Obj.cells #[Value.int .i64 (u : Int)] 3)) := (Below.refl _ _).alloc (Nat.le_refl _) _
  refine (D.rdist_good m a n c ps Hl.out _ 1 1 [(u : Int)] rfl _ (HE4.out.below hb6 (Nat.le_refl _)) Hg.out (hone w4 u) (by unfold maxLen; omega)).mono ?_
  rintro e w5 ⟨S5, out5, rfl, hr5, hd5, hb7⟩
  have hcv5 : w5.cell? ⟨S5, v, none⟩ = some (.int .i64 (out5.getD v 0)) := hr5.cell (by rw [hd5.len]; exact hvN)
  have Hy : Hid (0 ≤ out5.getD v 0 ↔ Rc (suN ps) u v) := dist_rc Hg.out huN hvN hd5
  have hby : Below w4.heap.size w4 w5 := hb6.trans (hb7.mono (by simp))
  have cv5 := (hby.cell (World.block_lt_of_cell? _ _ cv4)).trans cv4
  have cu5 := (hby.cell (World.block_lt_of_cell? _ _ cu4)).trans cu4
  have HB5 := Lib.hid (HB4.out.trans (hby.mono (Nat.le_of_lt hz4)))
  obtain ⟨x5, hx5⟩ : ∃ x, out5.getD v 0 = x := ⟨_, rfl⟩
  rw [hx5] at hcv5 Hy
  obtain ⟨t5, ht5⟩ : ∃ t, decide ((0 : Int) ≤ x5) = t := ⟨_, rfl⟩
  have Hy5 : Hid (t5 = true ↔ Rc (suN ps) u v) := by show _ ↔ _; rw [← ht5, decide_eq_true_iff]; exact Hy.out
  clear hr5 hd5 hb7 hb6 hby hx5 hone Hy
  go_wp2_with fail
  clear hcv4 hcv5 cv4 cu4 cv cu i0 i1 j0 j1 k0 k1 g0 g1 q0 q1 ht4 ht5
  rcases Bool.eq_false_or_eq_true t4 with e4 | e4
  · subst e4
    rcases Bool.eq_false_or_eq_true t5 with e5 | e5
    · subst e5
      have hij : i = j := Hsame.out.mpr ⟨Hx4.out.mp rfl, Hy5.out.mp rfl⟩
      subst hij
      have e1 : ((i : Int) == (i : Int)) = true := by simp
      have hS0 : w5.cell? ⟨bb, bo + v, none⟩ = some (.int .i64 (i : Int)) ∧ w5.cell? ⟨bb, bo + u, none⟩ = some (.int .i64 (i : Int)) ∧ Below w5.heap.size w5 w5 := ⟨cv5, cu5, Below.refl _ _⟩
      have hS1 : w5.drew.cell? ⟨bb, bo + v, none⟩ = some (.int .i64 (i : Int)) ∧ w5.drew.cell? ⟨bb, bo + u, none⟩ = some (.int .i64 (i : Int)) ∧ Below w5.heap.size w5 w5.drew := ⟨cv5, cu5, (Below.refl _ _).drew⟩
      go_region_held3 (fun X => X.cell? ⟨bb, bo + v, none⟩ = some (.int .i64 (i : Int)) ∧ X.cell? ⟨bb, bo + u, none⟩ = some (.int .i64 (i : Int)) ∧ Below w5.heap.size w5 X)
        (first
          | (with_reducible assumption)
          | fail)
        (first
          | (go_at_call 10; (with_reducible refine Calls.mono (awake_any _) ?_); rintro e wA ⟨rfl, hbA⟩; have hSA := keepG (by assumption) rfl hbA))
      all_goals
        go_wp2
        go_ret
        exact ⟨rfl, HB5.out.trans (hSA.2.2.mono HB5.out.size)⟩
    · subst e5
      have hij : i ≠ j := fun e => absurd (Hy5.out.mpr (Hsame.out.mp e).2) (by decide)
      have e1 : ((i : Int) == (j : Int)) = false := by simp; omega
      have hS0 : w5.cell? ⟨bb, bo + v, none⟩ = some (.int .i64 (i : Int)) ∧ w5.cell? ⟨bb, bo + u, none⟩ = some (.int .i64 (j : Int)) ∧ Below w5.heap.size w5 w5 := ⟨cv5, cu5, Below.refl _ _⟩
      have hS1 : w5.drew.cell? ⟨bb, bo + v, none⟩ = some (.int .i64 (i : Int)) ∧ w5.drew.cell? ⟨bb, bo + u, none⟩ = some (.int .i64 (j : Int)) ∧ Below w5.heap.size w5 w5.drew := ⟨cv5, cu5, (Below.refl _ _).drew⟩
      go_region_held3 (fun X => X.cell? ⟨bb, bo + v, none⟩ = some (.int .i64 (i : Int)) ∧ X.cell? ⟨bb, bo + u, none⟩ = some (.int .i64 (j : Int)) ∧ Below w5.heap.size w5 X)
        (first
          | (with_reducible assumption)
          | fail)
        (first
          | (go_at_call 10; (with_reducible refine Calls.mono (awake_any _) ?_); rintro e wA ⟨rfl, hbA⟩; have hSA := keepG (by assumption) rfl hbA))
      all_goals
        go_wp2
        go_ret
        exact ⟨rfl, HB5.out.trans (hSA.2.2.mono HB5.out.size)⟩
  · subst e4
    have hij : i ≠ j := fun e => absurd (Hx4.out.mpr (Hsame.out.mp e).1) (by decide)
    have e1 : ((i : Int) == (j : Int)) = false := by simp; omega
    have p0 : w5.drew.cell? ⟨bb, bo + v, none⟩ = some (.int .i64 (i : Int)) := cv5
    have p1 : w5.drew.cell? ⟨bb, bo + u, none⟩ = some (.int .i64 (j : Int)) := cu5
    refine wp_region_tail 15 (by kernel_rfl) (by kernel_rfl) ?_
    simp only [List.take_succ_cons, List.take_zero, List.drop_succ_cons, List.drop_zero]
    repeat still_step
    refine wpStill_nil ?_
    go_wp2_with fail
    refine (awake_any _).mono ?_
    rintro e wA ⟨rfl, hbA⟩
    have HSA := Lib.hid ((Below.refl w5.heap.size w5).drew.trans (hbA.mono (Nat.le_refl _)))
    clear hbA
    go_wp2
    go_ret
    exact ⟨rfl, HB5.out.trans (HSA.out.mono HB5.out.size)⟩
end Go.Proofs.Ytopbbihbpalnlaa
