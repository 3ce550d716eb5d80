/-
  Dominates of a valid graph.
-/
import Derived.Test.YtcmliokkamgcdaaDIds
namespace Go.Proofs.Ytcmliokkamgcdaa
open Go.RowKit Go.Shelf
set_option linter.unusedVariables false

def DmsEnd (w : World) (root x y : Nat) (ps : List (Int × Int)) (e : Ending) (w' : World) : Prop :=
  ∃ b, e = .returned (.bool b) ∧ (b = true ↔ domN ps root x y) ∧ Below w.heap.size w w'
set_option maxHeartbeats 4000000 in
set_option maxRecDepth 100000 in
theorem dominates_good (N root x y : Nat) (a : Option Addr) (n c : Nat) (ps : List (Int × Int)) (hl : ps.length = n) (w : World) (hE : Pairs w a ps) (hok : gchk (N : Int) ps = 0) (hr : root < N) (hx : x < N) (hy : y < N) :
    Calls Try.prog 14 #[.agg #[.int .i64 (N : Int), .slice a n c], .int .i64 (root : Int), .int .i64 (x : Int), .int .i64 (y : Int)] w (DmsEnd w root x y ps) := by
  have hg := gchk_ok hok
  have hlen := hg.len
  have hN := hg.hi
  rw [hl] at hlen
  obtain ⟨w0, hw0⟩ : ∃ w0, w.alloc (Obj.cells #[Value.int .i64 (N : Int), Value.slice a n c] 24) = w0 := ⟨_, rfl⟩
  have hz0 : w0.heap.size = w.heap.size + 1 := by rw [← hw0]; simp
  have g0 : w0.cell? ⟨w.heap.size, 0, none⟩ = some (.int .i64 (N : Int)) := by rw [← hw0]; simp [go_sem]
  have g1 : w0.cell? ⟨w.heap.size, 1, none⟩ = some (.slice a n c) := by rw [← hw0]; simp [go_sem]
  have hb0 : Below w.heap.size w w0 := by rw [← hw0]; exact (Below.refl w.heap.size w).alloc (Nat.le_refl _) _
  have HB0 := Lib.hid hb0
  have HE := Lib.hid (hE.below hb0 (Nat.le_refl _))
  have Hl := Lib.hid hl
  have Hg := Lib.hid hg
  have Hok := Lib.hid hok
  have Hw0 := Lib.hid hw0
  clear hE hb0 hl hg hok hw0
  go_enter Try.func14, Try.ntmps14
  go_wp2_with fail
  rw [Hw0.out]
  refine (doms_good N root a n c ps Hl.out w0 HE.out Hok.out hr).mono ?_
  rintro e w1 ⟨gi, gp, gz, id, pl, z, rfl, hri, hrp, hrz, htd, hb1⟩
  have hs1 := hb1.size
  obtain ⟨w2, hw2⟩ : ∃ w2, w1.alloc (Obj.cells #[.slice (some ⟨gi, 0, none⟩) N N, .slice (some ⟨gp, 0, none⟩) N N, .slice (some ⟨gz, 0, none⟩) N N] 54) = w2 := ⟨_, rfl⟩
  have hz2 : w2.heap.size = w1.heap.size + 1 := by rw [← hw2]; simp
  have hb2 : Below w1.heap.size w1 w2 := by rw [← hw2]; exact (Below.refl w1.heap.size w1).alloc (Nat.le_refl _) _
  have b3 : B3 w2 w1.heap.size (.slice (some ⟨gi, 0, none⟩) N N) (.slice (some ⟨gp, 0, none⟩) N N) (.slice (some ⟨gz, 0, none⟩) N N) := by
    have := B3.new w1 (.slice (some ⟨gi, 0, none⟩) N N) (.slice (some ⟨gp, 0, none⟩) N N) (.slice (some ⟨gz, 0, none⟩) N N)
    rw [hw2] at this; exact this
  have g0' := (hb1.cell (p := ⟨w.heap.size, 0, none⟩) (by show w.heap.size < _; omega)).trans g0
  have g1' := (hb1.cell (p := ⟨w.heap.size, 1, none⟩) (by show w.heap.size < _; omega)).trans g1
  have k0 : Hid (∀ X, Below w1.heap.size w1 X → X.cell? ⟨w.heap.size, 0, none⟩ = some (.int .i64 (N : Int)) ∧ X.cell? ⟨w.heap.size, 1, none⟩ = some (.slice a n c)) := fun X hX =>
    ⟨(hX.cell (p := ⟨w.heap.size, 0, none⟩) (by show w.heap.size < _; omega)).trans g0', (hX.cell (p := ⟨w.heap.size, 1, none⟩) (by show w.heap.size < _; omega)).trans g1'⟩
  have ga0 : ∀ o, (w1.alloc o).cell? ⟨w.heap.size, 0, none⟩ = some (.int .i64 (N : Int)) := fun o => (k0.out _ ((Below.refl _ _).alloc (Nat.le_refl _) o)).1
  have ga1 : ∀ o, (w1.alloc o).cell? ⟨w.heap.size, 1, none⟩ = some (.slice a n c) := fun o => (k0.out _ ((Below.refl _ _).alloc (Nat.le_refl _) o)).2
  have HW := Lib.hid (HB0.out.trans ((hb1.trans (hb2.mono hs1)).mono (by omega)))
  have HB2 := Lib.hid hb2
  have HB3 := Lib.hid b3
  have Hw2 := Lib.hid hw2
  have hN' : N ≤ 8192 := by omega
  have hrng := htd.rng hN' hx
  have hdom := htd.dom hx hy
  have hlp : pl.length = N := by obtain ⟨_, _, _, _, _, _, _, _, _, hZ, hP⟩ := htd.ex; exact hP.lp
  have hlz : z.length = N := by obtain ⟨_, _, _, _, _, _, _, _, _, hZ, hP⟩ := htd.ex; exact hZ.ln
  have hP2 := hrp.ints.below hb2 (Nat.le_refl _)
  have hZ2 := hrz.ints.below hb2 (Nat.le_refl _)
  have Hc1 : Hid (∀ X, Calls Try.prog 33 #[.agg #[.int .i64 (N : Int), .slice a n c], .int .i64 (x : Int)] X fun e w' => e = .returned (.bool true) ∧ Below X.heap.size X w') := fun X => dnode_any N x a n c true (isNd_iff.2 ⟨by omega, by omega⟩) X
  have Hc2 : Hid (∀ X, Calls Try.prog 33 #[.agg #[.int .i64 (N : Int), .slice a n c], .int .i64 (y : Int)] X fun e w' => e = .returned (.bool true) ∧ Below X.heap.size X w') := fun X => dnode_any N y a n c true (isNd_iff.2 ⟨by omega, by omega⟩) X
  have Hc3 : Hid (∀ X, Below w2.heap.size w2 X → Calls Try.prog 34 #[.agg #[.slice (some ⟨gi, 0, none⟩) N N, .slice (some ⟨gp, 0, none⟩) N N, .slice (some ⟨gz, 0, none⟩) N N], .int .i64 (x : Int), .int .i64 (y : Int)] X fun e w' => e = .returned (.bool (domB pl z x y)) ∧ Below X.heap.size X w') := fun X hX =>
    dominates_any N x y _ gp N gz N pl z hlp hlz hx hy X (hP2.below hX (Nat.le_refl _)) (hZ2.below hX (Nat.le_refl _)) hrng.1 hrng.2
  have hfin : ∀ X, Below w2.heap.size w2 X → Hid (DmsEnd w root x y ps (.returned (.bool (domB pl z x y))) X) := fun X hX => ⟨_, rfl, hdom, HW.out.trans (hX.mono HW.out.size)⟩
  have Hfin := Lib.hid hfin
  generalize domB pl z x y = b at *
  clear hb1 hri hrp hrz htd hb2 b3 hw2 g0 g1 g0' g1' hrng hdom hlp hlz hP2 hZ2 hfin
  have kk : ∀ X, Below w2.heap.size w2 X → X.cell? ⟨w.heap.size, 0, none⟩ = some (.int .i64 (N : Int)) ∧ X.cell? ⟨w.heap.size, 1, none⟩ = some (.slice a n c) := fun X hX => k0.out X (HB2.out.trans (hX.mono (by omega)))
  have Hkk := Lib.hid kk
  clear kk k0
  go_wp2_with fail
  rw [Hw2.out]
  refine (Hc1.out _).mono ?_
  rintro e w4 ⟨rfl, hb4⟩
  obtain ⟨c40, c41⟩ := Hkk.out w4 hb4
  have hs4 := hb4.size
  go_wp2_with fail
  refine (Hc2.out _).mono ?_
  rintro e w5 ⟨rfl, hb5⟩
  have hb25 := hb4.trans (hb5.mono hs4)
  have bx := HB3.out.ext hb25
  have d0 := bx.c0
  have d1 := bx.c1
  have d2 := bx.c2
  have hs5 := hb25.size
  have HB25 := Lib.hid hb25
  clear hb4 hb5 hb25 bx c40 c41
  go_wp2_with fail
  refine (Hc3.out _ HB25.out).mono ?_
  rintro e w6 ⟨rfl, hb6⟩
  have hend := Hfin.out w6 (HB25.out.trans (hb6.mono hs5))
  clear hb6
  go_wp2
  go_ret
  exact hend.out
end Go.Proofs.Ytcmliokkamgcdaa
