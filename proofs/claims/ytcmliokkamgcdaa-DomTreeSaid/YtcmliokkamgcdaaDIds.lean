/-
  Idom, Dominates and Strict of a valid graph.
-/
import Derived.Test.YtcmliokkamgcdaaDTop
import Derived.Test.YtcmliokkamgcdaaDSemN
import Derived.Test.YtcmliokkamgcdaaDDom
import Derived.Test.YtcmliokkamgcdaaDLps
import Derived.Test.YtcmliokkamgcdaaGSortI
namespace Go.Proofs.Ytcmliokkamgcdaa
open Go.RowKit Go.Shelf
set_option linter.unusedVariables false

def IdomEnd (w : World) (N root : Nat) (ps : List (Int × Int)) (e : Ending) (w' : World) : Prop :=
  ∃ g id, e = .returned (.tuple #[.slice (some ⟨g, 0, none⟩) N N, .int .i64 0]) ∧ Row w' w.heap.size g N id ∧ IdS N root ps id ∧ Below w.heap.size w w'
set_option maxHeartbeats 4000000 in
set_option maxRecDepth 100000 in
theorem idom_good (N root : Nat) (a : Option Addr) (n c : Nat) (ps : List (Int × Int)) (hl : ps.length = n) (w : World) (hE : Pairs w a ps) (hok : gchk (N : Int) ps = 0) (hr : root < N) :
    Calls Try.prog 11 #[.agg #[.int .i64 (N : Int), .slice a n c], .int .i64 (root : Int)] w (IdomEnd w N root ps) := by
  have hg := gchk_ok hok
  have hlen := hg.len
  have hN := hg.hi
  rw [hl] at hlen
  obtain ⟨w0, hw0⟩ : ∃ w0, w.alloc (Obj.cells #[Value.int .i64 (N : Int), Value.slice a n c] 24) = w0 := ⟨_, rfl⟩
  have hz0 : w0.heap.size = w.heap.size + 1 := by rw [← hw0]; simp
  have g0 : w0.cell? ⟨w.heap.size, 0, none⟩ = some (.int .i64 (N : Int)) := by rw [← hw0]; simp [go_sem]
  have g1 : w0.cell? ⟨w.heap.size, 1, none⟩ = some (.slice a n c) := by rw [← hw0]; simp [go_sem]
  have hb0 : Below w.heap.size w w0 := by rw [← hw0]; exact (Below.refl w.heap.size w).alloc (Nat.le_refl _) _
  have HB0 := Lib.hid hb0
  have HE := Lib.hid (hE.below hb0 (Nat.le_refl _))
  have Hl := Lib.hid hl
  have Hg := Lib.hid hg
  have Hok := Lib.hid hok
  have Hw0 := Lib.hid hw0
  clear hE hb0 hl hg hok hw0
  go_enter Try.func11, Try.ntmps11
  go_wp2_with fail
  rw [Hw0.out]
  refine (doms_good N root a n c ps Hl.out w0 HE.out Hok.out hr).mono ?_
  rintro e w1 ⟨gi, gp, gz, id, pl, z, rfl, hri, hrp, hrz, htd, hb1⟩
  have hs1 := hb1.size
  obtain ⟨w2, hw2⟩ : ∃ w2, w1.alloc (Obj.cells #[.slice (some ⟨gi, 0, none⟩) N N, .slice (some ⟨gp, 0, none⟩) N N, .slice (some ⟨gz, 0, none⟩) N N] 54) = w2 := ⟨_, rfl⟩
  have hz2 : w2.heap.size = w1.heap.size + 1 := by rw [← hw2]; simp
  have hb2 : Below w1.heap.size w1 w2 := by rw [← hw2]; exact (Below.refl w1.heap.size w1).alloc (Nat.le_refl _) _
  have b3 : B3 w2 w1.heap.size (.slice (some ⟨gi, 0, none⟩) N N) (.slice (some ⟨gp, 0, none⟩) N N) (.slice (some ⟨gz, 0, none⟩) N N) := by
    have := B3.new w1 (.slice (some ⟨gi, 0, none⟩) N N) (.slice (some ⟨gp, 0, none⟩) N N) (.slice (some ⟨gz, 0, none⟩) N N)
    rw [hw2] at this; exact this
  have hfin : Hid (IdomEnd w N root ps (.returned (.tuple #[.slice (some ⟨gi, 0, none⟩) N N, .int .i64 0])) w2) := ⟨gi, id, rfl, (hri.below hb2 hri.lt.2).mono (by omega), htd.ids, HB0.out.trans ((hb1.trans (hb2.mono hs1)).mono (by omega))⟩
  have Hw2 := Lib.hid hw2
  clear hb1 hri hrp hrz htd hb2 b3 hw2 g0 g1
  go_wp2
  rw [Hw2.out]
  try rw [Exit.noGoto_ret]
  refine bodyPost_ret (v := .tuple #[.slice (some ⟨gi, 0, none⟩) N N, .int .i64 0]) (by simp [results, Try.results11, go_sem]) rfl ?_
  exact hfin.out
end Go.Proofs.Ytcmliokkamgcdaa
