/-
  number: digits beyond the greatest number.
-/
import Derived.Test.YtmnfonhfbolnkaaDoorLNum
namespace Go.Proofs.YtmnfonhfbolnkaaDoor
open Go.RowKit Go.Shelf
set_option linter.unusedVariables false

/-- The library's error variable lies where the program keeps it. -/
def Er (w : World) : Prop := ∃ ev, w.cell? ⟨4, 0, none⟩ = some ev ∧ (ev = .nilIface ∨ ∃ te pe, ev = .iface te pe) ∧ 4 < w.heap.size
set_option maxHeartbeats 4000000 in
set_option maxRecDepth 100000 in
theorem number_range (d : ByteArray) (hv : Lib.parseIntB 64 d.data.toList = .range) (w : World) (hz : 0 < d.size) (hs : d.size ≤ 281474976710656) (hn : (((d[0]'hz).toNat : Int) == 48) = false) (hE : Er w) :
    Calls Tryd.prog 37 #[.string d, .string d] w (NumEnd1 ⟨#[]⟩ 0 0 4 w) := by
  have Hv := Lib.hid hv
  clear hv
  go_enter Tryd.func37, Tryd.ntmps37
  have h2 : (d.toList != d.toList) = false := by simp
  have k0 : (w0T w).cell? ⟨w.heap.size, 0, none⟩ = some (.int .i64 0) := by simp [w0T, go_sem]
  have k1 : (w0T w).cell? ⟨w.heap.size, 1, none⟩ = some (.int .i64 0) := by simp [w0T, go_sem]
  have k2 : (w0T w).cell? ⟨w.heap.size, 2, none⟩ = some (.string ⟨#[]⟩) := by simp [w0T, go_sem]
  have k3 : (w0T w).cell? ⟨w.heap.size, 3, none⟩ = some (.int .i64 0) := by simp [w0T, go_sem]
  have kf : ∀ j, (w0T w).frozen? ⟨w.heap.size, j, none⟩ = false := fun j => by simp [w0T, go_sem]
  have hlt : w.heap.size < (w0T w).heap.size := by simp [w0T]
  obtain ⟨ev, he1, he2, he3⟩ := hE
  have he1' : (w0T w).cell? ⟨4, 0, none⟩ = some ev := (((Below.refl w.heap.size w).alloc (Nat.le_refl _) _).cell (p := ⟨4, 0, none⟩) he3).trans he1
  have HE1 := Lib.hid he1'
  have HE2 := Lib.hid he2
  clear he1 he1' he2
  have HB0 : Hid (Below w.heap.size w (w0T w)) := (Below.refl _ w).alloc (Nat.le_refl _) _
  have K0 := Lib.hid k0
  have K1 := Lib.hid k1
  have K2 := Lib.hid k2
  have K3 := Lib.hid k3
  have KF := Lib.hid kf
  clear k0 k1 k2 k3 kf
  go_wp2_with (go_at_call 51; refine (Any.strconv_ParseInt_10_at64_range Tryd.parseInt d (by omega) Hv.out ev (w0T w) HE1.out HE2.out).mono ?_; rintro e w' ⟨P, rfl, _, _, hb⟩; have c0 := (hb.cell (p := ⟨w.heap.size, 0, none⟩) hlt).trans K0.out; have c1 := (hb.cell (p := ⟨w.heap.size, 1, none⟩) hlt).trans K1.out; have c2 := (hb.cell (p := ⟨w.heap.size, 2, none⟩) hlt).trans K2.out; have c3 := (hb.cell (p := ⟨w.heap.size, 3, none⟩) hlt).trans K3.out; have f0 := (hb.frozen (p := ⟨w.heap.size, 0, none⟩) hlt).trans (KF.out 0); have f1 := (hb.frozen (p := ⟨w.heap.size, 1, none⟩) hlt).trans (KF.out 1); have f2 := (hb.frozen (p := ⟨w.heap.size, 2, none⟩) hlt).trans (KF.out 2); have f3 := (hb.frozen (p := ⟨w.heap.size, 3, none⟩) hlt).trans (KF.out 3); have HB := Lib.hid (HB0.out.trans (hb.mono (Nat.le_of_lt hlt))); clear hb)
  refine bodyPost_ret (v := .tuple #[.agg #[.int .i64 0, .int .i64 0, .string ⟨#[]⟩, .int .i64 0], .int .i64 4]) (by simp [results, Tryd.results37, go_sem, c0, c1, c2, c3]) rfl ?_
  exact ⟨(((HB.out.setCell (p := ⟨w.heap.size, 0, none⟩) (Nat.le_refl _) _).setCell (p := ⟨w.heap.size, 1, none⟩) (Nat.le_refl _) _).setCell (p := ⟨w.heap.size, 2, none⟩) (Nat.le_refl _) _).setCell (p := ⟨w.heap.size, 3, none⟩) (Nat.le_refl _) _, rfl⟩
end Go.Proofs.YtmnfonhfbolnkaaDoor
