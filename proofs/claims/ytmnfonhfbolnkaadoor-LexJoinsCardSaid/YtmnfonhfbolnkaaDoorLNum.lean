/-
  number: the token of a sequence of digits.
-/
import Derived.Test.YtmnfonhfbolnkaaDoorLWord
namespace Go.Proofs.YtmnfonhfbolnkaaDoor
open Go.RowKit Go.Shelf
set_option linter.unusedVariables false

def NumEnd1 (d : ByteArray) (k n e0 : Int) (w : World) (e : Ending) (w' : World) : Prop :=
  Below w.heap.size w w' ∧ e = .returned (.tuple #[tokV k d n, .int .i64 e0])
set_option maxHeartbeats 4000000 in
set_option maxRecDepth 100000 in
/-- Other letters follow. -/
theorem number_more (d r : ByteArray) (w : World) (h : (d.toList == r.toList) = false) :
    Calls Tryd.prog 37 #[.string d, .string r] w (NumEnd1 ⟨#[]⟩ 0 0 2 w) := by
  go_enter Tryd.func37, Tryd.ntmps37
  have h2 : (d.toList != r.toList) = true := by simp [bne, h]
  go_wp2
  refine bodyPost_ret (v := .tuple #[.agg #[.int .i64 0, .int .i64 0, .string ⟨#[]⟩, .int .i64 0], .int .i64 2]) (by simp [results, Tryd.results37, go_sem]) rfl ?_
  exact ⟨by repeat (first | exact (Below.refl _ _).alloc (Nat.le_refl _) _ | refine Below.setCell ?_ (Nat.le_refl _) _), rfl⟩
theorem parse_below {w w' : World} {e : TypeId} (h : w' = w ∨ ∃ t, w' = Lib.bytesWorld w e t) : Below w.heap.size w w' := by
  rcases h with rfl | ⟨t, rfl⟩
  · exact Below.refl _ _
  · exact Lib.bytesWorld_below _ _ _
def w0T (w : World) : World := w.alloc (.cells #[.int .i64 0, .int .i64 0, .string ⟨#[]⟩, .int .i64 0] 30)
set_option maxHeartbeats 4000000 in
set_option maxRecDepth 100000 in
theorem number_ok (d : ByteArray) (v : Int) (hv : Lib.parseIntB 64 d.data.toList = .ok v) (w : World) (hz : 0 < d.size) (hs : d.size ≤ 281474976710656) (hn : (((d[0]'hz).toNat : Int) == 48) = false) :
    Calls Tryd.prog 37 #[.string d, .string d] w (NumEnd1 d 3 v 0 w) := by
  have Hv := Lib.hid hv
  clear hv
  go_enter Tryd.func37, Tryd.ntmps37
  have h2 : (d.toList != d.toList) = false := by simp
  have k0 : (w0T w).cell? ⟨w.heap.size, 0, none⟩ = some (.int .i64 0) := by simp [w0T, go_sem]
  have k1 : (w0T w).cell? ⟨w.heap.size, 1, none⟩ = some (.int .i64 0) := by simp [w0T, go_sem]
  have k2 : (w0T w).cell? ⟨w.heap.size, 2, none⟩ = some (.string ⟨#[]⟩) := by simp [w0T, go_sem]
  have k3 : (w0T w).cell? ⟨w.heap.size, 3, none⟩ = some (.int .i64 0) := by simp [w0T, go_sem]
  have kf : ∀ j, (w0T w).frozen? ⟨w.heap.size, j, none⟩ = false := fun j => by simp [w0T, go_sem]
  have hlt : w.heap.size < (w0T w).heap.size := by simp [w0T]
  have HB0 : Hid (Below w.heap.size w (w0T w)) := (Below.refl _ w).alloc (Nat.le_refl _) _
  have K0 := Lib.hid k0
  have K1 := Lib.hid k1
  have K2 := Lib.hid k2
  have K3 := Lib.hid k3
  have KF := Lib.hid kf
  clear k0 k1 k2 k3 kf
  go_wp2_with (go_at_call 51; refine (Any.strconv_ParseInt_10_at64_ok Tryd.parseInt d (by omega) v Hv.out (w0T w)).mono ?_; rintro e w' ⟨rfl, hw⟩; have hb := parse_below hw; have c0 := (hb.cell (p := ⟨w.heap.size, 0, none⟩) hlt).trans K0.out; have c1 := (hb.cell (p := ⟨w.heap.size, 1, none⟩) hlt).trans K1.out; have c2 := (hb.cell (p := ⟨w.heap.size, 2, none⟩) hlt).trans K2.out; have c3 := (hb.cell (p := ⟨w.heap.size, 3, none⟩) hlt).trans K3.out; have f0 := (hb.frozen (p := ⟨w.heap.size, 0, none⟩) hlt).trans (KF.out 0); have f1 := (hb.frozen (p := ⟨w.heap.size, 1, none⟩) hlt).trans (KF.out 1); have f2 := (hb.frozen (p := ⟨w.heap.size, 2, none⟩) hlt).trans (KF.out 2); have f3 := (hb.frozen (p := ⟨w.heap.size, 3, none⟩) hlt).trans (KF.out 3); have HB := Lib.hid (HB0.out.trans (hb.mono (Nat.le_of_lt hlt))); clear hb hw)
  refine bodyPost_ret (v := .tuple #[.agg #[.int .i64 3, .int .i64 0, .string d, .int .i64 v], .int .i64 0]) (by simp [results, Tryd.results37, go_sem, c0, c1, c2, c3]) rfl ?_
  exact ⟨(((HB.out.setCell (p := ⟨w.heap.size, 0, none⟩) (Nat.le_refl _) _).setCell (p := ⟨w.heap.size, 1, none⟩) (Nat.le_refl _) _).setCell (p := ⟨w.heap.size, 2, none⟩) (Nat.le_refl _) _).setCell (p := ⟨w.heap.size, 3, none⟩) (Nat.le_refl _) _, rfl⟩
set_option maxHeartbeats 4000000 in
set_option maxRecDepth 100000 in
theorem number_okz (d : ByteArray) (v : Int) (hv : Lib.parseIntB 64 d.data.toList = .ok v) (w : World) (hz : 0 < d.size) (hs : d.size ≤ 281474976710656) (hn : (((d[0]'hz).toNat : Int) == 48) = true) (h1 : (d.toList == [48]) = true) :
    Calls Tryd.prog 37 #[.string d, .string d] w (NumEnd1 d 3 v 0 w) := by
  have Hv := Lib.hid hv
  clear hv
  go_enter Tryd.func37, Tryd.ntmps37
  have h2 : (d.toList != d.toList) = false := by simp
  have k0 : (w0T w).cell? ⟨w.heap.size, 0, none⟩ = some (.int .i64 0) := by simp [w0T, go_sem]
  have k1 : (w0T w).cell? ⟨w.heap.size, 1, none⟩ = some (.int .i64 0) := by simp [w0T, go_sem]
  have k2 : (w0T w).cell? ⟨w.heap.size, 2, none⟩ = some (.string ⟨#[]⟩) := by simp [w0T, go_sem]
  have k3 : (w0T w).cell? ⟨w.heap.size, 3, none⟩ = some (.int .i64 0) := by simp [w0T, go_sem]
  have kf : ∀ j, (w0T w).frozen? ⟨w.heap.size, j, none⟩ = false := fun j => by simp [w0T, go_sem]
  have hlt : w.heap.size < (w0T w).heap.size := by simp [w0T]
  have HB0 : Hid (Below w.heap.size w (w0T w)) := (Below.refl _ w).alloc (Nat.le_refl _) _
  have K0 := Lib.hid k0
  have K1 := Lib.hid k1
  have K2 := Lib.hid k2
  have K3 := Lib.hid k3
  have KF := Lib.hid kf
  clear k0 k1 k2 k3 kf
  go_wp2_with (go_at_call 51; refine (Any.strconv_ParseInt_10_at64_ok Tryd.parseInt d (by omega) v Hv.out (w0T w)).mono ?_; rintro e w' ⟨rfl, hw⟩; have hb := parse_below hw; have c0 := (hb.cell (p := ⟨w.heap.size, 0, none⟩) hlt).trans K0.out; have c1 := (hb.cell (p := ⟨w.heap.size, 1, none⟩) hlt).trans K1.out; have c2 := (hb.cell (p := ⟨w.heap.size, 2, none⟩) hlt).trans K2.out; have c3 := (hb.cell (p := ⟨w.heap.size, 3, none⟩) hlt).trans K3.out; have f0 := (hb.frozen (p := ⟨w.heap.size, 0, none⟩) hlt).trans (KF.out 0); have f1 := (hb.frozen (p := ⟨w.heap.size, 1, none⟩) hlt).trans (KF.out 1); have f2 := (hb.frozen (p := ⟨w.heap.size, 2, none⟩) hlt).trans (KF.out 2); have f3 := (hb.frozen (p := ⟨w.heap.size, 3, none⟩) hlt).trans (KF.out 3); have HB := Lib.hid (HB0.out.trans (hb.mono (Nat.le_of_lt hlt))); clear hb hw)
  refine bodyPost_ret (v := .tuple #[.agg #[.int .i64 3, .int .i64 0, .string d, .int .i64 v], .int .i64 0]) (by simp [results, Tryd.results37, go_sem, c0, c1, c2, c3]) rfl ?_
  exact ⟨(((HB.out.setCell (p := ⟨w.heap.size, 0, none⟩) (Nat.le_refl _) _).setCell (p := ⟨w.heap.size, 1, none⟩) (Nat.le_refl _) _).setCell (p := ⟨w.heap.size, 2, none⟩) (Nat.le_refl _) _).setCell (p := ⟨w.heap.size, 3, none⟩) (Nat.le_refl _) _, rfl⟩
set_option maxHeartbeats 4000000 in
set_option maxRecDepth 100000 in
/-- A zero before other digits. -/
theorem number_zero (d : ByteArray) (w : World) (hz : 0 < d.size) (hn : (((d[0]'hz).toNat : Int) == 48) = true) (h1 : (d.toList == [48]) = false) :
    Calls Tryd.prog 37 #[.string d, .string d] w (NumEnd1 ⟨#[]⟩ 0 0 2 w) := by
  go_enter Tryd.func37, Tryd.ntmps37
  have h2 : (d.toList != d.toList) = false := by simp
  go_wp2
  refine bodyPost_ret (v := .tuple #[.agg #[.int .i64 0, .int .i64 0, .string ⟨#[]⟩, .int .i64 0], .int .i64 2]) (by simp [results, Tryd.results37, go_sem]) rfl ?_
  exact ⟨by repeat (first | exact (Below.refl _ _).alloc (Nat.le_refl _) _ | refine Below.setCell ?_ (Nat.le_refl _) _), rfl⟩
end Go.Proofs.YtmnfonhfbolnkaaDoor
