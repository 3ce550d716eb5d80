/-
  first: the token at the beginning of a text; what number, word or mark returns, it returns.
-/
import Derived.Test.YtmnfonhfbolnkaaDoorLNum2
import Derived.Test.YtmnfonhfbolnkaaDoorLLedM
namespace Go.Proofs.YtmnfonhfbolnkaaDoor
open Go.RowKit Go.Shelf
set_option linter.unusedVariables false

def runOf (s : ByteArray) : ByteArray := s.extract 0 (ledP isWordR s (s.size + 1) 0)
def digOf (s : ByteArray) : ByteArray := s.extract 0 (ledP isDigR s (s.size + 1) 0)
theorem run_at (s r : ByteArray) (hr : runOf s = r) (w : World) (hs : s.size ≤ maxLen) : Calls Tryd.prog 23 #[.string s, .func (.func 35) #[] #[]] w fun e w' => e = .returned (.string r) ∧ Below w.heap.size w w' := by
  subst hr
  refine (leading_any _ _ tells_word s w hs).mono ?_
  rintro e w' ⟨rfl, pos, rfl⟩
  exact ⟨rfl, (Below.refl _ w).alloc (Nat.le_refl _) _⟩
theorem dig_at (s r : ByteArray) (hr : digOf s = r) (w : World) (hs : s.size ≤ maxLen) : Calls Tryd.prog 23 #[.string s, .func (.func 36) #[] #[]] w fun e w' => e = .returned (.string r) ∧ Below w.heap.size w w' := by
  subst hr
  refine (leading_any _ _ tells_digit s w hs).mono ?_
  rintro e w' ⟨rfl, pos, rfl⟩
  exact ⟨rfl, (Below.refl _ w).alloc (Nat.le_refl _) _⟩
structure TokCells (w X : World) : Prop where
  below : Below w.heap.size w X
  c0 : X.cell? ⟨w.heap.size, 0, none⟩ = some (.int .i64 0)
  c1 : X.cell? ⟨w.heap.size, 1, none⟩ = some (.int .i64 0)
  c2 : X.cell? ⟨w.heap.size, 2, none⟩ = some (.string ⟨#[]⟩)
  c3 : X.cell? ⟨w.heap.size, 3, none⟩ = some (.int .i64 0)
  fr : ∀ j, X.frozen? ⟨w.heap.size, j, none⟩ = false
  lt : w.heap.size < X.heap.size
theorem TokCells.start (w : World) : TokCells w (w0T w) :=
  ⟨(Below.refl _ w).alloc (Nat.le_refl _) _, by simp [w0T, go_sem], by simp [w0T, go_sem], by simp [w0T, go_sem], by simp [w0T, go_sem], fun j => by simp [w0T, go_sem], by simp [w0T]⟩
theorem TokCells.step {w X Y : World} (h : TokCells w X) (hb : Below X.heap.size X Y) : TokCells w Y :=
  ⟨h.below.trans (hb.mono (Nat.le_of_lt h.lt)), (hb.cell (p := ⟨w.heap.size, 0, none⟩) h.lt).trans h.c0, (hb.cell (p := ⟨w.heap.size, 1, none⟩) h.lt).trans h.c1, (hb.cell (p := ⟨w.heap.size, 2, none⟩) h.lt).trans h.c2, (hb.cell (p := ⟨w.heap.size, 3, none⟩) h.lt).trans h.c3, fun j => (hb.frozen (p := ⟨w.heap.size, j, none⟩) h.lt).trans (h.fr j), Nat.lt_of_lt_of_le h.lt hb.size⟩

set_option maxHeartbeats 4000000 in
set_option maxRecDepth 100000 in
theorem first_num (s run dig : ByteArray) (hr : runOf s = run) (hd : digOf run = dig) (hne : ¬ dig.toList = []) (hs : s.size ≤ maxLen) (hrs : run.size ≤ maxLen) (t : ByteArray) (k n e0 : Int) (w : World)
    (hcall : ∀ X, Below w.heap.size w X → Calls Tryd.prog 37 #[.string dig, .string run] X (NumEnd1 t k n e0 X)) : Calls Tryd.prog 25 #[.string s] w (NumEnd1 t k n e0 w) := by
  have Hr := Lib.hid hr
  have Hd := Lib.hid hd
  have Hcall := Lib.hid hcall
  have Hs := Lib.hid hs
  have Hrs := Lib.hid hrs
  have T0 := Lib.hid (TokCells.start w)
  have h2 : (dig.toList == []) = false := by rw [beq_eq_false_iff_ne]; exact hne
  have h3 : dig.toList.isEmpty = false := by simpa using hne
  clear hr hd hcall hs hrs
  go_enter Tryd.func25, Tryd.ntmps25
  go_wp2_with fail
  refine (run_at s run Hr.out (w0T w) Hs.out).mono ?_
  rintro e w1 ⟨rfl, hb1⟩
  have T1 := Lib.hid (T0.out.step hb1)
  clear hb1
  go_wp2_with fail
  refine (dig_at run dig Hd.out w1 Hrs.out).mono ?_
  rintro e w2 ⟨rfl, hb2⟩
  have T2 := Lib.hid (T1.out.step hb2)
  clear hb2
  go_wp2_with fail
  refine (Hcall.out w2 T2.out.below).mono ?_
  rintro e w3 ⟨hb3, rfl⟩
  unfold tokV
  have T3 := T2.out.step hb3
  have c0 := T3.c0
  have c1 := T3.c1
  have c2 := T3.c2
  have c3 := T3.c3
  have f0 := T3.fr 0
  have f1 := T3.fr 1
  have f2 := T3.fr 2
  have f3 := T3.fr 3
  have HB := Lib.hid T3.below
  clear T3 hb3
  go_wp2
  refine bodyPost_ret (v := .tuple #[.agg #[.int .i64 k, .int .i64 0, .string t, .int .i64 n], .int .i64 e0]) (by simp [results, Tryd.results25, go_sem, c0, c1, c2, c3]) rfl ?_
  exact ⟨(((HB.out.setCell (p := ⟨w.heap.size, 0, none⟩) (Nat.le_refl _) _).setCell (p := ⟨w.heap.size, 1, none⟩) (Nat.le_refl _) _).setCell (p := ⟨w.heap.size, 2, none⟩) (Nat.le_refl _) _).setCell (p := ⟨w.heap.size, 3, none⟩) (Nat.le_refl _) _, rfl⟩
set_option maxHeartbeats 4000000 in
set_option maxRecDepth 100000 in
theorem first_word (s run dig : ByteArray) (hr : runOf s = run) (hd : digOf run = dig) (hne : dig.toList = []) (hrne : ¬ run.toList = []) (hz : 0 < run.size) (h95 : (((run[0]'hz).toNat : Int) == 95) = false) (hs : s.size ≤ maxLen) (hrs : run.size ≤ maxLen) (t : ByteArray) (k n e0 : Int) (w : World)
    (hcall : ∀ X, Below w.heap.size w X → Calls Tryd.prog 38 #[.string run] X (NumEnd1 t k n e0 X)) : Calls Tryd.prog 25 #[.string s] w (NumEnd1 t k n e0 w) := by
  have Hr := Lib.hid hr
  have Hd := Lib.hid hd
  have Hcall := Lib.hid hcall
  have Hs := Lib.hid hs
  have Hrs := Lib.hid hrs
  have T0 := Lib.hid (TokCells.start w)
  have h2 : (dig.toList == []) = true := by simp [hne]
  have h3 : dig.toList.isEmpty = true := by simp [hne]
  have h4 : (run.toList == []) = false := by rw [beq_eq_false_iff_ne]; exact hrne
  have h5 : run.toList.isEmpty = false := by simpa using hrne
  clear hr hd hcall hs hrs
  go_enter Tryd.func25, Tryd.ntmps25
  go_wp2_with fail
  refine (run_at s run Hr.out (w0T w) Hs.out).mono ?_
  rintro e w1 ⟨rfl, hb1⟩
  have T1 := Lib.hid (T0.out.step hb1)
  clear hb1
  go_wp2_with fail
  refine (dig_at run dig Hd.out w1 Hrs.out).mono ?_
  rintro e w2 ⟨rfl, hb2⟩
  have T2 := Lib.hid (T1.out.step hb2)
  clear hb2
  go_wp2_with fail
  refine (Hcall.out w2 T2.out.below).mono ?_
  rintro e w3 ⟨hb3, rfl⟩
  unfold tokV
  have T3 := T2.out.step hb3
  have c0 := T3.c0
  have c1 := T3.c1
  have c2 := T3.c2
  have c3 := T3.c3
  have f0 := T3.fr 0
  have f1 := T3.fr 1
  have f2 := T3.fr 2
  have f3 := T3.fr 3
  have HB := Lib.hid T3.below
  clear T3 hb3
  go_wp2
  refine bodyPost_ret (v := .tuple #[.agg #[.int .i64 k, .int .i64 0, .string t, .int .i64 n], .int .i64 e0]) (by simp [results, Tryd.results25, go_sem, c0, c1, c2, c3]) rfl ?_
  exact ⟨(((HB.out.setCell (p := ⟨w.heap.size, 0, none⟩) (Nat.le_refl _) _).setCell (p := ⟨w.heap.size, 1, none⟩) (Nat.le_refl _) _).setCell (p := ⟨w.heap.size, 2, none⟩) (Nat.le_refl _) _).setCell (p := ⟨w.heap.size, 3, none⟩) (Nat.le_refl _) _, rfl⟩
set_option maxHeartbeats 4000000 in
set_option maxRecDepth 100000 in
theorem first_mark (s run dig : ByteArray) (hr : runOf s = run) (hd : digOf run = dig) (hne : dig.toList = []) (hrne : run.toList = []) (hs : s.size ≤ maxLen) (hrs : run.size ≤ maxLen) (t : ByteArray) (k n e0 : Int) (w : World)
    (hcall : ∀ X, Below w.heap.size w X → Calls Tryd.prog 39 #[.string s] X (NumEnd1 t k n e0 X)) : Calls Tryd.prog 25 #[.string s] w (NumEnd1 t k n e0 w) := by
  have Hr := Lib.hid hr
  have Hd := Lib.hid hd
  have Hcall := Lib.hid hcall
  have Hs := Lib.hid hs
  have Hrs := Lib.hid hrs
  have T0 := Lib.hid (TokCells.start w)
  have h2 : (dig.toList == []) = true := by simp [hne]
  have h3 : dig.toList.isEmpty = true := by simp [hne]
  have h4 : (run.toList == []) = true := by simp [hrne]
  have h5 : run.toList.isEmpty = true := by simp [hrne]
  clear hr hd hcall hs hrs
  go_enter Tryd.func25, Tryd.ntmps25
  go_wp2_with fail
  refine (run_at s run Hr.out (w0T w) Hs.out).mono ?_
  rintro e w1 ⟨rfl, hb1⟩
  have T1 := Lib.hid (T0.out.step hb1)
  clear hb1
  go_wp2_with fail
  refine (dig_at run dig Hd.out w1 Hrs.out).mono ?_
  rintro e w2 ⟨rfl, hb2⟩
  have T2 := Lib.hid (T1.out.step hb2)
  clear hb2
  go_wp2_with fail
  refine (Hcall.out w2 T2.out.below).mono ?_
  rintro e w3 ⟨hb3, rfl⟩
  unfold tokV
  have T3 := T2.out.step hb3
  have c0 := T3.c0
  have c1 := T3.c1
  have c2 := T3.c2
  have c3 := T3.c3
  have f0 := T3.fr 0
  have f1 := T3.fr 1
  have f2 := T3.fr 2
  have f3 := T3.fr 3
  have HB := Lib.hid T3.below
  clear T3 hb3
  go_wp2
  refine bodyPost_ret (v := .tuple #[.agg #[.int .i64 k, .int .i64 0, .string t, .int .i64 n], .int .i64 e0]) (by simp [results, Tryd.results25, go_sem, c0, c1, c2, c3]) rfl ?_
  exact ⟨(((HB.out.setCell (p := ⟨w.heap.size, 0, none⟩) (Nat.le_refl _) _).setCell (p := ⟨w.heap.size, 1, none⟩) (Nat.le_refl _) _).setCell (p := ⟨w.heap.size, 2, none⟩) (Nat.le_refl _) _).setCell (p := ⟨w.heap.size, 3, none⟩) (Nat.le_refl _) _, rfl⟩
set_option maxHeartbeats 4000000 in
set_option maxRecDepth 100000 in
theorem first_mark2 (s run dig : ByteArray) (hr : runOf s = run) (hd : digOf run = dig) (hne : dig.toList = []) (hrne : ¬ run.toList = []) (hz : 0 < run.size) (h95 : (((run[0]'hz).toNat : Int) == 95) = true) (hs : s.size ≤ maxLen) (hrs : run.size ≤ maxLen) (t : ByteArray) (k n e0 : Int) (w : World)
    (hcall : ∀ X, Below w.heap.size w X → Calls Tryd.prog 39 #[.string s] X (NumEnd1 t k n e0 X)) : Calls Tryd.prog 25 #[.string s] w (NumEnd1 t k n e0 w) := by
  have Hr := Lib.hid hr
  have Hd := Lib.hid hd
  have Hcall := Lib.hid hcall
  have Hs := Lib.hid hs
  have Hrs := Lib.hid hrs
  have T0 := Lib.hid (TokCells.start w)
  have h2 : (dig.toList == []) = true := by simp [hne]
  have h3 : dig.toList.isEmpty = true := by simp [hne]
  have h4 : (run.toList == []) = false := by rw [beq_eq_false_iff_ne]; exact hrne
  have h5 : run.toList.isEmpty = false := by simpa using hrne
  clear hr hd hcall hs hrs
  go_enter Tryd.func25, Tryd.ntmps25
  go_wp2_with fail
  refine (run_at s run Hr.out (w0T w) Hs.out).mono ?_
  rintro e w1 ⟨rfl, hb1⟩
  have T1 := Lib.hid (T0.out.step hb1)
  clear hb1
  go_wp2_with fail
  refine (dig_at run dig Hd.out w1 Hrs.out).mono ?_
  rintro e w2 ⟨rfl, hb2⟩
  have T2 := Lib.hid (T1.out.step hb2)
  clear hb2
  go_wp2_with fail
  refine (Hcall.out w2 T2.out.below).mono ?_
  rintro e w3 ⟨hb3, rfl⟩
  unfold tokV
  have T3 := T2.out.step hb3
  have c0 := T3.c0
  have c1 := T3.c1
  have c2 := T3.c2
  have c3 := T3.c3
  have f0 := T3.fr 0
  have f1 := T3.fr 1
  have f2 := T3.fr 2
  have f3 := T3.fr 3
  have HB := Lib.hid T3.below
  clear T3 hb3
  go_wp2
  refine bodyPost_ret (v := .tuple #[.agg #[.int .i64 k, .int .i64 0, .string t, .int .i64 n], .int .i64 e0]) (by simp [results, Tryd.results25, go_sem, c0, c1, c2, c3]) rfl ?_
  exact ⟨(((HB.out.setCell (p := ⟨w.heap.size, 0, none⟩) (Nat.le_refl _) _).setCell (p := ⟨w.heap.size, 1, none⟩) (Nat.le_refl _) _).setCell (p := ⟨w.heap.size, 2, none⟩) (Nat.le_refl _) _).setCell (p := ⟨w.heap.size, 3, none⟩) (Nat.le_refl _) _, rfl⟩
end Go.Proofs.YtmnfonhfbolnkaaDoor
