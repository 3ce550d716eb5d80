/-
  The definition's number: the walks. (Written by gen_rnum.py.)
-/
import Derived.Test.YtmnfonhfbolnkaaDoorRNum
namespace Go.Proofs.YtmnfonhfbolnkaaDoor
open Go.RowKit
set_option linter.unusedVariables false
set_option linter.unusedSimpArgs false

def NumV (s : ByteArray) (a b : Nat) (w : World) (e : Ending) (w' : World) : Prop :=
  Below w.heap.size w w' ∧ ((9223372036854775807 < decTo s a (b - a) ∧ e = .returned (.tuple #[tokA 0 0 ⟨#[]⟩ 0, .int .i64 4])) ∨ (¬ 9223372036854775807 < decTo s a (b - a) ∧ e = .returned (.tuple #[tokA 3 a (s.extract a b) (decTo s a (b - a) : Int), .int .i64 0])))
def NumA (k : Int) (a : Nat) (t : ByteArray) (n e0 : Int) (w : World) (e : Ending) (w' : World) : Prop :=
  Below w.heap.size w w' ∧ e = .returned (.tuple #[tokA k a t n, .int .i64 e0])
theorem wrap_digit {c : Nat} (h1 : 48 ≤ c) (h2 : c ≤ 57) : ((c : Int) - 48) % 256 = ((c - 48 : Nat) : Int) := by omega
set_option maxHeartbeats 4000000 in
set_option maxRecDepth 100000 in
theorem rnum_zero (s : ByteArray) (a b : Nat) (hab : a < b) (hb : b ≤ s.size) (hs : s.size ≤ 65536) (c : Nat) (hc : (s[a]'(by omega)).toNat = c) (e48 : ((c : Int) == 48) = true) (hgt : a + 1 < b) (w : World) :
    Calls Tryd.prog 42 #[.string s, .int .i64 a, .int .i64 b] w (NumA 0 0 ⟨#[]⟩ 0 2 w) := by
  have hlta : a < s.size := by omega
  have g1 : decide ((a : Int) + 1 < (b : Int)) = true := by simp; omega
  go_enter Tryd.func42, Tryd.ntmps42
  go_wp2
  refine bodyPost_ret (v := .tuple #[.agg #[.int .i64 0, .int .i64 0, .string ⟨#[]⟩, .int .i64 0], .int .i64 2]) (by simp [results, Tryd.results42, go_sem]) rfl ?_
  exact ⟨by repeat (first | exact (Below.refl _ _).alloc (Nat.le_refl _) _ | refine Below.setCell ?_ (Nat.le_refl _) _), rfl⟩
set_option maxHeartbeats 4000000 in
set_option maxRecDepth 100000 in
theorem rnum_more1 (s : ByteArray) (a b : Nat) (hab : a < b) (hb : b ≤ s.size) (hs : s.size ≤ 65536) (c : Nat) (hc : (s[a]'(by omega)).toNat = c) (e48 : ((c : Int) == 48) = false) (hbl : b < s.size) (d : Nat) (hd : (s[b]'hbl).toNat = d) (hw : isWordR (d : Int) = true) (w : World) :
    Calls Tryd.prog 42 #[.string s, .int .i64 a, .int .i64 b] w (NumA 0 0 ⟨#[]⟩ 0 2 w) := by
  have hlta : a < s.size := by omega
  have Hd := Lib.hid hw
  clear hw
  go_enter Tryd.func42, Tryd.ntmps42
  go_wp2_with (go_at_call 30; refine (rpart_at _ true Hd.out _).mono ?_; rintro e w' ⟨rfl, rfl⟩)
  refine bodyPost_ret (v := .tuple #[.agg #[.int .i64 0, .int .i64 0, .string ⟨#[]⟩, .int .i64 0], .int .i64 2]) (by simp [results, Tryd.results42, go_sem]) rfl ?_
  exact ⟨by repeat (first | exact (Below.refl _ _).alloc (Nat.le_refl _) _ | refine Below.setCell ?_ (Nat.le_refl _) _), rfl⟩
set_option maxHeartbeats 4000000 in
set_option maxRecDepth 100000 in
theorem rnum_more2 (s : ByteArray) (a b : Nat) (hab : a < b) (hb : b ≤ s.size) (hs : s.size ≤ 65536) (c : Nat) (hc : (s[a]'(by omega)).toNat = c) (e48 : ((c : Int) == 48) = true) (hgt : ¬ a + 1 < b) (hbl : b < s.size) (d : Nat) (hd : (s[b]'hbl).toNat = d) (hw : isWordR (d : Int) = true) (w : World) :
    Calls Tryd.prog 42 #[.string s, .int .i64 a, .int .i64 b] w (NumA 0 0 ⟨#[]⟩ 0 2 w) := by
  have hlta : a < s.size := by omega
  have g1 : decide ((a : Int) + 1 < (b : Int)) = false := by simp; omega
  have Hd := Lib.hid hw
  clear hw
  go_enter Tryd.func42, Tryd.ntmps42
  go_wp2_with (go_at_call 30; refine (rpart_at _ true Hd.out _).mono ?_; rintro e w' ⟨rfl, rfl⟩)
  refine bodyPost_ret (v := .tuple #[.agg #[.int .i64 0, .int .i64 0, .string ⟨#[]⟩, .int .i64 0], .int .i64 2]) (by simp [results, Tryd.results42, go_sem]) rfl ?_
  exact ⟨by repeat (first | exact (Below.refl _ _).alloc (Nat.le_refl _) _ | refine Below.setCell ?_ (Nat.le_refl _) _), rfl⟩
set_option maxHeartbeats 4000000 in
set_option maxRecDepth 100000 in
theorem rnum_valw1 (s : ByteArray) (a b : Nat) (hab : a < b) (hb : b ≤ s.size) (hs : s.size ≤ 65536) (c : Nat) (hc : (s[a]'(by omega)).toNat = c) (e48 : ((c : Int) == 48) = false) (hbl : b < s.size) (d : Nat) (hd : (s[b]'hbl).toNat = d) (hw : isWordR (d : Int) = false) (hall : ∀ i, a ≤ i → i < b → isDigR (byteI s i) = true)  (w : World) :
    Calls Tryd.prog 42 #[.string s, .int .i64 a, .int .i64 b] w (NumV s a b w) := by
  have hlta : a < s.size := by omega
  have Hd := Lib.hid hw
  clear hw
  go_enter Tryd.func42, Tryd.ntmps42
  go_wp2_with (go_at_call 30; refine (rpart_at _ false Hd.out _).mono ?_; rintro e w' ⟨rfl, rfl⟩)
  clear hc
  have Hall := Lib.hid hall
  clear hall
  have T0 := Lib.hid (TokCells.start w)
  go_loopw [8, 9] (fun x y W => ∃ k : Nat, a + k ≤ b ∧ y = .int .i64 ((a + k : Nat) : Int) ∧ x = .int .i64 (decTo s a k : Int) ∧ Hid (decTo s a k ≤ 9223372036854775807) ∧ W = w0T w) (fun _ y _ => b - (intOf y).toNat)
  case atStart => exact ⟨0, by omega, rfl, rfl, by show (0 : Nat) ≤ _; omega, rfl⟩
  case round =>
    obtain ⟨k, hk, rfl, rfl, hmax, rfl⟩ := hrel
    obtain ⟨n, hn⟩ : ∃ n, decTo s a k = n := ⟨_, rfl⟩
    have Hn := Lib.hid hn
    rw [hn]
    have hmx : n ≤ 9223372036854775807 := by rw [← Hn.out]; exact hmax.out
    clear hn
    by_cases hlt : a + k < b
    · have hlk : a + k < s.size := by omega
      obtain ⟨c2, hc2⟩ : ∃ c : Nat, (s[a + k]'hlk).toNat = c := ⟨_, rfl⟩
      have hby := Lib.hid ((byteI_at hlk).trans (by rw [hc2]) : byteI s (a + k) = (c2 : Int))
      have hdg := Hall.out (a + k) (by omega) hlt
      rw [hby.out] at hdg
      have hd1 : 48 ≤ c2 := by have := ((dig_iff _).mp hdg).1; omega
      have hd2 : c2 ≤ 57 := by have := ((dig_iff _).mp hdg).2; omega
      have hw8 := wrap_digit hd1 hd2
      have Hst : Hid (decTo s a (k + 1) = n * 10 + (c2 - 48)) := by
        show _ = _
        show decTo s a k * 10 + _ = _
        rw [Hn.out, hby.out]
        rfl
      clear hdg hby
      by_cases hov : 9223372036854775807 < n * 10 + (c2 - 48)
      · have Hov := Lib.hid hov
        clear hov
        have c0 := T0.out.c0
        have c1 := T0.out.c1
        have c2_ := T0.out.c2
        have c3 := T0.out.c3
        have f0 := T0.out.fr 0
        have f1 := T0.out.fr 1
        have f2 := T0.out.fr 2
        have f3 := T0.out.fr 3
        have hq : decide ((9223372036854775807 - ((c2 : Int) - 48)) / 10 < (n : Int)) = true := by have := Hov.out; rw [decide_eq_true_eq]; omega
        have hbig : Hid (9223372036854775807 < decTo s a (b - a)) := by
          show _ < _
          have h1 := decTo_mono s a (k + 1) (b - a) (by omega)
          have h2 := Hst.out
          have h3 := Hov.out
          omega
        go_wp2
        refine bodyPost_ret (v := .tuple #[.agg #[.int .i64 0, .int .i64 0, .string ⟨#[]⟩, .int .i64 0], .int .i64 4]) (by simp [results, Tryd.results42, go_sem, c0, c1, c2_, c3]) rfl ?_
        exact ⟨(((T0.out.below.setCell (p := ⟨w.heap.size, 0, none⟩) (Nat.le_refl _) _).setCell (p := ⟨w.heap.size, 1, none⟩) (Nat.le_refl _) _).setCell (p := ⟨w.heap.size, 2, none⟩) (Nat.le_refl _) _).setCell (p := ⟨w.heap.size, 3, none⟩) (Nat.le_refl _) _, .inl ⟨hbig.out, rfl⟩⟩
      · have Hov := Lib.hid hov
        have hq : decide ((9223372036854775807 - ((c2 : Int) - 48)) / 10 < (n : Int)) = false := by have := Hov.out; rw [decide_eq_false_iff_not]; omega
        clear hov
        have hb10 : (n : Int) * 10 ≤ 9223372036854775807 := by have h3 := Hov.out; omega
        have hb11 : (n : Int) * 10 + ((c2 : Int) - 48) ≤ 9223372036854775807 := by have h3 := Hov.out; omega
        have Hm2 : Hid (decTo s a (k + 1) ≤ 9223372036854775807) := by show _ ≤ _; have h2 := Hst.out; have h3 := Hov.out; omega
        go_wp2
        go_roundw
        case rel => exact ⟨k + 1, by omega, by go_num, by rw [Hst.out]; go_num, Hm2, by trivial⟩
        case measure => simp [intOf]; omega
    · obtain rfl : b = a + k := by omega
      have c0 := T0.out.c0
      have c1 := T0.out.c1
      have c2_ := T0.out.c2
      have c3 := T0.out.c3
      have f0 := T0.out.fr 0
      have f1 := T0.out.fr 1
      have f2 := T0.out.fr 2
      have f3 := T0.out.fr 3
      have hsm : Hid (¬ 9223372036854775807 < decTo s a (a + k - a)) := by
        show ¬ _ < _
        rw [Nat.add_sub_cancel_left, Hn.out]
        omega
      have hval : Hid (decTo s a (a + k - a) = n) := by
        show _ = _
        rw [Nat.add_sub_cancel_left, Hn.out]
      go_wp2
      refine bodyPost_ret (v := .tuple #[.agg #[.int .i64 3, .int .i64 a, .string (s.extract a (a + k)), .int .i64 n], .int .i64 0]) (by simp [results, Tryd.results42, go_sem, c0, c1, c2_, c3]) rfl ?_
      exact ⟨(((T0.out.below.setCell (p := ⟨w.heap.size, 0, none⟩) (Nat.le_refl _) _).setCell (p := ⟨w.heap.size, 1, none⟩) (Nat.le_refl _) _).setCell (p := ⟨w.heap.size, 2, none⟩) (Nat.le_refl _) _).setCell (p := ⟨w.heap.size, 3, none⟩) (Nat.le_refl _) _, .inr ⟨hsm.out, by rw [hval.out]; rfl⟩⟩
set_option maxHeartbeats 4000000 in
set_option maxRecDepth 100000 in
theorem rnum_valw2 (s : ByteArray) (a b : Nat) (hab : a < b) (hb : b ≤ s.size) (hs : s.size ≤ 65536) (c : Nat) (hc : (s[a]'(by omega)).toNat = c) (e48 : ((c : Int) == 48) = true) (hgt : ¬ a + 1 < b) (hbl : b < s.size) (d : Nat) (hd : (s[b]'hbl).toNat = d) (hw : isWordR (d : Int) = false) (hall : ∀ i, a ≤ i → i < b → isDigR (byteI s i) = true)  (w : World) :
    Calls Tryd.prog 42 #[.string s, .int .i64 a, .int .i64 b] w (NumV s a b w) := by
  have hlta : a < s.size := by omega
  have g1 : decide ((a : Int) + 1 < (b : Int)) = false := by simp; omega
  have Hd := Lib.hid hw
  clear hw
  go_enter Tryd.func42, Tryd.ntmps42
  go_wp2_with (go_at_call 30; refine (rpart_at _ false Hd.out _).mono ?_; rintro e w' ⟨rfl, rfl⟩)
  clear hc
  have Hall := Lib.hid hall
  clear hall
  have T0 := Lib.hid (TokCells.start w)
  go_loopw [8, 9] (fun x y W => ∃ k : Nat, a + k ≤ b ∧ y = .int .i64 ((a + k : Nat) : Int) ∧ x = .int .i64 (decTo s a k : Int) ∧ Hid (decTo s a k ≤ 9223372036854775807) ∧ W = w0T w) (fun _ y _ => b - (intOf y).toNat)
  case atStart => exact ⟨0, by omega, rfl, rfl, by show (0 : Nat) ≤ _; omega, rfl⟩
  case round =>
    obtain ⟨k, hk, rfl, rfl, hmax, rfl⟩ := hrel
    obtain ⟨n, hn⟩ : ∃ n, decTo s a k = n := ⟨_, rfl⟩
    have Hn := Lib.hid hn
    rw [hn]
    have hmx : n ≤ 9223372036854775807 := by rw [← Hn.out]; exact hmax.out
    clear hn
    by_cases hlt : a + k < b
    · have hlk : a + k < s.size := by omega
      obtain ⟨c2, hc2⟩ : ∃ c : Nat, (s[a + k]'hlk).toNat = c := ⟨_, rfl⟩
      have hby := Lib.hid ((byteI_at hlk).trans (by rw [hc2]) : byteI s (a + k) = (c2 : Int))
      have hdg := Hall.out (a + k) (by omega) hlt
      rw [hby.out] at hdg
      have hd1 : 48 ≤ c2 := by have := ((dig_iff _).mp hdg).1; omega
      have hd2 : c2 ≤ 57 := by have := ((dig_iff _).mp hdg).2; omega
      have hw8 := wrap_digit hd1 hd2
      have Hst : Hid (decTo s a (k + 1) = n * 10 + (c2 - 48)) := by
        show _ = _
        show decTo s a k * 10 + _ = _
        rw [Hn.out, hby.out]
        rfl
      clear hdg hby
      by_cases hov : 9223372036854775807 < n * 10 + (c2 - 48)
      · have Hov := Lib.hid hov
        clear hov
        have c0 := T0.out.c0
        have c1 := T0.out.c1
        have c2_ := T0.out.c2
        have c3 := T0.out.c3
        have f0 := T0.out.fr 0
        have f1 := T0.out.fr 1
        have f2 := T0.out.fr 2
        have f3 := T0.out.fr 3
        have hq : decide ((9223372036854775807 - ((c2 : Int) - 48)) / 10 < (n : Int)) = true := by have := Hov.out; rw [decide_eq_true_eq]; omega
        have hbig : Hid (9223372036854775807 < decTo s a (b - a)) := by
          show _ < _
          have h1 := decTo_mono s a (k + 1) (b - a) (by omega)
          have h2 := Hst.out
          have h3 := Hov.out
          omega
        go_wp2
        refine bodyPost_ret (v := .tuple #[.agg #[.int .i64 0, .int .i64 0, .string ⟨#[]⟩, .int .i64 0], .int .i64 4]) (by simp [results, Tryd.results42, go_sem, c0, c1, c2_, c3]) rfl ?_
        exact ⟨(((T0.out.below.setCell (p := ⟨w.heap.size, 0, none⟩) (Nat.le_refl _) _).setCell (p := ⟨w.heap.size, 1, none⟩) (Nat.le_refl _) _).setCell (p := ⟨w.heap.size, 2, none⟩) (Nat.le_refl _) _).setCell (p := ⟨w.heap.size, 3, none⟩) (Nat.le_refl _) _, .inl ⟨hbig.out, rfl⟩⟩
      · have Hov := Lib.hid hov
        have hq : decide ((9223372036854775807 - ((c2 : Int) - 48)) / 10 < (n : Int)) = false := by have := Hov.out; rw [decide_eq_false_iff_not]; omega
        clear hov
        have hb10 : (n : Int) * 10 ≤ 9223372036854775807 := by have h3 := Hov.out; omega
        have hb11 : (n : Int) * 10 + ((c2 : Int) - 48) ≤ 9223372036854775807 := by have h3 := Hov.out; omega
        have Hm2 : Hid (decTo s a (k + 1) ≤ 9223372036854775807) := by show _ ≤ _; have h2 := Hst.out; have h3 := Hov.out; omega
        go_wp2
        go_roundw
        case rel => exact ⟨k + 1, by omega, by go_num, by rw [Hst.out]; go_num, Hm2, by trivial⟩
        case measure => simp [intOf]; omega
    · obtain rfl : b = a + k := by omega
      have c0 := T0.out.c0
      have c1 := T0.out.c1
      have c2_ := T0.out.c2
      have c3 := T0.out.c3
      have f0 := T0.out.fr 0
      have f1 := T0.out.fr 1
      have f2 := T0.out.fr 2
      have f3 := T0.out.fr 3
      have hsm : Hid (¬ 9223372036854775807 < decTo s a (a + k - a)) := by
        show ¬ _ < _
        rw [Nat.add_sub_cancel_left, Hn.out]
        omega
      have hval : Hid (decTo s a (a + k - a) = n) := by
        show _ = _
        rw [Nat.add_sub_cancel_left, Hn.out]
      go_wp2
      refine bodyPost_ret (v := .tuple #[.agg #[.int .i64 3, .int .i64 a, .string (s.extract a (a + k)), .int .i64 n], .int .i64 0]) (by simp [results, Tryd.results42, go_sem, c0, c1, c2_, c3]) rfl ?_
      exact ⟨(((T0.out.below.setCell (p := ⟨w.heap.size, 0, none⟩) (Nat.le_refl _) _).setCell (p := ⟨w.heap.size, 1, none⟩) (Nat.le_refl _) _).setCell (p := ⟨w.heap.size, 2, none⟩) (Nat.le_refl _) _).setCell (p := ⟨w.heap.size, 3, none⟩) (Nat.le_refl _) _, .inr ⟨hsm.out, by rw [hval.out]; rfl⟩⟩
set_option maxHeartbeats 4000000 in
set_option maxRecDepth 100000 in
theorem rnum_val1 (s : ByteArray) (a b : Nat) (hab : a < b) (hb : b ≤ s.size) (hs : s.size ≤ 65536) (c : Nat) (hc : (s[a]'(by omega)).toNat = c) (e48 : ((c : Int) == 48) = false) (hbl : ¬ b < s.size) (hall : ∀ i, a ≤ i → i < b → isDigR (byteI s i) = true)  (w : World) :
    Calls Tryd.prog 42 #[.string s, .int .i64 a, .int .i64 b] w (NumV s a b w) := by
  have hlta : a < s.size := by omega
  have g2 : decide ((b : Int) < (s.size : Int)) = false := by simp; omega
  go_enter Tryd.func42, Tryd.ntmps42
  go_wp2
  clear hc
  have Hall := Lib.hid hall
  clear hall
  have T0 := Lib.hid (TokCells.start w)
  go_loopw [8, 9] (fun x y W => ∃ k : Nat, a + k ≤ b ∧ y = .int .i64 ((a + k : Nat) : Int) ∧ x = .int .i64 (decTo s a k : Int) ∧ Hid (decTo s a k ≤ 9223372036854775807) ∧ W = w0T w) (fun _ y _ => b - (intOf y).toNat)
  case atStart => exact ⟨0, by omega, rfl, rfl, by show (0 : Nat) ≤ _; omega, rfl⟩
  case round =>
    obtain ⟨k, hk, rfl, rfl, hmax, rfl⟩ := hrel
    obtain ⟨n, hn⟩ : ∃ n, decTo s a k = n := ⟨_, rfl⟩
    have Hn := Lib.hid hn
    rw [hn]
    have hmx : n ≤ 9223372036854775807 := by rw [← Hn.out]; exact hmax.out
    clear hn
    by_cases hlt : a + k < b
    · have hlk : a + k < s.size := by omega
      obtain ⟨c2, hc2⟩ : ∃ c : Nat, (s[a + k]'hlk).toNat = c := ⟨_, rfl⟩
      have hby := Lib.hid ((byteI_at hlk).trans (by rw [hc2]) : byteI s (a + k) = (c2 : Int))
      have hdg := Hall.out (a + k) (by omega) hlt
      rw [hby.out] at hdg
      have hd1 : 48 ≤ c2 := by have := ((dig_iff _).mp hdg).1; omega
      have hd2 : c2 ≤ 57 := by have := ((dig_iff _).mp hdg).2; omega
      have hw8 := wrap_digit hd1 hd2
      have Hst : Hid (decTo s a (k + 1) = n * 10 + (c2 - 48)) := by
        show _ = _
        show decTo s a k * 10 + _ = _
        rw [Hn.out, hby.out]
        rfl
      clear hdg hby
      by_cases hov : 9223372036854775807 < n * 10 + (c2 - 48)
      · have Hov := Lib.hid hov
        clear hov
        have c0 := T0.out.c0
        have c1 := T0.out.c1
        have c2_ := T0.out.c2
        have c3 := T0.out.c3
        have f0 := T0.out.fr 0
        have f1 := T0.out.fr 1
        have f2 := T0.out.fr 2
        have f3 := T0.out.fr 3
        have hq : decide ((9223372036854775807 - ((c2 : Int) - 48)) / 10 < (n : Int)) = true := by have := Hov.out; rw [decide_eq_true_eq]; omega
        have hbig : Hid (9223372036854775807 < decTo s a (b - a)) := by
          show _ < _
          have h1 := decTo_mono s a (k + 1) (b - a) (by omega)
          have h2 := Hst.out
          have h3 := Hov.out
          omega
        go_wp2
        refine bodyPost_ret (v := .tuple #[.agg #[.int .i64 0, .int .i64 0, .string ⟨#[]⟩, .int .i64 0], .int .i64 4]) (by simp [results, Tryd.results42, go_sem, c0, c1, c2_, c3]) rfl ?_
        exact ⟨(((T0.out.below.setCell (p := ⟨w.heap.size, 0, none⟩) (Nat.le_refl _) _).setCell (p := ⟨w.heap.size, 1, none⟩) (Nat.le_refl _) _).setCell (p := ⟨w.heap.size, 2, none⟩) (Nat.le_refl _) _).setCell (p := ⟨w.heap.size, 3, none⟩) (Nat.le_refl _) _, .inl ⟨hbig.out, rfl⟩⟩
      · have Hov := Lib.hid hov
        have hq : decide ((9223372036854775807 - ((c2 : Int) - 48)) / 10 < (n : Int)) = false := by have := Hov.out; rw [decide_eq_false_iff_not]; omega
        clear hov
        have hb10 : (n : Int) * 10 ≤ 9223372036854775807 := by have h3 := Hov.out; omega
        have hb11 : (n : Int) * 10 + ((c2 : Int) - 48) ≤ 9223372036854775807 := by have h3 := Hov.out; omega
        have Hm2 : Hid (decTo s a (k + 1) ≤ 9223372036854775807) := by show _ ≤ _; have h2 := Hst.out; have h3 := Hov.out; omega
        go_wp2
        go_roundw
        case rel => exact ⟨k + 1, by omega, by go_num, by rw [Hst.out]; go_num, Hm2, by trivial⟩
        case measure => simp [intOf]; omega
    · obtain rfl : b = a + k := by omega
      have c0 := T0.out.c0
      have c1 := T0.out.c1
      have c2_ := T0.out.c2
      have c3 := T0.out.c3
      have f0 := T0.out.fr 0
      have f1 := T0.out.fr 1
      have f2 := T0.out.fr 2
      have f3 := T0.out.fr 3
      have hsm : Hid (¬ 9223372036854775807 < decTo s a (a + k - a)) := by
        show ¬ _ < _
        rw [Nat.add_sub_cancel_left, Hn.out]
        omega
      have hval : Hid (decTo s a (a + k - a) = n) := by
        show _ = _
        rw [Nat.add_sub_cancel_left, Hn.out]
      go_wp2
      refine bodyPost_ret (v := .tuple #[.agg #[.int .i64 3, .int .i64 a, .string (s.extract a (a + k)), .int .i64 n], .int .i64 0]) (by simp [results, Tryd.results42, go_sem, c0, c1, c2_, c3]) rfl ?_
      exact ⟨(((T0.out.below.setCell (p := ⟨w.heap.size, 0, none⟩) (Nat.le_refl _) _).setCell (p := ⟨w.heap.size, 1, none⟩) (Nat.le_refl _) _).setCell (p := ⟨w.heap.size, 2, none⟩) (Nat.le_refl _) _).setCell (p := ⟨w.heap.size, 3, none⟩) (Nat.le_refl _) _, .inr ⟨hsm.out, by rw [hval.out]; rfl⟩⟩
set_option maxHeartbeats 4000000 in
set_option maxRecDepth 100000 in
theorem rnum_val2 (s : ByteArray) (a b : Nat) (hab : a < b) (hb : b ≤ s.size) (hs : s.size ≤ 65536) (c : Nat) (hc : (s[a]'(by omega)).toNat = c) (e48 : ((c : Int) == 48) = true) (hgt : ¬ a + 1 < b) (hbl : ¬ b < s.size) (hall : ∀ i, a ≤ i → i < b → isDigR (byteI s i) = true)  (w : World) :
    Calls Tryd.prog 42 #[.string s, .int .i64 a, .int .i64 b] w (NumV s a b w) := by
  have hlta : a < s.size := by omega
  have g1 : decide ((a : Int) + 1 < (b : Int)) = false := by simp; omega
  have g2 : decide ((b : Int) < (s.size : Int)) = false := by simp; omega
  go_enter Tryd.func42, Tryd.ntmps42
  go_wp2
  clear hc
  have Hall := Lib.hid hall
  clear hall
  have T0 := Lib.hid (TokCells.start w)
  go_loopw [8, 9] (fun x y W => ∃ k : Nat, a + k ≤ b ∧ y = .int .i64 ((a + k : Nat) : Int) ∧ x = .int .i64 (decTo s a k : Int) ∧ Hid (decTo s a k ≤ 9223372036854775807) ∧ W = w0T w) (fun _ y _ => b - (intOf y).toNat)
  case atStart => exact ⟨0, by omega, rfl, rfl, by show (0 : Nat) ≤ _; omega, rfl⟩
  case round =>
    obtain ⟨k, hk, rfl, rfl, hmax, rfl⟩ := hrel
    obtain ⟨n, hn⟩ : ∃ n, decTo s a k = n := ⟨_, rfl⟩
    have Hn := Lib.hid hn
    rw [hn]
    have hmx : n ≤ 9223372036854775807 := by rw [← Hn.out]; exact hmax.out
    clear hn
    by_cases hlt : a + k < b
    · have hlk : a + k < s.size := by omega
      obtain ⟨c2, hc2⟩ : ∃ c : Nat, (s[a + k]'hlk).toNat = c := ⟨_, rfl⟩
      have hby := Lib.hid ((byteI_at hlk).trans (by rw [hc2]) : byteI s (a + k) = (c2 : Int))
      have hdg := Hall.out (a + k) (by omega) hlt
      rw [hby.out] at hdg
      have hd1 : 48 ≤ c2 := by have := ((dig_iff _).mp hdg).1; omega
      have hd2 : c2 ≤ 57 := by have := ((dig_iff _).mp hdg).2; omega
      have hw8 := wrap_digit hd1 hd2
      have Hst : Hid (decTo s a (k + 1) = n * 10 + (c2 - 48)) := by
        show _ = _
        show decTo s a k * 10 + _ = _
        rw [Hn.out, hby.out]
        rfl
      clear hdg hby
      by_cases hov : 9223372036854775807 < n * 10 + (c2 - 48)
      · have Hov := Lib.hid hov
        clear hov
        have c0 := T0.out.c0
        have c1 := T0.out.c1
        have c2_ := T0.out.c2
        have c3 := T0.out.c3
        have f0 := T0.out.fr 0
        have f1 := T0.out.fr 1
        have f2 := T0.out.fr 2
        have f3 := T0.out.fr 3
        have hq : decide ((9223372036854775807 - ((c2 : Int) - 48)) / 10 < (n : Int)) = true := by have := Hov.out; rw [decide_eq_true_eq]; omega
        have hbig : Hid (9223372036854775807 < decTo s a (b - a)) := by
          show _ < _
          have h1 := decTo_mono s a (k + 1) (b - a) (by omega)
          have h2 := Hst.out
          have h3 := Hov.out
          omega
        go_wp2
        refine bodyPost_ret (v := .tuple #[.agg #[.int .i64 0, .int .i64 0, .string ⟨#[]⟩, .int .i64 0], .int .i64 4]) (by simp [results, Tryd.results42, go_sem, c0, c1, c2_, c3]) rfl ?_
        exact ⟨(((T0.out.below.setCell (p := ⟨w.heap.size, 0, none⟩) (Nat.le_refl _) _).setCell (p := ⟨w.heap.size, 1, none⟩) (Nat.le_refl _) _).setCell (p := ⟨w.heap.size, 2, none⟩) (Nat.le_refl _) _).setCell (p := ⟨w.heap.size, 3, none⟩) (Nat.le_refl _) _, .inl ⟨hbig.out, rfl⟩⟩
      · have Hov := Lib.hid hov
        have hq : decide ((9223372036854775807 - ((c2 : Int) - 48)) / 10 < (n : Int)) = false := by have := Hov.out; rw [decide_eq_false_iff_not]; omega
        clear hov
        have hb10 : (n : Int) * 10 ≤ 9223372036854775807 := by have h3 := Hov.out; omega
        have hb11 : (n : Int) * 10 + ((c2 : Int) - 48) ≤ 9223372036854775807 := by have h3 := Hov.out; omega
        have Hm2 : Hid (decTo s a (k + 1) ≤ 9223372036854775807) := by show _ ≤ _; have h2 := Hst.out; have h3 := Hov.out; omega
        go_wp2
        go_roundw
        case rel => exact ⟨k + 1, by omega, by go_num, by rw [Hst.out]; go_num, Hm2, by trivial⟩
        case measure => simp [intOf]; omega
    · obtain rfl : b = a + k := by omega
      have c0 := T0.out.c0
      have c1 := T0.out.c1
      have c2_ := T0.out.c2
      have c3 := T0.out.c3
      have f0 := T0.out.fr 0
      have f1 := T0.out.fr 1
      have f2 := T0.out.fr 2
      have f3 := T0.out.fr 3
      have hsm : Hid (¬ 9223372036854775807 < decTo s a (a + k - a)) := by
        show ¬ _ < _
        rw [Nat.add_sub_cancel_left, Hn.out]
        omega
      have hval : Hid (decTo s a (a + k - a) = n) := by
        show _ = _
        rw [Nat.add_sub_cancel_left, Hn.out]
      go_wp2
      refine bodyPost_ret (v := .tuple #[.agg #[.int .i64 3, .int .i64 a, .string (s.extract a (a + k)), .int .i64 n], .int .i64 0]) (by simp [results, Tryd.results42, go_sem, c0, c1, c2_, c3]) rfl ?_
      exact ⟨(((T0.out.below.setCell (p := ⟨w.heap.size, 0, none⟩) (Nat.le_refl _) _).setCell (p := ⟨w.heap.size, 1, none⟩) (Nat.le_refl _) _).setCell (p := ⟨w.heap.size, 2, none⟩) (Nat.le_refl _) _).setCell (p := ⟨w.heap.size, 3, none⟩) (Nat.le_refl _) _, .inr ⟨hsm.out, by rw [hval.out]; rfl⟩⟩
end Go.Proofs.YtmnfonhfbolnkaaDoor
