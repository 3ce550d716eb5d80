/-
  The definition's one: the token that begins at a place. (Written by gen_one.py.)
-/
import Derived.Test.YtmnfonhfbolnkaaDoorRNumA
namespace Go.Proofs.YtmnfonhfbolnkaaDoor
open Go.RowKit
set_option linter.unusedVariables false
set_option linter.unusedSimpArgs false

def S13 : ByteArray := ⟨#[123, 125, 40, 41, 59, 44, 46, 60, 43, 45, 42, 58, 61]⟩
theorem S13_size : S13.size = 13 := rfl
theorem S13_mem (k : Nat) (h : k < 13) : byteI S13 k = 123 ∨ byteI S13 k = 125 ∨ byteI S13 k = 40 ∨ byteI S13 k = 41 ∨ byteI S13 k = 59 ∨ byteI S13 k = 44 ∨ byteI S13 k = 46 ∨ byteI S13 k = 60 ∨ byteI S13 k = 43 ∨ byteI S13 k = 45 ∨ byteI S13 k = 42 ∨ byteI S13 k = 58 ∨ byteI S13 k = 61 := by
  revert k; decide
theorem S13_all (c : Int) (h : ∀ i, i < 13 → byteI S13 i ≠ c) : c ≠ 123 ∧ c ≠ 125 ∧ c ≠ 40 ∧ c ≠ 41 ∧ c ≠ 59 ∧ c ≠ 44 ∧ c ≠ 46 ∧ c ≠ 60 ∧ c ≠ 43 ∧ c ≠ 45 ∧ c ≠ 42 ∧ c ≠ 58 ∧ c ≠ 61 :=
  ⟨fun e => h 0 (by decide) e.symm, fun e => h 1 (by decide) e.symm, fun e => h 2 (by decide) e.symm, fun e => h 3 (by decide) e.symm, fun e => h 4 (by decide) e.symm, fun e => h 5 (by decide) e.symm, fun e => h 6 (by decide) e.symm, fun e => h 7 (by decide) e.symm, fun e => h 8 (by decide) e.symm, fun e => h 9 (by decide) e.symm, fun e => h 10 (by decide) e.symm, fun e => h 11 (by decide) e.symm, fun e => h 12 (by decide) e.symm⟩
theorem below_four {w X : World} (h : Below w.heap.size w X) (a b c d : Value) : Below w.heap.size w ((((X.setCell ⟨w.heap.size, 0, none⟩ a).setCell ⟨w.heap.size, 1, none⟩ b).setCell ⟨w.heap.size, 2, none⟩ c).setCell ⟨w.heap.size, 3, none⟩ d) :=
  (((h.setCell (p := ⟨w.heap.size, 0, none⟩) (Nat.le_refl _) _).setCell (p := ⟨w.heap.size, 1, none⟩) (Nat.le_refl _) _).setCell (p := ⟨w.heap.size, 2, none⟩) (Nat.le_refl _) _).setCell (p := ⟨w.heap.size, 3, none⟩) (Nat.le_refl _) _
def OneA (o : One) (a : Nat) (w : World) (e : Ending) (w' : World) : Prop := Below w.heap.size w w' ∧ e = .returned (ansA o a)
theorem one_word (u : ByteArray) (hl : isLetR (byteI u 0) = true) : oneF u = (if 32 < lb isWordR u 0 then ⟨0, ⟨#[]⟩, 0, 3⟩ else if isKwd (u.extract 0 (lb isWordR u 0)) = true then ⟨2, u.extract 0 (lb isWordR u 0), 0, 0⟩ else ⟨1, u.extract 0 (lb isWordR u 0), 0, 0⟩) := by
  unfold oneF; rw [if_pos hl]
theorem one_mark (u : ByteArray) (hl : isLetR (byteI u 0) = false) (hd : isDigR (byteI u 0) = false) : oneF u = (if markLen u = 0 then ⟨0, ⟨#[]⟩, 0, 2⟩ else ⟨4, u.extract 0 (markLen u), 0, 0⟩) := by
  unfold oneF; rw [if_neg (by rw [hl]; decide), if_neg (by rw [hd]; decide)]
set_option maxHeartbeats 8000000 in
set_option maxRecDepth 100000 in
theorem rone_word (s : ByteArray) (a : Nat) (ha : a < s.size) (hs : s.size ≤ 65536) (c : Nat) (hc : (s[a]'ha).toNat = c) (hl : isLetR (c : Int) = true) (o : One) (ho : oneF (s.extract a s.size) = o) (w : World) :
    Calls Tryd.prog 27 #[.string s, .int .i64 a] w (OneA o a w) := by
  have h0 : byteI (s.extract a s.size) 0 = (c : Int) := by rw [byteI_suf, Nat.add_zero, byteI_at ha, hc]
  have hla := lb_eq isWordR s a _ (Nat.le_of_lt ha) rfl
  have hlet : isLetR (byteI s a) = true := by rw [byteI_at ha, hc]; exact hl
  have how := one_word (s.extract a s.size) (by rw [h0]; exact hl)
  have hws := lb_suf isWordR s a (Nat.le_of_lt ha)
  rw [ho, ext_suf s a _ (by have := (lb_led isWordR (s.extract a s.size) 0 (Nat.zero_le _)).le; rw [size_extract s a _ (Nat.le_refl _)] at this; omega), hws] at how
  obtain ⟨b, hb⟩ : ∃ b, lb isWordR s a = b := ⟨_, rfl⟩
  rw [hb] at how hla
  rw [show lb isWordR (s.extract a s.size) 0 = b - a from hla.1] at how
  have hab := hla.2.1
  have hbs := hla.2.2
  have T0 := Lib.hid (TokCells.start w)
  have Hl := Lib.hid hl
  have Hend := fun W => (rend_word s a b hb ha hlet W hs)
  have hz : (s.extract a b).size = b - a := size_extract s a b hbs
  obtain ⟨t, ht⟩ : ∃ t, s.extract a b = t := ⟨_, rfl⟩
  rw [ht] at how hz
  have Hend := Lib.hid Hend
  have Ho : Hid (_ = _) := how
  clear how hl hla hws h0 hlet ho hb
  by_cases h32 : 32 < t.size
  · have g32 : decide ((32 : Int) < (t.size : Int)) = true := by simp; omega
    have Ho2 : Hid (o = ⟨0, ⟨#[]⟩, 0, 3⟩) := by show _ = _; rw [Ho.out, if_pos (by omega)]
    have c0 := T0.out.c0
    have c1 := T0.out.c1
    have c2_ := T0.out.c2
    have c3 := T0.out.c3
    have f0 := T0.out.fr 0
    have f1 := T0.out.fr 1
    have f2 := T0.out.fr 2
    have f3 := T0.out.fr 3
    go_enter Tryd.func27, Tryd.ntmps27
    go_wp2_with (first | (go_at_call 29; refine (rletter_at _ true Hl.out _).mono ?_; rintro e w' ⟨rfl, rfl⟩) | (go_at_call 40; refine (Hend.out _).mono ?_; rintro e w' ⟨rfl, rfl⟩))
    refine bodyPost_ret (v := .tuple #[.agg #[.int .i64 0, .int .i64 0, .string ⟨#[]⟩, .int .i64 0], .int .i64 3]) (by simp [results, Tryd.results27, go_sem, c0, c1, c2_, c3]) rfl ?_
    exact ⟨by first | exact below_four T0.out.below _ _ _ _ | exact T0.out.below, by rw [Ho2.out]; rfl⟩
  · have g32 : decide ((32 : Int) < (t.size : Int)) = false := by simp; omega
    have htm : t.size ≤ maxLen := by unfold maxLen; omega
    cases hk : isKwd t with
    | true =>
      have Ho2 : Hid (o = ⟨2, t, 0, 0⟩) := by show _ = _; rw [Ho.out, if_neg (by omega), if_pos hk]
      have Hk := Lib.hid hk
      clear hk
      go_enter Tryd.func27, Tryd.ntmps27
      go_wp2_with (first | (go_at_call 29; refine (rletter_at _ true Hl.out _).mono ?_; rintro e w' ⟨rfl, rfl⟩) | (go_at_call 40; refine (Hend.out _).mono ?_; rintro e w' ⟨rfl, rfl⟩) | (go_at_call 15; refine (rkey_at _ true Hk.out _ htm).mono ?_; rintro e w1 ⟨rfl, hb1⟩; have T1 := T0.out.step hb1; have c0 := T1.c0; have c1 := T1.c1; have c2_ := T1.c2; have c3 := T1.c3; have f0 := T1.fr 0; have f1 := T1.fr 1; have f2 := T1.fr 2; have f3 := T1.fr 3; have T2 := Lib.hid T1; clear T1 hb1))
      refine bodyPost_ret (v := .tuple #[.agg #[.int .i64 2, .int .i64 a, .string t, .int .i64 0], .int .i64 0]) (by simp [results, Tryd.results27, go_sem, c0, c1, c2_, c3]) rfl ?_
      exact ⟨by first | exact below_four T2.out.below _ _ _ _ | exact T2.out.below, by rw [Ho2.out]; rfl⟩
    | false =>
      have Ho2 : Hid (o = ⟨1, t, 0, 0⟩) := by show _ = _; rw [Ho.out, if_neg (by omega), if_neg (by rw [hk]; decide)]
      have Hk := Lib.hid hk
      clear hk
      go_enter Tryd.func27, Tryd.ntmps27
      go_wp2_with (first | (go_at_call 29; refine (rletter_at _ true Hl.out _).mono ?_; rintro e w' ⟨rfl, rfl⟩) | (go_at_call 40; refine (Hend.out _).mono ?_; rintro e w' ⟨rfl, rfl⟩) | (go_at_call 15; refine (rkey_at _ false Hk.out _ htm).mono ?_; rintro e w1 ⟨rfl, hb1⟩; have T1 := T0.out.step hb1; have c0 := T1.c0; have c1 := T1.c1; have c2_ := T1.c2; have c3 := T1.c3; have f0 := T1.fr 0; have f1 := T1.fr 1; have f2 := T1.fr 2; have f3 := T1.fr 3; have T2 := Lib.hid T1; clear T1 hb1))
      refine bodyPost_ret (v := .tuple #[.agg #[.int .i64 1, .int .i64 a, .string t, .int .i64 0], .int .i64 0]) (by simp [results, Tryd.results27, go_sem, c0, c1, c2_, c3]) rfl ?_
      exact ⟨by first | exact below_four T2.out.below _ _ _ _ | exact T2.out.below, by rw [Ho2.out]; rfl⟩
set_option maxHeartbeats 8000000 in
set_option maxRecDepth 100000 in
theorem rone_num (s : ByteArray) (a : Nat) (ha : a < s.size) (hs : s.size ≤ 65536) (c : Nat) (hc : (s[a]'ha).toNat = c) (hl : isLetR (c : Int) = false) (hd : isDigR (c : Int) = true) (o : One) (ho : oneF (s.extract a s.size) = o) (w : World) :
    Calls Tryd.prog 27 #[.string s, .int .i64 a] w (OneA o a w) := by
  have h0 : byteI (s.extract a s.size) 0 = (c : Int) := by rw [byteI_suf, Nat.add_zero, byteI_at ha, hc]
  have hlet : isLetR (byteI s a) = false := by rw [byteI_at ha, hc]; exact hl
  have hdig : isDigR (byteI s a) = true := by rw [byteI_at ha, hc]; exact hd
  obtain ⟨b, hb⟩ : ∃ b, lb isDigR s a = b := ⟨_, rfl⟩
  have hla := lb_eq isDigR s a b (Nat.le_of_lt ha) hb
  have hab := hla.2.1
  have hbs := hla.2.2
  have T0 := Lib.hid (TokCells.start w)
  have Hl := Lib.hid hl
  have Hd := Lib.hid hd
  have Hend := Lib.hid (fun W => (rend_digits s a b hb ha hlet W hs))
  have Hnum := Lib.hid (fun W => rnum_any s a b hb ha hs (by rw [hlet]; decide) hdig o ho W)
  obtain ⟨k, t, n, e0⟩ := o
  obtain ⟨ad, had⟩ : ∃ ad : Int, ((if e0 = 0 then a else 0 : Nat) : Int) = ad := ⟨_, rfl⟩
  have Hans : Hid (ansA ⟨k, t, n, e0⟩ a = .tuple #[.agg #[.int .i64 k, .int .i64 ad, .string t, .int .i64 n], .int .i64 e0]) := by show _ = _; subst had; rfl
  clear had
  clear hla hl hd hlet hdig hb h0 ho
  go_enter Tryd.func27, Tryd.ntmps27
  go_wp2_with (first | (go_at_call 29; refine (rletter_at _ false Hl.out _).mono ?_; rintro e w' ⟨rfl, rfl⟩) | (go_at_call 41; refine (rdigit_at _ true Hd.out _).mono ?_; rintro e w' ⟨rfl, rfl⟩) | (go_at_call 40; refine (Hend.out _).mono ?_; rintro e w' ⟨rfl, rfl⟩) | (go_at_call 42; refine (Hnum.out _).mono ?_; rintro e w1 ⟨hb1, rfl⟩; rw [Hans.out]; have T1 := T0.out.step hb1; have c0 := T1.c0; have c1 := T1.c1; have c2_ := T1.c2; have c3 := T1.c3; have f0 := T1.fr 0; have f1 := T1.fr 1; have f2 := T1.fr 2; have f3 := T1.fr 3; have T2 := Lib.hid T1; clear T1 hb1))
  refine bodyPost_ret (v := .tuple #[.agg #[.int .i64 k, .int .i64 ad, .string t, .int .i64 n], .int .i64 e0]) (by simp [results, Tryd.results27, go_sem, c0, c1, c2_, c3]) rfl ?_
  exact ⟨by first | exact below_four T2.out.below _ _ _ _ | exact T2.out.below, by rw [Hans.out]⟩
set_option maxHeartbeats 8000000 in
set_option maxRecDepth 100000 in
theorem rone_mark (s : ByteArray) (a : Nat) (ha : a < s.size) (hs : s.size ≤ 65536) (c : Nat) (hc : (s[a]'ha).toNat = c) (hl : isLetR (c : Int) = false) (hd : isDigR (c : Int) = false) (o : One) (ho : oneF (s.extract a s.size) = o) (w : World) :
    Calls Tryd.prog 27 #[.string s, .int .i64 a] w (OneA o a w) := by
  have h0 : byteI (s.extract a s.size) 0 = (c : Int) := by rw [byteI_suf, Nat.add_zero, byteI_at ha, hc]
  have how := one_mark (s.extract a s.size) (by rw [h0]; exact hl) (by rw [h0]; exact hd)
  rw [ho] at how
  have hm1 : byteI (s.extract a s.size) 1 = byteI s (a + 1) := byteI_suf s a 1
  have hml : ∀ m, markLen (s.extract a s.size) = m → 0 < m → a + m ≤ s.size → Hid (o = ⟨4, s.extract a (a + m), 0, 0⟩) := fun m h1 h2 h3 => by
    show _ = _
    rw [how, h1, if_neg (by omega), ext_suf s a m h3]
  have hm0 : markLen (s.extract a s.size) = 0 → Hid (o = ⟨0, ⟨#[]⟩, 0, 2⟩) := fun h => by
    show _ = _
    rw [how, if_pos h]
  have Hml := Lib.hid hml
  have Hm0 := Lib.hid hm0
  have Hm1 := Lib.hid hm1
  have H0 := Lib.hid h0
  have T0 := Lib.hid (TokCells.start w)
  have Hl := Lib.hid hl
  have Hd := Lib.hid hd
  clear hml hm0 how ho hl hd h0 hm1
  have c0 := T0.out.c0
  have c1 := T0.out.c1
  have c2_ := T0.out.c2
  have c3 := T0.out.c3
  have f0 := T0.out.fr 0
  have f1 := T0.out.fr 1
  have f2 := T0.out.fr 2
  have f3 := T0.out.fr 3
  go_enter Tryd.func27, Tryd.ntmps27
  go_wp2_with (first | (go_at_call 29; refine (rletter_at _ false Hl.out _).mono ?_; rintro e w' ⟨rfl, rfl⟩) | (go_at_call 41; refine (rdigit_at _ false Hd.out _).mono ?_; rintro e w' ⟨rfl, rfl⟩))
  rw [show (⟨#[123, 125, 40, 41, 59, 44, 46, 60, 43, 45, 42, 58, 61]⟩ : ByteArray) = S13 from rfl]
  go_loopw [9] (fun x W => ∃ k : Nat, k ≤ 13 ∧ x = .int .i64 k ∧ Hid (∀ i, i < k → byteI S13 i ≠ (c : Int)) ∧ W = w0T w) (fun x _ => 13 - (intOf x).toNat)
  case atStart => exact ⟨0, by omega, rfl, fun i hi => by omega, rfl⟩
  case round =>
    obtain ⟨k, hk, rfl, hno, rfl⟩ := hrel
    have hsz := S13_size
    by_cases hlt : k < 13
    · have hk2 : k < S13.size := by rw [S13_size]; exact hlt
      obtain ⟨m, hm⟩ : ∃ m : Nat, (S13[k]'hk2).toNat = m := ⟨_, rfl⟩
      have Hmb := Lib.hid ((byteI_at hk2).trans (by rw [hm]) : byteI S13 k = (m : Int))
      by_cases hq : m = c
      · subst hq
        have Hmem := Lib.hid (S13_mem k hlt)
        have hqb : ((m : Int) != (m : Int)) = false := by simp
        by_cases h58 : m = 58
        · have e58 : ((m : Int) == 58) = true := by simp; omega
          by_cases hn1 : a + 1 < s.size
          · obtain ⟨d, hd⟩ : ∃ d : Nat, (s[a + 1]'hn1).toNat = d := ⟨_, rfl⟩
            have hdy := Lib.hid ((byteI_at hn1).trans (by rw [hd]) : byteI s (a + 1) = (d : Int))
            by_cases hdm : d = m
            · have hdb : ((d : Int) == (m : Int)) = true := by simp; omega
              have Hone := Hml.out 2 (by unfold markLen; rw [H0.out, Hm1.out]; rw [if_pos (by omega), if_pos (by rw [hdy.out]; omega)]) (by omega) (by omega)
              go_wp2
              refine bodyPost_ret (v := .tuple #[.agg #[.int .i64 4, .int .i64 a, .string (s.extract a (a + 2)), .int .i64 0], .int .i64 0]) (by simp [results, Tryd.results27, go_sem, c0, c1, c2_, c3]) rfl ?_
              exact ⟨by first | exact below_four T0.out.below _ _ _ _ | exact T0.out.below, by rw [Hone.out]; rfl⟩
            · have hdb : ((d : Int) == (m : Int)) = false := by simp; omega
              have Hone := Hml.out 1 (by unfold markLen; rw [H0.out, Hm1.out]; rw [if_pos (by omega), if_neg (by rw [hdy.out]; omega)]) (by omega) (by omega)
              go_wp2
              refine bodyPost_ret (v := .tuple #[.agg #[.int .i64 4, .int .i64 a, .string (s.extract a (a + 1)), .int .i64 0], .int .i64 0]) (by simp [results, Tryd.results27, go_sem, c0, c1, c2_, c3]) rfl ?_
              exact ⟨by first | exact below_four T0.out.below _ _ _ _ | exact T0.out.below, by rw [Hone.out]; rfl⟩
          · have hge : decide ((a : Int) + 1 < (s.size : Int)) = false := by simp; omega
            have Hone := Hml.out 1 (by unfold markLen; rw [H0.out, Hm1.out]; rw [if_pos (by omega), if_neg (by rw [byteI_out (show s.size ≤ a + 1 by omega)]; omega)]) (by omega) (by omega)
            go_wp2
            refine bodyPost_ret (v := .tuple #[.agg #[.int .i64 4, .int .i64 a, .string (s.extract a (a + 1)), .int .i64 0], .int .i64 0]) (by simp [results, Tryd.results27, go_sem, c0, c1, c2_, c3]) rfl ?_
            exact ⟨by first | exact below_four T0.out.below _ _ _ _ | exact T0.out.below, by rw [Hone.out]; rfl⟩
        · skip
          by_cases h61 : m = 61
          · have e61 : ((m : Int) == 61) = true := by simp; omega
            have e58 : ((m : Int) == 58) = false := by simp; omega
            by_cases hn1 : a + 1 < s.size
            · obtain ⟨d, hd⟩ : ∃ d : Nat, (s[a + 1]'hn1).toNat = d := ⟨_, rfl⟩
              have hdy := Lib.hid ((byteI_at hn1).trans (by rw [hd]) : byteI s (a + 1) = (d : Int))
              by_cases hdm : d = m
              · have hdb : ((d : Int) == (m : Int)) = true := by simp; omega
                have Hone := Hml.out 2 (by unfold markLen; rw [H0.out, Hm1.out]; rw [if_neg (by omega), if_pos (by omega), if_pos (by rw [hdy.out]; omega)]) (by omega) (by omega)
                go_wp2
                refine bodyPost_ret (v := .tuple #[.agg #[.int .i64 4, .int .i64 a, .string (s.extract a (a + 2)), .int .i64 0], .int .i64 0]) (by simp [results, Tryd.results27, go_sem, c0, c1, c2_, c3]) rfl ?_
                exact ⟨by first | exact below_four T0.out.below _ _ _ _ | exact T0.out.below, by rw [Hone.out]; rfl⟩
              · have hdb : ((d : Int) == (m : Int)) = false := by simp; omega
                have Hone := Hml.out 1 (by unfold markLen; rw [H0.out, Hm1.out]; rw [if_neg (by omega), if_pos (by omega), if_neg (by rw [hdy.out]; omega)]) (by omega) (by omega)
                go_wp2
                refine bodyPost_ret (v := .tuple #[.agg #[.int .i64 4, .int .i64 a, .string (s.extract a (a + 1)), .int .i64 0], .int .i64 0]) (by simp [results, Tryd.results27, go_sem, c0, c1, c2_, c3]) rfl ?_
                exact ⟨by first | exact below_four T0.out.below _ _ _ _ | exact T0.out.below, by rw [Hone.out]; rfl⟩
            · have hge : decide ((a : Int) + 1 < (s.size : Int)) = false := by simp; omega
              have Hone := Hml.out 1 (by unfold markLen; rw [H0.out, Hm1.out]; rw [if_neg (by omega), if_pos (by omega), if_neg (by rw [byteI_out (show s.size ≤ a + 1 by omega)]; omega)]) (by omega) (by omega)
              go_wp2
              refine bodyPost_ret (v := .tuple #[.agg #[.int .i64 4, .int .i64 a, .string (s.extract a (a + 1)), .int .i64 0], .int .i64 0]) (by simp [results, Tryd.results27, go_sem, c0, c1, c2_, c3]) rfl ?_
              exact ⟨by first | exact below_four T0.out.below _ _ _ _ | exact T0.out.below, by rw [Hone.out]; rfl⟩
          · have e58 : ((m : Int) == 58) = false := by simp; omega
            have e61 : ((m : Int) == 61) = false := by simp; omega
            have Hm3 := Hmem.out
            rw [Hmb.out] at Hm3
            have Hm4 := Lib.hid Hm3
            clear Hm3
            have Hone := Hml.out 1 (by unfold markLen; rw [H0.out, Hm1.out]; rw [if_neg (by omega), if_neg (by omega), if_pos (by have := Hm4.out; omega)]) (by omega) (by omega)
            go_wp2
            refine bodyPost_ret (v := .tuple #[.agg #[.int .i64 4, .int .i64 a, .string (s.extract a (a + 1)), .int .i64 0], .int .i64 0]) (by simp [results, Tryd.results27, go_sem, c0, c1, c2_, c3]) rfl ?_
            exact ⟨by first | exact below_four T0.out.below _ _ _ _ | exact T0.out.below, by rw [Hone.out]; rfl⟩
      · have hqb : ((m : Int) != (c : Int)) = true := by simp; omega
        have Hno : Hid (∀ i, i < k + 1 → byteI S13 i ≠ (c : Int)) := fun i hi => by
          rcases Nat.lt_or_ge i k with h | h
          · exact hno.out i h
          · obtain rfl : i = k := by omega
            rw [Hmb.out]; omega
        go_wp2
        go_roundw
        case rel => exact ⟨k + 1, by omega, by go_num, Hno, by trivial⟩
        case measure => simp [intOf]; omega
    · have Hone := Hm0.out (by
        obtain ⟨x1, x2, x3, x4, x5, x6, x7, x8, x9, x10, x11, x12, x13⟩ := S13_all (c : Int) (fun i hi => hno.out i (by omega))
        unfold markLen
        rw [H0.out, if_neg x12, if_neg x13, if_neg (by omega)])
      go_wp2
      refine bodyPost_ret (v := .tuple #[.agg #[.int .i64 0, .int .i64 0, .string ⟨#[]⟩, .int .i64 0], .int .i64 2]) (by simp [results, Tryd.results27, go_sem, c0, c1, c2_, c3]) rfl ?_
      exact ⟨by first | exact below_four T0.out.below _ _ _ _ | exact T0.out.below, by rw [Hone.out]; rfl⟩
theorem rone_any (s : ByteArray) (a : Nat) (ha : a < s.size) (hs : s.size ≤ 65536) (o : One) (ho : oneF (s.extract a s.size) = o) (w : World) :
    Calls Tryd.prog 27 #[.string s, .int .i64 a] w (OneA o a w) := by
  cases hl : isLetR (((s[a]'ha).toNat : Nat) : Int) with
  | true => exact rone_word s a ha hs _ rfl hl o ho w
  | false =>
    cases hd : isDigR (((s[a]'ha).toNat : Nat) : Int) with
    | true => exact rone_num s a ha hs _ rfl hl hd o ho w
    | false => exact rone_mark s a ha hs _ rfl hl hd o ho w
end Go.Proofs.YtmnfonhfbolnkaaDoor
