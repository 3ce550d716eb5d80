/-
  Ident and Keyword, the program's and the definition's. (Written by gen_isword.py.)
-/
import Derived.Test.YtmnfonhfbolnkaaDoorWdM
namespace Go.Proofs.YtmnfonhfbolnkaaDoor
open Go.RowKit
set_option linter.unusedVariables false
set_option linter.unusedSimpArgs false

def BoolEnd (b : Bool) (w : World) (e : Ending) (w' : World) : Prop := e = .returned (.bool b) ∧ Below w.heap.size w w'
set_option maxHeartbeats 4000000 in
set_option maxRecDepth 100000 in
theorem isWord_any (s : ByteArray) (kind : Int) (b : Bool) (hb : isW s kind = b) (w : World) (hs : s.size ≤ 281474976710656) (hT : Tabs w) : Calls Tryd.prog 28 #[.string s, .int .i64 kind] w (BoolEnd b w) := by
  obtain ⟨o, ho⟩ : ∃ o, oneF s = o := ⟨_, rfl⟩
  have Hf := Lib.hid (first_any s o ho w hs hT)
  unfold isW at hb
  rw [ho] at hb
  obtain ⟨k, t, n, e0⟩ := o
  have Hb : Hid (((e0 == 0) && (k == kind) && (t.toList == s.toList)) = b) := hb
  clear hb ho hT
  cases h0 : (e0 == 0) with
  | false =>
    have Hv : Hid (false = b) := by show _ = _; rw [← Hb.out]; simp [h0]
    go_enter Tryd.func28, Tryd.ntmps28
    go_wp2_with (go_at_call 25; refine Hf.out.mono ?_; rintro e w1 ⟨hb1, rfl⟩; unfold tokV; have Hb1 := Lib.hid hb1; have hsz := hb1.size; clear hb1)
    go_ret
    exact ⟨ret_bool Hv.out, Hb1.out.alloc hsz _⟩
  | true =>
    cases h1 : (k == kind) with
    | false =>
      have Hv : Hid (false = b) := by show _ = _; rw [← Hb.out]; simp [h0, h1]
      go_enter Tryd.func28, Tryd.ntmps28
      go_wp2_with (go_at_call 25; refine Hf.out.mono ?_; rintro e w1 ⟨hb1, rfl⟩; unfold tokV; have Hb1 := Lib.hid hb1; have hsz := hb1.size; clear hb1)
      go_ret
      exact ⟨ret_bool Hv.out, Hb1.out.alloc hsz _⟩
    | true =>
      cases h2 : (t.toList == s.toList) with
      | false =>
        have Hv : Hid (false = b) := by show _ = _; rw [← Hb.out]; simp [h0, h1, h2]
        go_enter Tryd.func28, Tryd.ntmps28
        go_wp2_with (go_at_call 25; refine Hf.out.mono ?_; rintro e w1 ⟨hb1, rfl⟩; unfold tokV; have Hb1 := Lib.hid hb1; have hsz := hb1.size; clear hb1)
        go_ret
        exact ⟨ret_bool Hv.out, Hb1.out.alloc hsz _⟩
      | true =>
        have Hv : Hid (true = b) := by show _ = _; rw [← Hb.out]; simp [h0, h1, h2]
        go_enter Tryd.func28, Tryd.ntmps28
        go_wp2_with (go_at_call 25; refine Hf.out.mono ?_; rintro e w1 ⟨hb1, rfl⟩; unfold tokV; have Hb1 := Lib.hid hb1; have hsz := hb1.size; clear hb1)
        go_ret
        exact ⟨ret_bool Hv.out, Hb1.out.alloc hsz _⟩
theorem ident_any (s : ByteArray) (b : Bool) (hb : isW s 1 = b) (w : World) (hs : s.size ≤ 281474976710656) (hT : Tabs w) : Calls Tryd.prog 12 #[.string s] w (BoolEnd b w) := by
  have Hc := Lib.hid (isWord_any s 1 b hb w hs hT)
  clear hb
  go_enter Tryd.func12, Tryd.ntmps12
  go_wp2_with (go_at_call 28; refine Hc.out.mono ?_; rintro e w1 ⟨rfl, hb1⟩; have Hb1 := Lib.hid hb1; clear hb1)
  go_ret
  exact ⟨rfl, Hb1.out⟩
theorem keyword_any (s : ByteArray) (b : Bool) (hb : isW s 2 = b) (w : World) (hs : s.size ≤ 281474976710656) (hT : Tabs w) : Calls Tryd.prog 14 #[.string s] w (BoolEnd b w) := by
  have Hc := Lib.hid (isWord_any s 2 b hb w hs hT)
  clear hb
  go_enter Tryd.func14, Tryd.ntmps14
  go_wp2_with (go_at_call 28; refine Hc.out.mono ?_; rintro e w1 ⟨rfl, hb1⟩; have Hb1 := Lib.hid hb1; clear hb1)
  go_ret
  exact ⟨rfl, Hb1.out⟩
set_option maxHeartbeats 4000000 in
set_option maxRecDepth 100000 in
theorem rident_any (s : ByteArray) (b : Bool) (hb : isW s 1 = b) (w : World) (hs : s.size ≤ maxLen) : Calls Tryd.prog 13 #[.string s] w (BoolEnd b w) := by
  have hii := isW_ident s
  have no : ¬ (0 < s.size ∧ s.size ≤ 32 ∧ isLetR (byteI s 0) = true ∧ isKwd s = false ∧ ∀ i, i < s.size → isWordR (byteI s i) = true) → Hid (false = b) := fun h => by
    show _ = _
    rw [← hb]
    cases hx : isW s 1 with
    | false => rfl
    | true => exact absurd (hii.mp hx) h
  have yes : (0 < s.size ∧ s.size ≤ 32 ∧ isLetR (byteI s 0) = true ∧ isKwd s = false ∧ ∀ i, i < s.size → isWordR (byteI s i) = true) → Hid (true = b) := fun h => by
    show _ = _
    rw [← hb, hii.mpr h]
  have No := Lib.hid no
  have Yes := Lib.hid yes
  unfold maxLen at hs
  clear no yes hii hb
  by_cases h0 : 0 < s.size
  · have g0 : (s.toList == []) = false := by rw [beq_eq_false_iff_ne]; intro h; rw [toList_nil] at h; omega
    by_cases h32 : s.size ≤ 32
    · have g1 : decide ((32 : Int) < (s.size : Int)) = false := by simp; omega
      obtain ⟨c, hc⟩ : ∃ c : Nat, (s[0]'h0).toNat = c := ⟨_, rfl⟩
      have hby : byteI s 0 = (c : Int) := by rw [byteI_at h0, hc]
      cases hl : isLetR (c : Int) with
      | false =>
        have Hv := No.out (by rw [hby, hl]; rintro ⟨_, _, h, _⟩; cases h)
        have Hl := Lib.hid hl
        clear hl hby
        go_enter Tryd.func13, Tryd.ntmps13
        go_wp2_with (go_at_call 29; refine (rletter_at _ false Hl.out _).mono ?_; rintro e w' ⟨rfl, rfl⟩)
        go_ret
        exact ⟨ret_bool Hv.out, Below.refl _ _⟩
      | true =>
        cases hk : isKwd s with
        | true =>
          have Hv := No.out (by rw [hk]; rintro ⟨_, _, _, h, _⟩; cases h)
          have Hl := Lib.hid hl
          have Hk := Lib.hid hk
          clear hl hby hk
          go_enter Tryd.func13, Tryd.ntmps13
          go_wp2_with (first | (go_at_call 29; refine (rletter_at _ true Hl.out _).mono ?_; rintro e w' ⟨rfl, rfl⟩) | (go_at_call 15; refine (rkey_at _ true Hk.out _ (by unfold maxLen; omega)).mono ?_; rintro e w1 ⟨rfl, hb1⟩; have Hb1 := Lib.hid hb1; clear hb1))
          go_ret
          exact ⟨ret_bool Hv.out, Hb1.out⟩
        | false =>
          have Hl := Lib.hid hl
          have Hk := Lib.hid hk
          have Hby := Lib.hid hby
          clear hl hby hk
          go_enter Tryd.func13, Tryd.ntmps13
          go_wp2_with (first | (go_at_call 29; refine (rletter_at _ true Hl.out _).mono ?_; rintro e w' ⟨rfl, rfl⟩) | (go_at_call 15; refine (rkey_at _ false Hk.out _ (by unfold maxLen; omega)).mono ?_; rintro e w1 ⟨rfl, hb1⟩; have Hb1 := Lib.hid hb1; clear hb1))
          clear hc
          go_loopw [3] (fun x W => ∃ k : Nat, k ≤ s.size ∧ x = .int .i64 k ∧ Hid (∀ i, i < k → isWordR (byteI s i) = true) ∧ W = w1) (fun x _ => s.size - (intOf x).toNat)
          case atStart => exact ⟨0, by omega, rfl, fun i hi => by omega, rfl⟩
          case round =>
            obtain ⟨k, hkk, rfl, hall, rfl⟩ := hrel
            by_cases hlt : k < s.size
            · obtain ⟨d, hd⟩ : ∃ d : Nat, (s[k]'hlt).toNat = d := ⟨_, rfl⟩
              have hdy := Lib.hid ((byteI_at hlt).trans (by rw [hd]) : byteI s k = (d : Int))
              cases hq : isWordR (d : Int) with
              | true =>
                have Hq := Lib.hid hq
                have Hn : Hid (∀ i, i < k + 1 → isWordR (byteI s i) = true) := fun i hi => by
                  rcases Nat.lt_or_ge i k with h | h
                  · exact hall.out i h
                  · obtain rfl : i = k := by omega
                    rw [hdy.out]; exact hq
                clear hq
                go_wp2_with (go_at_call 30; refine (rpart_at _ true Hq.out _).mono ?_; rintro e w' ⟨rfl, rfl⟩)
                go_roundw
                case rel => exact ⟨k + 1, by omega, by go_num, Hn, by trivial⟩
                case measure => simp [intOf]; omega
              | false =>
                have Hq := Lib.hid hq
                have Hv := No.out (by rintro ⟨_, _, _, _, h⟩; have := h k hlt; rw [hdy.out, hq] at this; cases this)
                clear hq
                go_wp2_with (go_at_call 30; refine (rpart_at _ false Hq.out _).mono ?_; rintro e w' ⟨rfl, rfl⟩)
                go_ret
                exact ⟨ret_bool Hv.out, Hb1.out⟩
            · have Hv := Yes.out ⟨h0, h32, by rw [Hby.out]; exact Hl.out, Hk.out, fun i hi => hall.out i (by omega)⟩
              go_wp2
              go_ret
              exact ⟨ret_bool Hv.out, Hb1.out⟩
    · have g1 : decide ((32 : Int) < (s.size : Int)) = true := by simp; omega
      have Hv := No.out (by rintro ⟨_, h, _⟩; exact h32 h)
      go_enter Tryd.func13, Tryd.ntmps13
      go_wp2
      go_ret
      exact ⟨ret_bool Hv.out, Below.refl _ _⟩
  · have g0 : (s.toList == []) = true := by rw [beq_iff_eq, toList_nil]; omega
    have Hv := No.out (by rintro ⟨h, _⟩; exact h0 h)
    go_enter Tryd.func13, Tryd.ntmps13
    go_wp2
    go_ret
    exact ⟨ret_bool Hv.out, Below.refl _ _⟩
end Go.Proofs.YtmnfonhfbolnkaaDoor
