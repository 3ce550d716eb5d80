/-
  The walks of the two Checks, of isNumber and of the two Sames: each returns what the plain mathematics says, and leaves the world as it is but for draws.
-/
import Derived.Test.YtmpofbiphklilaaRows
import Derived.Test.YtmpofbiphklilaaPMath
import Derived.WalkKit
import Derived.WalkSpells
import Derived.WalkLawsBesides
import Derived.Lib.Hide
import Derived.Deep.QuietTactic
import Derived.BigQuiet
namespace Go.Proofs.Ytmpofbiphklilaa
open Go.RowKit
set_option linter.unusedVariables false

/-- A slice value reads as a list of ints. -/
def Ints (w : World) (a : Option Addr) (zs : List Int) : Prop :=
  0 < zs.length → ∃ b off, a = some ⟨b, off, none⟩ ∧ ∀ i, i < zs.length → w.cell? ⟨b, off + i, none⟩ = some (.int .i64 (zs.getD i 0))

theorem Ints.drewN {w : World} {a : Option Addr} {zs : List Int} (h : Ints w a zs) (n : Nat) : Ints (w.drewN n) a zs := h
theorem ret_int {k : IntKind} {a b : Int} (h : a = b) : Ending.returned (.int k a) = .returned (.int k b) := by rw [h]
theorem ret_bool {a b : Bool} (h : a = b) : Ending.returned (.bool a) = .returned (.bool b) := by rw [h]

set_option maxHeartbeats 400000 in
theorem check_any (a : Option Addr) (c : Nat) (zs : List Int) (w : World) (hn : zs.length ≤ maxLen) (hz : Ints w a zs) :
    Calls Try.prog 10 #[.slice a zs.length c] w fun e w' => e = .returned (.int .i64 (chk zs)) ∧ w = w' := by
  unfold maxLen at hn
  by_cases hbig : 8192 < zs.length
  · have hc : Hid (chk zs = 3) := by show chk zs = 3; unfold chk; rw [if_pos hbig]
    go_enter Try.func10, Try.ntmps10
    go_wp2
    go_ret
    exact ⟨ret_int hc.out.symm, rfl⟩
  · have hc : Hid (chk zs = chkN zs (zs.length - 0) 0) := by show chk zs = _; unfold chk; rw [if_neg hbig]; rfl
    go_enter Try.func10, Try.ntmps10
    go_wp2
    go_loop [3, 4, 10] (fun _ _ i => ∃ k : Nat, k ≤ zs.length ∧ i = .int .i64 k ∧ chk zs = chkN zs (zs.length - k) k) (fun _ _ i => zs.length - (intOf i).toNat)
    case atStart => exact ⟨0, Nat.zero_le _, rfl, hc.out⟩
    case round =>
      obtain ⟨k, hk, rfl, hr0⟩ := hrel
      have hr := Lib.hid hr0
      clear hr0
      by_cases hlt : k < zs.length
      · obtain ⟨b, off, rfl, hcell⟩ := hz (by omega)
        have hck := hcell k hlt
        have hcy := fun h : (zs.getD k 0).toNat < zs.length => hcell _ h
        obtain ⟨z, hzk⟩ : ∃ z, zs.getD k 0 = z := ⟨_, rfl⟩
        rw [hzk] at hck hcy
        obtain ⟨y, hzy⟩ : ∃ y, zs.getD z.toNat 0 = y := ⟨_, rfl⟩
        rw [hzy] at hcy
        have Hzk := Lib.hid hzk
        have Hzy := Lib.hid hzy
        clear hzk hzy hcell
        by_cases c1 : z < 0
        · go_wp2
          go_ret
          exact ⟨ret_int (chk_neg hr.out hlt Hzk.out c1).symm, rfl⟩
        · by_cases c2 : (k : Int) < z
          · go_wp2
            go_ret
            exact ⟨ret_int (chk_high hr.out hlt Hzk.out (by omega) c2).symm, rfl⟩
          · obtain ⟨m, rfl⟩ : ∃ m : Nat, z = m := ⟨z.toNat, by omega⟩
            have hcz := hcy (by omega)
            simp only [Int.toNat_natCast] at hcz
            clear hcy
            by_cases c3 : y = (m : Int)
            · have t := Lib.hid (chk_next hr.out hlt Hzk.out (by omega) (by omega) Hzy.out c3)
              clear Hzy
              subst c3
              go_wp2
              go_round
              case rel => exact ⟨k + 1, by omega, by go_num, t.out⟩
              case measure => simp [intOf]; omega
            · have t := Lib.hid (chk_loose hr.out hlt Hzk.out (by omega) (by omega) Hzy.out c3)
              have hb : (y != (m : Int)) = true := by simpa using c3
              go_wp2
              go_ret
              exact ⟨ret_int t.out.symm, rfl⟩
      · go_wp2
        go_ret
        exact ⟨ret_int (chk_end hr.out hlt).symm, rfl⟩
/-- The world is as it was but for draws. -/
def Drawn (w w' : World) : Prop := ∃ n, w' = w.drewN n
theorem Drawn.refl (w : World) : Drawn w w := ⟨0, rfl⟩
theorem Drawn.step {w w' : World} (h : Drawn w w') (n : Nat) : Drawn w (w'.drewN n) := by
  obtain ⟨m, rfl⟩ := h
  exact ⟨m + n, by simp⟩
theorem Drawn.trans {a b c : World} (h : Drawn a b) (k : Drawn b c) : Drawn a c := by
  obtain ⟨m, rfl⟩ := k
  exact h.step m
theorem Drawn.of_eq {w w' : World} (h : w = w') : Drawn w w' := by subst h; exact .refl _
theorem Drawn.below {w w' : World} (h : Drawn w w') (B : Nat) : Below B w w' := by
  obtain ⟨n, rfl⟩ := h
  exact ⟨rfl, rfl, rfl, Nat.le_refl _, fun _ _ => rfl⟩

set_option maxHeartbeats 400000 in
theorem isNumber_any (a : Option Addr) (n c : Nat) (x : Int) (w : World) :
    Calls Try.prog 25 #[.slice a n c, .int .i64 x] w fun e w' => e = .returned (.bool (isB n x)) ∧ w = w' := by
  by_cases h : 0 ≤ x
  · by_cases h2 : x < n
    · have hb : Hid (true = isB n x) := by show true = isB n x; exact (isB_iff.2 ⟨h, h2⟩).symm
      go_enter Try.func25, Try.ntmps25
      go_wp2
      go_ret
      exact ⟨ret_bool hb.out, rfl⟩
    · have hb : Hid (false = isB n x) := by show false = isB n x; exact (isB_not.2 (by omega)).symm
      go_enter Try.func25, Try.ntmps25
      go_wp2
      go_ret
      exact ⟨ret_bool hb.out, rfl⟩
  · have hb : Hid (false = isB n x) := by show false = isB n x; exact (isB_not.2 (by omega)).symm
    go_enter Try.func25, Try.ntmps25
    go_wp2
    go_ret
    exact ⟨ret_bool hb.out, rfl⟩

set_option maxHeartbeats 400000 in
theorem rcheck_any (a : Option Addr) (c : Nat) (zs : List Int) (w : World) (hn : zs.length ≤ maxLen) (hz : Ints w a zs) :
    Calls Try.prog 12 #[.slice a zs.length c] w fun e w' => e = .returned (.int .i64 (chk zs)) ∧ Drawn w w' := by
  unfold maxLen at hn
  by_cases hbig : 8192 < zs.length
  · have hc : Hid (chk zs = 3) := by show chk zs = 3; unfold chk; rw [if_pos hbig]
    go_enter Try.func12, Try.ntmps12
    go_wp2
    go_ret
    exact ⟨ret_int hc.out.symm, .refl _⟩
  · have hc : Hid (chk zs = chkN zs (zs.length - 0) 0) := by show chk zs = _; unfold chk; rw [if_neg hbig]; rfl
    go_enter Try.func12, Try.ntmps12
    go_wp2
    go_loopw [3] (fun i wr => ∃ k : Nat, k ≤ zs.length ∧ i = .int .i64 k ∧ chk zs = chkN zs (zs.length - k) k ∧ Drawn w wr) (fun i _ => zs.length - (intOf i).toNat)
    case atStart => exact ⟨0, Nat.zero_le _, rfl, hc.out, .refl _⟩
    case round =>
      obtain ⟨k, hk, rfl, hr0, nw, rfl⟩ := hrel
      have hr := Lib.hid hr0
      clear hr0
      by_cases hlt : k < zs.length
      · obtain ⟨b, off, rfl, hcell⟩ := hz (by omega)
        have hck := hcell k hlt
        have hcy := fun h : (zs.getD k 0).toNat < zs.length => hcell _ h
        obtain ⟨z, hzk⟩ : ∃ z, zs.getD k 0 = z := ⟨_, rfl⟩
        rw [hzk] at hck hcy
        obtain ⟨y, hzy⟩ : ∃ y, zs.getD z.toNat 0 = y := ⟨_, rfl⟩
        rw [hzy] at hcy
        have Hzk := Lib.hid hzk
        have Hzy := Lib.hid hzy
        clear hzk hzy hcell
        by_cases c1 : z < 0
        · go_wp2
          go_ret
          exact ⟨ret_int (chk_neg hr.out hlt Hzk.out c1).symm, nw, rfl⟩
        · by_cases c2 : (k : Int) < z
          · go_wp2
            go_ret
            exact ⟨ret_int (chk_high hr.out hlt Hzk.out (by omega) c2).symm, nw, rfl⟩
          · obtain ⟨m, rfl⟩ : ∃ m : Nat, z = m := ⟨z.toNat, by omega⟩
            have hcz := hcy (by omega)
            simp only [Int.toNat_natCast] at hcz
            clear hcy
            by_cases c3 : y = (m : Int)
            · have t := Lib.hid (chk_next hr.out hlt Hzk.out (by omega) (by omega) Hzy.out c3)
              clear Hzy
              subst c3
              go_wp2
              go_quiet (fail)
              go_wp2
              go_roundw
              case rel => exact ⟨k + 1, by omega, by go_num, t.out, _, rfl⟩
              case measure => simp [intOf]; omega
            · have t := Lib.hid (chk_loose hr.out hlt Hzk.out (by omega) (by omega) Hzy.out c3)
              have hb : (y != (m : Int)) = true := by simpa using c3
              go_wp2
              go_quiet (fail)
              go_wp2
              go_ret
              exact ⟨ret_int t.out.symm, ((Drawn.refl _).step _).step _⟩
      · go_wp2
        go_ret
        exact ⟨ret_int (chk_end hr.out hlt).symm, nw, rfl⟩

/-- What Same and its definition need of two members that are numbers. -/
theorem Ints.at_ {w : World} {a : Option Addr} {zs : List Int} (h : Ints w a zs) {x : Int} (hx : isB zs.length x = true) :
    ∃ b off, a = some ⟨b, off, none⟩ ∧ ∀ y : Int, isB zs.length y = true → w.cell? ⟨b, off + y.toNat, none⟩ = some (.int .i64 (zs.getD y.toNat 0)) := by
  have h0 := isB_iff.1 hx
  obtain ⟨b, off, rfl, hc⟩ := h (by omega)
  exact ⟨b, off, rfl, fun y hy => hc _ (by have := isB_iff.1 hy; omega)⟩

theorem quiet_left {P : Program} {f : FuncId} {args : Array Value} {w : World} {n : Nat} {v : Value}
    (h : Calls P f args (w.drewN n) fun e w' => e = .returned v ∧ w.drewN n = w') : Calls P f args (w.drewN n) fun e w'' => e = .returned v ∧ ∃ m, w'' = w.drewN m :=
  h.mono fun _ _ ⟨he, hm⟩ => ⟨he, n, hm.symm⟩
theorem quiet_drawn {P : Program} {f : FuncId} {args : Array Value} {w : World} {n : Nat} {v : Value}
    (h : Calls P f args (w.drewN n) fun e w' => e = .returned v ∧ Drawn (w.drewN n) w') : Calls P f args (w.drewN n) fun e w'' => e = .returned v ∧ ∃ m, w'' = w.drewN m :=
  h.mono fun _ _ ⟨he, m, hm⟩ => ⟨he, n + m, by rw [hm, World.drewN_drewN]⟩

set_option maxHeartbeats 400000 in
theorem same_any (a : Option Addr) (c : Nat) (zs : List Int) (x y : Int) (w : World) (hn : zs.length ≤ maxLen) (hz : Ints w a zs) :
    Calls Try.prog 13 #[.slice a zs.length c, .int .i64 x, .int .i64 y] w fun e w' => e = .returned (.bool (sameB zs x y)) ∧ Drawn w w' := by
  by_cases hc : chk zs = 0
  · by_cases hx : isB zs.length x = true
    · by_cases hy : isB zs.length y = true
      · obtain ⟨b, off, rfl, hcell⟩ := hz.at_ hx
        have hcx := hcell x hx
        have hcy := hcell y hy
        obtain ⟨hx1, hx2⟩ := isB_iff.1 hx
        obtain ⟨hy1, hy2⟩ := isB_iff.1 hy
        have Hs := Lib.hid (show sameB zs x y = decide (zs.getD x.toNat 0 = zs.getD y.toNat 0) by simp only [sameB, hc, hx, hy, decide_true, Bool.true_and])
        have Hz := Lib.hid hz
        generalize zs.getD x.toNat 0 = p at *
        generalize zs.getD y.toNat 0 = q at *
        clear hcell hz
        go_enter Try.func13, Try.ntmps13
        go_wp2_with (fail)
        go_quiet ((first | (go_at_call 10; exact quiet_left (check_any _ _ _ _ hn Hz.out)) | (go_at_call 25; exact quiet_left (isNumber_any _ _ _ _ _))))
        go_wp2
        go_ret
        exact ⟨ret_bool (by rw [Hs.out]; simp [Bool.beq_eq_decide_eq]), _, rfl⟩
      · have Hs := Lib.hid (show sameB zs x y = false by simp only [sameB, hy, Bool.false_and, Bool.and_false])
        have Hz := Lib.hid hz
        clear hz
        simp only [Bool.not_eq_true] at hy
        go_enter Try.func13, Try.ntmps13
        go_wp2_with (fail)
        go_quiet ((first | (go_at_call 10; exact quiet_left (check_any _ _ _ _ hn Hz.out)) | (go_at_call 25; exact quiet_left (isNumber_any _ _ _ _ _))))
        go_wp2
        go_ret
        exact ⟨ret_bool Hs.out.symm, _, rfl⟩
    · have Hs := Lib.hid (show sameB zs x y = false by simp only [sameB, hx, Bool.false_and, Bool.and_false])
      have Hz := Lib.hid hz
      clear hz
      simp only [Bool.not_eq_true] at hx
      go_enter Try.func13, Try.ntmps13
      go_wp2_with (fail)
      go_quiet ((first | (go_at_call 10; exact quiet_left (check_any _ _ _ _ hn Hz.out)) | (go_at_call 25; exact quiet_left (isNumber_any _ _ _ _ _))))
      go_wp2
      go_ret
      exact ⟨ret_bool Hs.out.symm, _, rfl⟩
  · have Hs := Lib.hid (show sameB zs x y = false by simp only [sameB, hc, decide_false, Bool.false_and])
    have Hz := Lib.hid hz
    clear hz
    have hc0 : (chk zs == 0) = false := by simpa using hc
    go_enter Try.func13, Try.ntmps13
    go_wp2_with (fail)
    go_quiet ((first | (go_at_call 10; exact quiet_left (check_any _ _ _ _ hn Hz.out)) | (go_at_call 25; exact quiet_left (isNumber_any _ _ _ _ _))))
    go_wp2
    go_ret
    exact ⟨ret_bool Hs.out.symm, _, rfl⟩

set_option maxHeartbeats 400000 in
theorem rsame_any (a : Option Addr) (c : Nat) (zs : List Int) (x y : Int) (w : World) (hn : zs.length ≤ maxLen) (hz : Ints w a zs) :
    Calls Try.prog 14 #[.slice a zs.length c, .int .i64 x, .int .i64 y] w fun e w' => e = .returned (.bool (sameB zs x y)) ∧ Drawn w w' := by
  have hn' := hn
  unfold maxLen at hn'
  by_cases hc : chk zs = 0
  · by_cases hx : isB zs.length x = true
    · obtain ⟨hx1, hx2⟩ := isB_iff.1 hx
      by_cases hy : isB zs.length y = true
      · obtain ⟨b, off, rfl, hcell⟩ := hz.at_ hx
        have hcx := hcell x hx
        have hcy := hcell y hy
        obtain ⟨hy1, hy2⟩ := isB_iff.1 hy
        have Hs := Lib.hid (show sameB zs x y = decide (zs.getD x.toNat 0 = zs.getD y.toNat 0) by simp only [sameB, hc, hx, hy, decide_true, Bool.true_and])
        have Hz := Lib.hid hz
        generalize zs.getD x.toNat 0 = p at *
        generalize zs.getD y.toNat 0 = q at *
        clear hcell hz hx hy
        go_enter Try.func14, Try.ntmps14
        go_wp2_with (go_at_call 12; refine (rcheck_any _ _ _ _ hn Hz.out).mono ?_; rintro e w' ⟨rfl, nq, rfl⟩)
        go_quiet (fail)
        go_wp2
        go_ret
        exact ⟨ret_bool (by rw [Hs.out]; simp [Bool.beq_eq_decide_eq]), ((Drawn.refl _).step _).step _⟩
      · have Hs := Lib.hid (show sameB zs x y = false by simp only [sameB, hy, Bool.false_and, Bool.and_false])
        have Hz := Lib.hid hz
        clear hz
        simp only [Bool.not_eq_true] at hy
        clear hx
        rcases isB_not.1 hy with hy1 | hy1
        all_goals
          clear hy
          go_enter Try.func14, Try.ntmps14
          go_wp2_with (go_at_call 12; refine (rcheck_any _ _ _ _ hn Hz.out).mono ?_; rintro e w' ⟨rfl, nq, rfl⟩)
          go_ret
          exact ⟨ret_bool Hs.out.symm, _, rfl⟩
    · have Hs := Lib.hid (show sameB zs x y = false by simp only [sameB, hx, Bool.false_and, Bool.and_false])
      have Hz := Lib.hid hz
      clear hz
      simp only [Bool.not_eq_true] at hx
      rcases isB_not.1 hx with hx1 | hx1
      all_goals
        clear hx
        go_enter Try.func14, Try.ntmps14
        go_wp2_with (go_at_call 12; refine (rcheck_any _ _ _ _ hn Hz.out).mono ?_; rintro e w' ⟨rfl, nq, rfl⟩)
        go_ret
        exact ⟨ret_bool Hs.out.symm, _, rfl⟩
  · have Hs := Lib.hid (show sameB zs x y = false by simp only [sameB, hc, decide_false, Bool.false_and])
    have Hz := Lib.hid hz
    clear hz
    have hc0 : (chk zs != 0) = true := by simpa using hc
    go_enter Try.func14, Try.ntmps14
    go_wp2_with (go_at_call 12; refine (rcheck_any _ _ _ _ hn Hz.out).mono ?_; rintro e w' ⟨rfl, nq, rfl⟩)
    go_ret
    exact ⟨ret_bool Hs.out.symm, _, rfl⟩

end Go.Proofs.Ytmpofbiphklilaa
