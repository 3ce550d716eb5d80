/-
  word, trim and the library's TrailingZeros64: each returns what the plain mathematics says, and changes nothing.
-/
import Derived.Test.YtggkhbjhhglbbaaDoorMem
import Derived.Shelf.Spec.TrailingZeros
namespace Go.Proofs.YtggkhbjhhglbbaaDoor
open Go.RowKit
set_option linter.unusedVariables false

/-- The library's table of trailing zeros lies where the program keeps it. -/
def Tz (w : World) : Prop := TabAt 0 Lib.deBruijn64tab w ∧ 0 < w.heap.size
theorem Tz.drewN {w : World} (h : Tz w) (n : Nat) : Tz (w.drewN n) := h
theorem Tz.below {w w' : World} {B : Nat} (h : Tz w) (hb : Below B w w') (hB : w.heap.size ≤ B) : Tz w' :=
  ⟨fun j hj => (hb.cell (p := ⟨0, j, none⟩) (Nat.lt_of_lt_of_le h.2 hB)).trans (h.1 j hj), Nat.lt_of_lt_of_le h.2 hb.size⟩

theorem ret_slice {a : Option Addr} {n m c : Nat} (h : n = m) : Ending.returned (.slice a n c) = .returned (.slice a m c) := by rw [h]
theorem ctz_lt {x : Nat} (h0 : x ≠ 0) (hx : x < 18446744073709551616) : Lib.ctz 64 x < 64 := by
  unfold Lib.ctz
  rw [if_neg h0]
  obtain ⟨m, _, h⟩ := Lib.ctzFrom_spec 64 x (by omega) (by simpa using hx)
  exact h
theorem ctz_bit {x : Nat} (h0 : x ≠ 0) (hx : x < 18446744073709551616) : x.testBit (Lib.ctz 64 x) = true := by
  unfold Lib.ctz
  rw [if_neg h0]
  obtain ⟨m, he, h⟩ := Lib.ctzFrom_spec 64 x (by omega) (by simpa using hx)
  generalize Lib.ctzFrom 64 x = k at *
  rw [he, Nat.mul_comm, Nat.testBit_mul_two_pow]
  simp
theorem ctz_low {x : Nat} (h0 : x ≠ 0) (hx : x < 18446744073709551616) {j : Nat} (hj : j < Lib.ctz 64 x) : x.testBit j = false := by
  unfold Lib.ctz at hj
  rw [if_neg h0] at hj
  obtain ⟨m, he, h⟩ := Lib.ctzFrom_spec 64 x (by omega) (by simpa using hx)
  generalize Lib.ctzFrom 64 x = k at *
  rw [he, Nat.mul_comm, Nat.testBit_mul_two_pow]
  simp; omega

set_option maxHeartbeats 1000000 in
theorem tz_core (x k idx : Nat) (w : World) (hx0 : ((x : Int) == 0) = false)
    (key : IntKind.u64.wrap (bits BinOp.and IntKind.u64 (x : Int) (IntKind.u64.wrap (-(x : Int))) * 285870213051353865) / 288230376151711744 = (idx : Int))
    (hi : idx < 64) (hk : k < 64) (hcell : w.cell? ⟨0, idx, none⟩ = some (.int .u8 k)) :
    Calls Tryd.prog 39 #[.int .u64 x] w fun e w' => e = .returned (.int .i64 k) ∧ w = w' := by
  go_enter Tryd.func39, Tryd.ntmps39
  go_wp2_with (simp only [key])
  go_ret
  exact ⟨rfl, rfl⟩
theorem tz_any (x : Nat) (h0 : x ≠ 0) (hx : x < 18446744073709551616) (w : World) (hT : Tz w) :
    Calls Tryd.prog 39 #[.int .u64 x] w fun e w' => e = .returned (.int .i64 (Lib.ctz 64 x : Nat)) ∧ w = w' := by
  obtain ⟨hlow, hk⟩ := Lib.lowest_bit 64 x h0 hx
  obtain ⟨hi, htab⟩ := Lib.deBruijn64_at _ hk
  have hcell := hT.1 _ hi
  rw [htab] at hcell
  exact tz_core x _ _ w (by simp; omega) (tz64_key x _ hx h0 hlow) hi hk hcell

set_option maxHeartbeats 400000 in
theorem word_any (a : Option Addr) (c : Nat) (ws : List Nat) (i : Nat) (w : World) (hn : ws.length ≤ 1100) (hz : Words w a ws) :
    Calls Tryd.prog 40 #[.slice a ws.length c, .int .i64 i] w fun e w' => e = .returned (.int .u64 (ws.getD i 0 : Nat)) ∧ w = w' := by
  by_cases h : i < ws.length
  · obtain ⟨b, off, rfl, hc⟩ := hz (by omega)
    have ck := hc i h
    generalize ws.getD i 0 = x at *
    clear hc hz
    go_enter Tryd.func40, Tryd.ntmps40
    go_wp2
    go_ret
    exact ⟨rfl, rfl⟩
  · have e := Lib.hid (getD_out (ws := ws) (i := i) (by omega))
    clear hz
    go_enter Tryd.func40, Tryd.ntmps40
    go_wp2
    go_ret
    exact ⟨ret_int (by rw [e.out]; rfl), rfl⟩

theorem word_at (a : Option Addr) (c : Nat) (ws : List Nat) (i : Nat) (y : Nat) (hy : ws.getD i 0 = y) (w : World) (hn : ws.length ≤ 1100) (hz : Words w a ws) :
    Calls Tryd.prog 40 #[.slice a ws.length c, .int .i64 i] w fun e w' => e = .returned (.int .u64 y) ∧ w = w' := by
  subst hy
  exact word_any a c ws i w hn hz

theorem word_lit (a : Option Addr) (c : Nat) (ws : List Nat) (I : Int) (i : Nat) (hI : I = (i : Int)) (y : Nat) (hy : ws.getD i 0 = y) (w : World) (hn : ws.length ≤ 1100) (hz : Words w a ws) :
    Calls Tryd.prog 40 #[.slice a ws.length c, .int .i64 I] w fun e w' => e = .returned (.int .u64 y) ∧ w = w' := by
  subst hI
  exact word_at a c ws i y hy w hn hz

set_option maxHeartbeats 400000 in
theorem trim_any (a : Option Addr) (c : Nat) (ws : List Nat) (w : World) (hn : ws.length ≤ 1100) (hc : ws.length ≤ c) (hcm : c ≤ maxLen) (hz : Words w a ws) :
    Calls Tryd.prog 38 #[.slice a ws.length c] w fun e w' => e = .returned (.slice a (tl ws) c) ∧ w = w' := by
  unfold maxLen at hcm
  go_enter Tryd.func38, Tryd.ntmps38
  go_wp2
  go_loop [3] (fun i => ∃ k : Nat, k ≤ ws.length ∧ i = .int .i64 k ∧ trimN ws k = tl ws) (fun i => (intOf i).toNat)
  case atStart => exact ⟨ws.length, Nat.le_refl _, rfl, rfl⟩
  case round =>
    obtain ⟨k, hk, rfl, hr⟩ := hrel
    cases k with
    | zero =>
      have e := Lib.hid (show tl ws = 0 from hr.symm)
      clear hr
      go_wp2
      go_ret
      exact ⟨ret_slice e.out.symm, rfl⟩
    | succ k =>
      obtain ⟨b, off, rfl, hcell⟩ := hz (by omega)
      have ck := hcell k (by omega)
      have e : trimN ws (k + 1) = if ws.getD k 0 = 0 then trimN ws k else k + 1 := rfl
      rw [e] at hr
      obtain ⟨x, hx⟩ : ∃ x, ws.getD k 0 = x := ⟨_, rfl⟩
      rw [hx] at ck hr
      clear hcell e hx
      by_cases h0 : x = 0
      · rw [if_pos h0] at hr
        have Hr := Lib.hid hr
        subst h0
        clear hr
        go_wp2
        go_round
        case rel => exact ⟨k, by omega, by go_num, Hr.out⟩
        case measure => simp [intOf]
      · rw [if_neg h0] at hr
        have Hr := Lib.hid hr
        have t0 : ((x : Int) == 0) = false := by rw [beq_eq_false_iff_ne]; omega
        clear hr h0
        go_wp2
        go_ret
        exact ⟨ret_slice Hr.out, rfl⟩
end Go.Proofs.YtggkhbjhhglbbaaDoor
