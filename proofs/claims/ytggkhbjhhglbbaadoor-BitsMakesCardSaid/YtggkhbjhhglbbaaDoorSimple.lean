/-
  Count, Has, Check, Same's comparison of words, isElem.
-/
import Derived.Test.YtggkhbjhhglbbaaDoorOnes
namespace Go.Proofs.YtggkhbjhhglbbaaDoor
open Go.RowKit
set_option linter.unusedVariables false

theorem elemsTo_len (ws : List Nat) (k : Nat) : (elemsTo ws (64 * (k + 1))).length = (elemsTo ws (64 * k)).length + cnt 64 (ws.getD k 0) := by
  rw [show 64 * (k + 1) = 64 * k + 64 from by omega, length_elemsTo ws k 64 (Nat.le_refl _)]

set_option maxHeartbeats 400000 in
theorem count_any (a : Option Addr) (c : Nat) (ws : List Nat) (w : World) (hn : ws.length ≤ 2200) (hwf : Wf ws) (hz : Words w a ws) :
    Calls Tryd.prog 18 #[.slice a ws.length c] w fun e w' => e = .returned (.int .i64 ((elems ws).length : Nat)) ∧ w = w' := by
  go_enter Tryd.func18, Tryd.ntmps18
  go_wp2
  go_loop [3, 4, 7] (fun n _ i => ∃ k m : Nat, k ≤ ws.length ∧ i = .int .i64 k ∧ n = .int .i64 m ∧ m = (elemsTo ws (64 * k)).length) (fun _ _ i => ws.length - (intOf i).toNat)
  case atStart => exact ⟨0, 0, Nat.zero_le _, rfl, rfl, rfl⟩
  case round =>
    obtain ⟨k, m, hk, rfl, rfl, hm⟩ := hrel
    have Hm := Lib.hid hm
    by_cases hlt : k < ws.length
    · obtain ⟨b, off, rfl, hc⟩ := hz (by omega)
      have ck := hc k hlt
      have hs := Lib.hid (elemsTo_len ws k)
      have hx := hwf k
      have hb : m ≤ 64 * k := by rw [hm]; exact length_elemsTo_le ws _
      generalize ws.getD k 0 = x at *
      have hcl := cnt_le 64 x
      clear hc hm
      go_wp2_with (go_at_call 41; refine (ones_any x _ hx).mono ?_; rintro e w' ⟨rfl, rfl⟩)
      go_round
      case rel => exact ⟨k + 1, m + cnt 64 x, by omega, by go_num, by go_num, by rw [hs.out, Hm.out]⟩
      case measure => simp [intOf]; omega
    · have e := Lib.hid (show m = (elems ws).length by rw [hm, elems, show k = ws.length from by omega])
      clear hm
      go_wp2
      go_ret
      exact ⟨ret_int (by rw [← e.out]), rfl⟩

set_option maxHeartbeats 400000 in
theorem isElem_any (x : Int) (w : World) :
    Calls Tryd.prog 46 #[.int .i64 x] w fun e w' => e = .returned (.bool (decide (0 ≤ x) && decide (x < 65536))) ∧ w = w' := by
  by_cases h : 0 ≤ x
  · by_cases h2 : x < 65536
    · have hb := Lib.hid (show (true : Bool) = (decide (0 ≤ x) && decide (x < 65536)) by simp [h, h2])
      go_enter Tryd.func46, Tryd.ntmps46
      go_wp2
      go_ret
      exact ⟨ret_bool hb.out, rfl⟩
    · have hb := Lib.hid (show (false : Bool) = (decide (0 ≤ x) && decide (x < 65536)) by simp [h2])
      go_enter Tryd.func46, Tryd.ntmps46
      go_wp2
      go_ret
      exact ⟨ret_bool (by first | exact hb.out | (simp; omega)), rfl⟩
  · have hb := Lib.hid (show (false : Bool) = (decide (0 ≤ x) && decide (x < 65536)) by simp [h])
    go_enter Tryd.func46, Tryd.ntmps46
    go_wp2
    go_ret
    exact ⟨ret_bool (by first | exact hb.out | simp; omega), rfl⟩

theorem shr_and_one (x k : Nat) (hx : x < 18446744073709551616) : (x / 2 ^ k) &&& 1 = if x.testBit k then 1 else 0 := by
  rw [Nat.and_one_is_mod]
  rw [Nat.testBit_eq_decide_div_mod_eq]
  by_cases h : x / 2 ^ k % 2 = 1 <;> simp [h]; omega

set_option maxHeartbeats 400000 in
theorem has_neg (a : Option Addr) (n c : Nat) (x : Int) (w : World) (h : x < 0) :
    Calls Tryd.prog 16 #[.slice a n c, .int .i64 x] w fun e w' => e = .returned (.bool false) ∧ w = w' := by
  go_enter Tryd.func16, Tryd.ntmps16
  go_wp2
  go_ret
  exact ⟨rfl, rfl⟩

theorem bit_test (y r : Nat) (hy : y < 18446744073709551616) : (bits BinOp.and IntKind.u64 ((y : Int) / 2 ^ r) 1 == 1) = y.testBit r := by
  have e : ((y : Int) / 2 ^ r) = ((y / 2 ^ r : Nat) : Int) := by simp
  have hlt : y / 2 ^ r < 18446744073709551616 := Nat.lt_of_le_of_lt (Nat.div_le_self _ _) hy
  rw [e, and_nat (y / 2 ^ r) 1 1 rfl hlt (by omega), shr_and_one y r hy]
  cases y.testBit r <;> rfl

set_option maxHeartbeats 400000 in
theorem has_any (a : Option Addr) (c : Nat) (ws : List Nat) (x : Nat) (w : World) (hx63 : x < 9223372036854775808) (hn : ws.length ≤ 1100) (hwf : Wf ws) (hz : Words w a ws) :
    Calls Tryd.prog 16 #[.slice a ws.length c, .int .i64 x] w fun e w' => e = .returned (.bool (mem ws x)) ∧ w = w' := by
  have hq : ((x : Int) / 64) = ((x / 64 : Nat) : Int) := by omega
  have hr : ((x : Int) % 64) = ((x % 64 : Nat) : Int) := by omega
  have hr2 : x % 64 < 64 := by omega
  have hk := hwf (x / 64)
  have Hz := Lib.hid hz
  have Hm := Lib.hid (show mem ws x = (ws.getD (x / 64) 0).testBit (x % 64) from rfl)
  obtain ⟨y, hy⟩ : ∃ y, ws.getD (x / 64) 0 = y := ⟨_, rfl⟩
  have Hy := Lib.hid hy
  rw [hy] at hk Hm
  clear hz hy
  generalize x / 64 = q at *
  generalize x % 64 = r at *
  go_enter Tryd.func16, Tryd.ntmps16
  go_wp2_with (go_at_call 40; refine (word_at _ _ ws q y Hy.out _ hn Hz.out).mono ?_; rintro e w' ⟨rfl, rfl⟩)
  go_ret
  exact ⟨ret_bool (by rw [Hm.out]; exact bit_test y r hk), rfl⟩

theorem tl_big (ws : List Nat) (hwf : Wf ws) : decide (1024 < tl ws) = !(decide (∀ i ∈ elems ws, i < 65536)) := by
  by_cases h : 1024 < tl ws
  · have h1 := (tl_last ws).resolve_left (by omega)
    obtain ⟨k, hk⟩ : ∃ k, (ws.getD (tl ws - 1) 0).testBit k = true := Nat.exists_testBit_of_ne_zero h1
    have hk64 : k < 64 := by
      rcases Nat.lt_or_ge k 64 with c | c
      · exact c
      · rw [testBit_big (hwf _) c] at hk; cases hk
    have hm : mem ws (64 * (tl ws - 1) + k) = true := by
      unfold mem
      rw [show (64 * (tl ws - 1) + k) / 64 = tl ws - 1 from by omega, show (64 * (tl ws - 1) + k) % 64 = k from by omega]
      exact hk
    have hn : ¬ ∀ i ∈ elems ws, i < 65536 := fun h2 => by
      have := h2 _ (mem_elems.2 hm)
      omega
    simp only [h, hn, decide_true, decide_false, Bool.not_false]
  · have hn : ∀ i ∈ elems ws, i < 65536 := fun i hi => by
      rcases Nat.lt_or_ge i 65536 with c | c
      · exact c
      · have hm := mem_elems.1 hi
        unfold mem at hm
        rw [tl_zero ws (i / 64) (by omega)] at hm
        simp at hm
    simp only [h, decide_false]
    rw [decide_eq_true hn]
    rfl

/-- The error of a range: none, or ErrRange. -/
def rangeE (b : Bool) : Int := if b then 0 else 4
/-- Is the set valid? -/
def valid (ws : List Nat) : Bool := decide (∀ i ∈ elems ws, i < 65536)

set_option maxHeartbeats 400000 in
theorem check_any (a : Option Addr) (c : Nat) (ws : List Nat) (w : World) (hn : ws.length ≤ 1100) (hc : ws.length ≤ c) (hcm : c ≤ maxLen) (hwf : Wf ws) (hz : Words w a ws) :
    Calls Tryd.prog 11 #[.slice a ws.length c] w fun e w' => e = .returned (.int .i64 (rangeE (valid ws))) ∧ w = w' := by
  have hb := tl_big ws hwf
  have hle := tl_le ws
  by_cases h : 1024 < tl ws
  · have hv := Lib.hid (show (4 : Int) = (rangeE (valid ws)) by
      rw [decide_eq_true h] at hb
      have : valid ws = false := by unfold valid; cases hd : decide (∀ i ∈ elems ws, i < 65536) <;> simp_all
      rw [this]; rfl)
    clear hb
    go_enter Tryd.func11, Tryd.ntmps11
    go_wp2_with (go_at_call 38; refine (trim_any _ _ ws _ hn hc hcm hz).mono ?_; rintro e w' ⟨rfl, rfl⟩)
    go_ret
    exact ⟨ret_int hv.out, rfl⟩
  · have hv := Lib.hid (show (0 : Int) = (rangeE (valid ws)) by
      rw [decide_eq_false h] at hb
      have : valid ws = true := by unfold valid; cases hd : decide (∀ i ∈ elems ws, i < 65536) <;> simp_all
      rw [this]; rfl)
    clear hb
    go_enter Tryd.func11, Tryd.ntmps11
    go_wp2_with (go_at_call 38; refine (trim_any _ _ ws _ hn hc hcm hz).mono ?_; rintro e w' ⟨rfl, rfl⟩)
    go_ret
    exact ⟨ret_int hv.out, rfl⟩

set_option maxHeartbeats 800000 in
theorem sequal_any (a : Option Addr) (c : Nat) (za : List Nat) (b : Option Addr) (d : Nat) (zb : List Nat) (w : World) (hn : za.length ≤ 2200) (hz : Words w a za) (hm : zb.length ≤ 2200) (hzb : Words w b zb) :
    Calls Tryd.prog 43 #[.slice a za.length c, .slice b zb.length d] w fun e w' => e = .returned (.bool (decide (za = zb))) ∧ Drawn w w' := by
  have Hz := Lib.hid hz
  have Hzb := Lib.hid hzb
  clear hz hzb
  by_cases hl : za.length = zb.length
  · have t0 : ((za.length : Int) != (zb.length : Int)) = false := by simp [hl]
    have Hl := Lib.hid hl
    clear hl
    go_enter Tryd.func43, Tryd.ntmps43
    go_wp2
    go_loopw [5, 13] (fun _ i wr => ∃ k : Nat, k ≤ za.length ∧ i = .int .i64 k ∧ (∀ j, j < k → za.getD j 0 = zb.getD j 0) ∧ Drawn w wr) (fun _ i _ => za.length - (intOf i).toNat)
    case atStart => exact ⟨0, Nat.zero_le _, rfl, fun j hj => absurd hj (by omega), .refl _⟩
    case round =>
      obtain ⟨k, hk, rfl, hall, nw, rfl⟩ := hrel
      have Hall := Lib.hid hall
      clear hall
      by_cases hlt : k < za.length
      · obtain ⟨ba, oa, rfl, hca⟩ := Hz.out (by omega)
        obtain ⟨bb, ob, rfl, hcb⟩ := Hzb.out (by rw [← Hl.out]; omega)
        have c1 := hca k hlt
        have c2 := hcb k (by rw [← Hl.out]; omega)
        have l2 : k < zb.length := by rw [← Hl.out]; omega
        obtain ⟨p, hp⟩ : ∃ p, za.getD k 0 = p := ⟨_, rfl⟩
        obtain ⟨q, hq⟩ : ∃ q, zb.getD k 0 = q := ⟨_, rfl⟩
        rw [hp] at c1
        rw [hq] at c2
        have Hp := Lib.hid hp
        have Hq := Lib.hid hq
        clear hca hcb hp hq
        by_cases e : p = q
        · have t1 : ((p : Int) != (q : Int)) = false := by simp [e]
          have E := Lib.hid e
          clear e
          go_wp2
          go_quiet (fail)
          go_wp2
          go_roundw
          case rel =>
            refine ⟨k + 1, by omega, by go_num, fun j hj => ?_, ⟨_, rfl⟩⟩
            by_cases e : j = k
            · rw [e, Hp.out, Hq.out]; exact E.out
            · exact Hall.out j (by omega)
          case measure => simp [intOf]; omega
        · have t1 : ((p : Int) != (q : Int)) = true := by rw [bne_iff_ne]; omega
          have Hne := Lib.hid (show false = decide (za = zb) by
            symm; rw [decide_eq_false_iff_not]; intro h; exact e (by rw [← Hp.out, ← Hq.out, h]))
          clear e
          go_wp2
          go_quiet (fail)
          go_wp2
          go_ret
          exact ⟨ret_bool Hne.out, by first | exact ⟨_, rfl⟩ | exact ((Drawn.refl _).step _).step _⟩
      · have Heq := Lib.hid (show true = decide (za = zb) by
          symm; rw [decide_eq_true_eq]
          apply List.ext_getElem Hl.out
          intro i h1 h2
          have := Hall.out i (by omega)
          simpa [h1, h2] using this)
        go_wp2
        go_ret
        exact ⟨ret_bool Heq.out, nw, rfl⟩
  · have t0 : ((za.length : Int) != (zb.length : Int)) = true := by rw [bne_iff_ne]; omega
    have Hne := Lib.hid (show false = decide (za = zb) by
      symm; rw [decide_eq_false_iff_not]; intro h; exact hl (by rw [h]))
    clear hl
    go_enter Tryd.func43, Tryd.ntmps43
    go_wp2
    go_ret
    exact ⟨ret_bool Hne.out, .refl _⟩
end Go.Proofs.YtggkhbjhhglbbaaDoor
