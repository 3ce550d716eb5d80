/-
  isItem, precedes and their definitions: each returns what the plain mathematics says.
-/
import Derived.Test.YtpegkmancaoeiaaWMem
namespace Go.Proofs.Ytpegkmancaoeiaa
open Go.RowKit
set_option linter.unusedVariables false

set_option maxHeartbeats 400000 in
theorem isItem_any (a : Option Addr) (c : Nat) (rs : List Int) (x : Int) (w : World) (hn : rs.length ≤ 8192) :
    Calls Try.prog 23 #[.slice a rs.length c, .int .i64 x] w fun e w' => e = .returned (.bool (isI rs x)) ∧ w = w' := by
  by_cases hr : 0 < rs.length
  · have hl := lim_rank hr
    by_cases h1 : 0 ≤ x
    · by_cases h2 : x < rs.length
      · have H := Lib.hid (show true = isI rs x from (isI_iff.2 ⟨h1, by omega⟩).symm)
        clear hl
        go_enter Try.func23, Try.ntmps23
        go_wp2
        go_ret
        exact ⟨ret_bool H.out, rfl⟩
      · have H := Lib.hid (show false = isI rs x from (isI_not.2 (by omega)).symm)
        clear hl
        go_enter Try.func23, Try.ntmps23
        go_wp2
        go_ret
        exact ⟨ret_bool H.out, rfl⟩
    · have H := Lib.hid (show false = isI rs x from (isI_not.2 (by omega)).symm)
      clear hl
      go_enter Try.func23, Try.ntmps23
      go_wp2
      go_ret
      exact ⟨ret_bool H.out, rfl⟩
  · have hl := lim_none hr
    by_cases h1 : 0 ≤ x
    · by_cases h2 : x < 65536
      · have H := Lib.hid (show true = isI rs x from (isI_iff.2 ⟨h1, by omega⟩).symm)
        clear hl
        go_enter Try.func23, Try.ntmps23
        go_wp2
        go_ret
        exact ⟨ret_bool H.out, rfl⟩
      · have H := Lib.hid (show false = isI rs x from (isI_not.2 (by omega)).symm)
        clear hl
        go_enter Try.func23, Try.ntmps23
        go_wp2
        go_ret
        exact ⟨ret_bool H.out, rfl⟩
    · have H := Lib.hid (show false = isI rs x from (isI_not.2 (by omega)).symm)
      clear hl
      go_enter Try.func23, Try.ntmps23
      go_wp2
      go_ret
      exact ⟨ret_bool H.out, rfl⟩

set_option maxHeartbeats 400000 in
theorem item_any (a : Option Addr) (c : Nat) (rs : List Int) (x : Int) (w : World) (hn : rs.length ≤ 8192) :
    Calls Try.prog 25 #[.slice a rs.length c, .int .i64 x] w fun e w' => e = .returned (.bool (isI rs x)) ∧ w = w' := by
  by_cases hr : 0 < rs.length
  · have hl := lim_rank hr
    by_cases h1 : 0 ≤ x
    · by_cases h2 : x < rs.length
      · have H := Lib.hid (show true = isI rs x from (isI_iff.2 ⟨h1, by omega⟩).symm)
        clear hl
        go_enter Try.func25, Try.ntmps25
        go_wp2
        go_ret
        exact ⟨ret_bool H.out, rfl⟩
      · have H := Lib.hid (show false = isI rs x from (isI_not.2 (by omega)).symm)
        clear hl
        go_enter Try.func25, Try.ntmps25
        go_wp2
        go_ret
        exact ⟨ret_bool H.out, rfl⟩
    · have H := Lib.hid (show false = isI rs x from (isI_not.2 (by omega)).symm)
      clear hl
      go_enter Try.func25, Try.ntmps25
      go_wp2
      go_ret
      exact ⟨ret_bool H.out, rfl⟩
  · have hl := lim_none hr
    by_cases h1 : 0 ≤ x
    · by_cases h2 : x < 65536
      · have H := Lib.hid (show true = isI rs x from (isI_iff.2 ⟨h1, by omega⟩).symm)
        clear hl
        go_enter Try.func25, Try.ntmps25
        go_wp2
        go_ret
        exact ⟨ret_bool H.out, rfl⟩
      · have H := Lib.hid (show false = isI rs x from (isI_not.2 (by omega)).symm)
        clear hl
        go_enter Try.func25, Try.ntmps25
        go_wp2
        go_ret
        exact ⟨ret_bool H.out, rfl⟩
    · have H := Lib.hid (show false = isI rs x from (isI_not.2 (by omega)).symm)
      clear hl
      go_enter Try.func25, Try.ntmps25
      go_wp2
      go_ret
      exact ⟨ret_bool H.out, rfl⟩

set_option maxHeartbeats 800000 in
theorem precedes_any (a : Option Addr) (c : Nat) (rs : List Int) (x y : Nat) (w : World) (hn : rs.length ≤ 8200) (hz : Ints w a rs) (hx : x < rs.length) (hy : y < rs.length) :
    Calls Try.prog 24 #[.slice a rs.length c, .int .i64 x, .int .i64 y] w fun e w' => e = .returned (.bool (prec rs x y)) ∧ Drawn w w' := by
  obtain ⟨b, off, rfl, hcell⟩ := hz (by omega)
  have c1 := hcell x hx
  have c2 := hcell y hy
  obtain ⟨p, hp⟩ : ∃ p, rs.getD x 0 = p := ⟨_, rfl⟩
  obtain ⟨q, hq⟩ : ∃ q, rs.getD y 0 = q := ⟨_, rfl⟩
  rw [hp] at c1
  rw [hq] at c2
  have Hp := Lib.hid (show rs.getD (x : Int).toNat 0 = p from hp)
  have Hq := Lib.hid (show rs.getD (y : Int).toNat 0 = q from hq)
  clear hcell hp hq hz
  rcases Int.lt_trichotomy p q with h | h | h
  · have hd : decide (p < q) = true := decide_eq_true h
    go_enter Try.func24, Try.ntmps24
    go_wp2
    go_quiet (fail)
    go_wp2
    go_ret
    exact ⟨ret_bool (prec_lt Hp.out Hq.out h).symm, _, rfl⟩
  · subst h
    by_cases hxy : x < y
    · have H := Lib.hid ((prec_eq Hp.out Hq.out rfl).trans (decide_eq_true (by omega)))
      go_enter Try.func24, Try.ntmps24
      go_wp2
      go_quiet (fail)
      go_wp2
      go_ret
      exact ⟨ret_bool H.out.symm, _, rfl⟩
    · have H := Lib.hid ((prec_eq Hp.out Hq.out rfl).trans (decide_eq_false (by omega)))
      go_enter Try.func24, Try.ntmps24
      go_wp2
      go_quiet (fail)
      go_wp2
      go_ret
      exact ⟨ret_bool H.out.symm, _, rfl⟩
  · have hd : decide (p < q) = false := decide_eq_false (by omega)
    have he : (p == q) = false := by rw [beq_eq_false_iff_ne]; omega
    go_enter Try.func24, Try.ntmps24
    go_wp2
    go_quiet (fail)
    go_wp2
    go_ret
    exact ⟨ret_bool (prec_gt Hp.out Hq.out h).symm, _, rfl⟩

set_option maxHeartbeats 800000 in
theorem before_any (a : Option Addr) (c : Nat) (rs : List Int) (x y : Nat) (w : World) (hn : rs.length ≤ 8200) (hz : Ints w a rs) (hx : x < rs.length) (hy : y < rs.length) :
    Calls Try.prog 27 #[.slice a rs.length c, .int .i64 x, .int .i64 y] w fun e w' => e = .returned (.bool (prec rs x y)) ∧ Drawn w w' := by
  obtain ⟨b, off, rfl, hcell⟩ := hz (by omega)
  have c1 := hcell x hx
  have c2 := hcell y hy
  obtain ⟨p, hp⟩ : ∃ p, rs.getD x 0 = p := ⟨_, rfl⟩
  obtain ⟨q, hq⟩ : ∃ q, rs.getD y 0 = q := ⟨_, rfl⟩
  rw [hp] at c1
  rw [hq] at c2
  have Hp := Lib.hid (show rs.getD (x : Int).toNat 0 = p from hp)
  have Hq := Lib.hid (show rs.getD (y : Int).toNat 0 = q from hq)
  clear hcell hp hq hz
  rcases Int.lt_trichotomy p q with h | h | h
  · have hd : decide (p < q) = true := decide_eq_true h
    go_enter Try.func27, Try.ntmps27
    go_wp2
    go_quiet (fail)
    go_wp2
    go_ret
    exact ⟨ret_bool (prec_lt Hp.out Hq.out h).symm, _, rfl⟩
  · subst h
    by_cases hxy : x < y
    · have H := Lib.hid ((prec_eq Hp.out Hq.out rfl).trans (decide_eq_true (by omega)))
      go_enter Try.func27, Try.ntmps27
      go_wp2
      go_quiet (fail)
      go_wp2
      go_ret
      exact ⟨ret_bool H.out.symm, _, rfl⟩
    · have H := Lib.hid ((prec_eq Hp.out Hq.out rfl).trans (decide_eq_false (by omega)))
      go_enter Try.func27, Try.ntmps27
      go_wp2
      go_quiet (fail)
      go_wp2
      go_ret
      exact ⟨ret_bool H.out.symm, _, rfl⟩
  · have hd : decide (p < q) = false := decide_eq_false (by omega)
    have he : (p == q) = false := by rw [beq_eq_false_iff_ne]; omega
    go_enter Try.func27, Try.ntmps27
    go_wp2
    go_quiet (fail)
    go_wp2
    go_ret
    exact ⟨ret_bool (prec_gt Hp.out Hq.out h).symm, _, rfl⟩

end Go.Proofs.Ytpegkmancaoeiaa
