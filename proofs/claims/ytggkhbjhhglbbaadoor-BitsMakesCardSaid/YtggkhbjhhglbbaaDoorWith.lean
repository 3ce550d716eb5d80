/-
  With and Without.
-/
import Derived.Test.YtggkhbjhhglbbaaDoorThree
namespace Go.Proofs.YtggkhbjhhglbbaaDoor
open Go.RowKit Go.WideShapes
set_option linter.unusedVariables false

def setW (f : Nat → Nat → Nat) (ws : List Nat) (n x : Nat) : List Nat := tab n fun i => if i = x / 64 then f (ws.getD i 0) (2 ^ (x % 64)) else ws.getD i 0
theorem setW_eq (f : Nat → Nat → Nat) (ws : List Nat) (n x : Nat) : (sized ws n).set (x / 64) (f (ws.getD (x / 64) 0) (2 ^ (x % 64))) = setW f ws n x := by
  rw [sized, tab_set]
  refine tab_congr fun i _ => ?_
  by_cases e : i = x / 64
  · subst e; simp
  · simp [e]
theorem two_pow_lt (r : Nat) (h : r < 64) : 2 ^ r < 18446744073709551616 := by
  have : 2 ^ r < 2 ^ 64 := Nat.pow_lt_pow_right (by omega) h
  simpa using this
theorem kshl (r : Nat) (h : r < 64) : IntKind.u64.wrap (2 ^ r : Int) = ((2 ^ r : Nat) : Int) := by
  have := two_pow_lt r h
  rw [IntKind.wrap_u64, show (2 ^ r : Int) = ((2 ^ r : Nat) : Int) from by simp]
  generalize 2 ^ r = p at *
  omega

set_option maxHeartbeats 400000 in
theorem with_bad (a : Option Addr) (n c : Nat) (x : Int) (w : World) (h : x < 0 ∨ 65536 ≤ x) :
    Calls Tryd.prog 35 #[.slice a n c, .int .i64 x] w fun e w' => e = .returned (.tuple #[.slice none 0 0, .int .i64 4]) ∧ w = w' := by
  have ht1 : (decide ((0 : Int) ≤ x) && decide ((x : Int) < 65536)) = false := by
    rcases h with h | h
    · simp [show ¬ 0 ≤ x from by omega]
    · simp [show ¬ x < 65536 from by omega]
  clear h
  obtain ⟨t, ht⟩ : ∃ t, (decide ((0 : Int) ≤ x) && decide ((x : Int) < 65536)) = t := ⟨_, rfl⟩
  rw [ht] at ht1
  have Ht := Lib.hid ht
  clear ht
  go_enter Tryd.func35, Tryd.ntmps35
  go_wp2_with fail
  refine (isElem_any _ _).mono ?_
  rw [Ht.out, ht1]
  rintro e w' ⟨rfl, rfl⟩
  go_wp2
  go_ret2
  exact ⟨rfl, rfl⟩

set_option maxHeartbeats 1600000 in
theorem with_core (a : Option Addr) (c : Nat) (ws : List Nat) (x q r n : Nat) (hq0 : x / 64 = q) (hr0 : x % 64 = r) (hx : x < 65536) (hcs : (tl ws < q + 1 ∧ n = q + 1) ∨ (q + 1 < tl ws ∧ n = tl ws) ∨ (tl ws = q + 1 ∧ n = q + 1)) (w : World)
    (hn : ws.length ≤ 1100) (hc : ws.length ≤ c) (hcm : c ≤ maxLen) (hwf : Wf ws) (hz : Words w a ws) :
    Calls Tryd.prog 35 #[.slice a ws.length c, .int .i64 x] w fun e w' => ∃ g, e = .returned (.tuple #[.slice (some ⟨g, 0, none⟩) n n, .int .i64 0]) ∧
      RowW w' w.heap.size g n (setW (· ||| ·) ws n x) ∧ Below w.heap.size w w' := by
  have hq : ((x : Int) / 64) = (q : Int) := by omega
  have hr : ((x : Int) % 64) = (r : Int) := by omega
  have htm : (x : Int).tmod 64 = (r : Int) := by rw [Int.tmod_eq_emod_of_nonneg (by omega)]; exact hr
  have hr2 : r < 64 := by omega
  have hq2 : q < 1024 := by omega
  have Hz := Lib.hid hz
  have la := tl_le ws
  have Hset := Lib.hid (setW_eq (· ||| ·) ws n x)
  rw [hq0, hr0] at Hset
  have hk := hwf q
  have hp := two_pow_lt r hr2
  have ks := kshl r hr2
  have Hat := Lib.hid (show q < n → (sized ws n).getD q 0 = ws.getD q 0 from fun h => by rw [sized, getD_tab, if_pos h])
  have hb1 : (0 : Int) ≤ x := by omega
  have hb2 : (x : Int) < 65536 := by omega
  have hwq : IntKind.i64.wrap (q : Int) = (q : Int) := IntWalk.i64_in _ (by omega)
  have ht1 : (decide ((0 : Int) ≤ x) && decide ((x : Int) < 65536)) = true := by simp [hb1, hb2]
  generalize ws.getD q 0 = y at *
  obtain ⟨p, hpe⟩ : ∃ p, 2 ^ r = p := ⟨_, rfl⟩
  rw [hpe] at ks
  have ko := kor y p hk (by rw [← hpe]; exact hp)
  have Hpe := Lib.hid hpe
  rw [hpe] at Hset
  clear hz hq0 hr0 hp hpe
  have hqN : q < n := by omega
  have hn1 : n ≤ 1100 := by omega
  rcases hcs with ⟨h1, h2⟩ | ⟨h1, h2⟩ | ⟨h1, h2⟩
  · have H2 := Lib.hid h2
    clear h2
    go_enter Tryd.func35, Tryd.ntmps35
    go_wp2_with (first | (go_at_call 46; refine (isElem_any _ _).mono ?_; rintro e w' ⟨rfl, rfl⟩) | (go_at_call 38; refine (trim_any _ _ ws _ hn hc hcm Hz.out).mono ?_; rintro e w' ⟨rfl, rfl⟩))
    refine (resized_at a c n _ (by have := H2.out; omega) ws w hn hn1 Hz.out).mono ?_
    rintro e w2 ⟨rfl, hr2', hb2'⟩
    have Hr2 := Lib.hid hr2'
    have Hb2 := Lib.hid hb2'
    have cr := hr2'.cell (i := q) (by rw [sized, length_tab]; omega)
    rw [Hat.out (by omega)] at cr
    have fz := hr2'.free q
    clear hr2' hb2'
    go_wp2
    refine wp_region_tail 10 (by kernel_rfl) (by kernel_rfl) ?_
    simp only [List.take_succ_cons, List.take_zero, List.drop_succ_cons, List.drop_zero, World.drew_is_drewN]
    repeat still_step
    refine wpStill_nil ?_
    go_wp2
    go_ret2
    exact ⟨_, rfl, by rw [← Hset.out]; exact (Hr2.out.drewN 1).set _ _, (Hb2.out.trans (Drawn.below ⟨1, rfl⟩ _)).setCell (Nat.le_refl _) _⟩
  · have H2 := Lib.hid h2
    clear h2
    go_enter Tryd.func35, Tryd.ntmps35
    go_wp2_with (first | (go_at_call 46; refine (isElem_any _ _).mono ?_; rintro e w' ⟨rfl, rfl⟩) | (go_at_call 38; refine (trim_any _ _ ws _ hn hc hcm Hz.out).mono ?_; rintro e w' ⟨rfl, rfl⟩))
    refine (resized_at a c n _ (by have := H2.out; omega) ws w hn hn1 Hz.out).mono ?_
    rintro e w2 ⟨rfl, hr2', hb2'⟩
    have Hr2 := Lib.hid hr2'
    have Hb2 := Lib.hid hb2'
    have cr := hr2'.cell (i := q) (by rw [sized, length_tab]; omega)
    rw [Hat.out (by omega)] at cr
    have fz := hr2'.free q
    clear hr2' hb2'
    go_wp2
    refine wp_region_tail 10 (by kernel_rfl) (by kernel_rfl) ?_
    simp only [List.take_succ_cons, List.take_zero, List.drop_succ_cons, List.drop_zero, World.drew_is_drewN]
    repeat still_step
    refine wpStill_nil ?_
    go_wp2
    go_ret2
    exact ⟨_, rfl, by rw [← Hset.out]; exact (Hr2.out.drewN 1).set _ _, (Hb2.out.trans (Drawn.below ⟨1, rfl⟩ _)).setCell (Nat.le_refl _) _⟩
  · have H2 := Lib.hid h2
    clear h2
    have h1' : (tl ws : Int) ≤ q + 1 := by omega
    have h2' : (q : Int) + 1 ≤ tl ws := by omega
    have H1 := Lib.hid h1
    clear h1
    go_enter Tryd.func35, Tryd.ntmps35
    go_wp2_with (first | (go_at_call 46; refine (isElem_any _ _).mono ?_; rintro e w' ⟨rfl, rfl⟩) | (go_at_call 38; refine (trim_any _ _ ws _ hn hc hcm Hz.out).mono ?_; rintro e w' ⟨rfl, rfl⟩))
    refine (resized_at a c n _ (by have := H2.out; omega) ws w hn hn1 Hz.out).mono ?_
    rintro e w2 ⟨rfl, hr2', hb2'⟩
    have Hr2 := Lib.hid hr2'
    have Hb2 := Lib.hid hb2'
    have cr := hr2'.cell (i := q) (by rw [sized, length_tab]; omega)
    rw [Hat.out (by omega)] at cr
    have fz := hr2'.free q
    clear hr2' hb2'
    go_wp2
    refine wp_region_tail 10 (by kernel_rfl) (by kernel_rfl) ?_
    simp only [List.take_succ_cons, List.take_zero, List.drop_succ_cons, List.drop_zero, World.drew_is_drewN]
    repeat still_step
    refine wpStill_nil ?_
    go_wp2
    go_ret2
    exact ⟨_, rfl, by rw [← Hset.out]; exact (Hr2.out.drewN 1).set _ _, (Hb2.out.trans (Drawn.below ⟨1, rfl⟩ _)).setCell (Nat.le_refl _) _⟩

set_option maxHeartbeats 1600000 in
theorem without_neg (a : Option Addr) (c : Nat) (ws : List Nat) (x : Int) (hx : x < 0) (w : World)
    (hn : ws.length ≤ 1100) (hc : ws.length ≤ c) (hcm : c ≤ maxLen) (hwf : Wf ws) (hz : Words w a ws) :
    Calls Tryd.prog 36 #[.slice a ws.length c, .int .i64 x] w fun e w' => ∃ g, e = .returned (.slice (some ⟨g, 0, none⟩) (tl (sized ws (tl ws))) (tl ws)) ∧
      RowW w' w.heap.size g (tl ws) (trimL (sized ws (tl ws))) ∧ Below w.heap.size w w' := by
  have Hz := Lib.hid hz
  have la := tl_le ws
  have Hl := Lib.hid (length_tab (tl ws) fun i => ws.getD i 0)
  clear hz
  go_enter Tryd.func36, Tryd.ntmps36
  go_wp2_with fail
  refine (trim_any a c ws w hn hc hcm Hz.out).mono ?_
  rintro e w1 ⟨rfl, rfl⟩
  go_wp2_with fail
  refine (resized_any a c (tl ws) ws w hn (by omega) Hz.out).mono ?_
  rintro e w2 ⟨rfl, hr2', hb2'⟩
  have Hr2 := Lib.hid hr2'
  have Hb2 := Lib.hid hb2'
  clear hr2' hb2'
  go_wp2_with fail
  refine (has_neg _ _ _ x w2 hx).mono ?_
  rintro e w3 ⟨rfl, rfl⟩
  go_wp2_with fail
  refine (trim_at _ (tl ws) _ _ _ Hl.out (by omega) (Nat.le_refl _) (by unfold maxLen; omega) Hr2.out.words).mono ?_
  rintro e w3 ⟨rfl, rfl⟩
  go_wp2
  go_ret
  exact ⟨_, rfl, Hr2.out.trim, Hb2.out⟩

theorem has_at (a : Option Addr) (n c : Nat) (ws : List Nat) (hl : ws.length = n) (x : Nat) (w : World) (hx63 : x < 9223372036854775808) (hn : n ≤ 1100) (hwf : Wf ws) (hz : Words w a ws) :
    Calls Tryd.prog 16 #[.slice a n c, .int .i64 x] w fun e w' => e = .returned (.bool (mem ws x)) ∧ w = w' := by
  subst hl
  exact has_any a c ws x w hx63 hn hwf hz

theorem wf_sized {ws : List Nat} (h : Wf ws) (n : Nat) : Wf (sized ws n) := Wf.tab fun i _ => h i

set_option maxHeartbeats 1600000 in
theorem without_no (a : Option Addr) (c : Nat) (ws : List Nat) (x : Nat) (hx : x < 9223372036854775808) (hno : mem (sized ws (tl ws)) x = false) (w : World)
    (hn : ws.length ≤ 1100) (hc : ws.length ≤ c) (hcm : c ≤ maxLen) (hwf : Wf ws) (hz : Words w a ws) :
    Calls Tryd.prog 36 #[.slice a ws.length c, .int .i64 x] w fun e w' => ∃ g, e = .returned (.slice (some ⟨g, 0, none⟩) (tl (sized ws (tl ws))) (tl ws)) ∧
      RowW w' w.heap.size g (tl ws) (trimL (sized ws (tl ws))) ∧ Below w.heap.size w w' := by
  have Hz := Lib.hid hz
  have la := tl_le ws
  have Hl := Lib.hid (length_tab (tl ws) fun i => ws.getD i 0)
  have Hno := Lib.hid hno
  clear hz hno
  go_enter Tryd.func36, Tryd.ntmps36
  go_wp2_with fail
  refine (trim_any a c ws w hn hc hcm Hz.out).mono ?_
  rintro e w1 ⟨rfl, rfl⟩
  go_wp2_with fail
  refine (resized_any a c (tl ws) ws w hn (by omega) Hz.out).mono ?_
  rintro e w2 ⟨rfl, hr2', hb2'⟩
  have Hr2 := Lib.hid hr2'
  have Hb2 := Lib.hid hb2'
  clear hr2' hb2'
  go_wp2_with fail
  refine (has_at _ _ _ (sized ws (tl ws)) Hl.out x w2 hx (by omega) (wf_sized hwf _) Hr2.out.words).mono ?_
  rw [Hno.out]
  rintro e w3 ⟨rfl, rfl⟩
  go_wp2_with fail
  refine (trim_at _ (tl ws) _ _ _ Hl.out (by omega) (Nat.le_refl _) (by unfold maxLen; omega) Hr2.out.words).mono ?_
  rintro e w3 ⟨rfl, rfl⟩
  go_wp2
  go_ret
  exact ⟨_, rfl, Hr2.out.trim, Hb2.out⟩

set_option maxHeartbeats 1600000 in
theorem without_yes (a : Option Addr) (c : Nat) (ws : List Nat) (x q r n : Nat) (hq0 : x / 64 = q) (hr0 : x % 64 = r) (hn0 : tl ws = n) (hyes : mem (sized ws (tl ws)) x = true) (w : World)
    (hn : ws.length ≤ 1100) (hc : ws.length ≤ c) (hcm : c ≤ maxLen) (hwf : Wf ws) (hz : Words w a ws) :
    Calls Tryd.prog 36 #[.slice a ws.length c, .int .i64 x] w fun e w' => ∃ g, e = .returned (.slice (some ⟨g, 0, none⟩) (tl (setW andNotN ws n x)) n) ∧
      RowW w' w.heap.size g n (trimL (setW andNotN ws n x)) ∧ Below w.heap.size w w' := by
  have la := tl_le ws
  rw [hn0] at hyes la
  have hqN : q < n := by
    rcases Nat.lt_or_ge (x / 64) n with h | h
    · omega
    · unfold mem at hyes
      rw [sized, getD_tab, if_neg (by omega)] at hyes
      simp at hyes
  have hq : ((x : Int) / 64) = (q : Int) := by omega
  have hr : ((x : Int) % 64) = (r : Int) := by omega
  have htm : (x : Int).tmod 64 = (r : Int) := by rw [Int.tmod_eq_emod_of_nonneg (by omega)]; exact hr
  have hr2 : r < 64 := by omega
  have hx63 : x < 100000 := by omega
  have Hz := Lib.hid hz
  have Hset := Lib.hid (setW_eq andNotN ws n x)
  rw [hq0, hr0] at Hset
  have hk := hwf q
  have hp := two_pow_lt r hr2
  have ks := kshl r hr2
  have Hat := Lib.hid (show q < n → (sized ws n).getD q 0 = ws.getD q 0 from fun h => by rw [sized, getD_tab, if_pos h])
  have hwq : IntKind.i64.wrap (q : Int) = (q : Int) := IntWalk.i64_in _ (by omega)
  have Hl := Lib.hid (length_tab n fun i => ws.getD i 0)
  have Hl2 := Lib.hid (length_tab n fun i => if i = x / 64 then andNotN (ws.getD i 0) (2 ^ (x % 64)) else ws.getD i 0)
  have Hn0 := Lib.hid hn0
  have Hyes := Lib.hid hyes
  generalize ws.getD q 0 = y at *
  obtain ⟨p, hpe⟩ : ∃ p, 2 ^ r = p := ⟨_, rfl⟩
  rw [hpe] at ks
  have ko := kandNot y p hk (by rw [← hpe]; exact hp)
  rw [hpe] at Hset
  clear hz hq0 hr0 hp hpe hn0 hyes
  have hn1 : n ≤ 1100 := by omega
  go_enter Tryd.func36, Tryd.ntmps36
  go_wp2_with fail
  refine (trim_any a c ws w hn hc hcm Hz.out).mono ?_
  rw [Hn0.out]
  rintro e w1 ⟨rfl, rfl⟩
  go_wp2_with fail
  refine (resized_any a c n ws w hn hn1 Hz.out).mono ?_
  rintro e w2 ⟨rfl, hr2', hb2'⟩
  have Hr2 := Lib.hid hr2'
  have Hb2 := Lib.hid hb2'
  have cr := hr2'.cell (i := q) (by rw [sized, length_tab]; omega)
  rw [Hat.out (by omega)] at cr
  have fz := hr2'.free q
  clear hr2' hb2'
  go_wp2_with fail
  refine (has_at _ _ _ (sized ws n) Hl.out x w2 (by omega) hn1 (wf_sized hwf _) Hr2.out.words).mono ?_
  rw [Hyes.out]
  rintro e w3 ⟨rfl, rfl⟩
  go_wp2
  refine wp_region_tail 10 (by kernel_rfl) (by kernel_rfl) ?_
  simp only [List.take_succ_cons, List.take_zero, List.drop_succ_cons, List.drop_zero, World.drew_is_drewN]
  repeat still_step
  refine wpStill_nil ?_
  go_wp2_with fail
  have Hr3 := Lib.hid (show RowW ((w2.drewN 1).setCell ⟨w.heap.size, q, none⟩ (.int .u64 (andNotN y p : Nat))) w.heap.size w.heap.size n (setW andNotN ws n x) by rw [← Hset.out]; exact (Hr2.out.drewN 1).set _ _)
  refine (trim_at _ n _ (setW andNotN ws n x) _ Hl2.out hn1 (Nat.le_refl _) (by unfold maxLen; omega) Hr3.out.words).mono ?_
  rintro e w4 ⟨rfl, rfl⟩
  go_wp2
  go_ret
  exact ⟨_, rfl, Hr3.out.trim, (Hb2.out.trans (Drawn.below ⟨1, rfl⟩ _)).setCell (Nat.le_refl _) _⟩
end Go.Proofs.YtggkhbjhhglbbaaDoor
