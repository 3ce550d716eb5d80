/-
  Union, Minus, Both: word by word.
-/
import Derived.Test.YtggkhbjhhglbbaaDoorOps
import Derived.Test.YtggkhbjhhglbbaaDoorMask
import Derived.StillTailTactics
namespace Go.Proofs.YtggkhbjhhglbbaaDoor
open Go.RowKit Go.WideShapes
set_option linter.unusedVariables false

/-- A region that draws its order, whose first n operations only read and whose tail is forced, walked in the order of the text. -/
theorem wp_region_tail {P : Program} {id : Nat} {Q : Exit → Act → World → Prop} {a : Act} {w : World} {l : List Oper} (n : Nat) (hm : P.follows .mixedOrders = true) (hB : Region.lexTailB .any l.toArray n = true)
    (h : wpStill P l.toArray w.drew (fun a' => wpList P l.toArray Q (l.drop n) a' w.drew) (l.take n) a) : (Code.region id l.toArray true).wp P Q a w :=
  wp_region_still_tail n hm hB h

/-- The first k words combined, the others as they were. -/
def mixTo (f : Nat → Nat → Nat) (wa wb : List Nat) (n k : Nat) : List Nat := tab n fun i => if i < k then f (wa.getD i 0) (wb.getD i 0) else wa.getD i 0
theorem length_mixTo (f : Nat → Nat → Nat) (wa wb : List Nat) (n k : Nat) : (mixTo f wa wb n k).length = n := length_tab _ _
theorem mixTo_zero (f : Nat → Nat → Nat) (wa wb : List Nat) (n : Nat) : mixTo f wa wb n 0 = sized wa n := tab_congr fun i _ => if_neg (by omega)
theorem mixTo_at (f : Nat → Nat → Nat) (wa wb : List Nat) (n k : Nat) (h : k < n) : (mixTo f wa wb n k).getD k 0 = wa.getD k 0 := by
  rw [mixTo, getD_tab, if_pos h, if_neg (by omega)]
theorem mixTo_succ (f : Nat → Nat → Nat) (wa wb : List Nat) (n k : Nat) : (mixTo f wa wb n k).set k (f (wa.getD k 0) (wb.getD k 0)) = mixTo f wa wb n (k + 1) := by
  rw [mixTo, tab_set]
  refine tab_congr fun i _ => ?_
  by_cases e : i = k
  · subst e; simp
  · rw [if_neg e]
    by_cases h : i < k
    · rw [if_pos h, if_pos (by omega)]
    · rw [if_neg h, if_neg (by omega)]

theorem and_full (x : Nat) (h : x < 18446744073709551616) : x &&& 18446744073709551615 = x := by
  have : x &&& (2 ^ 64 - 1) = x % 2 ^ 64 := Nat.and_two_pow_sub_one_eq_mod x 64
  have e : x &&& 18446744073709551615 = x % 18446744073709551616 := this
  rw [e, Nat.mod_eq_of_lt h]
theorem trim_at (a : Option Addr) (n c : Nat) (ws : List Nat) (w : World) (hl : ws.length = n) (hn : n ≤ 1100) (hc : n ≤ c) (hcm : c ≤ maxLen) (hz : Words w a ws) :
    Calls Tryd.prog 38 #[.slice a n c] w fun e w' => e = .returned (.slice a (tl ws) c) ∧ w = w' := by
  subst hl
  exact trim_any a c ws w hn hc hcm hz

def unionL (wa wb : List Nat) : List Nat := tab (max (tl wa) (tl wb)) fun i => wa.getD i 0 ||| wb.getD i 0
def minusL (wa wb : List Nat) : List Nat := trimL (tab (tl wa) fun i => andNotN (wa.getD i 0) (wb.getD i 0))
def bothL (wa wb : List Nat) : List Nat := trimL (tab (min (tl wa) (tl wb)) fun i => wa.getD i 0 &&& wb.getD i 0)

set_option maxHeartbeats 1600000 in
theorem union_core (a : Option Addr) (c : Nat) (wa : List Nat) (b : Option Addr) (d : Nat) (wb : List Nat) (n : Nat) (hcs : (tl wa < tl wb ∧ n = tl wb) ∨ (tl wb < tl wa ∧ n = tl wa) ∨ (tl wa = tl wb ∧ n = tl wa)) (w : World)
    (hn : wa.length ≤ 1100) (hc : wa.length ≤ c) (hcm : c ≤ maxLen) (hwa : Wf wa) (hz : Words w a wa) (hm : wb.length ≤ 1100) (hd : wb.length ≤ d) (hdm : d ≤ maxLen) (hwb : Wf wb) (hzb : Words w b wb) :
    Calls Tryd.prog 25 #[.slice a wa.length c, .slice b wb.length d] w fun e w' => ∃ g, e = .returned (.slice (some ⟨g, 0, none⟩) n n) ∧ RowW w' w.heap.size g n (tab n fun i => wa.getD i 0 ||| wb.getD i 0) ∧ Below w.heap.size w w' := by
  have Hz := Lib.hid hz
  have Hzb := Lib.hid hzb
  have la := tl_le wa
  have lb := tl_le wb
  clear hz hzb
  rcases hcs with ⟨h1, rfl⟩ | ⟨h1, rfl⟩ | ⟨h1, rfl⟩
  · go_enter Tryd.func25, Tryd.ntmps25
    go_wp2_with fail
    refine (trim_any b d wb w hm hd hdm Hzb.out).mono ?_
    rintro e w1 ⟨rfl, rfl⟩
    go_wp2_with fail
    refine (trim_any a c wa w hn hc hcm Hz.out).mono ?_
    rintro e w1 ⟨rfl, rfl⟩
    go_wp2_with fail
    refine (resized_any a c (tl wb) wa w hn (by omega) Hz.out).mono ?_
    rintro e w2 ⟨rfl, hr2, hb2⟩
    have Hr2 := Lib.hid (show RowW w2 w.heap.size w.heap.size (tl wb) (mixTo (· ||| ·) wa wb (tl wb) 0) by rw [mixTo_zero]; exact hr2)
    have Hb2 := Lib.hid hb2
    clear hr2 hb2
    go_wp2
    go_loopw [6, 19] (fun _ i wr => ∃ k : Nat, k ≤ tl wb ∧ i = .int .i64 k ∧ RowW wr w.heap.size w.heap.size (tl wb) (mixTo (· ||| ·) wa wb (tl wb) k) ∧ Below w.heap.size w wr) (fun _ i _ => tl wb - (intOf i).toNat)
    case atStart => exact ⟨0, Nat.zero_le _, rfl, Hr2.out, Hb2.out⟩
    case round =>
      obtain ⟨k, hk, rfl, hr, hbl⟩ := hrel
      have Hr := Lib.hid hr
      have Hb := Lib.hid hbl
      by_cases hlt : k < tl wb
      · obtain ⟨bb, ob, rfl, hcb⟩ := Hzb.out (by omega)
        have cb := (hbl.cell (p := ⟨bb, ob + k, none⟩) (World.block_lt_of_cell? w _ (hcb k (by omega)))).trans (hcb k (by omega))
        have cr := hr.cell (i := k) (by rw [length_mixTo]; omega)
        rw [mixTo_at _ _ _ _ _ (by omega)] at cr
        have fz := hr.free k
        have hx := hwa k
        have hy := hwb k
        have Hsucc := Lib.hid (mixTo_succ (· ||| ·) wa wb (tl wb) k)
        generalize wa.getD k 0 = x at *
        generalize wb.getD k 0 = y at *
        have ko := kor x y hx hy
        have hkN : k < tl wb := by omega
        have hkb : k < wb.length := by omega
        clear hcb hr hbl
        go_wp2
        refine wp_region_tail 10 (by kernel_rfl) (by kernel_rfl) ?_
        simp only [List.take_succ_cons, List.take_zero, List.drop_succ_cons, List.drop_zero, World.drew_is_drewN]
        repeat still_step
        refine wpStill_nil ?_
        go_wp2
        go_roundw
        case rel => exact ⟨k + 1, by omega, by go_num, by rw [← Hsucc.out]; exact (Hr.out.drewN 1).set _ _, (Hb.out.trans (Drawn.below ⟨1, rfl⟩ _)).setCell (Nat.le_refl _) _⟩
        case measure => simp [intOf]; omega
      · have ek : k = tl wb := by omega
        clear hbl
        have Hfin := Lib.hid (show RowW wr w.heap.size w.heap.size (tl wb) (tab (tl wb) fun i => wa.getD i 0 ||| wb.getD i 0) by
          have e : mixTo (· ||| ·) wa wb (tl wb) k = tab (tl wb) fun i => wa.getD i 0 ||| wb.getD i 0 := tab_congr fun i _ => by
            by_cases h : i < k
            · rw [if_pos h]
            · rw [if_neg h, tl_zero wb i (by omega), Nat.or_zero]
          rw [← e]; exact hr)
        clear hr
        go_wp2
        go_ret
        exact ⟨_, rfl, Hfin.out, Hb.out⟩
  · go_enter Tryd.func25, Tryd.ntmps25
    go_wp2_with fail
    refine (trim_any b d wb w hm hd hdm Hzb.out).mono ?_
    rintro e w1 ⟨rfl, rfl⟩
    go_wp2_with fail
    refine (trim_any a c wa w hn hc hcm Hz.out).mono ?_
    rintro e w1 ⟨rfl, rfl⟩
    go_wp2_with fail
    refine (resized_any a c (tl wa) wa w hn (by omega) Hz.out).mono ?_
    rintro e w2 ⟨rfl, hr2, hb2⟩
    have Hr2 := Lib.hid (show RowW w2 w.heap.size w.heap.size (tl wa) (mixTo (· ||| ·) wa wb (tl wa) 0) by rw [mixTo_zero]; exact hr2)
    have Hb2 := Lib.hid hb2
    clear hr2 hb2
    go_wp2
    go_loopw [6, 19] (fun _ i wr => ∃ k : Nat, k ≤ tl wb ∧ i = .int .i64 k ∧ RowW wr w.heap.size w.heap.size (tl wa) (mixTo (· ||| ·) wa wb (tl wa) k) ∧ Below w.heap.size w wr) (fun _ i _ => tl wb - (intOf i).toNat)
    case atStart => exact ⟨0, Nat.zero_le _, rfl, Hr2.out, Hb2.out⟩
    case round =>
      obtain ⟨k, hk, rfl, hr, hbl⟩ := hrel
      have Hr := Lib.hid hr
      have Hb := Lib.hid hbl
      by_cases hlt : k < tl wb
      · obtain ⟨bb, ob, rfl, hcb⟩ := Hzb.out (by omega)
        have cb := (hbl.cell (p := ⟨bb, ob + k, none⟩) (World.block_lt_of_cell? w _ (hcb k (by omega)))).trans (hcb k (by omega))
        have cr := hr.cell (i := k) (by rw [length_mixTo]; omega)
        rw [mixTo_at _ _ _ _ _ (by omega)] at cr
        have fz := hr.free k
        have hx := hwa k
        have hy := hwb k
        have Hsucc := Lib.hid (mixTo_succ (· ||| ·) wa wb (tl wa) k)
        generalize wa.getD k 0 = x at *
        generalize wb.getD k 0 = y at *
        have ko := kor x y hx hy
        have hkN : k < tl wa := by omega
        have hkb : k < wb.length := by omega
        clear hcb hr hbl
        go_wp2
        refine wp_region_tail 10 (by kernel_rfl) (by kernel_rfl) ?_
        simp only [List.take_succ_cons, List.take_zero, List.drop_succ_cons, List.drop_zero, World.drew_is_drewN]
        repeat still_step
        refine wpStill_nil ?_
        go_wp2
        go_roundw
        case rel => exact ⟨k + 1, by omega, by go_num, by rw [← Hsucc.out]; exact (Hr.out.drewN 1).set _ _, (Hb.out.trans (Drawn.below ⟨1, rfl⟩ _)).setCell (Nat.le_refl _) _⟩
        case measure => simp [intOf]; omega
      · have ek : k = tl wb := by omega
        clear hbl
        have Hfin := Lib.hid (show RowW wr w.heap.size w.heap.size (tl wa) (tab (tl wa) fun i => wa.getD i 0 ||| wb.getD i 0) by
          have e : mixTo (· ||| ·) wa wb (tl wa) k = tab (tl wa) fun i => wa.getD i 0 ||| wb.getD i 0 := tab_congr fun i _ => by
            by_cases h : i < k
            · rw [if_pos h]
            · rw [if_neg h, tl_zero wb i (by omega), Nat.or_zero]
          rw [← e]; exact hr)
        clear hr
        go_wp2
        go_ret
        exact ⟨_, rfl, Hfin.out, Hb.out⟩
  · have h1' : (tl wb : Int) ≤ tl wa := by omega
    have h2' : (tl wa : Int) ≤ tl wb := by omega
    have H1 := Lib.hid h1
    clear h1
    go_enter Tryd.func25, Tryd.ntmps25
    go_wp2_with fail
    refine (trim_any b d wb w hm hd hdm Hzb.out).mono ?_
    rintro e w1 ⟨rfl, rfl⟩
    go_wp2_with fail
    refine (trim_any a c wa w hn hc hcm Hz.out).mono ?_
    rintro e w1 ⟨rfl, rfl⟩
    go_wp2_with fail
    refine (resized_any a c (tl wa) wa w hn (by omega) Hz.out).mono ?_
    rintro e w2 ⟨rfl, hr2, hb2⟩
    have Hr2 := Lib.hid (show RowW w2 w.heap.size w.heap.size (tl wa) (mixTo (· ||| ·) wa wb (tl wa) 0) by rw [mixTo_zero]; exact hr2)
    have Hb2 := Lib.hid hb2
    clear hr2 hb2
    go_wp2
    go_loopw [6, 19] (fun _ i wr => ∃ k : Nat, k ≤ tl wb ∧ i = .int .i64 k ∧ RowW wr w.heap.size w.heap.size (tl wa) (mixTo (· ||| ·) wa wb (tl wa) k) ∧ Below w.heap.size w wr) (fun _ i _ => tl wb - (intOf i).toNat)
    case atStart => exact ⟨0, Nat.zero_le _, rfl, Hr2.out, Hb2.out⟩
    case round =>
      obtain ⟨k, hk, rfl, hr, hbl⟩ := hrel
      have Hr := Lib.hid hr
      have Hb := Lib.hid hbl
      by_cases hlt : k < tl wb
      · obtain ⟨bb, ob, rfl, hcb⟩ := Hzb.out (by omega)
        have cb := (hbl.cell (p := ⟨bb, ob + k, none⟩) (World.block_lt_of_cell? w _ (hcb k (by omega)))).trans (hcb k (by omega))
        have cr := hr.cell (i := k) (by rw [length_mixTo]; omega)
        rw [mixTo_at _ _ _ _ _ (by omega)] at cr
        have fz := hr.free k
        have hx := hwa k
        have hy := hwb k
        have Hsucc := Lib.hid (mixTo_succ (· ||| ·) wa wb (tl wa) k)
        generalize wa.getD k 0 = x at *
        generalize wb.getD k 0 = y at *
        have ko := kor x y hx hy
        have hkN : k < tl wa := by omega
        have hkb : k < wb.length := by omega
        clear hcb hr hbl
        go_wp2
        refine wp_region_tail 10 (by kernel_rfl) (by kernel_rfl) ?_
        simp only [List.take_succ_cons, List.take_zero, List.drop_succ_cons, List.drop_zero, World.drew_is_drewN]
        repeat still_step
        refine wpStill_nil ?_
        go_wp2
        go_roundw
        case rel => exact ⟨k + 1, by omega, by go_num, by rw [← Hsucc.out]; exact (Hr.out.drewN 1).set _ _, (Hb.out.trans (Drawn.below ⟨1, rfl⟩ _)).setCell (Nat.le_refl _) _⟩
        case measure => simp [intOf]; omega
      · have ek : k = tl wb := by omega
        clear hbl
        have Hfin := Lib.hid (show RowW wr w.heap.size w.heap.size (tl wa) (tab (tl wa) fun i => wa.getD i 0 ||| wb.getD i 0) by
          have e : mixTo (· ||| ·) wa wb (tl wa) k = tab (tl wa) fun i => wa.getD i 0 ||| wb.getD i 0 := tab_congr fun i _ => by
            by_cases h : i < k
            · rw [if_pos h]
            · rw [if_neg h, tl_zero wb i (by omega), Nat.or_zero]
          rw [← e]; exact hr)
        clear hr
        go_wp2
        go_ret
        exact ⟨_, rfl, Hfin.out, Hb.out⟩
set_option maxHeartbeats 1600000 in
theorem minus_core (a : Option Addr) (c : Nat) (wa : List Nat) (b : Option Addr) (d : Nat) (wb : List Nat) (m : Nat) (hcs : (tl wa < wb.length ∧ m = tl wa) ∨ (wb.length < tl wa ∧ m = wb.length) ∨ (tl wa = wb.length ∧ m = tl wa)) (w : World)
    (hn : wa.length ≤ 1100) (hc : wa.length ≤ c) (hcm : c ≤ maxLen) (hwa : Wf wa) (hz : Words w a wa) (hm : wb.length ≤ 1100) (hd : wb.length ≤ d) (hdm : d ≤ maxLen) (hwb : Wf wb) (hzb : Words w b wb) :
    Calls Tryd.prog 27 #[.slice a wa.length c, .slice b wb.length d] w fun e w' => ∃ g, e = .returned (.slice (some ⟨g, 0, none⟩) (tl (tab (tl wa) fun i => andNotN (wa.getD i 0) (wb.getD i 0))) (tl wa)) ∧ RowW w' w.heap.size g (tl wa) (minusL wa wb) ∧ Below w.heap.size w w' := by
  have Hz := Lib.hid hz
  have Hzb := Lib.hid hzb
  have la := tl_le wa
  have lb := tl_le wb
  clear hz hzb
  rcases hcs with ⟨h1, rfl⟩ | ⟨h1, rfl⟩ | ⟨h1, rfl⟩
  · go_enter Tryd.func27, Tryd.ntmps27
    go_wp2_with fail
    refine (trim_any a c wa w hn hc hcm Hz.out).mono ?_
    rintro e w1 ⟨rfl, rfl⟩
    go_wp2_with fail
    refine (resized_any a c (tl wa) wa w hn (by omega) Hz.out).mono ?_
    rintro e w2 ⟨rfl, hr2, hb2⟩
    have Hr2 := Lib.hid (show RowW w2 w.heap.size w.heap.size (tl wa) (mixTo andNotN wa wb (tl wa) 0) by rw [mixTo_zero]; exact hr2)
    have Hb2 := Lib.hid hb2
    clear hr2 hb2
    go_wp2
    go_loopw [6, 17] (fun _ i wr => ∃ k : Nat, k ≤ tl wa ∧ i = .int .i64 k ∧ RowW wr w.heap.size w.heap.size (tl wa) (mixTo andNotN wa wb (tl wa) k) ∧ Below w.heap.size w wr) (fun _ i _ => tl wa - (intOf i).toNat)
    case atStart => exact ⟨0, Nat.zero_le _, rfl, Hr2.out, Hb2.out⟩
    case round =>
      obtain ⟨k, hk, rfl, hr, hbl⟩ := hrel
      have Hr := Lib.hid hr
      have Hb := Lib.hid hbl
      by_cases hlt : k < tl wa
      · obtain ⟨bb, ob, rfl, hcb⟩ := Hzb.out (by omega)
        have cb := (hbl.cell (p := ⟨bb, ob + k, none⟩) (World.block_lt_of_cell? w _ (hcb k (by omega)))).trans (hcb k (by omega))
        have cr := hr.cell (i := k) (by rw [length_mixTo]; omega)
        rw [mixTo_at _ _ _ _ _ (by omega)] at cr
        have fz := hr.free k
        have hx := hwa k
        have hy := hwb k
        have Hsucc := Lib.hid (mixTo_succ andNotN wa wb (tl wa) k)
        generalize wa.getD k 0 = x at *
        generalize wb.getD k 0 = y at *
        have ko := kandNot x y hx hy
        have hkN : k < tl wa := by omega
        have hkb : k < wb.length := by omega
        clear hcb hr hbl
        go_wp2
        refine wp_region_tail 10 (by kernel_rfl) (by kernel_rfl) ?_
        simp only [List.take_succ_cons, List.take_zero, List.drop_succ_cons, List.drop_zero, World.drew_is_drewN]
        repeat still_step
        refine wpStill_nil ?_
        go_wp2
        go_roundw
        case rel => exact ⟨k + 1, by omega, by go_num, by rw [← Hsucc.out]; exact (Hr.out.drewN 1).set _ _, (Hb.out.trans (Drawn.below ⟨1, rfl⟩ _)).setCell (Nat.le_refl _) _⟩
        case measure => simp [intOf]; omega
      · have ek : k = tl wa := by omega
        clear hbl
        have Hfin := Lib.hid (show RowW wr w.heap.size w.heap.size (tl wa) (tab (tl wa) fun i => andNotN (wa.getD i 0) (wb.getD i 0)) by
          have e : mixTo andNotN wa wb (tl wa) k = tab (tl wa) fun i => andNotN (wa.getD i 0) (wb.getD i 0) := tab_congr fun i hi => by
            by_cases h : i < k
            · rw [if_pos h]
            · rw [if_neg h, getD_out (ws := wb) (i := i) (by omega)]; unfold andNotN; rw [Nat.sub_zero]; exact (and_full _ (hwa i)).symm
          rw [← e]; exact hr)
        have Hl := Lib.hid (length_tab (tl wa) fun i => andNotN (wa.getD i 0) (wb.getD i 0))
        clear hr
        go_wp2_with fail
        refine (trim_at _ (tl wa) _ _ _ Hl.out (by omega) (Nat.le_refl _) (by unfold maxLen; omega) Hfin.out.words).mono ?_
        rintro e w3 ⟨rfl, rfl⟩
        go_wp2
        go_ret
        exact ⟨_, rfl, Hfin.out.trim, Hb.out⟩
  · go_enter Tryd.func27, Tryd.ntmps27
    go_wp2_with fail
    refine (trim_any a c wa w hn hc hcm Hz.out).mono ?_
    rintro e w1 ⟨rfl, rfl⟩
    go_wp2_with fail
    refine (resized_any a c (tl wa) wa w hn (by omega) Hz.out).mono ?_
    rintro e w2 ⟨rfl, hr2, hb2⟩
    have Hr2 := Lib.hid (show RowW w2 w.heap.size w.heap.size (tl wa) (mixTo andNotN wa wb (tl wa) 0) by rw [mixTo_zero]; exact hr2)
    have Hb2 := Lib.hid hb2
    clear hr2 hb2
    go_wp2
    go_loopw [6, 17] (fun _ i wr => ∃ k : Nat, k ≤ wb.length ∧ i = .int .i64 k ∧ RowW wr w.heap.size w.heap.size (tl wa) (mixTo andNotN wa wb (tl wa) k) ∧ Below w.heap.size w wr) (fun _ i _ => wb.length - (intOf i).toNat)
    case atStart => exact ⟨0, Nat.zero_le _, rfl, Hr2.out, Hb2.out⟩
    case round =>
      obtain ⟨k, hk, rfl, hr, hbl⟩ := hrel
      have Hr := Lib.hid hr
      have Hb := Lib.hid hbl
      by_cases hlt : k < wb.length
      · obtain ⟨bb, ob, rfl, hcb⟩ := Hzb.out (by omega)
        have cb := (hbl.cell (p := ⟨bb, ob + k, none⟩) (World.block_lt_of_cell? w _ (hcb k (by omega)))).trans (hcb k (by omega))
        have cr := hr.cell (i := k) (by rw [length_mixTo]; omega)
        rw [mixTo_at _ _ _ _ _ (by omega)] at cr
        have fz := hr.free k
        have hx := hwa k
        have hy := hwb k
        have Hsucc := Lib.hid (mixTo_succ andNotN wa wb (tl wa) k)
        generalize wa.getD k 0 = x at *
        generalize wb.getD k 0 = y at *
        have ko := kandNot x y hx hy
        have hkN : k < tl wa := by omega
        have hkb : k < wb.length := by omega
        clear hcb hr hbl
        go_wp2
        refine wp_region_tail 10 (by kernel_rfl) (by kernel_rfl) ?_
        simp only [List.take_succ_cons, List.take_zero, List.drop_succ_cons, List.drop_zero, World.drew_is_drewN]
        repeat still_step
        refine wpStill_nil ?_
        go_wp2
        go_roundw
        case rel => exact ⟨k + 1, by omega, by go_num, by rw [← Hsucc.out]; exact (Hr.out.drewN 1).set _ _, (Hb.out.trans (Drawn.below ⟨1, rfl⟩ _)).setCell (Nat.le_refl _) _⟩
        case measure => simp [intOf]; omega
      · have ek : k = wb.length := by omega
        clear hbl
        have Hfin := Lib.hid (show RowW wr w.heap.size w.heap.size (tl wa) (tab (tl wa) fun i => andNotN (wa.getD i 0) (wb.getD i 0)) by
          have e : mixTo andNotN wa wb (tl wa) k = tab (tl wa) fun i => andNotN (wa.getD i 0) (wb.getD i 0) := tab_congr fun i hi => by
            by_cases h : i < k
            · rw [if_pos h]
            · rw [if_neg h, getD_out (ws := wb) (i := i) (by omega)]; unfold andNotN; rw [Nat.sub_zero]; exact (and_full _ (hwa i)).symm
          rw [← e]; exact hr)
        have Hl := Lib.hid (length_tab (tl wa) fun i => andNotN (wa.getD i 0) (wb.getD i 0))
        clear hr
        go_wp2_with fail
        refine (trim_at _ (tl wa) _ _ _ Hl.out (by omega) (Nat.le_refl _) (by unfold maxLen; omega) Hfin.out.words).mono ?_
        rintro e w3 ⟨rfl, rfl⟩
        go_wp2
        go_ret
        exact ⟨_, rfl, Hfin.out.trim, Hb.out⟩
  · have h1' : (wb.length : Int) ≤ tl wa := by omega
    have h2' : (tl wa : Int) ≤ wb.length := by omega
    have H1 := Lib.hid h1
    clear h1
    go_enter Tryd.func27, Tryd.ntmps27
    go_wp2_with fail
    refine (trim_any a c wa w hn hc hcm Hz.out).mono ?_
    rintro e w1 ⟨rfl, rfl⟩
    go_wp2_with fail
    refine (resized_any a c (tl wa) wa w hn (by omega) Hz.out).mono ?_
    rintro e w2 ⟨rfl, hr2, hb2⟩
    have Hr2 := Lib.hid (show RowW w2 w.heap.size w.heap.size (tl wa) (mixTo andNotN wa wb (tl wa) 0) by rw [mixTo_zero]; exact hr2)
    have Hb2 := Lib.hid hb2
    clear hr2 hb2
    go_wp2
    go_loopw [6, 17] (fun _ i wr => ∃ k : Nat, k ≤ tl wa ∧ i = .int .i64 k ∧ RowW wr w.heap.size w.heap.size (tl wa) (mixTo andNotN wa wb (tl wa) k) ∧ Below w.heap.size w wr) (fun _ i _ => tl wa - (intOf i).toNat)
    case atStart => exact ⟨0, Nat.zero_le _, rfl, Hr2.out, Hb2.out⟩
    case round =>
      obtain ⟨k, hk, rfl, hr, hbl⟩ := hrel
      have Hr := Lib.hid hr
      have Hb := Lib.hid hbl
      by_cases hlt : k < tl wa
      · obtain ⟨bb, ob, rfl, hcb⟩ := Hzb.out (by omega)
        have cb := (hbl.cell (p := ⟨bb, ob + k, none⟩) (World.block_lt_of_cell? w _ (hcb k (by omega)))).trans (hcb k (by omega))
        have cr := hr.cell (i := k) (by rw [length_mixTo]; omega)
        rw [mixTo_at _ _ _ _ _ (by omega)] at cr
        have fz := hr.free k
        have hx := hwa k
        have hy := hwb k
        have Hsucc := Lib.hid (mixTo_succ andNotN wa wb (tl wa) k)
        generalize wa.getD k 0 = x at *
        generalize wb.getD k 0 = y at *
        have ko := kandNot x y hx hy
        have hkN : k < tl wa := by omega
        have hkb : k < wb.length := by omega
        clear hcb hr hbl
        go_wp2
        refine wp_region_tail 10 (by kernel_rfl) (by kernel_rfl) ?_
        simp only [List.take_succ_cons, List.take_zero, List.drop_succ_cons, List.drop_zero, World.drew_is_drewN]
        repeat still_step
        refine wpStill_nil ?_
        go_wp2
        go_roundw
        case rel => exact ⟨k + 1, by omega, by go_num, by rw [← Hsucc.out]; exact (Hr.out.drewN 1).set _ _, (Hb.out.trans (Drawn.below ⟨1, rfl⟩ _)).setCell (Nat.le_refl _) _⟩
        case measure => simp [intOf]; omega
      · have ek : k = tl wa := by omega
        clear hbl
        have Hfin := Lib.hid (show RowW wr w.heap.size w.heap.size (tl wa) (tab (tl wa) fun i => andNotN (wa.getD i 0) (wb.getD i 0)) by
          have e : mixTo andNotN wa wb (tl wa) k = tab (tl wa) fun i => andNotN (wa.getD i 0) (wb.getD i 0) := tab_congr fun i hi => by
            by_cases h : i < k
            · rw [if_pos h]
            · rw [if_neg h, getD_out (ws := wb) (i := i) (by omega)]; unfold andNotN; rw [Nat.sub_zero]; exact (and_full _ (hwa i)).symm
          rw [← e]; exact hr)
        have Hl := Lib.hid (length_tab (tl wa) fun i => andNotN (wa.getD i 0) (wb.getD i 0))
        clear hr
        go_wp2_with fail
        refine (trim_at _ (tl wa) _ _ _ Hl.out (by omega) (Nat.le_refl _) (by unfold maxLen; omega) Hfin.out.words).mono ?_
        rintro e w3 ⟨rfl, rfl⟩
        go_wp2
        go_ret
        exact ⟨_, rfl, Hfin.out.trim, Hb.out⟩
set_option maxHeartbeats 1600000 in
theorem both_core (a : Option Addr) (c : Nat) (wa : List Nat) (b : Option Addr) (d : Nat) (wb : List Nat) (n : Nat) (hcs : (tl wa < tl wb ∧ n = tl wa) ∨ (tl wb < tl wa ∧ n = tl wb) ∨ (tl wa = tl wb ∧ n = tl wa)) (w : World)
    (hn : wa.length ≤ 1100) (hc : wa.length ≤ c) (hcm : c ≤ maxLen) (hwa : Wf wa) (hz : Words w a wa) (hm : wb.length ≤ 1100) (hd : wb.length ≤ d) (hdm : d ≤ maxLen) (hwb : Wf wb) (hzb : Words w b wb) :
    Calls Tryd.prog 29 #[.slice a wa.length c, .slice b wb.length d] w fun e w' => ∃ g, e = .returned (.slice (some ⟨g, 0, none⟩) (tl (tab n fun i => wa.getD i 0 &&& wb.getD i 0)) n) ∧ RowW w' w.heap.size g n (trimL (tab n fun i => wa.getD i 0 &&& wb.getD i 0)) ∧ Below w.heap.size w w' := by
  have Hz := Lib.hid hz
  have Hzb := Lib.hid hzb
  have la := tl_le wa
  have lb := tl_le wb
  clear hz hzb
  rcases hcs with ⟨h1, rfl⟩ | ⟨h1, rfl⟩ | ⟨h1, rfl⟩
  · go_enter Tryd.func29, Tryd.ntmps29
    go_wp2_with fail
    refine (trim_any a c wa w hn hc hcm Hz.out).mono ?_
    rintro e w1 ⟨rfl, rfl⟩
    go_wp2_with fail
    refine (trim_any b d wb w hm hd hdm Hzb.out).mono ?_
    rintro e w1 ⟨rfl, rfl⟩
    go_wp2_with fail
    refine (resized_any a c (tl wa) wa w hn (by omega) Hz.out).mono ?_
    rintro e w2 ⟨rfl, hr2, hb2⟩
    have Hr2 := Lib.hid (show RowW w2 w.heap.size w.heap.size (tl wa) (mixTo (· &&& ·) wa wb (tl wa) 0) by rw [mixTo_zero]; exact hr2)
    have Hb2 := Lib.hid hb2
    clear hr2 hb2
    go_wp2
    go_loopw [6, 18] (fun _ i wr => ∃ k : Nat, k ≤ tl wa ∧ i = .int .i64 k ∧ RowW wr w.heap.size w.heap.size (tl wa) (mixTo (· &&& ·) wa wb (tl wa) k) ∧ Below w.heap.size w wr) (fun _ i _ => tl wa - (intOf i).toNat)
    case atStart => exact ⟨0, Nat.zero_le _, rfl, Hr2.out, Hb2.out⟩
    case round =>
      obtain ⟨k, hk, rfl, hr, hbl⟩ := hrel
      have Hr := Lib.hid hr
      have Hb := Lib.hid hbl
      by_cases hlt : k < tl wa
      · obtain ⟨bb, ob, rfl, hcb⟩ := Hzb.out (by omega)
        have cb := (hbl.cell (p := ⟨bb, ob + k, none⟩) (World.block_lt_of_cell? w _ (hcb k (by omega)))).trans (hcb k (by omega))
        have cr := hr.cell (i := k) (by rw [length_mixTo]; omega)
        rw [mixTo_at _ _ _ _ _ (by omega)] at cr
        have fz := hr.free k
        have hx := hwa k
        have hy := hwb k
        have Hsucc := Lib.hid (mixTo_succ (· &&& ·) wa wb (tl wa) k)
        generalize wa.getD k 0 = x at *
        generalize wb.getD k 0 = y at *
        have ko := kand x y hx hy
        have hkN : k < tl wa := by omega
        have hkb : k < wb.length := by omega
        clear hcb hr hbl
        go_wp2
        refine wp_region_tail 10 (by kernel_rfl) (by kernel_rfl) ?_
        simp only [List.take_succ_cons, List.take_zero, List.drop_succ_cons, List.drop_zero, World.drew_is_drewN]
        repeat still_step
        refine wpStill_nil ?_
        go_wp2
        go_roundw
        case rel => exact ⟨k + 1, by omega, by go_num, by rw [← Hsucc.out]; exact (Hr.out.drewN 1).set _ _, (Hb.out.trans (Drawn.below ⟨1, rfl⟩ _)).setCell (Nat.le_refl _) _⟩
        case measure => simp [intOf]; omega
      · have ek : k = tl wa := by omega
        clear hbl
        have Hfin := Lib.hid (show RowW wr w.heap.size w.heap.size (tl wa) (tab (tl wa) fun i => wa.getD i 0 &&& wb.getD i 0) by
          have e : mixTo (· &&& ·) wa wb (tl wa) k = tab (tl wa) fun i => wa.getD i 0 &&& wb.getD i 0 := tab_congr fun i hi => by
            by_cases h : i < k
            · rw [if_pos h]
            · omega
          rw [← e]; exact hr)
        have Hl := Lib.hid (length_tab (tl wa) fun i => wa.getD i 0 &&& wb.getD i 0)
        clear hr
        go_wp2_with fail
        refine (trim_at _ (tl wa) _ _ _ Hl.out (by omega) (Nat.le_refl _) (by unfold maxLen; omega) Hfin.out.words).mono ?_
        rintro e w3 ⟨rfl, rfl⟩
        go_wp2
        go_ret
        exact ⟨_, rfl, Hfin.out.trim, Hb.out⟩
  · go_enter Tryd.func29, Tryd.ntmps29
    go_wp2_with fail
    refine (trim_any a c wa w hn hc hcm Hz.out).mono ?_
    rintro e w1 ⟨rfl, rfl⟩
    go_wp2_with fail
    refine (trim_any b d wb w hm hd hdm Hzb.out).mono ?_
    rintro e w1 ⟨rfl, rfl⟩
    go_wp2_with fail
    refine (resized_any a c (tl wb) wa w hn (by omega) Hz.out).mono ?_
    rintro e w2 ⟨rfl, hr2, hb2⟩
    have Hr2 := Lib.hid (show RowW w2 w.heap.size w.heap.size (tl wb) (mixTo (· &&& ·) wa wb (tl wb) 0) by rw [mixTo_zero]; exact hr2)
    have Hb2 := Lib.hid hb2
    clear hr2 hb2
    go_wp2
    go_loopw [6, 18] (fun _ i wr => ∃ k : Nat, k ≤ tl wb ∧ i = .int .i64 k ∧ RowW wr w.heap.size w.heap.size (tl wb) (mixTo (· &&& ·) wa wb (tl wb) k) ∧ Below w.heap.size w wr) (fun _ i _ => tl wb - (intOf i).toNat)
    case atStart => exact ⟨0, Nat.zero_le _, rfl, Hr2.out, Hb2.out⟩
    case round =>
      obtain ⟨k, hk, rfl, hr, hbl⟩ := hrel
      have Hr := Lib.hid hr
      have Hb := Lib.hid hbl
      by_cases hlt : k < tl wb
      · obtain ⟨bb, ob, rfl, hcb⟩ := Hzb.out (by omega)
        have cb := (hbl.cell (p := ⟨bb, ob + k, none⟩) (World.block_lt_of_cell? w _ (hcb k (by omega)))).trans (hcb k (by omega))
        have cr := hr.cell (i := k) (by rw [length_mixTo]; omega)
        rw [mixTo_at _ _ _ _ _ (by omega)] at cr
        have fz := hr.free k
        have hx := hwa k
        have hy := hwb k
        have Hsucc := Lib.hid (mixTo_succ (· &&& ·) wa wb (tl wb) k)
        generalize wa.getD k 0 = x at *
        generalize wb.getD k 0 = y at *
        have ko := kand x y hx hy
        have hkN : k < tl wb := by omega
        have hkb : k < wb.length := by omega
        clear hcb hr hbl
        go_wp2
        refine wp_region_tail 10 (by kernel_rfl) (by kernel_rfl) ?_
        simp only [List.take_succ_cons, List.take_zero, List.drop_succ_cons, List.drop_zero, World.drew_is_drewN]
        repeat still_step
        refine wpStill_nil ?_
        go_wp2
        go_roundw
        case rel => exact ⟨k + 1, by omega, by go_num, by rw [← Hsucc.out]; exact (Hr.out.drewN 1).set _ _, (Hb.out.trans (Drawn.below ⟨1, rfl⟩ _)).setCell (Nat.le_refl _) _⟩
        case measure => simp [intOf]; omega
      · have ek : k = tl wb := by omega
        clear hbl
        have Hfin := Lib.hid (show RowW wr w.heap.size w.heap.size (tl wb) (tab (tl wb) fun i => wa.getD i 0 &&& wb.getD i 0) by
          have e : mixTo (· &&& ·) wa wb (tl wb) k = tab (tl wb) fun i => wa.getD i 0 &&& wb.getD i 0 := tab_congr fun i hi => by
            by_cases h : i < k
            · rw [if_pos h]
            · omega
          rw [← e]; exact hr)
        have Hl := Lib.hid (length_tab (tl wb) fun i => wa.getD i 0 &&& wb.getD i 0)
        clear hr
        go_wp2_with fail
        refine (trim_at _ (tl wb) _ _ _ Hl.out (by omega) (Nat.le_refl _) (by unfold maxLen; omega) Hfin.out.words).mono ?_
        rintro e w3 ⟨rfl, rfl⟩
        go_wp2
        go_ret
        exact ⟨_, rfl, Hfin.out.trim, Hb.out⟩
  · have h1' : (tl wb : Int) ≤ tl wa := by omega
    have h2' : (tl wa : Int) ≤ tl wb := by omega
    have H1 := Lib.hid h1
    clear h1
    go_enter Tryd.func29, Tryd.ntmps29
    go_wp2_with fail
    refine (trim_any a c wa w hn hc hcm Hz.out).mono ?_
    rintro e w1 ⟨rfl, rfl⟩
    go_wp2_with fail
    refine (trim_any b d wb w hm hd hdm Hzb.out).mono ?_
    rintro e w1 ⟨rfl, rfl⟩
    go_wp2_with fail
    refine (resized_any a c (tl wa) wa w hn (by omega) Hz.out).mono ?_
    rintro e w2 ⟨rfl, hr2, hb2⟩
    have Hr2 := Lib.hid (show RowW w2 w.heap.size w.heap.size (tl wa) (mixTo (· &&& ·) wa wb (tl wa) 0) by rw [mixTo_zero]; exact hr2)
    have Hb2 := Lib.hid hb2
    clear hr2 hb2
    go_wp2
    go_loopw [6, 18] (fun _ i wr => ∃ k : Nat, k ≤ tl wa ∧ i = .int .i64 k ∧ RowW wr w.heap.size w.heap.size (tl wa) (mixTo (· &&& ·) wa wb (tl wa) k) ∧ Below w.heap.size w wr) (fun _ i _ => tl wa - (intOf i).toNat)
    case atStart => exact ⟨0, Nat.zero_le _, rfl, Hr2.out, Hb2.out⟩
    case round =>
      obtain ⟨k, hk, rfl, hr, hbl⟩ := hrel
      have Hr := Lib.hid hr
      have Hb := Lib.hid hbl
      by_cases hlt : k < tl wa
      · obtain ⟨bb, ob, rfl, hcb⟩ := Hzb.out (by omega)
        have cb := (hbl.cell (p := ⟨bb, ob + k, none⟩) (World.block_lt_of_cell? w _ (hcb k (by omega)))).trans (hcb k (by omega))
        have cr := hr.cell (i := k) (by rw [length_mixTo]; omega)
        rw [mixTo_at _ _ _ _ _ (by omega)] at cr
        have fz := hr.free k
        have hx := hwa k
        have hy := hwb k
        have Hsucc := Lib.hid (mixTo_succ (· &&& ·) wa wb (tl wa) k)
        generalize wa.getD k 0 = x at *
        generalize wb.getD k 0 = y at *
        have ko := kand x y hx hy
        have hkN : k < tl wa := by omega
        have hkb : k < wb.length := by omega
        clear hcb hr hbl
        go_wp2
        refine wp_region_tail 10 (by kernel_rfl) (by kernel_rfl) ?_
        simp only [List.take_succ_cons, List.take_zero, List.drop_succ_cons, List.drop_zero, World.drew_is_drewN]
        repeat still_step
        refine wpStill_nil ?_
        go_wp2
        go_roundw
        case rel => exact ⟨k + 1, by omega, by go_num, by rw [← Hsucc.out]; exact (Hr.out.drewN 1).set _ _, (Hb.out.trans (Drawn.below ⟨1, rfl⟩ _)).setCell (Nat.le_refl _) _⟩
        case measure => simp [intOf]; omega
      · have ek : k = tl wa := by omega
        clear hbl
        have Hfin := Lib.hid (show RowW wr w.heap.size w.heap.size (tl wa) (tab (tl wa) fun i => wa.getD i 0 &&& wb.getD i 0) by
          have e : mixTo (· &&& ·) wa wb (tl wa) k = tab (tl wa) fun i => wa.getD i 0 &&& wb.getD i 0 := tab_congr fun i hi => by
            by_cases h : i < k
            · rw [if_pos h]
            · omega
          rw [← e]; exact hr)
        have Hl := Lib.hid (length_tab (tl wa) fun i => wa.getD i 0 &&& wb.getD i 0)
        clear hr
        go_wp2_with fail
        refine (trim_at _ (tl wa) _ _ _ Hl.out (by omega) (Nat.le_refl _) (by unfold maxLen; omega) Hfin.out.words).mono ?_
        rintro e w3 ⟨rfl, rfl⟩
        go_wp2
        go_ret
        exact ⟨_, rfl, Hfin.out.trim, Hb.out⟩
end Go.Proofs.YtggkhbjhhglbbaaDoor
