/-
  awake: the closed example with which every statement ends; and the definition's Equal and EqualInts.
-/
import Derived.Test.YtggkhbjhhglbbaaDoorOf
import Derived.Test.YtggkhbjhhglbbaaDoorNext
namespace Go.Proofs.YtggkhbjhhglbbaaDoor
open Go.RowKit Go.WideShapes
set_option linter.unusedVariables false

theorem count_at (a : Option Addr) (n c : Nat) (ws : List Nat) (hl : ws.length = n) (w : World) (hn : n ≤ 2200) (hwf : Wf ws) (hz : Words w a ws) :
    Calls Tryd.prog 18 #[.slice a n c] w fun e w' => e = .returned (.int .i64 ((elems ws).length : Nat)) ∧ w = w' := by
  subst hl
  exact count_any a c ws w hn hwf hz
theorem next_any (a : Option Addr) (c : Nat) (ws : List Nat) (x : Int) (w : World) (hx : x < 9223372036854775808) (hn : ws.length ≤ 1100) (hwf : Wf ws) (hz : Words w a ws) (hT : Tz w) :
    Calls Tryd.prog 19 #[.slice a ws.length c, .int .i64 x] w fun e w' => e = .returned (.int .i64 (nextS ws x)) ∧ w = w' := by
  by_cases h : x < 0
  · exact next_neg a c ws x w h hn hwf hz hT
  · obtain ⟨n, rfl⟩ : ∃ n : Nat, x = n := ⟨x.toNat, by omega⟩
    exact next_pos a c ws n w (by omega) hn hwf hz hT
theorem next_at (a : Option Addr) (n c : Nat) (ws : List Nat) (hl : ws.length = n) (x : Int) (w : World) (hx : x < 9223372036854775808) (hn : n ≤ 1100) (hwf : Wf ws) (hz : Words w a ws) (hT : Tz w) :
    Calls Tryd.prog 19 #[.slice a n c, .int .i64 x] w fun e w' => e = .returned (.int .i64 (nextS ws x)) ∧ w = w' := by
  subst hl
  exact next_any a c ws x w hx hn hwf hz hT
theorem ofAt_good (a : Option Addr) (n c m : Nat) (l : List Int) (hl : l.length = n) (ws : List Nat) (hm : want l n = m) (hw : ofTo l m n = ws) (w : World) (hn : n ≤ 100000) (hz : Ints w a l) (hok : ∀ k, k < l.length → 0 ≤ l.getD k 0 ∧ l.getD k 0 < 65536) :
    Calls Tryd.prog 32 #[.slice a n c] w fun e w' => ∃ g, e = .returned (.tuple #[.slice (some ⟨g, 0, none⟩) m m, .int .i64 0]) ∧
      RowW w' w.heap.size g m ws ∧ Below w.heap.size w w' := by
  subst hl
  subst hm
  subst hw
  exact of_good a c l w hn hz hok

def exL : List Int := [64, 1, 64]
theorem ex_want : want exL 3 = 2 := by decide
theorem ex_of : ofTo exL 2 3 = [2, 1] := by decide
theorem ex_len : (elems [2, 1]).length = 2 := by decide
theorem ex_next : nextS [2, 1] 2 = 64 := by decide

set_option maxHeartbeats 800000 in
theorem awake_any (w : World) (hT : Tz w) : Calls Tryd.prog 10 #[] w fun e w' => e = .returned (.bool true) ∧ Below w.heap.size w w' := by
  have HT := Lib.hid hT
  clear hT
  go_enter Tryd.func10, Tryd.ntmps10
  go_wp2_with fail
  refine (ofAt_good _ 3 3 2 exL rfl [2, 1] ex_want ex_of _ (by omega) ?_ ?_).mono ?_
  · intro _
    refine ⟨_, _, rfl, fun i hi => ?_⟩
    have h2 : i < 3 := hi
    rcases (show i = 0 ∨ i = 1 ∨ i = 2 by omega) with rfl | rfl | rfl <;> simp [exL, go_sem]
  · intro k hk
    have h2 : k < 3 := hk
    rcases (show k = 0 ∨ k = 1 ∨ k = 2 by omega) with rfl | rfl | rfl <;> simp [exL]
  rintro e w2 ⟨g, rfl, hr, hb2⟩
  have c0 := hr.cell (i := 0) (by decide)
  have c1 := hr.cell (i := 1) (by decide)
  simp only [List.getD_cons_zero, List.getD_cons_succ] at c0 c1
  have Hw := Lib.hid hr.words
  have Hb2 := Lib.hid hb2
  have HT2 := Lib.hid ((HT.out.below ((Below.refl _ _).alloc (Nat.le_refl _) _) (Nat.le_refl _)).below hb2 (Nat.le_refl _))
  have Hwf : Hid (Wf [2, 1]) := show Wf [2, 1] from fun i => by
    match i with
    | 0 => decide
    | 1 => decide
    | i + 2 => simp
  clear hr hb2
  go_wp2_with fail
  refine (count_at _ 2 2 [2, 1] rfl w2 (by omega) Hwf.out Hw.out).mono ?_
  rw [ex_len]
  rintro e w3 ⟨rfl, rfl⟩
  go_wp2_with fail
  refine (next_at _ 2 2 [2, 1] rfl 2 w2 (by omega) (by omega) Hwf.out Hw.out HT2.out).mono ?_
  rw [ex_next]
  rintro e w3 ⟨rfl, rfl⟩
  go_wp2_with fail
  go_ret
  exact ⟨rfl, ((Below.refl _ _).alloc (Nat.le_refl _) _).trans (Hb2.out.mono (by simp))⟩

set_option maxHeartbeats 800000 in
theorem requal_any (a : Option Addr) (c : Nat) (za : List Nat) (b : Option Addr) (d : Nat) (zb : List Nat) (w : World) (hn : za.length ≤ 2200) (hz : Words w a za) (hm : zb.length ≤ 2200) (hzb : Words w b zb) :
    Calls Tryd.prog 24 #[.slice a za.length c, .slice b zb.length d] w fun e w' => e = .returned (.bool (decide (za = zb))) ∧ Drawn w w' := by
  have Hz := Lib.hid hz
  have Hzb := Lib.hid hzb
  clear hz hzb
  by_cases hl : za.length = zb.length
  · have t0 : ((za.length : Int) != (zb.length : Int)) = false := by simp [hl]
    have Hl := Lib.hid hl
    clear hl
    go_enter Tryd.func24, Tryd.ntmps24
    go_wp2
    go_loopw [5] (fun i wr => ∃ k : Nat, k ≤ za.length ∧ i = .int .i64 k ∧ (∀ j, j < k → za.getD j 0 = zb.getD j 0) ∧ Drawn w wr) (fun i _ => za.length - (intOf i).toNat)
    case atStart => exact ⟨0, Nat.zero_le _, rfl, fun j hj => absurd hj (by omega), .refl _⟩
    case round =>
      obtain ⟨k, hk, rfl, hall, nw, rfl⟩ := hrel
      have Hall := Lib.hid hall
      clear hall
      by_cases hlt : k < za.length
      · obtain ⟨ba, oa, rfl, hca⟩ := Hz.out (by omega)
        obtain ⟨bb, ob, rfl, hcb⟩ := Hzb.out (by rw [← Hl.out]; omega)
        have c1 := hca k hlt
        have c2 := hcb k (by rw [← Hl.out]; omega)
        have l2 : k < zb.length := by rw [← Hl.out]; omega
        obtain ⟨p, hp⟩ : ∃ p, za.getD k 0 = p := ⟨_, rfl⟩
        obtain ⟨q, hq⟩ : ∃ q, zb.getD k 0 = q := ⟨_, rfl⟩
        rw [hp] at c1
        rw [hq] at c2
        have Hp := Lib.hid hp
        have Hq := Lib.hid hq
        clear hca hcb hp hq
        by_cases e : p = q
        · have t1 : ((p : Int) != (q : Int)) = false := by simp [e]
          have E := Lib.hid e
          clear e
          go_wp2
          go_quiet (fail)
          go_wp2
          go_roundw
          case rel =>
            refine ⟨k + 1, by omega, by go_num, fun j hj => ?_, ⟨_, rfl⟩⟩
            by_cases e : j = k
            · rw [e, Hp.out, Hq.out]; exact E.out
            · exact Hall.out j (by omega)
          case measure => simp [intOf]; omega
        · have t1 : ((p : Int) != (q : Int)) = true := by rw [bne_iff_ne]; omega
          have Hne := Lib.hid (show false = decide (za = zb) by
            symm; rw [decide_eq_false_iff_not]; intro h; exact e (by rw [← Hp.out, ← Hq.out, h]))
          clear e
          go_wp2
          go_quiet (fail)
          go_wp2
          go_ret
          exact ⟨ret_bool Hne.out, by first | exact ⟨_, rfl⟩ | exact ((Drawn.refl _).step _).step _⟩
      · have Heq := Lib.hid (show true = decide (za = zb) by
          symm; rw [decide_eq_true_eq]
          apply List.ext_getElem Hl.out
          intro i h1 h2
          have := Hall.out i (by omega)
          simpa [h1, h2] using this)
        go_wp2
        go_ret
        exact ⟨ret_bool Heq.out, nw, rfl⟩
  · have t0 : ((za.length : Int) != (zb.length : Int)) = true := by rw [bne_iff_ne]; omega
    have Hne := Lib.hid (show false = decide (za = zb) by
      symm; rw [decide_eq_false_iff_not]; intro h; exact hl (by rw [h]))
    clear hl
    go_enter Tryd.func24, Tryd.ntmps24
    go_wp2
    go_ret
    exact ⟨ret_bool Hne.out, .refl _⟩

set_option maxHeartbeats 800000 in
theorem requalInts_any (a : Option Addr) (c : Nat) (za : List Int) (b : Option Addr) (d : Nat) (zb : List Int) (w : World) (hn : za.length ≤ 100000) (hz : Ints w a za) (hm : zb.length ≤ 100000) (hzb : Ints w b zb) :
    Calls Tryd.prog 13 #[.slice a za.length c, .slice b zb.length d] w fun e w' => e = .returned (.bool (decide (za = zb))) ∧ Drawn w w' := by
  have Hz := Lib.hid hz
  have Hzb := Lib.hid hzb
  clear hz hzb
  by_cases hl : za.length = zb.length
  · have t0 : ((za.length : Int) != (zb.length : Int)) = false := by simp [hl]
    have Hl := Lib.hid hl
    clear hl
    go_enter Tryd.func13, Tryd.ntmps13
    go_wp2
    go_loopw [5] (fun i wr => ∃ k : Nat, k ≤ za.length ∧ i = .int .i64 k ∧ (∀ j, j < k → za.getD j 0 = zb.getD j 0) ∧ Drawn w wr) (fun i _ => za.length - (intOf i).toNat)
    case atStart => exact ⟨0, Nat.zero_le _, rfl, fun j hj => absurd hj (by omega), .refl _⟩
    case round =>
      obtain ⟨k, hk, rfl, hall, nw, rfl⟩ := hrel
      have Hall := Lib.hid hall
      clear hall
      by_cases hlt : k < za.length
      · obtain ⟨ba, oa, rfl, hca⟩ := Hz.out (by omega)
        obtain ⟨bb, ob, rfl, hcb⟩ := Hzb.out (by rw [← Hl.out]; omega)
        have c1 := hca k hlt
        have c2 := hcb k (by rw [← Hl.out]; omega)
        have l2 : k < zb.length := by rw [← Hl.out]; omega
        obtain ⟨p, hp⟩ : ∃ p, za.getD k 0 = p := ⟨_, rfl⟩
        obtain ⟨q, hq⟩ : ∃ q, zb.getD k 0 = q := ⟨_, rfl⟩
        rw [hp] at c1
        rw [hq] at c2
        have Hp := Lib.hid hp
        have Hq := Lib.hid hq
        clear hca hcb hp hq
        by_cases e : p = q
        · have t1 : (p != q) = false := by simp [e]
          have E := Lib.hid e
          clear e
          go_wp2
          go_quiet (fail)
          go_wp2
          go_roundw
          case rel =>
            refine ⟨k + 1, by omega, by go_num, fun j hj => ?_, ⟨_, rfl⟩⟩
            by_cases e : j = k
            · rw [e, Hp.out, Hq.out]; exact E.out
            · exact Hall.out j (by omega)
          case measure => simp [intOf]; omega
        · have t1 : (p != q) = true := by rw [bne_iff_ne]; first | exact e | omega
          have Hne := Lib.hid (show false = decide (za = zb) by
            symm; rw [decide_eq_false_iff_not]; intro h; exact e (by rw [← Hp.out, ← Hq.out, h]))
          clear e
          go_wp2
          go_quiet (fail)
          go_wp2
          go_ret
          exact ⟨ret_bool Hne.out, by first | exact ⟨_, rfl⟩ | exact ((Drawn.refl _).step _).step _⟩
      · have Heq := Lib.hid (show true = decide (za = zb) by
          symm; rw [decide_eq_true_eq]
          apply List.ext_getElem Hl.out
          intro i h1 h2
          have := Hall.out i (by omega)
          simpa [h1, h2] using this)
        go_wp2
        go_ret
        exact ⟨ret_bool Heq.out, nw, rfl⟩
  · have t0 : ((za.length : Int) != (zb.length : Int)) = true := by rw [bne_iff_ne]; first | exact e | omega
    have Hne := Lib.hid (show false = decide (za = zb) by
      symm; rw [decide_eq_false_iff_not]; intro h; exact hl (by rw [h]))
    clear hl
    go_enter Tryd.func13, Tryd.ntmps13
    go_wp2
    go_ret
    exact ⟨ret_bool Hne.out, .refl _⟩
end Go.Proofs.YtggkhbjhhglbbaaDoor
