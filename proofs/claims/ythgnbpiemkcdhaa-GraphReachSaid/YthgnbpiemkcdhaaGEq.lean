/-
  The definition's Equal and Same; Reverse at a graph that is not valid.
-/
import Derived.Test.YthgnbpiemkcdhaaGTurn
namespace Go.Proofs.Ythgnbpiemkcdhaa
open Go.RowKit Go.Shelf Go.WideShapes
set_option linter.unusedVariables false

def eqL (xs ys : List Int) : Bool := decide (xs = ys)
theorem eqL_self (xs : List Int) : eqL xs xs = true := by simp [eqL]
theorem eqL_iff {xs ys : List Int} : eqL xs ys = true ↔ xs = ys := by simp [eqL]
theorem eqL_len {xs ys : List Int} (h : ¬ xs.length = ys.length) : eqL xs ys = false := by
  unfold eqL; rw [decide_eq_false]; intro e; exact h (by rw [e])
theorem eqL_at {xs ys : List Int} {k : Nat} (h : ¬ xs.getD k 0 = ys.getD k 0) : eqL xs ys = false := by
  unfold eqL; rw [decide_eq_false]; intro e; exact h (by rw [e])
theorem eqL_all {xs ys : List Int} (hl : xs.length = ys.length) (h : ∀ i, i < xs.length → xs.getD i 0 = ys.getD i 0) : eqL xs ys = true := by
  unfold eqL; rw [decide_eq_true]
  apply List.ext_getElem hl
  intro i h1 h2
  have := h i h1
  simpa [List.getD, h1, h2] using this

set_option maxHeartbeats 400000 in
theorem equal_any (a : Option Addr) (c : Nat) (xs : List Int) (b : Option Addr) (d : Nat) (ys : List Int) (w : World) (hn : xs.length ≤ maxLen) (hm : ys.length ≤ maxLen) (hx : Ints w a xs) (hy : Ints w b ys) :
    Calls Try.prog 13 #[.slice a xs.length c, .slice b ys.length d] w fun e w' => e = .returned (.bool (eqL xs ys)) ∧ Drawn w w' := by
  unfold maxLen at hn hm
  by_cases hl : xs.length = ys.length
  · go_enter Try.func13, Try.ntmps13
    have Hl := Lib.hid hl
    have hb : ((xs.length : Int) != (ys.length : Int)) = false := by simp; omega
    rw [← hl]
    rw [← hl] at hb hm
    clear hl
    have Hx := Lib.hid hx
    have Hy := Lib.hid hy
    clear hx hy
    go_wp2
    go_loopw [5] (fun i wr => ∃ k : Nat, k ≤ xs.length ∧ i = .int .i64 k ∧ (∀ i, i < k → xs.getD i 0 = ys.getD i 0) ∧ Drawn w wr) (fun i _ => xs.length - (intOf i).toNat)
    case atStart => exact ⟨0, Nat.zero_le _, rfl, fun i hi => by omega, .refl _⟩
    case round =>
      obtain ⟨k, hk, rfl, hal, nw, rfl⟩ := hrel
      have Hal := Lib.hid hal
      clear hal
      by_cases hlt : k < xs.length
      · obtain ⟨b1, o1, rfl, hc1⟩ := Hx.out (by omega)
        obtain ⟨b2, o2, rfl, hc2⟩ := Hy.out (by rw [← Hl.out]; omega)
        have k1 := hc1 k hlt
        have k2 := hc2 k (by rw [← Hl.out]; exact hlt)
        obtain ⟨p, hp⟩ : ∃ p, xs.getD k 0 = p := ⟨_, rfl⟩
        obtain ⟨q, hq⟩ : ∃ q, ys.getD k 0 = q := ⟨_, rfl⟩
        rw [hp] at k1
        rw [hq] at k2
        have Hp := Lib.hid hp
        have Hq := Lib.hid hq
        clear hc1 hc2 hp hq
        by_cases e : p = q
        · have T := Lib.hid (show ∀ i, i < k + 1 → xs.getD i 0 = ys.getD i 0 from fun i hi => by
            rcases Nat.lt_or_ge i k with h | h
            · exact Hal.out i h
            · obtain rfl : i = k := by omega
              rw [Hp.out, Hq.out, e])
          subst e
          go_wp2
          go_quiet (fail)
          go_wp2
          go_roundw
          case rel => exact ⟨k + 1, by omega, by go_num, T.out, _, rfl⟩
          case measure => simp [intOf]; omega
        · have T := Lib.hid (eqL_at (xs := xs) (ys := ys) (k := k) (by rw [Hp.out, Hq.out]; exact e))
          have hb2 : (p != q) = true := by simpa using e
          go_wp2
          go_quiet (fail)
          go_wp2
          go_ret
          exact ⟨ret_bool T.out.symm, ((Drawn.refl _).step _).step _⟩
      · have T := Lib.hid (eqL_all Hl.out (fun i hi => Hal.out i (by omega)))
        go_wp2
        go_ret
        exact ⟨ret_bool T.out.symm, nw, rfl⟩
  · have T := Lib.hid (eqL_len hl)
    have hb : ((xs.length : Int) != (ys.length : Int)) = true := by simp; omega
    go_enter Try.func13, Try.ntmps13
    go_wp2
    go_ret
    exact ⟨ret_bool T.out.symm, .refl _⟩

theorem equal_at (a : Option Addr) (n c : Nat) (xs : List Int) (hn' : xs.length = n) (b : Option Addr) (m d : Nat) (ys : List Int) (hm' : ys.length = m) (r : Bool) (hr : eqL xs ys = r) (w : World) (hn : n ≤ maxLen) (hm : m ≤ maxLen) (hx : Ints w a xs) (hy : Ints w b ys) :
    Calls Try.prog 13 #[.slice a n c, .slice b m d] w fun e w' => e = .returned (.bool r) ∧ Drawn w w' := by
  subst hn' hm' hr
  exact equal_any a c xs b d ys w hn hm hx hy

def sameZ (rs zs rs2 zs2 : List Int) : Bool := eqL rs rs2 && eqL zs zs2
theorem Ints.drawn {w w' : World} {a : Option Addr} {zs : List Int} (h : Ints w a zs) (hd : Drawn w w') : Ints w' a zs := h.below (hd.below w.heap.size) (Nat.le_refl _)


set_option maxHeartbeats 1000000 in
theorem turn_bad (N : Int) (a : Option Addr) (c : Nat) (ps : List (Int × Int)) (w : World) (hn : ps.length ≤ maxLen) (hE : Pairs w a ps) (hok : gchk N ps ≠ 0) :
    Calls Try.prog 19 #[.agg #[.int .i64 N, .slice a ps.length c]] w fun e w' => e = .returned (.agg #[.int .i64 0, .slice none 0 0]) ∧ Below w.heap.size w w' := by
  obtain ⟨n, hl⟩ : ∃ n, ps.length = n := ⟨_, rfl⟩
  obtain ⟨k, hk⟩ : ∃ k, gchk N ps = k := ⟨_, rfl⟩
  have hb0 := ((Below.refl w.heap.size w).alloc (Nat.le_refl _) (Obj.cells #[Value.int .i64 N, Value.slice a n c] 24)).alloc (by simp) (Obj.cells #[Value.int .i64 0, Value.slice none 0 0] 24)
  have hck : Calls Try.prog 11 #[.agg #[.int .i64 N, .slice a n c]] ((w.alloc (Obj.cells #[Value.int .i64 N, Value.slice a n c] 24)).alloc (Obj.cells #[Value.int .i64 0, Value.slice none 0 0] 24)) fun e w' => e = .returned (.int .i64 k) ∧ Below (w.heap.size + 1 + 1) ((w.alloc (Obj.cells #[Value.int .i64 N, Value.slice a n c] 24)).alloc (Obj.cells #[Value.int .i64 0, Value.slice none 0 0] 24)) w' := by
    have := check_any N a c ps ((w.alloc (Obj.cells #[Value.int .i64 N, Value.slice a n c] 24)).alloc (Obj.cells #[Value.int .i64 0, Value.slice none 0 0] 24)) hn (hE.below hb0 (Nat.le_refl _))
    rw [hk, hl, World.size_alloc, World.size_alloc] at this
    exact this
  have hq0 := QC.new (w.alloc (Obj.cells #[Value.int .i64 N, Value.slice a n c] 24)) (.int .i64 0) (.slice none 0 0) 24
  rw [World.size_alloc] at hq0
  have Hq0 := Lib.hid hq0
  have Hb0 := Lib.hid hb0
  have Hck := Lib.hid hck
  rw [hk] at hok
  rw [hl]
  clear hck hb0 hE hl hk hn hq0
  go_enter Try.func19, Try.ntmps19
  go_wp2_with fail
  refine Hck.out.mono ?_
  rintro e w1 ⟨rfl, hb1⟩
  have hq1 := Hq0.out.below hb1 (by omega)
  have d0 := hq1.c0
  have d1 := hq1.c1
  have d2 := hq1.f0
  have d3 := hq1.f1
  have hqf := hq1.set (.int .i64 0) (.slice none 0 0)
  have i0 := hqf.c0
  have i1 := hqf.c1
  have Hbf := Lib.hid (below_set2 (D := w.heap.size) (B := w.heap.size + 1) (Hb0.out.trans (hb1.mono (by omega))) (by omega) (.int .i64 0) (.slice none 0 0))
  clear hb1 hq1 hqf
  go_wp2
  refine bodyPost_ret (v := .agg #[.int .i64 0, .slice none 0 0]) (by simp [results, Try.results19, go_sem, i0, i1]) rfl ?_
  exact ⟨rfl, Hbf.out⟩
end Go.Proofs.Ythgnbpiemkcdhaa
