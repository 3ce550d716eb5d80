/-
  The definition's Same: are two graphs the same?
-/
import Derived.Test.YthgnbpiemkcdhaaGEq
namespace Go.Proofs.Ythgnbpiemkcdhaa
open Go.RowKit Go.Shelf Go.WideShapes
set_option linter.unusedVariables false

def sameG (M : Int) (ps : List (Int × Int)) (N : Int) (qs : List (Int × Int)) : Bool := decide (M = N ∧ ps = qs)
theorem eqP_all {ps qs : List (Int × Int)} (hl : ps.length = qs.length) (h : ∀ i, i < ps.length → ps.getD i (0, 0) = qs.getD i (0, 0)) : ps = qs := by
  apply List.ext_getElem hl
  intro i h1 h2
  have := h i h1
  simpa [List.getD, h1, h2] using this

set_option maxHeartbeats 1600000 in
theorem same_any (M : Int) (a : Option Addr) (c : Nat) (ps : List (Int × Int)) (N : Int) (b : Option Addr) (d : Nat) (qs : List (Int × Int)) (w : World) (hn : ps.length ≤ maxLen) (hm : qs.length ≤ maxLen) (hp : Pairs w a ps) (hq : Pairs w b qs) :
    Calls Try.prog 18 #[.agg #[.int .i64 M, .slice a ps.length c], .agg #[.int .i64 N, .slice b qs.length d]] w fun e w' => e = .returned (.bool (sameG M ps N qs)) ∧ Below w.heap.size w w' := by
  unfold maxLen at hn hm
  obtain ⟨n, hl⟩ : ∃ n, ps.length = n := ⟨_, rfl⟩
  obtain ⟨m, hl2⟩ : ∃ m, qs.length = m := ⟨_, rfl⟩
  have Hl := Lib.hid hl
  have Hl2 := Lib.hid hl2
  have Hp := Lib.hid hp
  have Hq := Lib.hid hq
  rw [hl] at hn ⊢
  rw [hl2] at hm ⊢
  clear hl hl2 hp hq
  have hbb := ((Below.refl w.heap.size w).alloc (Nat.le_refl _) (Obj.cells #[Value.int .i64 M, Value.slice a n c] 24)).alloc (by simp) (Obj.cells #[Value.int .i64 N, Value.slice b m d] 24)
  have Hbb := Lib.hid hbb
  clear hbb
  by_cases hMN : M = N
  · by_cases hnm : n = m
    · subst hMN hnm
      have x0 : ((w.alloc (Obj.cells #[Value.int .i64 M, Value.slice a n c] 24)).alloc (Obj.cells #[Value.int .i64 M, Value.slice b n d] 24)).cell? ⟨w.heap.size, 1, none⟩ = some (.slice a n c) := by simp [go_sem]
      have x1 : ((w.alloc (Obj.cells #[Value.int .i64 M, Value.slice a n c] 24)).alloc (Obj.cells #[Value.int .i64 M, Value.slice b n d] 24)).cell? ⟨w.heap.size + 1, 1, none⟩ = some (.slice b n d) := by simp [go_sem]
      have hsz : ((w.alloc (Obj.cells #[Value.int .i64 M, Value.slice a n c] 24)).alloc (Obj.cells #[Value.int .i64 M, Value.slice b n d] 24)).heap.size = w.heap.size + 2 := by simp
      have Hsz := Lib.hid hsz
      have HX0 := Lib.hid x0
      have HX1 := Lib.hid x1
      clear x0 x1 hsz
      go_enter Try.func18, Try.ntmps18
      go_wp2
      go_loopw [5] (fun i wr => ∃ k : Nat, k ≤ n ∧ i = .int .i64 k ∧ (∀ i, i < k → ps.getD i (0, 0) = qs.getD i (0, 0)) ∧ Drawn ((w.alloc (Obj.cells #[Value.int .i64 M, Value.slice a n c] 24)).alloc (Obj.cells #[Value.int .i64 M, Value.slice b n d] 24)) wr) (fun i _ => n - (intOf i).toNat)
      case atStart => exact ⟨0, Nat.zero_le _, rfl, fun i hi => by omega, .refl _⟩
      case round =>
        obtain ⟨k, hk, rfl, hal, hdr⟩ := hrel
        have Hal := Lib.hid hal
        have Hdr := Lib.hid hdr
        have hbw := Hbb.out.trans (hdr.below w.heap.size)
        have g0 := ((hdr.below (w.heap.size + 2)).cell (p := ⟨w.heap.size, 1, none⟩) (by show w.heap.size < _; omega)).trans HX0.out
        have g1 := ((hdr.below (w.heap.size + 2)).cell (p := ⟨w.heap.size + 1, 1, none⟩) (by show w.heap.size + 1 < _; omega)).trans HX1.out
        have Hbw := Lib.hid hbw
        clear hal hdr hbw
        by_cases hlt : k < n
        · obtain ⟨b1, o1, rfl, hc1⟩ := (Hp.out.below Hbw.out (Nat.le_refl _)) (by rw [Hl.out]; omega)
          obtain ⟨b2, o2, rfl, hc2⟩ := (Hq.out.below Hbw.out (Nat.le_refl _)) (by rw [Hl2.out]; omega)
          obtain ⟨k1, k2⟩ := hc1 k (by rw [Hl.out]; exact hlt)
          obtain ⟨k3, k4⟩ := hc2 k (by rw [Hl2.out]; exact hlt)
          obtain ⟨⟨x, y⟩, he⟩ : ∃ e, ps.getD k (0, 0) = e := ⟨_, rfl⟩
          obtain ⟨⟨u, v⟩, he'⟩ : ∃ e, qs.getD k (0, 0) = e := ⟨_, rfl⟩
          rw [he] at k1 k2
          rw [he'] at k3 k4
          have He := Lib.hid he
          have He' := Lib.hid he'
          clear hc1 hc2 he he'
          by_cases hxu : x = u
          · by_cases hyv : y = v
            · subst hxu hyv
              have T : Hid (∀ i, i < k + 1 → ps.getD i (0, 0) = qs.getD i (0, 0)) := fun i hi => by
                rcases Nat.lt_or_ge i k with h | h
                · exact Hal.out i h
                · obtain rfl : i = k := by omega
                  rw [He.out, He'.out]
              go_wp2
              go_quiet (fail)
              go_wp2
              go_roundw
              case rel => exact ⟨k + 1, by omega, by go_num, T.out, Hdr.out.step _⟩
              case measure => simp [intOf]; omega
            · have T : Hid (false = sameG M ps M qs) := by
                show _ = _
                unfold sameG
                rw [eq_comm, decide_eq_false]
                rintro ⟨_, rfl⟩
                have := He.out.symm.trans He'.out
                cases this
                exact hyv rfl
              have t0 : (y == v) = false := by rw [beq_eq_false_iff_ne]; exact hyv
              subst hxu
              go_wp2
              go_quiet (fail)
              go_wp2
              go_ret
              exact ⟨ret_bool T.out, Hbb.out.trans ((Hdr.out.step _).below _)⟩
          · have T : Hid (false = sameG M ps M qs) := by
              show _ = _
              unfold sameG
              rw [eq_comm, decide_eq_false]
              rintro ⟨_, rfl⟩
              have := He.out.symm.trans He'.out
              cases this
              exact hxu rfl
            have t0 : (x == u) = false := by rw [beq_eq_false_iff_ne]; exact hxu
            go_wp2
            go_quiet (fail)
            go_wp2
            go_ret
            exact ⟨ret_bool T.out, Hbb.out.trans ((Hdr.out.step _).below _)⟩
        · have T : Hid (true = sameG M ps M qs) := by
            show _ = _
            unfold sameG
            rw [eq_comm, decide_eq_true]
            exact ⟨rfl, eqP_all (by rw [Hl.out, Hl2.out]) (fun i hi => Hal.out i (by rw [Hl.out] at hi; omega))⟩
          go_wp2
          go_ret
          exact ⟨ret_bool T.out, Hbw.out⟩
    · subst hMN
      have T : Hid (false = sameG M ps M qs) := by
        show _ = _
        unfold sameG
        rw [eq_comm, decide_eq_false]
        rintro ⟨_, rfl⟩
        exact hnm (Hl.out.symm.trans Hl2.out)
      have hb2 : ((n : Int) != (m : Int)) = true := by simp; omega
      go_enter Try.func18, Try.ntmps18
      go_wp2
      go_ret
      exact ⟨ret_bool T.out, Hbb.out⟩
  · have T : Hid (false = sameG M ps N qs) := by
      show _ = _
      unfold sameG
      rw [eq_comm, decide_eq_false]
      rintro ⟨h, _⟩
      exact hMN h
    have hb1 : (M != N) = true := by simpa using hMN
    go_enter Try.func18, Try.ntmps18
    go_wp2
    go_ret
    exact ⟨ret_bool T.out, Hbb.out⟩
end Go.Proofs.Ythgnbpiemkcdhaa
