/-
  The definition's Make.
-/
import Derived.Test.YthgnbpiemkcdhaaGSortedW
namespace Go.Proofs.Ythgnbpiemkcdhaa
open Go.RowKit Go.Shelf Go.WideShapes
set_option linter.unusedVariables false

def RMakeEnd (w : World) (n : Int) (ps : List (Int × Int)) (er : Int) (e : Ending) (w' : World) : Prop :=
  Below w.heap.size w w' ∧ ((er ≠ 0 ∧ e = .returned (.tuple #[.agg #[.int .i64 0, .slice none 0 0], .int .i64 er])) ∨
    (er = 0 ∧ ∃ qs a' c', Canon ps qs ∧ qs.length ≤ ps.length ∧ Pairs w' a' qs ∧ e = .returned (.tuple #[.agg #[.int .i64 n, .slice a' qs.length c'], .int .i64 0])))

theorem OwnP.kept {w w' : World} {base g : Nat} {v : Value} {ps : List (Int × Int)} (h : OwnP w base v ps) (hg : w.grownBy w' (some g)) (hlt : g < base) : OwnP w' base v ps :=
  World.ownsRow.kept h hg (.inr fun e => by have := (World.ownsRow.lt h _ e).1; omega)

set_option maxHeartbeats 3200000 in
theorem rmake_any (n : Int) (a : Option Addr) (m c : Nat) (ps : List (Int × Int)) (hl : ps.length = m) (w : World) (hn : m ≤ 32768) (hE : Edg w a c ps) :
    Calls Try.prog 22 #[.int .i64 n, .slice a m c] w (RMakeEnd w n ps (makeE n ps)) := by
  have hb0 := Lib.hid ((Below.refl w.heap.size w).alloc (Nat.le_refl _) (Obj.cells #[Value.int .i64 0, Value.slice none 0 0] 24))
  obtain ⟨er, her⟩ : ∃ er, makeE n ps = er := ⟨_, rfl⟩
  rw [her]
  have Her := Lib.hid her
  have Hl := Lib.hid hl
  by_cases c1 : n < 0
  · obtain rfl : er = 4 := by rw [← her]; unfold makeE; rw [if_pos c1]
    clear hl her
    go_enter Try.func22, Try.ntmps22
    go_wp2
    refine bodyPost_ret (v := .tuple #[.agg #[.int .i64 0, .slice none 0 0], .int .i64 4]) (by simp [results, Try.results22, go_sem]) rfl ?_
    exact ⟨hb0.out, .inl ⟨by decide, rfl⟩⟩
  by_cases c2 : 8192 < n
  · obtain rfl : er = 3 := by rw [← her]; unfold makeE; rw [if_neg c1, if_pos c2]
    clear hl her
    go_enter Try.func22, Try.ntmps22
    go_wp2
    refine bodyPost_ret (v := .tuple #[.agg #[.int .i64 0, .slice none 0 0], .int .i64 3]) (by simp [results, Try.results22, go_sem]) rfl ?_
    exact ⟨hb0.out, .inl ⟨by decide, rfl⟩⟩
  have hmk : makeE n ps = if inN n ps = false then 4 else 0 := by unfold makeE; rw [if_neg c1, if_neg c2]
  have Hmk := Lib.hid hmk
  have HE := Lib.hid hE
  have Hp := Lib.hid hE.pairs
  have Hnil := Lib.hid hE.nil
  clear hl her hmk hE
  have Hq0 := Lib.hid (QC.new w (.int .i64 0) (.slice none 0 0) 24)
  go_enter Try.func22, Try.ntmps22
  go_wp2
  go_loopw [6] (fun i wr => ∃ k : Nat, k ≤ m ∧ i = .int .i64 k ∧ (∀ i, i < k → isNd n (ps.getD i (0, 0)).1 = true ∧ isNd n (ps.getD i (0, 0)).2 = true) ∧ Below (w.heap.size + 1) (w.alloc (Obj.cells #[Value.int .i64 0, Value.slice none 0 0] 24)) wr) (fun i _ => m - (intOf i).toNat)
  case atStart => exact ⟨0, Nat.zero_le _, rfl, fun i hi => by omega, Below.refl _ _⟩
  case round =>
    obtain ⟨k, hk, rfl, hin, hb⟩ := hrel
    have Hin := Lib.hid hin
    have hq := Hq0.out.below hb (Nat.lt_succ_self _)
    have Hq := Lib.hid hq
    have hsz : w.heap.size + 1 ≤ wr.heap.size := by have := hb.size; simpa using this
    have Hb := Lib.hid hb
    have Hbw := Lib.hid (hb0.out.trans (hb.mono (Nat.le_succ _)))
    clear hin hb
    by_cases hlt : k < m
    · obtain ⟨b, off, rfl, hcell⟩ := (Hp.out.below Hbw.out (Nat.le_refl _)) (by rw [Hl.out]; omega)
      obtain ⟨hcx, hcy⟩ := hcell k (by rw [Hl.out]; exact hlt)
      obtain ⟨⟨x, y⟩, he⟩ : ∃ e, ps.getD k (0, 0) = e := ⟨_, rfl⟩
      rw [he] at hcx hcy
      have He := Lib.hid he
      have g0 := hq.c0
      have g1 := hq.c1
      have g2 := hq.f0
      have g3 := hq.f1
      clear he hcell hq
      by_cases d1 : isNd n x = true
      · obtain ⟨x0, x1⟩ := isNd_iff.1 d1
        by_cases d2 : isNd n y = true
        · obtain ⟨y0, y1⟩ := isNd_iff.1 d2
          go_wp2
          go_roundw
          case rel => exact ⟨k + 1, by omega, by go_num, fun i hi => by
            by_cases e : i = k
            · subst e; rw [He.out]; exact ⟨d1, d2⟩
            · exact Hin.out i (by omega), Hb.out⟩
          case measure => simp [intOf]; omega
        · simp only [Bool.not_eq_true] at d2
          have t := Lib.hid (inN_bad (n := n) (i := k) (by rw [Hl.out]; exact hlt) (.inr (by rw [He.out]; exact d2)))
          obtain rfl : er = 4 := by rw [← Her.out, Hmk.out, if_pos t.out]
          have dd := isNd_not.1 d2
          rcases (show y < 0 ∨ (0 ≤ y ∧ n ≤ y) from by omega) with y1 | ⟨y0, y1⟩
          all_goals
            clear dd
            go_wp2
            have hqf := Hq.out.set (.int .i64 0) (.slice none 0 0)
            have i0 := hqf.c0
            have i1 := hqf.c1
            refine bodyPost_ret (v := .tuple #[.agg #[.int .i64 0, .slice none 0 0], .int .i64 4]) (by simp [results, Try.results22, go_sem, i0, i1]) rfl ?_
            exact ⟨below_set2 Hbw.out (Nat.le_refl _) _ _, .inl ⟨by decide, rfl⟩⟩
      · simp only [Bool.not_eq_true] at d1
        have t := Lib.hid (inN_bad (n := n) (i := k) (by rw [Hl.out]; exact hlt) (.inl (by rw [He.out]; exact d1)))
        obtain rfl : er = 4 := by rw [← Her.out, Hmk.out, if_pos t.out]
        have dd := isNd_not.1 d1
        rcases (show x < 0 ∨ (0 ≤ x ∧ n ≤ x) from by omega) with x1 | ⟨x0, x1⟩
        all_goals
          clear dd
          go_wp2
          have hqf := Hq.out.set (.int .i64 0) (.slice none 0 0)
          have i0 := hqf.c0
          have i1 := hqf.c1
          refine bodyPost_ret (v := .tuple #[.agg #[.int .i64 0, .slice none 0 0], .int .i64 4]) (by simp [results, Try.results22, go_sem, i0, i1]) rfl ?_
          exact ⟨below_set2 Hbw.out (Nat.le_refl _) _ _, .inl ⟨by decide, rfl⟩⟩
    · obtain rfl : k = m := by omega
      have hinN : inN n ps = true := inN_iff.2 (by rw [Hl.out]; exact Hin.out)
      obtain rfl : er = 0 := by rw [← Her.out, Hmk.out, if_neg (by rw [hinN]; decide)]
      have hsrt := sorted_any k a k c ps wr Hl.out (Nat.le_refl _) (by omega) (HE.out.below Hbw.out (Nat.le_refl _))
      have Hsrt := Lib.hid hsrt
      clear hsrt hq hinN
      go_wp2_with fail
      refine Hsrt.out.mono ?_
      rintro e w2 ⟨v2, qs, rfl, ho2, hle, hcan, hb2⟩
      have Ho2 := Lib.hid ho2
      obtain ⟨a2, k2, rfl, _⟩ := ho2.shape
      have hqc := Hq.out.below hb2 (by omega)
      have e0 := hqc.c0
      have e1 := hqc.c1
      have e2 := hqc.f0
      have e3 := hqc.f1
      have hq32 : ¬ 32768 < qs.length := by have := Hl.out; omega
      have hqf := Lib.hid (hqc.set (.int .i64 n) (.slice a2 qs.length k2))
      have hbf := Lib.hid (below_set2 (B := w.heap.size) (Hbw.out.trans (hb2.mono (by omega))) (Nat.le_refl _) (.int .i64 n) (.slice a2 qs.length k2))
      have Hpf := Lib.hid (OwnP.kept Ho2.out (grown_trans (grown_setCell w2 w.heap.size 0 (.int .i64 n)) (grown_setCell _ w.heap.size 1 (.slice a2 qs.length k2))) (by omega)).shape
      obtain ⟨a3, k3, e3, hp3⟩ := Hpf.out
      cases e3
      have Hp3 := Lib.hid hp3
      have Hcan := Lib.hid hcan
      have Hle := Lib.hid hle
      clear hqc hb2 ho2 hcan hle hp3
      go_wp2
      have i0 := hqf.out.c0
      have i1 := hqf.out.c1
      refine bodyPost_ret (v := .tuple #[.agg #[.int .i64 n, .slice a2 qs.length k2], .int .i64 0]) (by simp [results, Try.results22, go_sem, i0, i1]) rfl ?_
      exact ⟨hbf.out, .inr ⟨rfl, qs, a2, k2, Hcan.out, Hle.out, Hp3.out, rfl⟩⟩
end Go.Proofs.Ythgnbpiemkcdhaa
