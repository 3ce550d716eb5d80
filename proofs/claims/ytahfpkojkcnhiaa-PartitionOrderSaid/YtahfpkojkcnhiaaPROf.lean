/-
  The definition's New and Of.
-/
import Derived.Test.YtahfpkojkcnhiaaPJoin
import Derived.StillTailTactics
import Derived.Deep.RegionWith
namespace Go.Proofs.Ytahfpkojkcnhiaa
open Go.RowKit
set_option linter.unusedVariables false

theorem iota_succ (k : Nat) : iota (k + 1) = iota k ++ [(k : Int)] := by
  simp [iota, List.range_succ]

set_option maxHeartbeats 400000 in
theorem rnew_bad (n : Int) (w : World) (h : n < 0 ∨ 8192 < n) :
    Calls Try.prog 22 #[.int .i64 n] w fun e w' => e = .returned (.tuple #[.slice none 0 0, .int .i64 4]) ∧ w = w' := by
  rcases h with h | h
  all_goals
    go_enter Try.func22, Try.ntmps22
    go_wp2
    go_ret2
    exact ⟨rfl, rfl⟩

set_option maxHeartbeats 400000 in
theorem rnew_good (n : Nat) (w : World) (h : n ≤ 8192) :
    Calls Try.prog 22 #[.int .i64 n] w fun e w' => ∃ v, e = .returned (.tuple #[v, .int .i64 0]) ∧
      Own w' w.heap.size v (iota n) ∧ Below w.heap.size w w' := by
  go_enter Try.func22, Try.ntmps22
  go_wp2
  go_loopw [4, 5] (fun v i wr => ∃ k : Nat, k ≤ n ∧ i = .int .i64 k ∧ Own wr w.heap.size v (iota k) ∧ Below w.heap.size w wr) (fun _ i _ => n - (intOf i).toNat)
  case atStart => exact ⟨0, Nat.zero_le _, rfl, Own.nil _ _, Below.refl _ _⟩
  case round =>
    obtain ⟨k, hk, rfl, hown, hb⟩ := hrel
    have Hown := Lib.hid hown
    have Hb := Lib.hid hb
    have Hlen := Lib.hid (length_iota k)
    clear hown hb
    by_cases hlt : k < n
    · go_wp2_with (at_builtin; refine wpList_append_int rfl _ _ rfl w.heap.size _ _ rfl (Hown.out.alloc _) wr.heap.size k rfl ?_ ?_ ?_ ?_)
      · simp [go_sem]
      · rw [Hlen.out]; omega
      · have := Hb.out.size; simp; omega
      intro v' w1 hown' hgrow
      have Ha := Lib.hid hown'
      have Hb1 := Lib.hid (Hown.out.grown hgrow Hb.out Hb.out.size)
      clear hown' hgrow
      go_wp2
      go_roundw
      case rel => exact ⟨k + 1, by omega, by go_num, by rw [iota_succ]; exact Ha.out, Hb1.out⟩
      case measure => simp [intOf]; omega
    · obtain rfl : n = k := by omega
      go_wp2
      go_ret2
      exact ⟨_, rfl, Hown.out, Hb.out⟩

set_option maxHeartbeats 400000 in
theorem rof_bad (n : Int) (a : Option Addr) (m c : Nat) (w : World) (h : n < 0 ∨ 8192 < n) :
    Calls Try.prog 20 #[.int .i64 n, .slice a m c] w fun e w' => e = .returned (.tuple #[.slice none 0 0, .int .i64 4]) ∧ w = w' := by
  go_enter Try.func20, Try.ntmps20
  go_wp2_with (go_at_call 22; refine (rnew_bad _ _ h).mono ?_; rintro e w' ⟨rfl, rfl⟩)
  go_ret2
  exact ⟨rfl, rfl⟩

/-- Joining two members that are together already changes nothing. -/
theorem joinL_same (q : List Int) (x y : Nat) (h : q.getD x 0 = q.getD y 0) : joinL q x y = q := by
  unfold joinL
  rw [h, Int.max_self, Int.min_self]
  conv => rhs; rw [← List.map_id q]
  apply List.map_congr_left
  intro z _
  split
  · rename_i e; exact e.symm
  · rfl

theorem inB_at {n : Nat} {ps : List (Int × Int)} (h : inB n ps = true) {k : Nat} (hk : k < ps.length) : isB n (ps.getD k (0, 0)).1 = true ∧ isB n (ps.getD k (0, 0)).2 = true := by
  unfold inB at h
  rw [List.all_eq_true] at h
  have := h ps[k] (List.getElem_mem hk)
  simpa [hk] using this

/-- A region that draws its order, whose first n operations only read and whose tail is forced, walked in the order of the text. -/
theorem wp_region_tail {P : Program} {id : Nat} {Q : Exit → Act → World → Prop} {a : Act} {w : World} {l : List Oper} (n : Nat) (hm : P.follows .mixedOrders = true) (hB : Region.lexTailB .any l.toArray n = true)
    (h : wpStill P l.toArray w.drew (fun a' => wpList P l.toArray Q (l.drop n) a' w.drew) (l.take n) a) : (Code.region id l.toArray true).wp P Q a w :=
  wp_region_still_tail n hm hB h

theorem rjoin_at (n : Nat) (a : Option Addr) (c : Nat) (zs : List Int) (x y : Int) (w : World) (hl : zs.length = n) (hn : n ≤ 8192) (hz : Ints w a zs) (hx : isB n x = true) (hy : isB n y = true) :
    Calls Try.prog 26 #[.slice a n c, .int .i64 x, .int .i64 y] w fun e w' => ∃ v, e = .returned v ∧
      Own w' w.heap.size v (joinL zs x.toNat y.toNat) ∧ Below w.heap.size w w' := by
  subst hl
  exact rjoin_any a c zs x y w hn hz hx hy

set_option maxHeartbeats 1600000 in
theorem rof_good (n : Nat) (a : Option Addr) (c : Nat) (ps : List (Int × Int)) (w : World) (hn : n ≤ 8192) (hps : ps.length ≤ maxLen) (hp : PairsIn w.heap.size w a ps) :
    Calls Try.prog 20 #[.int .i64 n, .slice a ps.length c] w fun e w' => Below w.heap.size w w' ∧
      ((inB n ps = true ∧ ∃ v, e = .returned (.tuple #[v, .int .i64 0]) ∧ Own w' w.heap.size v (joinAll (iota n) ps)) ∨
       (inB n ps = false ∧ e = .returned (.tuple #[.slice none 0 0, .int .i64 4]))) := by
  unfold maxLen at hps
  go_enter Try.func20, Try.ntmps20
  go_wp2_with fail
  refine (rnew_good n w hn).mono ?_
  rintro e w1 ⟨v0, rfl, ho1, hb1⟩
  obtain ⟨a1, c1, hv, hi1⟩ := ho1.shape
  rw [length_iota] at hv
  subst hv
  have Ho1 := Lib.hid ho1
  have Hb1 := Lib.hid hb1
  clear ho1 hb1 hi1
  go_wp2
  go_loopw [8] (fun i wr => ∃ (k : Nat), k ≤ ps.length ∧ i = .int .i64 k ∧ inB n (ps.take k) = true ∧ Drawn w1 wr) (fun i _ => ps.length - (intOf i).toNat)
  case atStart => exact ⟨0, Nat.zero_le _, rfl, rfl, .refl _⟩
  case round =>
    obtain ⟨k, hk, rfl, hin, nw, rfl⟩ := hrel
    have Hin := Lib.hid hin
    clear hin
    by_cases hlt : k < ps.length
    · obtain ⟨b, off, rfl, hbB, hc⟩ := hp (by omega)
      have hit := Lib.hid (inB_take n ps k hlt)
      have e1 := (Hb1.out.cell (p := ⟨b, off + k * 2, none⟩) hbB).trans (hc k hlt).1
      have e2 := (Hb1.out.cell (p := ⟨b, off + k * 2 + 1, none⟩) hbB).trans (hc k hlt).2
      clear hc
      generalize (ps.getD k (0, 0)).1 = x at *
      generalize (ps.getD k (0, 0)).2 = y at *
      by_cases hx : isB n x = true
      · obtain ⟨hx1, hx2⟩ := isB_iff.1 hx
        by_cases hy : isB n y = true
        · obtain ⟨hy1, hy2⟩ := isB_iff.1 hy
          have hin' := Lib.hid (show inB n (ps.take (k + 1)) = true by rw [hit.out, Hin.out, hx, hy]; rfl)
          clear hx hy
          go_wp2
          go_roundw
          case rel => exact ⟨k + 1, by omega, by go_num, hin'.out, nw, rfl⟩
          case measure => simp [intOf]; omega
        · simp only [Bool.not_eq_true] at hy
          have hin' := Lib.hid (inB_le n ps (k + 1) (by rw [hit.out, hy]; simp))
          have hy' := isB_not.1 hy
          clear hx hy
          rcases (show (y < 0) ∨ (0 ≤ y ∧ (n : Int) ≤ y) from by omega) with hy1 | ⟨hy0, hy1⟩
          all_goals
            clear hy'
            go_wp2
            go_ret2
            exact ⟨Hb1.out.trans (Drawn.below ⟨nw, rfl⟩ _), .inr ⟨hin'.out, rfl⟩⟩
      · simp only [Bool.not_eq_true] at hx
        have hin' := Lib.hid (inB_le n ps (k + 1) (by rw [hit.out, hx]; simp))
        have hx' := isB_not.1 hx
        clear hx
        rcases (show (x < 0) ∨ (0 ≤ x ∧ (n : Int) ≤ x) from by omega) with hx1 | ⟨hx0, hx1⟩
        all_goals
          clear hx'
          go_wp2
          go_ret2
          exact ⟨Hb1.out.trans (Drawn.below ⟨nw, rfl⟩ _), .inr ⟨hin'.out, rfl⟩⟩
    · have e : ps.take k = ps := List.take_of_length_le (by omega)
      have Hin2 := Lib.hid (show inB n ps = true by rw [← e]; exact Hin.out)
      clear e Hin
      go_wp2
      go_loopw [6, 9] (fun v i wr => ∃ (k : Nat) (q : List Int), k ≤ ps.length ∧ i = .int .i64 k ∧ q.length = n ∧ q = joinAll (iota n) (ps.take k) ∧ Own wr w.heap.size v q ∧ Below w.heap.size w wr) (fun _ i _ => ps.length - (intOf i).toNat)
      case atStart => exact ⟨0, iota n, Nat.zero_le _, rfl, length_iota n, rfl, Ho1.out.drewN nw, Hb1.out.trans (Drawn.below ⟨nw, rfl⟩ _)⟩
      case round =>
        obtain ⟨k, q, hk, rfl, hql, hq, hown, hb⟩ := hrel
        obtain ⟨aq, cq, hv, hiq⟩ := hown.shape
        rw [hql] at hv
        subst hv
        have Hq := Lib.hid hq
        have Hql := Lib.hid hql
        have Hown := Lib.hid hown
        have Hiq := Lib.hid hiq
        have Hb := Lib.hid hb
        clear hq hql hown hiq
        by_cases hlt : k < ps.length
        · obtain ⟨b, off, rfl, hbB, hc⟩ := hp (by omega)
          have e1 := (hb.cell (p := ⟨b, off + k * 2, none⟩) hbB).trans (hc k hlt).1
          have e2 := (hb.cell (p := ⟨b, off + k * 2 + 1, none⟩) hbB).trans (hc k hlt).2
          have hjt := Lib.hid (joinAll_take (iota n) ps k hlt)
          have hbb := Lib.hid (inB_at Hin2.out hlt)
          clear hc hb
          generalize (ps.getD k (0, 0)).1 = x at *
          generalize (ps.getD k (0, 0)).2 = y at *
          obtain ⟨hx1, hx2⟩ := isB_iff.1 hbb.out.1
          obtain ⟨hy1, hy2⟩ := isB_iff.1 hbb.out.2
          obtain ⟨bq, oq, rfl, hcq⟩ := Hiq.out (by rw [Hql.out]; omega)
          have g1 := hcq x.toNat (by rw [Hql.out]; omega)
          have g2 := hcq y.toNat (by rw [Hql.out]; omega)
          clear hcq
          obtain ⟨r, hr⟩ : ∃ r, q.getD x.toNat 0 = r := ⟨_, rfl⟩
          obtain ⟨t, ht⟩ : ∃ t, q.getD y.toNat 0 = t := ⟨_, rfl⟩
          rw [hr] at g1
          rw [ht] at g2
          have Hr := Lib.hid hr
          have Ht := Lib.hid ht
          clear hr ht
          by_cases ert : r = t
          · have t0 : (r != t) = false := by simp [ert]
            have Hs := Lib.hid (show q = joinAll (iota n) (ps.take (k + 1)) by rw [hjt.out, ← Hq.out]; exact (joinL_same _ _ _ (by rw [Hr.out, Ht.out, ert])).symm)
            clear ert
            go_wp2
            go_quiet (fail)
            go_wp2
            go_roundw
            case rel => exact ⟨k + 1, q, by omega, by go_num, Hql.out, Hs.out, Hown.out.drewN _, Hb.out.trans (Drawn.below ⟨_, rfl⟩ _)⟩
            case measure => simp [intOf]; omega
          · have t0 : (r != t) = true := by simp [ert]
            clear ert
            go_wp2
            go_quiet (fail)
            go_wp2
            refine wp_region_tail 11 (by kernel_rfl) (by kernel_rfl) ?_
            simp only [List.take_succ_cons, List.take_zero, List.drop_succ_cons, List.drop_zero, World.drew_drewN]
            repeat still_step
            refine wpStill_nil ?_
            go_wp2_with fail
            refine (rjoin_at n _ cq q x y _ Hql.out hn (Hiq.out.drewN _) hbb.out.1 hbb.out.2).mono ?_
            rintro e w2 ⟨v, rfl, ho2, hb2⟩
            have Hs := Lib.hid (show joinL q x.toNat y.toNat = joinAll (iota n) (ps.take (k + 1)) by rw [hjt.out, ← Hq.out])
            have Ho2 := Lib.hid (ho2.mono (b := w.heap.size) (by simp; exact Hb.out.size))
            have Hb2 := Lib.hid (Hb.out.trans ((Drawn.below ⟨_, rfl⟩ _).trans (hb2.mono (by simp; exact Hb.out.size))) : Below w.heap.size w w2)
            have Hl2 := Lib.hid ((length_joinL q x.toNat y.toNat).trans Hql.out)
            clear ho2 hb2
            go_wp2
            go_roundw
            case rel => exact ⟨k + 1, _, by omega, by go_num, Hl2.out, Hs.out, Ho2.out, Hb2.out⟩
            case measure => simp [intOf]; omega
        · have e : ps.take k = ps := List.take_of_length_le (by omega)
          have Hf := Lib.hid (show Own wr w.heap.size (.slice aq n cq) (joinAll (iota n) ps) by rw [← e, ← Hq.out]; exact Hown.out)
          clear e hb
          go_wp2
          go_ret2
          exact ⟨Hb.out, .inl ⟨Hin2.out, _, rfl, Hf.out⟩⟩
end Go.Proofs.Ytahfpkojkcnhiaa
