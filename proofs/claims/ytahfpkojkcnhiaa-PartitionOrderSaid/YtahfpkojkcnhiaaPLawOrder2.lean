/-
  PartitionOrder: the walk itself.
-/
import Derived.Test.YtahfpkojkcnhiaaPLawOrder
import Derived.OpenShut
import Derived.Deep.RegionWith
namespace Go.Proofs.Ytahfpkojkcnhiaa
open Go.RowKit
set_option linter.unusedVariables false

theorem pairs_carry {w w' : World} {a : Option Addr} {ps : List (Int × Int)} (h : PairsIn w.heap.size w a ps) (hb : Below w.heap.size w w') : PairsIn w'.heap.size w' a ps := h.below hb (Nat.le_refl _) hb.size

theorem grown_undrew {w w' : World} {row : Option Nat} (h : w.drew.grownBy w' row) : w.grownBy w' row := ⟨h.os, h.tape, h.output, h.size, h.block⟩
theorem pJoin_at (n : Nat) (a : Option Addr) (c : Nat) (zs : List Int) (x y : Int) (w : World) (hl : zs.length = n) (hn : zs.length ≤ maxLen) (hz : Ints w a zs) :
    Calls Try.prog 15 #[.slice a n c, .int .i64 x, .int .i64 y] w fun e w' => ∃ v, e = .returned (.tuple #[v, .int .i64 (joinS zs x y).2]) ∧
      Own w' w.heap.size v (joinS zs x y).1 ∧ Below w.heap.size w w' := by
  subst hl
  exact pJoin_any a c zs x y w hn hz
theorem newS_nat (n : Nat) (h : n ≤ 8192) : newS (n : Int) = (iota n, 0) := newS_good n h

set_option maxHeartbeats 3200000 in
theorem order_any (x : Int) (a : Option Addr) (c : Nat) (ps : List (Int × Int)) (w : World) (hwf : (Lit.int .u8 x).wf = true) (hps : ps.length ≤ maxLen) (hp : PairsIn w.heap.size w a ps) :
    Calls Try.prog 6 #[.int .u8 x, .slice a ps.length c] w fun e w' => e = .returned (.bool true) ∧ Below w.heap.size w w' := by
  have hps' := hps
  unfold maxLen at hps'
  have hx := Go.bounds_u8 hwf
  obtain ⟨n, rfl⟩ : ∃ n : Nat, x = n := ⟨x.toNat, by omega⟩
  have hn : n ≤ 255 := by omega
  clear hwf hx
  have Hp := Lib.hid hp
  clear hp
  by_cases hbig : 60 < ps.length
  · go_enter Try.func6, Try.ntmps6
    go_wp2_with (go_at_call 11; refine (awake_any _).mono ?_; rintro e w' ⟨rfl, hb⟩)
    go_ret
    exact ⟨rfl, hb⟩
  · have Hback := Lib.hid (ofS_back n ps (by omega))
    obtain ⟨pe, hpe⟩ : ∃ pe, ofS n ps = pe := ⟨_, rfl⟩
    have Hpe := Lib.hid hpe
    have Hlen := Lib.hid (show pe.1.length ≤ maxLen by rw [← hpe]; have := length_ofS n ps; unfold maxLen; omega)
    clear hpe
    go_enter Try.func6, Try.ntmps6
    go_wp2_with fail
    refine (of_any n a c ps w hps Hp.out).mono ?_
    rw [Hpe.out]
    rintro e w1 ⟨v1, rfl, ho1, hb1⟩
    obtain ⟨a1, c1, rfl, hi1⟩ := ho1.shape
    have Hi1 := Lib.hid hi1
    have Hb1 := Lib.hid hb1
    have Hp1 := Lib.hid (pairs_carry Hp.out hb1)
    clear ho1 hi1 hb1
    go_wp2_with fail
    go_loopw [7, 8] (fun v i wr => ∃ (k : Nat) (j : Int), k ≤ ps.length ∧ j = (k : Int) - 1 ∧ i = .int .i64 j ∧ OwnP wr w1.heap.size v (backTo ps k) ∧ Below w1.heap.size w1 wr) (fun _ i _ => (intOf i + 1).toNat)
    case atStart => exact ⟨ps.length, _, Nat.le_refl _, rfl, by go_num, by rw [backTo_all]; exact OwnP.nil _ _, Below.refl _ _⟩
    case round =>
      obtain ⟨k, j, hk, hj, rfl, hown, hb⟩ := hrel
      have Hown := Lib.hid hown
      have Hb := Lib.hid hb
      have hB := hb.size
      clear hown
      cases k with
      | succ k =>
        obtain rfl : j = (k : Int) := by omega
        clear hj
        have hlt : k < ps.length := by omega
        have Hsucc := Lib.hid (backTo_succ ps k hlt)
        have Hbl := Lib.hid (length_backTo ps (k + 1))
        obtain ⟨b, off, rfl, hbB, hc⟩ := Hp1.out (by omega)
        have e1 := (hb.cell (p := ⟨b, off + k * 2, none⟩) hbB).trans (hc k hlt).1
        have e2 := (hb.cell (p := ⟨b, off + k * 2 + 1, none⟩) hbB).trans (hc k hlt).2
        clear hc hb
        generalize (ps.getD k (0, 0)).1 = x at *
        generalize (ps.getD k (0, 0)).2 = y at *
        go_wp2
        go_region_law (refine step_append_pair rfl _ _ rfl w1.heap.size _ _ rfl ((Hown.out.alloc _).drew) wr.heap.size (y, x) rfl (by simp [go_sem]) (by simp [go_sem]) (by rw [Hbl.out]; omega) (by simp; omega) ?_; intro v' w' hown' hgrow)
        all_goals
          have Ha := Lib.hid (show OwnP _ w1.heap.size _ (backTo ps k) by rw [Hsucc.out]; exact hown')
          have Hb2 := Lib.hid (Hown.out.grown (grown_undrew hgrow) Hb.out hB)
          clear hown' hgrow
          go_wp2
          go_roundw
          case rel => exact ⟨k, (k : Int) - 1, by omega, rfl, rfl, Ha.out, Hb2.out⟩
          case measure => simp [intOf]
      | zero =>
        obtain rfl : j = -1 := by omega
        clear hj
        obtain ⟨a2, c2, hv, hpb⟩ := Hown.out.shape
        subst hv
        have Hpb := Lib.hid hpb
        have Hbl := Lib.hid (show (backTo ps 0).length ≤ maxLen by rw [length_backTo]; omega)
        have Hbw := Lib.hid (Hb1.out.trans (Hb.out.mono Hb1.out.size) : Below w.heap.size w wr)
        have Hi1b := Lib.hid (Hi1.out.below Hb.out (Nat.le_refl _))
        clear hpb hb
        go_wp2_with fail
        refine (of_any n a2 c2 (backTo ps 0) _ Hbl.out Hpb.out).mono ?_
        rw [Hback.out, Hpe.out]
        rintro e w2 ⟨v2, rfl, ho2, hb2⟩
        obtain ⟨a3, c3, rfl, hi2⟩ := ho2.shape
        have Hi2 := Lib.hid hi2
        have Hi1c := Lib.hid (Hi1b.out.below hb2 (Nat.le_refl _))
        have Hb2 := Lib.hid (Hbw.out.trans (hb2.mono Hbw.out.size))
        clear ho2 hi2 hb2
        go_wp2_with fail
        refine (requal_any a1 c1 _ a3 c3 _ w2 Hlen.out Hi1c.out Hlen.out Hi2.out).mono ?_
        rintro e w3 ⟨rfl, n3, rfl⟩
        go_wp2_with fail
        refine (new_any n _).mono ?_
        rw [newS_nat n (by omega)]
        rintro e w4 ⟨v4, rfl, ho4, hb4⟩
        have Ho4 := Lib.hid (ho4.mono (b := w.heap.size) (by simp; exact Hb2.out.size))
        have Hb4 := Lib.hid (Hb2.out.trans ((Drawn.below ⟨n3, rfl⟩ _).trans (hb4.mono (by simp; exact Hb2.out.size))))
        have Hi1d := Lib.hid ((Hi1c.out.drewN n3).below hb4 (by simp))
        have Hp4 := Lib.hid (pairs_carry Hp.out Hb4.out)
        clear ho4 hb4
        go_wp2_with fail
        go_loopw [11, 12, 13] (fun v g i wx => ∃ (k : Nat) (l : List Int) (z : Int), k ≤ ps.length ∧ i = .int .i64 k ∧ g = .int .i64 z ∧ ((inB n (ps.take k) = true ∧ z = 0 ∧ l = joinAll (iota n) (ps.take k)) ∨ (inB n ps = false ∧ z = 4 ∧ l = [])) ∧ Own wx w.heap.size v l ∧ Below w4.heap.size w4 wx) (fun _ _ i _ => ps.length - (intOf i).toNat)
        case atStart => exact ⟨0, iota n, 0, Nat.zero_le _, rfl, rfl, .inl ⟨rfl, rfl, rfl⟩, Ho4.out, Below.refl _ _⟩
        case round =>
          obtain ⟨k, l, z, hk, rfl, rfl, hst, hown, hbx⟩ := hrel
          obtain ⟨ax, cx, hv, hix⟩ := hown.shape
          subst hv
          have Hst := Lib.hid hst
          have Hix := Lib.hid hix
          have Hbx := Lib.hid hbx
          have Hownx := Lib.hid hown
          have hsz := hbx.size
          have Hi1e := Lib.hid (Hi1d.out.below hbx (Nat.le_refl _))
          have Hbz := Lib.hid (Hb4.out.trans (hbx.mono Hb4.out.size))
          clear hst hix hown
          rcases Hst.out with ⟨hin, rfl, hl⟩ | ⟨hin, rfl, hl⟩
          · have Hin := Lib.hid hin
            have Hl := Lib.hid hl
            have Hln := Lib.hid (show l.length = n by rw [hl, length_joinAll, length_iota])
            clear hin hl
            by_cases hlt : k < ps.length
            · obtain ⟨b, off, rfl, hbB, hc⟩ := Hp4.out (by omega)
              have e1 := (hbx.cell (p := ⟨b, off + k * 2, none⟩) hbB).trans (hc k hlt).1
              have e2 := (hbx.cell (p := ⟨b, off + k * 2 + 1, none⟩) hbB).trans (hc k hlt).2
              have Hstep := Lib.hid (step_good n ps k (by omega) hlt Hin.out)
              have Hle := Lib.hid (fun h => inB_le n ps (k + 1) h)
              generalize (ps.getD k (0, 0)).1 = x at *
              generalize (ps.getD k (0, 0)).2 = y at *
              rw [← Hl.out] at Hstep
              clear hc hbx
              go_wp2_with fail
              go_region_with ((go_at_call 15; refine (pJoin_at _ ax cx l x y _ rfl (by rw [Hln.out]; unfold maxLen; omega) (Hix.out.drewN 1)).mono ?_; rintro e w5 ⟨v5, rfl, ho5, hb5⟩))
              all_goals
                have Ho5 := Lib.hid (ho5.mono (b := w.heap.size) (by have := Hbz.out.size; simp; omega))
                have Hb5 := Lib.hid (Hbx.out.trans ((Drawn.below ⟨1, rfl⟩ _).trans (hb5.mono hsz)) : Below w4.heap.size w4 w5)
                have Hnew := Lib.hid (show (inB n (ps.take (k + 1)) = true ∧ (joinS l x y).2 = 0 ∧ (joinS l x y).1 = joinAll (iota n) (ps.take (k + 1))) ∨ (inB n ps = false ∧ (joinS l x y).2 = 4 ∧ (joinS l x y).1 = []) by
                  rw [Hstep.out]
                  by_cases h : inB n (ps.take (k + 1)) = true
                  · rw [if_pos h]; exact .inl ⟨h, rfl, rfl⟩
                  · rw [if_neg h]; exact .inr ⟨Hle.out (by simpa using h), rfl, rfl⟩)
                clear ho5 hb5
                go_wp2
                go_roundw
                case rel => exact ⟨k + 1, _, _, by omega, by go_num, rfl, Hnew.out, Ho5.out, Hb5.out⟩
                case measure => simp [intOf]; omega
            · have ek : ps.take k = ps := List.take_of_length_le (by omega)
              have hpe0 : pe = (joinAll (iota n) ps, 0) := by rw [← Hpe.out]; exact ofS_good n ps (by omega) (by rw [← ek]; exact Hin.out)
              have hp2 : pe.2 = 0 := by rw [hpe0]
              have hdec : decide (pe.1 = l) = true := by rw [hpe0, Hl.out, ek]; simp
              have Hll := Lib.hid (show l.length ≤ maxLen by rw [Hln.out]; unfold maxLen; omega)
              clear ek hpe0 hbx
              go_wp2_with fail
              refine (requal_any a1 c1 _ ax cx _ wr Hlen.out Hi1e.out Hll.out Hix.out).mono ?_
              rintro e w6 ⟨rfl, n6, rfl⟩
              go_wp2_with fail
              refine (awake_any _).mono ?_
              rintro e w7 ⟨rfl, hb7⟩
              go_wp2_with fail
              go_ret
              exact ⟨rfl, Hbz.out.trans ((Drawn.below ⟨_, rfl⟩ _).trans (hb7.mono Hbz.out.size))⟩
          · have hpe0 : pe = ([], 4) := by rw [← Hpe.out]; exact ofS_out n ps (by omega) hin
            have hp2 : pe.2 = 4 := by rw [hpe0]
            clear hpe0 hin hl hbx
            go_wp2_with (go_at_call 11; refine (awake_any _).mono ?_; rintro e w7 ⟨rfl, hb7⟩)
            all_goals
              go_ret
              exact ⟨rfl, Hbz.out.trans (hb7.mono Hbz.out.size)⟩
end Go.Proofs.Ytahfpkojkcnhiaa
