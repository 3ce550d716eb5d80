/-
  The definition's Make.
-/
import Derived.Test.YtggkhbjhhglbbaaDoorSetOf
namespace Go.Proofs.YtggkhbjhhglbbaaDoor
open Go.RowKit Go.WideShapes
set_option linter.unusedVariables false

def lenOf : Value → Nat | .slice _ n _ => n | _ => 0
theorem pow_double (k : Nat) : 2 * 2 ^ k = 2 ^ (k + 1) := by rw [Nat.pow_succ, Nat.mul_comm]

set_option maxHeartbeats 3200000 in
theorem rmake_any (a : Option Addr) (c n : Nat) (l : List Nat) (w : World) (hl : l.length = n) (hn : n ≤ 200000) (hs : Asc l) (hb : ∀ y ∈ l, y < 70400) (hz : Ints w a (asInts l)) :
    Calls Tryd.prog 33 #[.slice a n c] w fun e w' => ∃ v ms, e = .returned v ∧ OwnW w' w.heap.size v ms ∧ SetOf ms l ∧ Below w.heap.size w w' := by
  have Hz := Lib.hid hz
  have Hl := Lib.hid hl
  have Hs := Lib.hid hs
  have Hbd := Lib.hid hb
  clear hz hl hs hb
  go_enter Tryd.func33, Tryd.ntmps33
  go_wp2
  go_loopw [3, 4] (fun v i wr => ∃ (k : Nat) (us : List Nat), k ≤ n ∧ i = .int .i64 k ∧ OwnW wr w.heap.size v us ∧ SetOf us (l.take k) ∧ Below w.heap.size w wr) (fun _ i _ => n - (intOf i).toNat)
  case atStart => exact ⟨0, [], Nat.zero_le _, rfl, OwnW.nil _ _, by rw [List.take_zero]; exact SetOf.nil, Below.refl _ _⟩
  case round =>
    obtain ⟨k, us, hk, rfl, hown, hset, hb⟩ := hrel
    have Hown := Lib.hid hown
    have Hset := Lib.hid hset
    have Hb := Lib.hid hb
    clear hown hset hb
    by_cases hlt : k < n
    · have hkl : k < l.length := by rw [Hl.out]; exact hlt
      obtain ⟨bl, off, rfl, hc⟩ := Hz.out (by rw [length_asInts, Hl.out]; omega)
      have ck0 := hc k (by rw [length_asInts, Hl.out]; omega)
      rw [getD_asInts] at ck0
      have Hck0 := Lib.hid ck0
      have hlow := asc_take_lt Hs.out hkl
      have hx7 := Hbd.out _ (getD_mem hkl)
      have Hnext := Lib.hid (take_next hkl)
      obtain ⟨x, hxe⟩ : ∃ x, l.getD k 0 = x := ⟨_, rfl⟩
      rw [hxe] at Hck0 hlow hx7 Hnext
      have htop := Hset.out.top hlow
      have Hlow := Lib.hid hlow
      have hq : ((x : Int) / 64) = ((x / 64 : Nat) : Int) := by omega
      have hq2 : ((x : Int).tdiv 64) = ((x / 64 : Nat) : Int) := by rw [Int.tdiv_eq_ediv_of_nonneg (by omega)]; exact hq
      have hr : ((x : Int) % 64) = ((x % 64 : Nat) : Int) := by omega
      have hr2 : ((x : Int).tmod 64) = ((x % 64 : Nat) : Int) := by rw [Int.tmod_eq_emod_of_nonneg (by omega)]; exact hr
      have hq1 : x / 64 < 1100 := by omega
      have hr1 : x % 64 < 64 := by omega
      have Hstep := Lib.hid (fun (q r p j : Nat) (h1 : x / 64 = q) (h2 : x % 64 = r) (h3 : 2 ^ r = p) (h4 : us.length + j = q + 1) => Hset.out.step h1 h2 h3 Hlow.out h4)
      obtain ⟨q, hqe⟩ : ∃ q, x / 64 = q := ⟨_, rfl⟩
      obtain ⟨r, hre⟩ : ∃ r, x % 64 = r := ⟨_, rfl⟩
      have Hstep2 := Lib.hid (fun (p j : Nat) => Hstep.out q r p j hqe hre)
      rw [hqe] at hq hq2 hq1 htop
      rw [hre] at hr hr2 hr1
      have hwq : IntKind.i64.wrap (q : Int) = (q : Int) := IntWalk.i64_in _ (by omega)
      clear hc ck0 hlow Hlow Hstep hxe hqe hre
      have ckr := (Hb.out.cell (p := ⟨bl, off + k, none⟩) (World.block_lt_of_cell? w _ Hck0.out)).trans Hck0.out
      clear ckr
      go_wp2
      go_loopw [3] (fun v wq => ∃ j : Nat, us.length + j ≤ q + 1 ∧ OwnW wq w.heap.size v (pad us j) ∧ Below w.heap.size w wq) (fun v _ => q + 1 - lenOf v)
      case atStart => exact ⟨0, by omega, by rw [pad_zero]; exact Hown.out, Hb.out⟩
      case round =>
        obtain ⟨j, hj, hown, hb⟩ := hrel
        have ckr := (hb.cell (p := ⟨bl, off + k, none⟩) (World.block_lt_of_cell? w _ Hck0.out)).trans Hck0.out
        have Hown2 := Lib.hid hown
        have Hb2 := Lib.hid hb
        by_cases hj2 : us.length + j < q + 1
        · obtain ⟨av, cv, hv, _⟩ := hown.shape
          rw [length_pad] at hv
          obtain ⟨m, hm⟩ : ∃ m, us.length + j = m := ⟨_, rfl⟩
          have Hm := Lib.hid hm
          rw [hm] at hv hj2
          subst hv
          clear hown hb hj hm
          have hle : (m : Int) ≤ (q : Int) := by omega
          go_wp2_with (at_builtin; refine wpList_append_word rfl _ _ rfl w.heap.size _ _ rfl (Hown2.out.alloc _) wr.heap.size 0 rfl ?_ ?_ ?_ ?_)
          · simp [go_sem]
          · rw [length_pad, Hm.out]; omega
          · have := Hb2.out.size; simp; omega
          intro v' w3 hown' hgrow
          have Ha := Lib.hid hown'
          have Hb3 := Lib.hid (Hown2.out.grown hgrow Hb2.out Hb2.out.size)
          obtain ⟨av3, cv3, hv3, _⟩ := hown'.shape
          rw [List.length_append, length_pad, Hm.out] at hv3
          subst hv3
          clear hown' hgrow
          go_wp2
          go_roundw
          case rel => exact ⟨j + 1, by have := Hm.out; omega, by rw [pad_succ]; exact Ha.out, Hb3.out⟩
          case measure => simp [lenOf]; omega
        · have hj3 : us.length + j = q + 1 := by omega
          obtain ⟨g, cap, hv, hrow⟩ := hown.row (by rw [length_pad]; omega)
          have cy := hrow.cell (i := q) (by rw [length_pad]; omega)
          have fz := hrow.free q
          rw [getD_pad] at cy
          rw [length_pad, hj3] at hv
          subst hv
          have Hrow := Lib.hid hrow
          have hge := hrow.lt.1
          have hs1 := fun p hp => Hstep2.out p j hp hj3
          have Hs1 := Lib.hid hs1
          have Hj3 := Lib.hid hj3
          obtain ⟨y, hye⟩ : ∃ y, us.getD q 0 = y := ⟨_, rfl⟩
          have Hy := Lib.hid hye
          rw [hye] at cy Hs1
          have hle : ¬ ((q : Int) + 1 ≤ (q : Int)) := by omega
          clear hown hb hj hj2 hj3 hrow hs1 hye
          go_wp2
          go_loop [5, 6] (fun o t => ∃ m p : Nat, m ≤ r ∧ t = .int .i64 m ∧ o = .int .u64 p ∧ 2 ^ m = p) (fun o t => r - (intOf t).toNat)
          case atStart => exact ⟨0, 1, Nat.zero_le _, rfl, rfl, rfl⟩
          case round =>
            obtain ⟨m, p, hm, rfl, rfl, hp⟩ := hrel
            by_cases hmr : m < r
            · have hp2 : 2 * p = 2 ^ (m + 1) := by rw [← hp, pow_double]
              have hlt2 := two_pow_lt (m + 1) (by omega)
              rw [← hp2] at hlt2
              have Hp2 := Lib.hid hp2.symm
              clear hp hp2
              go_wp2
              go_round
              case rel => exact ⟨m + 1, 2 * p, by omega, by go_num, by go_num, Hp2.out⟩
              case measure => simp [intOf]; omega
            · obtain rfl : m = r := by omega
              obtain ⟨hset, hlt2⟩ := Hs1.out p hp
              have Hset2 := Lib.hid hset
              have hwy : IntKind.u64.wrap ((y : Int) + (p : Int)) = ((y + p : Nat) : Int) := by rw [IntKind.wrap_u64]; omega
              clear hp hset
              go_wp2
              refine wp_region_tail 17 (by kernel_rfl) (by kernel_rfl) ?_
              simp only [List.take_succ_cons, List.take_zero, List.drop_succ_cons, List.drop_zero, World.drew_is_drewN]
              repeat still_step
              refine wpStill_nil ?_
              go_wp2
              go_roundw
              case rel =>
                refine ⟨k + 1, (pad us j).set q (y + p), by omega, by go_num, ?_, by rw [Hnext.out]; exact Hset2.out, (Hb2.out.trans (Drawn.below ⟨1, rfl⟩ _)).setCell hge _⟩
                have := ((Hrow.out.drewN 1).set q (y + p)).own
                rwa [List.length_set, length_pad, Hj3.out] at this
              case measure => simp [intOf]; omega
    · obtain rfl : k = n := by omega
      have hfin := Lib.hid Hset.out
      go_wp2
      go_ret
      exact ⟨_, us, rfl, Hown.out, by have := hfin.out; rwa [← Hl.out, List.take_length] at this, Hb.out⟩
end Go.Proofs.YtggkhbjhhglbbaaDoor
