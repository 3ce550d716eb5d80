/-
  slices.Backward of a list of numbers, as a contract for loops.
-/
import Derived.Test.YtcmliokkamgcdaaGStops
namespace Go.Proofs.Ytcmliokkamgcdaa
open Go.RowKit Go.Shelf
set_option linter.unusedVariables false
attribute [local go_sem] Oper.semAt_some

/-- The last k of the indices below n, downwards. -/
def desc (n : Nat) : Nat → List { i : Nat // i < n }
  | 0 => []
  | k + 1 => if h : n - 1 - k < n then desc n k ++ [⟨n - 1 - k, h⟩] else desc n k
theorem desc_succ {n k i : Nat} (h : i < n) (e : n - 1 - k = i) : desc n (k + 1) = desc n k ++ [⟨i, h⟩] := by
  subst e
  show (if h : n - 1 - k < n then _ else _) = _
  rw [dif_pos h]
theorem desc_len {n : Nat} : ∀ k, (desc n k).length ≤ k
  | 0 => Nat.le_refl _
  | k + 1 => by
    have := desc_len (n := n) k
    show (if h : n - 1 - k < n then desc n k ++ [⟨n - 1 - k, h⟩] else desc n k).length ≤ _
    split
    · simp; omega
    · omega

set_option maxRecDepth 100000 in
set_option maxHeartbeats 4000000 in
theorem back_in (n : Nat) (hn : 1 ≤ n) (l bs be off c m : Nat) (zs : List Int) (hl : zs.length = m) (hm : m ≤ 10000) (J Jx : List { i : Nat // i < m } → World → Prop) (W : World)
    (hJ : AbidesFrom W.heap.size J)
    (hY : ∀ pre x W1, J pre W1 → pre.length < 40000 → YieldAt Fence.wide (n - 1) Try.prog l #[.int .i64 (x.1 : Int), .int .i64 (zs.getD x.1 0)] W1 fun e W' =>
      (e = .returned (.bool true) ∧ J (pre ++ [x]) W' ∧ KpG bs bs be W1 W') ∨ (e = .returned (.bool false) ∧ Jx (pre ++ [x]) W'))
    (hs0 : W.cell? ⟨bs, 0, none⟩ = some (.slice (some ⟨be, off, none⟩) m c))
    (hp : ∀ i, i < m → W.cell? ⟨be, off + i, none⟩ = some (.int .i64 (zs.getD i 0))) (h0 : J [] W) :
    CallsIn Fence.wide n Try.prog 80 #[.func (.yield l) #[] #[], .pointer (some ⟨bs, 0, none⟩)] W fun e W' => (∃ v, e = .returned v) ∧ ((∃ ys, ys = desc m m ∧ J ys W') ∨ (∃ pre, True ∧ Jx pre W')) := by
  refine callsIn_of_wp Try.func80 rfl trivial ?_ rfl
  simp only [Try.ntmps80, List.size_toArray, List.length_cons, List.length_nil, Nat.reduceAdd, Nat.reduceSub, Array.replicate_succ, Array.replicate_zero, List.push_toArray, List.append_toArray, List.nil_append, List.cons_append]
  have Hp := Lib.hid hp
  have HJ := Lib.hid hJ
  have HY := Lib.hid hY
  have HJ0 := Lib.hid h0
  clear hp hJ hY h0
  gi_wp2
  gi_loopw [3] (fun x wr => ∃ k : Nat, k ≤ m ∧ x = .int .i64 ((m : Int) - 1 - (k : Int)) ∧ J (desc m k) wr ∧ KpG bs bs be W wr) (fun x _ => (intOf x + 1).toNat)
  case atStart => exact ⟨0, Nat.zero_le _, by simp, HJ0.out, KpG.refl _ _ _ _⟩
  case round =>
    obtain ⟨k, hk, rfl, hj, hkp⟩ := hrel
    have HJk := Lib.hid hj
    have Hk := Lib.hid hkp
    have s1 := (hkp.cell (q := ⟨bs, 0, none⟩) (.inl rfl)).trans hs0
    clear hj hkp
    by_cases hlt : k < m
    · obtain ⟨i, hi⟩ : ∃ i, m - 1 - k = i := ⟨_, rfl⟩
      have him : i < m := by omega
      have hik : ((m : Int) - 1 - (k : Int)) = (i : Int) := by omega
      have cx := (Hk.out.cell (q := ⟨be, off + i, none⟩) (.inr (.inr rfl))).trans (Hp.out i him)
      obtain ⟨y, hy⟩ : ∃ y, zs.getD i 0 = y := ⟨_, rfl⟩
      obtain ⟨fn, tmps, assign, body, hyy, hR⟩ := HY.out _ ⟨i, him⟩ _ HJk.out (by have := desc_len (n := m) k; omega)
      dsimp only at hyy
      rw [hy] at cx hyy
      have hend : Hid (desc m (k + 1) = desc m k ++ [⟨i, him⟩]) := desc_succ him hi
      have Hik := Lib.hid hik
      rw [hik]
      clear hik hi hy
      gi_wp2
      refine hR.mono ?_
      rintro e W3 (⟨rfl, hJ3, hk3⟩ | ⟨rfl, hJx3⟩)
      · have HJ3 := Lib.hid hJ3
        have Hk3 := Lib.hid (Hk.out.trans hk3)
        clear hJ3 hk3 hyy hR
        gi_wp2
        go_roundw
        case rel => exact ⟨k + 1, by omega, by have := Hik.out; congr 1 <;> omega, by rw [hend.out]; exact HJ3.out, Hk3.out⟩
        case measure => have := Hik.out; simp [intOf] <;> omega
      · have HJx3 := Lib.hid hJx3
        clear hJx3 hyy hR
        gi_wp2
        refine bodyPost_ret (results_none rfl _ _ _) rfl ?_
        exact ⟨⟨_, rfl⟩, .inr ⟨_, trivial, HJx3.out⟩⟩
    · obtain rfl : m = k := by omega
      rw [show ((m : Int) - 1 - (m : Int)) = -1 by omega]
      gi_wp2
      go_end0
      exact ⟨⟨_, rfl⟩, .inl ⟨_, rfl, HJk.out⟩⟩

theorem back_stops (n : Nat) (hn : 1 ≤ n) (bs be off c m : Nat) (zs : List Int) (hl : zs.length = m) (hm : m ≤ 10000) (w : World) (hs0 : w.cell? ⟨bs, 0, none⟩ = some (.slice (some ⟨be, off, none⟩) m c))
    (hp : ∀ i, i < m → w.cell? ⟨be, off + i, none⟩ = some (.int .i64 (zs.getD i 0))) :
    SeqStopsK Fence.wide n Try.prog 80 #[.pointer (some ⟨bs, 0, none⟩)] (fun x : { i : Nat // i < m } => #[Value.int .i64 (x.1 : Int), .int .i64 (zs.getD x.1 0)]) (KpG bs bs be) (fun ys => ys = desc m m) (fun _ => True) 40000 w := by
  intro l J Jx W hW hJ hJx hY hj
  have s1 := (hW.cell (p := ⟨bs, 0, none⟩) (World.block_lt_of_cell? _ _ hs0)).trans hs0
  exact back_in n hn l bs be off c m zs hl hm J Jx W hJ hY s1 (fun i hi => (hW.cell (p := ⟨be, off + i, none⟩) (World.block_lt_of_cell? _ _ (hp i hi))).trans (hp i hi)) hj

theorem backward_any (a : Option Addr) (n c : Nat) (w : World) : Calls Try.prog 63 #[.slice a n c] w fun e w' => e = .returned (.func (.func 80) #[] #[.pointer (some ⟨w.heap.size, 0, none⟩)]) ∧ w' = w.alloc (.cells #[.slice a n c] 25) := by
  go_enter Try.func63, Try.ntmps63
  go_wp2
  go_ret
  exact ⟨rfl, rfl⟩
end Go.Proofs.Ytcmliokkamgcdaa
