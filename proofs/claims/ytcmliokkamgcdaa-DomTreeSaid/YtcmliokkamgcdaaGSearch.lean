/-
  slices.BinarySearchFunc at edges: where the edges from a node begin.
-/
import Derived.Test.YtcmliokkamgcdaaGRCheck
namespace Go.Proofs.Ytcmliokkamgcdaa
open Go.RowKit
set_option linter.unusedVariables false

set_option maxHeartbeats 400000 in
theorem from_any (x y v : Int) (w : World) :
    Calls Try.prog 77 #[.agg #[.int .i64 x, .int .i64 y], .int .i64 v] w fun e w' => e = .returned (.int .i64 (cmpZ x v)) ∧ Below w.heap.size w w' := by
  have hb := Lib.hid ((Below.refl w.heap.size w).alloc (Nat.le_refl _) (Obj.cells #[Value.int .i64 x, Value.int .i64 y] 52))
  go_enter Try.func77, Try.ntmps77
  go_wp2_with (go_at_call 78; (with_reducible refine Calls.mono (compare_at _ _ _) ?_); rintro e w' ⟨rfl, rfl⟩)
  go_ret
  exact ⟨rfl, hb.out⟩

/-- The edges are in order of their starts. -/
def Mono (ps : List (Int × Int)) : Prop := ∀ i j, i ≤ j → j < ps.length → (ps.getD i (0, 0)).1 ≤ (ps.getD j (0, 0)).1
theorem GOk.mono {N : Int} {ps : List (Int × Int)} (h : GOk N ps) : Mono ps := by
  intro i j hij hj
  induction j with
  | zero => obtain rfl : i = 0 := by omega
            exact Int.le_refl _
  | succ j ih =>
    rcases Nat.lt_or_ge j i with c | c
    · obtain rfl : i = j + 1 := by omega
      exact Int.le_refl _
    · have h1 := ih (by omega) (by omega)
      have h2 := h.asc j hj
      unfold ltE at h2
      simp only [Bool.or_eq_true, Bool.and_eq_true, decide_eq_true_eq] at h2
      omega

set_option maxHeartbeats 1600000 in
theorem search_any (a : Option Addr) (c : Nat) (ps : List (Int × Int)) (v : Int) (w : World) (hn : ps.length ≤ 32768) (hm : Mono ps) (hp : Pairs w a ps) :
    Calls Try.prog 76 #[.slice a ps.length c, .int .i64 v, .func (.func 77) #[] #[]] w fun e w' =>
      ∃ (i : Nat) (f : Bool), e = .returned (.tuple #[.int .i64 i, .bool f]) ∧ i ≤ ps.length ∧ (∀ t, t < i → (ps.getD t (0, 0)).1 < v) ∧ (∀ t, i ≤ t → t < ps.length → v ≤ (ps.getD t (0, 0)).1) ∧ Below w.heap.size w w' := by
  obtain ⟨n, hl⟩ : ∃ n, ps.length = n := ⟨_, rfl⟩
  have Hl := Lib.hid hl
  have Hp := Lib.hid hp
  have Hm := Lib.hid hm
  rw [hl] at hn ⊢
  clear hl hp hm
  go_enter Try.func76, Try.ntmps76
  go_wp2
  go_loopw [9, 10] (fun ii jj wr => ∃ lo hi : Nat, ii = .int .i64 lo ∧ jj = .int .i64 hi ∧ lo ≤ hi ∧ hi ≤ n ∧ (∀ t, t < lo → (ps.getD t (0, 0)).1 < v) ∧ (∀ t, hi ≤ t → t < n → v ≤ (ps.getD t (0, 0)).1) ∧ Below w.heap.size w wr) (fun ii jj _ => (intOf jj).toNat - (intOf ii).toNat)
  case atStart => exact ⟨0, n, rfl, rfl, Nat.zero_le _, Nat.le_refl _, fun t ht => by omega, fun t h1 h2 => by omega, Below.refl _ _⟩
  case round =>
    obtain ⟨lo, hi, rfl, rfl, hlh, hin, h1, h2, hb⟩ := hrel
    have H1 := Lib.hid h1
    have H2 := Lib.hid h2
    have Hb := Lib.hid hb
    clear h1 h2 hb
    by_cases hlt : lo < hi
    · obtain ⟨m, hm⟩ : ∃ m, (lo + hi) / 2 = m := ⟨_, rfl⟩
      have hm1 : lo ≤ m ∧ m < hi := by omega
      obtain ⟨b, off, rfl, hcell⟩ := (Hp.out.below Hb.out (Nat.le_refl _)) (by rw [Hl.out]; omega)
      obtain ⟨hcx, hcy⟩ := hcell m (by rw [Hl.out]; omega)
      obtain ⟨⟨x, y⟩, he⟩ : ∃ e, ps.getD m (0, 0) = e := ⟨_, rfl⟩
      rw [he] at hcx hcy
      have He := Lib.hid he
      clear he hcell
      have hmI : ((lo : Int) + (hi : Int)) / 2 = (m : Int) := by omega
      have hsum : IntKind.i64.wrap ((lo : Int) + (hi : Int)) = (lo : Int) + (hi : Int) := by
        simp [IntKind.wrap, IntKind.bits, IntKind.signed]; omega
      have hz1 := @cmpZ_neg x v
      have hfr := fun X => from_any x y v X
      obtain ⟨z, hz⟩ : ∃ z, cmpZ x v = z := ⟨_, rfl⟩
      rw [hz] at hz1
      simp only [hz] at hfr
      have Hfr := Lib.hid hfr
      clear hfr hz
      by_cases hlt2 : x < v
      · have hz0 : z < 0 := hz1.2 hlt2
        have H1' : Hid (∀ t, t < m + 1 → (ps.getD t (0, 0)).1 < v) := by
          intro t ht
          have h1 := Hm.out t m (by omega) (by rw [Hl.out]; omega)
          rw [He.out] at h1
          exact Int.lt_of_le_of_lt h1 hlt2
        clear hz1 hlt2
        go_wp2_with (go_at_call 77; (with_reducible refine Calls.mono (Hfr.out _) ?_); rintro e w' ⟨rfl, hb'⟩; have Hb' := Lib.hid (Hb.out.trans (hb'.mono Hb.out.size)); clear hb')
        go_roundw
        case rel => exact ⟨m + 1, hi, by go_num, rfl, by omega, hin, H1'.out, H2.out, Hb'.out⟩
        case measure => simp [intOf]; omega
      · have hz0 : 0 ≤ z := by omega
        have H2' : Hid (∀ t, m ≤ t → t < n → v ≤ (ps.getD t (0, 0)).1) := by
          intro t ht htn
          have h1 := Hm.out m t ht (by rw [Hl.out]; omega)
          rw [He.out] at h1
          have : v ≤ x := by omega
          exact Int.le_trans this h1
        clear hz1 hlt2
        go_wp2_with (go_at_call 77; (with_reducible refine Calls.mono (Hfr.out _) ?_); rintro e w' ⟨rfl, hb'⟩; have Hb' := Lib.hid (Hb.out.trans (hb'.mono Hb.out.size)); clear hb')
        go_roundw
        case rel => exact ⟨lo, m, rfl, rfl, by omega, by omega, H1.out, H2'.out, Hb'.out⟩
        case measure => simp [intOf]; omega
    · obtain rfl : hi = lo := by omega
      by_cases hend : hi < n
      · obtain ⟨b, off, rfl, hcell⟩ := (Hp.out.below Hb.out (Nat.le_refl _)) (by rw [Hl.out]; omega)
        obtain ⟨hcx, hcy⟩ := hcell hi (by rw [Hl.out]; omega)
        obtain ⟨⟨x, y⟩, he⟩ : ∃ e, ps.getD hi (0, 0) = e := ⟨_, rfl⟩
        rw [he] at hcx hcy
        have hfr := fun X => from_any x y v X
        obtain ⟨z, hz⟩ : ∃ z, cmpZ x v = z := ⟨_, rfl⟩
        simp only [hz] at hfr
        have Hfr := Lib.hid hfr
        clear hfr hz he hcell
        go_wp2_with (go_at_call 77; (with_reducible refine Calls.mono (Hfr.out _) ?_); rintro e w' ⟨rfl, hb'⟩; have Hb' := Lib.hid (Hb.out.trans (hb'.mono Hb.out.size)); clear hb')
        go_ret2
        exact ⟨hi, _, rfl, hin, H1.out, H2.out, Hb'.out⟩
      · go_wp2
        go_ret2
        exact ⟨hi, _, rfl, hin, H1.out, H2.out, Hb.out⟩
end Go.Proofs.Ytcmliokkamgcdaa
