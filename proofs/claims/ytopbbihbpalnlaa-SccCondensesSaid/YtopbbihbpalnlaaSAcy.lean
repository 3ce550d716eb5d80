/-
  Acyclic, of the program.
-/
import Derived.Test.YtopbbihbpalnlaaSComp
import Derived.Test.YtopbbihbpalnlaaSIdx
import Derived.Test.YtopbbihbpalnlaaGCheck
namespace Go.Proofs.Ytopbbihbpalnlaa
open Go.RowKit
set_option linter.unusedVariables false

theorem itself_any (x y : Int) (w : World) : Calls Try.prog 42 #[.agg #[.int .i64 x, .int .i64 y]] w fun e w' => e = .returned (.bool (x == y)) ∧ Below w.heap.size w w' := by
  have hb : ∀ o, Below w.heap.size w (w.alloc o) := fun o => (Below.refl w.heap.size w).alloc (Nat.le_refl _) o
  go_enter Try.func42, Try.ntmps42
  go_wp2
  go_ret
  exact ⟨rfl, hb _⟩
def IndexEnd (w : World) (ps : List (Int × Int)) (e : Ending) (w' : World) : Prop := ∃ r : Int, e = .returned (.int .i64 r) ∧ decide (0 ≤ r) = (ps.any fun e => e.1 == e.2) ∧ Below w.heap.size w w'
set_option maxRecDepth 100000 in
theorem index_any (a : Option Addr) (n c : Nat) (ps : List (Int × Int)) (hl : ps.length = n) (w : World) (hE : Pairs w a ps) (hn : n ≤ 32768) : Calls Try.prog 60 #[.slice a n c, .func (.func 42) #[] #[]] w (IndexEnd w ps) := by
  have HE := Lib.hid hE
  have Hl := Lib.hid hl
  have hb0 : Hid (Below w.heap.size w w) := Below.refl _ _
  have hno : Hid (∀ i, i < 0 → (ps.getD i (0, 0)).1 ≠ (ps.getD i (0, 0)).2) := fun i hi => by omega
  clear hE hl
  go_enter Try.func60, Try.ntmps60
  go_wp2
  go_loopw [8] (fun x W => ∃ k : Nat, x = .int .i64 k ∧ k ≤ n ∧ Hid (Below w.heap.size w W) ∧ Hid (∀ i, i < k → (ps.getD i (0, 0)).1 ≠ (ps.getD i (0, 0)).2)) (fun x _ => n - (intOf x).toNat)
  case atStart => exact ⟨0, rfl, Nat.zero_le _, hb0, hno⟩
  case round =>
    obtain ⟨k, rfl, hk, hb, hno⟩ := hrel
    by_cases hlt : k < n
    · obtain ⟨b, off, rfl, hcell⟩ := (HE.out.below hb.out (Nat.le_refl _)) (by rw [Hl.out]; omega)
      obtain ⟨hcx, hcy⟩ := hcell k (by rw [Hl.out]; exact hlt)
      obtain ⟨⟨x, y⟩, he⟩ : ∃ e, ps.getD k (0, 0) = e := ⟨_, rfl⟩
      rw [he] at hcx hcy
      have He := Lib.hid he
      have hcall := itself_any x y wr
      obtain ⟨t, ht⟩ : ∃ t, (x == y) = t := ⟨_, rfl⟩
      rw [ht] at hcall
      have Hcall := Lib.hid hcall
      have Ht := Lib.hid ht
      clear hcall hcell he ht
      go_wp2_with fail
      refine Hcall.out.mono ?_
      rintro e w5 ⟨rfl, hb5⟩
      have Hb5 := Lib.hid (hb.out.trans (hb5.mono hb.out.size))
      clear hb5
      cases t with
      | true =>
        go_wp2
        go_ret
        refine ⟨(k : Int), rfl, ?_, Hb5.out⟩
        have h1 : (ps.any fun e => e.1 == e.2) = true := by
          rw [List.any_eq_true]
          refine ⟨(x, y), ?_, Ht.out⟩
          rw [← He.out, List.getD_eq_getElem?_getD, List.getElem?_eq_getElem (by rw [Hl.out]; exact hlt)]
          exact List.getElem_mem _
        rw [h1]; simp
      | false =>
        have hne : x ≠ y := by have := Ht.out; simpa using this
        have hno2 : Hid (∀ i, i < k + 1 → (ps.getD i (0, 0)).1 ≠ (ps.getD i (0, 0)).2) := fun i hi => by
          by_cases e : i = k
          · rw [e, He.out]; exact hne
          · exact hno.out i (by omega)
        clear hne
        go_wp2
        go_roundw
        case rel => exact ⟨k + 1, by go_num, hlt, Hb5, hno2⟩
        case measure => simp [intOf]; omega
    · obtain rfl : k = n := by omega
      go_wp2
      go_ret
      refine ⟨-1, rfl, ?_, hb.out⟩
      have h1 : (ps.any fun e => e.1 == e.2) = false := by
        rw [List.any_eq_false]
        intro e he
        obtain ⟨i, hi, rfl⟩ := List.getElem_of_mem he
        have := hno.out i (by rw [← Hl.out]; exact hi)
        rw [List.getD_eq_getElem?_getD, List.getElem?_eq_getElem hi] at this
        simpa using this
      rw [h1]; decide
set_option maxRecDepth 100000 in
theorem contains_any (a : Option Addr) (n c : Nat) (ps : List (Int × Int)) (hl : ps.length = n) (w : World) (hE : Pairs w a ps) (hn : n ≤ 32768) : Calls Try.prog 43 #[.slice a n c, .func (.func 42) #[] #[]] w fun e w' => e = .returned (.bool (ps.any fun e => e.1 == e.2)) ∧ Below w.heap.size w w' := by
  have hcall := Lib.hid (index_any a n c ps hl w hE hn)
  obtain ⟨t, ht⟩ : ∃ t, (ps.any fun e => e.1 == e.2) = t := ⟨_, rfl⟩
  rw [ht]
  have Ht := Lib.hid ht
  clear hE hl ht
  go_enter Try.func43, Try.ntmps43
  go_wp2_with fail
  refine hcall.out.mono ?_
  rintro e w5 ⟨r, rfl, hr, hb⟩
  rw [Ht.out] at hr
  have Hr := Lib.hid hr
  have Hb := Lib.hid hb
  clear hr hb
  go_wp2
  go_ret
  exact ⟨by show Ending.returned (Value.bool (decide (0 ≤ r))) = _; rw [Hr.out], Hb.out⟩
theorem Rws.shape {w : World} {base : Nat} {u : Value} {vs : List Value} {L : List (List Int)} (h : Rws w base u vs L) : ∃ a c, u = .slice a L.length c := by
  obtain ⟨a, c, e, _⟩ := h.rl
  exact ⟨a, c, e⟩
theorem keepG {W X X' : World} {p q : Addr} {B : Nat} {u0 u1 : Value} (H : X.cell? p = some u0 ∧ X.cell? q = some u1 ∧ Below B W X) (hB : W.heap.size = B) (hb : Below X.heap.size X X') :
    X'.cell? p = some u0 ∧ X'.cell? q = some u1 ∧ Below B W X' := by
  have hs := H.2.2.size
  exact ⟨(hb.cell (World.block_lt_of_cell? _ _ H.1)).trans H.1, (hb.cell (World.block_lt_of_cell? _ _ H.2.1)).trans H.2.1, H.2.2.trans (hb.mono (by omega))⟩
/-- The answer of Acyclic. -/
def acyB (N : Int) (ps : List (Int × Int)) : Bool := if gchk N ps = 0 then ((compL N.toNat (suN ps) srt).length == N.toNat) && !(ps.any fun e => e.1 == e.2) else false
set_option maxRecDepth 100000 in
set_option maxHeartbeats 1000000 in
/-- Acyclic, but for a valid graph that has fewer components than nodes (hless): that case is still to do. -/
theorem acyclic_but (N : Int) (a : Option Addr) (n c : Nat) (ps : List (Int × Int)) (hl : ps.length = n) (hn : n ≤ maxLen) (w : World) (hE : Pairs w a ps)
    (hless : gchk N ps = 0 → ¬ (compL N.toNat (suN ps) srt).length = N.toNat → Calls Try.prog 24 #[.agg #[.int .i64 N, .slice a n c]] w fun e w' => e = .returned (.bool (acyB N ps)) ∧ Below w.heap.size w w') : Calls Try.prog 24 #[.agg #[.int .i64 N, .slice a n c]] w fun e w' => e = .returned (.bool (acyB N ps)) ∧ Below w.heap.size w w' := by
  have hb0 := (Below.refl w.heap.size w).alloc (Nat.le_refl _) (Obj.cells #[Value.int .i64 N, Value.slice a n c] 24)
  have hE1 := hE.below hb0 (Nat.le_refl _)
  have hck := check_any N a c ps _ (by rw [hl]; exact hn) hE1
  rw [hl] at hck
  obtain ⟨k, hk⟩ : ∃ k, gchk N ps = k := ⟨_, rfl⟩
  rw [hk] at hck
  have Hck := Lib.hid hck
  have Hb0 := Lib.hid hb0
  have HE := Lib.hid hE
  have Hl := Lib.hid hl
  have Hk := Lib.hid hk
  clear hck hb0 hE hE1 hl hk
  by_cases hk0 : k = 0
  · have e0 : (k != 0) = false := by rw [hk0]; rfl
    have hg := gchk_ok (show gchk N ps = 0 by rw [Hk.out]; exact hk0)
    obtain ⟨N, rfl⟩ : ∃ m : Nat, N = (m : Int) := ⟨N.toNat, by have := hg.lo; omega⟩
    have Hg := Lib.hid hg
    have hn2 : n ≤ 32768 := by have := hg.len; rw [Hl.out] at this; exact this
    have hN8 := hg.hi
    clear hg
    rcases Classical.em ((compL N (suN ps) srt).length = N) with hfew | hfew
    rotate_left
    · exact hless (by rw [Hk.out]; exact hk0) (by rw [Int.toNat_natCast]; exact hfew)
    have Hfew := Lib.hid hfew
    clear hfew hless
    go_enter Try.func24, Try.ntmps24
    go_wp2_with fail
    refine Hck.out.mono ?_
    rintro e w1 ⟨rfl, hb1⟩
    have g0 := (hb1.cell (p := ⟨w.heap.size, 0, none⟩) (by simp)).trans (show _ = some (Value.int .i64 (N : Int)) by simp)
    have g1 := (hb1.cell (p := ⟨w.heap.size, 1, none⟩) (by simp)).trans (show _ = some (Value.slice a n c) by simp)
    have hs1 : w.heap.size < w1.heap.size := by have := hb1.size; simp at this; omega
    have Hb1 := Lib.hid (Hb0.out.trans (hb1.mono (by simp)))
    clear hb1
    have hS0 : w1.cell? ⟨w.heap.size, 0, none⟩ = some (.int .i64 (N : Int)) ∧ w1.cell? ⟨w.heap.size, 1, none⟩ = some (.slice a n c) ∧ Below w.heap.size w w1 := ⟨g0, g1, Hb1.out⟩
    have hS1 : w1.drew.cell? ⟨w.heap.size, 0, none⟩ = some (.int .i64 (N : Int)) ∧ w1.drew.cell? ⟨w.heap.size, 1, none⟩ = some (.slice a n c) ∧ Below w.heap.size w w1.drew := ⟨g0, g1, Hb1.out.drew⟩
    obtain ⟨m, hm⟩ : ∃ m, (compL N (suN ps) srt).length = m := ⟨_, rfl⟩
    have hmn : ((compL N (suN ps) srt).map ni).length = m := by rw [List.length_map]; exact hm
    have Hm := Lib.hid hm
    have Hmn := Lib.hid hmn
    clear hm hmn
    obtain ⟨t, ht⟩ : ∃ t, (ps.any fun e => e.1 == e.2) = t := ⟨_, rfl⟩
    have Ht := Lib.hid ht
    clear ht
    by_cases hlen : m = N
    · have e1 : ((m : Int) == (N : Int)) = true := by simp; omega
      have hres : Hid (acyB (N : Int) ps = !t) := by show _ = _; unfold acyB; rw [if_pos (by rw [Hk.out]; exact hk0), Int.toNat_natCast, Hm.out, Ht.out, hlen]; simp
      go_wp2_with fail
      go_region_held3 (fun X => X.cell? ⟨w.heap.size, 0, none⟩ = some (.int .i64 (N : Int)) ∧ X.cell? ⟨w.heap.size, 1, none⟩ = some (.slice a n c) ∧ Below w.heap.size w X)
        (first
          | (with_reducible assumption)
          | fail)
        (first
          | (go_at_call 31; (with_reducible refine Calls.mono (comps_pairs N a n c ps Hl.out _ (HE.out.below (by exact (by assumption : _ ∧ _ ∧ _).2.2) (Nat.le_refl _)) Hg.out) ?_); rintro e wA ⟨u, vs, rfl, hrw, hbA⟩; obtain ⟨a2, c2, rfl⟩ := hrw.shape; rw [Hmn.out]; have hSA := keepG (by assumption) rfl hbA)
          | (go_at_call 43; (with_reducible refine Calls.mono (contains_any a n c ps Hl.out _ (HE.out.below (by exact (by assumption : _ ∧ _ ∧ _).2.2) (Nat.le_refl _)) hn2) ?_); rintro e wB ⟨rfl, hbB⟩; rw [Ht.out]; have hSB := keepG (by assumption) rfl hbB))
      all_goals
        go_wp2
        go_ret
        exact ⟨by rw [hres.out]; rfl, hSB.2.2⟩
    · exact absurd (by rw [← Hm.out]; exact Hfew.out) hlen
  · have e0 : (k != 0) = true := by rw [bne_iff_ne]; exact hk0
    have hres : Hid (acyB N ps = false) := by show _ = _; unfold acyB; rw [if_neg (by rw [Hk.out]; exact hk0)]
    rw [hres.out]
    go_enter Try.func24, Try.ntmps24
    go_wp2_with fail
    refine Hck.out.mono ?_
    rintro e w1 ⟨rfl, hb1⟩
    have Hb1 := Lib.hid (Hb0.out.trans (hb1.mono (by simp)))
    clear hb1
    go_wp2
    go_ret
    exact ⟨rfl, Hb1.out⟩
end Go.Proofs.Ytopbbihbpalnlaa
