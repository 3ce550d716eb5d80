/-
  Pred: the predecessors of a node, in new memory; and the search of the statements' package.
-/
import Derived.Test.YthgnbpiemkcdhaaGBad
namespace Go.Proofs.Ythgnbpiemkcdhaa
open Go.RowKit Go.Shelf
set_option linter.unusedVariables false

def predL (ps : List (Int × Int)) (v : Int) : List Int := (ps.filter fun e => e.2 == v).map (·.1)
def predTo (ps : List (Int × Int)) (v : Int) (k : Nat) : List Int := predL (ps.take k) v
theorem predTo_succ {ps : List (Int × Int)} {v : Int} {k : Nat} (h : k < ps.length) : predTo ps v (k + 1) = if (ps.getD k (0, 0)).2 = v then predTo ps v k ++ [(ps.getD k (0, 0)).1] else predTo ps v k := by
  unfold predTo predL
  have e : ps.getD k (0, 0) = ps[k] := by simp [List.getD_eq_getElem?_getD, h]
  rw [List.take_succ_eq_append_getElem h, List.filter_append, List.map_append, e]
  by_cases hv : ps[k].2 = v
  · rw [if_pos hv, List.filter_cons_of_pos (by simp [hv])]; rfl
  · rw [if_neg hv, List.filter_cons_of_neg (by simp [hv])]; simp
theorem predTo_all (ps : List (Int × Int)) (v : Int) : predTo ps v ps.length = predL ps v := by unfold predTo; rw [List.take_length]
theorem length_predTo (ps : List (Int × Int)) (v : Int) (k : Nat) : (predTo ps v k).length ≤ ps.length := by
  unfold predTo predL
  rw [List.length_map]
  exact Nat.le_trans (List.length_filter_le _ _) (by rw [List.length_take]; omega)

set_option maxHeartbeats 1600000 in
theorem pred_good (N : Int) (a : Option Addr) (c : Nat) (ps : List (Int × Int)) (v : Int) (w : World) (hE : Edg w a c ps) (hok : gchk N ps = 0) :
    Calls Try.prog 16 #[.agg #[.int .i64 N, .slice a ps.length c], .int .i64 v] w fun e w' => ∃ r, e = .returned r ∧ Own w' w.heap.size r (predL ps v) ∧ Below w.heap.size w w' := by
  have hg := gchk_ok hok
  have hlen := hg.len
  obtain ⟨n, hl⟩ : ∃ n, ps.length = n := ⟨_, rfl⟩
  have hb0 := (Below.refl w.heap.size w).alloc (Nat.le_refl _) (Obj.cells #[Value.int .i64 N, Value.slice a n c] 24)
  have hck : Calls Try.prog 11 #[.agg #[.int .i64 N, .slice a n c]] (w.alloc (Obj.cells #[Value.int .i64 N, Value.slice a n c] 24)) fun e w' => e = .returned (.int .i64 0) ∧ Below (w.heap.size + 1) (w.alloc (Obj.cells #[Value.int .i64 N, Value.slice a n c] 24)) w' := by
    have := check_any N a c ps (w.alloc (Obj.cells #[Value.int .i64 N, Value.slice a n c] 24)) (by unfold maxLen; omega) (hE.pairs.below hb0 (Nat.le_refl _))
    rw [hok, hl, World.size_alloc] at this
    exact this
  have Hb0 := Lib.hid hb0
  have Hck := Lib.hid hck
  have HE := Lib.hid hE
  have Hl := Lib.hid hl
  have Hfin : Hid (predTo ps v n = predL ps v) := by show _ = _; rw [← hl]; exact predTo_all ps v
  rw [hl] at hlen ⊢
  clear hck hb0 hE hl hok hg
  go_enter Try.func16, Try.ntmps16
  go_wp2_with fail
  refine Hck.out.mono ?_
  rintro e w1 ⟨rfl, hb1⟩
  have g1 := (hb1.cell (p := ⟨w.heap.size, 1, none⟩) (by simp)).trans (show _ = some (Value.slice a n c) by simp)
  have Hb1 := Lib.hid (Hb0.out.trans (hb1.mono (by omega)))
  clear hb1
  go_wp2
  go_loopw [14, 5] (fun i u wr => ∃ k : Nat, k ≤ n ∧ i = .int .i64 k ∧ Own wr w.heap.size u (predTo ps v k) ∧ Below w.heap.size w wr) (fun i _ _ => n - (intOf i).toNat)
  case atStart => exact ⟨0, Nat.zero_le _, rfl, Own.nil _ _, Hb1.out⟩
  case round =>
    obtain ⟨k, hk, rfl, hown, hb⟩ := hrel
    have Hown := Lib.hid hown
    have Hb := Lib.hid hb
    have hsz := hb.size
    by_cases hlt : k < n
    · obtain ⟨b, off, rfl, hcell⟩ := (HE.out.pairs.below Hb.out (Nat.le_refl _)) (by rw [Hl.out]; omega)
      obtain ⟨hcx, hcy⟩ := hcell k (by rw [Hl.out]; exact hlt)
      have hps := predTo_succ (v := v) (show k < ps.length by rw [Hl.out]; exact hlt)
      have hpl := length_predTo ps v k
      rw [Hl.out] at hpl
      obtain ⟨⟨x, y⟩, he⟩ : ∃ e, ps.getD k (0, 0) = e := ⟨_, rfl⟩
      rw [he] at hcx hcy hps
      have Hps := Lib.hid hps
      clear he hcell hown hb hps
      by_cases hy : y = v
      · go_wp2_with (at_builtin; refine wpList_append_int rfl _ _ rfl w.heap.size _ _ rfl (Own.alloc (Own.alloc Hown.out _) _) _ x rfl (by simp [go_sem]) (by omega) (by simp; omega) ?_; intro v' w5 hown5 hg5; have Hown5 := Lib.hid hown5; have Hb5 := Lib.hid (((Hb.out.alloc hsz _).alloc (by simp; omega) _).grown hg5 (by simp; omega) (fun r hr => (World.ownsRow.lt Hown.out r hr).1)); clear hown5 hg5)
        go_roundw
        case rel => exact ⟨k + 1, by omega, by go_num, by rw [Hps.out, if_pos hy]; exact Hown5.out, Hb5.out⟩
        case measure => simp [intOf]; omega
      · go_wp2
        go_roundw
        case rel => exact ⟨k + 1, by omega, by go_num, by rw [Hps.out, if_neg hy]; exact Own.alloc Hown.out _, Hb.out.alloc hsz _⟩
        case measure => simp [intOf]; omega
    · obtain rfl : k = n := by omega
      go_wp2
      go_ret
      exact ⟨_, rfl, by rw [← Hfin.out]; exact Hown.out, Hb.out⟩

set_option maxHeartbeats 1000000 in
theorem pred_bad (N : Int) (a : Option Addr) (c : Nat) (ps : List (Int × Int)) (v : Int) (w : World) (hn : ps.length ≤ maxLen) (hE : Pairs w a ps) (hok : gchk N ps ≠ 0) :
    Calls Try.prog 16 #[.agg #[.int .i64 N, .slice a ps.length c], .int .i64 v] w fun e w' => e = .returned (.slice none 0 0) ∧ Below w.heap.size w w' := by
  obtain ⟨n, hl⟩ : ∃ n, ps.length = n := ⟨_, rfl⟩
  obtain ⟨k, hk⟩ : ∃ k, gchk N ps = k := ⟨_, rfl⟩
  have hb0 := (Below.refl w.heap.size w).alloc (Nat.le_refl _) (Obj.cells #[Value.int .i64 N, Value.slice a n c] 24)
  have hck : Calls Try.prog 11 #[.agg #[.int .i64 N, .slice a n c]] (w.alloc (Obj.cells #[Value.int .i64 N, Value.slice a n c] 24)) fun e w' => e = .returned (.int .i64 k) ∧ Below (w.heap.size + 1) (w.alloc (Obj.cells #[Value.int .i64 N, Value.slice a n c] 24)) w' := by
    have := check_any N a c ps (w.alloc (Obj.cells #[Value.int .i64 N, Value.slice a n c] 24)) hn (hE.below hb0 (Nat.le_refl _))
    rw [hk, hl, World.size_alloc] at this
    exact this
  have Hb0 := Lib.hid hb0
  have Hck := Lib.hid hck
  rw [hk] at hok
  rw [hl]
  clear hck hb0 hE hl hk hn
  go_enter Try.func16, Try.ntmps16
  go_wp2_with (go_at_call 11; refine Hck.out.mono ?_; rintro e w1 ⟨rfl, hb1⟩; have Hb1 := Lib.hid hb1; clear hb1)
  go_ret
  exact ⟨rfl, Hb0.out.trans (Hb1.out.mono (by omega))⟩

set_option maxHeartbeats 400000 in
theorem in_any (a : Option Addr) (c : Nat) (zs : List Int) (x : Int) (w : World) (hn : zs.length ≤ maxLen) (hz : Ints w a zs) :
    Calls Try.prog 25 #[.slice a zs.length c, .int .i64 x] w fun e w' => e = .returned (.bool (zs.contains x)) ∧ w' = w := by
  unfold maxLen at hn
  obtain ⟨n, hl⟩ : ∃ n, zs.length = n := ⟨_, rfl⟩
  have Hl := Lib.hid hl
  have Hz := Lib.hid hz
  rw [hl] at hn ⊢
  clear hl hz
  go_enter Try.func25, Try.ntmps25
  go_wp2
  go_loopw [5] (fun i wr => ∃ k : Nat, k ≤ n ∧ i = .int .i64 k ∧ (∀ i, i < k → ¬ zs.getD i 0 = x) ∧ wr = w) (fun i _ => n - (intOf i).toNat)
  case atStart => exact ⟨0, Nat.zero_le _, rfl, fun i hi => by omega, rfl⟩
  case round =>
    obtain ⟨k, hk, rfl, hal, rfl⟩ := hrel
    have Hal := Lib.hid hal
    clear hal
    by_cases hlt : k < n
    · obtain ⟨b, off, rfl, hc⟩ := Hz.out (by rw [Hl.out]; omega)
      have cz := hc k (by rw [Hl.out]; exact hlt)
      obtain ⟨z, hze⟩ : ∃ z, zs.getD k 0 = z := ⟨_, rfl⟩
      rw [hze] at cz
      have Hze := Lib.hid hze
      clear hc hze
      by_cases e : z = x
      · have T : Hid (true = zs.contains x) := by
          show _ = _
          rw [eq_comm, List.contains_iff_mem, ← e, ← Hze.out]
          exact mem_getD zs k (by rw [Hl.out]; exact hlt)
        go_wp2
        go_ret
        exact ⟨ret_bool T.out, (by first | rfl | trivial)⟩
      · have T : Hid (∀ i, i < k + 1 → ¬ zs.getD i 0 = x) := fun i hi => by
          rcases Nat.lt_or_ge i k with h | h
          · exact Hal.out i h
          · obtain rfl : i = k := by omega
            rw [Hze.out]; exact e
        go_wp2
        go_roundw
        case rel => exact ⟨k + 1, by omega, by go_num, T.out, (by first | rfl | trivial)⟩
        case measure => simp [intOf]; omega
    · have T : Hid (false = zs.contains x) := by
        show _ = _
        rw [eq_comm, Bool.eq_false_iff]
        intro h
        rw [List.contains_iff_mem] at h
        obtain ⟨i, hi, he⟩ := List.getElem_of_mem h
        exact Hal.out i (by rw [Hl.out] at hi; omega) (by simp [List.getD_eq_getElem?_getD, hi, he])
      go_wp2
      go_ret
      exact ⟨ret_bool T.out, (by first | rfl | trivial)⟩
end Go.Proofs.Ythgnbpiemkcdhaa
