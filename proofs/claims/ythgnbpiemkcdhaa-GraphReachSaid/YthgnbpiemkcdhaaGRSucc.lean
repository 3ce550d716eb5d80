/-
  The definition's Node and Succ.
-/
import Derived.Test.YthgnbpiemkcdhaaGSame
import Derived.Test.YthgnbpiemkcdhaaGRCheck
namespace Go.Proofs.Ythgnbpiemkcdhaa
open Go.RowKit Go.Shelf Go.WideShapes
set_option linter.unusedVariables false

def nodeB (N : Int) (ps : List (Int × Int)) (v : Int) : Bool := decide (gchk N ps = 0) && isNd N v
set_option maxHeartbeats 1000000 in
theorem rnode_any (N : Int) (a : Option Addr) (c : Nat) (ps : List (Int × Int)) (v : Int) (w : World) (hn : ps.length ≤ maxLen) (hE : Pairs w a ps) :
    Calls Try.prog 34 #[.agg #[.int .i64 N, .slice a ps.length c], .int .i64 v] w fun e w' => e = .returned (.bool (nodeB N ps v)) ∧ Below w.heap.size w w' := by
  obtain ⟨n, hl⟩ : ∃ n, ps.length = n := ⟨_, rfl⟩
  obtain ⟨k, hk⟩ : ∃ k, gchk N ps = k := ⟨_, rfl⟩
  have hb0 := (Below.refl w.heap.size w).alloc (Nat.le_refl _) (Obj.cells #[Value.int .i64 N, Value.slice a n c] 24)
  have hck : Calls Try.prog 12 #[.agg #[.int .i64 N, .slice a n c]] (w.alloc (Obj.cells #[Value.int .i64 N, Value.slice a n c] 24)) fun e w' => e = .returned (.int .i64 k) ∧ Below (w.heap.size + 1) (w.alloc (Obj.cells #[Value.int .i64 N, Value.slice a n c] 24)) w' := by
    have := rcheck_any N a c ps (w.alloc (Obj.cells #[Value.int .i64 N, Value.slice a n c] 24)) hn (hE.below hb0 (Nat.le_refl _))
    rw [hk, hl, World.size_alloc] at this
    exact this
  have Hb0 := Lib.hid hb0
  have Hck := Lib.hid hck
  have Hk := Lib.hid hk
  rw [hl]
  clear hck hb0 hE hl hk hn
  by_cases h0 : k = 0
  · subst h0
    by_cases h1 : 0 ≤ v
    · by_cases h2 : v < N
      · have T : Hid (true = nodeB N ps v) := by
          show _ = _
          unfold nodeB
          rw [Hk.out, isNd_iff.2 ⟨h1, h2⟩]; rfl
        go_enter Try.func34, Try.ntmps34
        go_wp2_with (go_at_call 12; refine Hck.out.mono ?_; rintro e w1 ⟨rfl, hb1⟩; have Hb1 := Lib.hid hb1; have g0 := (hb1.cell (p := ⟨w.heap.size, 0, none⟩) (by simp)).trans (show _ = some (Value.int .i64 N) by simp); clear hb1)
        go_ret
        exact ⟨ret_bool T.out, Hb0.out.trans (Hb1.out.mono (by omega))⟩
      · have T : Hid (false = nodeB N ps v) := by
          show _ = _
          unfold nodeB
          rw [show isNd N v = false by rw [← Bool.not_eq_true, isNd_iff]; omega, Bool.and_false]
        go_enter Try.func34, Try.ntmps34
        go_wp2_with (go_at_call 12; refine Hck.out.mono ?_; rintro e w1 ⟨rfl, hb1⟩; have Hb1 := Lib.hid hb1; have g0 := (hb1.cell (p := ⟨w.heap.size, 0, none⟩) (by simp)).trans (show _ = some (Value.int .i64 N) by simp); clear hb1)
        go_ret
        exact ⟨ret_bool ((decide_eq_false (show ¬ v < N by omega)).trans T.out), Hb0.out.trans (Hb1.out.mono (by omega))⟩
    · have T : Hid (false = nodeB N ps v) := by
        show _ = _
        unfold nodeB
        rw [show isNd N v = false by rw [← Bool.not_eq_true, isNd_iff]; omega, Bool.and_false]
      go_enter Try.func34, Try.ntmps34
      go_wp2_with (go_at_call 12; refine Hck.out.mono ?_; rintro e w1 ⟨rfl, hb1⟩; have Hb1 := Lib.hid hb1; clear hb1)
      go_ret
      exact ⟨ret_bool T.out, Hb0.out.trans (Hb1.out.mono (by omega))⟩
  · have T : Hid (false = nodeB N ps v) := by
      show _ = _
      unfold nodeB
      rw [Hk.out, decide_eq_false h0, Bool.false_and]
    have hb : (k == 0) = false := by rw [beq_eq_false_iff_ne]; exact h0
    go_enter Try.func34, Try.ntmps34
    go_wp2_with (go_at_call 12; refine Hck.out.mono ?_; rintro e w1 ⟨rfl, hb1⟩; have Hb1 := Lib.hid hb1; clear hb1)
    go_ret
    exact ⟨ret_bool T.out, Hb0.out.trans (Hb1.out.mono (by omega))⟩

def succTo (ps : List (Int × Int)) (v : Int) (k : Nat) : List Int := succL (ps.take k) v
theorem succTo_succ {ps : List (Int × Int)} {v : Int} {k : Nat} (h : k < ps.length) : succTo ps v (k + 1) = if (ps.getD k (0, 0)).1 = v then succTo ps v k ++ [(ps.getD k (0, 0)).2] else succTo ps v k := by
  unfold succTo succL
  have e : ps.getD k (0, 0) = ps[k] := by simp [List.getD_eq_getElem?_getD, h]
  rw [List.take_succ_eq_append_getElem h, List.filter_append, List.map_append, e]
  by_cases hv : ps[k].1 = v
  · rw [if_pos hv, List.filter_cons_of_pos (by simp [hv])]; rfl
  · rw [if_neg hv, List.filter_cons_of_neg (by simp [hv])]; simp
theorem succTo_all (ps : List (Int × Int)) (v : Int) : succTo ps v ps.length = succL ps v := by unfold succTo; rw [List.take_length]
theorem length_succTo (ps : List (Int × Int)) (v : Int) (k : Nat) : (succTo ps v k).length ≤ ps.length := by
  unfold succTo succL
  rw [List.length_map]
  exact Nat.le_trans (List.length_filter_le _ _) (by rw [List.length_take]; omega)

set_option maxHeartbeats 1600000 in
theorem rsucc_any (N : Int) (a : Option Addr) (c : Nat) (ps : List (Int × Int)) (v : Int) (w : World) (hn : ps.length ≤ 100000) (hE : Pairs w a ps) :
    Calls Try.prog 15 #[.agg #[.int .i64 N, .slice a ps.length c], .int .i64 v] w fun e w' => ∃ r, e = .returned r ∧ Own w' w.heap.size r (if nodeB N ps v = true then succL ps v else []) ∧ Below w.heap.size w w' := by
  obtain ⟨n, hl⟩ : ∃ n, ps.length = n := ⟨_, rfl⟩
  obtain ⟨k, hk⟩ : ∃ k, nodeB N ps v = k := ⟨_, rfl⟩
  have hb0 := (Below.refl w.heap.size w).alloc (Nat.le_refl _) (Obj.cells #[Value.int .i64 N, Value.slice a n c] 24)
  have hck : Calls Try.prog 34 #[.agg #[.int .i64 N, .slice a n c], .int .i64 v] (w.alloc (Obj.cells #[Value.int .i64 N, Value.slice a n c] 24)) fun e w' => e = .returned (.bool k) ∧ Below (w.heap.size + 1) (w.alloc (Obj.cells #[Value.int .i64 N, Value.slice a n c] 24)) w' := by
    have := rnode_any N a c ps v (w.alloc (Obj.cells #[Value.int .i64 N, Value.slice a n c] 24)) (by unfold maxLen; omega) (hE.below hb0 (Nat.le_refl _))
    rw [hk, hl, World.size_alloc] at this
    exact this
  have Hb0 := Lib.hid hb0
  have Hck := Lib.hid hck
  have HE := Lib.hid hE
  have Hl := Lib.hid hl
  have Hfin : Hid (succTo ps v n = succL ps v) := by show _ = _; rw [← hl]; exact succTo_all ps v
  rw [hk]
  rw [hl] at hn ⊢
  clear hck hb0 hE hl hk
  cases k with
  | false =>
    rw [if_neg (by decide)]
    go_enter Try.func15, Try.ntmps15
    go_wp2_with (go_at_call 34; refine Hck.out.mono ?_; rintro e w1 ⟨rfl, hb1⟩; have Hb1 := Lib.hid hb1; clear hb1)
    go_ret
    exact ⟨_, rfl, Own.nil _ _, Hb0.out.trans (Hb1.out.mono (by omega))⟩
  | true =>
    rw [if_pos rfl]
    go_enter Try.func15, Try.ntmps15
    go_wp2_with fail
    refine Hck.out.mono ?_
    rintro e w1 ⟨rfl, hb1⟩
    have hz1 : w.heap.size + 1 ≤ w1.heap.size := by have := hb1.size; simpa using this
    have g1 := (hb1.cell (p := ⟨w.heap.size, 1, none⟩) (by simp)).trans (show _ = some (Value.slice a n c) by simp)
    have Hb1 := Lib.hid (Hb0.out.trans (hb1.mono (by omega)))
    clear hb1
    go_wp2
    go_loopw [5, 6] (fun u i wr => ∃ k : Nat, k ≤ n ∧ i = .int .i64 k ∧ Own wr w1.heap.size u (succTo ps v k) ∧ Below w1.heap.size w1 wr) (fun _ i _ => n - (intOf i).toNat)
    case atStart => exact ⟨0, Nat.zero_le _, rfl, Own.nil _ _, Below.refl _ _⟩
    case round =>
      obtain ⟨k, hk, rfl, hown, hb⟩ := hrel
      have Hown := Lib.hid hown
      have Hb := Lib.hid hb
      have hsz := hb.size
      have h1 := (hb.cell (p := ⟨w.heap.size, 1, none⟩) (by show w.heap.size < _; omega)).trans g1
      by_cases hlt : k < n
      · obtain ⟨b, off, rfl, hcell⟩ := (HE.out.below (Hb1.out.trans (Hb.out.mono (by omega))) (Nat.le_refl _)) (by rw [Hl.out]; omega)
        obtain ⟨hcx, hcy⟩ := hcell k (by rw [Hl.out]; exact hlt)
        have hps := succTo_succ (v := v) (show k < ps.length by rw [Hl.out]; exact hlt)
        have hpl := length_succTo ps v k
        rw [Hl.out] at hpl
        obtain ⟨⟨x, y⟩, he⟩ : ∃ e, ps.getD k (0, 0) = e := ⟨_, rfl⟩
        rw [he] at hcx hcy hps
        have Hps := Lib.hid hps
        clear he hcell hown hb hps
        by_cases hy : x = v
        · go_wp2_with (at_builtin; refine wpList_append_int rfl _ _ rfl w1.heap.size _ _ rfl (Own.alloc Hown.out _) _ y rfl (by simp [go_sem]) (by omega) (by simp; omega) ?_; intro v' w5 hown5 hg5; have Hown5 := Lib.hid hown5; have Hb5 := Lib.hid ((Hb.out.alloc hsz _).grown hg5 (by simp; omega) (fun r hr => (World.ownsRow.lt Hown.out r hr).1)); clear hown5 hg5)
          go_roundw
          case rel => exact ⟨k + 1, by omega, by go_num, by rw [Hps.out, if_pos hy]; exact Hown5.out, Hb5.out⟩
          case measure => simp [intOf]; omega
        · go_wp2
          go_roundw
          case rel => exact ⟨k + 1, by omega, by go_num, by rw [Hps.out, if_neg hy]; exact Hown.out, Hb.out⟩
          case measure => simp [intOf]; omega
      · obtain rfl : k = n := by omega
        go_wp2
        go_ret
        exact ⟨_, rfl, by rw [← Hfin.out]; exact Own.mono Hown.out (by omega), Hb1.out.trans (Hb.out.mono (by omega))⟩
end Go.Proofs.Ythgnbpiemkcdhaa
