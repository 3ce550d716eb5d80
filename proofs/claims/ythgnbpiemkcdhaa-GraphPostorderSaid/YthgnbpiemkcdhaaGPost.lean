/-
  Postorder: the nodes that are reachable from a root, in the order in which the search leaves them.
-/
import Derived.Test.YthgnbpiemkcdhaaGVisit
import Derived.Test.YthgnbpiemkcdhaaGRevs
namespace Go.Proofs.Ythgnbpiemkcdhaa
open Go.RowKit Go.Shelf
set_option linter.unusedVariables false
attribute [local go_sem] Oper.semAt_some run_store_func

set_option maxHeartbeats 4000000 in
set_option maxRecDepth 100000 in
theorem post_good (N : Nat) (a : Option Addr) (n c : Nat) (ps : List (Int × Int)) (hl : ps.length = n) (root : Nat) (w : World) (hE : Edg w a c ps) (hok : gchk (N : Int) ps = 0) (hr : root < N) :
    Calls Try.prog 28 #[.agg #[.int .i64 (N : Int), .slice a n c], .int .i64 (root : Int)] w fun e w' => ∃ r, e = .returned r ∧ Own w' w.heap.size r (postL N ps (root : Int)) ∧ Below w.heap.size w w' := by
  obtain ⟨i0, hi, hz0, hz1, hz2⟩ := info_parts (show (Try.prog.info? 4).map (fun i => (i.zero, i.size, i.bytes)) = some (some (.bool false), 1, 1) from by kernel_rfl)
  have hg := gchk_ok hok
  have hlen := hg.len
  have hN := hg.hi
  have hck : ∀ X, Below w.heap.size w X → Calls Try.prog 11 #[.agg #[.int .i64 N, .slice a n c]] X fun e w' => e = .returned (.int .i64 0) ∧ Below X.heap.size X w' := fun X hX => by
    have := check_any N a c ps X (by unfold maxLen; omega) (hE.below hX (Nat.le_refl _)).pairs
    rw [hok, hl] at this
    exact this
  have hnd : isNd (N : Int) (root : Int) = true := isNd_iff.2 ⟨by omega, by omega⟩
  have Hl := Lib.hid hl
  refine (callsIn_wide (n := 6)).1 ?_
  refine callsIn_of_wp Try.func28 rfl trivial ?_ rfl
  simp only [Try.ntmps28, List.size_toArray, List.length_cons, List.length_nil, Nat.reduceAdd, Nat.reduceSub, Array.replicate_succ, Array.replicate_zero, List.push_toArray, List.append_toArray, List.nil_append, List.cons_append]
  have hb0 := Lib.hid ((Below.refl w.heap.size w).alloc (Nat.le_refl _) (Obj.cells #[Value.int .i64 (N : Int), Value.slice a n c] 24))
  gi_wp2_with fail
  refine ⟨trivial, (callsIn_wide.2 (hck _ hb0.out)).mono ?_⟩
  rintro e w1 ⟨rfl, hb1⟩
  have hs1 : w.heap.size < w1.heap.size := by have := hb1.size; simp at this; omega
  have c0 := (hb1.cell (p := ⟨w.heap.size, 0, none⟩) (by simp)).trans (show _ = some (Value.int .i64 (N : Int)) by simp)
  have c1 := (hb1.cell (p := ⟨w.heap.size, 1, none⟩) (by simp)).trans (show _ = some (Value.slice a n c) by simp)
  have Hb1 := Lib.hid (hb0.out.trans (hb1.mono (by simp)))
  have HE := Lib.hid (hE.below Hb1.out (Nat.le_refl _))
  have Hg := Lib.hid hg
  have hnd' := isNode_at (N : Int) (root : Int)
  rw [hnd] at hnd'
  have Hnd := Lib.hid hnd'
  clear hb1 hl hE hck hg hok hnd hnd'
  have c0a : ∀ o, (w1.alloc o).cell? ⟨w.heap.size, 0, none⟩ = some (.int .i64 (N : Int)) := fun o => (((Below.refl w1.heap.size w1).alloc (Nat.le_refl _) o).cell (p := ⟨w.heap.size, 0, none⟩) hs1).trans c0
  gi_wp2_with (first
    | (refine ⟨trivial, ?_⟩; gi_at_call 30; refine (callsIn_wide.2 (Hnd.out _)).mono ?_; rintro e w1 ⟨rfl, rfl⟩)
    | (gi_at_make; refine wpListIn_make_full' _ rfl _ _ 56 rfl 0 4 i0 (.bool false) 1 Try.underlying56 hi hz0 hz1 _ _ _ _ N rfl rfl rfl rfl ?c1 ?c2 ?c3 ?_))
  case c1 => rw [hz2]; omega
  case c2 => unfold maxLen; omega
  case c3 => exact Nat.zero_le _
  intro w2 hown hg2
  have hb2 : Below w1.heap.size w1 w2 := ((Below.refl w1.heap.size w1).alloc (Nat.le_refl _) _).grown hg2 (by simp) (fun k hk => by cases hk)
  have hR := (World.ownsRow.lt hown (w1.heap.size + 1) rfl).2
  have bL : Boxed w2 w1.heap.size 29 (.slice none 0 0) := (Boxed.new w1 _ _).kept hg2 (by simp)
  have o : LO w1.heap.size (w1.heap.size + 1) w2.heap.size (w2.heap.size + 1) (w2.heap.size + 2) := ⟨rfl, hR, rfl, rfl⟩
  have bM := (Boxed.new w2 56 (.slice (some ⟨w1.heap.size + 1, 0, none⟩) N N)).alloc (.cells #[.func (.func 43) #[] #[.pointer (some ⟨w2.heap.size, 0, none⟩), .pointer (some ⟨w.heap.size, 0, none⟩), .pointer (some ⟨w2.heap.size + 1, 0, none⟩), .pointer (some ⟨w1.heap.size, 0, none⟩)]] 57)
  have bF := Boxed.new (w2.alloc (.cells #[.slice (some ⟨w1.heap.size + 1, 0, none⟩) N N] 56)) 57 (.func (.func 43) #[] #[.pointer (some ⟨w2.heap.size, 0, none⟩), .pointer (some ⟨w.heap.size, 0, none⟩), .pointer (some ⟨w2.heap.size + 1, 0, none⟩), .pointer (some ⟨w1.heap.size, 0, none⟩)])
  rw [World.size_alloc] at bF
  have hrow : RowB w2 0 (w1.heap.size + 1) (List.replicate N false) := by
    unfold RowB
    rw [List.length_replicate, show (List.replicate N false).map Value.bool = (madeCells #[Value.bool false] N).toList by rw [toList_madeCells_one]; simp]
    exact hown
  have hVR : VR w1 ((w2.alloc (.cells #[.slice (some ⟨w1.heap.size + 1, 0, none⟩) N N] 56)).alloc (.cells #[.func (.func 43) #[] #[.pointer (some ⟨w2.heap.size, 0, none⟩), .pointer (some ⟨w.heap.size, 0, none⟩), .pointer (some ⟨w2.heap.size + 1, 0, none⟩), .pointer (some ⟨w1.heap.size, 0, none⟩)]] 57)) w1.heap.size (w1.heap.size + 1) w2.heap.size (w2.heap.size + 1) w.heap.size N (w2.heap.size + 2) (.slice none 0 0) (List.replicate N false, []) :=
    ⟨⟨(bL.alloc _).alloc _, World.ownsRow_nil _ _ _ _, bM, (hrow.alloc _).alloc _, by simp, by omega, by simp⟩, bF, (hb2.alloc (by omega) _).alloc (by simp; omega) _⟩
  have hvis := visit_any N n c a ps w1 w1.heap.size (w1.heap.size + 1) w2.heap.size (w2.heap.size + 1) w.heap.size (w2.heap.size + 2) o hs1 (Nat.le_refl _) Hg.out Hl.out HE.out c0 c1 N N (Nat.le_refl _) (root : Int) (List.replicate N false, []) (.slice none 0 0) _ hVR (by omega) (by omega) (by rw [Int.toNat_natCast]; simp [List.getD_eq_getElem?_getD, hr]) (dok_start N)
  have Hvis := Lib.hid hvis
  have hsz2 : w1.heap.size ≤ w2.heap.size := hb2.size
  clear hown hg2 hb2 bL bM bF hrow hVR hvis c0a
  gi_wp2_with (refine ⟨trivial, ?_⟩; gi_at_call 43; refine (callsIn_wide.2 Hvis.out).mono ?_; rintro e W' ⟨rfl, u', hV', hF'⟩; have dL := hV'.rs.box.cell)
  refine bodyPost_ret (results_tmp rfl _ _ _) rfl ?_
  exact ⟨_, rfl, Own.mono hV'.rs.own (by omega), Hb1.out.trans (hV'.below.mono (Nat.le_of_lt hs1))⟩

set_option maxHeartbeats 1000000 in
theorem post_bad (N : Int) (a : Option Addr) (n c : Nat) (ps : List (Int × Int)) (hl : ps.length = n) (root : Int) (w : World) (hn : n ≤ maxLen) (hE : Pairs w a ps) (k : Int) (hk : gchk N ps = k) (hbad : k ≠ 0 ∨ isNd N root = false) :
    Calls Try.prog 28 #[.agg #[.int .i64 N, .slice a n c], .int .i64 root] w fun e w' => e = .returned (.slice none 0 0) ∧ Below w.heap.size w w' := by
  have hb0 := (Below.refl w.heap.size w).alloc (Nat.le_refl _) (Obj.cells #[Value.int .i64 N, Value.slice a n c] 24)
  have hck := chk_at N a n c ps k hk (w.alloc (Obj.cells #[Value.int .i64 N, Value.slice a n c] 24)) hl hn (hE.below hb0 (Nat.le_refl _))
  have Hb0 := Lib.hid hb0
  have Hck := Lib.hid hck
  clear hck hb0 hE hl hk hn
  by_cases hk0 : k = 0
  · subst hk0
    have hnd : isNd N root = false := by
      rcases hbad with h | h
      · exact absurd rfl h
      · exact h
    clear hbad
    go_enter Try.func28, Try.ntmps28
    go_wp2_with (first
      | (go_at_call 11; refine Hck.out.mono ?_; rintro e w1 ⟨rfl, hb1⟩; have Hb1 := Lib.hid hb1; have g0 := (hb1.cell (p := ⟨w.heap.size, 0, none⟩) (by simp)).trans (show _ = some (Value.int .i64 N) by simp); clear hb1)
      | (go_at_call 30; refine (isNode_at N _ _).mono ?_; rintro e w1 ⟨rfl, rfl⟩))
    go_ret
    exact ⟨rfl, Hb0.out.trans (Hb1.out.mono (by simp))⟩
  · have hd4 : (k != 0) = true := by rw [bne_iff_ne]; exact hk0
    clear hbad
    go_enter Try.func28, Try.ntmps28
    go_wp2_with (go_at_call 11; refine Hck.out.mono ?_; rintro e w1 ⟨rfl, hb1⟩; have Hb1 := Lib.hid hb1; clear hb1)
    go_ret
    exact ⟨rfl, Hb0.out.trans (Hb1.out.mono (by simp))⟩
end Go.Proofs.Ythgnbpiemkcdhaa
