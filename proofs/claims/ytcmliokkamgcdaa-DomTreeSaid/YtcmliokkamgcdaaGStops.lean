/-
  The iterator over the successors as a contract for loops; successors itself; Succ.
-/
import Derived.Test.YtcmliokkamgcdaaGIter
import Derived.RangeFuncBox
import Derived.Maps.AppendAt
namespace Go.Proofs.Ytcmliokkamgcdaa
open Go.RowKit Go.Shelf
set_option linter.unusedVariables false
attribute [local go_sem] Oper.semAt_some

set_option maxRecDepth 100000 in
set_option maxHeartbeats 4000000 in
theorem iter_nil_in (n : Nat) (hn : 1 ≤ n) (l bg bv : Nat) (a : Option Addr) (c : Nat) (v : Int) (hnil : a = none → c = 0) (J : List Int → World → Prop) (W : World)
    (hJ : AbidesFrom W.heap.size J) (hg0 : W.cell? ⟨bg, 1, none⟩ = some (.slice a 0 c)) (hv0 : W.cell? ⟨bv, 0, none⟩ = some (.int .i64 v)) (h0 : J [] W) :
    CallsIn Fence.wide n Try.prog 75 #[.func (.yield l) #[] #[], .pointer (some ⟨bg, 0, none⟩), .pointer (some ⟨bv, 0, none⟩)] W fun e W' => (∃ v, e = .returned v) ∧ J [] W' := by
  refine callsIn_of_wp Try.func75 rfl trivial ?_ rfl
  simp only [Try.ntmps75, List.size_toArray, List.length_cons, List.length_nil, Nat.reduceAdd, Nat.reduceSub, Array.replicate_succ, Array.replicate_zero, List.push_toArray, List.append_toArray, List.nil_append, List.cons_append]
  gi_wp2_with fail
  refine ⟨trivial, (callsIn_wide.2 (search_any a c [] v W (by simp) (fun i j _ hj => by simp at hj) (fun h => absurd h (by simp)))).mono ?_⟩
  rintro e w1 ⟨i0, f, rfl, hi0, hlo, hhi, hb1⟩
  obtain rfl : i0 = 0 := by simpa using hi0
  have hJ1 : J [] w1 := hJ [] W w1 none h0 (grown_of_below hb1) (fun r e => by cases e)
  have hg1 := (hb1.cell (p := ⟨bg, 1, none⟩) (World.block_lt_of_cell? _ _ hg0)).trans hg0
  have hv1 := (hb1.cell (p := ⟨bv, 0, none⟩) (World.block_lt_of_cell? _ _ hv0)).trans hv0
  have HJ1 := Lib.hid hJ1
  clear hg0 hv0 h0 hlo hhi hb1 hJ hJ1 hi0
  rcases a with _ | a
  · obtain rfl := hnil rfl
    clear hnil
    gi_wp2
    gi_loopw [20] (fun i wr => i = .int .i64 0 ∧ wr = w1) (fun _ _ => 0)
    case atStart => exact ⟨rfl, rfl⟩
    case round =>
      obtain ⟨rfl, rfl⟩ := hrel
      gi_wp2
      go_end0
      exact ⟨⟨_, rfl⟩, HJ1.out⟩
  · clear hnil
    by_cases hcc : c = 0
    all_goals
      gi_wp2
      gi_loopw [20] (fun i wr => i = .int .i64 0 ∧ wr = w1) (fun _ _ => 0)
      case atStart => exact ⟨rfl, rfl⟩
      case round =>
        obtain ⟨rfl, rfl⟩ := hrel
        gi_wp2
        go_end0
        exact ⟨⟨_, rfl⟩, HJ1.out⟩

/-- A slice of edges, as an argument or a result. -/
structure Edg (w : World) (a : Option Addr) (c : Nat) (ps : List (Int × Int)) : Prop where
  pairs : Pairs w a ps
  cap : ps.length ≤ c
  max : c ≤ maxLen
  nil : a = none → c = 0
theorem Edg.below {w w' : World} {a : Option Addr} {c B : Nat} {ps : List (Int × Int)} (h : Edg w a c ps) (hb : Below B w w') (hB : w.heap.size ≤ B) : Edg w' a c ps := ⟨h.pairs.below hb hB, h.cap, h.max, h.nil⟩

/-- The block of the edges, if there are any. -/
def blk (a : Option Addr) (d : Nat) : Nat := match a with | some x => x.block | none => d

theorem succ_stops (n : Nat) (hn : 1 ≤ n) (bg bv : Nat) (a : Option Addr) (c : Nat) (v : Int) (ps : List (Int × Int)) (hm : Mono ps) (hlen : ps.length ≤ 32768) (w : World)
    (hE : Edg w a c ps) (hg0 : w.cell? ⟨bg, 1, none⟩ = some (.slice a ps.length c)) (hv0 : w.cell? ⟨bv, 0, none⟩ = some (.int .i64 v)) :
    ∃ be, be < w.heap.size ∧ (ps = [] → be = bg) ∧ (ps ≠ [] → be = blk a bg) ∧ SeqStopsK Fence.wide n Try.prog 75 #[.pointer (some ⟨bg, 0, none⟩), .pointer (some ⟨bv, 0, none⟩)] (fun x : Int => #[Value.int .i64 x]) (KpG bg bv be) (fun ys => ys = succL ps v) (fun pre => pre <+: succL ps v) 40000 w := by
  have lg := World.block_lt_of_cell? _ _ hg0
  have lv := World.block_lt_of_cell? _ _ hv0
  by_cases h0 : ps = []
  · subst h0
    refine ⟨bg, lg, fun _ => rfl, fun h => absurd rfl h, ?_⟩
    intro l J Jx W hW hJ hJx hY hj
    have g1 := (hW.cell (p := ⟨bg, 1, none⟩) lg).trans hg0
    have v1 := (hW.cell (p := ⟨bv, 0, none⟩) lv).trans hv0
    exact (iter_nil_in n hn l bg bv a c v hE.nil J W hJ g1 v1 hj).mono fun e W' ⟨he, hj⟩ => ⟨he, .inl ⟨_, rfl, hj⟩⟩
  · obtain ⟨be, off, rfl, hp⟩ := hE.pairs (List.length_pos_iff.2 h0)
    have lb := World.block_lt_of_cell? _ _ (hp 0 (List.length_pos_iff.2 h0)).1
    refine ⟨be, lb, fun h => absurd h h0, fun _ => rfl, ?_⟩
    intro l J Jx W hW hJ hJx hY hj
    have g1 := (hW.cell (p := ⟨bg, 1, none⟩) lg).trans hg0
    have v1 := (hW.cell (p := ⟨bv, 0, none⟩) lv).trans hv0
    exact iter_in (fun _ => True) n hn l bg bv be off c 0 v ps hm hlen hE.cap J Jx W hJ (fun _ _ => trivial) (fun pre x W1 _ hj hl => hY pre x W1 hj hl) g1 v1 (fun i hi => ⟨(hW.cell (p := ⟨be, off + i * 2, none⟩) lb).trans (hp i hi).1, (hW.cell (p := ⟨be, off + i * 2 + 1, none⟩) lb).trans (hp i hi).2⟩) (Nat.lt_of_lt_of_le lb hW.size) hj

/-- The same, the body being told that what it is handed has the property P. -/
theorem succ_stopsP (P : Int → Prop) (n : Nat) (hn : 1 ≤ n) (bg bv : Nat) (a : Option Addr) (c : Nat) (v : Int) (ps : List (Int × Int)) (hm : Mono ps) (hP : ∀ i, i < ps.length → P (ps.getD i (0, 0)).2) (hlen : ps.length ≤ 32768) (w : World)
    (hE : Edg w a c ps) (hg0 : w.cell? ⟨bg, 1, none⟩ = some (.slice a ps.length c)) (hv0 : w.cell? ⟨bv, 0, none⟩ = some (.int .i64 v)) :
    ∃ be, be < w.heap.size ∧ (ps = [] → be = bg) ∧ (ps ≠ [] → be = blk a bg) ∧ SeqStopsK Fence.wide n Try.prog 75 #[.pointer (some ⟨bg, 0, none⟩), .pointer (some ⟨bv, 0, none⟩)] (fun x : { x : Int // P x } => #[Value.int .i64 x.1]) (KpG bg bv be) (fun ys => ys.map Subtype.val = succL ps v) (fun pre => pre.map Subtype.val <+: succL ps v) 40000 w := by
  have lg := World.block_lt_of_cell? _ _ hg0
  have lv := World.block_lt_of_cell? _ _ hv0
  by_cases h0 : ps = []
  · subst h0
    refine ⟨bg, lg, fun _ => rfl, fun h => absurd rfl h, ?_⟩
    intro l J Jx W hW hJ hJx hY hj
    have g1 := (hW.cell (p := ⟨bg, 1, none⟩) lg).trans hg0
    have v1 := (hW.cell (p := ⟨bv, 0, none⟩) lv).trans hv0
    have hJ2 : AbidesFrom W.heap.size (fun (pre : List Int) W => pre = [] ∧ J [] W) := fun s A B row hs hg hr => ⟨hs.1, hJ _ _ _ _ hs.2 hg hr⟩
    exact (iter_nil_in n hn l bg bv a c v hE.nil (fun pre W => pre = [] ∧ J [] W) W hJ2 g1 v1 ⟨rfl, hj⟩).mono fun e W' ⟨he, hj⟩ => ⟨he, .inl ⟨[], rfl, hj.2⟩⟩
  · obtain ⟨be, off, rfl, hp⟩ := hE.pairs (List.length_pos_iff.2 h0)
    have lb := World.block_lt_of_cell? _ _ (hp 0 (List.length_pos_iff.2 h0)).1
    refine ⟨be, lb, fun h => absurd h h0, fun _ => rfl, ?_⟩
    intro l J Jx W hW hJ hJx hY hj
    have g1 := (hW.cell (p := ⟨bg, 1, none⟩) lg).trans hg0
    have v1 := (hW.cell (p := ⟨bv, 0, none⟩) lv).trans hv0
    have hJ2 : AbidesFrom W.heap.size (fun (pre : List Int) W => ∃ qs : List { x : Int // P x }, qs.map Subtype.val = pre ∧ J qs W) := fun s A B row ⟨qs, h1, h2⟩ hg hr => ⟨qs, h1, hJ _ _ _ _ h2 hg hr⟩
    refine (iter_in P n hn l bg bv be off c 0 v ps hm hlen hE.cap (fun pre W => ∃ qs : List { x : Int // P x }, qs.map Subtype.val = pre ∧ J qs W) (fun pre W => ∃ qs : List { x : Int // P x }, qs.map Subtype.val = pre ∧ Jx qs W) W hJ2 hP (fun pre x W1 hx ⟨qs, hq, hj⟩ hl => ?_) g1 v1
      (fun i hi => ⟨(hW.cell (p := ⟨be, off + i * 2, none⟩) lb).trans (hp i hi).1, (hW.cell (p := ⟨be, off + i * 2 + 1, none⟩) lb).trans (hp i hi).2⟩) (Nat.lt_of_lt_of_le lb hW.size) ⟨[], rfl, hj⟩).mono ?_
    · refine (hY qs ⟨x, hx⟩ W1 hj (by rw [← hq] at hl; simpa using hl)).mono ?_
      rintro e W' (⟨he, h1, h2⟩ | ⟨he, h1⟩)
      · exact .inl ⟨he, ⟨_, by simp [hq], h1⟩, h2⟩
      · exact .inr ⟨he, ⟨_, by simp [hq], h1⟩⟩
    · rintro e W' ⟨he, ⟨ys, hys, qs, hq, h1⟩ | ⟨pre, hpre, qs, hq, h1⟩⟩
      · exact ⟨he, .inl ⟨qs, hq.trans hys, h1⟩⟩
      · exact ⟨he, .inr ⟨qs, by show List.map Subtype.val qs <+: _; rw [hq]; exact hpre, h1⟩⟩

set_option maxHeartbeats 1000000 in
theorem successors_any (N : Int) (a : Option Addr) (m c : Nat) (v : Int) (w : World) :
    Calls Try.prog 57 #[.agg #[.int .i64 N, .slice a m c], .int .i64 v] w fun e w' => e = .returned (.func (.func 75) #[] #[.pointer (some ⟨w.heap.size, 0, none⟩), .pointer (some ⟨w.heap.size + 1, 0, none⟩)]) ∧
      w' = (w.alloc (.cells #[.int .i64 N, .slice a m c] 24)).alloc (.cells #[.int .i64 v] 3) := by
  go_enter Try.func57, Try.ntmps57
  go_wp2
  go_ret
  exact ⟨rfl, rfl⟩
end Go.Proofs.Ytcmliokkamgcdaa
