/-
  The components of a valid graph, in the order in which the search leaves them.
-/
import Derived.Test.YtopbbihbpalnlaaSVisitA
import Derived.Test.YtopbbihbpalnlaaSTop
import Derived.Test.YtopbbihbpalnlaaSSucc
import Derived.Test.YtopbbihbpalnlaaGSortI
namespace Go.Proofs.Ytopbbihbpalnlaa
open Go.RowKit
set_option linter.unusedVariables false

/-- The successors of a node as natural numbers. -/
def suN (ps : List (Int × Int)) (v : Nat) : List Nat := (succL ps (v : Int)).map Int.toNat
theorem mem_succL {ps : List (Int × Int)} {v y : Int} (h : y ∈ succL ps v) : ∃ i, i < ps.length ∧ ps.getD i (0, 0) = (v, y) := by
  unfold succL at h
  obtain ⟨e, he, rfl⟩ := List.mem_map.mp h
  obtain ⟨he1, he2⟩ := List.mem_filter.mp he
  obtain ⟨i, hi, rfl⟩ := List.getElem_of_mem he1
  refine ⟨i, hi, ?_⟩
  have : ps[i].1 = v := by simpa using he2
  rw [List.getD_eq_getElem?_getD, List.getElem?_eq_getElem hi]
  show ps[i] = _
  rw [← this]
theorem ni_suN {N : Nat} {ps : List (Int × Int)} (hg : GOk (N : Int) ps) (v : Nat) : ni (suN ps v) = succL ps (v : Int) := by
  unfold ni suN
  rw [List.map_map]
  conv => rhs; rw [← List.map_id (succL ps (v : Int))]
  refine List.map_congr_left fun y hy => ?_
  obtain ⟨i, hi, e⟩ := mem_succL hy
  have := (hg.node i hi).2
  rw [e] at this
  show ((y.toNat : Nat) : Int) = y
  omega
theorem suN_lt {N : Nat} {ps : List (Int × Int)} (hg : GOk (N : Int) ps) (x : Nat) : ∀ y ∈ suN ps x, y < N := by
  intro y hy
  obtain ⟨z, hz, rfl⟩ := List.mem_map.mp hy
  obtain ⟨i, hi, e⟩ := mem_succL hz
  have := (hg.node i hi).2
  rw [e] at this
  have h2 := this.2
  have h1 := this.1
  simp at h1 h2
  omega
theorem suN_len (ps : List (Int × Int)) (v : Nat) : (suN ps v).length ≤ ps.length := by
  unfold suN succL
  rw [List.length_map, List.length_map]
  exact List.length_filter_le _ _

def CompsEnd (w : World) (N : Nat) (ps : List (Int × Int)) (e : Ending) (w' : World) : Prop :=
  ∃ u vs, e = .returned u ∧ Rws w' w.heap.size u vs ((compL N (suN ps) srt).map ni) ∧ Below w.heap.size w w'

theorem below_of_fix {X W : World} {n1 C O R T base : Nat} (h : Fix X W n1 C O R T) (h0 : base ≤ n1) (h1 : base ≤ C) (h2 : base ≤ O) (h3 : base ≤ R) (h4 : base ≤ T) : Below base X W :=
  ⟨h.os, h.tape, h.output, h.size, fun q hq => h.block q (by omega) (by omega) (by omega) (by omega) (by omega)⟩
theorem scc_store_func {P : Program} {w : World} {a : Addr} {m : Mode} (fn : Fn) (x y : Array Value) : (store a (.func fn x y) m).run P w = stored P w a (.func fn x y) m := run_store P w a _ m rfl
attribute [local go_sem] scc_store_func
/-- Six boxes laid one behind the other. -/
theorem six_boxes (w : World) (v1 v2 v3 v4 v5 v6 : Value) (t1 t2 t3 t4 t5 t6 : TypeId) :
    Boxed ((((((w.alloc (.cells #[v1] t1)).alloc (.cells #[v2] t2)).alloc (.cells #[v3] t3)).alloc (.cells #[v4] t4)).alloc (.cells #[v5] t5)).alloc (.cells #[v6] t6)) w.heap.size t1 v1 ∧
    Boxed ((((((w.alloc (.cells #[v1] t1)).alloc (.cells #[v2] t2)).alloc (.cells #[v3] t3)).alloc (.cells #[v4] t4)).alloc (.cells #[v5] t5)).alloc (.cells #[v6] t6)) (w.heap.size + 1) t2 v2 ∧
    Boxed ((((((w.alloc (.cells #[v1] t1)).alloc (.cells #[v2] t2)).alloc (.cells #[v3] t3)).alloc (.cells #[v4] t4)).alloc (.cells #[v5] t5)).alloc (.cells #[v6] t6)) (w.heap.size + 1 + 1) t3 v3 ∧
    Boxed ((((((w.alloc (.cells #[v1] t1)).alloc (.cells #[v2] t2)).alloc (.cells #[v3] t3)).alloc (.cells #[v4] t4)).alloc (.cells #[v5] t5)).alloc (.cells #[v6] t6)) (w.heap.size + 1 + 1 + 1) t4 v4 ∧
    Boxed ((((((w.alloc (.cells #[v1] t1)).alloc (.cells #[v2] t2)).alloc (.cells #[v3] t3)).alloc (.cells #[v4] t4)).alloc (.cells #[v5] t5)).alloc (.cells #[v6] t6)) (w.heap.size + 1 + 1 + 1 + 1) t5 v5 ∧
    Boxed ((((((w.alloc (.cells #[v1] t1)).alloc (.cells #[v2] t2)).alloc (.cells #[v3] t3)).alloc (.cells #[v4] t4)).alloc (.cells #[v5] t5)).alloc (.cells #[v6] t6)) (w.heap.size + 1 + 1 + 1 + 1 + 1) t6 v6 ∧
    ((((((w.alloc (.cells #[v1] t1)).alloc (.cells #[v2] t2)).alloc (.cells #[v3] t3)).alloc (.cells #[v4] t4)).alloc (.cells #[v5] t5)).alloc (.cells #[v6] t6)).heap.size = w.heap.size + 1 + 1 + 1 + 1 + 1 + 1 ∧
    Below w.heap.size w ((((((w.alloc (.cells #[v1] t1)).alloc (.cells #[v2] t2)).alloc (.cells #[v3] t3)).alloc (.cells #[v4] t4)).alloc (.cells #[v5] t5)).alloc (.cells #[v6] t6)) := by
  have h1 := Boxed.new w t1 v1
  have h2 := Boxed.new (w.alloc (.cells #[v1] t1)) t2 v2
  have h3 := Boxed.new ((w.alloc (.cells #[v1] t1)).alloc (.cells #[v2] t2)) t3 v3
  have h4 := Boxed.new (((w.alloc (.cells #[v1] t1)).alloc (.cells #[v2] t2)).alloc (.cells #[v3] t3)) t4 v4
  have h5 := Boxed.new ((((w.alloc (.cells #[v1] t1)).alloc (.cells #[v2] t2)).alloc (.cells #[v3] t3)).alloc (.cells #[v4] t4)) t5 v5
  have h6 := Boxed.new (((((w.alloc (.cells #[v1] t1)).alloc (.cells #[v2] t2)).alloc (.cells #[v3] t3)).alloc (.cells #[v4] t4)).alloc (.cells #[v5] t5)) t6 v6
  simp only [World.size_alloc] at h2 h3 h4 h5 h6
  refine ⟨((((h1.alloc _).alloc _).alloc _).alloc _).alloc _, (((h2.alloc _).alloc _).alloc _).alloc _, ((h3.alloc _).alloc _).alloc _, (h4.alloc _).alloc _, h5.alloc _, h6, by simp only [World.size_alloc], ?_⟩
  have k := (Below.refl w.heap.size w)
  exact (((((k.alloc (Nat.le_refl _) _).alloc (by simp <;> omega) _).alloc (by simp <;> omega) _).alloc (by simp <;> omega) _).alloc (by simp <;> omega) _).alloc (by simp <;> omega) _
theorem su_of {w2 W : World} {base G cap N : Nat} {vs : List Value} {ps : List (Int × Int)} (h : Rws w2 base (.slice (some ⟨G, 0, none⟩) vs.length cap) vs (listsL N ps)) (hvs : vs.length = N) (hg : GOk (N : Int) ps) (hb : Below w2.heap.size w2 W) (hG : G < w2.heap.size) (box : Boxed W w2.heap.size 27 (.slice (some ⟨G, 0, none⟩) N N)) : SU W G w2.heap.size N N (suN ps) := by
  refine ⟨box, hG, fun v hv => ?_, fun v hv => Nat.le_trans (suN_len ps v) (Nat.le_trans hg.len (by decide))⟩
  obtain ⟨a, c, hc, _, hz, _⟩ := h.at_ (i := v) (by rw [length_listsL]; exact hv)
  rw [getD_listsL hv, ← ni_suN hg v] at hc hz
  rw [ni_len] at hc
  refine ⟨a, c, (hb.cell hG).trans hc, fun h0 => ?_⟩
  obtain ⟨b, off, e, hx⟩ := hz (by rw [ni_len]; exact h0)
  have hlt : b < w2.heap.size := World.block_lt_of_cell? w2 _ (hx 0 (by rw [ni_len]; exact h0))
  refine ⟨b, off, e, hlt, fun i hi => ?_⟩
  have := hx i (by rw [ni_len]; exact hi)
  rw [ni_at] at this
  exact (hb.cell (p := ⟨b, off + i, none⟩) hlt).trans this

set_option maxHeartbeats 4000000 in
set_option maxRecDepth 100000 in
theorem comps_pairs (N : Nat) (a : Option Addr) (n c : Nat) (ps : List (Int × Int)) (hl : ps.length = n) (w : World) (hE : Pairs w a ps) (hg : GOk (N : Int) ps) :
    Calls Try.prog 31 #[.agg #[.int .i64 (N : Int), .slice a n c]] w (CompsEnd w N ps) := by
  obtain ⟨i0, hi, hz0, hz1, hz2⟩ := info_parts int_info
  have hlen := hg.len
  have hN := hg.hi
  rw [hl] at hlen
  obtain ⟨w1, hw1⟩ : ∃ w1, w.alloc (Obj.cells #[Value.int .i64 (N : Int), Value.slice a n c] 24) = w1 := ⟨_, rfl⟩
  have hb1 : Below w.heap.size w w1 := by rw [← hw1]; exact (Below.refl w.heap.size w).alloc (Nat.le_refl _) _
  have hs1 : w.heap.size < w1.heap.size := by rw [← hw1]; simp
  have c0 : w1.cell? ⟨w.heap.size, 0, none⟩ = some (.int .i64 (N : Int)) := by rw [← hw1]; simp [go_sem]
  have Hb1 := Lib.hid hb1
  have HE := Lib.hid hE
  have Hl := Lib.hid hl
  have Hg := Lib.hid hg
  have Hw1 := Lib.hid hw1
  clear hE hl hg hw1 hb1
  go_enter Try.func31, Try.ntmps31
  go_wp2_with fail
  rw [Hw1.out]
  refine (succs_pairs N a n c ps Hl.out _ (HE.out.below Hb1.out (Nat.le_refl _)) Hg.out).mono ?_
  rintro e w2 ⟨G, vs, rfl, hvs, hrw, hb2⟩
  have hs2 := hb2.size
  have hGlt := (World.ownsRow.lt hrw.own G rfl).2
  have hb3 : Below w2.heap.size w2 (w2.alloc (Obj.cells #[Value.slice (some ⟨G, 0, none⟩) N N] 27)) := (Below.refl _ _).alloc (Nat.le_refl _) _
  have bS : Boxed (w2.alloc (Obj.cells #[Value.slice (some ⟨G, 0, none⟩) N N] 27)) w2.heap.size 27 (.slice (some ⟨G, 0, none⟩) N N) := Boxed.new _ _ _
  have d0 : (w2.alloc (Obj.cells #[Value.slice (some ⟨G, 0, none⟩) N N] 27)).cell? ⟨w.heap.size, 0, none⟩ = some (.int .i64 (N : Int)) := (hb3.cell (by show w.heap.size < w2.heap.size; omega)).trans ((hb2.cell (by show w.heap.size < w1.heap.size; omega)).trans c0)
  have Hrw := Lib.hid hrw
  have Hb2 := Lib.hid hb2
  have HbS := Lib.hid bS
  have Hvs := Lib.hid hvs
  clear hrw hb2 hb3 bS hvs c0
  go_wp2_with (at_make; refine wpList_make_full _ rfl _ _ 31 rfl w2.heap.size 3 i0 (.int .i64 0) 1 Try.underlying31 hi hz0 hz1 _ _ _ _ N rfl rfl rfl rfl ?c1 ?c2 ?c3 ?_)
  case c1 => rw [hz2]; omega
  case c2 => unfold maxLen; omega
  case c3 => simp
  intro w3 hown hg3
  have hrep : (madeCells #[Value.int .i64 0] N).toList = (ni (startS N).least).map (Value.int .i64) := by rw [toList_madeCells_one]; simp [ni, startS]
  have hR0 : Row w3 w2.heap.size (w2.heap.size + 1) N (ni (startS N).least) := by
    unfold Row
    rw [← hrep, ni_len]
    simpa [startS] using hown
  have d03 : w3.cell? ⟨w.heap.size, 0, none⟩ = some (.int .i64 (N : Int)) := (World.cell?_of_block (hg3.block w.heap.size (by simp <;> omega) (by simp))).trans d0
  have hz3 := hg3.size
  rw [World.size_alloc] at hz3
  have d1 : (w3.alloc (Obj.cells #[Value.slice (some ⟨w2.heap.size + 1, 0, none⟩) N N] 31)).cell? ⟨w.heap.size, 0, none⟩ = some (.int .i64 (N : Int)) := (World.cell?_of_block ((World.grownBy_alloc w3 _ none).block w.heap.size (by omega) (by simp))).trans d03
  have hRlt := (World.ownsRow.lt hown (w2.heap.size + 1) (by simp [Value.ownBlock])).2
  clear hown hrep
  obtain ⟨kB, kK, kT, kO, kC, kV, kz, kb⟩ := six_boxes w3 (.slice (some ⟨w2.heap.size + 1, 0, none⟩) N N) (.int .i64 ((N : Int) + 1)) (.slice none 0 0) (.slice none 0 0) (.int .i64 0) (Value.func (.func 51) #[] #[.pointer (some ⟨w3.heap.size + 1 + 1 + 1 + 1, 0, none⟩), .pointer (some ⟨w3.heap.size + 1 + 1 + 1, 0, none⟩), .pointer (some ⟨w3.heap.size, 0, none⟩), .pointer (some ⟨w2.heap.size, 0, none⟩), .pointer (some ⟨w3.heap.size + 1 + 1 + 1 + 1 + 1, 0, none⟩), .pointer (some ⟨w3.heap.size + 1, 0, none⟩), .pointer (some ⟨w3.heap.size + 1 + 1, 0, none⟩)]) 31 3 27 31 3 66
  have dN := (kb.cell (p := ⟨w.heap.size, 0, none⟩) (by show w.heap.size < w3.heap.size; omega)).trans d03
  have b3 : Below w2.heap.size w2 w3 := ((Below.refl _ _).alloc (Nat.le_refl _) _).grown hg3 (by simp) (fun k hk => by cases hk)
  have bW : Below w2.heap.size w2 ((((((w3.alloc (Obj.cells #[Value.slice (some ⟨w2.heap.size + 1, 0, none⟩) N N] 31)).alloc (Obj.cells #[Value.int .i64 ((N : Int) + 1)] 3)).alloc (Obj.cells #[Value.slice none 0 0] 27)).alloc (Obj.cells #[Value.slice none 0 0] 31)).alloc (Obj.cells #[Value.int .i64 0] 3)).alloc (Obj.cells #[(Value.func (.func 51) #[] #[.pointer (some ⟨w3.heap.size + 1 + 1 + 1 + 1, 0, none⟩), .pointer (some ⟨w3.heap.size + 1 + 1 + 1, 0, none⟩), .pointer (some ⟨w3.heap.size, 0, none⟩), .pointer (some ⟨w2.heap.size, 0, none⟩), .pointer (some ⟨w3.heap.size + 1 + 1 + 1 + 1 + 1, 0, none⟩), .pointer (some ⟨w3.heap.size + 1, 0, none⟩), .pointer (some ⟨w3.heap.size + 1 + 1, 0, none⟩)])] 66)) := b3.trans (kb.mono (by omega))
  have xS := ((((((HbS.out.kept hg3 (by simp)).alloc (Obj.cells #[Value.slice (some ⟨w2.heap.size + 1, 0, none⟩) N N] 31)).alloc (Obj.cells #[Value.int .i64 ((N : Int) + 1)] 3)).alloc (Obj.cells #[Value.slice none 0 0] 27)).alloc (Obj.cells #[Value.slice none 0 0] 31)).alloc (Obj.cells #[Value.int .i64 0] 3)).alloc (Obj.cells #[(Value.func (.func 51) #[] #[.pointer (some ⟨w3.heap.size + 1 + 1 + 1 + 1, 0, none⟩), .pointer (some ⟨w3.heap.size + 1 + 1 + 1, 0, none⟩), .pointer (some ⟨w3.heap.size, 0, none⟩), .pointer (some ⟨w2.heap.size, 0, none⟩), .pointer (some ⟨w3.heap.size + 1 + 1 + 1 + 1 + 1, 0, none⟩), .pointer (some ⟨w3.heap.size + 1, 0, none⟩), .pointer (some ⟨w3.heap.size + 1 + 1, 0, none⟩)])] 66)
  have xR := (((((hR0.alloc (Obj.cells #[Value.slice (some ⟨w2.heap.size + 1, 0, none⟩) N N] 31)).alloc (Obj.cells #[Value.int .i64 ((N : Int) + 1)] 3)).alloc (Obj.cells #[Value.slice none 0 0] 27)).alloc (Obj.cells #[Value.slice none 0 0] 31)).alloc (Obj.cells #[Value.int .i64 0] 3)).alloc (Obj.cells #[(Value.func (.func 51) #[] #[.pointer (some ⟨w3.heap.size + 1 + 1 + 1 + 1, 0, none⟩), .pointer (some ⟨w3.heap.size + 1 + 1 + 1, 0, none⟩), .pointer (some ⟨w3.heap.size, 0, none⟩), .pointer (some ⟨w2.heap.size, 0, none⟩), .pointer (some ⟨w3.heap.size + 1 + 1 + 1 + 1 + 1, 0, none⟩), .pointer (some ⟨w3.heap.size + 1, 0, none⟩), .pointer (some ⟨w3.heap.size + 1 + 1, 0, none⟩)])] 66)
  have ld : LD (w2.heap.size) (w2.heap.size + 1) (w3.heap.size) (w3.heap.size + 1) (w3.heap.size + 1 + 1) (w3.heap.size + 1 + 1 + 1) (w3.heap.size + 1 + 1 + 1 + 1) (w3.heap.size + 1 + 1 + 1 + 1 + 1) (w3.heap.size + 1 + 1 + 1 + 1 + 1 + 1) := ⟨by omega, by omega, by omega, by omega, by omega, by omega, by omega, by omega⟩
  have hSU := su_of Hrw.out Hvs.out Hg.out bW (by have := hGlt; omega) xS
  have hCap : Cap ((((((w3.alloc (Obj.cells #[Value.slice (some ⟨w2.heap.size + 1, 0, none⟩) N N] 31)).alloc (Obj.cells #[Value.int .i64 ((N : Int) + 1)] 3)).alloc (Obj.cells #[Value.slice none 0 0] 27)).alloc (Obj.cells #[Value.slice none 0 0] 31)).alloc (Obj.cells #[Value.int .i64 0] 3)).alloc (Obj.cells #[(Value.func (.func 51) #[] #[.pointer (some ⟨w3.heap.size + 1 + 1 + 1 + 1, 0, none⟩), .pointer (some ⟨w3.heap.size + 1 + 1 + 1, 0, none⟩), .pointer (some ⟨w3.heap.size, 0, none⟩), .pointer (some ⟨w2.heap.size, 0, none⟩), .pointer (some ⟨w3.heap.size + 1 + 1 + 1 + 1 + 1, 0, none⟩), .pointer (some ⟨w3.heap.size + 1, 0, none⟩), .pointer (some ⟨w3.heap.size + 1 + 1, 0, none⟩)])] 66)) (w2.heap.size) (w2.heap.size + 1) (w3.heap.size) (w3.heap.size + 1) (w3.heap.size + 1 + 1) (w3.heap.size + 1 + 1 + 1) (w3.heap.size + 1 + 1 + 1 + 1) (w3.heap.size + 1 + 1 + 1 + 1 + 1) (w3.heap.size + 1 + 1 + 1 + 1 + 1 + 1) N := ⟨kB, by rw [Int.natCast_succ]; exact kK, kV⟩
  have hTS : TS ((((((w3.alloc (Obj.cells #[Value.slice (some ⟨w2.heap.size + 1, 0, none⟩) N N] 31)).alloc (Obj.cells #[Value.int .i64 ((N : Int) + 1)] 3)).alloc (Obj.cells #[Value.slice none 0 0] 27)).alloc (Obj.cells #[Value.slice none 0 0] 31)).alloc (Obj.cells #[Value.int .i64 0] 3)).alloc (Obj.cells #[(Value.func (.func 51) #[] #[.pointer (some ⟨w3.heap.size + 1 + 1 + 1 + 1, 0, none⟩), .pointer (some ⟨w3.heap.size + 1 + 1 + 1, 0, none⟩), .pointer (some ⟨w3.heap.size, 0, none⟩), .pointer (some ⟨w2.heap.size, 0, none⟩), .pointer (some ⟨w3.heap.size + 1 + 1 + 1 + 1 + 1, 0, none⟩), .pointer (some ⟨w3.heap.size + 1, 0, none⟩), .pointer (some ⟨w3.heap.size + 1 + 1, 0, none⟩)])] 66)) ((((((w3.alloc (Obj.cells #[Value.slice (some ⟨w2.heap.size + 1, 0, none⟩) N N] 31)).alloc (Obj.cells #[Value.int .i64 ((N : Int) + 1)] 3)).alloc (Obj.cells #[Value.slice none 0 0] 27)).alloc (Obj.cells #[Value.slice none 0 0] 31)).alloc (Obj.cells #[Value.int .i64 0] 3)).alloc (Obj.cells #[(Value.func (.func 51) #[] #[.pointer (some ⟨w3.heap.size + 1 + 1 + 1 + 1, 0, none⟩), .pointer (some ⟨w3.heap.size + 1 + 1 + 1, 0, none⟩), .pointer (some ⟨w3.heap.size, 0, none⟩), .pointer (some ⟨w2.heap.size, 0, none⟩), .pointer (some ⟨w3.heap.size + 1 + 1 + 1 + 1 + 1, 0, none⟩), .pointer (some ⟨w3.heap.size + 1, 0, none⟩), .pointer (some ⟨w3.heap.size + 1 + 1, 0, none⟩)])] 66)) (w2.heap.size) (w2.heap.size + 1) (w3.heap.size + 1 + 1) (w3.heap.size + 1 + 1 + 1) (w3.heap.size + 1 + 1 + 1 + 1) (w3.heap.size + 1 + 1 + 1 + 1 + 1 + 1) N nl nl [] (startS N) := ⟨Fix.refl _ _ _ _ _ _, kC, kO, Own.nil _ _, xR, kT, Rws.nil _ _, fun i hi => absurd hi (by simp [startS]), by simp <;> omega, by simp [startS]⟩
  have hvis := visit_any ((((((w3.alloc (Obj.cells #[Value.slice (some ⟨w2.heap.size + 1, 0, none⟩) N N] 31)).alloc (Obj.cells #[Value.int .i64 ((N : Int) + 1)] 3)).alloc (Obj.cells #[Value.slice none 0 0] 27)).alloc (Obj.cells #[Value.slice none 0 0] 31)).alloc (Obj.cells #[Value.int .i64 0] 3)).alloc (Obj.cells #[(Value.func (.func 51) #[] #[.pointer (some ⟨w3.heap.size + 1 + 1 + 1 + 1, 0, none⟩), .pointer (some ⟨w3.heap.size + 1 + 1 + 1, 0, none⟩), .pointer (some ⟨w3.heap.size, 0, none⟩), .pointer (some ⟨w2.heap.size, 0, none⟩), .pointer (some ⟨w3.heap.size + 1 + 1 + 1 + 1 + 1, 0, none⟩), .pointer (some ⟨w3.heap.size + 1, 0, none⟩), .pointer (some ⟨w3.heap.size + 1 + 1, 0, none⟩)])] 66)) (w2.heap.size) (w2.heap.size + 1) (w3.heap.size) (w3.heap.size + 1) (w3.heap.size + 1 + 1) (w3.heap.size + 1 + 1 + 1) (w3.heap.size + 1 + 1 + 1 + 1) (w3.heap.size + 1 + 1 + 1 + 1 + 1) (w3.heap.size + 1 + 1 + 1 + 1 + 1 + 1) N G N (suN ps) ld (suN_lt Hg.out) (by omega) hSU hCap sortI_any N
  have Hvis := Lib.hid hvis
  have HTS := Lib.hid hTS
  have HCap := Lib.hid hCap
  have Hld := Lib.hid ld
  have hBW := Hb1.out.trans ((Hb2.out.mono (Nat.le_of_lt hs1)).trans (bW.mono (by omega)))
  have HBW := Lib.hid hBW
  clear kB kK kT kO kC kV kz kb b3 bW xS xR ld hSU hCap hTS hvis hg3 hR0 hBW d03
  go_wp2
  generalize hWS : ((((((w3.alloc (Obj.cells #[Value.slice (some ⟨w2.heap.size + 1, 0, none⟩) N N] 31)).alloc (Obj.cells #[Value.int .i64 ((N : Int) + 1)] 3)).alloc (Obj.cells #[Value.slice none 0 0] 27)).alloc (Obj.cells #[Value.slice none 0 0] 31)).alloc (Obj.cells #[Value.int .i64 0] 3)).alloc (Obj.cells #[(Value.func (.func 51) #[] #[.pointer (some ⟨w3.heap.size + 1 + 1 + 1 + 1, 0, none⟩), .pointer (some ⟨w3.heap.size + 1 + 1 + 1, 0, none⟩), .pointer (some ⟨w3.heap.size, 0, none⟩), .pointer (some ⟨w2.heap.size, 0, none⟩), .pointer (some ⟨w3.heap.size + 1 + 1 + 1 + 1 + 1, 0, none⟩), .pointer (some ⟨w3.heap.size + 1, 0, none⟩), .pointer (some ⟨w3.heap.size + 1 + 1, 0, none⟩)])] 66)) = X at *
  clear hWS
  go_loopw [22] (fun x W => ∃ (k : Nat) (uo ul : Value) (vs : List Value), x = .int .i64 k ∧ k ≤ N ∧ Hid (TS X W (w2.heap.size) (w2.heap.size + 1) (w3.heap.size + 1 + 1) (w3.heap.size + 1 + 1 + 1) (w3.heap.size + 1 + 1 + 1 + 1) (w3.heap.size + 1 + 1 + 1 + 1 + 1 + 1) N uo ul vs (topTo N (suN ps) srt k))) (fun x _ => N - (intOf x).toNat)
  case atStart => exact ⟨0, _, _, _, rfl, Nat.zero_le _, HTS⟩
  case round =>
    obtain ⟨k, uo, ul, vs2, rfl, hk1, hts⟩ := hrel
    have htop := topTo_top (srt := srt) srt_perm (suN_lt Hg.out) k hk1
    obtain ⟨st, hst⟩ : ∃ st, topTo N (suN ps) srt k = st := ⟨_, rfl⟩
    have hnext := topTo_succ N (suN ps) srt k
    rw [hst] at hts htop hnext
    have T1 := hts.out
    by_cases hlt : k < N
    · have hkl : k < (ni st.least).length := by rw [ni_len, T1.ln]; exact hlt
      have cB := (T1.fx.cell ⟨w3.heap.size, 0, none⟩ (by show w3.heap.size < w3.heap.size + 1 + 1 + 1 + 1 + 1 + 1; omega) (by show w3.heap.size ≠ w3.heap.size + 1 + 1 + 1 + 1; omega) (by show w3.heap.size ≠ w3.heap.size + 1 + 1 + 1; omega) (by show w3.heap.size ≠ w2.heap.size + 1; omega) (by show w3.heap.size ≠ w3.heap.size + 1 + 1; omega)).trans HCap.out.b.cell
      have cV := (T1.fx.cell ⟨w3.heap.size + 1 + 1 + 1 + 1 + 1, 0, none⟩ (by show w3.heap.size + 1 + 1 + 1 + 1 + 1 < w3.heap.size + 1 + 1 + 1 + 1 + 1 + 1; omega) (by show w3.heap.size + 1 + 1 + 1 + 1 + 1 ≠ w3.heap.size + 1 + 1 + 1 + 1; omega) (by show w3.heap.size + 1 + 1 + 1 + 1 + 1 ≠ w3.heap.size + 1 + 1 + 1; omega) (by show w3.heap.size + 1 + 1 + 1 + 1 + 1 ≠ w2.heap.size + 1; omega) (by show w3.heap.size + 1 + 1 + 1 + 1 + 1 ≠ w3.heap.size + 1 + 1; omega)).trans HCap.out.v.cell
      have cX := T1.rr.cell hkl
      rw [ni_at] at cX
      obtain ⟨y, hy⟩ : ∃ y, st.least.getD k 0 = y := ⟨_, rfl⟩
      rw [hy] at cX
      by_cases hy0 : y = 0
      · have e0 : ((y : Int) == 0) = true := by simp; omega
        obtain ⟨⟨num, hI⟩, ho, _⟩ := htop
        have hcall := Hvis.out num k st uo ul vs2 wr T1 hI hlt (show st.least.getD k 0 = 0 by rw [hy]; exact hy0) (fun x hx => by rw [ho] at hx; cases hx) (wh_max st)
        have hst2 : Hid (topTo N (suN ps) srt (k + 1) = sccV N (suN ps) srt N k st) := by show _ = _; rw [hnext]; exact if_pos (show st.least.getD k 0 = 0 by rw [hy]; exact hy0)
        have Hcall := Lib.hid hcall
        clear T1 hcall hI hy hst hnext hts
        go_wp2_with fail
        refine Hcall.out.mono ?_
        rintro e w7 ⟨rfl, uo3, ul3, vs3, T8⟩
        have HT8 := Lib.hid T8
        clear T8
        go_wp2
        go_roundw
        case rel => exact ⟨k + 1, uo3, ul3, vs3, by go_num, hlt, by show TS _ _ _ _ _ _ _ _ _ _ _ _ _; rw [hst2.out]; exact HT8.out⟩
        case measure => simp [intOf]; omega
      · have e0 : ((y : Int) == 0) = false := by simp; omega
        have hst2 : Hid (topTo N (suN ps) srt (k + 1) = st) := by show _ = _; rw [hnext]; exact if_neg (show ¬ st.least.getD k 0 = 0 by rw [hy]; exact hy0)
        clear T1 hy hst hnext htop
        go_wp2
        go_roundw
        case rel => exact ⟨k + 1, uo, ul, vs2, by go_num, hlt, by show TS _ _ _ _ _ _ _ _ _ _ _ _ _; rw [hst2.out]; exact hts.out⟩
        case measure => simp [intOf]; omega
    · obtain rfl : k = N := by omega
      have cT := T1.tb.cell
      have hfin : Hid (st = topTo k (suN ps) srt k) := hst.symm
      have HX := Lib.hid T1
      clear T1 hst hnext htop hts

      go_wp2
      go_ret
      refine ⟨ul, vs2, rfl, ?_, HBW.out.trans (below_of_fix HX.out.fx (by omega) (by omega) (by omega) (by omega) (by omega))⟩
      have := HX.out.ts.mono (b := w.heap.size) (by omega)
      rw [hfin.out] at this
      exact this
end Go.Proofs.Ytopbbihbpalnlaa
