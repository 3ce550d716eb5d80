/-
  PartitionOrder: the walk of the law. The partition is the same in the opposite order with exchanged ends, and when it is joined pair by pair.
-/
import Derived.Test.YtahfpkojkcnhiaaPLawFinest
import Derived.Test.YtahfpkojkcnhiaaPJoin2
import Derived.Deep.RegionLaw
namespace Go.Proofs.Ytahfpkojkcnhiaa
open Go.RowKit
set_option linter.unusedVariables false

theorem pair_info : (Try.prog.info? 38).map (fun i => (i.zero, i.size, i.bytes)) = some (some (.agg #[.int .i64 0, .int .i64 0]), 2, 16) := by kernel_rfl

def cellsOf2 : List (Int × Int) → List Value
  | [] => []
  | e :: r => .int .i64 e.1 :: .int .i64 e.2 :: cellsOf2 r
theorem length_cellsOf2 (ps : List (Int × Int)) : (cellsOf2 ps).length = ps.length * 2 := by
  induction ps with
  | nil => rfl
  | cons e r ih => simp only [cellsOf2, List.length_cons, ih]; omega
theorem cellsOf2_append (ps qs : List (Int × Int)) : cellsOf2 (ps ++ qs) = cellsOf2 ps ++ cellsOf2 qs := by
  induction ps with
  | nil => rfl
  | cons e r ih => simp only [List.cons_append, cellsOf2, ih]
theorem cellsOf2_at (ps : List (Int × Int)) : ∀ i, i < ps.length → (cellsOf2 ps)[i * 2]? = some (.int .i64 (ps.getD i (0, 0)).1) ∧ (cellsOf2 ps)[i * 2 + 1]? = some (.int .i64 (ps.getD i (0, 0)).2) := by
  induction ps with
  | nil => intro i hi; simp at hi
  | cons e r ih =>
    intro i hi
    cases i with
    | zero => simp [cellsOf2]
    | succ i =>
      have := ih i (by simpa using hi)
      rw [show (i + 1) * 2 = i * 2 + 1 + 1 from by omega]
      simpa [cellsOf2] using this

/-- The value v is a slice of the call's own that holds the pairs ps (nil, if there are none). -/
def OwnP (w : World) (base : Nat) (v : Value) (ps : List (Int × Int)) : Prop := w.ownsRow base 38 2 v ps.length (cellsOf2 ps)
section
variable {w w' : World} {base : Nat} {v : Value} {ps : List (Int × Int)}
theorem OwnP.nil (w : World) (base : Nat) : OwnP w base (.slice none 0 0) [] := World.ownsRow_nil _ _ _ _
theorem OwnP.alloc (h : OwnP w base v ps) (o : Obj) : OwnP (w.alloc o) base v ps := World.ownsRow.alloc h o
theorem OwnP.drewN (h : OwnP w base v ps) (n : Nat) : OwnP (w.drewN n) base v ps := h
theorem OwnP.drew (h : OwnP w base v ps) : OwnP w.drew base v ps := h
theorem OwnP.shape (h : OwnP w base v ps) : ∃ a c, v = .slice a ps.length c ∧ PairsIn w.heap.size w a ps := by
  rcases h.2 with ⟨rfl, hn⟩ | ⟨g, cap, cur, rfl, hb, hh, hr⟩
  · exact ⟨none, 0, by rw [hn], fun h0 => by omega⟩
  · refine ⟨_, _, rfl, fun h0 => ⟨g, 0, rfl, (World.ownsRow.lt h g rfl).2, fun i hi => ?_⟩⟩
    have hc := World.ownsRow.cells h (g := g) rfl
    have h2 := cellsOf2_at ps i hi
    exact ⟨by have := hc _ _ h2.1; rwa [Addr.add_lit] at this, by have := hc _ _ h2.2; rwa [Addr.add_lit] at this⟩
theorem OwnP.grown {w0 w1 : World} {o : Obj} (h : OwnP w base v ps) (hg : (w.alloc o).grownBy w1 v.ownBlock) (hb : Below base w0 w) (hB : base ≤ w.heap.size) : Below base w0 w1 :=
  (hb.alloc hB o).grown hg (by simp; omega) (fun k hk => (World.ownsRow.lt h k hk).1)
end
/-- 'out = append(out, e)', out a slice of edges of the call's own. -/
theorem wpList_append_pair {w : World} {ops : Array Oper} {rest : List Oper} {o : Oper} {a : Act} {Q : Exit → Act → World → Prop} (hg : o.guard = none) (s x : Operand)
    (hop : o.op = .call { callee := .builtin .append, args := #[s, x], argTypes := #[32, 32] }) (base : Nat) (v : Value) (ps : List (Int × Int)) (hs : a.eval s = v) (hown : OwnP w base v ps)
    (B : Nat) (e : Int × Int) (hx : a.eval x = .slice (some ⟨B, 0, none⟩) 1 1) (hc : w.cell? ⟨B, 0, none⟩ = some (.int .i64 e.1)) (hc2 : w.cell? ⟨B, 1, none⟩ = some (.int .i64 e.2)) (hlen : (ps.length + 1) * 16 ≤ 140737488355328) (hbase : base ≤ w.heap.size)
    (hK : ∀ v' w', OwnP w' base v' (ps ++ [e]) → w.grownBy w' v.ownBlock → wpList Try.prog ops Q rest (a.put o.dst v') w') : wpList Try.prog ops Q (o :: rest) a w := by
  obtain ⟨i0, hi, hz0, hz1, hz2⟩ := info_parts pair_info
  refine wpList_append_own w hg s x 32 hop base 38 i0 (.agg #[.int .i64 0, .int .i64 0]) 2 16 Try.underlying32 hi hz0 hz1 hz2 rfl (by decide) v ps.length (cellsOf2 ps) hs hown ⟨B, 0, none⟩ 1 1 [.int .i64 e.1, .int .i64 e.2] hx rfl ?_ ?_ ?_ hlen hbase ?_
  · intro j u hj
    match j, hj with
    | 0, hj => simp at hj; subst hj; simpa [Addr.add] using hc
    | 1, hj => simp at hj; subst hj; simpa [Addr.add] using hc2
  · intro u hu; simp at hu; rcases hu with rfl | rfl <;> rfl
  · unfold maxLen; omega
  · intro v' w' h1 h2 _
    refine hK v' w' ?_ h2
    unfold OwnP
    rw [List.length_append, cellsOf2_append]
    exact h1

/-- The same inside a region that draws its order. -/
theorem step_append_pair {w : World} {ops : Array Oper} {o : Oper} {a : Act} {K : Act → World → Prop} {Q : Exit → Act → World → Prop} {E : Prop} (hg : o.guard = none) (s x : Operand)
    (hop : o.op = .call { callee := .builtin .append, args := #[s, x], argTypes := #[32, 32] }) (base : Nat) (v : Value) (ps : List (Int × Int)) (hs : a.eval s = v) (hown : OwnP w base v ps)
    (B : Nat) (e : Int × Int) (hx : a.eval x = .slice (some ⟨B, 0, none⟩) 1 1) (hc : w.cell? ⟨B, 0, none⟩ = some (.int .i64 e.1)) (hc2 : w.cell? ⟨B, 1, none⟩ = some (.int .i64 e.2)) (hlen : (ps.length + 1) * 16 ≤ 140737488355328) (hbase : base ≤ w.heap.size)
    (hK : ∀ v' w', OwnP w' base v' (ps ++ [e]) → w.grownBy w' v.ownBlock → K (a.put o.dst v') w') : if Region.wanted o (yielded ops a.tmps) = true then Oper.wp Try.prog o a w K Q else E := by
  have hw : Region.wanted o (yielded ops a.tmps) = true := by simp [Region.wanted, hg]
  rw [if_pos hw]
  obtain ⟨i0, hi, hz0, hz1, hz2⟩ := info_parts pair_info
  refine wp_append_own w s x 32 hop base 38 i0 (.agg #[.int .i64 0, .int .i64 0]) 2 16 Try.underlying32 hi hz0 hz1 hz2 rfl (by decide) v ps.length (cellsOf2 ps) hs hown ⟨B, 0, none⟩ 1 1 [.int .i64 e.1, .int .i64 e.2] hx rfl ?_ ?_ ?_ hlen hbase ?_
  · intro j u hj
    match j, hj with
    | 0, hj => simp at hj; subst hj; simpa [Addr.add] using hc
    | 1, hj => simp at hj; subst hj; simpa [Addr.add] using hc2
  · intro u hu; simp at hu; rcases hu with rfl | rfl <;> rfl
  · unfold maxLen; omega
  · intro v' w' h1 h2 _
    refine hK v' w' ?_ h2
    unfold OwnP
    rw [List.length_append, cellsOf2_append]
    exact h1

/-- The pairs in the opposite order, with exchanged ends. -/
def backTo (ps : List (Int × Int)) (k : Nat) : List (Int × Int) := ((ps.drop k).reverse).map fun e => (e.2, e.1)
theorem length_backTo (ps : List (Int × Int)) (k : Nat) : (backTo ps k).length = ps.length - k := by simp [backTo]
theorem backTo_all (ps : List (Int × Int)) : backTo ps ps.length = [] := by simp [backTo]
theorem backTo_succ (ps : List (Int × Int)) (k : Nat) (h : k < ps.length) : backTo ps k = backTo ps (k + 1) ++ [((ps.getD k (0, 0)).2, (ps.getD k (0, 0)).1)] := by
  unfold backTo
  rw [List.drop_eq_getElem_cons h, List.reverse_cons, List.map_append]
  simp [h]
theorem mem_backTo {ps : List (Int × Int)} {e : Int × Int} : e ∈ backTo ps 0 ↔ (e.2, e.1) ∈ ps := by
  simp only [backTo, List.drop_zero, List.mem_map, List.mem_reverse]
  constructor
  · rintro ⟨x, hx, rfl⟩; exact hx
  · intro h; exact ⟨_, h, rfl⟩
theorem inB_backTo (n : Nat) (ps : List (Int × Int)) : inB n (backTo ps 0) = inB n ps := by
  rw [Bool.eq_iff_iff]
  unfold inB
  simp only [List.all_eq_true, Bool.and_eq_true]
  constructor
  · intro h e he
    exact (h (e.2, e.1) (mem_backTo.2 he)).symm
  · intro h e he
    exact (h _ (mem_backTo.1 he)).symm

theorem sat_joinAll (n : Nat) (ps : List (Int × Int)) (hn : n ≤ 8192) (hin : inB n ps = true) : chk (joinAll (iota n) ps) = 0 ∧ ∀ e ∈ ps, sameB (joinAll (iota n) ps) e.1 e.2 = true := by
  have hflat := Flat.joinAll hin (flat_iota n) (length_iota n)
  have hl : (joinAll (iota n) ps).length = n := by rw [length_joinAll, length_iota]
  have hok : chk (joinAll (iota n) ps) = 0 := chk_of ⟨by rw [hl]; exact hn, hflat.lo, hflat.hi, hflat.fix⟩
  refine ⟨hok, fun e he => ?_⟩
  have hb : isB n e.1 = true ∧ isB n e.2 = true := by
    unfold inB at hin
    rw [List.all_eq_true] at hin
    simpa using hin e he
  have hj := joinAll_joins n ps hin (iota n) (length_iota n) e he
  simp only [sameB, hok, hl, hb.1, hb.2, hj, decide_true, Bool.true_and]

theorem sameB_sym {q : List Int} {x y : Int} (h : sameB q x y = true) : sameB q y x = true := by
  simp only [sameB, Bool.and_eq_true, decide_eq_true_eq] at *
  exact ⟨h.1, h.2.2.1, h.2.1, h.2.2.2.symm⟩

theorem joinAll_back (n : Nat) (ps : List (Int × Int)) (hn : n ≤ 8192) (hin : inB n ps = true) : joinAll (iota n) (backTo ps 0) = joinAll (iota n) ps := by
  have hin2 : inB n (backTo ps 0) = true := by rw [inB_backTo]; exact hin
  obtain ⟨ok1, s1⟩ := sat_joinAll n ps hn hin
  obtain ⟨ok2, s2⟩ := sat_joinAll n (backTo ps 0) hn hin2
  have l1 : (joinAll (iota n) ps).length = n := by rw [length_joinAll, length_iota]
  have l2 : (joinAll (iota n) (backTo ps 0)).length = n := by rw [length_joinAll, length_iota]
  have f1 : Fin (joinAll (iota n) ps) (joinAll (iota n) (backTo ps 0)) := by
    refine Fin.joinAll (fun e he => sameB_sym (s2 (e.2, e.1) (mem_backTo.2 he))) ⟨by rw [length_iota, l2], fun i hi => ?_⟩ (flat_iota n)
    rw [getD_iota n i (by omega), Int.toNat_natCast]
  have f2 : Fin (joinAll (iota n) (backTo ps 0)) (joinAll (iota n) ps) := by
    refine Fin.joinAll (fun e he => sameB_sym (s1 (e.2, e.1) (mem_backTo.1 he))) ⟨by rw [length_iota, l1], fun i hi => ?_⟩ (flat_iota n)
    rw [getD_iota n i (by omega), Int.toNat_natCast]
  have g1 := Flat.joinAll hin (flat_iota n) (length_iota n)
  have g2 := Flat.joinAll hin2 (flat_iota n) (length_iota n)
  generalize joinAll (iota n) ps = p at *
  generalize joinAll (iota n) (backTo ps 0) = q at *
  apply List.ext_getElem (by omega)
  intro i h1 h2
  have a1 := g1.lo i (by omega)
  have a2 := g1.hi i (by omega)
  have b1 := g2.lo i (by omega)
  have b2 := g2.hi i (by omega)
  have c1 := f1.2 i (by omega)
  have c2 := f2.2 i (by omega)
  have d1 := g2.hi (p.getD i 0).toNat (by omega)
  have d2 := g1.hi (q.getD i 0).toNat (by omega)
  have e1 : q.getD i 0 = q[i] := by simp [h1]
  have e2 : p.getD i 0 = p[i] := by simp [h2]
  omega

theorem ofS_back (n : Nat) (ps : List (Int × Int)) (hn : n ≤ 8192) : ofS n (backTo ps 0) = ofS n ps := by
  by_cases h : inB n ps = true
  · rw [ofS_good n ps hn h, ofS_good n _ hn (by rw [inB_backTo]; exact h), joinAll_back n ps hn h]
  · simp only [Bool.not_eq_true] at h
    rw [ofS_out n ps hn h, ofS_out n _ hn (by rw [inB_backTo]; exact h)]

/-- Pair by pair: the list and the error behind the first k pairs (those behind an error are not looked at). -/
theorem step_good (n : Nat) (ps : List (Int × Int)) (k : Nat) (hn : n ≤ 8192) (hk : k < ps.length) (hin : inB n (ps.take k) = true) :
    joinS (joinAll (iota n) (ps.take k)) (ps.getD k (0, 0)).1 (ps.getD k (0, 0)).2 = if inB n (ps.take (k + 1)) then (joinAll (iota n) (ps.take (k + 1)), 0) else ([], 4) := by
  obtain ⟨ok, _⟩ := sat_joinAll n (ps.take k) hn hin
  have hl : (joinAll (iota n) (ps.take k)).length = n := by rw [length_joinAll, length_iota]
  rw [inB_take n ps k hk, hin, Bool.true_and, joinAll_take _ _ _ hk]
  unfold joinS
  rw [if_neg (by simpa using ok), hl]
end Go.Proofs.Ytahfpkojkcnhiaa
