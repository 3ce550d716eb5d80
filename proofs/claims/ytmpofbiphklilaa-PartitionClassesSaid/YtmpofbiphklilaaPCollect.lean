/-
  The closure of Classes: one number goes to its class.
-/
import Derived.Test.YtmpofbiphklilaaPClsMem
import Derived.Deep.RegionLaw
import Derived.Deep.RegionHeld3
namespace Go.Proofs.Ytmpofbiphklilaa
open Go.RowKit
set_option linter.unusedVariables false

theorem cls_new {p : List Int} {k : Nat} (hle : ∀ j, j < k → p.getD j 0 ≤ (j : Int)) (h : p.getD k 0 = (k : Int)) :
    (clsTo p k ++ [[]]).set (repsTo p k).length ((clsTo p k ++ [[]]).getD (repsTo p k).length [] ++ [k]) = clsTo p (k + 1) ∧ repsTo p k ++ [k] = repsTo p (k + 1) := by
  refine ⟨?_, (repsTo_new h).symm⟩
  rw [clsTo_new hle h, ← length_clsTo]
  generalize clsTo p k = L
  have e : (L ++ [[]]).getD L.length [] = [] := by simp [List.getD_eq_getElem?_getD]
  rw [e, List.set_append]
  simp

theorem shapeS {w : World} {base : Nat} {v : Value} {vs : List Value} (h : OwnS w base v vs) : (v = nl ∧ vs = []) ∨ ∃ G cap, v = .slice (some ⟨G, 0, none⟩) vs.length cap ∧ vs.length ≤ cap ∧ cap ≤ maxLen := by
  rcases h.2 with ⟨rfl, hn⟩ | ⟨g, cap, cur, rfl, hb, hh, h1, h2, _⟩
  · exact .inl ⟨rfl, List.length_eq_zero_iff.1 hn⟩
  · exact .inr ⟨g, cap, rfl, h1, h2⟩
theorem shapeS' {w : World} {base : Nat} {v : Value} {vs : List Value} (h : OwnS w base v vs) : ∃ a cap, v = .slice a vs.length cap := by
  rcases shapeS h with ⟨rfl, rfl⟩ | ⟨G, cap, rfl, _⟩
  · exact ⟨_, _, rfl⟩
  · exact ⟨_, _, rfl⟩

/-- 'classes = append(classes, nil)'. -/
theorem wpList_append_ss {w : World} {ops : Array Oper} {rest : List Oper} {o : Oper} {a : Act} {Q : Exit → Act → World → Prop} (hg : o.guard = none) (s x : Operand)
    (hop : o.op = .call { callee := .builtin .append, args := #[s, x], argTypes := #[41, 41] }) (base : Nat) (v : Value) (vs : List Value) (hs : a.eval s = v) (hown : OwnS w base v vs)
    (B : Nat) (hx : a.eval x = .slice (some ⟨B, 0, none⟩) 1 1) (hc : w.cell? ⟨B, 0, none⟩ = some (.slice none 0 0)) (hlen : vs.length ≤ 100000) (hbase : base ≤ w.heap.size)
    (hK : ∀ G cap w', OwnS w' base (.slice (some ⟨G, 0, none⟩) (vs.length + 1) cap) (vs ++ [nl]) → w.grownBy w' v.ownBlock → wpList Try.prog ops Q rest (a.put o.dst (.slice (some ⟨G, 0, none⟩) (vs.length + 1) cap)) w') : wpList Try.prog ops Q (o :: rest) a w := by
  obtain ⟨i0, hi, hz0, hz1, hz2⟩ := info_parts ss_info
  refine wpList_append_lies w hg s x 41 hop base 22 i0 (.slice none 0 0) 1 24 Try.underlying41 hi hz0 hz1 hz2 rfl (by decide) v vs.length vs hs hown ⟨B, 0, none⟩ 1 1 [.slice none 0 0] hx rfl ?_ ?_ (by decide) ?_ (by omega) hbase _ rfl ?_
  · intro j u hj
    match j, hj with
    | 0, hj => simp at hj; subst hj; simpa [Addr.add] using hc
  · intro u hu; simp at hu; subst hu; rfl
  · unfold maxLen; omega
  · intro G cap w' h1 h2 _ _
    refine hK G cap w' ?_ h2
    unfold OwnS
    rw [List.length_append, List.length_singleton]
    exact h1

/-- 'append(classes[c], i)' inside a region that draws its order. -/
theorem step_append_at {w : World} {ops : Array Oper} {o : Oper} {a : Act} {K : Act → World → Prop} {Q : Exit → Act → World → Prop} {E : Prop} (hg : o.guard = none) (s x : Operand)
    (hop : o.op = .call { callee := .builtin .append, args := #[s, x], argTypes := #[22, 22] }) (base : Nat) (v : Value) (zs : List Int) (hs : a.eval s = v) (hown : Own w base v zs)
    (B : Nat) (z : Int) (hx : a.eval x = .slice (some ⟨B, 0, none⟩) 1 1) (hc : w.cell? ⟨B, 0, none⟩ = some (.int .i64 z)) (hlen : zs.length ≤ 100000) (hbase : base ≤ w.heap.size)
    (hK : ∀ g cap w', Own w' base (.slice (some ⟨g, 0, none⟩) (zs.length + 1) cap) (zs ++ [z]) → w.grownBy w' v.ownBlock → (v.ownBlock = some g ∨ g = w.heap.size) → K (a.put o.dst (.slice (some ⟨g, 0, none⟩) (zs.length + 1) cap)) w') : if Region.wanted o (yielded ops a.tmps) = true then Oper.wp Try.prog o a w K Q else E := by
  obtain ⟨i0, hi, hz0, hz1, hz2⟩ := info_parts int_info
  refine step_append_lies w hg s x 22 hop base 3 i0 (.int .i64 0) 1 8 Try.underlying22 hi hz0 hz1 hz2 rfl (by decide) v zs.length (zs.map (.int .i64)) hs hown ⟨B, 0, none⟩ 1 1 [.int .i64 z] hx rfl ?_ ?_ (by decide) ?_ (by omega) hbase _ rfl ?_
  · intro j u hj
    match j, hj with
    | 0, hj => simp at hj; subst hj; simpa [Addr.add] using hc
  · intro u hu; simp at hu; subst hu; rfl
  · unfold maxLen; omega
  · intro g cap w' h1 h2 h3 _
    refine hK g cap w' ?_ h2 h3
    unfold Own
    rw [List.length_append, List.map_append]
    exact h1

theorem head_new (w : World) (B : Nat) (z : Int) (t : TypeId) (hB : B = w.heap.size) : (w.alloc (.cells #[.int .i64 z] t)).cell? ⟨B, 0, none⟩ = some (.int .i64 z) := by
  subst hB; simp
/-- What the last two regions of the closure ask: class j is the one of r. -/
structure At (W0 w : World) (B0 base n bp bc bl g : Nat) (a : Option Addr) (c : Nat) (p : List Int) (k r j G cap m : Nat) (vs : List Value) (zs : List Int) (L : List (List Nat)) (R : List Nat) : Prop where
  st : St W0 w B0 base n bp bc bl g a c (.slice (some ⟨G, 0, none⟩) m cap) vs zs L R
  hm : vs.length = m
  hj : j < L.length
  hz : zs.getD r 0 = (j : Int)
  cls : L.set j (L.getD j [] ++ [k]) = clsTo p (k + 1)
  reps : R = repsTo p (k + 1)
  short : (L.getD j []).length ≤ 8192
section
variable {W0 w w' : World} {B0 base n bp bc bl g c k r j G cap m : Nat} {a : Option Addr} {p : List Int} {vs : List Value} {zs : List Int} {L : List (List Nat)} {R : List Nat}
theorem At.drewN (h : At W0 w B0 base n bp bc bl g a c p k r j G cap m vs zs L R) (d : Nat) : At W0 (w.drewN d) B0 base n bp bc bl g a c p k r j G cap m vs zs L R := ⟨h.st.drewN d, h.hm, h.hj, h.hz, h.cls, h.reps, h.short⟩
theorem At.alloc (h : At W0 w B0 base n bp bc bl g a c p k r j G cap m vs zs L R) (o : Ordr B0 base bp bc bl g) (ob : Obj) : At W0 (w.alloc ob) B0 base n bp bc bl g a c p k r j G cap m vs zs L R := ⟨h.st.alloc o ob, h.hm, h.hj, h.hz, h.cls, h.reps, h.short⟩
theorem At.own {u : Value} (h : At W0 w B0 base n bp bc bl g a c p k r j G cap m vs zs L R) (hu : vs.getD j nl = u) : Own w base u (asI (L.getD j [])) := by rw [← hu]; exact h.st.cls.row j h.hj
theorem At.lt (h : At W0 w B0 base n bp bc bl g a c p k r j G cap m vs zs L R) : j < m := by rw [← h.hm, h.st.cls.len]; exact h.hj
theorem At.cells {u : Value} (h : At W0 w B0 base n bp bc bl g a c p k r j G cap m vs zs L R) (hu : vs.getD j nl = u) (o : Ordr B0 base bp bc bl g) (hg : w.grownBy w' u.ownBlock) :
    w'.cell? ⟨bc, 0, none⟩ = some (.slice (some ⟨G, 0, none⟩) m cap) ∧ w'.cell? ⟨G, j, none⟩ = some u ∧ w'.frozen? ⟨G, j, none⟩ = false := by
  subst hu
  have hS := World.ownsRow.kept h.st.cls.own hg (own_ne h.st.cls.own (h.st.cls.row j h.hj))
  have hm := h.hm
  have hlt := h.lt
  subst hm
  refine ⟨(h.st.sk.far o (h.st.cls.row j h.hj) hg).cc, ?_, World.ownsRow.frozenAt hS j⟩
  rw [World.ownsRow.cellAt hS j (by omega)]
  simp [List.getD_eq_getElem?_getD, hlt]
theorem At.done {u u' : Value} (h : At W0 w B0 base n bp bc bl g a c p k r j G cap m vs zs L R) (hu0 : vs.getD j nl = u) (o : Ordr B0 base bp bc bl g) (hu : Own w' base u' (asI (L.getD j []) ++ [(k : Int)])) (hg : w.grownBy w' u.ownBlock)
    {q : Nat} (hq : u'.ownBlock = some q) (hat : u.ownBlock = some q ∨ q = w.heap.size) :
    ∃ v' vs' zs', St W0 (w'.setCell ⟨G, j, none⟩ u') B0 base n bp bc bl g a c v' vs' zs' (clsTo p (k + 1)) (repsTo p (k + 1)) := by
  subst hu0
  have hst := h.st
  rw [← h.hm] at hst
  have := hst.grow o h.hj hu hg (by
    rcases hat with h1 | h1
    · exact .inl (by rw [hq, h1])
    · exact .inr ⟨q, hq, by omega⟩)
  rw [h.cls, h.reps] at this
  exact ⟨_, _, _, this⟩
end

set_option maxHeartbeats 1600000 in
theorem collect_any (W0 : World) (B0 base n bp bc bl g : Nat) (a : Option Addr) (c : Nat) (p : List Int) (o : Ordr B0 base bp bc bl g) (hn : n ≤ 8192) (hv : Valid p) (hl : p.length = n) (hz : Ints W0 a p) (hW0 : W0.heap.size ≤ B0)
    (w : World) (k : Nat) (hk : k < n) (v : Value) (vs : List Value) (zs : List Int) (h : St W0 w B0 base n bp bc bl g a c v vs zs (clsTo p k) (repsTo p k)) :
    Calls Try.prog 28 #[.int .i64 k, .pointer (some ⟨bp, 0, none⟩), .pointer (some ⟨bc, 0, none⟩), .pointer (some ⟨bl, 0, none⟩)] w fun e w' => e = .returned (.tuple #[]) ∧
      ∃ v' vs' zs', St W0 w' B0 base n bp bc bl g a c v' vs' zs' (clsTo p (k + 1)) (repsTo p (k + 1)) := by
  have hlo := hv.lo k (by omega)
  have hhi := hv.hi k (by omega)
  have hfix := hv.fix k (by omega)
  obtain ⟨r, hr⟩ : ∃ r : Nat, p.getD k 0 = (r : Int) := ⟨(p.getD k 0).toNat, by omega⟩
  rw [hr, Int.toNat_natCast] at hfix
  obtain ⟨b, off, rfl, hcell⟩ := (hz.below h.sk.below hW0) (by omega)
  have ck := hcell k (by omega)
  have cellP : ∀ X : World, Below B0 W0 X → X.cell? ⟨b, off + k, none⟩ = some (.int .i64 r) := fun X hX => by
    obtain ⟨b', off', e, hc'⟩ := (hz.below hX hW0) (by omega)
    cases e
    rw [hc' k (by omega), hr]
  rw [hr] at ck hhi
  have cp := h.sk.cp
  have cl := h.sk.cl
  have cc := h.sk.cc
  have fc := h.sk.fc
  have lz := Lib.hid h.sk.lz
  have hlen := h.cls.len
  have hR := Lib.hid h.rl
  obtain ⟨av, cv, rfl⟩ := shapeS' h.cls.own
  have o' := Lib.hid o
  have Hr := Lib.hid hr
  have Hfix := Lib.hid hfix
  have Hv := Lib.hid hv
  have Hl := Lib.hid hl
  have H := Lib.hid h
  have hvl : vs.length ≤ 8192 := by
    have h1 := List.length_filter_le (fun i => decide (p.getD i 0 = (i : Int))) (List.range k)
    rw [List.length_range] at h1
    have h2 := length_clsTo p k
    have h3 : (repsTo p k).length ≤ k := h1
    omega
  have fk := h.sk.row.free k
  have cg := h.sk.row.cell (i := k) (by rw [h.sk.lz]; exact hk)
  obtain ⟨z0, hz0⟩ : ∃ z0, zs.getD k 0 = z0 := ⟨_, rfl⟩
  rw [hz0] at cg
  clear hz0
  have gc := o.gc
  clear h hz hr hfix hcell o hv hl hlo hlen
  by_cases e : r = k
  focus
    subst e
    have t0 : ((r : Int) == (r : Int)) = true := by simp
    have hz1 := H.out.place o'.out (k := r) (fun x hx => (mem_repsTo.1 hx).1) (vs.length : Int)
    have hc1 := Lib.hid (World.ownsRow.alloc hz1.cls.own (Obj.cells #[Value.slice none 0 0] 22))
    have hb1 := Lib.hid hz1.sk.hB
    have Hz1 := Lib.hid hz1
    have hzr : Hid ((zs.set r (vs.length : Int)).getD r 0 = ((repsTo p r).length : Int)) := by
      show _ = _
      rw [getD_set_same _ _ _ _ (by rw [lz.out]; exact hk), hR.out, H.out.cls.len]
    clear hz1
    go_enter Try.func28, Try.ntmps28
    go_wp2_with (at_builtin; refine wpList_append_ss rfl _ _ rfl base _ vs rfl hc1.out w.heap.size rfl ?_ ?_ ?_ ?_)
    · first | (simp; done) | (simp [go_sem]; done) | trace_state
    · omega
    · have := hb1.out; simp at this ⊢; omega
    intro G1 cap1 w2 hown2 hgr2
    have hs2 := Lib.hid ((Hz1.out.alloc o'.out _).push o'.out hown2 hgr2 hzr.out)
    have hsk := (Hz1.out.alloc o'.out (Obj.cells #[Value.slice none 0 0] 22)).sk.far o'.out hc1.out hgr2
    have c2 := hsk.cc
    have f2 := hsk.fc
    have hcn := cls_new (p := p) (k := r) (fun j hj => Hv.out.hi j (by rw [Hl.out]; omega)) Hr.out
    have hA : At W0 (w2.setCell ⟨bc, 0, none⟩ (.slice (some ⟨G1, 0, none⟩) (vs.length + 1) cap1)) B0 base n bp bc bl g (some ⟨b, off, none⟩) c p r r (repsTo p r).length G1 cap1 (vs.length + 1) (vs ++ [nl]) (zs.set r (vs.length : Int)) (clsTo p r ++ [[]]) (repsTo p r ++ [r]) :=
      ⟨hs2.out, by simp, by rw [hR.out]; simp, hzr.out, hcn.1, hcn.2, by rw [hR.out]; simp [List.getD_eq_getElem?_getD]⟩
    have HA := Lib.hid hA
    clear hown2 hgr2 hsk hcn hA hs2 hzr Hz1 hc1 hb1
    go_wp2
    clear c2 f2 cp cl cc fc cg fk ck lz H hR
    generalize w2.setCell ⟨bc, 0, none⟩ (.slice (some ⟨G1, 0, none⟩) (vs.length + 1) cap1) = w3 at *
    generalize (repsTo p r).length = j at *
    generalize vs.length + 1 = m at *
    generalize (vs ++ [nl]) = vs3 at *
    generalize zs.set r (vs.length : Int) = zs3 at *
    generalize clsTo p r ++ [[]] = L3 at *
    generalize repsTo p r ++ [r] = R3 at *
  rotate_left
  focus
    have t0 : ((r : Int) == (k : Int)) = false := by rw [beq_eq_false_iff_ne]; omega
    obtain ⟨j, hj, hjr⟩ := mem_getD' (mem_repsTo.2 ⟨(show r < k by omega), Hfix.out⟩)
    have hidx := H.out.idx j hj
    rw [hjr] at hidx
    have hcl := clsTo_old Hr.out (by omega) hj hjr
    have hjL : j < (clsTo p k).length := by rw [← hR.out]; exact hj
    have hgd := clsTo_getD hjL
    rw [hjr] at hgd
    rw [← hgd] at hcl
    have hsh : ((clsTo p k).getD j []).length ≤ 8192 := by
      rw [hgd]
      have h1 := List.length_filter_le (fun i => decide (p.getD i 0 = (r : Int))) (List.range k)
      rw [List.length_range] at h1
      have h3 : (membTo p k r).length ≤ k := h1
      omega
    have hro := repsTo_old (p := p) (k := k) (by rw [Hr.out]; omega)
    obtain ⟨G1, cap1, hav⟩ : ∃ G1 cap1, Value.slice av vs.length cv = .slice (some ⟨G1, 0, none⟩) vs.length cap1 := by
      rcases shapeS H.out.cls.own with ⟨_, h2⟩ | ⟨G, cap, h1, _⟩
      · exfalso
        have := H.out.cls.len
        rw [h2] at this
        simp at this
        omega
      · exact ⟨G, cap, h1⟩
    have hA : At W0 w B0 base n bp bc bl g (some ⟨b, off, none⟩) c p k r j G1 cap1 vs.length vs zs (clsTo p k) (repsTo p k) :=
      ⟨by rw [← hav]; exact H.out, rfl, hjL, hidx, hcl.symm, hro.symm, hsh⟩
    have HA := Lib.hid hA
    clear hidx hcl hjL hgd hro hjr hj hA hav hsh H hR
    go_enter Try.func28, Try.ntmps28
    go_wp2
    clear cp cl cc fc cg fk ck lz
    generalize clsTo p k = L3 at *
    generalize repsTo p k = R3 at *
    generalize vs.length = m at *
    generalize hvs : vs = vs3 at *
    generalize hzs : zs = zs3 at *
    generalize hw : w = w3 at *
    clear hvs hzs hw
  all_goals
    have hA := HA.out
    have cp := hA.st.sk.cp
    have cl := hA.st.sk.cl
    have cc := hA.st.sk.cc
    have ck := cellP w3 hA.st.sk.below
    have cg := hA.st.sk.row.cell (i := r) (by rw [hA.st.sk.lz]; omega)
    rw [hA.hz] at cg
    have hlt := hA.lt
    obtain ⟨cG, fG⟩ := (hA.cells rfl o'.out (World.grownBy.refl _ _)).2
    obtain ⟨au, cu, hu, _⟩ := (hA.own rfl).shape
    have Hu := Lib.hid hu
    rw [hu] at cG
    have hlen := hA.short
    have cGa : ∀ D ob, ((w3.drewN D).alloc ob).cell? ⟨G1, j, none⟩ = some (.slice au (asI (L3.getD j [])).length cu) := fun D ob => (((HA.out.drewN D).alloc o'.out ob).cells Hu.out o'.out (World.grownBy.refl _ _)).2.1
    have cca : ∀ D ob, ((w3.drewN D).alloc ob).cell? ⟨bc, 0, none⟩ = some (.slice (some ⟨G1, 0, none⟩) m cap1) := fun D ob => (((HA.out.drewN D).alloc o'.out ob).cells Hu.out o'.out (World.grownBy.refl _ _)).1
    clear hA hu
    go_quiet (fail)
    go_wp2
    go_region_law (refine step_append_at rfl (.tmp 32) (.tmp 34) rfl base _ (asI (L3.getD j [])) rfl (((HA.out.drewN _).alloc o'.out _).own Hu.out) _ _ rfl (head_new _ _ _ _ (by simp)) (by rw [length_asI]; omega) (((HA.out.drewN _).alloc o'.out _).st.sk.hB) ?_; intro g4 cap4 w4 ho4 hg4 hat4; obtain ⟨c5, c6, f6⟩ := ((HA.out.drewN _).alloc o'.out _).cells Hu.out o'.out hg4; have hdone := Lib.hid (((HA.out.drewN _).alloc o'.out _).done Hu.out o'.out ho4 hg4 rfl hat4); clear hg4 hat4 ho4)
    all_goals
      go_wp2
      go_end0
      exact ⟨rfl, hdone.out⟩
end Go.Proofs.Ytmpofbiphklilaa
