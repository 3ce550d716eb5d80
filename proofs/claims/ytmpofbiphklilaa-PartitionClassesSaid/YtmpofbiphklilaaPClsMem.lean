/-
  Words for memory: a slice of slices of ints that a call builds.
-/
import Derived.Test.YtmpofbiphklilaaPClassMath2
import Derived.Test.YtmpofbiphklilaaPMem
import Derived.Deep.AppendLies
namespace Go.Proofs.Ytmpofbiphklilaa
open Go.RowKit
set_option linter.unusedVariables false

theorem ss_info : (Try.prog.info? 22).map (fun i => (i.zero, i.size, i.bytes)) = some (some (.slice none 0 0), 1, 24) := by kernel_rfl

def asI (l : List Nat) : List Int := l.map fun (x : Nat) => Int.ofNat x
theorem length_asI (l : List Nat) : (asI l).length = l.length := by simp [asI]
theorem asI_append (l : List Nat) (x : Nat) : asI (l ++ [x]) = asI l ++ [(x : Int)] := by simp [asI]
theorem getD_asI (l : List Nat) (k : Nat) : (asI l).getD k 0 = ((l.getD k 0 : Nat) : Int) := by
  by_cases h : k < l.length
  · simp [asI, List.getD_eq_getElem?_getD, h]
  · simp [asI, List.getD_eq_getElem?_getD, show l.length ≤ k by omega]

def nl : Value := .slice none 0 0
/-- The value v is a slice of slices of ints of the call's own: the slices vs. -/
def OwnS (w : World) (base : Nat) (v : Value) (vs : List Value) : Prop := w.ownsRow base 22 1 v vs.length vs

theorem own_ne {w : World} {b1 b2 : Nat} {v u : Value} {vs : List Value} {zs : List Int} (h : OwnS w b1 v vs) (h2 : Own w b2 u zs) : v.ownBlock = none ∨ v.ownBlock ≠ u.ownBlock := by
  rcases h.2 with ⟨rfl, _⟩ | ⟨g, cap, cur, rfl, _, hh, _⟩
  · exact .inl rfl
  · rcases h2.2 with ⟨rfl, _⟩ | ⟨g2, cap2, cur2, rfl, _, hh2, _⟩
    · exact .inr (by simp [Value.ownBlock])
    · refine .inr fun e => ?_
      have e2 : g = g2 := by simpa [Value.ownBlock] using e
      subst e2
      rw [hh] at hh2
      cases hh2
theorem own_ne' {w : World} {b1 b2 : Nat} {v u : Value} {vs : List Value} {zs : List Int} (h : OwnS w b1 v vs) (h2 : Own w b2 u zs) : u.ownBlock = none ∨ u.ownBlock ≠ v.ownBlock := by
  rcases own_ne h h2 with h3 | h3
  · cases hu : u.ownBlock with
    | none => exact .inl rfl
    | some k => exact .inr (by rw [h3]; simp)
  · exact .inr fun e => h3 e.symm
theorem row_far {w : World} {base e s n g : Nat} {v : Value} {xs : List Value} (h : w.ownsRow base e s v n xs) (hg : g < base) : v.ownBlock = none ∨ v.ownBlock ≠ some g := by
  cases hv : v.ownBlock with
  | none => exact .inl rfl
  | some k => exact .inr fun e => by have := (World.ownsRow.lt h k hv).1; cases e; omega

structure Cls (w : World) (base : Nat) (v : Value) (vs : List Value) (L : List (List Nat)) : Prop where
  own : OwnS w base v vs
  len : vs.length = L.length
  row : ∀ i, i < L.length → Own w base (vs.getD i nl) (asI (L.getD i []))
  ne : ∀ i j, i ≠ j → i < L.length → j < L.length → (vs.getD i nl).ownBlock = none ∨ (vs.getD i nl).ownBlock ≠ (vs.getD j nl).ownBlock
section
variable {w w' : World} {base : Nat} {v : Value} {vs : List Value} {L : List (List Nat)}
theorem Cls.nil (w : World) (base : Nat) : Cls w base nl [] [] :=
  ⟨World.ownsRow_nil _ _ _ _, rfl, fun i hi => by simp at hi, fun i j _ hi => by simp at hi⟩
theorem Cls.kept {g : Nat} (h : Cls w base v vs L) (hg : w.grownBy w' (some g)) (hl : g < base) : Cls w' base v vs L :=
  ⟨World.ownsRow.kept h.own hg (row_far h.own hl), h.len, fun i hi => World.ownsRow.kept (h.row i hi) hg (row_far (h.row i hi) hl), h.ne⟩
theorem Cls.alloc (h : Cls w base v vs L) (o : Obj) : Cls (w.alloc o) base v vs L :=
  ⟨World.ownsRow.alloc h.own o, h.len, fun i hi => World.ownsRow.alloc (h.row i hi) o, h.ne⟩
theorem Cls.drewN (h : Cls w base v vs L) (n : Nat) : Cls (w.drewN n) base v vs L := ⟨h.own, h.len, h.row, h.ne⟩
theorem Cls.push {v' : Value} (h : Cls w base v vs L) (h' : OwnS w' base v' (vs ++ [nl])) (hg : w.grownBy w' v.ownBlock) : Cls w' base v' (vs ++ [nl]) (L ++ [[]]) := by
  have hv : ∀ i, i < L.length → (vs ++ [nl]).getD i nl = vs.getD i nl := fun i hi => by
    have := h.len
    simp [List.getD_eq_getElem?_getD, List.getElem?_append, show i < vs.length by omega]
  have hv2 : (vs ++ [nl]).getD L.length nl = nl := by
    rw [← h.len]; simp [List.getD_eq_getElem?_getD]
  have hL : ∀ i, i < L.length → (L ++ [[]]).getD i [] = L.getD i [] := fun i hi => by
    simp [List.getD_eq_getElem?_getD, List.getElem?_append, hi]
  have hL2 : (L ++ [[]]).getD L.length [] = [] := by simp [List.getD_eq_getElem?_getD]
  refine ⟨h', by simp [h.len], fun i hi => ?_, fun i j hne hi hj => ?_⟩
  · rw [List.length_append, List.length_singleton] at hi
    by_cases e : i < L.length
    · rw [hv i e, hL i e]
      exact World.ownsRow.kept (h.row i e) hg (own_ne' h.own (h.row i e))
    · obtain rfl : i = L.length := by omega
      rw [hv2, hL2]
      show Own w' base (.slice none 0 0) []
      exact Own.nil _ _
  · rw [List.length_append, List.length_singleton] at hi hj
    by_cases e : i < L.length
    · rw [hv i e]
      by_cases e2 : j < L.length
      · rw [hv j e2]
        exact h.ne i j hne e e2
      · obtain rfl : j = L.length := by omega
        rw [hv2]
        cases hu : (vs.getD i nl).ownBlock with
        | none => exact .inl rfl
        | some k => exact .inr (by simp [nl, Value.ownBlock])
    · obtain rfl : i = L.length := by omega
      rw [hv2]
      exact .inl rfl
theorem getD_set_same {α : Type} (l : List α) (c : Nat) (x d : α) (h : c < l.length) : (l.set c x).getD c d = x := by
  simp [List.getD_eq_getElem?_getD, h]
theorem getD_set_other {α : Type} (l : List α) (c i : Nat) (x d : α) (h : i ≠ c) : (l.set c x).getD i d = l.getD i d := by
  simp [List.getD_eq_getElem?_getD, Ne.symm h]
theorem Cls.grow {w1 : World} {G cap c x : Nat} {u' : Value} (h : Cls w base (.slice (some ⟨G, 0, none⟩) vs.length cap) vs L) (hc : c < L.length) (hu : Own w1 base u' (asI (L.getD c []) ++ [(x : Int)])) (hg : w.grownBy w1 (vs.getD c nl).ownBlock)
    (hat : u'.ownBlock = (vs.getD c nl).ownBlock ∨ ∃ k, u'.ownBlock = some k ∧ w.heap.size ≤ k) :
    Cls (w1.setCell ⟨G, c, none⟩ u') base (.slice (some ⟨G, 0, none⟩) vs.length cap) (vs.set c u') (L.set c (L.getD c [] ++ [x])) := by
  have hS1 : OwnS w1 base (.slice (some ⟨G, 0, none⟩) vs.length cap) vs := World.ownsRow.kept h.own hg (own_ne h.own (h.row c hc))
  have hlen := h.len
  have hrow1 : ∀ i, i ≠ c → i < L.length → Own w1 base (vs.getD i nl) (asI (L.getD i [])) := fun i hne hi => World.ownsRow.kept (h.row i hi) hg (h.ne i c hne hi hc)
  have hst := World.ownsRow.stored hS1 c u'
  refine ⟨?_, by simpa using hlen, fun i hi => ?_, fun i j hne hi hj => ?_⟩
  · unfold OwnS
    rw [List.length_set]
    exact hst.1
  · rw [List.length_set] at hi
    by_cases e : i = c
    · subst e
      rw [getD_set_same _ _ _ _ (by omega), getD_set_same _ _ _ _ hi, asI_append]
      exact World.ownsRow.kept hu hst.2 (own_ne' hS1 hu)
    · rw [getD_set_other _ _ _ _ _ e, getD_set_other _ _ _ _ _ e]
      exact World.ownsRow.kept (hrow1 i e hi) hst.2 (own_ne' hS1 (hrow1 i e hi))
  · rw [List.length_set] at hi hj
    by_cases e : i = c
    · subst e
      rw [getD_set_same _ _ _ _ (by omega), getD_set_other _ _ _ _ _ (fun h => hne h.symm)]
      rcases hat with h1 | ⟨k, h1, hk⟩
      · rw [h1]; exact h.ne i j hne hi hj
      · right
        rw [h1]
        intro e2
        have := (World.ownsRow.lt (h.row j hj) k e2.symm).2
        omega
    · rw [getD_set_other _ _ _ _ _ e]
      by_cases e2 : j = c
      · subst e2
        rw [getD_set_same _ _ _ _ (by omega)]
        rcases hat with h1 | ⟨k, h1, hk⟩
        · rw [h1]; exact h.ne i j hne hi hj
        · cases hu : (vs.getD i nl).ownBlock with
          | none => exact .inl rfl
          | some k' =>
            right
            rw [h1]
            intro e3
            have := (World.ownsRow.lt (h.row i hi) k' hu).2
            cases e3
            omega
      · rw [getD_set_other _ _ _ _ _ e2]
        exact h.ne i j hne hi hj
end

/-- The order of the blocks. -/
structure Ordr (B0 base bp bc bl g : Nat) : Prop where
  hp : bp < base
  hc : bc < base
  hl : bl < base
  hg : g < base
  p0 : B0 ≤ bp
  c0 : B0 ≤ bc
  l0 : B0 ≤ bl
  g0 : B0 ≤ g
  pc : bp ≠ bc
  pg : bp ≠ g
  lc : bl ≠ bc
  lg : bl ≠ g
  gc : bc ≠ g
/-- The boxes and the places, while Classes collects. -/
structure Sk (W0 w : World) (B0 base n bp bc bl g : Nat) (a : Option Addr) (c : Nat) (v : Value) (zs : List Int) : Prop where
  cp : w.cell? ⟨bp, 0, none⟩ = some (.slice a n c)
  cl : w.cell? ⟨bl, 0, none⟩ = some (.slice (some ⟨g, 0, none⟩) n n)
  cc : w.cell? ⟨bc, 0, none⟩ = some v
  fc : w.frozen? ⟨bc, 0, none⟩ = false
  row : Row w B0 g n zs
  lz : zs.length = n
  below : Below B0 W0 w
  hB : base ≤ w.heap.size
section
variable {W0 w w' : World} {B0 base n bp bc bl g : Nat} {a : Option Addr} {c : Nat} {p : List Int} {v : Value} {vs : List Value} {zs : List Int} {L : List (List Nat)} {R : List Nat}
theorem cell_kept' {row : Option Nat} {q : Addr} {u : Value} (hg : w.grownBy w' row) (h : w.cell? q = some u) (hne : row = none ∨ row ≠ some q.block) : w'.cell? q = some u := by
  refine (hg.cell_far q (World.block_lt_of_cell? _ _ h) ?_).trans h
  rintro rfl
  rcases hne with h1 | h1
  · cases h1
  · exact h1 rfl
theorem Sk.grown {row : Option Nat} (h : Sk W0 w B0 base n bp bc bl g a c v zs) (o : Ordr B0 base bp bc bl g) (hg : w.grownBy w' row) (hr : ∀ k, row = some k → base ≤ k) : Sk W0 w' B0 base n bp bc bl g a c v zs := by
  have f : ∀ q, q < base → row = none ∨ row ≠ some q := fun q hq => by
    cases row with
    | none => exact .inl rfl
    | some k => exact .inr fun e => by have := hr k rfl; cases e; omega
  refine ⟨cell_kept' hg h.cp (f _ o.hp), cell_kept' hg h.cl (f _ o.hl), cell_kept' hg h.cc (f _ o.hc), ?_, ?_, h.lz, ?_, Nat.le_trans h.hB hg.size⟩
  · refine (hg.frozen_far _ (World.block_lt_of_cell? _ _ h.cc) ?_).trans h.fc
    intro e2
    rcases f bc o.hc with h1 | h1
    · rw [h1] at e2; cases e2
    · exact h1 e2.symm
  · refine h.row.kept hg ?_
    intro e2
    rcases f g o.hg with h1 | h1
    · rw [h1] at e2; cases e2
    · exact h1 e2.symm
  · have hh := h.hB
    have h1 := o.hp
    have h2 := o.p0
    exact h.below.grown hg (by omega) (fun k hk => by have := hr k hk; omega)
theorem Sk.far {u : Value} {xs : List Value} {e s m : Nat} (h : Sk W0 w B0 base n bp bc bl g a c v zs) (o : Ordr B0 base bp bc bl g) (hu : w.ownsRow base e s u m xs) (hg : w.grownBy w' u.ownBlock) : Sk W0 w' B0 base n bp bc bl g a c v zs :=
  h.grown o hg fun k hk => (World.ownsRow.lt hu k hk).1
theorem Sk.alloc (h : Sk W0 w B0 base n bp bc bl g a c v zs) (o : Ordr B0 base bp bc bl g) (ob : Obj) : Sk W0 (w.alloc ob) B0 base n bp bc bl g a c v zs :=
  h.grown o (World.grownBy_alloc w ob none) (fun k hk => by cases hk)
theorem Sk.drewN (h : Sk W0 w B0 base n bp bc bl g a c v zs) (m : Nat) : Sk W0 (w.drewN m) B0 base n bp bc bl g a c v zs := ⟨h.cp, h.cl, h.cc, h.fc, h.row, h.lz, h.below.trans (Drawn.below ⟨m, rfl⟩ _), h.hB⟩
theorem Sk.cells {G j : Nat} (h : Sk W0 w B0 base n bp bc bl g a c v zs) (o : Ordr B0 base bp bc bl g) (hG : base ≤ G) (u : Value) : Sk W0 (w.setCell ⟨G, j, none⟩ u) B0 base n bp bc bl g a c v zs :=
  h.grown o (grown_setCell w G j u) (fun k hk => by cases hk; exact hG)
theorem Sk.box (h : Sk W0 w B0 base n bp bc bl g a c v zs) (o : Ordr B0 base bp bc bl g) (v' : Value) : Sk W0 (w.setCell ⟨bc, 0, none⟩ v') B0 base n bp bc bl g a c v' zs := by
  have hg := grown_setCell w bc 0 v'
  refine ⟨cell_kept' hg h.cp (.inr (by simpa using Ne.symm o.pc)), cell_kept' hg h.cl (.inr (by simpa using Ne.symm o.lc)), World.cell?_setCell_same' _ _ _ (by rw [h.cc]; rfl), (World.frozen?_setCell _ _ _ _).trans h.fc, h.row.kept hg (by simpa using Ne.symm o.gc), h.lz, ?_, by simpa using h.hB⟩
  exact h.below.setCell (p := ⟨bc, 0, none⟩) o.c0 _
theorem Sk.place (h : Sk W0 w B0 base n bp bc bl g a c v zs) (o : Ordr B0 base bp bc bl g) (k : Nat) (z : Int) : Sk W0 (w.setCell ⟨g, k, none⟩ (.int .i64 z)) B0 base n bp bc bl g a c v (zs.set k z) := by
  have hg := grown_setCell w g k (.int .i64 z)
  refine ⟨cell_kept' hg h.cp (.inr (by simpa using Ne.symm o.pg)), cell_kept' hg h.cl (.inr (by simpa using Ne.symm o.lg)), cell_kept' hg h.cc (.inr (by simpa using Ne.symm o.gc)), (World.frozen?_setCell _ _ _ _).trans h.fc, ?_, by simpa using h.lz, ?_, by simpa using h.hB⟩
  · have := h.row.set k z
    exact this
  · exact h.below.setCell (p := ⟨g, k, none⟩) o.g0 _
end

/-- The state of Classes when the classes L (with the representatives R) are collected. -/
structure St (W0 w : World) (B0 base n bp bc bl g : Nat) (a : Option Addr) (c : Nat) (v : Value) (vs : List Value) (zs : List Int) (L : List (List Nat)) (R : List Nat) : Prop where
  sk : Sk W0 w B0 base n bp bc bl g a c v zs
  cls : Cls w base v vs L
  idx : ∀ c, c < R.length → zs.getD (R.getD c 0) 0 = (c : Int)
  rl : R.length = L.length
section
variable {W0 w w' : World} {B0 base n bp bc bl g : Nat} {a : Option Addr} {c : Nat} {v : Value} {vs : List Value} {zs : List Int} {L : List (List Nat)} {R : List Nat}
theorem St.drewN (h : St W0 w B0 base n bp bc bl g a c v vs zs L R) (m : Nat) : St W0 (w.drewN m) B0 base n bp bc bl g a c v vs zs L R := ⟨h.sk.drewN m, h.cls.drewN m, h.idx, h.rl⟩
theorem St.alloc (h : St W0 w B0 base n bp bc bl g a c v vs zs L R) (o : Ordr B0 base bp bc bl g) (ob : Obj) : St W0 (w.alloc ob) B0 base n bp bc bl g a c v vs zs L R := ⟨h.sk.alloc o ob, h.cls.alloc ob, h.idx, h.rl⟩
theorem St.place (h : St W0 w B0 base n bp bc bl g a c v vs zs L R) (o : Ordr B0 base bp bc bl g) {k : Nat} (hk : ∀ r, r ∈ R → r < k) (z : Int) : St W0 (w.setCell ⟨g, k, none⟩ (.int .i64 z)) B0 base n bp bc bl g a c v vs (zs.set k z) L R :=
  ⟨h.sk.place o k z, h.cls.kept (grown_setCell w g k _) o.hg, fun i hi => by
    have := hk _ (getD_mem' hi)
    rw [getD_set_other _ _ _ _ _ (by omega)]; exact h.idx i hi, h.rl⟩
theorem St.push {v' : Value} {k : Nat} (h : St W0 w B0 base n bp bc bl g a c v vs zs L R) (o : Ordr B0 base bp bc bl g) (h' : OwnS w' base v' (vs ++ [nl])) (hg : w.grownBy w' v.ownBlock) (hz : zs.getD k 0 = (R.length : Int)) :
    St W0 (w'.setCell ⟨bc, 0, none⟩ v') B0 base n bp bc bl g a c v' (vs ++ [nl]) zs (L ++ [[]]) (R ++ [k]) := by
  refine ⟨(h.sk.far o h.cls.own hg).box o v', (h.cls.push h' hg).kept (grown_setCell w' bc 0 v') o.hc, fun i hi => ?_, by simp [h.rl]⟩
  rw [List.length_append, List.length_singleton] at hi
  by_cases e : i < R.length
  · rw [show (R ++ [k]).getD i 0 = R.getD i 0 by simp [List.getD_eq_getElem?_getD, List.getElem?_append, e]]
    exact h.idx i e
  · obtain rfl : i = R.length := by omega
    rw [show (R ++ [k]).getD R.length 0 = k by simp [List.getD_eq_getElem?_getD]]
    exact hz
theorem St.grow {w1 : World} {G cap j x : Nat} {u' : Value} (h : St W0 w B0 base n bp bc bl g a c (.slice (some ⟨G, 0, none⟩) vs.length cap) vs zs L R) (o : Ordr B0 base bp bc bl g) (hj : j < L.length) (hu : Own w1 base u' (asI (L.getD j []) ++ [(x : Int)])) (hg : w.grownBy w1 (vs.getD j nl).ownBlock)
    (hat : u'.ownBlock = (vs.getD j nl).ownBlock ∨ ∃ k, u'.ownBlock = some k ∧ w.heap.size ≤ k) :
    St W0 (w1.setCell ⟨G, j, none⟩ u') B0 base n bp bc bl g a c (.slice (some ⟨G, 0, none⟩) vs.length cap) (vs.set j u') zs (L.set j (L.getD j [] ++ [x])) R :=
  ⟨(h.sk.far o (h.cls.row j hj) hg).cells o (World.ownsRow.lt h.cls.own G rfl).1 u', h.cls.grow hj hu hg hat, h.idx, by simpa using h.rl⟩
end
end Go.Proofs.Ytmpofbiphklilaa
