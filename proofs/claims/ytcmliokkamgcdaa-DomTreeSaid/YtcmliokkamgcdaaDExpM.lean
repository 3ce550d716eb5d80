/-
  The depth-first search in memory: its rows, numbers and path.
-/
import Derived.Test.YtcmliokkamgcdaaDAdd
namespace Go.Proofs.Ytcmliokkamgcdaa
open Go.RowKit
set_option linter.unusedVariables false

def ni (l : List Nat) : List Int := l.map fun (x : Nat) => (x : Int)
theorem ni_len (l : List Nat) : (ni l).length = l.length := by simp [ni]
def dNe (a b : Value) : Prop := ∀ g, a.ownBlock = some g → b.ownBlock ≠ some g
theorem dNe.symm {a b : Value} (h : dNe a b) : dNe b a := fun g hb ha => h g ha hb
theorem dNe.kept {w w' : World} {base e s n : Nat} {a b : Value} {xs : List Value} (h : w.ownsRow base e s a n xs) (hne : dNe a b) (hg : w.grownBy w' b.ownBlock) : w'.ownsRow base e s a n xs := by
  refine World.ownsRow.kept h hg ?_
  cases ha : a.ownBlock with
  | none => exact .inl rfl
  | some g => exact .inr (fun e => hne g ha e.symm)
theorem d_take {W : World} {B g c n : Nat} {zs : List Int} (h : Own W B (.slice (some ⟨g, 0, none⟩) n c) zs) (hn : zs.length = n) (k : Nat) (hk : k ≤ n) : Own W B (.slice (some ⟨g, 0, none⟩) k c) (zs.take k) := by
  subst hn
  obtain ⟨h1, h2⟩ := h
  have hl : (zs.take k).length = k := by rw [List.length_take]; omega
  refine ⟨by simp, ?_⟩
  rw [hl]
  rcases h2 with ⟨e, _⟩ | ⟨g', cap, cur, e, hb, hh, h3, h4, h5, h6⟩
  · cases e
  · simp only [Value.slice.injEq, Option.some.injEq, Addr.mk.injEq] at e
    obtain ⟨⟨rfl, _⟩, _, rfl⟩ := e
    refine .inr ⟨g, c, cur, rfl, hb, hh, by omega, h4, h5, ?_⟩
    rw [List.map_take, ← h6, List.take_take, Nat.mul_one, Nat.mul_one, Nat.min_eq_left hk]
theorem d_shape {w : World} {base n : Nat} {v : Value} {zs : List Int} (h : Own w base v zs) (hn : zs.length = n) (h0 : 0 < n) : ∃ g c, v = .slice (some ⟨g, 0, none⟩) n c ∧ n ≤ c ∧ c ≤ maxLen ∧ base ≤ g ∧ g < w.heap.size := by
  subst hn
  rcases h.2 with ⟨_, e⟩ | ⟨g, cap, cur, hv, hb, hh, h3, h4, _⟩
  · omega
  · exact ⟨g, cap, hv, h3, h4, hb, (Array.getElem?_eq_some_iff.1 hh).1⟩
theorem d_cell {w : World} {base n g c : Nat} {zs : List Int} (h : Own w base (.slice (some ⟨g, 0, none⟩) n c) zs) (hn : zs.length = n) {i : Nat} (hi : i < zs.length) : w.cell? ⟨g, i, none⟩ = some (.int .i64 (zs.getD i 0)) := by
  subst hn
  rw [World.ownsRow.cellAt h i (by omega)]
  simp [List.getD_eq_getElem?_getD, hi]
theorem d_new1 (W : World) (B : Nat) (hB : B ≤ W.heap.size) (z : Int) : Own (W.alloc (.cells #[.int .i64 z] 3)) B (.slice (some ⟨W.heap.size, 0, none⟩) 1 1) [z] :=
  ⟨by simp, .inr ⟨W.heap.size, 1, #[.int .i64 z], rfl, hB, (by show (W.heap.push _)[W.heap.size]? = _; exact Array.getElem?_push_size), by simp, by unfold maxLen; omega, by simp, by simp⟩⟩
/-- A row is kept where only other blocks turn. -/
theorem Fr.own {P : Nat → Prop} {W W' : World} {base e s n : Nat} {v : Value} {xs : List Value} (h : Fr P W W') (ho : W.ownsRow base e s v n xs) (hP : ∀ q, v.ownBlock = some q → ¬ P q) : W'.ownsRow base e s v n xs := by
  obtain ⟨h1, h2⟩ := ho
  refine ⟨h1, ?_⟩
  rcases h2 with h2 | ⟨g', cap', cur, hv, hb', hh, hr⟩
  · exact .inl h2
  · refine .inr ⟨_, _, _, hv, hb', (h.block g' ?_ (hP g' (by rw [hv]; rfl))).trans hh, hr⟩
    rcases Nat.lt_or_ge g' W.heap.size with hlt | hge
    · exact hlt
    · rw [Array.getElem?_eq_none hge] at hh; cases hh
theorem Fr.cellAt {P : Nat → Prop} {W W' : World} (h : Fr P W W') (p : Addr) (hl : p.block < W.heap.size) (hP : ¬ P p.block) : W'.cell? p = W.cell? p ∧ W'.frozen? p = W.frozen? p := by
  have := h.block p.block hl hP
  constructor
  · unfold World.cell?; rw [this]
  · unfold World.frozen?; rw [this]
theorem Fr.belowOf {P : Nat → Prop} {W0 W W' : World} {X : Nat} (h : Fr P W W') (hb : Below X W0 W) (hP : ∀ q, P q → X ≤ q) (hX : X ≤ W.heap.size) : Below X W0 W' :=
  ⟨h.os.trans hb.os, h.tape.trans hb.tape, h.output.trans hb.output, Nat.le_trans hb.size h.size, fun q hq => (h.block q (by omega) (fun p => by have := hP q p; omega)).trans (hb.block q hq)⟩

/-- The successors to which the search did not turn yet. -/
structure RS (W : World) (G N T : Nat) (rest : List (List Nat)) : Prop where
  lr : rest.length = N
  row : ∀ v, v < N → ∃ a c, W.cell? ⟨G, v, none⟩ = some (.slice a (rest.getD v []).length c) ∧ W.frozen? ⟨G, v, none⟩ = false ∧ (rest.getD v []).length ≤ c ∧
    (0 < (rest.getD v []).length → ∃ b off, a = some ⟨b, off, none⟩ ∧ b < T ∧ b ≠ G ∧ ∀ i, i < (rest.getD v []).length → W.cell? ⟨b, off + i, none⟩ = some (.int .i64 (((rest.getD v []).getD i 0 : Nat) : Int)))
  lt : G < T
  sz : T ≤ W.heap.size
section
variable {W W2 : World} {G N T : Nat} {rest : List (List Nat)}
theorem RS.same (h : RS W G N T rest) (hs : W.heap.size ≤ W2.heap.size) (hc : ∀ p : Addr, p.block < T → W2.cell? p = W.cell? p ∧ W2.frozen? p = W.frozen? p) : RS W2 G N T rest :=
  ⟨h.lr, fun v hv => by
    obtain ⟨a, c, h1, h2, h3, h4⟩ := h.row v hv
    refine ⟨a, c, (hc ⟨G, v, none⟩ h.lt).1.trans h1, (hc ⟨G, v, none⟩ h.lt).2.trans h2, h3, fun h0 => ?_⟩
    obtain ⟨b, off, e, hb, hn, hz⟩ := h4 h0
    exact ⟨b, off, e, hb, hn, fun i hi => (hc ⟨b, off + i, none⟩ hb).1.trans (hz i hi)⟩, h.lt, Nat.le_trans h.sz hs⟩
theorem RS.kept {row : Option Nat} (h : RS W G N T rest) (hg : W.grownBy W2 row) (hr : ∀ r, row = some r → T ≤ r) : RS W2 G N T rest :=
  h.same hg.size fun p hp => by
    have hl : p.block < W.heap.size := Nat.lt_of_lt_of_le hp h.sz
    have hn : some p.block ≠ row := fun e => by have := hr p.block e.symm; omega
    exact ⟨hg.cell_far p hl hn, hg.frozen_far p hl hn⟩
theorem RS.alloc (h : RS W G N T rest) (o : Obj) : RS (W.alloc o) G N T rest := h.kept (World.grownBy_alloc W o none) (fun r e => by cases e)
theorem RS.fr {P : Nat → Prop} (h : RS W G N T rest) (hF : Fr P W W2) (hP : ∀ q, q < T → ¬ P q) : RS W2 G N T rest :=
  h.same hF.size fun p hp => hF.cellAt p (Nat.lt_of_lt_of_le hp h.sz) (hP _ hp)
theorem RS.below {D : Nat} (h : RS W G N T rest) (hb : Below D W W2) (hD : T ≤ D) : RS W2 G N T rest :=
  h.same hb.size fun p hp => by
    have := hb.block p.block (by omega)
    constructor
    · unfold World.cell?; rw [this]
    · unfold World.frozen?; rw [this]
/-- One successor is taken off. -/
theorem RS.step {v x : Nat} {r : List Nat} {a a' : Option Addr} {c c' : Nat} (h : RS W G N T rest) (hv : v < N) (e : rest.getD v [] = x :: r) (hc : W.cell? ⟨G, v, none⟩ = some (.slice a (r.length + 1) c)) (hc' : r.length ≤ c') (ha : 0 < r.length → ∃ b off, a = some ⟨b, off, none⟩ ∧ a' = some ⟨b, off + 1, none⟩) :
    RS (W.setCell ⟨G, v, none⟩ (.slice a' r.length c')) G N T (rest.set v r) := by
  have hl := h.lr
  have self : (rest.set v r).getD v [] = r := by rw [List.getD_eq_getElem?_getD, List.getElem?_set_self (by omega)]; rfl
  have other : ∀ u, u ≠ v → (rest.set v r).getD u [] = rest.getD u [] := fun u hu => by rw [List.getD_eq_getElem?_getD, List.getElem?_set_ne (Ne.symm hu), ← List.getD_eq_getElem?_getD]
  refine ⟨by rw [List.length_set]; exact hl, fun u hu => ?_, h.lt, by simpa using h.sz⟩
  have far : ∀ b i, b ≠ G → (W.setCell ⟨G, v, none⟩ (.slice a' r.length c')).cell? ⟨b, i, none⟩ = W.cell? ⟨b, i, none⟩ := fun b i hb => World.cell?_setCell_other _ _ _ _ (by intro q; injection q with q1 q2; exact hb q1.symm)
  by_cases eu : u = v
  · subst eu
    rw [self]
    refine ⟨a', c', World.cell?_setCell_same' _ _ _ (by rw [hc]; rfl), ?_, hc', fun h0 => ?_⟩
    · rw [World.frozen?_setCell]; obtain ⟨_, _, _, h2, _⟩ := h.row u hu; exact h2
    · obtain ⟨b, off, ea, ea'⟩ := ha h0
      obtain ⟨a1, c1, h1, h2, h3, h4⟩ := h.row u hu
      rw [e] at h1 h4
      rw [hc] at h1
      injection h1 with h1; injection h1 with h1 _ _
      obtain ⟨b1, off1, e1, hb, hn, hz⟩ := h4 (by simp)
      rw [← h1, ea] at e1
      injection e1 with e1; injection e1 with e2 e3 _
      subst e2; subst e3
      refine ⟨b, off + 1, ea', hb, hn, fun i hi => ?_⟩
      rw [far b _ hn]
      have := hz (i + 1) (by simp; omega)
      rw [show off + (i + 1) = off + 1 + i by omega] at this
      rw [this]; simp
  · rw [other u eu]
    obtain ⟨a1, c1, h1, h2, h3, h4⟩ := h.row u hu
    refine ⟨a1, c1, ?_, by rw [World.frozen?_setCell]; exact h2, h3, fun h0 => ?_⟩
    · rw [World.cell?_setCell_other _ _ _ _ (by intro q; injection q with q1 q2; exact eu q2.symm)]; exact h1
    · obtain ⟨b, off, e1, hb, hn, hz⟩ := h4 h0
      exact ⟨b, off, e1, hb, hn, fun i hi => by rw [far b _ hn]; exact hz i hi⟩
end

/-- The numbers of the nodes. -/
def NM (N : Nat) (nd : List Nat) (nm : List Int) : Prop := ∀ v, v < N → (∀ i, i < nd.length → nd.getD i 0 = v → nm.getD v 0 = (i : Int)) ∧ (v ∉ nd → nm.getD v 0 = -1)
theorem NM.start (N : Nat) : NM N [] (List.replicate N (-1)) := fun v hv => ⟨fun i hi => by simp at hi, fun _ => by simp [List.getD_eq_getElem?_getD, hv]⟩
theorem NM.add {N w : Nat} {nd : List Nat} {nm : List Int} (h : NM N nd nm) (hl : nm.length = N) (hw : w ∉ nd) (hwN : w < N) : NM N (nd ++ [w]) (nm.set w (nd.length : Int)) := fun v hv => by
  by_cases e : v = w
  · subst e
    have self : (nm.set v (nd.length : Int)).getD v 0 = (nd.length : Int) := by rw [List.getD_eq_getElem?_getD, List.getElem?_set_self (by omega)]; rfl
    refine ⟨fun i hi ei => ?_, fun n => absurd (by simp) n⟩
    rw [self]
    by_cases c : i < nd.length
    · rw [getD_snoc c] at ei; exact absurd (ei ▸ at_mem c) hw
    · have : i = nd.length := by simp at hi; omega
      rw [this]
  · have other : (nm.set w (nd.length : Int)).getD v 0 = nm.getD v 0 := by rw [List.getD_eq_getElem?_getD, List.getElem?_set_ne (Ne.symm e), ← List.getD_eq_getElem?_getD]
    refine ⟨fun i hi ei => ?_, fun n => ?_⟩
    · by_cases c : i < nd.length
      · rw [getD_snoc c] at ei; rw [other]; exact (h v hv).1 i c ei
      · have : i = nd.length := by simp at hi; omega
        subst this; rw [getD_snoc_last] at ei; exact absurd ei.symm e
    · rw [other]; exact (h v hv).2 (fun q => n (by simp [q]))
theorem NM.neg {N v : Nat} {nd : List Nat} {nm : List Int} (h : NM N nd nm) (hv : v < N) : (v ∈ nd → ∃ i : Nat, i < nd.length ∧ nd.getD i 0 = v ∧ nm.getD v 0 = (i : Int)) ∧ (v ∉ nd → nm.getD v 0 = -1) :=
  ⟨fun m => by obtain ⟨i, hi, e⟩ := mem_at m; exact ⟨i, hi, e, (h v hv).1 i hi e⟩, (h v hv).2⟩
/-- The numbers of the parents. -/
def PA (par : List Nat) (pa : List Int) : Prop := pa.length = par.length ∧ pa.getD 0 0 = -1 ∧ ∀ j, 0 < j → j < par.length → pa.getD j 0 = (pf par j : Int)
theorem PA.add {par : List Nat} {pa : List Int} {t : Nat} (h : PA par pa) (h0 : 0 < par.length) : PA (par ++ [t]) (pa ++ [(t : Int)]) := by
  obtain ⟨h1, h2, h3⟩ := h
  have g : ∀ i, i < pa.length → (pa ++ [(t : Int)]).getD i 0 = pa.getD i 0 := fun i hi => by simp [List.getD_eq_getElem?_getD, List.getElem?_append_left hi]
  refine ⟨by simp [h1], by rw [g 0 (by omega)]; exact h2, fun j a b => ?_⟩
  by_cases c : j < par.length
  · rw [g j (by omega), pf_snoc c]; exact h3 j a c
  · have : j = par.length := by simp at b; omega
    subst this
    rw [pf_last, ← h1]; simp [List.getD_eq_getElem?_getD]
def sumL (l : List (List Nat)) : Nat := (l.map List.length).sum
theorem sumL_set : ∀ (l : List (List Nat)) (v : Nat) (x : Nat) (r : List Nat), v < l.length → l.getD v [] = x :: r → sumL (l.set v r) + 1 = sumL l
  | [], v, x, r, h, _ => by simp at h
  | a :: l, 0, x, r, h, e => by
    have : a = x :: r := by simpa using e
    subst this
    simp [sumL]; omega
  | a :: l, v + 1, x, r, h, e => by
    have := sumL_set l v x r (by simpa using h) (by simpa using e)
    simp only [sumL, List.set_cons_succ, List.map_cons, List.sum_cons] at this ⊢
    omega
def nodesOf (nd pth : List Nat) : List Int := pth.map fun i => ((nd.getD i 0 : Nat) : Int)

theorem SB.far {W : World} {base B R N G : Nat} {un up : Value} {nd nm pa : List Int} (hs : SB W base B R N un up nd nm pa) (h1 : G ≠ B) (h2 : G ≠ R) (h3 : G < base) (i : Nat) (z : Value) : SB (W.setCell ⟨G, i, none⟩ z) base B R N un up nd nm pa := by
  have hg := grown_setCell W G i z
  have nb : ∀ b, b ≠ G → some b ≠ (some G : Option Nat) := fun b hb q => hb (by injection q)
  obtain ⟨q1, q2⟩ := hs.sl
  have nB := nb B (Ne.symm h1)
  have nR := nb R (Ne.symm h2)
  exact ⟨(hg.cell_far ⟨B, 0, none⟩ q1 nB).trans hs.c0, (hg.cell_far ⟨B, 1, none⟩ q1 nB).trans hs.c1, (hg.cell_far ⟨B, 2, none⟩ q1 nB).trans hs.c2,
    (hg.frozen_far ⟨B, 0, none⟩ q1 nB).trans hs.f0, (hg.frozen_far ⟨B, 1, none⟩ q1 nB).trans hs.f1, (hg.frozen_far ⟨B, 2, none⟩ q1 nB).trans hs.f2,
    World.ownsRow.kept hs.on hg (row_far hs.on h3), hs.rr.kept hg nR, World.ownsRow.kept hs.op hg (row_far hs.op h3), hs.dj, hs.ltB, hs.ltR, hs.ne, hs.ln, Nat.le_trans hs.sz hg.size⟩
/-- All that holds between two steps of the search. -/
structure EI (W0 W : World) (X G T B R base N root : Nat) (su : Nat → List Nat) (uq un up : Value) (nd par pth : List Nat) (rest : List (List Nat)) (nm pa : List Int) : Prop where
  ex : Ex N root su nd par pth rest
  sb : SB W base B R N un up (ni nd) nm pa
  rs : RS W G N T rest
  oq : Own W base uq (nodesOf nd pth)
  n1 : dNe uq un
  n2 : dNe uq up
  nm : NM N nd nm
  pa : PA par pa
  bl : Below X W0 W
  lG : X ≤ G
  lB : T ≤ B
  lR : T ≤ R
section
variable {W0 W W' : World} {X G T B R base N root : Nat} {su : Nat → List Nat} {uq un up : Value} {nd par pth : List Nat} {rest : List (List Nat)} {nm pa : List Int}
theorem EI.lX (h : EI W0 W X G T B R base N root su uq un up nd par pth rest nm pa) : X < T ∧ T ≤ B ∧ B < base ∧ base ≤ W.heap.size := ⟨Nat.lt_of_le_of_lt h.lG h.rs.lt, h.lB, h.sb.ltB, h.sb.sz⟩
theorem EI.pop {t : Nat} {g c m : Nat} (h : EI W0 W X G T B R base N root su (.slice (some ⟨g, 0, none⟩) (m + 1) c) un up nd par (pth ++ [t]) rest nm pa) (hm : pth.length = m) (e : rest.getD (nd.getD t 0) [] = []) :
    EI W0 W X G T B R base N root su (.slice (some ⟨g, 0, none⟩) m c) un up nd par pth rest nm pa :=
  { h with
    ex := h.ex.pop e
    oq := by
      have := d_take h.oq (by simp [nodesOf, hm]) m (by omega)
      rw [show (nodesOf nd (pth ++ [t])).take m = nodesOf nd pth by unfold nodesOf; rw [← List.map_take, ← hm, List.take_left']; rfl] at this
      exact this
    n1 := h.n1
    n2 := h.n2 }
/-- A successor that has a number is passed over. -/
theorem EI.skip {t w : Nat} {r : List Nat} {a a' : Option Addr} {c c' : Nat} (h : EI W0 W X G T B R base N root su uq un up nd par (pth ++ [t]) rest nm pa) (e : rest.getD (nd.getD t 0) [] = w :: r) (hw : w ∈ nd)
    (hc : W.cell? ⟨G, nd.getD t 0, none⟩ = some (.slice a (r.length + 1) c)) (hc' : r.length ≤ c') (ha : 0 < r.length → ∃ b off, a = some ⟨b, off, none⟩ ∧ a' = some ⟨b, off + 1, none⟩) :
    EI W0 (W.setCell ⟨G, nd.getD t 0, none⟩ (.slice a' r.length c')) X G T B R base N root su uq un up nd par (pth ++ [t]) (rest.set (nd.getD t 0) r) nm pa := by
  obtain ⟨l1, l2, l3, l4⟩ := h.lX
  have hlt := h.rs.lt
  have hR := h.lR
  have hg := grown_setCell W G (nd.getD t 0) (.slice a' r.length c')
  have hv : nd.getD t 0 < N := h.ex.node _ (at_mem (h.ex.on t (by simp)).1)
  refine { h with ex := h.ex.skip e hw, sb := ?_, rs := h.rs.step hv e hc hc' ha, oq := World.ownsRow.kept h.oq hg (row_far h.oq (by omega)), bl := h.bl.setCell (p := ⟨G, nd.getD t 0, none⟩) h.lG _ }
  exact h.sb.far (by omega) (by omega) (by omega) _ _
theorem ni_snoc' (nd : List Nat) (w : Nat) : ni nd ++ [(w : Int)] = ni (nd ++ [w]) := by simp [ni]
/-- A number is given to a successor; the path is still to be made longer. -/
theorem EI.numbered {t w : Nat} {r : List Nat} {a a' : Option Addr} {c c' : Nat} {e1 : Ending} (h : EI W0 W X G T B R base N root su uq un up nd par (pth ++ [t]) rest nm pa) (e : rest.getD (nd.getD t 0) [] = w :: r) (hw : w ∉ nd) (hwN : w < N)
    (hc : W.cell? ⟨G, nd.getD t 0, none⟩ = some (.slice a (r.length + 1) c)) (hc' : r.length ≤ c') (ha : 0 < r.length → ∃ b off, a = some ⟨b, off, none⟩ ∧ a' = some ⟨b, off + 1, none⟩)
    (hA : AddEnd (W.setCell ⟨G, nd.getD t 0, none⟩ (.slice a' r.length c')) base B R N w un up (ni nd) nm pa (t : Int) e1 W') :
    e1 = .returned (.tuple #[]) ∧ ∃ un' up', Own W' base uq (nodesOf nd (pth ++ [t])) ∧ base ≤ W'.heap.size ∧ ∀ g cap W2, Own W2 base (.slice (some ⟨g, 0, none⟩) (pth.length + 1 + 1) cap) (nodesOf nd (pth ++ [t]) ++ [(w : Int)]) →
      (W'.alloc (.cells #[.int .i64 (w : Int)] 3)).grownBy W2 uq.ownBlock → (uq.ownBlock = some g ∨ W'.heap.size ≤ g) →
      EI W0 W2 X G T B R base N root su (.slice (some ⟨g, 0, none⟩) (pth.length + 1 + 1) cap) un' up' (nd ++ [w]) (par ++ [t]) ((pth ++ [t]) ++ [nd.length]) (rest.set (nd.getD t 0) r) (nm.set w (nd.length : Int)) (pa ++ [(t : Int)]) := by
  obtain ⟨l1, l2, l3, l4⟩ := h.lX
  have hlt := h.rs.lt
  have hR := h.lR
  obtain ⟨rfl, un', up', hS, hF, hun, hup⟩ := hA
  have hg := grown_setCell W G (nd.getD t 0) (.slice a' r.length c')
  have hv : nd.getD t 0 < N := h.ex.node _ (at_mem (h.ex.on t (by simp)).1)
  have hoq1 := World.ownsRow.kept h.oq hg (row_far h.oq (by omega))
  have hrs1 := h.rs.step hv e hc hc' ha
  have hsz1 : base ≤ (W.setCell ⟨G, nd.getD t 0, none⟩ (.slice a' r.length c')).heap.size := by simpa using l4
  have hgeN : ∀ q, un.ownBlock = some q → base ≤ q := fun q hq => (World.ownsRow.lt h.sb.on q hq).1
  have hgeP : ∀ q, up.ownBlock = some q → base ≤ q := fun q hq => (World.ownsRow.lt h.sb.op q hq).1
  have hgeQ : ∀ q, uq.ownBlock = some q → base ≤ q ∧ q < W.heap.size := fun q hq => World.ownsRow.lt h.oq q hq
  have hnotQ : ∀ q, uq.ownBlock = some q → ¬ AddP B R un up q := fun q hq p => by
    have := (hgeQ q hq).1
    have := h.sb.ltR
    rcases p with p | p | p | p
    · omega
    · omega
    · exact h.n1 q hq p
    · exact h.n2 q hq p
  have hoq2 : Own W' base uq (nodesOf nd (pth ++ [t])) := hF.own hoq1 hnotQ
  have hsz2 : base ≤ W'.heap.size := hS.sz
  have hrs2 : RS W' G N T (rest.set (nd.getD t 0) r) := hrs1.fr hF (fun q hq p => by
    have := h.sb.ltR
    rcases p with p | p | p | p
    · omega
    · omega
    · have := hgeN q p; omega
    · have := hgeP q p; omega)
  have hbl2 : Below X W0 W' := hF.belowOf (h.bl.setCell (p := ⟨G, nd.getD t 0, none⟩) h.lG _) (fun q p => by
    rcases p with p | p | p | p
    · omega
    · omega
    · have := hgeN q p; omega
    · have := hgeP q p; omega) (by simp; omega)
  have m1 : dNe uq un' := fun q hq hq' => by
    rcases hun q hq' with p | p
    · exact h.n1 q hq p
    · have := (hgeQ q hq).2; simp at p; omega
  have m2 : dNe uq up' := fun q hq hq' => by
    rcases hup q hq' with p | p
    · exact h.n2 q hq p
    · have := (hgeQ q hq).2; simp at p; omega
  refine ⟨rfl, un', up', hoq2, hsz2, fun g cap W2 ho hg2 hat => ?_⟩
  have hgr : ∀ r, uq.ownBlock = some r → base ≤ r ∧ un'.ownBlock ≠ some r ∧ up'.ownBlock ≠ some r := fun r hr => ⟨(hgeQ r hr).1, m1 r hr, m2 r hr⟩
  have hge : ∀ q, (Value.slice (some ⟨g, 0, none⟩) (pth.length + 1 + 1) cap).ownBlock = some q → uq.ownBlock = some q ∨ W'.heap.size ≤ q := fun q hq => by
    have e : g = q := by simpa [Value.ownBlock] using hq
    subst e; exact hat
  have hnl : nodesOf (nd ++ [w]) ((pth ++ [t]) ++ [nd.length]) = nodesOf nd (pth ++ [t]) ++ [(w : Int)] := by
    unfold nodesOf
    rw [List.map_append]
    congr 1
    · exact List.map_congr_left fun i hi => by rw [getD_snoc (h.ex.on i hi).1]
    · simp only [List.map_cons, List.map_nil]; rw [getD_snoc_last]
  refine ⟨h.ex.push e hw hwN, ?_, (hrs2.alloc _).kept hg2 (fun r hr => by have := (hgeQ r hr).1; omega), by rw [hnl]; exact ho, ?_, ?_, h.nm.add h.sb.ln hw hwN, h.pa.add (by rw [h.ex.lp]; exact h.ex.ne), ?_, h.lG, h.lB, h.lR⟩
  · have := (hS.alloc (.cells #[.int .i64 (w : Int)] 3)).kept hg2 hgr
    rw [ni_snoc', ni_len] at this
    exact this
  · intro q hq hq'
    rcases hge q hq with p | p
    · exact m1 q p hq'
    · have := (World.ownsRow.lt hS.on q hq').2; omega
  · intro q hq hq'
    rcases hge q hq with p | p
    · exact m2 q p hq'
    · have := (World.ownsRow.lt hS.op q hq').2; omega
  · exact (hbl2.alloc (by omega) _).grown hg2 (by simp; omega) (fun r hr => by have := (hgeQ r hr).1; omega)
end
theorem ei_start {W0 wr w4 : World} {X G N root : Nat} {su : Nat → List Nat} {rest : List (List Nat)} (hrs : RS wr G N wr.heap.size rest) (hall : ∀ v, v < N → rest.getD v [] = su v) (hrow4 : Row w4 wr.heap.size wr.heap.size N (List.replicate N (-1))) (hb4 : Below wr.heap.size wr w4) (hbl : Below X W0 wr) (hXG : X ≤ G) (hr : root < N) :
    SB (w4.alloc (Obj.cells #[Value.slice none 0 0, Value.slice (some ⟨wr.heap.size, 0, none⟩) N N, Value.slice none 0 0] 70)) (w4.heap.size + 1) w4.heap.size wr.heap.size N (.slice none 0 0) (.slice none 0 0) [] (List.replicate N (-1)) [] ∧
    ∀ e w6, AddEnd (w4.alloc (Obj.cells #[Value.slice none 0 0, Value.slice (some ⟨wr.heap.size, 0, none⟩) N N, Value.slice none 0 0] 70)) (w4.heap.size + 1) w4.heap.size wr.heap.size N root (.slice none 0 0) (.slice none 0 0) [] (List.replicate N (-1)) [] (-1) e w6 →
      e = .returned (.tuple #[]) ∧ ∃ un up, EI W0 (w6.alloc (.cells #[.int .i64 (root : Int)] 3)) X G wr.heap.size w4.heap.size wr.heap.size (w4.heap.size + 1) N root su (.slice (some ⟨w6.heap.size, 0, none⟩) 1 1) un up [root] [0] [0] rest ((List.replicate N (-1)).set root 0) [-1] := by
  obtain ⟨W5, hW5⟩ : ∃ W5, w4.alloc (Obj.cells #[Value.slice none 0 0, Value.slice (some ⟨wr.heap.size, 0, none⟩) N N, Value.slice none 0 0] 70) = W5 := ⟨_, rfl⟩
  have hlt := hrow4.lt.2
  have hs5 : W5.heap.size = w4.heap.size + 1 := by rw [← hW5]; simp
  have hrow5 : Row W5 wr.heap.size wr.heap.size N (List.replicate N (-1)) := by rw [← hW5]; exact hrow4.alloc _
  have hSB : SB W5 (w4.heap.size + 1) w4.heap.size wr.heap.size N (.slice none 0 0) (.slice none 0 0) [] (List.replicate N (-1)) [] := by
    refine ⟨?_, ?_, ?_, ?_, ?_, ?_, Own.nil _ _, hrow5, Own.nil _ _, .inl rfl, by omega, by omega, by omega, by simp, by omega⟩ <;> (rw [← hW5]; simp [go_sem])
  rw [hW5]
  refine ⟨hSB, fun e w6 hA => ?_⟩
  obtain ⟨rfl, un, up, hS, hF, hun, hup⟩ := hA
  have hT : wr.heap.size < W5.heap.size := by omega
  have hb5 : Below wr.heap.size wr W5 := by rw [← hW5]; exact hb4.alloc (by omega) _
  have hrs5 := hrs.below hb5 (Nat.le_refl _)
  have hno : ∀ q, AddP w4.heap.size wr.heap.size (.slice none 0 0) (.slice none 0 0) q → wr.heap.size ≤ q := fun q p => by
    rcases p with p | p | p | p
    · omega
    · omega
    · cases p
    · cases p
  have hrs6 : RS w6 G N wr.heap.size rest := hrs5.fr hF (fun q hq p => by have := hno q p; omega)
  have hXr : X ≤ wr.heap.size := Nat.le_trans hXG (Nat.le_of_lt hrs.lt)
  have hbl6 : Below X W0 w6 := hF.belowOf (hbl.trans (hb5.mono hXr)) (fun q p => Nat.le_trans hXr (hno q p)) (by omega)
  have ge : ∀ {u : Value} {zs : List Int}, Own w6 (w4.heap.size + 1) u zs → dNe (.slice (some ⟨w6.heap.size, 0, none⟩) 1 1) u := fun {u zs} ho q hq hq' => by
    have e : w6.heap.size = q := by simpa [Value.ownBlock] using hq
    have := (World.ownsRow.lt ho q hq').2; omega
  refine ⟨rfl, un, up, Ex.start hr hrs.lr hall 0, hS.alloc _, hrs6.alloc _, d_new1 _ _ hS.sz _, ge hS.on, ge hS.op, ?_, ⟨rfl, rfl, fun j a b => by simp at b; omega⟩, hbl6.alloc (by have := hS.sz; omega) _, hXG, by omega, Nat.le_refl _⟩
  exact (NM.start N).add (by simp) (by simp) hr
end Go.Proofs.Ytcmliokkamgcdaa
