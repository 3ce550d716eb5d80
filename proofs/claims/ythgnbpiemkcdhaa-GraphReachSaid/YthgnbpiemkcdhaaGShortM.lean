/-
  Path finds a shortest path: in plain lists.
-/
import Derived.Test.YthgnbpiemkcdhaaGRchM
namespace Go.Proofs.Ythgnbpiemkcdhaa
open Go.RowKit Go.Shelf
set_option linter.unusedVariables false

/-- The queue by depth; the positions below i are dealt with. -/
structure DI (ps : List (Int × Int)) (fr : Int) (i : Nat) (st : List Int × List Int) (dep : Int → Nat) : Prop where
  zero : dep fr = 0
  up : ∀ j, 0 < j → j < st.2.length → dep (st.2.getD j 0) = dep (st.1.getD (st.2.getD j 0).toNat 0) + 1 ∧ (st.1.getD (st.2.getD j 0).toNat 0, st.2.getD j 0) ∈ ps
  mono : ∀ j k, j ≤ k → k < st.2.length → dep (st.2.getD j 0) ≤ dep (st.2.getD k 0)
  last : i < st.2.length → ∀ k, k < st.2.length → dep (st.2.getD k 0) ≤ dep (st.2.getD i 0) + 1
  done : ∀ j, j < i → j < st.2.length → ∀ x, (st.2.getD j 0, x) ∈ ps → x ∈ st.2 ∧ dep x ≤ dep (st.2.getD j 0) + 1

theorem DI.vis {N : Nat} {ps : List (Int × Int)} {fr : Int} {i : Nat} {st : List Int × List Int} {dep : Int → Nat} (h : DI ps fr i st dep) (hI : PInv N fr st) (hi : i < st.2.length) {x : Int} (h0 : 0 ≤ x) (h1 : x < N) (he : (st.2.getD i 0, x) ∈ ps) :
    ∃ dep', DI ps fr i (visP (st.2.getD i 0) st x) dep' ∧ (∀ y ∈ st.2, dep' y = dep y) ∧ x ∈ (visP (st.2.getD i 0) st x).2 ∧ dep' x ≤ dep (st.2.getD i 0) + 1 := by
  unfold visP
  by_cases e : st.1.getD x.toNat 0 < 0
  · rw [if_pos e]
    have hlt : x.toNat < st.1.length := by rw [hI.len]; omega
    have hni : x ∉ st.2 := fun hm => by have := hI.seen x hm; omega
    have hne : ∀ y ∈ st.2, y ≠ x := fun y hy e' => hni (e' ▸ hy)
    have hmem : ∀ j, j < st.2.length → st.2.getD j 0 ∈ st.2 := fun j hj => mem_getD _ j hj
    have hd : ∀ y ∈ st.2, (if y = x then dep (st.2.getD i 0) + 1 else dep y) = dep y := fun y hy => if_neg (hne y hy)
    have hbf : ∀ y ∈ st.2, (st.1.set x.toNat (st.2.getD i 0)).getD y.toNat 0 = st.1.getD y.toNat 0 := fun y hy => by
      have := hI.node y hy
      have := hne y hy
      rw [getD_setI _ _ _ _ hlt, if_neg (by omega)]
    have hvm := hmem i hi
    have hbm : ∀ j, 0 < j → j < st.2.length → st.1.getD (st.2.getD j 0).toNat 0 ∈ st.2 := fun j hj hj' => by
      obtain ⟨k, hk, e2⟩ := hI.up j hj hj'
      rw [e2]; exact hmem k (by omega)
    have hq : ∀ j, j < st.2.length → (st.2 ++ [x]).getD j 0 = st.2.getD j 0 := fun j hj => by rw [getD_appI, if_pos hj]
    have hql : (st.2 ++ [x]).getD st.2.length 0 = x := by rw [getD_appI, if_neg (by omega), if_pos rfl]
    have hl : (st.2 ++ [x]).length = st.2.length + 1 := by simp
    refine ⟨fun y => if y = x then dep (st.2.getD i 0) + 1 else dep y, ⟨?_, fun j hj hj' => ?_, fun j k hjk hk => ?_, fun _ k hk => ?_, fun j hj hj' y hy => ?_⟩, hd, by simp, by simp⟩
    · have hf : fr ∈ st.2 := by have := hmem 0 hI.first.1; rwa [hI.first.2] at this
      exact (hd fr hf).trans h.zero
    · have hj2 : j < st.2.length + 1 := by rw [← hl]; exact hj'
      show (if (st.2 ++ [x]).getD j 0 = x then _ else _) = (if (st.1.set x.toNat (st.2.getD i 0)).getD ((st.2 ++ [x]).getD j 0).toNat 0 = x then _ else _) + 1 ∧ ((st.1.set x.toNat (st.2.getD i 0)).getD ((st.2 ++ [x]).getD j 0).toNat 0, (st.2 ++ [x]).getD j 0) ∈ ps
      by_cases hjl : j < st.2.length
      · rw [hq j hjl, hbf _ (hmem j hjl), hd _ (hmem j hjl), hd _ (hbm j hj hjl)]
        exact h.up j hj hjl
      · obtain rfl : j = st.2.length := by omega
        rw [hql, if_pos rfl, getD_setI _ _ _ _ hlt, if_pos rfl, hd _ hvm]
        exact ⟨rfl, he⟩
    · have hk2 : k < st.2.length + 1 := by rw [← hl]; exact hk
      show (if (st.2 ++ [x]).getD j 0 = x then _ else _) ≤ (if (st.2 ++ [x]).getD k 0 = x then _ else _)
      by_cases hkl : k < st.2.length
      · rw [hq k hkl, hq j (by omega), hd _ (hmem k hkl), hd _ (hmem j (by omega))]
        exact h.mono j k hjk hkl
      · obtain rfl : k = st.2.length := by omega
        rw [hql, if_pos rfl]
        by_cases hjl : j < st.2.length
        · rw [hq j hjl, hd _ (hmem j hjl)]
          exact h.last hi j hjl
        · obtain rfl : j = st.2.length := by omega
          rw [hql, if_pos rfl]
          exact Nat.le_refl _
    · have hk2 : k < st.2.length + 1 := by rw [← hl]; exact hk
      show (if (st.2 ++ [x]).getD k 0 = x then _ else _) ≤ (if (st.2 ++ [x]).getD i 0 = x then _ else _) + 1
      rw [hq i hi, hd _ hvm]
      by_cases hkl : k < st.2.length
      · rw [hq k hkl, hd _ (hmem k hkl)]
        exact h.last hi k hkl
      · obtain rfl : k = st.2.length := by omega
        rw [hql, if_pos rfl]
        exact Nat.le_refl _
    · have hjl : j < st.2.length := by omega
      have hy' : (st.2.getD j 0, y) ∈ ps := by rw [← hq j hjl]; exact hy
      obtain ⟨h2, h3⟩ := h.done j hj hjl y hy'
      show y ∈ st.2 ++ [x] ∧ (if y = x then _ else _) ≤ (if (st.2 ++ [x]).getD j 0 = x then _ else _) + 1
      rw [hq j hjl, hd _ h2, hd _ (hmem j hjl)]
      exact ⟨List.mem_append_left _ h2, h3⟩
  · rw [if_neg e]
    have hx := hI.all x h0 h1 (by omega)
    obtain ⟨k, hk, e2⟩ := List.getElem_of_mem hx
    refine ⟨dep, h, fun _ _ => rfl, hx, ?_⟩
    have := h.last hi k hk
    rwa [show st.2.getD k 0 = x by simp [List.getD_eq_getElem?_getD, hk, e2]] at this
theorem visP_sub (v : Int) (st : List Int × List Int) (x : Int) : ∀ y ∈ st.2, y ∈ (visP v st x).2 := fun y hy => by
  unfold visP
  split
  · exact List.mem_append_left _ hy
  · exact hy
theorem DI.fold {N : Nat} {ps : List (Int × Int)} {fr v : Int} {i : Nat} : ∀ (l : List Int) (st : List Int × List Int) (dep : Int → Nat), DI ps fr i st dep → PInv N fr st → i < st.2.length → st.2.getD i 0 = v → (∀ x ∈ l, (0 ≤ x ∧ x < (N : Int)) ∧ (v, x) ∈ ps) →
    ∃ dep', DI ps fr i (l.foldl (visP v) st) dep' ∧ (∀ y ∈ st.2, dep' y = dep y) ∧ (∀ y ∈ st.2, y ∈ (l.foldl (visP v) st).2) ∧ ∀ x ∈ l, x ∈ (l.foldl (visP v) st).2 ∧ dep' x ≤ dep v + 1
  | [], st, dep, h, _, _, _, _ => ⟨dep, h, fun _ _ => rfl, fun _ h => h, fun x hx => by simp at hx⟩
  | x :: l, st, dep, h, hI, hi, hv, hl => by
    subst hv
    have hx := hl x (by simp)
    obtain ⟨d1, h1, h2, h3, h4⟩ := h.vis hI hi hx.1.1 hx.1.2 hx.2
    have hk := visP_keeps (st.2.getD i 0) st x i hi
    obtain ⟨d2, g1, g2, g3, g4⟩ := DI.fold l (visP (st.2.getD i 0) st x) d1 h1 (hI.vis hx.1.1 hx.1.2 hi) hk.1 hk.2 fun y hy => hl y (List.mem_cons_of_mem _ hy)
    have hvm := mem_getD st.2 i hi
    refine ⟨d2, g1, fun y hy => (g2 y (visP_sub _ _ _ y hy)).trans (h2 y hy), fun y hy => g3 y (visP_sub _ _ _ y hy), fun y hy => ?_⟩
    rcases List.mem_cons.1 hy with rfl | hy
    · exact ⟨g3 _ h3, by rw [g2 _ h3]; exact h4⟩
    · have := g4 y hy
      rw [h2 _ hvm] at this
      exact this
theorem DI.walk {N : Nat} {ps : List (Int × Int)} {fr t : Int} (hg : GOk N ps) : ∀ (f i : Nat) (st : List Int × List Int) (dep : Int → Nat), DI ps fr i st dep → PInv N fr st → N + 1 ≤ f + i →
    ∃ i' dep', DI ps fr i' (bfsP ps t f i st) dep' ∧ PInv N fr (bfsP ps t f i st) ∧ (0 ≤ (bfsP ps t f i st).1.getD t.toNat 0 ∨ (bfsP ps t f i st).2.length ≤ i')
  | 0, i, st, dep, h, hI, hf => ⟨i, dep, h, hI, .inr (by have := hI.cnt; show st.2.length ≤ i; omega)⟩
  | f + 1, i, st, dep, h, hI, hf => by
    by_cases hc : i < st.2.length ∧ st.1.getD t.toNat 0 < 0
    · rw [bfsP_go hc.1 hc.2]
      have hl : ∀ x ∈ succL ps (st.2.getD i 0), (0 ≤ x ∧ x < (N : Int)) ∧ (st.2.getD i 0, x) ∈ ps := fun x hx => ⟨succL_node hg x hx, mem_succL.1 hx⟩
      obtain ⟨d1, h1, h2, h3, h4⟩ := DI.fold (succL ps (st.2.getD i 0)) st dep h hI hc.1 rfl hl
      have hI2 : PInv N fr (scanP ps st (st.2.getD i 0)) := PInv.fold _ st hI hc.1 rfl fun x hx => (hl x hx).1
      have hk := foldP_keeps (st.2.getD i 0) (succL ps (st.2.getD i 0)) st i hc.1
      have hvm := mem_getD st.2 i hc.1
      refine DI.walk hg f (i + 1) (scanP ps st (st.2.getD i 0)) d1 ⟨h1.zero, h1.up, h1.mono, fun hlt k hk2 => ?_, fun j hj hj' x hx => ?_⟩ hI2 (by omega)
      · have a := h1.last hk.1 k hk2
        have b := h1.mono i (i + 1) (by omega) hlt
        exact Nat.le_trans a (by show _ ≤ d1 ((List.foldl _ st _).2.getD (i + 1) 0) + 1; omega)
      · by_cases e : j = i
        · subst e
          have e2 : (scanP ps st (st.2.getD j 0)).2.getD j 0 = st.2.getD j 0 := hk.2
          rw [e2] at hx ⊢
          have := h4 x (mem_succL.2 hx)
          rw [h2 _ hvm]
          exact this
        · exact h1.done j (by omega) hj' x hx
    · rw [bfsP_end hc]
      refine ⟨i, dep, h, hI, ?_⟩
      by_cases h2 : i < st.2.length
      · exact .inl (by have : ¬ st.1.getD t.toNat 0 < 0 := fun h3 => hc ⟨h2, h3⟩; omega)
      · exact .inr (by omega)
/-- No path to t is shorter than its depth; and if there is one, t is found. -/
theorem DI.least {ps : List (Int × Int)} {fr t : Int} {i : Nat} {st : List Int × List Int} {dep : Int → Nat} (h : DI ps fr i st dep) (hf : fr ∈ st.2) (hend : t ∈ st.2 ∨ st.2.length ≤ i) (p : Nat → Int) (m : Nat) (h0 : p 0 = fr) (hm : p m = t) (he : ∀ k, k < m → (p k, p (k + 1)) ∈ ps) : t ∈ st.2 ∧ dep t ≤ m := by
  by_cases hc : t ∈ st.2 ∧ dep t ≤ m
  · exact hc
  · have key : ∀ k, k ≤ m → p k ∈ st.2 ∧ dep (p k) ≤ k := by
      intro k
      induction k with
      | zero => intro _; rw [h0]; exact ⟨hf, by rw [h.zero]; exact Nat.le_refl _⟩
      | succ k ih =>
        intro hk
        obtain ⟨h1, h2⟩ := ih (by omega)
        obtain ⟨j, hj, e⟩ := List.getElem_of_mem h1
        have ej : st.2.getD j 0 = p k := by simp [List.getD_eq_getElem?_getD, hj, e]
        have hji : j < i := by
          rcases hend with ht | hlen
          · rcases Nat.lt_or_ge j i with h3 | h3
            · exact h3
            · exfalso
              have hil : i < st.2.length := by omega
              obtain ⟨q, hq, e2⟩ := List.getElem_of_mem ht
              have eq : st.2.getD q 0 = t := by simp [List.getD_eq_getElem?_getD, hq, e2]
              have a := h.mono i j h3 hj
              have b := h.last hil q hq
              rw [ej] at a
              rw [eq] at b
              exact hc ⟨ht, by omega⟩
          · omega
        have := h.done j hji hj (p (k + 1)) (by rw [ej]; exact he k (by omega))
        rw [ej] at this
        exact ⟨this.1, by omega⟩
    have := key m (Nat.le_refl _)
    rwa [hm] at this
end Go.Proofs.Ythgnbpiemkcdhaa
