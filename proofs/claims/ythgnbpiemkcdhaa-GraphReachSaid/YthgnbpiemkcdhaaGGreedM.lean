/-
  The definition's path: from node to node, always to the first successor that is one edge nearer to the end. In plain lists.
-/
import Derived.Test.YthgnbpiemkcdhaaGDistM
import Derived.Test.YthgnbpiemkcdhaaGRTurn
import Derived.Test.YthgnbpiemkcdhaaGRPostM
namespace Go.Proofs.Ythgnbpiemkcdhaa
open Go.RowKit Go.Shelf
set_option linter.unusedVariables false

theorem getD_appN (l : List Nat) (x : Nat) (j : Nat) : (l ++ [x]).getD j 0 = if j < l.length then l.getD j 0 else if j = l.length then x else 0 := by
  simp only [List.getD_eq_getElem?_getD]
  by_cases h : j < l.length
  · rw [if_pos h, List.getElem?_append_left h]
  · rw [if_neg h, List.getElem?_append_right (by omega)]
    by_cases e : j = l.length
    · subst e; simp
    · rw [if_neg e]
      obtain ⟨k, hk⟩ : ∃ k, j - l.length = k + 1 := ⟨j - l.length - 1, by omega⟩
      rw [hk]; simp

/-- pp: for each position of the queue, the position of the node before. Those are below b; the successors of the positions below i are all in the queue. -/
structure OI (ps : List (Int × Int)) (i b : Nat) (st : List Int × List Int) (pp : List Nat) : Prop where
  len : pp.length = st.2.length
  zero : pp.getD 0 0 = 0
  nd : ∀ j k, j < st.2.length → k < st.2.length → st.2.getD j 0 = st.2.getD k 0 → j = k
  up : ∀ j, 0 < j → j < st.2.length → st.1.getD (st.2.getD j 0).toNat 0 = st.2.getD (pp.getD j 0) 0 ∧ (st.2.getD (pp.getD j 0) 0, st.2.getD j 0) ∈ ps ∧ pp.getD j 0 < j ∧ pp.getD j 0 < b
  mono : ∀ j k, j ≤ k → k < st.2.length → pp.getD j 0 ≤ pp.getD k 0
  asc : ∀ j k, 0 < j → j < k → k < st.2.length → pp.getD j 0 = pp.getD k 0 → st.2.getD j 0 < st.2.getD k 0
  done : ∀ j, j < i → j < st.2.length → ∀ x, (st.2.getD j 0, x) ∈ ps → ∃ k, k < st.2.length ∧ st.2.getD k 0 = x ∧ pp.getD k 0 ≤ j
section
variable {N : Nat} {ps : List (Int × Int)} {fr v x : Int} {i : Nat} {st : List Int × List Int} {pp : List Nat}
theorem visP_new (h : st.1.getD x.toNat 0 < 0) : visP v st x = (st.1.set x.toNat v, st.2 ++ [x]) := by unfold visP; rw [if_pos h]
theorem visP_old (h : ¬ st.1.getD x.toNat 0 < 0) : visP v st x = st := by unfold visP; rw [if_neg h]
theorem OI.vis (h : OI ps i (i + 1) st pp) (hI : PInv N fr st) (hi : i < st.2.length) (hv : st.2.getD i 0 = v) (h0 : 0 ≤ x) (h1 : x < N) (he : (v, x) ∈ ps) (hx : st.1.getD x.toNat 0 < 0) (hlow : ∀ j, 0 < j → j < st.2.length → pp.getD j 0 = i → st.2.getD j 0 < x) :
    OI ps i (i + 1) (st.1.set x.toNat v, st.2 ++ [x]) (pp ++ [i]) := by
  have hlt : x.toNat < st.1.length := by rw [hI.len]; omega
  have hne : ∀ j, j < st.2.length → st.2.getD j 0 ≠ x := fun j hj e => by have := hI.seen _ (mem_getD _ j hj); rw [e] at this; omega
  have hq : ∀ j, j < st.2.length → (st.2 ++ [x]).getD j 0 = st.2.getD j 0 := fun j hj => by rw [getD_appI, if_pos hj]
  have hql : (st.2 ++ [x]).getD st.2.length 0 = x := by rw [getD_appI, if_neg (by omega), if_pos rfl]
  have hp : ∀ j, j < st.2.length → (pp ++ [i]).getD j 0 = pp.getD j 0 := fun j hj => by rw [getD_appN, if_pos (by rw [h.len]; exact hj)]
  have hpl : (pp ++ [i]).getD st.2.length 0 = i := by rw [getD_appN, if_neg (by rw [h.len]; omega), if_pos h.len.symm]
  have hl : (st.2 ++ [x]).length = st.2.length + 1 := by simp
  have hbf : ∀ j, j < st.2.length → (st.1.set x.toNat v).getD (st.2.getD j 0).toNat 0 = st.1.getD (st.2.getD j 0).toNat 0 := fun j hj => by
    have := hI.node _ (mem_getD _ j hj)
    have := hne j hj
    rw [getD_setI _ _ _ _ hlt, if_neg (by omega)]
  have hple : ∀ j, j < st.2.length → pp.getD j 0 ≤ i := fun j hj => by
    rcases Nat.eq_zero_or_pos j with e | e
    · subst e; rw [h.zero]; exact Nat.zero_le _
    · have := (h.up j e hj).2.2.2; omega
  have hpz : 0 < st.2.length := by omega
  refine ⟨by simp [h.len], by rw [hp 0 hpz]; exact h.zero, fun j k hj hk e => ?_, fun j hj hj' => ?_, fun j k hjk hk => ?_, fun j k hj hjk hk e => ?_, fun j hj hj' y hy => ?_⟩
  · have hj2 : j < st.2.length + 1 := by rw [← hl]; exact hj
    have hk2 : k < st.2.length + 1 := by rw [← hl]; exact hk
    have e' : (st.2 ++ [x]).getD j 0 = (st.2 ++ [x]).getD k 0 := e
    by_cases a : j < st.2.length
    · rw [hq j a] at e'
      by_cases b : k < st.2.length
      · rw [hq k b] at e'; exact h.nd j k a b e'
      · obtain rfl : k = st.2.length := by omega
        rw [hql] at e'; exact absurd e' (hne j a)
    · obtain rfl : j = st.2.length := by omega
      rw [hql] at e'
      by_cases b : k < st.2.length
      · rw [hq k b] at e'; exact absurd e'.symm (hne k b)
      · omega
  · have hj2 : j < st.2.length + 1 := by rw [← hl]; exact hj'
    show (st.1.set x.toNat v).getD ((st.2 ++ [x]).getD j 0).toNat 0 = (st.2 ++ [x]).getD ((pp ++ [i]).getD j 0) 0 ∧ ((st.2 ++ [x]).getD ((pp ++ [i]).getD j 0) 0, (st.2 ++ [x]).getD j 0) ∈ ps ∧ (pp ++ [i]).getD j 0 < j ∧ (pp ++ [i]).getD j 0 < i + 1
    by_cases a : j < st.2.length
    · have hu := h.up j hj a
      rw [hq j a, hp j a, hq _ (by omega), hbf j a]
      exact hu
    · obtain rfl : j = st.2.length := by omega
      rw [hql, hpl, hq i hi, getD_setI _ _ _ _ hlt, if_pos rfl, hv]
      exact ⟨rfl, he, hi, Nat.lt_succ_self _⟩
  · have hk2 : k < st.2.length + 1 := by rw [← hl]; exact hk
    by_cases b : k < st.2.length
    · rw [hp j (by omega), hp k b]; exact h.mono j k hjk b
    · obtain rfl : k = st.2.length := by omega
      rw [hpl]
      by_cases a : j < st.2.length
      · rw [hp j a]; exact hple j a
      · obtain rfl : j = st.2.length := by omega
        rw [hpl]; exact Nat.le_refl _
  · have hk2 : k < st.2.length + 1 := by rw [← hl]; exact hk
    show (st.2 ++ [x]).getD j 0 < (st.2 ++ [x]).getD k 0
    have a : j < st.2.length := by omega
    rw [hp j a] at e
    rw [hq j a]
    by_cases b : k < st.2.length
    · rw [hp k b] at e
      rw [hq k b]
      exact h.asc j k hj hjk b e
    · obtain rfl : k = st.2.length := by omega
      rw [hpl] at e
      rw [hql]
      exact hlow j hj a e
  · have a : j < st.2.length := by omega
    have hy' : ((st.2 ++ [x]).getD j 0, y) ∈ ps := hy
    rw [hq j a] at hy'
    obtain ⟨k, hk, e, hk2⟩ := h.done j hj a y hy'
    exact ⟨k, by show k < (st.2 ++ [x]).length; rw [hl]; omega, by show (st.2 ++ [x]).getD k 0 = y; rw [hq k hk]; exact e, by rw [hp k hk]; exact hk2⟩
theorem OI.fold : ∀ (l : List Int) (st : List Int × List Int) (pp : List Nat), OI ps i (i + 1) st pp → PInv N fr st → i < st.2.length → st.2.getD i 0 = v → l.Pairwise (· < ·) → (∀ x ∈ l, (0 ≤ x ∧ x < (N : Int)) ∧ (v, x) ∈ ps) → (∀ x ∈ l, ∀ j, 0 < j → j < st.2.length → pp.getD j 0 = i → st.2.getD j 0 < x) →
    ∃ pp', OI ps i (i + 1) (l.foldl (visP v) st) pp' ∧ (∀ j, j < st.2.length → j < (l.foldl (visP v) st).2.length ∧ (l.foldl (visP v) st).2.getD j 0 = st.2.getD j 0 ∧ pp'.getD j 0 = pp.getD j 0) ∧ ∀ x ∈ l, ∃ k, k < (l.foldl (visP v) st).2.length ∧ (l.foldl (visP v) st).2.getD k 0 = x ∧ pp'.getD k 0 ≤ i
  | [], st, pp, h, _, _, _, _, _, _ => ⟨pp, h, fun j hj => ⟨hj, rfl, rfl⟩, fun x hx => by simp at hx⟩
  | x :: l, st, pp, h, hI, hi, hv, hs, hl, hlow => by
    have hs' := List.pairwise_cons.1 hs
    have hx := hl x (by simp)
    have hk := visP_keeps v st x i hi
    have hI2 : PInv N fr (visP v st x) := by have := hI.vis hx.1.1 hx.1.2 hi; rwa [hv] at this
    simp only [List.foldl_cons]
    by_cases e : st.1.getD x.toNat 0 < 0
    · have h1 := h.vis hI hi hv hx.1.1 hx.1.2 hx.2 e (hlow x (by simp))
      rw [← visP_new e] at h1
      have hq : ∀ j, j < st.2.length → (visP v st x).2.getD j 0 = st.2.getD j 0 ∧ j < (visP v st x).2.length := fun j hj => (visP_keeps v st x j hj).symm
      have hp : ∀ j, j < st.2.length → (pp ++ [i]).getD j 0 = pp.getD j 0 := fun j hj => by rw [getD_appN, if_pos (by rw [h.len]; exact hj)]
      have hl2 : (visP v st x).2.length = st.2.length + 1 := by rw [visP_new e]; simp
      have hql : (visP v st x).2.getD st.2.length 0 = x := by
        rw [visP_new e]
        show (st.2 ++ [x]).getD st.2.length 0 = x
        rw [getD_appI, if_neg (by omega), if_pos rfl]
      have hpl : (pp ++ [i]).getD st.2.length 0 = i := by rw [getD_appN, if_neg (by rw [h.len]; omega), if_pos h.len.symm]
      obtain ⟨pp', g1, g2, g3⟩ := OI.fold l (visP v st x) (pp ++ [i]) h1 hI2 hk.1 (hk.2.trans hv) hs'.2 (fun y hy => hl y (List.mem_cons_of_mem _ hy)) (fun y hy j hj hj' hji => by
        by_cases a : j < st.2.length
        · rw [hp j a] at hji
          rw [(hq j a).1]
          exact hlow y (List.mem_cons_of_mem _ hy) j hj a hji
        · obtain rfl : j = st.2.length := by omega
          rw [hql]
          exact hs'.1 y hy)
      refine ⟨pp', g1, fun j hj => ?_, fun y hy => ?_⟩
      · obtain ⟨a, b, c⟩ := g2 j (hq j hj).2
        exact ⟨a, b.trans (hq j hj).1, c.trans (hp j hj)⟩
      · rcases List.mem_cons.1 hy with rfl | hy
        · obtain ⟨a, b, c⟩ := g2 st.2.length (by omega)
          exact ⟨_, a, b.trans hql, by rw [c, hpl]; exact Nat.le_refl _⟩
        · exact g3 y hy
    · rw [visP_old e] at hI2 hk ⊢
      obtain ⟨pp', g1, g2, g3⟩ := OI.fold l st pp h hI hi hv hs'.2 (fun y hy => hl y (List.mem_cons_of_mem _ hy)) (fun y hy => hlow y (List.mem_cons_of_mem _ hy))
      refine ⟨pp', g1, g2, fun y hy => ?_⟩
      rcases List.mem_cons.1 hy with rfl | hy
      · obtain ⟨k, hk, e2⟩ := List.getElem_of_mem (hI.all y hx.1.1 hx.1.2 (by omega))
        obtain ⟨a, b, c⟩ := g2 k hk
        refine ⟨k, a, by rw [b]; simp [List.getD_eq_getElem?_getD, hk, e2], ?_⟩
        rw [c]
        rcases Nat.eq_zero_or_pos k with e3 | e3
        · subst e3; rw [h.zero]; exact Nat.zero_le _
        · have := (h.up k e3 hk).2.2.2; omega
      · exact g3 y hy
end
theorem succL_asc {N : Int} {ps : List (Int × Int)} (hg : GOk N ps) (v : Int) : (succL ps v).Pairwise (· < ·) := by
  have ha : Asc2 ps := hg.asc2
  unfold succL
  rw [List.pairwise_map]
  refine List.Pairwise.imp_of_mem (fun {a b} ha hb hab => ?_) (ha.pairwise.filter _)
  have h1 := (List.mem_filter.1 ha).2
  have h2 := (List.mem_filter.1 hb).2
  rw [ltE_iff] at hab
  simp only [decide_eq_true_eq] at h1 h2
  omega
theorem OI.walk {N : Nat} {ps : List (Int × Int)} {fr t : Int} (hg : GOk N ps) : ∀ (f i : Nat) (st : List Int × List Int) (pp : List Nat), OI ps i i st pp → PInv N fr st → N + 1 ≤ f + i → ∃ i' pp', OI ps i' i' (bfsP ps t f i st) pp'
  | 0, i, st, pp, h, hI, hf => ⟨i, pp, h⟩
  | f + 1, i, st, pp, h, hI, hf => by
    by_cases hc : i < st.2.length ∧ st.1.getD t.toNat 0 < 0
    · rw [bfsP_go hc.1 hc.2]
      have hl : ∀ x ∈ succL ps (st.2.getD i 0), (0 ≤ x ∧ x < (N : Int)) ∧ (st.2.getD i 0, x) ∈ ps := fun x hx => ⟨succL_node hg x hx, mem_succL.1 hx⟩
      have h' : OI ps i (i + 1) st pp := ⟨h.len, h.zero, h.nd, fun j hj hj' => by obtain ⟨a, b, c, d⟩ := h.up j hj hj'; exact ⟨a, b, c, by omega⟩, h.mono, h.asc, h.done⟩
      obtain ⟨pp', g1, g2, g3⟩ := OI.fold (succL ps (st.2.getD i 0)) st pp h' hI hc.1 rfl (succL_asc hg _) hl (fun x hx j hj hj' e => by have := (h.up j hj hj').2.2.2; omega)
      have hI2 : PInv N fr (scanP ps st (st.2.getD i 0)) := PInv.fold _ st hI hc.1 rfl fun x hx => (hl x hx).1
      refine OI.walk hg f (i + 1) (scanP ps st (st.2.getD i 0)) pp' ⟨g1.len, g1.zero, g1.nd, g1.up, g1.mono, g1.asc, fun j hj hj' x hx => ?_⟩ hI2 (by omega)
      by_cases e : j = i
      · subst e
        have e2 : (scanP ps st (st.2.getD j 0)).2.getD j 0 = st.2.getD j 0 := (g2 j hc.1).2.1
        rw [e2] at hx
        exact g3 x (mem_succL.2 hx)
      · exact g1.done j (by omega) hj' x hx
    · rw [bfsP_end hc]
      exact ⟨i, pp, h⟩
theorem OI.start (N : Nat) (ps : List (Int × Int)) (fr : Int) : OI ps 0 0 (startP N fr) [0] := by
  have hl : (startP (N : Int) fr).2.length = 1 := rfl
  refine ⟨rfl, rfl, fun j k hj hk _ => by omega, fun j hj hj' => by omega, fun j k hjk hk => ?_, fun j k hj hjk hk => by omega, fun j hj => by omega⟩
  obtain rfl : k = 0 := by omega
  obtain rfl : j = 0 := by omega
  exact Nat.le_refl _

/-- The positions of a path along the nodes before: P 0 = 0, .., P m. -/
structure Ch (st : List Int × List Int) (pp : List Nat) (m : Nat) (P : Nat → Nat) : Prop where
  zero : P 0 = 0
  lt : ∀ k, k ≤ m → P k < st.2.length
  up : ∀ k, k < m → 0 < P (k + 1) ∧ pp.getD (P (k + 1)) 0 = P k
section
variable {N : Nat} {ps : List (Int × Int)} {fr : Int} {i b : Nat} {st : List Int × List Int} {pp : List Nat}
theorem chain (h : OI ps i b st pp) (hI : PInv N fr st) : ∀ j, j < st.2.length → ∃ m P, Ch st pp m P ∧ P m = j ∧ m ≤ j ∧ ∀ f acc, m ≤ f → upP st.1 fr f (st.2.getD j 0) acc = acc ++ ((List.range m).map fun k => st.2.getD (P k) 0).reverse := by
  intro j
  induction j using Nat.strongRecOn with
  | _ j ih =>
    intro hj
    rcases Nat.eq_zero_or_pos j with e | e
    · subst e
      refine ⟨0, fun _ => 0, ⟨rfl, fun _ _ => hj, fun k hk => by omega⟩, rfl, Nat.le_refl _, fun f acc _ => ?_⟩
      rw [hI.first.2, upP_end]
      simp
    · obtain ⟨u1, u2, u3, u4⟩ := h.up j e hj
      obtain ⟨m, P, hC, hP, hm, hu⟩ := ih (pp.getD j 0) u3 (by omega)
      refine ⟨m + 1, fun k => if k ≤ m then P k else j, ⟨by simp [hC.zero], fun k hk => ?_, fun k hk => ?_⟩, if_neg (by omega), by omega, fun f acc hf => ?_⟩
      · show (if k ≤ m then P k else j) < _
        by_cases a : k ≤ m
        · rw [if_pos a]; exact hC.lt k a
        · rw [if_neg a]; exact hj
      · show 0 < (if k + 1 ≤ m then P (k + 1) else j) ∧ pp.getD (if k + 1 ≤ m then P (k + 1) else j) 0 = (if k ≤ m then P k else j)
        rw [if_pos (by omega : k ≤ m)]
        by_cases a : k + 1 ≤ m
        · rw [if_pos a]; exact hC.up k (by omega)
        · rw [if_neg a]
          obtain rfl : k = m := by omega
          exact ⟨e, hP.symm⟩
      · obtain ⟨f, rfl⟩ : ∃ f', f = f' + 1 := ⟨f - 1, by omega⟩
        have hne : st.2.getD j 0 ≠ fr := fun e2 => by
          have := h.nd j 0 hj (by omega) (by rw [e2, hI.first.2])
          omega
        rw [upP_go hne, u1, hu f _ (by omega), List.range_succ, List.map_append, List.reverse_append]
        have hmap : (List.range m).map (fun k => st.2.getD (if k ≤ m then P k else j) 0) = (List.range m).map fun k => st.2.getD (P k) 0 := List.map_congr_left fun k hk => by rw [if_pos (by have := List.mem_range.1 hk; omega)]
        rw [hmap]
        simp [hP]
/-- A walk that begins before the chain stays before it. -/
theorem Ch.before (h : OI ps i i st pp) {m : Nat} {P : Nat → Nat} (hC : Ch st pp m P) (s : Nat → Int) : ∀ n k j, k + n ≤ m → j < P k → st.2.getD j 0 = s 0 → (∀ q, q < n → (s q, s (q + 1)) ∈ ps) → ∃ j', j' < P (k + n) ∧ st.2.getD j' 0 = s n := by
  intro n
  induction n with
  | zero => intro k j _ hj hs _; exact ⟨j, hj, hs⟩
  | succ n ih =>
    intro k j hk hj hs he
    obtain ⟨j', hj', hs'⟩ := ih k j (by omega) hj hs fun q hq => he q (by omega)
    obtain ⟨c1, c2⟩ := hC.up (k + n) (by omega)
    have hlt := hC.lt (k + n) (by omega)
    have hlt2 := hC.lt (k + n + 1) (by omega)
    have hpi := (h.up _ c1 hlt2).2.2.2
    rw [c2] at hpi
    obtain ⟨q, hq, e, hq2⟩ := h.done j' (by omega) (by omega) (s (n + 1)) (by rw [hs']; exact he n (by omega))
    refine ⟨q, ?_, e⟩
    rcases Nat.lt_or_ge q (P (k + n + 1)) with a | a
    · exact a
    · have := h.mono _ _ a hq
      rw [c2] at this
      omega
/-- From no node of the chain a lesser successor leads to the end as fast. -/
theorem Ch.least (h : OI ps i i st pp) {m : Nat} {P : Nat → Nat} (hC : Ch st pp m P) {k : Nat} (hk : k < m) {w : Int} (he : (st.2.getD (P k) 0, w) ∈ ps) (hw : w < st.2.getD (P (k + 1)) 0) : ¬ Wk ps w (m - (k + 1)) (st.2.getD (P m) 0) := by
  intro hW
  obtain ⟨c1, c2⟩ := hC.up k hk
  have hlt := hC.lt k (by omega)
  have hlt2 := hC.lt (k + 1) (by omega)
  have hpi := (h.up _ c1 hlt2).2.2.2
  rw [c2] at hpi
  obtain ⟨q, hq, e, hq2⟩ := h.done (P k) hpi hlt w he
  have hqP : q < P (k + 1) := by
    rcases Nat.lt_or_ge q (P (k + 1)) with a | a
    · exact a
    · have h2 := h.mono _ _ a hq
      rw [c2] at h2
      rcases Nat.eq_or_lt_of_le a with e2 | e2
      · rw [e2] at hw; rw [e] at hw; omega
      · have := h.asc (P (k + 1)) q c1 e2 hq (by rw [c2]; omega)
        rw [e] at this
        omega
  obtain ⟨p, p0, p1, p2⟩ := hW.fn
  obtain ⟨j', hj', e3⟩ := Ch.before h hC p (m - (k + 1)) (k + 1) q (by omega) hqP (by rw [p0]; exact e) p2
  rw [show k + 1 + (m - (k + 1)) = m by omega] at hj'
  rw [p1] at e3
  have hm := hC.lt m (Nat.le_refl _)
  have := h.nd j' (P m) (by omega) hm e3
  omega
end
/-- The path that is found: its nodes p 0, .., p m; and from no node of it a lesser successor leads to the end as fast. -/
theorem path_lex {N : Nat} {ps : List (Int × Int)} {fr t : Int} (hg : GOk N ps) (h0 : 0 ≤ fr) (h1 : fr < N) (t0 : 0 ≤ t) (t1 : t < N) (hfo : 0 ≤ (foundP N ps fr t).1.getD t.toNat 0) :
    ∃ (m : Nat) (p : Nat → Int), pathL N ps fr t = (List.range (m + 1)).map p ∧ p 0 = fr ∧ p m = t ∧ (∀ k, k < m → (p k, p (k + 1)) ∈ ps) ∧ ∀ k, k < m → ∀ w, (p k, w) ∈ ps → w < p (k + 1) → ¬ Wk ps w (m - (k + 1)) t := by
  obtain ⟨_, _, _, hI, _⟩ := found_end (t := t) hg h0 h1
  obtain ⟨i, pp, h⟩ := OI.walk (t := t) hg (N + 1) 0 (startP N fr) [0] (OI.start N ps fr) (PInv.start h0 h1) (by omega)
  have hfd : foundP N ps fr t = bfsP ps t (N + 1) 0 (startP N fr) := by unfold foundP; rw [Int.toNat_natCast]
  rw [← hfd] at h
  obtain ⟨j, hj, e⟩ := List.getElem_of_mem (hI.all t t0 t1 hfo)
  have ej : (foundP N ps fr t).2.getD j 0 = t := by simp [List.getD_eq_getElem?_getD, hj, e]
  have hc := hI.cnt
  obtain ⟨m, P, hC, hP, hm, hu⟩ := chain h hI j hj
  have hz : (foundP N ps fr t).2.getD (P m) 0 = t := by rw [hP]; exact ej
  refine ⟨m, fun k => (foundP N ps fr t).2.getD (P k) 0, ?_, by show (foundP N ps fr t).2.getD (P 0) 0 = fr; rw [hC.zero]; exact hI.first.2, hz, fun k hk => ?_, fun k hk w he hw => ?_⟩
  · have := hu N [t] (by omega)
    rw [ej] at this
    unfold pathL
    rw [Int.toNat_natCast, this, List.reverse_append, List.reverse_reverse, List.range_succ (n := m), List.map_append, List.map_singleton]
    show _ ++ [t] = _ ++ [(foundP N ps fr t).2.getD (P m) 0]
    rw [hz]
  · obtain ⟨c1, c2⟩ := hC.up k hk
    have := (h.up _ c1 (hC.lt (k + 1) (by omega))).2.1
    rw [c2] at this
    exact this
  · have := hC.least h hk he hw
    rwa [hz] at this

def goodD (d : List Int) (dv w : Int) : Bool := decide (d.getD w.toNat 0 = dv - 1) && decide (0 ≤ d.getD w.toNat 0)
def nxt (d : List Int) (dv : Int) : List Int → Int
  | [] => -1
  | w :: r => if goodD d dv w = true then w else nxt d dv r
def grd (ps : List (Int × Int)) (d : List Int) : Nat → Int → List Int
  | 0, _ => []
  | f + 1, v => nxt d (d.getD v.toNat 0) (succL ps v) :: grd ps d f (nxt d (d.getD v.toNat 0) (succL ps v))
theorem goodD_iff {d : List Int} {dv w : Int} : goodD d dv w = true ↔ d.getD w.toNat 0 = dv - 1 ∧ 0 ≤ d.getD w.toNat 0 := by simp [goodD]
theorem nxt_drop_good {d L : List Int} {dv w : Int} {k : Nat} (hk : k < L.length) (hw : L.getD k 0 = w) (h : goodD d dv w = true) : nxt d dv (L.drop k) = w := by
  rw [drop_atI hk, hw]
  show (if _ then _ else _) = _
  rw [if_pos h]
theorem nxt_drop_bad {d L : List Int} {dv w : Int} {k : Nat} (hk : k < L.length) (hw : L.getD k 0 = w) (h : ¬ goodD d dv w = true) : nxt d dv (L.drop k) = nxt d dv (L.drop (k + 1)) := by
  rw [drop_atI hk, hw]
  show (if _ then _ else _) = _
  rw [if_neg h]
theorem nxt_mem {d : List Int} {dv : Int} : ∀ {L : List Int} {u : Int}, u ∈ L → goodD d dv u = true → nxt d dv L ∈ L ∧ goodD d dv (nxt d dv L) = true
  | w :: r, u, hu, hg => by
    show (if goodD d dv w = true then w else nxt d dv r) ∈ w :: r ∧ goodD d dv (if goodD d dv w = true then w else nxt d dv r) = true
    by_cases h : goodD d dv w = true
    · rw [if_pos h]; exact ⟨by simp, h⟩
    · rw [if_neg h]
      rcases List.mem_cons.1 hu with rfl | hu
      · exact absurd hg h
      · have := nxt_mem hu hg
        exact ⟨List.mem_cons_of_mem _ this.1, this.2⟩
theorem nxt_least {d : List Int} {dv x : Int} : ∀ {L : List Int}, L.Pairwise (· < ·) → x ∈ L → goodD d dv x = true → (∀ w ∈ L, w < x → ¬ goodD d dv w = true) → nxt d dv L = x
  | w :: r, hp, hx, hg, hl => by
    have hp' := List.pairwise_cons.1 hp
    show (if _ then _ else _) = _
    rcases List.mem_cons.1 hx with rfl | hx
    · rw [if_pos hg]
    · rw [if_neg (hl w (by simp) (hp'.1 x hx))]
      exact nxt_least hp'.2 hx hg fun y hy hyx => hl y (List.mem_cons_of_mem _ hy) hyx
theorem Wk.head {ps : List (Int × Int)} {a b : Int} {n : Nat} (h : Wk ps a (n + 1) b) : ∃ u, (a, u) ∈ ps ∧ Wk ps u n b := by
  generalize e : n + 1 = m at h
  induction h generalizing n with
  | nil => omega
  | @snoc k u b h2 he ih =>
    obtain rfl : n = k := by omega
    cases n with
    | zero =>
      cases h2
      exact ⟨b, he, .nil⟩
    | succ n =>
      obtain ⟨u', h3, h4⟩ := ih rfl
      exact ⟨u', h3, .snoc h4 he⟩

/-- The distances to the node t. -/
structure RD (N : Nat) (ps : List (Int × Int)) (t : Int) (d : List Int) : Prop where
  len : d.length = N
  bnd : ∀ x : Int, 0 ≤ x → x < N → d.getD x.toNat 0 ≤ (N : Int)
  path : ∀ x : Int, 0 ≤ x → x < N → 0 ≤ d.getD x.toNat 0 → Wk ps x (d.getD x.toNat 0).toNat t
  least : ∀ m x, Wk ps x m t → 0 ≤ d.getD x.toNat 0 ∧ d.getD x.toNat 0 ≤ m
theorem DistOf.rd {N : Nat} {ps qs : List (Int × Int)} {t : Int} {d : List Int} (h : DistOf N qs [t] d) (hp : qs.Perm (ps.map revE)) (ht : isNd (N : Int) t = true) : RD N ps t d := by
  refine ⟨h.len, h.bnd, fun x h0 h1 hx => ?_, fun m x hw => ?_⟩
  · obtain ⟨z, hz, _, hw⟩ := h.path x h0 h1 hx
    rw [List.mem_singleton.1 hz] at hw
    exact hw.turn fun a b hab => (mem_turn hp b a).2 hab
  · exact h.least t (by simp) ht m x (hw.turn fun a b hab => (mem_turn hp a b).1 hab)
section
variable {N : Nat} {ps : List (Int × Int)} {t : Int} {d : List Int}
theorem RD.at_end (h : RD N ps t d) : d.getD t.toNat 0 = 0 := by have := h.least 0 t .nil; omega
theorem RD.zero (h : RD N ps t d) {x : Int} (h0 : 0 ≤ x) (h1 : x < N) (hx : d.getD x.toNat 0 = 0) : x = t := by
  have := h.path x h0 h1 (by omega)
  rw [hx] at this
  cases this
  rfl
theorem RD.next (hg : GOk (N : Int) ps) (h : RD N ps t d) {v : Int} {f : Nat} (h0 : 0 ≤ v) (h1 : v < N) (hv : d.getD v.toNat 0 = ((f + 1 : Nat) : Int)) :
    nxt d (d.getD v.toNat 0) (succL ps v) ∈ succL ps v ∧ d.getD (nxt d (d.getD v.toNat 0) (succL ps v)).toNat 0 = (f : Int) ∧ 0 ≤ nxt d (d.getD v.toNat 0) (succL ps v) ∧ nxt d (d.getD v.toNat 0) (succL ps v) < N := by
  have hw := h.path v h0 h1 (by omega)
  rw [hv, Int.toNat_natCast] at hw
  obtain ⟨u, he, hu⟩ := hw.head
  have hum : u ∈ succL ps v := mem_succL.2 he
  have hun := succL_node hg u hum
  have hl := h.least f u hu
  have hp := h.path u hun.1 hun.2 hl.1
  have hge := (h.least _ v (.cons he hp)).2
  have hgood : goodD d (d.getD v.toNat 0) u = true := goodD_iff.2 ⟨by rw [hv]; omega, hl.1⟩
  obtain ⟨a, b⟩ := nxt_mem hum hgood
  have hb := goodD_iff.1 b
  have hn := succL_node hg _ a
  rw [hv] at hb
  rw [hv] at a hn ⊢
  exact ⟨a, by omega, hn.1, hn.2⟩
end
/-- The two paths are the same. -/
theorem path_greedy {N : Nat} {ps : List (Int × Int)} {fr t : Int} {d : List Int} (hg : GOk (N : Int) ps) (h0 : 0 ≤ fr) (h1 : fr < N) (t0 : 0 ≤ t) (t1 : t < N) (h : RD N ps t d) (hfo : 0 ≤ (foundP N ps fr t).1.getD t.toNat 0) : pathL N ps fr t = fr :: grd ps d (d.getD fr.toNat 0).toNat fr := by
  obtain ⟨m, p, e, p0, pm, he, hlx⟩ := path_lex hg h0 h1 t0 t1 hfo
  have hlen : (pathL N ps fr t).length = m + 1 := by rw [e]; simp
  have hnode : ∀ k, k ≤ m → 0 ≤ p k ∧ p k < N := fun k hk => by
    rcases Nat.eq_zero_or_pos k with e2 | e2
    · subst e2; rw [p0]; exact ⟨h0, h1⟩
    · obtain ⟨k, rfl⟩ : ∃ k', k = k' + 1 := ⟨k - 1, by omega⟩
      exact succL_node hg _ (mem_succL.2 (he k (by omega)))
  have hwk : ∀ k, k ≤ m → Wk ps (p k) (m - k) t := fun k hk => by
    have := Wk.of_fn (ps := ps) p (m - k) k fun q _ hq => he q (by omega)
    rwa [show k + (m - k) = m by omega, pm] at this
  have hwk0 : ∀ k, k ≤ m → Wk ps fr k (p k) := fun k hk => by
    have := Wk.of_fn (ps := ps) p k 0 fun q _ hq => he q (by omega)
    rwa [Nat.zero_add, p0] at this
  have hd : ∀ k, k ≤ m → d.getD (p k).toNat 0 = ((m - k : Nat) : Int) := fun k hk => by
    obtain ⟨a, b⟩ := h.least _ _ (hwk k hk)
    have hW := h.path _ (hnode k hk).1 (hnode k hk).2 a
    obtain ⟨q, q0, q1, q2⟩ := ((hwk0 k hk).trans hW).fn
    have := (path_least hg h0 h1 t0 t1 q _ q0 q1 q2).2
    omega
  have hgr : ∀ n k, k + n = m → grd ps d n (p k) = (List.range n).map fun i => p (k + 1 + i) := by
    intro n
    induction n with
    | zero => intro k _; rfl
    | succ n ih =>
      intro k hk
      have hnx : nxt d (d.getD (p k).toNat 0) (succL ps (p k)) = p (k + 1) := by
        refine nxt_least (succL_asc hg _) (mem_succL.2 (he k (by omega))) (goodD_iff.2 ⟨?_, ?_⟩) fun w hw hlt hgd => ?_
        · rw [hd k (by omega), hd (k + 1) (by omega)]; omega
        · rw [hd (k + 1) (by omega)]; omega
        · obtain ⟨g1, g2⟩ := goodD_iff.1 hgd
          have hwn := succL_node hg w hw
          have hW := h.path w hwn.1 hwn.2 g2
          rw [hd k (by omega)] at g1
          rw [show (d.getD w.toNat 0).toNat = m - (k + 1) by omega] at hW
          exact hlx k (by omega) w (mem_succL.1 hw) hlt hW
      show nxt d (d.getD (p k).toNat 0) (succL ps (p k)) :: grd ps d n (nxt d (d.getD (p k).toNat 0) (succL ps (p k))) = _
      rw [hnx, ih (k + 1) (by omega), List.range_succ_eq_map, List.map_cons, List.map_map]
      congr 1
      refine List.map_congr_left fun i _ => ?_
      show p (k + 1 + 1 + i) = p (k + 1 + (i + 1))
      congr 1
      omega
  have hdf : (d.getD fr.toNat 0).toNat = m := by have := hd 0 (Nat.zero_le _); rw [p0] at this; omega
  have := hgr m 0 (by omega)
  rw [p0] at this
  rw [e, hdf, this, List.range_succ_eq_map, List.map_cons, List.map_map, p0]
  congr 1
  refine List.map_congr_left fun i _ => ?_
  show p (i + 1) = p (0 + 1 + i)
  congr 1
  omega
/-- One path is found just where the other is. -/
theorem found_iff {N : Nat} {ps : List (Int × Int)} {fr t : Int} {d : List Int} (hg : GOk (N : Int) ps) (h0 : 0 ≤ fr) (h1 : fr < N) (t0 : 0 ≤ t) (t1 : t < N) (h : RD N ps t d) : 0 ≤ (foundP N ps fr t).1.getD t.toNat 0 ↔ 0 ≤ d.getD fr.toNat 0 := by
  constructor
  · intro hfo
    obtain ⟨m, p, e, p0, pm, he, _⟩ := path_lex hg h0 h1 t0 t1 hfo
    have := Wk.of_fn (ps := ps) p m 0 fun q _ hq => he q (by omega)
    rw [Nat.zero_add, p0, pm] at this
    exact (h.least _ _ this).1
  · intro hd
    obtain ⟨q, q0, q1, q2⟩ := (h.path fr h0 h1 hd).fn
    exact (path_least hg h0 h1 t0 t1 q _ q0 q1 q2).1
end Go.Proofs.Ythgnbpiemkcdhaa
