/-
  Distances from some nodes, in plain lists.
-/
import Derived.Test.YthgnbpiemkcdhaaGShortM2
namespace Go.Proofs.Ythgnbpiemkcdhaa
open Go.RowKit Go.Shelf
set_option linter.unusedVariables false

/-- A walk of n edges from a to b. -/
inductive Wk (ps : List (Int × Int)) (a : Int) : Nat → Int → Prop
  | nil : Wk ps a 0 a
  | snoc {n : Nat} {u b : Int} : Wk ps a n u → (u, b) ∈ ps → Wk ps a (n + 1) b
theorem Wk.cons {ps : List (Int × Int)} {a b c : Int} {n : Nat} (he : (a, b) ∈ ps) (h : Wk ps b n c) : Wk ps a (n + 1) c := by
  induction h with
  | nil => exact .snoc .nil he
  | snoc _ h2 ih => exact .snoc ih h2
theorem Wk.trans {ps : List (Int × Int)} {a b c : Int} {n m : Nat} (h : Wk ps a n b) (k : Wk ps b m c) : Wk ps a (n + m) c := by
  induction k with
  | nil => exact h
  | snoc _ h2 ih => exact .snoc ih h2
theorem Wk.turn {ps qs : List (Int × Int)} {a b : Int} {n : Nat} (hq : ∀ a b, (a, b) ∈ ps → (b, a) ∈ qs) (h : Wk ps a n b) : Wk qs b n a := by
  induction h with
  | nil => exact .nil
  | snoc _ h2 ih => exact .cons (hq _ _ h2) ih
theorem Wk.rch {ps : List (Int × Int)} {a b : Int} {n : Nat} (h : Wk ps a n b) : Rch ps a b := by
  induction h with
  | nil => exact .refl
  | snoc _ h2 ih => exact .step ih h2
theorem Rch.wk {ps : List (Int × Int)} {a b : Int} (h : Rch ps a b) : ∃ n, Wk ps a n b := by
  induction h with
  | refl => exact ⟨0, .nil⟩
  | step _ h2 ih => obtain ⟨n, hn⟩ := ih; exact ⟨n + 1, .snoc hn h2⟩
theorem Wk.fn {ps : List (Int × Int)} {a b : Int} {n : Nat} (h : Wk ps a n b) : ∃ p : Nat → Int, p 0 = a ∧ p n = b ∧ ∀ k, k < n → (p k, p (k + 1)) ∈ ps := by
  induction h with
  | nil => exact ⟨fun _ => a, rfl, rfl, fun k hk => by omega⟩
  | @snoc n u b _ h2 ih =>
    obtain ⟨p, h0, h1, h3⟩ := ih
    refine ⟨fun k => if k ≤ n then p k else b, by simp [h0], if_neg (by omega), fun k hk => ?_⟩
    show ((if k ≤ n then p k else b), (if k + 1 ≤ n then p (k + 1) else b)) ∈ ps
    rw [if_pos (by omega)]
    by_cases e : k + 1 ≤ n
    · rw [if_pos e]; exact h3 k (by omega)
    · rw [if_neg e]
      obtain rfl : k = n := by omega
      rw [h1]; exact h2
theorem Wk.of_fn {ps : List (Int × Int)} (p : Nat → Int) : ∀ (n i : Nat), (∀ k, i ≤ k → k < i + n → (p k, p (k + 1)) ∈ ps) → Wk ps (p i) n (p (i + n))
  | 0, i, _ => .nil
  | n + 1, i, h => by
    have := Wk.of_fn p n i fun k hk hk2 => h k hk (by omega)
    exact .snoc this (h (i + n) (by omega) (by omega))

/-- What the list of distances and the queue always keep. -/
structure BC (N : Nat) (st : List Int × List Int) : Prop where
  len : st.1.length = N
  cnt : st.1.countP (fun b => decide (b < 0)) + st.2.length = N
  node : ∀ x ∈ st.2, 0 ≤ x ∧ x < (N : Int)
  seen : ∀ x ∈ st.2, 0 ≤ st.1.getD x.toNat 0
  all : ∀ x : Int, 0 ≤ x → x < N → 0 ≤ st.1.getD x.toNat 0 → x ∈ st.2
def putD (st : List Int × List Int) (x d : Int) : List Int × List Int := (st.1.set x.toNat d, st.2 ++ [x])
section
variable {N : Nat} {st : List Int × List Int} {x d : Int}
theorem BC.le (h : BC N st) : st.2.length ≤ N := by have := h.cnt; omega
theorem BC.fresh (h : BC N st) (hx : st.1.getD x.toNat 0 < 0) : x ∉ st.2 := fun hm => by have := h.seen x hm; omega
theorem BC.lt (h : BC N st) (h0 : 0 ≤ x) (h1 : x < N) : x.toNat < st.1.length := by rw [h.len]; omega
theorem BC.at_new (h : BC N st) (h0 : 0 ≤ x) (h1 : x < N) : (putD st x d).1.getD x.toNat 0 = d := by
  show (List.set _ _ _).getD _ _ = d
  rw [getD_setI _ _ _ _ (h.lt h0 h1), if_pos rfl]
theorem BC.at_old (h : BC N st) (h0 : 0 ≤ x) (h1 : x < N) (hx : st.1.getD x.toNat 0 < 0) : ∀ y ∈ st.2, (putD st x d).1.getD y.toNat 0 = st.1.getD y.toNat 0 := fun y hy => by
  have hne : x.toNat ≠ y.toNat := fun e => by have := h.seen y hy; rw [← e] at this; omega
  show (List.set _ _ _).getD _ _ = _
  rw [getD_setI _ _ _ _ (h.lt h0 h1), if_neg hne]
theorem BC.put (h : BC N st) (h0 : 0 ≤ x) (h1 : x < N) (hx : st.1.getD x.toNat 0 < 0) (hd : 0 ≤ d) : BC N (putD st x d) := by
  have hlt := h.lt h0 h1
  refine ⟨by simpa [putD] using h.len, ?_, fun y hy => ?_, fun y hy => ?_, fun y y0 y1 hy => ?_⟩
  · have := countP_setI st.1 x.toNat d hlt hx hd
    have := h.cnt
    simp only [putD, List.length_append, List.length_singleton]
    omega
  · rcases List.mem_append.1 hy with hy | hy
    · exact h.node y hy
    · rw [List.mem_singleton.1 hy]; exact ⟨h0, h1⟩
  · rcases List.mem_append.1 hy with hy | hy
    · rw [h.at_old h0 h1 hx y hy]; exact h.seen y hy
    · rw [List.mem_singleton.1 hy, h.at_new h0 h1]; exact hd
  · show y ∈ st.2 ++ [x]
    by_cases exy : x.toNat = y.toNat
    · have : y = x := by omega
      simp [this]
    · have hy' : 0 ≤ (st.1.set x.toNat d).getD y.toNat 0 := hy
      rw [getD_setI _ _ _ _ hlt, if_neg exy] at hy'
      exact List.mem_append_left _ (h.all y y0 y1 hy')
theorem BC.start (N : Nat) : BC N (List.replicate N (-1), []) := by
  refine ⟨by simp, by simp [List.countP_replicate], fun x hx => by simp at hx, fun x hx => by simp at hx, fun y y0 y1 hy => ?_⟩
  have hy2 : y.toNat < N := by omega
  simp [List.getD_eq_getElem?_getD, hy2] at hy
end
/-- The first k of the given nodes are looked at. -/
structure BS (N : Nat) (zs : List Int) (k : Nat) (st : List Int × List Int) : Prop where
  c : BC N st
  val : ∀ x ∈ st.2, st.1.getD x.toNat 0 = 0 ∧ x ∈ zs
  has : ∀ z ∈ zs.take k, isNd (N : Int) z = true → z ∈ st.2
theorem BS.start (N : Nat) (zs : List Int) : BS N zs 0 (List.replicate N (-1), []) := ⟨.start N, fun x hx => by simp at hx, fun z hz => by simp at hz⟩
section
variable {N k : Nat} {zs : List Int} {st : List Int × List Int} {z : Int}
theorem mem_take_succ {l : List Int} {k : Nat} {x : Int} (hk : k < l.length) (h : x ∈ l.take (k + 1)) : x ∈ l.take k ∨ x = l.getD k 0 := by
  rw [List.take_succ_eq_append_getElem hk] at h
  rcases List.mem_append.1 h with h | h
  · exact .inl h
  · right
    rw [List.mem_singleton.1 h]
    simp [List.getD_eq_getElem?_getD, hk]
theorem BS.skip (h : BS N zs k st) (hk : k < zs.length) (hz : zs.getD k 0 = z) (hs : isNd (N : Int) z = false ∨ 0 ≤ st.1.getD z.toNat 0) : BS N zs (k + 1) st := by
  refine ⟨h.c, h.val, fun y hy hn => ?_⟩
  rcases mem_take_succ hk hy with hy | hy
  · exact h.has y hy hn
  · rw [hz] at hy
    subst hy
    have hn2 := isNd_iff.1 hn
    rcases hs with hs | hs
    · rw [hs] at hn; cases hn
    · exact h.c.all y hn2.1 hn2.2 hs
theorem BS.put (h : BS N zs k st) (hk : k < zs.length) (hz : zs.getD k 0 = z) (hn : isNd (N : Int) z = true) (hs : st.1.getD z.toNat 0 < 0) : BS N zs (k + 1) (putD st z 0) := by
  have hn2 := isNd_iff.1 hn
  refine ⟨h.c.put hn2.1 hn2.2 hs (Int.le_refl _), fun y hy => ?_, fun y hy hn => ?_⟩
  · rcases List.mem_append.1 hy with hy | hy
    · rw [h.c.at_old hn2.1 hn2.2 hs y hy]; exact h.val y hy
    · rw [List.mem_singleton.1 hy, h.c.at_new hn2.1 hn2.2]
      exact ⟨rfl, by rw [← hz]; exact mem_getD zs k hk⟩
  · rcases mem_take_succ hk hy with hy | hy
    · exact List.mem_append_left _ (h.has y hy hn)
    · rw [hz] at hy; subst hy; simp [putD]
end
/-- The first i nodes of the queue are dealt with. -/
structure BI (N : Nat) (ps : List (Int × Int)) (zs : List Int) (i : Nat) (st : List Int × List Int) : Prop where
  c : BC N st
  path : ∀ x ∈ st.2, ∃ z ∈ zs, isNd (N : Int) z = true ∧ Wk ps z (st.1.getD x.toNat 0).toNat x
  zero : ∀ z ∈ zs, isNd (N : Int) z = true → z ∈ st.2 ∧ st.1.getD z.toNat 0 = 0
  bnd : ∀ j, j < st.2.length → st.1.getD (st.2.getD j 0).toNat 0 ≤ (j : Int)
  mono : ∀ j k, j ≤ k → k < st.2.length → st.1.getD (st.2.getD j 0).toNat 0 ≤ st.1.getD (st.2.getD k 0).toNat 0
  last : i < st.2.length → ∀ k, k < st.2.length → st.1.getD (st.2.getD k 0).toNat 0 ≤ st.1.getD (st.2.getD i 0).toNat 0 + 1
  done : ∀ j, j < i → j < st.2.length → ∀ x, (st.2.getD j 0, x) ∈ ps → x ∈ st.2 ∧ st.1.getD x.toNat 0 ≤ st.1.getD (st.2.getD j 0).toNat 0 + 1
theorem BS.bi {N : Nat} {zs : List Int} {st : List Int × List Int} (h : BS N zs zs.length st) (ps : List (Int × Int)) : BI N ps zs 0 st := by
  have hm : ∀ j, j < st.2.length → st.1.getD (st.2.getD j 0).toNat 0 = 0 := fun j hj => (h.val _ (mem_getD _ j hj)).1
  refine ⟨h.c, fun x hx => ⟨x, (h.val x hx).2, isNd_iff.2 (h.c.node x hx), by rw [(h.val x hx).1]; exact .nil⟩, fun z hz hn => ?_, fun j hj => by rw [hm j hj]; omega, fun j k hjk hk => ?_, fun hi k hk => ?_, fun j hj => by omega⟩
  · have := h.has z (by rw [List.take_length]; exact hz) hn
    exact ⟨this, (h.val z this).1⟩
  · rw [hm j (by omega), hm k hk]; exact Int.le_refl _
  · rw [hm k hk, hm 0 hi]; omega
/-- .. and the first k successors of the next one. -/
structure BJ (N : Nat) (ps : List (Int × Int)) (zs : List Int) (i : Nat) (v : Int) (k : Nat) (st : List Int × List Int) : Prop where
  b : BI N ps zs i st
  lt : i < st.2.length
  at_ : st.2.getD i 0 = v
  part : ∀ x ∈ (succL ps v).take k, x ∈ st.2 ∧ st.1.getD x.toNat 0 ≤ st.1.getD v.toNat 0 + 1
section
variable {N i k : Nat} {ps : List (Int × Int)} {zs : List Int} {st : List Int × List Int} {v x : Int}
theorem BI.begin (h : BI N ps zs i st) (hi : i < st.2.length) (hv : st.2.getD i 0 = v) : BJ N ps zs i v 0 st := ⟨h, hi, hv, fun x hx => by simp at hx⟩
theorem BJ.next (h : BJ N ps zs i v k st) (hk : (succL ps v).length ≤ k) : BI N ps zs (i + 1) st := by
  refine ⟨h.b.c, h.b.path, h.b.zero, h.b.bnd, h.b.mono, fun hlt q hq => ?_, fun j hj hj' x hx => ?_⟩
  · have a := h.b.last h.lt q hq
    have b := h.b.mono i (i + 1) (by omega) hlt
    omega
  · by_cases e : j = i
    · subst e
      rw [h.at_] at hx ⊢
      exact h.part x (by rw [List.take_of_length_le hk]; exact mem_succL.2 hx)
    · exact h.b.done j (by omega) hj' x hx
theorem BJ.skip (h : BJ N ps zs i v k st) (hk : k < (succL ps v).length) (hx : (succL ps v).getD k 0 = x) (h0 : 0 ≤ x) (h1 : x < N) (hs : 0 ≤ st.1.getD x.toNat 0) : BJ N ps zs i v (k + 1) st := by
  refine ⟨h.b, h.lt, h.at_, fun y hy => ?_⟩
  rcases mem_take_succ hk hy with hy | hy
  · exact h.part y hy
  · rw [hx] at hy
    subst hy
    have hm := h.b.c.all y h0 h1 hs
    obtain ⟨q, hq, e⟩ := List.getElem_of_mem hm
    have := h.b.last h.lt q hq
    rw [h.at_, show st.2.getD q 0 = y by simp [List.getD_eq_getElem?_getD, hq, e]] at this
    exact ⟨hm, this⟩
theorem BJ.put (h : BJ N ps zs i v k st) (hk : k < (succL ps v).length) (hx : (succL ps v).getD k 0 = x) (h0 : 0 ≤ x) (h1 : x < N) (hs : st.1.getD x.toNat 0 < 0) : BJ N ps zs i v (k + 1) (putD st x (st.1.getD v.toNat 0 + 1)) := by
  have hb := h.b
  have hc := hb.c
  have hvm : v ∈ st.2 := by rw [← h.at_]; exact mem_getD _ _ h.lt
  have hv0 := hc.seen v hvm
  have hold := hc.at_old h0 h1 hs (d := st.1.getD v.toNat 0 + 1)
  have hnew := hc.at_new h0 h1 (d := st.1.getD v.toNat 0 + 1)
  have hmem : ∀ j, j < st.2.length → st.2.getD j 0 ∈ st.2 := fun j hj => mem_getD _ j hj
  have hq : ∀ j, j < st.2.length → (putD st x (st.1.getD v.toNat 0 + 1)).2.getD j 0 = st.2.getD j 0 := fun j hj => by
    show (st.2 ++ [x]).getD j 0 = _
    rw [getD_appI, if_pos hj]
  have hql : (putD st x (st.1.getD v.toNat 0 + 1)).2.getD st.2.length 0 = x := by
    show (st.2 ++ [x]).getD _ 0 = _
    rw [getD_appI, if_neg (by omega), if_pos rfl]
  have hl : (putD st x (st.1.getD v.toNat 0 + 1)).2.length = st.2.length + 1 := by simp [putD]
  have he : (v, x) ∈ ps := mem_succL.1 (by rw [← hx]; exact mem_getD _ _ hk)
  have hsub : ∀ y ∈ st.2, y ∈ (putD st x (st.1.getD v.toNat 0 + 1)).2 := fun y hy => List.mem_append_left _ hy
  refine ⟨⟨hc.put h0 h1 hs (by omega), fun y hy => ?_, fun z hz hn => ?_, fun j hj => ?_, fun j q hjq hq2 => ?_, fun _ q hq2 => ?_, fun j hj hj' y hy => ?_⟩, by rw [hl]; have := h.lt; omega, by rw [hq i h.lt]; exact h.at_, fun y hy => ?_⟩
  · rcases List.mem_append.1 hy with hy | hy
    · rw [hold y hy]; exact hb.path y hy
    · rw [List.mem_singleton.1 hy, hnew]
      obtain ⟨z, hz, hn, hw⟩ := hb.path v hvm
      refine ⟨z, hz, hn, ?_⟩
      rw [show (st.1.getD v.toNat 0 + 1).toNat = (st.1.getD v.toNat 0).toNat + 1 by omega]
      exact .snoc hw he
  · have := hb.zero z hz hn
    exact ⟨hsub z this.1, by rw [hold z this.1]; exact this.2⟩
  · rw [hl] at hj
    by_cases e : j < st.2.length
    · rw [hq j e, hold _ (hmem j e)]; exact hb.bnd j e
    · obtain rfl : j = st.2.length := by omega
      rw [hql, hnew]
      have := hb.bnd i h.lt
      rw [h.at_] at this
      have := h.lt
      omega
  · rw [hl] at hq2
    by_cases e : q < st.2.length
    · rw [hq q e, hq j (by omega), hold _ (hmem q e), hold _ (hmem j (by omega))]
      exact hb.mono j q hjq e
    · obtain rfl : q = st.2.length := by omega
      rw [hql, hnew]
      by_cases e2 : j < st.2.length
      · rw [hq j e2, hold _ (hmem j e2)]
        have := hb.last h.lt j e2
        rwa [h.at_] at this
      · obtain rfl : j = st.2.length := by omega
        rw [hql, hnew]
        exact Int.le_refl _
  · rw [hl] at hq2
    rw [hq i h.lt, h.at_, hold v hvm]
    by_cases e : q < st.2.length
    · rw [hq q e, hold _ (hmem q e)]
      have := hb.last h.lt q e
      rwa [h.at_] at this
    · obtain rfl : q = st.2.length := by omega
      rw [hql, hnew]
      exact Int.le_refl _
  · have hjl : j < st.2.length := by have := h.lt; omega
    rw [hq j hjl] at hy
    obtain ⟨h2, h3⟩ := hb.done j hj hjl y hy
    rw [hq j hjl, hold _ (hmem j hjl), hold y h2]
    exact ⟨hsub y h2, h3⟩
  · rw [hold v hvm]
    rcases mem_take_succ hk hy with hy | hy
    · have := h.part y hy
      exact ⟨hsub y this.1, by rw [hold y this.1]; exact this.2⟩
    · rw [hx] at hy
      subst hy
      exact ⟨by simp [putD], by rw [hnew]; exact Int.le_refl _⟩
end
/-- The list of distances. -/
structure DistOf (N : Nat) (ps : List (Int × Int)) (zs : List Int) (out : List Int) : Prop where
  len : out.length = N
  bnd : ∀ x : Int, 0 ≤ x → x < N → out.getD x.toNat 0 ≤ (N : Int)
  path : ∀ x : Int, 0 ≤ x → x < N → 0 ≤ out.getD x.toNat 0 → ∃ z ∈ zs, isNd (N : Int) z = true ∧ Wk ps z (out.getD x.toNat 0).toNat x
  least : ∀ z ∈ zs, isNd (N : Int) z = true → ∀ m x, Wk ps z m x → 0 ≤ out.getD x.toNat 0 ∧ out.getD x.toNat 0 ≤ m
theorem BI.dist {N i : Nat} {ps : List (Int × Int)} {zs : List Int} {st : List Int × List Int} (h : BI N ps zs i st) (hi : st.2.length ≤ i) : DistOf N ps zs st.1 := by
  refine ⟨h.c.len, fun x h0 h1 => ?_, fun x h0 h1 hx => h.path x (h.c.all x h0 h1 hx), fun z hz hn m x hw => ?_⟩
  · rcases Int.lt_or_le (st.1.getD x.toNat 0) 0 with hx | hx
    · omega
    · obtain ⟨j, hj, e⟩ := List.getElem_of_mem (h.c.all x h0 h1 hx)
      have := h.bnd j hj
      rw [show st.2.getD j 0 = x by simp [List.getD_eq_getElem?_getD, hj, e]] at this
      have := h.c.le
      omega
  have key : x ∈ st.2 ∧ st.1.getD x.toNat 0 ≤ m := by
    induction hw with
    | nil => have := h.zero z hz hn; exact ⟨this.1, by rw [this.2]; omega⟩
    | @snoc n u b _ he ih =>
      obtain ⟨j, hj, e⟩ := List.getElem_of_mem ih.1
      have ej : st.2.getD j 0 = u := by simp [List.getD_eq_getElem?_getD, hj, e]
      have := h.done j (by omega) hj b (by rw [ej]; exact he)
      rw [ej] at this
      exact ⟨this.1, by omega⟩
  exact ⟨h.c.seen x key.1, key.2⟩
end Go.Proofs.Ythgnbpiemkcdhaa
