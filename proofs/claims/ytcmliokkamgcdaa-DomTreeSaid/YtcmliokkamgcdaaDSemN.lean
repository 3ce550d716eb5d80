/-
  What the tree's three lists say of nodes.
-/
import Derived.Test.YtcmliokkamgcdaaDTop
import Derived.Test.YtcmliokkamgcdaaDUp
import Derived.Test.YtcmliokkamgcdaaDTel
namespace Go.Proofs.Ytcmliokkamgcdaa
open Go.RowKit
set_option linter.unusedVariables false

/-- v is reached from the root. -/
def rch (ps : List (Int × Int)) (root v : Nat) : Prop := Rg (fun u v => v ∈ suD ps u) (fun _ => True) root v
/-- a dominates b. -/
def domN (ps : List (Int × Int)) (root a b : Nat) : Prop := rch ps root b ∧ (Rg (fun u v => v ∈ suD ps u) (· ≠ a) root b → a = root)
section
variable {N root : Nat} {ps : List (Int × Int)} {nd par : List Nat} {rest : List (List Nat)}
theorem Ex.dom_node (h : Ex N root (suD ps) nd par [] rest) {i j : Nat} (hi : i < nd.length) (hj : j < nd.length) : domN ps root (nd.getD i 0) (nd.getD j 0) ↔ Dom (FN (suD ps) nd) i j := by
  constructor
  · intro d; exact (h.dom hi hj).2 d.2
  · intro d; exact ⟨(h.reach _).1 (at_mem hj), (h.dom hi hj).1 d⟩
theorem Ex.avoid (h : Ex N root (suD ps) nd par [] rest) {a b : Nat} (ha : a ∉ nd) (r : rch ps root b) : Rg (fun u v => v ∈ suD ps u) (· ≠ a) root b := by
  unfold rch at r
  induction r with
  | refl => exact .refl
  | @tail y z hy e _ ih =>
    have hz : z ∈ nd := (h.reach z).2 (hy.tail e trivial)
    exact ih.tail e (fun q => ha (q ▸ hz))
theorem Ex.dom_in (h : Ex N root (suD ps) nd par [] rest) {a b : Nat} (d : domN ps root a b) : a ∈ nd ∧ b ∈ nd := by
  refine ⟨?_, (h.reach b).2 d.1⟩
  apply Classical.byContradiction
  intro n
  have := d.2 (h.avoid n d.1)
  exact n (this ▸ (h.first ▸ at_mem h.ne))
end
/-- The way up by immediate dominators. -/
def upI (id : List Int) : Nat → Nat → List Nat
  | 0, _ => []
  | f + 1, v => if id.getD v 0 < 0 then [] else (id.getD v 0).toNat :: upI id f (id.getD v 0).toNat
theorem upI_node {N k : Nat} {nd : List Nat} {D : Nat → Nat} {id : List Int} (t : TreeOf N k nd D id) : ∀ f j, j < f → j < k → upI id f (nd.getD j 0) = (upD D f j).map (fun i => nd.getD i 0)
  | 0, j, h, _ => by omega
  | f + 1, j, h, hk => by
    unfold upI upD
    by_cases e : j = 0
    · subst e
      rw [t.root, if_pos (by decide), if_pos rfl]; rfl
    · have hl := t.lt j (by omega) hk
      rw [t.at_ j (by omega) hk, if_neg (by omega), if_neg e, Int.toNat_natCast, List.map_cons]
      rw [upI_node t f (D j) (by omega) (by omega)]
theorem upI_none {id : List Int} {f v : Nat} (h : id.getD v 0 = -1) : upI id f v = [] := by
  cases f with
  | zero => rfl
  | succ f => unfold upI; rw [h, if_pos (by decide)]
/-- What the list of the immediate dominators says. -/
structure IdS (N root : Nat) (ps : List (Int × Int)) (id : List Int) : Prop where
  ln : id.length = N
  rt : id.getD root 0 = -1
  off : ∀ v, v < N → ¬ rch ps root v → id.getD v 0 = -1
  at_ : ∀ v, v < N → rch ps root v → v ≠ root → ∃ p : Nat, p < N ∧ id.getD v 0 = (p : Int) ∧ domN ps root p v ∧ p ≠ v ∧ ∀ a, domN ps root a v → a ≠ v → domN ps root a p
  up : ∀ v, v < N → (∀ a, a ∈ upI id N v ↔ domN ps root a v ∧ a ≠ v) ∧ (upI id N v).Nodup ∧ ∀ a ∈ upI id N v, a < N
  anti : ∀ a b, domN ps root a b → domN ps root b a → a = b
section
variable {N root : Nat} {ps : List (Int × Int)} {id pl z : List Int}
theorem upD_nodup {k : Nat} {D : Nat → Nat} (lt : ∀ i, 0 < i → i < k → D i < i) {f v : Nat} (h : v ≤ f) (hv : v < k) : (upD D f v).Nodup := by
  have := upD_desc lt f v h hv
  exact this.imp (fun h e => by have : _ > _ := h; omega)
theorem TD.ids (h : TD N root ps id pl z) : IdS N root ps id := by
  obtain ⟨nd, par, rest, D, k, fr, hex, ht, hd, _, _⟩ := h.ex
  have hF := hex.tree
  have lk := ht.lk
  rw [lk] at hF
  have hkN : k ≤ N := by rw [← lk]; exact d_nodup_len hex.nodup hex.node
  have hr : nd.getD 0 0 = root := hex.first
  have domle : ∀ i j, i < k → j < k → (domN ps root (nd.getD i 0) (nd.getD j 0) ↔ Dom (FN (suD ps) nd) i j) := fun i j a b => hex.dom_node (by omega) (by omega)
  have pick : ∀ v, v ∈ nd → ∃ j, j < k ∧ nd.getD j 0 = v := fun v hv => by obtain ⟨j, hj, e⟩ := mem_at hv; exact ⟨j, by omega, e⟩
  refine ⟨ht.ln, by rw [← hr]; exact ht.root, fun v hv n => ht.off v hv (fun m => n ((hex.reach v).1 m)), fun v hv r ne => ?_, fun v hv => ?_, fun a b d1 d2 => ?_⟩
  · obtain ⟨j, hj, e⟩ := pick v ((hex.reach v).2 r)
    have h0 : 0 < j := by
      rcases Nat.eq_zero_or_pos j with q | q
      · subst q; exact absurd (e.symm.trans hr) ne
      · exact q
    obtain ⟨x, y, q⟩ := hd j h0 hj
    subst e
    refine ⟨nd.getD (D j) 0, hex.node _ (at_mem (by omega)), ht.at_ j h0 hj, (domle _ _ (by omega) hj).2 y, fun e => ?_, fun a da na => ?_⟩
    · have := nd_inj hex.nodup (by omega) (by omega) e; omega
    · obtain ⟨i, hi, ei⟩ := pick a (hex.dom_in da).1
      subst ei
      exact (domle _ _ hi (by omega)).2 (q i ((domle _ _ hi hj).1 da) (fun e => na (by rw [e])))
  · by_cases m : v ∈ nd
    · obtain ⟨j, hj, e⟩ := pick v m
      subst e
      rw [upI_node ht N j (by omega) hj]
      have hmem := mem_upD ht.lt N j (by omega) hj
      refine ⟨fun a => ?_, ?_, fun a ha => ?_⟩
      · rw [List.mem_map]
        constructor
        · rintro ⟨i, hi, e⟩
          obtain ⟨h1, h2⟩ := (hmem i).1 hi
          have hik : i < k := by have := ancD_le ht.lt h1 hj; omega
          subst e
          exact ⟨(domle _ _ hik hj).2 ((isD_anc hF hd hj).1 h1), fun e => h2 (nd_inj hex.nodup (by omega) (by omega) e)⟩
        · rintro ⟨d, ne⟩
          obtain ⟨i, hi, e⟩ := pick a (hex.dom_in d).1
          subst e
          exact ⟨i, (hmem i).2 ⟨(isD_anc hF hd hj).2 ((domle _ _ hi hj).1 d), fun e => ne (by rw [e])⟩, rfl⟩
      · rw [List.nodup_iff_pairwise_ne, List.pairwise_map]
        have hn := upD_nodup ht.lt (f := N) (v := j) (by omega) hj
        refine List.Pairwise.imp_of_mem (fun {a b} ha hb q e => ?_) hn
        have h1 := ancD_le ht.lt ((hmem a).1 ha).1 hj
        have h2 := ancD_le ht.lt ((hmem b).1 hb).1 hj
        exact q (nd_inj hex.nodup (by omega) (by omega) e)
      · obtain ⟨i, hi, e⟩ := List.mem_map.1 ha
        have h1 := ancD_le ht.lt ((hmem i).1 hi).1 hj
        rw [← e]; exact hex.node _ (at_mem (by omega))
    · rw [upI_none (ht.off v hv m)]
      refine ⟨fun a => ⟨fun h => (by cases h), fun ⟨d, _⟩ => absurd (hex.dom_in d).2 m⟩, List.nodup_nil, fun a ha => by cases ha⟩
  · obtain ⟨i, hi, e⟩ := pick a (hex.dom_in d1).1
    obtain ⟨j, hj, e2⟩ := pick b (hex.dom_in d1).2
    subst e; subst e2
    have h1 := hF.dom_le hj ((domle i j hi hj).1 d1)
    have h2 := hF.dom_le hi ((domle j i hj hi).1 d2)
    have : i = j := by omega
    rw [this]
theorem TD.dom (h : TD N root ps id pl z) {a b : Nat} (ha : a < N) (hb : b < N) : domB pl z a b = true ↔ domN ps root a b := by
  obtain ⟨nd, par, rest, D, k, fr, hex, ht, hd, hz, hp⟩ := h.ex
  have hF := hex.tree
  have lk := ht.lk
  rw [lk] at hF
  have pick : ∀ v, v ∈ nd → ∃ j, j < k ∧ nd.getD j 0 = v := fun v hv => by obtain ⟨j, hj, e⟩ := mem_at hv; exact ⟨j, by omega, e⟩
  unfold domB
  rw [Bool.and_eq_true, decide_eq_true_eq, decide_eq_true_eq]
  by_cases ma : a ∈ nd
  · obtain ⟨i, hi, e⟩ := pick a ma
    by_cases mb : b ∈ nd
    · obtain ⟨j, hj, e2⟩ := pick b mb
      subst e; subst e2
      rw [hex.dom_node (by omega) (by omega), ← isD_anc hF hd hj, ← hp.pla.tells hi hj, hp.np i hi, hp.np j hj, hz.nat i hi]
      omega
    · constructor
      · rintro ⟨x, _⟩
        subst e
        rw [hp.np i hi, hp.off b hb mb] at x; omega
      · intro d; exact absurd (hex.dom_in d).2 mb
  · constructor
    · rintro ⟨x, y⟩
      rw [hp.off a ha ma, hz.off a ha ma] at y
      by_cases mb : b ∈ nd
      · obtain ⟨j, hj, e2⟩ := pick b mb
        subst e2; rw [hp.np j hj] at y; omega
      · rw [hp.off b hb mb] at y; omega
    · intro d; exact absurd (hex.dom_in d).1 ma
theorem TD.size (h : TD N root ps id pl z) {v : Nat} (hv : v < N) : 0 < z.getD v 0 ↔ rch ps root v := by
  obtain ⟨nd, par, rest, D, k, fr, hex, ht, hd, hz, hp⟩ := h.ex
  by_cases m : v ∈ nd
  · obtain ⟨j, hj, e⟩ := mem_at m
    have := hz.sized.is j (by rw [← ht.lk]; exact hj)
    subst e
    rw [hz.nat j (by rw [← ht.lk]; exact hj)]
    exact ⟨fun _ => (hex.reach _).1 m, fun _ => by omega⟩
  · rw [hz.off v hv m]
    exact ⟨fun h => by omega, fun r => absurd ((hex.reach v).2 r) m⟩
theorem TD.rng (h : TD N root ps id pl z) (hN : N ≤ 8192) {v : Nat} (hv : v < N) : (-1 ≤ pl.getD v 0 ∧ pl.getD v 0 ≤ 8193) ∧ 0 ≤ z.getD v 0 ∧ z.getD v 0 ≤ 8193 := by
  obtain ⟨nd, par, rest, D, k, fr, hex, ht, hd, hz, hp⟩ := h.ex
  have hkN : k ≤ N := by rw [← ht.lk]; exact d_nodup_len hex.nodup hex.node
  by_cases m : v ∈ nd
  · obtain ⟨j, hj, e⟩ := mem_at m
    rw [ht.lk] at hj
    have h1 := (hp.bnd ht hz ht.k0 (Nat.le_refl _) j hj).2
    have h2 := hz.big j hj
    subst e
    rw [hz.nat j hj, hp.np j hj]; omega
  · rw [hz.off v hv m, hp.off v hv m]; omega
/-- There is one list of immediate dominators. -/
theorem IdS.unique {id2 : List Int} (h : IdS N root ps id) (h2 : IdS N root ps id2) : id = id2 := by
  apply List.ext_getElem
  · rw [h.ln, h2.ln]
  · intro v q1 q2
    have hv : v < N := by rw [← h.ln]; exact q1
    have e : id.getD v 0 = id2.getD v 0 := by
      by_cases r : rch ps root v
      · by_cases ne : v = root
        · subst ne; rw [h.rt, h2.rt]
        · obtain ⟨p, _, e1, d1, n1, m1⟩ := h.at_ v hv r ne
          obtain ⟨p2, _, e2, d2, n2, m2⟩ := h2.at_ v hv r ne
          have := h.anti p p2 (m2 p d1 n1) (m1 p2 d2 n2)
          rw [e1, e2, this]
      · rw [h.off v hv r, h2.off v hv r]
    simpa [List.getD_eq_getElem?_getD, q1, q2] using e
end
end Go.Proofs.Ytcmliokkamgcdaa
