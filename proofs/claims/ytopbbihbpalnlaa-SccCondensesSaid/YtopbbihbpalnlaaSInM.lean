/-
  The order of the components: what the program's lists hold while it is made.
-/
import Derived.Test.YtopbbihbpalnlaaSOrdS
import Derived.Test.YtopbbihbpalnlaaSIdx
import Derived.Test.YtopbbihbpalnlaaSMem
import Derived.Test.YtopbbihbpalnlaaSTop
namespace Go.Proofs.Ytopbbihbpalnlaa
set_option linter.unusedVariables false

theorem nodupLe : ∀ {N : Nat} {l : List Nat}, l.Nodup → (∀ x ∈ l, x < N) → l.length ≤ N
  | 0, l, _, hl => by
    match l with
    | [] => exact Nat.le_refl _
    | x :: r => have := hl x (by simp); omega
  | N + 1, l, h, hl => by
    by_cases hm : N ∈ l
    · have h1 := nodupLe (N := N) (l := l.erase N) (h.erase N) (fun x hx => by
        have h2 := (h.mem_erase_iff).mp hx
        have h3 := hl x h2.2
        have := h2.1
        omega)
      rw [List.length_erase_of_mem hm] at h1
      omega
    · have h1 := nodupLe (N := N) (l := l) h (fun x hx => by
        have h3 := hl x hx
        have : x ≠ N := fun e => hm (e ▸ hx)
        omega)
      omega
/-- The lists are disjoint, hold all nodes, and edges lead to the same or an earlier one. -/
structure LOk (N : Nat) (ps : List (Int × Int)) (L : List (List Nat)) : Prop where
  lt : ∀ i, i < L.length → ∀ x ∈ L.getD i [], x < N
  ne : ∀ i, i < L.length → L.getD i [] ≠ []
  dis : ∀ i j, i < L.length → j < L.length → ∀ x, x ∈ L.getD i [] → x ∈ L.getD j [] → i = j
  all : ∀ x, x < N → ∃ i, i < L.length ∧ x ∈ L.getD i []
  nd : ∀ i, i < L.length → (L.getD i []).Nodup
  fit : ∀ e ∈ ps, (0 ≤ e.1 ∧ e.1 < N) ∧ 0 ≤ e.2 ∧ e.2 < N
  top : ∀ e ∈ ps, ∀ i j, i < L.length → j < L.length → e.1.toNat ∈ L.getD i [] → e.2.toNat ∈ L.getD j [] → j ≤ i
def ixL (N : Nat) (L : List (List Nat)) : List Int := idxTo N (L.map ni) L.length
def cx (N : Nat) (L : List (List Nat)) (v : Int) : Nat := ((ixL N L).getD v.toNat 0).toNat
def hdL (L : List (List Nat)) (i : Nat) : Nat := (L.getD i []).getD 0 0
theorem map_ni_at (L : List (List Nat)) (i : Nat) : (L.map ni).getD i [] = ni (L.getD i []) := by
  by_cases h : i < L.length
  · simp [List.getD_eq_getElem?_getD, h]
  · simp [List.getD_eq_getElem?_getD, h, ni]
theorem mem_ni {l : List Nat} {x : Nat} : (x : Int) ∈ ni l ↔ x ∈ l := by
  unfold ni
  rw [List.mem_map]
  constructor
  · rintro ⟨y, h, e⟩
    have : y = x := by omega
    exact this ▸ h
  · intro h; exact ⟨x, h, rfl⟩
theorem ni_nonneg {l : List Nat} {z : Int} (h : z ∈ ni l) : 0 ≤ z ∧ z.toNat ∈ l := by
  obtain ⟨y, hy, e⟩ := List.mem_map.mp h
  subst e
  exact ⟨by omega, by simpa using hy⟩
section
variable {N : Nat} {ps : List (Int × Int)} {L : List (List Nat)}
theorem LOk.fits (h : LOk N ps L) (i : Nat) (hi : i < L.length) : ∀ x ∈ (L.map ni).getD i [], 0 ≤ x ∧ x < (N : Int) := by
  intro x hx
  rw [map_ni_at] at hx
  obtain ⟨h1, h2⟩ := ni_nonneg hx
  have := h.lt i hi _ h2
  omega
theorem LOk.ix (h : LOk N ps L) {i : Nat} (hi : i < L.length) {v : Nat} (hv : v ∈ L.getD i []) : (ixL N L).getD v 0 = (i : Int) := by
  unfold ixL
  refine idx_at N (L.map ni) (fun c hc x hx => ?_) (fun i j hi hj x h1 h2 => ?_) L.length (by simp) i hi v (by rw [map_ni_at]; exact mem_ni.mpr hv)
  · obtain ⟨k, hk, e⟩ := List.getElem_of_mem hc
    rw [List.length_map] at hk
    refine h.fits k hk x ?_
    rw [List.getD_eq_getElem?_getD, List.getElem?_eq_getElem (by rw [List.length_map]; exact hk), Option.getD_some, e]
    exact hx
  · rw [map_ni_at] at h1 h2
    rw [List.length_map] at hi hj
    exact h.dis i j hi hj _ (ni_nonneg h1).2 (ni_nonneg h2).2
theorem LOk.cx_of (h : LOk N ps L) {i : Nat} (hi : i < L.length) {v : Nat} (hv : v ∈ L.getD i []) : cx N L (v : Int) = i := by
  unfold cx
  rw [Int.toNat_natCast, h.ix hi hv]; rfl
theorem LOk.at_ (h : LOk N ps L) {v : Nat} (hv : v < N) : cx N L (v : Int) < L.length ∧ v ∈ L.getD (cx N L (v : Int)) [] ∧ (ixL N L).getD v 0 = (cx N L (v : Int) : Int) := by
  obtain ⟨i, hi, hm⟩ := h.all v hv
  rw [h.cx_of hi hm]
  exact ⟨hi, hm, h.ix hi hm⟩
theorem LOk.hd_mem (h : LOk N ps L) {i : Nat} (hi : i < L.length) : hdL L i ∈ L.getD i [] := by
  have := h.ne i hi
  unfold hdL
  cases hc : L.getD i [] with
  | nil => exact absurd hc this
  | cons x r => simp
theorem LOk.cx_hd (h : LOk N ps L) {i : Nat} (hi : i < L.length) : cx N L (hdL L i : Int) = i := h.cx_of hi (h.hd_mem hi)
theorem LOk.inj (h : LOk N ps L) : ∀ i j, i < L.length → j < L.length → hdL L i = hdL L j → i = j := fun i j hi hj e => h.dis i j hi hj _ (h.hd_mem hi) (e ▸ h.hd_mem hj)
theorem LOk.count (h : LOk N ps L) : L.length ≤ N := by
  have h1 : ((List.range L.length).map (hdL L)).Nodup := by
    unfold List.Nodup
    rw [List.pairwise_map]
    refine List.Pairwise.imp_of_mem ?_ (List.nodup_range (n := L.length))
    intro a b ha hb hne e
    rw [List.mem_range] at ha hb
    exact hne (h.inj a b ha hb e)
  have := nodupLe (N := N) h1 (fun x hx => by
    obtain ⟨i, hi, e⟩ := List.mem_map.mp hx
    rw [List.mem_range] at hi
    exact e ▸ h.lt i hi _ (h.hd_mem hi))
  simpa using this
/-- What lies in the heap are first nodes: not more than there are lists. -/
theorem LOk.few (h : LOk N ps L) {rd : List Int} (hn : rd.Nodup) (hm : ∀ z ∈ rd, ∃ i, i < L.length ∧ z = (hdL L i : Int)) : rd.length ≤ L.length := by
  have h1 : (rd.map (cx N L)).Nodup := by
    unfold List.Nodup
    rw [List.pairwise_map]
    refine List.Pairwise.imp_of_mem ?_ hn
    intro a b ha hb hne e
    obtain ⟨i, hi, ea⟩ := hm a ha
    obtain ⟨j, hj, eb⟩ := hm b hb
    subst ea; subst eb
    rw [h.cx_hd hi, h.cx_hd hj] at e
    exact hne (e ▸ rfl)
  have := nodupLe (N := L.length) h1 (fun x hx => by
    obtain ⟨z, hz, e⟩ := List.mem_map.mp hx
    obtain ⟨i, hi, ez⟩ := hm z hz
    subst ez
    rw [h.cx_hd hi] at e
    omega)
  simpa using this
/-- The edges between the lists. -/
def btw (N : Nat) (L : List (List Nat)) (ps : List (Int × Int)) : List (Nat × Nat) := ps.filterMap fun e => if cx N L e.1 = cx N L e.2 then none else some (cx N L e.1, cx N L e.2)
theorem btw_snoc (N : Nat) (L : List (List Nat)) (ps : List (Int × Int)) (e : Int × Int) : btw N L (ps ++ [e]) = btw N L ps ++ (if cx N L e.1 = cx N L e.2 then [] else [(cx N L e.1, cx N L e.2)]) := by
  unfold btw
  rw [List.filterMap_append]
  congr 1
  by_cases h : cx N L e.1 = cx N L e.2 <;> simp [h]
theorem btw_len (N : Nat) (L : List (List Nat)) (ps : List (Int × Int)) : (btw N L ps).length ≤ ps.length := List.length_filterMap_le _ _
theorem LOk.btw (h : LOk N ps L) : ∀ e ∈ btw N L ps, e.1 < L.length ∧ e.2 < e.1 := by
  intro e he
  obtain ⟨x, hx, e2⟩ := List.mem_filterMap.mp he
  by_cases hc : cx N L x.1 = cx N L x.2
  · rw [if_pos hc] at e2; cases e2
  · rw [if_neg hc] at e2
    cases e2
    obtain ⟨⟨a1, a2⟩, a3, a4⟩ := h.fit x hx
    obtain ⟨u, v⟩ := x
    simp only at hc a1 a2 a3 a4 ⊢
    obtain ⟨u, rfl⟩ : ∃ m : Nat, u = (m : Int) := ⟨u.toNat, by omega⟩
    obtain ⟨v, rfl⟩ : ∃ m : Nat, v = (m : Int) := ⟨v.toNat, by omega⟩
    obtain ⟨b1, b2, _⟩ := h.at_ (v := u) (by omega)
    obtain ⟨c1, c2, _⟩ := h.at_ (v := v) (by omega)
    have := h.top _ hx _ _ b1 c1 (by simpa using b2) (by simpa using c2)
    exact ⟨b1, by omega⟩
theorem mem_btw {x : Nat × Nat} : x ∈ Go.Proofs.Ytopbbihbpalnlaa.btw N L ps ↔ ∃ e ∈ ps, cx N L e.1 = x.1 ∧ cx N L e.2 = x.2 ∧ x.1 ≠ x.2 := by
  unfold Go.Proofs.Ytopbbihbpalnlaa.btw
  rw [List.mem_filterMap]
  constructor
  · rintro ⟨e, he, e2⟩
    by_cases hc : cx N L e.1 = cx N L e.2
    · rw [if_pos hc] at e2; cases e2
    · rw [if_neg hc] at e2; cases e2
      exact ⟨e, he, rfl, rfl, hc⟩
  · rintro ⟨e, he, h1, h2, h3⟩
    refine ⟨e, he, ?_⟩
    rw [if_neg (by rw [h1, h2]; exact h3), h1, h2]
end
/-- Who enters each one, and how many each one waits for. -/
def entL (C : Nat) (D : List (Nat × Nat)) : List (List Int) := (List.range C).map fun i => ni (into D i)
def waiL (C : Nat) (D : List (Nat × Nat)) : List Int := (List.range C).map fun i => ((outs D [] i : Nat) : Int)
theorem entL_len (C : Nat) (D : List (Nat × Nat)) : (entL C D).length = C := by simp [entL]
theorem waiL_len (C : Nat) (D : List (Nat × Nat)) : (waiL C D).length = C := by simp [waiL]
theorem entL_at {C : Nat} {D : List (Nat × Nat)} {i : Nat} (hi : i < C) : (entL C D).getD i [] = ni (into D i) := by simp [entL, List.getD_eq_getElem?_getD, hi]
theorem waiL_at {C : Nat} {D : List (Nat × Nat)} {i : Nat} (hi : i < C) : (waiL C D).getD i 0 = ((outs D [] i : Nat) : Int) := by simp [waiL, List.getD_eq_getElem?_getD, hi]
theorem entL_nil (C : Nat) : entL C [] = List.replicate C [] := by
  apply List.ext_getElem
  · simp [entL]
  · intro i h1 h2; simp [entL, into, ni]
theorem waiL_nil (C : Nat) : waiL C [] = List.replicate C 0 := by
  apply List.ext_getElem
  · simp [waiL]
  · intro i h1 h2; simp [waiL, outs]
theorem into_len (D : List (Nat × Nat)) (i : Nat) : (into D i).length ≤ D.length := by
  unfold into; rw [List.length_map]; exact List.length_filter_le _ _
theorem outs_len (D : List (Nat × Nat)) (i : Nat) : outs D [] i ≤ D.length := List.countP_le_length
theorem entL_snoc {C : Nat} {D : List (Nat × Nat)} {f t : Nat} (ht : t < C) : entL C (D ++ [(f, t)]) = (entL C D).set t ((entL C D).getD t [] ++ [(f : Int)]) := by
  apply List.ext_getElem
  · simp [entL]
  · intro i h1 h2
    rw [entL_len] at h1
    have e1 : (entL C (D ++ [(f, t)]))[i]'(by rw [entL_len]; exact h1) = ni (into (D ++ [(f, t)]) i) := by simp [entL]
    have e2 : (entL C D)[i]'(by rw [entL_len]; exact h1) = ni (into D i) := by simp [entL]
    rw [e1, List.getElem_set, e2, entL_at ht, into_step]
    by_cases h : t = i
    · subst h; simp [ni]
    · rw [if_neg h, if_neg h]; simp
theorem waiL_snoc {C : Nat} {D : List (Nat × Nat)} {f t : Nat} (hf : f < C) : waiL C (D ++ [(f, t)]) = (waiL C D).set f ((waiL C D).getD f 0 + 1) := by
  apply List.ext_getElem
  · simp [waiL]
  · intro i h1 h2
    rw [waiL_len] at h1
    have e1 : (waiL C (D ++ [(f, t)]))[i]'(by rw [waiL_len]; exact h1) = ((outs (D ++ [(f, t)]) [] i : Nat) : Int) := by simp [waiL]
    have e2 : (waiL C D)[i]'(by rw [waiL_len]; exact h1) = ((outs D [] i : Nat) : Int) := by simp [waiL]
    rw [e1, List.getElem_set, e2, waiL_at hf, waits_step]
    by_cases h : f = i
    · subst h; simp
    · rw [if_neg h, if_neg h]; simp
theorem KS.begin (C : Nat) (D : List (Nat × Nat)) (hd : Nat → Nat) : KS D C hd 0 [] (waiL C D) := KS.start (waiL_len C D) fun i hi => waiL_at hi
end Go.Proofs.Ytopbbihbpalnlaa
