/-
  Make: the valid graph of edges in any order and with duplicates, or its error.
-/
import Derived.Test.YtopbbihbpalnlaaGCompact

import Derived.Laws.AppendOwnNone
namespace Go.Proofs.Ytopbbihbpalnlaa
open Go.RowKit Go.Shelf
set_option linter.unusedVariables false

/-- Are all ends nodes of a graph of n nodes? -/
def inN (n : Int) (ps : List (Int × Int)) : Bool := ps.all fun e => isNd n e.1 && isNd n e.2
theorem inN_iff {n : Int} {ps : List (Int × Int)} : inN n ps = true ↔ ∀ i, i < ps.length → isNd n (ps.getD i (0, 0)).1 = true ∧ isNd n (ps.getD i (0, 0)).2 = true := by
  unfold inN
  rw [List.all_eq_true]
  constructor
  · intro h i hi
    have := h (ps.getD i (0, 0)) (by simp [List.getD_eq_getElem?_getD, hi])
    simpa using this
  · intro h e he
    obtain ⟨i, hi, rfl⟩ := List.getElem_of_mem he
    have := h i hi
    simpa [List.getD_eq_getElem?_getD, hi] using this
theorem inN_bad {n : Int} {ps : List (Int × Int)} {i : Nat} (hi : i < ps.length) (h : isNd n (ps.getD i (0, 0)).1 = false ∨ isNd n (ps.getD i (0, 0)).2 = false) : inN n ps = false := by
  rw [← Bool.not_eq_true, inN_iff]
  intro h2
  have := h2 i hi
  rcases h with h | h
  · rw [h] at this; cases this.1
  · rw [h] at this; cases this.2

/-- Strictly ascending. -/
def Asc2 (qs : List (Int × Int)) : Prop := ∀ i j, i < j → j < qs.length → ltE (qs.getD i (0, 0)) (qs.getD j (0, 0)) = true
/-- qs has the elements of ps, each once, in order. -/
def Canon (ps qs : List (Int × Int)) : Prop := Asc2 qs ∧ ∀ e, e ∈ qs ↔ e ∈ ps
theorem Canon.unique {ps qs rs : List (Int × Int)} (h : Canon ps qs) (k : Canon ps rs) : qs = rs := by
  have hp : ∀ (l : List (Int × Int)), Asc2 l → l.Pairwise (fun a b => ltE a b = true) := fun l hl => by
    rw [List.pairwise_iff_getElem]
    intro i j hi hj hij
    have := hl i j hij hj
    simpa [List.getD_eq_getElem?_getD, hi, hj] using this
  have hm : ∀ e, e ∈ qs ↔ e ∈ rs := fun e => (h.2 e).trans (k.2 e).symm
  have h1 := hp qs h.1
  have h2 := hp rs k.1
  have irr : ∀ a, ltE a a = true → False := fun a ha => by rw [ltE_iff] at ha; omega
  have tr : ∀ a b c, ltE a b = true → ltE b c = true → ltE a c = true := fun a b c ha hb => by rw [ltE_iff] at *; omega
  clear h k
  induction qs generalizing rs with
  | nil =>
    cases rs with
    | nil => rfl
    | cons b r => exact absurd ((hm b).2 (by simp)) (by simp)
  | cons a q ih =>
    cases rs with
    | nil => exact absurd ((hm a).1 (by simp)) (by simp)
    | cons b r =>
      have h1' := List.pairwise_cons.1 h1
      have h2' := List.pairwise_cons.1 h2
      have hab : a = b := by
        rcases List.mem_cons.1 ((hm a).1 (by simp)) with e | e
        · exact e
        · rcases List.mem_cons.1 ((hm b).2 (by simp)) with e2 | e2
          · exact e2.symm
          · exact absurd (tr _ _ _ (h2'.1 a e) (h1'.1 b e2)) (irr b)
      subst hab
      congr 1
      refine ih (fun e => ?_) h1'.2 h2'.2
      constructor
      · intro he
        rcases List.mem_cons.1 ((hm e).1 (List.mem_cons_of_mem _ he)) with e3 | e3
        · subst e3; exact absurd (h1'.1 e he) (irr e)
        · exact e3
      · intro he
        rcases List.mem_cons.1 ((hm e).2 (List.mem_cons_of_mem _ he)) with e3 | e3
        · subst e3; exact absurd (h2'.1 e he) (irr e)
        · exact e3

/-- What Compact makes of edges in order. -/
theorem cpt_mem (qs : List (Int × Int)) : ∀ p, p ≤ qs.length → ∀ e, e ∈ cpt qs p ↔ ∃ i, i < p ∧ qs.getD i (0, 0) = e := by
  intro p
  induction p with
  | zero => intro _ e; simp [cpt]
  | succ p ih =>
    intro hp e
    have ih2 := ih (by omega) e
    by_cases h : 0 < p ∧ qs.getD p (0, 0) = qs.getD (p - 1) (0, 0)
    · rw [cpt_same h.1 h.2, ih2]
      constructor
      · rintro ⟨i, hi, he⟩; exact ⟨i, by omega, he⟩
      · rintro ⟨i, hi, he⟩
        by_cases e2 : i = p
        · subst e2; exact ⟨i - 1, by omega, by rw [← h.2]; exact he⟩
        · exact ⟨i, by omega, he⟩
    · rw [cpt_new (by
        by_cases h0 : 0 < p
        · exact .inr fun e => h ⟨h0, e⟩
        · exact .inl (by omega)), List.mem_append, List.mem_singleton, ih2]
      constructor
      · rintro (⟨i, hi, he⟩ | rfl)
        · exact ⟨i, by omega, he⟩
        · exact ⟨p, by omega, rfl⟩
      · rintro ⟨i, hi, he⟩
        by_cases e2 : i = p
        · subst e2; exact .inr he.symm
        · exact .inl ⟨i, by omega, he⟩
theorem cpt_asc (qs : List (Int × Int)) (hs : ∀ i j, i < j → j < qs.length → ltE (qs.getD j (0, 0)) (qs.getD i (0, 0)) = false) : ∀ p, p ≤ qs.length → Asc2 (cpt qs p) := by
  intro p
  induction p with
  | zero => intro _ i j _ hj; simp [cpt] at hj
  | succ p ih =>
    intro hp
    have ih2 := ih (by omega)
    by_cases h : 0 < p ∧ qs.getD p (0, 0) = qs.getD (p - 1) (0, 0)
    · rw [cpt_same h.1 h.2]; exact ih2
    · have hnew : p = 0 ∨ qs.getD p (0, 0) ≠ qs.getD (p - 1) (0, 0) := by
        by_cases h0 : 0 < p
        · exact .inr fun e => h ⟨h0, e⟩
        · exact .inl (by omega)
      rw [cpt_new hnew]
      intro i j hij hj
      rw [List.length_append, List.length_singleton] at hj
      have hgi : ∀ t, t < (cpt qs p).length → (cpt qs p ++ [qs.getD p (0, 0)]).getD t (0, 0) = (cpt qs p).getD t (0, 0) := fun t ht => by
        simp [List.getD_eq_getElem?_getD, List.getElem?_append_left ht]
      by_cases e : j < (cpt qs p).length
      · rw [hgi i (by omega), hgi j e]; exact ih2 i j hij e
      · obtain rfl : j = (cpt qs p).length := by omega
        rw [hgi i hij, show (cpt qs p ++ [qs.getD p (0, 0)]).getD (cpt qs p).length (0, 0) = qs.getD p (0, 0) by simp [List.getD_eq_getElem?_getD]]
        have hmem : (cpt qs p).getD i (0, 0) ∈ cpt qs p := by simp [List.getD_eq_getElem?_getD, hij]
        obtain ⟨t, ht, he⟩ := (cpt_mem qs p (by omega) _).1 hmem
        rw [← he]
        have h1 := hs t p ht (by omega)
        rcases hnew with h0 | h0
        · omega
        · have h2 : t = p - 1 ∨ ltE (qs.getD (p - 1) (0, 0)) (qs.getD t (0, 0)) = false := by
            rcases Nat.lt_or_ge t (p - 1) with c | c
            · exact .inr (hs t (p - 1) c (by omega))
            · exact .inl (by omega)
          have h3 := hs (p - 1) p (by omega) (by omega)
          have hne : ¬ ((qs.getD p (0, 0)).1 = (qs.getD (p - 1) (0, 0)).1 ∧ (qs.getD p (0, 0)).2 = (qs.getD (p - 1) (0, 0)).2) := fun hh => h0 (Prod.ext hh.1 hh.2)
          rw [ltE_not] at h1 h3
          rw [ltE_iff]
          rcases h2 with rfl | h2
          · omega
          · rw [ltE_not] at h2; omega
theorem canon_cpt {ps qs : List (Int × Int)} (hp : qs.Perm ps) (hs : ∀ i j, i < j → j < qs.length → ltE (qs.getD j (0, 0)) (qs.getD i (0, 0)) = false) : Canon ps (cpt qs qs.length) := by
  refine ⟨cpt_asc qs hs _ (Nat.le_refl _), fun e => ?_⟩
  rw [cpt_mem qs _ (Nat.le_refl _), ← hp.mem_iff]
  constructor
  · rintro ⟨i, hi, rfl⟩; simp [List.getD_eq_getElem?_getD, hi]
  · intro he
    obtain ⟨i, hi, e2⟩ := List.getElem_of_mem he
    exact ⟨i, hi, by simp [List.getD_eq_getElem?_getD, hi, e2]⟩
theorem Canon.valid {n : Int} {ps qs : List (Int × Int)} (h : Canon ps qs) (h0 : 0 ≤ n) (h1 : n ≤ 8192) (h2 : qs.length ≤ 32768) (hin : inN n ps = true) : GOk n qs := by
  refine ⟨h0, h1, h2, fun i hi => ?_, fun i hi => h.1 i (i + 1) (by omega) hi⟩
  have hm : qs.getD i (0, 0) ∈ ps := (h.2 _).1 (by simp [List.getD_eq_getElem?_getD, hi])
  unfold inN at hin
  rw [List.all_eq_true] at hin
  have := hin _ hm
  simp only [Bool.and_eq_true] at this
  exact ⟨isNd_iff.1 this.1, isNd_iff.1 this.2⟩

theorem cells2_get (ps : List (Int × Int)) (j : Nat) (hj : j < ps.length * 2) : (cellsOf2 ps)[j]? = some (.int .i64 (if j % 2 = 0 then (ps.getD (j / 2) (0, 0)).1 else (ps.getD (j / 2) (0, 0)).2)) := by
  have h := cellsOf2_at ps (j / 2) (by omega)
  rcases Nat.mod_two_eq_zero_or_one j with e | e
  · rw [if_pos e, ← h.1]; congr 1; omega
  · rw [if_neg (by omega), ← h.2]; congr 1; omega
end Go.Proofs.Ytopbbihbpalnlaa
