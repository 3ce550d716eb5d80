/-
  What the walk over the classes of a valid partition finds: plain mathematics. No Go program here.
-/
import Derived.Test.YtmpofbiphklilaaPClassMath
namespace Go.Proofs.Ytmpofbiphklilaa
set_option linter.unusedVariables false

/-- What has been walked when i classes and k members of the next one are done. -/
def flatTo (L : List (List Nat)) (i k : Nat) : List Nat := (L.take i).flatten ++ (L.getD i []).take k
theorem flatTo_zero (L : List (List Nat)) : flatTo L 0 0 = [] := by simp [flatTo]
theorem flatTo_next {L : List (List Nat)} {i : Nat} (hi : i < L.length) : flatTo L i (L.getD i []).length = flatTo L (i + 1) 0 := by
  unfold flatTo
  rw [List.take_length, List.take_zero, List.append_nil, List.take_succ_eq_append_getElem hi, List.flatten_append]
  simp [List.getD_eq_getElem?_getD, hi]
theorem flatTo_succ {L : List (List Nat)} {i k : Nat} (hk : k < (L.getD i []).length) : flatTo L i (k + 1) = flatTo L i k ++ [(L.getD i []).getD k 0] := by
  unfold flatTo
  generalize L.getD i [] = l at hk ⊢
  rw [List.take_succ_eq_append_getElem hk, List.append_assoc]
  congr 2
  simp [List.getD_eq_getElem?_getD, hk]

theorem flatTo_le (L : List (List Nat)) (i k : Nat) : (flatTo L i k).length ≤ L.flatten.length := by
  unfold flatTo
  have h : L.flatten = (L.take i).flatten ++ (L.drop i).flatten := by rw [← List.flatten_append, List.take_append_drop]
  rw [h, List.length_append, List.length_append]
  have h2 : ((L.getD i []).take k).length ≤ (L.drop i).flatten.length := by
    by_cases hi : i < L.length
    · rw [List.drop_eq_getElem_cons hi, List.flatten_cons, List.length_append, List.length_take]
      have e : L.getD i [] = L[i] := by simp [List.getD_eq_getElem?_getD, hi]
      rw [e]
      omega
    · simp [List.getD_eq_getElem?_getD, show L.length ≤ i by omega]
  omega
structure Fine (p : List Int) (L : List (List Nat)) : Prop where
  ne : ∀ i, i < L.length → 0 < (L.getD i []).length
  asc : ∀ i, i + 1 < L.length → (L.getD i []).getD 0 0 < (L.getD (i + 1) []).getD 0 0
  lt : ∀ i, i < L.length → ∀ k, k < (L.getD i []).length → (L.getD i []).getD k 0 < p.length
  up : ∀ i, i < L.length → ∀ k, k + 1 < (L.getD i []).length → (L.getD i []).getD k 0 < (L.getD i []).getD (k + 1) 0
  new : ∀ i, i < L.length → ∀ k, k < (L.getD i []).length → (L.getD i []).getD k 0 ∉ flatTo L i k
  head : ∀ i, i < L.length → ∀ k, k < (L.getD i []).length → p.getD ((L.getD i []).getD k 0) 0 = (((L.getD i []).getD 0 0 : Nat) : Int)
  all : (flatTo L L.length 0).length = p.length
  small : ∀ i, (L.getD i []).length ≤ p.length
  few : L.length ≤ p.length
  flat : ∀ i k, (flatTo L i k).length ≤ p.length

theorem asc_memb (p : List Int) (n r : Nat) : (membTo p n r).Pairwise (· < ·) := by
  unfold membTo
  exact List.Pairwise.filter _ List.pairwise_lt_range
theorem asc_reps (p : List Int) (n : Nat) : (repsTo p n).Pairwise (· < ·) := by
  unfold repsTo
  exact List.Pairwise.filter _ List.pairwise_lt_range
theorem pw_getD {l : List Nat} (h : l.Pairwise (· < ·)) {i j : Nat} (hij : i < j) (hj : j < l.length) : l.getD i 0 < l.getD j 0 := by
  have := List.pairwise_iff_getElem.1 h i j (by omega) hj hij
  simpa [List.getD_eq_getElem?_getD, hj, show i < l.length by omega] using this
theorem getD_mem' {l : List Nat} {i : Nat} (h : i < l.length) : l.getD i 0 ∈ l := by
  simp [List.getD_eq_getElem?_getD, h]
theorem mem_getD' {l : List Nat} {x : Nat} (h : x ∈ l) : ∃ i, i < l.length ∧ l.getD i 0 = x := by
  obtain ⟨i, hi, e⟩ := List.getElem_of_mem h
  exact ⟨i, hi, by simp [List.getD_eq_getElem?_getD, hi, e]⟩
theorem clsTo_getD {p : List Int} {n i : Nat} (hi : i < (clsTo p n).length) : (clsTo p n).getD i [] = membTo p n ((repsTo p n).getD i 0) := by
  rw [length_clsTo] at hi
  simp [clsTo, List.getD_eq_getElem?_getD, hi]
/-- The first member of class i is its representative. -/
theorem cls_head {p : List Int} {n i : Nat} (hhi : ∀ j, j < n → p.getD j 0 ≤ (j : Int)) (hi : i < (clsTo p n).length) :
    0 < ((clsTo p n).getD i []).length ∧ ((clsTo p n).getD i []).getD 0 0 = (repsTo p n).getD i 0 := by
  rw [clsTo_getD hi]
  have hi2 := hi
  rw [length_clsTo] at hi2
  have hm := mem_repsTo.1 (getD_mem' hi2)
  have hr : (repsTo p n).getD i 0 ∈ membTo p n ((repsTo p n).getD i 0) := mem_membTo.2 hm
  generalize (repsTo p n).getD i 0 = r at *
  have hpos : 0 < (membTo p n r).length := List.length_pos_of_mem hr
  refine ⟨hpos, ?_⟩
  obtain ⟨j, hj, e⟩ := mem_getD' hr
  have h0 := mem_membTo.1 (getD_mem' hpos)
  have h1 := hhi _ h0.1
  rcases Nat.eq_zero_or_pos j with rfl | hj0
  · exact e
  · have := pw_getD (asc_memb p n r) hj0 hj
    omega
theorem length_flatten_clsTo {p : List Int} (hlo : ∀ j, j < p.length → 0 ≤ p.getD j 0) (hhi : ∀ j, j < p.length → p.getD j 0 ≤ (j : Int)) (hfix : ∀ j, j < p.length → p.getD (p.getD j 0).toNat 0 = p.getD j 0) :
    ∀ k, k ≤ p.length → (clsTo p k).flatten.length = k := by
  intro k
  induction k with
  | zero => intro _; simp [clsTo, repsTo]
  | succ k ih =>
    intro hk
    have := ih (by omega)
    by_cases e : p.getD k 0 = (k : Int)
    · rw [clsTo_new (fun j hj => hhi j (by omega)) e, List.flatten_append, List.length_append, this]
      simp
    · have h1 := hlo k (by omega)
      have h2 := hhi k (by omega)
      have h3 := hfix k (by omega)
      obtain ⟨r, hr⟩ : ∃ r : Nat, p.getD k 0 = (r : Int) := ⟨(p.getD k 0).toNat, by omega⟩
      rw [hr, Int.toNat_natCast] at h3
      have hrk : r < k := by omega
      obtain ⟨c, hc, hcr⟩ := mem_getD' (mem_repsTo.2 ⟨hrk, h3⟩)
      rw [clsTo_old hr hrk hc hcr]
      have hcl : c < (clsTo p k).length := by rw [length_clsTo]; exact hc
      have hg : (clsTo p k)[c] = membTo p k r := by
        have := clsTo_getD hcl
        rw [hcr] at this
        rw [← this]
        simp [List.getD_eq_getElem?_getD, hcl]
      have hset : ∀ (L : List (List Nat)) (c : Nat) (hc : c < L.length) (x : Nat), (L.set c (L[c] ++ [x])).flatten.length = L.flatten.length + 1 := by
        intro L
        induction L with
        | nil => intro c hc; simp at hc
        | cons a r ih =>
          intro c hc x
          cases c with
          | zero => simp; omega
          | succ c =>
            have := ih c (by simpa using hc) x
            simp only [List.set_cons_succ, List.getElem_cons_succ, List.flatten_cons, List.length_append] at *
            omega
      rw [← hg, hset _ _ hcl, this]

theorem fine_clsTo {p : List Int} (hv : Valid p) : Fine p (clsTo p p.length) := by
  have hlo := hv.lo
  have hhi := hv.hi
  have hfix := hv.fix
  have hmem : ∀ i, i < (clsTo p p.length).length → ∀ x, x ∈ (clsTo p p.length).getD i [] ↔ x < p.length ∧ p.getD x 0 = (((repsTo p p.length).getD i 0 : Nat) : Int) := fun i hi x => by
    rw [clsTo_getD hi, mem_membTo]
  have hasc : ∀ i, i < (clsTo p p.length).length → ((clsTo p p.length).getD i []).Pairwise (· < ·) := fun i hi => by
    rw [clsTo_getD hi]; exact asc_memb _ _ _
  refine ⟨fun i hi => (cls_head hhi hi).1, fun i hi => ?_, fun i hi k hk => ((hmem i hi _).1 (getD_mem' hk)).1, fun i hi k hk => pw_getD (hasc i hi) (by omega) hk, fun i hi k hk => ?_, fun i hi k hk => ?_, ?_, ?_, ?_, ?_⟩
  · rw [(cls_head hhi hi).2, (cls_head hhi (show i < _ by omega)).2]
    exact pw_getD (asc_reps _ _) (by omega) (by rw [← length_clsTo]; exact hi)
  · intro hin
    have h1 := ((hmem i hi _).1 (getD_mem' hk)).2
    unfold flatTo at hin
    rcases List.mem_append.1 hin with h | h
    · obtain ⟨l, hl, hx⟩ := List.mem_flatten.1 h
      obtain ⟨j, hj, rfl⟩ := List.getElem_of_mem hl
      rw [List.length_take] at hj
      have hj2 : j < (clsTo p p.length).length := by omega
      have e : ((clsTo p p.length).take i)[j]'(by rw [List.length_take]; exact hj) = (clsTo p p.length).getD j [] := by
        simp [List.getD_eq_getElem?_getD, hj2]
      rw [e] at hx
      have h2 := ((hmem j hj2 _).1 hx).2
      have h3 := pw_getD (asc_reps p p.length) (show j < i by omega) (by rw [← length_clsTo]; exact hi)
      omega
    · have hpw := hasc i hi
      generalize (clsTo p p.length).getD i [] = l at *
      obtain ⟨j, hj, e⟩ := mem_getD' h
      rw [List.length_take] at hj
      have e2 : (l.take k).getD j 0 = l.getD j 0 := by
        simp [List.getD_eq_getElem?_getD, show j < k by omega]
      rw [e2] at e
      have := pw_getD hpw (show j < k by omega) hk
      omega
  · rw [(cls_head hhi hi).2]
    exact ((hmem i hi _).1 (getD_mem' hk)).2
  · have := length_flatten_clsTo hlo hhi hfix p.length (Nat.le_refl _)
    unfold flatTo
    simpa using this
  · intro i
    by_cases hi : i < (clsTo p p.length).length
    · rw [clsTo_getD hi]
      have h1 := List.length_filter_le (fun j => decide (p.getD j 0 = (((repsTo p p.length).getD i 0 : Nat) : Int))) (List.range p.length)
      rw [List.length_range] at h1
      exact h1
    · simp [List.getD_eq_getElem?_getD, show (clsTo p p.length).length ≤ i by omega]
  · rw [length_clsTo]
    have h1 := List.length_filter_le (fun j => decide (p.getD j 0 = (j : Int))) (List.range p.length)
    rw [List.length_range] at h1
    exact h1
  · intro i k
    have h1 := flatTo_le (clsTo p p.length) i k
    rw [length_flatten_clsTo hlo hhi hfix p.length (Nat.le_refl _)] at h1
    exact h1
end Go.Proofs.Ytmpofbiphklilaa
