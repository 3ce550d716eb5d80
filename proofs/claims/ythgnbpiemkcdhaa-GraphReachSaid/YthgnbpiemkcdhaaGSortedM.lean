/-
  Two ascending lists of pairs merged, each pair once: in plain lists.
-/
import Derived.Test.YthgnbpiemkcdhaaGRchM
namespace Go.Proofs.Ythgnbpiemkcdhaa
set_option linter.unusedVariables false

def mrg : List (Int × Int) → List (Int × Int) → List (Int × Int)
  | [], ys => ys
  | a :: xs, [] => a :: xs
  | a :: xs, b :: ys => if ltE a b = true then a :: mrg xs (b :: ys) else if ltE b a = true then b :: mrg (a :: xs) ys else mrg xs (b :: ys)
termination_by xs ys => xs.length + ys.length
theorem mrg_nilL (ys : List (Int × Int)) : mrg [] ys = ys := by cases ys <;> simp [mrg]
theorem mrg_nilR (xs : List (Int × Int)) : mrg xs [] = xs := by cases xs <;> simp [mrg]
theorem mrg_cons (a b : Int × Int) (xs ys : List (Int × Int)) : mrg (a :: xs) (b :: ys) = if ltE a b = true then a :: mrg xs (b :: ys) else if ltE b a = true then b :: mrg (a :: xs) ys else mrg xs (b :: ys) := by
  rw [mrg]
theorem mrg_mem (x : Int × Int) : ∀ (n : Nat) (xs ys : List (Int × Int)), xs.length + ys.length ≤ n → (x ∈ mrg xs ys ↔ x ∈ xs ∨ x ∈ ys)
  | _, [], ys, _ => by simp [mrg_nilL]
  | _, a :: xs, [], _ => by simp [mrg_nilR]
  | 0, a :: xs, b :: ys, h => by simp at h
  | n + 1, a :: xs, b :: ys, h => by
    simp only [List.length_cons] at h
    rw [mrg_cons]
    by_cases h1 : ltE a b = true
    · rw [if_pos h1, List.mem_cons, mrg_mem x n xs (b :: ys) (by simp only [List.length_cons]; omega), List.mem_cons, List.mem_cons, or_assoc]
    · rw [if_neg h1]
      by_cases h2 : ltE b a = true
      · rw [if_pos h2, List.mem_cons, mrg_mem x n (a :: xs) ys (by simp only [List.length_cons]; omega), List.mem_cons, List.mem_cons]
        constructor
        · rintro (h | h | h)
          · exact .inr (.inl h)
          · exact .inl h
          · exact .inr (.inr h)
        · rintro (h | h | h)
          · exact .inr (.inl h)
          · exact .inl h
          · exact .inr (.inr h)
      · rw [if_neg h2, mrg_mem x n xs (b :: ys) (by simp only [List.length_cons]; omega), List.mem_cons, List.mem_cons]
        have e : a = b := ltE_total (by simpa using h1) (by simpa using h2)
        subst e
        constructor
        · rintro (h | h)
          · exact .inl (.inr h)
          · exact .inr h
        · rintro ((h | h) | h)
          · exact .inr (.inl h)
          · exact .inl h
          · exact .inr h
theorem mrg_len : ∀ (n : Nat) (xs ys : List (Int × Int)), xs.length + ys.length ≤ n → (mrg xs ys).length ≤ xs.length + ys.length
  | _, [], ys, _ => by simp [mrg_nilL]
  | _, a :: xs, [], _ => by simp [mrg_nilR]
  | 0, a :: xs, b :: ys, h => by simp at h
  | n + 1, a :: xs, b :: ys, h => by
    simp only [List.length_cons] at h
    rw [mrg_cons]
    by_cases h1 : ltE a b = true
    · rw [if_pos h1]
      have := mrg_len n xs (b :: ys) (by simp only [List.length_cons]; omega)
      simp only [List.length_cons] at this ⊢; omega
    · rw [if_neg h1]
      by_cases h2 : ltE b a = true
      · rw [if_pos h2]
        have := mrg_len n (a :: xs) ys (by simp only [List.length_cons]; omega)
        simp only [List.length_cons] at this ⊢; omega
      · rw [if_neg h2]
        have := mrg_len n xs (b :: ys) (by simp only [List.length_cons]; omega)
        simp only [List.length_cons] at this ⊢; omega
theorem mrg_asc : ∀ (n : Nat) (xs ys : List (Int × Int)), xs.length + ys.length ≤ n → xs.Pairwise (fun a b => ltE a b = true) → ys.Pairwise (fun a b => ltE a b = true) → (mrg xs ys).Pairwise (fun a b => ltE a b = true)
  | _, [], ys, _, _, hb => by rw [mrg_nilL]; exact hb
  | _, a :: xs, [], _, ha, _ => by rw [mrg_nilR]; exact ha
  | 0, a :: xs, b :: ys, h, _, _ => by simp at h
  | n + 1, a :: xs, b :: ys, h, ha, hb => by
    simp only [List.length_cons] at h
    have ha' := List.pairwise_cons.1 ha
    have hb' := List.pairwise_cons.1 hb
    rw [mrg_cons]
    by_cases h1 : ltE a b = true
    · rw [if_pos h1, List.pairwise_cons]
      refine ⟨fun x hx => ?_, mrg_asc n xs (b :: ys) (by simp only [List.length_cons]; omega) ha'.2 hb⟩
      rcases (mrg_mem x _ _ _ (Nat.le_refl _)).1 hx with hx | hx
      · exact ha'.1 x hx
      · rcases List.mem_cons.1 hx with rfl | hx
        · exact h1
        · exact ltE_trans h1 (hb'.1 x hx)
    · rw [if_neg h1]
      by_cases h2 : ltE b a = true
      · rw [if_pos h2, List.pairwise_cons]
        refine ⟨fun x hx => ?_, mrg_asc n (a :: xs) ys (by simp only [List.length_cons]; omega) ha hb'.2⟩
        rcases (mrg_mem x _ _ _ (Nat.le_refl _)).1 hx with hx | hx
        · rcases List.mem_cons.1 hx with rfl | hx
          · exact h2
          · exact ltE_trans h2 (ha'.1 x hx)
        · exact hb'.1 x hx
      · rw [if_neg h2]
        exact mrg_asc n xs (b :: ys) (by simp only [List.length_cons]; omega) ha'.2 hb
theorem asc2_of {qs : List (Int × Int)} (h : qs.Pairwise (fun a b => ltE a b = true)) : Asc2 qs := fun i j hij hj => by
  have := List.pairwise_iff_getElem.1 h i j (by omega) hj hij
  simpa [List.getD_eq_getElem?_getD, hj, show i < qs.length by omega] using this
theorem canon_mrg {ps qs xs ys : List (Int × Int)} (ha : Canon ps xs) (hb : Canon qs ys) : Canon (ps ++ qs) (mrg xs ys) :=
  ⟨asc2_of (mrg_asc _ xs ys (Nat.le_refl _) ha.1.pairwise hb.1.pairwise), fun e => by rw [mrg_mem e _ xs ys (Nat.le_refl _), ha.2, hb.2, List.mem_append]⟩
theorem canon_small {ps : List (Int × Int)} (h : ps.length < 2) : Canon ps ps := ⟨fun i j hij hj => by omega, fun e => Iff.rfl⟩

/-- What is still to be merged. -/
def mrgAt (A B : List (Int × Int)) (i k : Nat) : List (Int × Int) := mrg (A.drop i) (B.drop k)
theorem drop_at {A : List (Int × Int)} {i : Nat} (h : i < A.length) : A.drop i = A.getD i (0, 0) :: A.drop (i + 1) := by
  rw [List.drop_eq_getElem_cons h]; simp [List.getD_eq_getElem?_getD, h]
section
variable {A B : List (Int × Int)} {i k : Nat}
theorem mrgAt_left (hi : i < A.length) (hk : k = B.length) : mrgAt A B i k = A.getD i (0, 0) :: mrgAt A B (i + 1) k := by
  unfold mrgAt
  rw [hk, List.drop_length, mrg_nilR, mrg_nilR, drop_at hi]
theorem mrgAt_right (hi : i = A.length) (hk : k < B.length) : mrgAt A B i k = B.getD k (0, 0) :: mrgAt A B i (k + 1) := by
  unfold mrgAt
  rw [hi, List.drop_length, mrg_nilL, mrg_nilL, drop_at hk]
theorem mrgAt_lt (hi : i < A.length) (hk : k < B.length) (h : ltE (A.getD i (0, 0)) (B.getD k (0, 0)) = true) : mrgAt A B i k = A.getD i (0, 0) :: mrgAt A B (i + 1) k := by
  unfold mrgAt
  rw [drop_at hi, drop_at hk, mrg_cons, if_pos h]
theorem mrgAt_gt (hi : i < A.length) (hk : k < B.length) (h : ltE (A.getD i (0, 0)) (B.getD k (0, 0)) = false) (h2 : ltE (B.getD k (0, 0)) (A.getD i (0, 0)) = true) : mrgAt A B i k = B.getD k (0, 0) :: mrgAt A B i (k + 1) := by
  unfold mrgAt
  rw [drop_at hi, drop_at hk, mrg_cons, if_neg (by rw [h]; decide), if_pos h2]
theorem mrgAt_eq (hi : i < A.length) (hk : k < B.length) (h : ltE (A.getD i (0, 0)) (B.getD k (0, 0)) = false) (h2 : ltE (B.getD k (0, 0)) (A.getD i (0, 0)) = false) : mrgAt A B i k = mrgAt A B (i + 1) k := by
  unfold mrgAt
  rw [drop_at hi, drop_at hk, mrg_cons, if_neg (by rw [h]; decide), if_neg (by rw [h2]; decide)]
theorem mrgAt_end (hi : i = A.length) (hk : k = B.length) : mrgAt A B i k = [] := by
  unfold mrgAt
  rw [hi, hk, List.drop_length, List.drop_length, mrg_nilL]
end
/-- The state of the merge: what is written, and what is to come. -/
structure MI (A B : List (Int × Int)) (i k : Nat) (acc : List (Int × Int)) : Prop where
  hi : i ≤ A.length
  hk : k ≤ B.length
  len : acc.length ≤ i + k
  all : acc ++ mrgAt A B i k = mrg A B
theorem MI.start (A B : List (Int × Int)) : MI A B 0 0 [] := ⟨Nat.zero_le _, Nat.zero_le _, Nat.zero_le _, rfl⟩
section
variable {A B : List (Int × Int)} {i k : Nat} {acc : List (Int × Int)} {e f : Int × Int}
theorem MI.left (h : MI A B i k acc) (hi : i < A.length) (hk : k = B.length) (he : A.getD i (0, 0) = e) : MI A B (i + 1) k (acc ++ [e]) := by
  have := h.len
  exact ⟨hi, h.hk, by simp; omega, by rw [List.append_assoc, ← he, List.singleton_append, ← mrgAt_left hi hk]; exact h.all⟩
theorem MI.right (h : MI A B i k acc) (hi : i = A.length) (hk : k < B.length) (hf : B.getD k (0, 0) = f) : MI A B i (k + 1) (acc ++ [f]) := by
  have := h.len
  exact ⟨h.hi, hk, by simp; omega, by rw [List.append_assoc, ← hf, List.singleton_append, ← mrgAt_right hi hk]; exact h.all⟩
theorem MI.lt (h : MI A B i k acc) (hi : i < A.length) (hk : k < B.length) (he : A.getD i (0, 0) = e) (hf : B.getD k (0, 0) = f) (hl : ltE e f = true) : MI A B (i + 1) k (acc ++ [e]) := by
  have := h.len
  subst he hf
  exact ⟨hi, h.hk, by simp; omega, by rw [List.append_assoc, List.singleton_append, ← mrgAt_lt hi hk hl]; exact h.all⟩
theorem MI.gt (h : MI A B i k acc) (hi : i < A.length) (hk : k < B.length) (he : A.getD i (0, 0) = e) (hf : B.getD k (0, 0) = f) (hl : ltE e f = false) (hl2 : ltE f e = true) : MI A B i (k + 1) (acc ++ [f]) := by
  have := h.len
  subst he hf
  exact ⟨h.hi, hk, by simp; omega, by rw [List.append_assoc, List.singleton_append, ← mrgAt_gt hi hk hl hl2]; exact h.all⟩
theorem MI.eq (h : MI A B i k acc) (hi : i < A.length) (hk : k < B.length) (he : A.getD i (0, 0) = e) (hf : B.getD k (0, 0) = f) (hl : ltE e f = false) (hl2 : ltE f e = false) : MI A B (i + 1) k acc := by
  have := h.len
  subst he hf
  exact ⟨hi, h.hk, by omega, by rw [← mrgAt_eq hi hk hl hl2]; exact h.all⟩
theorem MI.done (h : MI A B i k acc) (hi : i = A.length) (hk : k = B.length) : acc = mrg A B := by
  have := h.all
  rwa [mrgAt_end hi hk, List.append_nil] at this
end
end Go.Proofs.Ythgnbpiemkcdhaa
