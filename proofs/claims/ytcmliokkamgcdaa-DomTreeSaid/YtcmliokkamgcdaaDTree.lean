/-
  Sizes and places in the tree of the immediate dominators.
-/
import Derived.Test.YtcmliokkamgcdaaDomM
namespace Go.Proofs.Ytcmliokkamgcdaa
set_option linter.unusedVariables false

/-- The sum of z over the children of d among the last n of the numbers below k. -/
def cs (D z : Nat → Nat) (d k : Nat) : Nat → Nat
  | 0 => 0
  | n + 1 => (if D (k - (n + 1)) = d then z (k - (n + 1)) else 0) + cs D z d k n
theorem cs_at {D z : Nat → Nat} {d k m : Nat} (h : m < k) : cs D z d k (k - m) = (if D m = d then z m else 0) + cs D z d k (k - (m + 1)) := by
  obtain ⟨n, hn⟩ : ∃ n, k - m = n + 1 := ⟨k - m - 1, by omega⟩
  rw [hn]
  have h1 : k - (n + 1) = m := by omega
  have h2 : k - (m + 1) = n := by omega
  rw [h2]
  show (if D (k - (n + 1)) = d then z (k - (n + 1)) else 0) + cs D z d k n = _
  rw [h1]
theorem cs_none {D z : Nat → Nat} {d k : Nat} : ∀ n, n ≤ k → (∀ c, k - n ≤ c → c < k → D c ≠ d) → cs D z d k n = 0 := by
  intro n
  induction n with
  | zero => intro _ _; rfl
  | succ n ih =>
    intro hn h
    show (if D (k - (n + 1)) = d then z (k - (n + 1)) else 0) + cs D z d k n = 0
    rw [if_neg (h _ (Nat.le_refl _) (by omega)), ih (by omega) (fun c a b => h c (by omega) b)]
theorem cs_congr {D z z' : Nat → Nat} {d k : Nat} : ∀ n, n ≤ k → (∀ c, k - n ≤ c → c < k → z' c = z c) → cs D z' d k n = cs D z d k n := by
  intro n
  induction n with
  | zero => intro _ _; rfl
  | succ n ih =>
    intro hn h
    show (if D (k - (n + 1)) = d then z' (k - (n + 1)) else 0) + cs D z' d k n = (if D (k - (n + 1)) = d then z (k - (n + 1)) else 0) + cs D z d k n
    rw [h _ (Nat.le_refl _) (by omega), ih (by omega) (fun c a b => h c (by omega) b)]
/-- z are the numbers of the nodes that each one dominates, above L; the others have those of their children above L. -/
structure Sized (k : Nat) (D z : Nat → Nat) (L : Nat) : Prop where
  full : ∀ d, L < d → d < k → z d = 1 + cs D z d k (k - (d + 1))
  part : ∀ d, d ≤ L → d < k → z d = cs D z d k (k - (L + 1))
theorem Sized.start {k L : Nat} {D : Nat → Nat} (h : k ≤ L + 1) (z : Nat → Nat) (hz : ∀ d, d < k → z d = 0) : Sized k D z L :=
  ⟨fun d a b => by omega, fun d a b => by
    have : k - (L + 1) = 0 := by omega
    rw [this, hz d b]; rfl⟩
/-- The next one: it is counted, and its number is added to that of its parent. -/
theorem Sized.next {k L : Nat} {D z z' : Nat → Nat} (h : Sized k D z (L + 1)) (hL : L + 1 < k) (lt : ∀ i, 0 < i → i < k → D i < i)
    (e1 : z' (L + 1) = z (L + 1) + 1) (e2 : z' (D (L + 1)) = z (D (L + 1)) + (z (L + 1) + 1)) (e3 : ∀ j, j ≠ L + 1 → j ≠ D (L + 1) → z' j = z j) : Sized k D z' L := by
  have hD := lt (L + 1) (by omega) hL
  have up : ∀ c, L + 1 < c → z' c = z c := fun c hc => e3 c (by omega) (by omega)
  refine ⟨fun d a b => ?_, fun d a b => ?_⟩
  · rw [cs_congr (k - (d + 1)) (by omega) (fun c x y => up c (by omega))]
    by_cases e : d = L + 1
    · subst e
      rw [e1, h.part _ (Nat.le_refl _) b]; omega
    · rw [up d (by omega)]; exact h.full d (by omega) b
  · rw [cs_at hL, cs_congr (k - (L + 1 + 1)) (by omega) (fun c x y => up c (by omega)), ← h.part d (by omega) b]
    by_cases e : D (L + 1) = d
    · rw [if_pos e, e1, ← e, e2]; omega
    · rw [if_neg e, e3 d (by omega) (fun q => e q.symm)]; omega
/-- The root is counted at the end. -/
structure SizedAll (k : Nat) (D z : Nat → Nat) : Prop where
  is : ∀ d, d < k → z d = 1 + cs D z d k (k - (d + 1))
theorem Sized.root {k : Nat} {D z z' : Nat → Nat} (h : Sized k D z 0) (hk : 0 < k) (e1 : z' 0 = z 0 + 1) (e2 : ∀ j, 0 < j → z' j = z j) : SizedAll k D z' := by
  refine ⟨fun d b => ?_⟩
  rw [cs_congr (k - (d + 1)) (by omega) (fun c x y => e2 c (by omega))]
  by_cases e : d = 0
  · subst e; rw [e1, h.part 0 (Nat.le_refl _) hk]; omega
  · rw [e2 d (by omega)]; exact h.full d (by omega) b
/-- The places of the first m numbers. -/
structure Placed (k : Nat) (D z : Nat → Nat) (m : Nat) (pl fr : Nat → Nat) : Prop where
  free : ∀ d, d < m → pl d < fr d ∧ fr d + cs D z d k (k - m) = pl d + z d
  inn : ∀ a b, a < m → b < m → Anc D a b → pl a ≤ pl b ∧ pl b + z b ≤ pl a + z a
  sub : ∀ a b, a < m → b < m → Anc D a b → a ≠ b → pl a < pl b ∧ pl b + z b ≤ fr a
  out : ∀ a b, a < m → b < m → ¬ Anc D a b → ¬ Anc D b a → pl a + z a ≤ pl b ∨ pl b + z b ≤ pl a
section
variable {k m : Nat} {D z pl fr : Nat → Nat}
theorem ancD_le (lt : ∀ i, 0 < i → i < k → D i < i) {a b : Nat} (h : Anc D a b) (hb : b < k) : a ≤ b := by
  induction h with
  | refl => exact Nat.le_refl _
  | @step j n h ih => have := lt j n hb; have := ih (by omega); omega
theorem ancD_up {a b : Nat} (h : Anc D a b) (ne : a ≠ b) : 0 < b ∧ Anc D a (D b) := by
  cases h with
  | refl => exact absurd rfl ne
  | step n h => exact ⟨n, h⟩
theorem Placed.start (hz : SizedAll k D z) (hk : 0 < k) (h0 : pl 0 = 0) (h1 : fr 0 = 1) : Placed k D z 1 pl fr := by
  have hz0 : z 0 = 1 + cs D z 0 k (k - 1) := hz.is 0 hk
  refine ⟨fun d hd => ?_, fun a b ha hb _ => ?_, fun a b ha hb _ n => by omega, fun a b ha hb n _ => ?_⟩
  · have : d = 0 := by omega
    subst this; rw [h0, h1]; omega
  · have : a = b := by omega
    subst this; exact ⟨Nat.le_refl _, Nat.le_refl _⟩
  · have : a = b := by omega
    subst this; exact absurd .refl n
theorem Placed.next {pl' fr' : Nat → Nat} (h : Placed k D z m pl fr) (hz : SizedAll k D z) (lt : ∀ i, 0 < i → i < k → D i < i) (h0 : 0 < m) (hm : m < k)
    (p1 : pl' m = fr (D m)) (p2 : ∀ j, j < m → pl' j = pl j) (f1 : fr' (D m) = fr (D m) + z m) (f2 : fr' m = fr (D m) + 1) (f3 : ∀ j, j < m → j ≠ D m → fr' j = fr j) : Placed k D z (m + 1) pl' fr' := by
  have hD := lt m h0 hm
  have hzm := hz.is m hm
  obtain ⟨d1, d2⟩ := h.free (D m) hD
  rw [cs_at hm, if_pos rfl] at d2
  have kid : ∀ a, a < m → Anc D a m → Anc D a (D m) := fun a ha q => (ancD_up q (by omega)).2
  have nokid : ∀ b, b < m → ¬ Anc D m b := fun b hb q => by have := ancD_le lt q (by omega); omega
  have frle : ∀ d, d < m → pl d < fr d ∧ fr d ≤ pl d + z d := fun d hd => by have := h.free d hd; omega
  refine ⟨fun d hd => ?_, fun a b ha hb q => ?_, fun a b ha hb q n => ?_, fun a b ha hb q q' => ?_⟩
  · by_cases e : d = m
    · subst e; rw [p1, f2, hzm]; omega
    · have hd' : d < m := by omega
      have hf := h.free d hd'
      rw [cs_at hm] at hf
      rw [p2 d hd']
      by_cases c : d = D m
      · subst c; rw [f1]; rw [if_pos rfl] at hf; omega
      · rw [f3 d hd' c]; rw [if_neg (Ne.symm c)] at hf; omega
  · by_cases eb : b = m
    · subst eb
      by_cases ea : a = b
      · subst ea; exact ⟨Nat.le_refl _, Nat.le_refl _⟩
      · have ha' : a < b := by omega
        have := h.inn a (D b) ha' hD (kid a ha' q)
        rw [p1, p2 a ha']; omega
    · by_cases ea : a = m
      · subst ea; exact absurd q (nokid b (by omega))
      · rw [p2 a (by omega), p2 b (by omega)]; exact h.inn a b (by omega) (by omega) q
  · by_cases eb : b = m
    · subst eb
      have ha' : a < b := by omega
      have q' := kid a ha' q
      have := h.inn a (D b) ha' hD q'
      rw [p1, p2 a ha']
      by_cases c : a = D b
      · subst c; rw [f1]; omega
      · have := h.sub a (D b) ha' hD q' c
        rw [f3 a ha' c]; omega
    · by_cases ea : a = m
      · subst ea; exact absurd q (nokid b (by omega))
      · have := h.sub a b (by omega) (by omega) q n
        rw [p2 a (by omega), p2 b (by omega)]
        by_cases c : a = D m
        · subst c; rw [f1]; omega
        · rw [f3 a (by omega) c]; exact this
  · have key : ∀ a, a < m → ¬ Anc D a m → pl a + z a ≤ fr (D m) ∨ fr (D m) + z m ≤ pl a := fun a ha n => by
      by_cases c : Anc D a (D m)
      · exact absurd (.step h0 c) n
      · by_cases c2 : Anc D (D m) a
        · have : D m ≠ a := fun e => c (e ▸ .refl)
          have := h.sub (D m) a hD ha c2 this
          omega
        · have := h.out a (D m) ha hD c c2
          omega
    by_cases eb : b = m
    · subst eb
      by_cases ea : a = b
      · subst ea; exact absurd .refl q
      · have := key a (by omega) q
        rw [p1, p2 a (by omega)]; omega
    · by_cases ea : a = m
      · subst ea
        have := key b (by omega) q'
        rw [p1, p2 b (by omega)]; omega
      · rw [p2 a (by omega), p2 b (by omega)]; exact h.out a b (by omega) (by omega) q q'
/-- One is above the other exactly if its places contain that one's. -/
theorem Placed.tells (h : Placed k D z k pl fr) {a b : Nat} (ha : a < k) (hb : b < k) : (pl a ≤ pl b ∧ pl b < pl a + z a) ↔ Anc D a b := by
  have za := h.free a ha
  have zb := h.free b hb
  constructor
  · intro ⟨x, y⟩
    apply Classical.byContradiction; intro n
    by_cases c : Anc D b a
    · have : b ≠ a := fun e => n (e ▸ .refl)
      have := h.sub b a hb ha c this
      omega
    · have := h.out a b ha hb n c
      omega
  · intro q
    have := h.inn a b ha hb q
    omega
/-- The tree of the immediate dominators: above are the dominators. -/
theorem isD_anc {F : Nat → Nat → Prop} {p : Nat → Nat} (t : Tr k F p) (d : IsD F D k) {a b : Nat} (hb : b < k) : Anc D a b ↔ Dom F a b := by
  constructor
  · intro h
    induction h with
    | refl => exact .refl _
    | @step j n h ih =>
      obtain ⟨x, y, _⟩ := d j n hb
      exact (ih (by omega)).trans y
  · induction b using Nat.strongRecOn generalizing a with
    | _ b ih =>
      intro h
      by_cases e : a = b
      · subst e; exact .refl
      · have := t.dom_le hb h
        obtain ⟨x, y, q⟩ := d b (by omega) hb
        exact .step (by omega) (ih (D b) x (by omega) (q a h e))
end
end Go.Proofs.Ytcmliokkamgcdaa
