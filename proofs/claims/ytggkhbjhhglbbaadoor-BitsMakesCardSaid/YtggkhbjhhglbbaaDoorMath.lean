/-
  Plain mathematics of sets as lists of 64-bit words. No Go program here.
-/
import Derived.Below
namespace Go.Proofs.YtggkhbjhhglbbaaDoor
open Go.RowKit
set_option linter.unusedVariables false

/-- Every word has 64 bits. -/
def Wf (ws : List Nat) : Prop := ∀ i, ws.getD i 0 < 18446744073709551616
/-- Is i an element? -/
def mem (ws : List Nat) (i : Nat) : Bool := (ws.getD (i / 64) 0).testBit (i % 64)
/-- The elements of the words before index n (bits, not words), ascending. -/
def elemsTo (ws : List Nat) (n : Nat) : List Nat := (List.range n).filter (mem ws)
def elems (ws : List Nat) : List Nat := elemsTo ws (64 * ws.length)
/-- No zero word at the end. -/
def Normal (ws : List Nat) : Prop := ws.length = 0 ∨ ws.getD (ws.length - 1) 0 ≠ 0

theorem getD_out {ws : List Nat} {i : Nat} (h : ws.length ≤ i) : ws.getD i 0 = 0 := by
  rw [List.getD_eq_getElem?_getD, List.getElem?_eq_none h]; rfl
theorem mem_out {ws : List Nat} {i : Nat} (h : 64 * ws.length ≤ i) : mem ws i = false := by
  unfold mem; rw [getD_out (by omega)]; simp
theorem Wf.nil : Wf [] := fun i => by simp
theorem testBit_big {x k : Nat} (h : x < 18446744073709551616) (hk : 64 ≤ k) : x.testBit k = false := by
  apply Nat.testBit_lt_two_pow
  calc x < 2 ^ 64 := by simpa using h
    _ ≤ 2 ^ k := Nat.pow_le_pow_right (by omega) hk
theorem getD_of_mem {a b : List Nat} (ha : Wf a) (hb : Wf b) (h : ∀ i, mem a i = mem b i) (w : Nat) : a.getD w 0 = b.getD w 0 := by
  apply Nat.eq_of_testBit_eq
  intro k
  by_cases hk : k < 64
  · have := h (64 * w + k)
    unfold mem at this
    rw [show (64 * w + k) / 64 = w from by omega, show (64 * w + k) % 64 = k from by omega] at this
    exact this
  · rw [testBit_big (ha w) (by omega), testBit_big (hb w) (by omega)]
/-- Two sets in normal form with the same elements are the same words. -/
theorem ext_normal {a b : List Nat} (ha : Wf a) (hb : Wf b) (na : Normal a) (nb : Normal b) (h : ∀ i, mem a i = mem b i) : a = b := by
  have hw := getD_of_mem ha hb h
  have hl : a.length = b.length := by
    rcases Nat.lt_trichotomy a.length b.length with c | c | c
    · exfalso
      rcases nb with nb | nb
      · omega
      · exact nb (by rw [← hw]; exact getD_out (by omega))
    · exact c
    · exfalso
      rcases na with na | na
      · omega
      · exact na (by rw [hw]; exact getD_out (by omega))
  apply List.ext_getElem hl
  intro i h1 h2
  have := hw i
  simpa [h1, h2] using this

theorem mem_elemsTo {ws : List Nat} {n i : Nat} : i ∈ elemsTo ws n ↔ i < n ∧ mem ws i = true := by simp [elemsTo]
theorem mem_elems {ws : List Nat} {i : Nat} : i ∈ elems ws ↔ mem ws i = true := by
  unfold elems
  rw [mem_elemsTo]
  constructor
  · exact fun h => h.2
  · intro h
    refine ⟨?_, h⟩
    rcases Nat.lt_or_ge i (64 * ws.length) with c | c
    · exact c
    · rw [mem_out c] at h; cases h
theorem elemsTo_succ (ws : List Nat) (n : Nat) : elemsTo ws (n + 1) = elemsTo ws n ++ (if mem ws n then [n] else []) := by
  unfold elemsTo
  rw [List.range_succ, List.filter_append]
  congr 1
  by_cases h : mem ws n <;> simp [h]
theorem length_elemsTo_le (ws : List Nat) (n : Nat) : (elemsTo ws n).length ≤ n := by
  have := List.length_filter_le (mem ws) (List.range n)
  simpa [elemsTo] using this

/-- Strictly ascending. -/
def Asc (l : List Nat) : Prop := l.Pairwise (· < ·)
theorem asc_elemsTo (ws : List Nat) (n : Nat) : Asc (elemsTo ws n) := by
  unfold Asc elemsTo
  exact List.Pairwise.filter _ List.pairwise_lt_range
theorem asc_elems (ws : List Nat) : Asc (elems ws) := asc_elemsTo _ _
theorem asc_ext {a b : List Nat} (ha : Asc a) (hb : Asc b) (h : ∀ i, i ∈ a ↔ i ∈ b) : a = b := by
  induction a generalizing b with
  | nil =>
    cases b with
    | nil => rfl
    | cons y r => exact absurd ((h y).2 (by simp)) (by simp)
  | cons x r ih =>
    cases b with
    | nil => exact absurd ((h x).1 (by simp)) (by simp)
    | cons y s =>
      unfold Asc at ha hb ih
      rw [List.pairwise_cons] at ha hb
      have e : x = y := by
        have h1 := (h x).1 (by simp)
        have h2 := (h y).2 (by simp)
        rw [List.mem_cons] at h1 h2
        rcases h1 with h1 | h1
        · exact h1
        · rcases h2 with h2 | h2
          · exact h2.symm
          · have := hb.1 x h1; have := ha.1 y h2; omega
      subst e
      congr 1
      refine ih ha.2 hb.2 fun i => ?_
      have hi := h i
      rw [List.mem_cons, List.mem_cons] at hi
      constructor
      · intro hm
        rcases hi.1 (.inr hm) with e | e
        · subst e; exact absurd (ha.1 i hm) (by omega)
        · exact e
      · intro hm
        rcases hi.2 (.inr hm) with e | e
        · subst e; exact absurd (hb.1 i hm) (by omega)
        · exact e

/-- How many words are left without the zero words at the end of the first n. -/
def trimN (ws : List Nat) : Nat → Nat
  | 0 => 0
  | n + 1 => if ws.getD n 0 = 0 then trimN ws n else n + 1
def tl (ws : List Nat) : Nat := trimN ws ws.length
theorem trimN_le (ws : List Nat) (n : Nat) : trimN ws n ≤ n := by
  induction n with
  | zero => exact Nat.le_refl _
  | succ n ih => unfold trimN; split <;> omega
theorem tl_le (ws : List Nat) : tl ws ≤ ws.length := trimN_le _ _
theorem trimN_zero (ws : List Nat) (n i : Nat) (h1 : trimN ws n ≤ i) (h2 : i < n) : ws.getD i 0 = 0 := by
  induction n with
  | zero => omega
  | succ n ih =>
    unfold trimN at h1
    split at h1
    · by_cases e : i = n
      · subst e; assumption
      · exact ih h1 (by omega)
    · omega
theorem trimN_last (ws : List Nat) (n : Nat) : trimN ws n = 0 ∨ ws.getD (trimN ws n - 1) 0 ≠ 0 := by
  induction n with
  | zero => exact .inl rfl
  | succ n ih =>
    unfold trimN
    split
    · exact ih
    · exact .inr (by simpa using ‹_›)
theorem tl_zero (ws : List Nat) (i : Nat) (h : tl ws ≤ i) : ws.getD i 0 = 0 := by
  rcases Nat.lt_or_ge i ws.length with c | c
  · exact trimN_zero ws _ i h c
  · exact getD_out c
theorem tl_last (ws : List Nat) : tl ws = 0 ∨ ws.getD (tl ws - 1) 0 ≠ 0 := trimN_last _ _
theorem getD_take (ws : List Nat) (n i : Nat) : (ws.take n).getD i 0 = if i < n then ws.getD i 0 else 0 := by
  simp only [List.getD_eq_getElem?_getD, List.getElem?_take]
  split <;> rfl
def trimL (ws : List Nat) : List Nat := ws.take (tl ws)
theorem length_trimL (ws : List Nat) : (trimL ws).length = tl ws := by
  rw [trimL, List.length_take]; have := tl_le ws; omega
theorem getD_trimL (ws : List Nat) (i : Nat) : (trimL ws).getD i 0 = ws.getD i 0 := by
  rw [trimL, getD_take]
  split
  · rfl
  · exact (tl_zero ws i (by omega)).symm
theorem normal_trimL (ws : List Nat) : Normal (trimL ws) := by
  rcases tl_last ws with h | h
  · exact .inl (by rw [length_trimL, h])
  · exact .inr (by rw [length_trimL, getD_trimL]; exact h)
theorem Wf.trimL {ws : List Nat} (h : Wf ws) : Wf (trimL ws) := fun i => by rw [getD_trimL]; exact h i
theorem mem_trimL (ws : List Nat) (i : Nat) : mem (trimL ws) i = mem ws i := by unfold mem; rw [getD_trimL]

/-- Words given by a function. -/
def tab (n : Nat) (f : Nat → Nat) : List Nat := (List.range n).map f
theorem length_tab (n : Nat) (f : Nat → Nat) : (tab n f).length = n := by simp [tab]
theorem getD_tab (n : Nat) (f : Nat → Nat) (i : Nat) : (tab n f).getD i 0 = if i < n then f i else 0 := by
  simp only [tab, List.getD_eq_getElem?_getD, List.getElem?_map]
  by_cases h : i < n <;> simp [h]
theorem tab_congr {n : Nat} {f g : Nat → Nat} (h : ∀ i, i < n → f i = g i) : tab n f = tab n g := by
  unfold tab
  exact List.map_congr_left fun i hi => h i (List.mem_range.1 hi)
theorem tab_set (n : Nat) (f : Nat → Nat) (k x : Nat) : (tab n f).set k x = tab n fun i => if i = k then x else f i := by
  apply List.ext_getElem
  · simp [tab]
  · intro i h1 h2
    simp only [tab, List.getElem_set, List.getElem_map, List.getElem_range]
    by_cases e : k = i
    · subst e; simp
    · rw [if_neg e, if_neg (by omega)]
theorem Wf.tab {n : Nat} {f : Nat → Nat} (h : ∀ i, i < n → f i < 18446744073709551616) : Wf (tab n f) := fun i => by
  rw [getD_tab]; split
  · exact h i ‹_›
  · omega

/-- The set of a list: the words. -/
def last (l : List Nat) : Nat := l.getD (l.length - 1) 0
end Go.Proofs.YtggkhbjhhglbbaaDoor
