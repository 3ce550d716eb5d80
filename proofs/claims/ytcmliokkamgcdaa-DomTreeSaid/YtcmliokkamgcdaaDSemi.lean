/-
  The semidominators by shortened ways: what holds between the steps.
-/
import Derived.Test.YtcmliokkamgcdaaDomM
namespace Go.Proofs.Ytcmliokkamgcdaa
set_option linter.unusedVariables false

/-- m is the least s of the nodes from j up to a, a excluded. -/
structure Low (p s : Nat → Nat) (a j m : Nat) : Prop where
  all : ∀ u, Anc p u j → a < u → m ≤ s u
  is : ∃ u, Anc p u j ∧ a < u ∧ m = s u
theorem Anc.comp {p : Nat → Nat} {u v j : Nat} (h : Anc p u j) (g : Anc p v j) : Anc p u v ∨ Anc p v u := by
  induction h with
  | refl => exact .inr g
  | @step j n h ih =>
    cases g with
    | refl => exact .inl (.step n h)
    | step _ g => exact ih g
section
variable {k : Nat} {F : Nat → Nat → Prop} {p s : Nat → Nat}
theorem Tr.anc_of_le (t : Tr k F p) {u v j : Nat} (hj : j < k) (h : Anc p u j) (g : Anc p v j) (l : u ≤ v) : Anc p u v := by
  rcases h.comp g with a | a
  · exact a
  · have := t.anc_le g hj
    have := t.anc_le h hj
    have := t.anc_le a (by omega)
    have e : u = v := by omega
    subst e; exact .refl
/-- The ways above L, as they are shortened. -/
structure Ways (k : Nat) (p s : Nat → Nat) (L : Nat) (best top : Nat → Nat) : Prop where
  low : ∀ j, L < j → j < k → Low p s (top j) j (best j)
  anc : ∀ j, L < j → j < k → Anc p (top j) j ∧ top j < j
  link : ∀ j, L < j → j < k → ∀ u, Anc p u j → top j < u → L < u
  rest : ∀ j, 0 < j → j ≤ L → top j = p j
theorem Ways.congr {s' : Nat → Nat} {L : Nat} {best top : Nat → Nat} (h : Ways k p s L best top) (e : ∀ u, L < u → s' u = s u) : Ways k p s' L best top :=
  { h with low := fun j a b => ⟨fun u hu lu => by rw [e u (h.link j a b u hu lu)]; exact (h.low j a b).all u hu lu, by
      obtain ⟨u, hu, lu, eu⟩ := (h.low j a b).is
      exact ⟨u, hu, lu, by rw [e u (h.link j a b u hu lu)]; exact eu⟩⟩ }
theorem Ways.start (L : Nat) (hL : k ≤ L + 1) (best : Nat → Nat) : Ways k p s L best p :=
  ⟨fun j a b => by omega, fun j a b => by omega, fun j a b => by omega, fun _ _ _ => rfl⟩
/-- One more is linked. -/
theorem Ways.linked (t : Tr k F p) {i : Nat} {best top best' : Nat → Nat} (h : Ways k p s (i + 1) best top) (hi : i + 1 < k) (e1 : best' (i + 1) = s (i + 1)) (e2 : ∀ j, j ≠ i + 1 → best' j = best j) : Ways k p s i best' top := by
  have ht := h.rest (i + 1) (by omega) (Nat.le_refl _)
  have lp := t.lt (i + 1) (by omega) hi
  have only : ∀ u, Anc p u (i + 1) → p (i + 1) < u → u = i + 1 := fun u hu lu => by
    apply Classical.byContradiction; intro n
    obtain ⟨_, a⟩ := t.anc_up hu hi n
    have := t.anc_le a (by omega)
    omega
  refine ⟨fun j a b => ?_, fun j a b => ?_, fun j a b u hu lu => ?_, fun j a b => h.rest j a (by omega)⟩
  · by_cases c : j = i + 1
    · subst c
      rw [e1, ht]
      exact ⟨fun u hu lu => by rw [only u hu lu]; exact Nat.le_refl _, i + 1, .refl, lp, rfl⟩
    · rw [e2 j c]; exact h.low j (by omega) b
  · by_cases c : j = i + 1
    · subst c; rw [ht]; exact ⟨.step (by omega) .refl, lp⟩
    · exact h.anc j (by omega) b
  · by_cases c : j = i + 1
    · subst c; rw [ht] at lu; rw [only u hu lu]; exact Nat.lt_succ_self _
    · have := h.link j (by omega) b u hu lu; omega
/-- A way that ends at L or above has the least of all above L. -/
theorem Ways.got {L i : Nat} {best top : Nat → Nat} (h : Ways k p s L best top) (hi : L < i) (hk : i < k) (l : top i ≤ L) : Low p s L i (best i) :=
  ⟨fun u hu lu => (h.low i hi hk).all u hu (by omega), by
    obtain ⟨u, hu, lu, e⟩ := (h.low i hi hk).is
    exact ⟨u, hu, h.link i hi hk u hu lu, e⟩⟩
/-- A way is shortened: it goes on where the way of its end goes. -/
theorem Ways.shorten (t : Tr k F p) {L i : Nat} {best top best' top' : Nat → Nat} (h : Ways k p s L best top) (hi : L < i) (hk : i < k) (l : L < top i)
    (e1 : best' i = min (best i) (best (top i))) (e2 : top' i = top (top i)) (e3 : ∀ j, j ≠ i → best' j = best j ∧ top' j = top j) : Ways k p s L best' top' := by
  obtain ⟨au, lu⟩ := h.anc i hi hk
  have hu : top i < k := by omega
  obtain ⟨av, lv⟩ := h.anc (top i) l hu
  have hl := h.low i hi hk
  have hm := h.low (top i) l hu
  refine ⟨fun j a b => ?_, fun j a b => ?_, fun j a b u h1 h2 => ?_, fun j a b => ?_⟩
  · by_cases c : j = i
    · subst c
      rw [e1, e2]
      refine ⟨fun u h1 h2 => ?_, ?_⟩
      · by_cases cu : top j < u
        · exact Nat.le_trans (Nat.min_le_left _ _) (hl.all u h1 cu)
        · exact Nat.le_trans (Nat.min_le_right _ _) (hm.all u (t.anc_of_le b h1 au (by omega)) h2)
      · by_cases cm : best j ≤ best (top j)
        · obtain ⟨u, h1, h2, h3⟩ := hl.is
          exact ⟨u, h1, by omega, by rw [Nat.min_eq_left cm]; exact h3⟩
        · obtain ⟨u, h1, h2, h3⟩ := hm.is
          exact ⟨u, h1.trans au, h2, by rw [Nat.min_eq_right (by omega)]; exact h3⟩
    · rw [(e3 j c).1, (e3 j c).2]; exact h.low j a b
  · by_cases c : j = i
    · subst c; rw [e2]; exact ⟨av.trans au, by omega⟩
    · rw [(e3 j c).2]; exact h.anc j a b
  · by_cases c : j = i
    · subst c; rw [e2] at h2
      by_cases cu : top j < u
      · exact h.link j a b u h1 cu
      · exact h.link (top j) l hu u (t.anc_of_le b h1 au (by omega)) h2
    · rw [(e3 j c).2] at h2; exact h.link j a b u h1 h2
  · have c : j ≠ i := by omega
    rw [(e3 j c).2]; exact h.rest j a b
/-- What 'least' answers at j with the limit i. -/
def Least (p s : Nat → Nat) (i j m : Nat) : Prop := (j ≤ i ∧ m = j) ∨ (i < j ∧ Low p s i j m)
/-- The semidominator of i, as far as the predecessors js go. -/
structure Acc (p s : Nat → Nat) (i : Nat) (js : List Nat) (c : Nat) : Prop where
  le : c ≤ i
  near : ∀ j ∈ js, j < i → c ≤ j
  far : ∀ j ∈ js, ∀ u, Anc p u j → i < u → c ≤ s u
  is : c = i ∨ ∃ j, j ∈ js ∧ ((j < i ∧ c = j) ∨ ∃ u, Anc p u j ∧ i < u ∧ c = s u)
theorem Acc.start (i : Nat) : Acc p s i [] i := ⟨Nat.le_refl _, fun _ h => (by cases h), fun _ h => (by cases h), .inl rfl⟩
theorem Acc.step (t : Tr k F p) {i j c m : Nat} {js : List Nat} (h : Acc p s i js c) (hj : j < k) (l : Least p s i j m) : Acc p s i (js ++ [j]) (min c m) := by
  have hle := h.le
  refine ⟨Nat.le_trans (Nat.min_le_left _ _) h.le, fun x hx lx => ?_, fun x hx u hu lu => ?_, ?_⟩
  · rcases List.mem_append.1 hx with q | q
    · exact Nat.le_trans (Nat.min_le_left _ _) (h.near x q lx)
    · have e : x = j := by simpa using q
      subst e
      rcases l with ⟨a, b⟩ | ⟨a, b⟩
      · rw [b]; exact Nat.min_le_right _ _
      · omega
  · rcases List.mem_append.1 hx with q | q
    · exact Nat.le_trans (Nat.min_le_left _ _) (h.far x q u hu lu)
    · have e : x = j := by simpa using q
      subst e
      rcases l with ⟨a, b⟩ | ⟨a, b⟩
      · have := t.anc_le hu hj; omega
      · exact Nat.le_trans (Nat.min_le_right _ _) (b.all u hu lu)
  · by_cases cm : c ≤ m
    · rw [Nat.min_eq_left cm]
      rcases h.is with a | ⟨x, hx, a⟩
      · exact .inl a
      · exact .inr ⟨x, by simp [hx], a⟩
    · rw [Nat.min_eq_right (by omega)]
      rcases l with ⟨a, b⟩ | ⟨a, b⟩
      · exact .inr ⟨j, by simp, .inl ⟨by omega, b⟩⟩
      · exact .inr ⟨j, by simp, .inr b.is⟩
/-- All semidominators above L are found. -/
def Found (k : Nat) (F : Nat → Nat → Prop) (p s : Nat → Nat) (L : Nat) : Prop :=
  ∀ i, L < i → i < k → (∀ j, F j i → j < i → s i ≤ j) ∧ (∀ j u, F j i → Anc p u j → i < u → s i ≤ s u) ∧ ((∃ j, F j i ∧ j < i ∧ s i = j) ∨ ∃ j u, F j i ∧ Anc p u j ∧ i < u ∧ s i = s u)
theorem Found.start (L : Nat) (h : k ≤ L + 1) : Found k F p s L := fun i a b => by omega
theorem Found.congr {s' : Nat → Nat} {L : Nat} (h : Found k F p s L) (e : ∀ u, L < u → s' u = s u) : Found k F p s' L := by
  intro i a b
  obtain ⟨h1, h2, h3⟩ := h i a b
  refine ⟨fun j x y => by rw [e i a]; exact h1 j x y, fun j u x y z => by rw [e i a, e u (by omega)]; exact h2 j u x y z, ?_⟩
  rcases h3 with ⟨j, x, y, z⟩ | ⟨j, u, x, y, z, v⟩
  · exact .inl ⟨j, x, y, by rw [e i a]; exact z⟩
  · exact .inr ⟨j, u, x, y, z, by rw [e i a, e u (by omega)]; exact v⟩
theorem Found.next (t : Tr k F p) {i c : Nat} {js : List Nat} (h : Found k F p s (i + 1)) (hi : i + 1 < k) (a : Acc p s (i + 1) js c) (hc : s (i + 1) = c) (m : ∀ j, j ∈ js ↔ F j (i + 1)) : Found k F p s i := by
  intro x lx hx
  by_cases e : x = i + 1
  · subst e
    refine ⟨fun j f l => by rw [hc]; exact a.near j ((m j).2 f) l, fun j u f hu lu => by rw [hc]; exact a.far j ((m j).2 f) u hu lu, ?_⟩
    rcases a.is with q | ⟨j, hj, q⟩
    · have h1 := a.near _ ((m _).2 (t.edge (i + 1) (by omega) hi)) (t.lt _ (by omega) hi)
      have := t.lt (i + 1) (by omega) hi
      omega
    · rw [hc]
      rcases q with ⟨l, q⟩ | ⟨u, hu, lu, q⟩
      · exact .inl ⟨j, (m j).1 hj, l, q⟩
      · exact .inr ⟨j, u, (m j).1 hj, hu, lu, q⟩
  · exact h x (by omega) hx
theorem Found.semi (t : Tr k F p) (h : Found k F p s 0) : Semi k F p s :=
  ⟨fun i j h0 f l => (h i h0 (t.bnd _ _ f).2).1 j f l, fun i j u h0 f a l => (h i h0 (t.bnd _ _ f).2).2.1 j u f a l, fun i h0 hi => (h i h0 hi).2.2⟩
end
end Go.Proofs.Ytcmliokkamgcdaa
