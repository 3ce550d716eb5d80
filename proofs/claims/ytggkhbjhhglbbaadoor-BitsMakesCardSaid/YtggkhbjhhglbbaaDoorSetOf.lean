/-
  The set of an ascending list, as the definition makes it: plain mathematics, and slices of the call's own.
-/
import Derived.Test.YtggkhbjhhglbbaaDoorRMore
namespace Go.Proofs.YtggkhbjhhglbbaaDoor
open Go.RowKit Go.WideShapes
set_option linter.unusedVariables false

/-- The words are the set of the list's numbers, in normal form. -/
structure SetOf (us l : List Nat) : Prop where
  wf : Wf us
  normal : Normal us
  mem : ∀ i, mem us i = true ↔ i ∈ l
theorem SetOf.nil : SetOf [] [] := ⟨Wf.nil, .inl rfl, fun i => by simp [Go.Proofs.YtggkhbjhhglbbaaDoor.mem]⟩
theorem SetOf.unique {a b l : List Nat} (h : SetOf a l) (k : SetOf b l) : a = b :=
  ext_normal h.wf k.wf h.normal k.normal fun i => by rw [Bool.eq_iff_iff, h.mem, k.mem]
theorem SetOf.of {ws l : List Nat} (hw : Wf ws) (hn : Normal ws) (h : ∀ i, Go.Proofs.YtggkhbjhhglbbaaDoor.mem ws i = true ↔ i ∈ l) : SetOf ws l := ⟨hw, hn, h⟩
theorem SetOf.top {us l : List Nat} (h : SetOf us l) {x : Nat} (hx : ∀ y ∈ l, y < x) : us.length ≤ x / 64 + 1 := by
  rcases Nat.lt_or_ge (x / 64 + 1) us.length with c | c
  · exfalso
    rcases h.normal with n | n
    · omega
    · have hb := ctz_bit n (h.wf _)
      have hl := ctz_lt n (h.wf _)
      have hm : Go.Proofs.YtggkhbjhhglbbaaDoor.mem us (64 * (us.length - 1) + Lib.ctz 64 (us.getD (us.length - 1) 0)) = true := by
        unfold Go.Proofs.YtggkhbjhhglbbaaDoor.mem
        rw [show ∀ k t : Nat, t < 64 → (64 * k + t) / 64 = k from fun k t ht => by omega, show ∀ k t : Nat, t < 64 → (64 * k + t) % 64 = t from fun k t ht => by omega]
        · exact hb
        all_goals exact hl
      have := hx _ ((h.mem _).1 hm)
      omega
  · exact c
theorem SetOf.len {us l : List Nat} (h : SetOf us l) {n : Nat} (hx : ∀ y ∈ l, y < 64 * n) : us.length ≤ n := by
  cases n with
  | zero =>
    have : l = [] := by
      cases l with
      | nil => rfl
      | cons y r => have := hx y (by simp); omega
    subst this
    rcases h.normal with n | n
    · omega
    · exfalso
      have hb := ctz_bit n (h.wf _)
      have hl := ctz_lt n (h.wf _)
      have hm : Go.Proofs.YtggkhbjhhglbbaaDoor.mem us (64 * (us.length - 1) + Lib.ctz 64 (us.getD (us.length - 1) 0)) = true := by
        unfold Go.Proofs.YtggkhbjhhglbbaaDoor.mem
        rw [show ∀ k t : Nat, t < 64 → (64 * k + t) / 64 = k from fun k t ht => by omega, show ∀ k t : Nat, t < 64 → (64 * k + t) % 64 = t from fun k t ht => by omega]
        · exact hb
        all_goals exact hl
      have := (h.mem _).1 hm
      cases this
  | succ n =>
    have := h.top (x := 64 * n + 64) (fun y hy => by have := hx y hy; omega)
    have h2 : us.length ≤ (64 * n + 63) / 64 + 1 := by
      rcases Nat.lt_or_ge ((64 * n + 63) / 64 + 1) us.length with c | c
      · exfalso
        rcases h.normal with m | m
        · omega
        · have hb := ctz_bit m (h.wf _)
          have hl := ctz_lt m (h.wf _)
          have hm : Go.Proofs.YtggkhbjhhglbbaaDoor.mem us (64 * (us.length - 1) + Lib.ctz 64 (us.getD (us.length - 1) 0)) = true := by
            unfold Go.Proofs.YtggkhbjhhglbbaaDoor.mem
            rw [show ∀ k t : Nat, t < 64 → (64 * k + t) / 64 = k from fun k t ht => by omega, show ∀ k t : Nat, t < 64 → (64 * k + t) % 64 = t from fun k t ht => by omega]
            · exact hb
            all_goals exact hl
          have := hx _ ((h.mem _).1 hm)
          omega
      · exact c
    omega

/-- Zero words at the end change no element. -/
def pad (us : List Nat) (j : Nat) : List Nat := us ++ List.replicate j 0
theorem length_pad (us : List Nat) (j : Nat) : (pad us j).length = us.length + j := by simp [pad]
theorem pad_succ (us : List Nat) (j : Nat) : pad us (j + 1) = pad us j ++ [0] := by simp [pad, List.replicate_succ']
theorem getD_pad (us : List Nat) (j i : Nat) : (pad us j).getD i 0 = us.getD i 0 := by
  simp only [pad, List.getD_eq_getElem?_getD, List.getElem?_append, List.getElem?_replicate]
  split
  · rfl
  · rw [List.getElem?_eq_none (by omega)]
    split <;> rfl
theorem pad_zero (us : List Nat) : pad us 0 = us := by simp [pad]
theorem getD_set (l : List Nat) (q v i : Nat) (hq : q < l.length) : (l.set q v).getD i 0 = if i = q then v else l.getD i 0 := by
  simp only [List.getD_eq_getElem?_getD, List.getElem?_set]
  by_cases e : q = i
  · subst e; simp [hq]
  · rw [if_neg e, if_neg (by omega)]
theorem low_bits {us l : List Nat} (h : SetOf us l) {x q r : Nat} (hq : x / 64 = q) (hr : x % 64 = r) (hx : ∀ y ∈ l, y < x) : us.getD q 0 < 2 ^ r := by
  apply Nat.lt_pow_two_of_testBit
  intro i hi
  rcases Nat.lt_or_ge i 64 with c | c
  · cases hb : (us.getD q 0).testBit i with
    | false => rfl
    | true =>
      exfalso
      have hm : Go.Proofs.YtggkhbjhhglbbaaDoor.mem us (64 * q + i) = true := by
        unfold Go.Proofs.YtggkhbjhhglbbaaDoor.mem
        rw [show (64 * q + i) / 64 = q from by omega, show (64 * q + i) % 64 = i from by omega]; exact hb
      have := hx _ ((h.mem _).1 hm)
      omega
  · exact testBit_big (h.wf q) c
theorem add_or {y r : Nat} (h : y < 2 ^ r) : y + 2 ^ r = y ||| 2 ^ r := by
  have := Nat.two_pow_add_eq_or_of_lt h 1
  rw [Nat.mul_one] at this
  rw [Nat.add_comm, this, Nat.or_comm]
theorem SetOf.step {us l : List Nat} (h : SetOf us l) {x q r p j : Nat} (hq : x / 64 = q) (hr : x % 64 = r) (hp : 2 ^ r = p) (hx : ∀ y ∈ l, y < x) (hj : us.length + j = q + 1) :
    SetOf ((pad us j).set q (us.getD q 0 + p)) (l ++ [x]) ∧ us.getD q 0 + p < 18446744073709551616 := by
  subst hp
  have hlt := low_bits h hq hr hx
  rw [add_or hlt]
  have hr2 : r < 64 := by omega
  have hb := or_lt _ _ (h.wf q) (two_pow_lt r hr2)
  have hl : q < (pad us j).length := by rw [length_pad]; omega
  refine ⟨⟨fun i => ?_, .inr ?_, fun i => ?_⟩, hb⟩
  · rw [getD_set _ _ _ _ hl]
    split
    · exact hb
    · rw [getD_pad]; exact h.wf i
  · rw [List.length_set, length_pad, getD_set _ _ _ _ hl, if_pos (by omega)]
    apply or_ne_right
    have : 0 < 2 ^ r := Nat.pow_pos (by omega)
    omega
  · unfold Go.Proofs.YtggkhbjhhglbbaaDoor.mem
    rw [getD_set _ _ _ _ hl, List.mem_append, List.mem_singleton, ← h.mem i]
    unfold Go.Proofs.YtggkhbjhhglbbaaDoor.mem
    by_cases e : i / 64 = q
    · rw [if_pos e, Nat.testBit_or, Nat.testBit_two_pow, e]
      simp only [Bool.or_eq_true, decide_eq_true_eq]
      constructor
      · rintro (h1 | h1)
        · exact .inl h1
        · exact .inr (by omega)
      · rintro (h1 | h1)
        · exact .inl h1
        · exact .inr (by omega)
    · rw [if_neg e, getD_pad]
      constructor
      · exact .inl
      · rintro (h1 | h1)
        · exact h1
        · exfalso; exact e (by rw [h1]; exact hq)
theorem asc_take_lt {l : List Nat} (h : Asc l) {k : Nat} (hk : k < l.length) : ∀ y ∈ l.take k, y < l.getD k 0 := by
  intro y hy
  obtain ⟨i, hi, e⟩ := mem_getD hy
  rw [List.length_take] at hi
  have e2 : l.getD i 0 = y := by rw [← e, getD_take, if_pos (by omega)]
  rw [← e2]
  exact asc_getD h (by omega) hk
theorem take_next {l : List Nat} {k : Nat} (hk : k < l.length) : l.take (k + 1) = l.take k ++ [l.getD k 0] := by
  rw [List.take_add_one, List.getD_eq_getElem?_getD, List.getElem?_eq_getElem hk]; simp

theorem OwnW.row {w : World} {base : Nat} {v : Value} {ws : List Nat} (h : OwnW w base v ws) (h0 : 0 < ws.length) : ∃ g cap, v = .slice (some ⟨g, 0, none⟩) ws.length cap ∧ RowW w base g cap ws := by
  rcases h.2 with ⟨rfl, hn⟩ | ⟨g, cap, cur, rfl, _⟩
  · omega
  · exact ⟨g, cap, rfl, h⟩
theorem OwnW.good {w : World} {base : Nat} {v : Value} {ws : List Nat} (h : OwnW w base v ws) (hl : ws.length ≤ 1100) (hwf : Wf ws) : ∃ a c, v = .slice a ws.length c ∧ Good w a c ws := by
  rcases h.2 with ⟨rfl, hn⟩ | ⟨g, cap, cur, rfl, _⟩
  · exact ⟨none, 0, by rw [hn], by omega, by omega, by unfold maxLen; omega, hwf, fun h0 => by omega⟩
  · exact ⟨_, _, rfl, RowW.good (base := base) h hl hwf⟩
end Go.Proofs.YtggkhbjhhglbbaaDoor
