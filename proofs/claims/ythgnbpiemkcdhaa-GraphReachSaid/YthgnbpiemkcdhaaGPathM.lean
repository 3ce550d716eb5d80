/-
  Path: what it finds, in plain lists.
-/
import Derived.Test.YthgnbpiemkcdhaaGReach
namespace Go.Proofs.Ythgnbpiemkcdhaa
open Go.RowKit Go.Shelf
set_option linter.unusedVariables false

/-- A successor x of v is visited: the node before it, and the queue. -/
def visP (v : Int) (st : List Int × List Int) (x : Int) : List Int × List Int := if st.1.getD x.toNat 0 < 0 then (st.1.set x.toNat v, st.2 ++ [x]) else st
def scanP (ps : List (Int × Int)) (st : List Int × List Int) (v : Int) : List Int × List Int := (succL ps v).foldl (visP v) st
def bfsP (ps : List (Int × Int)) (t : Int) : Nat → Nat → List Int × List Int → List Int × List Int
  | 0, _, st => st
  | f + 1, i, st => if i < st.2.length ∧ st.1.getD t.toNat 0 < 0 then bfsP ps t f (i + 1) (scanP ps st (st.2.getD i 0)) else st
def startP (N fr : Int) : List Int × List Int := ((List.replicate N.toNat (-1)).set fr.toNat fr, [fr])
def foundP (N : Int) (ps : List (Int × Int)) (fr t : Int) : List Int × List Int := bfsP ps t (N.toNat + 1) 0 (startP N fr)
/-- Up from v to fr. -/
def upP (bf : List Int) (fr : Int) : Nat → Int → List Int → List Int
  | 0, _, acc => acc
  | f + 1, v, acc => if v = fr then acc else upP bf fr f (bf.getD v.toNat 0) (acc ++ [bf.getD v.toNat 0])
def pathL (N : Int) (ps : List (Int × Int)) (fr t : Int) : List Int := (upP (foundP N ps fr t).1 fr N.toNat t [t]).reverse

theorem bfsP_go {ps : List (Int × Int)} {t : Int} {f i : Nat} {st : List Int × List Int} (h : i < st.2.length) (h2 : st.1.getD t.toNat 0 < 0) : bfsP ps t (f + 1) i st = bfsP ps t f (i + 1) (scanP ps st (st.2.getD i 0)) := by
  show (if _ then _ else _) = _
  rw [if_pos ⟨h, h2⟩]
theorem bfsP_end {ps : List (Int × Int)} {t : Int} {f i : Nat} {st : List Int × List Int} (h : ¬ (i < st.2.length ∧ st.1.getD t.toNat 0 < 0)) : bfsP ps t f i st = st := by
  cases f with
  | zero => rfl
  | succ f => show (if _ then _ else _) = _; rw [if_neg h]
theorem upP_go {bf : List Int} {fr v : Int} {f : Nat} {acc : List Int} (h : v ≠ fr) : upP bf fr (f + 1) v acc = upP bf fr f (bf.getD v.toNat 0) (acc ++ [bf.getD v.toNat 0]) := by
  show (if _ then _ else _) = _
  rw [if_neg h]
theorem upP_end {bf : List Int} {fr : Int} {f : Nat} {acc : List Int} : upP bf fr f fr acc = acc := by
  cases f with
  | zero => rfl
  | succ f => show (if _ then _ else _) = _; rw [if_pos rfl]

/-- What the lists of Path keep. -/
structure PInv (N : Nat) (fr : Int) (st : List Int × List Int) : Prop where
  len : st.1.length = N
  node : ∀ x ∈ st.2, 0 ≤ x ∧ x < N
  cnt : st.1.countP (fun b => decide (b < 0)) + st.2.length = N
  seen : ∀ x ∈ st.2, 0 ≤ st.1.getD x.toNat 0
  fr0 : 0 ≤ fr ∧ fr < N
  first : 0 < st.2.length ∧ st.2.getD 0 0 = fr
  up : ∀ j, 0 < j → j < st.2.length → ∃ i, i < j ∧ st.1.getD (st.2.getD j 0).toNat 0 = st.2.getD i 0
  all : ∀ x : Int, 0 ≤ x → x < N → 0 ≤ st.1.getD x.toNat 0 → x ∈ st.2

theorem countP_setI (l : List Int) (i : Nat) (v : Int) (hi : i < l.length) (h : l.getD i 0 < 0) (hv : 0 ≤ v) : (l.set i v).countP (fun b => decide (b < 0)) + 1 = l.countP (fun b => decide (b < 0)) := by
  induction l generalizing i with
  | nil => simp at hi
  | cons a r ih =>
    cases i with
    | zero =>
      simp at h
      simp [h, show ¬ v < 0 by omega]
    | succ i =>
      have := ih i (by simpa using hi) (by simpa using h)
      simp only [List.set_cons_succ, List.countP_cons]
      omega
theorem getD_setI (l : List Int) (i j : Nat) (v : Int) (hi : i < l.length) : (l.set i v).getD j 0 = if i = j then v else l.getD j 0 := by
  simp only [List.getD_eq_getElem?_getD, List.getElem?_set]
  split
  · next h => subst h; simp
  · rfl
theorem getD_appI (l : List Int) (x : Int) (j : Nat) : (l ++ [x]).getD j 0 = if j < l.length then l.getD j 0 else if j = l.length then x else 0 := by
  simp only [List.getD_eq_getElem?_getD]
  by_cases h : j < l.length
  · rw [if_pos h, List.getElem?_append_left h]
  · rw [if_neg h, List.getElem?_append_right (by omega)]
    by_cases e : j = l.length
    · subst e; simp
    · rw [if_neg e]
      have : j - l.length ≠ 0 := by omega
      obtain ⟨k, hk⟩ : ∃ k, j - l.length = k + 1 := ⟨j - l.length - 1, by omega⟩
      rw [hk]; simp
theorem mem_getD (l : List Int) (j : Nat) (h : j < l.length) : l.getD j 0 ∈ l := by
  simp [List.getD_eq_getElem?_getD, h]

theorem PInv.vis {N : Nat} {fr : Int} {st : List Int × List Int} (h : PInv N fr st) {x : Int} {k : Nat} (h0 : 0 ≤ x) (h1 : x < N) (hk : k < st.2.length) : PInv N fr (visP (st.2.getD k 0) st x) := by
  unfold visP
  by_cases e : st.1.getD x.toNat 0 < 0
  · rw [if_pos e]
    have hlt : x.toNat < st.1.length := by rw [h.len]; omega
    have hv := h.node _ (mem_getD _ k hk)
    have hne : ∀ y ∈ st.2, x.toNat ≠ y.toNat := fun y hy e' => by have := h.seen y hy; rw [← e'] at this; omega
    have hkeep : ∀ y ∈ st.2, (st.1.set x.toNat (st.2.getD k 0)).getD y.toNat 0 = st.1.getD y.toNat 0 := fun y hy => by rw [getD_setI _ _ _ _ hlt, if_neg (hne y hy)]
    refine ⟨by simpa using h.len, fun y hy => ?_, ?_, fun y hy => ?_, h.fr0, ?_, fun j hj hj' => ?_, fun y y0 y1 hy => ?_⟩
    · rcases List.mem_append.1 hy with hy | hy
      · exact h.node y hy
      · rw [List.mem_singleton.1 hy]; exact ⟨h0, h1⟩
    · have := countP_setI st.1 x.toNat (st.2.getD k 0) hlt e hv.1
      have := h.cnt
      simp only [List.length_append, List.length_singleton]
      omega
    · rcases List.mem_append.1 hy with hy | hy
      · show 0 ≤ (st.1.set _ _).getD _ _
        rw [hkeep y hy]; exact h.seen y hy
      · rw [List.mem_singleton.1 hy]
        show 0 ≤ (st.1.set _ _).getD _ _
        rw [getD_setI _ _ _ _ hlt, if_pos rfl]; exact hv.1
    · show 0 < (st.2 ++ [x]).length ∧ (st.2 ++ [x]).getD 0 0 = fr
      rw [getD_appI, if_pos h.first.1]
      exact ⟨by simp, h.first.2⟩
    · have hj2 : j < st.2.length + 1 := by simpa using hj'
      show ∃ i, i < j ∧ (st.1.set _ _).getD ((st.2 ++ [x]).getD j 0).toNat 0 = (st.2 ++ [x]).getD i 0
      by_cases hjl : j < st.2.length
      · obtain ⟨i, hi, hi2⟩ := h.up j hj hjl
        refine ⟨i, hi, ?_⟩
        rw [getD_appI, if_pos hjl, getD_appI, if_pos (by omega), hkeep _ (mem_getD _ j hjl), hi2]
      · obtain rfl : j = st.2.length := by omega
        refine ⟨k, hk, ?_⟩
        rw [getD_appI, if_neg hjl, if_pos rfl, getD_appI, if_pos hk, getD_setI _ _ _ _ hlt, if_pos rfl]
    · show y ∈ st.2 ++ [x]
      by_cases exy : x.toNat = y.toNat
      · have : y = x := by omega
        simp [this]
      · have hy' : 0 ≤ (st.1.set x.toNat (st.2.getD k 0)).getD y.toNat 0 := hy
        rw [getD_setI _ _ _ _ hlt, if_neg exy] at hy'
        exact List.mem_append_left _ (h.all y y0 y1 hy')
  · rw [if_neg e]; exact h
theorem visP_keeps (v : Int) (st : List Int × List Int) (x : Int) (k : Nat) (hk : k < st.2.length) : k < (visP v st x).2.length ∧ (visP v st x).2.getD k 0 = st.2.getD k 0 := by
  unfold visP
  split
  · exact ⟨by simp; omega, by rw [getD_appI, if_pos hk]⟩
  · exact ⟨hk, rfl⟩
theorem foldP_keeps (v : Int) : ∀ (l : List Int) (st : List Int × List Int) (k : Nat), k < st.2.length → k < (l.foldl (visP v) st).2.length ∧ (l.foldl (visP v) st).2.getD k 0 = st.2.getD k 0
  | [], st, k, hk => ⟨hk, rfl⟩
  | x :: l, st, k, hk => by
    obtain ⟨h1, h2⟩ := visP_keeps v st x k hk
    obtain ⟨h3, h4⟩ := foldP_keeps v l (visP v st x) k h1
    exact ⟨h3, h4.trans h2⟩
theorem PInv.fold {N : Nat} {fr v : Int} {k : Nat} : ∀ (l : List Int) (st : List Int × List Int), PInv N fr st → k < st.2.length → st.2.getD k 0 = v → (∀ x ∈ l, 0 ≤ x ∧ x < (N : Int)) → PInv N fr (l.foldl (visP v) st)
  | [], _, h, _, _, _ => h
  | x :: l, st, h, hk, hv, hl => by
    have hk2 := visP_keeps v st x k hk
    refine PInv.fold l (visP v st x) ?_ hk2.1 (hk2.2.trans hv) fun y hy => hl y (List.mem_cons_of_mem _ hy)
    rw [← hv]
    exact h.vis (hl x (by simp)).1 (hl x (by simp)).2 hk
theorem PInv.start {N : Nat} {fr : Int} (h0 : 0 ≤ fr) (h1 : fr < N) : PInv N fr (startP N fr) := by
  unfold startP
  have hlt : fr.toNat < (List.replicate (N : Int).toNat (-1 : Int)).length := by simp; omega
  refine ⟨by simp, fun x hx => ?_, ?_, fun x hx => ?_, ⟨h0, h1⟩, ⟨by simp, by simp⟩, fun j hj hj' => by simp at hj'; omega, fun y y0 y1 hy => ?_⟩
  · rw [List.mem_singleton.1 hx]; exact ⟨h0, h1⟩
  · have := countP_setI (List.replicate (N : Int).toNat (-1 : Int)) fr.toNat fr hlt (by simp [List.getD_eq_getElem?_getD, List.getElem?_replicate]; split <;> simp_all) h0
    simp only [List.countP_replicate] at this
    simp at this
    simp only [List.length_singleton]
    exact this
  · rw [List.mem_singleton.1 hx]
    show 0 ≤ (List.set _ _ _).getD _ _
    rw [getD_setI _ _ _ _ hlt, if_pos rfl]; exact h0
  · by_cases e : fr.toNat = y.toNat
    · have : y = fr := by omega
      simp [this]
    · have hy' : 0 ≤ ((List.replicate (N : Int).toNat (-1 : Int)).set fr.toNat fr).getD y.toNat 0 := hy
      rw [getD_setI _ _ _ _ hlt, if_neg e] at hy'
      have hy2 : y.toNat < N := by omega
      simp [List.getD_eq_getElem?_getD, hy2] at hy'
end Go.Proofs.Ythgnbpiemkcdhaa
