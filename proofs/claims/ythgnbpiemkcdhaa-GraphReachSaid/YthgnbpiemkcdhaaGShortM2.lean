/-
  Path's answer: a path, and none is shorter.
-/
import Derived.Test.YthgnbpiemkcdhaaGShortM
namespace Go.Proofs.Ythgnbpiemkcdhaa
open Go.RowKit Go.Shelf
set_option linter.unusedVariables false

theorem DI.start (N : Nat) (ps : List (Int × Int)) (fr : Int) : DI ps fr 0 (startP N fr) (fun _ => 0) := by
  have hl : (startP (N : Int) fr).2.length = 1 := rfl
  exact ⟨rfl, fun j hj hj' => by omega, fun _ _ _ _ => Nat.le_refl _, fun _ _ _ => Nat.zero_le _, fun j hj => by omega⟩
theorem upP_spec {N : Nat} {ps : List (Int × Int)} {fr : Int} {i : Nat} {st : List Int × List Int} {dep : Int → Nat} (h : DI ps fr i st dep) (hI : PInv N fr st) : ∀ (d j f : Nat) (acc : List Int), j < st.2.length → dep (st.2.getD j 0) = d → d ≤ f →
    ∃ l, upP st.1 fr f (st.2.getD j 0) acc = acc ++ l ∧ l.length = d ∧ (∀ k, k < d → ((st.2.getD j 0 :: l).getD (k + 1) 0, (st.2.getD j 0 :: l).getD k 0) ∈ ps) ∧ (st.2.getD j 0 :: l).getD d 0 = fr := by
  intro d
  induction d with
  | zero =>
    intro j f acc hj hd _
    have hj0 : j = 0 := by
      rcases Nat.eq_zero_or_pos j with e | e
      · exact e
      · have := (h.up j e hj).1; omega
    subst hj0
    rw [hI.first.2, upP_end]
    exact ⟨[], by simp, rfl, fun k hk => by omega, by simp⟩
  | succ d ih =>
    intro j f acc hj hd hf
    have hj0 : 0 < j := by
      rcases Nat.eq_zero_or_pos j with e | e
      · rw [e, hI.first.2, h.zero] at hd; omega
      · exact e
    have hne : st.2.getD j 0 ≠ fr := fun e => by rw [e, h.zero] at hd; omega
    obtain ⟨k, hk, hb⟩ := hI.up j hj0 hj
    obtain ⟨hu1, hu2⟩ := h.up j hj0 hj
    rw [hb] at hu1 hu2
    obtain ⟨f, rfl⟩ : ∃ f', f = f' + 1 := ⟨f - 1, by omega⟩
    rw [upP_go hne, hb]
    obtain ⟨l, e1, e2, e3, e4⟩ := ih k f (acc ++ [st.2.getD k 0]) (by omega) (by omega) (by omega)
    refine ⟨st.2.getD k 0 :: l, by rw [e1, List.append_assoc]; rfl, by simp [e2], fun q hq => ?_, ?_⟩
    · cases q with
      | zero => simpa using hu2
      | succ q =>
        have := e3 q (by omega)
        simpa using this
    · simpa using e4
theorem dep_le {N : Nat} {ps : List (Int × Int)} {fr : Int} {i : Nat} {st : List Int × List Int} {dep : Int → Nat} (h : DI ps fr i st dep) (hI : PInv N fr st) : ∀ j, j < st.2.length → dep (st.2.getD j 0) ≤ j := by
  intro j
  induction j using Nat.strongRecOn with
  | _ j ih =>
    intro hj
    rcases Nat.eq_zero_or_pos j with e | e
    · subst e; rw [hI.first.2, h.zero]; exact Nat.le_refl _
    · obtain ⟨k, hk, hb⟩ := hI.up j e hj
      have := (h.up j e hj).1
      rw [hb] at this
      have := ih k hk (by omega)
      omega
theorem found_end {N : Nat} {ps : List (Int × Int)} {fr t : Int} (hg : GOk N ps) (h0 : 0 ≤ fr) (h1 : fr < N) : ∃ i dep, DI ps fr i (foundP N ps fr t) dep ∧ PInv N fr (foundP N ps fr t) ∧ (0 ≤ (foundP N ps fr t).1.getD t.toNat 0 ∨ (foundP N ps fr t).2.length ≤ i) := by
  have := DI.walk (t := t) hg (N + 1) 0 (startP N fr) _ (DI.start N ps fr) (PInv.start h0 h1) (by omega)
  unfold foundP
  rw [Int.toNat_natCast]
  exact this
theorem getD_rev (l : List Int) (i : Nat) (h : i < l.length) : l.reverse.getD i 0 = l.getD (l.length - 1 - i) 0 := by
  simp only [List.getD_eq_getElem?_getD]
  rw [List.getElem?_reverse h]
/-- Where there is a path of m edges, one is found, and it is no longer. -/
theorem path_least {N : Nat} {ps : List (Int × Int)} {fr t : Int} (hg : GOk N ps) (h0 : 0 ≤ fr) (h1 : fr < N) (t0 : 0 ≤ t) (t1 : t < N) (p : Nat → Int) (m : Nat) (hp : p 0 = fr) (hm : p m = t) (he : ∀ k, k < m → (p k, p (k + 1)) ∈ ps) :
    0 ≤ (foundP N ps fr t).1.getD t.toNat 0 ∧ (pathL N ps fr t).length ≤ m + 1 := by
  obtain ⟨i, dep, h, hI, hend⟩ := found_end (t := t) hg h0 h1
  have hf : fr ∈ (foundP N ps fr t).2 := by have := mem_getD _ 0 hI.first.1; rwa [hI.first.2] at this
  obtain ⟨ht, hd⟩ := h.least hf (hend.imp (fun e => hI.all t t0 t1 e) id) p m hp hm he
  refine ⟨hI.seen t ht, ?_⟩
  obtain ⟨j, hj, e⟩ := List.getElem_of_mem ht
  have ej : (foundP N ps fr t).2.getD j 0 = t := by simp [List.getD_eq_getElem?_getD, hj, e]
  have hc := hI.cnt
  have hdj := dep_le h hI j hj
  rw [ej] at hdj
  obtain ⟨l, e1, e2, _, _⟩ := upP_spec h hI (dep t) j N [t] hj (by rw [ej]) (by omega)
  unfold pathL
  rw [Int.toNat_natCast, List.length_reverse]
  rw [ej] at e1
  rw [e1]
  simp only [List.length_append, List.length_singleton]
  omega
/-- What is found is a path. -/
theorem path_is {N : Nat} {ps : List (Int × Int)} {fr t : Int} (hg : GOk N ps) (h0 : 0 ≤ fr) (h1 : fr < N) (t0 : 0 ≤ t) (t1 : t < N) (hfo : 0 ≤ (foundP N ps fr t).1.getD t.toNat 0) :
    0 < (pathL N ps fr t).length ∧ (pathL N ps fr t).getD 0 0 = fr ∧ (pathL N ps fr t).getD ((pathL N ps fr t).length - 1) 0 = t ∧ ∀ k, k + 1 < (pathL N ps fr t).length → ((pathL N ps fr t).getD k 0, (pathL N ps fr t).getD (k + 1) 0) ∈ ps := by
  obtain ⟨i, dep, h, hI, hend⟩ := found_end (t := t) hg h0 h1
  obtain ⟨j, hj, e⟩ := List.getElem_of_mem (hI.all t t0 t1 hfo)
  have ej : (foundP N ps fr t).2.getD j 0 = t := by simp [List.getD_eq_getElem?_getD, hj, e]
  have hc := hI.cnt
  have hdj := dep_le h hI j hj
  rw [ej] at hdj
  obtain ⟨l, e1, e2, e3, e4⟩ := upP_spec h hI (dep t) j N [t] hj (by rw [ej]) (by omega)
  rw [ej] at e1 e3 e4
  have hpl : pathL N ps fr t = (t :: l).reverse := by
    unfold pathL
    rw [Int.toNat_natCast, e1]; rfl
  have hlen : (t :: l).length = dep t + 1 := by simp [e2]
  rw [hpl, List.length_reverse, hlen]
  refine ⟨by omega, ?_, ?_, fun k hk => ?_⟩
  · rw [getD_rev _ _ (by omega), hlen]
    simpa using e4
  · rw [getD_rev _ _ (by omega), hlen, show dep t + 1 - 1 - (dep t + 1 - 1) = 0 by omega]
    rfl
  · rw [getD_rev _ _ (by omega), getD_rev _ _ (by omega), hlen]
    have := e3 (dep t + 1 - 1 - (k + 1)) (by omega)
    rwa [show dep t + 1 - 1 - (k + 1) + 1 = dep t + 1 - 1 - k by omega] at this
end Go.Proofs.Ythgnbpiemkcdhaa
