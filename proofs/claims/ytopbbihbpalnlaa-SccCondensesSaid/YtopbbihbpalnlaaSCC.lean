/-
  What the list of Components is, in plain words.
-/
import Derived.Test.YtopbbihbpalnlaaSInB
import Derived.Test.YtopbbihbpalnlaaSComp
namespace Go.Proofs.Ytopbbihbpalnlaa
set_option linter.unusedVariables false

theorem mem_suN {N : Nat} {ps : List (Int × Int)} (hg : GOk (N : Int) ps) {x y : Nat} : y ∈ suN ps x ↔ ((x : Int), (y : Int)) ∈ ps := by
  constructor
  · intro h
    obtain ⟨z, hz, e⟩ := List.mem_map.mp h
    obtain ⟨i, hi, e2⟩ := mem_succL hz
    have h3 := (hg.node i hi).2
    rw [e2] at h3
    have h4 : z = (y : Int) := by have := h3.1; simp at this; omega
    subst h4
    rw [← e2, List.getD_eq_getElem?_getD, List.getElem?_eq_getElem hi]
    exact List.getElem_mem _
  · intro h
    exact List.mem_map.mpr ⟨(y : Int), List.mem_map.mpr ⟨_, List.mem_filter.mpr ⟨h, by simp⟩, rfl⟩, by simp⟩
theorem GOk.fit {N : Nat} {ps : List (Int × Int)} (hg : GOk (N : Int) ps) : ∀ e ∈ ps, (0 ≤ e.1 ∧ e.1 < N) ∧ 0 ≤ e.2 ∧ e.2 < N := by
  intro e he
  obtain ⟨i, hi, rfl⟩ := List.getElem_of_mem he
  have := hg.node i hi
  rw [List.getD_eq_getElem?_getD, List.getElem?_eq_getElem hi] at this
  exact this
theorem getD_mem {α : Type} {L : List (List α)} {i : Nat} (h : i < L.length) : L.getD i [] ∈ L := by
  rw [List.getD_eq_getElem?_getD, List.getElem?_eq_getElem h]; exact List.getElem_mem _
theorem mem_getD {α : Type} {L : List (List α)} {c : List α} (h : c ∈ L) : ∃ i, i < L.length ∧ L.getD i [] = c := by
  obtain ⟨i, hi, e⟩ := List.getElem_of_mem h
  exact ⟨i, hi, by rw [List.getD_eq_getElem?_getD, List.getElem?_eq_getElem hi]; exact e⟩
theorem split_at {α : Type} {L : List (List α)} {i : Nat} (h : i < L.length) : L = L.take i ++ L.getD i [] :: L.drop (i + 1) := by
  rw [List.getD_eq_getElem?_getD, List.getElem?_eq_getElem h]
  simp
theorem pw_getD {L : List (List Nat)} (h : L.Pairwise fun c d => ∀ x ∈ c, x ∉ d) : ∀ i j, i < L.length → j < L.length → ∀ x, x ∈ L.getD i [] → x ∈ L.getD j [] → i = j := by
  intro i j hi hj x h1 h2
  rw [List.pairwise_iff_getElem] at h
  rw [List.getD_eq_getElem?_getD, List.getElem?_eq_getElem hi] at h1
  rw [List.getD_eq_getElem?_getD, List.getElem?_eq_getElem hj] at h2
  rcases Nat.lt_trichotomy i j with h3 | h3 | h3
  · exact absurd h2 (h i j hi hj h3 x h1)
  · exact h3
  · exact absurd h1 (h j i hj hi h3 x h2)
theorem Comps.lok {N : Nat} {ps : List (Int × Int)} {L : List (List Nat)} (h : Comps N (suN ps) L) (hg : GOk (N : Int) ps) : LOk N ps L where
  lt := fun i hi x hx => h.lt _ (getD_mem hi) x hx
  ne := fun i hi => h.ne _ (getD_mem hi)
  dis := pw_getD h.dis
  all := fun x hx => by
    obtain ⟨c, hc, hm⟩ := h.all x hx
    obtain ⟨i, hi, e⟩ := mem_getD hc
    exact ⟨i, hi, e ▸ hm⟩
  nd := fun i hi => h.nodup _ (getD_mem hi)
  fit := hg.fit
  top := fun e he i j hi hj h1 h2 => by
    obtain ⟨⟨a1, a2⟩, a3, a4⟩ := hg.fit e he
    have hm : e.2.toNat ∈ suN ps e.1.toNat := (mem_suN hg).mpr (by rw [Int.toNat_of_nonneg a1, Int.toNat_of_nonneg a3]; exact he)
    rcases h.top _ _ _ (split_at hi) _ h1 _ hm with h3 | ⟨d, hd, h3⟩
    · have := pw_getD h.dis i j hi hj _ h3 h2
      omega
    · obtain ⟨k, hk, rfl⟩ := mem_getD hd
      rw [List.length_take] at hk
      have hk2 : (L.take i).getD k [] = L.getD k [] := by simp [List.getD_eq_getElem?_getD, show k < i by omega]
      rw [hk2] at h3
      have := pw_getD h.dis k j (by omega) hj _ h3 h2
      omega
/-- The components in the order of the chapter. -/
structure CC (N : Nat) (su : Nat → List Nat) (L : List (List Nat)) : Prop where
  all : ∀ x, x < N → ∃ i, i < L.length ∧ x ∈ L.getD i []
  lt : ∀ i, i < L.length → ∀ x ∈ L.getD i [], x < N
  scc : ∀ i, i < L.length → ∀ x ∈ L.getD i [], ∀ y, y ∈ L.getD i [] ↔ Rc su x y ∧ Rc su y x
  ne : ∀ i, i < L.length → L.getD i [] ≠ []
  asc : ∀ i, i < L.length → (L.getD i []).Pairwise (· < ·)
  dis : ∀ i j, i < L.length → j < L.length → ∀ x, x ∈ L.getD i [] → x ∈ L.getD j [] → i = j
  top : ∀ i, i < L.length → ∀ x ∈ L.getD i [], ∀ y ∈ su x, ∃ j, j ≤ i ∧ y ∈ L.getD j []
  least : ∀ i, i < L.length → ∀ v, v < N → (∀ j, j < i → v ∉ L.getD j []) → (∀ y, Rc su v y → Rc su y v ∨ ∃ j, j < i ∧ y ∈ L.getD j []) → hdL L i ≤ v
theorem srt_asc {l : List Nat} (h : (srt l).Nodup) : (srt l).Pairwise (· < ·) := by
  have h1 : (srt l).Pairwise fun a b => decide (a ≤ b) = true := by
    unfold srt
    exact List.pairwise_mergeSort (le := fun x y => decide (x ≤ y)) (fun a b c h1 h2 => by simp at h1 h2 ⊢; omega) (fun a b => by simp; omega) l
  have h2 : (srt l).Pairwise fun a b => a ≠ b := h
  exact (h1.and h2).imp fun {a b} h => by have := h.1; have := h.2; simp at *; omega
theorem Rc.lt {N : Nat} {su : Nat → List Nat} (hsu : ∀ x, ∀ y ∈ su x, y < N) {x y : Nat} (h : Rc su x y) (hx : x < N) : y < N := by
  cases h with
  | refl => exact hx
  | tail _ e => exact hsu _ _ e
theorem OrdOk.cc {N : Nat} {ps : List (Int × Int)} {L : List (List Nat)} {s : List Nat} (h : OrdOk N ps L s) (hg : GOk (N : Int) ps) (hc : Comps N (suN ps) L) (hs : Srt srt L) : CC N (suN ps) (s.map fun i => L.getD i []) := by
  have hl := hc.lok hg
  have hat : ∀ k, k < s.length → (s.map fun i => L.getD i []).getD k [] = L.getD (s.getD k 0) [] := fun k hk => by simp [List.getD_eq_getElem?_getD, hk]
  have hml : (s.map fun i => L.getD i []).length = s.length := List.length_map ..
  have hsm : ∀ k, k < s.length → s.getD k 0 < L.length := fun k hk => (h.mem _).mp (by rw [List.getD_eq_getElem?_getD, List.getElem?_eq_getElem hk]; exact List.getElem_mem _)
  have hpos : ∀ i, i < L.length → ∃ k, k < s.length ∧ s.getD k 0 = i := fun i hi => by
    obtain ⟨k, hk, e⟩ := List.getElem_of_mem ((h.mem i).mpr hi)
    exact ⟨k, hk, by rw [List.getD_eq_getElem?_getD, List.getElem?_eq_getElem hk]; exact e⟩
  have hinj : ∀ j k, j < s.length → k < s.length → s.getD j 0 = s.getD k 0 → j = k := fun j k hj hk e => by
    rw [List.getD_eq_getElem?_getD, List.getElem?_eq_getElem hj, List.getD_eq_getElem?_getD, List.getElem?_eq_getElem hk] at e
    have hn := h.nd
    unfold List.Nodup at hn
    rw [List.pairwise_iff_getElem] at hn
    rcases Nat.lt_trichotomy j k with h3 | h3 | h3
    · exact absurd e (hn j k hj hk h3)
    · exact h3
    · exact absurd e.symm (hn k j hk hj h3)
  have hsplit : ∀ k (hk : k < s.length), s = s.take k ++ s.getD k 0 :: s.drop (k + 1) := fun k hk => by
    rw [List.getD_eq_getElem?_getD, List.getElem?_eq_getElem hk]; simp
  have htk : ∀ k i, k < s.length → i ∈ s.take k → ∃ j, j < k ∧ s.getD j 0 = i := fun k i hk hi => by
    obtain ⟨j, hj, e⟩ := List.getElem_of_mem hi
    rw [List.length_take] at hj
    refine ⟨j, by omega, ?_⟩
    rw [← e, List.getD_eq_getElem?_getD, List.getElem?_eq_getElem (by omega)]
    simp
  have htk2 : ∀ k j, k < s.length → j < k → s.getD j 0 ∈ s.take k := fun k j hk hj => by
    rw [List.getD_eq_getElem?_getD, List.getElem?_eq_getElem (by omega)]
    exact List.mem_take_iff_getElem.mpr ⟨j, by omega, rfl⟩
  have hcx : ∀ x y : Nat, y ∈ suN ps x → cx N L (x : Int) ≠ cx N L (y : Int) → (cx N L (x : Int), cx N L (y : Int)) ∈ btw N L ps := fun x y hy hne => mem_btw.mpr ⟨_, (mem_suN hg).mp hy, rfl, rfl, hne⟩
  have hsuN := suN_lt hg
  refine ⟨fun x hx => ?_, fun k hk x hx => ?_, fun k hk x hx y => ?_, fun k hk => ?_, fun k hk => ?_, fun j k hj hk x h1 h2 => ?_, fun k hk x hx y hy => ?_, fun k hk v hv h1 h2 => ?_⟩
  · obtain ⟨i, hi, hm⟩ := hl.all x hx
    obtain ⟨k, hk, e⟩ := hpos i hi
    exact ⟨k, by rw [hml]; exact hk, by rw [hat k hk, e]; exact hm⟩
  · rw [hml] at hk
    rw [hat k hk] at hx
    exact hl.lt _ (hsm k hk) x hx
  · rw [hml] at hk
    rw [hat k hk] at hx ⊢
    exact hc.scc _ (getD_mem (hsm k hk)) x hx y
  · rw [hml] at hk
    rw [hat k hk]
    exact hl.ne _ (hsm k hk)
  · rw [hml] at hk
    rw [hat k hk]
    obtain ⟨l, e⟩ := hs _ (getD_mem (hsm k hk))
    have := hl.nd _ (hsm k hk)
    rw [e] at this ⊢
    exact srt_asc this
  · rw [hml] at hj hk
    rw [hat j hj] at h1
    rw [hat k hk] at h2
    exact hinj j k hj hk (hl.dis _ _ (hsm j hj) (hsm k hk) x h1 h2)
  · rw [hml] at hk
    rw [hat k hk] at hx
    have hi := hsm k hk
    have hxN := hl.lt _ hi x hx
    have hyN := hsuN x y hy
    obtain ⟨t1, t2, _⟩ := hl.at_ hyN
    have hxi := hl.cx_of hi hx
    by_cases e : cx N L (x : Int) = cx N L (y : Int)
    · exact ⟨k, Nat.le_refl _, by rw [hat k hk, ← hxi, e]; exact t2⟩
    · have hD := hcx x y hy e
      obtain ⟨hr, _⟩ := h.gr _ _ _ (hsplit k hk)
      have := outs_zero.mp hr.out _ hD hxi
      obtain ⟨j, hj, e2⟩ := htk k _ hk this
      exact ⟨j, Nat.le_of_lt hj, by rw [hat j (by omega), e2]; exact t2⟩
  · rw [hml] at hk
    obtain ⟨j1, j2, _⟩ := hl.at_ hv
    obtain ⟨_, hmin⟩ := h.gr _ _ _ (hsplit k hk)
    have hnew : cx N L (v : Int) ∉ s.take k := fun hm => by
      obtain ⟨j, hj, e⟩ := htk k _ hk hm
      exact h1 j hj (by rw [hat j (by omega), e]; exact j2)
    have hrd : Rdy (btw N L ps) L.length (s.take k) (cx N L (v : Int)) := ⟨j1, hnew, outs_zero.mpr fun e he h3 => by
      obtain ⟨p, hp, p1, p2, p3⟩ := mem_btw.mp he
      obtain ⟨⟨a1, a2⟩, a3, a4⟩ := hg.fit p hp
      obtain ⟨x, y⟩ := p
      simp only at p1 p2 a1 a2 a3 a4
      obtain ⟨x, rfl⟩ : ∃ m : Nat, x = (m : Int) := ⟨x.toNat, by omega⟩
      obtain ⟨y, rfl⟩ : ∃ m : Nat, y = (m : Int) := ⟨y.toNat, by omega⟩
      have hxN : x < N := by omega
      have hyN : y < N := by omega
      obtain ⟨x1, x2, _⟩ := hl.at_ hxN
      obtain ⟨y1, y2, _⟩ := hl.at_ hyN
      rw [p1, h3] at x2
      have hvx : Rc (suN ps) v x := ((hc.scc _ (getD_mem j1) v j2 x).mp x2).1
      have hvy : Rc (suN ps) v y := hvx.tail ((mem_suN hg).mpr hp)
      rcases h2 y hvy with h4 | ⟨j, hj, h4⟩
      · have hmy := (hc.scc _ (getD_mem j1) v j2 y).mpr ⟨hvy, h4⟩
        have := hl.cx_of j1 hmy
        exact absurd (by rw [← p2, this, h3]) p3
      · rw [hat j (by omega)] at h4
        have := hl.cx_of (hsm j (by omega)) h4
        rw [← p2, this]
        exact htk2 k j hk hj⟩
    have h5 := hmin _ hrd
    have h6 : hdL (s.map fun i => L.getD i []) k = hdL L (s.getD k 0) := by unfold hdL; rw [hat k hk]
    rw [h6]
    refine Nat.le_trans h5 ?_
    obtain ⟨l, e⟩ := hs _ (getD_mem j1)
    have hnd := hl.nd _ j1
    have hp : (L.getD (cx N L (v : Int)) []).Pairwise (· < ·) := by
      rw [e] at hnd ⊢
      exact srt_asc hnd
    unfold hdL
    revert j2 hp
    cases L.getD (cx N L (v : Int)) [] with
    | nil => intro j2; cases j2
    | cons a r =>
      intro j2 hp
      rcases List.mem_cons.mp j2 with e2 | e2
      · simp [e2]
      · have := (List.pairwise_cons.mp hp).1 v e2
        simp; omega
end Go.Proofs.Ytopbbihbpalnlaa
