/-
  The depth-first search of the components, in plain words, and that it finds them.
-/
import Derived.Test.YtopbbihbpalnlaaRows
namespace Go.Proofs.Ytopbbihbpalnlaa
set_option linter.unusedVariables false

/-- y is reached from x by the successors su. -/
inductive Rc (su : Nat → List Nat) (x : Nat) : Nat → Prop
  | refl : Rc su x x
  | tail {y z : Nat} (h : Rc su x y) (e : z ∈ su y) : Rc su x z
theorem Rc.trans {su : Nat → List Nat} {x y z : Nat} (h : Rc su x y) (k : Rc su y z) : Rc su x z := by
  induction k with
  | refl => exact h
  | tail _ e ih => exact ih.tail e
theorem Rc.edge {su : Nat → List Nat} {x y : Nat} (e : y ∈ su x) : Rc su x y := Rc.refl.tail e
structure St where
  cnt : Nat
  least : List Nat
  opn : List Nat
  lst : List (List Nat)
def lg (s : St) (x : Nat) : Nat := s.least.getD x 0
def setAll (c : Nat) (xs : List Nat) (l : List Nat) : List Nat := xs.foldl (fun l x => l.set x c) l
def childStep (visit : Nat → St → St) (v : Nat) (s : St) (w : Nat) : St :=
  let s1 := if lg s w = 0 then visit w s else s
  { s1 with least := s1.least.set v (min (lg s1 v) (lg s1 w)) }
def opened (s : St) (v : Nat) : St := ⟨s.cnt + 1, s.least.set v (s.cnt + 1), s.opn ++ [v], s.lst⟩
def popped (N : Nat) (srt : List Nat → List Nat) (k : Nat) (t : St) : St :=
  ⟨t.cnt, setAll (N + 1) (t.opn.drop k) t.least, t.opn.take k, t.lst ++ [srt (t.opn.drop k)]⟩
def sccV (N : Nat) (su : Nat → List Nat) (srt : List Nat → List Nat) : Nat → Nat → St → St
  | 0, _, s => s
  | b + 1, v, s =>
    if lg ((su v).foldl (childStep (sccV N su srt b) v) (opened s v)) v < s.cnt + 1 then (su v).foldl (childStep (sccV N su srt b) v) (opened s v)
    else popped N srt s.opn.length ((su v).foldl (childStep (sccV N su srt b) v) (opened s v))

theorem lg_set (s : St) (v c x : Nat) (hv : v < s.least.length) (cn : Nat) (o : List Nat) (l : List (List Nat)) : lg ⟨cn, s.least.set v c, o, l⟩ x = if x = v then c else lg s x := by
  show (s.least.set v c).getD x 0 = _
  unfold lg
  by_cases h : x = v
  · subst h
    rw [if_pos rfl, List.getD_eq_getElem?_getD, List.getElem?_set_self hv]
    rfl
  · rw [if_neg h, List.getD_eq_getElem?_getD, List.getElem?_set_ne (Ne.symm h), ← List.getD_eq_getElem?_getD]
theorem setAll_len (c : Nat) : ∀ (xs l : List Nat), (setAll c xs l).length = l.length
  | [], l => rfl
  | x :: r, l => by show (setAll c r (l.set x c)).length = _; rw [setAll_len c r]; simp
theorem setAll_at (c : Nat) : ∀ (xs l : List Nat) (y : Nat), (∀ x ∈ xs, x < l.length) → (setAll c xs l).getD y 0 = if y ∈ xs then c else l.getD y 0
  | [], l, y, _ => by rw [if_neg (by simp)]; rfl
  | x :: r, l, y, h => by
    show (setAll c r (l.set x c)).getD y 0 = _
    rw [setAll_at c r (l.set x c) y (fun z hz => by rw [List.length_set]; exact h z (by simp [hz]))]
    by_cases hr : y ∈ r
    · rw [if_pos hr, if_pos (by simp [hr])]
    · rw [if_neg hr]
      by_cases hx : y = x
      · subst hx
        rw [if_pos (by simp), List.getD_eq_getElem?_getD, List.getElem?_set_self (h y (by simp))]
        rfl
      · rw [if_neg (by simp [hx, hr]), List.getD_eq_getElem?_getD, List.getElem?_set_ne (Ne.symm hx), ← List.getD_eq_getElem?_getD]
/-- How many nodes were not visited yet. -/
def wh (N : Nat) (s : St) : Nat := (List.range N).countP fun x => lg s x == 0
theorem countP_le {p q : Nat → Bool} : ∀ (l : List Nat), (∀ x ∈ l, p x = true → q x = true) → l.countP p ≤ l.countP q
  | [], _ => Nat.le_refl _
  | x :: r, h => by
    have ih := countP_le r (fun y hy => h y (by simp [hy]))
    rw [List.countP_cons, List.countP_cons]
    have := h x (by simp)
    by_cases hp : p x = true
    · rw [if_pos hp, if_pos (this hp)]; omega
    · rw [if_neg hp]; split <;> omega
theorem countP_lt {p q : Nat → Bool} : ∀ (l : List Nat), (∀ x ∈ l, p x = true → q x = true) → (∃ v ∈ l, q v = true ∧ p v = false) → l.countP p + 1 ≤ l.countP q
  | [], _, ⟨v, hv, _⟩ => by cases hv
  | x :: r, h, ⟨v, hv, hq, hp⟩ => by
    rw [List.countP_cons, List.countP_cons]
    have hx := h x (by simp)
    have hle := countP_le r (fun y hy => h y (by simp [hy]))
    rcases List.mem_cons.mp hv with e | e
    · subst e
      rw [if_neg (by rw [hp]; decide), if_pos hq]; omega
    · have ih := countP_lt r (fun y hy => h y (by simp [hy])) ⟨v, e, hq, hp⟩
      by_cases hpx : p x = true
      · rw [if_pos hpx, if_pos (hx hpx)]; omega
      · rw [if_neg hpx]; split <;> omega
theorem wh_le {N : Nat} {s t : St} (h : ∀ x, lg s x ≠ 0 → lg t x ≠ 0) : wh N t ≤ wh N s :=
  countP_le _ fun x _ hx => by
    simp only [beq_iff_eq] at hx ⊢
    exact Classical.byContradiction fun hn => h x hn hx
theorem wh_lt {N : Nat} {s t : St} (h : ∀ x, lg s x ≠ 0 → lg t x ≠ 0) {v : Nat} (hv : v < N) (h0 : lg s v = 0) (h1 : lg t v ≠ 0) : wh N t + 1 ≤ wh N s :=
  countP_lt _ (fun x _ hx => by
    simp only [beq_iff_eq] at hx ⊢
    exact Classical.byContradiction fun hn => h x hn hx) ⟨v, by simpa using hv, by simpa using h0, by simpa using h1⟩

/-- The components found so far. -/
structure Cmp (N : Nat) (su : Nat → List Nat) (s : St) : Prop where
  iff : ∀ x, lg s x = N + 1 ↔ ∃ c ∈ s.lst, x ∈ c
  scc : ∀ c ∈ s.lst, ∀ x ∈ c, ∀ y, y ∈ c ↔ Rc su x y ∧ Rc su y x
  ne : ∀ c ∈ s.lst, c ≠ [] ∧ c.Nodup
  top : ∀ l1 c l2, s.lst = l1 ++ c :: l2 → ∀ x ∈ c, ∀ y ∈ su x, y ∈ c ∨ ∃ d ∈ l1, y ∈ d
  dis : s.lst.Pairwise fun c d => ∀ x ∈ c, x ∉ d
structure Inv (N : Nat) (su : Nat → List Nat) (num : Nat → Nat) (s : St) : Prop where
  len : s.least.length = N
  opn : ∀ x, x ∈ s.opn ↔ x < N ∧ 0 < lg s x ∧ lg s x ≠ N + 1
  nodup : s.opn.Nodup
  inc : s.opn.Pairwise fun x y => num x < num y
  low : ∀ x ∈ s.opn, lg s x ≤ num x ∧ num x ≤ s.cnt
  conn : s.opn.Pairwise fun x y => Rc su x y
  wit : ∀ x ∈ s.opn, ∃ z ∈ s.opn, num z = lg s x ∧ Rc su x z
  closed : ∀ x, lg s x = N + 1 → ∀ y ∈ su x, lg s y = N + 1
  cmp : Cmp N su s
  room : s.cnt + wh N s ≤ N
theorem Inv.out {N : Nat} {su : Nat → List Nat} {num : Nat → Nat} {s : St} (h : Inv N su num s) {x : Nat} (hx : lg s x ≠ 0) : x < N := by
  rcases Nat.lt_or_ge x N with k | k
  · exact k
  · exact absurd (by unfold lg; rw [List.getD_eq_getElem?_getD, List.getElem?_eq_none (by rw [h.len]; exact k)]; rfl) hx
/-- What a visit of v leaves. -/
structure Post (N : Nat) (su : Nat → List Nat) (num : Nat → Nat) (s : St) (v : Nat) (s' : St) (num' : Nat → Nat) (ext : List Nat) : Prop where
  inv : Inv N su num' s'
  opn : s'.opn = s.opn ++ ext
  old : ∀ x ∈ s.opn, num' x = num x ∧ lg s' x = lg s x
  seen : ∀ x, lg s x ≠ 0 → lg s' x ≠ 0
  vseen : lg s' v ≠ 0
  cnt : s.cnt ≤ s'.cnt
  fin : ∀ y ∈ ext, (∀ z ∈ su y, lg s' z ≠ 0) ∧ lg s' y < num' y ∧ lg s' v ≤ lg s' y ∧ s.cnt < num' y ∧ ∀ z ∈ su y, z ∈ s.opn → lg s' v ≤ lg s z
  nil : ext = [] → lg s' v = N + 1
  mem : ext ≠ [] → v ∈ ext
/-- While u's successors are looked at: those of pre have been. -/
structure Mid (N : Nat) (su : Nat → List Nat) (num : Nat → Nat) (s : St) (u : Nat) (pre : List Nat) (t : St) (num' : Nat → Nat) (ext : List Nat) : Prop where
  inv : Inv N su num' t
  opn : t.opn = s.opn ++ u :: ext
  old : ∀ x ∈ s.opn, num' x = num x ∧ lg t x = lg s x
  nu : num' u = s.cnt + 1
  seen : ∀ x, lg (opened s u) x ≠ 0 → lg t x ≠ 0
  cnt : s.cnt + 1 ≤ t.cnt
  fin : ∀ y ∈ ext, (∀ z ∈ su y, lg t z ≠ 0) ∧ lg t y < num' y ∧ lg t u ≤ lg t y ∧ s.cnt + 1 < num' y ∧ ∀ z ∈ su y, z ∈ s.opn → lg t u ≤ lg s z
  done : ∀ z ∈ pre, lg t z ≠ 0 ∧ (z ∈ s.opn → lg t u ≤ lg s z)

section
variable {N : Nat} {su : Nat → List Nat} {srt : List Nat → List Nat} {num : Nat → Nat} {s : St} {u : Nat}
theorem opened_lg (h : Inv N su num s) (hu : u < N) (x : Nat) : lg (opened s u) x = if x = u then s.cnt + 1 else lg s x := lg_set s u _ x (by rw [h.len]; exact hu) _ _ _
theorem opened_mid (h : Inv N su num s) (hu : u < N) (h0 : lg s u = 0) (hR : ∀ x ∈ s.opn, Rc su x u) : Mid N su num s u [] (opened s u) (fun x => if x = u then s.cnt + 1 else num x) [] := by
  have hlg := opened_lg h hu
  have hnot : u ∉ s.opn := fun hm => by have := ((h.opn u).mp hm).2.1; omega
  have hroom : (opened s u).cnt + wh N (opened s u) ≤ N := by
    have h1 : wh N (opened s u) + 1 ≤ wh N s := wh_lt (fun x hx => by rw [hlg]; split; omega; exact hx) hu h0 (by rw [hlg, if_pos rfl]; omega)
    have := h.room
    show s.cnt + 1 + _ ≤ N
    omega
  have hne : ∀ x ∈ s.opn, x ≠ u := fun x hx e => hnot (e ▸ hx)
  have hcN : s.cnt + 1 ≤ N := by have : (opened s u).cnt = s.cnt + 1 := rfl; omega
  have hopn : (opened s u).opn = s.opn ++ [u] := rfl
  refine ⟨⟨?_, ?_, ?_, ?_, ?_, ?_, ?_, ?_, ?_, hroom⟩, rfl, ?_, by simp, fun x hx => hx, Nat.le_refl _, (fun y hy => by cases hy), (fun z hz => by cases hz)⟩
  · show (s.least.set u _).length = N; rw [List.length_set]; exact h.len
  · intro x
    rw [hopn, List.mem_append, List.mem_singleton, hlg]
    by_cases e : x = u
    · rw [if_pos e, e]
      exact ⟨fun _ => ⟨hu, by omega, by omega⟩, fun _ => .inr rfl⟩
    · rw [if_neg e, ← h.opn x]
      exact ⟨fun hx => hx.elim id (fun h => absurd h e), .inl⟩
  · rw [hopn, List.nodup_append]
    exact ⟨h.nodup, by simp, fun a ha b hb e => by rw [List.mem_singleton] at hb; exact hnot (hb ▸ e ▸ ha)⟩
  · rw [hopn, List.pairwise_append]
    refine ⟨h.inc.imp_of_mem fun {a b} ha hb hab => ?_, by simp, fun a ha b hb => ?_⟩
    · rw [if_neg (hne a ha), if_neg (hne b hb)]; exact hab
    · rw [List.mem_singleton] at hb
      rw [if_neg (hne a ha), if_pos hb]
      have := (h.low a ha).2
      omega
  · intro x hx
    rw [hopn, List.mem_append, List.mem_singleton] at hx
    rw [hlg]
    show _ ∧ _ ≤ s.cnt + 1
    rcases hx with hx | hx
    · rw [if_neg (hne x hx), if_neg (hne x hx)]
      have := h.low x hx
      omega
    · rw [if_pos hx, if_pos hx]; omega
  · rw [hopn, List.pairwise_append]
    exact ⟨h.conn, by simp, fun a ha b hb => by rw [List.mem_singleton] at hb; rw [hb]; exact hR a ha⟩
  · intro x hx
    rw [hopn, List.mem_append, List.mem_singleton] at hx
    rcases hx with hx | hx
    · obtain ⟨z, hz, h1, h2⟩ := h.wit x hx
      exact ⟨z, by rw [hopn]; simp [hz], by rw [hlg, if_neg (hne x hx), if_neg (hne z hz)]; exact h1, h2⟩
    · exact ⟨u, by rw [hopn]; simp, by rw [hlg, if_pos hx, if_pos rfl], by rw [hx]; exact .refl⟩
  · intro x hx y hy
    rw [hlg] at hx ⊢
    by_cases e : x = u
    · rw [if_pos e] at hx; omega
    · rw [if_neg e] at hx
      have := h.closed x hx y hy
      by_cases e2 : y = u
      · rw [e2, h0] at this; omega
      · rw [if_neg e2]; exact this
  · refine ⟨fun x => ?_, h.cmp.scc, h.cmp.ne, h.cmp.top, h.cmp.dis⟩
    rw [hlg]
    by_cases e : x = u
    · rw [if_pos e]
      constructor
      · intro hx; omega
      · intro hx
        have := (h.cmp.iff x).mpr hx
        rw [e, h0] at this; omega
    · rw [if_neg e]; exact h.cmp.iff x
  · intro x hx
    rw [hlg, if_neg (hne x hx)]
    exact ⟨rfl, if_neg (hne x hx)⟩
/-- All that is open reaches u. -/
theorem Mid.reach {pre : List Nat} {t : St} {num' : Nat → Nat} {ext : List Nat} (m : Mid N su num s u pre t num' ext) (hR : ∀ x ∈ s.opn, Rc su x u) : ∀ x ∈ t.opn, Rc su x u := by
  intro x
  induction hn : num' x using Nat.strongRecOn generalizing x with
  | _ n ih =>
    intro hx
    have hx2 := hx
    rw [m.opn, List.mem_append, List.mem_cons] at hx
    rcases hx with hx | hx | hx
    · exact hR x hx
    · rw [hx]; exact .refl
    · obtain ⟨z, hz, h1, h2⟩ := m.inv.wit x hx2
      have hf := (m.fin x hx).2.1
      exact h2.trans (ih (num' z) (by omega) z rfl hz)
theorem min_pos {a b : Nat} (ha : a ≠ 0) (hb : b ≠ 0) : min a b ≠ 0 := by omega
/-- u's number falls to that of an open node that it reaches. -/
theorem Inv.lower {t : St} (h : Inv N su num t) (hu : u ∈ t.opn) {w : Nat} (hw : lg t w ≠ 0) (hR : Rc su u w) : Inv N su num { t with least := t.least.set u (min (lg t u) (lg t w)) } := by
  have huN := ((h.opn u).mp hu)
  have hlg : ∀ x, lg { t with least := t.least.set u (min (lg t u) (lg t w)) } x = if x = u then min (lg t u) (lg t w) else lg t x := fun x => lg_set t u _ x (by rw [h.len]; exact huN.1) _ _ _
  have hcN : t.cnt ≤ N := by have := h.room; omega
  have hlu := h.low u hu
  have hz : ∀ x, lg t x ≠ 0 → lg { t with least := t.least.set u (min (lg t u) (lg t w)) } x ≠ 0 := fun x hx => by
    rw [hlg]; split
    · exact min_pos (by omega) hw
    · exact hx
  refine ⟨by show (t.least.set u _).length = N; rw [List.length_set]; exact h.len, fun x => ?_, h.nodup, h.inc, fun x hx => ?_, h.conn, fun x hx => ?_, fun x hx y hy => ?_, ⟨fun x => ?_, h.cmp.scc, h.cmp.ne, h.cmp.top, h.cmp.dis⟩, ?_⟩
  · show x ∈ t.opn ↔ _
    rw [hlg, h.opn x]
    by_cases e : x = u
    · rw [if_pos e, e]
      have := min_pos (show lg t u ≠ 0 by omega) hw
      exact ⟨fun _ => ⟨huN.1, by omega, by omega⟩, fun _ => huN⟩
    · rw [if_neg e]
  · rw [hlg]
    have := h.low x hx
    show _ ∧ _ ≤ t.cnt
    split
    · rename_i e; subst e; omega
    · exact this
  · obtain ⟨z, hz1, hz2, hz3⟩ := h.wit x hx
    rw [hlg]
    by_cases e : x = u
    · rw [if_pos e]
      rcases Nat.lt_or_ge (lg t w) (lg t u) with k | k
      · have hwo : w ∈ t.opn := (h.opn w).mpr ⟨h.out hw, by omega, by omega⟩
        obtain ⟨y, hy1, hy2, hy3⟩ := h.wit w hwo
        exact ⟨y, hy1, by rw [hy2]; omega, by rw [e]; exact hR.trans hy3⟩
      · subst e
        exact ⟨z, hz1, by rw [hz2]; omega, hz3⟩
    · rw [if_neg e]; exact ⟨z, hz1, hz2, hz3⟩
  · rw [hlg] at hx ⊢
    by_cases e : x = u
    · rw [if_pos e] at hx; omega
    · rw [if_neg e] at hx
      have := h.closed x hx y hy
      by_cases e2 : y = u
      · rw [e2] at this; omega
      · rw [if_neg e2]; exact this
  · rw [hlg]
    by_cases e : x = u
    · rw [if_pos e]
      constructor
      · intro hx; omega
      · intro hx
        have := (h.cmp.iff x).mpr hx
        rw [e] at this; omega
    · rw [if_neg e]; exact h.cmp.iff x
  · have := wh_le (N := N) hz
    have := h.room
    show t.cnt + _ ≤ N
    omega
/-- One successor more. -/
theorem Mid.step {pre : List Nat} {t : St} {num' : Nat → Nat} {ext : List Nat} {w : Nat} (m : Mid N su num s u pre t num' ext) (hw : w ∈ su u) (hwN : w < N) (hR : ∀ x ∈ s.opn, Rc su x u) (visit : Nat → St → St)
    (hv : lg t w = 0 → ∃ num2 ext2, Post N su num' t w (visit w t) num2 ext2) : ∃ num2 ext2, Mid N su num s u (pre ++ [w]) (childStep visit u t w) num2 (ext ++ ext2) := by
  have huo : u ∈ t.opn := by rw [m.opn]; simp
  have hsub : ∀ x ∈ s.opn, x ∈ t.opn := fun x hx => by rw [m.opn]; simp [hx]
  have hext : ∀ x ∈ ext, x ∈ t.opn := fun x hx => by rw [m.opn]; simp [hx]
  have hnd := m.inv.nodup
  rw [m.opn, List.nodup_append, List.nodup_cons] at hnd
  have hsu : ∀ x ∈ s.opn, x ≠ u := fun x hx e => hnd.2.2 x hx u (by simp) e
  have hxu : ∀ x ∈ ext, x ≠ u := fun x hx e => hnd.2.1.1 (e ▸ hx)
  by_cases h0 : lg t w = 0
  · obtain ⟨num2, ext2, p⟩ := hv h0
    refine ⟨num2, ext2, ?_⟩
    unfold childStep
    rw [if_pos h0]
    show Mid N su num s u (pre ++ [w]) { visit w t with least := (visit w t).least.set u (min (lg (visit w t) u) (lg (visit w t) w)) } num2 (ext ++ ext2)
    obtain ⟨t2, ht2⟩ : ∃ t2, visit w t = t2 := ⟨_, rfl⟩
    rw [ht2] at p ⊢
    have hu2 := p.old u huo
    have huo2 : u ∈ t2.opn := by rw [p.opn]; simp [huo]
    have hlow := p.inv.lower huo2 p.vseen (.edge hw)
    have hlg : ∀ x, lg { t2 with least := t2.least.set u (min (lg t2 u) (lg t2 w)) } x = if x = u then min (lg t2 u) (lg t2 w) else lg t2 x := fun x => lg_set t2 u _ x (by rw [p.inv.len]; exact ((p.inv.opn u).mp huo2).1) _ _ _
    have hlu : lg { t2 with least := t2.least.set u (min (lg t2 u) (lg t2 w)) } u = min (lg t2 u) (lg t2 w) := by rw [hlg, if_pos rfl]
    have hnz : ∀ x, lg t2 x ≠ 0 → lg { t2 with least := t2.least.set u (min (lg t2 u) (lg t2 w)) } x ≠ 0 := fun x hx => by
      rw [hlg]; split
      · exact min_pos (by rw [hu2.2]; have := ((m.inv.opn u).mp huo).2.1; omega) p.vseen
      · exact hx
    have hx2u : ∀ y ∈ ext2, y ≠ u := fun y hy e => by
      have h1 := (p.fin y hy).2.2.2.1
      have h2 := hu2.1
      have h3 := (m.inv.low u huo).2
      rw [e] at h1
      omega
    refine ⟨hlow, ?_, fun x hx => ?_, ?_, fun x hx => hnz x (p.seen x (m.seen x hx)), Nat.le_trans m.cnt p.cnt, fun y hy => ?_, fun z hz => ?_⟩
    · show t2.opn = _
      rw [p.opn, m.opn]
      simp
    · have h1 := m.old x hx
      have h2 := p.old x (hsub x hx)
      rw [hlg, if_neg (hsu x hx), h2.1, h2.2]
      exact h1
    · rw [hu2.1]; exact m.nu
    · rw [hlu]
      rcases List.mem_append.mp hy with hy | hy
      · obtain ⟨f1, f2, f3, f4, f5⟩ := m.fin y hy
        have h2 := p.old y (hext y hy)
        rw [hlg, if_neg (hxu y hy), h2.1, h2.2]
        refine ⟨fun z hz => hnz z (p.seen z (f1 z hz)), f2, by omega, f4, fun z hz hzs => ?_⟩
        have := f5 z hz hzs
        omega
      · obtain ⟨f1, f2, f3, f4, f5⟩ := p.fin y hy
        rw [hlg, if_neg (hx2u y hy)]
        refine ⟨fun z hz => hnz z (f1 z hz), f2, by omega, by have := m.cnt; omega, fun z hz hzs => ?_⟩
        have := f5 z hz (hsub z hzs)
        rw [(m.old z hzs).2] at this
        omega
    · rw [hlu]
      rcases List.mem_append.mp hz with hz | hz
      · have h1 := m.done z hz
        exact ⟨hnz z (p.seen z h1.1), fun hzs => by have := h1.2 hzs; omega⟩
      · rw [List.mem_singleton] at hz
        subst hz
        refine ⟨hnz z p.vseen, fun hzs => ?_⟩
        exact absurd h0 (by have := ((m.inv.opn z).mp (hsub z hzs)).2.1; omega)
  · refine ⟨num', [], ?_⟩
    unfold childStep
    rw [if_neg h0]
    show Mid N su num s u (pre ++ [w]) { t with least := t.least.set u (min (lg t u) (lg t w)) } num' (ext ++ [])
    rw [List.append_nil]
    have hlow := m.inv.lower huo h0 (.edge hw)
    have hlg : ∀ x, lg { t with least := t.least.set u (min (lg t u) (lg t w)) } x = if x = u then min (lg t u) (lg t w) else lg t x := fun x => lg_set t u _ x (by rw [m.inv.len]; exact ((m.inv.opn u).mp huo).1) _ _ _
    have hlu : lg { t with least := t.least.set u (min (lg t u) (lg t w)) } u = min (lg t u) (lg t w) := by rw [hlg, if_pos rfl]
    have hnz : ∀ x, lg t x ≠ 0 → lg { t with least := t.least.set u (min (lg t u) (lg t w)) } x ≠ 0 := fun x hx => by
      rw [hlg]; split
      · exact min_pos (by have := ((m.inv.opn u).mp huo).2.1; omega) h0
      · exact hx
    refine ⟨hlow, m.opn, fun x hx => ?_, m.nu, fun x hx => hnz x (m.seen x hx), m.cnt, fun y hy => ?_, fun z hz => ?_⟩
    · rw [hlg, if_neg (hsu x hx)]; exact m.old x hx
    · obtain ⟨f1, f2, f3, f4, f5⟩ := m.fin y hy
      rw [hlu, hlg, if_neg (hxu y hy)]
      exact ⟨fun z hz => hnz z (f1 z hz), f2, by omega, f4, fun z hz hzs => by have := f5 z hz hzs; omega⟩
    · rw [hlu]
      rcases List.mem_append.mp hz with hz | hz
      · have h1 := m.done z hz
        exact ⟨hnz z h1.1, fun hzs => by have := h1.2 hzs; omega⟩
      · rw [List.mem_singleton] at hz
        subst hz
        refine ⟨hnz z h0, fun hzs => ?_⟩
        have := (m.old z hzs).2
        omega
end
end Go.Proofs.Ytopbbihbpalnlaa
