/-
  Plain mathematics of worklists: Check, the order of items, where an item is inserted, what Push returns.
-/
namespace Go.Proofs.Ytpegkmancaoeiaa

/-- Items are below this. -/
def lim (rs : List Int) : Int := if 0 < rs.length then rs.length else 65536
/-- May x be an item? -/
def isI (rs : List Int) (x : Int) : Bool := decide (0 ≤ x) && decide (x < lim rs)
theorem isI_iff {rs : List Int} {x : Int} : isI rs x = true ↔ 0 ≤ x ∧ x < lim rs := by simp [isI]
theorem isI_not {rs : List Int} {x : Int} : isI rs x = false ↔ x < 0 ∨ lim rs ≤ x := by
  rw [← Bool.not_eq_true, isI_iff]; omega
theorem lim_rank {rs : List Int} (h : 0 < rs.length) : lim rs = rs.length := by simp [lim, h]
theorem lim_none {rs : List Int} (h : ¬ 0 < rs.length) : lim rs = 65536 := by simp only [lim, if_neg h]
theorem lim_le {rs : List Int} (h : rs.length ≤ 8192) : lim rs ≤ 65536 := by unfold lim; split <;> omega

/-- Does x come before y? -/
def prec (rs : List Int) (x y : Int) : Bool :=
  decide (rs.getD x.toNat 0 < rs.getD y.toNat 0) || (decide (rs.getD x.toNat 0 = rs.getD y.toNat 0) && decide (x < y))
theorem prec_iff {rs : List Int} {x y : Int} : prec rs x y = true ↔ rs.getD x.toNat 0 < rs.getD y.toNat 0 ∨ rs.getD x.toNat 0 = rs.getD y.toNat 0 ∧ x < y := by simp [prec]
theorem prec_not {rs : List Int} {x y : Int} : prec rs x y = false ↔ rs.getD y.toNat 0 < rs.getD x.toNat 0 ∨ rs.getD x.toNat 0 = rs.getD y.toNat 0 ∧ y ≤ x := by
  rw [← Bool.not_eq_true, prec_iff]; omega
theorem prec_lt {rs : List Int} {x y p q : Int} (hp : rs.getD x.toNat 0 = p) (hq : rs.getD y.toNat 0 = q) (h : p < q) : prec rs x y = true := by rw [prec_iff]; omega
theorem prec_gt {rs : List Int} {x y p q : Int} (hp : rs.getD x.toNat 0 = p) (hq : rs.getD y.toNat 0 = q) (h : q < p) : prec rs x y = false := by rw [prec_not]; omega
theorem prec_eq {rs : List Int} {x y p q : Int} (hp : rs.getD x.toNat 0 = p) (hq : rs.getD y.toNat 0 = q) (h : p = q) : prec rs x y = decide (x < y) := by
  rw [Bool.eq_iff_iff, prec_iff, decide_eq_true_eq]; omega
theorem prec_asymm {rs : List Int} {x y : Int} (h : prec rs x y = true) : prec rs y x = false := by
  rw [prec_iff] at h; rw [prec_not]; omega
theorem prec_total {rs : List Int} {x y : Int} (hne : x ≠ y) (h : prec rs x y = false) : prec rs y x = true := by
  rw [prec_not] at h; rw [prec_iff]; omega
theorem prec_trans {rs : List Int} {x y z : Int} (h : prec rs x y = true) (k : prec rs y z = true) : prec rs x z = true := by
  rw [prec_iff] at *; omega
theorem prec_irrefl (rs : List Int) (x : Int) : prec rs x x = false := by rw [prec_not]; omega

/-- The code that Check finds from the item k on. -/
def qchkN (rs zs : List Int) : Nat → Nat → Int
  | 0, _ => 0
  | n + 1, k =>
    if isI rs (zs.getD k 0) = false then 4
    else if zs.getD k 0 ∈ zs.take k then 7
    else if 0 < rs.length ∧ 0 < k ∧ prec rs (zs.getD k 0) (zs.getD (k - 1) 0) = true then 13
    else qchkN rs zs n (k + 1)
/-- Check. -/
def qchk (rs zs : List Int) : Int := if 8192 < rs.length ∨ 8192 < zs.length then 3 else qchkN rs zs zs.length 0

section
variable {rs zs : List Int} {k : Nat} {x r : Int}
theorem qchk_big (h : 8192 < rs.length ∨ 8192 < zs.length) : qchk rs zs = 3 := by unfold qchk; rw [if_pos h]
theorem qchk_start (h1 : rs.length ≤ 8192) (h2 : zs.length ≤ 8192) : qchk rs zs = qchkN rs zs (zs.length - 0) 0 := by unfold qchk; rw [if_neg (by omega)]; rfl
theorem qchk_end (hr : r = qchkN rs zs (zs.length - k) k) (h : ¬ k < zs.length) : r = 0 := by
  rw [hr, show zs.length - k = 0 from by omega]; rfl
theorem qchk_unf (hr : r = qchkN rs zs (zs.length - k) k) (h : k < zs.length) (hx : zs.getD k 0 = x) :
    r = if isI rs x = false then 4 else if x ∈ zs.take k then 7 else if 0 < rs.length ∧ 0 < k ∧ prec rs x (zs.getD (k - 1) 0) = true then 13 else qchkN rs zs (zs.length - (k + 1)) (k + 1) := by
  rw [hr, show zs.length - k = (zs.length - (k + 1)) + 1 from by omega, qchkN, hx]
theorem qchk_rng (hr : r = qchkN rs zs (zs.length - k) k) (h : k < zs.length) (hx : zs.getD k 0 = x) (h1 : isI rs x = false) : r = 4 := by
  rw [qchk_unf hr h hx, if_pos h1]
theorem qchk_dup (hr : r = qchkN rs zs (zs.length - k) k) (h : k < zs.length) (hx : zs.getD k 0 = x) (h1 : isI rs x = true) (h2 : x ∈ zs.take k) : r = 7 := by
  rw [qchk_unf hr h hx, if_neg (by simp [h1]), if_pos h2]
theorem qchk_ord (hr : r = qchkN rs zs (zs.length - k) k) (h : k < zs.length) (hx : zs.getD k 0 = x) (h1 : isI rs x = true) (h2 : ¬ x ∈ zs.take k)
    (h3 : 0 < rs.length) (h4 : 0 < k) (h5 : prec rs x (zs.getD (k - 1) 0) = true) : r = 13 := by
  rw [qchk_unf hr h hx, if_neg (by simp [h1]), if_neg h2, if_pos ⟨h3, h4, h5⟩]
theorem qchk_next (hr : r = qchkN rs zs (zs.length - k) k) (h : k < zs.length) (hx : zs.getD k 0 = x) (h1 : isI rs x = true) (h2 : ¬ x ∈ zs.take k)
    (h3 : ¬ (0 < rs.length ∧ 0 < k ∧ prec rs x (zs.getD (k - 1) 0) = true)) : r = qchkN rs zs (zs.length - (k + 1)) (k + 1) := by
  rw [qchk_unf hr h hx, if_neg (by simp [h1]), if_neg h2, if_neg h3]
end

theorem mem_take_succ {zs : List Int} {k : Nat} (h : k < zs.length) (y : Int) : y ∈ zs.take (k + 1) ↔ y ∈ zs.take k ∨ y = zs.getD k 0 := by
  rw [List.take_succ_eq_append_getElem h, List.mem_append, List.mem_singleton]
  simp [List.getD, h]

/-- A valid worklist. -/
structure QV (rs zs : List Int) : Prop where
  rl : rs.length ≤ 8192
  zl : zs.length ≤ 8192
  rng : ∀ x ∈ zs, isI rs x = true
  nd : zs.Nodup
  ord : 0 < rs.length → zs.Pairwise fun a b => prec rs a b = true

theorem take_add_one_eq {zs : List Int} {k : Nat} (h : k < zs.length) : zs.take (k + 1) = zs.take k ++ [zs.getD k 0] := by
  rw [List.take_succ_eq_append_getElem h]; simp [List.getD, h]

theorem pairwise_snoc {R : Int → Int → Prop} (tr : ∀ a b c, R a b → R b c → R a c) {l : List Int} {x : Int} (h : l.Pairwise R) (hx : 0 < l.length → R (l.getD (l.length - 1) 0) x) : (l ++ [x]).Pairwise R := by
  rw [List.pairwise_append]
  refine ⟨h, by simp, fun a ha b hb => ?_⟩
  simp at hb; subst hb
  obtain ⟨i, hi, rfl⟩ := List.mem_iff_getElem.1 ha
  have h0 := hx (by omega)
  by_cases e : i = l.length - 1
  · subst e; simpa [List.getD, hi] using h0
  · have := (List.pairwise_iff_getElem.1 h) i (l.length - 1) hi (by omega) (by omega)
    refine tr _ _ _ this ?_
    have hlt : l.length - 1 < l.length := by omega
    simpa [List.getD, hlt] using h0

theorem qchkN_iff (rs zs : List Int) : ∀ n k, k + n = zs.length → (∀ x ∈ zs.take k, isI rs x = true) → (zs.take k).Nodup → (0 < rs.length → (zs.take k).Pairwise fun a b => prec rs a b = true) →
    (qchkN rs zs n k = 0 ↔ (∀ x ∈ zs, isI rs x = true) ∧ zs.Nodup ∧ (0 < rs.length → zs.Pairwise fun a b => prec rs a b = true))
  | 0, k, hk, h1, h2, h3 => by
    have : zs.take k = zs := List.take_of_length_le (by omega)
    rw [this] at h1 h2 h3
    simp [qchkN]
    exact ⟨fun x hx => h1 x hx, h2, h3⟩
  | n + 1, k, hk, h1, h2, h3 => by
    have hlt : k < zs.length := by omega
    have hmem : zs.getD k 0 ∈ zs := by rw [List.getD_eq_getElem?_getD, List.getElem?_eq_getElem hlt]; exact List.getElem_mem hlt
    have hts := take_add_one_eq hlt
    unfold qchkN
    by_cases c1 : isI rs (zs.getD k 0) = false
    · rw [if_pos c1]
      constructor
      · intro h; omega
      · intro ⟨h, _⟩; have := h _ hmem; rw [c1] at this; cases this
    · rw [if_neg c1]
      by_cases c2 : zs.getD k 0 ∈ zs.take k
      · rw [if_pos c2]
        constructor
        · intro h; omega
        · intro ⟨_, h, _⟩
          exfalso
          have hd : zs = zs.take (k + 1) ++ zs.drop (k + 1) := (List.take_append_drop _ _).symm
          rw [hd, List.nodup_append] at h
          have h' := h.1
          rw [hts, List.nodup_append] at h'
          exact h'.2.2 _ c2 _ (by simp) rfl
      · rw [if_neg c2]
        by_cases c3 : 0 < rs.length ∧ 0 < k ∧ prec rs (zs.getD k 0) (zs.getD (k - 1) 0) = true
        · rw [if_pos c3]
          constructor
          · intro h; omega
          · intro ⟨_, _, h⟩
            exfalso
            have hp := (List.pairwise_iff_getElem.1 (h c3.1)) (k - 1) k (by omega) hlt (by omega)
            have hlt2 : k - 1 < zs.length := by omega
            have e1 : zs.getD (k - 1) 0 = zs[k - 1] := by simp [List.getD, hlt2]
            have e2 : zs.getD k 0 = zs[k] := by simp [List.getD, hlt]
            rw [← e1, ← e2] at hp
            have := prec_asymm hp
            rw [c3.2.2] at this; cases this
        · rw [if_neg c3]
          refine qchkN_iff rs zs n (k + 1) (by omega) ?_ ?_ ?_
          · intro x hx
            rw [mem_take_succ hlt] at hx
            rcases hx with hx | rfl
            · exact h1 x hx
            · simpa using c1
          · rw [hts, List.nodup_append]
            refine ⟨h2, by simp, fun a ha b hb => ?_⟩
            simp at hb; subst hb
            rintro rfl; exact c2 ha
          · intro hr
            rw [hts]
            refine pairwise_snoc (R := fun a b => prec rs a b = true) (fun a b c => prec_trans) (h3 hr) fun hl => ?_
            have hlen : (zs.take k).length = k := by rw [List.length_take]; omega
            rw [hlen] at hl ⊢
            have hlt2 : k - 1 < zs.length := by omega
            have e : (zs.take k).getD (k - 1) 0 = zs.getD (k - 1) 0 := by
              rw [List.getD_eq_getElem?_getD, List.getD_eq_getElem?_getD, List.getElem?_take, if_pos (by omega)]
            rw [e]
            have hne : zs.getD k 0 ≠ zs.getD (k - 1) 0 := by
              intro e2
              apply c2
              rw [e2, List.getD_eq_getElem?_getD, List.getElem?_eq_getElem hlt2]
              exact List.mem_iff_getElem.2 ⟨k - 1, by omega, by simp⟩
            refine prec_total hne ?_
            cases hp : prec rs (zs.getD k 0) (zs.getD (k - 1) 0) with
            | false => rfl
            | true => exact absurd ⟨hr, hl, hp⟩ c3

theorem qchk_iff (rs zs : List Int) : qchk rs zs = 0 ↔ QV rs zs := by
  unfold qchk
  by_cases h : 8192 < rs.length ∨ 8192 < zs.length
  · rw [if_pos h]
    exact ⟨fun h => by omega, fun h' => by have := h'.rl; have := h'.zl; omega⟩
  · rw [if_neg h, qchkN_iff rs zs zs.length 0 (by omega) (by simp) (by simp) (by simp)]
    exact ⟨fun ⟨a, b, c⟩ => ⟨by omega, by omega, a, b, c⟩, fun h => ⟨h.rng, h.nd, h.ord⟩⟩

/-- Where x is inserted. -/
def pl (rs zs : List Int) (x : Int) : Nat := if 0 < rs.length then (zs.takeWhile fun y => prec rs y x).length else zs.length
/-- The items with x. -/
def ins (rs zs : List Int) (x : Int) : List Int := zs.take (pl rs zs x) ++ x :: zs.drop (pl rs zs x)
theorem pl_le (rs zs : List Int) (x : Int) : pl rs zs x ≤ zs.length := by
  unfold pl; split
  · exact (List.takeWhile_sublist _).length_le
  · omega
theorem length_ins (rs zs : List Int) (x : Int) : (ins rs zs x).length = zs.length + 1 := by
  have := pl_le rs zs x
  unfold ins
  rw [List.length_append, List.length_cons, List.length_take, List.length_drop]; omega
theorem mem_ins {rs zs : List Int} {x y : Int} : y ∈ ins rs zs x ↔ y = x ∨ y ∈ zs := by
  unfold ins
  rw [List.mem_append, List.mem_cons]
  conv => rhs; rw [← List.take_append_drop (pl rs zs x) zs, List.mem_append]
  exact ⟨fun h => by rcases h with h | h | h <;> simp [h], fun h => by rcases h with h | h | h <;> simp [h]⟩
theorem takeWhile_eq_take (p : Int → Bool) (l : List Int) : l.take (l.takeWhile p).length = l.takeWhile p := by
  induction l with
  | nil => rfl
  | cons a l ih => by_cases h : p a = true <;> simp [h, ih]
theorem dropWhile_eq_drop (p : Int → Bool) (l : List Int) : l.drop (l.takeWhile p).length = l.dropWhile p := by
  induction l with
  | nil => rfl
  | cons a l ih => by_cases h : p a = true <;> simp [h, ih]
/-- Up to where x is inserted all come before x, and behind it none. -/
theorem pl_spec {rs zs : List Int} {x : Int} (hv : QV rs zs) (hx : ¬ x ∈ zs) (hr : 0 < rs.length) :
    ∀ i (hi : i < zs.length), (prec rs x zs[i] = true ↔ pl rs zs x ≤ i) ∧ (prec rs zs[i] x = true ↔ i < pl rs zs x) := by
  have key : ∀ i (hi : i < zs.length), prec rs zs[i] x = true ↔ i < pl rs zs x := by
    intro i hi
    have hpl : pl rs zs x = (zs.takeWhile fun y => prec rs y x).length := by unfold pl; rw [if_pos hr]
    constructor
    · intro h
      rcases Nat.lt_or_ge i (pl rs zs x) with c | c
      · exact c
      · exfalso
        rw [hpl] at c
        have hlt : (zs.takeWhile fun y => prec rs y x).length < zs.length := by omega
        have hd := dropWhile_eq_drop (fun y => prec rs y x) zs
        have h0 : prec rs (zs[(zs.takeWhile fun y => prec rs y x).length]) x = false := by
          have hc := List.drop_eq_getElem_cons hlt
          rw [hd] at hc
          have := List.head?_dropWhile_not (fun y => prec rs y x) zs
          rw [hc] at this
          simpa only [List.head?_cons] using this
        by_cases e : i = (zs.takeWhile fun y => prec rs y x).length
        · subst e; rw [h0] at h; cases h
        · have := (List.pairwise_iff_getElem.1 (hv.ord hr)) _ i hlt hi (by omega)
          rw [prec_trans this h] at h0; cases h0
    · intro h
      rw [hpl] at h
      have e : (zs.takeWhile fun y => prec rs y x)[i] = zs[i] := by
        have h2 : (zs.takeWhile fun y => prec rs y x)[i]? = zs[i]? := by
          rw [← takeWhile_eq_take (fun y => prec rs y x) zs, List.getElem?_take, if_pos h]
        rw [List.getElem?_eq_getElem h, List.getElem?_eq_getElem hi] at h2
        exact Option.some.inj h2
      rw [← e]
      exact (List.all_eq_true.1 (List.all_takeWhile (p := fun y => prec rs y x) (l := zs))) _ (List.getElem_mem h)
  intro i hi
  refine ⟨?_, key i hi⟩
  have hne : zs[i] ≠ x := by rintro rfl; exact hx (List.getElem_mem hi)
  constructor
  · intro h
    rcases Nat.lt_or_ge i (pl rs zs x) with c | c
    · have := (key i hi).2 c
      rw [prec_asymm h] at this; cases this
    · exact c
  · intro h
    cases hp : prec rs x zs[i] with
    | true => rfl
    | false => have := (key i hi).1 (prec_total hne.symm hp); omega

theorem QV.ins {rs zs : List Int} {x : Int} (hv : QV rs zs) (hi : isI rs x = true) (hx : ¬ x ∈ zs) (hl : zs.length < 8192) : QV rs (ins rs zs x) := by
  refine ⟨hv.rl, by rw [length_ins]; omega, fun y hy => ?_, ?_, fun hr => ?_⟩
  · rcases mem_ins.1 hy with rfl | h
    · exact hi
    · exact hv.rng y h
  · unfold Proofs.Ytpegkmancaoeiaa.ins
    have hd := hv.nd
    rw [← List.take_append_drop (pl rs zs x) zs, List.nodup_append] at hd
    have hx' : ¬ x ∈ zs.take (pl rs zs x) ∧ ¬ x ∈ zs.drop (pl rs zs x) := ⟨fun h => hx (List.mem_of_mem_take h), fun h => hx (List.mem_of_mem_drop h)⟩
    rw [List.nodup_append, List.nodup_cons]
    refine ⟨hd.1, ⟨hx'.2, hd.2.1⟩, fun a ha b hb => ?_⟩
    rcases List.mem_cons.1 hb with rfl | hb
    · rintro rfl; exact hx'.1 ha
    · exact hd.2.2 a ha b hb
  · unfold Proofs.Ytpegkmancaoeiaa.ins
    have ho := hv.ord hr
    rw [← List.take_append_drop (pl rs zs x) zs, List.pairwise_append] at ho
    have hs := pl_spec hv hx hr
    have hle := pl_le rs zs x
    rw [List.pairwise_append, List.pairwise_cons]
    have hbehind : ∀ b ∈ zs.drop (pl rs zs x), prec rs x b = true := by
      intro b hb
      obtain ⟨j, hj, rfl⟩ := List.mem_iff_getElem.1 hb
      rw [List.length_drop] at hj
      rw [List.getElem_drop]
      exact (hs _ (by omega)).1.2 (by omega)
    refine ⟨ho.1, ⟨hbehind, ho.2.1⟩, fun a ha b hb => ?_⟩
    rcases List.mem_cons.1 hb with rfl | hb
    · obtain ⟨j, hj, rfl⟩ := List.mem_iff_getElem.1 ha
      rw [List.length_take] at hj
      rw [List.getElem_take]
      exact (hs j (by omega)).2.2 (by omega)
    · exact ho.2.2 a ha b hb

/-- What Push returns: the code, the rank and the items. -/
def pushE (rs zs : List Int) (x : Int) : Int := if qchk rs zs ≠ 0 then qchk rs zs else if isI rs x = false then 4 else if x ∈ zs then 0 else if 8192 ≤ zs.length then 3 else 0
def pushR (rs zs : List Int) (x : Int) : List Int := if pushE rs zs x = 0 then rs else []
def pushZ (rs zs : List Int) (x : Int) : List Int := if pushE rs zs x = 0 then (if x ∈ zs then zs else ins rs zs x) else []
section
variable {rs zs : List Int} {x : Int}
theorem pushE_bad (h : ¬ qchk rs zs = 0) : pushE rs zs x = qchk rs zs := by unfold pushE; rw [if_pos h]
theorem pushE_rng (h : qchk rs zs = 0) (h1 : isI rs x = false) : pushE rs zs x = 4 := by unfold pushE; rw [if_neg (by simpa using h), if_pos h1]
theorem pushE_in (h : qchk rs zs = 0) (h1 : isI rs x = true) (h2 : x ∈ zs) : pushE rs zs x = 0 := by unfold pushE; rw [if_neg (by simpa using h), if_neg (by simp [h1]), if_pos h2]
theorem pushE_full (h : qchk rs zs = 0) (h1 : isI rs x = true) (h2 : ¬ x ∈ zs) (h3 : 8192 ≤ zs.length) : pushE rs zs x = 3 := by
  unfold pushE; rw [if_neg (by simpa using h), if_neg (by simp [h1]), if_neg h2, if_pos h3]
theorem pushE_ok (h : qchk rs zs = 0) (h1 : isI rs x = true) (h2 : ¬ x ∈ zs) (h3 : ¬ 8192 ≤ zs.length) : pushE rs zs x = 0 := by
  unfold pushE; rw [if_neg (by simpa using h), if_neg (by simp [h1]), if_neg h2, if_neg h3]
theorem pushR_no (h : ¬ pushE rs zs x = 0) : pushR rs zs x = [] := by unfold pushR; rw [if_neg h]
theorem pushZ_no (h : ¬ pushE rs zs x = 0) : pushZ rs zs x = [] := by unfold pushZ; rw [if_neg h]
theorem pushR_ok (h : pushE rs zs x = 0) : pushR rs zs x = rs := by unfold pushR; rw [if_pos h]
theorem pushZ_in (h : pushE rs zs x = 0) (h2 : x ∈ zs) : pushZ rs zs x = zs := by unfold pushZ; rw [if_pos h, if_pos h2]
theorem pushZ_ins (h : pushE rs zs x = 0) (h2 : ¬ x ∈ zs) : pushZ rs zs x = ins rs zs x := by unfold pushZ; rw [if_pos h, if_neg h2]
theorem pushE_zero (h : pushE rs zs x = 0) : QV rs zs ∧ isI rs x = true ∧ (x ∈ zs ∨ zs.length < 8192) := by
  by_cases c : qchk rs zs = 0
  · refine ⟨(qchk_iff _ _).1 c, ?_⟩
    by_cases c1 : isI rs x = false
    · rw [pushE_rng c c1] at h; omega
    · refine ⟨by simpa using c1, ?_⟩
      by_cases c2 : x ∈ zs
      · exact .inl c2
      · by_cases c3 : 8192 ≤ zs.length
        · rw [pushE_full c (by simpa using c1) c2 c3] at h; omega
        · exact .inr (by omega)
  · rw [pushE_bad c] at h; exact absurd h c
theorem push_valid (h : pushE rs zs x = 0) : QV rs (pushZ rs zs x) := by
  obtain ⟨hv, hi, hl⟩ := pushE_zero h
  by_cases c : x ∈ zs
  · rw [pushZ_in h c]; exact hv
  · rw [pushZ_ins h c]; exact hv.ins hi c (by rcases hl with hl | hl; exact absurd hl c; exact hl)
theorem mem_pushZ (h : pushE rs zs x = 0) (y : Int) : y ∈ pushZ rs zs x ↔ y = x ∨ y ∈ zs := by
  by_cases c : x ∈ zs
  · rw [pushZ_in h c]; exact ⟨.inr, fun h => by rcases h with rfl | h <;> assumption⟩
  · rw [pushZ_ins h c]; exact mem_ins
theorem QV.tail {z : Int} (h : QV rs (z :: zs)) : QV rs zs :=
  ⟨h.rl, by have := h.zl; simp at this; omega, fun y hy => h.rng y (by simp [hy]), (List.nodup_cons.1 h.nd).2, fun hr => (List.pairwise_cons.1 (h.ord hr)).2⟩
end
end Go.Proofs.Ytpegkmancaoeiaa
