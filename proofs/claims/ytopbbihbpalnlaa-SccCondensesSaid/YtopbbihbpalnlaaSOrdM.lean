/-
  The order of the components: always the ready one with the least first node.
-/
import Derived.Test.YtopbbihbpalnlaaTarN
namespace Go.Proofs.Ytopbbihbpalnlaa
set_option linter.unusedVariables false

/-- The edges from i that lead to none of s. -/
def outs (D : List (Nat × Nat)) (s : List Nat) (i : Nat) : Nat := D.countP fun e => e.1 == i && !s.contains e.2
structure Rdy (D : List (Nat × Nat)) (C : Nat) (s : List Nat) (i : Nat) : Prop where
  lt : i < C
  new : i ∉ s
  out : outs D s i = 0
theorem outs_zero {D : List (Nat × Nat)} {s : List Nat} {i : Nat} : outs D s i = 0 ↔ ∀ e ∈ D, e.1 = i → e.2 ∈ s := by
  unfold outs
  rw [List.countP_eq_zero]
  constructor
  · intro h e he h1
    have := h e he
    simp [h1] at this
    exact this
  · intro h e he h2
    simp only [Bool.and_eq_true, beq_iff_eq, Bool.not_eq_true', List.contains_eq_mem, decide_eq_false_iff_not] at h2
    exact h2.2 (h e he h2.1)
/-- Each one was ready, and the least of the ready ones. -/
def Gr (D : List (Nat × Nat)) (C : Nat) (hd : Nat → Nat) (s : List Nat) : Prop := ∀ a i b, s = a ++ i :: b → Rdy D C a i ∧ ∀ j, Rdy D C a j → hd i ≤ hd j
theorem Gr.nil (D : List (Nat × Nat)) (C : Nat) (hd : Nat → Nat) : Gr D C hd [] := fun a i b h => by simp at h
theorem Gr.snoc {D : List (Nat × Nat)} {C : Nat} {hd : Nat → Nat} {s : List Nat} {i : Nat} (h : Gr D C hd s) (hr : Rdy D C s i) (hm : ∀ j, Rdy D C s j → hd i ≤ hd j) : Gr D C hd (s ++ [i]) := by
  intro a x b e
  rcases List.eq_nil_or_concat b with rfl | ⟨b', y, rfl⟩
  · have : s ++ [i] = a ++ [x] := e
    obtain ⟨rfl, e2⟩ := List.append_inj' this rfl
    cases e2
    exact ⟨hr, hm⟩
  · have : s ++ [i] = (a ++ x :: b') ++ [y] := by simp [e]
    obtain ⟨rfl, e2⟩ := List.append_inj' this rfl
    exact h a x b' rfl
theorem Gr.mem {D : List (Nat × Nat)} {C : Nat} {hd : Nat → Nat} {s : List Nat} (h : Gr D C hd s) {i : Nat} (hi : i ∈ s) : i < C ∧ ∀ e ∈ D, e.1 = i → e.2 ∈ s := by
  obtain ⟨a, b, e⟩ := List.append_of_mem hi
  obtain ⟨⟨h1, h2, h3⟩, _⟩ := h a i b e
  exact ⟨h1, fun x hx hxi => by rw [e]; exact List.mem_append_left _ (outs_zero.mp h3 x hx hxi)⟩
/-- The edges that lead from f to i. -/
def into (D : List (Nat × Nat)) (i : Nat) : List Nat := (D.filter fun e => e.2 == i).map Prod.fst
theorem outs_cons (e : Nat × Nat) (D : List (Nat × Nat)) (s : List Nat) (f : Nat) : outs (e :: D) s f = outs D s f + (if e.1 = f ∧ e.2 ∉ s then 1 else 0) := by
  unfold outs
  rw [List.countP_cons]
  congr 1
  by_cases h1 : e.1 = f <;> by_cases h2 : e.2 ∈ s <;> simp [h1, h2]
theorem into_cons (e : Nat × Nat) (D : List (Nat × Nat)) (i f : Nat) : (into (e :: D) i).count f = (into D i).count f + (if e.2 = i ∧ e.1 = f then 1 else 0) := by
  unfold into
  by_cases h1 : e.2 = i <;> by_cases h2 : e.1 = f <;> simp [h1, h2]
theorem outs_snoc (s : List Nat) (i : Nat) (hi : i ∉ s) (f : Nat) : ∀ D : List (Nat × Nat), outs D (s ++ [i]) f + (into D i).count f = outs D s f
  | [] => rfl
  | e :: r => by
    have ih := outs_snoc s i hi f r
    rw [outs_cons, outs_cons, into_cons]
    have hmem : e.2 ∈ s ++ [i] ↔ e.2 ∈ s ∨ e.2 = i := by simp
    by_cases h1 : e.1 = f
    · by_cases h2 : e.2 = i
      · have h3 : e.2 ∉ s := by rw [h2]; exact hi
        rw [if_neg (by rw [hmem]; simp [h2]), if_pos ⟨h2, h1⟩, if_pos ⟨h1, h3⟩]; omega
      · by_cases h3 : e.2 ∈ s
        · rw [if_neg (by rw [hmem]; simp [h3]), if_neg (by simp [h2]), if_neg (by simp [h3])]; omega
        · rw [if_pos ⟨h1, by rw [hmem]; simp [h2, h3]⟩, if_neg (by simp [h2]), if_pos ⟨h1, h3⟩]; omega
    · rw [if_neg (by simp [h1]), if_neg (by simp [h1]), if_neg (by simp [h1])]; omega
structure KI (D : List (Nat × Nat)) (C : Nat) (hd : Nat → Nat) (s : List Nat) (rd : List Int) (wt : List Int) : Prop where
  gr : Gr D C hd s
  nd : s.Nodup
  rn : rd.Nodup
  rm : ∀ z, z ∈ rd ↔ ∃ i, Rdy D C s i ∧ z = (hd i : Int)
  wl : wt.length = C
  wv : ∀ i, i < C → wt.getD i 0 = (outs D s i : Int)
/-- While the edges that lead to i, which was taken, are looked at: k of them have been. -/
structure KM (D : List (Nat × Nat)) (C : Nat) (hd : Nat → Nat) (s : List Nat) (i k : Nat) (rd : List Int) (wt : List Int) : Prop where
  rn : rd.Nodup
  rm : ∀ z, z ∈ rd ↔ ∃ f, f < C ∧ f ∉ s ∧ f ≠ i ∧ wt.getD f 0 = 0 ∧ z = (hd f : Int)
  wl : wt.length = C
  wv : ∀ f, f < C → wt.getD f 0 + (((into D i).take k).count f : Int) = (outs D s f : Int)
section
variable {D : List (Nat × Nat)} {C : Nat} {hd : Nat → Nat} {s : List Nat} {rd wt : List Int}
theorem KI.pop (h : KI D C hd s rd wt) (hinj : ∀ i j, i < C → j < C → hd i = hd j → i = j) {z : Int} {rd' : List Int} (hp : (z :: rd').Perm rd) (hz : ∀ y ∈ rd, z ≤ y) : ∃ i, z = (hd i : Int) ∧ Rdy D C s i ∧ (∀ j, Rdy D C s j → hd i ≤ hd j) ∧ KM D C hd s i 0 rd' wt := by
  obtain ⟨i, hr, e⟩ := (h.rm z).mp (hp.mem_iff.mp (by simp))
  subst e
  have hn : ((hd i : Int) :: rd').Nodup := hp.nodup_iff.mpr h.rn
  obtain ⟨n1, n2⟩ := List.nodup_cons.mp hn
  refine ⟨i, rfl, hr, fun j hj => by have := hz _ ((h.rm _).mpr ⟨j, hj, rfl⟩); omega, n2, fun z => ?_, h.wl, fun f hf => by rw [List.take_zero]; simpa using h.wv f hf⟩
  constructor
  · intro hm
    obtain ⟨f, hf, e⟩ := (h.rm z).mp (hp.mem_iff.mp (by simp [hm]))
    refine ⟨f, hf.lt, hf.new, fun e2 => ?_, by rw [h.wv f hf.lt, hf.out]; rfl, e⟩
    subst e2; subst e; exact n1 hm
  · rintro ⟨f, h1, h2, h3, h4, e⟩
    have hf : Rdy D C s f := ⟨h1, h2, by have := h.wv f h1; omega⟩
    have hm := hp.mem_iff.mpr ((h.rm z).mpr ⟨f, hf, e⟩)
    rcases List.mem_cons.mp hm with e2 | e2
    · exact absurd (hinj f i h1 hr.lt (by omega)) h3
    · exact e2
theorem into_mem {D : List (Nat × Nat)} {i f : Nat} : f ∈ into D i ↔ (f, i) ∈ D := by
  unfold into
  simp only [List.mem_map, List.mem_filter, beq_iff_eq]
  constructor
  · rintro ⟨⟨a, b⟩, ⟨h1, h2⟩, h3⟩; simp only at h2 h3; subst h2; subst h3; exact h1
  · intro h; exact ⟨(f, i), ⟨h, rfl⟩, rfl⟩
theorem KM.step {i k f : Nat} (h : KM D C hd s i k rd wt) (hg : Gr D C hd s) (hi : i ∉ s) (hD : ∀ e ∈ D, e.1 < C ∧ e.1 ≠ e.2) (hinj : ∀ i j, i < C → j < C → hd i = hd j → i = j) (hk : k < (into D i).length) (hf : (into D i).getD k 0 = f) :
    f < C ∧ 0 < wt.getD f 0 ∧ (wt.getD f 0 - 1 = 0 → ∀ rd', rd'.Perm (rd ++ [(hd f : Int)]) → KM D C hd s i (k + 1) rd' (wt.set f (wt.getD f 0 - 1))) ∧ (wt.getD f 0 - 1 ≠ 0 → KM D C hd s i (k + 1) rd (wt.set f (wt.getD f 0 - 1))) := by
  have hfk : (into D i)[k] = f := by rw [← hf, List.getD_eq_getElem?_getD, List.getElem?_eq_getElem hk]; rfl
  have hm : (f, i) ∈ D := into_mem.mp (hfk ▸ List.getElem_mem hk)
  obtain ⟨hfC, hne⟩ := hD _ hm
  have hfs : f ∉ s := fun h1 => hi ((hg.mem h1).2 _ hm rfl)
  have htk : (into D i).take (k + 1) = (into D i).take k ++ [f] := by rw [List.take_add_one, List.getElem?_eq_getElem hk, hfk]; rfl
  have hcnt : ((into D i).take (k + 1)).count f = ((into D i).take k).count f + 1 := by rw [htk, List.count_append]; simp
  have hle : ((into D i).take (k + 1)).count f ≤ (into D i).count f := (List.take_sublist _ _).count_le _
  have hall := outs_snoc s i hi f D
  have hw := h.wv f hfC
  have hfl : f < wt.length := by rw [h.wl]; exact hfC
  have hset : ∀ x, (wt.set f (wt.getD f 0 - 1)).getD x 0 = if x = f then wt.getD f 0 - 1 else wt.getD x 0 := fun x => by
    by_cases e : x = f
    · subst e; rw [if_pos rfl]; simp [List.getD_eq_getElem?_getD, hfl]
    · rw [if_neg e]; simp [List.getD_eq_getElem?_getD, Ne.symm e]
  have hwv : ∀ g, g < C → (wt.set f (wt.getD f 0 - 1)).getD g 0 + (((into D i).take (k + 1)).count g : Int) = (outs D s g : Int) := fun g hg2 => by
    rw [hset g, htk, List.count_append]
    have := h.wv g hg2
    by_cases e : g = f
    · subst e; rw [if_pos rfl, show [g].count g = 1 by simp]; omega
    · rw [if_neg e]
      have : [f].count g = 0 := List.count_eq_zero.mpr (by simpa using e)
      rw [this]; simpa using h.wv g hg2
  have hpos : 0 < wt.getD f 0 := by omega
  refine ⟨hfC, hpos, fun h0 rd' hp => ⟨?_, fun z => ?_, by rw [List.length_set]; exact h.wl, hwv⟩, fun h0 => ⟨h.rn, fun z => ?_, by rw [List.length_set]; exact h.wl, hwv⟩⟩
  · refine hp.nodup_iff.mpr (List.nodup_append.mpr ⟨h.rn, by simp, fun a ha b hb e => ?_⟩)
    rw [List.mem_singleton] at hb
    subst hb; subst e
    obtain ⟨g, g1, g2, g3, g4, g5⟩ := (h.rm _).mp ha
    have := hinj f g hfC g1 (by omega)
    subst this; omega
  · rw [hp.mem_iff, List.mem_append, h.rm z, List.mem_singleton]
    constructor
    · rintro (⟨g, g1, g2, g3, g4, g5⟩ | e)
      · exact ⟨g, g1, g2, g3, by rw [hset g, if_neg (fun e => by subst e; omega)]; exact g4, g5⟩
      · exact ⟨f, hfC, hfs, hne, by rw [hset f, if_pos rfl]; exact h0, e⟩
    · rintro ⟨g, g1, g2, g3, g4, g5⟩
      rw [hset g] at g4
      by_cases e : g = f
      · subst e; exact .inr g5
      · rw [if_neg e] at g4; exact .inl ⟨g, g1, g2, g3, g4, g5⟩
  · rw [h.rm z]
    constructor
    · rintro ⟨g, g1, g2, g3, g4, g5⟩
      exact ⟨g, g1, g2, g3, by rw [hset g, if_neg (fun e => by subst e; omega)]; exact g4, g5⟩
    · rintro ⟨g, g1, g2, g3, g4, g5⟩
      rw [hset g] at g4
      by_cases e : g = f
      · subst e; rw [if_pos rfl] at g4; exact absurd g4 h0
      · rw [if_neg e] at g4; exact ⟨g, g1, g2, g3, g4, g5⟩
theorem KM.fin {i : Nat} (h : KM D C hd s i (into D i).length rd wt) (hg : Gr D C hd s) (hn : s.Nodup) (hr : Rdy D C s i) (hm : ∀ j, Rdy D C s j → hd i ≤ hd j) : KI D C hd (s ++ [i]) rd wt := by
  have hw : ∀ f, f < C → wt.getD f 0 = (outs D (s ++ [i]) f : Int) := fun f hf => by
    have h1 := h.wv f hf
    rw [List.take_length] at h1
    have h2 := outs_snoc s i hr.new f D
    omega
  refine ⟨hg.snoc hr hm, ?_, h.rn, fun z => ?_, h.wl, hw⟩
  · refine List.nodup_append.mpr ⟨hn, by simp, fun a ha b hb e => ?_⟩
    rw [List.mem_singleton] at hb
    subst hb; subst e; exact hr.new ha
  · rw [h.rm z]
    constructor
    · rintro ⟨f, f1, f2, f3, f4, f5⟩
      exact ⟨f, ⟨f1, by simp [f2, f3], by have := hw f f1; omega⟩, f5⟩
    · rintro ⟨f, ⟨f1, f2, f3⟩, f5⟩
      rw [List.mem_append, List.mem_singleton, not_or] at f2
      exact ⟨f, f1, f2.1, f2.2, by rw [hw f f1, f3]; rfl, f5⟩
theorem KI.all (h : KI D C hd s [] wt) (ht : ∀ e ∈ D, e.2 < e.1) : ∀ i, i < C → i ∈ s := by
  intro i
  induction i using Nat.strongRecOn with
  | ind i ih =>
    intro hi
    refine Classical.byContradiction fun hn => ?_
    have : (hd i : Int) ∈ ([] : List Int) := (h.rm _).mpr ⟨i, ⟨hi, hn, outs_zero.mpr fun e he hei => ih e.2 (by have := ht e he; omega) (by have := ht e he; omega)⟩, rfl⟩
    cases this
end
end Go.Proofs.Ytopbbihbpalnlaa
