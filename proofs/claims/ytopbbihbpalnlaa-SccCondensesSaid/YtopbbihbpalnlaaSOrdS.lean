/-
  The order of the components: its start.
-/
import Derived.Test.YtopbbihbpalnlaaSOrdM
namespace Go.Proofs.Ytopbbihbpalnlaa
set_option linter.unusedVariables false

theorem outs_nil (D : List (Nat × Nat)) (i : Nat) : outs D [] i = D.countP fun e => e.1 == i := by
  unfold outs
  congr 1
  funext e
  simp
/-- The first k components have been looked at: the ready ones of them lie in the heap. -/
structure KS (D : List (Nat × Nat)) (C : Nat) (hd : Nat → Nat) (k : Nat) (rd wt : List Int) : Prop where
  rn : rd.Nodup
  rm : ∀ z, z ∈ rd ↔ ∃ i, i < k ∧ outs D [] i = 0 ∧ z = (hd i : Int)
  wl : wt.length = C
  wv : ∀ i, i < C → wt.getD i 0 = (outs D [] i : Int)
section
variable {D : List (Nat × Nat)} {C k : Nat} {hd : Nat → Nat} {rd wt : List Int}
theorem KS.start (hl : wt.length = C) (hv : ∀ i, i < C → wt.getD i 0 = (outs D [] i : Int)) : KS D C hd 0 [] wt :=
  ⟨List.nodup_nil, fun z => ⟨fun h => absurd h (by simp), fun ⟨i, h, _⟩ => absurd h (Nat.not_lt_zero i)⟩, hl, hv⟩
theorem KS.push (h : KS D C hd k rd wt) (hinj : ∀ i j, i < C → j < C → hd i = hd j → i = j) (hk : k < C) (h0 : wt.getD k 0 = 0) {rd' : List Int} (hp : rd'.Perm (rd ++ [(hd k : Int)])) : KS D C hd (k + 1) rd' wt := by
  have ho : outs D [] k = 0 := by have := h.wv k hk; omega
  refine ⟨hp.nodup_iff.mpr (List.nodup_append.mpr ⟨h.rn, by simp, fun a ha b hb e => ?_⟩), fun z => ?_, h.wl, h.wv⟩
  · rw [List.mem_singleton] at hb
    subst hb; subst e
    obtain ⟨i, i1, i2, i3⟩ := (h.rm _).mp ha
    have := hinj k i hk (by omega) (by omega)
    omega
  · rw [hp.mem_iff, List.mem_append, h.rm z, List.mem_singleton]
    constructor
    · rintro (⟨i, i1, i2, i3⟩ | e)
      · exact ⟨i, by omega, i2, i3⟩
      · exact ⟨k, by omega, ho, e⟩
    · rintro ⟨i, i1, i2, i3⟩
      by_cases e : i = k
      · subst e; exact .inr i3
      · exact .inl ⟨i, by omega, i2, i3⟩
theorem KS.skip (h : KS D C hd k rd wt) (hk : k < C) (h0 : wt.getD k 0 ≠ 0) : KS D C hd (k + 1) rd wt := by
  refine ⟨h.rn, fun z => ?_, h.wl, h.wv⟩
  rw [h.rm z]
  constructor
  · rintro ⟨i, i1, i2, i3⟩; exact ⟨i, by omega, i2, i3⟩
  · rintro ⟨i, i1, i2, i3⟩
    by_cases e : i = k
    · subst e; exact absurd (by rw [h.wv i hk, i2]; rfl) h0
    · exact ⟨i, by omega, i2, i3⟩
theorem KS.fin (h : KS D C hd C rd wt) : KI D C hd [] rd wt :=
  ⟨Gr.nil D C hd, List.nodup_nil, h.rn, fun z => by
    rw [h.rm z]
    constructor
    · rintro ⟨i, i1, i2, i3⟩; exact ⟨i, ⟨i1, by simp, i2⟩, i3⟩
    · rintro ⟨i, ⟨i1, _, i2⟩, i3⟩; exact ⟨i, i1, i2, i3⟩, h.wl, h.wv⟩
end
/-- While the edges are looked at: who waits for how many, and who waits for whom. -/
theorem waits_step (D : List (Nat × Nat)) (e : Nat × Nat) (i : Nat) : outs (D ++ [e]) [] i = outs D [] i + (if e.1 = i then 1 else 0) := by
  rw [outs_nil, outs_nil, List.countP_append]
  by_cases h : e.1 = i <;> simp [h]
theorem into_step (D : List (Nat × Nat)) (e : Nat × Nat) (i : Nat) : into (D ++ [e]) i = into D i ++ (if e.2 = i then [e.1] else []) := by
  unfold into
  rw [List.filter_append, List.map_append]
  by_cases h : e.2 = i <;> simp [h]
end Go.Proofs.Ytopbbihbpalnlaa
