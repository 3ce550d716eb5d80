/-
  A loop over an iterator within a loop leaves a mark among the deferred calls in each round: the marks, and how the function leaves with them.
-/
import Derived.Test.YtopbbihbpalnlaaGAdd
namespace Go.Proofs.Ytopbbihbpalnlaa
open Go.RowKit Go.Shelf
set_option linter.unusedVariables false

def mark (D : Nat) : Deferred := { target := .collected D, args := #[] }
/-- The blocks of the marks. -/
structure Marks (W : World) (Ds : List Nat) : Prop where
  at_ : ∀ D ∈ Ds, W.heap[D]? = some (.deferred (some []))
  nd : Ds.Nodup
theorem Marks.nil (W : World) : Marks W [] := ⟨fun D h => by simp at h, List.nodup_nil⟩
theorem Marks.lt {W : World} {Ds : List Nat} (h : Marks W Ds) : ∀ D ∈ Ds, D < W.heap.size := fun D hD => (Array.getElem?_eq_some_iff.1 (h.at_ D hD)).1
theorem Marks.others {W W' : World} {Ds : List Nat} (h : Marks W Ds) (hk : KeepsOthers W W') : Marks W' Ds := ⟨fun D hD => hk.same D _ (h.at_ D hD) rfl, h.nd⟩
theorem Marks.kept {W W' : World} {Ds : List Nat} {row : Option Nat} (h : Marks W Ds) (hg : W.grownBy W' row) (hr : ∀ D ∈ Ds, some D ≠ row) : Marks W' Ds :=
  ⟨fun D hD => (hg.block D (h.lt D hD) (hr D hD)).trans (h.at_ D hD), h.nd⟩
theorem Marks.cons {W : World} {Ds : List Nat} {D : Nat} (h : Marks W Ds) (hD : W.heap[D]? = some (.deferred (some []))) (hn : D ∉ Ds) : Marks W (D :: Ds) :=
  ⟨fun E hE => by
    rcases List.mem_cons.1 hE with rfl | hE
    · exact hD
    · exact h.at_ E hE, List.nodup_cons.2 ⟨hn, h.nd⟩⟩

/-- What shutting the marks leaves as it is. -/
structure Shut (Ds : List Nat) (W W' : World) : Prop where
  os : W'.os = W.os
  tape : W'.tape = W.tape
  output : W'.output = W.output
  size : W.heap.size = W'.heap.size
  block : ∀ q, q ∉ Ds → W'.heap[q]? = W.heap[q]?

theorem leaves_marks {F : Fence} {n : Nat} {P : Program} {fn : Func} {tmps : Array Value} {R : Ending → World → Prop} : ∀ (Ds : List Nat) (W : World), Marks W Ds →
    (∀ W', Shut Ds W W' → LeavesIn F n P fn tmps R [] .returning W') → LeavesInM F n P fn tmps R (Ds.map mark) .returning W
  | [], W, _, h => h W ⟨rfl, rfl, rfl, rfl, fun _ _ => rfl⟩
  | D :: Ds, W, hm, h => by
    have hK := hm.at_ D (by simp)
    have hnd := List.nodup_cons.1 hm.nd
    have hput : ∀ q, q ≠ D → (W.putObj D (.deferred none)).heap[q]? = W.heap[q]? := fun q hq => by
      have := (grownBy_putObj' W D (.deferred none)).block
      by_cases hl : q < W.heap.size
      · exact this q hl (by simpa using hq)
      · rw [Array.getElem?_eq_none (by simpa [World.putObj] using (by omega : W.heap.size ≤ q)), Array.getElem?_eq_none (by omega)]
    refine ⟨by simp, .inl ⟨D, _, rfl, run_takeDeferred hK, leaves_marks Ds _ ⟨fun E hE => ?_, hnd.2⟩ fun W' hs => ?_⟩⟩
    · exact (hput E (fun e => hnd.1 (by rw [← e]; exact hE))).trans (hm.at_ E (List.mem_cons_of_mem _ hE))
    · refine h W' ⟨hs.os, hs.tape, hs.output, ?_, fun q hq => ?_⟩
      · rw [← hs.size]; simp [World.putObj]
      · rw [List.mem_cons, not_or] at hq
        exact (hs.block q hq.2).trans (hput q hq.1)
theorem Marks.not_row {W : World} {Ds : List Nat} {base : Nat} {e : TypeId} {s n : Nat} {v : Value} {xs : List Value} (h : Marks W Ds) (ho : W.ownsRow base e s v n xs) : ∀ D ∈ Ds, some D ≠ v.ownBlock := by
  intro D hD e
  have h1 := h.at_ D hD
  rcases ho.2 with ⟨rfl, _⟩ | ⟨g, cap, cur, rfl, _, hg, _⟩
  · cases e
  · cases e
    rw [hg] at h1
    cases h1
theorem Shut.below {Ds : List Nat} {W W' : World} (hs : Shut Ds W W') {B : Nat} (h : ∀ D ∈ Ds, B ≤ D) : Below B W W' :=
  ⟨hs.os, hs.tape, hs.output, Nat.le_of_eq hs.size, fun k hk => hs.block k fun h' => by have := h k h'; omega⟩
theorem Shut.row {Ds : List Nat} {W W' : World} {base : Nat} {e : TypeId} {s n : Nat} {v : Value} {xs : List Value} (hs : Shut Ds W W') (hm : Marks W Ds) (h : W.ownsRow base e s v n xs) : W'.ownsRow base e s v n xs := by
  have hn := hm.not_row h
  obtain ⟨h1, h2⟩ := h
  refine ⟨h1, ?_⟩
  rcases h2 with h2 | ⟨g, cap, cur, rfl, hb, hg, hr⟩
  · exact .inl h2
  · exact .inr ⟨g, cap, cur, rfl, hb, (hs.block g fun h' => hn g h' rfl).trans hg, hr⟩
end Go.Proofs.Ytopbbihbpalnlaa
