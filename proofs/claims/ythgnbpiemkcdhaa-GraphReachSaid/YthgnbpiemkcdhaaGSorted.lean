/-
  The definition's sorted: edges in order, each once, by halves.
-/
import Derived.Test.YthgnbpiemkcdhaaGSortedM
import Derived.Test.YthgnbpiemkcdhaaGRSucc
namespace Go.Proofs.Ythgnbpiemkcdhaa
open Go.RowKit Go.Shelf Go.WideShapes
set_option linter.unusedVariables false

theorem less_at (x y x' y' : Int) (r : Bool) (hr : ltE (x, y) (x', y') = r) (w : World) :
    Calls Try.prog 32 #[.agg #[.int .i64 x, .int .i64 y], .agg #[.int .i64 x', .int .i64 y']] w fun e w' => e = .returned (.bool r) ∧ Below w.heap.size w w' := by
  subst hr; exact less_any (x, y) (x', y') w
def SortEnd (w : World) (ps : List (Int × Int)) (e : Ending) (w' : World) : Prop :=
  ∃ v qs, e = .returned v ∧ OwnP w' w.heap.size v qs ∧ qs.length ≤ ps.length ∧ Canon ps qs ∧ Below w.heap.size w w'
theorem OwnP.mono {w : World} {base : Nat} {v : Value} {ps : List (Int × Int)} (h : OwnP w base v ps) {b : Nat} (hb : b ≤ base) : OwnP w b v ps := by
  obtain ⟨h1, h2⟩ := h
  refine ⟨h1, ?_⟩
  rcases h2 with h2 | ⟨g', cap', cur, hv, hb', hr⟩
  · exact .inl h2
  · exact .inr ⟨_, _, _, hv, Nat.le_trans hb hb', hr⟩
theorem OwnP.empty (w : World) (base : Nat) (hb : base ≤ w.heap.size) : OwnP (w.alloc (.cells #[] 42)) base (.slice (some ⟨w.heap.size, 0, none⟩) 0 0) [] :=
  ⟨rfl, .inr ⟨w.heap.size, 0, #[], rfl, hb, World.alloc_heap_new w _, Nat.le_refl _, Nat.zero_le _, rfl, rfl⟩⟩
theorem Pairs.take {w : World} {a : Option Addr} {ps : List (Int × Int)} (h : Pairs w a ps) (k : Nat) : Pairs w a (ps.take k) := fun h0 => by
  rw [List.length_take] at h0
  obtain ⟨b, off, rfl, hc⟩ := h (by omega)
  refine ⟨b, off, rfl, fun i hi => ?_⟩
  rw [List.length_take] at hi
  have := hc i (by omega)
  simpa [List.getD_eq_getElem?_getD, List.getElem?_take, show i < k by omega] using this

set_option maxHeartbeats 3200000 in
theorem sorted_small (a : Option Addr) (n c : Nat) (ps : List (Int × Int)) (hl : ps.length = n) (w : World) (hn : n < 2) (hE : Edg w a c ps) :
    Calls Try.prog 36 #[.slice a n c] w (SortEnd w ps) := by
  have Hl := Lib.hid hl
  have Hp := Lib.hid hE.pairs
  have Hnil := Lib.hid hE.nil
  clear hl hE
  obtain ⟨e0, he1, he2, he3, he4⟩ := info_parts pair_info
  rcases a with _ | ad
  · obtain rfl := Hnil.out rfl
    obtain rfl : n = 0 := by
      rcases Nat.eq_zero_or_pos n with h | h
      · exact h
      · obtain ⟨b, off, hh, _⟩ := Hp.out (by rw [Hl.out]; exact h)
        cases hh
    have hps : ps = [] := List.length_eq_zero_iff.1 Hl.out
    subst hps
    go_enter Try.func36, Try.ntmps36
    go_wp2_with (at_builtin; refine wpList_append_own_none rfl _ _ 22 rfl w.heap.size 42 e0 2 Try.underlying22 he1 _ 0 [] rfl (OwnP.empty _ _ (Nat.le_refl _)) rfl ?_)
    go_ret
    exact ⟨_, [], rfl, OwnP.empty _ _ (Nat.le_refl _), Nat.le_refl _, canon_small (by simp), (Below.refl _ _).alloc (Nat.le_refl _) _⟩
  · go_enter Try.func36, Try.ntmps36
    go_wp2_with (at_builtin; refine wpList_append_pairs rfl _ _ rfl w.heap.size _ rfl (OwnP.empty _ _ (Nat.le_refl _)) ad n c ps Hl.out rfl (Hp.out.below ((Below.refl _ _).alloc (Nat.le_refl _) _) (Nat.le_refl _)) (by rw [Hl.out]; omega) (by simp) ?_)
    intro v1 w1 hown1 hg1 hiff
    have hb1 := Lib.hid (((Below.refl w.heap.size w).alloc (Nat.le_refl _) (.cells #[] 42)).grown hg1 (by simp) (fun k hk => by cases hk; exact Nat.le_refl _))
    have Ho' := Lib.hid hown1
    obtain ⟨a', c', rfl, _⟩ := hown1.shape
    clear hown1 hg1 hiff
    go_wp2
    go_ret
    exact ⟨_, ps, rfl, Ho'.out, Nat.le_refl _, canon_small (by rw [Hl.out]; exact hn), hb1.out⟩
end Go.Proofs.Ythgnbpiemkcdhaa
