/-
  copied, Contains and what is appended to a slice of the call's own.
-/
import Derived.Test.YtpegkmancaoeiaaWRCheck
import Derived.Test.YtpegkmancaoeiaaShelfP
import Derived.Laws.AppendOwnNone
namespace Go.Proofs.Ytpegkmancaoeiaa
open Go.RowKit Go.WideShapes
set_option linter.unusedVariables false

/-- 'append(out, l...)', out a slice of the call's own, l nil or not. -/
theorem wpList_append_ints {w : World} {ops : Array Oper} {rest : List Oper} {o : Oper} {a : Act} {Q : Exit → Act → World → Prop} (hg : o.guard = none) (s x : Operand)
    (hop : o.op = .call { callee := .builtin .append, args := #[s, x], argTypes := #[22, 22] }) (base : Nat) (v : Value) (zs : List Int) (hs : a.eval s = v) (hown : Own w base v zs)
    (ad : Option Addr) (n c : Nat) (us : List Int) (hul : us.length = n) (hx : a.eval x = .slice ad n c) (hw : Ints w ad us) (hnil : ad = none → c = 0) (hlen : (zs.length + us.length) * 8 ≤ 140737488355328) (hbase : base ≤ w.heap.size)
    (hK : ∀ v' w', Own w' base v' (zs ++ us) → w.grownBy w' v.ownBlock → wpList Try.prog ops Q rest (a.put o.dst v') w') : wpList Try.prog ops Q (o :: rest) a w := by
  obtain ⟨i0, hi, hz0, hz1, hz2⟩ := info_parts int_info
  subst hul
  cases ad with
  | none =>
    have hu : us = [] := by
      cases us with
      | nil => rfl
      | cons y r => obtain ⟨_, _, h, _⟩ := hw (by simp); cases h
    subst hu
    obtain rfl := hnil rfl
    refine wpList_append_own_none hg s x 22 hop base 3 i0 1 Try.underlying22 hi v zs.length (zs.map (.int .i64)) hs hown hx (hK _ _ ?_ (World.grownBy.refl _ _))
    rw [List.append_nil]; exact hown
  | some ad =>
    refine wpList_append_own w hg s x 22 hop base 3 i0 (.int .i64 0) 1 8 Try.underlying22 hi hz0 hz1 hz2 rfl (by decide) v zs.length (zs.map (.int .i64)) hs hown ad us.length c (us.map (.int .i64)) hx (by simp) ?_ ?_ ?_ ?_ hbase ?_
    · intro j u hj
      have hj2 : j < us.length := by
        have := (List.getElem?_eq_some_iff.1 hj).1
        simpa using this
      obtain ⟨b, off, he, hc⟩ := hw (by omega)
      cases he
      rw [add_plain, hc j hj2, ← hj]
      simp [hj2]
    · intro u hu
      simp only [List.mem_map] at hu
      obtain ⟨y, _, rfl⟩ := hu
      rfl
    · unfold maxLen; omega
    · exact hlen
    · intro v' w' h1 h2 _
      refine hK v' w' ?_ h2
      unfold Own
      rw [List.length_append, List.map_append]
      exact h1

theorem Own.shape2 {w : World} {base : Nat} {v : Value} {zs : List Int} (h : Own w base v zs) : ∃ a c, v = .slice a zs.length c ∧ Ints w a zs ∧ (a = none → c = 0) := by
  rcases h.2 with ⟨rfl, hn⟩ | ⟨g, cap, cur, rfl, hb, hh, hr⟩
  · exact ⟨none, 0, by rw [hn], fun h0 => by omega, fun _ => rfl⟩
  · exact ⟨_, _, rfl, Row.ints (base := base) (cap := cap) h, fun h => by cases h⟩

set_option maxHeartbeats 400000 in
theorem copied_any (a : Option Addr) (n c : Nat) (zs : List Int) (hl : zs.length = n) (w : World) (hn : n ≤ 10000) (hz : Ints w a zs) (hnil : a = none → c = 0) :
    Calls Try.prog 28 #[.slice a n c] w fun e w' => ∃ v, e = .returned v ∧ Own w' w.heap.size v zs ∧ Below w.heap.size w w' := by
  have Hl := Lib.hid hl
  clear hl
  go_enter Try.func28, Try.ntmps28
  go_wp2_with (at_builtin; refine wpList_append_ints rfl _ _ rfl w.heap.size (.slice none 0 0) [] rfl (Own.nil _ _) a n c zs Hl.out rfl hz hnil ?h1 (Nat.le_refl _) ?_)
  case h1 => have := Hl.out; simp; omega
  intro v w' ho hg
  have Ho := Lib.hid ho
  have Hg := Lib.hid ((Below.refl w.heap.size w).grown hg (Nat.le_refl _) (fun k hk => by cases hk))
  clear ho hg
  obtain ⟨av, cv, rfl, _⟩ := Ho.out.shape2
  go_wp2
  go_ret
  exact ⟨_, rfl, Ho.out, Hg.out⟩

/-- Is x an item? -/
def hasB (zs : List Int) (x : Int) : Bool := zs.contains x
theorem hasB_iff {zs : List Int} {x : Int} : hasB zs x = true ↔ x ∈ zs := by simp [hasB]
theorem hasB_not {zs : List Int} {x : Int} : hasB zs x = false ↔ ¬ x ∈ zs := by rw [← hasB_iff]; simp

theorem contains_any (a : Option Addr) (n c : Nat) (zs : List Int) (hl : zs.length = n) (x : Int) (w : World) (hn : n ≤ maxLen) (hz : Ints w a zs) :
    Calls Try.prog 29 #[.slice a n c, .int .i64 x] w fun e w' => e = .returned (.bool (hasB zs x)) ∧ w = w' := by
  subst hl
  unfold maxLen at hn
  by_cases h0 : 0 < zs.length
  · obtain ⟨b, off, rfl, hc⟩ := hz h0
    refine (Any.slices_Contains_int Try.lays107 b off zs.length c zs x w (Nat.le_refl _) (by omega) hc).mono ?_
    rintro e w' ⟨rfl, rfl⟩
    rw [List.take_length]
    exact ⟨rfl, rfl⟩
  · have e : zs = [] := List.eq_nil_of_length_eq_zero (by omega)
    subst e
    refine (Any.slices_Contains_int_empty Try.lays107 a c x w).mono ?_
    rintro e w' ⟨rfl, rfl⟩
    exact ⟨rfl, rfl⟩
end Go.Proofs.Ytpegkmancaoeiaa
