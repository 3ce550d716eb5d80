/-
  slices.Clone of a list that is not nil.
-/
import Derived.Test.YtcmliokkamgcdaaDAdd
import Derived.Laws.AppendOwnNone
namespace Go.Proofs.Ytcmliokkamgcdaa
open Go.RowKit
set_option linter.unusedVariables false

/-- 'append(out, l...)', out a slice of the call's own. -/
theorem wpList_append_ints {w : World} {ops : Array Oper} {rest : List Oper} {o : Oper} {a : Act} {Q : Exit → Act → World → Prop} (hg : o.guard = none) (s x : Operand)
    (hop : o.op = .call { callee := .builtin .append, args := #[s, x], argTypes := #[25, 25] }) (base : Nat) (v : Value) (zs : List Int) (hs : a.eval s = v) (hown : Own w base v zs)
    (ad : Addr) (n c : Nat) (us : List Int) (hul : us.length = n) (h0 : 0 < n) (hx : a.eval x = .slice (some ad) n c) (hw : Ints w (some ad) us) (hlen : (zs.length + us.length) * 8 ≤ 140737488355328) (hbase : base ≤ w.heap.size)
    (hK : ∀ v' w', Own w' base v' (zs ++ us) → w.grownBy w' v.ownBlock → wpList Try.prog ops Q rest (a.put o.dst v') w') : wpList Try.prog ops Q (o :: rest) a w := by
  obtain ⟨i0, hi, hz0, hz1, hz2⟩ := info_parts int_info
  subst hul
  refine wpList_append_own w hg s x 25 hop base 3 i0 (.int .i64 0) 1 8 Try.underlying25 hi hz0 hz1 hz2 rfl (by decide) v zs.length (zs.map (.int .i64)) hs hown ad us.length c (us.map (.int .i64)) hx (by simp) ?_ ?_ ?_ ?_ hbase ?_
  · intro j u hj
    have hj2 : j < us.length := by
      have := (List.getElem?_eq_some_iff.1 hj).1
      simpa using this
    obtain ⟨b, off, he, hc⟩ := hw (by omega)
    cases he
    have hadd : (⟨b, off, none⟩ : Addr).add j = ⟨b, off + j, none⟩ := by simp [Addr.add]
    rw [hadd, hc j hj2, ← hj]
    simp [hj2]
  · intro u hu
    simp only [List.mem_map] at hu
    obtain ⟨y, _, rfl⟩ := hu
    rfl
  · unfold maxLen; omega
  · exact hlen
  · intro v' w' h1 h2 _
    refine hK v' w' ?_ h2
    unfold Own
    rw [List.length_append, List.map_append]
    exact h1

set_option maxHeartbeats 400000 in
set_option maxRecDepth 100000 in
theorem clone_any (b n c : Nat) (zs : List Int) (hl : zs.length = n) (h0 : 0 < n) (w : World) (hn : n ≤ 10000) (hz : Ints w (some ⟨b, 0, none⟩) zs) :
    Calls Try.prog 61 #[.slice (some ⟨b, 0, none⟩) n c] w fun e w' => ∃ v, e = .returned v ∧ Own w' w.heap.size v zs ∧ Below w.heap.size w w' := by
  have Hl := Lib.hid hl
  have Hz := Lib.hid hz
  have hnil : ∀ w : World, (binOp BinOp.eql 25 (Value.slice (some ⟨b, 0, none⟩) n c) (Value.slice none 0 0)).run Try.prog w = .ok (.bool false) w := fun _ => by first | rfl | kernel_rfl | simp [go_sem] | (unfold binOp; simp [go_sem])
  clear hl hz
  go_enter Try.func61, Try.ntmps61
  go_wp2_with (at_builtin; refine wpList_append_ints rfl _ _ rfl w.heap.size (.slice (some ⟨w.heap.size, 0, none⟩) 0 0) [] rfl ?h2 ⟨b, 0, none⟩ n c zs Hl.out h0 rfl ?h3 ?h1 ?h4 ?_)
  case h2 => exact ⟨by simp, .inr ⟨w.heap.size, 0, #[], rfl, Nat.le_refl _, (by show (w.heap.push _)[w.heap.size]? = _; exact Array.getElem?_push_size), by simp, by simp, by simp, by simp⟩⟩
  case h3 => exact Hz.out.below ((Below.refl w.heap.size w).alloc (Nat.le_refl _) _) (Nat.le_refl _)
  case h1 => have := Hl.out; simp; omega
  case h4 => simp
  intro v w' ho hg
  have Ho := Lib.hid ho
  have Hg := Lib.hid (((Below.refl w.heap.size w).alloc (Nat.le_refl _) _).grown hg (by simp) (fun k hk => by cases hk; exact Nat.le_refl _))
  clear ho hg
  obtain ⟨av, cv, rfl, _⟩ := Ho.out.shape
  go_wp2
  go_ret
  exact ⟨_, rfl, Ho.out, Hg.out⟩
end Go.Proofs.Ytcmliokkamgcdaa
