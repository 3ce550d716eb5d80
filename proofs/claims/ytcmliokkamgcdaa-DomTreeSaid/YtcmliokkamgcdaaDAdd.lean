/-
  (search).add: the next number.
-/
import Derived.Test.YtcmliokkamgcdaaDSb
namespace Go.Proofs.Ytcmliokkamgcdaa
open Go.RowKit
set_option linter.unusedVariables false

/-- 'append(list, x)' in a region of one order. -/
theorem wpList_append_at {w : World} {ops : Array Oper} {rest : List Oper} {o : Oper} {a : Act} {Q : Exit → Act → World → Prop} (hg : o.guard = none) (s x : Operand)
    (hop : o.op = .call { callee := .builtin .append, args := #[s, x], argTypes := #[25, 25] }) (base : Nat) (v : Value) (zs : List Int) (hs : a.eval s = v) (hown : Own w base v zs)
    (B : Nat) (z : Int) (hx : a.eval x = .slice (some ⟨B, 0, none⟩) 1 1) (hc : w.cell? ⟨B, 0, none⟩ = some (.int .i64 z)) (hlen : zs.length ≤ 100000) (hbase : base ≤ w.heap.size)
    (hK : ∀ g cap w', Own w' base (.slice (some ⟨g, 0, none⟩) (zs.length + 1) cap) (zs ++ [z]) → w.grownBy w' v.ownBlock → (v.ownBlock = some g ∨ g = w.heap.size) → wpList Try.prog ops Q rest (a.put o.dst (.slice (some ⟨g, 0, none⟩) (zs.length + 1) cap)) w') : wpList Try.prog ops Q (o :: rest) a w := by
  obtain ⟨i0, hi, hz0, hz1, hz2⟩ := info_parts int_info
  refine wpList_append_lies w hg s x 25 hop base 3 i0 (.int .i64 0) 1 8 Try.underlying25 hi hz0 hz1 hz2 rfl (by decide) v zs.length (zs.map (.int .i64)) hs hown ⟨B, 0, none⟩ 1 1 [.int .i64 z] hx rfl ?_ ?_ (by decide) ?_ (by omega) hbase _ rfl ?_
  · intro j u hj
    match j, hj with
    | 0, hj => simp at hj; subst hj; simpa [Addr.add] using hc
  · intro u hu; simp at hu; subst hu; rfl
  · unfold maxLen; omega
  · intro g cap w' h1 h2 h3 _
    refine hK g cap w' ?_ h2 h3
    unfold Own
    rw [List.length_append, List.map_append]
    exact h1

/-- What 'add' may turn. -/
def AddP (B R : Nat) (un up : Value) (q : Nat) : Prop := q = B ∨ q = R ∨ un.ownBlock = some q ∨ up.ownBlock = some q
def AddEnd (w : World) (base B R N v : Nat) (un up : Value) (nd nm pa : List Int) (x : Int) (e : Ending) (w' : World) : Prop :=
  e = .returned (.tuple #[]) ∧ ∃ un' up', SB w' base B R N un' up' (nd ++ [(v : Int)]) (nm.set v (nd.length : Int)) (pa ++ [x]) ∧ Fr (AddP B R un up) w w' ∧ (∀ q, un'.ownBlock = some q → un.ownBlock = some q ∨ w.heap.size ≤ q) ∧ (∀ q, up'.ownBlock = some q → up.ownBlock = some q ∨ w.heap.size ≤ q)

set_option maxHeartbeats 2000000 in
set_option maxRecDepth 100000 in
theorem add_any (base B R N v : Nat) (un up : Value) (nd nm pa : List Int) (x : Int) (w : World) (h : SB w base B R N un up nd nm pa) (hv : v < N) (hn : nd.length ≤ 100000) (hp : pa.length ≤ 100000) :
    Calls Try.prog 60 #[.pointer (some ⟨B, 0, none⟩), .int .i64 (v : Int), .int .i64 x] w (AddEnd w base B R N v un up nd nm pa x) := by
  obtain ⟨au, cu, rfl, _⟩ := h.on.shape
  obtain ⟨ap, cp, rfl, _⟩ := h.op.shape
  obtain ⟨W1, hW1⟩ : ∃ W1, (w.setCell ⟨R, v, none⟩ (.int .i64 (nd.length : Int))).drew = W1 := ⟨_, rfl⟩
  have h1 : SB W1 base B R N (.slice au nd.length cu) (.slice ap pa.length cp) nd (nm.set v (nd.length : Int)) pa := by rw [← hW1]; exact (h.number v _).drewN 1
  have hF1 : Fr (AddP B R (.slice au nd.length cu) (.slice ap pa.length cp)) w W1 := by rw [← hW1]; exact ((Fr.refl _ w).set R v _ (fun _ => .inr (.inl rfl))).drewN 1
  have hs1 : w.heap.size ≤ W1.heap.size := hF1.size
  have hfin : ∀ (g cap : Nat) (w6 : World), Own w6 base (.slice (some ⟨g, 0, none⟩) (nd.length + 1) cap) (nd ++ [(v : Int)]) → (W1.alloc (.cells #[.int .i64 (v : Int)] 3)).grownBy w6 (Value.slice au nd.length cu).ownBlock → ((Value.slice au nd.length cu).ownBlock = some g ∨ g = (W1.alloc (.cells #[.int .i64 (v : Int)] 3)).heap.size) →
      (w6.cell? ⟨B, 0, none⟩ = some (.slice au nd.length cu) ∧ w6.frozen? ⟨B, 0, none⟩ = false ∧ w6.cell? ⟨B, 2, none⟩ = some (.slice ap pa.length cp) ∧ w6.frozen? ⟨B, 2, none⟩ = false) ∧
      Hid (SB (w6.setCell ⟨B, 0, none⟩ (.slice (some ⟨g, 0, none⟩) (nd.length + 1) cap)) base B R N (.slice (some ⟨g, 0, none⟩) (nd.length + 1) cap) (.slice ap pa.length cp) (nd ++ [(v : Int)]) (nm.set v (nd.length : Int)) pa) ∧
      Hid (Fr (AddP B R (.slice au nd.length cu) (.slice ap pa.length cp)) w (w6.setCell ⟨B, 0, none⟩ (.slice (some ⟨g, 0, none⟩) (nd.length + 1) cap))) ∧ Hid ((Value.slice au nd.length cu).ownBlock = some g ∨ w.heap.size ≤ g) := fun g cap w6 ho hg hat => by
    have hX := h1.alloc (.cells #[.int .i64 (v : Int)] 3)
    have hl : (nd ++ [(v : Int)]).length = nd.length + 1 := by simp
    have hsz : (W1.alloc (.cells #[.int .i64 (v : Int)] 3)).heap.size = W1.heap.size + 1 := by simp
    have := SB.node (nd' := nd ++ [(v : Int)]) (g := g) (cap := cap) hX hg (by rw [hl]; exact ho) (hat.imp id (fun a => Nat.le_of_eq a.symm))
    rw [hl] at this
    have k2 := this.1.c2
    rw [World.cell?_setCell_other _ _ _ _ (by simp)] at k2
    have q2 := this.1.f2
    rw [World.frozen?_setCell] at q2
    refine ⟨⟨this.2.1, this.2.2, k2, q2⟩, this.1, ?_, ?_⟩
    · exact ((hF1.alloc _).grown hg (fun r e _ => .inr (.inr (.inl e)))).set B 0 _ (fun _ => .inl rfl)
    · rcases hat with a | a
      · exact .inl a
      · exact .inr (by rw [a, hsz]; omega)
  have hfin2 : ∀ (g4 cap4 : Nat) (w4 : World), SB (w4.setCell ⟨B, 0, none⟩ (.slice (some ⟨g4, 0, none⟩) (nd.length + 1) cap4)) base B R N (.slice (some ⟨g4, 0, none⟩) (nd.length + 1) cap4) (.slice ap pa.length cp) (nd ++ [(v : Int)]) (nm.set v (nd.length : Int)) pa →
      Fr (AddP B R (.slice au nd.length cu) (.slice ap pa.length cp)) w (w4.setCell ⟨B, 0, none⟩ (.slice (some ⟨g4, 0, none⟩) (nd.length + 1) cap4)) → ((Value.slice au nd.length cu).ownBlock = some g4 ∨ w.heap.size ≤ g4) →
      ∀ (g cap : Nat) (w6 : World), Own w6 base (.slice (some ⟨g, 0, none⟩) (pa.length + 1) cap) (pa ++ [x]) → ((w4.setCell ⟨B, 0, none⟩ (.slice (some ⟨g4, 0, none⟩) (nd.length + 1) cap4)).alloc (.cells #[.int .i64 x] 3)).grownBy w6 (Value.slice ap pa.length cp).ownBlock → ((Value.slice ap pa.length cp).ownBlock = some g ∨ g = ((w4.setCell ⟨B, 0, none⟩ (.slice (some ⟨g4, 0, none⟩) (nd.length + 1) cap4)).alloc (.cells #[.int .i64 x] 3)).heap.size) →
      (w6.cell? ⟨B, 2, none⟩ = some (.slice ap pa.length cp) ∧ w6.frozen? ⟨B, 2, none⟩ = false) ∧
      Hid (AddEnd w base B R N v (.slice au nd.length cu) (.slice ap pa.length cp) nd nm pa x (.returned (.tuple #[])) (w6.setCell ⟨B, 2, none⟩ (.slice (some ⟨g, 0, none⟩) (pa.length + 1) cap))) := fun g4 cap4 w4 hS4 hF4 hB4 g cap w6 ho hg hat => by
    obtain ⟨W5, hW5⟩ : ∃ W5, w4.setCell ⟨B, 0, none⟩ (.slice (some ⟨g4, 0, none⟩) (nd.length + 1) cap4) = W5 := ⟨_, rfl⟩
    rw [hW5] at hS4 hF4 hg hat
    have hs5 := hF4.size
    have hX := hS4.alloc (.cells #[.int .i64 x] 3)
    have hl : (pa ++ [x]).length = pa.length + 1 := by simp
    have hsz : (W5.alloc (.cells #[.int .i64 x] 3)).heap.size = W5.heap.size + 1 := by simp
    have := SB.par (pa' := pa ++ [x]) (g := g) (cap := cap) hX hg (by rw [hl]; exact ho) (hat.imp id (fun a => Nat.le_of_eq a.symm))
    rw [hl] at this
    refine ⟨this.2, rfl, _, _, this.1, ?_, fun q hq => ?_, fun q hq => ?_⟩
    · exact ((hF4.alloc _).grown hg (fun r e _ => .inr (.inr (.inr e)))).set B 2 _ (fun _ => .inl rfl)
    · have e : g4 = q := by simpa [Value.ownBlock] using hq
      subst e; exact hB4
    · have e : g = q := by simpa [Value.ownBlock] using hq
      subst e
      rcases hat with a | a
      · exact .inl a
      · exact .inr (by rw [a, hsz]; omega)
  have c0 := h.c0
  have c1 := h.c1
  have f1 := h.f1
  have k0 := h1.c0
  have k0a : ∀ o, (W1.alloc o).cell? ⟨B, 0, none⟩ = some (.slice au nd.length cu) := fun o => (h1.alloc o).c0
  have fr := h.rr.free v
  have cr := h.rr.cell (i := v) (by rw [h.ln]; exact hv)
  have ho1 := h1.on
  have hz1 := h1.sz
  have Ho1 := Lib.hid ho1
  have HW1 := Lib.hid hW1
  have Hfin := Lib.hid hfin
  have Hfin2 := Lib.hid hfin2
  obtain ⟨z, hz⟩ : ∃ z, nm.getD v 0 = z := ⟨_, rfl⟩
  rw [hz] at cr
  clear h hz h1 hF1 ho1 hW1 hfin hfin2
  go_enter Try.func60, Try.ntmps60
  go_wp2
  go_region
  clear c0 c1 f1 fr cr
  rw [HW1.out]
  go_wp2_with (at_builtin; first | (refine wpList_append_at rfl _ _ rfl base _ nd rfl (World.ownsRow.alloc Ho1.out _) W1.heap.size (v : Int) rfl (by simp [go_sem]) hn (by simp; omega) ?_; intro g4 cap4 w4 ho4 hg4 hat4; obtain ⟨⟨c5, f5, c9, f9⟩, hS4, hF4, hB4⟩ := Hfin.out g4 cap4 w4 ho4 hg4 hat4; clear ho4 hg4 hat4 k0 k0a) | (refine wpList_append_at rfl _ _ rfl base _ pa rfl (World.ownsRow.alloc hS4.out.op _) _ x rfl (by simp [go_sem]) hp (by have := hS4.out.sz; simp at this ⊢; omega) ?_; intro g7 cap7 w7 ho7 hg7 hat7; obtain ⟨⟨c8, f8⟩, hdone⟩ := Hfin2.out _ _ _ hS4.out hF4.out hB4.out g7 cap7 w7 ho7 hg7 hat7; clear ho7 hg7 hat7 c9 f9 c5 f5))
  go_end0
  exact hdone.out
end Go.Proofs.Ytcmliokkamgcdaa
