/-
  A region that draws its order inside a round of a loop over a function: reads, and one store at its end.
-/
import Derived.Test.YtcmliokkamgcdaaDBack
import Derived.StillTail
import Derived.OwnWalkIn
namespace Go.Proofs.Ytcmliokkamgcdaa
open Go.RowKit
set_option linter.unusedVariables false

/-- Operations that neither call nor defer. -/
def plainB : Op → Bool
  | .move _ => true
  | .assign _ => true
  | .fieldAddr _ _ _ => true
  | .indexAddr _ _ _ => true
  | .load _ _ => true
  | .binOp _ _ _ _ _ => true
  | .store _ _ _ => true
  | _ => false
theorem plain_run (o : Oper) (h : plainB o.op = true) (ρ : Operand → Value) (P : Program) (w : World) :
    (∃ v w', (execOp ρ o).run P w = .ok (.value v) w') ∨ (∃ w', (execOp ρ o).run P w = .ok .skip w') ∨ ∃ x w', (execOp ρ o).run P w = .halt x w' := by
  have val : ∀ s : Sem Value, (∃ v w', Sem.run P (do pure (Next.value (← s))) w = .ok (.value v) w') ∨ (∃ w', Sem.run P (do pure (Next.value (← s))) w = .ok .skip w') ∨ ∃ x w', Sem.run P (do pure (Next.value (← s))) w = .halt x w' := fun s => by
    rw [Sem.run_bind]
    cases s.run P w with
    | ok v w' => exact .inl ⟨v, w', rfl⟩
    | halt x w' => exact .inr (.inr ⟨x, w', rfl⟩)
  have uni : ∀ s : Sem Unit, (∃ v w', Sem.run P (do s; pure Next.skip) w = .ok (.value v) w') ∨ (∃ w', Sem.run P (do s; pure Next.skip) w = .ok .skip w') ∨ ∃ x w', Sem.run P (do s; pure Next.skip) w = .halt x w' := fun s => by
    rw [Sem.run_bind]
    cases s.run P w with
    | ok v w' => exact .inr (.inl ⟨w', rfl⟩)
    | halt x w' => exact .inr (.inr ⟨x, w', rfl⟩)
  obtain ⟨op, hop⟩ : ∃ op, o.op = op := ⟨_, rfl⟩
  unfold execOp
  rw [hop] at h ⊢
  cases op <;> first | (cases h; done) | exact .inl ⟨_, _, rfl⟩ | exact val _ | exact uni _
theorem plain_not_defer {o : Oper} (h : plainB o.op = true) : ∀ c, o.op ≠ .defer c := fun c e => by rw [e] at h; cases h
theorem plain_wpIn {F : Fence} (hF : ∀ f, F.fn f) {n : Nat} {P : Program} {o : Oper} (h : plainB o.op = true) {a : Act} {w : World} {K K' : Act → World → Prop} {Q : Exit → Act → World → Prop} (hK : ∀ a w, K a w → K' a w) (hw : o.wp P a w K Q) : o.wpIn F n P a w K' Q := by
  refine ⟨fun f _ => hF f, ?_⟩
  rw [Oper.semAt_eq _ _ _ (plain_not_defer h)]
  unfold Oper.wp at hw
  rcases plain_run o h a.eval P w with ⟨v, w', e⟩ | ⟨w', e⟩ | ⟨x, w', e⟩
  · rw [e] at hw ⊢; exact hK _ _ hw
  · rw [e] at hw ⊢; exact hK _ _ hw
  · rw [e] at hw ⊢
    cases x <;> first | exact hw | exact hw.elim
theorem plain_anyIn {F : Fence} (hF : ∀ f, F.fn f) {n : Nat} {P : Program} {md : Region.Mode} {ops : Array Oper} {Q : Exit → Act → World → Prop} (hL : ¬ LetsOut Q) (hp : ∀ (i : Nat) (o : Oper), ops[i]? = some o → plainB o.op = true) :
    ∀ (fuel : Nat) (listed : Array Bool) (a : Act) (w : World), wpAny P md ops Q fuel listed a w → wpAnyIn F n P md ops Q fuel listed a w
  | 0, listed, a, w, h => h
  | fuel + 1, listed, a, w, h => by
    refine ⟨h.1, fun i hi => ?_⟩
    have := h.2 i hi
    unfold wpOp at this
    unfold wpOpIn
    cases ho : ops[i]? with
    | none => rw [ho] at this; exact plain_anyIn hF hL hp fuel _ _ _ this
    | some o =>
      rw [ho] at this
      simp only at this ⊢
      split
      · rename_i hw
        rw [if_pos hw] at this
        exact plain_wpIn hF (hp i o ho) (fun a w => plain_anyIn hF hL hp fuel _ a w) (this.resolve_right fun q => hL q.2)
      · rename_i hw
        rw [if_neg hw] at this
        exact ⟨fun f _ => hF f, plain_anyIn hF hL hp fuel _ _ _ this⟩
/-- A region of k operations that only read, and a tail that runs in its order, inside a round. -/
theorem d_round_tail0 {F : Fence} (hF : ∀ f, F.fn f) {n : Nat} {P : Program} {id : Nat} {Q : Exit → Act → World → Prop} {a : Act} {w : World} {l : List Oper} (k : Nat) (hL : ¬ LetsOut Q) (hp : (l.all fun o => plainB o.op) = true) (hm : P.follows .mixedOrders = true) (hB : Region.lexTailB .any l.toArray k = true)
    (h : wpStill P l.toArray { w with drawn := w.drawn + 1 } (fun a' => wpList P l.toArray Q (l.drop k) a' { w with drawn := w.drawn + 1 }) (l.take k) a) : (Code.region id l.toArray true).wpIn F n P Q a w := by
  refine wpIn_region_any hm (plain_anyIn hF hL (fun i o ho => ?_) _ _ _ _ ?_)
  · have : o ∈ l := by
      rw [List.getElem?_toArray] at ho
      exact List.mem_of_getElem? ho
    exact List.all_eq_true.1 hp o this
  · simp only [Region.lexTailB, Bool.and_eq_true, decide_eq_true_eq] at hB
    obtain ⟨⟨⟨⟨s1, s2⟩, s3⟩, s4⟩, s5⟩ := hB
    have lt : (l.take k).length = k := by rw [List.length_take]; simp at s2; omega
    have ld : (l.drop k).length = l.toArray.size - k := by simp
    have H := wpAnyL_lex (P := P) (md := .any) (g := l.toArray.size - k) s1 s3 s4 s2 (l.take k) 0 (Array.replicate l.toArray.size false) a (fun j hj => by rw [lt] at hj; simp [hj]) (by rw [lt, Nat.zero_add])
      ⟨by simp, fun j oj _ hl => (by rw [getD_replicate_false] at hl; cases hl), fun t _ ht => getD_in (by simpa using ht) (getD_replicate_false _ _)⟩ (by rw [lt]; exact s5) h
    have G := wpAny_of_head (Q' := Q) (g := l.toArray.size - k) (fun listed a' hl => by
      have q := wpAny_of_seq (md := .any) (Q' := Q) (l.drop k) k listed a' { w with drawn := w.drawn + 1 } (fun j => by rw [List.getElem?_drop, List.getElem?_toArray]) (by rw [ld]; exact hl.1) hl.2
      rwa [ld] at q) _ _ _ H
    rwa [lt, show k + (l.toArray.size - k) = l.toArray.size by omega] at G
theorem d_round_tail {F : Fence} (hF : ∀ f, F.fn f) {n : Nat} {P : Program} {id : Nat} {Q : Exit → Act → World → Prop} {a : Act} {w : World} {l : List Oper} (k : Nat) (hL : ¬ LetsOut Q) (hp : (l.all fun o => plainB o.op) = true) (hm : P.follows .mixedOrders = true) (hB : Region.lexTailB .any l.toArray k = true)
    (h : wpStill P l.toArray w.drew (fun a' => wpList P l.toArray Q (l.drop k) a' w.drew) (l.take k) a) : (Code.region id l.toArray true).wpIn F n P Q a w := d_round_tail0 hF k hL hp hm hB h
/-- 'make([]T, n)' in a fenced walk. -/
theorem d_make_full {F : Fence} {nn : Nat} {P : Program} (w : World) {ops : Array Oper} {rest : List Oper} {o : Oper} {a : Act} {Q : Exit → Act → World → Prop}
    (hg : o.guard = none) (l c : Operand) (t : TypeId) (hop : o.op = Op.makeSlice t l c)
    (base : Nat) (e : TypeId) (i : TypeInfo) (z : Value) (size : Nat) (h1 : P.underlying t = some (.slice e)) (h2 : P.info? e = some i) (h3 : i.zero = some z) (h4 : i.size = size)
    (kl kc : IntKind) (L C : Int) (n : Nat) (hl : a.eval l = .int kl L) (hc : a.eval c = .int kc C) (hL : L = (n : Int)) (hC : C = (n : Int)) (b2 : i.bytes * n ≤ 281474976710656) (b3 : n ≤ maxLen) (b4 : base ≤ w.heap.size)
    (hK : ∀ w', w'.ownsRow base e size (.slice (some ⟨w.heap.size, 0, none⟩) n n) n (madeCells z.cells (n * size)).toList → w.grownBy w' none → wpListIn F nn P ops Q rest (a.put o.dst (.slice (some ⟨w.heap.size, 0, none⟩) n n)) w') :
    wpListIn F nn P ops Q (o :: rest) a w := by
  refine wpListIn_plain hg fun K hK' => ?_
  obtain ⟨w', hrun, r1, r2⟩ := run_make_full (P := P) w base t e i z size h1 h2 h3 h4 kl kc n b2 b3 b4
  subst hL
  subst hC
  unfold Oper.wpIn
  refine ⟨?_, ?_⟩
  · simp [Oper.about, hop]
  · rw [Oper.semAt_plain F _ _ (by rw [hop]; intro c hc'; cases hc')]
    simp [execOp, hop, hl, hc, hrun, Result.andThen]
    exact hK' _ _ (hK w' r1 r2)

end Go.Proofs.Ytcmliokkamgcdaa
