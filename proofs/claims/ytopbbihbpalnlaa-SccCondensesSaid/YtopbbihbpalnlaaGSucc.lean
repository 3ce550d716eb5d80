/-
  Succ: the successors of a node, in new memory.
-/
import Derived.Test.YtopbbihbpalnlaaGStops
namespace Go.Proofs.Ytopbbihbpalnlaa
open Go.RowKit Go.Shelf
set_option linter.unusedVariables false
attribute [local go_sem] Oper.semAt_some

theorem ownsRow_mono {w : World} {base b : Nat} {e : TypeId} {s : Nat} {v : Value} {n : Nat} {xs : List Value} (h : w.ownsRow base e s v n xs) (hb : b ≤ base) : w.ownsRow b e s v n xs := by
  obtain ⟨h1, h2⟩ := h
  refine ⟨h1, ?_⟩
  rcases h2 with h2 | ⟨g', cap', cur, hv, hb', hr⟩
  · exact .inl h2
  · exact .inr ⟨_, _, _, hv, Nat.le_trans hb hb', hr⟩
theorem KpG.appended {W w1 : World} {bg bv be L n₁ : Nat} {e : TypeId} {s k : Nat} {v v' : Value} {xs : List Value} {tmp : Obj} (hrow : W.ownsRow n₁ e s v k xs) (hgrow : (W.alloc tmp).grownBy w1 v.ownBlock)
    (h1 : bg < n₁) (h2 : bv < n₁) (h3 : be < n₁) (hsz : n₁ ≤ W.heap.size) (n1 : L ≠ bg) (n2 : L ≠ bv) (n3 : L ≠ be) : KpG bg bv be W (w1.setCell ⟨L, 0, none⟩ v') := by
  have f : ∀ q, q < n₁ → L ≠ q → (w1.setCell ⟨L, 0, none⟩ v').heap[q]? = W.heap[q]? := fun q hq hne => by
    rw [Below.heap_setCell w1 ⟨L, 0, none⟩ v' q (fun e => hne e.symm)]
    rw [hgrow.block q (by simp; omega) (fun e => by have := (World.ownsRow.lt hrow q e.symm).1; omega)]
    exact Below.heap_alloc W tmp q (by omega)
  refine ⟨⟨f _ h1 n1, f _ h2 n2, f _ h3 n3⟩, ?_⟩
  have := hgrow.size
  simp at this ⊢
  omega
/-- 'list = append(list, x)' in the body of a loop over the successors. -/
theorem appendedG {W w1 : World} {S L n₁ bg bv be : Nat} {t e : TypeId} {k m : Nat} {v v' : Value} {xs ys : List Value} {tmp : Obj}
    (hv : Boxed W L t v) (hte : t ≠ e) (hrow : W.ownsRow n₁ e 1 v k xs) (hs : S ≤ n₁) (hn : n₁ ≤ W.heap.size) (hL : S ≤ L) (hown' : w1.ownsRow n₁ e 1 v' m ys) (hgrow : (W.alloc tmp).grownBy w1 v.ownBlock)
    (h1 : bg < n₁) (h2 : bv < n₁) (h3 : be < n₁) (q1 : L ≠ bg) (q2 : L ≠ bv) (q3 : L ≠ be) :
    Boxed w1 L t v ∧ Boxed (w1.setCell ⟨L, 0, none⟩ v') L t v' ∧ (w1.setCell ⟨L, 0, none⟩ v').ownsRow n₁ e 1 v' m ys ∧ KeepsOthers W (w1.setCell ⟨L, 0, none⟩ v') ∧ Below S W (w1.setCell ⟨L, 0, none⟩ v') ∧ KpG bg bv be W (w1.setCell ⟨L, 0, none⟩ v') := by
  obtain ⟨a1, a2, _, a4, a5⟩ := hv.appended hte (ownsRow_mono hrow hs) (Nat.le_trans hs hn) hL (ownsRow_mono hown' hs) hgrow
  exact ⟨a1, a2, hown'.kept (grownBy_setCell' w1 L v') (.inr (a1.not_row hte hown').symm), a4, a5, KpG.appended hrow hgrow h1 h2 h3 hn q1 q2 q3⟩

theorem length_succL (ps : List (Int × Int)) (v : Int) : (succL ps v).length ≤ ps.length := by
  simp only [succL, List.length_map]; exact List.length_filter_le _ _
/-- What Succ returns. -/
def succS (N : Int) (ps : List (Int × Int)) (v : Int) : List Int := if gchk N ps = 0 then succL ps v else []

set_option maxHeartbeats 4000000 in
set_option maxRecDepth 100000 in
theorem succ_good (N : Int) (a : Option Addr) (c : Nat) (ps : List (Int × Int)) (v : Int) (w : World) (hE : Edg w a c ps) (hok : gchk N ps = 0) :
    Calls Try.prog 39 #[.agg #[.int .i64 N, .slice a ps.length c], .int .i64 v] w fun e w' => ∃ r, e = .returned r ∧ Own w' w.heap.size r (succL ps v) ∧ Below w.heap.size w w' := by
  obtain ⟨i0, hi, hz0, hz1, hz2⟩ := info_parts int_info
  have hg := gchk_ok hok
  have hm := hg.mono
  have hlen := hg.len
  obtain ⟨n, hl⟩ : ∃ n, ps.length = n := ⟨_, rfl⟩
  have hck : ∀ X, Below w.heap.size w X → Calls Try.prog 29 #[.agg #[.int .i64 N, .slice a n c]] X fun e w' => e = .returned (.int .i64 0) ∧ Below X.heap.size X w' := fun X hX => by
    have := check_any N a c ps X (by unfold maxLen; omega) (hE.below hX (Nat.le_refl _)).pairs
    rw [hok, hl] at this
    exact this
  have Hl := Lib.hid hl
  rw [hl]
  refine (callsIn_wide (n := 6)).1 ?_
  refine callsIn_of_wp_marks Try.func39 rfl trivial ?_ rfl
  simp only [Try.ntmps39, List.size_toArray, List.length_cons, List.length_nil, Nat.reduceAdd, Nat.reduceSub, Array.replicate_succ, Array.replicate_zero, List.push_toArray, List.append_toArray, List.nil_append, List.cons_append]
  have hb0 := Lib.hid ((Below.refl w.heap.size w).alloc (Nat.le_refl _) (Obj.cells #[Value.int .i64 N, Value.slice a n c] 24))
  gi_wp2_with fail
  refine ⟨trivial, (callsIn_wide.2 (hck _ hb0.out)).mono ?_⟩
  rintro e w1 ⟨rfl, hb1⟩
  have hs1 : w.heap.size < w1.heap.size := by have := hb1.size; simp at this; omega
  have c0 := (hb1.cell (p := ⟨w.heap.size, 0, none⟩) (by simp)).trans (show _ = some (Value.int .i64 N) by simp)
  have c1 := (hb1.cell (p := ⟨w.heap.size, 1, none⟩) (by simp)).trans (show _ = some (Value.slice a n c) by simp)
  have Hb1 := Lib.hid (hb0.out.trans (hb1.mono (by simp)))
  clear hb1
  gi_wp2_with fail
  refine ⟨trivial, (callsIn_wide.2 (successors_any N a n c v _)).mono ?_⟩
  rintro e w2 ⟨rfl, rfl⟩
  have bL := ((Boxed.new w1 31 (.slice none 0 0)).alloc (.cells #[.int .i64 N, .slice a n c] 24)).alloc (.cells #[.int .i64 v] 3)
  have hB0 : Below w1.heap.size w1 (((w1.alloc (.cells #[.slice none 0 0] 31)).alloc (.cells #[.int .i64 N, .slice a n c] 24)).alloc (.cells #[.int .i64 v] 3)) := (((Below.refl _ w1).alloc (Nat.le_refl _) _).alloc (by simp) _).alloc (by simp; omega) _
  have k1 : (((w1.alloc (.cells #[.slice none 0 0] 31)).alloc (.cells #[.int .i64 N, .slice a n c] 24)).alloc (.cells #[.int .i64 v] 3)).cell? ⟨w1.heap.size + 1, 1, none⟩ = some (.slice a n c) := by simp [go_sem]
  have k2 : (((w1.alloc (.cells #[.slice none 0 0] 31)).alloc (.cells #[.int .i64 N, .slice a n c] 24)).alloc (.cells #[.int .i64 v] 3)).cell? ⟨w1.heap.size + 1 + 1, 0, none⟩ = some (.int .i64 v) := by simp [go_sem]
  have hs2 : (((w1.alloc (.cells #[.slice none 0 0] 31)).alloc (.cells #[.int .i64 N, .slice a n c] 24)).alloc (.cells #[.int .i64 v] 3)).heap.size = w1.heap.size + 3 := by simp
  simp only [World.size_alloc] at bL hB0 k1 k2 ⊢
  generalize hW0 : ((w1.alloc (.cells #[.slice none 0 0] 31)).alloc (.cells #[.int .i64 N, .slice a n c] 24)).alloc (.cells #[.int .i64 v] 3) = W0 at *
  clear hW0
  gi_wp2
  have hE0 := hE.below (Hb1.out.trans (hB0.mono Hb1.out.size)) (Nat.le_refl _)
  obtain ⟨be, hbe, hbe1, hbe2, hstops⟩ := succ_stops 5 (by omega) (w1.heap.size + 1) (w1.heap.size + 1 + 1) a c v ps hm hlen W0 hE0 (by rw [hl]; exact k1) k2
  have hbl : w1.heap.size ≠ be := by
    intro e
    by_cases h0 : ps = []
    · have := hbe1 h0; omega
    · obtain ⟨b, off, rfl, hp⟩ := hE.pairs (List.length_pos_iff.2 h0)
      have h1 := World.block_lt_of_cell? _ _ (hp 0 (List.length_pos_iff.2 h0)).1
      have h2 := hbe2 h0
      simp only [blk] at h2 h1
      omega
  have hBw : Below w.heap.size w W0 := Hb1.out.trans (hB0.mono Hb1.out.size)
  refine wpIn_rangeFunc_ownG rfl (by omega) (gf := 68) (lb := #[.pointer (some ⟨w1.heap.size + 1, 0, none⟩), .pointer (some ⟨w1.heap.size + 1 + 1, 0, none⟩)]) rfl trivial (enters_of Try.func68 (by kernel_rfl) rfl)
    hstops KpG.trans (KpG.put (by omega) (by omega) hbe) (Below.refl _ _) (fun _ => rfl)
    (fun pre W => (∃ u, Boxed W w1.heap.size 31 u ∧ W.ownsRow W0.heap.size 3 1 u pre.length (pre.map (Value.int .i64)) ∧ True) ∧ (Below w.heap.size w W ∧ W0.heap.size ≤ W.heap.size))
    (fun _ _ _ => False)
    ?hI (fun _ _ _ _ _ hs _ _ => hs)
    ⟨⟨_, bL, World.ownsRow_nil _ _ _ _, trivial⟩, hBw, Nat.le_refl _⟩
    (fun x => { tmps := #[.agg #[.int .i64 N, .slice a n c], .int .i64 v, .pointer (some ⟨w.heap.size, 0, none⟩), undef, .slice none 0 0, .pointer (some ⟨w1.heap.size, 0, none⟩), .int .i64 x, .agg #[.int .i64 N, .slice a n c], .int .i64 0, .bool false, .agg #[.int .i64 N, .slice a n c], .int .i64 v, .func (.func 68) #[] #[.pointer (some ⟨w1.heap.size + 1, 0, none⟩), .pointer (some ⟨w1.heap.size + 1 + 1, 0, none⟩)], .int .i64 x, undef, undef, undef, undef, undef], defers := [] }) ?assign ?body ?done ?stop
  case hI =>
    refine OwnFrom.and (Go.Own.from (holdsRow_own W0.heap.size w1.heap.size 31 3 1 (fun pre : List Int => pre.length) (fun pre => pre.map (Value.int .i64)) (fun _ _ => True)) _) (OwnFrom.and (ownFrom_below (Nat.le_refl _) (by omega)) ?_)
    intro s A B row hs hg hr
    exact Nat.le_trans hs hg.size
  case assign =>
    intro l x W K hK
    gi_wp2
    exact hK
  case body =>
    rintro l pre x W ⟨⟨u, hv, hrow, _⟩, hB, hsz⟩ hlt
    have hc := hv.cell
    gi_wp2_with (gi_at_builtin; refine wpListIn_append_own _ rfl _ _ 31 rfl W0.heap.size 3 i0 (.int .i64 0) 1 8 Try.underlying31 hi hz0 hz1 hz2 rfl (by decide) _ _ _ rfl (hrow.alloc _) ⟨W.heap.size, 0, none⟩ 1 1 [.int .i64 x] rfl rfl (cell_one_new _ _ _) (by simp [Value.oneCell']) (by unfold maxLen; omega) (by omega) (by simp; omega) ?_; intro v' w1' hown' hgrow _; obtain ⟨g', cap', rfl⟩ := ownsRow_succ hown'; obtain ⟨hv1, hv2, hr2, hk2, hb2, hkp⟩ := appendedG (bg := w1.heap.size + 1) (bv := w1.heap.size + 1 + 1) (be := be) hv (by decide) hrow (by omega) hsz (Nat.le_of_lt hs1) hown' hgrow (by omega) (by omega) hbe (by omega) (by omega) hbl; have hc1 := hv1.cell; have hf1 := hv1.frozen)
    have hsz2 : W0.heap.size ≤ (w1'.setCell ⟨w1.heap.size, 0, none⟩ (.slice (some ⟨g', 0, none⟩) (pre.length + 1) cap')).heap.size := Nat.le_trans hsz hkp.2
    exact ⟨hk2.from _, hkp, ⟨_, hv2, by simpa using hr2, trivial⟩, hB.trans hb2, hsz2⟩
  case done =>
    rintro D ys W hD rfl ⟨⟨u, hv, hrow, _⟩, hB, hsz⟩ hK
    have hc := hv.cell
    gi_wp2
    refine ⟨by simp, .inl ⟨_, _, rfl, run_takeDeferred hK, ?_⟩⟩
    refine ⟨_, results_tmp rfl _ _ _, u, rfl, ?_, hB.trans (belowK_b (w := w) (Nat.le_refl _) W D _ _ (by omega) hK rfl rfl)⟩
    exact ownsRow_mono (ownsRow_putObj hrow _ hK rfl) (by omega)
  case stop =>
    rintro D c pre W _ _ h _
    exact h.elim
end Go.Proofs.Ytopbbihbpalnlaa
