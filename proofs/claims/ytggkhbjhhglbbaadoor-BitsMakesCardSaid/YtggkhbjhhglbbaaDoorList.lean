/-
  List: the elements, ascending.
-/
import Derived.Test.YtggkhbjhhglbbaaDoorGood
import Derived.Test.YtggkhbjhhglbbaaDoorWith
namespace Go.Proofs.YtggkhbjhhglbbaaDoor
open Go.RowKit Go.WideShapes
set_option linter.unusedVariables false

/-- The bits of a word, ascending. -/
def bitsOf (x : Nat) : List Nat := (List.range 64).filter x.testBit
theorem bitsOf_zero : bitsOf 0 = [] := by decide
theorem mem_bitsOf {x i : Nat} : i ∈ bitsOf x ↔ i < 64 ∧ x.testBit i = true := by simp [bitsOf]
theorem asc_bitsOf (x : Nat) : Asc (bitsOf x) := by
  unfold Asc bitsOf
  exact List.Pairwise.filter _ List.pairwise_lt_range
theorem two_pow_testBit (c i : Nat) : (2 ^ c).testBit i = decide (c = i) := Nat.testBit_two_pow
/-- The lowest bit comes first; without it the rest is left. -/
theorem bitsOf_step {x c p : Nat} (h0 : x ≠ 0) (hx : x < 18446744073709551616) (hc : Lib.ctz 64 x = c) (hp : 2 ^ c = p) : bitsOf x = c :: bitsOf (andNotN x p) ∧ andNotN x p < x := by
  have hbit := ctz_bit h0 hx
  have hlow := fun j => ctz_low (j := j) h0 hx
  have hlt := ctz_lt h0 hx
  rw [hc] at hbit hlt hlow
  have hpl : p < 18446744073709551616 := by rw [← hp]; exact two_pow_lt c hlt
  have tb : ∀ i, (andNotN x p).testBit i = (x.testBit i && !decide (c = i)) := fun i => by
    rw [testBit_andNotN x p i hpl hx, ← hp, two_pow_testBit]
  constructor
  · refine asc_ext (asc_bitsOf x) ?_ fun i => ?_
    · unfold Asc
      rw [List.pairwise_cons]
      refine ⟨fun i hi => ?_, asc_bitsOf _⟩
      obtain ⟨h1, h2⟩ := mem_bitsOf.1 hi
      rw [tb] at h2
      simp only [Bool.and_eq_true, Bool.not_eq_true', decide_eq_false_iff_not] at h2
      rcases Nat.lt_or_ge i c with h | h
      · rw [hlow i h] at h2; cases h2.1
      · omega
    · rw [List.mem_cons, mem_bitsOf, mem_bitsOf, tb]
      simp only [Bool.and_eq_true, Bool.not_eq_true', decide_eq_false_iff_not]
      constructor
      · rintro ⟨h1, h2⟩
        by_cases e : i = c
        · exact .inl e
        · exact .inr ⟨h1, h2, fun h => e h.symm⟩
      · rintro (rfl | ⟨h1, h2, _⟩)
        · exact ⟨hlt, hbit⟩
        · exact ⟨h1, h2⟩
  · have hle : andNotN x p ≤ x := Nat.and_le_left
    have hne : andNotN x p ≠ x := fun h => by
      have := tb c
      rw [h, hbit] at this
      simp at this
    omega
theorem elemsTo_word (ws : List Nat) (k : Nat) : elemsTo ws (64 * (k + 1)) = elemsTo ws (64 * k) ++ (bitsOf (ws.getD k 0)).map (fun i => 64 * k + i) := by
  unfold elemsTo bitsOf
  rw [show 64 * (k + 1) = 64 * k + 64 from by omega, List.range_add, List.filter_append, List.filter_map]
  congr 2
  apply List.filter_congr
  intro i hi
  have hi := List.mem_range.1 hi
  show mem ws (64 * k + i) = _
  unfold mem
  rw [show (64 * k + i) / 64 = k from by omega, show (64 * k + i) % 64 = i from by omega]

/-- The elements as Go's ints. -/
def asInts (l : List Nat) : List Int := l.map fun (n : Nat) => (n : Int)
theorem length_asInts (l : List Nat) : (asInts l).length = l.length := by simp [asInts]
theorem getD_asInts (l : List Nat) (i : Nat) : (asInts l).getD i 0 = ((l.getD i 0 : Nat) : Int) := by
  simp only [asInts, List.getD_eq_getElem?_getD, List.getElem?_map]
  cases l[i]? <;> simp
theorem asInts_append (a b : List Nat) : asInts (a ++ b) = asInts a ++ asInts b := by simp [asInts]
theorem asInts_inj {a b : List Nat} (h : asInts a = asInts b) : a = b := by
  have := congrArg (List.map Int.toNat) h
  simpa [asInts, Function.comp_def] using this
theorem list_step {E L : List Nat} {k x c x' : Nat} (h : E = L ++ (bitsOf x).map (fun i => 64 * k + i)) (hb : bitsOf x = c :: bitsOf x') : E = (L ++ [64 * k + c]) ++ (bitsOf x').map (fun i => 64 * k + i) := by
  rw [h, hb]; simp
theorem list_done {E L : List Nat} {k : Nat} (h : E = L ++ (bitsOf 0).map (fun i => 64 * k + i)) : L = E := by
  rw [h, bitsOf_zero]; simp
theorem list_len {E L : List Nat} {k x c x' : Nat} (h : E = L ++ (bitsOf x).map (fun i => 64 * k + i)) (hb : bitsOf x = c :: bitsOf x') : L.length + 1 ≤ E.length := by
  rw [h, hb]; simp

set_option maxHeartbeats 1600000 in
theorem list_any {a : Option Addr} {c : Nat} {ws : List Nat} {w : World} (hg : Good w a c ws) (hT : Tz w) :
    Calls Tryd.prog 14 #[.slice a ws.length c] w fun e w' => ∃ v, e = .returned v ∧ Own w' w.heap.size v (asInts (elems ws)) ∧ Below w.heap.size w w' := by
  obtain ⟨i0, hi0, hz0, hz1, hz2⟩ := info_parts int_info
  have Hg := Lib.hid hg
  have HT := Lib.hid hT
  have hn := hg.len
  have hcl : (elems ws).length ≤ 70400 := by have := length_elemsTo_le ws (64 * ws.length); unfold elems; omega
  obtain ⟨n, hne⟩ : ∃ n, (elems ws).length = n := ⟨_, rfl⟩
  have Hn := Lib.hid hne
  rw [hne] at hcl
  clear hg hT hne
  go_enter Tryd.func14, Tryd.ntmps14
  go_wp2_with fail
  refine (count_g Hg.out).mono ?_
  rw [Hn.out]
  rintro e w' ⟨rfl, rfl⟩
  go_wp2_with (at_make; refine wpList_make_own _ rfl _ _ 29 rfl w.heap.size 3 i0 (.int .i64 0) 1 Tryd.underlying29 hi0 hz0 hz1 _ _ _ n rfl rfl rfl ?_ ?_ ?_ ?_)
  · rw [hz2]; omega
  · unfold maxLen; omega
  · exact Nat.le_refl _
  intro w1 hown hgr
  have Hown1 := Lib.hid (show Own w1 w.heap.size (.slice (some ⟨w.heap.size, 0, none⟩) 0 n) [] from hown)
  have Hb1 := Lib.hid ((Below.refl _ _).grown hgr (Nat.le_refl _) (fun k hk => by cases hk) : Below w.heap.size w w1)
  clear hown hgr
  go_wp2
  go_loopw [3, 12] (fun v i wr => ∃ k : Nat, k ≤ ws.length ∧ i = .int .i64 k ∧ Own wr w.heap.size v (asInts (elemsTo ws (64 * k))) ∧ Below w.heap.size w wr) (fun _ i _ => ws.length - (intOf i).toNat)
  case atStart => exact ⟨0, Nat.zero_le _, rfl, (show asInts (elemsTo ws (64 * 0)) = [] from rfl) ▸ Hown1.out, Hb1.out⟩
  case round =>
    obtain ⟨k, hk, rfl, hown, hb⟩ := hrel
    have Hown := Lib.hid hown
    have Hb := Lib.hid hb
    clear hown hb
    by_cases hlt : k < ws.length
    · obtain ⟨b, off, rfl, hc⟩ := (Hg.out.below Hb.out (Nat.le_refl _)).words (by omega)
      have ck := hc k hlt
      have hy := Hg.out.wf k
      have HE := Lib.hid (elemsTo_word ws k)
      have hel : (elemsTo ws (64 * (k + 1))).length ≤ 70400 := by have := length_elemsTo_le ws (64 * (k + 1)); omega
      generalize ws.getD k 0 = y at *
      clear hc
      go_wp2
      go_loopw [3, 5] (fun v r wq => ∃ (x : Nat) (L : List Nat), r = .int .u64 x ∧ x < 18446744073709551616 ∧ elemsTo ws (64 * (k + 1)) = L ++ (bitsOf x).map (fun i => 64 * k + i) ∧ Own wq w.heap.size v (asInts L) ∧ Below w.heap.size w wq) (fun _ r _ => (intOf r).toNat)
      case atStart => exact ⟨y, _, rfl, hy, HE.out, Hown.out, Hb.out⟩
      case round =>
        obtain ⟨x, L, rfl, hx, hL, hown, hb⟩ := hrel
        have Hown2 := Lib.hid hown
        have Hb2 := Lib.hid hb
        have HL := Lib.hid hL
        clear hown hb hL
        by_cases h0 : x = 0
        · subst h0
          have e := Lib.hid (list_done HL.out)
          go_wp2
          go_roundw
          case rel => exact ⟨k + 1, by omega, by go_num, by rw [← e.out]; exact Hown2.out, Hb2.out⟩
          case measure => simp [intOf]; omega
        · have t0 : ((x : Int) != 0) = true := by rw [bne_iff_ne]; omega
          have hcz := ctz_lt h0 hx
          have htz := Lib.hid (tz_any x h0 hx wr (HT.out.below Hb2.out (Nat.le_refl _)))
          have hst := fun p => bitsOf_step (p := p) h0 hx rfl
          generalize Lib.ctz 64 x = j at *
          have ks := kshl j hcz
          have hpl := two_pow_lt j hcz
          have hs := hst _ rfl
          obtain ⟨p, hp⟩ : ∃ p, 2 ^ j = p := ⟨_, rfl⟩
          rw [hp] at ks hpl hs
          have ko := kandNot x p hx hpl
          obtain ⟨x', hx'⟩ : ∃ x', andNotN x p = x' := ⟨_, rfl⟩
          have hxl : x' < 18446744073709551616 := by rw [← hx']; exact andNotN_lt _ _ hx
          rw [hx'] at ko hs
          have Hs := Lib.hid (list_step HL.out hs.1)
          have Hlen := Lib.hid (list_len HL.out hs.1)
          have hms := hs.2
          clear hst hs hp hx'
          go_wp2_with (first | (go_at_call 39; refine htz.out.mono ?_; rintro e w' ⟨rfl, rfl⟩) | (at_builtin; refine wpList_append_int rfl _ _ rfl w.heap.size _ _ rfl (Hown2.out.alloc _) wr.heap.size (((64 * k + j : Nat)) : Int) rfl ?_ ?_ ?_ ?_))
          · simp [go_sem]; omega
          · rw [length_asInts]; have := Hlen.out; omega
          · have := Hb2.out.size; simp; omega
          intro v' w3 hown' hgrow
          have Ha := Lib.hid hown'
          have Hb3 := Lib.hid (Hown2.out.grown hgrow Hb2.out Hb2.out.size)
          clear hown' hgrow
          go_wp2
          go_roundw
          case rel => exact ⟨x', L ++ [64 * k + j], rfl, hxl, Hs.out, by rw [asInts_append]; exact Ha.out, Hb3.out⟩
          case measure => simp [intOf]; omega
    · obtain rfl : k = ws.length := by omega
      go_wp2
      go_ret
      exact ⟨_, rfl, Hown.out, Hb.out⟩
end Go.Proofs.YtggkhbjhhglbbaaDoor
