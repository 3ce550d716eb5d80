/-
  With, Without and the definition's Drop and Elem, in one form.
-/
import Derived.Test.YtggkhbjhhglbbaaDoorCombines
namespace Go.Proofs.YtggkhbjhhglbbaaDoor
open Go.RowKit Go.WideShapes
set_option linter.unusedVariables false

/-- The words are the set with the elements P, in normal form. -/
structure IsS (us : List Nat) (P : Nat → Bool) : Prop where
  wf : Wf us
  normal : Normal us
  mem : ∀ i, mem us i = P i
theorem IsS.unique {a b : List Nat} {P : Nat → Bool} (h : IsS a P) (k : IsS b P) : a = b :=
  ext_normal h.wf k.wf h.normal k.normal fun i => by rw [h.mem, k.mem]

theorem setW_or {ws : List Nat} {n x : Nat} (hwf : Wf ws) (hcs : (tl ws < x / 64 + 1 ∧ n = x / 64 + 1) ∨ (x / 64 + 1 < tl ws ∧ n = tl ws) ∨ (tl ws = x / 64 + 1 ∧ n = x / 64 + 1)) :
    IsS (setW (· ||| ·) ws n x) (fun i => mem ws i || decide (i = x)) := by
  have hp := two_pow_lt (x % 64) (by omega)
  have hn : x / 64 < n := by omega
  refine ⟨Wf.tab fun i _ => ?_, .inr ?_, fun i => ?_⟩
  · split
    · exact or_lt _ _ (hwf i) hp
    · exact hwf i
  · rw [setW, length_tab, getD_tab, if_pos (by omega)]
    split
    · apply or_ne_right
      have : 0 < 2 ^ (x % 64) := Nat.pow_pos (by omega)
      omega
    · rcases hcs with h | h | h
      · omega
      · rcases tl_last ws with t | t
        · omega
        · rw [h.2]; exact t
      · omega
  · unfold mem setW
    rw [getD_tab]
    by_cases h1 : i / 64 < n
    · rw [if_pos h1]
      by_cases h2 : i / 64 = x / 64
      · rw [if_pos h2, Nat.testBit_or, Nat.testBit_two_pow, h2]
        congr 1
        rw [Bool.eq_iff_iff, decide_eq_true_eq, decide_eq_true_eq]
        omega
      · rw [if_neg h2]
        have : decide (i = x) = false := by rw [decide_eq_false_iff_not]; intro h; subst h; exact h2 rfl
        rw [this]; simp
    · rw [if_neg h1, tl_zero ws (i / 64) (by omega)]
      have : decide (i = x) = false := by rw [decide_eq_false_iff_not]; intro h; subst h; omega
      rw [this]; simp
theorem mem_sized (ws : List Nat) (i : Nat) : mem (sized ws (tl ws)) i = mem ws i := by
  unfold mem sized
  rw [getD_tab]
  split
  · rfl
  · rw [tl_zero ws (i / 64) (by omega)]
theorem setW_andNot {ws : List Nat} {x : Nat} (hwf : Wf ws) : IsS (trimL (setW andNotN ws (tl ws) x)) (fun i => mem ws i && !decide ((i : Int) = (x : Int))) := by
  have hp := two_pow_lt (x % 64) (by omega)
  refine ⟨(Wf.tab fun i _ => ?_ : Wf (setW andNotN ws (tl ws) x)).trimL, normal_trimL _, fun i => ?_⟩
  · split
    · exact andNotN_lt _ _ (hwf i)
    · exact hwf i
  · rw [mem_trimL]
    have hd : decide ((i : Int) = (x : Int)) = decide (i = x) := by rw [Bool.eq_iff_iff, decide_eq_true_eq, decide_eq_true_eq]; omega
    rw [hd]
    unfold mem setW
    rw [getD_tab]
    by_cases h1 : i / 64 < tl ws
    · rw [if_pos h1]
      by_cases h2 : i / 64 = x / 64
      · rw [if_pos h2, testBit_andNotN _ _ _ hp (hwf _), Nat.testBit_two_pow, h2]
        congr 2
        rw [Bool.eq_iff_iff, decide_eq_true_eq, decide_eq_true_eq]
        omega
      · rw [if_neg h2]
        have : decide (i = x) = false := by rw [decide_eq_false_iff_not]; intro h; subst h; exact h2 rfl
        rw [this]; simp
    · rw [if_neg h1, tl_zero ws (i / 64) (by omega)]
      simp

theorem with_ok {a : Option Addr} {c : Nat} {ws : List Nat} {w : World} {x : Nat} (hx : x < 65536) (h : Good w a c ws) :
    Calls Tryd.prog 35 #[.slice a ws.length c, .int .i64 x] w fun e w' => ∃ a' c' cs, e = .returned (.tuple #[.slice a' cs.length c', .int .i64 0]) ∧ Good w' a' c' cs ∧
      IsS cs (fun i => mem ws i || decide (i = x)) ∧ Below w.heap.size w w' := by
  obtain ⟨n, hcs⟩ : ∃ n, (tl ws < x / 64 + 1 ∧ n = x / 64 + 1) ∨ (x / 64 + 1 < tl ws ∧ n = tl ws) ∨ (tl ws = x / 64 + 1 ∧ n = x / 64 + 1) := by
    rcases Nat.lt_trichotomy (tl ws) (x / 64 + 1) with h1 | h1 | h1
    · exact ⟨_, .inl ⟨h1, rfl⟩⟩
    · exact ⟨_, .inr (.inr ⟨h1, rfl⟩)⟩
    · exact ⟨_, .inr (.inl ⟨h1, rfl⟩)⟩
  have his := setW_or h.wf hcs
  have hl : (setW (· ||| ·) ws n x).length = n := length_tab _ _
  have hn : n ≤ 1100 := by have := tl_le ws; have := h.len; omega
  refine (with_core a c ws x (x / 64) (x % 64) n rfl rfl hx hcs w h.len h.cap h.max h.wf h.words).mono ?_
  rintro e w' ⟨g, rfl, hr, hb⟩
  exact ⟨_, _, _, by rw [hl], RowW.good hr (by rw [hl]; exact hn) his.wf, his, hb⟩
theorem trim_good {w : World} {base g n : Nat} {us : List Nat} (hl : us.length = n) (hn : n ≤ 1100) (hr : RowW w base g n (trimL us)) (hw : Wf (trimL us)) : Good w (some ⟨g, 0, none⟩) n (trimL us) := by
  refine RowW.good hr ?_ hw
  rw [length_trimL]
  have := tl_le us
  omega
theorem without_g {a : Option Addr} {c : Nat} {ws : List Nat} {w : World} {x : Int} (hx : x ≤ 9223372036854775807) (h : Good w a c ws) :
    Calls Tryd.prog 36 #[.slice a ws.length c, .int .i64 x] w fun e w' => ∃ a' c' ds, e = .returned (.slice a' ds.length c') ∧ Good w' a' c' ds ∧
      IsS ds (fun i => mem ws i && !decide ((i : Int) = x)) ∧ Below w.heap.size w w' := by
  have hn : tl ws ≤ 1100 := by have := tl_le ws; have := h.len; omega
  have hs : (sized ws (tl ws)).length = tl ws := length_tab _ _
  by_cases hneg : x < 0
  · have his : IsS (trimL (sized ws (tl ws))) (fun i => mem ws i && !decide ((i : Int) = x)) := ⟨(wf_sized h.wf _).trimL, normal_trimL _, fun i => by
      have : decide ((i : Int) = x) = false := by rw [decide_eq_false_iff_not]; omega
      rw [mem_trimL, mem_sized, this]; simp⟩
    refine (without_neg a c ws x hneg w h.len h.cap h.max h.wf h.words).mono ?_
    rintro e w' ⟨g, rfl, hr, hb⟩
    exact ⟨_, _, _, by rw [length_trimL], trim_good hs hn hr his.wf, his, hb⟩
  · obtain ⟨m, rfl⟩ : ∃ m : Nat, x = m := ⟨x.toNat, by omega⟩
    by_cases hm : mem (sized ws (tl ws)) m = true
    · have his := setW_andNot (x := m) h.wf
      refine (without_yes a c ws m (m / 64) (m % 64) (tl ws) rfl rfl rfl hm w h.len h.cap h.max h.wf h.words).mono ?_
      rintro e w' ⟨g, rfl, hr, hb⟩
      exact ⟨_, _, trimL (setW andNotN ws (tl ws) m), by rw [length_trimL], trim_good (us := setW andNotN ws (tl ws) m) (by rw [setW, length_tab]) hn hr his.wf, his, hb⟩
    · have hm2 : mem (sized ws (tl ws)) m = false := by simpa using hm
      have his : IsS (trimL (sized ws (tl ws))) (fun i => mem ws i && !decide ((i : Int) = (m : Int))) := ⟨(wf_sized h.wf _).trimL, normal_trimL _, fun i => by
        rw [mem_trimL, mem_sized]
        by_cases e : i = m
        · subst e; rw [mem_sized] at hm2; rw [hm2]; rfl
        · have : decide ((i : Int) = (m : Int)) = false := by rw [decide_eq_false_iff_not]; omega
          rw [this]; simp⟩
      refine (without_no a c ws m (by omega) hm2 w h.len h.cap h.max h.wf h.words).mono ?_
      rintro e w' ⟨g, rfl, hr, hb⟩
      exact ⟨_, _, _, by rw [length_trimL], trim_good hs hn hr his.wf, his, hb⟩

set_option maxHeartbeats 400000 in
theorem relem_yes (x : Nat) (w : World) (hx : x < 65536) :
    Calls Tryd.prog 31 #[.int .i64 x] w fun e w' => e = .returned (.bool true) ∧ w = w' := by
  go_enter Tryd.func31, Tryd.ntmps31
  go_wp2
  go_ret
  exact ⟨ret_bool (by first | (simp; done) | (simp; omega) | rfl), rfl⟩
set_option maxHeartbeats 400000 in
theorem relem_no (x : Int) (w : World) (hx : x < 0 ∨ 65536 ≤ x) :
    Calls Tryd.prog 31 #[.int .i64 x] w fun e w' => e = .returned (.bool false) ∧ w = w' := by
  rcases hx with hx | hx
  · go_enter Tryd.func31, Tryd.ntmps31
    go_wp2
    go_ret
    exact ⟨ret_bool (by first | (simp; done) | (simp; omega) | rfl), rfl⟩
  · have hx0 : 0 ≤ x := by omega
    go_enter Tryd.func31, Tryd.ntmps31
    go_wp2
    go_ret
    exact ⟨ret_bool (by first | (simp; done) | (simp; omega) | rfl), rfl⟩

/-- The first k numbers without x. -/
def dropTo (L : List Nat) (x : Int) (k : Nat) : List Nat := (L.take k).filter fun y => !decide ((y : Int) = x)
theorem dropTo_len (L : List Nat) (x : Int) (k : Nat) : (dropTo L x k).length ≤ k := by
  have h1 := List.length_filter_le (fun y : Nat => !decide ((y : Int) = x)) (L.take k)
  have h2 : (L.take k).length ≤ k := by rw [List.length_take]; omega
  unfold dropTo
  omega
theorem dropTo_keep {L : List Nat} {x : Int} {k y : Nat} (hk : k < L.length) (hy : L.getD k 0 = y) (h : (y : Int) ≠ x) : dropTo L x (k + 1) = dropTo L x k ++ [y] := by
  unfold dropTo
  rw [take_next hk, List.filter_append, hy]
  simp [h]
theorem dropTo_skip {L : List Nat} {x : Int} {k y : Nat} (hk : k < L.length) (hy : L.getD k 0 = y) (h : (y : Int) = x) : dropTo L x (k + 1) = dropTo L x k := by
  unfold dropTo
  rw [take_next hk, List.filter_append, hy]
  simp [h]

set_option maxHeartbeats 1600000 in
theorem rdrop_g {a : Option Addr} {c : Nat} {ws ds : List Nat} {w : World} {x : Int} (hd : IsS ds (fun i => mem ws i && !decide ((i : Int) = x))) (hg : Good w a c ws) :
    Calls Tryd.prog 37 #[.slice a ws.length c, .int .i64 x] w fun e w' => ∃ a' c', e = .returned (.slice a' ds.length c') ∧ Good w' a' c' ds ∧ Below w.heap.size w w' := by
  have hcl := card_le' hg.len
  have Hg := Lib.hid hg
  have Hd := Lib.hid hd
  have Hbd := Lib.hid (fun y (hy : y ∈ elems ws) => elem_bound (mem_elems.1 hy) hg.len)
  have Hasc := Lib.hid (asc_elems ws)
  have Hmem := Lib.hid (fun i => mem_elems (ws := ws) (i := i))
  obtain ⟨L, hL⟩ : ∃ L, elems ws = L := ⟨_, rfl⟩
  have HL := Lib.hid (show asInts (elems ws) = asInts L by rw [hL])
  rw [hL] at hcl Hbd Hasc Hmem
  clear hg hd hL
  go_enter Tryd.func37, Tryd.ntmps37
  go_wp2_with fail
  refine (rlist_open Hg.out HL.out (length_asInts L)).mono ?_
  rintro e w1 ⟨al, cl, rfl, hi, hb⟩
  have Hi := Lib.hid hi
  have Hb1 := Lib.hid hb
  clear hi hb
  go_wp2
  go_loopw [6, 7] (fun v i wr => ∃ k : Nat, k ≤ L.length ∧ i = .int .i64 k ∧ Own wr w1.heap.size v (asInts (dropTo L x k)) ∧ Below w1.heap.size w1 wr) (fun _ i _ => L.length - (intOf i).toNat)
  case atStart => exact ⟨0, Nat.zero_le _, rfl, (show asInts (dropTo L x 0) = [] from rfl) ▸ Own.nil _ _, Below.refl _ _⟩
  case round =>
    obtain ⟨k, hk, rfl, hown, hb⟩ := hrel
    have Hown := Lib.hid hown
    have Hb := Lib.hid hb
    have hdl := dropTo_len L x k
    clear hown hb
    by_cases hlt : k < L.length
    · obtain ⟨bl, off, rfl, hc⟩ := (Hi.out.below Hb.out (Nat.le_refl _)) (by rw [length_asInts]; omega)
      have ck := hc k (by rw [length_asInts]; omega)
      rw [getD_asInts] at ck
      obtain ⟨y, hy⟩ : ∃ y, L.getD k 0 = y := ⟨_, rfl⟩
      have Hy := Lib.hid hy
      rw [hy] at ck
      clear hc hy
      by_cases e : (y : Int) = x
      · have hs := Lib.hid (dropTo_skip hlt Hy.out e)
        have t0 : ((y : Int) != x) = false := by simp [e]
        have E := Lib.hid e
        clear e
        go_wp2
        go_roundw
        case rel => exact ⟨k + 1, by omega, by go_num, by rw [hs.out]; exact Hown.out, Hb.out⟩
        case measure => simp [intOf]; omega
      · have hs := Lib.hid (dropTo_keep hlt Hy.out e)
        have t0 : ((y : Int) != x) = true := by rw [bne_iff_ne]; exact e
        clear e
        go_wp2_with (at_builtin; refine wpList_append_int rfl _ _ rfl w1.heap.size _ _ rfl (Hown.out.alloc _) wr.heap.size ((y : Nat) : Int) rfl ?_ ?_ ?_ ?_)
        · simp [go_sem]
        · rw [length_asInts]; omega
        · have := Hb.out.size; simp; omega
        intro v' w3 hown' hgrow
        have Ha := Lib.hid hown'
        have Hb3 := Lib.hid (Hown.out.grown hgrow Hb.out Hb.out.size)
        clear hown' hgrow
        go_wp2
        go_roundw
        case rel => exact ⟨k + 1, by omega, by go_num, by rw [hs.out, asInts_append]; exact Ha.out, Hb3.out⟩
        case measure => simp [intOf]; omega
    · obtain rfl : k = L.length := by omega
      have Hm := Lib.hid (show ∀ i, i ∈ dropTo L x L.length ↔ i ∈ L ∧ (i : Int) ≠ x from fun i => by
        unfold dropTo
        rw [List.take_length, List.mem_filter]
        simp)
      have Hasc2 := Lib.hid (show Asc (dropTo L x L.length) by
        have := Hasc.out
        unfold Asc dropTo at *
        rw [List.take_length]
        exact List.Pairwise.filter _ this)
      obtain ⟨av, cv, hv, hiv⟩ := Hown.out.shape
      obtain ⟨K, hK⟩ : ∃ K, dropTo L x L.length = K := ⟨_, rfl⟩
      rw [hK] at Hm Hasc2 hv hiv hdl
      rw [length_asInts] at hv
      subst hv
      have Hiv := Lib.hid hiv
      have Hbnd := Lib.hid (show ∀ y ∈ K, y < 70400 from fun y hy => Hbd.out y ((Hm.out y).1 hy).1)
      clear hiv hK
      go_wp2_with fail
      refine (rmake_any av cv K.length K _ rfl (by omega) Hasc2.out Hbnd.out Hiv.out).mono ?_
      rintro e w5 ⟨v5, ms, rfl, hown5, hset, hb5⟩
      have hms : ms = ds := ext_normal hset.wf Hd.out.wf hset.normal Hd.out.normal fun i => by
        rw [Hd.out.mem, Bool.eq_iff_iff, hset.mem, Hm.out, Hmem.out]
        simp
      subst hms
      obtain ⟨a5, c5, rfl, hg5⟩ := hown5.good (hset.len fun y hy => Hbnd.out y hy) hset.wf
      have Hg5 := Lib.hid hg5
      have hbz : Below w.heap.size w w5 := Hb1.out.trans ((Hb.out.trans (hb5.mono Hb.out.size)).mono Hb1.out.size)
      clear hown5 hb5 hg5 hset
      go_wp2_with fail
      go_ret
      exact ⟨_, _, rfl, Hg5.out, hbz⟩
end Go.Proofs.YtggkhbjhhglbbaaDoor
