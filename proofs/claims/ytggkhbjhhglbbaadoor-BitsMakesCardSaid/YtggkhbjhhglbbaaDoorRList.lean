/-
  The definition's List, Has, Next, Valid, in, Within.
-/
import Derived.Test.YtggkhbjhhglbbaaDoorWalks
namespace Go.Proofs.YtggkhbjhhglbbaaDoor
open Go.RowKit Go.WideShapes
set_option linter.unusedVariables false

theorem half (y k : Nat) : y / 2 ^ (k + 1) = y / 2 ^ k / 2 := by rw [Nat.pow_succ, Nat.div_div_eq_div_mul]
theorem elemsTo_yes {ws : List Nat} {i k : Nat} (hk : k < 64) (h : ws.getD i 0 / 2 ^ k % 2 = 1) : elemsTo ws (64 * i + (k + 1)) = elemsTo ws (64 * i + k) ++ [64 * i + k] := by
  rw [← Nat.add_assoc, elemsTo_succ]
  have : mem ws (64 * i + k) = true := by
    unfold mem
    rw [show (64 * i + k) / 64 = i from by omega, show (64 * i + k) % 64 = k from by omega, Nat.testBit_eq_decide_div_mod_eq, h]; rfl
  rw [this]; rfl
theorem elemsTo_no {ws : List Nat} {i k : Nat} (hk : k < 64) (h : ws.getD i 0 / 2 ^ k % 2 = 0) : elemsTo ws (64 * i + (k + 1)) = elemsTo ws (64 * i + k) := by
  rw [← Nat.add_assoc, elemsTo_succ]
  have : mem ws (64 * i + k) = false := by
    unfold mem
    rw [show (64 * i + k) / 64 = i from by omega, show (64 * i + k) % 64 = k from by omega, Nat.testBit_eq_decide_div_mod_eq, h]; rfl
  rw [this]; simp

set_option maxHeartbeats 1600000 in
theorem rlist_any {a : Option Addr} {c : Nat} {ws : List Nat} {w : World} (hg : Good w a c ws) :
    Calls Tryd.prog 15 #[.slice a ws.length c] w fun e w' => ∃ v, e = .returned v ∧ Own w' w.heap.size v (asInts (elems ws)) ∧ Below w.heap.size w w' := by
  have Hg := Lib.hid hg
  have hn := hg.len
  clear hg
  go_enter Tryd.func15, Tryd.ntmps15
  go_wp2
  go_loopw [3, 4] (fun v i wr => ∃ k : Nat, k ≤ ws.length ∧ i = .int .i64 k ∧ Own wr w.heap.size v (asInts (elemsTo ws (64 * k))) ∧ Below w.heap.size w wr) (fun _ i _ => ws.length - (intOf i).toNat)
  case atStart => exact ⟨0, Nat.zero_le _, rfl, (show asInts (elemsTo ws (64 * 0)) = [] from rfl) ▸ Own.nil _ _, Below.refl _ _⟩
  case round =>
    obtain ⟨i, hi, rfl, hown, hb⟩ := hrel
    have Hown := Lib.hid hown
    have Hb := Lib.hid hb
    clear hown hb
    by_cases hlt : i < ws.length
    · obtain ⟨b, off, rfl, hc⟩ := (Hg.out.below Hb.out (Nat.le_refl _)).words (by omega)
      have ck := hc i hlt
      have hy := Hg.out.wf i
      obtain ⟨y, hye⟩ : ∃ y, ws.getD i 0 = y := ⟨_, rfl⟩
      have Hy := Lib.hid hye
      rw [hye] at ck hy
      clear hc hye
      go_wp2
      go_loopw [3, 5, 6] (fun v r j wq => ∃ (z k : Nat), k ≤ 64 ∧ j = .int .i64 k ∧ r = .int .u64 z ∧ z < 18446744073709551616 ∧ y / 2 ^ k = z ∧ Own wq w.heap.size v (asInts (elemsTo ws (64 * i + k))) ∧ Below w.heap.size w wq) (fun _ _ j _ => 64 - (intOf j).toNat)
      case atStart => exact ⟨y, 0, by omega, rfl, rfl, hy, by simp, Hown.out, Hb.out⟩
      case round =>
        obtain ⟨z, k, hk, rfl, rfl, hz, hzy, hown, hb⟩ := hrel
        have Hown2 := Lib.hid hown
        have Hb2 := Lib.hid hb
        have hln := length_elemsTo_le ws (64 * i + k)
        have Hzy := Lib.hid hzy
        have hz2 : z / 2 < 18446744073709551616 := by omega
        have hdiv : (z : Int) / 2 = ((z / 2 : Nat) : Int) := by omega
        have hdiv2 : (z : Int).tdiv 2 = ((z / 2 : Nat) : Int) := by rw [Int.tdiv_eq_ediv_of_nonneg (by omega)]; omega
        have Hhalf := Lib.hid (show y / 2 ^ (k + 1) = z / 2 by rw [half, hzy])
        clear hown hb hzy
        by_cases hlt2 : k < 64
        · rcases Nat.mod_two_eq_zero_or_one z with hm | hm
          · have e := Lib.hid (elemsTo_no (ws := ws) (i := i) hlt2 (by rw [Hy.out, Hzy.out]; exact hm))
            have m1 : (z : Int) % 2 = 0 := by omega
            have m2 : (z : Int).tmod 2 = 0 := by rw [Int.tmod_eq_emod_of_nonneg (by omega)]; exact m1
            generalize z / 2 = z2 at *
            clear hm
            go_wp2
            go_roundw
            case rel => exact ⟨z2, k + 1, by omega, by go_num, rfl, hz2, Hhalf.out, by rw [e.out]; exact Hown2.out, Hb2.out⟩
            case measure => simp [intOf]; omega
          · have e := Lib.hid (elemsTo_yes (ws := ws) (i := i) hlt2 (by rw [Hy.out, Hzy.out]; exact hm))
            have m1 : (z : Int) % 2 = 1 := by omega
            have m2 : (z : Int).tmod 2 = 1 := by rw [Int.tmod_eq_emod_of_nonneg (by omega)]; exact m1
            generalize z / 2 = z2 at *
            clear hm
            go_wp2_with (at_builtin; refine wpList_append_int rfl _ _ rfl w.heap.size _ _ rfl (Hown2.out.alloc _) wr.heap.size (((64 * i + k : Nat)) : Int) rfl ?_ ?_ ?_ ?_)
            · simp [go_sem]
            · rw [length_asInts]; omega
            · have := Hb2.out.size; simp; omega
            intro v' w3 hown' hgrow
            have Ha := Lib.hid hown'
            have Hb3 := Lib.hid (Hown2.out.grown hgrow Hb2.out Hb2.out.size)
            clear hown' hgrow
            go_wp2
            go_roundw
            case rel => exact ⟨z2, k + 1, by omega, by go_num, rfl, hz2, Hhalf.out, by rw [e.out, asInts_append]; exact Ha.out, Hb3.out⟩
            case measure => simp [intOf]; omega
        · have hk64 : k = 64 := by omega
          subst hk64
          go_wp2
          go_roundw
          case rel => exact ⟨i + 1, by omega, by go_num, by rw [show 64 * (i + 1) = 64 * i + 64 from by omega]; exact Hown2.out, Hb2.out⟩
          case measure => simp [intOf]; omega
    · obtain rfl : i = ws.length := by omega
      go_wp2
      go_ret
      exact ⟨_, rfl, Hown.out, Hb.out⟩

theorem card_le' {ws : List Nat} (h : ws.length ≤ 1100) : (elems ws).length ≤ 70400 := by
  have := length_elemsTo_le ws (64 * ws.length)
  unfold elems
  omega
/-- The definition's List, its result laid open. -/
theorem rlist_open {a : Option Addr} {c : Nat} {ws : List Nat} {w : World} {zs : List Int} {n : Nat} (hg : Good w a c ws) (hz : asInts (elems ws) = zs) (hn : zs.length = n) :
    Calls Tryd.prog 15 #[.slice a ws.length c] w fun e w' => ∃ al cl, e = .returned (.slice al n cl) ∧ Ints w' al zs ∧ Below w.heap.size w w' := by
  subst hz
  subst hn
  refine (rlist_any hg).mono ?_
  rintro e w' ⟨v, rfl, hown, hb⟩
  obtain ⟨al, cl, rfl, hi⟩ := hown.shape
  exact ⟨al, cl, rfl, hi, hb⟩
/-- The program's List, its result laid open. -/
theorem list_open {a : Option Addr} {c : Nat} {ws : List Nat} {w : World} {zs : List Int} {n : Nat} (hg : Good w a c ws) (hT : Tz w) (hz : asInts (elems ws) = zs) (hn : zs.length = n) :
    Calls Tryd.prog 14 #[.slice a ws.length c] w fun e w' => ∃ al cl, e = .returned (.slice al n cl) ∧ Ints w' al zs ∧ Below w.heap.size w w' := by
  subst hz
  subst hn
  refine (list_any hg hT).mono ?_
  rintro e w' ⟨v, rfl, hown, hb⟩
  obtain ⟨al, cl, rfl, hi⟩ := hown.shape
  exact ⟨al, cl, rfl, hi, hb⟩

/-- Is x in the list of the elements? -/
def hasB (ws : List Nat) (x : Int) : Bool := decide (x ∈ asInts (elems ws))
theorem intMem {l : List Int} {x : Int} : x ∈ l ↔ ∃ j, j < l.length ∧ l.getD j 0 = x := by
  constructor
  · intro h
    obtain ⟨i, hi, e⟩ := List.getElem_of_mem h
    exact ⟨i, hi, by simp [List.getD_eq_getElem?_getD, hi, e]⟩
  · rintro ⟨j, hj, rfl⟩
    simp [List.getD_eq_getElem?_getD, hj]

set_option maxHeartbeats 800000 in
theorem rhas_any {a : Option Addr} {c : Nat} {ws : List Nat} {w : World} (x : Int) (hg : Good w a c ws) :
    Calls Tryd.prog 17 #[.slice a ws.length c, .int .i64 x] w fun e w' => e = .returned (.bool (hasB ws x)) ∧ Below w.heap.size w w' := by
  have hcl := card_le' hg.len
  have Hg := Lib.hid hg
  rw [← length_asInts] at hcl
  unfold hasB
  obtain ⟨zs, hzs⟩ : ∃ zs, asInts (elems ws) = zs := ⟨_, rfl⟩
  have Hzs := Lib.hid hzs
  rw [hzs] at hcl ⊢
  clear hg hzs
  go_enter Tryd.func17, Tryd.ntmps17
  go_wp2_with fail
  refine (rlist_open Hg.out Hzs.out rfl).mono ?_
  rintro e w1 ⟨al, cl, rfl, hi, hb⟩
  have Hi := Lib.hid hi
  have Hb := Lib.hid hb
  clear hi hb
  go_wp2
  go_loop [6] (fun i => ∃ k : Nat, k ≤ zs.length ∧ i = .int .i64 k ∧ ∀ j, j < k → zs.getD j 0 ≠ x) (fun i => zs.length - (intOf i).toNat)
  case atStart => exact ⟨0, Nat.zero_le _, rfl, fun j hj => absurd hj (by omega)⟩
  case round =>
    obtain ⟨k, hk, rfl, hall⟩ := hrel
    have Hall := Lib.hid hall
    clear hall
    by_cases hlt : k < zs.length
    · obtain ⟨bl, off, rfl, hc⟩ := Hi.out (by omega)
      have ck := hc k hlt
      obtain ⟨p, hp⟩ : ∃ p, zs.getD k 0 = p := ⟨_, rfl⟩
      have Hp := Lib.hid hp
      rw [hp] at ck
      clear hc hp
      by_cases e : p = x
      · have hfin := Lib.hid (show (true : Bool) = decide (x ∈ zs) by
          symm; rw [decide_eq_true_eq, intMem]; exact ⟨k, hlt, by rw [Hp.out]; exact e⟩)
        have t0 : (p == x) = true := by rw [beq_iff_eq]; exact e
        clear e
        go_wp2
        go_ret
        exact ⟨ret_bool hfin.out, Hb.out⟩
      · have t0 : (p == x) = false := by rw [beq_eq_false_iff_ne]; exact e
        have E := Lib.hid e
        clear e
        go_wp2
        go_round
        case rel =>
          refine ⟨k + 1, by omega, by go_num, fun j hj => ?_⟩
          by_cases e2 : j = k
          · rw [e2, Hp.out]; exact E.out
          · exact Hall.out j (by omega)
        case measure => simp [intOf]; omega
    · have hfin := Lib.hid (show (false : Bool) = decide (x ∈ zs) by
        symm; rw [decide_eq_false_iff_not, intMem]; rintro ⟨j, hj, hx⟩; exact Hall.out j (by omega) hx)
      go_wp2
      go_ret
      exact ⟨ret_bool hfin.out, Hb.out⟩

theorem rnext_hit {ws : List Nat} {x : Int} {k : Nat} (hk : k < (asInts (elems ws)).length) (h1 : x ≤ (asInts (elems ws)).getD k 0) (h2 : ∀ j, j < k → (asInts (elems ws)).getD j 0 < x) : (asInts (elems ws)).getD k 0 = nextS ws x := by
  symm
  rw [length_asInts] at hk
  rw [getD_asInts] at *
  refine nextS_of (.inr ⟨_, rfl, mem_elems.1 (getD_mem hk), h1, fun i hi hx => ?_⟩)
  obtain ⟨j, hj, rfl⟩ := mem_getD (mem_elems.2 hi)
  rcases Nat.lt_trichotomy j k with c | c | c
  · have := h2 j c; rw [getD_asInts] at this; omega
  · subst c; exact Nat.le_refl _
  · exact Nat.le_of_lt (asc_getD (asc_elems ws) c hj)
theorem rnext_miss {ws : List Nat} {x : Int} (h2 : ∀ j, j < (asInts (elems ws)).length → (asInts (elems ws)).getD j 0 < x) : -1 = nextS ws x := by
  symm
  refine nextS_of (.inl ⟨rfl, fun i hi => ?_⟩)
  obtain ⟨j, hj, rfl⟩ := mem_getD (mem_elems.2 hi)
  have := h2 j (by rw [length_asInts]; exact hj)
  rw [getD_asInts] at this
  exact this

set_option maxHeartbeats 800000 in
theorem rnext_any {a : Option Addr} {c : Nat} {ws : List Nat} {w : World} (x : Int) (hg : Good w a c ws) :
    Calls Tryd.prog 20 #[.slice a ws.length c, .int .i64 x] w fun e w' => e = .returned (.int .i64 (nextS ws x)) ∧ Below w.heap.size w w' := by
  have hcl := card_le' hg.len
  have Hg := Lib.hid hg
  rw [← length_asInts] at hcl
  have Hhit := Lib.hid (fun k => rnext_hit (ws := ws) (x := x) (k := k))
  have Hmiss := Lib.hid (rnext_miss (ws := ws) (x := x))
  obtain ⟨zs, hzs⟩ : ∃ zs, asInts (elems ws) = zs := ⟨_, rfl⟩
  have Hzs := Lib.hid hzs
  rw [hzs] at hcl Hhit Hmiss
  obtain ⟨res, hres⟩ : ∃ res, nextS ws x = res := ⟨_, rfl⟩
  rw [hres] at Hhit Hmiss ⊢
  clear hg hzs hres
  go_enter Tryd.func20, Tryd.ntmps20
  go_wp2_with fail
  refine (rlist_open Hg.out Hzs.out rfl).mono ?_
  rintro e w1 ⟨al, cl, rfl, hi, hb⟩
  have Hi := Lib.hid hi
  have Hb := Lib.hid hb
  clear hi hb
  go_wp2
  go_loop [6] (fun i => ∃ k : Nat, k ≤ zs.length ∧ i = .int .i64 k ∧ ∀ j, j < k → zs.getD j 0 < x) (fun i => zs.length - (intOf i).toNat)
  case atStart => exact ⟨0, Nat.zero_le _, rfl, fun j hj => absurd hj (by omega)⟩
  case round =>
    obtain ⟨k, hk, rfl, hall⟩ := hrel
    have Hall := Lib.hid hall
    clear hall
    by_cases hlt : k < zs.length
    · obtain ⟨bl, off, rfl, hc⟩ := Hi.out (by omega)
      have ck := hc k hlt
      obtain ⟨p, hp⟩ : ∃ p, zs.getD k 0 = p := ⟨_, rfl⟩
      have Hp := Lib.hid hp
      rw [hp] at ck
      clear hc hp
      by_cases e : x ≤ p
      · have hfin := Lib.hid (Hhit.out k hlt (by rw [Hp.out]; exact e) Hall.out)
        rw [Hp.out] at hfin
        go_wp2
        go_ret
        exact ⟨ret_int hfin.out, Hb.out⟩
      · go_wp2
        go_round
        case rel =>
          refine ⟨k + 1, by omega, by go_num, fun j hj => ?_⟩
          by_cases e2 : j = k
          · rw [e2, Hp.out]; omega
          · exact Hall.out j (by omega)
        case measure => simp [intOf]; omega
    · have hfin := Lib.hid (Hmiss.out fun j hj => Hall.out j (by omega))
      go_wp2
      go_ret
      exact ⟨ret_int hfin.out, Hb.out⟩
end Go.Proofs.YtggkhbjhhglbbaaDoor
