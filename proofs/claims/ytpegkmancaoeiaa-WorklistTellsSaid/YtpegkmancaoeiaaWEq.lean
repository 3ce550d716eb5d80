/-
  The definition's Equal, Same, Without and Least.
-/
import Derived.Test.YtpegkmancaoeiaaWRest
namespace Go.Proofs.Ytpegkmancaoeiaa
open Go.RowKit Go.WideShapes
set_option linter.unusedVariables false

def eqL (xs ys : List Int) : Bool := decide (xs = ys)
theorem eqL_self (xs : List Int) : eqL xs xs = true := by simp [eqL]
theorem eqL_iff {xs ys : List Int} : eqL xs ys = true ↔ xs = ys := by simp [eqL]
theorem eqL_len {xs ys : List Int} (h : ¬ xs.length = ys.length) : eqL xs ys = false := by
  unfold eqL; rw [decide_eq_false]; intro e; exact h (by rw [e])
theorem eqL_at {xs ys : List Int} {k : Nat} (h : ¬ xs.getD k 0 = ys.getD k 0) : eqL xs ys = false := by
  unfold eqL; rw [decide_eq_false]; intro e; exact h (by rw [e])
theorem eqL_all {xs ys : List Int} (hl : xs.length = ys.length) (h : ∀ i, i < xs.length → xs.getD i 0 = ys.getD i 0) : eqL xs ys = true := by
  unfold eqL; rw [decide_eq_true]
  apply List.ext_getElem hl
  intro i h1 h2
  have := h i h1
  simpa [List.getD, h1, h2] using this

set_option maxHeartbeats 400000 in
theorem equal_any (a : Option Addr) (c : Nat) (xs : List Int) (b : Option Addr) (d : Nat) (ys : List Int) (w : World) (hn : xs.length ≤ maxLen) (hm : ys.length ≤ maxLen) (hx : Ints w a xs) (hy : Ints w b ys) :
    Calls Try.prog 20 #[.slice a xs.length c, .slice b ys.length d] w fun e w' => e = .returned (.bool (eqL xs ys)) ∧ Drawn w w' := by
  unfold maxLen at hn hm
  by_cases hl : xs.length = ys.length
  · go_enter Try.func20, Try.ntmps20
    have Hl := Lib.hid hl
    have hb : ((xs.length : Int) != (ys.length : Int)) = false := by simp; omega
    rw [← hl]
    rw [← hl] at hb hm
    clear hl
    have Hx := Lib.hid hx
    have Hy := Lib.hid hy
    clear hx hy
    go_wp2
    go_loopw [5] (fun i wr => ∃ k : Nat, k ≤ xs.length ∧ i = .int .i64 k ∧ (∀ i, i < k → xs.getD i 0 = ys.getD i 0) ∧ Drawn w wr) (fun i _ => xs.length - (intOf i).toNat)
    case atStart => exact ⟨0, Nat.zero_le _, rfl, fun i hi => by omega, .refl _⟩
    case round =>
      obtain ⟨k, hk, rfl, hal, nw, rfl⟩ := hrel
      have Hal := Lib.hid hal
      clear hal
      by_cases hlt : k < xs.length
      · obtain ⟨b1, o1, rfl, hc1⟩ := Hx.out (by omega)
        obtain ⟨b2, o2, rfl, hc2⟩ := Hy.out (by rw [← Hl.out]; omega)
        have k1 := hc1 k hlt
        have k2 := hc2 k (by rw [← Hl.out]; exact hlt)
        obtain ⟨p, hp⟩ : ∃ p, xs.getD k 0 = p := ⟨_, rfl⟩
        obtain ⟨q, hq⟩ : ∃ q, ys.getD k 0 = q := ⟨_, rfl⟩
        rw [hp] at k1
        rw [hq] at k2
        have Hp := Lib.hid hp
        have Hq := Lib.hid hq
        clear hc1 hc2 hp hq
        by_cases e : p = q
        · have T := Lib.hid (show ∀ i, i < k + 1 → xs.getD i 0 = ys.getD i 0 from fun i hi => by
            rcases Nat.lt_or_ge i k with h | h
            · exact Hal.out i h
            · obtain rfl : i = k := by omega
              rw [Hp.out, Hq.out, e])
          subst e
          go_wp2
          go_quiet (fail)
          go_wp2
          go_roundw
          case rel => exact ⟨k + 1, by omega, by go_num, T.out, _, rfl⟩
          case measure => simp [intOf]; omega
        · have T := Lib.hid (eqL_at (xs := xs) (ys := ys) (k := k) (by rw [Hp.out, Hq.out]; exact e))
          have hb2 : (p != q) = true := by simpa using e
          go_wp2
          go_quiet (fail)
          go_wp2
          go_ret
          exact ⟨ret_bool T.out.symm, ((Drawn.refl _).step _).step _⟩
      · have T := Lib.hid (eqL_all Hl.out (fun i hi => Hal.out i (by omega)))
        go_wp2
        go_ret
        exact ⟨ret_bool T.out.symm, nw, rfl⟩
  · have T := Lib.hid (eqL_len hl)
    have hb : ((xs.length : Int) != (ys.length : Int)) = true := by simp; omega
    go_enter Try.func20, Try.ntmps20
    go_wp2
    go_ret
    exact ⟨ret_bool T.out.symm, .refl _⟩

theorem equal_at (a : Option Addr) (n c : Nat) (xs : List Int) (hn' : xs.length = n) (b : Option Addr) (m d : Nat) (ys : List Int) (hm' : ys.length = m) (r : Bool) (hr : eqL xs ys = r) (w : World) (hn : n ≤ maxLen) (hm : m ≤ maxLen) (hx : Ints w a xs) (hy : Ints w b ys) :
    Calls Try.prog 20 #[.slice a n c, .slice b m d] w fun e w' => e = .returned (.bool r) ∧ Drawn w w' := by
  subst hn' hm' hr
  exact equal_any a c xs b d ys w hn hm hx hy

def sameZ (rs zs rs2 zs2 : List Int) : Bool := eqL rs rs2 && eqL zs zs2
theorem Ints.drawn {w w' : World} {a : Option Addr} {zs : List Int} (h : Ints w a zs) (hd : Drawn w w') : Ints w' a zs := h.below (hd.below w.heap.size) (Nat.le_refl _)

set_option maxHeartbeats 800000 in
theorem same_any (ra : Option Addr) (rc : Nat) (rs : List Int) (za : Option Addr) (zc : Nat) (zs : List Int) (rb : Option Addr) (rd : Nat) (rs2 : List Int) (zb : Option Addr) (zd : Nat) (zs2 : List Int) (w : World)
    (hn : rs.length ≤ maxLen) (hm : zs.length ≤ maxLen) (hn2 : rs2.length ≤ maxLen) (hm2 : zs2.length ≤ maxLen) (hr : Ints w ra rs) (hz : Ints w za zs) (hr2 : Ints w rb rs2) (hz2 : Ints w zb zs2) :
    Calls Try.prog 13 #[.agg #[.slice ra rs.length rc, .slice za zs.length zc], .agg #[.slice rb rs2.length rd, .slice zb zs2.length zd]] w fun e w' => e = .returned (.bool (sameZ rs zs rs2 zs2)) ∧ Below w.heap.size w w' := by
  have Hr := Lib.hid ((hr.alloc (.cells #[.slice ra rs.length rc, .slice za zs.length zc] 24)).alloc (.cells #[.slice rb rs2.length rd, .slice zb zs2.length zd] 24))
  have Hz := Lib.hid ((hz.alloc (.cells #[.slice ra rs.length rc, .slice za zs.length zc] 24)).alloc (.cells #[.slice rb rs2.length rd, .slice zb zs2.length zd] 24))
  have Hr2 := Lib.hid ((hr2.alloc (.cells #[.slice ra rs.length rc, .slice za zs.length zc] 24)).alloc (.cells #[.slice rb rs2.length rd, .slice zb zs2.length zd] 24))
  have Hz2 := Lib.hid ((hz2.alloc (.cells #[.slice ra rs.length rc, .slice za zs.length zc] 24)).alloc (.cells #[.slice rb rs2.length rd, .slice zb zs2.length zd] 24))
  clear hr hz hr2 hz2
  obtain ⟨p, hp⟩ : ∃ p, eqL rs rs2 = p := ⟨_, rfl⟩
  obtain ⟨q, hq⟩ : ∃ q, eqL zs zs2 = q := ⟨_, rfl⟩
  have H := Lib.hid (show sameZ rs zs rs2 zs2 = (p && q) by unfold sameZ; rw [hp, hq])
  have Hp := Lib.hid hp
  have Hq := Lib.hid hq
  clear hp hq
  cases p with
  | true =>
    go_enter Try.func13, Try.ntmps13
    go_wp2_with fail
    refine (equal_at _ _ _ rs rfl _ _ _ rs2 rfl true Hp.out _ hn hn2 Hr.out Hr2.out).mono ?_
    rintro e w1 ⟨rfl, n1, rfl⟩
    go_wp2_with fail
    refine (equal_at _ _ _ zs rfl _ _ _ zs2 rfl q Hq.out _ hm hm2 (Hz.out.drewN _) (Hz2.out.drewN _)).mono ?_
    rintro e w1 ⟨rfl, n2, rfl⟩
    go_wp2
    go_ret
    exact ⟨ret_bool (by rw [H.out, Bool.true_and]), (((Below.refl _ w).alloc (Nat.le_refl _) _).alloc (by simp) _).trans (Drawn.below ⟨n1 + n2, rfl⟩ _)⟩
  | false =>
    go_enter Try.func13, Try.ntmps13
    go_wp2_with fail
    refine (equal_at _ _ _ rs rfl _ _ _ rs2 rfl false Hp.out _ hn hn2 Hr.out Hr2.out).mono ?_
    rintro e w1 ⟨rfl, n1, rfl⟩
    go_wp2
    go_ret
    exact ⟨ret_bool (by rw [H.out, Bool.false_and]), (((Below.refl _ w).alloc (Nat.le_refl _) _).alloc (by simp) _).trans (Drawn.below ⟨n1, rfl⟩ _)⟩

def wo (zs : List Int) (x : Int) : List Int := zs.filter fun y => !decide (y = x)
theorem wo_snoc {zs : List Int} {k : Nat} (h : k < zs.length) (x : Int) : wo (zs.take (k + 1)) x = wo (zs.take k) x ++ if zs.getD k 0 = x then [] else [zs.getD k 0] := by
  unfold wo
  rw [take_add_one_eq h, List.filter_append]
  generalize zs.getD k 0 = z
  by_cases e : z = x <;> simp [e]
theorem length_wo (zs : List Int) (x : Int) : (wo zs x).length ≤ zs.length := List.length_filter_le _ _

def WoEnd (w : World) (zs : List Int) (x : Int) (e : Ending) (w' : World) : Prop := ∃ v, e = .returned v ∧ Own w' w.heap.size v (wo zs x) ∧ Below w.heap.size w w'
set_option maxHeartbeats 800000 in
theorem without_any (a : Option Addr) (c : Nat) (zs : List Int) (x : Int) (w : World) (hn : zs.length ≤ 10000) (hz : Ints w a zs) :
    Calls Try.prog 19 #[.slice a zs.length c, .int .i64 x] w (WoEnd w zs x) := by
  have Hz := Lib.hid hz
  clear hz
  go_enter Try.func19, Try.ntmps19
  go_wp2
  go_loopw [5, 6] (fun o i wr => ∃ k : Nat, k ≤ zs.length ∧ i = .int .i64 k ∧ Own wr w.heap.size o (wo (zs.take k) x) ∧ Below w.heap.size w wr) (fun _ i _ => zs.length - (intOf i).toNat)
  case atStart => exact ⟨0, Nat.zero_le _, rfl, Own.nil _ _, Below.refl _ _⟩
  case round =>
    obtain ⟨k, hk, rfl, ho, hb⟩ := hrel
    obtain ⟨av, kv, rfl, -, -⟩ := ho.shape2
    have Ho := Lib.hid ho
    have Hb := Lib.hid hb
    have hs := hb.size
    have Hzr := Lib.hid (Hz.out.below hb (Nat.le_refl _))
    clear ho hb
    by_cases hlt : k < zs.length
    · obtain ⟨b, off, rfl, hcell⟩ := Hzr.out (by omega)
      have ck := hcell k hlt
      have hsn := wo_snoc hlt x
      have hlw := length_wo (zs.take k) x
      rw [List.length_take] at hlw
      obtain ⟨y, hy⟩ : ∃ y, zs.getD k 0 = y := ⟨_, rfl⟩
      rw [hy] at ck hsn
      have hbk := World.block_lt_of_cell? _ _ ck
      clear hcell hy
      by_cases e : y = x
      · rw [if_pos e, List.append_nil] at hsn
        have T := Lib.hid (show Own _ w.heap.size (Value.slice av (wo (zs.take k) x).length kv) (wo (zs.take (k + 1)) x) by rw [hsn]; exact Ho.out)
        clear hsn
        subst e
        go_wp2
        go_roundw
        case rel => exact ⟨k + 1, by omega, by go_num, T.out, Hb.out⟩
        case measure => simp [intOf]; omega
      · rw [if_neg e] at hsn
        have Hsn := Lib.hid hsn
        have hb2 : (y != x) = true := by simpa using e
        clear hsn e
        go_wp2_with (at_builtin; refine wpList_append_int rfl _ _ rfl w.heap.size _ (wo (zs.take k) x) rfl (Ho.out.alloc _) _ y rfl (by simp) (by omega) (by simp; omega) ?_)
        intro v' w' h1 h2
        have T := Lib.hid (show Own w' w.heap.size v' (wo (zs.take (k + 1)) x) by rw [Hsn.out]; exact h1)
        have Hb2 := Lib.hid (Ho.out.grown h2 Hb.out hs)
        clear h1 h2
        go_wp2
        go_roundw
        case rel => exact ⟨k + 1, by omega, by go_num, T.out, Hb2.out⟩
        case measure => simp [intOf]; omega
    · have T := Lib.hid (show Own _ w.heap.size (Value.slice av (wo (zs.take k) x).length kv) (wo zs x) by
        have e : zs.take k = zs := List.take_of_length_le (by omega)
        have h := Ho.out
        rw [e] at h ⊢
        exact h)
      go_wp2
      go_ret
      exact ⟨_, rfl, T.out, Hb.out⟩
end Go.Proofs.Ytpegkmancaoeiaa
