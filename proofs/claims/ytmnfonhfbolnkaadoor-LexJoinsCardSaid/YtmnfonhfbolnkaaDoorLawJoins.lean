/-
  The law LexJoins.
-/
import Derived.Test.YtmnfonhfbolnkaaDoorJoinW
import Derived.Test.YtmnfonhfbolnkaaDoorLawSpans
import Derived.Deep.QuietTactic
import Derived.BigQuiet
namespace Go.Proofs.YtmnfonhfbolnkaaDoor
open Go.RowKit Go.Shelf
set_option linter.unusedVariables false
set_option linter.unusedSimpArgs false

def bA (l : List UInt8) : ByteArray := ⟨l.toArray⟩
theorem bA_list (l : List UInt8) : (bA l).toList = l := by rw [Lib.toList_data]; simp [bA]
theorem bA_size (l : List UInt8) : (bA l).size = l.length := by simp [bA, ByteArray.size]
theorem bA_add (l m : List UInt8) : bA l ++ bA m = bA (l ++ m) := by
  apply bytes_eq
  rw [Lib.toList_data, Lib.toList_data]
  simp [bA]
theorem bA_of (t : ByteArray) : bA t.data.toList = t := by
  apply bytes_eq
  rw [bA_list, Lib.toList_data]
theorem fold_len : ∀ (ts : List Tok) (out : List UInt8), out.length ≤ (ts.foldl jst out).length
  | [], out => Nat.le_refl _
  | t :: r, out => by
    rw [List.foldl_cons]
    refine Nat.le_trans ?_ (fold_len r (jst out t))
    unfold jst
    by_cases h0 : t.t.size = 0
    · rw [if_pos h0]; exact Nat.le_refl _
    · rw [if_neg h0]
      by_cases h1 : out = []
      · rw [if_pos h1, h1]; exact Nat.zero_le _
      · rw [if_neg h1]; simp
theorem fold_take_len (ts : List Tok) (k : Nat) : ((ts.take k).foldl jst []).length ≤ (Jt ts).length := by
  rw [← fold_J ts]
  conv => rhs; rw [← List.take_append_drop k ts, List.foldl_append]
  exact fold_len _ _
set_option maxHeartbeats 4000000 in
set_option maxRecDepth 100000 in
theorem rjoin_any (a : Option Addr) (c : Nat) (ts : List Tok) (w : World) (hn : ts.length ≤ 70000) (hx : Toks w a ts) (j : List UInt8) (hj : Jt ts = j) (hl : j.length ≤ 70000) :
    Calls Tryd.prog 20 #[.slice a ts.length c] w fun e w' => e = .returned (.string (bA j)) ∧ w' = w := by
  have Hx := Lib.hid hx
  have hfj := fold_J ts
  have hft := fold_take_len ts
  rw [hj] at hfj hft
  have Hj := Lib.hid hfj
  have Hft := Lib.hid hft
  obtain ⟨n, hln⟩ : ∃ n, ts.length = n := ⟨_, rfl⟩
  have Hl := Lib.hid hln
  rw [hln] at hn ⊢
  clear hx hln hfj hj hft
  go_enter Tryd.func20, Tryd.ntmps20
  go_wp2
  go_loopw [3, 4] (fun v x W => ∃ k : Nat, x = .int .i64 k ∧ k ≤ n ∧ v = .string (bA ((ts.take k).foldl jst [])) ∧ W = w) (fun _ x _ => n - (intOf x).toNat)
  case atStart => exact ⟨0, rfl, Nat.zero_le _, rfl, rfl⟩
  case round =>
    obtain ⟨k, rfl, hk, rfl, rfl⟩ := hrel
    obtain ⟨out, hout⟩ : ∃ out, (ts.take k).foldl jst [] = out := ⟨_, rfl⟩
    have Hout := Lib.hid hout
    rw [hout]
    have hol : out.length ≤ 70000 := by have := Hft.out k; rw [hout] at this; omega
    clear hout
    by_cases hlt : k < n
    · obtain ⟨b, off, rfl, hcell⟩ := Hx.out (by rw [Hl.out]; omega)
      obtain ⟨_, _, c2, _⟩ := hcell k (by rw [Hl.out]; exact hlt)
      have hnext := foldl_next ts k (by rw [Hl.out]; exact hlt)
      rw [Hout.out] at hnext
      have hfl := Hft.out (k + 1)
      obtain ⟨⟨tk, ta, tt, tn⟩, ht⟩ : ∃ t, ts.getD k tokD = t := ⟨_, rfl⟩
      rw [ht] at hnext c2
      simp only at c2
      rw [hnext] at hfl
      have hbt := bA_of tt
      have Hbt := Lib.hid hbt
      have Hnext := Lib.hid hnext
      unfold jst at hfl
      simp only at hfl
      clear hcell ht hnext hbt
      by_cases h0 : tt.size = 0
      · have gE : tt.toList.isEmpty = true := List.isEmpty_iff.mpr ((toList_nil tt).mpr h0)
        have g : (tt.toList == []) = true := by rw [beq_iff_eq]; exact (toList_nil tt).mpr h0
        clear hfl
        go_wp2
        go_roundw
        case rel => exact ⟨k + 1, by go_num, by omega, by rw [Hnext.out]; unfold jst; rw [if_pos h0], by trivial⟩
        case measure => simp [intOf]; omega
      · have gE : tt.toList.isEmpty = false := by
          cases hh : tt.toList.isEmpty with
          | false => rfl
          | true => exact absurd ((toList_nil tt).mp (List.isEmpty_iff.mp hh)) h0
        have g : (tt.toList == []) = false := by rw [beq_eq_false_iff_ne]; intro h; exact h0 ((toList_nil tt).mp h)
        rw [if_neg h0] at hfl
        have htz : tt.size ≤ 70000 := by
          have h1 : (tB ⟨tk, ta, tt, tn⟩).length = tt.size := tB_len _
          by_cases h2 : out = []
          · rw [if_pos h2] at hfl; omega
          · rw [if_neg h2] at hfl; simp at hfl; omega
        by_cases h2 : out = []
        · subst h2
          have hE : Hid (bA [] ++ tt = bA (jst [] ⟨tk, ta, tt, tn⟩)) := by
            show _ = _
            unfold jst tB
            rw [if_neg h0, if_pos rfl]
            show bA [] ++ tt = bA tt.data.toList
            rw [Hbt.out]
            apply bytes_eq
            rw [Lib.toList_data, Lib.toList_data]
            simp [bA]
          obtain ⟨B, hB⟩ : ∃ B, bA [] = B := ⟨_, rfl⟩
          have hBz : B.size = 0 := by rw [← hB]; rfl
          have hBl : B.toList.isEmpty = true := by rw [← hB, bA_list]; rfl
          have hBn : (B.toList != []) = false := by rw [← hB, bA_list]; rfl
          rw [hB] at hE ⊢
          clear hfl hB
          go_wp2
          go_roundw
          case rel => exact ⟨k + 1, by go_num, by omega, by rw [Hnext.out]; exact congrArg Value.string hE.out, by trivial⟩
          case measure => simp [intOf]; omega
        · have hE : Hid (bA out ++ ⟨#[32]⟩ ++ tt = bA (jst out ⟨tk, ta, tt, tn⟩)) := by
            show _ = _
            unfold jst tB
            rw [if_neg h0, if_neg h2]
            show bA out ++ bA [32] ++ tt = bA (out ++ 32 :: tt.data.toList)
            conv => lhs; rw [← Hbt.out]
            rw [bA_add, bA_add]
            simp
          obtain ⟨B, hB⟩ : ∃ B, bA out = B := ⟨_, rfl⟩
          have hBz : B.size ≤ 70000 := by rw [← hB, bA_size]; exact hol
          have hBs : (B ++ (⟨#[32]⟩ : ByteArray)).size = B.size + 1 := by rw [ByteArray.size_append]; rfl
          have hBl : B.toList.isEmpty = false := by
            rw [← hB, bA_list]
            cases hh : out.isEmpty with
            | false => rfl
            | true => exact absurd (List.isEmpty_iff.mp hh) h2
          have hBn : (B.toList != []) = true := by rw [← hB, bA_list, bne_iff_ne]; exact h2
          rw [hB] at hE ⊢
          clear hfl hB
          go_wp2
          go_roundw
          case rel => exact ⟨k + 1, by go_num, by omega, by rw [Hnext.out]; exact congrArg Value.string hE.out, by trivial⟩
          case measure => simp [intOf]; omega
    · obtain rfl : k = n := by omega
      have hfull : ts.take k = ts := List.take_of_length_le (by rw [Hl.out]; exact Nat.le_refl _)
      have hjo : Hid (out = j) := by show _ = _; rw [← Hout.out, hfull]; exact Hj.out
      go_wp2
      go_ret
      exact ⟨by rw [hjo.out]; rfl, rfl⟩
set_option maxHeartbeats 8000000 in
set_option maxRecDepth 100000 in
theorem joins_no (s : ByteArray) (w : World) (hs : s.size ≤ maxLen) (hT : Tabs w) (r : Whole) (hr : whole s = r) (b : Bool) (hb : (r.e != 0) = b) (hbig : b = true ∨ 3000 < s.size) : Calls Tryd.prog 7 #[.string s] w (BoolEnd true w) := by
  have HT := Lib.hid hT
  have Hc := Lib.hid (fun W (hW : Tabs W) => tokens_any s r hr W hs hW)
  unfold maxLen at hs
  clear hT hr
  cases b with
  | true =>
    go_enter Tryd.func7, Tryd.ntmps7
    go_wp2_with fail
    refine (Hc.out w HT.out).mono ?_
    rintro e w1 ⟨v, rfl, hown, hb1⟩
    obtain ⟨a, c, rfl, hrd⟩ := hown.shape
    have HT1 := Lib.hid (HT.out.below hb1 (Nat.le_refl _))
    have Hb1 := Lib.hid hb1
    clear hrd hown hb1
    go_wp2_with (go_at_call 11; refine (awake_any _ HT1.out).mono ?_; rintro e w8 ⟨rfl, hb8⟩; have Hb8 := Lib.hid hb8; clear hb8)
    go_ret
    exact ⟨rfl, Hb1.out.trans (Hb8.out.mono Hb1.out.size)⟩
  | false =>
    have g : decide ((3000 : Int) < (s.size : Int)) = true := by simp; rcases hbig with h | h; cases h; omega
    go_enter Tryd.func7, Tryd.ntmps7
    go_wp2_with fail
    refine (Hc.out w HT.out).mono ?_
    rintro e w1 ⟨v, rfl, hown, hb1⟩
    obtain ⟨a, c, rfl, hrd⟩ := hown.shape
    have HT1 := Lib.hid (HT.out.below hb1 (Nat.le_refl _))
    have Hb1 := Lib.hid hb1
    clear hrd hown hb1
    go_wp2_with (go_at_call 11; refine (awake_any _ HT1.out).mono ?_; rintro e w8 ⟨rfl, hb8⟩; have Hb8 := Lib.hid hb8; clear hb8)
    go_ret
    exact ⟨rfl, Hb1.out.trans (Hb8.out.mono Hb1.out.size)⟩
theorem f3_at {l m : List Tok} (h : l.map f3 = m.map f3) (k : Nat) (hk : k < m.length) : (l.getD k tokD).k = (m.getD k tokD).k ∧ (l.getD k tokD).t = (m.getD k tokD).t ∧ (l.getD k tokD).n = (m.getD k tokD).n := by
  have hl : l.length = m.length := by have := congrArg List.length h; simpa using this
  have h1 := congrArg (fun x => x[k]?) h
  simp only [List.getElem?_map] at h1
  rw [List.getElem?_eq_getElem (by omega), List.getElem?_eq_getElem hk] at h1
  simp only [Option.map_some, Option.some.injEq, f3, Prod.mk.injEq] at h1
  simpa [List.getD, hk, show k < l.length from by omega] using h1
set_option maxHeartbeats 8000000 in
set_option maxRecDepth 100000 in
theorem joins_ok (s : ByteArray) (w : World) (hs : s.size ≤ 3000) (hT : Tabs w) (r : Whole) (hr : whole s = r) (he : (r.e != 0) = false) (hch : Ch s 0 r.l) (hlen : r.l.length ≤ 70000) : Calls Tryd.prog 7 #[.string s] w (BoolEnd true w) := by
  have hJ := whole_J hch hs
  have hJl := (Jt_len r.l 0 (Nat.zero_le _) hch).1
  obtain ⟨j, hj⟩ : ∃ j, Jt r.l = j := ⟨_, rfl⟩
  rw [hj] at hJ hJl
  have hj7 : j.length ≤ 70000 := by omega
  have hbz := bA_size j
  obtain ⟨r2, hr2⟩ : ∃ r2, whole (bA j) = r2 := ⟨_, rfl⟩
  have hJ2 : r2.e = 0 ∧ r2.l.map f3 = r.l.map f3 := by rw [← hr2]; exact hJ
  have HT := Lib.hid hT
  have Hc := Lib.hid (fun W (hW : Tabs W) => tokens_any s r hr W (by unfold maxLen; omega) hW)
  have Hd := Lib.hid (fun W (hW : Tabs W) => tokens_any (bA j) r2 hr2 W (by unfold maxLen; omega) hW)
  have hl2 : r2.l.length = r.l.length := by have := congrArg List.length hJ2.2; simpa using this
  have Hf3 := Lib.hid (f3_at hJ2.2)
  have he2 : (r2.e != 0) = false := by rw [hJ2.1]; rfl
  obtain ⟨n, hn⟩ : ∃ n, r.l.length = n := ⟨_, rfl⟩
  rw [hn] at hl2
  have hn7 : n ≤ 70000 := by omega
  have Hn := Lib.hid hn
  have Hn2 := Lib.hid hl2
  have Hj := Lib.hid hj
  have g : decide ((3000 : Int) < (s.size : Int)) = false := by simp; omega
  obtain ⟨B, hB⟩ : ∃ B, bA j = B := ⟨_, rfl⟩
  have Hpj := Lib.hid (fun a c W (hx : Toks W a r.l) => pjoin_any a c r.l W hlen hx j hj hj7)
  have Hrj := Lib.hid (fun a c W (hx : Toks W a r.l) => rjoin_any a c r.l W hlen hx j hj hj7)
  have eB : (⟨j.toArray⟩ : ByteArray) = B := hB
  rw [eB] at Hpj
  rw [hB] at Hrj Hd
  have gB : (B.toList != B.toList) = false := by simp
  have gn : ((n : Int) != (n : Int)) = false := by simp
  rw [hn] at Hpj Hrj
  clear hT hr hr2 hJ hJ2 hch hj hB eB hbz hl2 hlen hJl
  go_enter Tryd.func7, Tryd.ntmps7
  go_wp2_with fail
  refine (Hc.out w HT.out).mono ?_
  rintro e w1 ⟨v, rfl, hown, hb1⟩
  obtain ⟨a, c, rfl, hrd⟩ := hown.shape
  rw [hn]
  have HT1 := Lib.hid (HT.out.below hb1 (Nat.le_refl _))
  have Hb1 := Lib.hid hb1
  have Hrd := Lib.hid hrd
  clear hrd hown hb1 hn
  go_wp2_with fail
  refine (Hpj.out a c w1 Hrd.out).mono ?_
  rintro e w2 ⟨rfl, hb2⟩
  have HT2 := Lib.hid (HT1.out.below hb2 (Nat.le_refl _))
  have Hb2 := Lib.hid (Hb1.out.trans (hb2.mono Hb1.out.size))
  have Hrd2 := Lib.hid (Hrd.out.below hb2 (Nat.le_refl _))
  clear hb2
  go_wp2_with fail
  refine (Hd.out w2 HT2.out).mono ?_
  rintro e w3 ⟨v, rfl, hown, hb3⟩
  obtain ⟨a2, c2, rfl, hrd3⟩ := hown.shape
  rw [Hn2.out]
  have HT3 := Lib.hid (HT2.out.below hb3 (Nat.le_refl _))
  have Hb3 := Lib.hid (Hb2.out.trans (hb3.mono Hb2.out.size))
  have Hrd3 := Lib.hid hrd3
  have Hrd1 := Lib.hid (Hrd2.out.below hb3 (Nat.le_refl _))
  clear hrd3 hown hb3
  go_wp2_with (go_at_call 20; refine (Hrj.out a c _ Hrd1.out).mono ?_; rintro e w4 ⟨rfl, rfl⟩)
  go_loopw [10] (fun x W => ∃ k : Nat, x = .int .i64 k ∧ k ≤ n ∧ ∃ m, W = w4.drewN m) (fun x _ => n - (intOf x).toNat)
  case atStart => exact ⟨0, rfl, Nat.zero_le _, 0, rfl⟩
  case round =>
    obtain ⟨k, rfl, hk, nw, rfl⟩ := hrel
    by_cases hlt : k < n
    · obtain ⟨b1, o1, rfl, hx1⟩ := Hrd1.out (by rw [Hn.out]; omega)
      obtain ⟨b2, o2, rfl, hx2⟩ := Hrd3.out (by rw [Hn2.out]; omega)
      obtain ⟨p0, _, p2, p3⟩ := hx1 k (by rw [Hn.out]; exact hlt)
      obtain ⟨q0, _, q2, q3⟩ := hx2 k (by rw [Hn2.out]; exact hlt)
      obtain ⟨e1, e2, e3⟩ := Hf3.out k (by rw [Hn.out]; exact hlt)
      rw [e1] at q0
      rw [e2] at q2
      rw [e3] at q3
      obtain ⟨⟨tk, ta, tt, tn⟩, ht⟩ : ∃ t, r.l.getD k tokD = t := ⟨_, rfl⟩
      rw [ht] at p0 p2 p3 q0 q2 q3
      simp only at p0 p2 p3 q0 q2 q3
      have y1 : (tk != tk) = false := by simp
      have y2 : (tt.toList != tt.toList) = false := by simp
      have y3 : (tn != tn) = false := by simp
      clear hx1 hx2 e1 e2 e3 ht
      go_wp2
      go_quiet (fail)
      go_wp2
      go_roundw
      case rel => exact ⟨k + 1, by go_num, by omega, _, rfl⟩
      case measure => simp [intOf]; omega
    · have HT5 := Lib.hid (HT3.out.below (drawn_below (Below.refl w4.heap.size w4) nw) (Nat.le_refl _))
      go_wp2_with (go_at_call 11; refine (awake_any _ HT5.out).mono ?_; rintro e w8 ⟨rfl, hb8⟩; have Hb8 := Lib.hid hb8; clear hb8)
      go_ret
      exact ⟨rfl, (drawn_below Hb3.out nw).trans (Hb8.out.mono Hb3.out.size)⟩
theorem law_joins (s : ByteArray) (w : World) (hs : s.size ≤ maxLen) (hT : Tabs w) : Calls Tryd.prog 7 #[.string s] w (BoolEnd true w) := by
  by_cases hbig : 3000 < s.size
  · exact joins_no s w hs hT _ rfl _ rfl (.inr hbig)
  · by_cases he : (whole s).e = 0
    · exact joins_ok s w (by omega) hT _ rfl (by simpa using he) (whole_ch s he).2 (by have := whole_len s; omega)
    · exact joins_no s w hs hT _ rfl _ rfl (.inl (by simpa using he))
end Go.Proofs.YtmnfonhfbolnkaaDoor
