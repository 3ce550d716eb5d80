/-
  Tokens.
-/
import Derived.Test.YtmnfonhfbolnkaaDoorTokM
namespace Go.Proofs.YtmnfonhfbolnkaaDoor
open Go.RowKit
set_option linter.unusedVariables false
set_option linter.unusedSimpArgs false

theorem isSpace_at (r : Int) (b : Bool) (hb : isSpcR r = b) (w : World) : Calls Tryd.prog 21 #[.int .i32 r] w fun e w' => e = .returned (.bool b) ∧ w' = w := by subst hb; exact isSpace_any r w
theorem slash_at (u : ByteArray) (b : Bool) (hb : decide (byteI u 0 = 47 ∧ byteI u 1 = 47) = b) (w : World) : Calls Tryd.prog 22 #[.string u, .string ⟨#[47, 47]⟩] w fun e w' => e = .returned (.bool b) ∧ w' = w :=
  hasPrefix_at u ⟨#[47, 47]⟩ b (by rw [← hb]; exact pref2 u 47 47 (by decide) (by decide)) w
theorem line_at (u t : ByteArray) (ht : u.extract 0 (lb isLineR u 0) = t) (w : World) (hs : u.size ≤ maxLen) : Calls Tryd.prog 23 #[.string u, .func (.func 24) #[] #[]] w fun e w' => e = .returned (.string t) ∧ Below w.heap.size w w' := by
  subst ht
  refine (leading_any _ _ tells_line u w hs).mono ?_
  rintro e w' ⟨rfl, pos, rfl⟩
  rw [ledP_line_lb]
  exact ⟨rfl, (Below.refl _ w).alloc (Nat.le_refl _) _⟩

set_option maxHeartbeats 8000000 in
set_option maxRecDepth 100000 in
theorem tok_any (s : ByteArray) (r : Whole) (hr : toksF s (s.size + 1) 0 [] = r) (w : World) (hs : s.size ≤ 65536) (hT : Tabs w) :
    Calls Tryd.prog 8 #[.string s] w (TokEnd r w) := by
  have HT := Lib.hid hT
  have Hst : Hid (TI s r 0 0 s.size []) := TI.start s r hr
  have hx0 : (w.iter s 0).heap[w.heap.size]? = some (.stringIter s 0) := World.iter_heap w s 0
  have Hx0 := Lib.hid hx0
  clear hT hr hx0
  go_enter Tryd.func8, Tryd.ntmps8
  go_wp2
  go_loopw [5, 6] (fun v x W => ∃ (pos e b : Nat) (out : List Tok), x = .int .i64 e ∧ Hid (TI s r pos e b out) ∧ Hid (W.heap[w.heap.size]? = some (.stringIter s pos)) ∧ OwnT W (w.heap.size + 1) v out ∧ Below w.heap.size w W ∧ w.heap.size < W.heap.size) (fun _ _ W => s.size - W.iterPos w.heap.size)
  case atStart => exact ⟨0, 0, s.size, [], rfl, Hst, Hx0, OwnT.nil _ _, (Below.refl _ w).alloc (Nat.le_refl _) _, by simp [World.iter]⟩
  case round =>
    obtain ⟨pos, e, b, out, rfl, hti, hit, hown, hbel, hgs⟩ := hrel
    obtain ⟨a5, c5, rfl, _⟩ := hown.shape
    have hps : pos ≤ s.size := hti.out.ple
    have hes : e ≤ s.size := hti.out.ele
    have hol : out.length ≤ s.size := by have := hti.out.len; omega
    rw [iterPos_of hit.out]
    by_cases hlt : pos < s.size
    · have hnx := fun ty => Lib.run_next_any_at (P := Tryd.prog) wr w.heap.size s pos ty hit.out hlt
      have hwp := width_pos s pos hlt
      have hspr := spc_rune s pos hlt
      have hstep := step_size s pos hlt
      obtain ⟨ru, hru⟩ : ∃ ru : Nat, (Utf8.decode s pos).1 = ru := ⟨_, rfl⟩
      obtain ⟨n, hn⟩ : ∃ n : Nat, (Utf8.decode s pos).2 = n := ⟨_, rfl⟩
      obtain ⟨W1, hW1⟩ : ∃ W1, wr.iterAt w.heap.size s (pos + n) = W1 := ⟨_, rfl⟩
      rw [hru, hn, hW1] at hnx
      rw [hn] at hwp hstep
      rw [hru] at hspr
      have hit1 : Hid (W1.heap[w.heap.size]? = some (.stringIter s (pos + n))) := by show _ = _; rw [← hW1]; exact Lib.iterAt_heap wr w.heap.size s pos (pos + n) hit.out
      have Hown : Hid (OwnT W1 (w.heap.size + 1) (.slice a5 out.length c5) out) := by show OwnT _ _ _ _; rw [← hW1]; exact hown.iterAt (Nat.lt_succ_self _) _ _
      have Hbel : Hid (Below w.heap.size w W1) := by show Below _ _ _; rw [← hW1]; exact Lib.below_iterAt hbel (Nat.le_refl _) _ _
      have hgs1 : w.heap.size < W1.heap.size := by rw [← hW1, Lib.iterAt_size]; exact hgs
      have Hspr := Lib.hid hspr
      have Hn := Lib.hid hn
      clear hW1 hown hbel hgs hit hru hn hspr
      by_cases hin : pos < e
      · have hdb : decide ((pos : Int) < (e : Int)) = true := by simp; omega
        have Hti2 : Hid (TI s r (pos + n) e b out) := by show TI _ _ _ _ _ _; rw [← Hn.out]; exact hti.out.inside hin
        go_wp2
        go_roundw
        case rel => exact ⟨pos + n, e, b, out, rfl, Hti2, hit1, Hown.out, Hbel.out, hgs1⟩
        case measure => rw [iterPos_of hit1.out]; omega
      · have hdb : decide ((pos : Int) < (e : Int)) = false := by simp; omega
        cases hsp : isSpcR (byteI s pos) with
        | true =>
          have Hsp : Hid (isSpcR (ru : Int) = true) := by show _ = _; rw [Hspr.out, hsp]
          have Hti2 : Hid (TI s r (pos + n) e b out) := by show TI _ _ _ _ _ _; rw [← Hn.out]; exact hti.out.space (by omega) hlt hsp
          clear hsp
          go_wp2_with (go_at_call 21; refine (isSpace_at _ true Hsp.out _).mono ?_; rintro e w' ⟨rfl, rfl⟩)
          go_roundw
          case rel => exact ⟨pos + n, e, b, out, rfl, Hti2, hit1, Hown.out, Hbel.out, hgs1⟩
          case measure => rw [iterPos_of hit1.out]; omega
        | false =>
          have Hsp : Hid (isSpcR (ru : Int) = false) := by show _ = _; rw [Hspr.out, hsp]
          have hb0 : byteI (s.extract pos s.size) 0 = byteI s pos := byteI_suf s pos 0
          have hb1 : byteI (s.extract pos s.size) 1 = byteI s (pos + 1) := byteI_suf s pos 1
          have hsz := size_extract s pos s.size (Nat.le_refl _)
          by_cases hc : byteI s pos = 47 ∧ byteI s (pos + 1) = 47
          · have Hsl : Hid (decide (byteI (s.extract pos s.size) 0 = 47 ∧ byteI (s.extract pos s.size) 1 = 47) = true) := by show _ = _; rw [hb0, hb1]; exact decide_eq_true hc
            obtain ⟨e2, he2⟩ : ∃ e2, lb isLineR s pos = e2 := ⟨_, rfl⟩
            have hl := lb_eq isLineR s pos e2 hps he2
            have Hti2 : Hid (TI s r (pos + n) e2 b out) := by show TI _ _ _ _ _ _; rw [← Hn.out, ← he2]; exact hti.out.comment (by omega) hlt hc
            obtain ⟨t, ht⟩ : ∃ t, (s.extract pos s.size).extract 0 (lb isLineR (s.extract pos s.size) 0) = t := ⟨_, rfl⟩
            have htz : t.size = e2 - pos := by rw [← ht, size_extract _ 0 _ (by rw [hl.1, hsz]; omega), hl.1]; omega
            have Ht := Lib.hid ht
            have h1 := hl.2.1
            have h2 := hl.2.2
            clear hl he2 ht hsp hc hb0 hb1
            go_wp2_with (first | (go_at_call 21; refine (isSpace_at _ false Hsp.out _).mono ?_; rintro e w' ⟨rfl, rfl⟩) | (go_at_call 22; refine (slash_at _ true Hsl.out _).mono ?_; rintro e w' ⟨rfl, rfl⟩) | (go_at_call 23; refine (line_at _ t Ht.out _ (by rw [hsz]; unfold maxLen; omega)).mono ?_; rintro e w2 ⟨rfl, hb2⟩; have Hb2 := Lib.hid hb2; have hz2 := hb2.size; clear hb2))
            go_roundw
            case rel => exact ⟨pos + n, e2, b, out, by go_num, Hti2, heap_below hit1.out Hb2.out hgs1, OwnT.below Hown.out Hb2.out (Nat.le_refl _), Hbel.out.trans (Hb2.out.mono (Nat.le_of_lt hgs1)), by omega⟩
            case measure => rw [iterPos_of (heap_below hit1.out Hb2.out hgs1)]; omega
          · have Hsl : Hid (decide (byteI (s.extract pos s.size) 0 = 47 ∧ byteI (s.extract pos s.size) 1 = 47) = false) := by show _ = _; rw [hb0, hb1]; exact decide_eq_false hc
            obtain ⟨o, ho⟩ : ∃ o, oneF (s.extract pos s.size) = o := ⟨_, rfl⟩
            have Hfirst := Lib.hid (fun W (hW : Tabs W) => first_any (s.extract pos s.size) o ho W (by rw [hsz]; omega) hW)
            have HT1 := Lib.hid (HT.out.below Hbel.out (Nat.le_refl _))
            by_cases he : o.e = 0
            · have hti2 := hti.out.tok (by omega) hlt hsp hc ho he
              rw [Hn.out] at hti2
              obtain ⟨b2, hti2⟩ := hti2
              have Hti2 := Lib.hid hti2
              have hok := one_ok ho he
              rw [hsz] at hok
              have k1 := hok.1
              have k2 := hok.2.1
              obtain ⟨k, t, z, e0⟩ := o
              obtain rfl : e0 = 0 := he
              clear hti2 hok ho hsp hc hb0 hb1
              go_wp2_with (first | (go_at_call 21; refine (isSpace_at _ false Hsp.out _).mono ?_; rintro e w' ⟨rfl, rfl⟩) | (go_at_call 22; refine (slash_at _ false Hsl.out _).mono ?_; rintro e w' ⟨rfl, rfl⟩))
              refine (Hfirst.out _ HT1.out).mono ?_
              rintro e w2 ⟨hb2, rfl⟩
              unfold tokV
              have hsz2 := hb2.size
              have Hb2 := Lib.hid hb2
              clear hb2
              go_wp2_with (at_builtin; refine wpList_append_tok rfl _ _ rfl (w.heap.size + 1) _ out rfl (OwnT.alloc (OwnT.alloc (OwnT.below Hown.out Hb2.out (Nat.le_refl _)) _) _) _ ⟨k, pos, t, z⟩ rfl (by simp [go_sem]) (by simp [go_sem]) (by simp [go_sem]) (by simp [go_sem]) (by omega) (by simp; omega) ?_; intro v' w5 hown5 hg5; have Hown5 := Lib.hid hown5; have Hb5 := Lib.hid (OwnT.grown (OwnT.alloc (OwnT.below Hown.out Hb2.out (Nat.le_refl _)) _) hg5 ((Hb2.out.mono hgs1).alloc (by omega) _) (by simp; omega)); clear hown5 hg5)
              go_roundw
              case rel => exact ⟨pos + n, pos + t.size, b2, _, by go_num, Hti2, heap_below hit1.out Hb5.out (Nat.lt_succ_self _), Hown5.out, Hbel.out.trans (Hb5.out.mono (Nat.le_succ _)), by have := Hb5.out.size; omega⟩
              case measure => rw [iterPos_of (heap_below hit1.out Hb5.out (Nat.lt_succ_self _))]; omega
            · have Hr : Hid (r = ⟨[], pos, o.e⟩) := hti.out.err (by omega) hlt hsp hc ho he
              obtain ⟨k, t, z, e0⟩ := o
              have hen : ((e0 : Int) != 0) = true := by simpa using he
              clear he ho hsp hc hb0 hb1
              go_wp2_with (first | (go_at_call 21; refine (isSpace_at _ false Hsp.out _).mono ?_; rintro e w' ⟨rfl, rfl⟩) | (go_at_call 22; refine (slash_at _ false Hsl.out _).mono ?_; rintro e w' ⟨rfl, rfl⟩))
              refine (Hfirst.out _ HT1.out).mono ?_
              rintro e w2 ⟨hb2, rfl⟩
              unfold tokV
              have hsz2 := hb2.size
              have Hb2 := Lib.hid hb2
              clear hb2
              go_wp2
              refine bodyPost_ret (v := .tuple #[.slice none 0 0, .int .i64 pos, .int .i64 e0]) (by simp [results, Tryd.results8, go_sem]) rfl ?_
              refine ⟨.slice none 0 0, by rw [Hr.out], by rw [Hr.out]; exact OwnT.nil _ _, ?_⟩
              exact (Hbel.out.trans (Hb2.out.mono (Nat.le_of_lt hgs1))).alloc (by omega) _
    · have Hr : Hid (r = ⟨out ++ [⟨5, s.size, ⟨#[]⟩, 0⟩], 0, 0⟩) := hti.out.fin hlt
      have hnx := fun ty => Lib.run_next_end_at (P := Tryd.prog) wr w.heap.size s pos ty hit.out hlt
      have Hown := Lib.hid hown
      have Hbel := Lib.hid hbel
      have hsz := hbel.size
      clear hown hbel hit
      go_wp2_with (at_builtin; refine wpList_append_tok rfl _ _ rfl w.heap.size _ out rfl (OwnT.alloc (OwnT.mono Hown.out (Nat.le_succ _)) _) _ ⟨5, s.size, ⟨#[]⟩, 0⟩ rfl (by simp [go_sem]) (by simp [go_sem]) (by simp [go_sem]) (by simp [go_sem]) (by omega) (by simp; omega) ?_; intro v' w5 hown5 hg5; have Hown5 := Lib.hid hown5; have Hb5 := Lib.hid (OwnT.grown (OwnT.mono Hown.out (Nat.le_succ _)) hg5 Hbel.out hsz); clear hown5 hg5)
      refine bodyPost_ret (v := .tuple #[v', .int .i64 0, .int .i64 0]) (by simp [results, Tryd.results8, go_sem]) rfl ?_
      exact ⟨v', by rw [Hr.out]; rfl, by rw [Hr.out]; exact Hown5.out, Hb5.out⟩
theorem tokens_any (s : ByteArray) (r : Whole) (hr : whole s = r) (w : World) (hs : s.size ≤ maxLen) (hT : Tabs w) :
    Calls Tryd.prog 8 #[.string s] w (TokEnd r w) := by
  unfold whole at hr
  by_cases hl : 65536 < s.size
  · rw [if_pos hl] at hr
    subst hr
    unfold maxLen at hs
    have hg : decide ((65536 : Int) < (s.size : Int)) = true := by simp; omega
    go_enter Tryd.func8, Tryd.ntmps8
    go_wp2
    refine bodyPost_ret (v := .tuple #[.slice none 0 0, .int .i64 0, .int .i64 3]) (by simp [results, Tryd.results8, go_sem]) rfl ?_
    exact ⟨.slice none 0 0, rfl, OwnT.nil _ _, Below.refl _ _⟩
  · rw [if_neg hl] at hr
    exact tok_any s r hr w (by omega) hT
end Go.Proofs.YtmnfonhfbolnkaaDoor
