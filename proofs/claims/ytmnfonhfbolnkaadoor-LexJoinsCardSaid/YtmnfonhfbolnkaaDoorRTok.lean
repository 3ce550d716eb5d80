/-
  The definition's Tokens.
-/
import Derived.Test.YtmnfonhfbolnkaaDoorTMem
namespace Go.Proofs.YtmnfonhfbolnkaaDoor
open Go.RowKit
set_option linter.unusedVariables false
set_option linter.unusedSimpArgs false

theorem toksF_mid {s : ByteArray} {b p q : Nat} {out : List Tok} (hp : skp s p = q) (hle : p ≤ s.size) : toksF s (b + 1) p out = toksF s (b + 1) q out ∧ skp s q = q := by
  have hq : skp s q = q := by
    subst hp
    induction hn : s.size - p using Nat.strongRecOn generalizing p with
    | _ n ih =>
      by_cases h : p < s.size
      · cases hs : isSpcR (byteI s p) with
        | true => rw [skp_space h hs]; exact ih (s.size - (p + 1)) (by omega) (by omega) rfl
        | false =>
          by_cases hc : byteI s p = 47 ∧ byteI s (p + 1) = 47
          · rw [skp_comment hc]
            have h1 := line_gt h hc.1
            have h2 := (lb_led isLineR s p hle).le
            exact ih (s.size - lb isLineR s p) (by omega) h2 rfl
          · rw [skp_stop hs hc, skp_stop hs hc]
      · rw [skp_end h, skp_end h]
  exact ⟨toksF_skp (by rw [hp, hq]), hq⟩
theorem grown_cell {w w' : World} {row : Option Nat} (hg : w.grownBy w' row) (p : Addr) (hlt : p.block < w.heap.size) (hne : some p.block ≠ row) : w'.cell? p = w.cell? p := by
  have := hg.block p.block hlt hne
  unfold World.cell?
  rw [this]
theorem own_ne {w : World} {base : Nat} {v : Value} {ts : List Tok} (h : OwnT w base v ts) : some w.heap.size ≠ v.ownBlock := fun e => by
  have := (World.ownsRow.lt h _ e.symm).2
  omega
theorem own_ne' {w : World} {base : Nat} {v v2 : Value} {ts : List Tok} (h : OwnT w base v ts) (e : v2 = v) : some w.heap.size ≠ v2.ownBlock := by subst e; exact own_ne h
set_option maxHeartbeats 8000000 in
set_option maxRecDepth 100000 in
theorem rtok_any (s : ByteArray) (r : Whole) (hr : toksF s (s.size + 1) 0 [] = r) (w : World) (hs : s.size ≤ 65536) :
    Calls Tryd.prog 9 #[.string s] w (TokEnd r w) := by
  obtain ⟨p0, hp0⟩ : ∃ p, skp s 0 = p := ⟨_, rfl⟩
  have hge := skp_ge s 0 (Nat.zero_le _)
  rw [hp0] at hge
  obtain ⟨hm, hpp⟩ := toksF_mid (b := s.size) (out := []) hp0 (Nat.zero_le _)
  rw [hr] at hm
  have Hm : Hid (toksF s (s.size + 1) p0 [] = r) := hm.symm
  have Hpp := Lib.hid hpp
  have Hskip := Lib.hid (fun p q h1 h2 W => rskip_any s p q h1 h2 W hs)
  have Hp0 := Lib.hid hp0
  have hp0l : p0 ≤ s.size := hge.2
  have Hone := Lib.hid (fun a ha o ho W => rone_any s a ha hs o ho W)
  clear hm hpp hp0 hge hr
  go_enter Tryd.func9, Tryd.ntmps9
  go_wp2_with fail
  refine (Hskip.out 0 p0 Hp0.out (Nat.zero_le _) _).mono ?_
  rintro e w1 ⟨rfl, rfl⟩
  go_wp2
  go_loopw [5, 6] (fun v x W => ∃ (p b : Nat) (out : List Tok), x = .int .i64 p ∧ p ≤ s.size ∧ Hid (skp s p = p) ∧ Hid (toksF s (b + 1) p out = r) ∧ s.size ≤ p + b ∧ out.length ≤ p ∧ OwnT W w1.heap.size v out ∧ Below w1.heap.size w1 W) (fun _ x _ => s.size - (intOf x).toNat)
  case atStart => exact ⟨p0, s.size, [], rfl, hp0l, Hpp, Hm, by omega, by simp, OwnT.nil _ _, Below.refl _ _⟩
  case round =>
    obtain ⟨p, b, out, rfl, hp, hsk, hto, hb, hol, hown, hbel⟩ := hrel
    obtain ⟨a5, c5, rfl, _⟩ := hown.shape
    have Hown := Lib.hid hown
    have Hbel := Lib.hid hbel
    have hsz := hbel.size
    clear hown hbel
    by_cases hlt : p < s.size
    · obtain ⟨b, rfl⟩ : ∃ c, b = c + 1 := ⟨b - 1, by omega⟩
      obtain ⟨o, ho⟩ : ∃ o, oneF (s.extract p s.size) = o := ⟨_, rfl⟩
      have hcall := Hone.out p hlt o ho wr
      have Hcall := Lib.hid hcall
      clear hcall
      by_cases he : o.e = 0
      · have hok := one_ok ho he
        rw [size_extract s p _ (Nat.le_refl _)] at hok
        have Hn := Lib.hid (toksF_tok (b := b + 1) (out := out) hsk.out hlt ho he)
        obtain ⟨q, hq⟩ : ∃ q, skp s (p + o.t.size) = q := ⟨_, rfl⟩
        have hqg := skp_ge s (p + o.t.size) (by omega)
        rw [hq] at hqg
        obtain ⟨hm2, hqq⟩ := toksF_mid (b := b) (out := out ++ [⟨o.k, p, o.t, o.n⟩]) hq (by omega)
        have Hto2 : Hid (toksF s (b + 1) q (out ++ [⟨o.k, p, o.t, o.n⟩]) = r) := by show _ = _; rw [← hm2, ← Hn.out]; exact hto.out
        have Hqq := Lib.hid hqq
        have Hq := Lib.hid hq
        have Hans : Hid (ansA o p = .tuple #[.agg #[.int .i64 o.k, .int .i64 p, .string o.t, .int .i64 o.n], .int .i64 0]) := by show _ = _; unfold ansA tokA; rw [if_pos he, he]
        obtain ⟨k, t, n, e0⟩ := o
        have hz1 : 0 < t.size := hok.1
        have hz2 : t.size ≤ s.size - p := hok.2.1
        clear hok hm2 hqq hq Hn ho he
        simp only at hqg
        go_wp2_with fail
        refine Hcall.out.mono ?_
        rintro e w2 ⟨hb2, rfl⟩
        rw [Hans.out]
        have hsz2 := hb2.size
        have Hb2 := Lib.hid hb2
        clear hb2
        go_wp2_with (first
          | (at_builtin; refine wpList_append_tok rfl _ _ rfl w1.heap.size _ out rfl (OwnT.alloc (OwnT.alloc (OwnT.below Hown.out Hb2.out (Nat.le_refl _)) _) _) _ ⟨k, p, t, n⟩ rfl (by simp [go_sem]) (by simp [go_sem]) (by simp [go_sem]) (by simp [go_sem]) (by omega) (by simp; omega) ?_; intro v' w5 hown5 hg5; have hcell := (grown_cell hg5 ⟨w2.heap.size, 2, none⟩ (by simp; omega) (own_ne' (OwnT.below Hown.out Hb2.out (Nat.le_refl _)) rfl)).trans (show _ = some (Value.string t) by simp [go_sem]); have Hown5 := Lib.hid hown5; have Hb5 := Lib.hid (OwnT.grown (OwnT.alloc (OwnT.below Hown.out Hb2.out (Nat.le_refl _)) _) hg5 ((Hbel.out.trans (Hb2.out.mono hsz)).alloc (by omega) _) (by simp; omega)); clear hown5 hg5)
          | (go_at_call 26; refine (Hskip.out (p + t.size) q Hq.out (by omega) _).mono ?_; rintro e w' ⟨rfl, rfl⟩))
        go_roundw
        case rel => exact ⟨q, b, out ++ [⟨k, p, t, n⟩], by go_num, hqg.2, Hqq, Hto2, by omega, by simp; omega, Hown5.out, Hb5.out⟩
        case measure => simp [intOf]; omega
      · have Hr : Hid (r = ⟨[], p, o.e⟩) := by show _ = _; rw [← hto.out]; exact toksF_err hsk.out hlt ho he
        obtain ⟨k, t, n, e0⟩ := o
        obtain ⟨ad, had⟩ : ∃ ad : Int, ((if e0 = 0 then p else 0 : Nat) : Int) = ad := ⟨_, rfl⟩
        have Hans : Hid (ansA ⟨k, t, n, e0⟩ p = .tuple #[.agg #[.int .i64 k, .int .i64 ad, .string t, .int .i64 n], .int .i64 e0]) := by show _ = _; subst had; rfl
        have hen : ((e0 : Int) != 0) = true := by simpa using he
        clear had he ho
        go_wp2_with fail
        refine Hcall.out.mono ?_
        rintro e w2 ⟨hb2, rfl⟩
        rw [Hans.out]
        have Hb2 := Lib.hid hb2
        clear hb2
        go_wp2
        refine bodyPost_ret (v := .tuple #[.slice none 0 0, .int .i64 p, .int .i64 e0]) (by simp [results, Tryd.results9, go_sem]) rfl ?_
        refine ⟨.slice none 0 0, by rw [Hr.out], by rw [Hr.out]; exact OwnT.nil _ _, ?_⟩
        exact (Hbel.out.trans (Hb2.out.mono hsz)).alloc (by have := Hb2.out.size; omega) _
    · obtain rfl : p = s.size := by omega
      have Hr : Hid (r = ⟨out ++ [⟨5, s.size, ⟨#[]⟩, 0⟩], 0, 0⟩) := by show _ = _; rw [← hto.out]; exact toksF_end (by rw [hsk.out]; exact hlt)
      go_wp2_with (at_builtin; refine wpList_append_tok rfl _ _ rfl w1.heap.size _ out rfl (OwnT.alloc Hown.out _) _ ⟨5, s.size, ⟨#[]⟩, 0⟩ rfl (by simp [go_sem]) (by simp [go_sem]) (by simp [go_sem]) (by simp [go_sem]) (by omega) (by simp; omega) ?_; intro v' w5 hown5 hg5; have Hown5 := Lib.hid hown5; have Hb5 := Lib.hid (OwnT.grown Hown.out hg5 Hbel.out hsz); clear hown5 hg5)
      refine bodyPost_ret (v := .tuple #[v', .int .i64 0, .int .i64 0]) (by simp [results, Tryd.results9, go_sem]) rfl ?_
      exact ⟨v', by rw [Hr.out]; rfl, by rw [Hr.out]; exact Hown5.out, Hb5.out⟩
theorem rtokens_any (s : ByteArray) (r : Whole) (hr : whole s = r) (w : World) (hs : s.size ≤ maxLen) :
    Calls Tryd.prog 9 #[.string s] w (TokEnd r w) := by
  unfold whole at hr
  by_cases hl : 65536 < s.size
  · rw [if_pos hl] at hr
    subst hr
    unfold maxLen at hs
    have hg : decide ((65536 : Int) < (s.size : Int)) = true := by simp; omega
    go_enter Tryd.func9, Tryd.ntmps9
    go_wp2
    refine bodyPost_ret (v := .tuple #[.slice none 0 0, .int .i64 0, .int .i64 3]) (by simp [results, Tryd.results9, go_sem]) rfl ?_
    exact ⟨.slice none 0 0, rfl, OwnT.nil _ _, Below.refl _ _⟩
  · rw [if_neg hl] at hr
    exact rtok_any s r hr w (by omega)
end Go.Proofs.YtmnfonhfbolnkaaDoor
