/-
  The chain of a text's tokens; a token does not hang on what stands behind it; what stands before an error is accepted.
-/
import Derived.Test.YtmnfonhfbolnkaaDoorWordsM
namespace Go.Proofs.YtmnfonhfbolnkaaDoor
open Go.RowKit
set_option linter.unusedVariables false

def Ch (s : ByteArray) : Nat → List Tok → Prop
  | _, [] => False
  | p, [t] => t = ⟨5, s.size, ⟨#[]⟩, 0⟩ ∧ skp s p = s.size
  | p, t :: u :: r => t.a = skp s p ∧ t.a < s.size ∧ oneF (s.extract t.a s.size) = ⟨t.k, t.t, t.n, 0⟩ ∧ Ch s (t.a + t.t.size) (u :: r)
theorem Ch.ne {s : ByteArray} {p : Nat} {l : List Tok} (h : Ch s p l) : l ≠ [] := fun e => by rw [e] at h; exact h
theorem Ch.cons {s : ByteArray} {p : Nat} {t : Tok} {l : List Tok} (h1 : t.a = skp s p) (h2 : t.a < s.size) (h3 : oneF (s.extract t.a s.size) = ⟨t.k, t.t, t.n, 0⟩) (h : Ch s (t.a + t.t.size) l) : Ch s p (t :: l) := by
  match l, h with
  | [], h => exact absurd rfl h.ne
  | u :: r, h => exact ⟨h1, h2, h3, h⟩
theorem toksF_ch (s : ByteArray) : ∀ (b p : Nat) (out : List Tok), p ≤ s.size → s.size ≤ p + b → (toksF s b p out).e = 0 → (toksF s b p out).a = 0 ∧ ∃ l, (toksF s b p out).l = out ++ l ∧ Ch s p l
  | 0, p, out, hp, hb, _ => ⟨rfl, _, rfl, rfl, by rw [skp_end (by omega)]; omega⟩
  | b + 1, p, out, hp, hb, h => by
    obtain ⟨q, hq⟩ : ∃ q, skp s p = q := ⟨_, rfl⟩
    have hg := skp_ge s p hp
    rw [hq] at hg
    by_cases hlt : q < s.size
    · obtain ⟨o, ho⟩ : ∃ o, oneF (s.extract q s.size) = o := ⟨_, rfl⟩
      by_cases he : o.e = 0
      · have hok := one_ok ho he
        rw [size_extract s q _ (Nat.le_refl _)] at hok
        rw [toksF_tok hq hlt ho he] at h ⊢
        obtain ⟨ha, l, hl, hc⟩ := toksF_ch s b (q + o.t.size) _ (by omega) (by omega) h
        refine ⟨ha, ⟨o.k, q, o.t, o.n⟩ :: l, by rw [hl, List.append_assoc]; rfl, Ch.cons hq.symm hlt ?_ hc⟩
        show oneF (s.extract q s.size) = ⟨o.k, o.t, o.n, 0⟩
        rw [ho]
        obtain ⟨k, t, n, e0⟩ := o
        simp only at he
        rw [he]
      · rw [toksF_err hq hlt ho he] at h
        exact absurd h he
    · rw [toksF_end (by omega)]
      exact ⟨rfl, _, rfl, rfl, by omega⟩
theorem one_kind {u : ByteArray} {o : One} (ho : oneF u = o) (he : o.e = 0) : o.k ≠ 5 := by
  subst ho
  unfold oneF at he ⊢
  repeat' split
  all_goals first | (simp only; omega) | skip
/-- What the law asks of each token. -/
structure Sp (s : ByteArray) (p : Nat) (t : Tok) : Prop where
  skip : skp s p = t.a
  le : p ≤ t.a
  fit : t.a + t.t.size ≤ s.size
  txt : s.extract t.a (t.a + t.t.size) = t.t
theorem Ch.head {s : ByteArray} {p : Nat} {t : Tok} {l : List Tok} (h : Ch s p (t :: l)) (hp : p ≤ s.size) : Sp s p t ∧ ((l = [] ∧ t.k = 5 ∧ t.a + t.t.size = s.size) ∨ (l ≠ [] ∧ t.k ≠ 5 ∧ 0 < t.t.size ∧ Ch s (t.a + t.t.size) l)) := by
  have hg := skp_ge s p hp
  match l, h with
  | [], ⟨h1, h2⟩ =>
    subst h1
    rw [h2] at hg
    refine ⟨⟨h2, hg.1, Nat.le_refl _, ?_⟩, .inl ⟨rfl, rfl, rfl⟩⟩
    apply ByteArray.ext
    show (s.extract s.size (s.size + 0)).data = #[]
    simp
  | u :: r, ⟨h1, h2, h3, h4⟩ =>
    have hok := one_ok h3 rfl
    rw [size_extract s t.a _ (Nat.le_refl _)] at hok
    obtain ⟨k1, k2, k3, _⟩ := hok
    simp only at k1 k2 k3
    refine ⟨⟨h1.symm, by rw [h1]; exact hg.1, by omega, ?_⟩, .inr ⟨by simp, one_kind h3 rfl, k1, h4⟩⟩
    rw [ext_suf s t.a _ (by omega)] at k3
    exact k3.symm
theorem whole_ch (s : ByteArray) (he : (whole s).e = 0) : s.size ≤ 65536 ∧ Ch s 0 (whole s).l := by
  unfold whole at he ⊢
  by_cases h : 65536 < s.size
  · rw [if_pos h] at he; exact absurd he (by decide)
  · rw [if_neg h] at he ⊢
    obtain ⟨_, l, hl, hc⟩ := toksF_ch s _ 0 [] (Nat.zero_le _) (by omega) he
    exact ⟨by omega, by rw [hl]; exact hc⟩

/-! A token does not hang on what stands behind it. -/
theorem ext_byteI {a b : ByteArray} (hz : a.size = b.size) (h : ∀ i, i < a.size → byteI a i = byteI b i) : a = b := by
  apply ByteArray.ext
  apply Array.ext hz
  intro i h1 h2
  have := h i h1
  rw [byteI_at h1, byteI_at h2] at this
  apply UInt8.toNat_inj.mp
  show (a[i]'h1).toNat = (b[i]'h2).toNat
  omega
theorem one_loc {u v : ByteArray} {o : One} (ho : oneF u = o) (he : o.e = 0) (hsz : o.t.size ≤ v.size) (hb : ∀ i, i < o.t.size → byteI v i = byteI u i)
    (hst : byteI v o.t.size = byteI u o.t.size ∨ byteI v o.t.size = 0 ∨ byteI v o.t.size = 32) : oneF v = o := by
  obtain ⟨k1, k2, k3, k4⟩ := one_ok ho he
  obtain ⟨L, hL⟩ : ∃ L, o.t.size = L := ⟨_, rfl⟩
  rw [hL] at k1 k2 k3 k4 hsz hb hst
  have hx : v.extract 0 L = u.extract 0 L := by
    have z1 := size_extract v 0 L hsz
    have z2 := size_extract u 0 L k2
    refine ext_byteI (by rw [z1, z2]) (fun i hi => ?_)
    rw [byteI_extract v 0 L i hsz (by omega), byteI_extract u 0 L i k2 (by omega), Nat.zero_add]
    exact hb i (by omega)
  have h0 : byteI v 0 = byteI u 0 := hb 0 k1
  have lbv : ∀ p : Int → Bool, p 0 = false → p 32 = false → lb p u 0 = L → lb p v 0 = L := fun p p0 p32 hl => by
    have hu := lb_led p u 0 (Nat.zero_le _)
    rw [hl] at hu
    refine (lb_led p v 0 (Nat.zero_le _)).unique ⟨Nat.zero_le _, hsz, fun i h1 h2 => by rw [hb i h2]; exact hu.all i h1 h2, fun hlt => ?_⟩
    rcases hst with h | h | h
    · rw [h]
      rcases Nat.lt_or_ge L u.size with q | q
      · exact hu.stop q
      · rw [byteI_out q]; exact p0
    · rw [h]; exact p0
    · rw [h]; exact p32
  have hzL : ∀ M : Nat, M ≤ u.size → o.t = u.extract 0 M → M = L := fun M hM h => by
    rw [← hL, h, size_extract u 0 M hM]; omega
  unfold oneF at ho ⊢
  rw [h0]
  by_cases hl : isLetR (byteI u 0) = true
  · rw [if_pos hl] at ho ⊢
    have hle := (lb_led isWordR u 0 (Nat.zero_le _)).le
    by_cases h32 : 32 < lb isWordR u 0
    · rw [if_pos h32] at ho; subst ho; exact absurd he (by decide)
    · rw [if_neg h32] at ho
      have hML : lb isWordR u 0 = L := by
        refine hzL _ hle ?_
        by_cases hk : isKwd (u.extract 0 (lb isWordR u 0)) = true
        · rw [if_pos hk] at ho; subst ho; rfl
        · rw [if_neg hk] at ho; subst ho; rfl
      have hMv := lbv isWordR (by decide) (by decide) hML
      rw [hML] at ho h32
      rw [hMv, if_neg h32, hx]
      exact ho
  · rw [if_neg hl] at ho ⊢
    by_cases hd : isDigR (byteI u 0) = true
    · rw [if_pos hd] at ho ⊢
      have hle := (lb_led isDigR u 0 (Nat.zero_le _)).le
      by_cases h1 : lb isWordR u 0 ≠ lb isDigR u 0 ∨ byteI u 0 = 48 ∧ 1 < lb isDigR u 0
      · rw [if_pos h1] at ho; subst ho; exact absurd he (by decide)
      · rw [if_neg h1] at ho
        by_cases h2 : 9223372036854775807 < decV (u.extract 0 (lb isDigR u 0)).data.toList 0
        · rw [if_pos h2] at ho; subst ho; exact absurd he (by decide)
        · rw [if_neg h2] at ho
          have hML : lb isDigR u 0 = L := hzL _ hle (by subst ho; rfl)
          have hWL : lb isWordR u 0 = L := by omega
          have hMv := lbv isDigR (by decide) (by decide) hML
          have hWv := lbv isWordR (by decide) (by decide) hWL
          rw [hML] at ho h2
          rw [hML, hWL] at h1
          rw [hMv, hWv, if_neg h1, hx, if_neg h2]
          exact ho
    · rw [if_neg hd] at ho ⊢
      by_cases hm : markLen u = 0
      · rw [if_pos hm] at ho; subst ho; exact absurd he (by decide)
      · rw [if_neg hm] at ho
        have hmL : markLen u = L := by
          refine hzL _ ?_ (by subst ho; rfl)
          have := one_ok (u := u) rfl (by
            unfold oneF
            rw [if_neg hl, if_neg hd, if_neg hm])
          have hz : (oneF u).t = u.extract 0 (markLen u) := by
            unfold oneF
            rw [if_neg hl, if_neg hd, if_neg hm]
          rcases Nat.lt_or_ge u.size (markLen u) with q | q
          · exfalso
            have h1 : byteI u 1 ≠ 0 → 1 < u.size := fun h => by
              rcases Nat.lt_or_ge 1 u.size with h0 | h0
              · exact h0
              · exact absurd (byteI_out h0) h
            unfold markLen at q hm
            repeat' split at q
            all_goals omega
          · exact q
        have hmv : markLen v = L := by
          rw [← hmL]
          have hb1 : markLen u = 2 → byteI v 1 = byteI u 1 := fun h => hb 1 (by omega)
          have hs1 : markLen u = 1 → byteI v 1 = byteI u 1 ∨ byteI v 1 = 0 ∨ byteI v 1 = 32 := fun h => by rw [← hmL, h] at hst; exact hst
          unfold markLen at hb1 hs1 ⊢
          rw [h0]
          by_cases e1 : byteI u 0 = 58
          · rw [if_pos e1, if_pos e1] at *
            by_cases e2 : byteI u 1 = 58
            · rw [if_pos e2] at hb1 ⊢
              rw [if_pos (by rw [hb1 rfl]; exact e2)]
            · rw [if_neg e2] at hs1 ⊢
              rw [if_neg (by have := hs1 rfl; omega)]
          · rw [if_neg e1, if_neg e1] at *
            by_cases e3 : byteI u 0 = 61
            · rw [if_pos e3, if_pos e3] at *
              by_cases e2 : byteI u 1 = 61
              · rw [if_pos e2] at hb1 ⊢
                rw [if_pos (by rw [hb1 rfl]; exact e2)]
              · rw [if_neg e2] at hs1 ⊢
                rw [if_neg (by have := hs1 rfl; omega)]
            · rw [if_neg e3, if_neg e3]
        rw [hmL] at ho
        rw [hmv, if_neg (by omega), hx]
        exact ho

/-! What stands before an error is accepted. -/
theorem line_two {s : ByteArray} {p : Nat} (hc : byteI s p = 47 ∧ byteI s (p + 1) = 47) : p + 2 ≤ lb isLineR s p ∧ p + 1 < s.size := by
  have h1 : p + 1 < s.size := by
    rcases Nat.lt_or_ge (p + 1) s.size with h | h
    · exact h
    · rw [byteI_out h] at hc; exact absurd hc.2 (by decide)
  rw [lb_next (show p < s.size by omega) (by rw [hc.1]; decide)]
  exact ⟨line_gt h1 hc.2, h1⟩
theorem skp_pre {s : ByteArray} {a : Nat} (ha : a ≤ s.size) (p : Nat) (hp : p ≤ a) (hq : skp s p ≤ a) : skp (s.extract 0 a) p = skp s p := by
  have hz : (s.extract 0 a).size = a := by rw [size_extract s 0 a ha]; omega
  have hby : ∀ i, i < a → byteI (s.extract 0 a) i = byteI s i := fun i hi => by rw [byteI_extract s 0 a i ha (by omega), Nat.zero_add]
  induction hn : s.size - p using Nat.strongRecOn generalizing p with
  | _ n ih =>
    by_cases hpa : p < a
    · have h0 := hby p hpa
      cases hs : isSpcR (byteI s p) with
      | true =>
        rw [skp_space (by omega) hs] at hq ⊢
        rw [skp_space (by omega) (by rw [h0]; exact hs)]
        exact ih _ (by omega) (p + 1) (by omega) hq rfl
      | false =>
        by_cases hc : byteI s p = 47 ∧ byteI s (p + 1) = 47
        · have h2 := line_two hc
          rw [skp_comment hc] at hq ⊢
          have hl := lb_led isLineR s p (by omega)
          have hge := (skp_ge s (lb isLineR s p) hl.le).1
          have hlb : lb isLineR (s.extract 0 a) p = lb isLineR s p := by
            refine (lb_led isLineR _ p (by omega)).unique ⟨hl.ge, by omega, fun i h1 h3 => by rw [hby i (by omega)]; exact hl.all i h1 h3, fun h => ?_⟩
            rw [hby _ (by omega)]
            exact hl.stop (by omega)
          rw [skp_comment (by rw [h0, hby (p + 1) (by omega)]; exact hc), hlb]
          exact ih _ (by omega) (lb isLineR s p) (by omega) hq rfl
        · rw [skp_stop hs hc, skp_stop (by rw [h0]; exact hs)]
          rintro ⟨c1, c2⟩
          rcases Nat.lt_or_ge (p + 1) a with h | h
          · exact hc ⟨by rw [← h0]; exact c1, by rw [← hby _ h]; exact c2⟩
          · rw [byteI_out (by omega)] at c2; exact absurd c2 (by decide)
    · have hg := skp_ge s p (by omega)
      rw [skp_end (by omega)]
      omega
theorem err_ge (s : ByteArray) : ∀ (b p : Nat) (out : List Tok), p ≤ s.size → (toksF s b p out).e ≠ 0 → p ≤ (toksF s b p out).a ∧ (toksF s b p out).a ≤ s.size ∧ (toksF s b p out).l = []
  | 0, p, out, hp, h => absurd rfl h
  | b + 1, p, out, hp, h => by
    obtain ⟨q, hq⟩ : ∃ q, skp s p = q := ⟨_, rfl⟩
    have hg := skp_ge s p hp
    rw [hq] at hg
    by_cases hlt : q < s.size
    · obtain ⟨o, ho⟩ : ∃ o, oneF (s.extract q s.size) = o := ⟨_, rfl⟩
      by_cases he : o.e = 0
      · have hok := one_ok ho he
        rw [size_extract s q _ (Nat.le_refl _)] at hok
        rw [toksF_tok hq hlt ho he] at h ⊢
        have := err_ge s b (q + o.t.size) _ (by omega) h
        exact ⟨by omega, this.2⟩
      · rw [toksF_err hq hlt ho he]
        exact ⟨hg.1, hg.2, rfl⟩
    · rw [toksF_end (by omega)] at h
      exact absurd rfl h
theorem toks_pre {s : ByteArray} {a : Nat} (ha : a ≤ s.size) : ∀ (b p : Nat) (out : List Tok), p ≤ a → (toksF s b p out).e ≠ 0 → (toksF s b p out).a = a → ∀ (b' : Nat) (out' : List Tok), (toksF (s.extract 0 a) b' p out').e = 0
  | 0, p, out, hp, h, _ => absurd rfl h
  | b + 1, p, out, hp, h, hA => fun b' out' => by
    have hz : (s.extract 0 a).size = a := by rw [size_extract s 0 a ha]; omega
    have hby : ∀ i, i < a → byteI (s.extract 0 a) i = byteI s i := fun i hi => by rw [byteI_extract s 0 a i ha (by omega), Nat.zero_add]
    cases b' with
    | zero => rfl
    | succ b' =>
      obtain ⟨q, hq⟩ : ∃ q, skp s p = q := ⟨_, rfl⟩
      have hg := skp_ge s p (by omega)
      rw [hq] at hg
      by_cases hlt : q < s.size
      · obtain ⟨o, ho⟩ : ∃ o, oneF (s.extract q s.size) = o := ⟨_, rfl⟩
        by_cases he : o.e = 0
        · have hok := one_ok ho he
          rw [size_extract s q _ (Nat.le_refl _)] at hok
          rw [toksF_tok hq hlt ho he] at h hA
          have hge := (err_ge s b (q + o.t.size) _ (by omega) h).1
          rw [hA] at hge
          have hq' : skp (s.extract 0 a) p = q := by rw [skp_pre ha p hp (by omega)]; exact hq
          have hzv : ((s.extract 0 a).extract q (s.extract 0 a).size).size = a - q := by rw [size_extract _ q _ (Nat.le_refl _), hz]
          have ho' : oneF ((s.extract 0 a).extract q (s.extract 0 a).size) = o := by
            refine one_loc ho he (by omega) (fun i hi => ?_) ?_
            · rw [byteI_suf, byteI_suf, hby _ (by omega)]
            · rw [byteI_suf, byteI_suf]
              rcases Nat.lt_or_ge (q + o.t.size) a with k | k
              · exact .inl (hby _ k)
              · exact .inr (.inl (byteI_out (by omega)))
          rw [toksF_tok hq' (by omega) ho' he]
          exact toks_pre ha b (q + o.t.size) _ (by omega) h hA b' _
        · rw [toksF_err hq hlt ho he] at hA
          have hA' : q = a := hA
          have hq' : skp (s.extract 0 a) p = q := by rw [skp_pre ha p hp (by omega)]; exact hq
          rw [toksF_end (by omega)]
      · rw [toksF_end (by omega)] at h
        exact absurd rfl h
/-- Where an error is, what stands before it is accepted. -/
theorem whole_err {s : ByteArray} (he : (whole s).e ≠ 0) (hs : s.size ≤ 65536) : (whole s).l = [] ∧ (whole s).a ≤ s.size ∧ (whole (s.extract 0 (whole s).a)).e = 0 := by
  have e0 : whole s = toksF s (s.size + 1) 0 [] := by unfold whole; rw [if_neg (by omega)]
  rw [e0] at he ⊢
  obtain ⟨_, h2, h3⟩ := err_ge s _ 0 [] (Nat.zero_le _) he
  refine ⟨h3, h2, ?_⟩
  obtain ⟨a, hA⟩ : ∃ a, (toksF s (s.size + 1) 0 []).a = a := ⟨_, rfl⟩
  rw [hA] at h2 ⊢
  have hz : (s.extract 0 a).size = a := by rw [size_extract s 0 a h2]; omega
  unfold whole
  rw [if_neg (by omega)]
  exact toks_pre h2 _ 0 [] (Nat.zero_le _) he hA _ _
end Go.Proofs.YtmnfonhfbolnkaaDoor
