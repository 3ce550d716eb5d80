/-
  The tokens of a text, in plain words: where a run of bytes ends, what token begins a text, what lies between.
-/
import Derived.Test.YtmnfonhfbolnkaaDoorLLedM
import Derived.Lib.TrimUEq
namespace Go.Proofs.YtmnfonhfbolnkaaDoor
open Go.RowKit
set_option linter.unusedVariables false

theorem byteI_out {s : ByteArray} {i : Nat} (h : s.size ≤ i) : byteI s i = 0 := by
  unfold byteI
  rw [List.getD_eq_getElem?_getD, List.getElem?_eq_none (by simpa using h)]
  rfl
theorem byteI_lt (s : ByteArray) (i : Nat) : byteI s i < 256 := by
  unfold byteI
  have := (s.data.toList.getD i 0).toNat_lt
  omega
theorem byteI_nonneg (s : ByteArray) (i : Nat) : 0 ≤ byteI s i := by
  unfold byteI
  omega
theorem size_extract (s : ByteArray) (a b : Nat) (h : b ≤ s.size) : (s.extract a b).size = b - a := by
  rw [ByteArray.size_extract]
  omega
theorem byteI_extract (s : ByteArray) (a b i : Nat) (hb : b ≤ s.size) (h : a + i < b) : byteI (s.extract a b) i = byteI s (a + i) := by
  have h1 : i < (s.extract a b).size := by rw [size_extract s a b hb]; omega
  rw [byteI_at h1, byteI_at (show a + i < s.size by omega)]
  congr 2
  simp [ByteArray.getElem_extract]
theorem byteI_suf (s : ByteArray) (a i : Nat) : byteI (s.extract a s.size) i = byteI s (a + i) := by
  by_cases h : a + i < s.size
  · exact byteI_extract s a s.size i (Nat.le_refl _) h
  · rw [byteI_out (s := s) (by omega), byteI_out (by rw [size_extract s a _ (Nat.le_refl _)]; omega)]

/-- Where the run of the bytes of p ends that begins at pos. -/
def lb (p : Int → Bool) (s : ByteArray) (pos : Nat) : Nat :=
  if pos < s.size then (if p (byteI s pos) = true then lb p s (pos + 1) else pos) else pos
termination_by s.size - pos
theorem lb_led (p : Int → Bool) (s : ByteArray) (pos : Nat) (h : pos ≤ s.size) : Led p s pos (lb p s pos) := by
  induction hn : s.size - pos generalizing pos with
  | zero =>
    rw [lb, if_neg (by omega)]
    exact ⟨Nat.le_refl _, h, fun i h1 h2 => by omega, fun h1 => by omega⟩
  | succ n ih =>
    have hlt : pos < s.size := by omega
    rw [lb, if_pos hlt]
    by_cases hp : p (byteI s pos) = true
    · rw [if_pos hp]
      have k := ih (pos + 1) (by omega) (by omega)
      refine ⟨by have := k.ge; omega, k.le, fun i h1 h2 => ?_, k.stop⟩
      rcases Nat.eq_or_lt_of_le h1 with e | e
      · rw [← e]; exact hp
      · exact k.all i e h2
    · rw [if_neg hp]
      exact ⟨Nat.le_refl _, h, fun i h1 h2 => by omega, fun _ => by simpa using hp⟩
theorem ledP_lb {p : Int → Bool} (hp : Asc p) (s : ByteArray) : ledP p s (s.size + 1) 0 = lb p s 0 :=
  (ledP_asc hp s.size 0 (Nat.zero_le _) (by omega)).unique (lb_led p s 0 (Nat.zero_le _))

/-- A rune's bytes behind the first are no ASCII. -/
theorem decode_cont (s : ByteArray) (pos : Nat) (hlt : pos < s.size) (ha : 128 ≤ byteI s pos) (i : Nat) (hi : i < (Utf8.decode s pos).2) : pos + i < s.size ∧ 128 ≤ byteI s (pos + i) := by
  have hl : s.data.toList.length = s.size := by simp
  have e := Lib.decode_N s pos
  rw [hl] at e
  rw [e] at hi
  unfold byteI at ha ⊢
  have h1 : ∀ k, (s.data.toList.getD k 0).toNat < 256 := fun k => (s.data.toList.getD k 0).toNat_lt
  match i with
  | 0 => exact ⟨hlt, ha⟩
  | 1 =>
    generalize (s.data.toList.getD pos 0).toNat = b0 at hi ha
    generalize (s.data.toList.getD (pos + 1) 0).toNat = b1 at hi ⊢
    generalize (s.data.toList.getD (pos + 2) 0).toNat = b2 at hi
    generalize (s.data.toList.getD (pos + 3) 0).toNat = b3 at hi
    unfold Lib.decodeN at hi
    repeat' split at hi
    all_goals first | omega | (simp only at hi; omega)
  | 2 =>
    generalize (s.data.toList.getD pos 0).toNat = b0 at hi ha
    generalize (s.data.toList.getD (pos + 1) 0).toNat = b1 at hi
    generalize (s.data.toList.getD (pos + 2) 0).toNat = b2 at hi ⊢
    generalize (s.data.toList.getD (pos + 3) 0).toNat = b3 at hi
    unfold Lib.decodeN at hi
    repeat' split at hi
    all_goals first | omega | (simp only at hi; omega)
  | 3 =>
    generalize (s.data.toList.getD pos 0).toNat = b0 at hi ha
    generalize (s.data.toList.getD (pos + 1) 0).toNat = b1 at hi
    generalize (s.data.toList.getD (pos + 2) 0).toNat = b2 at hi
    generalize (s.data.toList.getD (pos + 3) 0).toNat = b3 at hi ⊢
    unfold Lib.decodeN at hi
    repeat' split at hi
    all_goals first | omega | (simp only at hi; omega)
  | j + 4 =>
    exfalso
    generalize (s.data.toList.getD pos 0).toNat = b0 at hi ha
    generalize (s.data.toList.getD (pos + 1) 0).toNat = b1 at hi
    generalize (s.data.toList.getD (pos + 2) 0).toNat = b2 at hi
    generalize (s.data.toList.getD (pos + 3) 0).toNat = b3 at hi
    unfold Lib.decodeN at hi
    repeat' split at hi
    all_goals (simp only at hi; omega)
theorem decode_asc (s : ByteArray) (pos : Nat) (hlt : pos < s.size) (ha : byteI s pos < 128) : Utf8.decode s pos = ((byteI s pos).toNat, 1) := by
  have hb := byteI_at hlt
  have := decode_ascii s pos hlt (by omega)
  rw [this, hb]
  rfl
theorem decode_fst_high (s : ByteArray) (pos : Nat) (hlt : pos < s.size) (ha : 128 ≤ byteI s pos) : 128 ≤ (Utf8.decode s pos).1 := by
  have hb := byteI_at hlt
  exact (decode_high s pos hlt (by omega)).1

/-- A line's end. -/
theorem ledP_line (s : ByteArray) : ∀ (b pos : Nat), pos ≤ s.size → s.size ≤ pos + b → Led isLineR s pos (ledP isLineR s (b + 1) pos)
  | b, pos, hle, hb => by
    by_cases hlt : pos < s.size
    · by_cases ha : byteI s pos < 128
      · have hd := decode_asc s pos hlt ha
        have h0 := byteI_nonneg s pos
        cases hpr : isLineR (byteI s pos) with
        | true =>
          rw [ledP_go hlt (by rw [hd]; show isLineR (((byteI s pos).toNat : Nat) : Int) = true; rw [Int.toNat_of_nonneg h0]; exact hpr), hd]
          obtain ⟨c, rfl⟩ : ∃ c, b = c + 1 := ⟨b - 1, by omega⟩
          have ih := ledP_line s c (pos + 1) (by omega) (by omega)
          exact ⟨by have := ih.ge; show pos ≤ ledP isLineR s (c + 1) (pos + 1); omega, ih.le, fun i hi hi2 => by
            rcases Nat.eq_or_lt_of_le hi with e | e
            · rw [← e]; exact hpr
            · exact ih.all i e hi2, ih.stop⟩
        | false =>
          rw [ledP_stop hlt (by rw [hd]; show isLineR (((byteI s pos).toNat : Nat) : Int) = false; rw [Int.toNat_of_nonneg h0]; exact hpr)]
          exact ⟨Nat.le_refl _, hle, fun i hi hi2 => by omega, fun _ => hpr⟩
      · have hr := decode_fst_high s pos hlt (by omega)
        have hw := width_pos s pos hlt
        have hline : ∀ r : Int, 128 ≤ r → isLineR r = true := fun r hr => by unfold isLineR; simp; omega
        rw [ledP_go hlt (hline _ (by omega))]
        have hco := decode_cont s pos hlt (by omega)
        generalize hn : (Utf8.decode s pos).2 = n at hw hco
        have hend := hco (n - 1) (by omega)
        obtain ⟨c, rfl⟩ : ∃ c, b = c + 1 := ⟨b - 1, by omega⟩
        have ih := ledP_line s c (pos + n) (by omega) (by omega)
        refine ⟨by have := ih.ge; show pos ≤ ledP isLineR s (c + 1) (pos + n); omega, ih.le, fun i hi hi2 => ?_, ih.stop⟩
        by_cases h : i < pos + n
        · have := (hco (i - pos) (by omega)).2
          rw [show pos + (i - pos) = i by omega] at this
          exact hline _ this
        · exact ih.all i (by omega) hi2
    · rw [ledP_end hlt]
      exact ⟨hle, Nat.le_refl _, fun i hi hi2 => by omega, fun h => absurd h (Nat.lt_irrefl _)⟩
theorem ledP_line_lb (s : ByteArray) : ledP isLineR s (s.size + 1) 0 = lb isLineR s 0 :=
  (ledP_line s s.size 0 (Nat.zero_le _) (by omega)).unique (lb_led isLineR s 0 (Nat.zero_le _))

/-- What stands in a suffix stands in the text. -/
theorem Led.suf {p : Int → Bool} {s : ByteArray} {a L : Nat} (h : Led p (s.extract a s.size) 0 L) (ha : a ≤ s.size) : Led p s a (a + L) := by
  have hz : (s.extract a s.size).size = s.size - a := size_extract s a _ (Nat.le_refl _)
  refine ⟨Nat.le_add_right _ _, by have := h.le; omega, fun i h1 h2 => ?_, fun h1 => ?_⟩
  · have := h.all (i - a) (Nat.zero_le _) (by omega)
    rw [byteI_suf, show a + (i - a) = i by omega] at this
    exact this
  · have := h.stop (by omega)
    rw [byteI_suf] at this
    exact this
theorem lb_suf (p : Int → Bool) (s : ByteArray) (a : Nat) (ha : a ≤ s.size) : a + lb p (s.extract a s.size) 0 = lb p s a :=
  ((lb_led p _ 0 (Nat.zero_le _)).suf ha).unique (lb_led p s a ha)

/-- How long the mark at the beginning of a text is. -/
def markLen (u : ByteArray) : Nat :=
  if byteI u 0 = 58 then (if byteI u 1 = 58 then 2 else 1)
  else if byteI u 0 = 61 then (if byteI u 1 = 61 then 2 else 1)
  else if byteI u 0 = 123 ∨ byteI u 0 = 125 ∨ byteI u 0 = 40 ∨ byteI u 0 = 41 ∨ byteI u 0 = 59 ∨ byteI u 0 = 44 ∨ byteI u 0 = 46 ∨ byteI u 0 = 60 ∨ byteI u 0 = 43 ∨ byteI u 0 = 45 ∨ byteI u 0 = 42 then 1
  else 0
def isKwd (s : ByteArray) : Bool := (List.range 17).any (isKw s)
/-- What the digits spell, if it is a number. -/
def decV : List UInt8 → Nat → Nat
  | [], acc => acc
  | c :: r, acc => decV r (acc * 10 + (c.toNat - 48))
structure One where
  k : Int
  t : ByteArray
  n : Int
  e : Int
/-- The token at the beginning of a text (its kind, its text, its number), or the error. -/
def oneF (u : ByteArray) : One :=
  if isLetR (byteI u 0) = true then
    (if 32 < lb isWordR u 0 then ⟨0, ⟨#[]⟩, 0, 3⟩ else if isKwd (u.extract 0 (lb isWordR u 0)) = true then ⟨2, u.extract 0 (lb isWordR u 0), 0, 0⟩ else ⟨1, u.extract 0 (lb isWordR u 0), 0, 0⟩)
  else if isDigR (byteI u 0) = true then
    (if lb isWordR u 0 ≠ lb isDigR u 0 ∨ byteI u 0 = 48 ∧ 1 < lb isDigR u 0 then ⟨0, ⟨#[]⟩, 0, 2⟩
     else if 9223372036854775807 < decV (u.extract 0 (lb isDigR u 0)).data.toList 0 then ⟨0, ⟨#[]⟩, 0, 4⟩
     else ⟨3, u.extract 0 (lb isDigR u 0), (decV (u.extract 0 (lb isDigR u 0)).data.toList 0 : Int), 0⟩)
  else if markLen u = 0 then ⟨0, ⟨#[]⟩, 0, 2⟩ else ⟨4, u.extract 0 (markLen u), 0, 0⟩

/-- Behind separators and comments. -/
def skp (s : ByteArray) (pos : Nat) : Nat :=
  if pos < s.size then
    (if isSpcR (byteI s pos) = true then skp s (pos + 1)
     else if byteI s pos = 47 ∧ byteI s (pos + 1) = 47 then skp s (max (pos + 1) (lb isLineR s pos))
     else pos)
  else pos
termination_by s.size - pos
theorem skp_end {s : ByteArray} {pos : Nat} (h : ¬ pos < s.size) : skp s pos = pos := by rw [skp, if_neg h]
theorem skp_space {s : ByteArray} {pos : Nat} (h : pos < s.size) (hp : isSpcR (byteI s pos) = true) : skp s pos = skp s (pos + 1) := by rw [skp, if_pos h, if_pos hp]
theorem skp_stop {s : ByteArray} {pos : Nat} (hp : isSpcR (byteI s pos) = false) (hc : ¬ (byteI s pos = 47 ∧ byteI s (pos + 1) = 47)) : skp s pos = pos := by
  rw [skp]
  by_cases h : pos < s.size
  · rw [if_pos h, if_neg (by rw [hp]; decide), if_neg hc]
  · rw [if_neg h]
theorem line_gt {s : ByteArray} {pos : Nat} (h : pos < s.size) (hp : byteI s pos = 47) : pos + 1 ≤ lb isLineR s pos := by
  rw [lb, if_pos h, if_pos (by rw [hp]; decide)]
  exact (lb_led isLineR s (pos + 1) h).ge
theorem skp_comment {s : ByteArray} {pos : Nat} (hc : byteI s pos = 47 ∧ byteI s (pos + 1) = 47) : skp s pos = skp s (lb isLineR s pos) := by
  have h : pos < s.size := by
    rcases Nat.lt_or_ge pos s.size with h | h
    · exact h
    · have := byteI_out h; omega
  rw [skp, if_pos h, if_neg (by rw [hc.1]; decide), if_pos hc, Nat.max_eq_right (line_gt h hc.1)]
theorem skp_ge (s : ByteArray) (pos : Nat) (hle : pos ≤ s.size) : pos ≤ skp s pos ∧ skp s pos ≤ s.size := by
  induction hn : s.size - pos using Nat.strongRecOn generalizing pos with
  | _ n ih =>
    by_cases h : pos < s.size
    · cases hp : isSpcR (byteI s pos) with
      | true =>
        rw [skp_space h hp]
        have := ih (s.size - (pos + 1)) (by omega) (pos + 1) (by omega) rfl
        omega
      | false =>
        by_cases hc : byteI s pos = 47 ∧ byteI s (pos + 1) = 47
        · rw [skp_comment hc]
          have h1 := line_gt h hc.1
          have h2 := (lb_led isLineR s pos hle).le
          have := ih (s.size - lb isLineR s pos) (by omega) (lb isLineR s pos) h2 rfl
          omega
        · rw [skp_stop hp hc]; omega
    · rw [skp_end h]; omega
structure Tok where
  k : Int
  a : Nat
  t : ByteArray
  n : Int
structure Whole where
  l : List Tok
  a : Nat
  e : Int
/-- The tokens from pos on, behind those of out. -/
def toksF (s : ByteArray) : Nat → Nat → List Tok → Whole
  | 0, _, out => ⟨out ++ [⟨5, s.size, ⟨#[]⟩, 0⟩], 0, 0⟩
  | b + 1, pos, out =>
    if skp s pos < s.size then
      (if (oneF (s.extract (skp s pos) s.size)).e = 0 then
        toksF s b (skp s pos + (oneF (s.extract (skp s pos) s.size)).t.size) (out ++ [⟨(oneF (s.extract (skp s pos) s.size)).k, skp s pos, (oneF (s.extract (skp s pos) s.size)).t, (oneF (s.extract (skp s pos) s.size)).n⟩])
       else ⟨[], skp s pos, (oneF (s.extract (skp s pos) s.size)).e⟩)
    else ⟨out ++ [⟨5, s.size, ⟨#[]⟩, 0⟩], 0, 0⟩
def whole (s : ByteArray) : Whole := if 65536 < s.size then ⟨[], 0, 3⟩ else toksF s (s.size + 1) 0 []
theorem toksF_at {s : ByteArray} {b pos : Nat} {out : List Tok} {p : Nat} (h : skp s pos = p) (hp : skp s p = p) : toksF s (b + 1) pos out = toksF s (b + 1) p out := by
  simp only [toksF, h, hp]
theorem toksF_end {s : ByteArray} {b pos : Nat} {out : List Tok} (h : ¬ skp s pos < s.size) : toksF s b pos out = ⟨out ++ [⟨5, s.size, ⟨#[]⟩, 0⟩], 0, 0⟩ := by
  cases b with
  | zero => rfl
  | succ b => rw [toksF, if_neg h]
theorem toksF_tok {s : ByteArray} {b pos : Nat} {out : List Tok} {p : Nat} {o : One} (h : skp s pos = p) (hlt : p < s.size) (ho : oneF (s.extract p s.size) = o) (he : o.e = 0) : toksF s (b + 1) pos out = toksF s b (p + o.t.size) (out ++ [⟨o.k, p, o.t, o.n⟩]) := by
  subst h; subst ho
  rw [toksF, if_pos hlt, if_pos he]
theorem toksF_err {s : ByteArray} {b pos : Nat} {out : List Tok} {p : Nat} {o : One} (h : skp s pos = p) (hlt : p < s.size) (ho : oneF (s.extract p s.size) = o) (he : ¬ o.e = 0) : toksF s (b + 1) pos out = ⟨[], p, o.e⟩ := by
  subst h; subst ho
  rw [toksF, if_pos hlt, if_neg he]

/-- A token begins the text, is not empty, and is ASCII. -/
theorem one_ok {u : ByteArray} {o : One} (ho : oneF u = o) (he : o.e = 0) : 0 < o.t.size ∧ o.t.size ≤ u.size ∧ o.t = u.extract 0 o.t.size ∧ ∀ i, i < o.t.size → byteI u i < 128 := by
  have hpos : byteI u 0 ≠ 0 → 0 < u.size := fun h => by
    rcases Nat.eq_zero_or_pos u.size with h0 | h0
    · exact absurd (byteI_out (by omega)) h
    · exact h0
  have key : ∀ (p : Int → Bool), Asc p → p (byteI u 0) = true → 0 < u.size → 0 < lb p u 0 ∧ lb p u 0 ≤ u.size ∧ ∀ i, i < lb p u 0 → byteI u i < 128 := fun p hp h0 hu => by
    have hl := lb_led p u 0 (Nat.zero_le _)
    refine ⟨?_, hl.le, fun i hi => ?_⟩
    · rcases Nat.eq_zero_or_pos (lb p u 0) with e | e
      · have := hl.stop (by omega)
        rw [e, h0] at this; cases this
      · exact e
    · have := hl.all i (Nat.zero_le _) hi
      rcases Int.lt_or_le (byteI u i) 128 with h | h
      · exact h
      · rw [hp _ h] at this; cases this
  have fin : ∀ L : Nat, 0 < L → L ≤ u.size → (∀ i, i < L → byteI u i < 128) → o.t = u.extract 0 L → 0 < o.t.size ∧ o.t.size ≤ u.size ∧ o.t = u.extract 0 o.t.size ∧ ∀ i, i < o.t.size → byteI u i < 128 := fun L h1 h2 h3 h4 => by
    have hz : o.t.size = L := by rw [h4, size_extract u 0 L h2]; omega
    rw [hz]
    exact ⟨h1, h2, h4, h3⟩
  unfold oneF at ho
  by_cases hl : isLetR (byteI u 0) = true
  · rw [if_pos hl] at ho
    have hw : isWordR (byteI u 0) = true := by unfold isWordR; rw [hl]; rfl
    have k := key isWordR asc_word hw (hpos (by intro h; rw [h] at hl; revert hl; decide))
    by_cases h32 : 32 < lb isWordR u 0
    · rw [if_pos h32] at ho; subst ho; exact absurd he (by decide)
    · rw [if_neg h32] at ho
      by_cases hk : isKwd (u.extract 0 (lb isWordR u 0)) = true
      · rw [if_pos hk] at ho; subst ho; exact fin _ k.1 k.2.1 k.2.2 rfl
      · rw [if_neg hk] at ho; subst ho; exact fin _ k.1 k.2.1 k.2.2 rfl
  · rw [if_neg hl] at ho
    by_cases hd : isDigR (byteI u 0) = true
    · rw [if_pos hd] at ho
      have k := key isDigR asc_digit hd (hpos (by intro h; rw [h] at hd; revert hd; decide))
      by_cases h1 : lb isWordR u 0 ≠ lb isDigR u 0 ∨ byteI u 0 = 48 ∧ 1 < lb isDigR u 0
      · rw [if_pos h1] at ho; subst ho; exact absurd he (by decide)
      · rw [if_neg h1] at ho
        by_cases h2 : 9223372036854775807 < decV (u.extract 0 (lb isDigR u 0)).data.toList 0
        · rw [if_pos h2] at ho; subst ho; exact absurd he (by decide)
        · rw [if_neg h2] at ho; subst ho; exact fin _ k.1 k.2.1 k.2.2 rfl
    · rw [if_neg hd] at ho
      by_cases hm : markLen u = 0
      · rw [if_pos hm] at ho; subst ho; exact absurd he (by decide)
      · rw [if_neg hm] at ho
        subst ho
        have h1 : byteI u 1 ≠ 0 → 1 < u.size := fun h => by
          rcases Nat.lt_or_ge 1 u.size with h0 | h0
          · exact h0
          · exact absurd (byteI_out h0) h
        refine fin (markLen u) (by omega) ?_ (fun i hi => ?_) rfl
        · unfold markLen at hm ⊢
          repeat' split
          all_goals omega
        · unfold markLen at hm hi
          repeat' split at hi
          all_goals first | omega | (obtain rfl | rfl : i = 0 ∨ i = 1 := by omega
                                     all_goals omega) | (obtain rfl : i = 0 := by omega
                                                         omega)
end Go.Proofs.YtmnfonhfbolnkaaDoor
