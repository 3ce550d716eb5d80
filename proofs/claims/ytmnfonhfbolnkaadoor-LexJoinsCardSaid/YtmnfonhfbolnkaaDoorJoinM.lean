/-
  The joined tokens have the same tokens.
-/
import Derived.Test.YtmnfonhfbolnkaaDoorSpansM
import Derived.Lib.Join
namespace Go.Proofs.YtmnfonhfbolnkaaDoor
open Go.RowKit
set_option linter.unusedVariables false

def tB (t : Tok) : List UInt8 := t.t.data.toList
/-- A space before each text that is not empty. -/
def Tt : List Tok → List UInt8
  | [] => []
  | t :: r => if t.t.size = 0 then Tt r else 32 :: tB t ++ Tt r
/-- The texts that are not empty, with spaces between. -/
def Jt : List Tok → List UInt8
  | [] => []
  | t :: r => if t.t.size = 0 then Jt r else tB t ++ Tt r
def f3 (t : Tok) : Int × ByteArray × Int := (t.k, t.t, t.n)
def sufL (j : ByteArray) (p : Nat) : List UInt8 := j.data.toList.drop p
theorem tB_len (t : Tok) : (tB t).length = t.t.size := len_data _
theorem byteI_suf_at {j : ByteArray} {p i : Nat} {l : List UInt8} (h : sufL j p = l) : byteI j (p + i) = ((l.getD i 0).toNat : Int) := by
  unfold byteI
  rw [← h]
  unfold sufL
  rw [List.getD_eq_getElem?_getD, List.getD_eq_getElem?_getD, List.getElem?_drop]
theorem suf_len {j : ByteArray} {p : Nat} {l : List UInt8} (h : sufL j p = l) (hp : p ≤ j.size) : p + l.length = j.size := by
  have : (sufL j p).length = j.size - p := by unfold sufL; simp
  rw [h] at this
  omega
theorem suf_drop {j : ByteArray} {p : Nat} {a l : List UInt8} (h : sufL j p = a ++ l) : sufL j (p + a.length) = l := by
  unfold sufL at h ⊢
  rw [← List.drop_drop, h, List.drop_left]
theorem Tt_head (ts : List Tok) : Tt ts = [] ∨ ∃ r, Tt ts = 32 :: r := by
  induction ts with
  | nil => exact .inl rfl
  | cons t r ih =>
    unfold Tt
    by_cases h : t.t.size = 0
    · rw [if_pos h]; exact ih
    · rw [if_neg h]; exact .inr ⟨_, rfl⟩
/-- The first byte of a token begins no separator and no comment. -/
theorem tok_first {u : ByteArray} {o : One} (ho : oneF u = o) (he : o.e = 0) : isSpcR (byteI u 0) = false ∧ byteI u 0 ≠ 47 := by
  have spc : ∀ c : Int, c ≠ 32 → c ≠ 9 → c ≠ 13 → c ≠ 10 → isSpcR c = false := fun c h1 h2 h3 h4 => by
    unfold isSpcR
    simp [h1, h2, h3, h4]
  have k : byteI u 0 ≠ 32 ∧ byteI u 0 ≠ 9 ∧ byteI u 0 ≠ 13 ∧ byteI u 0 ≠ 10 ∧ byteI u 0 ≠ 47 := by
    unfold oneF at ho
    by_cases hl : isLetR (byteI u 0) = true
    · have := (let_iff _).mp hl; omega
    · rw [if_neg hl] at ho
      by_cases hd : isDigR (byteI u 0) = true
      · have := (dig_iff _).mp hd; omega
      · rw [if_neg hd] at ho
        by_cases hm : markLen u = 0
        · rw [if_pos hm] at ho; subst ho; exact absurd he (by decide)
        · unfold markLen at hm
          repeat' split at hm
          all_goals omega
  exact ⟨spc _ k.1 k.2.1 k.2.2.1 k.2.2.2.1, k.2.2.2.2⟩
theorem tok_step {u : ByteArray} {o : One} (ho : oneF u = o) (he : o.e = 0) {j : ByteArray} {q : Nat} {r : List UInt8} (hq : q ≤ j.size) (h : sufL j q = o.t.data.toList ++ r) (hr : r = [] ∨ ∃ r', r = 32 :: r') :
    skp j q = q ∧ q + o.t.size ≤ j.size ∧ q < j.size ∧ oneF (j.extract q j.size) = o := by
  obtain ⟨k1, k2, k3, k4⟩ := one_ok ho he
  have hlen := suf_len h hq
  rw [List.length_append, len_data] at hlen
  have hbt : ∀ i, i < o.t.size → byteI j (q + i) = byteI u i := fun i hi => by
    rw [byteI_suf_at h, List.getD_eq_getElem?_getD, List.getElem?_append_left (by rw [len_data]; exact hi)]
    have h2 : byteI o.t i = byteI u i := by
      have h3 := byteI_extract u 0 o.t.size i k2 (by omega)
      rw [← k3, Nat.zero_add] at h3
      exact h3
    rw [← h2]
    unfold byteI
    rw [List.getD_eq_getElem?_getD]
  have hf := tok_first ho he
  have h0 : byteI j q = byteI u 0 := hbt 0 k1
  refine ⟨skp_stop (by rw [h0]; exact hf.1) (fun hc => hf.2 (by rw [← h0]; exact hc.1)), by omega, by omega, ?_⟩
  have hz : (j.extract q j.size).size = j.size - q := size_extract j q _ (Nat.le_refl _)
  refine one_loc ho he (by omega) (fun i hi => by rw [byteI_suf]; exact hbt i hi) ?_
  rw [byteI_suf, byteI_suf_at h, List.getD_eq_getElem?_getD, List.getElem?_append_right (by rw [len_data]; exact Nat.le_refl _), len_data, Nat.sub_self]
  rcases hr with e | ⟨r', e⟩
  · rw [e]; exact .inr (.inl rfl)
  · rw [e]; exact .inr (.inr rfl)
theorem toksF_J {s j : ByteArray} : ∀ (ts : List Tok) (p0 p b : Nat) (out : List Tok), p0 ≤ s.size → Ch s p0 ts → sufL j p = Tt ts → p ≤ j.size → ts.length ≤ b + 1 →
    ∃ l, toksF j b p out = ⟨out ++ l, 0, 0⟩ ∧ l.map f3 = ts.map f3
  | [], p0, p, b, out, _, hc, _, _, _ => absurd rfl hc.ne
  | [t], p0, p, b, out, hp0, hc, hs, hp, hb => by
    obtain ⟨h1, _⟩ := hc
    subst h1
    have hT : Tt [⟨5, s.size, ⟨#[]⟩, 0⟩] = [] := rfl
    rw [hT] at hs
    have hl := suf_len hs hp
    simp at hl
    rw [toksF_end (by rw [skp_end (by omega)]; omega)]
    exact ⟨_, rfl, rfl⟩
  | t :: u :: r, p0, p, b, out, hp0, hc, hs, hp, hb => by
    have hh := (Ch.head hc hp0)
    obtain ⟨h1, h2, h3, h4⟩ := hc
    have hok := one_ok h3 rfl
    simp only at hok
    have hT : Tt (t :: u :: r) = 32 :: tB t ++ Tt (u :: r) := by
      show (if t.t.size = 0 then _ else _) = _
      rw [if_neg (by omega)]
    rw [hT] at hs
    have hlen := suf_len hs hp
    have hb0 := byteI_suf_at (i := 0) hs
    rw [Nat.add_zero] at hb0
    have hsp : isSpcR (byteI j p) = true := by rw [hb0]; rfl
    have hlt : p < j.size := by
      simp at hlen; omega
    have hs1 : sufL j (p + 1) = tB t ++ Tt (u :: r) := suf_drop (a := [32]) hs
    obtain ⟨e1, e2, e3, e4⟩ := tok_step h3 rfl (show p + 1 ≤ j.size by omega) hs1 (Tt_head _)
    simp only at e2
    cases b with
    | zero => simp at hb
    | succ b =>
      rw [toksF_tok (by rw [skp_space hlt hsp]; exact e1) e3 e4 rfl]
      have hs2 : sufL j (p + 1 + t.t.size) = Tt (u :: r) := by
        have := suf_drop hs1
        rwa [tB_len] at this
      have hfit := hh.1.fit
      obtain ⟨l, hl1, hl2⟩ := toksF_J (u :: r) (t.a + t.t.size) (p + 1 + t.t.size) b (out ++ [⟨t.k, p + 1, t.t, t.n⟩]) hfit h4 hs2 e2 (by simp at hb ⊢; omega)
      refine ⟨⟨t.k, p + 1, t.t, t.n⟩ :: l, by rw [hl1, List.append_assoc]; rfl, ?_⟩
      rw [List.map_cons, hl2]
      rfl
theorem Jt_len {s : ByteArray} : ∀ (ts : List Tok) (p : Nat), p ≤ s.size → Ch s p ts → (Jt ts).length ≤ 2 * (s.size - p) ∧ (Tt ts).length ≤ 2 * (s.size - p)
  | [], p, _, hc => absurd rfl hc.ne
  | [t], p, hp, hc => by
    obtain ⟨h1, _⟩ := hc
    subst h1
    exact ⟨Nat.zero_le _, Nat.zero_le _⟩
  | t :: u :: r, p, hp, hc => by
    have hh := Ch.head hc hp
    obtain ⟨h1, h2, h3, h4⟩ := hc
    have hok := one_ok h3 rfl
    simp only at hok
    have hle := hh.1.le
    have hfit := hh.1.fit
    have ih := Jt_len (u :: r) (t.a + t.t.size) hfit h4
    have hT : Tt (t :: u :: r) = 32 :: tB t ++ Tt (u :: r) := by
      show (if t.t.size = 0 then _ else _) = _
      rw [if_neg (by omega)]
    have hJ : Jt (t :: u :: r) = tB t ++ Tt (u :: r) := by
      show (if t.t.size = 0 then _ else _) = _
      rw [if_neg (by omega)]
    rw [hT, hJ]
    simp only [List.length_append, List.length_cons, tB_len]
    omega
theorem ch_len {s : ByteArray} : ∀ (ts : List Tok) (p : Nat), p ≤ s.size → Ch s p ts → ts.length ≤ (Tt ts).length + 1 ∧ ts.length ≤ (Jt ts).length + 1
  | [], p, _, hc => absurd rfl hc.ne
  | [t], p, hp, hc => ⟨by simp, by simp⟩
  | t :: u :: r, p, hp, hc => by
    have hh := Ch.head hc hp
    obtain ⟨h1, h2, h3, h4⟩ := hc
    have hok := one_ok h3 rfl
    simp only at hok
    have ih := ch_len (u :: r) (t.a + t.t.size) hh.1.fit h4
    have hT : Tt (t :: u :: r) = 32 :: tB t ++ Tt (u :: r) := by
      show (if t.t.size = 0 then _ else _) = _
      rw [if_neg (by omega)]
    have hJ : Jt (t :: u :: r) = tB t ++ Tt (u :: r) := by
      show (if t.t.size = 0 then _ else _) = _
      rw [if_neg (by omega)]
    rw [hT, hJ]
    simp only [List.length_append, List.length_cons, tB_len] at ih ⊢
    omega
theorem whole_J {s : ByteArray} {ts : List Tok} (hc : Ch s 0 ts) (hs : s.size ≤ 3000) : (whole ⟨(Jt ts).toArray⟩).e = 0 ∧ (whole ⟨(Jt ts).toArray⟩).l.map f3 = ts.map f3 := by
  have hjl := (Jt_len ts 0 (Nat.zero_le _) hc).1
  have hcl := (ch_len ts 0 (Nat.zero_le _) hc).2
  obtain ⟨j, hj⟩ : ∃ j : ByteArray, (⟨(Jt ts).toArray⟩ : ByteArray) = j := ⟨_, rfl⟩
  have hjz : j.size = (Jt ts).length := by rw [← hj]; simp [ByteArray.size]
  have hs0 : sufL j 0 = Jt ts := by rw [← hj]; simp [sufL]
  rw [hj]
  unfold whole
  rw [if_neg (by omega)]
  match ts, hc with
  | [t], hc =>
    obtain ⟨h1, _⟩ := hc
    subst h1
    have hz : j.size = 0 := hjz
    rw [toksF_end (by rw [skp_end (by omega)]; omega)]
    exact ⟨rfl, rfl⟩
  | t :: u :: r, hc =>
    have hh := Ch.head hc (Nat.zero_le _)
    obtain ⟨h1, h2, h3, h4⟩ := hc
    have hok := one_ok h3 rfl
    simp only at hok
    have hJ : Jt (t :: u :: r) = tB t ++ Tt (u :: r) := by
      show (if t.t.size = 0 then _ else _) = _
      rw [if_neg (by omega)]
    rw [hJ] at hs0
    obtain ⟨e1, e2, e3, e4⟩ := tok_step h3 rfl (Nat.zero_le _) hs0 (Tt_head _)
    simp only at e2
    rw [toksF_tok e1 e3 e4 rfl]
    have hs2 : sufL j (0 + t.t.size) = Tt (u :: r) := by
      have := suf_drop hs0
      rwa [tB_len] at this
    obtain ⟨l, hl1, hl2⟩ := toksF_J (u :: r) (t.a + t.t.size) (0 + t.t.size) j.size ([] ++ [⟨t.k, 0, t.t, t.n⟩]) hh.1.fit h4 hs2 e2 (by simp at hcl ⊢; omega)
    rw [hl1]
    refine ⟨rfl, ?_⟩
    show List.map f3 (⟨t.k, 0, t.t, t.n⟩ :: l) = _
    rw [List.map_cons, hl2]
    rfl

/-! How the two build the joined text. -/
def txts (ts : List Tok) : List ByteArray := (ts.filter fun t => decide (t.t.size ≠ 0)).map (·.t)
theorem join_T (ts : List Tok) : Lib.joinTail [32] ((txts ts).map (·.data.toList)) = Tt ts := by
  induction ts with
  | nil => rfl
  | cons t r ih =>
    unfold Tt txts
    by_cases h : t.t.size = 0
    · rw [if_pos h, List.filter_cons_of_neg (by simpa using h)]
      exact ih
    · rw [if_neg h, List.filter_cons_of_pos (by simpa using h), ← ih]
      simp [Lib.joinTail, tB, txts]
theorem join_J (ts : List Tok) : Lib.join ((txts ts).map (·.data.toList)) [32] = Jt ts := by
  induction ts with
  | nil => rfl
  | cons t r ih =>
    unfold Jt txts
    by_cases h : t.t.size = 0
    · rw [if_pos h, List.filter_cons_of_neg (by simpa using h)]
      exact ih
    · rw [if_neg h, List.filter_cons_of_pos (by simpa using h), List.map_cons, List.map_cons, Lib.join_cons]
      have := join_T r
      unfold txts at this
      rw [this]
      rfl
/-- The definition's way, one text after another. -/
def jst (out : List UInt8) (t : Tok) : List UInt8 := if t.t.size = 0 then out else if out = [] then tB t else out ++ 32 :: tB t
theorem fold_T : ∀ (ts : List Tok) (out : List UInt8), out ≠ [] → ts.foldl jst out = out ++ Tt ts
  | [], out, _ => by simp [Tt]
  | t :: r, out, h => by
    rw [List.foldl_cons]
    unfold jst Tt
    by_cases h0 : t.t.size = 0
    · rw [if_pos h0, if_pos h0]; exact fold_T r out h
    · rw [if_neg h0, if_neg h0, if_neg h]
      have := fold_T r (out ++ 32 :: tB t) (by simp)
      unfold jst at this
      rw [this]
      simp
theorem fold_J : ∀ (ts : List Tok), ts.foldl jst [] = Jt ts
  | [] => rfl
  | t :: r => by
    rw [List.foldl_cons]
    have e : jst [] t = if t.t.size = 0 then [] else tB t := by unfold jst; rw [if_pos rfl]
    rw [e]
    unfold Jt
    by_cases h0 : t.t.size = 0
    · rw [if_pos h0, if_pos h0]; exact fold_J r
    · rw [if_neg h0, if_neg h0]
      exact fold_T r _ (fun h => by have := tB_len t; rw [h] at this; simp at this; omega)
end Go.Proofs.YtmnfonhfbolnkaaDoor
