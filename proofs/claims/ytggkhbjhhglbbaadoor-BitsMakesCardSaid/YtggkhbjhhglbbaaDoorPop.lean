/-
  The arithmetic of OnesCount64, byte by byte. No Go program here.
-/
import Derived.Test.YtggkhbjhhglbbaaDoorMath
namespace Go.Proofs.YtggkhbjhhglbbaaDoor
set_option linter.unusedVariables false

/-- How many of the first n bits are set. -/
def cnt : Nat → Nat → Nat
  | 0, _ => 0
  | n + 1, x => cnt n x + (x.testBit n).toNat
theorem cnt_succ (n x : Nat) : cnt (n + 1) x = cnt n x + (x.testBit n).toNat := rfl
theorem cnt_le (n x : Nat) : cnt n x ≤ n := by
  induction n with
  | zero => exact Nat.le_refl _
  | succ n ih => unfold cnt; have := Bool.toNat_le (x.testBit n); omega
theorem length_elemsTo (ws : List Nat) (w k : Nat) (hk : k ≤ 64) : (elemsTo ws (64 * w + k)).length = (elemsTo ws (64 * w)).length + cnt k (ws.getD w 0) := by
  induction k with
  | zero => rfl
  | succ k ih =>
    rw [← Nat.add_assoc, elemsTo_succ, List.length_append, ih (by omega), cnt_succ]
    have e : mem ws (64 * w + k) = (ws.getD w 0).testBit k := by
      unfold mem
      rw [show (64 * w + k) / 64 = w from by omega, show (64 * w + k) % 64 = k from by omega]
    rw [e]
    generalize cnt k (ws.getD w 0) = c
    cases (ws.getD w 0).testBit k <;> simp <;> omega

/-- A number out of its bytes. -/
def hn : List Nat → Nat
  | [] => 0
  | b :: r => b + 256 * hn r
def rep (n m : Nat) : Nat := hn (List.replicate n m)
theorem rep_succ (n m : Nat) : rep (n + 1) m = m + 256 * rep n m := rfl

theorem land_split (a b M m : Nat) (hb : b < 256) (hm : m < 256) : (b + 256 * a) &&& (m + 256 * M) = (b &&& m) + 256 * (a &&& M) := by
  have h1 : ((b + 256 * a) &&& (m + 256 * M)) / 2 ^ 8 = (b + 256 * a) / 2 ^ 8 &&& (m + 256 * M) / 2 ^ 8 := Nat.and_div_two_pow
  have h2 : ((b + 256 * a) &&& (m + 256 * M)) % 2 ^ 8 = ((b + 256 * a) % 2 ^ 8) &&& ((m + 256 * M) % 2 ^ 8) := Nat.and_mod_two_pow
  have e1 : (b + 256 * a) / 2 ^ 8 = a := by omega
  have e2 : (m + 256 * M) / 2 ^ 8 = M := by omega
  have e3 : (b + 256 * a) % 2 ^ 8 = b := by omega
  have e4 : (m + 256 * M) % 2 ^ 8 = m := by omega
  rw [e1, e2] at h1
  rw [e3, e4] at h2
  omega

def f1 (b : Nat) : Nat := (b / 2 &&& 85) + (b &&& 85)
def f2 (b : Nat) : Nat := (b / 4 &&& 51) + (b &&& 51)
def f3 (b : Nat) : Nat := (b / 16 + b) % 16
theorem low1 : ∀ (c : Fin 2) (b : Fin 128), (c.val * 128 + b.val) &&& 85 = b.val &&& 85 := by decide +kernel
theorem low2 : ∀ (c : Fin 4) (b : Fin 64), (c.val * 64 + b.val) &&& 51 = b.val &&& 51 := by decide +kernel
theorem byte_facts : ∀ b : Fin 256, f1 b.val < 256 ∧ f2 (f1 b.val) % 16 ≤ 4 ∧ f2 (f1 b.val) / 16 ≤ 4 ∧ f3 (f2 (f1 b.val)) = cnt 8 b.val := by decide +kernel

theorem step1 (bs : List Nat) (h : ∀ b ∈ bs, b < 256) : (hn bs / 2 &&& rep bs.length 85) + (hn bs &&& rep bs.length 85) = hn (bs.map f1) := by
  induction bs with
  | nil => rfl
  | cons b r ih =>
    have hb := h b (by simp)
    have ih := ih fun c hc => h c (by simp [hc])
    show ((b + 256 * hn r) / 2 &&& (85 + 256 * rep r.length 85)) + ((b + 256 * hn r) &&& (85 + 256 * rep r.length 85)) = f1 b + 256 * hn (r.map f1)
    have e : (b + 256 * hn r) / 2 = ((hn r % 2) * 128 + b / 2) + 256 * (hn r / 2) := by omega
    rw [e, land_split _ _ _ _ (by omega) (by omega), land_split _ _ _ _ (by omega) (by omega), ← ih]
    have l := low1 ⟨hn r % 2, by omega⟩ ⟨b / 2, by omega⟩
    simp only at l
    rw [l]
    unfold f1
    omega
theorem step2 (bs : List Nat) (h : ∀ b ∈ bs, b < 256) : (hn bs / 4 &&& rep bs.length 51) + (hn bs &&& rep bs.length 51) = hn (bs.map f2) := by
  induction bs with
  | nil => rfl
  | cons b r ih =>
    have hb := h b (by simp)
    have ih := ih fun c hc => h c (by simp [hc])
    show ((b + 256 * hn r) / 4 &&& (51 + 256 * rep r.length 51)) + ((b + 256 * hn r) &&& (51 + 256 * rep r.length 51)) = f2 b + 256 * hn (r.map f2)
    have e : (b + 256 * hn r) / 4 = ((hn r % 4) * 64 + b / 4) + 256 * (hn r / 4) := by omega
    rw [e, land_split _ _ _ _ (by omega) (by omega), land_split _ _ _ _ (by omega) (by omega), ← ih]
    have l := low2 ⟨hn r % 4, by omega⟩ ⟨b / 4, by omega⟩
    simp only at l
    rw [l]
    unfold f2
    omega
theorem step3 (bs : List Nat) (h : ∀ b ∈ bs, b % 16 ≤ 4 ∧ b / 16 ≤ 4) : (hn bs / 16 + hn bs) &&& rep bs.length 15 = hn (bs.map f3) ∧ hn bs % 16 ≤ 4 := by
  induction bs with
  | nil => exact ⟨rfl, by decide⟩
  | cons b r ih =>
    have hb := h b (by simp)
    obtain ⟨ih, hr⟩ := ih fun c hc => h c (by simp [hc])
    refine ⟨?_, by show (b + 256 * hn r) % 16 ≤ 4; omega⟩
    show ((b + 256 * hn r) / 16 + (b + 256 * hn r)) &&& (15 + 256 * rep r.length 15) = f3 b + 256 * hn (r.map f3)
    have e : (b + 256 * hn r) / 16 + (b + 256 * hn r) = ((hn r % 16) * 16 + b / 16 + b) + 256 * (hn r / 16 + hn r) := by omega
    rw [e, land_split _ _ _ _ (by omega) (by omega), ih]
    have m : ((hn r % 16) * 16 + b / 16 + b) &&& (2 ^ 4 - 1) = ((hn r % 16) * 16 + b / 16 + b) % 2 ^ 4 := Nat.and_two_pow_sub_one_eq_mod _ 4
    have m' : ((hn r % 16) * 16 + b / 16 + b) &&& 15 = ((hn r % 16) * 16 + b / 16 + b) % 16 := m
    rw [m']
    unfold f3
    omega

theorem cnt_split (x : Nat) (n : Nat) : cnt (n + 8) x = cnt 8 (x % 256) + cnt n (x / 256) := by
  induction n with
  | zero =>
    have h : ∀ k, k ≤ 8 → cnt k x = cnt k (x % 256) := by
      intro k hk
      induction k with
      | zero => rfl
      | succ k ih =>
        rw [cnt_succ, cnt_succ, ih (by omega), show x % 256 = x % 2 ^ 8 from rfl, Nat.testBit_mod_two_pow]
        simp [show k < 8 from by omega]
    exact h 8 (Nat.le_refl _)
  | succ n ih =>
    rw [show n + 1 + 8 = (n + 8) + 1 from by omega, cnt_succ (n + 8) x, ih, cnt_succ n (x / 256), show x / 256 = x / 2 ^ 8 from rfl, Nat.testBit_div_two_pow]
    omega

/-- The eight bytes. -/
def by8 (x : Nat) : List Nat := [x % 256, x / 256 % 256, x / 65536 % 256, x / 16777216 % 256, x / 4294967296 % 256, x / 1099511627776 % 256, x / 281474976710656 % 256, x / 72057594037927936 % 256]
theorem hn_by8 (x : Nat) (hx : x < 18446744073709551616) : hn (by8 x) = x := by
  simp only [by8, hn]; omega
theorem by8_lt (x : Nat) : ∀ b ∈ by8 x, b < 256 := by
  intro b hb
  simp only [by8, List.mem_cons, List.not_mem_nil, or_false] at hb
  omega
theorem cnt_by8 (x : Nat) : cnt 64 x = cnt 8 (x % 256) + (cnt 8 (x / 256 % 256) + (cnt 8 (x / 65536 % 256) + (cnt 8 (x / 16777216 % 256) + (cnt 8 (x / 4294967296 % 256) + (cnt 8 (x / 1099511627776 % 256) + (cnt 8 (x / 281474976710656 % 256) + cnt 8 (x / 72057594037927936 % 256))))))) := by
  have s0 : cnt 64 x = cnt 8 (x % 256) + cnt 56 (x / 256) := cnt_split x 56
  have s1 : cnt 56 (x / 256) = cnt 8 (x / 256 % 256) + cnt 48 (x / 256 / 256) := cnt_split _ 48
  have s2 : cnt 48 (x / 256 / 256) = cnt 8 (x / 256 / 256 % 256) + cnt 40 (x / 256 / 256 / 256) := cnt_split _ 40
  have s3 : cnt 40 (x / 256 / 256 / 256) = cnt 8 (x / 256 / 256 / 256 % 256) + cnt 32 (x / 256 / 256 / 256 / 256) := cnt_split _ 32
  have s4 : cnt 32 (x / 256 / 256 / 256 / 256) = cnt 8 (x / 256 / 256 / 256 / 256 % 256) + cnt 24 (x / 256 / 256 / 256 / 256 / 256) := cnt_split _ 24
  have s5 : cnt 24 (x / 256 / 256 / 256 / 256 / 256) = cnt 8 (x / 256 / 256 / 256 / 256 / 256 % 256) + cnt 16 (x / 256 / 256 / 256 / 256 / 256 / 256) := cnt_split _ 16
  have s6 : cnt 16 (x / 256 / 256 / 256 / 256 / 256 / 256) = cnt 8 (x / 256 / 256 / 256 / 256 / 256 / 256 % 256) + cnt 8 (x / 256 / 256 / 256 / 256 / 256 / 256 / 256) := cnt_split _ 8
  have s7 : cnt 8 (x / 256 / 256 / 256 / 256 / 256 / 256 / 256) = cnt 8 (x / 256 / 256 / 256 / 256 / 256 / 256 / 256 % 256) + 0 := cnt_split _ 0
  rw [s0, s1, s2, s3, s4, s5, s6, s7]
  simp only [Nat.div_div_eq_div_mul, Nat.add_zero, Nat.reduceMul]

def y1 (x : Nat) : Nat := (x / 2 &&& 6148914691236517205) + (x &&& 6148914691236517205)
def y2 (x : Nat) : Nat := (y1 x / 4 &&& 3689348814741910323) + (y1 x &&& 3689348814741910323)
def y3 (x : Nat) : Nat := (y2 x / 16 + y2 x) &&& 1085102592571150095

theorem rep1 : rep 8 85 = 6148914691236517205 := by decide +kernel
theorem rep2 : rep 8 51 = 3689348814741910323 := by decide +kernel
theorem rep3 : rep 8 15 = 1085102592571150095 := by decide +kernel
theorem length_by8 (x : Nat) : (by8 x).length = 8 := rfl

theorem ones_bytes (x : Nat) (hx : x < 18446744073709551616) :
    y1 x = hn ((by8 x).map f1) ∧ y2 x = hn (((by8 x).map f1).map f2) ∧ y3 x = hn ((by8 x).map (cnt 8)) := by
  have b0 := by8_lt x
  have e1 : y1 x = hn ((by8 x).map f1) := by
    have := step1 (by8 x) b0
    rw [hn_by8 x hx, length_by8, rep1] at this
    exact this
  have e2 : y2 x = hn (((by8 x).map f1).map f2) := by
    have := step2 ((by8 x).map f1) (by
      intro b hb
      obtain ⟨c, hc, rfl⟩ := List.mem_map.1 hb
      exact (byte_facts ⟨c, b0 c hc⟩).1)
    rw [← e1, List.length_map, length_by8, rep2] at this
    exact this
  refine ⟨e1, e2, ?_⟩
  have := (step3 (((by8 x).map f1).map f2) (by
    intro b hb
    obtain ⟨c, hc, rfl⟩ := List.mem_map.1 hb
    obtain ⟨d, hd, rfl⟩ := List.mem_map.1 hc
    have := byte_facts ⟨d, b0 d hd⟩
    exact ⟨this.2.1, this.2.2.1⟩)).1
  rw [← e2, List.length_map, List.length_map, length_by8, rep3] at this
  refine this.trans ?_
  rw [List.map_map, List.map_map]
  congr 1
  apply List.map_congr_left
  intro b hb
  exact (byte_facts ⟨b, b0 b hb⟩).2.2.2

theorem hn_le (m : Nat) (bs : List Nat) (h : ∀ b ∈ bs, b ≤ m) : hn bs ≤ rep bs.length m := by
  induction bs with
  | nil => exact Nat.le_refl _
  | cons b r ih =>
    have := h b (by simp)
    have := ih fun c hc => h c (by simp [hc])
    show b + 256 * hn r ≤ m + 256 * rep r.length m
    omega
theorem rep4 : rep 8 255 = 18446744073709551615 := by decide +kernel
theorem rep5 : rep 8 68 = 4919131752989213764 := by decide +kernel
theorem rep6 : rep 8 8 = 578721382704613384 := by decide +kernel

theorem y_bounds (x : Nat) (hx : x < 18446744073709551616) : y1 x ≤ 18446744073709551615 ∧ y2 x ≤ 4919131752989213764 ∧ y3 x ≤ 578721382704613384 := by
  obtain ⟨e1, e2, e3⟩ := ones_bytes x hx
  have b0 := by8_lt x
  refine ⟨?_, ?_, ?_⟩
  · have := hn_le 255 ((by8 x).map f1) (by
      intro b hb
      obtain ⟨c, hc, rfl⟩ := List.mem_map.1 hb
      have := (byte_facts ⟨c, b0 c hc⟩).1
      simp only at this
      omega)
    rw [List.length_map, length_by8, rep4] at this
    rw [e1]; exact this
  · have := hn_le 68 (((by8 x).map f1).map f2) (by
      intro b hb
      obtain ⟨c, hc, rfl⟩ := List.mem_map.1 hb
      obtain ⟨d, hd, rfl⟩ := List.mem_map.1 hc
      have := byte_facts ⟨d, b0 d hd⟩
      simp only at this
      omega)
    rw [List.length_map, List.length_map, length_by8, rep5] at this
    rw [e2]; exact this
  · have := hn_le 8 ((by8 x).map (cnt 8)) (by
      intro b hb
      obtain ⟨c, hc, rfl⟩ := List.mem_map.1 hb
      exact cnt_le 8 c)
    rw [List.length_map, length_by8, rep6] at this
    rw [e3]; exact this

def y4 (x : Nat) : Nat := y3 x / 256 + y3 x
def y5 (x : Nat) : Nat := y4 x / 65536 + y4 x
def y6 (x : Nat) : Nat := y5 x / 4294967296 + y5 x
theorem dv (r k q : Nat) (h : r < k) : (r + k * q) / k = q := by
  rw [Nat.add_mul_div_left _ _ (by omega), Nat.div_eq_of_lt h, Nat.zero_add]
theorem sum8 (d0 d1 d2 d3 d4 d5 d6 d7 : Nat) (h0 : d0 ≤ 8) (h1 : d1 ≤ 8) (h2 : d2 ≤ 8) (h3 : d3 ≤ 8) (h4 : d4 ≤ 8) (h5 : d5 ≤ 8) (h6 : d6 ≤ 8) (h7 : d7 ≤ 8) (a b c : Nat)
    (ha : a = (d0 + 256 * (d1 + 256 * (d2 + 256 * (d3 + 256 * (d4 + 256 * (d5 + 256 * (d6 + 256 * (d7 + 256 * 0)))))))) / 256 + (d0 + 256 * (d1 + 256 * (d2 + 256 * (d3 + 256 * (d4 + 256 * (d5 + 256 * (d6 + 256 * (d7 + 256 * 0)))))))))
    (hb : b = a / 65536 + a) (hc : c = b / 4294967296 + b) : c % 128 = d0 + (d1 + (d2 + (d3 + (d4 + (d5 + (d6 + d7)))))) := by
  have e1 : (d0 + 256 * (d1 + 256 * (d2 + 256 * (d3 + 256 * (d4 + 256 * (d5 + 256 * (d6 + 256 * (d7 + 256 * 0)))))))) / 256 = (d1 + 256 * (d2 + 256 * (d3 + 256 * (d4 + 256 * (d5 + 256 * (d6 + 256 * (d7 + 256 * 0))))))) := dv d0 256 _ (by omega)
  rw [e1] at ha
  clear e1
  have e2 : a / 65536 = (d2 + d3) + 256 * ((d3 + d4) + 256 * ((d4 + d5) + 256 * ((d5 + d6) + 256 * ((d6 + d7) + 256 * d7)))) := by
    have : a = ((d0 + d1) + 256 * (d1 + d2)) + 65536 * ((d2 + d3) + 256 * ((d3 + d4) + 256 * ((d4 + d5) + 256 * ((d5 + d6) + 256 * ((d6 + d7) + 256 * d7))))) := by rw [ha]; clear ha hb hc; omega
    rw [this]
    exact dv _ 65536 _ (by clear ha hb hc this; omega)
  rw [e2] at hb
  clear e2
  have e3 : b / 4294967296 = (d4 + d5 + d6 + d7) + 256 * ((d5 + d6 + d7) + 256 * ((d6 + d7) + 256 * d7)) := by
    have : b = ((d0 + d1 + d2 + d3) + 256 * (d1 + d2 + d3 + d4) + 65536 * (d2 + d3 + d4 + d5) + 16777216 * (d3 + d4 + d5 + d6)) + 4294967296 * ((d4 + d5 + d6 + d7) + 256 * ((d5 + d6 + d7) + 256 * ((d6 + d7) + 256 * d7))) := by rw [hb, ha]; clear ha hb hc; omega
    rw [this]
    exact dv _ 4294967296 _ (by clear ha hb hc this; omega)
  rw [e3] at hc
  clear e3
  have : c = (d0 + (d1 + (d2 + (d3 + (d4 + (d5 + (d6 + d7))))))) + 128 * (2 * ((d1 + d2 + d3 + d4 + d5 + d6 + d7) + 256 * ((d2 + d3 + d4 + d5 + d6 + d7) + 256 * ((d3 + d4 + d5 + d6 + d7) + 256 * ((d4 + d5 + d6 + d7) + 256 * ((d5 + d6 + d7) + 256 * ((d6 + d7) + 256 * d7))))))) := by
    rw [hc, hb, ha]; clear ha hb hc; omega
  rw [this, Nat.add_mul_mod_self_left, Nat.mod_eq_of_lt (by clear ha hb hc this; omega)]
theorem ones_sum (x : Nat) (hx : x < 18446744073709551616) : y6 x % 128 = cnt 64 x := by
  obtain ⟨e1, e2, e3⟩ := ones_bytes x hx
  rw [cnt_by8]
  refine sum8 _ _ _ _ _ _ _ _ (cnt_le 8 _) (cnt_le 8 _) (cnt_le 8 _) (cnt_le 8 _) (cnt_le 8 _) (cnt_le 8 _) (cnt_le 8 _) (cnt_le 8 _) (y4 x) (y5 x) (y6 x) ?_ rfl rfl
  unfold y4
  rw [e3]
  rfl
end Go.Proofs.YtggkhbjhhglbbaaDoor
