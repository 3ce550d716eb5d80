/-
  Succ, Pred, Reverse and Make, of the program and of the definition, at every graph: their answers named once.
-/
import Derived.Test.YthgnbpiemkcdhaaGRTurn
namespace Go.Proofs.Ythgnbpiemkcdhaa
open Go.RowKit Go.Shelf Go.WideShapes
set_option linter.unusedVariables false

def succA (N : Int) (ps : List (Int × Int)) (v : Int) : List Int := if gchk N ps = 0 then succL ps v else []
def predA (N : Int) (ps : List (Int × Int)) (v : Int) : List Int := if gchk N ps = 0 then predL ps v else []
theorem canon_ex : ∀ l : List (Int × Int), ∃ qs, Canon l qs ∧ qs.length ≤ l.length
  | [] => ⟨[], canon_small (by simp), Nat.le_refl _⟩
  | x :: l => by
    obtain ⟨qs, h, hl⟩ := canon_ex l
    have := mrg_len _ [x] qs (Nat.le_refl _)
    exact ⟨mrg [x] qs, canon_mrg (ps := [x]) (canon_small (by simp)) h, by simp only [List.length_cons, List.length_nil] at this ⊢; omega⟩
/-- What Reverse answers. -/
def RevOf (N : Int) (ps : List (Int × Int)) (N' : Int) (qs : List (Int × Int)) : Prop := (gchk N ps = 0 ∧ N' = N ∧ Canon (ps.map revE) qs) ∨ (gchk N ps ≠ 0 ∧ N' = 0 ∧ qs = [])
theorem revOf_ex (N : Int) (ps : List (Int × Int)) : ∃ N' qs, RevOf N ps N' qs ∧ qs.length ≤ ps.length := by
  by_cases h : gchk N ps = 0
  · obtain ⟨qs, hq, hl⟩ := canon_ex (ps.map revE)
    exact ⟨N, qs, .inl ⟨h, rfl, hq⟩, by rwa [List.length_map] at hl⟩
  · exact ⟨0, [], .inr ⟨h, rfl, rfl⟩, Nat.zero_le _⟩
theorem succL_out {N : Int} {ps : List (Int × Int)} {v : Int} (hg : GOk N ps) (hv : isNd N v = false) : succL ps v = [] := by
  refine List.eq_nil_iff_forall_not_mem.2 fun x hx => ?_
  rw [mem_succL] at hx
  obtain ⟨j, hj, e⟩ := List.getElem_of_mem hx
  have := (hg.node j hj).1
  rw [show ps.getD j (0, 0) = (v, x) by simp [List.getD_eq_getElem?_getD, hj, e]] at this
  rw [isNd_iff.2 this] at hv
  cases hv
theorem rsucc_is (N : Int) (ps : List (Int × Int)) (v : Int) : (if nodeB N ps v = true then succL ps v else []) = succA N ps v := by
  unfold succA nodeB
  by_cases h : gchk N ps = 0
  · rw [if_pos h]
    by_cases hv : isNd N v = true
    · rw [if_pos (by rw [h, hv]; rfl)]
    · rw [if_neg (by rw [Bool.and_eq_true]; exact fun e => hv e.2), succL_out (gchk_ok h) (by simpa using hv)]
  · rw [if_neg h, if_neg (by rw [decide_eq_false h]; simp)]

theorem succA_at (N : Int) (a : Option Addr) (n c : Nat) (ps : List (Int × Int)) (v : Int) (zs : List Int) (m : Nat) (hz : succA N ps v = zs) (hm : zs.length = m) (w : World) (hl : ps.length = n) (hE : Edg w a c ps) :
    Calls Try.prog 14 #[.agg #[.int .i64 N, .slice a n c], .int .i64 v] w fun e w' => ∃ b k, e = .returned (.slice b m k) ∧ Ints w' b zs ∧ m ≤ maxLen ∧ Below w.heap.size w w' := by
  unfold succA at hz
  by_cases h : gchk N ps = 0
  · rw [if_pos h] at hz
    exact succ_at N a n c ps v zs m hz hm w hl hE h
  · rw [if_neg h] at hz
    subst hz hl
    obtain rfl : m = 0 := by rw [← hm]; rfl
    refine (succ_bad N a c ps v w (by have := hE.cap; have := hE.max; omega) hE.pairs h).mono ?_
    rintro e w' ⟨rfl, hb⟩
    exact ⟨_, _, rfl, fun h => absurd h (by simp), Nat.zero_le _, hb⟩
theorem predA_at (N : Int) (a : Option Addr) (n c : Nat) (ps : List (Int × Int)) (v : Int) (zs : List Int) (m : Nat) (hz : predA N ps v = zs) (hm : zs.length = m) (w : World) (hl : ps.length = n) (hE : Edg w a c ps) :
    Calls Try.prog 16 #[.agg #[.int .i64 N, .slice a n c], .int .i64 v] w fun e w' => ∃ b k, e = .returned (.slice b m k) ∧ Ints w' b zs ∧ m ≤ maxLen ∧ Below w.heap.size w w' := by
  unfold predA at hz
  by_cases h : gchk N ps = 0
  · rw [if_pos h] at hz
    exact pred_at N a n c ps v zs m hz hm w hl hE h
  · rw [if_neg h] at hz
    subst hz hl
    obtain rfl : m = 0 := by rw [← hm]; rfl
    refine (pred_bad N a c ps v w (by have := hE.cap; have := hE.max; omega) hE.pairs h).mono ?_
    rintro e w' ⟨rfl, hb⟩
    exact ⟨_, _, rfl, fun h => absurd h (by simp), Nat.zero_le _, hb⟩
theorem rsuccA_at (N : Int) (a : Option Addr) (n c : Nat) (ps : List (Int × Int)) (v : Int) (zs : List Int) (m : Nat) (hz : succA N ps v = zs) (hm : zs.length = m) (w : World) (hl : ps.length = n) (hn : n ≤ 100000) (hE : Pairs w a ps) :
    Calls Try.prog 15 #[.agg #[.int .i64 N, .slice a n c], .int .i64 v] w fun e w' => ∃ b k, e = .returned (.slice b m k) ∧ Ints w' b zs ∧ m ≤ maxLen ∧ Below w.heap.size w w' := by
  subst hl
  refine (rsucc_any N a c ps v w hn hE).mono ?_
  rintro e w' ⟨r, rfl, ho, hb⟩
  rw [rsucc_is, hz] at ho
  have hle := own_le ho
  obtain ⟨b, k, rfl, hi⟩ := ho.shape
  exact ⟨b, k, by rw [hm], hi, by rw [← hm]; exact hle, hb⟩
theorem turnA_at (N : Int) (a : Option Addr) (n c : Nat) (ps : List (Int × Int)) (N' : Int) (qs : List (Int × Int)) (l : Nat) (hR : RevOf N ps N' qs) (hq : qs.length = l) (w : World) (hl : ps.length = n) (hE : Edg w a c ps) :
    Calls Try.prog 19 #[.agg #[.int .i64 N, .slice a n c]] w fun e w' => ∃ b k, e = .returned (.agg #[.int .i64 N', .slice b l k]) ∧ Pairs w' b qs ∧ Below w.heap.size w w' := by
  subst hl hq
  rcases hR with ⟨h, rfl, hc⟩ | ⟨h, rfl, rfl⟩
  · refine (turn_good _ a c ps w hE h).mono ?_
    rintro e w' ⟨hb, rs, a2, c2, ha, hp, hE2, rfl⟩
    obtain rfl := hc.unique ⟨ha, fun e => hp.mem_iff⟩
    exact ⟨a2, c2, rfl, hE2.pairs, hb⟩
  · refine (turn_bad N a c ps w (by have := hE.cap; have := hE.max; omega) hE.pairs h).mono ?_
    rintro e w' ⟨rfl, hb⟩
    exact ⟨_, _, rfl, fun h => absurd h (by simp), hb⟩

set_option maxHeartbeats 1000000 in
theorem rturn_bad (N : Int) (a : Option Addr) (n c : Nat) (ps : List (Int × Int)) (hl : ps.length = n) (w : World) (hn : n ≤ maxLen) (hE : Pairs w a ps) (k : Int) (hk : gchk N ps = k) (hok : k ≠ 0) :
    Calls Try.prog 20 #[.agg #[.int .i64 N, .slice a n c]] w fun e w' => e = .returned (.agg #[.int .i64 0, .slice none 0 0]) ∧ Below w.heap.size w w' := by
  have hb0 := ((Below.refl w.heap.size w).alloc (Nat.le_refl _) (Obj.cells #[Value.int .i64 N, Value.slice a n c] 24)).alloc (by simp) (Obj.cells #[Value.int .i64 0, Value.slice none 0 0] 24)
  have hck : Calls Try.prog 12 #[.agg #[.int .i64 N, .slice a n c]] ((w.alloc (Obj.cells #[Value.int .i64 N, Value.slice a n c] 24)).alloc (Obj.cells #[Value.int .i64 0, Value.slice none 0 0] 24)) fun e w' => e = .returned (.int .i64 k) ∧ Below (w.heap.size + 1 + 1) ((w.alloc (Obj.cells #[Value.int .i64 N, Value.slice a n c] 24)).alloc (Obj.cells #[Value.int .i64 0, Value.slice none 0 0] 24)) w' := by
    have := rchk_at N a n c ps k hk ((w.alloc (Obj.cells #[Value.int .i64 N, Value.slice a n c] 24)).alloc (Obj.cells #[Value.int .i64 0, Value.slice none 0 0] 24)) hl hn (hE.below hb0 (Nat.le_refl _))
    rw [World.size_alloc, World.size_alloc] at this
    exact this
  have hq0 := QC.new (w.alloc (Obj.cells #[Value.int .i64 N, Value.slice a n c] 24)) (.int .i64 0) (.slice none 0 0) 24
  rw [World.size_alloc] at hq0
  have Hq0 := Lib.hid hq0
  have Hb0 := Lib.hid hb0
  have Hck := Lib.hid hck
  have hb0' : (k != 0) = true := by rw [bne_iff_ne]; exact hok
  clear hck hb0 hE hl hk hn hq0
  go_enter Try.func20, Try.ntmps20
  go_wp2_with fail
  refine Hck.out.mono ?_
  rintro e w1 ⟨rfl, hb1⟩
  have hq1 := Hq0.out.below hb1 (by omega)
  have d0 := hq1.c0
  have d1 := hq1.c1
  have d2 := hq1.f0
  have d3 := hq1.f1
  have hqf := hq1.set (.int .i64 0) (.slice none 0 0)
  have i0 := hqf.c0
  have i1 := hqf.c1
  have Hbf := Lib.hid (below_set2 (D := w.heap.size) (B := w.heap.size + 1) (Hb0.out.trans (hb1.mono (by omega))) (by omega) (.int .i64 0) (.slice none 0 0))
  clear hb1 hq1 hqf
  go_wp2
  refine bodyPost_ret (v := .agg #[.int .i64 0, .slice none 0 0]) (by simp [results, Try.results20, go_sem, i0, i1]) rfl ?_
  exact ⟨rfl, Hbf.out⟩
theorem rturnA_at (N : Int) (a : Option Addr) (n c : Nat) (ps : List (Int × Int)) (N' : Int) (qs : List (Int × Int)) (l : Nat) (hR : RevOf N ps N' qs) (hq : qs.length = l) (w : World) (hl : ps.length = n) (hn : n ≤ 100000) (hE : Edg w a c ps) :
    Calls Try.prog 20 #[.agg #[.int .i64 N, .slice a n c]] w fun e w' => ∃ b k, e = .returned (.agg #[.int .i64 N', .slice b l k]) ∧ Pairs w' b qs ∧ Below w.heap.size w w' := by
  subst hq
  rcases hR with ⟨h, rfl, hc⟩ | ⟨h, rfl, rfl⟩
  · refine (rturn_good _ a n c ps hl w hn hE h).mono ?_
    rintro e w' ⟨hb, rs, a2, c2, hc2, hle, hp2, rfl⟩
    obtain rfl := hc.unique hc2
    exact ⟨a2, c2, rfl, hp2, hb⟩
  · refine (rturn_bad N a n c ps hl w (by unfold maxLen; omega) hE.pairs _ rfl h).mono ?_
    rintro e w' ⟨rfl, hb⟩
    exact ⟨_, _, rfl, fun h => absurd h (by simp), hb⟩
theorem pred_is {N N' : Int} {ps qs : List (Int × Int)} (hR : RevOf N ps N' qs) (v : Int) : succA N' qs v = predA N ps v := by
  unfold succA predA
  rcases hR with ⟨h, rfl, hc⟩ | ⟨h, rfl, rfl⟩
  · have hg := gchk_ok h
    have hp := Canon.perm hg hc
    rw [if_pos h, if_pos (gchk_of (hg.turn hc.1 hp)), succ_pred hg.asc2 hc.1 hp]
  · rw [if_neg h, if_pos (by decide)]
    rfl

set_option maxHeartbeats 1000000 in
theorem rpredA_at (N : Int) (a : Option Addr) (n c : Nat) (ps : List (Int × Int)) (v : Int) (zs : List Int) (m : Nat) (hz : predA N ps v = zs) (hm : zs.length = m) (w : World) (hl : ps.length = n) (hn : n ≤ 100000) (hE : Edg w a c ps) :
    Calls Try.prog 17 #[.agg #[.int .i64 N, .slice a n c], .int .i64 v] w fun e w' => ∃ b k, e = .returned (.slice b m k) ∧ Ints w' b zs ∧ m ≤ maxLen ∧ Below w.heap.size w w' := by
  obtain ⟨N', qs, hR, hqn⟩ := revOf_ex N ps
  obtain ⟨l, hq⟩ : ∃ l, qs.length = l := ⟨_, rfl⟩
  have hln : l ≤ 100000 := by omega
  have hb0 := (Below.refl w.heap.size w).alloc (Nat.le_refl _) (Obj.cells #[Value.int .i64 N, Value.slice a n c] 24)
  have Hrv := Lib.hid (rturnA_at N a n c ps N' qs l hR hq (w.alloc (Obj.cells #[Value.int .i64 N, Value.slice a n c] 24)) hl hn (hE.below hb0 (Nat.le_refl _)))
  have HR := Lib.hid hR
  have Hq := Lib.hid hq
  have Hz : Hid (succA N' qs v = zs) := (pred_is hR v).trans hz
  have Hm := Lib.hid hm
  have Hb0 := Lib.hid hb0
  clear hR hq hz hm hl hE hb0 hqn
  go_enter Try.func17, Try.ntmps17
  go_wp2_with fail
  refine Hrv.out.mono ?_
  rintro e w1 ⟨b1, k1, rfl, hp1, hb1⟩
  have Hp1 := Lib.hid hp1
  have Hb1 := Lib.hid (Hb0.out.trans (hb1.mono (by simp)))
  clear hp1 hb1
  go_wp2_with fail
  refine (rsuccA_at N' b1 l k1 qs v zs m Hz.out Hm.out _ Hq.out hln Hp1.out).mono ?_
  rintro e w2 ⟨b2, k2, rfl, hi2, hm2, hb2⟩
  have Hi2 := Lib.hid hi2
  have Hb2 := Lib.hid (Hb1.out.trans (hb2.mono Hb1.out.size))
  clear hi2 hb2
  go_wp2
  go_ret
  exact ⟨b2, k2, rfl, Hi2.out, hm2, Hb2.out⟩

/-- What Make answers. -/
def MkOf (n : Int) (ps : List (Int × Int)) (er N' : Int) (qs : List (Int × Int)) : Prop := makeE n ps = er ∧ ((er = 0 ∧ N' = n ∧ Canon ps qs) ∨ (er ≠ 0 ∧ N' = 0 ∧ qs = []))
theorem mkOf_ex (n : Int) (ps : List (Int × Int)) : ∃ er N' qs, MkOf n ps er N' qs ∧ qs.length ≤ ps.length := by
  by_cases h : makeE n ps = 0
  · obtain ⟨qs, hq, hl⟩ := canon_ex ps
    exact ⟨0, n, qs, ⟨h, .inl ⟨rfl, rfl, hq⟩⟩, hl⟩
  · exact ⟨_, 0, [], ⟨rfl, .inr ⟨h, rfl, rfl⟩⟩, Nat.zero_le _⟩
theorem makeA_at (n : Int) (a : Option Addr) (m c : Nat) (ps : List (Int × Int)) (er N' : Int) (qs : List (Int × Int)) (l : Nat) (hM : MkOf n ps er N' qs) (hq : qs.length = l) (w : World) (hl : ps.length = m) (hn : m ≤ 32768) (hE : Edg w a c ps) :
    Calls Try.prog 21 #[.int .i64 n, .slice a m c] w fun e w' => ∃ b k, e = .returned (.tuple #[.agg #[.int .i64 N', .slice b l k], .int .i64 er]) ∧ Pairs w' b qs ∧ Below w.heap.size w w' := by
  subst hl hq
  obtain ⟨he, hM⟩ := hM
  subst he
  refine (make_any n a c ps w hn hE).mono ?_
  rintro e w' ⟨hb, ⟨h, rfl⟩ | ⟨h, rs, a', c', hc, hle, hE', rfl⟩⟩
  · rcases hM with ⟨h2, _⟩ | ⟨_, rfl, rfl⟩
    · exact absurd h2 h
    · exact ⟨_, _, rfl, fun h => absurd h (by simp), hb⟩
  · rcases hM with ⟨_, rfl, hc2⟩ | ⟨h2, _⟩
    · obtain rfl := hc2.unique hc
      exact ⟨_, _, by rw [h], hE'.pairs, hb⟩
    · exact absurd h h2
theorem rmakeA_at (n : Int) (a : Option Addr) (m c : Nat) (ps : List (Int × Int)) (er N' : Int) (qs : List (Int × Int)) (l : Nat) (hM : MkOf n ps er N' qs) (hq : qs.length = l) (w : World) (hl : ps.length = m) (hn : m ≤ 32768) (hE : Edg w a c ps) :
    Calls Try.prog 22 #[.int .i64 n, .slice a m c] w fun e w' => ∃ b k, e = .returned (.tuple #[.agg #[.int .i64 N', .slice b l k], .int .i64 er]) ∧ Pairs w' b qs ∧ Below w.heap.size w w' := by
  subst hq
  obtain ⟨he, hM⟩ := hM
  subst he
  refine (rmake_any n a m c ps hl w hn hE).mono ?_
  rintro e w' ⟨hb, ⟨h, rfl⟩ | ⟨h, rs, a', c', hc, hle, hp', rfl⟩⟩
  · rcases hM with ⟨h2, _⟩ | ⟨_, rfl, rfl⟩
    · exact absurd h2 h
    · exact ⟨_, _, rfl, fun h => absurd h (by simp), hb⟩
  · rcases hM with ⟨_, rfl, hc2⟩ | ⟨h2, _⟩
    · obtain rfl := hc2.unique hc
      exact ⟨_, _, by rw [h], hp', hb⟩
    · exact absurd h h2
end Go.Proofs.Ythgnbpiemkcdhaa
