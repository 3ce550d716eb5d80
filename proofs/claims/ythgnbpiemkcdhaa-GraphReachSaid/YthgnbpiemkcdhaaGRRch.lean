/-
  The definition's Reach; and Reach itself, for every graph.
-/
import Derived.Test.YthgnbpiemkcdhaaGRRchM
import Derived.Test.YthgnbpiemkcdhaaGRDist
import Derived.Test.YthgnbpiemkcdhaaGRevs
namespace Go.Proofs.Ythgnbpiemkcdhaa
open Go.RowKit Go.Shelf
set_option linter.unusedVariables false

theorem check_at (N : Int) (a : Option Addr) (n c : Nat) (ps : List (Int × Int)) (k : Int) (hk : gchk N ps = k) (w : World) (hl : ps.length = n) (hn : n ≤ maxLen) (hE : Pairs w a ps) :
    Calls Try.prog 12 #[.agg #[.int .i64 N, .slice a n c]] w fun e w' => e = .returned (.int .i64 k) ∧ Below w.heap.size w w' := by
  subst hl hk; exact rcheck_any N a c ps w hn hE
theorem rdist_at (N : Nat) (a : Option Addr) (n c : Nat) (ps : List (Int × Int)) (hl : ps.length = n) (b : Option Addr) (m d : Nat) (zs : List Int) (hzl : zs.length = m) (w : World) (hE : Edg w a c ps) (hg : GOk (N : Int) ps) (hz : Ints w b zs) (hm : m ≤ maxLen) :
    Calls Try.prog 40 #[.agg #[.int .i64 (N : Int), .slice a n c], .slice b m d] w (DistEnd w N ps zs) := rdist_good N a n c ps hl b m d zs hzl w hE.pairs hg hz hm

set_option maxHeartbeats 4000000 in
set_option maxRecDepth 100000 in
theorem rreach_good (N : Nat) (a : Option Addr) (n c : Nat) (ps : List (Int × Int)) (hl : ps.length = n) (b : Option Addr) (m d : Nat) (zs : List Int) (hzl : zs.length = m) (w : World) (hE : Edg w a c ps) (hok : gchk (N : Int) ps = 0) (hz : Ints w b zs) (hm : m ≤ maxLen) :
    Calls Try.prog 24 #[.agg #[.int .i64 (N : Int), .slice a n c], .slice b m d] w fun e w' => ∃ r, e = .returned r ∧ Own w' w.heap.size r (reachL (N : Int) ps zs) ∧ Below w.heap.size w w' := by
  have hg := gchk_ok hok
  have hlen := hg.len
  have hN := hg.hi
  rw [hl] at hlen
  obtain ⟨w0, hw0⟩ : ∃ w0, w.alloc (Obj.cells #[Value.int .i64 (N : Int), Value.slice a n c] 24) = w0 := ⟨_, rfl⟩
  have hs0 : w.heap.size < w0.heap.size := by rw [← hw0]; simp
  have q0 : w0.cell? ⟨w.heap.size, 0, none⟩ = some (.int .i64 (N : Int)) := by rw [← hw0]; simp [go_sem]
  have q1 : w0.cell? ⟨w.heap.size, 1, none⟩ = some (.slice a n c) := by rw [← hw0]; simp [go_sem]
  have HB0 : Hid (Below w.heap.size w w0) := by show Below _ _ _; rw [← hw0]; exact (Below.refl w.heap.size w).alloc (Nat.le_refl _) _
  have HE := Lib.hid hE
  have Hl := Lib.hid hl
  have Hg := Lib.hid hg
  have Hok := Lib.hid hok
  have Hw0 := Lib.hid hw0
  have Hz := Lib.hid hz
  have Hzl := Lib.hid hzl
  have Hm := Lib.hid hm
  clear hE hl hg hw0 hz hzl hok hm
  go_enter Try.func24, Try.ntmps24
  go_wp2_with fail
  rw [Hw0.out]
  refine (check_at (N : Int) a n c ps 0 Hok.out w0 Hl.out (by unfold maxLen; omega) (HE.out.below HB0.out (Nat.le_refl _)).pairs).mono ?_
  rintro e w1 ⟨rfl, hb1⟩
  have hs1 : w.heap.size < w1.heap.size := by have := hb1.size; omega
  have c0 := (hb1.cell (p := ⟨w.heap.size, 0, none⟩) hs0).trans q0
  have c1 := (hb1.cell (p := ⟨w.heap.size, 1, none⟩) hs0).trans q1
  have HB1 := Lib.hid (HB0.out.trans (hb1.mono (Nat.le_of_lt hs0)))
  clear hb1 q0 q1
  go_wp2_with fail
  refine (rdist_at N a n c ps Hl.out b m d zs Hzl.out w1 (HE.out.below HB1.out (Nat.le_refl _)) Hg.out (Hz.out.below HB1.out (Nat.le_refl _)) Hm.out).mono ?_
  rintro e w2 ⟨S, out, rfl, hrow, hdist, hb2⟩
  have hs2 : w.heap.size < w2.heap.size := by have := hb2.size; omega
  have hSlt := (World.ownsRow.lt hrow S rfl).2
  have Hrow := Lib.hid hrow
  have Hol : Hid (out.length = N) := hdist.len
  have Hfin : Hid (posI out N = reachL (N : Int) ps zs) := reach_dist Hg.out hdist
  have HB2 := Lib.hid (HB1.out.trans (hb2.mono (Nat.le_of_lt hs1)))
  clear hb2 c0 c1 hrow hdist
  go_wp2
  go_loopw [5, 7] (fun vo i W => ∃ k : Nat, k ≤ N ∧ i = .int .i64 k ∧ Own W w2.heap.size vo (posI out k) ∧ Below w2.heap.size w2 W) (fun _ i _ => N - (intOf i).toNat)
  case atStart => exact ⟨0, Nat.zero_le _, rfl, Own.nil _ _, Below.refl _ _⟩
  case round =>
    obtain ⟨k, hk, rfl, ho, hb⟩ := hrel
    have hsz := hb.size
    have Ho := Lib.hid ho
    have Hb := Lib.hid hb
    have hpl := length_posI out k
    by_cases hlt : k < N
    · have cS := (hb.cell (p := ⟨S, k, none⟩) hSlt).trans (Hrow.out.cell (i := k) (by rw [Hol.out]; exact hlt))
      obtain ⟨o, hoo⟩ : ∃ o, out.getD k 0 = o := ⟨_, rfl⟩
      rw [hoo] at cS
      by_cases hge : 0 ≤ o
      · have hpk : Hid (posI out (k + 1) = posI out k ++ [(k : Int)]) := by show _ = _; rw [posI_succ, hoo, if_pos hge]
        clear ho hb hoo
        go_wp2_with (at_builtin; refine wpList_append_lie rfl _ _ rfl w2.heap.size _ (posI out k) _ rfl rfl (Own.alloc Ho.out _) wr.heap.size (k : Int) rfl (cell_at _ _ _ _ (by simp)) (by omega) (by simp; omega) ?_)
        intro g5 cap5 w5 ho5 hg5 hat5
        rw [← hpk.out] at ho5
        have Ho5 := Lib.hid ho5
        have Hb5 := Lib.hid ((Hb.out.alloc hsz _).grown hg5 (by simp; omega) (fun r hr => (World.ownsRow.lt Ho.out r hr).1))
        clear ho5 hg5 hat5
        go_wp2
        go_roundw
        case rel => exact ⟨k + 1, by omega, by go_num, Ho5.out, Hb5.out⟩
        case measure => simp [intOf]; omega
      · have hpk : Hid (posI out (k + 1) = posI out k) := by show _ = _; rw [posI_succ, hoo, if_neg hge, List.append_nil]
        have hge2 : o < 0 := by omega
        clear ho hb hoo
        go_wp2
        go_roundw
        case rel => exact ⟨k + 1, by omega, by go_num, by rw [hpk.out]; exact Ho.out, Hb.out⟩
        case measure => simp [intOf]; omega
    · obtain rfl : N = k := by omega
      clear ho hb
      go_wp2
      go_ret
      exact ⟨_, rfl, by rw [← Hfin.out]; exact Ho.out.mono (Nat.le_of_lt hs2), HB2.out.trans (Hb.out.mono (Nat.le_of_lt hs2))⟩

set_option maxHeartbeats 1000000 in
theorem rreach_bad (N : Int) (a : Option Addr) (n c : Nat) (ps : List (Int × Int)) (hl : ps.length = n) (b : Option Addr) (m d : Nat) (w : World) (hn : n ≤ maxLen) (hE : Pairs w a ps) (k : Int) (hk : gchk N ps = k) (hok : k ≠ 0) :
    Calls Try.prog 24 #[.agg #[.int .i64 N, .slice a n c], .slice b m d] w fun e w' => e = .returned (.slice none 0 0) ∧ Below w.heap.size w w' := by
  have hb0 := (Below.refl w.heap.size w).alloc (Nat.le_refl _) (Obj.cells #[Value.int .i64 N, Value.slice a n c] 24)
  have hck := check_at N a n c ps k hk (w.alloc (Obj.cells #[Value.int .i64 N, Value.slice a n c] 24)) hl hn (hE.below hb0 (Nat.le_refl _))
  have hkb : (k == 0) = false := by rw [beq_eq_false_iff_ne]; exact hok
  have Hb0 := Lib.hid hb0
  have Hck := Lib.hid hck
  clear hck hb0 hE hl hn hk
  go_enter Try.func24, Try.ntmps24
  go_wp2_with (go_at_call 12; refine Hck.out.mono ?_; rintro e w1 ⟨rfl, hb1⟩; have Hb1 := Lib.hid hb1; clear hb1)
  go_ret
  exact ⟨rfl, Hb0.out.trans (Hb1.out.mono (by simp))⟩

/-- The answer of Reach, for every graph. -/
def reachN (N : Int) (ps : List (Int × Int)) (zs : List Int) : List Int := if gchk N ps = 0 then reachL N ps zs else []
def IntsEnd (w : World) (m : Nat) (zs : List Int) (e : Ending) (w' : World) : Prop := ∃ b k, e = .returned (.slice b m k) ∧ Ints w' b zs ∧ m ≤ maxLen ∧ Below w.heap.size w w'
theorem own_end {w w' : World} {r : Value} {zs : List Int} {m : Nat} (ho : Own w' w.heap.size r zs) (hm : zs.length = m) (hb : Below w.heap.size w w') : IntsEnd w m zs (.returned r) w' := by
  have hle := own_le ho
  obtain ⟨b, k, rfl, hi⟩ := ho.shape
  exact ⟨b, k, by rw [hm], hi, by rw [← hm]; exact hle, hb⟩
theorem nil_end {w w' : World} {zs : List Int} {m : Nat} (hz : [] = zs) (hm : zs.length = m) (hb : Below w.heap.size w w') : IntsEnd w m zs (.returned (.slice none 0 0)) w' := by
  subst hz
  obtain rfl : m = 0 := by rw [← hm]; rfl
  exact ⟨_, _, rfl, fun h => absurd h (by simp), Nat.zero_le _, hb⟩
theorem rreachN_at (N : Int) (a : Option Addr) (n c : Nat) (ps : List (Int × Int)) (b : Option Addr) (m d : Nat) (zs R : List Int) (r : Nat) (hR : reachN N ps zs = R) (hr : R.length = r) (w : World) (hl : ps.length = n) (hzl : zs.length = m) (hm : m ≤ maxLen) (hE : Edg w a c ps) (hz : Ints w b zs) :
    Calls Try.prog 24 #[.agg #[.int .i64 N, .slice a n c], .slice b m d] w (IntsEnd w r R) := by
  have hcap : n ≤ maxLen := by have := hE.cap; have := hE.max; omega
  unfold reachN at hR
  by_cases h : gchk N ps = 0
  · rw [if_pos h] at hR
    obtain ⟨M, rfl⟩ : ∃ M : Nat, N = (M : Int) := ⟨N.toNat, by have := (gchk_ok h).lo; omega⟩
    refine (rreach_good M a n c ps hl b m d zs hzl w hE h hz hm).mono ?_
    rintro e w' ⟨v, rfl, ho, hb⟩
    rw [hR] at ho
    exact own_end ho hr hb
  · rw [if_neg h] at hR
    refine (rreach_bad N a n c ps hl b m d w hcap hE.pairs _ rfl h).mono ?_
    rintro e w' ⟨rfl, hb⟩
    exact nil_end hR hr hb
theorem reachN_at (N : Int) (a : Option Addr) (n c : Nat) (ps : List (Int × Int)) (b : Option Addr) (m d : Nat) (zs R : List Int) (r : Nat) (hR : reachN N ps zs = R) (hr : R.length = r) (w : World) (hl : ps.length = n) (hzl : zs.length = m) (hm : m ≤ maxLen) (hE : Edg w a c ps) (hz : Ints w b zs) :
    Calls Try.prog 23 #[.agg #[.int .i64 N, .slice a n c], .slice b m d] w (IntsEnd w r R) := by
  have hcap : n ≤ maxLen := by have := hE.cap; have := hE.max; omega
  unfold reachN at hR
  subst hl hzl
  by_cases h : gchk N ps = 0
  · rw [if_pos h] at hR
    obtain ⟨M, rfl⟩ : ∃ M : Nat, N = (M : Int) := ⟨N.toNat, by have := (gchk_ok h).lo; omega⟩
    refine (reach_good M a c ps b d zs w hE h hz hm).mono ?_
    rintro e w' ⟨v, rfl, ho, hb⟩
    rw [hR] at ho
    exact own_end ho hr hb
  · rw [if_neg h] at hR
    refine (reach_bad N a c ps b zs.length d w hcap hE.pairs h).mono ?_
    rintro e w' ⟨rfl, hb⟩
    exact nil_end hR hr hb
end Go.Proofs.Ythgnbpiemkcdhaa
