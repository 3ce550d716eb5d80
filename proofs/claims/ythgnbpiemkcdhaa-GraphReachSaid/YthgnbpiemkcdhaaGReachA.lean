/-
  What GraphReach asks: the answers of Path, for every graph and all numbers.
-/
import Derived.Test.YthgnbpiemkcdhaaGRPath
import Derived.Test.YthgnbpiemkcdhaaGBad
namespace Go.Proofs.Ythgnbpiemkcdhaa
open Go.RowKit Go.Shelf
set_option linter.unusedVariables false

theorem keepR {W X X' : World} {p q r : Addr} {B : Nat} {u0 u1 u2 : Value} (H : X.cell? p = some u0 ∧ X.cell? q = some u1 ∧ X.cell? r = some u2 ∧ Below B W X) (hB : W.heap.size = B) (hb : Below X.heap.size X X') :
    X'.cell? p = some u0 ∧ X'.cell? q = some u1 ∧ X'.cell? r = some u2 ∧ Below B W X' := by
  have hs := H.2.2.2.size
  exact ⟨(hb.cell (World.block_lt_of_cell? _ _ H.1)).trans H.1, (hb.cell (World.block_lt_of_cell? _ _ H.2.1)).trans H.2.1, (hb.cell (World.block_lt_of_cell? _ _ H.2.2.1)).trans H.2.2.1, H.2.2.2.trans (hb.mono (by omega))⟩
def PathOk (N : Int) (ps : List (Int × Int)) (fr t : Int) : Prop := gchk N ps = 0 ∧ isNd N fr = true ∧ isNd N t = true
/-- The answer of Path: whether there is one, and the path. -/
def PathN (N : Int) (ps : List (Int × Int)) (fr t : Int) (r : Bool) (P : List Int) : Prop :=
  (r = true ∧ PathOk N ps fr t ∧ 0 ≤ (foundP N ps fr t).1.getD t.toNat 0 ∧ P = pathL N ps fr t) ∨ (r = false ∧ P = [] ∧ (PathOk N ps fr t → ¬ 0 ≤ (foundP N ps fr t).1.getD t.toNat 0))
theorem pathN_ex (N : Int) (ps : List (Int × Int)) (fr t : Int) : ∃ r P, PathN N ps fr t r P := by
  by_cases h : PathOk N ps fr t ∧ 0 ≤ (foundP N ps fr t).1.getD t.toNat 0
  · exact ⟨true, _, .inl ⟨rfl, h.1, h.2, rfl⟩⟩
  · exact ⟨false, [], .inr ⟨rfl, rfl, fun h1 h2 => h ⟨h1, h2⟩⟩⟩
def TupEnd (w : World) (q : Nat) (P : List Int) (r : Bool) (e : Ending) (w' : World) : Prop := ∃ b k, e = .returned (.tuple #[.slice b q k, .bool r]) ∧ Ints w' b P ∧ q ≤ maxLen ∧ Below w.heap.size w w'
theorem tup_own {w w' : World} {v : Value} {P : List Int} {q : Nat} (ho : Own w' w.heap.size v P) (hq : P.length = q) (hb : Below w.heap.size w w') : TupEnd w q P true (.returned (.tuple #[v, .bool true])) w' := by
  have hle := own_le ho
  obtain ⟨b, k, rfl, hi⟩ := ho.shape
  exact ⟨b, k, by rw [hq], hi, by rw [← hq]; exact hle, hb⟩
theorem tup_nil {w w' : World} {P : List Int} {q : Nat} (hP : P = []) (hq : P.length = q) (hb : Below w.heap.size w w') : TupEnd w q P false (.returned (.tuple #[.slice none 0 0, .bool false])) w' := by
  subst hP
  obtain rfl : q = 0 := by rw [← hq]; rfl
  exact ⟨_, _, rfl, fun h => absurd h (by simp), Nat.zero_le _, hb⟩
theorem pathOk_nat {N : Int} {ps : List (Int × Int)} {fr t : Int} (h : PathOk N ps fr t) : ∃ M f s : Nat, N = (M : Int) ∧ fr = (f : Int) ∧ t = (s : Int) ∧ f < M ∧ s < M := by
  have h1 := isNd_iff.1 h.2.1
  have h2 := isNd_iff.1 h.2.2
  exact ⟨N.toNat, fr.toNat, t.toNat, by omega, by omega, by omega, by omega, by omega⟩
theorem end_tup {w w' : World} {N : Int} {ps : List (Int × Int)} {fr t : Int} {r : Bool} {P : List Int} {q : Nat} {e : Ending} (hR : PathN N ps fr t r P) (hq : P.length = q) (hok : PathOk N ps fr t)
    (h : Below w.heap.size w w' ∧ if 0 ≤ (foundP N ps fr t).1.getD t.toNat 0 then ∃ v, e = .returned (.tuple #[v, .bool true]) ∧ Own w' w.heap.size v (pathL N ps fr t) else e = .returned (.tuple #[.slice none 0 0, .bool false])) : TupEnd w q P r e w' := by
  obtain ⟨hb, h⟩ := h
  rcases hR with ⟨rfl, _, hf, hP⟩ | ⟨rfl, hP, hn⟩
  · rw [if_pos hf] at h
    obtain ⟨v, rfl, ho⟩ := h
    rw [← hP] at ho
    exact tup_own ho hq hb
  · rw [if_neg (hn hok)] at h
    subst h
    exact tup_nil hP hq hb
theorem pathN_at (N : Int) (a : Option Addr) (n c : Nat) (ps : List (Int × Int)) (fr t : Int) (r : Bool) (P : List Int) (q : Nat) (hR : PathN N ps fr t r P) (hq : P.length = q) (w : World) (hl : ps.length = n) (hE : Edg w a c ps) :
    Calls Try.prog 26 #[.agg #[.int .i64 N, .slice a n c], .int .i64 fr, .int .i64 t] w (TupEnd w q P r) := by
  have hcap : n ≤ maxLen := by have := hE.cap; have := hE.max; omega
  by_cases hok : PathOk N ps fr t
  · obtain ⟨M, f, s, rfl, rfl, rfl, hf, hs⟩ := pathOk_nat hok
    subst hl
    exact (path_good M a c ps f s w hE hok.1 hf hs).mono fun e w' h => end_tup hR hq hok h
  · subst hl
    have hr : r = false ∧ P = [] := by
      rcases hR with ⟨_, h, _⟩ | ⟨h1, h2, _⟩
      · exact absurd h hok
      · exact ⟨h1, h2⟩
    obtain ⟨rfl, hP⟩ := hr
    refine (path_bad N a c ps fr t w hcap hE.pairs ?_).mono ?_
    · by_cases h1 : gchk N ps = 0
      · right
        cases h2 : isNd N fr with
        | false => exact .inl rfl
        | true =>
          right
          cases h3 : isNd N t with
          | false => rfl
          | true => exact absurd ⟨h1, h2, h3⟩ hok
      · exact .inl h1
    · rintro e w' ⟨rfl, hb⟩
      exact tup_nil hP hq hb

set_option maxHeartbeats 2000000 in
theorem rpath_bad (N : Int) (a : Option Addr) (n c : Nat) (ps : List (Int × Int)) (hl : ps.length = n) (fr t : Int) (r1 r2 : Bool) (h1 : nodeB N ps fr = r1) (h2 : nodeB N ps t = r2) (hbad : r1 = false ∨ r2 = false) (w : World) (hn : n ≤ maxLen) (hE : Pairs w a ps) :
    Calls Try.prog 27 #[.agg #[.int .i64 N, .slice a n c], .int .i64 fr, .int .i64 t] w fun e w' => e = .returned (.tuple #[.slice none 0 0, .bool false]) ∧ Below w.heap.size w w' := by
  obtain ⟨w0, hw0⟩ : ∃ w0, w.alloc (Obj.cells #[Value.int .i64 N, Value.slice a n c] 24) = w0 := ⟨_, rfl⟩
  have hs0 : w.heap.size < w0.heap.size := by rw [← hw0]; simp
  have q0 : w0.cell? ⟨w.heap.size, 0, none⟩ = some (.int .i64 N) := by rw [← hw0]; simp [go_sem]
  have q1 : w0.cell? ⟨w.heap.size, 1, none⟩ = some (.slice a n c) := by rw [← hw0]; simp [go_sem]
  have HB0 : Hid (Below w.heap.size w w0) := by show Below _ _ _; rw [← hw0]; exact (Below.refl w.heap.size w).alloc (Nat.le_refl _) _
  have HE := Lib.hid hE
  have Hl := Lib.hid hl
  have Hw0 := Lib.hid hw0
  have H1 := Lib.hid h1
  have H2 := Lib.hid h2
  have Hn := Lib.hid hn
  have Hbad := Lib.hid hbad
  clear hE hl hw0 h1 h2 hn hbad
  cases r1 with
  | false =>
    go_enter Try.func27, Try.ntmps27
    go_wp2_with fail
    rw [Hw0.out]
    refine (rnode_at N a n c ps fr false H1.out w0 Hl.out Hn.out (HE.out.below HB0.out (Nat.le_refl _))).mono ?_
    rintro e w1 ⟨rfl, hb1⟩
    have HB1 := Lib.hid (HB0.out.trans (hb1.mono (Nat.le_of_lt hs0)))
    clear hb1
    go_wp2
    refine bodyPost_ret (v := .tuple #[.slice none 0 0, .bool false]) (by simp [results, Try.results27, go_sem]) rfl ?_
    exact ⟨rfl, HB1.out⟩
  | true =>
    obtain rfl : r2 = false := by rcases Hbad.out with h | h
                                  · cases h
                                  · exact h
    go_enter Try.func27, Try.ntmps27
    go_wp2_with fail
    rw [Hw0.out]
    refine (rnode_at N a n c ps fr true H1.out w0 Hl.out Hn.out (HE.out.below HB0.out (Nat.le_refl _))).mono ?_
    rintro e w1 ⟨rfl, hb1⟩
    have hs1 : w.heap.size < w1.heap.size := by have := hb1.size; omega
    have c0 := (hb1.cell (p := ⟨w.heap.size, 0, none⟩) hs0).trans q0
    have c1 := (hb1.cell (p := ⟨w.heap.size, 1, none⟩) hs0).trans q1
    have HB1 := Lib.hid (HB0.out.trans (hb1.mono (Nat.le_of_lt hs0)))
    clear hb1
    go_wp2_with fail
    refine (rnode_at N a n c ps t false H2.out w1 Hl.out Hn.out (HE.out.below HB1.out (Nat.le_refl _))).mono ?_
    rintro e w2 ⟨rfl, hb2⟩
    have HB2 := Lib.hid (HB1.out.trans (hb2.mono (Nat.le_of_lt hs1)))
    clear hb2
    go_wp2
    refine bodyPost_ret (v := .tuple #[.slice none 0 0, .bool false]) (by simp [results, Try.results27, go_sem]) rfl ?_
    exact ⟨rfl, HB2.out⟩
theorem rpathN_at (N : Int) (a : Option Addr) (n c : Nat) (ps : List (Int × Int)) (fr t : Int) (r : Bool) (P : List Int) (q : Nat) (hR : PathN N ps fr t r P) (hq : P.length = q) (w : World) (hl : ps.length = n) (hE : Edg w a c ps) :
    Calls Try.prog 27 #[.agg #[.int .i64 N, .slice a n c], .int .i64 fr, .int .i64 t] w (TupEnd w q P r) := by
  have hcap : n ≤ maxLen := by have := hE.cap; have := hE.max; omega
  by_cases hok : PathOk N ps fr t
  · obtain ⟨M, f, s, rfl, rfl, rfl, hf, hs⟩ := pathOk_nat hok
    exact (rpath_good M a n c ps hl f s w hE hok.1 hf hs).mono fun e w' h => end_tup hR hq hok h
  · have hr : r = false ∧ P = [] := by
      rcases hR with ⟨_, h, _⟩ | ⟨h1, h2, _⟩
      · exact absurd h hok
      · exact ⟨h1, h2⟩
    obtain ⟨rfl, hP⟩ := hr
    refine (rpath_bad N a n c ps hl fr t _ _ rfl rfl ?_ w hcap hE.pairs).mono ?_
    · unfold nodeB
      by_cases h1 : gchk N ps = 0
      · rw [h1]
        cases h2 : isNd N fr with
        | false => exact .inl rfl
        | true =>
          cases h3 : isNd N t with
          | false => exact .inr rfl
          | true => exact absurd ⟨h1, h2, h3⟩ hok
      · rw [decide_eq_false h1]; exact .inl rfl
    · rintro e w' ⟨rfl, hb⟩
      exact tup_nil hP hq hb
/-- Where a path is found the end is reached. -/
theorem pathN_in {N : Int} {ps : List (Int × Int)} {fr t : Int} {P zs : List Int} (h : PathN N ps fr t true P) (hz : fr ∈ zs) : (reachN N ps zs).contains t = true := by
  rcases h with ⟨_, hok, hf, _⟩ | ⟨h, _⟩
  · obtain ⟨M, f, s, rfl, rfl, rfl, hfM, hs⟩ := pathOk_nat hok
    have hg := gchk_ok hok.1
    obtain ⟨m, p, _, p0, pm, he, _⟩ := path_lex hg (by omega) (by omega) (by omega) (by omega) hf
    have := Wk.of_fn (ps := ps) p m 0 fun q _ hq => he q (by omega)
    rw [Nat.zero_add, p0, pm] at this
    unfold reachN
    rw [if_pos hok.1]
    exact List.contains_iff_mem.2 ((reach_from hg zs _).2 ⟨_, hz, hok.2.1, this.rch⟩)
  · cases h
/-- What is reached is closed under the edges. -/
theorem reachN_closed {N : Int} {ps : List (Int × Int)} {zs : List Int} {x y : Int} (hk : gchk N ps = 0) (he : (x, y) ∈ ps) (h : (reachN N ps zs).contains x = true) : (reachN N ps zs).contains y = true := by
  have hg := gchk_ok hk
  unfold reachN at h ⊢
  rw [if_pos hk] at h ⊢
  obtain ⟨M, rfl⟩ : ∃ M : Nat, N = (M : Int) := ⟨N.toNat, by have := hg.lo; omega⟩
  obtain ⟨z, hz, hn, hr⟩ := (reach_from hg zs x).1 (List.contains_iff_mem.1 h)
  exact List.contains_iff_mem.2 ((reach_from hg zs y).2 ⟨z, hz, hn, .step hr he⟩)
end Go.Proofs.Ythgnbpiemkcdhaa
