/-
  GraphReverses: the walk of the law.
-/
import Derived.Test.YthgnbpiemkcdhaaGRchM
import Derived.Test.YthgnbpiemkcdhaaGRCheck
import Derived.Deep.RegionHeld3
namespace Go.Proofs.Ythgnbpiemkcdhaa
open Go.RowKit Go.Shelf Go.WideShapes
set_option linter.unusedVariables false

theorem own_le {w : World} {base : Nat} {v : Value} {zs : List Int} (h : Own w base v zs) : zs.length ≤ maxLen := by
  rcases h.2 with ⟨_, h0⟩ | ⟨g, cap, cur, _, _, _, h3, h4, _⟩
  · rw [h0]; exact Nat.zero_le _
  · exact Nat.le_trans h3 h4
theorem back_at (N : Int) (n : Nat) (a' : Option Addr) (c' : Nat) (ps qs : List (Int × Int)) (X : World) (hl : qs.length = n) (hE : Edg X a' c' qs) (hg : GOk N ps) (ha : Asc2 qs) (hp : qs.Perm (ps.map revE)) :
    Calls Try.prog 19 #[.agg #[.int .i64 N, .slice a' n c']] X fun e w' => ∃ a'' c'', e = .returned (.agg #[.int .i64 N, .slice a'' n c'']) ∧ Edg w' a'' c'' ps ∧ Below X.heap.size X w' := by
  subst hl
  refine (turn_good N a' c' qs X hE (gchk_of (hg.turn ha hp))).mono ?_
  rintro e w' ⟨hb, rs, a2, c2, ha2, hp2, hE2, rfl⟩
  obtain rfl := turn_turn hg hp ha2 hp2
  have e : rs.length = qs.length := by rw [hp.length_eq, List.length_map]
  exact ⟨a2, c2, by rw [e], hE2, hb⟩
theorem samg_at (M : Int) (a : Option Addr) (n c : Nat) (ps : List (Int × Int)) (b : Option Addr) (d : Nat) (w : World) (hl : ps.length = n) (hn : n ≤ maxLen) (hp : Pairs w a ps) (hq : Pairs w b ps) :
    Calls Try.prog 18 #[.agg #[.int .i64 M, .slice a n c], .agg #[.int .i64 M, .slice b n d]] w fun e w' => e = .returned (.bool true) ∧ Below w.heap.size w w' := by
  subst hl
  have := same_any M a c ps M b d ps w hn hn hp hq
  rwa [show sameG M ps M ps = true by simp [sameG]] at this
theorem chk_at (N : Int) (a : Option Addr) (n c : Nat) (ps : List (Int × Int)) (k : Int) (hk : gchk N ps = k) (w : World) (hl : ps.length = n) (hn : n ≤ maxLen) (hp : Pairs w a ps) :
    Calls Try.prog 11 #[.agg #[.int .i64 N, .slice a n c]] w fun e w' => e = .returned (.int .i64 k) ∧ Below w.heap.size w w' := by
  subst hl hk; exact check_any N a c ps w hn hp
theorem rchk_at (N : Int) (a : Option Addr) (n c : Nat) (ps : List (Int × Int)) (k : Int) (hk : gchk N ps = k) (w : World) (hl : ps.length = n) (hn : n ≤ maxLen) (hp : Pairs w a ps) :
    Calls Try.prog 12 #[.agg #[.int .i64 N, .slice a n c]] w fun e w' => e = .returned (.int .i64 k) ∧ Below w.heap.size w w' := by
  subst hl hk; exact rcheck_any N a c ps w hn hp
theorem succ_at (N : Int) (a : Option Addr) (n c : Nat) (ps : List (Int × Int)) (v : Int) (zs : List Int) (m : Nat) (hz : succL ps v = zs) (hm : zs.length = m) (w : World) (hl : ps.length = n) (hE : Edg w a c ps) (hok : gchk N ps = 0) :
    Calls Try.prog 14 #[.agg #[.int .i64 N, .slice a n c], .int .i64 v] w fun e w' => ∃ b k, e = .returned (.slice b m k) ∧ Ints w' b zs ∧ m ≤ maxLen ∧ Below w.heap.size w w' := by
  subst hl
  refine (succ_good N a c ps v w hE hok).mono ?_
  rintro e w' ⟨r, rfl, ho, hb⟩
  rw [hz] at ho
  have hle := own_le ho
  obtain ⟨b, k, rfl, hi⟩ := ho.shape
  exact ⟨b, k, by rw [hm], hi, by rw [← hm]; exact hle, hb⟩
theorem pred_at (N : Int) (a : Option Addr) (n c : Nat) (ps : List (Int × Int)) (v : Int) (zs : List Int) (m : Nat) (hz : predL ps v = zs) (hm : zs.length = m) (w : World) (hl : ps.length = n) (hE : Edg w a c ps) (hok : gchk N ps = 0) :
    Calls Try.prog 16 #[.agg #[.int .i64 N, .slice a n c], .int .i64 v] w fun e w' => ∃ b k, e = .returned (.slice b m k) ∧ Ints w' b zs ∧ m ≤ maxLen ∧ Below w.heap.size w w' := by
  subst hl
  refine (pred_good N a c ps v w hE hok).mono ?_
  rintro e w' ⟨r, rfl, ho, hb⟩
  rw [hz] at ho
  have hle := own_le ho
  obtain ⟨b, k, rfl, hi⟩ := ho.shape
  exact ⟨b, k, by rw [hm], hi, by rw [← hm]; exact hle, hb⟩
theorem eq_at (m : Nat) (a : Option Addr) (c : Nat) (b : Option Addr) (d : Nat) (zs : List Int) (hl : zs.length = m) (w : World) (hn : m ≤ maxLen) (hx : Ints w a zs) (hy : Ints w b zs) :
    Calls Try.prog 13 #[.slice a m c, .slice b m d] w fun e w' => e = .returned (.bool true) ∧ Drawn w w' := by
  subst hl
  have := equal_any a c zs b d zs w hn hn hx hy
  rwa [eqL_self] at this
theorem reach_at (N : Nat) (NI : Int) (hN : NI = (N : Int)) (a : Option Addr) (n c : Nat) (ps : List (Int × Int)) (b : Option Addr) (d : Nat) (v : Int) (zs : List Int) (m : Nat) (hz : reachL (N : Int) ps [v] = zs) (hm : zs.length = m) (w : World) (hl : ps.length = n) (hE : Edg w a c ps) (hok : gchk (N : Int) ps = 0) (hv : Ints w b [v]) :
    Calls Try.prog 23 #[.agg #[.int .i64 NI, .slice a n c], .slice b 1 d] w fun e w' => ∃ a2 k, e = .returned (.slice a2 m k) ∧ Ints w' a2 zs ∧ m ≤ maxLen ∧ Below w.heap.size w w' := by
  subst hl hN
  refine (reach_good N a c ps b d [v] w hE hok hv (by unfold maxLen; simp)).mono ?_
  rintro e w' ⟨r, rfl, ho, hb⟩
  rw [hz] at ho
  have hle := own_le ho
  obtain ⟨a2, k, rfl, hi⟩ := ho.shape
  exact ⟨a2, k, by rw [hm], hi, by rw [← hm]; exact hle, hb⟩
theorem in_at (a : Option Addr) (m c : Nat) (zs : List Int) (x : Int) (r : Bool) (hr : zs.contains x = r) (hl : zs.length = m) (w : World) (hn : m ≤ maxLen) (hz : Ints w a zs) :
    Calls Try.prog 25 #[.slice a m c, .int .i64 x] w fun e w' => e = .returned (.bool r) ∧ w' = w := by
  subst hl hr; exact in_any a c zs x w hn hz
theorem keep4 {W X X' : World} {g h B : Nat} {u0 u1 t0 t1 : Value} (H : X.cell? ⟨g, 0, none⟩ = some u0 ∧ X.cell? ⟨g, 1, none⟩ = some u1 ∧ X.cell? ⟨h, 0, none⟩ = some t0 ∧ X.cell? ⟨h, 1, none⟩ = some t1 ∧ Below B W X) (hg : g < B) (hh : h < B) (hB : W.heap.size = B) (hb : Below X.heap.size X X') :
    X'.cell? ⟨g, 0, none⟩ = some u0 ∧ X'.cell? ⟨g, 1, none⟩ = some u1 ∧ X'.cell? ⟨h, 0, none⟩ = some t0 ∧ X'.cell? ⟨h, 1, none⟩ = some t1 ∧ Below B W X' := by
  have hs := H.2.2.2.2.size
  exact ⟨(hb.cell (p := ⟨g, 0, none⟩) (by show g < _; omega)).trans H.1, (hb.cell (p := ⟨g, 1, none⟩) (by show g < _; omega)).trans H.2.1, (hb.cell (p := ⟨h, 0, none⟩) (by show h < _; omega)).trans H.2.2.1, (hb.cell (p := ⟨h, 1, none⟩) (by show h < _; omega)).trans H.2.2.2.1, H.2.2.2.2.trans (hb.mono (by omega))⟩
theorem keep4A {W X : World} {g h B : Nat} {u0 u1 t0 t1 : Value} (H : X.cell? ⟨g, 0, none⟩ = some u0 ∧ X.cell? ⟨g, 1, none⟩ = some u1 ∧ X.cell? ⟨h, 0, none⟩ = some t0 ∧ X.cell? ⟨h, 1, none⟩ = some t1 ∧ Below B W X) (hg : g < B) (hh : h < B) (hB : W.heap.size = B) (o : Obj) :
    (X.alloc o).cell? ⟨g, 0, none⟩ = some u0 ∧ (X.alloc o).cell? ⟨g, 1, none⟩ = some u1 ∧ (X.alloc o).cell? ⟨h, 0, none⟩ = some t0 ∧ (X.alloc o).cell? ⟨h, 1, none⟩ = some t1 ∧ Below B W (X.alloc o) :=
  keep4 H hg hh hB ((Below.refl _ _).alloc (Nat.le_refl _) o)
theorem keep4D {W X : World} {g h B : Nat} {u0 u1 t0 t1 : Value} (H : X.cell? ⟨g, 0, none⟩ = some u0 ∧ X.cell? ⟨g, 1, none⟩ = some u1 ∧ X.cell? ⟨h, 0, none⟩ = some t0 ∧ X.cell? ⟨h, 1, none⟩ = some t1 ∧ Below B W X) (hg : g < B) (hh : h < B) (hB : W.heap.size = B) (o : Obj) :
    (X.alloc o).drew.cell? ⟨g, 0, none⟩ = some u0 ∧ (X.alloc o).drew.cell? ⟨g, 1, none⟩ = some u1 ∧ (X.alloc o).drew.cell? ⟨h, 0, none⟩ = some t0 ∧ (X.alloc o).drew.cell? ⟨h, 1, none⟩ = some t1 ∧ Below B W (X.alloc o).drew :=
  keep4 (keep4A H hg hh hB o) hg hh hB (Drawn.below ⟨1, rfl⟩ _)
theorem one_ints (X : World) (v : Int) (t : TypeId) : Ints (X.alloc (.cells #[.int .i64 v] t)) (some ⟨X.heap.size, 0, none⟩) [v] := fun _ => ⟨_, _, rfl, fun i hi => by
  have h1 : i < 1 := hi
  obtain rfl : i = 0 := by omega
  simp [go_sem]⟩

theorem one_intsD (X : World) (v : Int) (t : TypeId) : Ints (X.alloc (.cells #[.int .i64 v] t)).drew (some ⟨X.heap.size, 0, none⟩) [v] := Ints.drewN (one_ints X v t) 1
theorem one_intsDD (X : World) (v : Int) (t : TypeId) (o : Obj) : Ints ((X.alloc (.cells #[.int .i64 v] t)).alloc o).drew (some ⟨X.heap.size, 0, none⟩) [v] := Ints.drewN ((one_ints X v t).below ((Below.refl _ _).alloc (Nat.le_refl _) o) (Nat.le_refl _)) 1
theorem one_intsD2 (X : World) (v : Int) (t : TypeId) (o : Obj) : Ints ((X.alloc o).alloc (.cells #[.int .i64 v] t)).drew (some ⟨X.heap.size + 1, 0, none⟩) [v] := by
  have := one_intsD (X.alloc o) v t
  rwa [World.size_alloc] at this

set_option maxHeartbeats 8000000 in
set_option maxRecDepth 100000 in
theorem revs_any (N : Int) (a : Option Addr) (c : Nat) (ps : List (Int × Int)) (v x : Int) (w : World) (hE : Edg w a c ps) :
    Calls Try.prog 8 #[.agg #[.int .i64 N, .slice a ps.length c], .int .i64 v, .int .i64 x] w fun e w' => e = .returned (.bool true) ∧ Below w.heap.size w w' := by
  obtain ⟨n, hl⟩ : ∃ n, ps.length = n := ⟨_, rfl⟩
  have Hl := Lib.hid hl
  have HE := Lib.hid hE
  have hcap : n ≤ maxLen := by have := hE.cap; have := hE.max; omega
  have hcap' := hcap
  unfold maxLen at hcap'
  rw [hl]
  have Hb0 := Lib.hid ((Below.refl w.heap.size w).alloc (Nat.le_refl _) (Obj.cells #[Value.int .i64 N, Value.slice a n c] 24))
  obtain ⟨k, hk⟩ : ∃ k, gchk N ps = k := ⟨_, rfl⟩
  have Hk := Lib.hid hk
  by_cases hbig : 300 < n
  · clear hE hl hk
    go_enter Try.func8, Try.ntmps8
    go_wp2_with (go_at_call 10; refine (awake_any _).mono ?_; rintro e w' ⟨rfl, hb⟩)
    go_ret
    exact ⟨rfl, Hb0.out.trans (hb.mono (by simp))⟩
  · obtain ⟨w0, hw0⟩ : ∃ w0, w.alloc (Obj.cells #[Value.int .i64 N, Value.slice a n c] 24) = w0 := ⟨_, rfl⟩
    have hz0 : w.heap.size < w0.heap.size := by rw [← hw0]; simp
    have q0 : w0.cell? ⟨w.heap.size, 0, none⟩ = some (.int .i64 N) := by rw [← hw0]; simp [go_sem]
    have q1 : w0.cell? ⟨w.heap.size, 1, none⟩ = some (.slice a n c) := by rw [← hw0]; simp [go_sem]
    have Hw0 := Lib.hid hw0
    have hB0 : Below w.heap.size w w0 := by rw [← hw0]; exact Hb0.out
    have HB0 := Lib.hid hB0
    clear hE hl hk hw0 hB0
    by_cases h0 : k = 0
    · subst h0
      have hg := gchk_ok Hk.out
      obtain ⟨M, rfl⟩ : ∃ M : Nat, N = (M : Int) := ⟨N.toNat, by have := hg.lo; omega⟩
      have Hg := Lib.hid hg
      have htg := turn_good (M : Int) a c ps w0 (HE.out.below HB0.out (Nat.le_refl _)) Hk.out
      rw [Hl.out] at htg
      have Htg := Lib.hid htg
      clear htg hg
      go_enter Try.func8, Try.ntmps8
      go_wp2_with fail
      rw [Hw0.out]
      refine Htg.out.mono ?_
      rintro e w1 ⟨hb1, qs, a2, k2, ha, hp, hEq, rfl⟩
      have hql : qs.length = n := by rw [hp.length_eq, List.length_map]; exact Hl.out
      rw [hql]
      have hz1 := hb1.size
      have c0 := (hb1.cell (p := ⟨w.heap.size, 0, none⟩) hz0).trans q0
      have c1 := (hb1.cell (p := ⟨w.heap.size, 1, none⟩) hz0).trans q1
      have c0a : ∀ o, (w1.alloc o).cell? ⟨w.heap.size, 0, none⟩ = some _ := fun o => (((Below.refl w1.heap.size w1).alloc (Nat.le_refl _) o).cell (p := ⟨w.heap.size, 0, none⟩) (by show w.heap.size < _; omega)).trans c0
      have c1a : ∀ o, (w1.alloc o).cell? ⟨w.heap.size, 1, none⟩ = some _ := fun o => (((Below.refl w1.heap.size w1).alloc (Nat.le_refl _) o).cell (p := ⟨w.heap.size, 1, none⟩) (by show w.heap.size < _; omega)).trans c1
      have HbA := Lib.hid ((hb1.alloc hz1 (Obj.cells #[.int .i64 (M : Int), .slice a2 n k2] 24)))
      have HEq := Lib.hid (hEq.below ((Below.refl w1.heap.size w1).alloc (Nat.le_refl _) (Obj.cells #[.int .i64 (M : Int), .slice a2 n k2] 24)) (Nat.le_refl _))
      have Ha := Lib.hid ha
      have Hp := Lib.hid hp
      have Hql := Lib.hid hql
      clear hb1 hEq ha hp hql
      go_wp2_with fail
      refine (rchk_at (M : Int) a n c ps 0 Hk.out _ Hl.out hcap (HE.out.below (HB0.out.trans (HbA.out.mono (Nat.le_of_lt hz0))) (Nat.le_refl _)).pairs).mono ?_
      rintro e w3 ⟨rfl, hb3⟩
      have hz3 : w1.heap.size < w3.heap.size := by have := hb3.size; simp at this; omega
      have p0 := (hb3.cell (p := ⟨w.heap.size, 0, none⟩) (by simp; omega)).trans ((((Below.refl w1.heap.size w1).alloc (Nat.le_refl _) (Obj.cells #[.int .i64 (M : Int), .slice a2 n k2] 24)).cell (p := ⟨w.heap.size, 0, none⟩) (by show w.heap.size < _; omega)).trans c0)
      have p1 := (hb3.cell (p := ⟨w.heap.size, 1, none⟩) (by simp; omega)).trans ((((Below.refl w1.heap.size w1).alloc (Nat.le_refl _) (Obj.cells #[.int .i64 (M : Int), .slice a2 n k2] 24)).cell (p := ⟨w.heap.size, 1, none⟩) (by show w.heap.size < _; omega)).trans c1)
      have d0 := (hb3.cell (p := ⟨w1.heap.size, 0, none⟩) (by simp)).trans (show _ = some (Value.int .i64 (M : Int)) by simp [go_sem])
      have d1 := (hb3.cell (p := ⟨w1.heap.size, 1, none⟩) (by simp)).trans (show _ = some (Value.slice a2 n k2) by simp [go_sem])
      have HE3 := Lib.hid (HE.out.below ((HB0.out.trans (HbA.out.mono (Nat.le_of_lt hz0))).trans (hb3.mono (by simp; omega))) (Nat.le_refl _))
      have HQ3 := Lib.hid (HEq.out.below hb3 (Nat.le_refl _))
      have HB3 := Lib.hid ((HB0.out.trans (HbA.out.mono (Nat.le_of_lt hz0))).trans (hb3.mono (by simp; omega)))
      clear hb3 c0 c1 q0 q1 c0a c1a
      have hg3 : w.heap.size < w3.heap.size := by omega
      have hS0 : w3.drew.cell? ⟨w.heap.size, 0, none⟩ = some (.int .i64 (M : Int)) ∧ w3.drew.cell? ⟨w.heap.size, 1, none⟩ = some (.slice a n c) ∧ w3.drew.cell? ⟨w1.heap.size, 0, none⟩ = some (.int .i64 (M : Int)) ∧ w3.drew.cell? ⟨w1.heap.size, 1, none⟩ = some (.slice a2 n k2) ∧ Below w3.heap.size w3 w3.drew := ⟨p0, p1, d0, d1, Drawn.below ⟨1, rfl⟩ _⟩
      go_wp2_with fail
      go_region_held3 (fun X => X.cell? ⟨w.heap.size, 0, none⟩ = some (.int .i64 (M : Int)) ∧ X.cell? ⟨w.heap.size, 1, none⟩ = some (.slice a n c) ∧ X.cell? ⟨w1.heap.size, 0, none⟩ = some (.int .i64 (M : Int)) ∧ X.cell? ⟨w1.heap.size, 1, none⟩ = some (.slice a2 n k2) ∧ Below w3.heap.size w3 X)
        (first
          | (with_reducible assumption)
          | fail)
        (first
          | (go_at_call 19; (with_reducible refine Calls.mono (back_at (M : Int) n a2 k2 ps qs _ Hql.out (HQ3.out.below (by exact (by assumption : _ ∧ _ ∧ _ ∧ _ ∧ _).2.2.2.2) (Nat.le_refl _)) Hg.out Ha.out Hp.out) ?_); rintro e wA ⟨a3, k3, rfl, hEA, hbA⟩; have hSA := keep4 (by assumption) hg3 hz3 rfl hbA)
          | (go_at_call 18; (with_reducible refine Calls.mono (samg_at (M : Int) a3 n k3 ps a c _ Hl.out hcap hEA.pairs (HE3.out.below (by exact (by assumption : _ ∧ _ ∧ _ ∧ _ ∧ _).2.2.2.2) (Nat.le_refl _)).pairs) ?_); rintro e wB ⟨rfl, hbB⟩; have hSB := keep4 hSA hg3 hz3 rfl hbB)
          | (go_at_call 11; (with_reducible refine Calls.mono (chk_at (M : Int) a2 n k2 qs 0 (gchk_of (Hg.out.turn Ha.out Hp.out)) _ Hql.out hcap (HQ3.out.below (by exact (by assumption : _ ∧ _ ∧ _ ∧ _ ∧ _).2.2.2.2) (Nat.le_refl _)).pairs) ?_); rintro e wC ⟨rfl, hbC⟩; have hSC := keep4 hSB hg3 hz3 rfl hbC))
      have HSC := Lib.hid hSC
      clear hSA hSB hSC hS0 hbA hbB hbC hEA p0 p1 d0 d1
      obtain ⟨L, hL⟩ : ∃ L, predL ps v = L := ⟨_, rfl⟩
      have HL := Lib.hid hL
      have HSL : Hid (succL qs v = L) := (succ_pred Hg.out.asc2 Ha.out Hp.out v).trans hL
      obtain ⟨m, hm⟩ : ∃ m, L.length = m := ⟨_, rfl⟩
      have Hm := Lib.hid hm
      clear hL hm
      go_wp2_with fail
      have hS8 : wC.drew.cell? ⟨w.heap.size, 0, none⟩ = some (.int .i64 (M : Int)) ∧ wC.drew.cell? ⟨w.heap.size, 1, none⟩ = some (.slice a n c) ∧ wC.drew.cell? ⟨w1.heap.size, 0, none⟩ = some (.int .i64 (M : Int)) ∧ wC.drew.cell? ⟨w1.heap.size, 1, none⟩ = some (.slice a2 n k2) ∧ Below w3.heap.size w3 wC.drew := keep4 HSC.out hg3 hz3 rfl (Drawn.below ⟨1, rfl⟩ _)
      go_region_held3 (fun X => X.cell? ⟨w.heap.size, 0, none⟩ = some (.int .i64 (M : Int)) ∧ X.cell? ⟨w.heap.size, 1, none⟩ = some (.slice a n c) ∧ X.cell? ⟨w1.heap.size, 0, none⟩ = some (.int .i64 (M : Int)) ∧ X.cell? ⟨w1.heap.size, 1, none⟩ = some (.slice a2 n k2) ∧ Below w3.heap.size w3 X)
        (first
          | (with_reducible assumption)
          | fail)
        (first
          | (go_at_call 14; (with_reducible refine Calls.mono (succ_at (M : Int) a2 n k2 qs v L m HSL.out Hm.out _ Hql.out (HQ3.out.below (by exact (by assumption : _ ∧ _ ∧ _ ∧ _ ∧ _).2.2.2.2) (Nat.le_refl _)) (gchk_of (Hg.out.turn Ha.out Hp.out))) ?_); rintro e wD ⟨b1, j1, rfl, hi1, hmm, hbD⟩; have hSD := keep4 (by assumption) hg3 hz3 rfl hbD)
          | (go_at_call 16; (with_reducible refine Calls.mono (pred_at (M : Int) a n c ps v L m HL.out Hm.out _ Hl.out (HE3.out.below (by exact (by assumption : _ ∧ _ ∧ _ ∧ _ ∧ _).2.2.2.2) (Nat.le_refl _)) Hk.out) ?_); rintro e wE ⟨b2, j2, rfl, hi2, hmm2, hbE⟩; have hSE := keep4 hSD hg3 hz3 rfl hbE)
          | (go_at_call 13; (with_reducible refine Calls.mono (eq_at m b1 j1 b2 j2 L Hm.out _ hmm (hi1.below hbE (Nat.le_refl _)) hi2) ?_); rintro e wF ⟨rfl, hdF⟩; have hSF := keep4 hSE hg3 hz3 rfl (hdF.below _)))
      have HSF := Lib.hid hSF
      clear hSD hSE hSF hS8 hbD hbE hdF hi1 hi2
      obtain ⟨r, hr⟩ : ∃ r, (reachL (M : Int) ps [v]).contains x = r := ⟨_, rfl⟩
      have hr2 : (reachL (M : Int) qs [x]).contains v = r := by rw [← hr]; exact (reach_turn Hg.out Ha.out Hp.out v x).symm
      obtain ⟨R1, hR1⟩ : ∃ R, reachL (M : Int) ps [v] = R := ⟨_, rfl⟩
      obtain ⟨R2, hR2⟩ : ∃ R, reachL (M : Int) qs [x] = R := ⟨_, rfl⟩
      rw [hR1] at hr
      rw [hR2] at hr2
      obtain ⟨m1, hm1⟩ : ∃ m, R1.length = m := ⟨_, rfl⟩
      obtain ⟨m2, hm2⟩ : ∃ m, R2.length = m := ⟨_, rfl⟩
      have Hr := Lib.hid hr
      have Hr2 := Lib.hid hr2
      have HR1 := Lib.hid hR1
      have HR2 := Lib.hid hR2
      have Hm1 := Lib.hid hm1
      have Hm2 := Lib.hid hm2
      clear hr hr2 hR1 hR2 hm1 hm2
      go_wp2_with fail
      have hS9 : wF.drew.cell? ⟨w.heap.size, 0, none⟩ = some (.int .i64 (M : Int)) ∧ wF.drew.cell? ⟨w.heap.size, 1, none⟩ = some (.slice a n c) ∧ wF.drew.cell? ⟨w1.heap.size, 0, none⟩ = some (.int .i64 (M : Int)) ∧ wF.drew.cell? ⟨w1.heap.size, 1, none⟩ = some (.slice a2 n k2) ∧ Below w3.heap.size w3 wF.drew := keep4 HSF.out hg3 hz3 rfl (Drawn.below ⟨1, rfl⟩ _)
      go_region_held3 (fun X => X.cell? ⟨w.heap.size, 0, none⟩ = some (.int .i64 (M : Int)) ∧ X.cell? ⟨w.heap.size, 1, none⟩ = some (.slice a n c) ∧ X.cell? ⟨w1.heap.size, 0, none⟩ = some (.int .i64 (M : Int)) ∧ X.cell? ⟨w1.heap.size, 1, none⟩ = some (.slice a2 n k2) ∧ Below w3.heap.size w3 X)
        (first
          | (with_reducible assumption)
          | (with_reducible exact keep4A (by assumption) hg3 hz3 rfl _)
          | (with_reducible exact keep4D HSF.out hg3 hz3 rfl _)
          | (with_reducible exact keep4D (keep4A HSF.out hg3 hz3 rfl _) hg3 hz3 rfl _)
          | fail)
        (first
          | (go_at_call 23; (with_reducible refine Calls.mono (reach_at M (M : Int) rfl a n c ps _ _ v R1 m1 HR1.out Hm1.out _ Hl.out (HE3.out.below (by exact (by assumption : _ ∧ _ ∧ _ ∧ _ ∧ _).2.2.2.2) (Nat.le_refl _)) Hk.out (by first | exact one_ints _ _ _ | exact one_intsD _ _ _ | exact one_intsDD _ _ _ _ | exact one_intsD2 _ _ _ _ | exact (one_ints _ _ _).below ((Below.refl _ _).alloc (Nat.le_refl _) _) (Nat.le_refl _))) ?_); rintro e wG ⟨b3, j3, rfl, hi3, hm3, hbG⟩; have hSG := keep4 (by assumption) hg3 hz3 rfl hbG)
          | (go_at_call 23; (with_reducible refine Calls.mono (reach_at M (M : Int) rfl a2 n k2 qs _ _ x R2 m2 HR2.out Hm2.out _ Hql.out (HQ3.out.below (by exact (by assumption : _ ∧ _ ∧ _ ∧ _ ∧ _).2.2.2.2) (Nat.le_refl _)) (gchk_of (Hg.out.turn Ha.out Hp.out)) (by first | exact one_ints _ _ _ | exact (one_intsD2 _ _ _ _).below hbG (Nat.le_refl _) | exact (one_intsD _ _ _).below hbG (Nat.le_refl _) | exact (one_ints _ _ _).below hbG (Nat.le_refl _) | exact (one_intsDD _ _ _ _).below hbG (Nat.le_refl _))) ?_); rintro e wI ⟨b4, j4, rfl, hi4, hm4, hbI⟩; have hSI := keep4 (by assumption) hg3 hz3 rfl hbI)
          | (go_at_call 25; (with_reducible refine Calls.mono (in_at b3 m1 j3 R1 x r Hr.out Hm1.out _ hm3 (by first | exact hi3 | exact hi3.below ((Below.refl _ _).alloc (Nat.le_refl _) _) (Nat.le_refl _))) ?_); rintro e wH ⟨rfl, rfl⟩)
          | (go_at_call 25; (with_reducible refine Calls.mono (in_at b4 m2 j4 R2 v r Hr2.out Hm2.out _ hm4 hi4) ?_); rintro e wJ ⟨rfl, rfl⟩)
          | (go_at_call 10; (with_reducible refine Calls.mono (awake_any _) ?_); rintro e wL ⟨rfl, hbL⟩; have hSL := keep4 (by assumption) hg3 hz3 rfl hbL))
      all_goals
        go_wp2
        go_ret
        exact ⟨rfl, HB3.out.trans (hSL.2.2.2.2.mono (by omega))⟩
    · go_enter Try.func8, Try.ntmps8
      go_wp2_with fail
      rw [Hw0.out]
      have hbad := turn_bad N a c ps w0 (by rw [Hl.out]; exact hcap) (HE.out.below HB0.out (Nat.le_refl _)).pairs (by rw [Hk.out]; exact h0)
      rw [Hl.out] at hbad
      refine hbad.mono ?_
      rintro e w1 ⟨rfl, hb1⟩
      have hb0' : (k != 0) = true := by rw [bne_iff_ne]; exact h0
      have hz1 := hb1.size
      have c0 := (hb1.cell (p := ⟨w.heap.size, 0, none⟩) hz0).trans q0
      have c1 := (hb1.cell (p := ⟨w.heap.size, 1, none⟩) hz0).trans q1
      have c0a : ∀ o, (w1.alloc o).cell? ⟨w.heap.size, 0, none⟩ = some _ := fun o => (((Below.refl w1.heap.size w1).alloc (Nat.le_refl _) o).cell (p := ⟨w.heap.size, 0, none⟩) (by show w.heap.size < _; omega)).trans c0
      have c1a : ∀ o, (w1.alloc o).cell? ⟨w.heap.size, 1, none⟩ = some _ := fun o => (((Below.refl w1.heap.size w1).alloc (Nat.le_refl _) o).cell (p := ⟨w.heap.size, 1, none⟩) (by show w.heap.size < _; omega)).trans c1
      have HbA := Lib.hid (hb1.alloc hz1 (Obj.cells #[.int .i64 0, .slice none 0 0] 24))
      clear hb1 hbad
      go_wp2_with fail
      refine (rchk_at N a n c ps k Hk.out _ Hl.out hcap (HE.out.below (HB0.out.trans (HbA.out.mono (Nat.le_of_lt hz0))) (Nat.le_refl _)).pairs).mono ?_
      rintro e w3 ⟨rfl, hb3⟩
      have hz3 : w1.heap.size < w3.heap.size := by have := hb3.size; simp at this; omega
      have p0 := (hb3.cell (p := ⟨w.heap.size, 0, none⟩) (by simp; omega)).trans ((((Below.refl w1.heap.size w1).alloc (Nat.le_refl _) (Obj.cells #[.int .i64 0, .slice none 0 0] 24)).cell (p := ⟨w.heap.size, 0, none⟩) (by show w.heap.size < _; omega)).trans c0)
      have p1 := (hb3.cell (p := ⟨w.heap.size, 1, none⟩) (by simp; omega)).trans ((((Below.refl w1.heap.size w1).alloc (Nat.le_refl _) (Obj.cells #[.int .i64 0, .slice none 0 0] 24)).cell (p := ⟨w.heap.size, 1, none⟩) (by show w.heap.size < _; omega)).trans c1)
      have d0 := (hb3.cell (p := ⟨w1.heap.size, 0, none⟩) (by simp)).trans (show _ = some (Value.int .i64 0) by simp [go_sem])
      have d1 := (hb3.cell (p := ⟨w1.heap.size, 1, none⟩) (by simp)).trans (show _ = some (Value.slice none 0 0) by simp [go_sem])
      have HB3 := Lib.hid ((HB0.out.trans (HbA.out.mono (Nat.le_of_lt hz0))).trans (hb3.mono (by simp; omega)))
      clear hb3 c0 c1 q0 q1 c0a c1a
      go_wp2_with fail
      have hrb := reach_bad N a c ps (some ⟨w3.heap.size, 0, none⟩) 1 1 (w3.alloc (Obj.cells #[.int .i64 v] 3)) (by rw [Hl.out]; exact hcap) (HE.out.below (HB3.out.alloc (by omega) _) (Nat.le_refl _)).pairs (by rw [Hk.out]; exact h0)
      rw [Hl.out] at hrb
      refine hrb.mono ?_
      rintro e w4 ⟨rfl, hb4⟩
      have Hb4 := Lib.hid hb4
      clear hb4 hrb
      go_wp2_with fail
      refine (awake_any _).mono ?_
      rintro e w5 ⟨rfl, hb5⟩
      go_wp2
      go_ret
      exact ⟨rfl, ((HB3.out.alloc (by omega) _).trans (Hb4.out.mono (by simp; omega))).trans (hb5.mono (by have := Hb4.out.size; simp at this; omega))⟩
theorem revs_row (N : Int) (a : Option Addr) (c : Nat) (ps : List (Int × Int)) (v x : Int) (w : World) (hE : Edg w a c ps) (hv : (Lit.int .i64 v).wf = true) (hx : (Lit.int .i64 x).wf = true) :
    Calls Try.prog 8 #[.agg #[.int .i64 N, .slice a ps.length c], .int .i64 v, .int .i64 x] w fun e w' => e = .returned (.bool true) ∧ Below w.heap.size w w' := revs_any N a c ps v x w hE
end Go.Proofs.Ythgnbpiemkcdhaa
