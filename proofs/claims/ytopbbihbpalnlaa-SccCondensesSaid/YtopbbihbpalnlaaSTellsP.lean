/-
  What the laws of the definition's answers stand on: Reached, Components, Of, Bottomup, Equal, SameLists (SReached, SRComp, SROf, SBot, SBotP, SEqu in one text).
-/
import Derived.Test.YtopbbihbpalnlaaSOf
import Derived.Test.YtopbbihbpalnlaaSDist
import Derived.Test.YtopbbihbpalnlaaGRCheck
import Derived.Lib.AppendZeros
namespace Go.Proofs.Ytopbbihbpalnlaa
open Go.RowKit Go.Shelf
set_option linter.unusedVariables false
theorem wk_rc {N : Nat} {ps : List (Int × Int)} (hg : GOk (N : Int) ps) {x n : Nat} {b : Int} (h : D.Wk ps (x : Int) n b) : ∃ y : Nat, b = (y : Int) ∧ Rc (suN ps) x y := by
  induction h with
  | nil => exact ⟨x, rfl, .refl⟩
  | @snoc n u b _ he ih =>
    obtain ⟨y, rfl, hr⟩ := ih
    obtain ⟨_, h1, h2⟩ := hg.fit _ he
    simp only at h1 h2
    refine ⟨b.toNat, by omega, hr.tail ((mem_suN hg).mpr ?_)⟩
    rw [show ((b.toNat : Nat) : Int) = b by omega]
    exact he
theorem rc_wk {N : Nat} {ps : List (Int × Int)} (hg : GOk (N : Int) ps) {x y : Nat} (h : Rc (suN ps) x y) : ∃ n, D.Wk ps (x : Int) n (y : Int) := by
  induction h with
  | refl => exact ⟨0, .nil⟩
  | tail _ e ih =>
    obtain ⟨n, hn⟩ := ih
    exact ⟨n + 1, .snoc hn ((mem_suN hg).mp e)⟩
theorem dist_rc {N : Nat} {ps : List (Int × Int)} (hg : GOk (N : Int) ps) {v w : Nat} (hv : v < N) (hw : w < N) {out : List Int} (h : D.DistOf N ps [(v : Int)] out) : 0 ≤ out.getD w 0 ↔ Rc (suN ps) v w := by
  constructor
  · intro h0
    obtain ⟨z, hz, _, hk⟩ := h.path (w : Int) (by omega) (by omega) (by rw [Int.toNat_natCast]; exact h0)
    rw [List.mem_singleton] at hz
    subst hz
    obtain ⟨y, e, hr⟩ := wk_rc hg hk
    have : w = y := by omega
    exact this ▸ hr
  · intro hr
    obtain ⟨n, hn⟩ := rc_wk hg hr
    have := (h.least (v : Int) (by simp) (isNd_iff.2 ⟨by omega, by omega⟩) n (w : Int) hn).1
    rw [Int.toNat_natCast] at this
    exact this
theorem one_int (X : World) (x : Int) : Ints (X.alloc (Obj.cells #[Value.int .i64 x] 3)) (some ⟨X.heap.size, 0, none⟩) [x] := fun _ => by
  refine ⟨_, _, rfl, fun q hq => ?_⟩
  have : q < 1 := hq
  obtain rfl : q = 0 := by omega
  simp [go_sem]

theorem bool_info : (Try.prog.info? 4).map (fun i => (i.zero, i.size, i.bytes)) = some (some (.bool false), 1, 1) := by kernel_rfl
theorem sb_info : (Try.prog.info? 45).map (fun i => (i.zero, i.size, i.bytes)) = some (some (.slice none 0 0), 1, 24) := by kernel_rfl
def OwnSB (w : World) (base : Nat) (v : Value) (vs : List Value) : Prop := w.ownsRow base 45 1 v vs.length vs
theorem wpList_append_sb {w : World} {ops : Array Oper} {rest : List Oper} {o : Oper} {a : Act} {Q : Exit → Act → World → Prop} (hg : o.guard = none) (s x : Operand)
    (hop : o.op = .call { callee := .builtin .append, args := #[s, x], argTypes := #[48, 48] }) (base : Nat) (v : Value) (vs : List Value) (hs : a.eval s = v) (hown : OwnSB w base v vs)
    (B : Nat) (u : Value) (hu : u.oneCell' = true) (hx : a.eval x = .slice (some ⟨B, 0, none⟩) 1 1) (hc : w.cell? ⟨B, 0, none⟩ = some u) (n : Nat) (hn : vs.length = n) (hlen : n ≤ 100000) (hbase : base ≤ w.heap.size)
    (hK : ∀ G cap w', OwnSB w' base (.slice (some ⟨G, 0, none⟩) (n + 1) cap) (vs ++ [u]) → w.grownBy w' v.ownBlock → (v.ownBlock = some G ∨ G = w.heap.size) → wpList Try.prog ops Q rest (a.put o.dst (.slice (some ⟨G, 0, none⟩) (n + 1) cap)) w') : wpList Try.prog ops Q (o :: rest) a w := by
  subst hn
  obtain ⟨i0, hi, hz0, hz1, hz2⟩ := info_parts sb_info
  refine wpList_append_lies w hg s x 48 hop base 45 i0 (.slice none 0 0) 1 24 Try.underlying48 hi hz0 hz1 hz2 rfl (by decide) v vs.length vs hs hown ⟨B, 0, none⟩ 1 1 [u] hx rfl ?_ ?_ (by decide) ?_ (by omega) hbase _ rfl ?_
  · intro j z hj
    match j, hj with
    | 0, hj => simp at hj; subst hj; simpa [Addr.add] using hc
  · intro z hz; simp at hz; subst hz; exact hu
  · unfold maxLen; omega
  · intro G cap w' h1 h2 h3 _
    refine hK G cap w' ?_ h2 h3
    unfold OwnSB
    rw [List.length_append]
    exact h1
theorem sb_ne {w : World} {b1 g : Nat} {v : Value} {vs : List Value} {bs : List Bool} (h : OwnSB w b1 v vs) {b2 : Nat} (h2 : RowB w b2 g bs) : some g ≠ v.ownBlock := by
  rcases h.2 with ⟨rfl, _⟩ | ⟨g1, cap, cur, rfl, _, hh, _⟩
  · intro e; cases e
  · rcases h2.2 with ⟨e, _⟩ | ⟨g2, cap2, cur2, e2, _, hh2, _⟩
    · cases e
    · intro e
      cases e2
      cases e
      rw [hh] at hh2
      cases hh2
theorem RowB.block {w w' : World} {base g B : Nat} {bs : List Bool} (h : RowB w base g bs) (hb : Below B w w') (hB : w.heap.size ≤ B) : RowB w' base g bs := ownsRow_below h hb hB
/-- The first v rows tell what is reached. -/
structure RB (W : World) (base N : Nat) (su : Nat → List Nat) (us : Value) (vals : List Value) (v : Nat) : Prop where
  own : OwnSB W base us vals
  len : vals.length = v
  row : ∀ j, j < v → ∃ g bs, vals.getD j nl = .slice (some ⟨g, 0, none⟩) N N ∧ RowB W 0 g bs ∧ bs.length = N ∧ ∀ x, x < N → (bs.getD x false = true ↔ Rc su j x)
theorem RB.below {W W' : World} {base N B v : Nat} {su : Nat → List Nat} {us : Value} {vals : List Value} (h : RB W base N su us vals v) (hb : Below B W W') (hB : W.heap.size ≤ B) : RB W' base N su us vals v :=
  ⟨ownsRow_below h.own hb hB, h.len, fun j hj => by
    obtain ⟨g, bs, h1, h2, h3, h4⟩ := h.row j hj
    exact ⟨g, bs, h1, h2.block hb hB, h3, h4⟩⟩
theorem RB.snoc {W W' : World} {base N v G cap g : Nat} {su : Nat → List Nat} {us : Value} {vals : List Value} {bs : List Bool} (h : RB W base N su us vals v) (ho : OwnSB W' base (.slice (some ⟨G, 0, none⟩) (v + 1) cap) (vals ++ [.slice (some ⟨g, 0, none⟩) N N])) (hg : W.grownBy W' us.ownBlock)
    (hr : RowB W 0 g bs) (hl : bs.length = N) (hb : ∀ x, x < N → (bs.getD x false = true ↔ Rc su v x)) : RB W' base N su (.slice (some ⟨G, 0, none⟩) (v + 1) cap) (vals ++ [.slice (some ⟨g, 0, none⟩) N N]) (v + 1) := by
  have hv := h.len
  refine ⟨ho, by simp [hv], fun j hj => ?_⟩
  by_cases e : j < v
  · obtain ⟨g', bs', h1, h2, h3, h4⟩ := h.row j e
    refine ⟨g', bs', ?_, h2.kept hg (sb_ne h.own h2), h3, h4⟩
    rw [← h1]
    simp [List.getD_eq_getElem?_getD, List.getElem?_append, show j < vals.length by omega]
  · obtain rfl : j = v := by omega
    refine ⟨g, bs, ?_, hr.kept hg (sb_ne h.own hr), hl, hb⟩
    rw [← hv]
    simp [List.getD_eq_getElem?_getD]
/-- A matrix of bools reads as P. -/
def RM (W : World) (u : Value) (N : Nat) (P : Nat → Nat → Prop) : Prop :=
  ∃ a c, u = .slice a N c ∧ (0 < N → ∃ G off, a = some ⟨G, off, none⟩ ∧ ∀ v, v < N → ∃ g, W.cell? ⟨G, off + v, none⟩ = some (.slice (some ⟨g, 0, none⟩) N N) ∧ ∀ x, x < N → ∃ b, W.cell? ⟨g, x, none⟩ = some (.bool b) ∧ (b = true ↔ P v x))
theorem RM.below {W W' : World} {u : Value} {N B : Nat} {P : Nat → Nat → Prop} (h : RM W u N P) (hb : Below B W W') (hB : W.heap.size ≤ B) : RM W' u N P := by
  obtain ⟨a, c, e, hz⟩ := h
  refine ⟨a, c, e, fun h0 => ?_⟩
  obtain ⟨G, off, e2, hv⟩ := hz h0
  refine ⟨G, off, e2, fun v hv2 => ?_⟩
  obtain ⟨g, h1, h2⟩ := hv v hv2
  have hk : ∀ (p : Addr) (z : Value), W.cell? p = some z → W'.cell? p = some z := fun p z hz => (hb.cell (Nat.lt_of_lt_of_le (World.block_lt_of_cell? _ _ hz) hB)).trans hz
  refine ⟨g, hk _ _ h1, fun x hx => ?_⟩
  obtain ⟨b, h3, h4⟩ := h2 x hx
  exact ⟨b, hk _ _ h3, h4⟩
theorem RB.rm {W : World} {base N : Nat} {su : Nat → List Nat} {us : Value} {vals : List Value} (h : RB W base N su us vals N) : RM W us N (Rc su) := by
  have hv := h.len
  rcases h.own.2 with ⟨e, h0⟩ | ⟨g, cap, cur, e, _⟩
  · exact ⟨none, 0, by rw [e, ← hv, h0], fun h1 => by omega⟩
  · refine ⟨some ⟨g, 0, none⟩, cap, by rw [e, hv], fun h0 => ⟨g, 0, rfl, fun v hvn => ?_⟩⟩
    obtain ⟨g', bs, h1, h2, h3, h4⟩ := h.row v hvn
    refine ⟨g', ?_, fun x hx => ⟨_, h2.cell (by omega), h4 x hx⟩⟩
    have ho := h.own
    rw [e] at ho
    rw [Nat.zero_add, World.ownsRow.cellAt ho v (by omega), ← h1]
    simp [List.getD_eq_getElem?_getD, show v < vals.length by omega]
set_option maxHeartbeats 4000000 in
set_option maxRecDepth 100000 in
theorem reached_good (N : Nat) (a : Option Addr) (n c : Nat) (ps : List (Int × Int)) (hl : ps.length = n) (w : World) (hE : Pairs w a ps) (hg : GOk (N : Int) ps) :
    Calls Try.prog 32 #[.agg #[.int .i64 (N : Int), .slice a n c]] w fun e w' => ∃ u, e = .returned u ∧ RM w' u N (Rc (suN ps)) ∧ Below w.heap.size w w' := by
  obtain ⟨i0, hi, hz0, hz1, hz2⟩ := info_parts bool_info
  have hN8 := hg.hi
  obtain ⟨w1, hw1⟩ : ∃ w1, w.alloc (Obj.cells #[Value.int .i64 (N : Int), Value.slice a n c] 24) = w1 := ⟨_, rfl⟩
  have hs1 : w.heap.size < w1.heap.size := by rw [← hw1]; simp
  have g0 : w1.cell? ⟨w.heap.size, 0, none⟩ = some (.int .i64 (N : Int)) := by rw [← hw1]; simp [go_sem]
  have g1 : w1.cell? ⟨w.heap.size, 1, none⟩ = some (.slice a n c) := by rw [← hw1]; simp [go_sem]
  have HB1 : Hid (Below w.heap.size w w1) := by show Below _ _ _; rw [← hw1]; exact (Below.refl w.heap.size w).alloc (Nat.le_refl _) _
  have HE := Lib.hid (hE.below HB1.out (Nat.le_refl _))
  have Hl := Lib.hid hl
  have Hg := Lib.hid hg
  have Hw1 := Lib.hid hw1
  clear hl hg hE hw1
  go_enter Try.func32, Try.ntmps32
  go_wp2
  rw [Hw1.out]
  go_loopw [3, 4] (fun vo i W => ∃ (v : Nat) (au : Option Addr) (cu : Nat) (vals : List Value), v ≤ N ∧ i = .int .i64 v ∧ vo = .slice au v cu ∧ Hid (RB W w1.heap.size N (suN ps) (.slice au v cu) vals v) ∧ Hid (Below w1.heap.size w1 W)) (fun _ i _ => N - (intOf i).toNat)
  case atStart => exact ⟨0, none, 0, [], Nat.zero_le _, rfl, rfl, Lib.hid ⟨World.ownsRow_nil _ _ _ _, rfl, fun j hj => absurd hj (Nat.not_lt_zero j)⟩, Lib.hid (Below.refl _ _)⟩
  case round =>
    obtain ⟨v, au, cu, vals, hv, rfl, rfl, Hrb, Hbe⟩ := hrel
    have k0 := (Hbe.out.cell (p := ⟨w.heap.size, 0, none⟩) hs1).trans g0
    have k1 := (Hbe.out.cell (p := ⟨w.heap.size, 1, none⟩) hs1).trans g1
    have hsz := Hbe.out.size
    by_cases hlt : v < N
    · generalize wr = w2 at *
      have hb3 : Below w2.heap.size w2 (w2.alloc (Obj.cells #[Value.int .i64 (v : Int)] 3)) := (Below.refl _ _).alloc (Nat.le_refl _) _
      have hdist := D.rdist_good N a n c ps Hl.out _ 1 1 [(v : Int)] rfl _ ((HE.out.below Hbe.out (Nat.le_refl _)).below hb3 (Nat.le_refl _)) Hg.out (one_int w2 (v : Int)) (by unfold maxLen; omega)
      have Hdist := Lib.hid hdist
      clear hdist
      go_wp2_with fail
      refine Hdist.out.mono ?_
      rintro e w4 ⟨S4, out4, rfl, hr4, hd4, hb4⟩
      have hb24 : Below w2.heap.size w2 w4 := hb3.trans (hb4.mono (by simp))
      have hs24 := hb24.size
      have hS4 := (World.ownsRow.lt hr4 S4 rfl).2
      have m0 := (hb24.cell (p := ⟨w.heap.size, 0, none⟩) (by show w.heap.size < _; omega)).trans k0
      have m1 := (hb24.cell (p := ⟨w.heap.size, 1, none⟩) (by show w.heap.size < _; omega)).trans k1
      have Hrb4 := Lib.hid (Hrb.out.below hb24 (Nat.le_refl _))
      have Hbe4 := Lib.hid (Hbe.out.trans (hb24.mono hsz))
      have Hr4 := Lib.hid hr4
      have Hlen4 := Lib.hid hd4.len
      have Hrc : Hid (∀ x, x < N → (0 ≤ out4.getD x 0 ↔ Rc (suN ps) v x)) := by show ∀ x, _; exact fun x hx => dist_rc Hg.out hlt hx hd4
      clear hb3 hr4 hd4 hb4 hb24 Hrb Hbe Hdist k0 k1
      go_wp2_with (at_make; refine wpList_make_full _ rfl _ _ 45 rfl w4.heap.size 4 i0 (.bool false) 1 Try.underlying45 hi hz0 hz1 _ _ _ _ N rfl rfl rfl rfl ?c1 ?c2 ?c3 ?_)
      case c1 => rw [hz2]; omega
      case c2 => unfold maxLen; omega
      case c3 => exact Nat.le_refl _
      intro w5 hown hg5
      have hrow5 : RowB w5 w4.heap.size w4.heap.size (List.replicate N false) := by
        unfold RowB
        rw [List.length_replicate, show (List.replicate N false).map Value.bool = (madeCells #[Value.bool false] N).toList by rw [toList_madeCells_one]; simp]
        exact hown
      have hb5 : Below w4.heap.size w4 w5 := (Below.refl _ _).grown hg5 (Nat.le_refl _) (fun k hk => by cases hk)
      have Hrow5 := Lib.hid hrow5
      have Hb5 := Lib.hid hb5
      clear hown hg5 hrow5 hb5
      go_wp2
      go_loopw [7] (fun i W => ∃ (x : Nat) (bs : List Bool), x ≤ N ∧ i = .int .i64 x ∧ Hid (RowB W w4.heap.size w4.heap.size bs) ∧ bs.length = N ∧ Hid (∀ y, y < x → (bs.getD y false = true ↔ Rc (suN ps) v y)) ∧ Hid (Below w4.heap.size w4 W)) (fun i _ => N - (intOf i).toNat)
      case atStart => exact ⟨0, _, Nat.zero_le _, rfl, Hrow5, by simp, Lib.hid (fun y hy => absurd hy (Nat.not_lt_zero y)), Hb5⟩
      case round =>
        clear Hrow5 Hb5
        obtain ⟨x, bs, hx, rfl, Hrow, hbl, Hbs, Hb⟩ := hrel
        have n0 := (Hb.out.cell (p := ⟨w.heap.size, 0, none⟩) (by show w.heap.size < _; omega)).trans m0
        have n1 := (Hb.out.cell (p := ⟨w.heap.size, 1, none⟩) (by show w.heap.size < _; omega)).trans m1
        by_cases hxl : x < N
        · have c5 := Hrow.out.cell (i := x) (by omega)
          have f5 := Hrow.out.free x
          have cD := (Hb.out.cell (p := ⟨S4, x, none⟩) hS4).trans (Hr4.out.cell (i := x) (by rw [Hlen4.out]; exact hxl))
          have hrc := Hrc.out x hxl
          obtain ⟨o, ho⟩ : ∃ o, out4.getD x 0 = o := ⟨_, rfl⟩
          rw [ho] at cD hrc
          obtain ⟨t, ht⟩ : ∃ t, decide ((0 : Int) ≤ o) = t := ⟨_, rfl⟩
          have hset : ∀ y, y < x + 1 → ((bs.set x t).getD y false = true ↔ Rc (suN ps) v y) := fun y hy => by
            by_cases e : y = x
            · subst e
              rw [show (bs.set y t).getD y false = t by simp [List.getD_eq_getElem?_getD, show y < bs.length by omega], ← ht, decide_eq_true_iff]
              exact hrc
            · rw [show (bs.set x t).getD y false = bs.getD y false by simp [List.getD_eq_getElem?_getD, Ne.symm e]]
              exact Hbs.out y (by omega)
          have Hset := Lib.hid hset
          have Hrow2 := Lib.hid (Hrow.out.set x t)
          have Hb2 : Hid (Below w4.heap.size w4 (wr.setCell ⟨w4.heap.size, x, none⟩ (.bool t))) := Hb.out.setCell (p := ⟨w4.heap.size, x, none⟩) (Nat.le_refl _) _
          have hbl2 : (bs.set x t).length = N := by rw [List.length_set]; exact hbl
          clear ho hset hrc Hrow Hbs
          go_wp2
          go_roundw
          case rel => exact ⟨x + 1, _, hxl, by go_num, Hrow2, hbl2, Hset, Hb2⟩
          case measure => simp [intOf]; omega
        · obtain rfl : x = N := by omega
          generalize wr = w6 at *
          have hs6 := Hb.out.size
          have hrb6 := Hrb4.out.below Hb.out (Nat.le_refl _)
          have Hrb6 := Lib.hid hrb6
          have Hbe6 := Lib.hid (Hbe4.out.trans (Hb.out.mono (by omega)))
          have hvl := hrb6.len
          have hadd : ∀ (G cap : Nat) (w7 : World), OwnSB w7 w1.heap.size (.slice (some ⟨G, 0, none⟩) (v + 1) cap) (vals ++ [.slice (some ⟨w4.heap.size, 0, none⟩) x x]) → (w6.alloc (Obj.cells #[Value.slice (some ⟨w4.heap.size, 0, none⟩) x x] 45)).grownBy w7 (Value.slice au v cu).ownBlock → RB w7 w1.heap.size x (suN ps) (.slice (some ⟨G, 0, none⟩) (v + 1) cap) (vals ++ [.slice (some ⟨w4.heap.size, 0, none⟩) x x]) (v + 1) ∧ Below w1.heap.size w1 w7 := fun G cap w7 ho hg7 => by
            have hba : Below w6.heap.size w6 (w6.alloc (Obj.cells #[Value.slice (some ⟨w4.heap.size, 0, none⟩) x x] 45)) := (Below.refl _ _).alloc (Nat.le_refl _) _
            refine ⟨(hrb6.below hba (Nat.le_refl _)).snoc ho hg7 ((Hrow.out.block hba (Nat.le_refl _)) |> fun h => sccRow_mono h (Nat.zero_le _)) hbl Hbs.out, ?_⟩
            exact (Hbe6.out.trans (hba.mono (by omega))).grown hg7 (by simp; omega) (fun k hk => (World.ownsRow.lt hrb6.own k hk).1)
          have Hadd := Lib.hid hadd
          clear hrb6 hadd
          go_wp2_with (at_builtin; refine wpList_append_sb rfl _ _ rfl w1.heap.size _ vals rfl (World.ownsRow.alloc Hrb6.out.own _) _ (Value.slice (some ⟨w4.heap.size, 0, none⟩) x x) rfl rfl (by simp [go_sem]) _ hvl (by omega) (by simp; omega) ?_; intro G cap w7 ho7 hg7 hat7; obtain ⟨hrb7, hb7⟩ := Hadd.out G cap w7 ho7 hg7; have Hrb7 := Lib.hid hrb7; have Hb7 := Lib.hid hb7; clear ho7 hg7 hat7 hrb7 hb7)
          go_roundw
          case rel => exact ⟨v + 1, _, _, _, hlt, by go_num, rfl, Hrb7, Hb7⟩
          case measure => simp [intOf]; omega
    · obtain rfl : v = N := by omega
      go_wp2
      go_ret
      exact ⟨_, rfl, Hrb.out.rm, HB1.out.trans (Hbe.out.mono (Nat.le_of_lt hs1))⟩
end Go.Proofs.Ytopbbihbpalnlaa

namespace Go.Proofs.Ytopbbihbpalnlaa
open Go.RowKit Go.Shelf
set_option linter.unusedVariables false
/-- The nodes of the first i lists, and of the first k places of the next one. -/
def preI (L : List (List Nat)) (i : Nat) : List Nat := (L.take i).flatten
theorem mem_preI {L : List (List Nat)} {i : Nat} (hi : i ≤ L.length) {w : Nat} : w ∈ preI L i ↔ ∃ j, j < i ∧ w ∈ L.getD j [] := by
  unfold preI
  rw [List.mem_flatten]
  constructor
  · rintro ⟨c, hc, hw⟩
    obtain ⟨j, hj, e⟩ := List.getElem_of_mem hc
    rw [List.length_take] at hj
    refine ⟨j, by omega, ?_⟩
    rw [List.getD_eq_getElem?_getD, List.getElem?_eq_getElem (by omega)]
    rw [List.getElem_take] at e
    rw [Option.getD_some, e]
    exact hw
  · rintro ⟨j, hj, hw⟩
    refine ⟨L.getD j [], ?_, hw⟩
    rw [List.getD_eq_getElem?_getD, List.getElem?_eq_getElem (by omega)]
    exact List.mem_take_iff_getElem.mpr ⟨j, by omega, rfl⟩
theorem preI_succ {L : List (List Nat)} {i : Nat} (hi : i < L.length) : preI L (i + 1) = preI L i ++ L.getD i [] := by
  unfold preI
  rw [List.take_succ_eq_append_getElem hi, List.flatten_append]
  simp [List.getD_eq_getElem?_getD, hi]
def filI (c : List Nat) (x : Nat) : List Nat := (List.range x).filter fun y => c.contains y
theorem filI_succ (c : List Nat) (x : Nat) : filI c (x + 1) = if x ∈ c then filI c x ++ [x] else filI c x := by
  unfold filI
  rw [List.range_succ, List.filter_append]
  by_cases h : x ∈ c <;> simp [h]
theorem mem_filI {c : List Nat} {x y : Nat} : y ∈ filI c x ↔ y < x ∧ y ∈ c := by unfold filI; simp
theorem asc_ext : ∀ {l m : List Nat}, l.Pairwise (· < ·) → m.Pairwise (· < ·) → (∀ x, x ∈ l ↔ x ∈ m) → l = m
  | [], [], _, _, _ => rfl
  | [], b :: _, _, _, h => absurd ((h b).mpr (by simp)) (by simp)
  | a :: _, [], _, _, h => absurd ((h a).mp (by simp)) (by simp)
  | a :: l, b :: m, h1, h2, h => by
    obtain ⟨a1, a2⟩ := List.pairwise_cons.mp h1
    obtain ⟨b1, b2⟩ := List.pairwise_cons.mp h2
    have hab : a = b := by
      rcases List.mem_cons.mp ((h a).mp (by simp)) with e | e
      · exact e
      · rcases List.mem_cons.mp ((h b).mpr (by simp)) with e2 | e2
        · exact e2.symm
        · have := b1 a e
          have := a1 b e2
          omega
    subst hab
    have hm : ∀ x, x ∈ l ↔ x ∈ m := fun x => by
      have := h x
      simp only [List.mem_cons] at this
      constructor
      · intro hx
        rcases this.mp (.inr hx) with e | e
        · subst e; have := a1 x hx; omega
        · exact e
      · intro hx
        rcases this.mpr (.inr hx) with e | e
        · subst e; have := b1 x hx; omega
        · exact e
    rw [asc_ext a2 b2 hm]
theorem filI_all {c : List Nat} {N : Nat} (ha : c.Pairwise (· < ·)) (hl : ∀ x ∈ c, x < N) : filI c N = c := by
  refine asc_ext ?_ ha fun x => by rw [mem_filI]; exact ⟨fun h => h.2, fun h => ⟨hl x h, h⟩⟩
  unfold filI
  exact List.Pairwise.filter _ List.pairwise_lt_range
theorem filI_len (c : List Nat) (x : Nat) : (filI c x).length ≤ x := by
  unfold filI
  have := List.length_filter_le (fun y => c.contains y) (List.range x)
  simpa using this
/-- A node whose list may come next. -/
structure OkN (N : Nat) (su : Nat → List Nat) (L : List (List Nat)) (i u : Nat) : Prop where
  new : u ∉ preI L i
  all : ∀ w, w < N → Rc su u w → w ∈ preI L i ∨ Rc su w u
section
variable {N : Nat} {su : Nat → List Nat} {L : List (List Nat)}
theorem CC.down (h : CC N su L) {i x y : Nat} (hi : i < L.length) (hx : x ∈ L.getD i []) (hr : Rc su x y) : ∃ j, j ≤ i ∧ y ∈ L.getD j [] := by
  induction hr with
  | refl => exact ⟨i, Nat.le_refl _, hx⟩
  | tail _ e ih =>
    obtain ⟨j, hj, hy⟩ := ih
    obtain ⟨j', hj', hz⟩ := h.top j (by omega) _ hy _ e
    exact ⟨j', by omega, hz⟩
theorem CC.hd_ok (h : CC N su L) {i : Nat} (hi : i < L.length) : OkN N su L i (hdL L i) := by
  have hm := h.hd_mem hi
  refine ⟨fun e => ?_, fun w hw hr => ?_⟩
  · obtain ⟨j, hj, e2⟩ := (mem_preI (Nat.le_of_lt hi)).mp e
    have := h.dis i j hi (by omega) _ hm e2
    omega
  · obtain ⟨j, hj, hy⟩ := h.down hi hm hr
    by_cases e : j = i
    · subst e
      exact .inr ((h.scc j hi _ hm w).mp hy).2
    · exact .inl ((mem_preI (Nat.le_of_lt hi)).mpr ⟨j, by omega, hy⟩)
theorem CC.hd_least (h : CC N su L) (hsu : ∀ x, ∀ y ∈ su x, y < N) {i v : Nat} (hi : i < L.length) (hv : v < N) (ho : OkN N su L i v) : hdL L i ≤ v := by
  refine h.least i hi v hv (fun j hj e => ho.new ((mem_preI (Nat.le_of_lt hi)).mpr ⟨j, hj, e⟩)) fun y hr => ?_
  rcases ho.all y (hr.lt hsu hv) hr with h1 | h1
  · exact .inr ((mem_preI (Nat.le_of_lt hi)).mp h1)
  · exact .inl h1
theorem CC.preN (h : CC N su L) : (preI L L.length).length = N := by
  have h1 : (preI L L.length).Nodup := by
    unfold preI
    rw [List.take_length]
    unfold List.Nodup
    rw [List.pairwise_flatten]
    refine ⟨fun l hl => ?_, ?_⟩
    · obtain ⟨i, hi, rfl⟩ := mem_getD hl
      exact (h.asc i hi).imp fun h => by omega
    · rw [List.pairwise_iff_getElem]
      intro i j hi hj hij x hx y hy e
      subst e
      have := h.dis i j hi hj x (by rw [List.getD_eq_getElem?_getD, List.getElem?_eq_getElem hi]; exact hx) (by rw [List.getD_eq_getElem?_getD, List.getElem?_eq_getElem hj]; exact hy)
      omega
  have := (List.perm_ext_iff_of_nodup h1 (List.nodup_range (n := N))).mpr (fun x => by
    rw [List.mem_range, mem_preI (Nat.le_refl _)]
    exact ⟨fun ⟨j, hj, hx⟩ => h.lt j hj x hx, fun hx => h.all x hx⟩)
  simpa using this.length_eq
theorem preI_mono (L : List (List Nat)) {i j : Nat} (h : i ≤ j) : (preI L i).length ≤ (preI L j).length := by
  unfold preI
  rw [show L.take i = (L.take j).take i by rw [List.take_take, Nat.min_eq_left h]]
  have : (L.take j).flatten = ((L.take j).take i).flatten ++ ((L.take j).drop i).flatten := by rw [← List.flatten_append, List.take_append_drop]
  rw [this, List.length_append]
  omega
theorem CC.pre_lt (h : CC N su L) {i : Nat} (hi : i < L.length) : (preI L i).length < N := by
  have h1 := preI_mono L (show i + 1 ≤ L.length by omega)
  rw [h.preN, preI_succ hi, List.length_append] at h1
  have := List.length_pos_iff.mpr (h.ne i hi)
  omega
end
/-- The nodes of l are marked. -/
structure SeenN (N : Nat) (bs : List Bool) (l : List Nat) : Prop where
  len : bs.length = N
  at_ : ∀ x, x < N → (bs.getD x false = true ↔ x ∈ l)
theorem SeenN.start (N : Nat) : SeenN N (List.replicate N false) [] := ⟨by simp, fun x hx => by simp [List.getD_eq_getElem?_getD, hx]⟩
theorem SeenN.add {N : Nat} {bs : List Bool} {l : List Nat} (h : SeenN N bs l) {v : Nat} (hv : v < N) : SeenN N (bs.set v true) (l ++ [v]) := by
  refine ⟨by rw [List.length_set]; exact h.len, fun x hx => ?_⟩
  rw [List.mem_append, List.mem_singleton]
  by_cases e : x = v
  · subst e
    have := h.len
    simp [List.getD_eq_getElem?_getD, show x < bs.length by omega]
  · have : (bs.set v true).getD x false = bs.getD x false := by simp [List.getD_eq_getElem?_getD, Ne.symm e]
    rw [this, h.at_ x hx]
    simp [e]
/-- The lists that were appended. -/
structure RO (W : World) (base : Nat) (us : Value) (vals : List Value) (M : List (List Int)) : Prop where
  own : OwnS W base us vals
  len : vals.length = M.length
  row : ∀ j, j < M.length → Own W base (vals.getD j nl) (M.getD j [])
theorem RO.below {W W' : World} {base B : Nat} {us : Value} {vals : List Value} {M : List (List Int)} (h : RO W base us vals M) (hb : Below B W W') (hB : W.heap.size ≤ B) : RO W' base us vals M :=
  ⟨ownsRow_below h.own hb hB, h.len, fun j hj => (h.row j hj).below hb hB⟩
theorem RO.snoc {W W' : World} {base : Nat} {us us' u : Value} {vals : List Value} {M : List (List Int)} {c : List Int} (h : RO W base us vals M) (ho : OwnS W' base us' (vals ++ [u])) (hg : W.grownBy W' us.ownBlock) (hu : Own W base u c) : RO W' base us' (vals ++ [u]) (M ++ [c]) := by
  have hl := h.len
  refine ⟨ho, by simp [hl], fun j hj => ?_⟩
  rw [List.length_append, List.length_singleton] at hj
  by_cases e : j < M.length
  · have := World.ownsRow.kept (h.row j e) hg (own_ne' h.own (h.row j e))
    rw [show (vals ++ [u]).getD j nl = vals.getD j nl by simp [List.getD_eq_getElem?_getD, List.getElem?_append, show j < vals.length by omega], show (M ++ [c]).getD j [] = M.getD j [] by simp [List.getD_eq_getElem?_getD, List.getElem?_append, e]]
    exact this
  · obtain rfl : j = M.length := by omega
    have := World.ownsRow.kept hu hg (own_ne' h.own hu)
    rw [show (vals ++ [u]).getD M.length nl = u by rw [← hl]; simp [List.getD_eq_getElem?_getD], show (M ++ [c]).getD M.length [] = c by simp [List.getD_eq_getElem?_getD]]
    exact this
theorem RO.rl {W : World} {base : Nat} {us : Value} {vals : List Value} {M : List (List Int)} (h : RO W base us vals M) : RL W us M := by
  have hv := h.len
  rcases h.own.2 with ⟨rfl, h0⟩ | ⟨g, cap, cur, e, _⟩
  · exact ⟨none, 0, by rw [← hv, h0], fun h1 => by omega⟩
  · refine ⟨some ⟨g, 0, none⟩, cap, by rw [e, hv], fun h0 => ⟨g, 0, rfl, fun i hi => ?_⟩⟩
    obtain ⟨a, c, h1, h2⟩ := (h.row i hi).shape
    have ho := h.own
    rw [e] at ho
    refine ⟨a, c, ?_, h2⟩
    rw [Nat.zero_add, World.ownsRow.cellAt ho i (by omega), ← h1]
    simp [List.getD_eq_getElem?_getD, show i < vals.length by omega]
/-- Besides block X, all that lay below is as it was. -/
structure NearB (w6 W : World) (X : Nat) : Prop where
  os : W.os = w6.os
  tape : W.tape = w6.tape
  output : W.output = w6.output
  size : w6.heap.size ≤ W.heap.size
  blk : ∀ q, q < w6.heap.size → q ≠ X → W.heap[q]? = w6.heap[q]?
theorem NearB.refl (w : World) (X : Nat) : NearB w w X := ⟨rfl, rfl, rfl, Nat.le_refl _, fun _ _ _ => rfl⟩
theorem NearB.grown {w6 W W' : World} {X : Nat} {row : Option Nat} (h : NearB w6 W X) (hg : W.grownBy W' row) (hr : ∀ k, row = some k → w6.heap.size ≤ k) : NearB w6 W' X :=
  ⟨hg.os.trans h.os, hg.tape.trans h.tape, hg.output.trans h.output, Nat.le_trans h.size hg.size, fun q h1 h2 => (hg.block q (Nat.lt_of_lt_of_le h1 h.size) (fun e => by have := hr q e.symm; omega)).trans (h.blk q h1 h2)⟩
theorem NearB.alloc {w6 W : World} {X : Nat} (h : NearB w6 W X) (o : Obj) : NearB w6 (W.alloc o) X := h.grown (World.grownBy_alloc W o none) (fun k hk => by cases hk)
theorem NearB.set {w6 W : World} {X : Nat} (h : NearB w6 W X) (f : Nat) (z : Value) : NearB w6 (W.setCell ⟨X, f, none⟩ z) X :=
  ⟨h.os, h.tape, h.output, by simpa using h.size, fun q h1 h2 => ((grown_setCell W X f z).block q (Nat.lt_of_lt_of_le h1 h.size) (fun e => h2 (by cases e; rfl))).trans (h.blk q h1 h2)⟩
theorem NearB.below {w0 w6 W : World} {X B : Nat} (h : NearB w6 W X) (hb : Below B w0 w6) (hB : B ≤ X) (hs : B ≤ w6.heap.size) : Below B w0 W :=
  ⟨h.os.trans hb.os, h.tape.trans hb.tape, h.output.trans hb.output, Nat.le_trans hb.size h.size, fun k hk => (h.blk k (by omega) (by omega)).trans (hb.block k hk)⟩
theorem NearB.cell {w6 W : World} {X : Nat} (h : NearB w6 W X) {p : Addr} {v : Value} (hp : p.block ≠ X) (hc : w6.cell? p = some v) : W.cell? p = some v := by
  rw [← hc]
  unfold World.cell?
  rw [h.blk _ (World.block_lt_of_cell? _ _ hc) hp]
theorem RO.near {w6 W : World} {X base : Nat} {us : Value} {vals : List Value} {M : List (List Int)} (h : RO w6 base us vals M) (hn : NearB w6 W X) (hX : X < base) : RO W base us vals M :=
  ⟨ownsRow_block h.own (fun k hk => by have := World.ownsRow.lt h.own k hk; exact hn.blk k this.2 (by omega)), h.len, fun j hj => ownsRow_block (h.row j hj) (fun k hk => by have := World.ownsRow.lt (h.row j hj) k hk; exact hn.blk k this.2 (by omega))⟩
def BadX (su : Nat → List Nat) (L : List (List Nat)) (i v y : Nat) : Prop := Rc su v y ∧ y ∉ preI L i ∧ ¬ Rc su y v
/-- While the next node is looked for. -/
def SvP (w6 W : World) (nx : Value) (v h : Nat) : Prop := W = w6 ∧ ((nx = .int .i64 (-1) ∧ v ≤ h) ∨ (nx = .int .i64 (h : Int) ∧ v = h + 1))
/-- While node v is tried. -/
def SxP (su : Nat → List Nat) (L : List (List Nat)) (i N : Nat) (w6 W : World) (nx : Value) (v x : Nat) : Prop := W = w6 ∧ ((nx = .int .i64 (v : Int) ∧ ∀ y, y < x → ¬ BadX su L i v y) ∨ (nx = .int .i64 (-1) ∧ ∃ y, y < N ∧ BadX su L i v y))
theorem SxP.skip {su : Nat → List Nat} {L : List (List Nat)} {i N v x : Nat} {w6 W : World} {nx : Value} (h : SxP su L i N w6 W nx v x) (hn : ¬ BadX su L i v x) : SxP su L i N w6 W nx v (x + 1) := by
  refine ⟨h.1, ?_⟩
  rcases h.2 with ⟨a1, a2⟩ | a3
  · refine .inl ⟨a1, fun y hy hb => ?_⟩
    by_cases e : y = x
    · subst e; exact hn hb
    · exact a2 y (by omega) hb
  · exact .inr a3
set_option maxHeartbeats 8000000 in
set_option maxRecDepth 100000 in
theorem rcomps_good (N : Nat) (a : Option Addr) (n c : Nat) (ps : List (Int × Int)) (hl : ps.length = n) (hn : n ≤ maxLen) (w : World) (hE : Pairs w a ps) (hk : gchk (N : Int) ps = 0) (L : List (List Nat)) (hcc : CC N (suN ps) L) :
    Calls Try.prog 12 #[.agg #[.int .i64 (N : Int), .slice a n c]] w fun e w' => ∃ u, e = .returned (.tuple #[u, .int .i64 0]) ∧ RL w' u (L.map ni) ∧ Below w.heap.size w w' := by
  obtain ⟨i0, hi, hz0, hz1, hz2⟩ := info_parts bool_info
  have hg := gchk_ok hk
  have hN8 := hg.hi
  obtain ⟨w1, hw1⟩ : ∃ w1, w.alloc (Obj.cells #[Value.int .i64 (N : Int), Value.slice a n c] 24) = w1 := ⟨_, rfl⟩
  have hs1 : w.heap.size < w1.heap.size := by rw [← hw1]; simp
  have g0 : w1.cell? ⟨w.heap.size, 0, none⟩ = some (.int .i64 (N : Int)) := by rw [← hw1]; simp [go_sem]
  have g1 : w1.cell? ⟨w.heap.size, 1, none⟩ = some (.slice a n c) := by rw [← hw1]; simp [go_sem]
  have HB1 : Hid (Below w.heap.size w w1) := by show Below _ _ _; rw [← hw1]; exact (Below.refl w.heap.size w).alloc (Nat.le_refl _) _
  have hE1 := hE.below HB1.out (Nat.le_refl _)
  have hrc := rcheck_any (N : Int) a c ps w1 (by rw [hl]; exact hn) hE1
  rw [hl, hk] at hrc
  have Hrc := Lib.hid hrc
  have HE := Lib.hid hE1
  have Hl := Lib.hid hl
  have Hg := Lib.hid hg
  have Hcc := Lib.hid hcc
  have Hw1 := Lib.hid hw1
  clear hl hg hE hw1 hcc hrc hE1 hk
  go_enter Try.func12, Try.ntmps12
  go_wp2_with fail
  rw [Hw1.out]
  refine Hrc.out.mono ?_
  rintro e w2 ⟨rfl, hb2⟩
  have k0 := (hb2.cell (p := ⟨w.heap.size, 0, none⟩) hs1).trans g0
  have k1 := (hb2.cell (p := ⟨w.heap.size, 1, none⟩) hs1).trans g1
  have hs2 := hb2.size
  have HB2 := Lib.hid (HB1.out.trans (hb2.mono (Nat.le_of_lt hs1)))
  have HE2 := Lib.hid (HE.out.below hb2 (Nat.le_refl _))
  clear hb2 g0 g1 HE Hrc
  go_wp2_with fail
  refine (reached_good N a n c ps Hl.out w2 HE2.out Hg.out).mono ?_
  rintro e w3 ⟨ur, rfl, hrm, hb3⟩
  have m0 := (hb3.cell (p := ⟨w.heap.size, 0, none⟩) (by show w.heap.size < _; omega)).trans k0
  have hs3 := hb3.size
  have HB3 := Lib.hid (HB2.out.trans (hb3.mono (by omega)))
  have Hrm := Lib.hid hrm
  clear hb3 hrm HE2 k0 k1
  go_wp2_with (at_make; refine wpList_make_full _ rfl _ _ 45 rfl w3.heap.size 4 i0 (.bool false) 1 Try.underlying45 hi hz0 hz1 _ _ _ _ N rfl rfl rfl rfl ?c1 ?c2 ?c3 ?_)
  case c1 => rw [hz2]; omega
  case c2 => unfold maxLen; omega
  case c3 => exact Nat.le_refl _
  intro w4 hown hg4
  have hrow4 : RowB w4 w3.heap.size w3.heap.size (List.replicate N false) := by
    unfold RowB
    rw [List.length_replicate, show (List.replicate N false).map Value.bool = (madeCells #[Value.bool false] N).toList by rw [toList_madeCells_one]; simp]
    exact hown
  have hb4 : Below w3.heap.size w3 w4 := (Below.refl _ _).grown hg4 (Nat.le_refl _) (fun k hk => by cases hk)
  have hs4 : w3.heap.size < w4.heap.size := (World.ownsRow.lt hrow4 _ rfl).2
  have n0 := (hb4.cell (p := ⟨w.heap.size, 0, none⟩) (by show w.heap.size < _; omega)).trans m0
  have Hrow4 := Lib.hid hrow4
  have HB4 := Lib.hid (HB3.out.trans (hb4.mono (by omega)))
  have Hb34 := Lib.hid hb4
  have hpre0 : preI L 0 = [] := rfl
  have hse0 : SeenN N (List.replicate N false) (preI L 0) := by rw [hpre0]; exact SeenN.start N
  have Hse0 := Lib.hid hse0
  have Hro0 : Hid (RO w4 w4.heap.size (.slice none 0 0) [] ((L.take 0).map ni)) := by
    show RO _ _ _ _ _
    exact ⟨World.ownsRow_nil _ _ _ _, rfl, fun j hj => absurd hj (Nat.not_lt_zero j)⟩
  have Hn0 : Hid ((0 : Int) = (((preI L 0).length : Nat) : Int)) := by show _ = _; rw [hpre0]; rfl
  have hLN := Hcc.out.count
  clear hown hg4 hrow4 hb4 m0 hse0 hpre0
  go_wp2
  go_loopw [7, 8] (fun vo nn W => ∃ (i : Nat) (au : Option Addr) (cu : Nat) (vals : List Value) (bs : List Bool), i ≤ L.length ∧ vo = .slice au i cu ∧ nn = .int .i64 (((preI L i).length : Nat) : Int) ∧ Hid (RO W w4.heap.size (.slice au i cu) vals ((L.take i).map ni)) ∧ Hid (RowB W w3.heap.size w3.heap.size bs) ∧ Hid (SeenN N bs (preI L i)) ∧ Hid (Below w3.heap.size w3 W) ∧ w4.heap.size ≤ W.heap.size) (fun _ nn _ => N - (intOf nn).toNat)
  case atStart => exact ⟨0, none, 0, [], _, Nat.zero_le _, rfl, by rw [← Hn0.out], Hro0, Hrow4, Hse0, Hb34, Nat.le_refl _⟩
  case round =>
    clear Hro0 Hrow4 Hse0 Hn0
    obtain ⟨i, au, cu, vals, bs, hi', rfl, rfl, Hro, Hrow, Hse, Hbe, hs46⟩ := hrel
    generalize wr = w6 at *
    have p0 := (Hbe.out.cell (p := ⟨w.heap.size, 0, none⟩) (by show w.heap.size < _; omega)).trans (show w3.cell? _ = some (.int .i64 (N : Int)) from (Hb34.out.cell (p := ⟨w.heap.size, 0, none⟩) (by show w.heap.size < _; omega)).symm.trans n0)
    have hs6 := Hbe.out.size
    have hr6 := (World.ownsRow.lt Hrow.out w3.heap.size rfl).2
    by_cases hiL : i < L.length
    · have hpl := Hcc.out.pre_lt hiL
      obtain ⟨h, hh⟩ : ∃ h, hdL L i = h := ⟨_, rfl⟩
      have hhm := Hcc.out.hd_mem hiL
      have hok := Hcc.out.hd_ok hiL
      have hleast : ∀ v, v < N → OkN N (suN ps) L i v → h ≤ v := fun v hv ho => by rw [← hh]; exact Hcc.out.hd_least (suN_lt Hg.out) hiL hv ho
      rw [hh] at hhm hok
      have hhN := Hcc.out.lt i hiL h hhm
      obtain ⟨ar, cr, rfl, hz⟩ := Hrm.out.below Hbe.out (Nat.le_refl _)
      obtain ⟨G, off, rfl, hmat⟩ := hz (by omega)
      have hfar2 : ∀ v, v < N → ∀ g1, w6.cell? ⟨G, off + v, none⟩ = some (.slice (some ⟨g1, 0, none⟩) N N) → g1 ≠ w3.heap.size := by
        obtain ⟨ar3, cr3, e3, hz3⟩ := Hrm.out
        cases e3
        obtain ⟨G3, off3, e3, hm3⟩ := hz3 (by omega)
        cases e3
        intro v hv g1 hc1 e
        obtain ⟨g3, q1, q2⟩ := hm3 v hv
        obtain ⟨_, q3, _⟩ := q2 v hv
        have hc3 := (Hbe.out.cell (World.block_lt_of_cell? _ _ q1)).trans q1
        rw [hc1] at hc3
        have : g1 = g3 := by simpa using hc3
        have h3 := World.block_lt_of_cell? _ _ q3
        simp only at h3
        omega
      have hfar : G ≠ w3.heap.size := by
        obtain ⟨ar3, cr3, e3, hz3⟩ := Hrm.out
        cases e3
        obtain ⟨G3, off3, e3, hm3⟩ := hz3 (by omega)
        cases e3
        obtain ⟨g3, q1, _⟩ := hm3 h hhN
        have h3 := World.block_lt_of_cell? _ _ q1
        simp only at h3
        omega
      have Hfar2 := Lib.hid hfar2
      clear hfar2
      have hcls : ∀ y, y ∈ L.getD i [] ↔ Rc (suN ps) h y ∧ Rc (suN ps) y h := Hcc.out.scc i hiL h hhm
      have hba : (L.getD i []).Pairwise (· < ·) := Hcc.out.asc i hiL
      have hbl : ∀ x ∈ L.getD i [], x < N := Hcc.out.lt i hiL
      have hps := preI_succ hiL
      have htk : (L.take (i + 1)).map ni = (L.take i).map ni ++ [ni (L.getD i [])] := by
        rw [List.take_succ_eq_append_getElem hiL, List.map_append, List.getD_eq_getElem?_getD, List.getElem?_eq_getElem hiL]
        rfl
      have hne0 := List.length_pos_iff.mpr (Hcc.out.ne i hiL)
      have hplt := preI_mono L (show i + 1 ≤ L.length by omega)
      rw [Hcc.out.preN, hps, List.length_append] at hplt
      obtain ⟨cc, hcc⟩ : ∃ cc, L.getD i [] = cc := ⟨_, rfl⟩
      rw [hcc] at hcls hba hbl hps htk hplt hne0
      have hfa := filI_all hba hbl
      obtain ⟨pl, hple⟩ : ∃ pl, (preI L i).length = pl := ⟨_, rfl⟩
      rw [hple] at hpl hplt
      have Hok := Lib.hid hok
      have Hleast := Lib.hid hleast
      have Hmat := Lib.hid hmat
      have Hcls := Lib.hid hcls
      have Hfa := Lib.hid hfa
      have Hps := Lib.hid hps
      have Htk := Lib.hid htk
      have Hple := Lib.hid hple
      have hbsl := Hse.out.len
      simp only [hple]
      clear hok hleast hmat hz hcls hba hbl hfa hps htk hcc hhm hh hple
      go_wp2
      go_loopw [9, 10] (fun nx vi W => ∃ v : Nat, v ≤ N ∧ vi = .int .i64 v ∧ Hid (SvP w6 W nx v h)) (fun _ vi _ => N - (intOf vi).toNat)
      case atStart => exact ⟨0, Nat.zero_le _, rfl, Lib.hid ⟨rfl, .inl ⟨rfl, Nat.zero_le _⟩⟩⟩
      case round =>
        obtain ⟨v, hvN, rfl, Hst0⟩ := hrel
        obtain ⟨hW, hst0⟩ := Hst0.out
        have hW2 := hW.symm
        subst hW2
        clear hW Hst0
        rcases hst0 with ⟨rfl, hvh⟩ | ⟨rfl, hvh⟩
        · have hv2 : v < N := by omega
          have c6 := Hrow.out.cell (i := v) (by omega)
          obtain ⟨t, ht⟩ : ∃ t, bs.getD v false = t := ⟨_, rfl⟩
          have hst := Hse.out.at_ v hv2
          rw [ht] at c6 hst
          have Hst := Lib.hid hst
          clear hst ht
          cases t with
          | true =>
            have hne : v ≠ h := fun e => Hok.out.new (e ▸ Hst.out.mp rfl)
            go_wp2
            go_roundw
            case rel => exact ⟨v + 1, hv2, by go_num, Lib.hid ⟨rfl, .inl ⟨rfl, by omega⟩⟩⟩
            case measure => simp [intOf]; omega
          | false =>
            have hnp : v ∉ preI L i := fun e => by have := Hst.out.mpr e; cases this
            have Hnp := Lib.hid hnp
            clear hnp Hst
            go_wp2
            go_loopw [9, 11] (fun nx xi W => ∃ x : Nat, x ≤ N ∧ xi = .int .i64 x ∧ Hid (SxP (suN ps) L i N w6 W nx v x)) (fun _ xi _ => N - (intOf xi).toNat)
            case atStart => exact ⟨0, Nat.zero_le _, rfl, Lib.hid ⟨rfl, .inl ⟨rfl, fun y hy => absurd hy (Nat.not_lt_zero y)⟩⟩⟩
            case round =>
              obtain ⟨x, hxN, rfl, Hsx⟩ := hrel
              obtain ⟨hW, hsx⟩ := Hsx.out
              have hW2 := hW.symm
              subst hW2
              clear hW Hsx
              have Hsx : Hid (SxP (suN ps) L i N w6 w6 u9 v x) := Lib.hid ⟨rfl, hsx⟩
              by_cases hxl : x < N
              · obtain ⟨g1, r1, r2⟩ := Hmat.out v hv2
                obtain ⟨g2, r3, r4⟩ := Hmat.out x hxl
                obtain ⟨b1, r5, e1⟩ := r2 x hxl
                obtain ⟨b3, r6, e3⟩ := r4 v hv2
                have c7 := Hrow.out.cell (i := x) (by omega)
                have e2 := Hse.out.at_ x hxl
                obtain ⟨b2, hb2⟩ : ∃ t, bs.getD x false = t := ⟨_, rfl⟩
                rw [hb2] at c7 e2
                have Hb1 := Lib.hid e1
                have Hb2 := Lib.hid e2
                have Hb3 := Lib.hid e3
                clear r2 r4 hb2 e1 e2 e3 hsx
                have hbad : Hid ((b1 = true ∧ b2 = false ∧ b3 = false) ↔ BadX (suN ps) L i v x) := by
                  show _ ↔ _
                  unfold BadX
                  rw [Hb1.out, ← Hb2.out, ← Hb3.out]
                  cases b2 <;> cases b3 <;> simp
                clear Hb1 Hb2 Hb3
                cases b1 with
                | false =>
                  have Hs2 := Lib.hid (Hsx.out.skip fun hb => by have := (hbad.out.mpr hb).1; cases this)
                  clear hbad
                  go_wp2
                  go_roundw
                  case rel => exact ⟨x + 1, hxl, by go_num, Hs2⟩
                  case measure => simp [intOf]; omega
                | true =>
                  cases b2 with
                  | true =>
                    have Hs2 := Lib.hid (Hsx.out.skip fun hb => by have := (hbad.out.mpr hb).2.1; cases this)
                    clear hbad
                    go_wp2
                    go_roundw
                    case rel => exact ⟨x + 1, hxl, by go_num, Hs2⟩
                    case measure => simp [intOf]; omega
                  | false =>
                    cases b3 with
                    | true =>
                      have Hs2 := Lib.hid (Hsx.out.skip fun hb => by have := (hbad.out.mpr hb).2.2; cases this)
                      clear hbad
                      go_wp2
                      go_roundw
                      case rel => exact ⟨x + 1, hxl, by go_num, Hs2⟩
                      case measure => simp [intOf]; omega
                    | false =>
                      have Hs2 : Hid (SxP (suN ps) L i N w6 w6 (.int .i64 (-1)) v (x + 1)) := Lib.hid ⟨rfl, .inr ⟨rfl, x, hxl, hbad.out.mp ⟨rfl, rfl, rfl⟩⟩⟩
                      clear hbad
                      go_wp2
                      go_roundw
                      case rel => exact ⟨x + 1, hxl, by go_num, Hs2⟩
                      case measure => simp [intOf]; omega
              · obtain rfl : x = N := by omega
                rcases hsx with ⟨rfl, hno⟩ | ⟨rfl, y, hy, hbad⟩
                · have hvo : OkN x (suN ps) L i v := ⟨Hnp.out, fun y hy hr => Classical.byContradiction fun hn => hno y hy ⟨hr, fun e => hn (.inl e), fun e => hn (.inr e)⟩⟩
                  have hvh2 : v = h := by have := Hleast.out v hv2 hvo; omega
                  subst hvh2
                  clear hno hvo Hsx
                  go_wp2
                  go_roundw
                  case rel => exact ⟨v + 1, hv2, by go_num, Lib.hid ⟨rfl, .inr ⟨rfl, rfl⟩⟩⟩
                  case measure => simp [intOf]; omega
                · have hne : v ≠ h := fun e => by
                    subst e
                    rcases Hok.out.all y hy hbad.1 with h1 | h1
                    · exact hbad.2.1 h1
                    · exact hbad.2.2 h1
                  clear hbad Hsx
                  go_wp2
                  go_roundw
                  case rel => exact ⟨v + 1, hv2, by go_num, Lib.hid ⟨rfl, .inl ⟨rfl, by omega⟩⟩⟩
                  case measure => simp [intOf]; omega
        · subst hvh
          have e5 : decide ((h : Int) < 0) = false := by rw [decide_eq_false_iff_not]; omega
          by_cases hhl : h + 1 < N
          · have e6 : decide ((((h + 1 : Nat)) : Int) < (N : Int)) = true := by rw [decide_eq_true_iff]; omega
            go_wp2
            go_loopw [8, 12, 13] (fun nn vl xi W => ∃ (x : Nat) (bs : List Bool) (al : Option Addr) (cl q : Nat), x ≤ N ∧ xi = .int .i64 x ∧ (filI cc x).length = q ∧ nn = .int .i64 (((pl + q : Nat)) : Int) ∧ vl = .slice al q cl ∧ Hid (Own W w6.heap.size (.slice al q cl) (ni (filI cc x))) ∧ Hid (RowB W w3.heap.size w3.heap.size bs) ∧ Hid (SeenN N bs (preI L i ++ filI cc x)) ∧ Hid (NearB w6 W w3.heap.size)) (fun _ _ xi _ => N - (intOf xi).toNat)
            case atStart => exact ⟨0, bs, none, 0, 0, Nat.zero_le _, rfl, rfl, rfl, rfl, Lib.hid (Own.nil _ _), Hrow, by rw [show filI cc 0 = [] from rfl, List.append_nil]; exact Hse, Lib.hid (NearB.refl _ _)⟩
            case round =>
              clear Hrow Hse
              obtain ⟨x, bs, al, cl, q, hxN, rfl, hq, rfl, rfl, Hown, Hrow, Hse, Hnb⟩ := hrel
              have hbsl := Hse.out.len
              have hsz := Hnb.out.size
              have p1 := Hnb.out.cell (p := ⟨w.heap.size, 0, none⟩) (by show w.heap.size ≠ _; omega) p0
              have hql := filI_len cc x
              rw [hq] at hql
              by_cases hxl : x < N
              · have hfs := filI_succ cc x
                obtain ⟨g1, r1, r2⟩ := Hmat.out h hhN
                obtain ⟨g2, r3, r4⟩ := Hmat.out x hxl
                obtain ⟨b1, r5, e1⟩ := r2 x hxl
                obtain ⟨b3, r6, e3⟩ := r4 h hhN
                have hG := hfar
                have hg1 : g1 ≠ w3.heap.size := fun e => Hfar2.out h hhN g1 r1 e
                have hg2 : g2 ≠ w3.heap.size := fun e => Hfar2.out x hxl g2 r3 e
                have t1 := Hnb.out.cell (p := ⟨G, off + h, none⟩) hG r1
                have t3 := Hnb.out.cell (p := ⟨G, off + x, none⟩) hG r3
                have t5 := Hnb.out.cell (p := ⟨g1, x, none⟩) hg1 r5
                have t6 := Hnb.out.cell (p := ⟨g2, h, none⟩) hg2 r6
                have hmem : Hid ((b1 = true ∧ b3 = true) ↔ x ∈ cc) := by
                  show _ ↔ _
                  rw [e1, e3, Hcls.out x]
                clear r1 r2 r3 r4 r5 r6 e1 e3
                have hout : ¬ (b1 = true ∧ b3 = true) → Hid (filI cc (x + 1) = filI cc x) := fun hn => Lib.hid (by rw [hfs, if_neg (fun e => hn (hmem.out.mpr e))])
                have hin : (b1 = true ∧ b3 = true) → Hid (filI cc (x + 1) = filI cc x ++ [x]) := fun hn => Lib.hid (by rw [hfs, if_pos (hmem.out.mp hn)])
                have Hout := Lib.hid hout
                have Hin := Lib.hid hin
                clear hfs hmem hout hin
                cases b1 with
                | false =>
                  have Hf := Hout.out (fun h => by cases h.1)
                  clear Hout Hin
                  go_wp2
                  go_roundw
                  case rel => exact ⟨x + 1, bs, al, cl, q, hxl, by go_num, by rw [Hf.out]; exact hq, rfl, rfl, by rw [Hf.out]; exact Hown, Hrow, by rw [Hf.out]; exact Hse, Hnb⟩
                  case measure => simp [intOf]; omega
                | true =>
                  cases b3 with
                  | false =>
                    have Hf := Hout.out (fun h => by cases h.2)
                    clear Hout Hin
                    go_wp2
                    go_roundw
                    case rel => exact ⟨x + 1, bs, al, cl, q, hxl, by go_num, by rw [Hf.out]; exact hq, rfl, rfl, by rw [Hf.out]; exact Hown, Hrow, by rw [Hf.out]; exact Hse, Hnb⟩
                    case measure => simp [intOf]; omega
                  | true =>
                    have Hf := Hin.out ⟨rfl, rfl⟩
                    clear Hout Hin
                    have hadd : ∀ (g cap : Nat) (w7 : World), Own w7 w6.heap.size (.slice (some ⟨g, 0, none⟩) (q + 1) cap) (ni (filI cc x) ++ [(x : Int)]) → (wr.alloc (Obj.cells #[Value.int .i64 (x : Int)] 3)).grownBy w7 (Value.slice al q cl).ownBlock →
                        (w7.frozen? ⟨w3.heap.size, x, none⟩ = false ∧ ∃ z, w7.cell? ⟨w3.heap.size, x, none⟩ = some z) ∧ Own (w7.setCell ⟨w3.heap.size, x, none⟩ (.bool true)) w6.heap.size (.slice (some ⟨g, 0, none⟩) (q + 1) cap) (ni (filI cc (x + 1))) ∧ RowB (w7.setCell ⟨w3.heap.size, x, none⟩ (.bool true)) w3.heap.size w3.heap.size (bs.set x true) ∧ SeenN N (bs.set x true) (preI L i ++ filI cc (x + 1)) ∧ NearB w6 (w7.setCell ⟨w3.heap.size, x, none⟩ (.bool true)) w3.heap.size := fun g cap w7 ho hg7 => by
                      have hge : ∀ k, (Value.slice al q cl).ownBlock = some k → w6.heap.size ≤ k := fun k hk => (World.ownsRow.lt Hown.out k hk).1
                      have hr7 := (Hrow.out.alloc (Obj.cells #[Value.int .i64 (x : Int)] 3)).kept hg7 (fun e => by have := hge _ e.symm; omega)
                      refine ⟨⟨hr7.free x, _, hr7.cell (i := x) (by omega)⟩, ?_, hr7.set x true, ?_, ((Hnb.out.alloc _).grown hg7 hge).set x _⟩
                      · rw [Hf.out, show ni (filI cc x ++ [x]) = ni (filI cc x) ++ [(x : Int)] from (ni_snoc _ _).symm]
                        exact World.ownsRow.kept ho (grown_setCell w7 w3.heap.size x (.bool true)) (.inr (fun e => by have := (World.ownsRow.lt ho w3.heap.size e).1; omega))
                      · rw [Hf.out, ← List.append_assoc]
                        exact Hse.out.add hxl
                    have Hadd := Lib.hid hadd
                    have hnl : (ni (filI cc x)).length = q := by rw [ni_len]; exact hq
                    have Hnl := Lib.hid hnl
                    have hq2 : (filI cc (x + 1)).length = q + 1 := by rw [Hf.out, List.length_append, hq]; rfl
                    clear hadd hnl
                    go_wp2_with (at_builtin; refine wpList_append_ra rfl _ _ rfl w6.heap.size _ (ni (filI cc x)) rfl (World.ownsRow.alloc Hown.out _) _ (x : Int) rfl (by simp [go_sem]) _ Hnl.out (by omega) (by simp; omega) ?_; intro g cap w7 ho7 hg7 hat7; obtain ⟨⟨f7, z7, c7⟩, hx1, hx2, hx3, hx4⟩ := Hadd.out g cap w7 ho7 hg7; have Hx1 := Lib.hid hx1; have Hx2 := Lib.hid hx2; have Hx3 := Lib.hid hx3; have Hx4 := Lib.hid hx4; clear ho7 hg7 hat7 hx1 hx2 hx3 hx4)
                    go_roundw
                    case rel => exact ⟨x + 1, _, _, _, q + 1, hxl, by go_num, hq2, by go_num, rfl, Hx1, Hx2, Hx3, Hx4⟩
                    case measure => simp [intOf]; omega
              · obtain rfl : x = N := by omega
                rw [Hfa.out] at hq Hown Hse
                have hq0 : 0 < q := by rw [← hq]; exact hne0
                have hro9 := Hro.out.near Hnb.out hs4
                have hlt9 := hro9.len
                have hadd : ∀ (g cap : Nat) (w7 : World), OwnS w7 w4.heap.size (.slice (some ⟨g, 0, none⟩) (i + 1) cap) (vals ++ [.slice al q cl]) → (wr.alloc (Obj.cells #[Value.slice al q cl] 31)).grownBy w7 (Value.slice au i cu).ownBlock →
                    RO w7 w4.heap.size (.slice (some ⟨g, 0, none⟩) (i + 1) cap) (vals ++ [.slice al q cl]) ((L.take (i + 1)).map ni) ∧ RowB w7 w3.heap.size w3.heap.size bs ∧ SeenN x bs (preI L (i + 1)) ∧ Below w3.heap.size w3 w7 ∧ w4.heap.size ≤ w7.heap.size := fun g cap w7 ho hg7 => by
                  have hba : Below wr.heap.size wr (wr.alloc (Obj.cells #[Value.slice al q cl] 31)) := (Below.refl _ _).alloc (Nat.le_refl _) _
                  have hge : ∀ k, (Value.slice au i cu).ownBlock = some k → w4.heap.size ≤ k := fun k hk => (World.ownsRow.lt hro9.own k hk).1
                  refine ⟨?_, (Hrow.out.alloc _).kept hg7 (fun e => by have := hge _ e.symm; omega), by rw [Hps.out]; exact Hse.out, ?_, by have := hg7.size; simp at this; omega⟩
                  · rw [Htk.out]
                    exact (hro9.below hba (Nat.le_refl _)).snoc ho hg7 (World.ownsRow.alloc (Hown.out.mono (by omega)) _)
                  · exact ((Hnb.out.below Hbe.out (Nat.le_refl _) (by omega)).trans (hba.mono (by omega))).grown hg7 (by simp; omega) (fun k hk => by have := hge k hk; omega)
                have Hadd := Lib.hid hadd
                have hvl : vals.length = i := by rw [hlt9, List.length_map, List.length_take]; omega
                have Hro9 := Lib.hid hro9.own
                have hn1 : Hid ((preI L (i + 1)).length = pl + q) := by show _ = _; rw [Hps.out, List.length_append, Hple.out, hq]
                have hLN2 : i ≤ 8192 := by omega
                clear hadd hro9 hlt9 Hro
                go_wp2_with (at_builtin; refine wpList_append_rs rfl _ _ rfl w4.heap.size _ vals rfl (World.ownsRow.alloc Hro9.out _) _ (Value.slice al q cl) rfl rfl (by simp [go_sem]) _ hvl (by omega) (by simp; omega) ?_; intro g cap w7 ho7 hg7 hat7; obtain ⟨hx1, hx2, hx3, hx4, hx5⟩ := Hadd.out g cap w7 ho7 hg7; have Hx1 := Lib.hid hx1; have Hx2 := Lib.hid hx2; have Hx3 := Lib.hid hx3; have Hx4 := Lib.hid hx4; clear ho7 hg7 hat7 hx1 hx2 hx3 hx4)
                go_roundw
                case rel => exact ⟨i + 1, _, _, _, bs, hiL, rfl, by rw [hn1.out]; go_num, Hx1, Hx2, Hx3, Hx4, hx5⟩
                case measure => simp [intOf]; omega
          · have e6 : decide ((((h + 1 : Nat)) : Int) < (N : Int)) = false := by rw [decide_eq_false_iff_not]; omega
            go_wp2
            go_loopw [8, 12, 13] (fun nn vl xi W => ∃ (x : Nat) (bs : List Bool) (al : Option Addr) (cl q : Nat), x ≤ N ∧ xi = .int .i64 x ∧ (filI cc x).length = q ∧ nn = .int .i64 (((pl + q : Nat)) : Int) ∧ vl = .slice al q cl ∧ Hid (Own W w6.heap.size (.slice al q cl) (ni (filI cc x))) ∧ Hid (RowB W w3.heap.size w3.heap.size bs) ∧ Hid (SeenN N bs (preI L i ++ filI cc x)) ∧ Hid (NearB w6 W w3.heap.size)) (fun _ _ xi _ => N - (intOf xi).toNat)
            case atStart => exact ⟨0, bs, none, 0, 0, Nat.zero_le _, rfl, rfl, rfl, rfl, Lib.hid (Own.nil _ _), Hrow, by rw [show filI cc 0 = [] from rfl, List.append_nil]; exact Hse, Lib.hid (NearB.refl _ _)⟩
            case round =>
              clear Hrow Hse
              obtain ⟨x, bs, al, cl, q, hxN, rfl, hq, rfl, rfl, Hown, Hrow, Hse, Hnb⟩ := hrel
              have hbsl := Hse.out.len
              have hsz := Hnb.out.size
              have p1 := Hnb.out.cell (p := ⟨w.heap.size, 0, none⟩) (by show w.heap.size ≠ _; omega) p0
              have hql := filI_len cc x
              rw [hq] at hql
              by_cases hxl : x < N
              · have hfs := filI_succ cc x
                obtain ⟨g1, r1, r2⟩ := Hmat.out h hhN
                obtain ⟨g2, r3, r4⟩ := Hmat.out x hxl
                obtain ⟨b1, r5, e1⟩ := r2 x hxl
                obtain ⟨b3, r6, e3⟩ := r4 h hhN
                have hG := hfar
                have hg1 : g1 ≠ w3.heap.size := fun e => Hfar2.out h hhN g1 r1 e
                have hg2 : g2 ≠ w3.heap.size := fun e => Hfar2.out x hxl g2 r3 e
                have t1 := Hnb.out.cell (p := ⟨G, off + h, none⟩) hG r1
                have t3 := Hnb.out.cell (p := ⟨G, off + x, none⟩) hG r3
                have t5 := Hnb.out.cell (p := ⟨g1, x, none⟩) hg1 r5
                have t6 := Hnb.out.cell (p := ⟨g2, h, none⟩) hg2 r6
                have hmem : Hid ((b1 = true ∧ b3 = true) ↔ x ∈ cc) := by
                  show _ ↔ _
                  rw [e1, e3, Hcls.out x]
                clear r1 r2 r3 r4 r5 r6 e1 e3
                have hout : ¬ (b1 = true ∧ b3 = true) → Hid (filI cc (x + 1) = filI cc x) := fun hn => Lib.hid (by rw [hfs, if_neg (fun e => hn (hmem.out.mpr e))])
                have hin : (b1 = true ∧ b3 = true) → Hid (filI cc (x + 1) = filI cc x ++ [x]) := fun hn => Lib.hid (by rw [hfs, if_pos (hmem.out.mp hn)])
                have Hout := Lib.hid hout
                have Hin := Lib.hid hin
                clear hfs hmem hout hin
                cases b1 with
                | false =>
                  have Hf := Hout.out (fun h => by cases h.1)
                  clear Hout Hin
                  go_wp2
                  go_roundw
                  case rel => exact ⟨x + 1, bs, al, cl, q, hxl, by go_num, by rw [Hf.out]; exact hq, rfl, rfl, by rw [Hf.out]; exact Hown, Hrow, by rw [Hf.out]; exact Hse, Hnb⟩
                  case measure => simp [intOf]; omega
                | true =>
                  cases b3 with
                  | false =>
                    have Hf := Hout.out (fun h => by cases h.2)
                    clear Hout Hin
                    go_wp2
                    go_roundw
                    case rel => exact ⟨x + 1, bs, al, cl, q, hxl, by go_num, by rw [Hf.out]; exact hq, rfl, rfl, by rw [Hf.out]; exact Hown, Hrow, by rw [Hf.out]; exact Hse, Hnb⟩
                    case measure => simp [intOf]; omega
                  | true =>
                    have Hf := Hin.out ⟨rfl, rfl⟩
                    clear Hout Hin
                    have hadd : ∀ (g cap : Nat) (w7 : World), Own w7 w6.heap.size (.slice (some ⟨g, 0, none⟩) (q + 1) cap) (ni (filI cc x) ++ [(x : Int)]) → (wr.alloc (Obj.cells #[Value.int .i64 (x : Int)] 3)).grownBy w7 (Value.slice al q cl).ownBlock →
                        (w7.frozen? ⟨w3.heap.size, x, none⟩ = false ∧ ∃ z, w7.cell? ⟨w3.heap.size, x, none⟩ = some z) ∧ Own (w7.setCell ⟨w3.heap.size, x, none⟩ (.bool true)) w6.heap.size (.slice (some ⟨g, 0, none⟩) (q + 1) cap) (ni (filI cc (x + 1))) ∧ RowB (w7.setCell ⟨w3.heap.size, x, none⟩ (.bool true)) w3.heap.size w3.heap.size (bs.set x true) ∧ SeenN N (bs.set x true) (preI L i ++ filI cc (x + 1)) ∧ NearB w6 (w7.setCell ⟨w3.heap.size, x, none⟩ (.bool true)) w3.heap.size := fun g cap w7 ho hg7 => by
                      have hge : ∀ k, (Value.slice al q cl).ownBlock = some k → w6.heap.size ≤ k := fun k hk => (World.ownsRow.lt Hown.out k hk).1
                      have hr7 := (Hrow.out.alloc (Obj.cells #[Value.int .i64 (x : Int)] 3)).kept hg7 (fun e => by have := hge _ e.symm; omega)
                      refine ⟨⟨hr7.free x, _, hr7.cell (i := x) (by omega)⟩, ?_, hr7.set x true, ?_, ((Hnb.out.alloc _).grown hg7 hge).set x _⟩
                      · rw [Hf.out, show ni (filI cc x ++ [x]) = ni (filI cc x) ++ [(x : Int)] from (ni_snoc _ _).symm]
                        exact World.ownsRow.kept ho (grown_setCell w7 w3.heap.size x (.bool true)) (.inr (fun e => by have := (World.ownsRow.lt ho w3.heap.size e).1; omega))
                      · rw [Hf.out, ← List.append_assoc]
                        exact Hse.out.add hxl
                    have Hadd := Lib.hid hadd
                    have hnl : (ni (filI cc x)).length = q := by rw [ni_len]; exact hq
                    have Hnl := Lib.hid hnl
                    have hq2 : (filI cc (x + 1)).length = q + 1 := by rw [Hf.out, List.length_append, hq]; rfl
                    clear hadd hnl
                    go_wp2_with (at_builtin; refine wpList_append_ra rfl _ _ rfl w6.heap.size _ (ni (filI cc x)) rfl (World.ownsRow.alloc Hown.out _) _ (x : Int) rfl (by simp [go_sem]) _ Hnl.out (by omega) (by simp; omega) ?_; intro g cap w7 ho7 hg7 hat7; obtain ⟨⟨f7, z7, c7⟩, hx1, hx2, hx3, hx4⟩ := Hadd.out g cap w7 ho7 hg7; have Hx1 := Lib.hid hx1; have Hx2 := Lib.hid hx2; have Hx3 := Lib.hid hx3; have Hx4 := Lib.hid hx4; clear ho7 hg7 hat7 hx1 hx2 hx3 hx4)
                    go_roundw
                    case rel => exact ⟨x + 1, _, _, _, q + 1, hxl, by go_num, hq2, by go_num, rfl, Hx1, Hx2, Hx3, Hx4⟩
                    case measure => simp [intOf]; omega
              · obtain rfl : x = N := by omega
                rw [Hfa.out] at hq Hown Hse
                have hq0 : 0 < q := by rw [← hq]; exact hne0
                have hro9 := Hro.out.near Hnb.out hs4
                have hlt9 := hro9.len
                have hadd : ∀ (g cap : Nat) (w7 : World), OwnS w7 w4.heap.size (.slice (some ⟨g, 0, none⟩) (i + 1) cap) (vals ++ [.slice al q cl]) → (wr.alloc (Obj.cells #[Value.slice al q cl] 31)).grownBy w7 (Value.slice au i cu).ownBlock →
                    RO w7 w4.heap.size (.slice (some ⟨g, 0, none⟩) (i + 1) cap) (vals ++ [.slice al q cl]) ((L.take (i + 1)).map ni) ∧ RowB w7 w3.heap.size w3.heap.size bs ∧ SeenN x bs (preI L (i + 1)) ∧ Below w3.heap.size w3 w7 ∧ w4.heap.size ≤ w7.heap.size := fun g cap w7 ho hg7 => by
                  have hba : Below wr.heap.size wr (wr.alloc (Obj.cells #[Value.slice al q cl] 31)) := (Below.refl _ _).alloc (Nat.le_refl _) _
                  have hge : ∀ k, (Value.slice au i cu).ownBlock = some k → w4.heap.size ≤ k := fun k hk => (World.ownsRow.lt hro9.own k hk).1
                  refine ⟨?_, (Hrow.out.alloc _).kept hg7 (fun e => by have := hge _ e.symm; omega), by rw [Hps.out]; exact Hse.out, ?_, by have := hg7.size; simp at this; omega⟩
                  · rw [Htk.out]
                    exact (hro9.below hba (Nat.le_refl _)).snoc ho hg7 (World.ownsRow.alloc (Hown.out.mono (by omega)) _)
                  · exact ((Hnb.out.below Hbe.out (Nat.le_refl _) (by omega)).trans (hba.mono (by omega))).grown hg7 (by simp; omega) (fun k hk => by have := hge k hk; omega)
                have Hadd := Lib.hid hadd
                have hvl : vals.length = i := by rw [hlt9, List.length_map, List.length_take]; omega
                have Hro9 := Lib.hid hro9.own
                have hn1 : Hid ((preI L (i + 1)).length = pl + q) := by show _ = _; rw [Hps.out, List.length_append, Hple.out, hq]
                have hLN2 : i ≤ 8192 := by omega
                clear hadd hro9 hlt9 Hro
                go_wp2_with (at_builtin; refine wpList_append_rs rfl _ _ rfl w4.heap.size _ vals rfl (World.ownsRow.alloc Hro9.out _) _ (Value.slice al q cl) rfl rfl (by simp [go_sem]) _ hvl (by omega) (by simp; omega) ?_; intro g cap w7 ho7 hg7 hat7; obtain ⟨hx1, hx2, hx3, hx4, hx5⟩ := Hadd.out g cap w7 ho7 hg7; have Hx1 := Lib.hid hx1; have Hx2 := Lib.hid hx2; have Hx3 := Lib.hid hx3; have Hx4 := Lib.hid hx4; clear ho7 hg7 hat7 hx1 hx2 hx3 hx4)
                go_roundw
                case rel => exact ⟨i + 1, _, _, _, bs, hiL, rfl, by rw [hn1.out]; go_num, Hx1, Hx2, Hx3, Hx4, hx5⟩
                case measure => simp [intOf]; omega
    · obtain rfl : i = L.length := by omega
      have hpn := Hcc.out.preN
      rw [hpn]
      have hrl := Hro.out.rl
      rw [List.take_length] at hrl
      have Hrl := Lib.hid hrl
      have HBf := Lib.hid (HB3.out.trans (Hbe.out.mono (by omega)))
      clear Hro hrl hpn
      go_wp2
      go_ret2
      exact ⟨_, rfl, Hrl.out, HBf.out⟩
end Go.Proofs.Ytopbbihbpalnlaa

namespace Go.Proofs.Ytopbbihbpalnlaa
open Go.RowKit Go.Shelf
set_option linter.unusedVariables false
set_option maxHeartbeats 2000000 in
set_option maxRecDepth 100000 in
theorem rcomps_at (N : Int) (a : Option Addr) (n c : Nat) (ps : List (Int × Int)) (hl : ps.length = n) (hn : n ≤ maxLen) (w : World) (hE : Pairs w a ps) (k : Int) (hk : gchk N ps = k) (L : List (List Nat)) (hC : CL N ps L) :
    Calls Try.prog 12 #[.agg #[.int .i64 N, .slice a n c]] w fun e w' => Below w.heap.size w w' ∧ ∃ m a1 c1, L.length = m ∧ e = .returned (.tuple #[.slice a1 m c1, .int .i64 k]) ∧ RL w' (.slice a1 m c1) (L.map ni) := by
  by_cases hk0 : k = 0
  · subst hk0
    have hg := gchk_ok hk
    obtain ⟨N, rfl⟩ : ∃ m : Nat, N = (m : Int) := ⟨N.toNat, by have := hg.lo; omega⟩
    have hcc := hC.good hk
    rw [Int.toNat_natCast] at hcc
    refine (rcomps_good N a n c ps hl hn w hE hk L hcc).mono ?_
    rintro e w' ⟨u, he, hR, hb⟩
    obtain ⟨a1, c1, rfl, hz⟩ := id hR
    rw [List.length_map] at hR he
    exact ⟨hb, L.length, a1, c1, rfl, he, hR⟩
  · have e0 : (k != 0) = true := by rw [bne_iff_ne]; exact hk0
    have hL := hC.bad (by rw [hk]; exact hk0)
    have hb0 := (Below.refl w.heap.size w).alloc (Nat.le_refl _) (Obj.cells #[Value.int .i64 N, Value.slice a n c] 24)
    have hrc := rcheck_any N a c ps _ (by rw [hl]; exact hn) (hE.below hb0 (Nat.le_refl _))
    rw [hl, hk] at hrc
    have Hrc := Lib.hid hrc
    have Hb0 := Lib.hid hb0
    clear hrc hb0 hE hl hk hC
    subst hL
    go_enter Try.func12, Try.ntmps12
    go_wp2_with fail
    refine Hrc.out.mono ?_
    rintro e w1 ⟨rfl, hb1⟩
    have Hb1 := Lib.hid (Hb0.out.trans (hb1.mono (by simp)))
    clear hb1
    go_wp2
    go_ret2
    exact ⟨Hb1.out, 0, none, 0, rfl, rfl, ⟨none, 0, rfl, fun h => absurd h (by simp)⟩⟩
set_option maxHeartbeats 4000000 in
set_option maxRecDepth 100000 in
theorem rof_at (N : Int) (a : Option Addr) (n c : Nat) (ps : List (Int × Int)) (hl : ps.length = n) (hn : n ≤ maxLen) (w : World) (hE : Pairs w a ps) (k : Int) (hk : gchk N ps = k) (L : List (List Nat)) (hC : CL N ps L) (m : Nat) (hm : (ofL N ps L).length = m) :
    Calls Try.prog 14 #[.agg #[.int .i64 N, .slice a n c]] w fun e w' => ∃ b d, e = .returned (.tuple #[.slice b m d, .int .i64 k]) ∧ Ints w' b (ofL N ps L) ∧ Below w.heap.size w w' := by
  obtain ⟨i0, hi, hz0, hz1, hz2⟩ := info_parts int_info
  obtain ⟨w1, hw1⟩ : ∃ w1, w.alloc (Obj.cells #[Value.int .i64 N, Value.slice a n c] 24) = w1 := ⟨_, rfl⟩
  have hs1 : w.heap.size < w1.heap.size := by rw [← hw1]; simp
  have g0 : w1.cell? ⟨w.heap.size, 0, none⟩ = some (.int .i64 N) := by rw [← hw1]; simp [go_sem]
  have g1 : w1.cell? ⟨w.heap.size, 1, none⟩ = some (.slice a n c) := by rw [← hw1]; simp [go_sem]
  have HB1 : Hid (Below w.heap.size w w1) := by show Below _ _ _; rw [← hw1]; exact (Below.refl w.heap.size w).alloc (Nat.le_refl _) _
  have hco := rcomps_at N a n c ps hl hn w1 (hE.below HB1.out (Nat.le_refl _)) k hk L hC
  have Hco := Lib.hid hco
  have Hk := Lib.hid hk
  have Hw1 := Lib.hid hw1
  clear hl hE hw1 hco
  go_enter Try.func14, Try.ntmps14
  go_wp2_with fail
  rw [Hw1.out]
  refine Hco.out.mono ?_
  rintro e w2 ⟨hb2, q, a1, c1, hq, rfl, hR⟩
  have k0 := (hb2.cell (p := ⟨w.heap.size, 0, none⟩) hs1).trans g0
  have HB2 := Lib.hid (HB1.out.trans (hb2.mono (Nat.le_of_lt hs1)))
  have hs2 := hb2.size
  by_cases hk0 : k = 0
  rotate_left
  · have e0 : (k != 0) = true := by rw [bne_iff_ne]; exact hk0
    have hof : ofL N ps L = [] := by unfold ofL; rw [if_neg (by rw [hk]; exact hk0)]
    rw [hof] at hm
    have hm0 : m = 0 := by rw [← hm]; rfl
    subst hm0
    have Hof := Lib.hid hof
    clear hb2 hR hq hof hm hC hk Hk Hco
    go_wp2
    go_ret2
    exact ⟨none, 0, rfl, by rw [Hof.out]; exact fun h => absurd h (by simp), HB2.out⟩
  have hg := gchk_ok (show gchk N ps = 0 by rw [hk]; exact hk0)
  obtain ⟨N, rfl⟩ : ∃ m : Nat, N = (m : Int) := ⟨N.toNat, by have := hg.lo; omega⟩
  have hN8 : N ≤ 8192 := by have := hg.hi; omega
  have hcc := hC.good (by rw [hk]; exact hk0)
  rw [Int.toNat_natCast] at hcc
  have hof : ofL (N : Int) ps L = idxTo N (L.map ni) L.length := by unfold ofL; rw [if_pos (by rw [hk]; exact hk0), Int.toNat_natCast]
  have hmN : m = N := by rw [← hm, hof, idxTo_len]
  subst hmN
  have hq8 : q ≤ 8192 := by have := hcc.count; omega
  have e0 : (k != 0) = false := by rw [hk0]; rfl
  have HR := Lib.hid hR
  have Hcc := Lib.hid hcc
  have Hof := Lib.hid hof
  have Hq := Lib.hid hq
  clear hb2 hR hcc hof hq hg hC hk Hk Hco g0 g1 hm
  subst hk0
  go_wp2_with (at_make; refine wpList_make_full _ rfl _ _ 31 rfl w2.heap.size 3 i0 (.int .i64 0) 1 Try.underlying31 hi hz0 hz1 _ _ _ _ m rfl rfl rfl rfl ?c1 ?c2 ?c3 ?_)
  case c1 => rw [hz2]; omega
  case c2 => unfold maxLen; omega
  case c3 => exact Nat.le_refl _
  intro w3 hown hg3
  have hrep : (madeCells #[Value.int .i64 0] m).toList = (idxTo m (L.map ni) 0).map (Value.int .i64) := by rw [toList_madeCells_one]; simp [idxTo]
  have hR0 : Row w3 w2.heap.size w2.heap.size m (idxTo m (L.map ni) 0) := by
    unfold Row
    rw [← hrep, idxTo_len]
    exact hown
  have hb3 : Below w2.heap.size w2 w3 := (Below.refl _ _).grown hg3 (Nat.le_refl _) (fun k hk => by cases hk)
  have HRw := Lib.hid hR0
  have HB3 := Lib.hid hb3
  clear hown hrep hR0 hb3 hg3
  go_wp2
  go_loopw [7] (fun x W => ∃ i : Nat, x = .int .i64 i ∧ i ≤ q ∧ Hid (Row W w2.heap.size w2.heap.size m (idxTo m (L.map ni) i)) ∧ Hid (Below w2.heap.size w2 W)) (fun x _ => q - (intOf x).toNat)
  case atStart => exact ⟨0, rfl, Nat.zero_le _, HRw, HB3⟩
  case round =>
    obtain ⟨i, rfl, hiq, hrow, hbw⟩ := hrel
    by_cases hlt : i < q
    · have hiL : i < L.length := by rw [Hq.out]; exact hlt
      obtain ⟨a2, c2, e2, hz⟩ := HR.out
      injection e2 with e3 _ _
      obtain ⟨G, off, e4, hx⟩ := hz (by rw [List.length_map]; omega)
      rw [e4] at e3
      subst e3
      obtain ⟨ai, ci, q1, q2⟩ := hx i (by rw [List.length_map]; exact hiL)
      have hsu := idxTo_succ m (L.map ni) i
      rw [map_ni_at] at q1 q2 hsu
      rw [ni_len] at q1 hsu
      have hcb := Hcc.out.lt i hiL
      have hcl := nodupLe (Hcc.out.nd hiL) hcb
      obtain ⟨cc, hcc⟩ : ∃ cc, L.getD i [] = cc := ⟨_, rfl⟩
      rw [hcc] at q1 q2 hsu hcb hcl
      obtain ⟨t, ht⟩ : ∃ t, cc.length = t := ⟨_, rfl⟩
      rw [ht] at q1 hsu hcl
      have Ht := Lib.hid ht
      have Hsu := Lib.hid hsu
      have Hq2 := Lib.hid q2
      have Hcb := Lib.hid hcb
      have hstart : Hid (Row wr w2.heap.size w2.heap.size m (rowTo (idxTo m (L.map ni) i) (ni cc) i 0)) := hrow.out
      clear hz hx e4 hcc ht hsu q2 hcb hrow
      go_wp2
      go_loopw [8] (fun x W => ∃ j : Nat, x = .int .i64 j ∧ j ≤ t ∧ Hid (Row W w2.heap.size w2.heap.size m (rowTo (idxTo m (L.map ni) i) (ni cc) i j)) ∧ Hid (Below w2.heap.size w2 W)) (fun x _ => t - (intOf x).toNat)
      case atStart => exact ⟨0, rfl, Nat.zero_le _, hstart, hbw⟩
      case round =>
        clear hstart hbw
        obtain ⟨j, rfl, hjt, hrow, hbw⟩ := hrel
        have r1 := (hbw.out.cell (p := ⟨G, off + i, none⟩) (World.block_lt_of_cell? _ _ q1)).trans q1
        by_cases hjl : j < t
        · have hjc : j < (ni cc).length := by rw [ni_len, Ht.out]; exact hjl
          obtain ⟨b2, o2, rfl, hy⟩ := (Hq2.out.below hbw.out (Nat.le_refl _)) (by rw [ni_len, Ht.out]; omega)
          have r2 := hy j hjc
          have hrs := rowTo_succ (idxTo m (L.map ni) i) (ni cc) i j hjc
          rw [ni_at] at r2 hrs
          have hvm : cc.getD j 0 ∈ cc := by rw [List.getD_eq_getElem?_getD, List.getElem?_eq_getElem (by rw [Ht.out]; exact hjl)]; exact List.getElem_mem _
          have hvN := Hcb.out _ hvm
          obtain ⟨v, hv⟩ : ∃ v, cc.getD j 0 = v := ⟨_, rfl⟩
          rw [hv] at r2 hrs hvN
          rw [Int.toNat_natCast] at hrs
          have c5 := hrow.out.cell (i := v) (by rw [rowTo_len, idxTo_len]; exact hvN)
          have f5 := hrow.out.free v
          have hnew := hrow.out.set v (i : Int)
          rw [← hrs] at hnew
          have Hnew := Lib.hid hnew
          have hb9 : Hid (Below w2.heap.size w2 (wr.setCell ⟨w2.heap.size, v, none⟩ (.int .i64 (i : Int)))) := hbw.out.setCell (p := ⟨w2.heap.size, v, none⟩) (Nat.le_refl _) _
          obtain ⟨z, hz⟩ : ∃ z, (rowTo (idxTo m (L.map ni) i) (ni cc) i j).getD v 0 = z := ⟨_, rfl⟩
          rw [hz] at c5
          clear hnew hy hvm hrs hz hv hrow
          go_wp2
          go_roundw
          case rel => exact ⟨j + 1, by go_num, hjl, Hnew, hb9⟩
          case measure => simp [intOf]; omega
        · obtain rfl : j = t := by omega
          go_wp2
          go_roundw
          case rel => exact ⟨i + 1, by go_num, hlt, by rw [Hsu.out]; exact hrow, hbw⟩
          case measure => simp [intOf]; omega
    · obtain rfl : i = q := by omega
      have hend : Hid (Ints wr (some ⟨w2.heap.size, 0, none⟩) (ofL (m : Int) ps L)) := by
        show Ints _ _ _
        rw [Hof.out, Hq.out]
        exact hrow.out.ints
      have HBf := Lib.hid (HB2.out.trans (hbw.out.mono (by omega)))
      clear hrow
      go_wp2
      go_ret2
      exact ⟨_, _, rfl, hend.out, HBf.out⟩
end Go.Proofs.Ytopbbihbpalnlaa

namespace Go.Proofs.Ytopbbihbpalnlaa
open Go.RowKit Go.Shelf
set_option linter.unusedVariables false
/-- 'out = append(out, row...)'. -/
theorem wpList_append_ri {w : World} {ops : Array Oper} {rest : List Oper} {o : Oper} {a : Act} {Q : Exit → Act → World → Prop} (hg : o.guard = none) (s x : Operand)
    (hop : o.op = .call { callee := .builtin .append, args := #[s, x], argTypes := #[31, 31] }) (base : Nat) (v : Value) (zs : List Int) (hs : a.eval s = v) (hown : Own w base v zs)
    (b off q c : Nat) (ys : List Int) (hx : a.eval x = .slice (some ⟨b, off, none⟩) q c) (hc : Ints w (some ⟨b, off, none⟩) ys) (hy : ys.length = q) (hq : 0 < q) (hq2 : q ≤ 100000) (n : Nat) (hn : zs.length = n) (hlen : n ≤ 100000) (hbase : base ≤ w.heap.size)
    (hK : ∀ g cap w', Own w' base (.slice (some ⟨g, 0, none⟩) (n + q) cap) (zs ++ ys) → w.grownBy w' v.ownBlock → wpList Try.prog ops Q rest (a.put o.dst (.slice (some ⟨g, 0, none⟩) (n + q) cap)) w') : wpList Try.prog ops Q (o :: rest) a w := by
  subst hn
  subst hy
  obtain ⟨i0, hi, hz0, hz1, hz2⟩ := info_parts int_info
  obtain ⟨b', off', e, hcell⟩ := hc hq
  cases e
  refine wpList_append_lies w hg s x 31 hop base 3 i0 (.int .i64 0) 1 8 Try.underlying31 hi hz0 hz1 hz2 rfl (by decide) v zs.length (zs.map (.int .i64)) hs hown ⟨b, off, none⟩ ys.length c (ys.map (.int .i64)) hx (by simp) ?_ ?_ hq ?_ (by omega) hbase _ rfl ?_
  · intro j u hj
    rw [List.getElem?_map] at hj
    by_cases h : j < ys.length
    · rw [List.getElem?_eq_getElem h] at hj
      simp only [Option.map_some, Option.some.injEq] at hj
      subst hj
      have h4 := hcell j h
      rw [List.getD_eq_getElem?_getD, List.getElem?_eq_getElem h, Option.getD_some] at h4
      rw [Addr.add_lit]
      exact h4
    · rw [List.getElem?_eq_none (by omega)] at hj; cases hj
  · intro u hu
    obtain ⟨z, _, rfl⟩ := List.mem_map.mp hu
    rfl
  · unfold maxLen; omega
  · intro g cap w' h1 h2 h3 _
    refine hK g cap w' ?_ h2
    unfold Own
    rw [List.length_append, List.map_append]
    exact h1
/-- What the loops over the lists need. -/
structure LB (L : List (List Nat)) : Prop where
  ne : ∀ i, i < L.length → 0 < (L.getD i []).length
  le : ∀ i, (preI L i).length ≤ 8192
  cnt : L.length ≤ 8192
theorem LB.row {L : List (List Nat)} (h : LB L) {i : Nat} (hi : i < L.length) : (L.getD i []).length ≤ 8192 := by
  have := h.le (i + 1)
  rw [preI_succ hi, List.length_append] at this
  omega
theorem CL.lb {N : Int} {ps : List (Int × Int)} {L : List (List Nat)} (h : CL N ps L) : LB L := by
  by_cases hk : gchk N ps = 0
  · have hcc := h.good hk
    have hN := (gchk_ok hk).hi
    have h0 := (gchk_ok hk).lo
    refine ⟨fun i hi => List.length_pos_iff.mpr (hcc.ne i hi), fun i => ?_, by have := hcc.count; omega⟩
    have h1 : (preI L i).length ≤ (preI L L.length).length := by
      by_cases e : i ≤ L.length
      · exact preI_mono L e
      · unfold preI
        rw [List.take_of_length_le (by omega), List.take_length]
        exact Nat.le_refl _
    rw [hcc.preN] at h1
    omega
  · have := h.bad hk
    subst this
    exact ⟨fun i hi => absurd hi (Nat.not_lt_zero i), fun i => by simp [preI], by simp⟩
set_option maxHeartbeats 4000000 in
set_option maxRecDepth 100000 in
theorem rbot_at (N : Int) (a : Option Addr) (n c : Nat) (ps : List (Int × Int)) (hl : ps.length = n) (hn : n ≤ maxLen) (w : World) (hE : Pairs w a ps) (k : Int) (hk : gchk N ps = k) (L : List (List Nat)) (hC : CL N ps L) (m : Nat) (hm : (ni (preI L L.length)).length = m) :
    Calls Try.prog 16 #[.agg #[.int .i64 N, .slice a n c]] w fun e w' => ∃ b d, e = .returned (.tuple #[.slice b m d, .int .i64 k]) ∧ Ints w' b (ni (preI L L.length)) ∧ Below w.heap.size w w' := by
  have HB1 := Lib.hid ((Below.refl w.heap.size w).alloc (Nat.le_refl _) (Obj.cells #[Value.int .i64 N, Value.slice a n c] 24))
  have hco := rcomps_at N a n c ps hl hn _ (hE.below HB1.out (Nat.le_refl _)) k hk L hC
  have Hco := Lib.hid hco
  have hlb := hC.lb
  have Hlb := Lib.hid hlb
  have Hm := Lib.hid hm
  clear hl hE hk hco hC hlb hm
  go_enter Try.func16, Try.ntmps16
  go_wp2_with fail
  refine Hco.out.mono ?_
  rintro e w2 ⟨hb2, q, a1, c1, hq, rfl, hR⟩
  have hs2 := hb2.size
  have HB2 := Lib.hid (HB1.out.trans (hb2.mono (by simp)))
  have hq8 : q ≤ 8192 := by rw [← hq]; exact Hlb.out.cnt
  have HR := Lib.hid hR
  have Hq := Lib.hid hq
  clear hb2 hR hq Hco
  go_wp2
  go_loopw [6, 7] (fun vo x W => ∃ (i p : Nat) (ab : Option Addr) (cb : Nat), x = .int .i64 i ∧ i ≤ q ∧ Hid ((ni (preI L i)).length = p) ∧ vo = .slice ab p cb ∧ Hid (Own W w2.heap.size (.slice ab p cb) (ni (preI L i))) ∧ Hid (Below w2.heap.size w2 W)) (fun _ x _ => q - (intOf x).toNat)
  case atStart => exact ⟨0, 0, none, 0, rfl, Nat.zero_le _, Lib.hid rfl, rfl, Lib.hid (Own.nil _ _), Lib.hid (Below.refl _ _)⟩
  case round =>
    obtain ⟨i, p, ab, cb, rfl, hiq, Hp, rfl, Hown, hbw⟩ := hrel
    have hp := Hp.out
    clear Hp
    have hsz := hbw.out.size
    by_cases hlt : i < q
    · have hiL : i < L.length := by rw [Hq.out]; exact hlt
      obtain ⟨a2, c2, e2, hz⟩ := HR.out.below hbw.out (Nat.le_refl _)
      injection e2 with e3 e5 e6
      clear e5 e6
      obtain ⟨G, off, e4, hx⟩ := hz (by rw [List.length_map]; omega)
      rw [e4] at e3
      subst e3
      obtain ⟨ai, ci, q1, q2⟩ := hx i (by rw [List.length_map]; exact hiL)
      rw [map_ni_at] at q1 q2
      rw [ni_len] at q1
      have hne := Hlb.out.ne i hiL
      have hle := Hlb.out.row hiL
      have hpl := Hlb.out.le i
      have hps := preI_succ hiL
      obtain ⟨cc, hcc⟩ : ∃ cc, L.getD i [] = cc := ⟨_, rfl⟩
      rw [hcc] at q1 q2 hne hle hps
      obtain ⟨b2, o2, rfl, hy⟩ := id q2 (by rw [ni_len]; exact hne)
      obtain ⟨t, ht⟩ : ∃ t, (ni cc).length = t := ⟨_, rfl⟩
      have ht2 : cc.length = t := by rw [← ht, ni_len]
      rw [ht2] at q1 hne hle
      rw [ni_len] at hp
      rw [hp] at hpl
      have hp2 : (ni (preI L i)).length = p := by rw [ni_len]; exact hp
      have hps2 : ni (preI L (i + 1)) = ni (preI L i) ++ ni cc := by rw [hps]; unfold ni; rw [List.map_append]
      have hlen2 : (ni (preI L (i + 1))).length = p + t := by rw [hps2, List.length_append, hp2, ht]
      have Hps2 := Lib.hid hps2
      have Hq2 := Lib.hid q2
      have Ht := Lib.hid ht
      have Hp2 := Lib.hid hp2
      have Hlen2 := Lib.hid hlen2
      clear hz hx e4 hy hps hcc ht ht2 hp hp2 hps2 q2 hlen2
      go_wp2_with (at_builtin; refine wpList_append_ri rfl _ _ rfl w2.heap.size _ (ni (preI L i)) rfl Hown.out b2 o2 t _ (ni cc) rfl Hq2.out Ht.out hne (by omega) _ Hp2.out (by omega) hsz ?_; intro g cap w7 ho7 hg7; have Hb7 := Lib.hid (hbw.out.grown hg7 hsz (fun k hk => (World.ownsRow.lt Hown.out k hk).1)); rw [← Hps2.out] at ho7; have Ho7 := Lib.hid ho7; clear ho7 hg7)
      go_roundw
      case rel => exact ⟨i + 1, p + t, _, _, by go_num, hlt, Hlen2, rfl, Ho7, Hb7⟩
      case measure => simp [intOf]; omega
    · obtain rfl : i = q := by omega
      have hpm : p = m := by rw [← hp, ← Hm.out, Hq.out]
      subst hpm
      have hend : Hid (Ints wr ab (ni (preI L L.length))) := by
        show Ints _ _ _
        rw [Hq.out]
        obtain ⟨a9, c9, e9, h9⟩ := Hown.out.shape
        cases e9
        exact h9
      have HBf := Lib.hid (HB2.out.trans (hbw.out.mono (by simp at hs2; omega)))
      clear Hown hp
      go_wp2
      go_ret2
      exact ⟨ab, cb, rfl, hend.out, HBf.out⟩
end Go.Proofs.Ytopbbihbpalnlaa

namespace Go.Proofs.Ytopbbihbpalnlaa
open Go.RowKit Go.Shelf
set_option linter.unusedVariables false
set_option maxHeartbeats 2000000 in
set_option maxRecDepth 100000 in
theorem grow_nil (z : Nat) (hz : z ≤ 100000) (w : World) : Calls Try.prog 53 #[.slice none 0 0, .int .i64 (z : Int)] w fun e w' => ∃ a c, e = .returned (.slice a 0 c) ∧ Own w' w.heap.size (.slice a 0 c) [] ∧ Below w.heap.size w w' := by
  obtain ⟨i0, hi, hz0, hz1, hz2⟩ := info_parts int_info
  by_cases h0 : z = 0
  · subst h0
    go_enter Try.func53, Try.ntmps53
    go_wp2
    go_ret
    exact ⟨none, 0, rfl, Own.nil _ _, Below.refl _ _⟩
  · have e1 : decide ((0 : Int) < (z : Int)) = true := by rw [decide_eq_true_iff]; omega
    have e2 : decide (0 < z) = true := by rw [decide_eq_true_iff]; omega
    go_enter Try.func53, Try.ntmps53
    have hrun := Lib.run_append_nil_zeros (P := Try.prog) w 31 3 31 3 i0 (.int .i64 0) .i64 .i64 Try.underlying31 Try.underlying3 hi hz0 z (by omega) (by rw [hz1]; decide) (by omega) (by rw [hz2]; omega)
    have hge := grownCap_ge w z 0 3
    have hle := grownCap_le_maxLen w z 0 3 (by unfold maxLen; omega)
    obtain ⟨cp, hcp⟩ : ∃ c, grownCap w z 0 3 = c := ⟨_, rfl⟩
    rw [hcp] at hrun hge hle
    obtain ⟨ob, hob⟩ : ∃ o, Obj.cells (Builtin.zeroCells (Value.int .i64 0).cells z ++ Builtin.zeroCells (Value.int .i64 0).cells (cp - z)) 3 = o := ⟨_, rfl⟩
    rw [hob] at hrun
    have hown : Own (w.drew.alloc ob) w.heap.size (.slice (some ⟨w.heap.size, 0, none⟩) 0 cp) [] := by
      refine ⟨rfl, .inr ⟨w.heap.size, cp, _, rfl, Nat.le_refl _, by rw [← hob]; exact World.alloc_heap_new w.drew _, Nat.zero_le _, hle, ?_, rfl⟩⟩
      rw [Array.size_append, size_zeroCells, size_zeroCells, show (Value.int .i64 0).cells.size = 1 from rfl]
      omega
    have hb : Below w.heap.size w (w.drew.alloc ob) := (Below.refl w.heap.size w).drew.alloc (Nat.le_refl _) ob
    have Hown := Lib.hid hown
    have Hb := Lib.hid hb
    have Hrun := Lib.hid hrun
    clear hown hb hrun hob hcp
    go_wp2_with (at_builtin; refine Lib.wpList_append_run _ rfl _ _ _ _ rfl _ _ rfl rfl _ _ Hrun.out ?_)
    go_ret
    exact ⟨_, _, rfl, Hown.out, Hb.out⟩
set_option maxHeartbeats 4000000 in
set_option maxRecDepth 100000 in
theorem concat_any (u : Value) (L : List (List Nat)) (hL : LB L) (w : World) (hR : RL w u (L.map ni)) : Calls Try.prog 34 #[u] w fun e w' => ∃ b d, e = .returned (.slice b (preI L L.length).length d) ∧ Ints w' b (ni (preI L L.length)) ∧ Below w.heap.size w w' := by
  obtain ⟨a1, c1, rfl, _⟩ := id hR
  obtain ⟨q, hq⟩ : ∃ q, L.length = q := ⟨_, rfl⟩
  rw [List.length_map, hq] at hR ⊢
  have hq8 : q ≤ 8192 := by rw [← hq]; exact hL.cnt
  have hpre0 : preI L 0 = [] := rfl
  have HR := Lib.hid hR
  have Hq := Lib.hid hq
  have Hlb := Lib.hid hL
  clear hR hq hL
  go_enter Try.func34, Try.ntmps34
  have hrow : ∀ i, i < q → ∀ W, Below w.heap.size w W → ∃ G off b2 o2 t ci, a1 = some ⟨G, off, none⟩ ∧ W.cell? ⟨G, off + i, none⟩ = some (.slice (some ⟨b2, o2, none⟩) t ci) ∧ (ni (L.getD i [])).length = t ∧ Ints W (some ⟨b2, o2, none⟩) (ni (L.getD i [])) ∧ 0 < t ∧ t ≤ 8192 := fun i hi W hW => by
    have hiL : i < L.length := by rw [Hq.out]; exact hi
    obtain ⟨a2, c2, e2, hz⟩ := HR.out.below hW (Nat.le_refl _)
    injection e2 with e3 e5 e6
    obtain ⟨G, off, e4, hx⟩ := hz (by rw [List.length_map]; omega)
    obtain ⟨ai, ci, q1, q2⟩ := hx i (by rw [List.length_map]; exact hiL)
    rw [map_ni_at] at q1 q2
    have hne := Hlb.out.ne i hiL
    have hle := Hlb.out.row hiL
    obtain ⟨b2, o2, rfl, hy⟩ := id q2 (by rw [ni_len]; exact hne)
    exact ⟨G, off, b2, o2, _, ci, by rw [e3, e4], q1, rfl, q2, by rw [ni_len]; exact hne, by rw [ni_len]; exact hle⟩
  have Hrow := Lib.hid hrow
  have Hle : Hid (∀ i, (preI L i).length ≤ 8192) := Hlb.out.le
  have Hps : Hid (∀ i, i < q → (preI L (i + 1)) = preI L i ++ L.getD i []) := by show ∀ i, _; exact fun i hi => preI_succ (by rw [Hq.out]; exact hi)
  clear hrow
  go_wp2
  go_loopw [3, 11] (fun sz x W => ∃ i p : Nat, x = .int .i64 i ∧ i ≤ q ∧ Hid ((preI L i).length = p) ∧ sz = .int .i64 p ∧ Hid (W = w)) (fun _ x _ => q - (intOf x).toNat)
  case atStart => exact ⟨0, 0, rfl, Nat.zero_le _, Lib.hid rfl, rfl, Lib.hid rfl⟩
  case round =>
    obtain ⟨i, p, rfl, hiq, Hp, rfl, HW⟩ := hrel
    have hW := HW.out.symm
    subst hW
    clear HW
    have hp8 : p ≤ 8192 := by rw [← Hp.out]; exact Hle.out i
    by_cases hlt : i < q
    · obtain ⟨G, off, b2, o2, t, ci, rfl, r1, r2, _, r4, r5⟩ := Hrow.out i hlt w (Below.refl _ _)
      have hpn : Hid ((preI L (i + 1)).length = p + t) := by show _ = _; rw [Hps.out i hlt, List.length_append, Hp.out, ← r2, ni_len]
      have e1 : decide (((p + t : Nat) : Int) < 0) = false := by rw [decide_eq_false_iff_not]; omega
      have e2 : decide ((p : Int) + (t : Int) < 0) = false := by rw [decide_eq_false_iff_not]; omega
      clear r2
      go_wp2
      go_roundw
      case rel => exact ⟨i + 1, p + t, by go_num, hlt, hpn, by go_num, Lib.hid trivial⟩
      case measure => simp [intOf]; omega
    · obtain rfl : i = q := by omega
      have hgr := grow_nil p (by omega) w
      have Hgr := Lib.hid hgr
      clear hgr
      go_wp2_with fail
      refine Hgr.out.mono ?_
      rintro e w1 ⟨ag, cg, rfl, hog, hbg⟩
      have hs1 := hbg.size
      have Hog := Lib.hid hog
      have Hbg := Lib.hid hbg
      clear hog hbg
      go_wp2
      go_loopw [6, 27] (fun vo x W => ∃ (j r : Nat) (ab : Option Addr) (cb : Nat), x = .int .i64 j ∧ j ≤ i ∧ Hid ((ni (preI L j)).length = r) ∧ vo = .slice ab r cb ∧ Hid (Own W w.heap.size (.slice ab r cb) (ni (preI L j))) ∧ Hid (Below w.heap.size w W)) (fun _ x _ => i - (intOf x).toNat)
      case atStart => exact ⟨0, 0, ag, cg, rfl, Nat.zero_le _, Lib.hid rfl, rfl, Hog, Hbg⟩
      case round =>
        clear Hog Hbg
        obtain ⟨j, r, ab, cb, rfl, hji, Hr, rfl, Hown, hbw⟩ := hrel
        have hsz := hbw.out.size
        have hr8 : r ≤ 8192 := by rw [← Hr.out, ni_len]; exact Hle.out j
        by_cases hlt2 : j < i
        · obtain ⟨G, off, b2, o2, t, ci, rfl, r1, r2, r3, r4, r5⟩ := Hrow.out j hlt2 wr hbw.out
          have hps2 : ni (preI L (j + 1)) = ni (preI L j) ++ ni (L.getD j []) := by rw [Hps.out j hlt2]; unfold ni; rw [List.map_append]
          have hlen2 : Hid ((ni (preI L (j + 1))).length = r + t) := by show _ = _; rw [hps2, List.length_append, Hr.out, r2]
          have Hps2 := Lib.hid hps2
          have Hr2 := Lib.hid r2
          have Hr3 := Lib.hid r3
          clear hps2 r2 r3
          go_wp2_with (at_builtin; refine wpList_append_ri rfl _ _ rfl w.heap.size _ (ni (preI L j)) rfl Hown.out b2 o2 t _ (ni (L.getD j [])) rfl Hr3.out Hr2.out r4 (by omega) _ Hr.out (by omega) hsz ?_; intro g cap w7 ho7 hg7; have Hb7 := Lib.hid (hbw.out.grown hg7 hsz (fun k hk => (World.ownsRow.lt Hown.out k hk).1)); rw [← Hps2.out] at ho7; have Ho7 := Lib.hid ho7; clear ho7 hg7)
          go_roundw
          case rel => exact ⟨j + 1, r + t, _, _, by go_num, hlt2, hlen2, rfl, Ho7, Hb7⟩
          case measure => simp [intOf]; omega
        · obtain rfl : j = i := by omega
          have hrp : r = p := by rw [← Hr.out, ni_len, Hp.out]
          subst hrp
          have hend : Hid (Ints wr ab (ni (preI L j))) := by
            show Ints _ _ _
            obtain ⟨a9, c9, e9, h9⟩ := Hown.out.shape
            cases e9
            exact h9
          have hfl : Hid ((preI L j).length = r) := Hp
          clear Hown Hr Hp
          go_wp2
          go_ret
          exact ⟨ab, cb, by rw [hfl.out]; rfl, hend.out, hbw.out⟩
set_option maxHeartbeats 2000000 in
set_option maxRecDepth 100000 in
theorem bot_at (N : Int) (a : Option Addr) (n c : Nat) (ps : List (Int × Int)) (hl : ps.length = n) (hn : n ≤ maxLen) (w : World) (hE : Pairs w a ps) (k : Int) (hk : gchk N ps = k) :
    Calls Try.prog 15 #[.agg #[.int .i64 N, .slice a n c]] w fun e w' => ∃ L m b d, CL N ps L ∧ (preI L L.length).length = m ∧ e = .returned (.tuple #[.slice b m d, .int .i64 k]) ∧ Ints w' b (ni (preI L L.length)) ∧ Below w.heap.size w w' := by
  have HB1 := Lib.hid ((Below.refl w.heap.size w).alloc (Nat.le_refl _) (Obj.cells #[Value.int .i64 N, Value.slice a n c] 24))
  have hco := comps_law N a n c ps hl hn _ (hE.below HB1.out (Nat.le_refl _)) k hk
  have Hco := Lib.hid hco
  have Hk := Lib.hid hk
  clear hl hE hk hco
  go_enter Try.func15, Try.ntmps15
  go_wp2_with fail
  refine Hco.out.mono ?_
  rintro e w2 ⟨hb2, L, q, a1, c1, hq, rfl, hR, hC⟩
  have HB2 := Lib.hid (HB1.out.trans (hb2.mono (by simp)))
  by_cases hk0 : k = 0
  · have e0 : (k != 0) = false := by rw [hk0]; rfl
    have hcc := concat_any _ L hC.lb w2 hR
    obtain ⟨m, hm⟩ : ∃ m, (preI L L.length).length = m := ⟨_, rfl⟩
    rw [hm] at hcc
    have Hcc := Lib.hid hcc
    have HC := Lib.hid hC
    have Hm := Lib.hid hm
    clear hb2 hq hR hC hcc hm Hco
    subst hk0
    go_wp2_with fail
    refine Hcc.out.mono ?_
    rintro e w3 ⟨b, d, rfl, hi3, hb3⟩
    have Hi3 := Lib.hid hi3
    have HB3 := Lib.hid (HB2.out.trans (hb3.mono HB2.out.size))
    clear hi3 hb3
    go_wp2
    go_ret2
    exact ⟨L, m, b, d, HC.out, Hm.out, rfl, Hi3.out, HB3.out⟩
  · have e0 : (k != 0) = true := by rw [bne_iff_ne]; exact hk0
    have hL := hC.bad (by rw [Hk.out]; exact hk0)
    have HC := Lib.hid hC
    have HL := Lib.hid hL
    clear hb2 hq hR hC hL Hco
    go_wp2
    go_ret2
    exact ⟨L, 0, none, 0, HC.out, by rw [HL.out]; rfl, rfl, by rw [HL.out]; exact fun h => absurd h (by simp [preI, ni]), HB2.out⟩
end Go.Proofs.Ytopbbihbpalnlaa

namespace Go.Proofs.Ytopbbihbpalnlaa.D
open Go.RowKit Go.Shelf Go.WideShapes
set_option linter.unusedVariables false
def eqL (xs ys : List Int) : Bool := decide (xs = ys)
theorem eqL_self (xs : List Int) : eqL xs xs = true := by simp [eqL]
theorem eqL_iff {xs ys : List Int} : eqL xs ys = true ↔ xs = ys := by simp [eqL]
theorem eqL_len {xs ys : List Int} (h : ¬ xs.length = ys.length) : eqL xs ys = false := by
  unfold eqL; rw [decide_eq_false]; intro e; exact h (by rw [e])
theorem eqL_at {xs ys : List Int} {k : Nat} (h : ¬ xs.getD k 0 = ys.getD k 0) : eqL xs ys = false := by
  unfold eqL; rw [decide_eq_false]; intro e; exact h (by rw [e])
theorem eqL_all {xs ys : List Int} (hl : xs.length = ys.length) (h : ∀ i, i < xs.length → xs.getD i 0 = ys.getD i 0) : eqL xs ys = true := by
  unfold eqL; rw [decide_eq_true]
  apply List.ext_getElem hl
  intro i h1 h2
  have := h i h1
  simpa [List.getD, h1, h2] using this

set_option maxHeartbeats 400000 in
theorem equal_any (a : Option Addr) (c : Nat) (xs : List Int) (b : Option Addr) (d : Nat) (ys : List Int) (w : World) (hn : xs.length ≤ maxLen) (hm : ys.length ≤ maxLen) (hx : Ints w a xs) (hy : Ints w b ys) :
    Calls Try.prog 18 #[.slice a xs.length c, .slice b ys.length d] w fun e w' => e = .returned (.bool (eqL xs ys)) ∧ Drawn w w' := by
  unfold maxLen at hn hm
  by_cases hl : xs.length = ys.length
  · go_enter Try.func18, Try.ntmps18
    have Hl := Lib.hid hl
    have hb : ((xs.length : Int) != (ys.length : Int)) = false := by simp; omega
    rw [← hl]
    rw [← hl] at hb hm
    clear hl
    have Hx := Lib.hid hx
    have Hy := Lib.hid hy
    clear hx hy
    go_wp2
    go_loopw [5] (fun i wr => ∃ k : Nat, k ≤ xs.length ∧ i = .int .i64 k ∧ (∀ i, i < k → xs.getD i 0 = ys.getD i 0) ∧ Drawn w wr) (fun i _ => xs.length - (intOf i).toNat)
    case atStart => exact ⟨0, Nat.zero_le _, rfl, fun i hi => by omega, .refl _⟩
    case round =>
      obtain ⟨k, hk, rfl, hal, nw, rfl⟩ := hrel
      have Hal := Lib.hid hal
      clear hal
      by_cases hlt : k < xs.length
      · obtain ⟨b1, o1, rfl, hc1⟩ := Hx.out (by omega)
        obtain ⟨b2, o2, rfl, hc2⟩ := Hy.out (by rw [← Hl.out]; omega)
        have k1 := hc1 k hlt
        have k2 := hc2 k (by rw [← Hl.out]; exact hlt)
        obtain ⟨p, hp⟩ : ∃ p, xs.getD k 0 = p := ⟨_, rfl⟩
        obtain ⟨q, hq⟩ : ∃ q, ys.getD k 0 = q := ⟨_, rfl⟩
        rw [hp] at k1
        rw [hq] at k2
        have Hp := Lib.hid hp
        have Hq := Lib.hid hq
        clear hc1 hc2 hp hq
        by_cases e : p = q
        · have T := Lib.hid (show ∀ i, i < k + 1 → xs.getD i 0 = ys.getD i 0 from fun i hi => by
            rcases Nat.lt_or_ge i k with h | h
            · exact Hal.out i h
            · obtain rfl : i = k := by omega
              rw [Hp.out, Hq.out, e])
          subst e
          go_wp2
          go_quiet (fail)
          go_wp2
          go_roundw
          case rel => exact ⟨k + 1, by omega, by go_num, T.out, _, rfl⟩
          case measure => simp [intOf]; omega
        · have T := Lib.hid (eqL_at (xs := xs) (ys := ys) (k := k) (by rw [Hp.out, Hq.out]; exact e))
          have hb2 : (p != q) = true := by simpa using e
          go_wp2
          go_quiet (fail)
          go_wp2
          go_ret
          exact ⟨ret_bool T.out.symm, ((Drawn.refl _).step _).step _⟩
      · have T := Lib.hid (eqL_all Hl.out (fun i hi => Hal.out i (by omega)))
        go_wp2
        go_ret
        exact ⟨ret_bool T.out.symm, nw, rfl⟩
  · have T := Lib.hid (eqL_len hl)
    have hb : ((xs.length : Int) != (ys.length : Int)) = true := by simp; omega
    go_enter Try.func18, Try.ntmps18
    go_wp2
    go_ret
    exact ⟨ret_bool T.out.symm, .refl _⟩

theorem equal_at (a : Option Addr) (n c : Nat) (xs : List Int) (hn' : xs.length = n) (b : Option Addr) (m d : Nat) (ys : List Int) (hm' : ys.length = m) (r : Bool) (hr : eqL xs ys = r) (w : World) (hn : n ≤ maxLen) (hm : m ≤ maxLen) (hx : Ints w a xs) (hy : Ints w b ys) :
    Calls Try.prog 18 #[.slice a n c, .slice b m d] w fun e w' => e = .returned (.bool r) ∧ Drawn w w' := by
  subst hn' hm' hr
  exact equal_any a c xs b d ys w hn hm hx hy

end Go.Proofs.Ytopbbihbpalnlaa.D
namespace Go.Proofs.Ytopbbihbpalnlaa
open Go.RowKit Go.Shelf Go.WideShapes
set_option linter.unusedVariables false
theorem eq_same (b1 d1 b2 d2 m : Nat) (zs : List Int) (a a' : Option Addr) (hm : zs.length = m) (hm2 : m ≤ maxLen) (w : World) (h1 : Ints w a zs) (h2 : Ints w a' zs) :
    Calls Try.prog 18 #[.slice a m d1, .slice a' m d2] w fun e w' => e = .returned (.bool true) ∧ Drawn w w' :=
  D.equal_at a m d1 zs hm a' m d2 zs hm true (D.eqL_self zs) w hm2 hm2 h1 h2
set_option maxHeartbeats 2000000 in
set_option maxRecDepth 100000 in
theorem same_lists (a b : Option Addr) (q c d : Nat) (M : List (List Int)) (hq : M.length = q) (hq2 : q ≤ 100000) (hr : ∀ i, i < q → (M.getD i []).length ≤ 100000) (w : World) (h1 : RL w (.slice a q c) M) (h2 : RL w (.slice b q d) M) :
    Calls Try.prog 17 #[.slice a q c, .slice b q d] w fun e w' => e = .returned (.bool true) ∧ Below w.heap.size w w' := by
  have H1 := Lib.hid h1
  have H2 := Lib.hid h2
  have Hq := Lib.hid hq
  have Hr := Lib.hid hr
  clear h1 h2 hq hr
  go_enter Try.func17, Try.ntmps17
  go_wp2
  go_loopw [5] (fun x W => ∃ i : Nat, x = .int .i64 i ∧ i ≤ q ∧ Hid (Below w.heap.size w W)) (fun x _ => q - (intOf x).toNat)
  case atStart => exact ⟨0, rfl, Nat.zero_le _, Lib.hid (Below.refl _ _)⟩
  case round =>
    obtain ⟨i, rfl, hiq, hbw⟩ := hrel
    by_cases hlt : i < q
    · obtain ⟨a2, c2, e2, hz⟩ := H1.out.below hbw.out (Nat.le_refl _)
      injection e2 with e3 e5 e6
      clear e5 e6
      obtain ⟨G, off, e4, hx⟩ := hz (by rw [Hq.out]; omega)
      rw [e4] at e3
      subst e3
      obtain ⟨ai, ci, q1, q2⟩ := hx i (by rw [Hq.out]; exact hlt)
      obtain ⟨b2, k2, f2, hz2⟩ := H2.out.below hbw.out (Nat.le_refl _)
      injection f2 with f3 f5 f6
      clear f5 f6
      obtain ⟨G2, off2, f4, hx2⟩ := hz2 (by rw [Hq.out]; omega)
      rw [f4] at f3
      subst f3
      obtain ⟨bi, di, r1, r2⟩ := hx2 i (by rw [Hq.out]; exact hlt)
      have hrl := Hr.out i hlt
      obtain ⟨t, ht⟩ : ∃ t, (M.getD i []).length = t := ⟨_, rfl⟩
      rw [ht] at q1 r1 hrl
      have heq : ∀ X : World, Below w.heap.size w X → Below wr.heap.size wr X → Calls Try.prog 18 #[.slice ai t ci, .slice bi t di] X fun e w' => e = .returned (.bool true) ∧ Drawn X w' := fun X _ hX => eq_same 0 ci 0 di t _ ai bi ht (by unfold maxLen; omega) X (q2.below hX (Nat.le_refl _)) (r2.below hX (Nat.le_refl _))
      have Heq := Lib.hid heq
      clear hz hz2 hx hx2 e4 f4 ht q2 r2 heq
      have hS0 : wr.cell? ⟨G, off + i, none⟩ = some (.slice ai t ci) ∧ wr.cell? ⟨G2, off2 + i, none⟩ = some (.slice bi t di) ∧ Below wr.heap.size wr wr := ⟨q1, r1, Below.refl _ _⟩
      have hS1 : wr.drew.cell? ⟨G, off + i, none⟩ = some (.slice ai t ci) ∧ wr.drew.cell? ⟨G2, off2 + i, none⟩ = some (.slice bi t di) ∧ Below wr.heap.size wr wr.drew := ⟨q1, r1, (Below.refl _ _).drew⟩
      go_wp2_with fail
      go_region_held3 (fun X => X.cell? ⟨G, off + i, none⟩ = some (.slice ai t ci) ∧ X.cell? ⟨G2, off2 + i, none⟩ = some (.slice bi t di) ∧ Below wr.heap.size wr X)
        (first
          | (with_reducible assumption)
          | fail)
        (first
          | (go_at_call 18; (with_reducible refine Calls.mono (Heq.out _ (hbw.out.trans ((by exact (by assumption : _ ∧ _ ∧ _).2.2 : Below wr.heap.size wr _).mono hbw.out.size)) (by exact (by assumption : _ ∧ _ ∧ _).2.2)) ?_); rintro e wA ⟨rfl, hdA⟩; have hSA := keepG (by assumption) rfl (hdA.below _)))
      all_goals
        have Hb4 := Lib.hid (hbw.out.trans (hSA.2.2.mono hbw.out.size))
        clear hSA hS0 hS1
        go_wp2
        go_roundw
        case rel => exact ⟨i + 1, by go_num, hlt, Hb4⟩
        case measure => simp [intOf]; omega
    · obtain rfl : i = q := by omega
      go_wp2
      go_ret
      exact ⟨rfl, hbw.out⟩
end Go.Proofs.Ytopbbihbpalnlaa
