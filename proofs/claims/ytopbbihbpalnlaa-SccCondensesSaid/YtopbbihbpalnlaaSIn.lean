/-
  The components in the order of the chapter.
-/
import Derived.Test.YtopbbihbpalnlaaSInB
import Derived.Test.YtopbbihbpalnlaaGMath
import Derived.LoopTactic
import Derived.RegionTactic
namespace Go.Proofs.Ytopbbihbpalnlaa
open Go.RowKit
set_option linter.unusedVariables false
theorem ss_start {w : World} {base G N : Nat} (h : w.ownsRow base 31 1 (.slice (some ⟨G, 0, none⟩) N N) N (List.replicate N nl)) : Rws w base (.slice (some ⟨G, 0, none⟩) (List.replicate N nl).length N) (List.replicate N nl) (List.replicate N []) := by
  have hl : (List.replicate N nl).length = N := by simp
  have hr : ∀ i, i < N → (List.replicate N nl).getD i nl = nl := fun i hi => by simp [List.getD_eq_getElem?_getD, hi]
  refine ⟨?_, by simp, fun i hi => ?_, fun i j _ hi _ => ?_⟩
  · unfold OwnS; rw [hl]; exact h
  · rw [List.length_replicate] at hi
    rw [hr i hi, show (List.replicate N ([] : List Int)).getD i [] = [] by simp [List.getD_eq_getElem?_getD, hi]]
    exact Own.nil _ _
  · rw [List.length_replicate] at hi
    rw [hr i hi]; exact .inl rfl

theorem wpList_append_ra {w : World} {ops : Array Oper} {rest : List Oper} {o : Oper} {a : Act} {Q : Exit → Act → World → Prop} (hg : o.guard = none) (s x : Operand)
    (hop : o.op = .call { callee := .builtin .append, args := #[s, x], argTypes := #[31, 31] }) (base : Nat) (v : Value) (zs : List Int) (hs : a.eval s = v) (hown : Own w base v zs)
    (B : Nat) (z : Int) (hx : a.eval x = .slice (some ⟨B, 0, none⟩) 1 1) (hc : w.cell? ⟨B, 0, none⟩ = some (.int .i64 z)) (n : Nat) (hn : zs.length = n) (hlen : n ≤ 100000) (hbase : base ≤ w.heap.size)
    (hK : ∀ g cap w', Own w' base (.slice (some ⟨g, 0, none⟩) (n + 1) cap) (zs ++ [z]) → w.grownBy w' v.ownBlock → (v.ownBlock = some g ∨ g = w.heap.size) → wpList Try.prog ops Q rest (a.put o.dst (.slice (some ⟨g, 0, none⟩) (n + 1) cap)) w') : wpList Try.prog ops Q (o :: rest) a w := by
  subst hn
  obtain ⟨i0, hi, hz0, hz1, hz2⟩ := info_parts int_info
  refine wpList_append_lies w hg s x 31 hop base 3 i0 (.int .i64 0) 1 8 Try.underlying31 hi hz0 hz1 hz2 rfl (by decide) v zs.length (zs.map (.int .i64)) hs hown ⟨B, 0, none⟩ 1 1 [.int .i64 z] hx rfl ?_ ?_ (by decide) ?_ (by omega) hbase _ rfl ?_
  · intro j u hj
    match j, hj with
    | 0, hj => simp at hj; subst hj; simpa [Addr.add] using hc
  · intro u hu; simp at hu; subst hu; rfl
  · unfold maxLen; omega
  · intro g cap w' h1 h2 h3 _
    refine hK g cap w' ?_ h2 h3
    unfold Own
    rw [List.length_append, List.map_append]
    exact h1
theorem wpList_append_rs {w : World} {ops : Array Oper} {rest : List Oper} {o : Oper} {a : Act} {Q : Exit → Act → World → Prop} (hg : o.guard = none) (s x : Operand)
    (hop : o.op = .call { callee := .builtin .append, args := #[s, x], argTypes := #[27, 27] }) (base : Nat) (v : Value) (vs : List Value) (hs : a.eval s = v) (hown : OwnS w base v vs)
    (B : Nat) (u : Value) (hu : u.oneCell' = true) (hx : a.eval x = .slice (some ⟨B, 0, none⟩) 1 1) (hc : w.cell? ⟨B, 0, none⟩ = some u) (n : Nat) (hn : vs.length = n) (hlen : n ≤ 100000) (hbase : base ≤ w.heap.size)
    (hK : ∀ G cap w', OwnS w' base (.slice (some ⟨G, 0, none⟩) (n + 1) cap) (vs ++ [u]) → w.grownBy w' v.ownBlock → (v.ownBlock = some G ∨ G = w.heap.size) → wpList Try.prog ops Q rest (a.put o.dst (.slice (some ⟨G, 0, none⟩) (n + 1) cap)) w') : wpList Try.prog ops Q (o :: rest) a w := by
  subst hn
  obtain ⟨i0, hi, hz0, hz1, hz2⟩ := info_parts ss_info
  refine wpList_append_lies w hg s x 27 hop base 31 i0 (.slice none 0 0) 1 24 Try.underlying27 hi hz0 hz1 hz2 rfl (by decide) v vs.length vs hs hown ⟨B, 0, none⟩ 1 1 [u] hx rfl ?_ ?_ (by decide) ?_ (by omega) hbase _ rfl ?_
  · intro j z hj
    match j, hj with
    | 0, hj => simp at hj; subst hj; simpa [Addr.add] using hc
  · intro z hz; simp at hz; subst hz; exact hu
  · unfold maxLen; omega
  · intro G cap w' h1 h2 h3 _
    refine hK G cap w' ?_ h2 h3
    unfold OwnS
    rw [List.length_append]
    exact h1
set_option maxHeartbeats 4000000 in
set_option maxRecDepth 100000 in
theorem in_order (N : Nat) (a : Option Addr) (n c : Nat) (ps : List (Int × Int)) (hl : ps.length = n) (w : World) (hE : Pairs w a ps) (hn : n ≤ 32768) (hN : N ≤ 8192) (Lc : List (List Nat)) (hL : LOk N ps Lc) (ul : Value) (hR : RL w ul (Lc.map ni)) :
    Calls Try.prog 30 #[.agg #[.int .i64 (N : Int), .slice a n c], ul] w (InEnd w N ps Lc) := by
  obtain ⟨e0, he1, he2, he3, he4⟩ := info_parts ss_info
  obtain ⟨i0, hi, hz0, hz1, hz2⟩ := info_parts int_info
  obtain ⟨w1, hw1⟩ : ∃ w1, w.alloc (Obj.cells #[Value.int .i64 (N : Int), Value.slice a n c] 24) = w1 := ⟨_, rfl⟩
  have hz1' : w.heap.size < w1.heap.size := by rw [← hw1]; simp
  have g0 : w1.cell? ⟨w.heap.size, 0, none⟩ = some (.int .i64 (N : Int)) := by rw [← hw1]; simp [go_sem]
  have g1 : w1.cell? ⟨w.heap.size, 1, none⟩ = some (.slice a n c) := by rw [← hw1]; simp [go_sem]
  have hB1 : Below w.heap.size w w1 := by rw [← hw1]; exact (Below.refl w.heap.size w).alloc (Nat.le_refl _) _
  have hR1 := hR.below hB1 (Nat.le_refl _)
  have hC := hL.count
  have hml : (Lc.map ni).length = Lc.length := List.length_map ..
  have hix := indexes_any N ul (Lc.map ni) w1 hR1 hN (by rw [hml]; omega) (fun i hi => hL.fits i (by rw [hml] at hi; exact hi)) (fun i hi => by
    rw [hml] at hi
    rw [map_ni_at, ni_len]
    have := nodupLe (hL.nd i hi) (hL.lt i hi)
    omega)
  obtain ⟨C, hCe⟩ : ∃ C, Lc.length = C := ⟨_, rfl⟩
  obtain ⟨al, cl, eul, _⟩ := id hR
  rw [hml, hCe] at hix eul
  rw [hCe] at hC
  subst eul
  have Hix := Lib.hid hix
  have HE := Lib.hid hE
  have Hl := Lib.hid hl
  have Hw1 := Lib.hid hw1
  have HB1 := Lib.hid hB1
  have HR := Lib.hid hR
  have HL := Lib.hid hL
  have HC := Lib.hid hCe
  clear hE hl hw1 hB1 hR hL hR1 hix hml hCe
  go_enter Try.func30, Try.ntmps30
  go_wp2_with fail
  rw [Hw1.out]
  refine Hix.out.mono ?_
  rintro e w2 ⟨rfl, hrow2, hb2⟩
  have hs2 : w1.heap.size < w2.heap.size := hrow2.lt.2
  have k0 := (hb2.cell (p := ⟨w.heap.size, 0, none⟩) hz1').trans g0
  have k1 := (hb2.cell (p := ⟨w.heap.size, 1, none⟩) hz1').trans g1
  have Hrow2 := Lib.hid hrow2
  have Hb2 := Lib.hid hb2
  clear hrow2 hb2
  go_wp2_with (at_make; refine wpList_make_full _ rfl _ _ 27 rfl w2.heap.size 31 e0 (.slice none 0 0) 1 Try.underlying27 he1 he2 he3 _ _ _ _ C rfl rfl rfl rfl ?_ ?_ ?_ ?_)
  · rw [he4]; omega
  · unfold maxLen; omega
  · exact Nat.le_refl _
  intro w3 hown3 hg3
  have hrep3 : (madeCells #[Value.slice none 0 0] C).toList = List.replicate C nl := by rw [toList_madeCells_one]; rfl
  rw [hrep3] at hown3
  have hst3 := ss_start hown3
  have hs3 : w2.heap.size < w3.heap.size := (World.ownsRow.lt hown3 _ rfl).2
  have hb3 : Below w2.heap.size w2 w3 := (Below.refl _ _).grown hg3 (Nat.le_refl _) (fun k hk => by cases hk)
  have m0 := (hb3.cell (p := ⟨w.heap.size, 0, none⟩) (by show w.heap.size < _; omega)).trans k0
  have m1 := (hb3.cell (p := ⟨w.heap.size, 1, none⟩) (by show w.heap.size < _; omega)).trans k1
  have Hst3 := Lib.hid hst3
  have Hb3 := Lib.hid hb3
  clear hown3 hg3 hrep3 hst3 hb3 k0 k1
  go_wp2_with (at_make; refine wpList_make_full _ rfl _ _ 31 rfl w3.heap.size 3 i0 (.int .i64 0) 1 Try.underlying31 hi hz0 hz1 _ _ _ _ C rfl rfl rfl rfl ?_ ?_ ?_ ?_)
  · rw [hz2]; omega
  · unfold maxLen; omega
  · exact Nat.le_refl _
  intro w4 hown4 hg4
  have hrep4 : (madeCells #[Value.int .i64 0] C).toList = (waiL C []).map (Value.int .i64) := by rw [toList_madeCells_one, waiL_nil]; simp
  have hwa4 : Row w4 w3.heap.size w3.heap.size C (waiL C []) := by
    unfold Row
    rw [← hrep4, waiL_len]
    exact hown4
  have hs4 : w3.heap.size < w4.heap.size := (World.ownsRow.lt hown4 _ rfl).2
  have hb4 : Below w3.heap.size w3 w4 := (Below.refl _ _).grown hg4 (Nat.le_refl _) (fun k hk => by cases hk)
  have n0 := (hb4.cell (p := ⟨w.heap.size, 0, none⟩) (by show w.heap.size < _; omega)).trans m0
  have n1 := (hb4.cell (p := ⟨w.heap.size, 1, none⟩) (by show w.heap.size < _; omega)).trans m1
  have hIB : IB w1 w4 w1.heap.size w1.heap.size w2.heap.size w3.heap.size C N (ixL N Lc) (List.replicate C nl) (entL C (btw N Lc (ps.take 0))) (waiL C (btw N Lc (ps.take 0))) := by
    have e1 : btw N Lc (ps.take 0) = [] := rfl
    rw [e1, entL_nil]
    refine ⟨?_, Hst3.out.below hb4 (Nat.le_refl _), by simp, fun i hi => by simp [List.getD_eq_getElem?_getD, hi, nl, Value.ownBlock], hwa4, (Hb2.out.trans (Hb3.out.mono (by omega))).trans (hb4.mono (by omega)), hs4, Nat.le_refl _, hs2, hs3⟩
    have := ((Hrow2.out.below Hb3.out hs2).below hb4 (by omega))
    unfold ixL
    rw [HC.out]
    exact this
  have HIB := Lib.hid hIB
  clear hown4 hg4 hrep4 hwa4 hb4 hIB m0 m1
  go_wp2
  go_loopw [32] (fun i wr => ∃ k : Nat, k ≤ n ∧ i = .int .i64 k ∧ ∃ vs, Hid (IB w1 wr w1.heap.size w1.heap.size w2.heap.size w3.heap.size C N (ixL N Lc) vs (entL C (btw N Lc (ps.take k))) (waiL C (btw N Lc (ps.take k))))) (fun i _ => n - (intOf i).toNat)
  case atStart => exact ⟨0, Nat.zero_le _, rfl, _, HIB⟩
  case round =>
    obtain ⟨k, hk, rfl, vs, Hib⟩ := hrel
    have hsz := Hib.out.sz
    by_cases hlt : k < n
    · obtain ⟨b, off, rfl, hcell⟩ := (HE.out.below (HB1.out.trans (Hib.out.fr.mono (Nat.le_of_lt hz1'))) (Nat.le_refl _)) (by rw [Hl.out]; omega)
      obtain ⟨hcx, hcy⟩ := hcell k (by rw [Hl.out]; exact hlt)
      obtain ⟨⟨x, y⟩, he⟩ : ∃ e, ps.getD k (0, 0) = e := ⟨_, rfl⟩
      have hk' : ps[k]'(by rw [Hl.out]; exact hlt) = (x, y) := by simpa [List.getD_eq_getElem?_getD, Hl.out, hlt] using he
      have hnd := HL.out.fit (x, y) (by rw [← hk']; exact List.getElem_mem _)
      rw [he] at hcx hcy
      obtain ⟨x, rfl⟩ : ∃ m : Nat, x = (m : Int) := ⟨x.toNat, by have := hnd.1; simp at this; omega⟩
      obtain ⟨y, rfl⟩ : ∃ m : Nat, y = (m : Int) := ⟨y.toNat, by have := hnd.2; simp at this; omega⟩
      have hxN : x < N := by have := hnd.1.2; simp at this; omega
      have hyN : y < N := by have := hnd.2.2; simp at this; omega
      obtain ⟨hfC, _, hfi⟩ := HL.out.at_ hxN
      obtain ⟨htC, _, hti⟩ := HL.out.at_ hyN
      rw [HC.out] at hfC htC
      have hD : btw N Lc (ps.take (k + 1)) = btw N Lc (ps.take k) ++ (if cx N Lc (x : Int) = cx N Lc (y : Int) then [] else [(cx N Lc (x : Int), cx N Lc (y : Int))]) := by
        rw [List.take_succ_eq_append_getElem (by rw [Hl.out]; exact hlt), hk', btw_snoc]
      obtain ⟨f, hf⟩ : ∃ f, cx N Lc (x : Int) = f := ⟨_, rfl⟩
      obtain ⟨t, ht⟩ : ∃ t, cx N Lc (y : Int) = t := ⟨_, rfl⟩
      rw [hf] at hfC hfi hD
      rw [ht] at htC hti hD
      have hDl : (btw N Lc (ps.take k)).length ≤ 32768 := by
        have := btw_len N Lc (ps.take k)
        rw [List.length_take] at this
        have := Hl.out
        omega
      obtain ⟨D, hDe⟩ : ∃ D, btw N Lc (ps.take k) = D := ⟨_, rfl⟩
      rw [hDe] at hD hDl Hib
      have HD := Lib.hid hD
      obtain ⟨w5, hw5⟩ : ∃ w5, wr.alloc (.cells #[.int .i64 (x : Int), .int .i64 (y : Int)] 44) = w5 := ⟨_, rfl⟩
      have hs5 : wr.heap.size < w5.heap.size := by rw [← hw5]; simp
      have e0' : w5.cell? ⟨wr.heap.size, 0, none⟩ = some (.int .i64 (x : Int)) := by rw [← hw5]; simp [go_sem]
      have e1' : w5.cell? ⟨wr.heap.size, 1, none⟩ = some (.int .i64 (y : Int)) := by rw [← hw5]; simp [go_sem]
      have hib5 : IB w1 w5 w1.heap.size w1.heap.size w2.heap.size w3.heap.size C N (ixL N Lc) vs (entL C D) (waiL C D) := by rw [← hw5]; exact Hib.out.alloc _
      have hiN : (ixL N Lc).length = N := idxTo_len ..
      have cF := hib5.of.cell (i := x) (by rw [hiN]; exact hxN)
      have cT := hib5.of.cell (i := y) (by rw [hiN]; exact hyN)
      rw [hfi] at cF
      rw [hti] at cT
      have Hib5 := Lib.hid hib5
      have Hw5 := Lib.hid hw5
      clear hcell he hk' hnd hib5 hw5 hD hDe hf ht hfi hti hiN Hib
      by_cases hft : f = t
      · subst hft
        rw [if_pos rfl, List.append_nil] at HD
        have hne : ((f : Int) != (f : Int)) = false := by simp
        go_wp2
        rw [Hw5.out]
        go_quiet (fail)
        have hib7 := Hib5.out.drewN nq
        generalize hW7 : w5.drewN nq = W7 at *
        have Hib7 := Lib.hid hib7
        clear hib7
        go_wp2
        go_roundw
        case rel => exact ⟨k + 1, hlt, by go_num, vs, by rw [HD.out]; exact Hib7⟩
        case measure => simp [intOf]; omega
      · have hne : ((f : Int) != (t : Int)) = true := by simp; omega
        rw [if_neg hft] at HD
        have htE : t < (entL C D).length := by rw [entL_len]; exact htC
        have hvl := Hib5.out.vl
        obtain ⟨L, hL⟩ : ∃ L, (entL C D).getD t [] = L := ⟨_, rfl⟩
        have hrl : L.length ≤ 100000 := by
          rw [← hL, entL_at htC, ni_len]
          have := into_len D t
          omega
        have HLt := Lib.hid hL
        obtain ⟨wf, hwf⟩ : ∃ z, (waiL C D).getD f 0 = z := ⟨_, rfl⟩
        have hwf2 : 0 ≤ wf ∧ wf ≤ 32768 := by
          rw [← hwf, waiL_at hfC]
          have := outs_len D f
          omega
        have Hwf := Lib.hid hwf
        clear hL hwf
        go_wp2
        rw [Hw5.out]
        go_quiet (fail)
        have hib7 := Hib5.out.drewN nq
        generalize hW7 : w5.drewN nq = W7 at *
        obtain ⟨au, cu, cG, hv, _, fG⟩ := hib7.en.at_ htE
        rw [HLt.out] at cG hv
        have hown := hib7.en.row t htE
        rw [hv, HLt.out] at hown
        have hfin : ∀ (g cap : Nat) (w6 : World), Own w6 w2.heap.size (.slice (some ⟨g, 0, none⟩) (L.length + 1) cap) (L ++ [(f : Int)]) → (W7.alloc (.cells #[.int .i64 (f : Int)] 3)).grownBy w6 (Value.slice au L.length cu).ownBlock → ((Value.slice au L.length cu).ownBlock = some g ∨ g = (W7.alloc (.cells #[.int .i64 (f : Int)] 3)).heap.size) →
            (w6.cell? ⟨w2.heap.size, t, none⟩ = some (.slice au L.length cu) ∧ w6.frozen? ⟨w2.heap.size, t, none⟩ = false) ∧
            ((w6.setCell ⟨w2.heap.size, t, none⟩ (.slice (some ⟨g, 0, none⟩) (L.length + 1) cap)).cell? ⟨w3.heap.size, f, none⟩ = some (.int .i64 wf) ∧ (w6.setCell ⟨w2.heap.size, t, none⟩ (.slice (some ⟨g, 0, none⟩) (L.length + 1) cap)).frozen? ⟨w3.heap.size, f, none⟩ = false) ∧
              ∃ vs', IB w1 ((w6.setCell ⟨w2.heap.size, t, none⟩ (.slice (some ⟨g, 0, none⟩) (L.length + 1) cap)).setCell ⟨w3.heap.size, f, none⟩ (.int .i64 (wf + 1))) w1.heap.size w1.heap.size w2.heap.size w3.heap.size C N (ixL N Lc) vs' (entL C (btw N Lc (ps.take (k + 1)))) (waiL C (btw N Lc (ps.take (k + 1)))) := fun g cap w6 ho hg hat => by
          have hibX := hib7.alloc (.cells #[.int .i64 (f : Int)] 3)
          obtain ⟨q1, q2, q3⟩ := hibX.push (t := t) (g := g) (cap := cap) (y := (f : Int)) htC (by rw [HLt.out]; exact ho) (by rw [hv]; exact hg) (by rw [hv]; exact hat)
          rw [HLt.out] at q1
          rw [hv] at q2
          have hwl : f < (waiL C D).length := by rw [waiL_len]; exact hfC
          have c1 := q1.wa.cell hwl
          rw [Hwf.out] at c1
          have q4 := q1.wset f (wf + 1)
          refine ⟨⟨q2, q3⟩, ⟨c1, q1.wa.free f⟩, vs.set t (.slice (some ⟨g, 0, none⟩) (L.length + 1) cap), ?_⟩
          rw [HD.out, entL_snoc htC, waiL_snoc hfC, HLt.out, Hwf.out]
          exact q4
        have Hfin := Lib.hid hfin
        have Hown := Lib.hid hown
        have hsw : w2.heap.size ≤ W7.heap.size := by have := hib7.sz; have := hib7.gq; omega
        have cGa : ∀ o, (W7.alloc o).cell? ⟨w2.heap.size, t, none⟩ = some (.slice au L.length cu) := fun o => (((Below.refl W7.heap.size W7).alloc (Nat.le_refl _) o).cell (World.block_lt_of_cell? _ _ cG)).trans cG
        clear hfin hown hib7 hv HLt Hwf Hib5 HD
        go_wp2_with (at_builtin; refine wpList_append_ra rfl _ _ rfl w2.heap.size _ L rfl (World.ownsRow.alloc Hown.out _) W7.heap.size (f : Int) rfl (by simp [go_sem]) _ rfl hrl (by simp; omega) ?_; intro g4 cap4 w6 ho4 hg4 hat4; obtain ⟨⟨c5, f5⟩, ⟨c6, f6⟩, hdone⟩ := Hfin.out g4 cap4 w6 ho4 hg4 hat4; have Hdone := Lib.hid hdone; clear ho4 hg4 hat4 hdone)
        go_roundw
        case rel => exact ⟨k + 1, hlt, by go_num, Hdone.out.elim fun v h => ⟨v, Lib.hid h⟩⟩
        case measure => simp [intOf]; omega
    · obtain rfl : n = k := by omega
      have Hib' : Hid (IB w1 wr w1.heap.size w1.heap.size w2.heap.size w3.heap.size C N (ixL N Lc) vs (entL C (btw N Lc ps)) (waiL C (btw N Lc ps))) := by
        have := Hib.out
        rw [← Hl.out, List.take_length] at this
        exact this
      clear Hib
      generalize wr = Wa at *
      obtain ⟨D, hDe⟩ : ∃ D, btw N Lc ps = D := ⟨_, rfl⟩
      rw [hDe] at Hib'
      have HDe := Lib.hid hDe
      have hfew : ∀ (rd : List Int), rd.Nodup → (∀ z ∈ rd, ∃ i, i < C ∧ z = (hdL Lc i : Int)) → rd.length ≤ C := fun rd h1 h2 => by
        have := HL.out.few h1 (fun z hz => by rw [HC.out]; exact h2 z hz)
        rw [HC.out] at this
        exact this
      have hinj : ∀ i j, i < C → j < C → hdL Lc i = hdL Lc j → i = j := fun i j h1 h2 h3 => HL.out.inj i j (by rw [HC.out]; exact h1) (by rw [HC.out]; exact h2) h3
      have hbw : ∀ (W : World) (u : Value) (rd wt : List Int), IR Wa W Wa.heap.size w3.heap.size C u rd wt → Below w.heap.size w W := fun W u rd wt h => by
        refine h.below (HB1.out.trans (Hib'.out.fr.mono (Nat.le_of_lt hz1'))) (by omega) (by omega)
      have hrow : ∀ (i : Nat), i < C → ∃ G0 off ai ci, al = some ⟨G0, off, none⟩ ∧ w.cell? ⟨G0, off + i, none⟩ = some (.slice ai (Lc.getD i []).length ci) ∧ Ints w ai (ni (Lc.getD i [])) ∧ 0 < (Lc.getD i []).length := fun i hi => by
        obtain ⟨a2, c2, e2, hz⟩ := HR.out
        injection e2 with e3 _ _
        obtain ⟨G0, off, e4, hx⟩ := hz (by rw [List.length_map, HC.out]; omega)
        obtain ⟨ai, ci, q1, q2⟩ := hx i (by rw [List.length_map, HC.out]; exact hi)
        rw [map_ni_at] at q1 q2
        rw [ni_len] at q1
        exact ⟨G0, off, ai, ci, by rw [e3, e4], q1, q2, List.length_pos_iff.mpr (HL.out.ne i (by rw [HC.out]; exact hi))⟩
      have hir0 : IR Wa (Wa.alloc (Obj.cells #[Value.slice none 0 0] 62)) Wa.heap.size w3.heap.size C (.slice none 0 0) [] (waiL C D) := by
        have hg := World.grownBy_alloc Wa (Obj.cells #[Value.slice none 0 0] 62) none
        exact ⟨rfl, rfl, rfl, by simp, fun q h1 _ => hg.block q h1 (by simp), Hib'.out.wa.alloc _, Hib'.out.sz, ⟨Boxed.new _ _ _, Own.nil _ _, by omega, by simp⟩, fun k h1 h2 => by simp at h2⟩
      have hks0 : KS D C (hdL Lc) 0 [] (waiL C D) := KS.begin _ _ _
      have hent : ∀ i, i < C → ∃ a c, Wa.cell? ⟨w2.heap.size, i, none⟩ = some (.slice a (into D i).length c) ∧ (0 < (into D i).length → ∃ b off, a = some ⟨b, off, none⟩ ∧ b < Wa.heap.size ∧ b ≠ w3.heap.size ∧ ∀ j, j < (into D i).length → Wa.cell? ⟨b, off + j, none⟩ = some (.int .i64 (((into D i).getD j 0 : Nat) : Int))) := fun i hi => by
        have := Hib'.out.row hi
        rw [entL_at hi, ni_len] at this
        simp only [ni_at] at this
        exact this
      have hofc : ∀ i, i < C → Wa.cell? ⟨w1.heap.size, hdL Lc i, none⟩ = some (.int .i64 (i : Int)) := fun i hi => by
        have hi' : i < Lc.length := by rw [HC.out]; exact hi
        have hm := HL.out.hd_mem hi'
        have := Hib'.out.of.cell (i := hdL Lc i) (by rw [show (ixL N Lc).length = N from idxTo_len ..]; exact HL.out.lt i hi' _ hm)
        rw [HL.out.ix hi' hm] at this
        exact this
      have hDC : ∀ e ∈ D, e.1 < C ∧ e.1 ≠ e.2 := fun e he => by
        have := HL.out.btw e (by rw [HDe.out]; exact he)
        rw [HC.out] at this
        omega
      have Hent := Lib.hid hent
      have Hofc := Lib.hid hofc
      have HDC := Lib.hid hDC
      clear hent hofc hDC
      have Hfew := Lib.hid hfew
      have Hinj := Lib.hid hinj
      have Hbw := Lib.hid hbw
      have Hrow := Lib.hid hrow
      have Hir0 := Lib.hid hir0
      have Hks0 := Lib.hid hks0
      clear hDe hfew hinj hbw hrow hir0 hks0
      go_wp2
      go_loopw [68] (fun i W => ∃ k : Nat, k ≤ C ∧ i = .int .i64 k ∧ ∃ u rd, Hid (KS D C (hdL Lc) k rd (waiL C D)) ∧ Hid (IR Wa W Wa.heap.size w3.heap.size C u rd (waiL C D))) (fun i _ => C - (intOf i).toNat)
      case atStart => exact ⟨0, Nat.zero_le _, rfl, _, _, Hks0, Hir0⟩
      case round =>
        obtain ⟨k, hk2, rfl, u, rd, Hks, Hir⟩ := hrel
        by_cases hkC : k < C
        · obtain ⟨G0, off, ai, ci, rfl, q1, q2, q3⟩ := Hrow.out k hkC
          have hbW := Hbw.out _ _ _ _ Hir.out
          have c1 := (hbW.cell (p := ⟨G0, off + k, none⟩) (World.block_lt_of_cell? _ _ q1)).trans q1
          obtain ⟨b2, off2, rfl, q4⟩ := (q2.below hbW (Nat.le_refl _)) (by rw [ni_len]; exact q3)
          have c2 := q4 0 (by rw [ni_len]; exact q3)
          rw [ni_at, Nat.add_zero] at c2
          obtain ⟨m, hm⟩ : ∃ m, (Lc.getD k []).length = m := ⟨_, rfl⟩
          rw [hm] at c1 q3
          have hc2 : ((Lc.getD k []).getD 0 0) = hdL Lc k := rfl
          rw [hc2] at c2
          obtain ⟨x, hx⟩ : ∃ x, hdL Lc k = x := ⟨_, rfl⟩
          rw [hx] at c2
          have c3 := Hir.out.wa.cell (i := k) (by rw [waiL_len]; exact hkC)
          obtain ⟨z, hz⟩ : ∃ z, (waiL C D).getD k 0 = z := ⟨_, rfl⟩
          rw [hz] at c3
          have Hx := Lib.hid hx
          have Hz := Lib.hid hz
          clear q1 q2 q4 hc2 hx hz hm hbW
          by_cases hz0 : z = 0
          · subst hz0
            have hlen : rd.length + 1 ≤ 100000 := by
              have := Hfew.out rd Hks.out.rn (fun z hz => by
                obtain ⟨i, h1, _, h3⟩ := (Hks.out.rm z).mp hz
                exact ⟨i, by omega, h3⟩)
              omega
            have hpush := hpush_any (Wa.heap.size + 1) Wa.heap.size u rd (x : Int) _ Hir.out.hb hlen Hir.out.hp
            have Hpush := Lib.hid hpush
            clear hpush
            go_wp2_with fail
            refine Hpush.out.mono ?_
            rintro e W3 ⟨rfl, zs, u', p1, p2, p3, p4, p5⟩
            have Hir3 := Lib.hid (Hir.out.grow p4 p3 p2)
            have Hks3 := Lib.hid (Hks.out.push (rd' := zs) Hinj.out hkC Hz.out (by rw [Hx.out]; exact p1))
            clear p1 p2 p3 p4 p5
            go_wp2
            go_roundw
            case rel => exact ⟨k + 1, hkC, by go_num, _, _, Hks3, Hir3⟩
            case measure => simp [intOf]; omega
          · have hne : (z == 0) = false := by simpa using hz0
            have Hks3 := Lib.hid (Hks.out.skip hkC (by rw [Hz.out]; exact hz0))
            go_wp2
            go_roundw
            case rel => exact ⟨k + 1, hkC, by go_num, _, _, Hks3, Hir⟩
            case measure => simp [intOf]; omega
        · obtain rfl : C = k := by omega
          have Hki := Lib.hid Hks.out.fin
          have hQH := Hib'.out.sz
          have hGQ := Hib'.out.gq
          have hFG := Hib'.out.fg
          have Hsl0 := Lib.hid (SL.start w wr Wa.heap.size (Lc.map ni))
          clear Hks Hib'
          go_wp2
          go_loopw [15] (fun v W => ∃ s au cu u rd wt xs, v = .slice au s.length cu ∧ Hid (KI D C (hdL Lc) s rd wt) ∧ Hid (IR Wa W Wa.heap.size w3.heap.size C u rd wt) ∧ Hid (SL w W Wa.heap.size (.slice au s.length cu) xs (Lc.map ni) s)) (fun v _ => C - lenS v)
          case atStart => exact ⟨[], _, _, _, _, _, _, rfl, Hki, Hir, Hsl0⟩
          case round =>
            clear Hki Hir Hsl0
            obtain ⟨s, au, cu, u, rd, wt, xs, rfl, Hki, Hir, Hsl⟩ := hrel
            obtain ⟨a1, c1, rfl, _⟩ := Hir.out.hb.own.shape
            have cH := Hir.out.hb.box.cell
            obtain ⟨m, hm⟩ : ∃ m, rd.length = m := ⟨_, rfl⟩
            rw [hm] at cH
            have Hm := Lib.hid hm
            clear hm
            by_cases hm0 : m = 0
            · subst hm0
              have hrd : rd = [] := List.length_eq_zero_iff.mp Hm.out
              subst hrd
              have hend : InEnd w N ps Lc (.returned (.slice au s.length cu)) wr := by
                refine ⟨_, s, rfl, Hsl.out.rl (Hbw.out _ _ _ _ Hir.out), Hbw.out _ _ _ _ Hir.out, Hki.out.nd, fun i => ⟨fun h => ?_, fun h => ?_⟩, ?_⟩
                · rw [HC.out]; exact (Hki.out.gr.mem h).1
                · rw [HC.out] at h
                  exact Hki.out.all (fun e he => (HL.out.btw e (by rw [HDe.out]; exact he)).2) i h
                · rw [HDe.out, HC.out]; exact Hki.out.gr
              have Hend := Lib.hid hend
              clear hend Hki Hir Hsl
              go_wp2
              go_ret
              exact Hend.out
            · obtain ⟨n2, rfl⟩ : ∃ j, m = j + 1 := ⟨m - 1, by omega⟩
              have hz0m : rd.getD 0 0 ∈ rd := by rw [List.getD_eq_getElem?_getD, List.getElem?_eq_getElem (by rw [Hm.out]; omega)]; exact List.getElem_mem _
              obtain ⟨i, hir, hzi⟩ := (Hki.out.rm _).mp hz0m
              have hleast : ∀ y ∈ rd, (hdL Lc i : Int) ≤ y := fun y hy => by
                obtain ⟨k, hk, e⟩ := List.getElem_of_mem hy
                have := Hir.out.hp.top k hk
                rw [hzi] at this
                rw [← e]
                simpa [List.getD_eq_getElem?_getD, hk] using this
              have hrl : n2 + 1 ≤ 100000 := by
                have := Hfew.out rd Hki.out.rn (fun z hz => by
                  obtain ⟨i, h1, h3⟩ := (Hki.out.rm z).mp hz
                  exact ⟨i, h1.lt, h3⟩)
                rw [Hm.out] at this
                omega
              have hpop := hpop_any (Wa.heap.size + 1) Wa.heap.size n2 _ rd wr Hir.out.hb Hm.out hrl Hir.out.hp
              have hpe : ∀ e W', PopEnd wr (Wa.heap.size + 1) Wa.heap.size (.slice a1 rd.length c1) rd n2 e W' → e = .returned (.iface 3 (.int .i64 (hdL Lc i : Int))) ∧ ∃ zs u', KM D C (hdL Lc) s i 0 zs wt ∧ IR Wa W' Wa.heap.size w3.heap.size C u' zs wt ∧ SL w W' Wa.heap.size (.slice au s.length cu) xs (Lc.map ni) s := by
                rintro e W' ⟨h1, zs, u', h2, h3, h4, h5, h6⟩
                refine ⟨by rw [h1, hzi], zs, u', ?_, Hir.out.grow h5 h4 h3, Hsl.out.keep (Hir.out.keepS Hsl.out.own h5)⟩
                rw [hzi] at h2
                obtain ⟨i', g1, g2, _, g3⟩ := Hki.out.pop Hinj.out h2 hleast
                have := Hinj.out i i' hir.lt g2.lt (by omega)
                rw [this]
                exact g3
              have hle2 : ∀ j, Rdy D C s j → hdL Lc i ≤ hdL Lc j := fun j hj => by
                have := hleast _ ((Hki.out.rm _).mpr ⟨j, hj, rfl⟩)
                omega
              have Hpop := Lib.hid (hpop.mono hpe)
              have Hrdy := Lib.hid hir
              have Hle2 := Lib.hid hle2
              have Hgr := Lib.hid Hki.out.gr
              have Hsn := Lib.hid Hki.out.nd
              have hiC := hir.lt
              have hsC : s.length < C := by
                have h1 : (s ++ [i]).Nodup := List.nodup_append.mpr ⟨Hki.out.nd, by simp, fun a ha b hb e => by
                  rw [List.mem_singleton] at hb
                  subst hb; subst e; exact hir.new ha⟩
                have := nodupLe (N := C) h1 (fun x hx => by
                  rcases List.mem_append.mp hx with h | h
                  · exact (Hki.out.gr.mem h).1
                  · rw [List.mem_singleton] at h; rw [h]; exact hiC)
                simp at this
                omega
              have c2 := Hofc.out i hiC
              obtain ⟨G0, off, ai, ci, rfl, q1, q2, q3⟩ := Hrow.out i hiC
              obtain ⟨ae, ce, r1, r2⟩ := Hent.out i hiC
              obtain ⟨x, hx⟩ : ∃ x, hdL Lc i = x := ⟨_, rfl⟩
              rw [hx] at c2 Hpop
              obtain ⟨mr, hmr⟩ : ∃ m, (Lc.getD i []).length = m := ⟨_, rfl⟩
              rw [hmr] at q1 q3
              obtain ⟨me, hme⟩ : ∃ m, (into D i).length = m := ⟨_, rfl⟩
              have hme9 : me ≤ 32768 := by
                rw [← hme]
                have h2 := into_len D i
                have h3 : D.length ≤ n := by rw [← HDe.out, ← Hl.out]; exact btw_len ..
                omega
              rw [hme] at r1 r2
              obtain ⟨ls, hls⟩ : ∃ m, s.length = m := ⟨_, rfl⟩
              rw [hls] at Hpop hsC
              have hta : ∀ w : World, (Instr.typeAssert (.iface 3 (.int .i64 (x : Int))) 20 3 false).run Try.prog w = .ok (.int .i64 (x : Int)) w := fun _ => by kernel_rfl
              have hxN : x < N := by rw [← hx]; have hi' : i < Lc.length := by rw [HC.out]; exact hiC
                                     exact HL.out.lt i hi' _ (HL.out.hd_mem hi')
              have Hq2 := Lib.hid q2
              have Hr2 := Lib.hid r2
              have Hmr := Lib.hid hmr
              have Hme := Lib.hid hme
              have Hls := Lib.hid hls
              simp only [hls]
              clear hz0m hzi hleast hpop hpe hle2 hir hx q2 r2 hmr hme hls Hki Hir Hsl Hm
              go_wp2_with fail
              refine Hpop.out.mono ?_
              rintro e W3 ⟨rfl, zs, u3, hkm, hir3, hsl3⟩
              have c3 := hir3.cell (p := ⟨w1.heap.size, x, none⟩) (by show w1.heap.size < _; omega) (by show w1.heap.size ≠ _; omega) c2
              have hb3' := Hbw.out _ _ _ _ hir3
              have c4 := (hb3'.cell (p := ⟨G0, off + i, none⟩) (World.block_lt_of_cell? _ _ q1)).trans q1
              have Hkm := Lib.hid hkm
              have Hir3 := Lib.hid hir3
              have Hsl3 := Lib.hid hsl3
              clear hkm hir3 hsl3 c2 hb3' Hpop
              have hxl : xs.length = ls := by rw [Hsl3.out.len, Hls.out]
              have Hxl := Lib.hid hxl
              clear hxl
              have hsn : ∀ (G cap : Nat) (W' : World), OwnS W' (Wa.heap.size + 1) (.slice (some ⟨G, 0, none⟩) (ls + 1) cap) (xs ++ [.slice ai mr ci]) → SL w W' Wa.heap.size (.slice (some ⟨G, 0, none⟩) (ls + 1) cap) (xs ++ [.slice ai mr ci]) (Lc.map ni) (s ++ [i]) := fun G cap W' ho => by
                have e : ((Lc.map ni).getD i []).length = mr := by rw [map_ni_at, ni_len]; exact Hmr.out
                have := Hsl3.out.snoc (i := i) (a := ai) (c := ci) (W' := W') (G := G) (cap := cap) (by rw [map_ni_at]; exact Hq2.out) (by rw [e, Hxl.out]; exact ho)
                rw [e, Hxl.out] at this
                exact this
              have Hsn2 := Lib.hid hsn
              clear hsn
              go_wp2_with (at_builtin; refine wpList_append_rs rfl _ _ rfl (Wa.heap.size + 1) _ xs rfl (World.ownsRow.alloc Hsl3.out.own _) _ (Value.slice ai mr ci) rfl rfl (by simp [go_sem]) _ Hxl.out (by omega) (by have := Hir3.out.sz; simp; omega) ?_; intro g cap W6 ho6 hg6 hat6; have Hsl6 := Lib.hid (Hsn2.out g cap W6 ho6); have hir6 := (Hir3.out.alloc (Obj.cells #[Value.slice ai mr ci] 31)).grown (World.ownsRow.alloc Hsl3.out.own _) hg6; have c6 := hir6.cell (p := ⟨w2.heap.size, i, none⟩) (by show w2.heap.size < _; omega) (by show w2.heap.size ≠ _; omega) r1; have Hir6 := Lib.hid hir6; clear ho6 hg6 hat6 hir6)
              clear Hsl3 Hir3 Hsn2 c3 c4
              go_loopw [106] (fun v W => ∃ k u rd wt, k ≤ me ∧ v = .int .i64 (k : Int) ∧ Hid (KM D C (hdL Lc) s i k rd wt) ∧ Hid (IR Wa W Wa.heap.size w3.heap.size C u rd wt) ∧ Hid (SL w W Wa.heap.size (.slice (some ⟨g, 0, none⟩) (ls + 1) cap) (xs ++ [.slice ai mr ci]) (Lc.map ni) (s ++ [i]))) (fun v _ => me - (intOf v).toNat)
              case atStart => exact ⟨0, _, _, _, Nat.zero_le _, rfl, Hkm, Hir6, Hsl6⟩
              case round =>
                clear Hkm Hir6 Hsl6
                obtain ⟨k, u, rd, wt, hkm2, rfl, Hkm, Hir, Hsl⟩ := hrel
                by_cases hkme : k < me
                · obtain ⟨be, oe, rfl, t1, t2, t3⟩ := Hr2.out (by omega)
                  have t4 := Hir.out.cell (p := ⟨be, oe + k, none⟩) t1 t2 (t3 k hkme)
                  obtain ⟨f, hf⟩ : ∃ f, (into D i).getD k 0 = f := ⟨_, rfl⟩
                  obtain ⟨hfC, hwp, hst1, hst2⟩ := Hkm.out.step Hgr.out Hrdy.out.new HDC.out Hinj.out (by rw [Hme.out]; exact hkme) hf
                  rw [hf] at t4
                  have c7 := Hir.out.wa.cell (i := f) (by rw [Hkm.out.wl]; exact hfC)
                  have f7 := Hir.out.wa.free f
                  have hir7 := Hir.out.wset f (wt.getD f 0 - 1)
                  have hsl7 := Hsl.out.keep (Hir.out.keepSet Hsl.out.own f (.int .i64 (wt.getD f 0 - 1)))
                  have c8 := hir7.wa.cell (i := f) (by rw [List.length_set, Hkm.out.wl]; exact hfC)
                  rw [show (wt.set f (wt.getD f 0 - 1)).getD f 0 = wt.getD f 0 - 1 by simp [List.getD_eq_getElem?_getD, show f < wt.length by rw [Hkm.out.wl]; exact hfC]] at c8
                  have hwb : wt.getD f 0 ≤ 32768 := by
                    have h1 := Hkm.out.wv f hfC
                    have h2 : outs D s f ≤ D.length := List.countP_le_length
                    have h3 : D.length ≤ n := by rw [← HDe.out, ← Hl.out]; exact btw_len ..
                    omega
                  obtain ⟨z, hz⟩ : ∃ z, wt.getD f 0 = z := ⟨_, rfl⟩
                  rw [hz] at hwp hst1 hst2 c7 hir7 hsl7 c8 hwb
                  obtain ⟨G1, off1, ai1, ci1, e9, v1, v2, v3⟩ := Hrow.out f hfC
                  cases e9
                  have hbW := Hbw.out _ _ _ _ hir7
                  have d1 := (hbW.cell (p := ⟨G0, off + f, none⟩) (World.block_lt_of_cell? _ _ v1)).trans v1
                  obtain ⟨b2, off2, rfl, v4⟩ := (v2.below hbW (Nat.le_refl _)) (by rw [ni_len]; exact v3)
                  have d2 := v4 0 (by rw [ni_len]; exact v3)
                  rw [ni_at, Nat.add_zero] at d2
                  obtain ⟨m, hm⟩ : ∃ m, (Lc.getD f []).length = m := ⟨_, rfl⟩
                  rw [hm] at d1 v3
                  have hd2 : ((Lc.getD f []).getD 0 0) = hdL Lc f := rfl
                  rw [hd2] at d2
                  obtain ⟨x1, hx1⟩ : ∃ x, hdL Lc f = x := ⟨_, rfl⟩
                  rw [hx1] at d2 hst1
                  have Hst1 := Lib.hid hst1
                  have Hst2 := Lib.hid hst2
                  have Hir7 := Lib.hid hir7
                  have Hsl7 := Lib.hid hsl7
                  have hlen : rd.length + 1 ≤ 100000 := by
                    have := Hfew.out rd Hkm.out.rn (fun z hz => by
                      obtain ⟨j, h1, _, _, _, h3⟩ := (Hkm.out.rm z).mp hz
                      exact ⟨j, h1, h3⟩)
                    omega
                  clear t1 t2 t3 hf hst1 hst2 hir7 hsl7 v1 v2 v4 hd2 hx1 hm hz hbW
                  by_cases hz1 : z - 1 = 0
                  · have hz2 : z = 1 := by omega
                    subst hz2
                    have e10 : (1 : Int) - 1 = 0 := rfl
                    rw [e10] at Hir7 Hsl7 c8 Hst1 d1 d2
                    have hpush := hpush_any (Wa.heap.size + 1) Wa.heap.size u rd (x1 : Int) _ Hir7.out.hb hlen Hir7.out.hp
                    have Hpush := Lib.hid hpush
                    clear hpush
                    go_wp2_with fail
                    refine Hpush.out.mono ?_
                    rintro e W9 ⟨rfl, zs, u', p1, p2, p3, p4, p5⟩
                    have Hir9 := Lib.hid (Hir7.out.grow p4 p3 p2)
                    have Hsl9 := Lib.hid (Hsl7.out.keep (Hir7.out.keepS Hsl7.out.own p4))
                    have Hkm9 := Lib.hid (Hst1.out (by simp) zs p1)
                    clear p1 p2 p3 p4 p5
                    go_wp2
                    go_roundw
                    case rel => exact ⟨k + 1, _, _, _, hkme, by go_num, Hkm9, Hir9, Hsl9⟩
                    case measure => simp [intOf]; omega
                  · have hne : (z - 1 == 0) = false := by simpa using hz1
                    have Hkm9 := Lib.hid (Hst2.out hz1)
                    go_wp2
                    go_roundw
                    case rel => exact ⟨k + 1, _, _, _, hkme, by go_num, Hkm9, Hir7, Hsl7⟩
                    case measure => simp [intOf]; omega
                · obtain rfl : k = me := by omega
                  have hki2 := by
                    have := Hkm.out
                    rw [← Hme.out] at this
                    exact this.fin Hgr.out Hsn.out Hrdy.out Hle2.out
                  have Hki2 := Lib.hid hki2
                  have hln : (s ++ [i]).length = ls + 1 := by simp [Hls.out]
                  have Hln := Lib.hid hln
                  clear hki2 hln Hkm
                  go_wp2
                  go_roundw
                  case rel => exact ⟨s ++ [i], _, _, _, _, _, _, by rw [Hln.out], Hki2, Hir, by rw [Hln.out]; exact Hsl⟩
                  case measure => simp [lenS]; omega
end Go.Proofs.Ytopbbihbpalnlaa
