/-
  The walk of Make.
-/
import Derived.Test.YtopbbihbpalnlaaGMake
import Derived.Test.YtopbbihbpalnlaaGSortNil

namespace Go.Proofs.Ytopbbihbpalnlaa
open Go.RowKit Go.Shelf
set_option linter.unusedVariables false
set_option maxRecDepth 100000

/-- The error that does not depend on how many edges are different. -/
def makeE (n : Int) (ps : List (Int × Int)) : Int := if n < 0 then 4 else if 8192 < n then 3 else if inN n ps = false then 4 else 0

set_option maxHeartbeats 400000 in
theorem compact_nil (w : World) : Calls Try.prog 55 #[.slice none 0 0] w fun e w' => e = .returned (.slice none 0 0) ∧ w' = w := by
  go_enter Try.func55, Try.ntmps55
  go_wp2
  go_ret
  exact ⟨rfl, rfl⟩

/-- 'append([]api.Edge(nil), edges...)': a copy, in new memory; nil, if there are none. -/
theorem wpList_append_pairs {w : World} {ops : Array Oper} {rest : List Oper} {o : Oper} {a : Act} {Q : Exit → Act → World → Prop} (hg : o.guard = none) (s x : Operand)
    (hop : o.op = .call { callee := .builtin .append, args := #[s, x], argTypes := #[22, 22] }) (base : Nat) (v : Value) (hs : a.eval s = v) (hown : OwnP w base v []) (ad : Addr) (m c : Nat) (ps : List (Int × Int)) (hm : ps.length = m) (hx : a.eval x = .slice (some ad) m c)
    (hp : Pairs w (some ad) ps) (hlen : ps.length ≤ 100000) (hbase : base ≤ w.heap.size)
    (hK : ∀ v' w', OwnP w' base v' ps → w.grownBy w' v.ownBlock → (v' = .slice none 0 0 ↔ v = .slice none 0 0 ∧ m = 0) → wpList Try.prog ops Q rest (a.put o.dst v') w') : wpList Try.prog ops Q (o :: rest) a w := by
  subst hm
  obtain ⟨i0, hi, hz0, hz1, hz2⟩ := info_parts pair_info
  refine wpList_append_own w hg s x 22 hop base 44 i0 (.agg #[.int .i64 0, .int .i64 0]) 2 16 Try.underlying22 hi hz0 hz1 hz2 rfl (by decide) v 0 [] hs hown ad ps.length c (cellsOf2 ps) hx (length_cellsOf2 ps) ?_ ?_ ?_ ?_ hbase ?_
  · intro j u hj
    have hj2 : j < ps.length * 2 := by
      have := (List.getElem?_eq_some_iff.1 hj).1
      rwa [length_cellsOf2] at this
    obtain ⟨b, off, e, hc⟩ := hp (by omega)
    cases e
    rw [cells2_get ps j hj2] at hj
    cases hj
    have h2 := hc (j / 2) (by omega)
    rw [Addr.add_lit]
    rcases Nat.mod_two_eq_zero_or_one j with e | e
    · rw [if_pos e, ← h2.1]; congr 2; omega
    · rw [if_neg (by omega), ← h2.2]; congr 2; omega
  · intro u hu
    obtain ⟨j, hj, rfl⟩ := List.getElem_of_mem hu
    have h1 := cells2_get ps j (by rwa [length_cellsOf2] at hj)
    rw [List.getElem?_eq_getElem hj] at h1
    rw [Option.some.inj h1]
    rfl
  · unfold maxLen; omega
  · omega
  · intro v' w' h1 h2 h3
    refine hK v' w' ?_ h2 h3
    unfold OwnP
    rw [Nat.zero_add, List.nil_append] at h1
    exact h1

/-- Block B holds the result, a graph. -/
structure QC (w : World) (B : Nat) (u u' : Value) : Prop where
  lt : B < w.heap.size
  c0 : w.cell? ⟨B, 0, none⟩ = some u
  c1 : w.cell? ⟨B, 1, none⟩ = some u'
  f0 : w.frozen? ⟨B, 0, none⟩ = false
  f1 : w.frozen? ⟨B, 1, none⟩ = false
theorem QC.new (w : World) (u u' : Value) (t : TypeId) : QC (w.alloc (.cells #[u, u'] t)) w.heap.size u u' := ⟨by simp, by simp, by simp, by simp, by simp⟩
theorem QC.below {w w' : World} {B D : Nat} {u u' : Value} (h : QC w B u u') (hb : Below D w w') (hD : B < D) : QC w' B u u' :=
  ⟨Nat.lt_of_lt_of_le h.lt hb.size, (hb.cell (p := ⟨B, 0, none⟩) hD).trans h.c0, (hb.cell (p := ⟨B, 1, none⟩) hD).trans h.c1, (hb.frozen (p := ⟨B, 0, none⟩) hD).trans h.f0, (hb.frozen (p := ⟨B, 1, none⟩) hD).trans h.f1⟩
theorem QC.alloc {w : World} {B : Nat} {u u' : Value} (h : QC w B u u') (o : Obj) : QC (w.alloc o) B u u' := h.below ((Below.refl w.heap.size w).alloc (Nat.le_refl _) o) h.lt
theorem QC.set {w : World} {B : Nat} {u u' : Value} (h : QC w B u u') (v v' : Value) : QC ((w.setCell ⟨B, 0, none⟩ v).setCell ⟨B, 1, none⟩ v') B v v' := by
  have hg := grown_trans (grown_setCell w B 0 v) (grown_setCell (w.setCell ⟨B, 0, none⟩ v) B 1 v')
  refine ⟨Nat.lt_of_lt_of_le h.lt hg.size, ?_, ?_, ?_, ?_⟩
  · rw [World.cell?_setCell_other _ _ _ _ (by simp)]
    exact World.cell?_setCell_same' _ _ _ (by rw [h.c0]; rfl)
  · exact World.cell?_setCell_same' _ _ _ (by rw [World.cell?_setCell_other _ _ _ _ (by simp), h.c1]; rfl)
  · rw [World.frozen?_setCell, World.frozen?_setCell]; exact h.f0
  · rw [World.frozen?_setCell, World.frozen?_setCell]; exact h.f1
theorem below_set2 {D : Nat} {w X : World} {B : Nat} (h : Below D w X) (hD : D ≤ B) (u v : Value) : Below D w ((X.setCell ⟨B, 0, none⟩ u).setCell ⟨B, 1, none⟩ v) :=
  (h.setCell (p := ⟨B, 0, none⟩) hD u).setCell (p := ⟨B, 1, none⟩) hD v

theorem sort_at (g c m : Nat) (ps : List (Int × Int)) (hm : ps.length = m) (w : World) (h : RP w g ps) (hn : m ≤ 100000) :
    Calls Try.prog 54 #[.slice (some ⟨g, 0, none⟩) m c, .func (.func 47) #[] #[]] w fun e w' =>
      e = .returned (.tuple #[]) ∧ ∃ qs, RP w' g qs ∧ qs.Perm ps ∧ (∀ i j, i < j → j < m → ltE (qs.getD j (0, 0)) (qs.getD i (0, 0)) = false) ∧ w.grownBy w' (some g) := by
  subst hm; exact sort_any g c ps w h hn
theorem compact_at (g c m : Nat) (ps : List (Int × Int)) (hm : ps.length = m) (w : World) (h : RP w g ps) (hn : m ≤ 100000) (hc : m ≤ c) :
    Calls Try.prog 55 #[.slice (some ⟨g, 0, none⟩) m c] w fun e w' =>
      ∃ q, e = .returned (.slice (some ⟨g, 0, none⟩) q c) ∧ q = (cpt ps m).length ∧ RP w' g (cpt ps m) ∧ w.grownBy w' (some g) := by
  subst hm; exact compact_any g c ps w h hn hc
theorem RP.kept {w w' : World} {g : Nat} {ps : List (Int × Int)} {row : Option Nat} (h : RP w g ps) (hg : w.grownBy w' row) (hne : some g ≠ row) : RP w' g ps :=
  ⟨Nat.lt_of_lt_of_le h.lt hg.size, fun i hi => (hg.cell_far ⟨g, i * 2, none⟩ h.lt hne).trans (h.c0 i hi), fun i hi => (hg.cell_far ⟨g, i * 2 + 1, none⟩ h.lt hne).trans (h.c1 i hi), fun j => (hg.frozen_far ⟨g, j, none⟩ h.lt hne).trans (h.free j)⟩
theorem canon_nil : Canon [] [] := ⟨fun i j _ hj => by simp at hj, fun e => Iff.rfl⟩

/-- What Make returns, er being makeE of its arguments. -/
def MakeEnd (w : World) (n : Int) (ps : List (Int × Int)) (m : Nat) (er : Int) (e : Ending) (w' : World) : Prop :=
  Below w.heap.size w w' ∧ ((er ≠ 0 ∧ e = .returned (.tuple #[.agg #[.int .i64 0, .slice none 0 0], .int .i64 er])) ∨
    (er = 0 ∧ ∃ qs a' c', Canon ps qs ∧ qs.length ≤ m ∧ Edg w' a' c' qs ∧ e = .returned (.tuple #[.agg #[.int .i64 n, .slice a' qs.length c'], .int .i64 0])))

set_option maxHeartbeats 3200000 in
theorem make_any (n : Int) (a : Option Addr) (c : Nat) (ps : List (Int × Int)) (w : World) (hn : ps.length ≤ 32768) (hE : Edg w a c ps) :
    Calls Try.prog 35 #[.int .i64 n, .slice a ps.length c] w (MakeEnd w n ps ps.length (makeE n ps)) := by
  have hb0 := Lib.hid ((Below.refl w.heap.size w).alloc (Nat.le_refl _) (Obj.cells #[Value.int .i64 0, Value.slice none 0 0] 24))
  obtain ⟨er, her⟩ : ∃ er, makeE n ps = er := ⟨_, rfl⟩
  rw [her]
  have Her := Lib.hid her
  obtain ⟨m, hl⟩ : ∃ m, ps.length = m := ⟨_, rfl⟩
  have Hl := Lib.hid hl
  rw [hl] at hn ⊢
  by_cases c1 : n < 0
  · obtain rfl : er = 4 := by rw [← her]; unfold makeE; rw [if_pos c1]
    go_enter Try.func35, Try.ntmps35
    clear hl her
    go_wp2
    refine bodyPost_ret (v := .tuple #[.agg #[.int .i64 0, .slice none 0 0], .int .i64 4]) (by simp [results, Try.results35, go_sem]) rfl ?_
    exact ⟨hb0.out, .inl ⟨by decide, rfl⟩⟩
  by_cases c2 : 8192 < n
  · obtain rfl : er = 3 := by rw [← her]; unfold makeE; rw [if_neg c1, if_pos c2]
    clear hl her
    go_enter Try.func35, Try.ntmps35
    go_wp2
    refine bodyPost_ret (v := .tuple #[.agg #[.int .i64 0, .slice none 0 0], .int .i64 3]) (by simp [results, Try.results35, go_sem]) rfl ?_
    exact ⟨hb0.out, .inl ⟨by decide, rfl⟩⟩
  have hmk : makeE n ps = if inN n ps = false then 4 else 0 := by unfold makeE; rw [if_neg c1, if_neg c2]
  have Hmk := Lib.hid hmk
  have Hp := Lib.hid hE.pairs
  have Hnil := Lib.hid hE.nil
  clear hl her hmk hE
  have Hq0 := Lib.hid (QC.new w (.int .i64 0) (.slice none 0 0) 24)
  go_enter Try.func35, Try.ntmps35
  go_wp2
  go_loopw [17] (fun i wr => ∃ k : Nat, k ≤ m ∧ i = .int .i64 k ∧ (∀ i, i < k → isNd n (ps.getD i (0, 0)).1 = true ∧ isNd n (ps.getD i (0, 0)).2 = true) ∧ Below (w.heap.size + 1) (w.alloc (Obj.cells #[Value.int .i64 0, Value.slice none 0 0] 24)) wr) (fun i _ => m - (intOf i).toNat)
  case atStart => exact ⟨0, Nat.zero_le _, rfl, fun i hi => by omega, Below.refl _ _⟩
  case round =>
    obtain ⟨k, hk, rfl, hin, hb⟩ := hrel
    have Hin := Lib.hid hin
    have hq := Hq0.out.below hb (Nat.lt_succ_self _)
    have Hq := Lib.hid hq
    have hsz : w.heap.size + 1 ≤ wr.heap.size := by have := hb.size; simpa using this
    have Hb := Lib.hid hb
    have Hbw := Lib.hid (hb0.out.trans (hb.mono (Nat.le_succ _)))
    clear hin hb
    by_cases hlt : k < m
    · obtain ⟨b, off, rfl, hcell⟩ := (Hp.out.below Hbw.out (Nat.le_refl _)) (by rw [Hl.out]; omega)
      obtain ⟨hcx, hcy⟩ := hcell k (by rw [Hl.out]; exact hlt)
      obtain ⟨⟨x, y⟩, he⟩ : ∃ e, ps.getD k (0, 0) = e := ⟨_, rfl⟩
      rw [he] at hcx hcy
      have He := Lib.hid he
      clear he hcell hq
      have hqa := fun o => (Hq.out.alloc o)
      have ga0 := fun o => (hqa o).c0
      have ga1 := fun o => (hqa o).c1
      have gf0 := fun o => (hqa o).f0
      have gf1 := fun o => (hqa o).f1
      clear hqa
      by_cases d1 : isNd n x = true
      · by_cases d2 : isNd n y = true
        · go_wp2_with (go_at_call 46; (with_reducible refine Calls.mono (isNode_at n _ _) ?_); rintro e w' ⟨rfl, rfl⟩)
          go_roundw
          case rel => exact ⟨k + 1, by omega, by go_num, fun i hi => by
            by_cases e : i = k
            · subst e; rw [He.out]; exact ⟨d1, d2⟩
            · exact Hin.out i (by omega), Hb.out.alloc hsz _⟩
          case measure => simp [intOf]; omega
        · simp only [Bool.not_eq_true] at d2
          have t := Lib.hid (inN_bad (n := n) (i := k) (by rw [Hl.out]; exact hlt) (.inr (by rw [He.out]; exact d2)))
          obtain rfl : er = 4 := by rw [← Her.out, Hmk.out, if_pos t.out]
          go_wp2_with (go_at_call 46; (with_reducible refine Calls.mono (isNode_at n _ _) ?_); rintro e w' ⟨rfl, rfl⟩)
          have hqf := (Hq.out.alloc (Obj.cells #[Value.int .i64 x, Value.int .i64 y] 44)).set (.int .i64 0) (.slice none 0 0)
          have i0 := hqf.c0
          have i1 := hqf.c1
          refine bodyPost_ret (v := .tuple #[.agg #[.int .i64 0, .slice none 0 0], .int .i64 4]) (by simp [results, Try.results35, go_sem, i0, i1]) rfl ?_
          exact ⟨below_set2 (Hbw.out.alloc (by omega) _) (Nat.le_refl _) _ _, .inl ⟨by decide, rfl⟩⟩
      · simp only [Bool.not_eq_true] at d1
        have t := Lib.hid (inN_bad (n := n) (i := k) (by rw [Hl.out]; exact hlt) (.inl (by rw [He.out]; exact d1)))
        obtain rfl : er = 4 := by rw [← Her.out, Hmk.out, if_pos t.out]
        go_wp2_with (go_at_call 46; (with_reducible refine Calls.mono (isNode_at n _ _) ?_); rintro e w' ⟨rfl, rfl⟩)
        have hqf := (Hq.out.alloc (Obj.cells #[Value.int .i64 x, Value.int .i64 y] 44)).set (.int .i64 0) (.slice none 0 0)
        have i0 := hqf.c0
        have i1 := hqf.c1
        refine bodyPost_ret (v := .tuple #[.agg #[.int .i64 0, .slice none 0 0], .int .i64 4]) (by simp [results, Try.results35, go_sem, i0, i1]) rfl ?_
        exact ⟨below_set2 (Hbw.out.alloc (by omega) _) (Nat.le_refl _) _ _, .inl ⟨by decide, rfl⟩⟩
    · obtain rfl : k = m := by omega
      have hinN : inN n ps = true := inN_iff.2 (by rw [Hl.out]; exact Hin.out)
      obtain rfl : er = 0 := by rw [← Her.out, Hmk.out, if_neg (by rw [hinN]; decide)]
      have hpw := Hp.out.below Hbw.out (Nat.le_refl _)
      have c0 := hq.c0
      have c1' := hq.c1
      have f0 := hq.f0
      have f1 := hq.f1
      by_cases hm0 : k = 0
      · subst hm0
        have hps : ps = [] := List.length_eq_zero_iff.1 Hl.out
        subst hps
        have hfin : ∀ X : World, Below wr.heap.size wr X → MakeEnd w n [] 0 0 (.returned (.tuple #[.agg #[.int .i64 n, .slice none 0 0], .int .i64 0])) ((X.setCell ⟨w.heap.size, 0, none⟩ (.int .i64 n)).setCell ⟨w.heap.size, 1, none⟩ (.slice none 0 0)) := fun X hX =>
          ⟨below_set2 (Hbw.out.trans (hX.mono (by omega))) (Nat.le_refl _) _ _, .inr ⟨rfl, [], none, 0, canon_nil, Nat.le_refl _, ⟨fun h => absurd h (by simp), by simp, by simp, fun _ => rfl⟩, rfl⟩⟩
        have Hfin := Lib.hid hfin
        clear hq hpw hfin
        obtain ⟨e0, he1, he2, he3, he4⟩ := info_parts pair_info
        rcases a with _ | ad
        · obtain rfl := Hnil.out rfl
          have hqf := Hq.out.set (.int .i64 n) (.slice none 0 0)
          have i0 := hqf.c0
          have i1 := hqf.c1
          go_wp2_with (first
            | (at_builtin; refine wpList_append_own_none rfl _ _ 22 rfl wr.heap.size 44 e0 2 Try.underlying22 he1 _ 0 [] rfl (OwnP.nil _ _) rfl ?_)
            | (go_at_call 54; refine (sort_nil _).mono ?_; rintro e w' ⟨rfl, rfl⟩)
            | (go_at_call 55; refine (compact_nil _).mono ?_; rintro e w' ⟨rfl, rfl⟩))
          refine bodyPost_ret (v := .tuple #[.agg #[.int .i64 n, .slice none 0 0], .int .i64 0]) (by simp [results, Try.results35, go_sem, i0, i1]) rfl ?_
          exact Hfin.out _ (Below.refl _ _)
        · clear c0 c1' f0 f1
          go_wp2_with (at_builtin; refine wpList_append_pairs rfl _ _ rfl wr.heap.size _ rfl (OwnP.nil _ _) ad 0 c [] rfl rfl (fun h => absurd h (by simp)) (by simp) (Nat.le_refl _) ?_)
          intro v1 w1 hown1 hg1 hiff
          subst hiff
          have hb1 : Below wr.heap.size wr w1 := (Below.refl _ wr).grown hg1 (Nat.le_refl _) (fun k hk => by cases hk)
          have hq1 := Hq.out.below hb1 (by omega)
          have c0 := hq1.c0
          have c1' := hq1.c1
          have f0 := hq1.f0
          have f1 := hq1.f1
          have hqf := hq1.set (.int .i64 n) (.slice none 0 0)
          have i0 := hqf.c0
          have i1 := hqf.c1
          have Hb1 := Lib.hid hb1
          clear hown1 hg1 hb1 hq1 hqf
          go_wp2_with (first
            | (go_at_call 54; refine (sort_nil _).mono ?_; rintro e w' ⟨rfl, rfl⟩)
            | (go_at_call 55; refine (compact_nil _).mono ?_; rintro e w' ⟨rfl, rfl⟩))
          refine bodyPost_ret (v := .tuple #[.agg #[.int .i64 n, .slice none 0 0], .int .i64 0]) (by simp [results, Try.results35, go_sem, i0, i1]) rfl ?_
          exact Hfin.out _ Hb1.out
      · obtain ⟨b, off, rfl, hcell⟩ := hpw (by rw [Hl.out]; omega)
        have hpw : Pairs wr (some ⟨b, off, none⟩) ps := fun _ => ⟨b, off, rfl, hcell⟩
        have Hpw := Lib.hid hpw
        clear hcell hpw hq
        go_wp2_with (first
          | (at_builtin; refine wpList_append_pairs rfl _ _ rfl wr.heap.size _ rfl (OwnP.nil _ _) ⟨b, off, none⟩ k c ps Hl.out rfl Hpw.out (by rw [Hl.out]; omega) (Nat.le_refl _) ?_)
          | fail)
        intro v1 w1 hown1 hg1 _
        obtain ⟨g, cap, rfl, hcap1, hcap2⟩ : ∃ g cap, v1 = .slice (some ⟨g, 0, none⟩) k cap ∧ k ≤ cap ∧ cap ≤ maxLen := by
          rcases hown1.2 with ⟨_, h0⟩ | ⟨g, cap, cur, hv, _, _, h3, h4, _⟩
          · rw [Hl.out] at h0; omega
          · rw [Hl.out] at hv h3; exact ⟨g, cap, hv, h3, h4⟩
        have hlt1 := World.ownsRow.lt hown1 g rfl
        have hrp1 : RP w1 g ps := OwnP.rp (by rw [Hl.out]; exact hown1)
        have hbg : Hid (Below wr.heap.size wr w1) := (Below.refl _ wr).grown hg1 (Nat.le_refl _) (fun k hk => by cases hk)
        have hgS : w.heap.size + 1 ≤ g := by omega
        clear hown1 hg1
        go_wp2_with fail
        refine (sort_at g cap k ps Hl.out w1 hrp1 (by omega)).mono ?_
        rintro e w2 ⟨rfl, qs, hrp2, hperm, hsort, hg2⟩
        have hql : qs.length = k := by rw [hperm.length_eq, Hl.out]
        have Hql := Lib.hid hql
        have hcan := Lib.hid (canon_cpt hperm (by rw [hql]; exact hsort))
        have hb2 := Lib.hid (hbg.out.grown hg2 (by have := hbg.out.size; omega) (fun j hj => by cases hj; omega))
        clear hsort hperm hql hg2 hrp1
        go_wp2_with fail
        refine (compact_at g cap k qs Hql.out w2 hrp2 (by omega) hcap1).mono ?_
        rintro e w3 ⟨q, rfl, hq3, hrp3, hg3⟩
        have hcan3 := hcan.out
        rw [Hql.out] at hcan3
        have hle := length_cpt qs k
        rw [← hq3] at hle
        have hb3 := Lib.hid (hb2.out.grown hg3 (by have := hb2.out.size; omega) (fun j hj => by cases hj; omega))
        have hqc := Hq.out.below hb3.out (by omega)
        have e0 := hqc.c0
        have e1 := hqc.c1
        have e2 := hqc.f0
        have e3 := hqc.f1
        have hqf := Lib.hid (hqc.set (.int .i64 n) (.slice (some ⟨g, 0, none⟩) q cap))
        have hbf := Lib.hid (below_set2 (B := w.heap.size) (Hbw.out.trans (hb3.out.mono (by omega))) (Nat.le_refl _) (.int .i64 n) (.slice (some ⟨g, 0, none⟩) q cap))
        have hrpf := Lib.hid (hrp3.kept (grown_trans (grown_setCell w3 w.heap.size 0 (.int .i64 n)) (grown_setCell _ w.heap.size 1 (.slice (some ⟨g, 0, none⟩) q cap))) (by simp; omega))
        have Hq3 := Lib.hid hq3
        have Hcan := Lib.hid hcan3
        have hq32 : ¬ 32768 < q := by omega
        clear hrp3 hg3 hqc hrp2 hq3 hcan3 c0 c1' f0 f1
        go_wp2
        have i0 := hqf.out.c0
        have i1 := hqf.out.c1
        refine bodyPost_ret (v := .tuple #[.agg #[.int .i64 n, .slice (some ⟨g, 0, none⟩) q cap], .int .i64 0]) (by simp [results, Try.results35, go_sem, i0, i1]) rfl ?_
        refine ⟨hbf.out, .inr ⟨rfl, cpt qs k, some ⟨g, 0, none⟩, cap, Hcan.out, by rw [← Hq3.out]; exact hle, ⟨hrpf.out.pairs, by rw [← Hq3.out]; omega, hcap2, fun h => by cases h⟩, by rw [← Hq3.out]⟩⟩
end Go.Proofs.Ytopbbihbpalnlaa
