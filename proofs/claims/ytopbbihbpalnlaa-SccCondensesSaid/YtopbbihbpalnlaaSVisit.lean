/-
  The closure of the search for components.
-/
import Derived.Test.YtopbbihbpalnlaaSMem2
import Derived.LoopTactic
import Derived.Deep.AppendLies
namespace Go.Proofs.Ytopbbihbpalnlaa
open Go.RowKit
set_option linter.unusedVariables false
set_option linter.unusedSimpArgs false

/-- A list of different nodes is not longer than there are nodes. -/
theorem nodup_len : ∀ {N : Nat} {l : List Nat}, l.Nodup → (∀ x ∈ l, x < N) → l.length ≤ N
  | 0, l, _, hl => by
    match l with
    | [] => exact Nat.le_refl _
    | x :: r => have := hl x (by simp); omega
  | N + 1, l, h, hl => by
    by_cases hm : N ∈ l
    · have h1 := nodup_len (N := N) (l := l.erase N) (h.erase N) (fun x hx => by
        have h2 := (h.mem_erase_iff).mp hx
        have h3 := hl x h2.2
        have := h2.1
        omega)
      rw [List.length_erase_of_mem hm] at h1
      omega
    · have h1 := nodup_len (N := N) (l := l) h (fun x hx => by
        have h3 := hl x hx
        have : x ≠ N := fun e => hm (e ▸ hx)
        omega)
      omega
theorem Inv.opn_len {N : Nat} {su : Nat → List Nat} {num : Nat → Nat} {s : St} (h : Inv N su num s) : s.opn.length ≤ N := nodup_len h.nodup fun x hx => ((h.opn x).mp hx).1
theorem heads_nodup : ∀ (l : List (List Nat)), (∀ c ∈ l, c ≠ []) → l.Pairwise (fun c d => ∀ x ∈ c, x ∉ d) → (l.map fun c => c.headD 0).Nodup
  | [], _, _ => List.nodup_nil
  | c :: r, hne, hp => by
    rw [List.map_cons, List.nodup_cons]
    obtain ⟨h1, h2⟩ := List.pairwise_cons.mp hp
    refine ⟨fun hm => ?_, heads_nodup r (fun d hd => hne d (by simp [hd])) h2⟩
    obtain ⟨d, hd, e⟩ := List.mem_map.mp hm
    have hc := hne c (by simp)
    have hdn := hne d (by simp [hd])
    match c, d, hc, hdn with
    | x :: _, y :: _, _, _ =>
      simp only [List.headD_cons] at e
      exact h1 _ hd x (by simp) (by simp [e])
theorem Inv.lst_len {N : Nat} {su : Nat → List Nat} {num : Nat → Nat} {s : St} (h : Inv N su num s) : s.lst.length ≤ N := by
  have hn := heads_nodup s.lst (fun c hc => (h.cmp.ne c hc).1) h.cmp.dis
  have := nodup_len hn (N := N) (fun x hx => by
    obtain ⟨c, hc, rfl⟩ := List.mem_map.mp hx
    have hne := (h.cmp.ne c hc).1
    match c, hne with
    | y :: r, _ => exact h.out (show lg s y ≠ 0 by rw [(h.cmp.iff y).mpr ⟨_, hc, by simp⟩]; omega))
  simpa using this
/-- The successors of each node lie where the search finds them. -/
structure SU (w1 : World) (G S N cs : Nat) (su : Nat → List Nat) : Prop where
  box : Boxed w1 S 27 (.slice (some ⟨G, 0, none⟩) N cs)
  lt : G < S
  row : ∀ v, v < N → ∃ a c, w1.cell? ⟨G, v, none⟩ = some (.slice a (su v).length c) ∧ (0 < (su v).length → ∃ b off, a = some ⟨b, off, none⟩ ∧ b < S ∧ ∀ i, i < (su v).length → w1.cell? ⟨b, off + i, none⟩ = some (.int .i64 (((su v).getD i 0 : Nat) : Int)))
  short : ∀ v, v < N → (su v).length ≤ 100000
theorem Fix.cell {w1 W : World} {n1 C O R T : Nat} (h : Fix w1 W n1 C O R T) (p : Addr) (h1 : p.block < n1) (h2 : p.block ≠ C) (h3 : p.block ≠ O) (h4 : p.block ≠ R) (h5 : p.block ≠ T) : W.cell? p = w1.cell? p := by
  have := h.block p.block h1 h2 h3 h4 h5
  unfold World.cell?
  rw [this]
structure Cap (w1 : World) (S R B K T O C V n1 N : Nat) : Prop where
  b : Boxed w1 B 31 (.slice (some ⟨R, 0, none⟩) N N)
  k : Boxed w1 K 3 (.int .i64 ((N + 1 : Nat) : Int))
  v : Boxed w1 V 66 (.func (.func 51) #[] #[.pointer (some ⟨C, 0, none⟩), .pointer (some ⟨O, 0, none⟩), .pointer (some ⟨B, 0, none⟩), .pointer (some ⟨S, 0, none⟩), .pointer (some ⟨V, 0, none⟩), .pointer (some ⟨K, 0, none⟩), .pointer (some ⟨T, 0, none⟩)])
def VE (w1 : World) (S R T O C n1 N : Nat) (st : St) (e : Ending) (W' : World) : Prop := e = .returned (.tuple #[]) ∧ ∃ uo ul vs, TS w1 W' S R T O C n1 N uo ul vs st
def srt (l : List Nat) : List Nat := l.mergeSort fun x y => decide (x ≤ y)
/-- 'open = append(open, v)'. -/
theorem wpList_append_at {w : World} {ops : Array Oper} {rest : List Oper} {o : Oper} {a : Act} {Q : Exit → Act → World → Prop} (hg : o.guard = none) (s x : Operand)
    (hop : o.op = .call { callee := .builtin .append, args := #[s, x], argTypes := #[31, 31] }) (base : Nat) (v : Value) (zs : List Int) (hs : a.eval s = v) (hown : Own w base v zs)
    (B : Nat) (z : Int) (hx : a.eval x = .slice (some ⟨B, 0, none⟩) 1 1) (hc : w.cell? ⟨B, 0, none⟩ = some (.int .i64 z)) (n : Nat) (hn : zs.length = n) (hlen : n ≤ 100000) (hbase : base ≤ w.heap.size)
    (hK : ∀ g cap w', Own w' base (.slice (some ⟨g, 0, none⟩) (n + 1) cap) (zs ++ [z]) → w.grownBy w' v.ownBlock → (v.ownBlock = some g ∨ g = w.heap.size) → wpList Try.prog ops Q rest (a.put o.dst (.slice (some ⟨g, 0, none⟩) (n + 1) cap)) w') : wpList Try.prog ops Q (o :: rest) a w := by
  subst hn
  obtain ⟨i0, hi, hz0, hz1, hz2⟩ := info_parts int_info
  refine wpList_append_lies w hg s x 31 hop base 3 i0 (.int .i64 0) 1 8 Try.underlying31 hi hz0 hz1 hz2 rfl (by decide) v zs.length (zs.map (.int .i64)) hs hown ⟨B, 0, none⟩ 1 1 [.int .i64 z] hx rfl ?_ ?_ (by decide) ?_ (by omega) hbase _ rfl ?_
  · intro j u hj
    match j, hj with
    | 0, hj => simp at hj; subst hj; simpa [Addr.add] using hc
  · intro u hu; simp at hu; subst hu; rfl
  · unfold maxLen; omega
  · intro g cap w' h1 h2 h3 _
    refine hK g cap w' ?_ h2 h3
    unfold Own
    rw [List.length_append, List.map_append]
    exact h1
theorem ge_of_at {g n : Nat} (h : (Value.slice none 0 0).ownBlock = some g ∨ g = n) : n ≤ g := by rcases h with e | e; (simp [Value.ownBlock] at e); omega
theorem own_of_row {w : World} {n1 q cap : Nat} {ad : Option Addr} {cp : List Nat} (h : w.ownsRow n1 3 1 (.slice ad (0 + q) cap) (0 + q) ([] ++ (ni cp).map (Value.int .i64))) (e : cp.length = q) : Own w n1 (.slice ad q cap) (ni cp) := by subst e; unfold Own; rw [ni_len]; simpa using h
theorem cut_at {w1 W : World} {S R B K T O C V n1 N g0 cap p q : Nat} {ul : Value} {vs : List Value} {st : St} (h : TS w1 W S R T O C n1 N (.slice (some ⟨g0, 0, none⟩) (p + q) cap) ul vs st) (l : LD S R B K T O C V n1) (e : st.opn.length = p + q) : TS w1 (W.setCell ⟨O, 0, none⟩ (.slice (some ⟨g0, 0, none⟩) p cap)) S R T O C n1 N (.slice (some ⟨g0, 0, none⟩) p cap) ul vs { st with opn := st.opn.take p } := by rw [← e] at h; exact h.cut l (by omega)
theorem own_at {w : World} {n1 g q cap : Nat} {zs : List Int} (h : Own w n1 (.slice (some ⟨g, 0, none⟩) q cap) zs) {i : Nat} (hi : i < zs.length) : w.cell? ⟨g, i, none⟩ = some (.int .i64 (zs.getD i 0)) := by
  obtain ⟨a, c, e, hz⟩ := h.shape
  injection e with e1 _ _
  subst e1
  obtain ⟨b2, off2, e2, hc⟩ := hz (by omega)
  injection e2 with e2
  injection e2 with e3 e4 _
  subst e3; subst e4
  have := hc i hi
  rwa [Nat.zero_add] at this
theorem setAll_take (c : Nat) (cp l : List Nat) (j : Nat) (h : j < cp.length) : setAll c (cp.take (j + 1)) l = (setAll c (cp.take j) l).set (cp.getD j 0) c := by
  unfold setAll
  rw [List.take_add_one, List.foldl_append, List.getElem?_eq_getElem h]
  simp [List.getD, h]
theorem ni_srt (l : List Nat) : (ni l).mergeSort (fun x y => decide (x ≤ y)) = ni (srt l) := by
  unfold ni srt
  rw [List.map_mergeSort (s := fun x y : Int => decide (x ≤ y))]
  intro a _ b _
  simp
theorem wpList_append_sl {w : World} {ops : Array Oper} {rest : List Oper} {o : Oper} {a : Act} {Q : Exit → Act → World → Prop} (hg : o.guard = none) (s x : Operand)
    (hop : o.op = .call { callee := .builtin .append, args := #[s, x], argTypes := #[27, 27] }) (base : Nat) (v : Value) (vs : List Value) (hs : a.eval s = v) (hown : OwnS w base v vs)
    (B : Nat) (u : Value) (hu : u.oneCell' = true) (hx : a.eval x = .slice (some ⟨B, 0, none⟩) 1 1) (hc : w.cell? ⟨B, 0, none⟩ = some u) (hlen : vs.length ≤ 100000) (hbase : base ≤ w.heap.size)
    (hK : ∀ G cap w', OwnS w' base (.slice (some ⟨G, 0, none⟩) (vs.length + 1) cap) (vs ++ [u]) → w.grownBy w' v.ownBlock → (v.ownBlock = some G ∨ G = w.heap.size) → wpList Try.prog ops Q rest (a.put o.dst (.slice (some ⟨G, 0, none⟩) (vs.length + 1) cap)) w') : wpList Try.prog ops Q (o :: rest) a w := by
  obtain ⟨i0, hi, hz0, hz1, hz2⟩ := info_parts ss_info
  refine wpList_append_lies w hg s x 27 hop base 31 i0 (.slice none 0 0) 1 24 Try.underlying27 hi hz0 hz1 hz2 rfl (by decide) v vs.length vs hs hown ⟨B, 0, none⟩ 1 1 [u] hx rfl ?_ ?_ (by decide) ?_ (by omega) hbase _ rfl ?_
  · intro j z hj
    match j, hj with
    | 0, hj => simp at hj; subst hj; simpa [Addr.add] using hc
  · intro z hz; simp at hz; subst hz; exact hu
  · unfold maxLen; omega
  · intro G cap w' h1 h2 h3 _
    refine hK G cap w' ?_ h2 h3
    unfold OwnS
    rw [List.length_append]
    exact h1
theorem min_if (a b : Nat) : (if b < a then (b : Int) else (a : Int)) = ((min a b : Nat) : Int) := by split <;> omega
theorem srt_perm (l : List Nat) : (srt l).Perm l := List.mergeSort_perm l _
set_option maxHeartbeats 8000000 in
set_option maxRecDepth 100000 in
theorem visit_step (w1 : World) (S R B K T O C V n1 N G cs : Nat) (su : Nat → List Nat) (l : LD S R B K T O C V n1) (hsu : ∀ x, ∀ y ∈ su x, y < N) (hN : N ≤ 8192) (hS : SU w1 G S N cs su) (hC : Cap w1 S R B K T O C V n1 N) (hSort : ∀ (base : Nat) (u : Value) (zs : List Int) (w : World), Own w base u zs → zs.length ≤ 100000 → Calls Try.prog 52 #[u] w fun e w' => e = .returned (.tuple #[]) ∧ Own w' base u (zs.mergeSort fun x y => decide (x ≤ y)) ∧ w.grownBy w' u.ownBlock) (b : Nat)
    (IH : ∀ (num : Nat → Nat) (v : Nat) (st : St) (uo ul : Value) (vs : List Value) (W : World), TS w1 W S R T O C n1 N uo ul vs st → Inv N su num st → v < N → lg st v = 0 → (∀ x ∈ st.opn, Rc su x v) → wh N st ≤ b →
      Calls Try.prog 51 #[.int .i64 v, .pointer (some ⟨C, 0, none⟩), .pointer (some ⟨O, 0, none⟩), .pointer (some ⟨B, 0, none⟩), .pointer (some ⟨S, 0, none⟩), .pointer (some ⟨V, 0, none⟩), .pointer (some ⟨K, 0, none⟩), .pointer (some ⟨T, 0, none⟩)] W (VE w1 S R T O C n1 N (sccV N su srt b v st)))
    (num : Nat → Nat) (v : Nat) (st : St) (uo ul : Value) (vs : List Value) (W : World) (hT : TS w1 W S R T O C n1 N uo ul vs st) (hI : Inv N su num st) (hv : v < N) (h0 : lg st v = 0) (hR : ∀ x ∈ st.opn, Rc su x v) (hb : wh N st ≤ b + 1) :
    Calls Try.prog 51 #[.int .i64 v, .pointer (some ⟨C, 0, none⟩), .pointer (some ⟨O, 0, none⟩), .pointer (some ⟨B, 0, none⟩), .pointer (some ⟨S, 0, none⟩), .pointer (some ⟨V, 0, none⟩), .pointer (some ⟨K, 0, none⟩), .pointer (some ⟨T, 0, none⟩)] W (VE w1 S R T O C n1 N (sccV N su srt (b + 1) v st)) := by
  obtain ⟨i0, hi, hz0, hz1, hz2⟩ := info_parts int_info
  have a1 := l.a1; have a2 := l.a2; have a3 := l.a3; have a4 := l.a4; have a5 := l.a5; have a6 := l.a6; have a7 := l.a7; have a8 := l.a8
  have hm := opened_mid hI hv h0 hR
  have hcN : st.cnt + 1 ≤ N := by have h1 := hm.inv.room; have h2 : (opened st v).cnt = st.cnt + 1 := rfl; omega
  have hol := hI.opn_len
  obtain ⟨k, hk⟩ : ∃ k, st.cnt = k := ⟨_, rfl⟩
  obtain ⟨p, hp⟩ : ∃ p, st.opn.length = p := ⟨_, rfl⟩
  obtain ⟨ao, co, rfl, _⟩ := hT.ow.shape
  rw [ni_len, hp] at hT
  have T1 := hT.count l (k + 1)
  rw [Int.natCast_succ] at T1
  have c0 := hT.cb.cell
  have f0 := hT.cb.frozen
  rw [hk] at c0 hcN
  rw [hp] at hol
  have cC := T1.cb.cell
  have cO := T1.ob.cell
  have HT1 := Lib.hid T1
  have Hm := Lib.hid hm
  have HIH := Lib.hid IH
  have Hk := Lib.hid hk
  have Hp := Lib.hid hp
  have Hrch := Lib.hid hR
  have Hwh : Hid (wh N (opened st v) ≤ b) := by
    have h1 : wh N (opened st v) + 1 ≤ wh N st := wh_lt (fun x hx => by rw [opened_lg hI hv]; split; omega; exact hx) hv h0 (by rw [opened_lg hI hv, if_pos rfl]; omega)
    show _ ≤ b
    omega
  have HI := Lib.hid hI
  clear hT T1 hm IH hk hp hI h0 hR hb
  go_enter Try.func51, Try.ntmps51
  go_wp2
  generalize hW2 : W.setCell ⟨C, 0, none⟩ (.int .i64 ((k : Int) + 1)) = W2 at *
  go_quiet (fail)
  have T3 := HT1.out.drewN nq
  generalize hW3 : W2.drewN nq = W3 at *
  clear hW3 c0 f0 cC cO
  have cB := (T3.fx.cell ⟨B, 0, none⟩ (by show B < n1; omega) (by show B ≠ C; omega) (by show B ≠ O; omega) (by show B ≠ R; omega) (by show B ≠ T; omega)).trans hC.b.cell
  have hvl : v < (ni st.least).length := by rw [ni_len, T3.ln]; exact hv
  have cR := T3.rr.cell hvl
  have fR := T3.rr.free v
  have T4 := T3.mark l v (k + 1)
  rw [Int.natCast_succ] at T4
  generalize hW4 : W3.setCell ⟨R, v, none⟩ (.int .i64 ((k : Int) + 1)) = W4 at *
  have cO4 := T4.ob.cell
  have cS4 := (T4.fx.cell ⟨S, 0, none⟩ (by show S < n1; omega) (by show S ≠ C; omega) (by show S ≠ O; omega) (by show S ≠ R; omega) (by show S ≠ T; omega)).trans hS.box.cell
  have hz4 := T4.sz
  have HT4 := Lib.hid T4
  clear T3 T4
  obtain ⟨m, hm⟩ : ∃ m, (su v).length = m := ⟨_, rfl⟩
  obtain ⟨ar, cr, hrow, hrd⟩ := hS.row v hv
  have hsh := hS.short v hv
  have hGS := hS.lt
  rw [hm] at hrow hrd hsh
  have Hm2 := Lib.hid hm
  have Hrd := Lib.hid hrd
  clear hm hrd cO4 cS4
  have cO4 := HT4.out.ob.cell
  go_wp2_with (at_builtin; refine wpList_append_at rfl _ _ rfl n1 _ (ni st.opn) rfl (HT4.out.ow.alloc _) _ (v : Int) rfl (by simp [go_sem]) p (by rw [ni_len]; exact Hp.out) (by omega) (by simp; omega) ?_; intro g cap w5 hown5 hg5 hat5; have hg6 : (W4.alloc (Obj.cells #[Value.int IntKind.i64 (v : Int)] 3)).grownBy w5 (Value.slice ao p co).ownBlock := hg5; have hat6 : (Value.slice ao p co).ownBlock = some g ∨ W4.heap.size ≤ g := hat5.elim .inl (fun e => .inr (by rw [e, World.size_alloc]; omega)); obtain ⟨T6, hc5, hf5⟩ := HT4.out.push (v := v) l (by rw [show ({ st with cnt := k + 1, least := st.least.set v (k + 1) } : St).opn.length = p from Hp.out]; exact hown5) hg6 hat6; rw [show ({ st with cnt := k + 1, least := st.least.set v (k + 1) } : St).opn.length = p from Hp.out] at T6; clear hown5 hg5 hat5 hg6 hat6; generalize hW6 : w5.setCell ⟨O, 0, none⟩ (.slice (some ⟨g, 0, none⟩) (p + 1) cap) = W6 at T6; have cS6 := (T6.fx.cell ⟨S, 0, none⟩ (by show S < n1; omega) (by show S ≠ C; omega) (by show S ≠ O; omega) (by show S ≠ R; omega) (by show S ≠ T; omega)).trans hS.box.cell; have cG6 := (T6.fx.cell ⟨G, v, none⟩ (by show G < n1; omega) (by show G ≠ C; omega) (by show G ≠ O; omega) (by show G ≠ R; omega) (by show G ≠ T; omega)).trans hrow; have HT6 := Lib.hid T6; clear T6)
  have TO : Hid (TS w1 W6 S R T O C n1 N (.slice (some ⟨g, 0, none⟩) (p + 1) cap) ul vs (opened st v)) := by
    have := HT6.out
    rw [← Hk.out] at this
    exact this
  clear cS6 cG6 hc5 hf5 cB cR fR
  go_loopw [34] (fun x W => ∃ (i : Nat) (t : St) (num' : Nat → Nat) (ext : List Nat) (uo ul : Value) (vs : List Value), x = .int .i64 i ∧ i ≤ m ∧ Hid (TS w1 W S R T O C n1 N uo ul vs t) ∧ Hid (Mid N su num st v ((su v).take i) t num' ext) ∧ Hid (((su v).take i).foldl (childStep (sccV N su srt b) v) (opened st v) = t)) (fun x _ => m - (intOf x).toNat)
  case atStart => exact ⟨0, opened st v, _, [], _, _, _, rfl, Nat.zero_le _, TO, by rw [List.take_zero]; exact Hm, by rw [List.take_zero]; rfl⟩
  case round =>
    obtain ⟨i, t, num', ext, uo2, ul2, vs2, rfl, hi1, hts, hmid, hfold⟩ := hrel
    by_cases hlt : i < m
    · obtain ⟨bb, off, rfl, hbS, hrc⟩ := Hrd.out (by omega)
      obtain ⟨x, hx⟩ : ∃ x, (su v).getD i 0 = x := ⟨_, rfl⟩
      have hil : i < (su v).length := by rw [Hm2.out]; exact hlt
      have hxe : (su v)[i] = x := by rw [← hx]; simp [List.getD, hil]
      have hxm : x ∈ su v := by rw [← hxe]; exact List.getElem_mem hil
      have hxN := hsu v x hxm
      have htake : (su v).take (i + 1) = (su v).take i ++ [x] := by rw [List.take_add_one, List.getElem?_eq_getElem hil, hxe]; rfl
      have hci := hrc i hlt
      rw [hx] at hci
      have T7 := hts.out
      have ci := (T7.fx.cell ⟨bb, off + i, none⟩ (by show bb < n1; omega) (by show bb ≠ C; omega) (by show bb ≠ O; omega) (by show bb ≠ R; omega) (by show bb ≠ T; omega)).trans hci
      have cB := (T7.fx.cell ⟨B, 0, none⟩ (by show B < n1; omega) (by show B ≠ C; omega) (by show B ≠ O; omega) (by show B ≠ R; omega) (by show B ≠ T; omega)).trans hC.b.cell
      have hxl : x < (ni t.least).length := by rw [ni_len, T7.ln]; exact hxN
      have cX := T7.rr.cell hxl
      rw [ni_at] at cX
      obtain ⟨y, hy⟩ : ∃ y, t.least.getD x 0 = y := ⟨_, rfl⟩
      rw [hy] at cX
      have hstep := hmid.out.step hxm hxN Hrch.out (sccV N su srt b) (fun h0 => sccV_post srt_perm hsu b num' t x hmid.out.inv hxN h0 (fun z hz => (hmid.out.reach Hrch.out z hz).tail hxm) (by have := wh_le (N := N) hmid.out.seen; have := Hwh.out; omega))
      obtain ⟨num2, ext2, hm2⟩ := hstep
      rw [← htake] at hm2
      have Hm3 := Lib.hid hm2
      have hf2 : Hid (((su v).take (i + 1)).foldl (childStep (sccV N su srt b) v) (opened st v) = childStep (sccV N su srt b) v t x) := by show _ = _; rw [htake, List.foldl_append, hfold.out]; rfl
      have Hy : Hid (lg t x = y) := hy
      have hvN := hv
      clear hm2 hrc hx hxe htake hci hil hy
      by_cases hy0 : y = 0
      · have e0 : ((y : Int) == 0) = true := by simp; omega
        have cV := (T7.fx.cell ⟨V, 0, none⟩ (by show V < n1; omega) (by show V ≠ C; omega) (by show V ≠ O; omega) (by show V ≠ R; omega) (by show V ≠ T; omega)).trans hC.v.cell
        have hcall := HIH.out num' x t uo2 ul2 vs2 wr T7 hmid.out.inv hxN (by rw [Hy.out]; exact hy0) (fun z hz => (hmid.out.reach Hrch.out z hz).tail hxm) (by have := wh_le (N := N) hmid.out.seen; have := Hwh.out; omega)
        have Hcall := Lib.hid hcall
        have hch : Hid (childStep (sccV N su srt b) v t x = { sccV N su srt b x t with least := (sccV N su srt b x t).least.set v (min (lg (sccV N su srt b x t) v) (lg (sccV N su srt b x t) x)) }) := by
          show _ = _
          unfold childStep
          rw [Hy.out, hy0]
          rfl
        obtain ⟨s1, hs1⟩ : ∃ s1, sccV N su srt b x t = s1 := ⟨_, rfl⟩
        rw [hs1] at hch Hcall
        clear T7 hcall hs1
        go_wp2_with fail
        refine Hcall.out.mono ?_
        rintro e w7 ⟨rfl, uo3, ul3, vs3, T8⟩
        have cB8 := (T8.fx.cell ⟨B, 0, none⟩ (by show B < n1; omega) (by show B ≠ C; omega) (by show B ≠ O; omega) (by show B ≠ R; omega) (by show B ≠ T; omega)).trans hC.b.cell
        have hxl8 : x < (ni s1.least).length := by rw [ni_len, T8.ln]; exact hxN
        have hvl8 : v < (ni s1.least).length := by rw [ni_len, T8.ln]; exact hvN
        have cX8 := T8.rr.cell hxl8
        have cV8 := T8.rr.cell hvl8
        rw [ni_at] at cX8 cV8
        have fV8 := T8.rr.free v
        have T9 := (T8.drewN 1).mark l v (min (lg s1 v) (lg s1 x))
        obtain ⟨p1, hp1⟩ : ∃ q, lg s1 v = q := ⟨_, rfl⟩
        obtain ⟨p2, hp2⟩ : ∃ q, lg s1 x = q := ⟨_, rfl⟩
        rw [hp1, hp2] at T9
        have hp1' : s1.least.getD v 0 = p1 := hp1
        have hp2' : s1.least.getD x 0 = p2 := hp2
        rw [hp1'] at cV8
        rw [hp2'] at cX8
        have hcst : Hid (childStep (sccV N su srt b) v t x = { s1 with least := s1.least.set v (min p1 p2) }) := by show _ = _; rw [hch.out, hp1, hp2]
        have HT9 := Lib.hid T9
        clear T8 T9 hp1 hp2 hp1' hp2' cB ci cX cV
        go_wp2
        refine wp_region_tail 12 (by kernel_rfl) (by kernel_rfl) ?_
        simp only [List.take_succ_cons, List.take_zero, List.drop_succ_cons, List.drop_zero, World.drew_is_drewN]
        repeat still_step
        refine wpStill_nil ?_
        go_wp2
        go_roundw
        case rel => exact ⟨i + 1, _, num2, _, uo3, ul3, vs3, by go_num, hlt, by show TS _ _ _ _ _ _ _ _ _ _ _ _ _; rw [hcst.out, min_if]; exact HT9.out, Hm3, hf2⟩
        case measure => simp [intOf]; omega
      · have e0 : ((y : Int) == 0) = false := by simp; omega
        have hch : Hid (childStep (sccV N su srt b) v t x = { t with least := t.least.set v (min (lg t v) (lg t x)) }) := by
          show _ = _
          unfold childStep
          rw [if_neg (by rw [Hy.out]; exact hy0)]
        clear T7
        have T8 := hts.out
        have hvl8 : v < (ni t.least).length := by rw [ni_len, T8.ln]; exact hvN
        have cV8 := T8.rr.cell hvl8
        rw [ni_at] at cV8
        have fV8 := T8.rr.free v
        have T9 := (T8.drewN 1).mark l v (min (lg t v) (lg t x))
        obtain ⟨p1, hp1⟩ : ∃ q, lg t v = q := ⟨_, rfl⟩
        have hp1' : t.least.getD v 0 = p1 := hp1
        rw [hp1'] at cV8
        rw [hp1, Hy.out] at T9
        have hcst : Hid (childStep (sccV N su srt b) v t x = { t with least := t.least.set v (min p1 y) }) := by show _ = _; rw [hch.out, hp1, Hy.out]
        have HT9 := Lib.hid T9
        clear T8 T9 hp1 hp1'
        go_wp2
        refine wp_region_tail 12 (by kernel_rfl) (by kernel_rfl) ?_
        simp only [List.take_succ_cons, List.take_zero, List.drop_succ_cons, List.drop_zero, World.drew_is_drewN]
        repeat still_step
        refine wpStill_nil ?_
        go_wp2
        go_roundw
        case rel => exact ⟨i + 1, _, num2, _, uo2, ul2, vs2, by go_num, hlt, by show TS _ _ _ _ _ _ _ _ _ _ _ _ _; rw [hcst.out, min_if]; exact HT9.out, Hm3, hf2⟩
        case measure => simp [intOf]; omega
    · obtain rfl : i = m := by omega
      have hfull : (su v).take i = su v := List.take_of_length_le (by rw [Hm2.out]; exact Nat.le_refl _)
      rw [hfull] at hmid hfold
      have T7 := hts.out
      have cB := (T7.fx.cell ⟨B, 0, none⟩ (by show B < n1; omega) (by show B ≠ C; omega) (by show B ≠ O; omega) (by show B ≠ R; omega) (by show B ≠ T; omega)).trans hC.b.cell
      have hvl7 : v < (ni t.least).length := by rw [ni_len, T7.ln]; exact hv
      have cV := T7.rr.cell hvl7
      rw [ni_at] at cV
      obtain ⟨y, hy⟩ : ∃ y, lg t v = y := ⟨_, rfl⟩
      have hy' : t.least.getD v 0 = y := hy
      rw [hy'] at cV
      by_cases hlow : y < k + 1
      · have hgo : Hid (sccV N su srt (b + 1) v st = t) := by
          show _ = _
          rw [sccV, hfold.out, if_pos (by rw [hy, Hk.out]; exact hlow)]
        have e0 : decide ((y : Int) < (k : Int) + 1) = true := by simp; omega
        clear T7 hy hy'
        go_wp2
        go_end0
        exact ⟨rfl, uo2, ul2, vs2, by rw [hgo.out]; exact hts.out⟩
      · have e0 : decide ((y : Int) < (k : Int) + 1) = false := by simp; omega
        have hgo : Hid (sccV N su srt (b + 1) v st = popped N srt p t) := by
          show _ = _
          rw [sccV, hfold.out, if_neg (by rw [hy, Hk.out]; exact hlow), Hp.out]
        have hopn := hmid.out.opn
        have holen : t.opn.length = p + (1 + ext.length) := by rw [hopn, List.length_append, Hp.out, List.length_cons]; omega
        have hoN := hmid.out.inv.opn_len
        have hlN := hmid.out.inv.lst_len
        obtain ⟨g0, cap0, huo, hcap0⟩ : ∃ g0 cap0, uo2 = .slice (some ⟨g0, 0, none⟩) t.opn.length cap0 ∧ t.opn.length ≤ cap0 := by
          rcases T7.ow.2 with ⟨_, h2⟩ | ⟨g0, cap0, cur, h1, _, _, h2, _⟩
          · rw [ni_len] at h2; omega
          · rw [ni_len] at h1 h2; exact ⟨g0, cap0, h1, h2⟩
        subst huo
        obtain ⟨q, hq⟩ : ∃ q, 1 + ext.length = q := ⟨_, rfl⟩
        rw [hq] at holen
        obtain ⟨cp, hcp⟩ : ∃ cp, t.opn.drop p = cp := ⟨_, rfl⟩
        have hcpl : cp.length = q := by rw [← hcp, List.length_drop, holen]; omega
        have hcN : ∀ z ∈ cp, z < N := fun z hz => ((hmid.out.inv.opn z).mp (by rw [← hcp] at hz; exact List.mem_of_mem_drop hz)).1
        have hints : ∀ i, i < p + q → wr.cell? ⟨g0, i, none⟩ = some (.int .i64 ((ni t.opn).getD i 0)) := by
          rw [← holen]
          obtain ⟨a, c, e, hz⟩ := T7.ow.shape
          injection e with e1 _ _
          subst e1
          obtain ⟨b2, off2, e2, hc⟩ := hz (by rw [ni_len]; omega)
          injection e2 with e2
          injection e2 with e3 e4 _
          subst e3; subst e4
          intro i hi
          have := hc i (by rw [ni_len]; exact hi)
          rwa [Nat.zero_add] at this
        have hnews : ∀ j u, ((ni cp).map (Value.int .i64))[j]? = some u → wr.cell? ((⟨g0, p, none⟩ : Addr).add j) = some u := fun j u hj => by
          rw [List.getElem?_map] at hj
          obtain ⟨z, hz, rfl⟩ := Option.map_eq_some_iff.mp hj
          have h2 : (ni t.opn)[p + j]? = some z := by
            rw [← hcp] at hz
            unfold ni at hz ⊢
            rw [List.map_drop, List.getElem?_drop] at hz
            exact hz
          have hlt : p + j < p + q := by have := (List.getElem?_eq_some_iff.mp h2).1; rwa [ni_len, holen] at this
          have hadd : (⟨g0, p, none⟩ : Addr).add j = ⟨g0, p + j, none⟩ := by unfold Addr.add; split <;> simp_all
          rw [hadd, hints _ hlt]
          simp [List.getD_eq_getElem?_getD, h2]
        have Hnews := Lib.hid hnews
        rw [holen] at T7 hcap0 hoN
        have cO := T7.ob.cell
        have fO := T7.ob.frozen
        have hcapne : ¬ cap0 = p := by omega
        have HT7 := Lib.hid T7
        have hszw := T7.sz
        have HcN := Lib.hid hcN
        have Hcp := Lib.hid hcp
        have Hcpl := Lib.hid hcpl
        have Holen := Lib.hid holen
        have hq0 : 0 < q := by omega
        have hqN : q ≤ 8192 := by omega
        clear T7 hy hy' hopn hnews hcN hcp hcpl hfull hints holen hq
        have hnl : ((ni cp).map (Value.int .i64)).length = q * 1 := by rw [List.length_map, ni_len, Nat.mul_one]; exact Hcpl.out
        have hnc : ∀ u ∈ (ni cp).map (Value.int .i64), u.oneCell' = true := fun u hu => by obtain ⟨z, _, rfl⟩ := List.mem_map.mp hu; rfl
        have Hnl := Lib.hid hnl
        have Hnc := Lib.hid hnc
        have hmx : (0 + q : Nat) ≤ maxLen := by unfold maxLen; omega
        clear hnl hnc
        go_wp2_with (at_builtin; refine wpList_append_lies _ rfl _ _ 31 rfl n1 3 i0 (.int .i64 0) 1 8 Try.underlying31 hi hz0 hz1 hz2 rfl (by decide) _ _ _ rfl (World.ownsRow_nil _ _ _ _) _ q _ ((ni cp).map (Value.int .i64)) rfl Hnl.out Hnews.out Hnc.out hq0 hmx (by omega) hszw _ rfl ?_; intro g1 cap1 w7 ho7 hg7 hat7 hlt7; have hge7 : wr.heap.size ≤ g1 := ge_of_at hat7; have Fr7 := Lib.hid (HT7.out.fresh hge7); have T8 := HT7.out.grow l hg7 (fun r e => nomatch e); have HO7 := Lib.hid (own_of_row ho7 Hcpl.out); have cO8 := T8.ob.cell; have fO8 := T8.ob.frozen; have HT8 := Lib.hid T8; clear T8 ho7 hat7 hg7 cO fO HT7 hge7)
        have T9 := cut_at HT8.out l Holen.out
        generalize hW9 : w7.setCell ⟨O, 0, none⟩ (.slice (some ⟨g0, 0, none⟩) p cap0) = W9 at *
        have HO9 : Hid (Own W9 n1 (.slice (some ⟨g1, 0, none⟩) q cap1) (ni cp)) := by show Own _ _ _ _; rw [← hW9]; exact World.ownsRow.kept HO7.out (grown_setCell w7 O 0 _) (row_far HO7.out (by omega))
        have Fr9 : Hid (FrB n1 g1 (Value.slice (some ⟨g0, 0, none⟩) p cap0) ul2 vs2 t.lst.length) := ⟨Fr7.out.ge, Fr7.out.o, Fr7.out.l, Fr7.out.r⟩
        have HT9 : Hid (TS w1 W9 S R T O C n1 N (.slice (some ⟨g0, 0, none⟩) p cap0) ul2 vs2 { t with opn := t.opn.take p, least := setAll (N + 1) (cp.take 0) t.least }) := by rw [List.take_zero]; exact T9
        clear T9 HT8 HO7 Fr7 cO8 fO8 hW9
        go_loopw [74] (fun x W => ∃ (j : Nat), x = .int .i64 j ∧ j ≤ q ∧ Hid (TS w1 W S R T O C n1 N (.slice (some ⟨g0, 0, none⟩) p cap0) ul2 vs2 { t with opn := t.opn.take p, least := setAll (N + 1) (cp.take j) t.least }) ∧ Hid (Own W n1 (.slice (some ⟨g1, 0, none⟩) q cap1) (ni cp))) (fun x _ => q - (intOf x).toNat)
        case atStart => exact ⟨0, rfl, Nat.zero_le _, HT9, HO9⟩
        case round =>
          obtain ⟨j, rfl, hj1, htj, hoj⟩ := hrel
          by_cases hjq : j < q
          · have hjl : j < (ni cp).length := by rw [ni_len, Hcpl.out]; exact hjq
            have cp1 := own_at hoj.out hjl
            rw [ni_at] at cp1
            obtain ⟨x, hx⟩ : ∃ x, cp.getD j 0 = x := ⟨_, rfl⟩
            rw [hx] at cp1
            have hxN : x < N := HcN.out x (by rw [← hx, List.getD_eq_getElem?_getD, List.getElem?_eq_getElem (by rw [Hcpl.out]; exact hjq)]; exact List.getElem_mem _)
            have T10 := htj.out
            have cB := (T10.fx.cell ⟨B, 0, none⟩ (by show B < n1; omega) (by show B ≠ C; omega) (by show B ≠ O; omega) (by show B ≠ R; omega) (by show B ≠ T; omega)).trans hC.b.cell
            have cK := (T10.fx.cell ⟨K, 0, none⟩ (by show K < n1; omega) (by show K ≠ C; omega) (by show K ≠ O; omega) (by show K ≠ R; omega) (by show K ≠ T; omega)).trans hC.k.cell
            rw [Int.natCast_succ] at cK
            have cX := T10.rr.cell (i := x) (by rw [ni_len, T10.ln]; exact hxN)
            have fX := T10.rr.free x
            have T11 := T10.mark l x (N + 1)
            rw [Int.natCast_succ] at T11
            have hlst : Hid (setAll (N + 1) (cp.take (j + 1)) t.least = (setAll (N + 1) (cp.take j) t.least).set x (N + 1)) := by show _ = _; rw [setAll_take _ _ _ _ (by rw [Hcpl.out]; exact hjq), hx]
            have HT11 := Lib.hid T11
            have ho11 := Lib.hid (World.ownsRow.kept hoj.out (grown_setCell wr R x (.int .i64 ((N : Int) + 1))) (row_far hoj.out (by omega)))
            clear T10 T11 hx
            go_wp2
            go_roundw
            case rel => exact ⟨j + 1, by go_num, by omega, by show TS _ _ _ _ _ _ _ _ _ _ _ _ _; rw [hlst.out]; exact HT11.out, ho11⟩
            case measure => simp [intOf]; omega
          · obtain rfl : j = q := by omega
            have HTE : Hid (TS w1 wr S R T O C n1 N (.slice (some ⟨g0, 0, none⟩) p cap0) ul2 vs2 { t with opn := t.opn.take p, least := setAll (N + 1) cp t.least }) := by
              have := htj.out
              rw [List.take_of_length_le (by rw [Hcpl.out]; exact Nat.le_refl _)] at this
              exact this
            clear htj
            have hlsN : vs2.length ≤ 8192 := by rw [HTE.out.ts.len]; simpa using Nat.le_trans hlN hN
            go_wp2_with fail
            refine (hSort n1 _ (ni cp) _ hoj.out (by rw [ni_len, Hcpl.out]; omega)).mono ?_
            rintro e w11 ⟨rfl, ho11, hg11⟩
            rw [ni_srt] at ho11
            have T11 := HTE.out.grow l hg11 (fun r e => by cases e; exact Fr9.out)
            have cT := T11.tb.cell
            have hn11 := T11.sz
            have HT11 := Lib.hid T11
            have HO11 := Lib.hid ho11
            clear HTE hoj hg11 T11 ho11
            go_wp2_with (at_builtin; refine wpList_append_sl rfl _ _ rfl n1 _ vs2 rfl (World.ownsRow.alloc HT11.out.ts.own _) _ (Value.slice (some ⟨g1, 0, none⟩) j cap1) rfl rfl (by simp [go_sem]) (by omega) (by simp; omega) ?_; intro G2 cap2 w12 hown12 hg12 hat12; obtain ⟨T12, cT12, fT12⟩ := HT11.out.add (o := Obj.cells #[Value.slice (some ⟨g1, 0, none⟩) j cap1] 31) l HO11.out rfl Fr9.out hown12 hg12 (hat12.elim .inl (fun e => .inr (by rw [e, World.size_alloc]; omega))); clear hown12 hg12 hat12; have HT12 := Lib.hid T12; clear T12)
            go_end0
            refine ⟨rfl, _, _, _, by rw [hgo.out]; unfold popped; rw [Hcp.out]; exact HT12.out⟩
end Go.Proofs.Ytopbbihbpalnlaa
