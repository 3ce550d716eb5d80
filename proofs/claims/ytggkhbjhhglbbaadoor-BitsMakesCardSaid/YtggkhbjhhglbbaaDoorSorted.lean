/-
  The definition's Sorted.
-/
import Derived.Test.YtggkhbjhhglbbaaDoorWr
import Derived.Deep.RegionLaw
namespace Go.Proofs.YtggkhbjhhglbbaaDoor
open Go.RowKit Go.WideShapes
set_option linter.unusedVariables false

/-- Where x belongs in an ascending list. -/
theorem place (K : List Nat) (x : Nat) (h : Asc K) : ∃ k, k ≤ K.length ∧ (∀ j, j < k → K.getD j 0 < x) ∧ ∀ j, k ≤ j → j < K.length → x ≤ K.getD j 0 := by
  have : ∀ n, n ≤ K.length → ∃ k, k ≤ n ∧ (∀ j, j < k → K.getD j 0 < x) ∧ ∀ j, k ≤ j → j < n → x ≤ K.getD j 0 := by
    intro n
    induction n with
    | zero => exact fun _ => ⟨0, Nat.le_refl _, fun j hj => absurd hj (by omega), fun j h1 h2 => absurd h2 (by omega)⟩
    | succ n ih =>
      intro hn
      obtain ⟨k, hk, hlo, hhi⟩ := ih (by omega)
      by_cases e : K.getD n 0 < x
      · refine ⟨n + 1, Nat.le_refl _, fun j hj => ?_, fun j h1 h2 => absurd h2 (by omega)⟩
        rcases Nat.lt_or_ge j n with c | c
        · have := asc_getD h c (by omega); omega
        · rw [show j = n from by omega]; exact e
      · refine ⟨k, by omega, hlo, fun j h1 h2 => ?_⟩
        rcases Nat.lt_or_ge j n with c | c
        · exact hhi j h1 c
        · rw [show j = n from by omega]; omega
  exact this K.length (Nat.le_refl _)
theorem insert_mem (K : List Nat) (k x y : Nat) : y ∈ K.take k ++ [x] ++ K.drop k ↔ y ∈ K ∨ y = x := by
  have : y ∈ K ↔ y ∈ K.take k ∨ y ∈ K.drop k := by
    rw [← List.mem_append, List.take_append_drop]
  rw [this]
  simp only [List.mem_append, List.mem_singleton]
  constructor
  · rintro ((h | h) | h)
    · exact .inl (.inl h)
    · exact .inr h
    · exact .inl (.inr h)
  · rintro ((h | h) | h)
    · exact .inl (.inl h)
    · exact .inr h
    · exact .inl (.inr h)
theorem insert_asc {K : List Nat} {k x : Nat} (h : Asc K) (hk : k ≤ K.length) (hlo : ∀ j, j < k → K.getD j 0 < x) (hhi : ∀ j, k ≤ j → j < K.length → x < K.getD j 0) : Asc (K.take k ++ [x] ++ K.drop k) := by
  have h1 : Asc (K.take k) := List.Pairwise.sublist (List.take_sublist _ _) h
  have h2 : Asc (K.drop k) := List.Pairwise.sublist (List.drop_sublist _ _) h
  have l1 : ∀ y ∈ K.take k, y < x := fun y hy => by
    obtain ⟨j, hj, e⟩ := mem_getD hy
    rw [List.length_take] at hj
    rw [getD_take, if_pos (by omega)] at e
    rw [← e]; exact hlo j (by omega)
  have l2 : ∀ y ∈ K.drop k, x < y := fun y hy => by
    obtain ⟨j, hj, e⟩ := mem_getD hy
    rw [List.length_drop] at hj
    have e2 : K.getD (k + j) 0 = y := by rw [← e]; simp [List.getD_eq_getElem?_getD]
    rw [← e2]; exact hhi (k + j) (by omega) (by omega)
  unfold Asc at *
  rw [List.pairwise_append, List.pairwise_append]
  refine ⟨⟨h1, List.pairwise_singleton _ _, fun y hy z hz => by rw [List.mem_singleton.1 hz]; exact l1 y hy⟩, h2, fun y hy z hz => ?_⟩
  rcases List.mem_append.1 hy with c | c
  · have := l1 y c; have := l2 z hz; omega
  · rw [List.mem_singleton.1 c]; exact l2 z hz

theorem insert_rel {M K : List Nat} {i k x : Nat} (hk : k ≤ K.length) (h : Asc K) (hlo : ∀ j, j < k → K.getD j 0 < x) (hhi : ∀ j, k ≤ j → j < K.length → x < K.getD j 0)
    (hn : M.take (i + 1) = M.take i ++ [x]) (hm : ∀ y, y ∈ K ↔ y ∈ M.take i) (hl : K.length ≤ i) :
    Asc (K.take k ++ [x] ++ K.drop k) ∧ (∀ y, y ∈ K.take k ++ [x] ++ K.drop k ↔ y ∈ M.take (i + 1)) ∧ (K.take k ++ [x] ++ K.drop k).length ≤ i + 1 := by
  refine ⟨insert_asc h hk hlo hhi, fun y => ?_, ?_⟩
  · rw [insert_mem, hn, List.mem_append, List.mem_singleton, hm]
  · simp only [List.length_append, List.length_take, List.length_drop, List.length_cons, List.length_nil]; omega

/-- 'append' as a step of a region that draws: what is appended lies in memory. -/
theorem step_append_ints {w : World} {ops : Array Oper} {o : Oper} {a : Act} {K : Act → World → Prop} {Q : Exit → Act → World → Prop} {E : Prop} (hg : o.guard = none) (s x : Operand)
    (hop : o.op = .call { callee := .builtin .append, args := #[s, x], argTypes := #[29, 29] }) (base : Nat) (v : Value) (zs : List Int) (hs : a.eval s = v) (hown : Own w base v zs)
    (ad : Addr) (m c : Nat) (us : List Int) (hx : a.eval x = .slice (some ad) m c) (hm : us.length = m) (hc : ∀ j, j < us.length → w.cell? (ad.add j) = some (.int .i64 (us.getD j 0))) (hlen : zs.length + m ≤ 100000) (hbase : base ≤ w.heap.size)
    (hK : ∀ v' w', Own w' base v' (zs ++ us) → w.grownBy w' v.ownBlock → K (a.put o.dst v') w') : if Region.wanted o (yielded ops a.tmps) = true then Oper.wp Tryd.prog o a w K Q else E := by
  subst hm
  have hw : Region.wanted o (yielded ops a.tmps) = true := by simp [Region.wanted, hg]
  rw [if_pos hw]
  obtain ⟨i0, hi, hz0, hz1, hz2⟩ := info_parts int_info
  refine wp_append_own w s x 29 hop base 3 i0 (.int .i64 0) 1 8 Tryd.underlying29 hi hz0 hz1 hz2 rfl (by decide) v zs.length (zs.map (.int .i64)) hs hown ad us.length c (us.map (.int .i64)) hx (by simp) ?_ ?_ ?_ ?_ hbase ?_
  · intro j u hj
    have hj2 : j < us.length := by
      have := (List.getElem?_eq_some_iff.1 hj).1
      simpa using this
    rw [hc j hj2, ← hj]
    simp [hj2]
  · intro u hu; simp at hu; obtain ⟨z, _, rfl⟩ := hu; rfl
  · unfold maxLen; omega
  · omega
  · intro v' w' h1 h2 _
    refine hK v' w' ?_ h2
    unfold Own
    rw [List.length_append, List.map_append]
    exact h1

/-- 'append' of nothing, nil, as a step of a region that draws. -/
theorem step_append_nil {w : World} {ops : Array Oper} {o : Oper} {a : Act} {K : Act → World → Prop} {Q : Exit → Act → World → Prop} {E : Prop} (hg : o.guard = none) (s x : Operand)
    (hop : o.op = .call { callee := .builtin .append, args := #[s, x], argTypes := #[29, 29] }) (base : Nat) (v : Value) (zs : List Int) (hs : a.eval s = v) (hown : Own w base v zs)
    (hx : a.eval x = .slice none 0 0) (hK : K (a.put o.dst v) w) : if Region.wanted o (yielded ops a.tmps) = true then Oper.wp Tryd.prog o a w K Q else E := by
  have hw : Region.wanted o (yielded ops a.tmps) = true := by simp [Region.wanted, hg]
  rw [if_pos hw]
  obtain ⟨i0, hi, hz0, hz1, hz2⟩ := info_parts int_info
  have hrun := run_append_owned_none (P := Tryd.prog) (w := w) base 29 o.type 3 i0 1 Tryd.underlying29 hi v zs.length (zs.map (.int .i64)) hown
  unfold Oper.wp
  simp [execOp, hop, resolve, invoke, builtin, hs, hx, hrun, Result.andThen]
  exact hK
/-- What stays while the new list is built: the old list, the number, what the caller has. -/
structure Sg (w : World) (B g cap : Nat) (zs : List Int) (p : Addr) (x : Int) (X : World) : Prop where
  row : Row X w.heap.size g cap zs
  cx : X.cell? p = some (.int .i64 x)
  below : Below w.heap.size w X
  hB : B ≤ X.heap.size
  gB : g < B
  pB : p.block < w.heap.size
  wB : w.heap.size ≤ B
section
variable {w X X' : World} {B g cap : Nat} {zs : List Int} {p : Addr} {x : Int}
theorem Sg.alloc (h : Sg w B g cap zs p x X) (o : Obj) : Sg w B g cap zs p x (X.alloc o) := by
  have hb := h.below.alloc (Nat.le_trans h.wB h.hB) o
  have hb2 : Below w.heap.size X (X.alloc o) := (Below.refl _ _).alloc (Nat.le_trans h.wB h.hB) o
  exact ⟨h.row.alloc o, (hb2.cell h.pB).trans h.cx, hb, by have := h.hB; simp; omega, h.gB, h.pB, h.wB⟩
theorem Sg.drewN (h : Sg w B g cap zs p x X) (n : Nat) : Sg w B g cap zs p x (X.drewN n) :=
  ⟨h.row, h.cx, h.below.trans (Drawn.below ⟨n, rfl⟩ _), h.hB, h.gB, h.pB, h.wB⟩
theorem Sg.grown (h : Sg w B g cap zs p x X) {row : Option Nat} (hg : X.grownBy X' row) (hr : ∀ k, row = some k → B ≤ k) : Sg w B g cap zs p x X' := by
  have hb : Below w.heap.size X X' := (Below.refl _ _).grown hg (Nat.le_trans h.wB h.hB) (fun k hk => Nat.le_trans h.wB (hr k hk))
  refine ⟨h.row.kept hg ?_, (hb.cell h.pB).trans h.cx, h.below.trans hb, Nat.le_trans h.hB hg.size, h.gB, h.pB, h.wB⟩
  intro e
  have := hr g e.symm
  have := h.gB
  omega
end
theorem take_cells {w : World} {base g cap m : Nat} {K : List Nat} (h : Row w base g cap (asInts K)) (hm : m ≤ K.length) : ∀ j, j < (asInts (K.take m)).length → w.cell? (Addr.add ⟨g, 0, none⟩ j) = some (.int .i64 ((asInts (K.take m)).getD j 0)) := by
  intro j hj
  rw [length_asInts, List.length_take] at hj
  rw [add_plain, Nat.zero_add, h.cell (by rw [length_asInts]; omega), getD_asInts, getD_asInts, getD_take, if_pos (by omega)]
theorem drop_cells {w : World} {base g cap m : Nat} {K : List Nat} (h : Row w base g cap (asInts K)) : ∀ j, j < (asInts (K.drop m)).length → w.cell? (Addr.add ⟨g, m, none⟩ j) = some (.int .i64 ((asInts (K.drop m)).getD j 0)) := by
  intro j hj
  rw [length_asInts, List.length_drop] at hj
  rw [add_plain, h.cell (by rw [length_asInts]; omega), getD_asInts, getD_asInts]
  simp [List.getD_eq_getElem?_getD]
theorem one_cell {w : World} {p : Nat} {x : Nat} (h : w.cell? ⟨p, 0, none⟩ = some (.int .i64 (x : Int))) : ∀ j, j < (asInts [x]).length → w.cell? (Addr.add ⟨p, 0, none⟩ j) = some (.int .i64 ((asInts [x]).getD j 0)) := by
  intro j hj
  rw [length_asInts] at hj
  have : j = 0 := by simp at hj; exact hj
  subst this
  simpa [asInts, Addr.add] using h
theorem made_at (w : World) (p : Nat) (hp : p = w.heap.size) (base : Nat) (hb : base ≤ w.heap.size) : Own (w.alloc (Obj.cells #[] 3)) base (.slice (some ⟨p, 0, none⟩) 0 0) [] := by
  subst hp
  exact World.ownsRow_made w #[] 0 hb (by unfold maxLen; omega) rfl
theorem head_at (w : World) (p : Nat) (hp : p = w.heap.size) (z : Int) : (w.alloc (Obj.cells #[Value.int .i64 z] 3)).cell? ⟨p, 0, none⟩ = some (.int .i64 z) := by
  subst hp
  exact alloc_head w z _
theorem head_under (w : World) (p : Nat) (hp : p = w.heap.size) (z : Int) (o : Obj) : ((w.alloc (Obj.cells #[Value.int .i64 z] 3)).alloc o).cell? ⟨p, 0, none⟩ = some (.int .i64 z) := by
  have h := head_at w p hp z
  have hb : Below (w.alloc (Obj.cells #[Value.int .i64 z] 3)).heap.size (w.alloc (Obj.cells #[Value.int .i64 z] 3)) ((w.alloc (Obj.cells #[Value.int .i64 z] 3)).alloc o) := (Below.refl _ _).alloc (Nat.le_refl _) _
  exact (hb.cell (World.block_lt_of_cell? _ _ h)).trans h
theorem grown_cell {X X' : World} {row : Option Nat} {p : Nat} {v : Value} (hg : X.grownBy X' row) (h : X.cell? ⟨p, 0, none⟩ = some v) (hne : some p ≠ row) : X'.cell? ⟨p, 0, none⟩ = some v := by
  have hlt := World.block_lt_of_cell? X _ h
  have hb := hg.block p hlt hne
  rw [← h]
  unfold World.cell?
  simp only [hb]

theorem Own.row {w : World} {base : Nat} {v : Value} {zs : List Int} (h : Own w base v zs) : (v = .slice none 0 0 ∧ zs = []) ∨ ∃ g cap, v = .slice (some ⟨g, 0, none⟩) zs.length cap ∧ Row w base g cap zs ∧ zs.length ≤ cap ∧ cap ≤ maxLen := by
  rcases h.2 with ⟨rfl, hn⟩ | ⟨g, cap, cur, rfl, hh, h3, h4, h5, _⟩
  · exact .inl ⟨rfl, List.length_eq_zero_iff.1 hn⟩
  · exact .inr ⟨g, cap, rfl, h, h4, h5⟩

set_option maxHeartbeats 3200000 in
theorem rsorted_any (a : Option Addr) (c n : Nat) (M : List Nat) (w : World) (hl : M.length = n) (hn : n ≤ 300) (hbd : ∀ y ∈ M, y < 65536) (hz : Ints w a (asInts M)) :
    Calls Tryd.prog 34 #[.slice a n c] w fun e w' => ∃ v K, e = .returned v ∧ Own w' w.heap.size v (asInts K) ∧ Asc K ∧ (∀ x, x ∈ K ↔ x ∈ M) ∧ K.length ≤ n ∧ Below w.heap.size w w' := by
  have Hz := Lib.hid hz
  have Hl := Lib.hid hl
  have Hbd := Lib.hid hbd
  clear hz hl hbd
  go_enter Tryd.func34, Tryd.ntmps34
  go_wp2
  go_loopw [3, 4] (fun v ii wr => ∃ (i : Nat) (K : List Nat), i ≤ n ∧ ii = .int .i64 i ∧ Asc K ∧ (∀ x, x ∈ K ↔ x ∈ M.take i) ∧ K.length ≤ i ∧ Own wr w.heap.size v (asInts K) ∧ Below w.heap.size w wr) (fun _ ii _ => n - (intOf ii).toNat)
  case atStart => exact ⟨0, [], Nat.zero_le _, rfl, List.Pairwise.nil, fun x => by simp, Nat.zero_le _, Own.nil _ _, Below.refl _ _⟩
  case round =>
    obtain ⟨i, K, hi, rfl, hasc, hmem, hKl, hown, hb⟩ := hrel
    have Hown := Lib.hid hown
    have Hb := Lib.hid hb
    have Hasc := Lib.hid hasc
    have Hmem := Lib.hid hmem
    clear hb hmem
    by_cases hlt : i < n
    · have hil : i < M.length := by rw [Hl.out]; exact hlt
      obtain ⟨ba, oa, rfl, hca⟩ := Hz.out (by rw [length_asInts]; omega)
      have cx := hca i (by rw [length_asInts]; exact hil)
      rw [getD_asInts] at cx
      have Hnext := Lib.hid (take_next hil)
      have Hcx := Lib.hid cx
      have hx7 := Hbd.out _ (getD_mem hil)
      obtain ⟨x, hxe⟩ : ∃ x, M.getD i 0 = x := ⟨_, rfl⟩
      rw [hxe] at Hcx Hnext hx7
      obtain ⟨k, hk, hlo, hhi⟩ := place K x hasc
      have Hlo := Lib.hid hlo
      have Hhi := Lib.hid hhi
      clear hca cx hxe hil hlo hhi hasc
      have hla := length_asInts K
      rcases hown.row with ⟨rfl, hnil⟩ | ⟨g, cap, rfl, hrow, hc1, hc2⟩
      · obtain rfl : K = [] := by
          cases K with
          | nil => rfl
          | cons y r => simp [asInts] at hnil
        obtain rfl : k = 0 := by simpa using hk
        have bx := World.block_lt_of_cell? w _ Hcx.out
        have Hins := Lib.hid (insert_rel (M := M) (i := i) (Nat.le_refl _) Hasc.out Hlo.out (fun j h1 h2 => absurd h2 (by simp)) Hnext.out Hmem.out hKl)
        have hws := Hb.out.size
        have Hcx1 := Lib.hid ((Hb.out.cell (p := ⟨ba, oa + i, none⟩) bx).trans Hcx.out)
        have bx2 := World.block_lt_of_cell? wr _ Hcx1.out
        clear hown hla hnil hk
        go_wp2
        go_loopw [5] (fun kk wq => kk = .int .i64 0 ∧ Drawn wr wq) (fun _ _ => 0)
        case atStart => exact ⟨rfl, .refl _⟩
        case round =>
          obtain ⟨rfl, nw, rfl⟩ := hrel
          have cx := Hcx1.out
          go_wp2
          go_quiet (fail)
          go_wp2
          go_quiet (fail)
          go_wp2
          have cxa : ∀ D o, ((wr.drewN D).alloc o).cell? ⟨ba, oa + i, none⟩ = some (.int .i64 (x : Int)) := fun D o =>
            (((Below.refl wr.heap.size (wr.drewN D)).alloc (Nat.le_refl _) o).cell bx2).trans Hcx1.out
          go_region_law (first
            | (refine step_append_nil rfl (.tmp 44) (.tmp 47) rfl wr.heap.size _ [] rfl (made_at _ _ rfl _ (Nat.le_refl _)) rfl ?_)
            | (refine step_append_nil rfl (.tmp 44) (.tmp 47) rfl wr.heap.size _ [] rfl ((made_at _ _ rfl _ (Nat.le_refl _)).alloc _) rfl ?_)
            | (refine step_append_nil rfl (.tmp 44) (.tmp 47) rfl wr.heap.size _ [] rfl (made_at _ _ (by simp) _ (by simp)) rfl ?_)
            | (refine step_append_nil rfl (.tmp 54) (.tmp 57) rfl wr.heap.size _ _ rfl ho2 rfl ?_)
            | (refine step_append_ints rfl (.tmp 48) (.tmp 53) rfl wr.heap.size _ [] rfl ((made_at _ _ rfl _ (Nat.le_refl _)).alloc _) _ 1 1 (asInts [x]) rfl rfl (one_cell (head_at _ _ (by simp) _)) (by simp) (by simp; omega) ?_; intro v2 w2 ho2 hg2; have Hb2 := Lib.hid ((((Hb.out.trans (Drawn.below ⟨_, rfl⟩ _)).alloc (by simp; omega) _).alloc (by simp; omega) _).grown hg2 (by simp; omega) (fun k hk => by cases hk; first | exact hws | exact Nat.le_succ_of_le hws | (simp; omega))))
            | (refine step_append_ints rfl (.tmp 48) (.tmp 53) rfl wr.heap.size _ [] rfl (made_at _ _ (by simp) _ (by simp)) _ 1 1 (asInts [x]) rfl rfl (one_cell (head_under _ _ rfl _ _)) (by simp) (by simp; omega) ?_; intro v2 w2 ho2 hg2; have Hb2 := Lib.hid ((((Hb.out.trans (Drawn.below ⟨_, rfl⟩ _)).alloc (by simp; omega) _).alloc (by simp; omega) _).grown hg2 (by simp; omega) (fun k hk => by cases hk; first | exact hws | exact Nat.le_succ_of_le hws | (simp; omega)))))
          all_goals
            have HO2 := Lib.hid (show Own w2 w.heap.size v2 (asInts ([].take 0 ++ [x] ++ [].drop 0)) from ho2.mono hws)
            go_wp2
            go_roundw
            case rel => exact ⟨i + 1, [].take 0 ++ [x] ++ [].drop 0, by omega, by go_num, Hins.out.1, Hins.out.2.1, Hins.out.2.2, HO2.out, Hb2.out⟩
            case measure => simp [intOf]; omega
      · have Hrow := Lib.hid hrow
        have Hown := Lib.hid (show Own wr w.heap.size (.slice (some ⟨g, 0, none⟩) K.length cap) (asInts K) by have := Hown.out; rwa [hla] at this)
        rw [hla] at hc1
        rw [hla]
        have bx := World.block_lt_of_cell? w _ Hcx.out
        unfold maxLen at hc2
        have Hsg := Lib.hid (show Sg w wr.heap.size g cap (asInts K) ⟨ba, oa + i, none⟩ x wr from ⟨hrow, (Hb.out.cell (p := ⟨ba, oa + i, none⟩) bx).trans Hcx.out, Hb.out, Nat.le_refl _, hrow.lt.2, bx, Hb.out.size⟩)
        clear hown hrow hla
        go_wp2
        go_loopw [5] (fun kk wq => ∃ m : Nat, m ≤ k ∧ kk = .int .i64 m ∧ Drawn wr wq) (fun kk _ => k - (intOf kk).toNat)
        case atStart => exact ⟨0, Nat.zero_le _, rfl, .refl _⟩
        case round =>
          obtain ⟨m, hm, rfl, nw, rfl⟩ := hrel
          have cx := (Hb.out.cell (p := ⟨ba, oa + i, none⟩) bx).trans Hcx.out
          by_cases hmk : m < k
          · have cm := Hrow.out.cell (i := m) (by rw [length_asInts]; omega)
            rw [getD_asInts] at cm
            have hlt2 := Hlo.out m hmk
            generalize K.getD m 0 = y at *
            have hmK : m < K.length := by omega
            go_wp2
            go_quiet (fail)
            go_wp2
            go_roundw
            case rel => exact ⟨m + 1, by omega, by go_num, ⟨_, rfl⟩⟩
            case measure => simp [intOf]; omega
          · obtain rfl : m = k := by omega
            have hkm := hk
            by_cases hmK : m < K.length
            · have cm := Hrow.out.cell (i := m) (by rw [length_asInts]; omega)
              rw [getD_asInts] at cm
              have hge := Hhi.out m (Nat.le_refl _) hmK
              obtain ⟨y, hy⟩ : ∃ y, K.getD m 0 = y := ⟨_, rfl⟩
              have Hy := Lib.hid hy
              rw [hy] at cm hge
              clear hy
              by_cases e : y = x
              · subst e
                go_wp2
                go_quiet (fail)
                go_wp2
                go_quiet (fail)
                go_wp2
                go_roundw
                case rel =>
                  refine ⟨i + 1, K, by omega, by go_num, Hasc.out, fun z => ?_, by omega, Hown.out.drewN _, Hb.out.trans (Drawn.below ⟨_, rfl⟩ _)⟩
                  rw [Hnext.out, Hmem.out, List.mem_append, List.mem_singleton]
                  constructor
                  · exact .inl
                  · rintro (h | rfl)
                    · exact h
                    · rw [← Hmem.out, ← Hy.out]; exact getD_mem hmK
                case measure => simp [intOf]; omega
              · have t0 : ((y : Int) == (x : Int)) = false := by rw [beq_eq_false_iff_ne]; omega
                go_wp2
                go_quiet (fail)
                go_wp2
                go_quiet (fail)
                go_wp2
                have hmc : m ≤ cap := by omega
                have hmc2 : ¬ cap = m := by omega
                have hmc3 : (m : Int) ≤ K.length := by omega
                have Hins := Lib.hid (insert_rel (M := M) (i := i) hkm Hasc.out Hlo.out (fun j h1 h2 => by
                  rcases Nat.lt_or_ge m j with c3 | c3
                  · have := asc_getD Hasc.out c3 h2; rw [Hy.out] at this; omega
                  · rw [show j = m from by omega, Hy.out]; omega) Hnext.out Hmem.out hKl)
                have cxa : ∀ D o, ((wr.drewN D).alloc o).cell? ⟨ba, oa + i, none⟩ = some (.int .i64 (x : Int)) := fun D o => ((Hsg.out.drewN D).alloc o).cx
                go_region_law (first
                  | (refine step_append_ints rfl (.tmp 44) (.tmp 47) rfl wr.heap.size _ [] rfl (made_at _ _ rfl _ (Nat.le_refl _)) _ m cap (asInts (K.take m)) rfl (by rw [length_asInts, List.length_take]; omega) (take_cells ((Hsg.out.drewN _).alloc _).row (by omega)) (by simp; omega) ((Hsg.out.drewN _).alloc _).hB ?_; intro v1 w1 ho1 hg1; have Hsg1 := Lib.hid (((Hsg.out.drewN _).alloc _).grown hg1 (fun k hk => by cases hk; first | exact Nat.le_refl _ | exact Nat.le_succ _ | (simp; done) | (simp; omega))); have cx1 := Hsg1.out.cx)
                  | (refine step_append_ints rfl (.tmp 44) (.tmp 47) rfl wr.heap.size _ [] rfl ((made_at _ _ rfl _ (Nat.le_refl _)).alloc _) _ m cap (asInts (K.take m)) rfl (by rw [length_asInts, List.length_take]; omega) (take_cells (((Hsg.out.drewN _).alloc _).alloc _).row (by omega)) (by simp; omega) (((Hsg.out.drewN _).alloc _).alloc _).hB ?_; intro v1 w1 ho1 hg1; have Hsg1 := Lib.hid ((((Hsg.out.drewN _).alloc _).alloc _).grown hg1 (fun k hk => by cases hk; first | exact Nat.le_refl _ | exact Nat.le_succ _ | (simp; done) | (simp; omega))); have cx1 := Hsg1.out.cx; have cpx : w1.cell? ⟨wr.heap.size + 1, 0, none⟩ = some (.int .i64 (x : Int)) := grown_cell hg1 (head_at _ _ (by simp) _) (show some (wr.heap.size + 1) ≠ some wr.heap.size by simp))
                  | (refine step_append_ints rfl (.tmp 44) (.tmp 47) rfl wr.heap.size _ [] rfl (made_at _ _ (by simp) _ (by simp)) _ m cap (asInts (K.take m)) rfl (by rw [length_asInts, List.length_take]; omega) (take_cells (((Hsg.out.drewN _).alloc _).alloc _).row (by omega)) (by simp; omega) (((Hsg.out.drewN _).alloc _).alloc _).hB ?_; intro v1 w1 ho1 hg1; have Hsg1 := Lib.hid ((((Hsg.out.drewN _).alloc _).alloc _).grown hg1 (fun k hk => by cases hk; first | exact Nat.le_refl _ | exact Nat.le_succ _ | (simp; done) | (simp; omega))); have cx1 := Hsg1.out.cx; have cpx : w1.cell? ⟨wr.heap.size, 0, none⟩ = some (.int .i64 (x : Int)) := grown_cell hg1 (head_under _ _ rfl _ _) (show some wr.heap.size ≠ some (wr.heap.size + 1) by simp))
                  | (refine step_append_ints rfl (.tmp 54) (.tmp 57) rfl wr.heap.size _ _ rfl ho2 _ _ _ (asInts (K.drop m)) rfl (by rw [length_asInts, List.length_drop]) (drop_cells Hsg2.out.row) (by simp only [List.nil_append, List.length_append, length_asInts, List.length_take, List.length_cons, List.length_nil]; omega) Hsg2.out.hB ?_; intro v3 w3 ho3 hg3)
                  | (refine step_append_ints rfl (.tmp 48) (.tmp 53) rfl wr.heap.size v1 _ rfl (ho1.alloc _) _ 1 1 (asInts [x]) rfl rfl (one_cell (alloc_head _ _ _)) (by simp only [List.nil_append, length_asInts, List.length_take]; omega) (Hsg1.out.alloc _).hB ?_; intro v2 w2 ho2 hg2; have Hsg2 := Lib.hid ((Hsg1.out.alloc _).grown hg2 (fun k hk => (World.ownsRow.lt ho1 k hk).1)))
                  | (refine step_append_ints rfl (.tmp 48) (.tmp 53) rfl wr.heap.size v1 _ rfl (ho1) _ 1 1 (asInts [x]) rfl rfl (one_cell (cpx)) (by simp only [List.nil_append, length_asInts, List.length_take]; omega) Hsg1.out.hB ?_; intro v2 w2 ho2 hg2; have Hsg2 := Lib.hid (Hsg1.out.grown hg2 (fun k hk => (World.ownsRow.lt ho1 k hk).1))))
                all_goals
                  have HB3 := Lib.hid ((Hsg2.out.grown hg3 (fun k hk => (World.ownsRow.lt ho2 k hk).1)).below)
                  have HO3 := Lib.hid (show Own w3 w.heap.size v3 (asInts (K.take m ++ [x] ++ K.drop m)) by rw [asInts_append, asInts_append]; exact ho3.mono Hb.out.size)
                  go_wp2
                  go_roundw
                  case rel => exact ⟨i + 1, K.take m ++ [x] ++ K.drop m, by omega, by go_num, Hins.out.1, Hins.out.2.1, Hins.out.2.2, HO3.out, HB3.out⟩
                  case measure => simp [intOf]; omega
            · obtain rfl : m = K.length := by omega
              have Hins := Lib.hid (insert_rel (M := M) (i := i) (Nat.le_refl _) Hasc.out Hlo.out (fun j h1 h2 => absurd h1 (by omega)) Hnext.out Hmem.out hKl)
              by_cases hcm : cap = K.length
              · subst hcm
                go_wp2
                go_quiet (fail)
                go_wp2
                go_quiet (fail)
                go_wp2
                have cxa : ∀ D o, ((wr.drewN D).alloc o).cell? ⟨ba, oa + i, none⟩ = some (.int .i64 (x : Int)) := fun D o => ((Hsg.out.drewN D).alloc o).cx
                go_region_law (first
                  | (refine step_append_ints rfl (.tmp 44) (.tmp 47) rfl wr.heap.size _ [] rfl (made_at _ _ rfl _ (Nat.le_refl _)) _ K.length K.length (asInts (K.take K.length)) rfl (by rw [length_asInts, List.length_take]; omega) (take_cells ((Hsg.out.drewN _).alloc _).row (by omega)) (by simp; omega) ((Hsg.out.drewN _).alloc _).hB ?_; intro v1 w1 ho1 hg1; have Hsg1 := Lib.hid (((Hsg.out.drewN _).alloc _).grown hg1 (fun k hk => by cases hk; first | exact Nat.le_refl _ | exact Nat.le_succ _ | (simp; done) | (simp; omega))); have cx1 := Hsg1.out.cx)
                  | (refine step_append_ints rfl (.tmp 44) (.tmp 47) rfl wr.heap.size _ [] rfl ((made_at _ _ rfl _ (Nat.le_refl _)).alloc _) _ K.length K.length (asInts (K.take K.length)) rfl (by rw [length_asInts, List.length_take]; omega) (take_cells (((Hsg.out.drewN _).alloc _).alloc _).row (by omega)) (by simp; omega) (((Hsg.out.drewN _).alloc _).alloc _).hB ?_; intro v1 w1 ho1 hg1; have Hsg1 := Lib.hid ((((Hsg.out.drewN _).alloc _).alloc _).grown hg1 (fun k hk => by cases hk; first | exact Nat.le_refl _ | exact Nat.le_succ _ | (simp; done) | (simp; omega))); have cx1 := Hsg1.out.cx; have cpx : w1.cell? ⟨wr.heap.size + 1, 0, none⟩ = some (.int .i64 (x : Int)) := grown_cell hg1 (head_at _ _ (by simp) _) (show some (wr.heap.size + 1) ≠ some wr.heap.size by simp))
                  | (refine step_append_ints rfl (.tmp 44) (.tmp 47) rfl wr.heap.size _ [] rfl (made_at _ _ (by simp) _ (by simp)) _ K.length K.length (asInts (K.take K.length)) rfl (by rw [length_asInts, List.length_take]; omega) (take_cells (((Hsg.out.drewN _).alloc _).alloc _).row (by omega)) (by simp; omega) (((Hsg.out.drewN _).alloc _).alloc _).hB ?_; intro v1 w1 ho1 hg1; have Hsg1 := Lib.hid ((((Hsg.out.drewN _).alloc _).alloc _).grown hg1 (fun k hk => by cases hk; first | exact Nat.le_refl _ | exact Nat.le_succ _ | (simp; done) | (simp; omega))); have cx1 := Hsg1.out.cx; have cpx : w1.cell? ⟨wr.heap.size, 0, none⟩ = some (.int .i64 (x : Int)) := grown_cell hg1 (head_under _ _ rfl _ _) (show some wr.heap.size ≠ some (wr.heap.size + 1) by simp))
                  | (refine step_append_ints rfl (.tmp 54) (.tmp 57) rfl wr.heap.size _ _ rfl ho2 _ _ _ (asInts (K.drop K.length)) rfl (by simp [asInts]) (fun j hj => absurd hj (by simp [asInts])) (by simp only [List.nil_append, List.length_append, length_asInts, List.length_take, List.length_cons, List.length_nil]; omega) Hsg2.out.hB ?_; intro v3 w3 ho3 hg3)
                  | (refine step_append_ints rfl (.tmp 48) (.tmp 53) rfl wr.heap.size v1 _ rfl (ho1.alloc _) _ 1 1 (asInts [x]) rfl rfl (one_cell (alloc_head _ _ _)) (by simp only [List.nil_append, length_asInts, List.length_take]; omega) (Hsg1.out.alloc _).hB ?_; intro v2 w2 ho2 hg2; have Hsg2 := Lib.hid ((Hsg1.out.alloc _).grown hg2 (fun k hk => (World.ownsRow.lt ho1 k hk).1)))
                  | (refine step_append_ints rfl (.tmp 48) (.tmp 53) rfl wr.heap.size v1 _ rfl (ho1) _ 1 1 (asInts [x]) rfl rfl (one_cell (cpx)) (by simp only [List.nil_append, length_asInts, List.length_take]; omega) Hsg1.out.hB ?_; intro v2 w2 ho2 hg2; have Hsg2 := Lib.hid (Hsg1.out.grown hg2 (fun k hk => (World.ownsRow.lt ho1 k hk).1))))
                all_goals
                  have HB3 := Lib.hid ((Hsg2.out.grown hg3 (fun k hk => (World.ownsRow.lt ho2 k hk).1)).below)
                  have HO3 := Lib.hid (show Own w3 w.heap.size v3 (asInts (K.take K.length ++ [x] ++ K.drop K.length)) by rw [asInts_append, asInts_append]; exact ho3.mono Hb.out.size)
                  go_wp2
                  go_roundw
                  case rel => exact ⟨i + 1, K.take K.length ++ [x] ++ K.drop K.length, by omega, by go_num, Hins.out.1, Hins.out.2.1, Hins.out.2.2, HO3.out, HB3.out⟩
                  case measure => simp [intOf]; omega
              · have hmc2 : ¬ K.length = cap := fun h => hcm h.symm
                go_wp2
                go_quiet (fail)
                go_wp2
                go_quiet (fail)
                go_wp2
                have cxa : ∀ D o, ((wr.drewN D).alloc o).cell? ⟨ba, oa + i, none⟩ = some (.int .i64 (x : Int)) := fun D o => ((Hsg.out.drewN D).alloc o).cx
                go_region_law (first
                  | (refine step_append_ints rfl (.tmp 44) (.tmp 47) rfl wr.heap.size _ [] rfl (made_at _ _ rfl _ (Nat.le_refl _)) _ K.length cap (asInts (K.take K.length)) rfl (by rw [length_asInts, List.length_take]; omega) (take_cells ((Hsg.out.drewN _).alloc _).row (by omega)) (by simp; omega) ((Hsg.out.drewN _).alloc _).hB ?_; intro v1 w1 ho1 hg1; have Hsg1 := Lib.hid (((Hsg.out.drewN _).alloc _).grown hg1 (fun k hk => by cases hk; first | exact Nat.le_refl _ | exact Nat.le_succ _ | (simp; done) | (simp; omega))); have cx1 := Hsg1.out.cx)
                  | (refine step_append_ints rfl (.tmp 44) (.tmp 47) rfl wr.heap.size _ [] rfl ((made_at _ _ rfl _ (Nat.le_refl _)).alloc _) _ K.length cap (asInts (K.take K.length)) rfl (by rw [length_asInts, List.length_take]; omega) (take_cells (((Hsg.out.drewN _).alloc _).alloc _).row (by omega)) (by simp; omega) (((Hsg.out.drewN _).alloc _).alloc _).hB ?_; intro v1 w1 ho1 hg1; have Hsg1 := Lib.hid ((((Hsg.out.drewN _).alloc _).alloc _).grown hg1 (fun k hk => by cases hk; first | exact Nat.le_refl _ | exact Nat.le_succ _ | (simp; done) | (simp; omega))); have cx1 := Hsg1.out.cx; have cpx : w1.cell? ⟨wr.heap.size + 1, 0, none⟩ = some (.int .i64 (x : Int)) := grown_cell hg1 (head_at _ _ (by simp) _) (show some (wr.heap.size + 1) ≠ some wr.heap.size by simp))
                  | (refine step_append_ints rfl (.tmp 44) (.tmp 47) rfl wr.heap.size _ [] rfl (made_at _ _ (by simp) _ (by simp)) _ K.length cap (asInts (K.take K.length)) rfl (by rw [length_asInts, List.length_take]; omega) (take_cells (((Hsg.out.drewN _).alloc _).alloc _).row (by omega)) (by simp; omega) (((Hsg.out.drewN _).alloc _).alloc _).hB ?_; intro v1 w1 ho1 hg1; have Hsg1 := Lib.hid ((((Hsg.out.drewN _).alloc _).alloc _).grown hg1 (fun k hk => by cases hk; first | exact Nat.le_refl _ | exact Nat.le_succ _ | (simp; done) | (simp; omega))); have cx1 := Hsg1.out.cx; have cpx : w1.cell? ⟨wr.heap.size, 0, none⟩ = some (.int .i64 (x : Int)) := grown_cell hg1 (head_under _ _ rfl _ _) (show some wr.heap.size ≠ some (wr.heap.size + 1) by simp))
                  | (refine step_append_ints rfl (.tmp 54) (.tmp 57) rfl wr.heap.size _ _ rfl ho2 _ _ _ (asInts (K.drop K.length)) rfl (by simp [asInts]) (fun j hj => absurd hj (by simp [asInts])) (by simp only [List.nil_append, List.length_append, length_asInts, List.length_take, List.length_cons, List.length_nil]; omega) Hsg2.out.hB ?_; intro v3 w3 ho3 hg3)
                  | (refine step_append_ints rfl (.tmp 48) (.tmp 53) rfl wr.heap.size v1 _ rfl (ho1.alloc _) _ 1 1 (asInts [x]) rfl rfl (one_cell (alloc_head _ _ _)) (by simp only [List.nil_append, length_asInts, List.length_take]; omega) (Hsg1.out.alloc _).hB ?_; intro v2 w2 ho2 hg2; have Hsg2 := Lib.hid ((Hsg1.out.alloc _).grown hg2 (fun k hk => (World.ownsRow.lt ho1 k hk).1)))
                  | (refine step_append_ints rfl (.tmp 48) (.tmp 53) rfl wr.heap.size v1 _ rfl (ho1) _ 1 1 (asInts [x]) rfl rfl (one_cell (cpx)) (by simp only [List.nil_append, length_asInts, List.length_take]; omega) Hsg1.out.hB ?_; intro v2 w2 ho2 hg2; have Hsg2 := Lib.hid (Hsg1.out.grown hg2 (fun k hk => (World.ownsRow.lt ho1 k hk).1))))
                all_goals
                  have HB3 := Lib.hid ((Hsg2.out.grown hg3 (fun k hk => (World.ownsRow.lt ho2 k hk).1)).below)
                  have HO3 := Lib.hid (show Own w3 w.heap.size v3 (asInts (K.take K.length ++ [x] ++ K.drop K.length)) by rw [asInts_append, asInts_append]; exact ho3.mono Hb.out.size)
                  go_wp2
                  go_roundw
                  case rel => exact ⟨i + 1, K.take K.length ++ [x] ++ K.drop K.length, by omega, by go_num, Hins.out.1, Hins.out.2.1, Hins.out.2.2, HO3.out, HB3.out⟩
                  case measure => simp [intOf]; omega
    · obtain rfl : i = n := by omega
      have hfin := Lib.hid (show ∀ x, x ∈ K ↔ x ∈ M from fun x => by rw [Hmem.out, ← Hl.out, List.take_length])
      go_wp2
      go_ret
      exact ⟨_, K, rfl, Hown.out, Hasc.out, hfin.out, hKl, Hb.out⟩
end Go.Proofs.YtggkhbjhhglbbaaDoor
