/-
  Reach: the nodes that are reachable from the given ones, ascending.
-/
import Derived.Test.YtopbbihbpalnlaaGMarks
import Derived.Test.YtopbbihbpalnlaaGSortI
namespace Go.Proofs.Ytopbbihbpalnlaa
open Go.RowKit Go.Shelf
set_option linter.unusedVariables false
attribute [local go_sem] Oper.semAt_some

/-- A region that is shown not to panic serves whatever the post says of a panic (fenced). -/
theorem wpIn_region_noPanic {F : Fence} {n : Nat} {P : Program} {id : Nat} {ops : Array Oper} {b : Bool} {Q : Exit → Act → World → Prop} {a : Act} {w : World} (h : (Code.region id ops b).wpIn F n P (NoPanic Q) a w) : (Code.region id ops b).wpIn F n P Q a w :=
  Code.wpIn_mono NoPanic.imp h
/-- The law for a loop over the successors, its first act told by the slots: p, where the value comes, and q, the loop's variable. -/
theorem rangeG {P : Int → Prop} {g : Operand} {ps : Array Tmp} {assign body : Code} {Q : Exit → Act → World → Prop} {a : Act} {w : World} {n : Nat} (p q : Nat)
    (h1 : 1 ≤ n) {gf : Nat} {lb : Array Value} (hg : a.eval g = .func (.func gf) #[] lb) (eg : ∀ args w, (callFunc gf args).run Try.prog w = .ok (.enter gf args) w)
    {Kp : World → World → Prop} {S Sp : List { x : Int // P x } → Prop} {N : Nat} (hseq : SeqStopsK Fence.wide (n - 1) Try.prog gf lb (fun x : { x : Int // P x } => #[Value.int .i64 x.1]) Kp S Sp N w)
    (hKt : ∀ {A B C : World}, Kp A B → Kp B C → Kp A C) (hKb : ∀ (W : World) (l : Nat) (o o' : Obj), w.heap.size ≤ l → W.heap[l]? = some o → o.isCells = false → o.isWalk = false → Kp W (W.putObj l o')) (hps : 1 = ps.size)
    (I : List { x : Int // P x } → World → Prop) (hI : OwnFrom w.heap.size I) (h0 : I [] w)
    (hassign : ∀ (l : Nat) (x : Int) (W : World) (K : Act → World → Prop), K { tmps := (a.tmps.setIfInBounds p (.int .i64 x)).setIfInBounds q (.int .i64 x), defers := [] } W →
      assign.wpIn (Fence.wide.inRound l) (n - 1 - 1) Try.prog (Exit.then K (fun _ _ _ => False)) { tmps := (ps.zip #[Value.int .i64 x]).foldl (fun t (p, v) => t.setIfInBounds p v) a.tmps, defers := [] } W)
    (hbody : ∀ (l : Nat) (pre : List { x : Int // P x }) (x : Int) (hx : P x) (W : World), I pre W → pre.length < N → body.wpIn (Fence.wide.inRound l) (n - 1 - 1) Try.prog (ownPostG w.heap.size Kp I (fun _ _ _ => False) (pre ++ [⟨x, hx⟩]) W) { tmps := (a.tmps.setIfInBounds p (.int .i64 x)).setIfInBounds q (.int .i64 x), defers := [] } W)
    (hdone : ∀ (D : Nat) (xs : List { x : Int // P x }) (W : World), w.heap.size ≤ D → S xs → I xs W → W.heap[D]? = some (.deferred (some [])) → Q .normal { a with defers := { target := .collected D, args := #[] } :: a.defers } W) :
    (Code.rangeFunc g ps assign body).wpIn Fence.wide n Try.prog Q a w :=
  wpIn_rangeFunc_ownG rfl h1 hg trivial eg hseq hKt hKb (Below.refl _ _) (fun _ => hps) I (fun _ _ _ => False) hI (fun _ _ _ _ _ hs _ _ => hs) h0
    (fun x => { tmps := (a.tmps.setIfInBounds p (.int .i64 x.1)).setIfInBounds q (.int .i64 x.1), defers := [] }) (fun l x W K => hassign l x.1 W K) (fun l pre x W => hbody l pre x.1 x.2 W) hdone (fun _ _ _ _ _ _ h _ => h.elim)
/-- A function value is stored. -/
theorem run_store_func {P : Program} {w : World} {a : Addr} {m : Mode} (fn : Fn) (x y : Array Value) : (store a (.func fn x y) m).run P w = stored P w a (.func fn x y) m := run_store P w a _ m rfl
attribute [local go_sem] run_store_func

/-- 'make([]T, n)' in a fenced walk. -/
theorem wpListIn_make_full' {F : Fence} {nn : Nat} {P : Program} (w : World) {ops : Array Oper} {rest : List Oper} {o : Oper} {a : Act} {Q : Exit → Act → World → Prop}
    (hg : o.guard = none) (l c : Operand) (t : TypeId) (hop : o.op = Op.makeSlice t l c)
    (base : Nat) (e : TypeId) (i : TypeInfo) (z : Value) (size : Nat) (h1 : P.underlying t = some (.slice e)) (h2 : P.info? e = some i) (h3 : i.zero = some z) (h4 : i.size = size)
    (kl kc : IntKind) (L C : Int) (n : Nat) (hl : a.eval l = .int kl L) (hc : a.eval c = .int kc C) (hL : L = (n : Int)) (hC : C = (n : Int)) (b2 : i.bytes * n ≤ 281474976710656) (b3 : n ≤ maxLen) (b4 : base ≤ w.heap.size)
    (hK : ∀ w', w'.ownsRow base e size (.slice (some ⟨w.heap.size, 0, none⟩) n n) n (madeCells z.cells (n * size)).toList → w.grownBy w' none → wpListIn F nn P ops Q rest (a.put o.dst (.slice (some ⟨w.heap.size, 0, none⟩) n n)) w') :
    wpListIn F nn P ops Q (o :: rest) a w := by
  refine wpListIn_plain hg fun K hK' => ?_
  obtain ⟨w', hrun, r1, r2⟩ := run_make_full (P := P) w base t e i z size h1 h2 h3 h4 kl kc n b2 b3 b4
  subst hL
  subst hC
  unfold Oper.wpIn
  refine ⟨?_, ?_⟩
  · simp [Oper.about, hop]
  · rw [Oper.semAt_plain F _ _ (by rw [hop]; intro c hc'; cases hc')]
    simp [execOp, hop, hl, hc, hrun, Result.andThen]
    exact hK' _ _ (hK w' r1 r2)

/-- The given nodes, k of them looked at. -/
def startR (N : Int) (zs : List Int) : Nat → List Bool × List Int
  | 0 => (List.replicate N.toNat false, [])
  | k + 1 => if isNd N (zs.getD k 0) = true then addR (startR N zs k) (zs.getD k 0) else startR N zs k
/-- The successors of a node are added. -/
def scanR (ps : List (Int × Int)) (st : List Bool × List Int) (v : Int) : List Bool × List Int := (succL ps v).foldl addR st
/-- The walk over the list, which grows. -/
def walkR (ps : List (Int × Int)) : Nat → Nat → List Bool × List Int → List Bool × List Int
  | 0, _, st => st
  | f + 1, i, st => if i < st.2.length then walkR ps f (i + 1) (scanR ps st (st.2.getD i 0)) else st
def reachR (N : Int) (ps : List (Int × Int)) (zs : List Int) : List Bool × List Int := walkR ps (N.toNat + 1) 0 (startR N zs zs.length)
def reachL (N : Int) (ps : List (Int × Int)) (zs : List Int) : List Int := (reachR N ps zs).2.mergeSort fun x y => decide (x ≤ y)

theorem walkR_go {ps : List (Int × Int)} {f i : Nat} {st : List Bool × List Int} (h : i < st.2.length) : walkR ps (f + 1) i st = walkR ps f (i + 1) (scanR ps st (st.2.getD i 0)) := by
  show (if _ then _ else _) = _
  rw [if_pos h]
theorem walkR_end {ps : List (Int × Int)} {f i : Nat} {st : List Bool × List Int} (h : ¬ i < st.2.length) : walkR ps f i st = st := by
  cases f with
  | zero => rfl
  | succ f => show (if _ then _ else _) = _; rw [if_neg h]
theorem RInv.start {N : Nat} (zs : List Int) : ∀ k, RInv N (startR (N : Int) zs k) := by
  intro k
  induction k with
  | zero => exact ⟨by simp [startR], fun x hx => by simp [startR] at hx, by simp [startR, List.countP_replicate]⟩
  | succ k ih =>
    unfold startR
    by_cases h : isNd (N : Int) (zs.getD k 0) = true
    · rw [if_pos h]
      have := isNd_iff.1 h
      exact ih.add this.1 this.2
    · rw [if_neg h]; exact ih
theorem succL_node {N v : Int} {ps : List (Int × Int)} (h : GOk N ps) : ∀ x ∈ succL ps v, 0 ≤ x ∧ x < N := by
  intro x hx
  simp only [succL, List.mem_map, List.mem_filter] at hx
  obtain ⟨e, ⟨he, _⟩, rfl⟩ := hx
  obtain ⟨i, hi, rfl⟩ := List.getElem_of_mem he
  have := (h.node i hi).2
  simpa [List.getD_eq_getElem?_getD, hi] using this
theorem RInv.foldl {N : Nat} : ∀ (l : List Int) (st : List Bool × List Int), RInv N st → (∀ x ∈ l, 0 ≤ x ∧ x < (N : Int)) → RInv N (l.foldl addR st)
  | [], _, h, _ => h
  | x :: r, st, h, hl => RInv.foldl r _ (h.add (hl x (by simp)).1 (hl x (by simp)).2) fun y hy => hl y (List.mem_cons_of_mem _ hy)

/-- The variables of Reach, with the closure's box F; what lay before them is as it was. -/
structure LR (w1 W : World) (L R M F N n₁ : Nat) (u : Value) (st : List Bool × List Int) : Prop where
  rs : RS W L R M N n₁ u st
  fbox : Boxed W F 66 (.func (.func 58) #[] #[.pointer (some ⟨M, 0, none⟩), .pointer (some ⟨L, 0, none⟩)])
  below : Below L w1 W
  inv : RInv N st
theorem LR.kept {w1 W W' : World} {L R M F N n₁ : Nat} {u : Value} {st : List Bool × List Int} {row : Option Nat} (h : LR w1 W L R M F N n₁ u st) (hL : L < n₁) (hM : M < n₁) (hF : F < n₁) (hg : W.grownBy W' row) (hr : ∀ r, row = some r → n₁ ≤ r ∧ ∃ o : Obj, W.heap[r]? = some o ∧ o.isCells = false) : LR w1 W' L R M F N n₁ u st := by
  have f : ∀ q, q < n₁ → some q ≠ row := fun q hq e => by have := (hr q e.symm).1; omega
  have hR := h.rs.rlt
  refine ⟨⟨h.rs.box.kept hg (f L hL), h.rs.own.kept hg ?_, h.rs.mbox.kept hg (f M hM), RowB.kept h.rs.row hg (f R hR), h.rs.len, hR, Nat.le_trans h.rs.sz hg.size⟩, h.fbox.kept hg (f F hF), ⟨hg.os.trans h.below.os, hg.tape.trans h.below.tape, hg.output.trans h.below.output, Nat.le_trans h.below.size hg.size, fun q hq => ?_⟩, h.inv⟩
  · rcases h.rs.own.2 with ⟨rfl, _⟩ | ⟨g, cap, cur, rfl, _, hgb, _⟩
    · exact .inl rfl
    · refine .inr fun e' => ?_
      obtain ⟨_, o, ho, hc⟩ := hr g (by simpa [Value.ownBlock] using e'.symm)
      rw [hgb] at ho; cases ho; cases hc
  · have h1 := h.rs.sz
    exact (hg.block q (by omega) (f q (by omega))).trans (h.below.block q hq)
structure LO (L R M F n₁ : Nat) : Prop where
  r : R = L + 1
  m : L + 1 < M
  f : F = M + 1
  n : n₁ = M + 2
theorem LR.step {w1 W W' : World} {L R M F N n₁ : Nat} {u u' : Value} {st st' : List Bool × List Int} (h : LR w1 W L R M F N n₁ u st) (o : LO L R M F n₁) (hs : RS W' L R M N n₁ u' st') (hf : Fr W W' L R u u') (hi : RInv N st') : LR w1 W' L R M F N n₁ u' st' := by
  have hr := o.r; have hm := o.m; have hF := o.f; have hn := o.n
  have hown : ∀ q, q < n₁ → some q ≠ u.ownBlock := fun q hq e => by have := (World.ownsRow.lt h.rs.own q e.symm).1; omega
  have hz := h.rs.sz
  refine ⟨hs, (hf.block F (by omega) (by omega) (by omega) (hown F (by omega))).trans h.fbox, ⟨hf.os.trans h.below.os, hf.tape.trans h.below.tape, hf.output.trans h.below.output, Nat.le_trans h.below.size hf.size, fun q hq => ?_⟩, hi⟩
  exact (hf.block q (by omega) (by omega) (by omega) (hown q (by omega))).trans (h.below.block q hq)
theorem LR.grow {w1 W W' : World} {L R M F N n₁ : Nat} {u : Value} {st : List Bool × List Int} (h : LR w1 W L R M F N n₁ u st) (o : LO L R M F n₁) (hb : Below W.heap.size W W') : LR w1 W' L R M F N n₁ u st := by
  have hr := o.r; have hm := o.m; have hF := o.f; have hn := o.n
  have hz := h.rs.sz
  have hg : W.grownBy W' none := grown_of_below hb
  exact h.kept (by omega) (by omega) (by omega) hg (fun r e => by cases e)
theorem add_at {w1 W : World} {L R M F N n₁ : Nat} {u : Value} {st : List Bool × List Int} (h : LR w1 W L R M F N n₁ u st) (o : LO L R M F n₁) (hN : N ≤ 8192) (v : Int) (h0 : 0 ≤ v) (h1 : v < N) :
    Calls Try.prog 58 #[.int .i64 v, .pointer (some ⟨M, 0, none⟩), .pointer (some ⟨L, 0, none⟩)] W fun e W' => e = .returned (.tuple #[]) ∧ ∃ u', LR w1 W' L R M F N n₁ u' (addR st v) ∧ Fr W W' L R u u' := by
  have hr := o.r; have hm := o.m; have hF := o.f; have hn := o.n
  have hc := h.inv.cnt
  refine (add_any L R M N n₁ u st v W h.rs h0 h1 (by omega) (by omega) (by omega) (by omega) (by omega) (by omega)).mono ?_
  rintro e W' ⟨rfl, u', hs, hf⟩
  exact ⟨rfl, u', h.step o hs hf (h.inv.add h0 h1), hf⟩

set_option maxHeartbeats 4000000 in
set_option maxRecDepth 100000 in
theorem reach_good (N : Nat) (a : Option Addr) (c : Nat) (ps : List (Int × Int)) (b : Option Addr) (d : Nat) (zs : List Int) (w : World) (hE : Edg w a c ps) (hok : gchk (N : Int) ps = 0) (hz : Ints w b zs) (hzn : zs.length ≤ maxLen) :
    Calls Try.prog 38 #[.agg #[.int .i64 N, .slice a ps.length c], .slice b zs.length d] w fun e w' => ∃ r, e = .returned r ∧ Own w' w.heap.size r (reachL N ps zs) ∧ Below w.heap.size w w' := by
  obtain ⟨i0, hi, hz0, hz1, hz2⟩ := info_parts (show (Try.prog.info? 4).map (fun i => (i.zero, i.size, i.bytes)) = some (some (.bool false), 1, 1) from by kernel_rfl)
  have hg := gchk_ok hok
  have hm := hg.mono
  have hlen := hg.len
  have hN := hg.hi
  obtain ⟨n, hl⟩ : ∃ n, ps.length = n := ⟨_, rfl⟩
  obtain ⟨m, hzl⟩ : ∃ m, zs.length = m := ⟨_, rfl⟩
  have hck : ∀ X, Below w.heap.size w X → Calls Try.prog 29 #[.agg #[.int .i64 N, .slice a n c]] X fun e w' => e = .returned (.int .i64 0) ∧ Below X.heap.size X w' := fun X hX => by
    have := check_any N a c ps X (by unfold maxLen; omega) (hE.below hX (Nat.le_refl _)).pairs
    rw [hok, hl] at this
    exact this
  have Hl := Lib.hid hl
  have Hzl := Lib.hid hzl
  have Hz := Lib.hid hz
  rw [hl, hzl]
  rw [hzl] at hzn
  unfold maxLen at hzn
  refine (callsIn_wide (n := 6)).1 ?_
  refine callsIn_of_wp_marks Try.func38 rfl trivial ?_ rfl
  simp only [Try.ntmps38, List.size_toArray, List.length_cons, List.length_nil, Nat.reduceAdd, Nat.reduceSub, Array.replicate_succ, Array.replicate_zero, List.push_toArray, List.append_toArray, List.nil_append, List.cons_append]
  have hb0 := Lib.hid ((Below.refl w.heap.size w).alloc (Nat.le_refl _) (Obj.cells #[Value.int .i64 (N : Int), Value.slice a n c] 24))
  gi_wp2_with fail
  refine ⟨trivial, (callsIn_wide.2 (hck _ hb0.out)).mono ?_⟩
  rintro e w1 ⟨rfl, hb1⟩
  have hs1 : w.heap.size < w1.heap.size := by have := hb1.size; simp at this; omega
  have c0 := (hb1.cell (p := ⟨w.heap.size, 0, none⟩) (by simp)).trans (show _ = some (Value.int .i64 (N : Int)) by simp)
  have c1 := (hb1.cell (p := ⟨w.heap.size, 1, none⟩) (by simp)).trans (show _ = some (Value.slice a n c) by simp)
  have Hb1 := Lib.hid (hb0.out.trans (hb1.mono (by simp)))
  have Hm := Lib.hid hm
  have HE := Lib.hid hE
  have Hg := Lib.hid hg
  clear hb1 hl hzl hz hm hE hck hg hok
  have c0a : ∀ o, (w1.alloc o).cell? ⟨w.heap.size, 0, none⟩ = some (.int .i64 (N : Int)) := fun o => (((Below.refl w1.heap.size w1).alloc (Nat.le_refl _) o).cell (p := ⟨w.heap.size, 0, none⟩) hs1).trans c0
  gi_wp2_with (gi_at_make; refine wpListIn_make_full' _ rfl _ _ 45 rfl 0 4 i0 (.bool false) 1 Try.underlying45 hi hz0 hz1 _ _ _ _ N rfl rfl rfl rfl ?c1 ?c2 ?c3 ?_)
  case c1 => rw [hz2]; omega
  case c2 => unfold maxLen; omega
  case c3 => exact Nat.zero_le _
  intro w2 hown hg2
  have hb2 : Below w1.heap.size w1 w2 := ((Below.refl w1.heap.size w1).alloc (Nat.le_refl _) _).grown hg2 (by simp) (fun k hk => by cases hk)
  have hR := (World.ownsRow.lt hown (w1.heap.size + 1) rfl).2
  have bL : Boxed w2 w1.heap.size 31 (.slice none 0 0) := (Boxed.new w1 _ _).kept hg2 (by simp)
  have o : LO w1.heap.size (w1.heap.size + 1) w2.heap.size (w2.heap.size + 1) (w2.heap.size + 2) := ⟨rfl, hR, rfl, rfl⟩
  have bM := (Boxed.new w2 45 (.slice (some ⟨w1.heap.size + 1, 0, none⟩) N N)).alloc (.cells #[.func (.func 58) #[] #[.pointer (some ⟨w2.heap.size, 0, none⟩), .pointer (some ⟨w1.heap.size, 0, none⟩)]] 66)
  have bF := Boxed.new (w2.alloc (.cells #[.slice (some ⟨w1.heap.size + 1, 0, none⟩) N N] 45)) 66 (.func (.func 58) #[] #[.pointer (some ⟨w2.heap.size, 0, none⟩), .pointer (some ⟨w1.heap.size, 0, none⟩)])
  rw [World.size_alloc] at bF
  have hrow : RowB w2 0 (w1.heap.size + 1) (List.replicate N false) := by
    unfold RowB
    rw [List.length_replicate, show (List.replicate N false).map Value.bool = (madeCells #[Value.bool false] N).toList by rw [toList_madeCells_one]; simp]
    exact hown
  have hLR : LR w1 ((w2.alloc (.cells #[.slice (some ⟨w1.heap.size + 1, 0, none⟩) N N] 45)).alloc (.cells #[.func (.func 58) #[] #[.pointer (some ⟨w2.heap.size, 0, none⟩), .pointer (some ⟨w1.heap.size, 0, none⟩)]] 66)) w1.heap.size (w1.heap.size + 1) w2.heap.size (w2.heap.size + 1) N (w2.heap.size + 2) (.slice none 0 0) (startR (N : Int) zs 0) := by
    refine ⟨⟨(bL.alloc _).alloc _, World.ownsRow_nil _ _ _ _, bM, (hrow.alloc _).alloc _, by simp [startR], by omega, by simp⟩, bF, (hb2.alloc (by omega) _).alloc (by simp; omega) _, RInv.start zs 0⟩
  have HLR := Lib.hid hLR
  clear hown hg2 hb2 bL bM bF hrow hLR c0a
  gi_wp2
  gi_loopw [21] (fun i wr => ∃ (k : Nat) (u : Value), k ≤ m ∧ i = .int .i64 k ∧ LR w1 wr w1.heap.size (w1.heap.size + 1) w2.heap.size (w2.heap.size + 1) N (w2.heap.size + 2) u (startR (N : Int) zs k)) (fun i _ => m - (intOf i).toNat)
  case atStart => exact ⟨0, _, Nat.zero_le _, rfl, HLR.out⟩
  case round =>
    obtain ⟨k, u, hk, rfl, hL⟩ := hrel
    have HL := Lib.hid hL
    have g0 := (hL.below.cell (p := ⟨w.heap.size, 0, none⟩) hs1).trans c0
    have g1 := (hL.below.cell (p := ⟨w.heap.size, 1, none⟩) hs1).trans c1
    have gF := hL.fbox.cell
    by_cases hlt : k < m
    · obtain ⟨bz, oz, rfl, hcz⟩ := (Hz.out.below (Hb1.out.trans (hL.below.mono (Nat.le_of_lt hs1))) (Nat.le_refl _)) (by rw [Hzl.out]; omega)
      have cz := hcz k (by rw [Hzl.out]; exact hlt)
      obtain ⟨z, hze⟩ : ∃ z, zs.getD k 0 = z := ⟨_, rfl⟩
      rw [hze] at cz
      have Hze := Lib.hid hze
      clear hL hcz hze
      cases hnd : isNd (N : Int) z with
      | true =>
        have hzz := isNd_iff.1 hnd
        have hst : Hid (startR (N : Int) zs (k + 1) = addR (startR (N : Int) zs k) z) := by
          show _ = _
          conv => lhs; unfold startR
          rw [Hze.out, if_pos hnd]
        gi_wp2_with (first
          | (refine ⟨trivial, ?_⟩; gi_at_call 46; refine (callsIn_wide.2 (isNode_at (N : Int) _ _)).mono ?_; rintro e w' ⟨rfl, rfl⟩)
          | (refine ⟨trivial, ?_⟩; gi_at_call 58; refine (callsIn_wide.2 (add_at HL.out o (by omega) z hzz.1 hzz.2)).mono ?_; rintro e w' ⟨rfl, u', hL', _⟩; have HL' := Lib.hid hL'; clear hL'))
        go_roundw
        case rel => exact ⟨k + 1, u', by omega, by go_num, by rw [hst.out]; exact HL'.out⟩
        case measure => simp [intOf]; omega
      | false =>
        have hst : Hid (startR (N : Int) zs (k + 1) = startR (N : Int) zs k) := by
          show _ = _
          conv => lhs; unfold startR
          rw [Hze.out, if_neg (by rw [hnd]; decide)]
        gi_wp2_with (refine ⟨trivial, ?_⟩; gi_at_call 46; refine (callsIn_wide.2 (isNode_at (N : Int) _ _)).mono ?_; rintro e w' ⟨rfl, rfl⟩)
        go_roundw
        case rel => exact ⟨k + 1, u, by omega, by go_num, by rw [hst.out]; exact HL.out⟩
        case measure => simp [intOf]; omega
    · obtain rfl : k = m := by omega
      have hfin : Hid (reachR (N : Int) ps zs = walkR ps (N + 1 - 0) 0 (startR (N : Int) zs k)) := by
        show _ = _
        unfold reachR
        rw [Hzl.out]; rfl
      clear hL
      gi_wp2
      refine wpIn_loop (fun a' W => ∃ (q : Nat) (v : Value) (st : List Bool × List Int) (Ds : List Nat) (u11 u33 u34 u35 u36 u37 u38 u39 u40 u41 u42 u43 u44 u46 u47 u48 : Value), (q ≤ N ∧ LR w1 W w1.heap.size (w1.heap.size + 1) w2.heap.size (w2.heap.size + 1) N (w2.heap.size + 2) v st ∧ reachR (N : Int) ps zs = walkR ps (N + 1 - q) q st ∧ Marks W Ds ∧ ∀ D ∈ Ds, w2.heap.size + 2 ≤ D) ∧ a' = { tmps := #[.agg #[.int .i64 (N : Int), .slice a n c], .slice b k d, .pointer (some ⟨w.heap.size, 0, none⟩), undef, .slice none 0 0, .pointer (some ⟨w1.heap.size, 0, none⟩), .pointer (some ⟨w2.heap.size, 0, none⟩), .pointer (some ⟨w2.heap.size + 1, 0, none⟩), undef, u9, .int .i64 (q : Int), u11, .agg #[.int .i64 (N : Int), .slice a n c], .int .i64 0, .bool false, .pointer (some ⟨w.heap.size, 0, none⟩), .int .i64 (N : Int), .slice (some ⟨w1.heap.size + 1, 0, none⟩) N N, .func (.func 58) #[] #[.pointer (some ⟨w2.heap.size, 0, none⟩), .pointer (some ⟨w1.heap.size, 0, none⟩)], .slice b k d, .int .i64 (k : Int), .int .i64 (k : Int), .bool false, u23, u24, u25, u26, u27, u28, u29, u30, u31, u32, u33, u34, u35, u36, u37, u38, u39, u40, u41, u42, u43, u44, undef, u46, u47, u48, undef, undef, undef], defers := Ds.map mark }) (fun a' _ => N + 1 - (intOf (a'.tmps.getD 10 undef)).toNat) ?start ?round2
      case start => exact ⟨0, _, _, [], _, _, _, _, _, _, _, _, _, _, _, _, _, _, _, _, ⟨Nat.zero_le _, HL.out, hfin.out, Marks.nil _, by simp⟩, rfl⟩
      case round2 =>
        clear HL g0 g1 gF hfin
        rintro _ wr ⟨q, u, st, Ds, u11, u33, u34, u35, u36, u37, u38, u39, u40, u41, u42, u43, u44, u46, u47, u48, ⟨hq, hL, hre, hMk, hDs⟩, rfl⟩
        obtain ⟨au, cu, hu⟩ : ∃ au cu, u = .slice au st.2.length cu := by
          rcases hL.rs.own.2 with ⟨rfl, h0⟩ | ⟨g, cap, cur, rfl, _⟩
          · exact ⟨none, 0, by rw [h0]⟩
          · exact ⟨_, _, rfl⟩
        subst hu
        have HL := Lib.hid hL
        have Hre := Lib.hid hre
        have HMk := Lib.hid hMk
        have HDs := Lib.hid hDs
        have g0 := (hL.below.cell (p := ⟨w.heap.size, 0, none⟩) hs1).trans c0
        have g1 := (hL.below.cell (p := ⟨w.heap.size, 1, none⟩) hs1).trans c1
        have gF := hL.fbox.cell
        have gL := hL.rs.box.cell
        have hcnt := hL.inv.cnt
        by_cases hlt2 : q < st.2.length
        · obtain ⟨ax, hax, hcx⟩ : ∃ g, au = some ⟨g, 0, none⟩ ∧ wr.cell? ⟨g, q, none⟩ = some (.int .i64 (st.2.getD q 0)) := by
            rcases hL.rs.own.2 with ⟨hv, h0⟩ | ⟨g, cap, cur, hv, _⟩
            · omega
            · cases hv
              refine ⟨g, rfl, ?_⟩
              rw [World.ownsRow.cellAt hL.rs.own q (by omega)]
              simp [List.getD_eq_getElem?_getD, hlt2]
          subst hax
          obtain ⟨v, hv⟩ : ∃ v, st.2.getD q 0 = v := ⟨_, rfl⟩
          rw [hv] at hcx
          have Hv := Lib.hid hv
          have hqb : q < N + 1 := by omega
          clear hL hre hv hMk hDs
          gi_wp2
          have hmix : Try.prog.follows .mixedOrders = true := by kernel_rfl
          refine wpIn_region_noPanic ?_
          gi_region_with_o (refine ⟨trivial, ?_⟩; gi_at_call 59; refine (callsIn_wide.2 (successors_any (N : Int) a n c v _)).mono ?_; rintro e w' ⟨rfl, rfl⟩)
          all_goals
            refine NoPanic.normal ?_
            gi_wp2
            have hst := HL.out
            have hE0 := HE.out.below (Hb1.out.trans (hst.below.mono (Nat.le_of_lt hs1))) (Nat.le_refl _)
            have hal : Below wr.heap.size wr (((wr.alloc (.cells #[.int .i64 (N : Int), .slice a n c] 24)).alloc (.cells #[.int .i64 v] 3)).drew) := (((Below.refl _ wr).alloc (Nat.le_refl _) _).alloc (by simp) _).drew
            have hko : KeepsOthers wr (((wr.alloc (.cells #[.int .i64 (N : Int), .slice a n c] 24)).alloc (.cells #[.int .i64 v] 3)).drew) := ⟨hal.size, fun k o hk _ => (hal.block k (Array.getElem?_eq_some_iff.1 hk).1).trans hk⟩
            have k1 : (((wr.alloc (.cells #[.int .i64 (N : Int), .slice a n c] 24)).alloc (.cells #[.int .i64 v] 3)).drew).cell? ⟨wr.heap.size, 1, none⟩ = some (.slice a n c) := by simp [go_sem]
            have k2 : (((wr.alloc (.cells #[.int .i64 (N : Int), .slice a n c] 24)).alloc (.cells #[.int .i64 v] 3)).drew).cell? ⟨wr.heap.size + 1, 0, none⟩ = some (.int .i64 v) := by simp [go_sem]
            have hsz3 : (((wr.alloc (.cells #[.int .i64 (N : Int), .slice a n c] 24)).alloc (.cells #[.int .i64 v] 3)).drew).heap.size = wr.heap.size + 2 := by simp
            have hL3 := LR.grow HL.out o hal
            generalize hW0 : ((wr.alloc (.cells #[.int .i64 (N : Int), .slice a n c] 24)).alloc (.cells #[.int .i64 v] 3)).drew = W0 at *
            clear hW0
            have hMk3 := HMk.out.others hko
            have hE3 := hE0.below hal (Nat.le_refl _)
            have hDlt : ∀ D ∈ Ds, D < W0.heap.size := hMk3.lt
            have hn3 := HL.out.rs.sz
            obtain ⟨be, hbe, hbe1, hbe2, hstops⟩ := succ_stopsP (fun x => 0 ≤ x ∧ x < (N : Int)) 5 (by omega) wr.heap.size (wr.heap.size + 1) a c v ps Hm.out (fun i hi => (Hg.out.node i hi).2) hlen W0 hE3 (by rw [Hl.out]; exact k1) k2
            have hown0 : ∀ q, Value.ownBlock (.slice (some ⟨ax, 0, none⟩) st.2.length cu) = some q → w2.heap.size + 2 ≤ q ∧ q < wr.heap.size := fun q e => World.ownsRow.lt HL.out.rs.own q e
            have hbl : be = wr.heap.size ∨ be < w.heap.size := by
              by_cases h0 : ps = []
              · exact .inl (hbe1 h0)
              · obtain ⟨b, off, rfl, hp⟩ := HE.out.pairs (List.length_pos_iff.2 h0)
                have h1 := World.block_lt_of_cell? _ _ (hp 0 (List.length_pos_iff.2 h0)).1
                have h2 := hbe2 h0
                simp only [blk] at h2 h1
                omega
            refine rangeG (P := fun x => 0 ≤ x ∧ x < (N : Int)) 45 11 (by omega) (gf := 68) (lb := #[.pointer (some ⟨wr.heap.size, 0, none⟩), .pointer (some ⟨wr.heap.size + 1, 0, none⟩)]) rfl (enters_of Try.func68 (by kernel_rfl) rfl) hstops KpG.trans (KpG.put (by omega) (by omega) hbe) rfl
              (fun pre W => ∃ u', LR w1 W w1.heap.size (w1.heap.size + 1) w2.heap.size (w2.heap.size + 1) N (w2.heap.size + 2) u' ((pre.map Subtype.val).foldl addR st) ∧ Marks W Ds ∧ W0.heap.size ≤ W.heap.size ∧ ∀ q, u'.ownBlock = some q → q ≠ wr.heap.size ∧ q ≠ wr.heap.size + 1 ∧ q ≠ be) ?hI ⟨_, hL3, hMk3, Nat.le_refl _, fun q e => by have := hown0 q e; omega⟩ ?assign ?body ?done
            case hI =>
              rintro pre A B row ⟨u', h1, h2, h3, h4⟩ hg hr
              exact ⟨u', h1.kept (by omega) (by omega) (by omega) hg (fun r e => ⟨by have := (hr r e).1; omega, (hr r e).2⟩), h2.kept hg (fun D hD e => by have := (hr D e.symm).1; have := hDlt D hD; omega), Nat.le_trans h3 hg.size, h4⟩
            case assign =>
              intro l x W K hK
              gi_wp2
              exact hK
            case body =>
              rintro l pre x hx W ⟨u', hLx, hMx, hSx, hbx⟩ hlt
              have hF := hLx.fbox.cell
              have HLx := Lib.hid hLx
              clear hLx
              gi_wp2_with (refine ⟨trivial, ?_⟩; gi_at_call 58; refine (CallsIn.inRound l (callsIn_wide.2 (add_at HLx.out o (by omega) x hx.1 hx.2))).mono ?_; rintro e w' ⟨rfl, u2, hL2, hF2⟩)
              have hsz4 := hF2.size
              refine ⟨hF2.keeps.from _, ⟨⟨hF2.block _ (by omega) (by omega) (by omega) (fun e => (hbx _ e.symm).1 rfl), hF2.block _ (by omega) (by omega) (by omega) (fun e => (hbx _ e.symm).2.1 rfl), hF2.block _ (by omega) (by omega) (by omega) (fun e => (hbx _ e.symm).2.2 rfl)⟩, hF2.size⟩, u2, by simpa [List.foldl_append] using hL2, hMx.others hF2.keeps, Nat.le_trans hSx hF2.size, fun q e => ?_⟩
              rcases hF2.lies with h | ⟨k, h, hk⟩
              · exact hbx q (h.symm.trans e)
              · rw [h] at e; cases e; omega
            case done =>
              rintro D ys W hD hys ⟨u', hLx, hMx, hSx, hbx⟩ hK
              gi_wp2
              refine ⟨⟨q + 1, u', scanR ps st v, D :: Ds, _, _, _, _, _, _, _, _, _, _, _, _, _, _, _, _, ⟨by omega, by unfold scanR; rw [← hys]; exact hLx, ?_, hMx.cons hK (fun h => by have := hDlt D h; omega), fun E hE => ?_⟩, rfl⟩, ?_⟩
              · rw [Hre.out, show N + 1 - q = (N + 1 - (q + 1)) + 1 by omega, walkR_go hlt2, Hv.out]
              · rcases List.mem_cons.1 hE with rfl | hE
                · omega
                · exact HDs.out E hE
              · show N + 1 - ((q : Int) + 1).toNat < N + 1 - ((q : Nat) : Int).toNat
                omega
        · have hen : Hid (st = reachR (N : Int) ps zs) := by
            show _ = _
            rw [hre, walkR_end hlt2]
          have hsort := sortI_any (w2.heap.size + 2) (.slice au st.2.length cu) st.2 wr hL.rs.own (by have := hL.inv.cnt; omega)
          clear hL hre hMk hDs
          gi_wp2_with (refine ⟨trivial, ?_⟩; gi_at_call 52; refine (callsIn_wide.2 hsort).mono ?_; rintro e w5 ⟨rfl, ho5, hg5⟩; have gL5 := (HL.out.rs.box.kept hg5 (fun e => by have := (World.ownsRow.lt HL.out.rs.own _ e.symm).1; omega)).cell)
          have hM5 := HMk.out.kept hg5 (HMk.out.not_row HL.out.rs.own)
          have hb5 : Below w.heap.size w w5 := (Hb1.out.trans (HL.out.below.mono (Nat.le_of_lt hs1))).grown hg5 (by have := HL.out.rs.sz; omega) (fun k hk => by have := (World.ownsRow.lt HL.out.rs.own _ hk).1; omega)
          refine leaves_marks Ds _ hM5 fun W' hs => ?_
          refine ⟨_, results_tmp rfl _ _ _, _, rfl, ?_, hb5.trans (hs.below fun D hD => by have := HDs.out D hD; omega)⟩
          have ho6 := hs.row hM5 ho5
          unfold reachL
          rw [← hen.out]
          exact Own.mono ho6 (by omega)
end Go.Proofs.Ytopbbihbpalnlaa
