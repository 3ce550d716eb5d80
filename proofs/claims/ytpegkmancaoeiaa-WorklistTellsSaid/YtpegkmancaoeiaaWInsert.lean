/-
  slices.Insert of one int into a slice of the call's own.
-/
import Derived.Test.YtpegkmancaoeiaaWPlace
namespace Go.Proofs.Ytpegkmancaoeiaa
open Go.RowKit Go.Shelf Go.Lib Go.WideShapes
set_option linter.unusedVariables false

theorem own_of_cells {w : World} {base g cap : Nat} {cur : Array Value} {zs : List Int} (hb : base ≤ g) (hh : w.heap[g]? = some (.cells cur 3 (0, 0))) (hs : cur.size = cap) (hn : zs.length ≤ cap) (hm : cap ≤ maxLen)
    (hc : ∀ j, j < zs.length → w.cell? ⟨g, j, none⟩ = some (.int .i64 (zs.getD j 0))) : Own w base (.slice (some ⟨g, 0, none⟩) zs.length cap) zs := by
  refine ⟨by simp, .inr ⟨g, cap, cur, rfl, hb, hh, hn, hm, by omega, ?_⟩⟩
  apply List.ext_getElem?
  intro j
  rw [List.getElem?_take, Nat.mul_one]
  by_cases h : j < zs.length
  · have := hc j h
    rw [cell_of_row w g j cur 3 (0, 0) hh] at this
    rw [if_pos h]
    simp only [List.getElem?_map, List.getElem?_eq_getElem h, Option.map_some]
    rw [Array.getElem?_toList, this]
    simp [List.getD, h]
  · rw [if_neg h, List.getElem?_eq_none (by simp; omega)]

theorem own_of_cells_at {w : World} {base g cap n : Nat} {cur : Array Value} {zs : List Int} (hl : zs.length = n) (hb : base ≤ g) (hh : w.heap[g]? = some (.cells cur 3 (0, 0))) (hs : cur.size = cap) (hn : n ≤ cap) (hm : cap ≤ maxLen)
    (hc : ∀ j, j < n → w.cell? ⟨g, j, none⟩ = some (.int .i64 (zs.getD j 0))) : Own w base (.slice (some ⟨g, 0, none⟩) n cap) zs := by
  subst hl; exact own_of_cells hb hh hs hn hm hc
theorem setCell_obj {w : World} {g : Nat} {cur : Array Value} {t : TypeId} {fz : Nat × Nat} (h : w.heap[g]? = some (.cells cur t fz)) (o : Nat) (v : Value) : (w.setCell ⟨g, o, none⟩ v).heap[g]? = some (.cells (cur.setIfInBounds o v) t fz) := by
  show (w.heap.modify g _)[g]? = _
  rw [Array.getElem?_modify, if_pos rfl, h]
  rfl
theorem alloc_obj (w : World) (o : Obj) : (w.alloc o).heap[w.heap.size]? = some o := by
  show (w.heap.push o)[w.heap.size]? = some o
  simp
theorem alloc_obj_drew (w : World) (o : Obj) : (w.drew.alloc o).heap[w.heap.size]? = some o := alloc_obj w.drew o
theorem alloc_grown (w : World) (o : Obj) (row : Option Nat) : w.grownBy (w.drew.alloc o) row :=
  ⟨rfl, rfl, rfl, by show w.heap.size ≤ (w.heap.push o).size; simp, fun i hi _ => by
    show (w.heap.push o)[i]? = w.heap[i]?
    rw [Array.getElem?_push_lt hi, Array.getElem?_eq_getElem hi]⟩
theorem ren3 : Try.lays21_ren.t 3 = 3 := rfl
theorem setCells_obj (g : Nat) (t : TypeId) (fz : Nat × Nat) : ∀ (vs : List Value) (o : Nat) (w : World) (cur : Array Value), w.heap[g]? = some (.cells cur t fz) → ∃ cur', (w.setCells g o vs).heap[g]? = some (.cells cur' t fz) ∧ cur'.size = cur.size
  | [], o, w, cur, h => ⟨cur, h, rfl⟩
  | v :: r, o, w, cur, h => by
    obtain ⟨cur', h1, h2⟩ := setCells_obj g t fz r (o + 1) _ _ (setCell_obj h o v)
    exact ⟨cur', h1, by rw [h2]; simp⟩
theorem setCells_grown (g : Nat) : ∀ (vs : List Value) (o : Nat) (w : World), w.grownBy (w.setCells g o vs) (some g)
  | [], o, w => World.grownBy.refl _ _
  | v :: r, o, w => grown_trans (grown_setCell w g o v) (setCells_grown g r (o + 1) _)

/-- The items with x at the place i. -/
def insAt (zs : List Int) (i : Nat) (x : Int) : List Int := zs.take i ++ x :: zs.drop i
theorem length_insAt {zs : List Int} {i : Nat} {x : Int} (h : i ≤ zs.length) : (insAt zs i x).length = zs.length + 1 := by
  unfold insAt
  rw [List.length_append, List.length_cons, List.length_take, List.length_drop]; omega
theorem getD_insAt {zs : List Int} {i : Nat} {x : Int} (h : i ≤ zs.length) (j : Nat) : (insAt zs i x).getD j 0 = if j < i then zs.getD j 0 else if j = i then x else zs.getD (j - 1) 0 := by
  unfold insAt
  have hl : (zs.take i).length = i := by rw [List.length_take]; omega
  simp only [List.getD_eq_getElem?_getD, List.getElem?_append, hl]
  by_cases c : j < i
  · rw [if_pos c, if_pos c, List.getElem?_take, if_pos c]
  · rw [if_neg c, if_neg c]
    by_cases c2 : j = i
    · subst c2; rw [if_pos rfl, Nat.sub_self]; rfl
    · rw [if_neg c2, List.getElem?_cons, if_neg (by omega), List.getElem?_drop, show i + (j - i - 1) = j - 1 from by omega]

theorem getElem?_ints {zs : List Int} {j : Nat} {v : Value} (h : (zs.map (Value.int .i64))[j]? = some v) : j < zs.length ∧ v = .int .i64 (zs.getD j 0) := by
  rw [List.getElem?_map] at h
  cases e : zs[j]? with
  | none => rw [e] at h; cases h
  | some z =>
    rw [e] at h
    have hj := (List.getElem?_eq_some_iff.1 e).1
    refine ⟨hj, ?_⟩
    simp at h
    rw [← h, List.getD_eq_getElem?_getD, e]; rfl


section
variable {base : Nat} {zs : List Int} {i : Nat} {x : Int} {vb : Nat} {w : World}
theorem var_cell (hvs : w.heap[vb]? = some (.cells #[.int .i64 x] 3 (0, 0))) : ∀ j u, [Value.int .i64 x][j]? = some u → w.cell? ⟨vb, 0 + j, none⟩ = some u := by
  intro j u hj
  match j, hj with
  | 0, hj =>
    simp at hj; subst hj
    rw [cell_of_row w vb (0 + 0) _ _ (0, 0) hvs]; rfl
theorem var_one : ∀ u ∈ [Value.int .i64 x], u.oneCell' = true := by intro u hu; simp at hu; subst hu; rfl
theorem ints_one : ∀ u ∈ zs.map (Value.int .i64), u.oneCell' = true := by
  intro u hu; simp only [List.mem_map] at hu; obtain ⟨y, _, rfl⟩ := hu; rfl

theorem insert_end_grow (ao : Option Addr) (c : Nat) (hn : zs.length ≤ c) (hc : c < zs.length + 1) (hl : zs.length ≤ 8192) (hz : Ints w ao zs) (hvs : w.heap[vb]? = some (.cells #[.int .i64 x] 3 (0, 0))) (hbase : base ≤ w.heap.size) :
    Calls Try.prog 30 #[.slice ao zs.length c, .int .i64 zs.length, .slice (some ⟨vb, 0, none⟩) 1 1] w fun e w' => ∃ v', e = .returned v' ∧ Own w' base v' (insAt zs zs.length x) ∧ w.grownBy w' (Value.slice ao zs.length c).ownBlock ∧ ∀ b, v'.ownBlock = some b → (Value.slice ao zs.length c).ownBlock = some b ∨ w.heap.size ≤ b := by
  have hil := length_insAt (x := x) (Nat.le_refl zs.length)
  have hS := Any2.slices_Insert_int_end_grow Try.lays21 ao zs.length c vb 0 1 1 (zs.map (.int .i64)) [.int .i64 x] w (by omega) hn hc (by omega) (by simp) rfl
    (fun h => by
      rcases Nat.eq_zero_or_pos zs.length with h0 | h0
      · exact h0
      · obtain ⟨_, _, e, _⟩ := hz h0; rw [h] at e; cases e)
    (fun a ha j v hj => by
      obtain ⟨hj1, rfl⟩ := getElem?_ints hj
      obtain ⟨b, off, e, hcell⟩ := hz (by omega)
      rw [ha] at e; cases e
      rw [add_plain]; exact hcell j hj1) (var_cell hvs) var_one
  rw [ren3] at hS
  refine hS.mono ?_
  rintro e w' ⟨rfl, rfl⟩
  have hge := grownCap_ge w (zs.length + 1) c 3
  have hle := grownCap_le_maxLen w (zs.length + 1) c 3 (by unfold maxLen; omega)
  generalize grownCap w (zs.length + 1) c 3 = C at *
  refine ⟨_, rfl, ?_, alloc_grown _ _ _, fun b hb => .inr (by simp [Value.ownBlock] at hb; omega)⟩
  have ho := alloc_obj_drew w (.cells ((zs.map (Value.int .i64) ++ [Value.int .i64 x]).toArray ++ Builtin.zeroCells (Value.int .i64 0).cells (C - (zs.length + 1))) 3)
  refine own_of_cells_at hil hbase ho (by rw [Array.size_append, size_zeroCells]; simp [Value.cells]; omega) hge hle ?_
  intro j hj
  rw [cell_of_row _ _ _ _ _ _ ho, getD_insAt (Nat.le_refl _)]
  rw [Array.getElem?_append_left (by simp; omega)]
  by_cases c1 : j < zs.length
  · rw [if_pos c1, List.getElem?_toArray, List.getElem?_append_left (by simpa using c1)]; simp [c1]
  · rw [if_neg c1, if_pos (by omega)]
    have : j = zs.length := by omega
    subst this
    simp

theorem insert_end_room (g cap : Nat) (hroom : zs.length + 1 ≤ cap) (hl : zs.length ≤ 8192) (hown : Row w base g cap zs) (hvs : w.heap[vb]? = some (.cells #[.int .i64 x] 3 (0, 0))) :
    Calls Try.prog 30 #[.slice (some ⟨g, 0, none⟩) zs.length cap, .int .i64 zs.length, .slice (some ⟨vb, 0, none⟩) 1 1] w fun e w' => ∃ v', e = .returned v' ∧ Own w' base v' (insAt zs zs.length x) ∧ w.grownBy w' (some g) ∧ ∀ b, v'.ownBlock = some b → some g = some b ∨ w.heap.size ≤ b := by
  have hil := length_insAt (x := x) (Nat.le_refl zs.length)
  rcases hown.2 with ⟨h, _⟩ | ⟨g', cap', cur, hv, hb, hh, hnc, hcm, hcs, htake⟩
  · cases h
  · simp at hv
    obtain ⟨rfl, rfl⟩ := hv
    have hcell : ∀ j, j < cap → (w.cell? ⟨g, j, none⟩).isSome = true := fun j hj => by
      rw [cell_of_row w g j cur _ (0, 0) hh, Array.getElem?_eq_getElem (by omega)]; rfl
    refine (Any2.slices_Insert_int_end_room Try.lays21 g 0 zs.length cap vb 0 1 1 [.int .i64 x] w (by omega) hroom (by unfold maxLen at hcm; omega) rfl
      (fun j hj => by rw [Nat.zero_add]; exact hcell _ (by omega)) (fun j hj => by rw [Nat.zero_add]; exact hown.free _) (var_cell hvs) var_one).mono ?_
    rintro e w' ⟨rfl, rfl⟩
    refine ⟨_, rfl, ?_, setCells_grown _ _ _ _, fun b hb => .inl hb⟩
    rw [Nat.zero_add]
    obtain ⟨cur', h1, h2⟩ := setCells_obj g _ _ [Value.int .i64 x] zs.length w cur hh
    rw [← hil]
    refine own_of_cells hb h1 (by omega) (by rw [hil]; exact hroom) hcm ?_
    intro j hj
    rw [getD_insAt (Nat.le_refl _)]
    rw [hil] at hj
    by_cases c1 : j < zs.length
    · rw [if_pos c1, World.cell?_setCells_out _ _ _ _ _ (fun _ _ => by show j < _ ∨ _; exact .inl c1)]
      exact hown.cell c1
    · rw [if_neg c1, if_pos (by omega)]
      have e : j = zs.length + 0 := by omega
      rw [e, World.cell?_setCells_in g [Value.int .i64 x] zs.length w (fun j hj => by simp at hj; subst hj; exact hcell _ (by omega)) 0 (by simp)]
      rfl

theorem insert_shift (g cap : Nat) (hi : i < zs.length) (hroom : zs.length + 1 ≤ cap) (hl : zs.length ≤ 8192) (hown : Row w base g cap zs) (hvs : w.heap[vb]? = some (.cells #[.int .i64 x] 3 (0, 0))) (hne : vb ≠ g) :
    Calls Try.prog 30 #[.slice (some ⟨g, 0, none⟩) zs.length cap, .int .i64 i, .slice (some ⟨vb, 0, none⟩) 1 1] w fun e w' => ∃ v', e = .returned v' ∧ Own w' base v' (insAt zs i x) ∧ w.grownBy w' (some g) ∧ ∀ b, v'.ownBlock = some b → some g = some b ∨ w.heap.size ≤ b := by
  have hil := length_insAt (x := x) (Nat.le_of_lt hi)
  rcases hown.2 with ⟨h, _⟩ | ⟨g', cap', cur, hv, hb, hh, hnc, hcm, hcs, htake⟩
  · cases h
  · simp at hv
    obtain ⟨rfl, rfl⟩ := hv
    have hcell : ∀ j, j < cap → (w.cell? ⟨g, j, none⟩).isSome = true := fun j hj => by
      rw [cell_of_row w g j cur _ (0, 0) hh, Array.getElem?_eq_getElem (by omega)]; rfl
    refine (Any2.slices_Insert_int_shift Try.lays21 g 0 zs.length cap i vb 0 1 1 (zs.map (.int .i64)) [.int .i64 x] w hi (by omega) hroom (by unfold maxLen at hcm; omega) hne (by simp) rfl
      (fun j v hj => by obtain ⟨hj1, rfl⟩ := getElem?_ints hj; rw [Nat.zero_add]; exact hown.cell hj1)
      (fun j hj => by rw [Nat.zero_add]; exact hcell _ (by omega)) (fun j hj => by rw [Nat.zero_add]; exact hown.free _) (var_cell hvs) ints_one var_one
      3 3 1 cur.size (by simp [World.shape?, hvs]) (by simp [World.shape?, hh]) (by omega) (by simp [World.frozen?, hvs]) (by simp [World.frozen?, hvs])).mono ?_
    rintro e w' ⟨rfl, rfl⟩
    have hg1 : w.grownBy w.drew (some g) := ⟨rfl, rfl, rfl, Nat.le_refl _, fun _ _ _ => rfl⟩
    have hg2 := setCells_grown g ((zs.map (Value.int .i64)).drop i) (0 + (i + 1)) w.drew
    obtain ⟨cur1, h1, h2⟩ := setCells_obj g _ _ ((zs.map (Value.int .i64)).drop i) (0 + (i + 1)) w.drew cur hh
    have hin1 : ∀ j, j < zs.length - i → (w.drew.setCells g (0 + (i + 1)) ((zs.map (Value.int .i64)).drop i)).cell? ⟨g, i + 1 + j, none⟩ = some (.int .i64 (zs.getD (i + j) 0)) := fun j hj => by
      have := World.cell?_setCells_in g ((zs.map (Value.int .i64)).drop i) (0 + (i + 1)) w.drew (fun j hj => by simp at hj; show (w.cell? _).isSome = true; exact hcell _ (by omega)) j (by simp; omega)
      rw [show 0 + (i + 1) + j = i + 1 + j from by omega] at this
      rw [this]
      simp [show i + j < zs.length from by omega]
    have hout1 : ∀ j, j < i + 1 → (w.drew.setCells g (0 + (i + 1)) ((zs.map (Value.int .i64)).drop i)).cell? ⟨g, j, none⟩ = w.cell? ⟨g, j, none⟩ := fun j hj =>
      World.cell?_setCells_out _ _ _ _ _ (fun _ _ => by show j < _ ∨ _; omega)
    generalize w.drew.setCells g (0 + (i + 1)) ((zs.map (Value.int .i64)).drop i) = w1 at *
    have hg3 := setCells_grown g [Value.int .i64 x] (0 + i) w1
    obtain ⟨cur2, h3, h4⟩ := setCells_obj g _ _ [Value.int .i64 x] (0 + i) w1 cur1 h1
    refine ⟨_, rfl, ?_, grown_trans (grown_trans hg1 hg2) hg3, fun b hb => .inl hb⟩
    rw [← hil]
    refine own_of_cells hb h3 (by omega) (by rw [hil]; exact hroom) hcm ?_
    intro j hj
    rw [getD_insAt (by omega)]
    rw [hil] at hj
    by_cases c1 : j < i
    · rw [if_pos c1, World.cell?_setCells_out _ _ _ _ _ (fun _ _ => by show j < _ ∨ _; omega), hout1 j (by omega)]
      exact hown.cell (by omega)
    · rw [if_neg c1]
      by_cases c2 : j = i
      · rw [if_pos c2]
        have e : j = 0 + i + 0 := by omega
        rw [e, World.cell?_setCells_in g [Value.int .i64 x] (0 + i) w1 (fun k hk => by
          simp at hk; subst hk
          rw [hout1 _ (by omega)]; exact hcell _ (by omega)) 0 (by simp)]
        rfl
      · rw [if_neg c2, World.cell?_setCells_out _ _ _ _ _ (fun _ _ => by show j < _ ∨ _ ≤ j; simp; omega)]
        have := hin1 (j - (i + 1)) (by omega)
        rw [show i + 1 + (j - (i + 1)) = j from by omega, show i + (j - (i + 1)) = j - 1 from by omega] at this
        exact this

theorem insert_grow (g cap : Nat) (hi : i < zs.length) (hroom : cap < zs.length + 1) (hl : zs.length ≤ 8192) (hown : Row w base g cap zs) (hvs : w.heap[vb]? = some (.cells #[.int .i64 x] 3 (0, 0))) (hbase : base ≤ w.heap.size) :
    Calls Try.prog 30 #[.slice (some ⟨g, 0, none⟩) zs.length cap, .int .i64 i, .slice (some ⟨vb, 0, none⟩) 1 1] w fun e w' => ∃ v', e = .returned v' ∧ Own w' base v' (insAt zs i x) ∧ w.grownBy w' (some g) ∧ ∀ b, v'.ownBlock = some b → some g = some b ∨ w.heap.size ≤ b := by
  have hil := length_insAt (x := x) (Nat.le_of_lt hi)
  rcases hown.2 with ⟨h, _⟩ | ⟨g', cap', cur, hv, hb, hh, hnc, hcm, hcs, htake⟩
  · cases h
  · simp at hv
    obtain ⟨rfl, rfl⟩ := hv
    have hS := Any2.slices_Insert_int_grow Try.lays21 g 0 zs.length cap i vb 0 1 1 (zs.map (.int .i64)) [.int .i64 x] w hi (by omega) hnc hroom (by omega) (by simp) rfl
      (fun j v hj => by obtain ⟨hj1, rfl⟩ := getElem?_ints hj; rw [Nat.zero_add]; exact hown.cell hj1) (var_cell hvs) ints_one var_one
    rw [ren3] at hS
    refine hS.mono ?_
    rintro e w' ⟨rfl, rfl⟩
    have hge := grownCap_ge w (zs.length + 1) cap 3
    have hle := grownCap_le_maxLen w (zs.length + 1) cap 3 (by unfold maxLen; omega)
    generalize grownCap w (zs.length + 1) cap 3 = C at *
    have ho := alloc_obj w (.cells (((zs.map (Value.int .i64)).take i).toArray ++ Builtin.zeroCells (Value.int .i64 0).cells (zs.length + 1 - i) ++ Builtin.zeroCells (Value.int .i64 0).cells (C - (zs.length + 1))) 3)
    have hsz : (((zs.map (Value.int .i64)).take i).toArray ++ Builtin.zeroCells (Value.int .i64 0).cells (zs.length + 1 - i) ++ Builtin.zeroCells (Value.int .i64 0).cells (C - (zs.length + 1))).size = C := by
      rw [Array.size_append, Array.size_append, size_zeroCells, size_zeroCells]; simp [Value.cells]; omega
    have hold : ∀ j, j < i → (((zs.map (Value.int .i64)).take i).toArray ++ Builtin.zeroCells (Value.int .i64 0).cells (zs.length + 1 - i) ++ Builtin.zeroCells (Value.int .i64 0).cells (C - (zs.length + 1)))[j]? = some (.int .i64 (zs.getD j 0)) := fun j hj => by
      rw [Array.append_assoc, Array.getElem?_append_left (by simp; omega)]
      simp [hj, show j < zs.length from by omega]
    generalize ((zs.map (Value.int .i64)).take i).toArray ++ Builtin.zeroCells (Value.int .i64 0).cells (zs.length + 1 - i) ++ Builtin.zeroCells (Value.int .i64 0).cells (C - (zs.length + 1)) = A at *
    have hg1 : w.grownBy (w.alloc (.cells A 3)).drew none := ⟨rfl, rfl, rfl, by show w.heap.size ≤ (w.heap.push _).size; simp, fun k hk _ => by
      show (w.heap.push _)[k]? = w.heap[k]?
      rw [Array.getElem?_push_lt hk, Array.getElem?_eq_getElem hk]⟩
    have ho1 : (w.alloc (.cells A 3)).drew.heap[w.heap.size]? = some (.cells A 3 (0, 0)) := ho
    generalize (w.alloc (.cells A 3)).drew = w1 at *
    have hg2 := setCells_grown w.heap.size [Value.int .i64 x] i w1
    obtain ⟨cur2, h3, h4⟩ := setCells_obj w.heap.size _ _ [Value.int .i64 x] i w1 A ho1
    have hA : ∀ j, j < C → (w1.cell? ⟨w.heap.size, j, none⟩).isSome = true := fun j hj => by
      rw [cell_of_row w1 _ j A _ (0, 0) ho1, Array.getElem?_eq_getElem (by omega)]; rfl
    have hx2 : (w1.setCells w.heap.size i [Value.int .i64 x]).cell? ⟨w.heap.size, i, none⟩ = some (.int .i64 x) := by
      have := World.cell?_setCells_in w.heap.size [Value.int .i64 x] i w1 (fun k hk => by simp at hk; subst hk; exact hA _ (by omega)) 0 (by simp)
      simpa using this
    have hlow : ∀ j, j < i → (w1.setCells w.heap.size i [Value.int .i64 x]).cell? ⟨w.heap.size, j, none⟩ = some (.int .i64 (zs.getD j 0)) := fun j hj => by
      rw [World.cell?_setCells_out _ _ _ _ _ (fun _ _ => by show j < _ ∨ _; omega), cell_of_row w1 _ j A _ (0, 0) ho1]
      exact hold j hj
    have h3' : (w1.setCells w.heap.size i [Value.int .i64 x]).drew.heap[w.heap.size]? = some (.cells cur2 3 (0, 0)) := h3
    have hg3 : w1.grownBy (w1.setCells w.heap.size i [Value.int .i64 x]).drew (some w.heap.size) := ⟨hg2.os, hg2.tape, hg2.output, hg2.size, hg2.block⟩
    have hx2' : (w1.setCells w.heap.size i [Value.int .i64 x]).drew.cell? ⟨w.heap.size, i, none⟩ = some (.int .i64 x) := hx2
    have hlow' : ∀ j, j < i → (w1.setCells w.heap.size i [Value.int .i64 x]).drew.cell? ⟨w.heap.size, j, none⟩ = some (.int .i64 (zs.getD j 0)) := hlow
    generalize (w1.setCells w.heap.size i [Value.int .i64 x]).drew = w2 at *
    have hg4 := setCells_grown w.heap.size ((zs.map (Value.int .i64)).drop i) (i + 1) w2
    obtain ⟨cur3, h5, h6⟩ := setCells_obj w.heap.size _ _ ((zs.map (Value.int .i64)).drop i) (i + 1) w2 cur2 h3'
    have hfin : w.grownBy (w2.setCells w.heap.size (i + 1) ((zs.map (Value.int .i64)).drop i)) (some g) := by
      have a := grown_trans hg3 hg4
      refine ⟨a.os.trans hg1.os, a.tape.trans hg1.tape, a.output.trans hg1.output, Nat.le_trans hg1.size a.size, fun k hk hk2 => ?_⟩
      have hlt := (World.ownsRow.lt hown g rfl).2
      rw [a.block k (Nat.lt_of_lt_of_le hk hg1.size) (by simp; omega)]
      exact hg1.block k hk (by simp)
    refine ⟨_, rfl, ?_, hfin, fun b hb => .inr (by simp [Value.ownBlock] at hb; omega)⟩
    rw [← hil]
    refine own_of_cells hbase h5 (by omega) (by rw [hil]; exact hge) hle ?_
    intro j hj
    rw [getD_insAt (by omega)]
    rw [hil] at hj
    by_cases c1 : j < i
    · rw [if_pos c1, World.cell?_setCells_out _ _ _ _ _ (fun _ _ => by show j < _ ∨ _; omega)]
      exact hlow' j c1
    · rw [if_neg c1]
      by_cases c2 : j = i
      · rw [if_pos c2, World.cell?_setCells_out _ _ _ _ _ (fun _ _ => by show j < _ ∨ _; omega), c2]
        exact hx2'
      · rw [if_neg c2]
        have := World.cell?_setCells_in w.heap.size ((zs.map (Value.int .i64)).drop i) (i + 1) w2 (fun k hk => by
          simp at hk
          rw [cell_of_row w2 _ _ cur2 _ (0, 0) h3', Array.getElem?_eq_getElem (by omega)]; rfl) (j - (i + 1)) (by simp; omega)
        rw [show i + 1 + (j - (i + 1)) = j from by omega] at this
        rw [this]
        simp [show i + (j - (i + 1)) = j - 1 from by omega, show j - 1 < zs.length from by omega]
end

theorem insert_any (base : Nat) (v : Value) (zs : List Int) (i : Nat) (x : Int) (vb : Nat) (w : World) (hown : Own w base v zs) (hi : i ≤ zs.length) (hl : zs.length ≤ 8192) (hvs : w.heap[vb]? = some (.cells #[.int .i64 x] 3 (0, 0))) (hne : v.ownBlock ≠ some vb) (hbase : base ≤ w.heap.size) :
    Calls Try.prog 30 #[v, .int .i64 i, .slice (some ⟨vb, 0, none⟩) 1 1] w fun e w' => ∃ v', e = .returned v' ∧ Own w' base v' (insAt zs i x) ∧ w.grownBy w' v.ownBlock ∧ ∀ b, v'.ownBlock = some b → v.ownBlock = some b ∨ w.heap.size ≤ b := by
  rcases hown.2 with ⟨rfl, hn⟩ | ⟨g, cap, cur, rfl, hb, hh, hnc, hcm, hcs, htake⟩
  · have e : zs = [] := List.eq_nil_of_length_eq_zero hn
    subst e
    obtain rfl : i = 0 := by simpa using hi
    exact insert_end_grow (zs := []) none 0 (by simp) (by simp) hl (fun h => absurd h (by simp)) hvs hbase
  · have hrow : Row w base g cap zs := hown
    rcases Nat.lt_or_ge i zs.length with h | h
    · rcases Nat.lt_or_ge cap (zs.length + 1) with h2 | h2
      · exact insert_grow g cap h h2 hl hrow hvs hbase
      · exact insert_shift g cap h h2 hl hrow hvs (fun e => hne (by rw [e]; rfl))
    · obtain rfl : i = zs.length := by omega
      rcases Nat.lt_or_ge cap (zs.length + 1) with h2 | h2
      · exact insert_end_grow (some ⟨g, 0, none⟩) cap hnc h2 hl hrow.ints hvs hbase
      · exact insert_end_room g cap h2 hl hrow hvs
end Go.Proofs.Ytpegkmancaoeiaa
