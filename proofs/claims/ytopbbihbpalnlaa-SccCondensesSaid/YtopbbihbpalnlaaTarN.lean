/-
  The search finds the components: its end.
-/
import Derived.Test.YtopbbihbpalnlaaTarM
namespace Go.Proofs.Ytopbbihbpalnlaa
set_option linter.unusedVariables false

section
variable {N : Nat} {su : Nat → List Nat} {srt : List Nat → List Nat} {num : Nat → Nat} {s : St} {u : Nat}
/-- All of a component is found. -/
theorem Mid.pop {t : St} {num' : Nat → Nat} {ext : List Nat} (hsrt : ∀ l, (srt l).Perm l) (hsu : ∀ x, ∀ y ∈ su x, y < N) (h : Inv N su num s) (hR : ∀ x ∈ s.opn, Rc su x u) (m : Mid N su num s u (su u) t num' ext) (hl : ¬ lg t u < s.cnt + 1) :
    Post N su num s u (popped N srt s.opn.length t) num' [] := by
  have huo : u ∈ t.opn := by rw [m.opn]; simp
  have hdrop : t.opn.drop s.opn.length = u :: ext := by rw [m.opn, List.drop_left]
  have htake : t.opn.take s.opn.length = s.opn := by rw [m.opn, List.take_left]
  have hpop : popped N srt s.opn.length t = ⟨t.cnt, setAll (N + 1) (u :: ext) t.least, s.opn, t.lst ++ [srt (u :: ext)]⟩ := by
    unfold popped
    rw [hdrop, htake]
  rw [hpop]
  have hmem : ∀ x ∈ u :: ext, x ∈ t.opn := fun x hx => by rw [m.opn]; exact List.mem_append_right _ hx
  have hlg : ∀ x, lg ⟨t.cnt, setAll (N + 1) (u :: ext) t.least, s.opn, t.lst ++ [srt (u :: ext)]⟩ x = if x ∈ u :: ext then N + 1 else lg t x := fun x => setAll_at _ _ _ _ (fun y hy => by rw [m.inv.len]; exact ((m.inv.opn y).mp (hmem y hy)).1)
  have hlu : lg t u = s.cnt + 1 := by have := (m.inv.low u huo).1; rw [m.nu] at this; omega
  have hnd := m.inv.nodup
  rw [m.opn, List.nodup_append] at hnd
  have hso : ∀ x ∈ s.opn, x ∈ t.opn := fun x hx => by rw [m.opn]; simp [hx]
  have hsx : ∀ x ∈ s.opn, x ∉ u :: ext := fun x hx hm => hnd.2.2 x hx x hm rfl
  have hcN : t.cnt ≤ N := by have := m.inv.room; omega
  -- the numbers of the component are at least u's
  have hnum : ∀ x ∈ u :: ext, s.cnt + 1 ≤ num' x := fun x hx => by
    rcases List.mem_cons.mp hx with e | e
    · rw [e, m.nu]; exact Nat.le_refl _
    · have := (m.fin x e).2.2.2.1; omega
  have hold : ∀ x ∈ s.opn, num' x ≤ s.cnt := fun x hx => by
    rw [(m.old x hx).1]; exact (h.low x hx).2
  have hlow : ∀ x ∈ u :: ext, s.cnt + 1 ≤ lg t x := fun x hx => by
    rcases List.mem_cons.mp hx with e | e
    · rw [e, hlu]; exact Nat.le_refl _
    · have := (m.fin x e).2.2.1; omega
  -- u and all behind it reach one another
  have hfrom : ∀ x ∈ u :: ext, Rc su u x := fun x hx => by
    rcases List.mem_cons.mp hx with e | e
    · rw [e]; exact .refl
    · have hp := m.inv.conn
      rw [m.opn, List.pairwise_append] at hp
      exact (List.pairwise_cons.mp hp.2.1).1 x e
  have hto : ∀ x ∈ u :: ext, Rc su x u := fun x hx => m.reach hR x (hmem x hx)
  -- an edge out of the component leads to a component found before
  have hout : ∀ x ∈ u :: ext, ∀ y ∈ su x, y ∈ u :: ext ∨ lg t y = N + 1 := fun x hx y hy => by
    have key : lg t y ≠ 0 ∧ (y ∈ s.opn → lg t u ≤ lg s y) := by
      rcases List.mem_cons.mp hx with e | e
      · exact m.done y (e ▸ hy)
      · obtain ⟨f1, _, _, _, f5⟩ := m.fin x e
        exact ⟨f1 y hy, f5 y hy⟩
    by_cases hd : lg t y = N + 1
    · exact .inr hd
    · left
      have hyo : y ∈ t.opn := (m.inv.opn y).mpr ⟨hsu x y hy, by omega, hd⟩
      rw [m.opn, List.mem_append] at hyo
      rcases hyo with hyo | hyo
      · have h1 := key.2 hyo
        have h2 := h.low y hyo
        omega
      · exact hyo
  have hclosed : ∀ x, x ∈ u :: ext ∨ lg t x = N + 1 → ∀ y, Rc su x y → y ∈ u :: ext ∨ lg t y = N + 1 := fun x hx y hr => by
    induction hr with
    | refl => exact hx
    | tail _ e ih =>
      rcases ih with ih | ih
      · exact hout _ ih _ e
      · exact .inr (m.inv.closed _ ih _ e)
  have hdone : ∀ x, lg t x = N + 1 → ∀ y, Rc su x y → lg t y = N + 1 := fun x hx y hr => by
    induction hr with
    | refl => exact hx
    | tail _ e ih => exact m.inv.closed _ ih _ e
  have hcd : ∀ x ∈ u :: ext, lg t x ≠ N + 1 := fun x hx => ((m.inv.opn x).mp (hmem x hx)).2.2
  have hms : ∀ x, x ∈ srt (u :: ext) ↔ x ∈ u :: ext := fun x => (hsrt _).mem_iff
  have hnz : ∀ x, lg t x ≠ 0 → lg ⟨t.cnt, setAll (N + 1) (u :: ext) t.least, s.opn, t.lst ++ [srt (u :: ext)]⟩ x ≠ 0 := fun x hx => by
    rw [hlg]; split
    · omega
    · exact hx
  have hseen : ∀ x, lg s x ≠ 0 → lg t x ≠ 0 := fun x hx => m.seen x (by
    by_cases hxu : x = u
    · subst hxu
      unfold opened
      have hxN : x < s.least.length := by rw [h.len]; exact h.out hx
      rw [lg_set s x _ x hxN, if_pos rfl]
      omega
    · unfold opened
      have huN : u < s.least.length := by rw [h.len]; exact ((m.inv.opn u).mp huo).1
      rw [lg_set s u _ x huN, if_neg hxu]
      exact hx)
  refine ⟨⟨?_, fun x => ?_, h.nodup, ?_, fun x hx => ?_, h.conn, fun x hx => ?_, fun x hx y hy => ?_, ⟨fun x => ?_, fun c hc x hx y => ?_, fun c hc => ?_, fun l1 c l2 he x hx y hy => ?_, ?_⟩, ?_⟩, by show s.opn = s.opn ++ []; rw [List.append_nil], fun x hx => ?_, fun x hx => hnz x (hseen x hx), ?_, ?_, (fun y hy => by cases hy), fun _ => ?_, fun hne => absurd rfl hne⟩
  · show (setAll _ _ _).length = N; rw [setAll_len]; exact m.inv.len
  · rw [hlg]
    show x ∈ s.opn ↔ _
    by_cases hx : x ∈ u :: ext
    · rw [if_pos hx]
      exact ⟨fun hxs => absurd hx (hsx x hxs), fun hh => absurd rfl hh.2.2⟩
    · rw [if_neg hx, ← m.inv.opn x, m.opn, List.mem_append]
      exact ⟨.inl, fun hh => hh.elim id (fun q => absurd q hx)⟩
  · exact h.inc.imp_of_mem fun {a b} ha hb hab => by rw [(m.old a ha).1, (m.old b hb).1]; exact hab
  · rw [hlg, if_neg (hsx x hx)]
    exact m.inv.low x (hso x hx)
  · obtain ⟨z, hz, h1, h2⟩ := m.inv.wit x (hso x hx)
    rw [hlg, if_neg (hsx x hx)]
    refine ⟨z, ?_, h1, h2⟩
    rw [m.opn, List.mem_append] at hz
    rcases hz with hz | hz
    · exact hz
    · have h3 := hnum z hz
      have h4 := (m.inv.low x (hso x hx)).1
      have h5 := hold x hx
      omega
  · rw [hlg] at hx ⊢
    have hx2 : x ∈ u :: ext ∨ lg t x = N + 1 := by
      by_cases q : x ∈ u :: ext
      · exact .inl q
      · rw [if_neg q] at hx; exact .inr hx
    rcases hclosed x hx2 y (.edge hy) with q | q
    · rw [if_pos q]
    · split
      · rfl
      · exact q
  · rw [hlg]
    show _ ↔ ∃ c ∈ t.lst ++ [srt (u :: ext)], x ∈ c
    by_cases hx : x ∈ u :: ext
    · rw [if_pos hx]
      exact ⟨fun _ => ⟨_, by simp, (hms x).mpr hx⟩, fun _ => rfl⟩
    · rw [if_neg hx, m.inv.cmp.iff x]
      constructor
      · rintro ⟨c, hc, hxc⟩; exact ⟨c, by simp [hc], hxc⟩
      · rintro ⟨c, hc, hxc⟩
        rcases List.mem_append.mp hc with hc | hc
        · exact ⟨c, hc, hxc⟩
        · rw [List.mem_singleton] at hc
          rw [hc, hms] at hxc
          exact absurd hxc hx
  · rcases List.mem_append.mp hc with hc | hc
    · exact m.inv.cmp.scc c hc x hx y
    · rw [List.mem_singleton] at hc
      subst hc
      rw [hms] at hx ⊢
      constructor
      · intro hy; exact ⟨(hto x hx).trans (hfrom y hy), (hto y hy).trans (hfrom x hx)⟩
      · rintro ⟨h1, h2⟩
        rcases hclosed x (.inl hx) y h1 with q | q
        · exact q
        · exact absurd (hdone y q x h2) (hcd x hx)
  · rcases List.mem_append.mp hc with hc | hc
    · exact m.inv.cmp.ne c hc
    · rw [List.mem_singleton] at hc
      subst hc
      refine ⟨fun e => ?_, (hsrt _).nodup_iff.mpr hnd.2.1⟩
      have := (hms u).mpr (by simp)
      rw [e] at this; cases this
  · rcases List.eq_nil_or_concat l2 with e | ⟨l3, z, e⟩
    · subst e
      have h1 : t.lst ++ [srt (u :: ext)] = l1 ++ [c] := he
      obtain ⟨e1, e2⟩ := List.append_inj' h1 rfl
      have e3 : srt (u :: ext) = c := by simpa using e2
      subst e1; subst e3
      rw [hms] at hx ⊢
      rcases hout x hx y hy with q | q
      · exact .inl q
      · exact .inr ((m.inv.cmp.iff y).mp q)
    · subst e
      have h1 : t.lst ++ [srt (u :: ext)] = (l1 ++ c :: l3) ++ [z] := by rw [show t.lst ++ [srt (u :: ext)] = l1 ++ c :: (l3 ++ [z]) from by simpa using he]; simp
      obtain ⟨e1, _⟩ := List.append_inj' h1 rfl
      exact m.inv.cmp.top l1 c l3 e1 x hx y hy
  · show (t.lst ++ [srt (u :: ext)]).Pairwise _
    rw [List.pairwise_append]
    refine ⟨m.inv.cmp.dis, by simp, fun c hc d hd x hx hxd => ?_⟩
    rw [List.mem_singleton] at hd
    rw [hd, hms] at hxd
    exact absurd ((m.inv.cmp.iff x).mpr ⟨c, hc, hx⟩) (hcd x hxd)
  · have := wh_le (N := N) hnz
    have := m.inv.room
    show t.cnt + _ ≤ N
    omega
  · rw [hlg, if_neg (hsx x hx)]
    exact m.old x hx
  · rw [hlg, if_pos (by simp)]; omega
  · have := m.cnt
    show s.cnt ≤ t.cnt
    omega
  · rw [hlg, if_pos (by simp)]
/-- u stays open. -/
theorem Mid.stay {t : St} {num' : Nat → Nat} {ext : List Nat} (h : Inv N su num s) (m : Mid N su num s u (su u) t num' ext) (hl : lg t u < s.cnt + 1) :
    Post N su num s u t num' (u :: ext) := by
  have huo : u ∈ t.opn := by rw [m.opn]; simp
  have huN : u < s.least.length := by rw [h.len]; exact ((m.inv.opn u).mp huo).1
  refine ⟨m.inv, m.opn, m.old, fun x hx => m.seen x ?_, by have := ((m.inv.opn u).mp huo).2.1; omega, by have := m.cnt; omega, fun y hy => ?_, (fun e => by cases e), (fun _ => by simp)⟩
  · unfold opened
    rw [lg_set s u _ x huN]
    split
    · omega
    · exact hx
  · rcases List.mem_cons.mp hy with e | e
    · subst e
      exact ⟨fun z hz => (m.done z hz).1, by rw [m.nu]; exact hl, Nat.le_refl _, by rw [m.nu]; omega, fun z hz hzs => (m.done z hz).2 hzs⟩
    · obtain ⟨f1, f2, f3, f4, f5⟩ := m.fin y e
      exact ⟨f1, f2, f3, by omega, f5⟩
/-- A visit does what it should. -/
theorem sccV_post (hsrt : ∀ l, (srt l).Perm l) (hsu : ∀ x, ∀ y ∈ su x, y < N) : ∀ (b : Nat) (num : Nat → Nat) (s : St) (v : Nat), Inv N su num s → v < N → lg s v = 0 → (∀ x ∈ s.opn, Rc su x v) → wh N s ≤ b →
    ∃ num' ext, Post N su num s v (sccV N su srt b v s) num' ext
  | 0, num, s, v, h, hv, h0, hR, hb => by
    have := wh_lt (N := N) (s := s) (t := opened s v) (fun x hx => by rw [opened_lg h hv]; split; omega; exact hx) hv h0 (by rw [opened_lg h hv, if_pos rfl]; omega)
    omega
  | b + 1, num, s, v, h, hv, h0, hR, hb => by
    have hw1 := wh_lt (N := N) (s := s) (t := opened s v) (fun x hx => by rw [opened_lg h hv]; split; omega; exact hx) hv h0 (by rw [opened_lg h hv, if_pos rfl]; omega)
    have loop : ∀ (rest pre : List Nat) (t : St) (num' : Nat → Nat) (ext : List Nat), su v = pre ++ rest → Mid N su num s v pre t num' ext → ∃ num2 ext2, Mid N su num s v (su v) (rest.foldl (childStep (sccV N su srt b) v) t) num2 ext2 := by
      intro rest
      induction rest with
      | nil => intro pre t num' ext he m; exact ⟨num', ext, by rw [he, List.append_nil]; exact m⟩
      | cons w r ih =>
        intro pre t num' ext he m
        rw [List.foldl_cons]
        have hwm : w ∈ su v := by rw [he]; simp
        obtain ⟨num2, ext2, m2⟩ := m.step hwm (hsu v w hwm) hR (sccV N su srt b) (fun hw0 => by
          have hle := wh_le (N := N) m.seen
          exact sccV_post hsrt hsu b num' t w m.inv (hsu v w hwm) hw0 (fun x hx => (m.reach hR x hx).tail hwm) (by omega))
        exact ih (pre ++ [w]) _ num2 _ (by rw [he]; simp) m2
    obtain ⟨num2, ext2, m⟩ := loop (su v) [] _ _ _ rfl (opened_mid h hv h0 hR)
    rw [sccV]
    by_cases hl : lg ((su v).foldl (childStep (sccV N su srt b) v) (opened s v)) v < s.cnt + 1
    · rw [if_pos hl]; exact ⟨num2, _, m.stay h hl⟩
    · rw [if_neg hl]; exact ⟨num2, _, m.pop hsrt hsu h hR hl⟩
end
end Go.Proofs.Ytopbbihbpalnlaa
