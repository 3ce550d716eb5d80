/-
  The closure of the search for components, whatever the depth.
-/
import Derived.Test.YtopbbihbpalnlaaSVisit
namespace Go.Proofs.Ytopbbihbpalnlaa
open Go.RowKit
set_option linter.unusedVariables false

theorem visit_any (w1 : World) (S R B K T O C V n1 N G cs : Nat) (su : Nat → List Nat) (l : LD S R B K T O C V n1) (hsu : ∀ x, ∀ y ∈ su x, y < N) (hN : N ≤ 8192) (hS : SU w1 G S N cs su) (hC : Cap w1 S R B K T O C V n1 N) (hSort : ∀ (base : Nat) (u : Value) (zs : List Int) (w : World), Own w base u zs → zs.length ≤ 100000 → Calls Try.prog 52 #[u] w fun e w' => e = .returned (.tuple #[]) ∧ Own w' base u (zs.mergeSort fun x y => decide (x ≤ y)) ∧ w.grownBy w' u.ownBlock) :
    ∀ (b : Nat) (num : Nat → Nat) (v : Nat) (st : St) (uo ul : Value) (vs : List Value) (W : World), TS w1 W S R T O C n1 N uo ul vs st → Inv N su num st → v < N → lg st v = 0 → (∀ x ∈ st.opn, Rc su x v) → wh N st ≤ b →
      Calls Try.prog 51 #[.int .i64 v, .pointer (some ⟨C, 0, none⟩), .pointer (some ⟨O, 0, none⟩), .pointer (some ⟨B, 0, none⟩), .pointer (some ⟨S, 0, none⟩), .pointer (some ⟨V, 0, none⟩), .pointer (some ⟨K, 0, none⟩), .pointer (some ⟨T, 0, none⟩)] W (VE w1 S R T O C n1 N (sccV N su srt b v st))
  | 0, num, v, st, uo, ul, vs, W, hT, hI, hv, h0, hR, hb => by
    have h1 : wh N (opened st v) + 1 ≤ wh N st := wh_lt (fun x hx => by rw [opened_lg hI hv]; split; omega; exact hx) hv h0 (by rw [opened_lg hI hv, if_pos rfl]; omega)
    omega
  | b + 1, num, v, st, uo, ul, vs, W, hT, hI, hv, h0, hR, hb =>
    visit_step w1 S R B K T O C V n1 N G cs su l hsu hN hS hC hSort b (fun num v st uo ul vs W hT hI hv h0 hR hb => visit_any w1 S R B K T O C V n1 N G cs su l hsu hN hS hC hSort b num v st uo ul vs W hT hI hv h0 hR hb) num v st uo ul vs W hT hI hv h0 hR hb
end Go.Proofs.Ytopbbihbpalnlaa
