/-
  What comes back where a call gives back lists of its own.
-/
import Derived.Test.YtbgklakhelcgcaaStep
namespace Go.Proofs.Ytbgklakhelcgcaa
open Go.ChangeShapes Go.WideShapes Go.ChangeAt Go.RowKit

section
variable {α : Type}
/-- A list of the call's own. -/
def ResO (f : α → List Value) (c : Nat) (out : List α) (w : World) (e : Ending) (w' : World) : Prop :=
  ∃ a cap, e = .returned (.slice a out.length cap) ∧ OwnR f c w' w.heap.size a out ∧ Below w.heap.size w w'
/-- A list of the call's own, and a word. -/
def ResOB (f : α → List Value) (c : Nat) (out : List α) (ok : Bool) (w : World) (e : Ending) (w' : World) : Prop :=
  ∃ a cap, e = .returned (.tuple #[.slice a out.length cap, .bool ok]) ∧ OwnR f c w' w.heap.size a out ∧ Below w.heap.size w w' ∧ out.length ≤ cap
/-- A list of the call's own, and a number. -/
def ResOI (f : α → List Value) (c : Nat) (out : List α) (n : Int) (w : World) (e : Ending) (w' : World) : Prop :=
  ∃ a cap, e = .returned (.tuple #[.slice a out.length cap, .int .i64 n]) ∧ OwnR f c w' w.heap.size a out ∧ Below w.heap.size w w' ∧ out.length ≤ cap
/-- Two lists of the call's own, apart. -/
def ResOO (f : α → List Value) (c : Nat) (o1 o2 : List α) (w : World) (e : Ending) (w' : World) : Prop :=
  ∃ a1 c1 a2 c2, e = .returned (.tuple #[.slice a1 o1.length c1, .slice a2 o2.length c2]) ∧ OwnR f c w' w.heap.size a1 o1 ∧ OwnR f c w' w.heap.size a2 o2 ∧ (∀ b1 b2, a1 = some ⟨b1, 0, none⟩ → a2 = some ⟨b2, 0, none⟩ → o1 ≠ [] → o2 ≠ [] → b1 ≠ b2) ∧ Below w.heap.size w w'
/-- The same, of a row that is known whole. -/
def ResRB (f : α → List Value) (c : Nat) (T : TypeId) (out : List α) (ok : Bool) (w : World) (e : Ending) (w' : World) : Prop :=
  ∃ b cap, e = .returned (.tuple #[.slice (some ⟨b, 0, none⟩) out.length cap, .bool ok]) ∧ w'.ownsRow w.heap.size T c (.slice (some ⟨b, 0, none⟩) out.length cap) out.length (out.flatMap f) ∧ Below w.heap.size w w'
theorem resRB_own {f : α → List Value} {c : Nat} {T : TypeId} (hc : ∀ x, (f x).length = c) {out : List α} {ok : Bool} {w : World} {e : Ending} {w' : World} (h : ResRB f c T out ok w e w') : ResOB f c out ok w e w' := by
  obtain ⟨b, cap, he, ho, hb⟩ := h
  obtain ⟨a, c', e1, hr, -⟩ := ownR_of hc ho
  injection e1 with e1 e2 e3
  subst e1; subst e3
  exact ⟨_, _, he, hr, hb, (own_some ho).2.1⟩
/-- Where those from number k on lie. -/
theorem from_at {f : α → List Value} {c : Nat} (hf : ∀ x, (f x).length = c) {w : World} {b off k : Nat} {ps : List α} (cap : Nat) (h : Recs f w (some ⟨b, off, none⟩) ps) (hk : k ≤ ps.length) (hc : ps.length ≤ cap) :
    ∃ A, (if cap = k then some (⟨b, off, none⟩ : Addr) else some ⟨b, off + k * c, none⟩) = some A ∧ ∀ W, Below w.heap.size w W → ∀ j u, ((ps.drop k).flatMap f)[j]? = some u → W.cell? (A.add j) = some u := by
  by_cases e : cap = k
  · refine ⟨_, if_pos e, fun W _ j u hj => ?_⟩
    have : ps.drop k = [] := List.drop_eq_nil_of_le (by omega)
    rw [this] at hj; simp at hj
  · refine ⟨_, if_neg e, fun W hb j u hj => ?_⟩
    rw [flat_drop hf, List.getElem?_drop] at hj
    obtain ⟨b', off', e', hc'⟩ := (h.below hb) _ u hj
    injection e' with e'; injection e' with e1 e2; subst e1; subst e2
    rw [add_plain, Nat.add_assoc]; exact hc'
end
theorem RecAt.under {α : Type} {f : α → List Value} {w w' : World} {B B0 : Nat} {x : α} (h : RecAt f w B x) (hb : Below B0 w w') (hlt : B < B0) : RecAt f w' B x :=
  fun j v hj => by rw [hb.cell (p := ⟨B, j, none⟩) hlt]; exact h j v hj
end Go.Proofs.Ytbgklakhelcgcaa
