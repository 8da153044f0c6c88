/-
  Words for memory that all chapters share: values that lie one behind the other ('Lies'); a place of the call's own that is being filled ('Room').
-/
import Derived.Test.YtbgklakhelcgcaaRows
import Derived.WalkKit
import Derived.ProofKit
import Derived.OpenShut
import Derived.Outline
import Derived.WalkLawsBesides
import Derived.Below
import Derived.LoopN
import Derived.Lib.Hide
import Derived.Deep.QuietTactic
import Derived.BigQuiet
import Derived.Deep.OwnRows
import Derived.Laws.Cover1
namespace Go.Proofs.Ytbgklakhelcgcaa
open Go.ChangeShapes Go.WideShapes Go.ChangeAt Go.RowKit

theorem at_lt {w : World} {b o : Nat} {v : Value} (h : w.cell? ⟨b, o, none⟩ = some v) : b < w.heap.size := by
  by_cases hb : b < w.heap.size
  · exact hb
  · exfalso
    have : w.heap[b]? = none := by simp; omega
    simp [World.cell?, this] at h

/-- These values lie one behind the other from a on. -/
def Lies (w : World) (a : Option Addr) (xs : List Value) : Prop :=
  ∀ k v, xs[k]? = some v → ∃ b off, a = some ⟨b, off, none⟩ ∧ w.cell? ⟨b, off + k, none⟩ = some v

theorem Lies.nil (w : World) (a : Option Addr) : Lies w a [] := fun _ _ h => by simp at h
theorem Lies.below {w w' : World} {a : Option Addr} {xs : List Value} (h : Lies w a xs) (hb : Below w.heap.size w w') : Lies w' a xs := by
  intro k v hk
  obtain ⟨b, off, rfl, hc⟩ := h k v hk
  exact ⟨b, off, rfl, by rw [hb.cell (at_lt hc)]; exact hc⟩
theorem Lies.under {w w' : World} {B : Nat} {a : Option Addr} {xs : List Value} (h : Lies w a xs) (hb : Below B w w') (hB : ∀ b off, a = some ⟨b, off, none⟩ → 0 < xs.length → b < B) : Lies w' a xs := by
  intro k v hk
  obtain ⟨b, off, rfl, hc⟩ := h k v hk
  have hl : 0 < xs.length := by
    cases xs with
    | nil => simp at hk
    | cons x r => simp
  exact ⟨b, off, rfl, by rw [hb.cell (hB b off rfl hl)]; exact hc⟩
theorem Lies.old {w : World} {a : Option Addr} {xs : List Value} (h : Lies w a xs) : ∀ b off, a = some ⟨b, off, none⟩ → 0 < xs.length → b < w.heap.size := by
  intro b off e hl
  obtain ⟨b', off', e', hc⟩ := h 0 xs[0] (List.getElem?_eq_getElem hl)
  rw [e] at e'
  injection e' with e'
  injection e' with e1
  subst e1
  exact at_lt hc
theorem Lies.draws {w : World} {a : Option Addr} {xs : List Value} (h : Lies w a xs) (n : Nat) : Lies (w.drewN n) a xs := h

theorem below_draws {B : Nat} {a w : World} (h : Below B a w) (n : Nat) : Below B a (w.drewN n) := ⟨h.os, h.tape, h.output, h.size, h.block⟩
theorem below_trans {w w1 w2 : World} (h : Below w.heap.size w w1) (k : Below w1.heap.size w1 w2) : Below w.heap.size w w2 := h.trans (k.mono h.size)

/-- All that was there reads as before: two rules for the walk. -/
theorem kept_all {W w1 : World} (hb : Below W.heap.size W w1) : (∀ b o, b < W.heap.size → w1.cell? ⟨b, o, none⟩ = W.cell? ⟨b, o, none⟩) ∧ ∀ b o, b < W.heap.size → w1.frozen? ⟨b, o, none⟩ = W.frozen? ⟨b, o, none⟩ :=
  ⟨fun b o h => hb.cell (p := ⟨b, o, none⟩) h, fun b o h => hb.frozen (p := ⟨b, o, none⟩) h⟩

/-- Block B, the first one that is not w's: n cells of the call's own, of which the first k hold xs's. -/
structure Room (w : World) (n : Nat) (xs : List Value) (k : Nat) (w' : World) : Prop where
  low : Below w.heap.size w w'
  has : w.heap.size < w'.heap.size
  all : ∀ j, j < n → ∃ v, w'.cell? ⟨w.heap.size, j, none⟩ = some v
  free : ∀ o, w'.frozen? ⟨w.heap.size, o, none⟩ = false
  full : ∀ j v, j < k → xs[j]? = some v → w'.cell? ⟨w.heap.size, j, none⟩ = some v

theorem Room.new (w : World) (z : Value) (n : Nat) (t : TypeId) (xs : List Value) : Room w n xs 0 (w.alloc (.cells (madeCells #[z] n) t)) where
  low := (Below.refl _ _).alloc (Nat.le_refl _) _
  has := by simp
  all := fun j hj => ⟨z, by
    obtain ⟨c, hc, hs, hf⟩ := World.rowIs_made w z n t
    simp only [World.cell?, hc]
    simpa using hf j hj⟩
  free := fun o => by go_simp
  full := fun j v hj _ => by omega

theorem Room.set {w w' : World} {n k : Nat} {xs : List Value} {v : Value} (h : Room w n xs k w') (hk : k < n) (hv : xs[k]? = some v) : Room w n xs (k + 1) (w'.setCell ⟨w.heap.size, k, none⟩ v) where
  low := h.low.setCell (Nat.le_refl _) _
  has := by have := h.has; simpa [World.setCell] using this
  all := fun j hj => by
    by_cases e : j = k
    · subst e
      obtain ⟨u, hu⟩ := h.all j hj
      exact ⟨v, by rw [World.cell?_setCell_same _ _ _ hu]⟩
    · obtain ⟨u, hu⟩ := h.all j hj
      exact ⟨u, by rw [World.cell?_setCell_other _ _ _ _ (by intro q; injection q with _ q; exact e (by omega))]; exact hu⟩
  free := fun o => by have := h.free o; go_simp
  full := fun j u hj hu => by
    by_cases e : j = k
    · subst e
      obtain ⟨x, hx⟩ := h.all j hk
      rw [hv] at hu
      injection hu with hu
      subst hu
      rw [World.cell?_setCell_same _ _ _ hx]
    · rw [World.cell?_setCell_other _ _ _ _ (by intro q; injection q with _ q; exact e (by omega))]
      exact h.full j u (by omega) hu

theorem Room.draws {w w' : World} {n k : Nat} {xs : List Value} (h : Room w n xs k w') (m : Nat) : Room w n xs k (w'.drewN m) :=
  ⟨below_draws h.low m, h.has, h.all, h.free, h.full⟩

theorem Room.lies {w w' : World} {n : Nat} {xs : List Value} (h : Room w n xs n w') (hn : xs.length ≤ n) : Lies w' (some ⟨w.heap.size, 0, none⟩) xs := by
  intro k v hk
  have hlt : k < xs.length := (List.getElem?_eq_some_iff.1 hk).1
  exact ⟨_, _, rfl, by rw [Nat.zero_add]; exact h.full k v (by omega) hk⟩
end Go.Proofs.Ytbgklakhelcgcaa
