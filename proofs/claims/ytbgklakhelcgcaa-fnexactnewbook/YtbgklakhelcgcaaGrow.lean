/-
  Regions that draw their order, whose own operations only read and whose callees may make memory: one walk, in the order of the text, over the class of all worlds in which nothing that was there has turned.
-/
import Derived.Test.YtbgklakhelcgcaaMem
import Derived.Deep.Quiet
import Derived.BigQuiet
namespace Go.Proofs.Ytbgklakhelcgcaa
open Go.ChangeShapes Go.WideShapes Go.ChangeAt Go.RowKit

/-- A world in which all that was in w is as it was. -/
structure Grow (w : World) where
  to : World
  ok : Below w.heap.size w to
instance (w : World) : Nonempty (Grow w) := ⟨⟨w, Below.refl _ _⟩⟩
theorem Grow.cell {w : World} {b o : Nat} {v : Value} (h : w.cell? ⟨b, o, none⟩ = some v) : ∀ g : Grow w, g.to.cell? ⟨b, o, none⟩ = some v :=
  fun g => (g.ok.cell (p := ⟨b, o, none⟩) (at_lt h)).trans h
/-- The region's law. -/
theorem wp_region_grow {P : Program} {id : Nat} {Q : Exit → Act → World → Prop} {a : Act} {w : World} {l : List Oper} (hm : P.follows .mixedOrders = true) (hB : Region.lexB .any l.toArray = true)
    (h : wpQuiet P l.toArray (fun w' => ∃ g : Grow w, w' = g.to) (fun a' => ∀ w', (∃ g : Grow w, w' = g.to) → Q .normal a' w') l a) : (Code.region id l.toArray true).wp P Q a w :=
  wp_region_quiet (C := fun w' => ∃ g : Grow w, w' = g.to) hm hB ⟨⟨{ w with drawn := w.drawn + 1 }, below_draws (Below.refl _ _) 1⟩, rfl⟩ (by simpa using h)
/-- A callee that makes memory. -/
theorem grow_call {P : Program} {f : FuncId} {args : Array Value} {w : World} {g : Grow w} {v u : Value} (e : u = v) (h : Calls P f args g.to fun e w' => e = .returned u ∧ Below g.to.heap.size g.to w') :
    Calls P f args g.to fun e w'' => e = .returned v ∧ ∃ g' : Grow w, w'' = g'.to :=
  h.mono fun _ w' ⟨he, hb⟩ => ⟨by rw [he, e], ⟨w', below_trans g.ok hb⟩, rfl⟩
/-- A callee that leaves the world alone. -/
theorem grow_same {P : Program} {f : FuncId} {args : Array Value} {w : World} {g : Grow w} {v u : Value} (e : u = v) (h : Calls P f args g.to fun e w' => e = .returned u ∧ g.to = w') :
    Calls P f args g.to fun e w'' => e = .returned v ∧ ∃ g' : Grow w, w'' = g'.to :=
  h.mono fun _ w' ⟨he, hb⟩ => ⟨by rw [he, e], g, hb.symm⟩
theorem int_is {a b : Int} (h : a = b) : Value.int .i64 a = .int .i64 b := by rw [h]
theorem bool_is {a b : Bool} (h : a = b) : Value.bool a = .bool b := by rw [h]
end Go.Proofs.Ytbgklakhelcgcaa
