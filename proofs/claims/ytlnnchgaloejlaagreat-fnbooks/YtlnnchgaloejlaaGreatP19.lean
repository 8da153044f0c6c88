/-
  Texts joined: RecDeed.
-/
import Derived.Test.YtlnnchgaloejlaaGreatP1
import Derived.StillTailTactics
import Derived.Deep.RegionHeld3
namespace Go.Proofs.YtlnnchgaloejlaaGreat
open Go.ChangeShapes Go.WideShapes Go.ChangeAt Go.RowKit

/-- A Deed. -/
structure Dee where
  kind : Int
  who : ByteArray
  mill : ByteArray
  to : ByteArray
  n : Int
def Dee.cs (x : Dee) : List Value := [.int .i64 x.kind, .string x.who, .string x.mill, .string x.to, .int .i64 x.n]
theorem Dee.len (x : Dee) : x.cs.length = 5 := rfl
theorem Dee.one (x : Dee) : ∀ v ∈ x.cs, v.oneCell' = true := by
  intro v hv
  simp only [Dee.cs, List.mem_cons, List.not_mem_nil, or_false] at hv
  rcases hv with rfl | rfl | rfl | rfl | rfl <;> rfl
/-- The bytes of its strings. -/
def Dee.bytes (x : Dee) : Nat := x.who.size + x.mill.size + x.to.size
/-- Its strings are no longer than a machine's. -/
def Dee.fits (x : Dee) : Prop := x.who.size ≤ 9223372036854775807 ∧ x.mill.size ≤ 9223372036854775807 ∧ x.to.size ≤ 9223372036854775807
theorem Dee.at {w : World} {a : Option Addr} {xs : List Dee} (h : Recs Dee.cs w a xs) (k : Nat) (hk : k < xs.length) :
    ∃ b off, a = some ⟨b, off, none⟩ ∧ b < w.heap.size ∧ w.cell? ⟨b, off + k * 5, none⟩ = some (.int .i64 xs[k].kind) ∧ w.cell? ⟨b, off + k * 5 + 1, none⟩ = some (.string xs[k].who) ∧ w.cell? ⟨b, off + k * 5 + 2, none⟩ = some (.string xs[k].mill) ∧ w.cell? ⟨b, off + k * 5 + 3, none⟩ = some (.string xs[k].to) ∧ w.cell? ⟨b, off + k * 5 + 4, none⟩ = some (.int .i64 xs[k].n) := by
  obtain ⟨b, off, e, hb, hc⟩ := h.cell Dee.len (by omega) k hk
  exact ⟨b, off, e, hb, hc 0 _ rfl, hc 1 _ rfl, hc 2 _ rfl, hc 3 _ rfl, hc 4 _ rfl⟩

/-- What is left behind one: -1 where it is too much. -/
def Dee.left (x : Dee) (left : Int) : Int := if (x.bytes : Int) ≤ left then left - x.bytes else -1

end Go.Proofs.YtlnnchgaloejlaaGreat
