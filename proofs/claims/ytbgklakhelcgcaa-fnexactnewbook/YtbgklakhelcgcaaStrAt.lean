/-
  A list of strings in memory.
-/
import Derived.Test.YtbgklakhelcgcaaMem
namespace Go.Proofs.Ytbgklakhelcgcaa
open Go.ChangeShapes Go.WideShapes Go.ChangeAt Go.RowKit

/-- These strings lie one behind the other from a on. -/
def Strs (w : World) (a : Option Addr) (ss : List ByteArray) : Prop := Lies w a (ss.map .string)

theorem Strs.at {w : World} {a : Option Addr} {ss : List ByteArray} (h : Strs w a ss) (k : Nat) (hk : k < ss.length) :
    ∃ b off, a = some ⟨b, off, none⟩ ∧ b < w.heap.size ∧ w.cell? ⟨b, off + k, none⟩ = some (.string ss[k]) := by
  obtain ⟨b, off, e, hc⟩ := h k (.string ss[k]) (by simp [hk])
  exact ⟨b, off, e, at_lt hc, hc⟩
theorem Strs.below {w w' : World} {a : Option Addr} {ss : List ByteArray} (h : Strs w a ss) (hb : Below w.heap.size w w') : Strs w' a ss := Lies.below h hb
end Go.Proofs.Ytbgklakhelcgcaa
