/-
  A list of strings among a law's arguments: what came in can be read as strings.
-/
import Derived.Test.YtbgklakhelcgcaaStrAt
import Derived.SliceStrings
import Derived.ShutString
import Derived.ChangeOld
import Derived.Carry
namespace Go.Proofs.Ytbgklakhelcgcaa
open Go.ChangeShapes Go.WideShapes Go.ChangeAt Go.RowKit

set_option maxRecDepth 100000 in
theorem laidOut : laidOutB Try.prog = true := by kernel_rfl
set_option maxRecDepth 100000 in
theorem ownKnobNone : ownKnob Try.prog.godebug = none := by kernel_rfl

set_option maxRecDepth 100000 in
theorem arg_strs {H : Type} {enc : TypeId × Value → H} {W : World} {r : Reach} {base : Nat} {v : Value} {d : DataW H} {p : List MemPlace}
    (hv : Value.okWide Try.prog W r base 86 v) (h : DataW.Trod enc Try.prog W 0 (fun _ => true) true 86 v d p) :
    ∃ a cap ss, v = .slice a ss.length cap ∧ Strs W a ss ∧ ss.length ≤ 9223372036854775807 ∧ ∀ s ∈ ss, s.size ≤ 9223372036854775807 := by
  obtain ⟨a0, len, cap, rfl⟩ := okWide_slice Try.underlying86 hv
  obtain ⟨fuel, hf⟩ := h
  rcases open_strings Try.underlying86 Try.underlying9 (by kernel_rfl) hf with ⟨hcs, _⟩ | ⟨x, l, c, ss, hcs, _, hl, hm, hz, _, hcell, hsz⟩
  · simp [Value.cells] at hcs
    obtain ⟨rfl, rfl, rfl⟩ := hcs
    exact ⟨none, 0, [], rfl, Lies.nil _ _, by simp, by simp⟩
  · simp [Value.cells] at hcs
    obtain ⟨rfl, rfl, rfl⟩ := hcs
    simp only [if_true] at hz
    have hlen : (ss.take len).length = len := by simp; omega
    refine ⟨some x, cap, ss.take len, by rw [hlen], ?_, ?_, fun s hs => ?_⟩
    · intro k v hk
      have hkl : k < (ss.take len).length := by
        have := (List.getElem?_eq_some_iff.1 hk).1
        simpa using this
      have hks : k < ss.length := by omega
      have hv : v = .string (ss.getD k ByteArray.empty) := by
        rw [List.getElem?_map, List.getElem?_take_of_lt (by omega), List.getElem?_eq_getElem hks] at hk
        simp only [Option.map_some, Option.some.injEq] at hk
        rw [← hk, List.getD_eq_getElem?_getD, List.getElem?_eq_getElem hks, Option.getD_some]
      subst hv
      obtain ⟨b, off, spot⟩ := x
      have hc := hcell k hks
      have h0 := hcell 0 (by omega)
      have hspot : spot = none := by simpa [Addr.add] using World.cell?_spot h0
      subst hspot
      exact ⟨b, off, rfl, by rw [← Go.WideShapes.add_plain]; exact hc⟩
    · rw [hlen]; unfold maxLen at hm; omega
    · have := hsz s (List.mem_of_mem_take hs); unfold maxLen at this; omega
end Go.Proofs.Ytbgklakhelcgcaa
