/-
  Lists of strings in the laws' own helpers: 'szStringS' counts, 'toStringS' copies into new memory, 'eqStringS' compares.
-/
import Derived.Test.YtbgklakhelcgcaaStrAt
namespace Go.Proofs.Ytbgklakhelcgcaa
open Go.ChangeShapes Go.WideShapes Go.ChangeAt Go.RowKit

/-- All bytes of the first k, together. -/
def totS (ss : List ByteArray) (k : Nat) : Nat := ((ss.take k).map ByteArray.size).sum
theorem totS_zero (ss : List ByteArray) : totS ss 0 = 0 := by simp [totS]
theorem totS_succ {ss : List ByteArray} {k : Nat} (h : k < ss.length) : totS ss (k + 1) = totS ss k + ss[k].size := by
  unfold totS
  rw [List.take_succ_eq_append_getElem h, List.map_append, List.sum_append]
  simp only [List.map_cons, List.map_nil, List.sum_cons, List.sum_nil, Nat.add_zero]
theorem totS_mono (ss : List ByteArray) {j k : Nat} (h : j ≤ k) : totS ss j ≤ totS ss k := by
  induction k with
  | zero => have : j = 0 := by omega
            subst this; exact Nat.le_refl _
  | succ k ih =>
    by_cases e : j = k + 1
    · subst e; exact Nat.le_refl _
    · have h1 := ih (by omega)
      by_cases hk : k < ss.length
      · rw [totS_succ hk]; omega
      · have : totS ss (k + 1) = totS ss k := by unfold totS; rw [List.take_of_length_le (by omega), List.take_of_length_le (by omega)]
        omega
theorem size_le_totS {ss : List ByteArray} {k : Nat} (h : k < ss.length) : ss[k].size ≤ totS ss ss.length := by
  have h1 := totS_succ h
  have h2 := totS_mono ss (show k + 1 ≤ ss.length by omega)
  omega

/-- What is left of so many: -1 where they are too many. -/
def szV (ss : List ByteArray) (left : Int) : Int := if (ss.length : Int) + totS ss ss.length ≤ left then left - ss.length - totS ss ss.length else -1
theorem szV_no {ss : List ByteArray} {left : Int} {k : Nat} (hk : k ≤ ss.length) (h : left < ss.length + totS ss k) : szV ss left = -1 := by
  have := totS_mono ss hk
  unfold szV; rw [if_neg (by omega)]
theorem szV_yes {ss : List ByteArray} {left : Int} (h : (ss.length : Int) + totS ss ss.length ≤ left) : szV ss left = left - ss.length - totS ss ss.length := by
  unfold szV; rw [if_pos h]

theorem szV_small {ss : List ByteArray} (h : ¬ szV ss 1048576 < 0) : ss.length ≤ 1048576 ∧ ∀ s ∈ ss, s.size ≤ 1048576 := by
  unfold szV at h
  split at h
  · rename_i hle
    refine ⟨by omega, fun s hs => ?_⟩
    obtain ⟨k, hk, rfl⟩ := List.getElem_of_mem hs
    have := size_le_totS hk
    omega
  · omega

/-- What 'toStringS' leaves: the same strings, in the block behind all that was there. -/
def ToStrs (ss : List ByteArray) (w : World) (e : Ending) (w' : World) : Prop :=
  e = .returned (.slice (some ⟨w.heap.size, 0, none⟩) ss.length ss.length) ∧ Strs w' (some ⟨w.heap.size, 0, none⟩) ss ∧ Below w.heap.size w w'

theorem info_string : (Try.prog.info? 9).map (fun i => (i.zero, i.size, i.bytes)) = some (some (.string ByteArray.empty), 1, 16) := by kernel_rfl

theorem beq_refl_bytes (s : ByteArray) : (s.toList == s.toList) = true := by simp

end Go.Proofs.Ytbgklakhelcgcaa
