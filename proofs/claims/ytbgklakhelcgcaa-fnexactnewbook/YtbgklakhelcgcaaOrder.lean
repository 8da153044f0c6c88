/-
  Names that rise have none twice: the order of strings, byte by byte, and what it gives for Rises and PlaceIn.
-/
import Derived.Test.YtbgklakhelcgcaaRise
namespace Go.Proofs.Ytbgklakhelcgcaa
open Go.ChangeShapes Go.WideShapes Go.ChangeAt Go.RowKit

theorem bytesLess_lt : ∀ (x y : List UInt8), Op.bytesLess x y = decide (x < y)
  | [], [] => by simp [Op.bytesLess]
  | _ :: _, [] => by simp [Op.bytesLess]
  | [], _ :: _ => by simp [Op.bytesLess]
  | a :: x, b :: y => by
    rw [Op.bytesLess, bytesLess_lt x y, Bool.eq_iff_iff]
    simp only [List.cons_lt_cons_iff, Bool.or_eq_true, Bool.and_eq_true, decide_eq_true_eq, beq_iff_eq]
theorem less_of {a b : ByteArray} (h : leqB b a = false) : a.toList < b.toList := by
  simp only [leqB, bytesLess_lt, Bool.or_eq_false_iff, decide_eq_false_iff_not, beq_eq_false_iff_ne] at h
  have h1 : a.toList ≤ b.toList := List.not_lt.1 h.1
  by_cases h2 : a.toList < b.toList
  · exact h2
  · exact absurd (List.le_antisymm (List.not_lt.1 h2) h1) h.2

theorem Up.less {ss : List ByteArray} {n : Nat} (h : Up ss n) {j : Nat} : ∀ m, j + 1 + m < n → (sat ss j).toList < (sat ss (j + 1 + m)).toList
  | 0, hm => less_of (h.2 j (by omega))
  | m + 1, hm => List.lt_trans (h.less m (by omega)) (less_of (h.2 (j + 1 + m) (by omega)))
theorem Up.ne {ss : List ByteArray} {n j k : Nat} (h : Up ss n) (hjk : j < k) (hk : k < n) : ((sat ss j).toList == (sat ss k).toList) = false := by
  have hl := h.less (j := j) (k - (j + 1)) (by omega)
  rw [show j + 1 + (k - (j + 1)) = k by omega] at hl
  rw [beq_eq_false_iff_ne]
  intro e
  rw [e] at hl
  exact List.lt_irrefl _ hl
/-- Of names that rise each is where it is. -/
theorem place_self {ss : List ByteArray} (h : risesB ss = true) {k : Nat} (hk : k < ss.length) : placeV ss (sat ss k) = k :=
  place_in hk (fun j hj => (rises_true h).ne hj hk) (by simp)
theorem rises_name {ss : List ByteArray} (h : risesB ss = true) {k : Nat} (hk : k < ss.length) : nameB (sat ss k) = true := (rises_true h).1 k hk

theorem placeUp_hit {ss : List ByteArray} {s : ByteArray} : ∀ {n : Nat}, 0 ≤ placeUp ss s n → ∃ k : Nat, placeUp ss s n = (k : Int) ∧ k < n ∧ ((sat ss k).toList == s.toList) = true
  | 0, h => by simp [placeUp] at h
  | n + 1, h => by
    rw [placeUp] at h ⊢
    by_cases h1 : placeUp ss s n = -1
    · rw [if_pos h1] at h ⊢
      cases h2 : ((sat ss n).toList == s.toList)
      · rw [h2] at h; simp at h
      · exact ⟨n, by simp, by omega, h2⟩
    · rw [if_neg h1] at h ⊢
      obtain ⟨k, e, hk, hq⟩ := placeUp_hit (n := n) h
      exact ⟨k, e, by omega, hq⟩
theorem place_hit {ss : List ByteArray} {s : ByteArray} (h : 0 ≤ placeV ss s) : ∃ k : Nat, placeV ss s = (k : Int) ∧ k < ss.length ∧ ((sat ss k).toList == s.toList) = true := placeUp_hit h
end Go.Proofs.Ytbgklakhelcgcaa
