/-
  The first of numbers of which something holds.
-/
import Derived.Test.YtbgklakhelcgcaaMem
namespace Go.Proofs.Ytbgklakhelcgcaa
open Go.ChangeShapes Go.WideShapes Go.ChangeAt Go.RowKit

/-- The first number below n of which q holds; -1 where there is none. -/
def findUp (q : Nat → Bool) : Nat → Int
  | 0 => -1
  | n + 1 => if findUp q n = -1 then (if q n then (n : Int) else -1) else findUp q n
theorem findUp_congr {q r : Nat → Bool} : ∀ {n : Nat}, (∀ j, j < n → q j = r j) → findUp q n = findUp r n
  | 0, _ => rfl
  | n + 1, h => by
    rw [findUp, findUp, findUp_congr (fun j hj => h j (by omega)), h n (by omega)]
theorem findUp_out {q : Nat → Bool} : ∀ {n : Nat}, (∀ j, j < n → q j = false) → findUp q n = -1
  | 0, _ => rfl
  | n + 1, h => by rw [findUp, if_pos (findUp_out fun j hj => h j (by omega)), h n (by omega)]; rfl
theorem findUp_in {q : Nat → Bool} {k : Nat} (h : ∀ j, j < k → q j = false) (hk : q k = true) : ∀ m, findUp q (k + 1 + m) = k
  | 0 => by rw [Nat.add_zero, findUp, if_pos (findUp_out h), hk]; rfl
  | m + 1 => by
    have := findUp_in h hk m
    rw [← Nat.add_assoc, findUp, this, if_neg (by omega)]
theorem findUp_at {q : Nat → Bool} {k n : Nat} (hn : k < n) (h : ∀ j, j < k → q j = false) (hk : q k = true) : findUp q n = k := by
  have := findUp_in h hk (n - (k + 1))
  rwa [show k + 1 + (n - (k + 1)) = n by omega] at this
theorem findUp_hit {q : Nat → Bool} : ∀ {n : Nat}, 0 ≤ findUp q n → ∃ k : Nat, findUp q n = (k : Int) ∧ k < n ∧ q k = true ∧ ∀ j, j < k → q j = false
  | 0, h => by simp [findUp] at h
  | n + 1, h => by
    by_cases hall : ∀ j, j < n → q j = false
    · cases hq : q n
      · rw [findUp_out (n := n + 1) (fun j hj => by by_cases e : j = n; subst e; exact hq; exact hall j (by omega))] at h
        omega
      · exact ⟨n, findUp_at (by omega) hall hq, by omega, hq, hall⟩
    · have h1 : findUp q n ≠ -1 := fun e => hall fun j hj => by
        cases hqj : q j
        · rfl
        · exfalso
          have : ∀ m, (∃ j, j < m ∧ q j = true) → findUp q m ≠ -1 := by
            intro m
            induction m with
            | zero => rintro ⟨j, hj, _⟩; omega
            | succ m ih =>
              rintro ⟨j, hj, hq⟩
              rw [findUp]
              by_cases hm : ∃ j, j < m ∧ q j = true
              · rw [if_neg (ih hm)]; exact ih hm
              · have : j = m := by
                  by_cases e : j = m
                  · exact e
                  · exact absurd ⟨j, by omega, hq⟩ hm
                subst this
                rw [hq]
                split
                · simp only [if_true]; omega
                · assumption
          exact this n ⟨j, hj, hqj⟩ e
      rw [findUp, if_neg h1] at h ⊢
      obtain ⟨k, e, hk, hq, hj⟩ := findUp_hit (n := n) h
      exact ⟨k, e, by omega, hq, hj⟩
theorem findUp_lo (q : Nat → Bool) : ∀ n, -1 ≤ findUp q n ∧ findUp q n < n
  | 0 => by simp [findUp]
  | n + 1 => by
    have := findUp_lo q n
    rw [findUp]
    split
    · split <;> omega
    · omega
end Go.Proofs.Ytbgklakhelcgcaa
