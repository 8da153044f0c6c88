/-
  Chapter 1's Down, Up and PartOf, the program's and the model's: both answer the same number at every argument; the model leaves the world as it is, the program at most lays new blocks.
-/
import Derived.Test.YtbgklakhelcgcaaAll
namespace Go.Proofs.Ytbgklakhelcgcaa
open Go.ChangeShapes Go.WideShapes Go.ChangeAt Go.RowKit

theorem prod_bd (a b : Int) (ha : 0 ≤ a) (ha2 : a ≤ 1000000000) (hb : 0 ≤ b) (hb2 : b ≤ 1000000000) : 0 ≤ a * b ∧ a * b ≤ 1000000000000000000 :=
  ⟨Int.mul_nonneg ha hb, by have := Int.mul_le_mul ha2 hb2 hb (by omega); omega⟩

theorem inB_false {lo hi x : Int} (h : inB lo hi x = false) : x < lo ∨ hi < x := by
  simp only [inB, decide_eq_false_iff_not] at h; omega
theorem inB_not {lo hi x : Int} (h : x < lo ∨ hi < x) : inB lo hi x = false := by
  simp only [inB, decide_eq_false_iff_not]; omega

def okD (a b c : Int) : Bool := inB 0 1000000000 a && (inB 0 1000000000 b && inB 1 1000000000 c)
def downV (a b c : Int) : Int := if okD a b c = true then a * b / c else -1
def upV (a b c : Int) : Int := if okD a b c = true then (if a * b % c = 0 then a * b / c else a * b / c + 1) else -1
def partV (n p : Int) : Int := if (inB 0 1000000 n && inB 0 100 p) = true then n * p / 100 else -1

theorem okD_true {a b c : Int} (h : okD a b c = true) : 0 ≤ a ∧ a ≤ 1000000000 ∧ 0 ≤ b ∧ b ≤ 1000000000 ∧ 1 ≤ c ∧ c ≤ 1000000000 := by
  simp only [okD, Bool.and_eq_true] at h
  obtain ⟨h1, h2, h3⟩ := h
  have := inB_true h1; have := inB_true h2; have := inB_true h3; omega

theorem ret_int {k : IntKind} {a b : Int} (h : a = b) : Ending.returned (.int k a) = .returned (.int k b) := by rw [h]

theorem downV_bd {a b c : Int} (h : okD a b c = true) : 0 ≤ a * b ∧ a * b ≤ 1000000000000000000 ∧ 0 ≤ a * b / c ∧ a * b / c ≤ 1000000000000000000 ∧ 0 ≤ a * b / c * c ∧ a * b / c * c ≤ 1000000000000000000 := by
  obtain ⟨ha, ha2, hb, hb2, hc, hc2⟩ := okD_true h
  obtain ⟨hp, hp2⟩ := prod_bd a b ha ha2 hb hb2
  have h1 : 0 ≤ a * b / c := Int.ediv_nonneg hp (by omega)
  have h2 : a * b / c ≤ a * b := Int.ediv_le_self _ hp
  have h3 : a * b / c * c ≤ a * b := Int.ediv_mul_le _ (by omega)
  have h4 : 0 ≤ a * b / c * c := Int.mul_nonneg h1 (by omega)
  omega

theorem left_over {a b c : Int} (h : okD a b c = true) : (a * b / c * c < a * b) ↔ ¬ a * b % c = 0 := by
  obtain ⟨ha, ha2, hb, hb2, hc, hc2⟩ := okD_true h
  have h1 := Int.mul_ediv_add_emod (a * b) c
  rw [Int.mul_comm c] at h1
  have h2 := Int.emod_nonneg (a * b) (show c ≠ 0 by omega)
  generalize a * b / c * c = p at *
  generalize a * b % c = r at *
  omega

end Go.Proofs.Ytbgklakhelcgcaa
