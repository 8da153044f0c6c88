/-
  Plain facts on Down, Up, PartOf and Added as numbers: down is never more than what is exact, up never less, and 1 at most between.
-/
import Derived.Test.YtnhnahckddiddaaAdd
namespace Go.Proofs.Ytnhnahckddiddaa

/-- All that the law asks of PartOf's number where there is one. -/
theorem part_facts {n p : Int} (h1 : inB 0 1000000 n = true) (h2 : inB 0 100 p = true) :
    ∃ k, partV n p = k ∧ 0 ≤ n ∧ n ≤ 1000000 ∧ 0 ≤ n * p ∧ n * p ≤ 1000000000000000000 ∧ 0 ≤ k ∧ k ≤ n ∧ 100 * k ≤ n * p ∧ n * p < 100 * (k + 1) := by
  obtain ⟨_, hp, hp2⟩ := part_bd h1 h2
  obtain ⟨a1, a2⟩ := inB_true h1
  obtain ⟨b1, b2⟩ := inB_true h2
  have hle : n * p ≤ n * 100 := Int.mul_le_mul_of_nonneg_left b2 a1
  refine ⟨n * p / 100, by simp [partV, h1, h2], a1, a2, hp, hp2, by omega, by omega, by omega, by omega⟩

theorem part_none {n p : Int} (h : (inB 0 1000000 n && inB 0 100 p) = false) : partV n p = -1 := by simp [partV, h]

/-- All that the law asks of Down's and Up's numbers where nothing is left over. -/
theorem exact_facts {a b c : Int} (ok : okD a b c = true) (hz : a * b % c = 0) :
    ∃ d, downV a b c = d ∧ upV a b c = d ∧ 0 ≤ d ∧ d ≤ 1000000000000000000 ∧ 1 ≤ c ∧ c ≤ 1000000000 ∧ 0 ≤ a * b ∧ a * b ≤ 1000000000000000000 ∧ d * c = a * b ∧ (d + 1) * c = a * b + c := by
  obtain ⟨h1, h2, h3, h4, h5, h6⟩ := downV_bd ok
  obtain ⟨_, _, _, _, hc, hc2⟩ := okD_true ok
  have hm := Int.mul_ediv_add_emod (a * b) c
  have hd : a * b / c * c = a * b := by rw [Int.mul_comm]; omega
  refine ⟨a * b / c, by simp [downV, ok], by simp [upV, ok, hz], h3, h4, hc, hc2, h1, h2, hd, ?_⟩
  rw [Int.add_mul, hd, Int.one_mul]

/-- All that the law asks of Down's and Up's numbers where something is left over. -/
theorem over_facts {a b c : Int} (ok : okD a b c = true) (hz : ¬ a * b % c = 0) :
    ∃ d, downV a b c = d ∧ upV a b c = d + 1 ∧ 0 ≤ d ∧ d ≤ 1000000000000000000 ∧ 1 ≤ c ∧ c ≤ 1000000000 ∧ 0 ≤ a * b ∧ a * b ≤ 1000000000000000000 ∧ 0 ≤ d * c ∧ d * c < a * b ∧ a * b < (d + 1) * c ∧ (d + 1) * c ≤ 2000000000000000000 := by
  obtain ⟨h1, h2, h3, h4, h5, h6⟩ := downV_bd ok
  obtain ⟨_, _, _, _, hc, hc2⟩ := okD_true ok
  have hm := Int.mul_ediv_add_emod (a * b) c
  have hr := Int.emod_lt_of_pos (a * b) (show 0 < c by omega)
  have hr0 := Int.emod_nonneg (a * b) (show c ≠ 0 by omega)
  have hs : (a * b / c + 1) * c = a * b / c * c + c := by rw [Int.add_mul, Int.one_mul]
  have hcm : c * (a * b / c) = a * b / c * c := Int.mul_comm _ _
  rw [hcm] at hm
  refine ⟨a * b / c, by simp [downV, ok], by simp [upV, ok, hz], h3, h4, hc, hc2, h1, h2, h5, ?_, ?_, ?_⟩
  · generalize a * b / c * c = q at *; generalize a * b % c = r at *; omega
  · rw [hs]; generalize a * b / c * c = q at *; generalize a * b % c = r at *; omega
  · rw [hs]; generalize a * b / c * c = q at *; generalize a * b % c = r at *; omega

theorem none_facts {a b c : Int} (ok : okD a b c = false) : downV a b c = -1 ∧ upV a b c = -1 := by simp [downV, upV, ok]

theorem added_facts {x y : Int} (h : okA x y = true) : addN x y = x + y ∧ 0 ≤ x ∧ x ≤ 1000000 ∧ 0 ≤ y ∧ y ≤ 1000000 ∧ inB 0 1000000 (x + y) = true := by
  obtain ⟨h1, h2, h3⟩ := okA_true h
  have a := inB_true h1
  have b := inB_true h2
  exact ⟨by simp [addN, h], a.1, a.2, b.1, b.2, h3⟩
end Go.Proofs.Ytnhnahckddiddaa
