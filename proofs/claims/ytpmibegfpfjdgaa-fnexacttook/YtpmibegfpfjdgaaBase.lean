/-
  What chapter 1's small functions answer: 'within' and the Ok questions, at every argument, in every world, which they leave as it is.
-/
import Derived.Test.YtpmibegfpfjdgaaL1In
namespace Go.Proofs.Ytpmibegfpfjdgaa
open Go.ChangeShapes Go.WideShapes Go.ChangeAt Go.RowKit

theorem within_any (lim n : Int) (w : World) :
    Calls Try.prog 60 #[.int .i64 lim, .int .i64 n] w fun e w' => e = .returned (.bool (inB 0 lim n)) ∧ w = w' := by
  by_cases h : 0 ≤ n
  · by_cases h2 : n ≤ lim
    · have hb : inB 0 lim n = true := by simp [inB, h, h2]
      rw [hb]; clear hb
      go_enter Try.func60, Try.ntmps60
      go_wp2
      go_ret
      exact ⟨rfl, rfl⟩
    · have hb : inB 0 lim n = false := by simp [inB, h2]
      rw [hb]; clear hb
      go_enter Try.func60, Try.ntmps60
      go_wp2
      go_ret
      exact ⟨rfl, rfl⟩
  · have hb : inB 0 lim n = false := by simp [inB, h]
    rw [hb]; clear hb
    go_enter Try.func60, Try.ntmps60
    go_wp2
    go_ret
    exact ⟨rfl, rfl⟩

theorem iSharesOk_any (n : Int) (w : World) :
    Calls Try.prog 54 #[.int .i64 n] w fun e w' => e = .returned (.bool (inB 0 1000000000 n)) ∧ w = w' := by
  go_enter Try.func54, Try.ntmps54
  go_wp2_with (go_at_call 60; refine (within_any _ _ _).mono ?_; rintro e w' ⟨rfl, rfl⟩)
  go_ret
  exact ⟨rfl, rfl⟩
end Go.Proofs.Ytpmibegfpfjdgaa
