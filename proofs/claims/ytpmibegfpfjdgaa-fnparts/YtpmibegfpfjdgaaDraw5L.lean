/-
  'likeParts', where both lists hold the same parts.
-/
import Derived.Test.YtpmibegfpfjdgaaDraw5
import Derived.Deep.QuietTactic
import Derived.BigQuiet
namespace Go.Proofs.Ytpmibegfpfjdgaa
open Go.ChangeShapes Go.WideShapes Go.ChangeAt Go.RowKit

set_option maxHeartbeats 1000000 in
set_option maxRecDepth 100000 in
/-- Both lists hold the same parts: it says so. -/
theorem likeParts_same {w : World} {a a' : Option Addr} {ps : List Par} (cap cap' : Nat) (h : Recs Par.cs w a ps) (h' : Recs Par.cs w a' ps) (hl : ps.length ≤ 1048576) :
    Calls Try.prog 18 #[.slice a ps.length cap, .slice a' ps.length cap'] w fun e w' => e = .returned (.bool true) ∧ Below w.heap.size w w' := by
  have H := Lib.hid h
  have H' := Lib.hid h'
  clear h h'
  go_enter Try.func18, Try.ntmps18
  go_wp2
  go_loopw [5] (fun i w' => ∃ (k n : Nat), k ≤ ps.length ∧ i = .int .i64 k ∧ w' = w.drewN n) (fun i _ => ps.length - (intOf i).toNat)
  case atStart => exact ⟨0, 0, Nat.zero_le _, rfl, rfl⟩
  case round =>
    obtain ⟨k, n, hk, rfl, rfl⟩ := hrel
    by_cases hlt : k < ps.length
    · obtain ⟨b, off, rfl, _, hc, hc1, hc2⟩ := Par.at H.out k hlt
      obtain ⟨b', off', rfl, _, hc', hc1', hc2'⟩ := Par.at H'.out k hlt
      go_wp2
      go_quiet (fail)
      go_wp2
      go_roundw
      case rel => exact ⟨k + 1, _, by omega, by go_num, rfl⟩
      case measure => simp [intOf]; omega
    · go_wp2
      go_ret
      exact ⟨rfl, below_draws (Below.refl _ _) n⟩
end Go.Proofs.Ytpmibegfpfjdgaa
