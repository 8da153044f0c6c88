/-
  One draw more from the cursor: 'l1From': a number from lo to hi.
-/
import Derived.Test.YtkdelfadmnpkhaaDrawB
namespace Go.Proofs.Ytkdelfadmnpkhaa
open Go.ChangeShapes Go.WideShapes Go.ChangeAt Go.RowKit

theorem l1From_any {C : Nat} {a : Option Addr} {len cap : Nat} {w : World} (lo hi : Int) (h : Cur w C a len cap) (h1 : lo ≤ hi) (h2 : -1000000000 ≤ lo) (h3 : hi ≤ 1000000000) :
    Calls Try.prog 44 #[.pointer (some ⟨C, 0, none⟩), .int .i64 lo, .int .i64 hi] w (Drawn C a len cap (fun x => lo ≤ x ∧ x ≤ hi) w) := by
  go_enter Try.func44, Try.ntmps44
  go_wp2_with fail
  refine (l1Below_any _ h (by omega) (by omega)).mono ?_
  rintro e w1 ⟨x, ⟨hx, hx2⟩, rfl, hc1, hg1⟩
  go_wp2
  go_ret
  exact ⟨_, ⟨by omega, by omega⟩, rfl, hc1, hg1⟩
end Go.Proofs.Ytkdelfadmnpkhaa
