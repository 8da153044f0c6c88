/-
  One draw more from the cursor: 'l1From': a number from lo to hi.
-/
import Derived.Test.YtoejbeppegannaaDrawB
namespace Go.Proofs.Ytoejbeppegannaa
open Go.ChangeShapes Go.WideShapes Go.ChangeAt Go.RowKit
end Go.Proofs.Ytoejbeppegannaa
