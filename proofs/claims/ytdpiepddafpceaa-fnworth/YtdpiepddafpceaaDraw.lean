/-
  One draw more from the cursor: 'l1From': a number from lo to hi.
-/
import Derived.Test.YtdpiepddafpceaaDrawB
namespace Go.Proofs.Ytdpiepddafpceaa
open Go.ChangeShapes Go.WideShapes Go.ChangeAt Go.RowKit
end Go.Proofs.Ytdpiepddafpceaa
