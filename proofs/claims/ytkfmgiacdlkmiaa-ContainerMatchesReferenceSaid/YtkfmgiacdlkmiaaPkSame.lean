/-
  The comparison of lists of integers of the reference.
-/
import Derived.Test.YtkfmgiacdlkmiaaPkSame1
namespace Go.Proofs.Ytkfmgiacdlkmiaa
open Go.RowKit Go.Shelf Go.ChangeShapes Go.WideShapes Go.ChangeAt

end Go.Proofs.Ytkfmgiacdlkmiaa
