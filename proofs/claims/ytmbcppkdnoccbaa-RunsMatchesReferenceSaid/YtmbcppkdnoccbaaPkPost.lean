/-
  What packing gives a caller.
-/
import Derived.Test.YtmbcppkdnoccbaaPkHere
namespace Go.Proofs.Ytmbcppkdnoccbaa
open Go.RowKit Go.Shelf Go.ChangeShapes Go.WideShapes Go.ChangeAt

/-- What the law's packing gives back. -/
def PackedPost (W : World) (zs : List Int) (e : Ending) (W' : World) : Prop :=
  ∃ g cap : Nat, e = .returned (.agg #[.slice (some ⟨g, 0, none⟩) zs.length cap, .int .i64 0]) ∧ Rd (fun b => W.heap.size ≤ b) W' .u8 (some ⟨g, 0, none⟩) zs.length cap zs ∧ Below W.heap.size W W'

end Go.Proofs.Ytmbcppkdnoccbaa
