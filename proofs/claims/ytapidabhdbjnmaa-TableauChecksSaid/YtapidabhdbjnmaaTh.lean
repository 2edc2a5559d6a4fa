/- The walk over the reference's Insert. -/
import Derived.Test.YtapidabhdbjnmaaTg
namespace Go.Proofs.Ytapidabhdbjnmaa
open Go.RowKit

/-- What a function that returns two lists of rows returns. -/
def RetPq (w : World) (P Q : List (List Nat)) (x : Ending) (w' : World) : Prop := (∃ vp vq, x = .returned (.tuple #[vp, vq]) ∧ RdN w' vp P ∧ RdN w' vq Q) ∧ Below w.heap.size w w'

end Go.Proofs.Ytapidabhdbjnmaa