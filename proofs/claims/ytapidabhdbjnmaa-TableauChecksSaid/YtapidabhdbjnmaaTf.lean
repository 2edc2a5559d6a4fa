/- The walk over the reference's insert. -/
import Derived.Test.YtapidabhdbjnmaaTe
namespace Go.Proofs.Ytapidabhdbjnmaa
open Go.RowKit

/-- What a function that makes rows and a number returns. -/
def RetTi (w : World) (Ms : List (List Nat)) (g : Nat) (x : Ending) (w' : World) : Prop := ∃ v' vs, x = .returned (.tuple #[v', .int .i64 (g : Int)]) ∧ Tab w w' v' vs Ms

end Go.Proofs.Ytapidabhdbjnmaa