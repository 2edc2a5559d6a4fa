/- The walks over prime.Power, Inverse, Order; generates, leastGenerator, Generator. -/
import Derived.Test.YtldfbadcigdbkaaWalkIsOrd
namespace Go.Proofs.Ytldfbadcigdbkaa
open Go.RowKit

def IsRest (a m : Int) : Prop := 0 ≤ a ∧ a < m ∧ m ≤ 2147483647

end Go.Proofs.Ytldfbadcigdbkaa