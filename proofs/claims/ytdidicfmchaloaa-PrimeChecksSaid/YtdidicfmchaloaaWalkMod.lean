/- The walks over the law's own mod and number. -/
import Derived.Test.YtdidicfmchaloaaWalkAwake
namespace Go.Proofs.Ytdidicfmchaloaa
open Go.RowKit

def two64 : Int := 18446744073709551616
/-- The rest of x, read as a number without a sign. -/
def modv (x n : Int) : Int := x % two64 % n
theorem modv_bd (x n : Int) (hn : 1 ≤ n) : 0 ≤ modv x n ∧ modv x n < n := ⟨Int.emod_nonneg _ (by omega), Int.emod_lt_of_pos _ (by omega)⟩

theorem wrap_u64 (x : Int) : IntKind.u64.wrap x = x % two64 := by
  simp [IntKind.wrap, IntKind.bits, IntKind.signed, two64]

def numv (n most : Int) : Int := if 1 ≤ n ∧ n ≤ most then n else 1 + modv n most
theorem numv_bd (n most : Int) (h : 1 ≤ most) : 1 ≤ numv n most ∧ numv n most ≤ most := by
  unfold numv
  split
  · assumption
  · have := modv_bd n most h; omega

end Go.Proofs.Ytdidicfmchaloaa