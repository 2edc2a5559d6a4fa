/- The walks over the least divisor, and over the question whether a number is a prime (the reference's). -/
import Derived.Test.YtdidicfmchaloaaWalkInv
namespace Go.Proofs.Ytdidicfmchaloaa
open Go.RowKit

/-- The least divisor from 2 on. -/
def Least (n d : Int) : Prop := 2 ≤ d ∧ d ∣ n ∧ ∀ k : Int, 2 ≤ k → k ∣ n → d ≤ k

theorem Least.le {n d : Int} (h : Least n d) (hn : 1 ≤ n) : d ≤ n := Int.le_of_dvd (by omega) h.2.1

theorem sq_bd (k : Int) (h0 : 0 ≤ k) (h : k ≤ 46341) : 0 ≤ k * k ∧ k * k ≤ 2147488281 := by
  have h1 : k * k ≤ 46341 * 46341 := Int.mul_le_mul h h h0 (by omega)
  exact ⟨Int.mul_nonneg h0 h0, by omega⟩

theorem sq_small (k n : Int) (h0 : 0 ≤ k) (hn : n ≤ 2147483647) (h : k * k ≤ n) : k ≤ 46340 := by
  refine Classical.byContradiction fun hc => ?_
  have h1 : 46341 * 46341 ≤ k * k := Int.mul_le_mul (by omega) (by omega) (by omega) h0
  omega

theorem Least.of_sq {n d k : Int} (h : Least n d) (hn : 1 ≤ n) (hk : k ≤ d) (hk0 : 2 ≤ k) (hs : n < k * k) : d = n := by
  obtain ⟨c, hc⟩ := h.2.1
  have h2 := h.1
  have hc1 : 1 ≤ c := by
    refine Classical.byContradiction fun h0 => ?_
    have : d * c ≤ d * 0 := Int.mul_le_mul_of_nonneg_left (by omega) (by omega)
    omega
  by_cases h1 : c = 1
  · subst h1; omega
  · exfalso
    have h3 := h.2.2 c (by omega) ⟨d, by rw [hc, Int.mul_comm]⟩
    have h4 : k * k ≤ d * c := Int.mul_le_mul hk (by omega) (by omega) (by omega)
    omega

def PrI (n : Int) : Prop := 2 ≤ n ∧ n ≤ 2147483647 ∧ M.Pr n.toNat

theorem exists_Least (n : Int) (hn : 2 ≤ n) : ∃ d, Least n d ∧ (d = n ↔ M.Pr n.toNat) := by
  obtain ⟨N, rfl⟩ := Int.eq_ofNat_of_zero_le (show 0 ≤ n by omega)
  obtain ⟨d, h1, h2, h3⟩ := M.exists_least N (by omega)
  refine ⟨d, ⟨by omega, by exact_mod_cast h2, fun k hk hkn => ?_⟩, ?_⟩
  · obtain ⟨K, rfl⟩ := Int.eq_ofNat_of_zero_le (show 0 ≤ k by omega)
    have := h3 K (by omega) (by exact_mod_cast hkn)
    omega
  · rw [Int.toNat_natCast]
    have hp := M.least_prime h1 h2 h3
    constructor
    · intro e
      have : d = N := by omega
      exact this ▸ hp
    · intro h
      rcases h.2 d h2 with e | e
      · omega
      · omega

end Go.Proofs.Ytdidicfmchaloaa