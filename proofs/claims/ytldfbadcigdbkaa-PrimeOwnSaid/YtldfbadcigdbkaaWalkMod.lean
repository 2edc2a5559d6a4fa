/- The walks over the law's own mod and number. -/
import Derived.Test.YtldfbadcigdbkaaWalkAwake
namespace Go.Proofs.Ytldfbadcigdbkaa
open Go.RowKit

def two64 : Int := 18446744073709551616
/-- The rest of x, read as a number without a sign. -/
def modv (x n : Int) : Int := x % two64 % n
theorem modv_bd (x n : Int) (hn : 1 ≤ n) : 0 ≤ modv x n ∧ modv x n < n := ⟨Int.emod_nonneg _ (by omega), Int.emod_lt_of_pos _ (by omega)⟩

theorem wrap_u64 (x : Int) : IntKind.u64.wrap x = x % two64 := by
  simp [IntKind.wrap, IntKind.bits, IntKind.signed, two64]

set_option maxRecDepth 100000 in
theorem mod_is (x n : Int) (w : World) (hn : 1 ≤ n) (hn2 : n ≤ 4611686018427387904) :
    Calls Try.prog 25 #[.int .i64 x, .int .i64 n] w fun e w' => e = .returned (.int .i64 (modv x n)) ∧ w = w' := by
  go_enter Try.func25, Try.ntmps25
  go_wp2
  go_ret
  refine ⟨ret_i ?_, rfl⟩
  have h0 : 0 ≤ x % two64 := Int.emod_nonneg _ (by unfold two64; omega)
  have hb := modv_bd x n hn
  rw [wrap_u64, Int.tmod_eq_emod_of_nonneg h0]
  exact IntWalk.wrap64_in _ ⟨by unfold modv at hb; omega, by unfold modv at hb; omega⟩

def numv (n most : Int) : Int := if 1 ≤ n ∧ n ≤ most then n else 1 + modv n most
theorem numv_bd (n most : Int) (h : 1 ≤ most) : 1 ≤ numv n most ∧ numv n most ≤ most := by
  unfold numv
  split
  · assumption
  · have := modv_bd n most h; omega

set_option maxRecDepth 100000 in
theorem number_is (n most : Int) (w : World) (hn : 1 ≤ most) (hn2 : most ≤ 4611686018427387904) :
    Calls Try.prog 12 #[.int .i64 n, .int .i64 most] w fun e w' => e = .returned (.int .i64 (numv n most)) ∧ w = w' := by
  by_cases h : 1 ≤ n ∧ n ≤ most
  · have e : numv n most = n := if_pos h
    rw [e]
    obtain ⟨h1, h2⟩ := h
    clear e
    go_enter Try.func12, Try.ntmps12
    go_wp2
    go_ret
    exact ⟨rfl, rfl⟩
  · have e : numv n most = 1 + modv n most := if_neg h
    rw [e]
    have hb := modv_bd n most hn
    clear e
    by_cases h1 : 1 ≤ n
    · have h2 : ¬ n ≤ most := fun hc => h ⟨h1, hc⟩
      have hd : decide (n ≤ most) = false := by simpa using h2
      clear h
      go_enter Try.func12, Try.ntmps12
      go_wp2_with (go_at_call 25; refine (mod_is _ _ _ (by omega) (by omega)).mono ?_; rintro e w' ⟨rfl, rfl⟩)
      go_ret
      exact ⟨rfl, rfl⟩
    · have hd : decide (1 ≤ n) = false := by simpa using h1
      clear h
      go_enter Try.func12, Try.ntmps12
      go_wp2_with (go_at_call 25; refine (mod_is _ _ _ (by omega) (by omega)).mono ?_; rintro e w' ⟨rfl, rfl⟩)
      go_ret
      exact ⟨rfl, rfl⟩

end Go.Proofs.Ytldfbadcigdbkaa
