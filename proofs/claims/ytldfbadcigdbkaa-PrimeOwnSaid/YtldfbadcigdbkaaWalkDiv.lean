/- The walks over the least divisor, and over the question whether a number is a prime (the reference's). -/
import Derived.Test.YtldfbadcigdbkaaWalkInv
namespace Go.Proofs.Ytldfbadcigdbkaa
open Go.RowKit

/-- The least divisor from 2 on. -/
def Least (n d : Int) : Prop := 2 ≤ d ∧ d ∣ n ∧ ∀ k : Int, 2 ≤ k → k ∣ n → d ≤ k

theorem Least.le {n d : Int} (h : Least n d) (hn : 1 ≤ n) : d ≤ n := Int.le_of_dvd (by omega) h.2.1

theorem sq_bd (k : Int) (h0 : 0 ≤ k) (h : k ≤ 46341) : 0 ≤ k * k ∧ k * k ≤ 2147488281 := by
  have h1 : k * k ≤ 46341 * 46341 := Int.mul_le_mul h h h0 (by omega)
  exact ⟨Int.mul_nonneg h0 h0, by omega⟩

theorem sq_small (k n : Int) (h0 : 0 ≤ k) (hn : n ≤ 2147483647) (h : k * k ≤ n) : k ≤ 46340 := by
  refine Classical.byContradiction fun hc => ?_
  have h1 : 46341 * 46341 ≤ k * k := Int.mul_le_mul (by omega) (by omega) (by omega) h0
  omega

theorem Least.of_sq {n d k : Int} (h : Least n d) (hn : 1 ≤ n) (hk : k ≤ d) (hk0 : 2 ≤ k) (hs : n < k * k) : d = n := by
  obtain ⟨c, hc⟩ := h.2.1
  have h2 := h.1
  have hc1 : 1 ≤ c := by
    refine Classical.byContradiction fun h0 => ?_
    have : d * c ≤ d * 0 := Int.mul_le_mul_of_nonneg_left (by omega) (by omega)
    omega
  by_cases h1 : c = 1
  · subst h1; omega
  · exfalso
    have h3 := h.2.2 c (by omega) ⟨d, by rw [hc, Int.mul_comm]⟩
    have h4 : k * k ≤ d * c := Int.mul_le_mul hk (by omega) (by omega) (by omega)
    omega

set_option maxHeartbeats 400000 in
theorem Divisor_any (n d : Int) (w : World) (hn : 2 ≤ n) (hn2 : n ≤ 2147483647) (hd : Hid (Least n d)) :
    Calls Try.prog 24 #[.int .i64 n] w fun e w' => e = .returned (.int .i64 d) ∧ w = w' := by
  have hd2 := hd.out.1
  have hdn := hd.out.le (by omega)
  go_enter Try.func24, Try.ntmps24
  go_wp2
  go_loop [3] (fun x => ∃ K : Int, x = .int .i64 K ∧ 2 ≤ K ∧ K ≤ d ∧ K ≤ 46341) (fun x => (46342 - intOf x).toNat)
  case atStart => exact ⟨2, rfl, by omega, by omega, by omega⟩
  case round =>
    obtain ⟨K, rfl, hK, hKd, hK2⟩ := hrel
    have hsq := sq_bd K (by omega) hK2
    by_cases hs : K * K ≤ n
    · have hsm := sq_small K n (by omega) hn2 hs
      by_cases hdv : n % K = 0
      · have he : d = K := by
          have := hd.out.2.2 K hK (Int.dvd_of_emod_eq_zero hdv)
          omega
        have HE := Lib.hid he
        have ht : ((n % K : Int) == 0) = true := by simpa using hdv
        clear he hdv
        go_wp2
        go_ret
        exact ⟨ret_i HE.out.symm, rfl⟩
      · have hlt : K + 1 ≤ d := by
          have : d ≠ K := fun e => hdv (Int.emod_eq_zero_of_dvd (e ▸ hd.out.2.1))
          omega
        have ht : ((n % K : Int) == 0) = false := by simpa using hdv
        clear hdv
        go_wp2
        go_round
        case rel => exact ⟨K + 1, rfl, by omega, by omega, by omega⟩
        case measure => simp [intOf]; omega
    · have he := Lib.hid (hd.out.of_sq (by omega) hKd hK (by omega))
      go_wp2
      go_ret
      exact ⟨ret_i he.out.symm, rfl⟩

def PrI (n : Int) : Prop := 2 ≤ n ∧ n ≤ 2147483647 ∧ M.Pr n.toNat

theorem exists_Least (n : Int) (hn : 2 ≤ n) : ∃ d, Least n d ∧ (d = n ↔ M.Pr n.toNat) := by
  obtain ⟨N, rfl⟩ := Int.eq_ofNat_of_zero_le (show 0 ≤ n by omega)
  obtain ⟨d, h1, h2, h3⟩ := M.exists_least N (by omega)
  refine ⟨d, ⟨by omega, by exact_mod_cast h2, fun k hk hkn => ?_⟩, ?_⟩
  · obtain ⟨K, rfl⟩ := Int.eq_ofNat_of_zero_le (show 0 ≤ k by omega)
    have := h3 K (by omega) (by exact_mod_cast hkn)
    omega
  · rw [Int.toNat_natCast]
    have hp := M.least_prime h1 h2 h3
    constructor
    · intro e
      have : d = N := by omega
      exact this ▸ hp
    · intro h
      rcases h.2 d h2 with e | e
      · omega
      · omega

theorem Prime_yes (n : Int) (w : World) (h : Hid (PrI n)) : Calls Try.prog 11 #[.int .i64 n] w fun e w' => e = .returned (.bool true) ∧ w = w' := by
  obtain ⟨h2, hm, hp⟩ := h.out
  obtain ⟨d, hd, hiff⟩ := exists_Least n h2
  obtain rfl := hiff.2 hp
  have HD := Lib.hid hd
  clear hd hiff hp h
  go_enter Try.func11, Try.ntmps11
  go_wp2_with (first
    | (go_at_call 7; refine (Number_yes _ _ (by omega) (by omega)).mono ?_; rintro e w' ⟨rfl, rfl⟩)
    | (go_at_call 24; refine (Divisor_any _ _ _ (by omega) (by omega) HD).mono ?_; rintro e w' ⟨rfl, rfl⟩))
  go_ret
  exact ⟨ret_b (by simp), rfl⟩

theorem Prime_no (n : Int) (w : World) (h : Hid (¬ PrI n)) : Calls Try.prog 11 #[.int .i64 n] w fun e w' => e = .returned (.bool false) ∧ w = w' := by
  by_cases hr : n < 1 ∨ 2147483647 < n
  · go_enter Try.func11, Try.ntmps11
    go_wp2_with (go_at_call 7; refine (Number_no _ _ hr).mono ?_; rintro e w' ⟨rfl, rfl⟩)
    go_ret
    exact ⟨rfl, rfl⟩
  · have h1 : 1 ≤ n := by omega
    have hm : n ≤ 2147483647 := by omega
    clear hr
    by_cases h2 : 1 < n
    · obtain ⟨d, hd, hiff⟩ := exists_Least n (by omega)
      have hne : ((d : Int) == n) = false := by
        rw [beq_eq_false_iff_ne]
        intro e
        exact h.out ⟨by omega, hm, hiff.1 e⟩
      have HD := Lib.hid hd
      clear hd hiff
      go_enter Try.func11, Try.ntmps11
      go_wp2_with (first
        | (go_at_call 7; refine (Number_yes _ _ (by omega) (by omega)).mono ?_; rintro e w' ⟨rfl, rfl⟩)
        | (go_at_call 24; refine (Divisor_any _ _ _ (by omega) (by omega) HD).mono ?_; rintro e w' ⟨rfl, rfl⟩))
      go_ret
      exact ⟨rfl, rfl⟩
    · go_enter Try.func11, Try.ntmps11
      go_wp2_with (go_at_call 7; refine (Number_yes _ _ (by omega) (by omega)).mono ?_; rintro e w' ⟨rfl, rfl⟩)
      go_ret
      exact ⟨rfl, rfl⟩

end Go.Proofs.Ytldfbadcigdbkaa
