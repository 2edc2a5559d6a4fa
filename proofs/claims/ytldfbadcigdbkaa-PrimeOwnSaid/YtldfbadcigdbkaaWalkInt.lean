/- The walks over the functions that only compute with numbers. -/
import Derived.Test.YtldfbadcigdbkaaWalkPow
import Derived.Test.YtldfbadcigdbkaaEul
import Derived.Deep.QuietTactic
import Derived.BigQuiet
namespace Go.Proofs.Ytldfbadcigdbkaa
open Go.RowKit

theorem ret_b {a b : Bool} (h : a = b) : Ending.returned (.bool a) = .returned (.bool b) := by rw [h]

theorem isNumber_yes (n : Int) (w : World) (h1 : 1 ≤ n) (h2 : n ≤ 2147483647) : Calls Try.prog 17 #[.int .i64 n] w fun e w' => e = .returned (.bool true) ∧ w = w' := by
  go_enter Try.func17, Try.ntmps17
  go_wp2
  go_ret
  exact ⟨rfl, rfl⟩
theorem isNumber_no (n : Int) (w : World) (h : n < 1 ∨ 2147483647 < n) : Calls Try.prog 17 #[.int .i64 n] w fun e w' => e = .returned (.bool false) ∧ w = w' := by
  rcases h with h | h
  · go_enter Try.func17, Try.ntmps17
    go_wp2
    go_ret
    exact ⟨rfl, rfl⟩
  · have h1 : 1 ≤ n := by omega
    have h2 : decide (n ≤ 2147483647) = false := by simp; omega
    go_enter Try.func17, Try.ntmps17
    go_wp2
    go_ret
    exact ⟨rfl, rfl⟩
theorem Number_yes (n : Int) (w : World) (h1 : 1 ≤ n) (h2 : n ≤ 2147483647) : Calls Try.prog 7 #[.int .i64 n] w fun e w' => e = .returned (.bool true) ∧ w = w' := by
  go_enter Try.func7, Try.ntmps7
  go_wp2
  go_ret
  exact ⟨rfl, rfl⟩
theorem Number_no (n : Int) (w : World) (h : n < 1 ∨ 2147483647 < n) : Calls Try.prog 7 #[.int .i64 n] w fun e w' => e = .returned (.bool false) ∧ w = w' := by
  rcases h with h | h
  · go_enter Try.func7, Try.ntmps7
    go_wp2
    go_ret
    exact ⟨rfl, rfl⟩
  · have h1 : 1 ≤ n := by omega
    have h2 : decide (n ≤ 2147483647) = false := by simp; omega
    go_enter Try.func7, Try.ntmps7
    go_wp2
    go_ret
    exact ⟨rfl, rfl⟩

/-- Whether a is a rest modulo the number m. -/
theorem isRest_yes (a m : Int) (w : World) (h0 : 0 ≤ a) (h1 : a < m) (h2 : m ≤ 2147483647) : Calls Try.prog 36 #[.int .i64 a, .int .i64 m] w fun e w' => e = .returned (.bool true) ∧ w = w' := by
  go_enter Try.func36, Try.ntmps36
  go_wp2_with (go_at_call 17; refine (isNumber_yes _ _ (by omega) (by omega)).mono ?_; rintro e w' ⟨rfl, rfl⟩)
  go_ret
  exact ⟨rfl, rfl⟩
theorem isRest_no (a m : Int) (w : World) (h : ¬ (0 ≤ a ∧ a < m ∧ m ≤ 2147483647)) : Calls Try.prog 36 #[.int .i64 a, .int .i64 m] w fun e w' => e = .returned (.bool false) ∧ w = w' := by
  by_cases hm : m < 1 ∨ 2147483647 < m
  · go_enter Try.func36, Try.ntmps36
    go_wp2_with (go_at_call 17; refine (isNumber_no _ _ hm).mono ?_; rintro e w' ⟨rfl, rfl⟩)
    go_ret
    exact ⟨rfl, rfl⟩
  · have hm1 : 1 ≤ m := by omega
    have hm2 : m ≤ 2147483647 := by omega
    by_cases ha : 0 ≤ a
    · have h3 : decide (a < m) = false := by simp; omega
      clear hm h
      go_enter Try.func36, Try.ntmps36
      go_wp2_with (go_at_call 17; refine (isNumber_yes _ _ (by omega) (by omega)).mono ?_; rintro e w' ⟨rfl, rfl⟩)
      go_ret
      exact ⟨rfl, rfl⟩
    · clear hm h
      go_enter Try.func36, Try.ntmps36
      go_wp2_with (go_at_call 17; refine (isNumber_yes _ _ (by omega) (by omega)).mono ?_; rintro e w' ⟨rfl, rfl⟩)
      go_ret
      exact ⟨rfl, rfl⟩

/-! ### The greatest common divisor -/
def gcdI (a b : Int) : Int := ((Nat.gcd a.toNat b.toNat : Nat) : Int)

theorem gcd_step (a b : Int) (ha : 0 ≤ a) (hb : 0 < b) : Nat.gcd b.toNat (a % b).toNat = Nat.gcd a.toNat b.toNat := by
  obtain ⟨x, rfl⟩ := Int.eq_ofNat_of_zero_le ha
  obtain ⟨y, rfl⟩ := Int.eq_ofNat_of_zero_le (show 0 ≤ b by omega)
  have : ((x : Int) % (y : Int)).toNat = x % y := by exact_mod_cast Int.toNat_natCast (x % y)
  rw [this, Int.toNat_natCast, Int.toNat_natCast, Nat.gcd_comm y, ← Nat.gcd_rec, Nat.gcd_comm]

theorem emod_bd (a b : Int) (hb : 0 < b) : 0 ≤ a % b ∧ a % b < b := ⟨Int.emod_nonneg _ (by omega), Int.emod_lt_of_pos _ hb⟩

set_option maxHeartbeats 400000 in
theorem gcd_any (a b : Int) (w : World) (ha : 0 ≤ a) (ha2 : a ≤ 9223372036854775807) (hb : 0 ≤ b) (hb2 : b ≤ 9223372036854775807) :
    Calls Try.prog 28 #[.int .i64 a, .int .i64 b] w fun e w' => e = .returned (.int .i64 (gcdI a b)) ∧ ∃ n, w' = w.drewN n := by
  go_enter Try.func28, Try.ntmps28
  go_wp2
  go_loopw [0, 1] (fun x y wr => ∃ (A B : Int) (n : Nat), x = .int .i64 A ∧ y = .int .i64 B ∧ wr = w.drewN n ∧ 0 ≤ A ∧ A ≤ 9223372036854775807 ∧ 0 ≤ B ∧ B ≤ 9223372036854775807 ∧ Hid (Nat.gcd A.toNat B.toNat = Nat.gcd a.toNat b.toNat)) (fun _ y _ => (intOf y).toNat)
  case atStart => exact ⟨a, b, 0, rfl, rfl, rfl, ha, ha2, hb, hb2, rfl⟩
  case round =>
    obtain ⟨A, B, n, rfl, rfl, rfl, hA, hA2, hB, hB2, HG⟩ := hrel
    by_cases h0 : 0 < B
    · have hb1 := emod_bd A B h0
      have hne : ((B : Int) == 0) = false := by simp; omega
      have hne2 : ((B : Int) != 0) = true := by simp; omega
      have HS := Lib.hid (gcd_step A B hA h0)
      go_wp2
      go_quiet (fail)
      go_wp2
      go_roundw
      case rel => exact ⟨B, A % B, _, rfl, rfl, World.drewN_drewN .., hB, hB2, hb1.1, by omega, HS.out.trans HG.out⟩
      case measure => simp [intOf]; omega
    · obtain rfl : B = 0 := by omega
      go_wp2
      go_ret
      exact ⟨ret_i (by have := HG.out; rw [Int.toNat_zero, Nat.gcd_zero_right] at this; unfold gcdI; omega), _, rfl⟩

set_option maxHeartbeats 400000 in
theorem Power_any (a e m : Int) (w : World) (ha : 0 ≤ a) (ham : a < m) (he : 0 ≤ e) (he2 : e ≤ 9223372036854775807) (hm : m ≤ 2147483647) :
    Calls Try.prog 43 #[.int .i64 a, .int .i64 e, .int .i64 m] w fun x w' => x = .returned (.int .i64 (M.pw a e m)) ∧ w = w' := by
  have h1m : 0 ≤ 1 % m ∧ 1 % m < m := ⟨Int.emod_nonneg _ (by omega), Int.emod_lt_of_pos _ (by omega)⟩
  have hkeep := Lib.hid (M.keep_start a e m (by omega))
  have ham' := Lib.hid (show a % m = a from Int.emod_eq_of_lt ha ham)
  go_enter Try.func43, Try.ntmps43
  go_wp2
  rw [ham'.out]
  go_loop [0, 1, 7] (fun s x r => ∃ E R S : Int, x = .int .i64 E ∧ r = .int .i64 R ∧ s = .int .i64 S ∧ 0 ≤ E ∧ E ≤ 9223372036854775807 ∧ 0 ≤ R ∧ R < m ∧ 0 ≤ S ∧ S < m ∧ Hid (((M.keep R S E m : Nat) : Int) = M.pw a e m)) (fun _ x _ => (intOf x).toNat)
  case atStart => exact ⟨e, 1 % m, a, rfl, rfl, rfl, he, he2, h1m.1, h1m.2, ha, ham, hkeep.out⟩
  case round =>
    obtain ⟨E, R, S, rfl, rfl, rfl, hE0, hE1, hR0, hR1, hS0, hS1, HK⟩ := hrel
    have b1 := M.mul_bd R S m hR0 hR1 hS0 hS1 hm
    have b2 := M.mul_bd S S m hS0 hS1 hS0 hS1 hm
    have b3 := M.mulmod_bd R S m (by omega)
    have b4 := M.mulmod_bd S S m (by omega)
    by_cases hp : 0 < E
    · by_cases ho : E % 2 = 1
      · have hk := Lib.hid (M.keep_odd R S E m hR0 hS0 hp (by omega) ho)
        have ho' : ((E % 2 : Int) == 1) = true := by simpa using ho
        clear ho
        go_wp2
        go_round
        case rel => exact ⟨E / 2, R * S % m, S * S % m, rfl, rfl, rfl, by omega, by omega, b3.1, b3.2, b4.1, b4.2, hk.out ▸ HK.out⟩
        case measure => simp [intOf]; omega
      · have hk := Lib.hid (M.keep_even R S E m hS0 hp (by omega) ho)
        have ho' : ((E % 2 : Int) == 1) = false := by simpa using ho
        clear ho
        go_wp2
        go_round
        case rel => exact ⟨E / 2, R, S * S % m, rfl, rfl, rfl, by omega, by omega, hR0, hR1, b4.1, b4.2, hk.out ▸ HK.out⟩
        case measure => simp [intOf]; omega
    · obtain rfl : E = 0 := by omega
      go_wp2
      go_ret
      exact ⟨ret_i (by rw [← HK.out]; exact (M.keep_end R S m hR0 hR1).symm), rfl⟩

end Go.Proofs.Ytldfbadcigdbkaa
