/- Texts of the proof, laid together. -/
import Derived.Test.YtgcjdojhfimceaaGreatG02
import Derived.Test.YtgcjdojhfimceaaGreatG01
import Derived.Deep.QuietTactic
import Derived.BigQuiet
namespace Go.Proofs.YtgcjdojhfimceaaGreat
open Go.RowKit

theorem ret_b {a b : Bool} (h : a = b) : Ending.returned (.bool a) = .returned (.bool b) := by rw [h]

theorem isNumber_yes (n : Int) (w : World) (h1 : 1 ≤ n) (h2 : n ≤ 2147483647) : Calls Tryz.prog 21 #[.int .i64 n] w fun e w' => e = .returned (.bool true) ∧ w = w' := by
  go_enter Tryz.func21, Tryz.ntmps21
  go_wp2
  go_ret
  exact ⟨rfl, rfl⟩
theorem isNumber_no (n : Int) (w : World) (h : n < 1 ∨ 2147483647 < n) : Calls Tryz.prog 21 #[.int .i64 n] w fun e w' => e = .returned (.bool false) ∧ w = w' := by
  rcases h with h | h
  · go_enter Tryz.func21, Tryz.ntmps21
    go_wp2
    go_ret
    exact ⟨rfl, rfl⟩
  · have h1 : 1 ≤ n := by omega
    have h2 : decide (n ≤ 2147483647) = false := by simp; omega
    go_enter Tryz.func21, Tryz.ntmps21
    go_wp2
    go_ret
    exact ⟨rfl, rfl⟩
/-- Whether a is a rest modulo the number m. -/
theorem isRest_yes (a m : Int) (w : World) (h0 : 0 ≤ a) (h1 : a < m) (h2 : m ≤ 2147483647) : Calls Tryz.prog 15 #[.int .i64 a, .int .i64 m] w fun e w' => e = .returned (.bool true) ∧ w = w' := by
  go_enter Tryz.func15, Tryz.ntmps15
  go_wp2_with (go_at_call 21; refine (isNumber_yes _ _ (by omega) (by omega)).mono ?_; rintro e w' ⟨rfl, rfl⟩)
  go_ret
  exact ⟨rfl, rfl⟩
theorem isRest_no (a m : Int) (w : World) (h : ¬ (0 ≤ a ∧ a < m ∧ m ≤ 2147483647)) : Calls Tryz.prog 15 #[.int .i64 a, .int .i64 m] w fun e w' => e = .returned (.bool false) ∧ w = w' := by
  by_cases hm : m < 1 ∨ 2147483647 < m
  · go_enter Tryz.func15, Tryz.ntmps15
    go_wp2_with (go_at_call 21; refine (isNumber_no _ _ hm).mono ?_; rintro e w' ⟨rfl, rfl⟩)
    go_ret
    exact ⟨rfl, rfl⟩
  · have hm1 : 1 ≤ m := by omega
    have hm2 : m ≤ 2147483647 := by omega
    by_cases ha : 0 ≤ a
    · have h3 : decide (a < m) = false := by simp; omega
      clear hm h
      go_enter Tryz.func15, Tryz.ntmps15
      go_wp2_with (go_at_call 21; refine (isNumber_yes _ _ (by omega) (by omega)).mono ?_; rintro e w' ⟨rfl, rfl⟩)
      go_ret
      exact ⟨rfl, rfl⟩
    · clear hm h
      go_enter Tryz.func15, Tryz.ntmps15
      go_wp2_with (go_at_call 21; refine (isNumber_yes _ _ (by omega) (by omega)).mono ?_; rintro e w' ⟨rfl, rfl⟩)
      go_ret
      exact ⟨rfl, rfl⟩

/-! ### The greatest common divisor -/
def gcdI (a b : Int) : Int := ((Nat.gcd a.toNat b.toNat : Nat) : Int)

theorem gcd_step (a b : Int) (ha : 0 ≤ a) (hb : 0 < b) : Nat.gcd b.toNat (a % b).toNat = Nat.gcd a.toNat b.toNat := by
  obtain ⟨x, rfl⟩ := Int.eq_ofNat_of_zero_le ha
  obtain ⟨y, rfl⟩ := Int.eq_ofNat_of_zero_le (show 0 ≤ b by omega)
  have : ((x : Int) % (y : Int)).toNat = x % y := by exact_mod_cast Int.toNat_natCast (x % y)
  rw [this, Int.toNat_natCast, Int.toNat_natCast, Nat.gcd_comm y, ← Nat.gcd_rec, Nat.gcd_comm]

theorem emod_bd (a b : Int) (hb : 0 < b) : 0 ≤ a % b ∧ a % b < b := ⟨Int.emod_nonneg _ (by omega), Int.emod_lt_of_pos _ hb⟩

set_option maxHeartbeats 400000 in
theorem gcd_any (a b : Int) (w : World) (ha : 0 ≤ a) (ha2 : a ≤ 9223372036854775807) (hb : 0 ≤ b) (hb2 : b ≤ 9223372036854775807) :
    Calls Tryz.prog 16 #[.int .i64 a, .int .i64 b] w fun e w' => e = .returned (.int .i64 (gcdI a b)) ∧ ∃ n, w' = w.drewN n := by
  go_enter Tryz.func16, Tryz.ntmps16
  go_wp2
  go_loopw [0, 1] (fun x y wr => ∃ (A B : Int) (n : Nat), x = .int .i64 A ∧ y = .int .i64 B ∧ wr = w.drewN n ∧ 0 ≤ A ∧ A ≤ 9223372036854775807 ∧ 0 ≤ B ∧ B ≤ 9223372036854775807 ∧ Hid (Nat.gcd A.toNat B.toNat = Nat.gcd a.toNat b.toNat)) (fun _ y _ => (intOf y).toNat)
  case atStart => exact ⟨a, b, 0, rfl, rfl, rfl, ha, ha2, hb, hb2, rfl⟩
  case round =>
    obtain ⟨A, B, n, rfl, rfl, rfl, hA, hA2, hB, hB2, HG⟩ := hrel
    by_cases h0 : 0 < B
    · have hb1 := emod_bd A B h0
      have hne : ((B : Int) == 0) = false := by simp; omega
      have hne2 : ((B : Int) != 0) = true := by simp; omega
      have HS := Lib.hid (gcd_step A B hA h0)
      go_wp2
      go_quiet (fail)
      go_wp2
      go_roundw
      case rel => exact ⟨B, A % B, _, rfl, rfl, World.drewN_drewN .., hB, hB2, hb1.1, by omega, HS.out.trans HG.out⟩
      case measure => simp [intOf]; omega
    · obtain rfl : B = 0 := by omega
      go_wp2
      go_ret
      exact ⟨ret_i (by have := HG.out; rw [Int.toNat_zero, Nat.gcd_zero_right] at this; unfold gcdI; omega), _, rfl⟩

end Go.Proofs.YtgcjdojhfimceaaGreat
namespace Go.Proofs.YtgcjdojhfimceaaGreat
open Go.RowKit

theorem ret_2ib {a b : Int} {c : Bool} (h : a = b) : Ending.returned (.tuple #[.int .i64 a, .bool c]) = .returned (.tuple #[.int .i64 b, .bool c]) := by rw [h]

set_option maxHeartbeats 400000 in
theorem invert_any (a m i : Int) (w : World) (ha : 0 ≤ a) (ham : a < m) (hm : m ≤ 2147483647) (hi0 : 0 ≤ i) (him : i < m) (hi : Hid (a * i % m = 1 % m)) :
    Calls Tryz.prog 64 #[.int .i64 a, .int .i64 m] w fun e w' => e = .returned (.int .i64 i) ∧ w = w' := by
  have hst := Lib.hid (M.Eu.start ha ham (M.gcd_of_inv ha ham hi0 hi.out))
  go_enter Tryz.func64, Tryz.ntmps64
  go_wp2
  go_loop [5, 6, 7, 8] (fun r s x y => ∃ R S X Y : Int, r = .int .i64 R ∧ s = .int .i64 S ∧ x = .int .i64 X ∧ y = .int .i64 Y ∧ Hid (M.Eu a m R S X Y)) (fun _ s _ _ => (intOf s).toNat)
  case atStart => exact ⟨m, a, 0, 1, rfl, rfl, rfl, rfl, hst.out⟩
  case round =>
    obtain ⟨R, S, X, Y, rfl, rfl, rfl, rfl, HE⟩ := hrel
    have hr0 := HE.out.r0
    have hs0 := HE.out.s0
    have hsr := HE.out.sr
    have hrm := HE.out.rm
    by_cases h0 : 0 < S
    · obtain ⟨q0, q1, q2, q3, q4, q5, q6, q7, hE⟩ := HE.out.step h0
      have hne : ((S : Int) == 0) = false := by simp; omega
      have hne2 : ((S : Int) != 0) = true := by simp; omega
      have HS := Lib.hid hE
      clear hE
      go_wp2
      go_round
      case rel => exact ⟨S, R - R / S * S, Y, X - R / S * Y, rfl, rfl, rfl, rfl, HS.out⟩
      case measure => simp [intOf]; have := HS.out.sr; omega
    · obtain rfl : S = 0 := by omega
      obtain ⟨f1, f2, f3, f4⟩ := HE.out.finish hi0 him hi.out
      have HF := Lib.hid (And.intro f1 f2)
      clear f1 f2
      by_cases hx : X < 0
      · go_wp2
        go_ret
        exact ⟨ret_i (HF.out.1 hx), rfl⟩
      · go_wp2
        go_ret
        exact ⟨ret_i (HF.out.2 (by omega)), rfl⟩

end Go.Proofs.YtgcjdojhfimceaaGreat
namespace Go.Proofs.YtgcjdojhfimceaaGreat
open Go.RowKit

/-- The least divisor from 2 on. -/
def Least (n d : Int) : Prop := 2 ≤ d ∧ d ∣ n ∧ ∀ k : Int, 2 ≤ k → k ∣ n → d ≤ k

theorem Least.le {n d : Int} (h : Least n d) (hn : 1 ≤ n) : d ≤ n := Int.le_of_dvd (by omega) h.2.1

theorem sq_bd (k : Int) (h0 : 0 ≤ k) (h : k ≤ 46341) : 0 ≤ k * k ∧ k * k ≤ 2147488281 := by
  have h1 : k * k ≤ 46341 * 46341 := Int.mul_le_mul h h h0 (by omega)
  exact ⟨Int.mul_nonneg h0 h0, by omega⟩

theorem sq_small (k n : Int) (h0 : 0 ≤ k) (hn : n ≤ 2147483647) (h : k * k ≤ n) : k ≤ 46340 := by
  refine Classical.byContradiction fun hc => ?_
  have h1 : 46341 * 46341 ≤ k * k := Int.mul_le_mul (by omega) (by omega) (by omega) h0
  omega

theorem Least.of_sq {n d k : Int} (h : Least n d) (hn : 1 ≤ n) (hk : k ≤ d) (hk0 : 2 ≤ k) (hs : n < k * k) : d = n := by
  obtain ⟨c, hc⟩ := h.2.1
  have h2 := h.1
  have hc1 : 1 ≤ c := by
    refine Classical.byContradiction fun h0 => ?_
    have : d * c ≤ d * 0 := Int.mul_le_mul_of_nonneg_left (by omega) (by omega)
    omega
  by_cases h1 : c = 1
  · subst h1; omega
  · exfalso
    have h3 := h.2.2 c (by omega) ⟨d, by rw [hc, Int.mul_comm]⟩
    have h4 : k * k ≤ d * c := Int.mul_le_mul hk (by omega) (by omega) (by omega)
    omega

def PrI (n : Int) : Prop := 2 ≤ n ∧ n ≤ 2147483647 ∧ M.Pr n.toNat

theorem exists_Least (n : Int) (hn : 2 ≤ n) : ∃ d, Least n d ∧ (d = n ↔ M.Pr n.toNat) := by
  obtain ⟨N, rfl⟩ := Int.eq_ofNat_of_zero_le (show 0 ≤ n by omega)
  obtain ⟨d, h1, h2, h3⟩ := M.exists_least N (by omega)
  refine ⟨d, ⟨by omega, by exact_mod_cast h2, fun k hk hkn => ?_⟩, ?_⟩
  · obtain ⟨K, rfl⟩ := Int.eq_ofNat_of_zero_le (show 0 ≤ k by omega)
    have := h3 K (by omega) (by exact_mod_cast hkn)
    omega
  · rw [Int.toNat_natCast]
    have hp := M.least_prime h1 h2 h3
    constructor
    · intro e
      have : d = N := by omega
      exact this ▸ hp
    · intro h
      rcases h.2 d h2 with e | e
      · omega
      · omega

end Go.Proofs.YtgcjdojhfimceaaGreat